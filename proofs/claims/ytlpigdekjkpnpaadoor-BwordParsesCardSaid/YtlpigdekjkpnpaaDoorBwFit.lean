/- fitted of package bword. -/
import Derived.Test.YtlpigdekjkpnpaaDoorBwNorm
namespace Go.Proofs.YtlpigdekjkpnpaaDoor
set_option linter.unusedVariables false
set_option linter.unusedSimpArgs false
open Go.RowKit
theorem ck_fit {h l : List Bool} (h0 : 0 < (nfw h l).2.length) : ck (nfw h l).1 (nfw h l).2 = fitE (nfw h l) := by
  unfold ck fitE
  rw [if_neg (by omega)]
  split <;> split <;> omega
set_option maxHeartbeats 1000000 in
theorem fitted_any (A B : Option Addr) (c d : Nat) (h l : List Bool) (w : World) (hA : Rd w w.heap.size A (bls h)) (hB : Rd w w.heap.size B (bls l))
    (hh : h.length ≤ 65536) (hl : l.length ≤ 65536) (hc : h.length ≤ c) (hd : l.length ≤ d) (h0 : 0 < l.length) :
    Calls Tryd.prog 28 #[.slice A h.length c, .slice B l.length d] w (NewWE (fit (nfw h l)) (fitE (nfw h l)) w) := by
  have HA := Lib.hid hA
  have HB := Lib.hid hB
  clear hA hB
  obtain ⟨n1, n2, n3⟩ := nfw_lens (h := h) h0
  have hck := ck_fit n2
  have sho := Lib.hid (shortest_any A B c d h l)
  obtain ⟨x, hx⟩ : ∃ x, x = (nfw h l).1 := ⟨_, rfl⟩
  obtain ⟨y, hy⟩ : ∃ y, y = (nfw h l).2 := ⟨_, rfl⟩
  rw [← hx, ← hy] at sho hck
  rw [← hx] at n1
  rw [← hy] at n2 n3
  by_cases hf : x.length + y.length ≤ 64
  · have e1 : fitE (nfw h l) = 0 := by rw [fitE, if_pos (by rw [← hx, ← hy]; exact hf)]
    have e2 : fit (nfw h l) = (x, y) := by rw [fit, if_pos (by rw [← hx, ← hy]; exact hf), hx, hy]
    rw [e1] at hck
    rw [e1, e2]
    have HCK := Lib.hid hck
    clear e1 e2 hck hx hy
    go_enter Tryd.func28, Tryd.ntmps28
    go_wp2_with (first
      | (go_at_call 29; refine (sho.out _ (HA.out.to ?_) (HB.out.to ?_) hh hl hc hd h0).mono ?_; (focus ((repeat (first | (with_reducible exact Below.refl _ _) | (with_reducible assumption) | (with_reducible exact bel_box _) | (with_reducible refine bel_step ?_ (by with_reducible assumption)) | (with_reducible refine Below.drew ?_) | (with_reducible refine below_drewN ?_ _) | (with_reducible refine bel_alloc ?_ _))); done)); (focus ((repeat (first | (with_reducible exact Below.refl _ _) | (with_reducible assumption) | (with_reducible exact bel_box _) | (with_reducible refine bel_step ?_ (by with_reducible assumption)) | (with_reducible refine Below.drew ?_) | (with_reducible refine below_drewN ?_ _) | (with_reducible refine bel_alloc ?_ _))); done)); rintro e w1 ⟨V1, V2, cv1, cv2, rfl, hR1, hR2, hv1, hv2, hb1, hn1, hn2⟩; have HR1 := Lib.hid hR1; have HR2 := Lib.hid hR2; clear hR1 hR2; obtain ⟨hc1, hf1, hz1⟩ := bcell hb1; simp at hz1; have hz1a : w.heap.size < w1.heap.size := (by omega))
      | (go_at_call 17; refine (check_any _ _ _ _ x y _ (by omega) (by omega)).mono ?_; rintro e w2 ⟨rfl, hb2⟩; rw [HCK.out]; obtain ⟨hc2, hf2, hz2⟩ := bcell hb2; simp at hz2; have hz2a : w.heap.size < w2.heap.size := (by omega); have hz2b : w1.heap.size < w2.heap.size := (by omega)))
    have hr0 : w2.cell? ⟨w.heap.size, 0, none⟩ = some (.slice none 0 0) := by simp [go_sem, *]
    have hr1 : w2.cell? ⟨w.heap.size, 1, none⟩ = some (.slice none 0 0) := by simp [go_sem, *]
    obtain ⟨k0, k1⟩ := set2_cells hr0 hr1 (.slice V1 x.length cv1) (.slice V2 y.length cv2)
    refine bodyPost_ret (v := .tuple #[.agg #[.slice V1 x.length cv1, .slice V2 y.length cv2], .int .i64 0]) (by simp [results, Tryd.results28, go_sem, k0, k1]) rfl ?_
    exact ⟨V1, V2, cv1, cv2, rfl, (HR1.out.to (by repeat (first | (with_reducible exact Below.refl _ _) | (with_reducible assumption) | (with_reducible exact bel_box _) | (with_reducible refine bel_step ?_ (by with_reducible assumption)) | (with_reducible refine Below.drew ?_) | (with_reducible refine below_drewN ?_ _) | (with_reducible refine bel_alloc ?_ _)))).set2_lo hn1 (by simp) _ _, (HR2.out.to (by repeat (first | (with_reducible exact Below.refl _ _) | (with_reducible assumption) | (with_reducible exact bel_box _) | (with_reducible refine bel_step ?_ (by with_reducible assumption)) | (with_reducible refine Below.drew ?_) | (with_reducible refine below_drewN ?_ _) | (with_reducible refine bel_alloc ?_ _)))).set2_lo hn2 (by simp) _ _, hv1, hv2, bel_set2 (by repeat (first | (with_reducible exact Below.refl _ _) | (with_reducible assumption) | (with_reducible exact bel_box _) | (with_reducible refine bel_step ?_ (by with_reducible assumption)) | (with_reducible refine Below.drew ?_) | (with_reducible refine below_drewN ?_ _) | (with_reducible refine bel_alloc ?_ _))) (Nat.le_refl _) _ _, hn1.mono (by simp), hn2.mono (by simp)⟩
  · have e1 : fitE (nfw h l) = 3 := by rw [fitE, if_neg (by rw [← hx, ← hy]; exact hf)]
    have e2 : fit (nfw h l) = ([], []) := by rw [fit, if_neg (by rw [← hx, ← hy]; exact hf)]
    rw [e1] at hck
    rw [e1, e2]
    have HCK := Lib.hid hck
    clear e1 e2 hck hx hy
    go_enter Tryd.func28, Tryd.ntmps28
    go_wp2_with (first
      | (go_at_call 29; refine (sho.out _ (HA.out.to ?_) (HB.out.to ?_) hh hl hc hd h0).mono ?_; (focus ((repeat (first | (with_reducible exact Below.refl _ _) | (with_reducible assumption) | (with_reducible exact bel_box _) | (with_reducible refine bel_step ?_ (by with_reducible assumption)) | (with_reducible refine Below.drew ?_) | (with_reducible refine below_drewN ?_ _) | (with_reducible refine bel_alloc ?_ _))); done)); (focus ((repeat (first | (with_reducible exact Below.refl _ _) | (with_reducible assumption) | (with_reducible exact bel_box _) | (with_reducible refine bel_step ?_ (by with_reducible assumption)) | (with_reducible refine Below.drew ?_) | (with_reducible refine below_drewN ?_ _) | (with_reducible refine bel_alloc ?_ _))); done)); rintro e w1 ⟨V1, V2, cv1, cv2, rfl, hR1, hR2, hv1, hv2, hb1, hn1, hn2⟩; have HR1 := Lib.hid hR1; have HR2 := Lib.hid hR2; clear hR1 hR2; obtain ⟨hc1, hf1, hz1⟩ := bcell hb1; simp at hz1; have hz1a : w.heap.size < w1.heap.size := (by omega))
      | (go_at_call 17; refine (check_any _ _ _ _ x y _ (by omega) (by omega)).mono ?_; rintro e w2 ⟨rfl, hb2⟩; rw [HCK.out]; obtain ⟨hc2, hf2, hz2⟩ := bcell hb2; simp at hz2; have hz2a : w.heap.size < w2.heap.size := (by omega); have hz2b : w1.heap.size < w2.heap.size := (by omega)))
    have hr0 : w2.cell? ⟨w.heap.size, 0, none⟩ = some (.slice none 0 0) := by simp [go_sem, *]
    have hr1 : w2.cell? ⟨w.heap.size, 1, none⟩ = some (.slice none 0 0) := by simp [go_sem, *]
    obtain ⟨k0, k1⟩ := set2_cells hr0 hr1 (.slice none 0 0) (.slice none 0 0)
    refine bodyPost_ret (v := .tuple #[.agg #[.slice none 0 0, .slice none 0 0], .int .i64 3]) (by simp [results, Tryd.results28, go_sem, k0, k1]) rfl ?_
    exact ⟨none, none, 0, 0, rfl, Rd.nil _ _ _, Rd.nil _ _ _, Nat.zero_le _, Nat.zero_le _, bel_set2 (by repeat (first | (with_reducible exact Below.refl _ _) | (with_reducible assumption) | (with_reducible exact bel_box _) | (with_reducible refine bel_step ?_ (by with_reducible assumption)) | (with_reducible refine Below.drew ?_) | (with_reducible refine below_drewN ?_ _) | (with_reducible refine bel_alloc ?_ _))) (Nat.le_refl _) _ _, Nw.nil _ _, Nw.nil _ _⟩
end Go.Proofs.YtlpigdekjkpnpaaDoor
