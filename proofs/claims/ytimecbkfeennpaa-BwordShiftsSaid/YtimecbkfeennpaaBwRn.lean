/- Norm of the reference. -/
import Derived.Test.YtimecbkfeennpaaBwRsh
namespace Go.Proofs.Ytimecbkfeennpaa
set_option linter.unusedVariables false
set_option linter.unusedSimpArgs false
open Go.RowKit
theorem and6 {a b c d e f : Prop} (h : a ∧ b) (k : c ∧ d ∧ e ∧ f) : a ∧ b ∧ c ∧ d ∧ e ∧ f := ⟨h.1, h.2, k⟩
theorem rsh_n (A : Option Addr) (c H P N : Nat) (h l : List Bool) (w : World) (hA : Rd w w.heap.size A (bls (fL (lt h l) N))) (eH : h.length = H) (eP : l.length = P) (hN : N = H + 2 * P) (hl : N ≤ 1048576) (hc : N ≤ c) (h0 : 0 < P) :
    Calls Try.prog 40 #[.slice A N c, .int .i64 H, .int .i64 P] w (NewW (nfw h l).1 (nfw h l).2 w) := by
  have k := rshortest_any A c H P N (lt h l) w hA hN hl hc h0 (by rw [← eH, ← eP]; exact per_lt h l)
  rw [← eH, ← eP] at k
  rw [eH, eP] at k
  rw [show nfw h l = nf (lt h l) H P by rw [nfw, eH, eP]]
  exact k
theorem rlet_n (A B : Option Addr) (c d n : Nat) (h l : List Bool) (w : World) (hA : Rd w w.heap.size A (bls h)) (hB : Rd w w.heap.size B (bls l)) (h0 : 0 < l.length)
    (hh : h.length ≤ 140737488355328) (hl : l.length ≤ 140737488355328) (hn : n ≤ 70368744177664) :
    Calls Try.prog 41 #[.agg #[.slice A h.length c, .slice B l.length d], .int .i64 n] w (fun e w' => ∃ V cv, e = .returned (.slice V n cv) ∧ Hid (Rd w' w'.heap.size V (bls (fL (lt h l) n))) ∧ n ≤ cv ∧ Below w.heap.size w w') := by
  refine (rletters_any A B c d n h l w hA hB h0 hh hl hn).mono ?_
  rintro e w' ⟨V, cv, rfl, hown, hb⟩
  rw [fL_length] at hown ⊢
  exact ⟨V, cv, rfl, Rd.of_own hown, own_cap hown, hb⟩
set_option maxHeartbeats 1000000 in
theorem rnorm_any (A B : Option Addr) (c d : Nat) (h l : List Bool) (w : World) (hA : Rd w w.heap.size A (bls h)) (hB : Rd w w.heap.size B (bls l))
    (hh : h.length ≤ 140737488355328) (hl : l.length ≤ 140737488355328) (hc : h.length ≤ c) (hd : l.length ≤ d) :
    Calls Try.prog 20 #[.agg #[.slice A h.length c, .slice B l.length d]] w (NewW (normL h l).1 (normL h l).2 w) := by
  have HA := Lib.hid hA
  have HB := Lib.hid hB
  clear hA hB
  have chk := Lib.hid (rcheck_any A B c d h l)
  by_cases h1 : ck h l = 0
  · have hk := lens h1
    have hd1 : (ck h l != 0) = false := by simp [h1]
    rw [normL, if_pos h1]
    clear h1
    obtain ⟨m, hm⟩ : ∃ m, m = 2 * l.length := ⟨_, rfl⟩
    obtain ⟨N, hN⟩ : ∃ N, N = h.length + 2 * l.length := ⟨_, rfl⟩
    have e1 : IntKind.i64.wrap (m : Int) = (m : Int) := IntWalk.i64_in _ (by omega)
    have e2 : IntKind.i64.wrap (N : Int) = (N : Int) := IntWalk.i64_in _ (by omega)
    have e3 : (2 * (l.length : Int)) = (m : Int) := by omega
    have e4 : ((h.length : Int) + (m : Int)) = (N : Int) := by omega
    have hNb : N ≤ 1048576 := by omega
    have HN := Lib.hid hN
    clear hm hN
    have lets := Lib.hid (rlet_n A B c d N h l)
    have sho := Lib.hid (fun V cv w hA hN hl hc h0 => rsh_n V cv h.length l.length N h l w hA rfl rfl hN hl hc h0)
    go_enter Try.func20, Try.ntmps20
    go_wp2_with (first
      | ((go_at_call 13; refine (chk.out _ hh hl).mono ?_; rintro e w1 ⟨rfl, hb1⟩; obtain ⟨hc1, hf1, hz1⟩ := bcell hb1; try simp at hz1); have hz1a : w.heap.size < w1.heap.size := (by omega); have hz1b : w.heap.size + 1 < w1.heap.size := (by omega)))
    have hr0 : w1.cell? ⟨w.heap.size + 1, 0, none⟩ = some (.slice none 0 0) := by simp [go_sem, *]
    have hr1 : w1.cell? ⟨w.heap.size + 1, 1, none⟩ = some (.slice none 0 0) := by simp [go_sem, *]
    have hr3 : w1.frozen? ⟨w.heap.size + 1, 0, none⟩ = false := by simp [go_sem, *]
    have hr4 : w1.frozen? ⟨w.heap.size + 1, 1, none⟩ = false := by simp [go_sem, *]
    have hres := res4_of hr0 hr1 hr3 hr4
    have hbx : Below (w.alloc (.cells #[.slice A h.length c, .slice B l.length d] 24)).heap.size (w.alloc (.cells #[.slice A h.length c, .slice B l.length d] 24)) w1 := bel_step (bel_box _) hb1
    have hbl : Below w.heap.size w w1 := (by repeat (first | (with_reducible exact Below.refl _ _) | (with_reducible assumption) | (with_reducible exact bel_box _) | (with_reducible refine bel_step ?_ (by with_reducible assumption)) | (with_reducible refine Below.drew ?_) | (with_reducible refine below_drewN ?_ _) | (with_reducible refine bel_alloc ?_ _)))
    obtain ⟨s1, s2⟩ := box2 hbx
    clear hr0 hr1 hr3 hr4 hc1 hf1 hz1 hb1
    go_region_held3 (fun w' => w'.cell? ⟨w.heap.size, 0, none⟩ = some (.slice A h.length c) ∧ w'.cell? ⟨w.heap.size, 1, none⟩ = some (.slice B l.length d) ∧ w'.cell? ⟨w.heap.size + 1, 0, none⟩ = some (rc w' (w.heap.size + 1) 0) ∧ w'.cell? ⟨w.heap.size + 1, 1, none⟩ = some (rc w' (w.heap.size + 1) 1) ∧ w'.frozen? ⟨w.heap.size + 1, 0, none⟩ = false ∧ w'.frozen? ⟨w.heap.size + 1, 1, none⟩ = false)
      (first
        | (refine and6 (box2 (t := 24) ?_) (res4_below hres ?_); (focus ((repeat (first | (with_reducible exact Below.refl _ _) | (with_reducible assumption) | (with_reducible exact bel_box _) | (with_reducible refine bel_step ?_ (by with_reducible assumption)) | (with_reducible refine Below.drew ?_) | (with_reducible refine below_drewN ?_ _) | (with_reducible refine bel_alloc ?_ _))); done)); (focus ((repeat (first | (with_reducible exact Below.refl _ _) | (with_reducible assumption) | (with_reducible exact bel_box _) | (with_reducible refine bel_step ?_ (by with_reducible assumption)) | (with_reducible refine Below.drew ?_) | (with_reducible refine below_drewN ?_ _) | (with_reducible refine bel_alloc ?_ _))); done)))
        | (refine and6 (box2 (t := 24) ((Below.setCell (Below.setCell ?_ ?_ _) ?_ _))) (res4_set (res4_below hres ?_) _ _); (focus ((repeat (first | (with_reducible exact Below.refl _ _) | (with_reducible assumption) | (with_reducible exact bel_box _) | (with_reducible refine bel_step ?_ (by with_reducible assumption)) | (with_reducible refine Below.drew ?_) | (with_reducible refine below_drewN ?_ _) | (with_reducible refine bel_alloc ?_ _))); done)); (focus (simp; done)); (focus (simp; done)); (focus ((repeat (first | (with_reducible exact Below.refl _ _) | (with_reducible assumption) | (with_reducible exact bel_box _) | (with_reducible refine bel_step ?_ (by with_reducible assumption)) | (with_reducible refine Below.drew ?_) | (with_reducible refine below_drewN ?_ _) | (with_reducible refine bel_alloc ?_ _))); done))))
      (first
        | (go_at_call 41; refine (lets.out _ (HA.out.to ?_) (HB.out.to ?_) hk.1 hh hl (by omega)).mono ?_; (focus ((repeat (first | (with_reducible exact Below.refl _ _) | (with_reducible assumption) | (with_reducible exact bel_box _) | (with_reducible refine bel_step ?_ (by with_reducible assumption)) | (with_reducible refine Below.drew ?_) | (with_reducible refine below_drewN ?_ _) | (with_reducible refine bel_alloc ?_ _))); done)); (focus ((repeat (first | (with_reducible exact Below.refl _ _) | (with_reducible assumption) | (with_reducible exact bel_box _) | (with_reducible refine bel_step ?_ (by with_reducible assumption)) | (with_reducible refine Below.drew ?_) | (with_reducible refine below_drewN ?_ _) | (with_reducible refine bel_alloc ?_ _))); done)); rintro e w2 ⟨V, cv, rfl, HV, hcv, hb2⟩)
        | (go_at_call 40; refine (sho.out _ _ _ HV.out HN.out hNb hcv hk.1).mono ?_; rintro e w3 ⟨V1, V2, cv1, cv2, rfl, hR1, hR2, hv1, hv2, hb3, hn1, hn2⟩; have HR1 := Lib.hid hR1; have HR2 := Lib.hid hR2; clear hR1 hR2))
    go_wp2
    have hw3 := res4_below (W' := w3) hres (by repeat (first | (with_reducible exact Below.refl _ _) | (with_reducible assumption) | (with_reducible exact bel_box _) | (with_reducible refine bel_step ?_ (by with_reducible assumption)) | (with_reducible refine Below.drew ?_) | (with_reducible refine below_drewN ?_ _) | (with_reducible refine bel_alloc ?_ _)))
    obtain ⟨k0, k1⟩ := set2_cells hw3.1 hw3.2.1 (.slice V1 (nfw h l).1.length cv1) (.slice V2 (nfw h l).2.length cv2)
    refine bodyPost_ret (v := .agg #[.slice V1 (nfw h l).1.length cv1, .slice V2 (nfw h l).2.length cv2]) (by simp [results, Try.results20, go_sem, k0, k1]) rfl ?_
    have hz2 : w1.heap.size ≤ w2.heap.size := hb2.size
    exact ⟨V1, V2, cv1, cv2, rfl, HR1.out.set2_lo hn1 (by omega) _ _, HR2.out.set2_lo hn2 (by omega) _ _, hv1, hv2, bel_set2 (by repeat (first | (with_reducible exact Below.refl _ _) | (with_reducible assumption) | (with_reducible exact bel_box _) | (with_reducible refine bel_step ?_ (by with_reducible assumption)) | (with_reducible refine Below.drew ?_) | (with_reducible refine below_drewN ?_ _) | (with_reducible refine bel_alloc ?_ _))) (by omega) _ _, hn1.mono (by omega), hn2.mono (by omega)⟩
  · have hd1 := ck_bad h1
    rw [normL, if_neg h1]
    clear h1
    go_enter Try.func20, Try.ntmps20
    go_wp2_with (first
      | ((go_at_call 13; refine (chk.out _ hh hl).mono ?_; rintro e w1 ⟨rfl, hb1⟩; obtain ⟨hc1, hf1, hz1⟩ := bcell hb1; try simp at hz1); have hz1a : w.heap.size < w1.heap.size := (by omega); have hz1b : w.heap.size + 1 < w1.heap.size := (by omega)))
    have hr0 : w1.cell? ⟨w.heap.size + 1, 0, none⟩ = some (.slice none 0 0) := by simp [go_sem, *]
    have hr1 : w1.cell? ⟨w.heap.size + 1, 1, none⟩ = some (.slice none 0 0) := by simp [go_sem, *]
    obtain ⟨k0, k1⟩ := set2_cells hr0 hr1 (.slice none 0 0) (.slice none 0 0)
    refine bodyPost_ret (v := .agg #[.slice none 0 0, .slice none 0 0]) (by simp [results, Try.results20, go_sem, k0, k1]) rfl ?_
    exact ⟨none, none, 0, 0, rfl, Rd.nil _ _ _, Rd.nil _ _ _, Nat.zero_le _, Nat.zero_le _, bel_set2 (by repeat (first | (with_reducible exact Below.refl _ _) | (with_reducible assumption) | (with_reducible exact bel_box _) | (with_reducible refine bel_step ?_ (by with_reducible assumption)) | (with_reducible refine Below.drew ?_) | (with_reducible refine below_drewN ?_ _) | (with_reducible refine bel_alloc ?_ _))) (by omega) _ _, Nw.nil _ _, Nw.nil _ _⟩
end Go.Proofs.Ytimecbkfeennpaa
