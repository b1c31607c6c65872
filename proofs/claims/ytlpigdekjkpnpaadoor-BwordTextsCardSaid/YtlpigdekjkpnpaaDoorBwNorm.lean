/- Norm and fitted of package bword. -/
import Derived.Test.YtlpigdekjkpnpaaDoorBwSh
namespace Go.Proofs.YtlpigdekjkpnpaaDoor
set_option linter.unusedVariables false
set_option linter.unusedSimpArgs false
open Go.RowKit
def normL (h l : List Bool) : List Bool × List Bool := if ck h l = 0 then nfw h l else ([], [])
/-- the fitting normal form with its error -/
def fit (p : List Bool × List Bool) : List Bool × List Bool := if p.1.length + p.2.length ≤ 64 then p else ([], [])
def fitE (p : List Bool × List Bool) : Int := if p.1.length + p.2.length ≤ 64 then 0 else 3
def NewWE (p : List Bool × List Bool) (er : Int) (w : World) (e : Ending) (w' : World) : Prop := ∃ A B c d, e = .returned (.tuple #[.agg #[.slice A p.1.length c, .slice B p.2.length d], .int .i64 er]) ∧ Rd w' w'.heap.size A (bls p.1) ∧ Rd w' w'.heap.size B (bls p.2) ∧ p.1.length ≤ c ∧ p.2.length ≤ d ∧ Below w.heap.size w w' ∧ Nw w.heap.size A (bls p.1) ∧ Nw w.heap.size B (bls p.2)
theorem ck_bad {h l : List Bool} (hc : ¬ ck h l = 0) : (ck h l != 0) = true := by simpa using hc
theorem nfw_lens {h l : List Bool} (h0 : 0 < l.length) : (nfw h l).1.length ≤ h.length ∧ 0 < (nfw h l).2.length ∧ (nfw h l).2.length ≤ l.length := nf_len (per_lt h l) h0
set_option maxHeartbeats 1000000 in
theorem norm_any (A B : Option Addr) (c d : Nat) (h l : List Bool) (w : World) (hA : Rd w w.heap.size A (bls h)) (hB : Rd w w.heap.size B (bls l))
    (hh : h.length ≤ 140737488355328) (hl : l.length ≤ 140737488355328) (hc : h.length ≤ c) (hd : l.length ≤ d) :
    Calls Tryd.prog 15 #[.agg #[.slice A h.length c, .slice B l.length d]] w (NewW (normL h l).1 (normL h l).2 w) := by
  have HA := Lib.hid hA
  have HB := Lib.hid hB
  clear hA hB
  have chk := Lib.hid (check_any A B c d h l)
  by_cases h1 : ck h l = 0
  · have hk := lens h1
    have hd1 : (ck h l != 0) = false := by simp [h1]
    rw [normL, if_pos h1]
    clear h1
    have sho := Lib.hid (shortest_any A B c d h l)
    go_enter Tryd.func15, Tryd.ntmps15
    go_wp2_with (first
      | ((go_at_call 17; refine (chk.out _ hh hl).mono ?_; rintro e w1 ⟨rfl, hb1⟩; obtain ⟨hc1, hf1, hz1⟩ := bcell hb1; try simp at hz1); have hz1a : w.heap.size < w1.heap.size := (by omega); have hz1b : w.heap.size + 1 < w1.heap.size := (by omega))
      | (go_at_call 29; refine (sho.out _ (HA.out.to ?_) (HB.out.to ?_) (by omega) (by omega) hc hd hk.1).mono ?_; (focus ((repeat (first | (with_reducible exact Below.refl _ _) | (with_reducible assumption) | (with_reducible exact bel_box _) | (with_reducible refine bel_step ?_ (by with_reducible assumption)) | (with_reducible refine Below.drew ?_) | (with_reducible refine below_drewN ?_ _) | (with_reducible refine bel_alloc ?_ _))); done)); (focus ((repeat (first | (with_reducible exact Below.refl _ _) | (with_reducible assumption) | (with_reducible exact bel_box _) | (with_reducible refine bel_step ?_ (by with_reducible assumption)) | (with_reducible refine Below.drew ?_) | (with_reducible refine below_drewN ?_ _) | (with_reducible refine bel_alloc ?_ _))); done)); rintro e w2 ⟨V1, V2, cv1, cv2, rfl, hR1, hR2, hv1, hv2, hb2, hn1, hn2⟩; have HR1 := Lib.hid hR1; have HR2 := Lib.hid hR2; clear hR1 hR2; obtain ⟨hc2, hf2, hz2⟩ := bcell hb2))
    have hr0 : w2.cell? ⟨w.heap.size + 1, 0, none⟩ = some (.slice none 0 0) := by simp [go_sem, *]
    have hr1 : w2.cell? ⟨w.heap.size + 1, 1, none⟩ = some (.slice none 0 0) := by simp [go_sem, *]
    obtain ⟨k0, k1⟩ := set2_cells hr0 hr1 (.slice V1 (nfw h l).1.length cv1) (.slice V2 (nfw h l).2.length cv2)
    refine bodyPost_ret (v := .agg #[.slice V1 (nfw h l).1.length cv1, .slice V2 (nfw h l).2.length cv2]) (by simp [results, Tryd.results15, go_sem, k0, k1]) rfl ?_
    exact ⟨V1, V2, cv1, cv2, rfl, HR1.out.set2_lo hn1 hz1b _ _, HR2.out.set2_lo hn2 hz1b _ _, hv1, hv2, bel_set2 (by repeat (first | (with_reducible exact Below.refl _ _) | (with_reducible assumption) | (with_reducible exact bel_box _) | (with_reducible refine bel_step ?_ (by with_reducible assumption)) | (with_reducible refine Below.drew ?_) | (with_reducible refine below_drewN ?_ _) | (with_reducible refine bel_alloc ?_ _))) (by omega) _ _, hn1.mono (by omega), hn2.mono (by omega)⟩
  · have hd1 := ck_bad h1
    rw [normL, if_neg h1]
    clear h1
    go_enter Tryd.func15, Tryd.ntmps15
    go_wp2_with (first
      | ((go_at_call 17; refine (chk.out _ hh hl).mono ?_; rintro e w1 ⟨rfl, hb1⟩; obtain ⟨hc1, hf1, hz1⟩ := bcell hb1; try simp at hz1); have hz1a : w.heap.size < w1.heap.size := (by omega); have hz1b : w.heap.size + 1 < w1.heap.size := (by omega)))
    have hr0 : w1.cell? ⟨w.heap.size + 1, 0, none⟩ = some (.slice none 0 0) := by simp [go_sem, *]
    have hr1 : w1.cell? ⟨w.heap.size + 1, 1, none⟩ = some (.slice none 0 0) := by simp [go_sem, *]
    obtain ⟨k0, k1⟩ := set2_cells hr0 hr1 (.slice none 0 0) (.slice none 0 0)
    refine bodyPost_ret (v := .agg #[.slice none 0 0, .slice none 0 0]) (by simp [results, Tryd.results15, go_sem, k0, k1]) rfl ?_
    exact ⟨none, none, 0, 0, rfl, Rd.nil _ _ _, Rd.nil _ _ _, Nat.zero_le _, Nat.zero_le _, bel_set2 (by repeat (first | (with_reducible exact Below.refl _ _) | (with_reducible assumption) | (with_reducible exact bel_box _) | (with_reducible refine bel_step ?_ (by with_reducible assumption)) | (with_reducible refine Below.drew ?_) | (with_reducible refine below_drewN ?_ _) | (with_reducible refine bel_alloc ?_ _))) (by omega) _ _, Nw.nil _ _, Nw.nil _ _⟩
end Go.Proofs.YtlpigdekjkpnpaaDoor
