/- Shift of the reference, where there are ones, at most 128 zeros. -/
import Derived.Test.YtimecbkfeennpaaBwRs2
namespace Go.Proofs.Ytimecbkfeennpaa
set_option linter.unusedVariables false
set_option linter.unusedSimpArgs false
open Go.RowKit
theorem one_new' (w : World) (b : Bool) (t : TypeId) : Rd (w.alloc (.cells #[.bool b] t)) (w.alloc (.cells #[.bool b] t)).heap.size (some ⟨w.heap.size, 0, none⟩) (bls [b]) := by
  have h := Rd.one_new w b t
  rw [← size_alloc1 w (.cells #[.bool b] t)] at h
  exact h
set_option maxHeartbeats 4000000 in
theorem rshift_zero (A B : Option Addr) (c d k : Nat) (h l : List Bool) (w : World) (hA : Rd w w.heap.size A (bls h)) (hB : Rd w w.heap.size B (bls l)) (hh : h.length ≤ 140737488355328) (hl : l.length ≤ 140737488355328) (hc : h.length ≤ c) (hd : l.length ≤ d) (hck : ck h l = 0) (hk63 : k ≤ 9223372036854775807) (hz0 : cnt h = 0) (hz : cnt l = 0) :
    Calls Try.prog 32 #[.agg #[.slice A h.length c, .slice B l.length d], .int .i64 (k : Nat)] w (NewWE ([], [false]) 0 w) := by
  obtain ⟨i0, hi, iz, is, ib⟩ := info_parts Try.boolInfo
  have HA := Lib.hid hA
  have HB := Lib.hid hB
  have hk := lens hck
  have chk := rcheck_any A B c d h l
  rw [hck] at chk
  have chk := Lib.hid chk
  clear hA hB hck
  have hcl1 := cnt_le l
  have hch1 := cnt_le h
  obtain ⟨kl, hkl⟩ : ∃ k, cnt l = k := ⟨_, rfl⟩
  obtain ⟨kh, hkh⟩ : ∃ k, cnt h = k := ⟨_, rfl⟩
  have kcl : Hid (∀ W, Rd W W.heap.size B (bls l) → Calls Try.prog 37 #[.slice B l.length d] W fun e w' => e = .returned (.int .i64 (kl : Nat)) ∧ W = w') := fun W hr => by rw [← hkl]; exact rcount_any B d l W hr hl
  have kch : Hid (∀ W, Rd W W.heap.size A (bls h) → Calls Try.prog 37 #[.slice A h.length c] W fun e w' => e = .returned (.int .i64 (kh : Nat)) ∧ W = w') := fun W hr => by rw [← hkh]; exact rcount_any A c h W hr hh
  rw [hkh] at hz0 hch1
  rw [hkl] at hz hcl1
  have hz1 : ((kh : Int) == 0) = true := by simpa using hz0
  have hz2 : ((kl : Int) == 0) = true := by simpa using hz
  have hn1 : ¬ (k : Int) < 0 := by omega
  have hn2 : (0 : Int) ≤ (k : Int) := by omega
  clear hkl hkh hz hz0
  go_enter Try.func32, Try.ntmps32
  go_wp2_with (first | (go_at_call 13; refine (chk.out _ hh hl).mono ?_; rintro e w1 ⟨rfl, hb1⟩; obtain ⟨s1, s2⟩ := box2 (w := w) (x := .slice A h.length c) (y := .slice B l.length d) (t := 24) (W := w1) (by repeat (first | (with_reducible exact Below.refl _ _) | (with_reducible assumption) | (with_reducible exact bel_box _) | (with_reducible refine bel_step ?_ (by with_reducible assumption)) | (with_reducible refine Below.drew ?_) | (with_reducible refine below_drewN ?_ _) | (with_reducible refine bel_alloc ?_ _))); obtain ⟨hr0, hr1, hr3, hr4⟩ := box2f (w := w.alloc (.cells #[.slice A h.length c, .slice B l.length d] 24)) (x := .slice none 0 0) (y := .slice none 0 0) (t := 24) (W := w1) (g := w.heap.size + 1) (by simp) (by repeat (first | (with_reducible exact Below.refl _ _) | (with_reducible assumption) | (with_reducible exact bel_box _) | (with_reducible refine bel_step ?_ (by with_reducible assumption)) | (with_reducible refine Below.drew ?_) | (with_reducible refine below_drewN ?_ _) | (with_reducible refine bel_alloc ?_ _))); have z1 : w.heap.size + 1 < w1.heap.size := (by have := hb1.size; simp at this; omega)) | (go_at_call_of 37 (Value.slice B l.length d); (with_reducible refine (kcl.out _ (hto HB ?_)).mono ?_); (focus ((repeat (first | (with_reducible exact Below.refl _ _) | (with_reducible assumption) | (with_reducible exact bel_box _) | (with_reducible refine bel_step ?_ (by with_reducible assumption)) | (with_reducible refine Below.drew ?_) | (with_reducible refine below_drewN ?_ _) | (with_reducible refine bel_alloc ?_ _))); done)); rintro e w2 ⟨rfl, rfl⟩) | (go_at_call 37; (with_reducible refine (kch.out _ (hto HA ?_)).mono ?_); (focus ((repeat (first | (with_reducible exact Below.refl _ _) | (with_reducible assumption) | (with_reducible exact bel_box _) | (with_reducible refine bel_step ?_ (by with_reducible assumption)) | (with_reducible refine Below.drew ?_) | (with_reducible refine below_drewN ?_ _) | (with_reducible refine bel_alloc ?_ _))); done)); rintro e w2 ⟨rfl, rfl⟩))
  obtain ⟨a0, a1⟩ := set2_cells hr0 hr1 (.slice none 0 0) (.slice (some ⟨w1.heap.size, 0, none⟩) 1 1)
  have hs : ((w1.setCell ⟨w.heap.size + 1, 0, none⟩ (.slice none 0 0)).setCell ⟨w.heap.size + 1, 1, none⟩ (.slice (some ⟨w1.heap.size, 0, none⟩) 1 1)).heap.size = w1.heap.size := by simp [World.setCell]
  have k0 := (World.cell?_alloc_lt _ (.cells #[.bool false] 4) ⟨w.heap.size + 1, 0, none⟩ (by rw [hs]; exact z1)).trans a0
  have k1 := (World.cell?_alloc_lt _ (.cells #[.bool false] 4) ⟨w.heap.size + 1, 1, none⟩ (by rw [hs]; exact z1)).trans a1
  have hR := one_new' ((w1.setCell ⟨w.heap.size + 1, 0, none⟩ (.slice none 0 0)).setCell ⟨w.heap.size + 1, 1, none⟩ (.slice (some ⟨w1.heap.size, 0, none⟩) 1 1)) false 4
  rw [hs] at hR
  refine bodyPost_ret (v := .tuple #[.agg #[.slice none 0 0, .slice (some ⟨w1.heap.size, 0, none⟩) 1 1], .int .i64 0]) (by simp [results, Try.results32, go_sem, k0, k1]) rfl ?_
  have hnw : Nw w1.heap.size (some ⟨w1.heap.size, 0, none⟩) (bls [false]) := fun ad e _ => by injection e with e; subst e; exact Nat.le_refl _
  exact ⟨none, some ⟨w1.heap.size, 0, none⟩, 0, 1, rfl, Rd.nil _ _ _, hR, Nat.zero_le _, Nat.le_refl _, bel_alloc (bel_set2 (by repeat (first | (with_reducible exact Below.refl _ _) | (with_reducible assumption) | (with_reducible exact bel_box _) | (with_reducible refine bel_step ?_ (by with_reducible assumption)) | (with_reducible refine Below.drew ?_) | (with_reducible refine below_drewN ?_ _) | (with_reducible refine bel_alloc ?_ _))) (by omega) _ _) _, Nw.nil _ _, hnw.mono (by omega)⟩
end Go.Proofs.Ytimecbkfeennpaa
