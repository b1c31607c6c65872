/- The law WordBits returns true for every list of bits and every number; the old blocks are left alone. -/
import Derived.Test.YthnpgigcnmogiaaLaws
import Derived.Test.YthnpgigcnmogiaaBitMath
import Derived.Deep.RegionHeld3
namespace Go.Proofs.Ythnpgigcnmogiaa
set_option linter.unusedVariables false
set_option linter.unusedSimpArgs false
open Go.RowKit
set_option maxHeartbeats 1000000 in
theorem bitslaw_any (A : Option Addr) (c : Nat) (l : List Bool) (n : Int) (w : World) (hA : Rd w w.heap.size A (bls l)) (hl : l.length ≤ 9223372036854775807) :
    Calls Try.prog 5 #[.slice A l.length c, .int .i64 n] w (Tru w) := by
  have HA := Lib.hid hA
  clear hA
  have hob : ofL (bitL n) = w16 n := ofL_bitL n
  have hlb : (bitL n).length = 16 := bitL_length n
  have HOB := Lib.hid hob
  have HLB := Lib.hid hlb
  clear hob hlb
  obtain ⟨t, ht⟩ : ∃ t, ((l.length : Int) != 16) = t := ⟨_, rfl⟩
  cases t
  · have h16 : l.length = 16 := by
      have h : (l.length : Int) = 16 := by simpa using ht
      omega
    have hbo : bitL (ofL l) = l := bitL_ofL l h16
    have HBO := Lib.hid hbo
    clear h16 hbo
    go_enter Try.func5, Try.ntmps5
    go_wp2_with (first
      | (go_at_call_of 29 (Value.slice A l.length c); refine (of_n _ _ _ _ _ _ rfl HA.out hl).mono ?_; rintro e w' ⟨rfl, rfl⟩)
      | (go_at_call 30; refine (refof_n _ _ _ _ _ _ rfl HA.out hl).mono ?_; rintro e w' ⟨rfl, rfl⟩)
      | (go_at_call_of 16 (Value.int IntKind.i64 n); refine (bits_new _ _).mono ?_; rintro e w1 ⟨A1, c1, rfl, hR1, hB1⟩; have HR1 := Lib.hid hR1; have HB1 := Lib.hid hB1; clear hR1 hB1; rw [HLB.out])
      | (go_at_call 29; refine (of_n _ 16 _ _ (bitL n) _ HLB.out HR1.out (by omega)).mono ?_; rintro e w' ⟨rfl, rfl⟩; rw [HOB.out])
      | (go_at_call 11; refine (wrap_any _ _).mono ?_; rintro e w' ⟨rfl, rfl⟩)
      | (go_at_call 16; refine (bits_new _ _).mono ?_; rintro e w2 ⟨A2, c2, rfl, hR2, hB2⟩; have HR2 := Lib.hid hR2; have HB2 := Lib.hid hB2; clear hR2 hB2; rw [HBO.out])
      | (go_at_call 15; refine (same_n _ _ _ _ _ _ w2.heap.size _ _ _ rfl rfl (by have h := HR2.out; rw [HBO.out] at h; exact h) (((HA.out.below HB1.out).below (HB2.out.mono HB1.out.size)).more (Nat.le_trans HB1.out.size HB2.out.size)) hl).mono ?_; rintro e w' ⟨rfl, j, rfl⟩; rw [decide_eq_true rfl])
      | (go_at_call 18; refine (awake_any _).mono ?_; rintro e w3 ⟨rfl, hb3⟩))
    go_ret
    have h12 := HB1.out.trans (HB2.out.mono HB1.out.size)
    exact ⟨rfl, (below_drewN h12 j).trans (hb3.mono h12.size)⟩
  · go_enter Try.func5, Try.ntmps5
    go_wp2_with (first
      | (go_at_call_of 29 (Value.slice A l.length c); refine (of_n _ _ _ _ _ _ rfl HA.out hl).mono ?_; rintro e w' ⟨rfl, rfl⟩)
      | (go_at_call 30; refine (refof_n _ _ _ _ _ _ rfl HA.out hl).mono ?_; rintro e w' ⟨rfl, rfl⟩)
      | (go_at_call_of 16 (Value.int IntKind.i64 n); refine (bits_new _ _).mono ?_; rintro e w1 ⟨A1, c1, rfl, hR1, hB1⟩; have HR1 := Lib.hid hR1; have HB1 := Lib.hid hB1; clear hR1 hB1; rw [HLB.out])
      | (go_at_call 29; refine (of_n _ 16 _ _ (bitL n) _ HLB.out HR1.out (by omega)).mono ?_; rintro e w' ⟨rfl, rfl⟩; rw [HOB.out])
      | (go_at_call 11; refine (wrap_any _ _).mono ?_; rintro e w' ⟨rfl, rfl⟩)
      | (go_at_call 18; refine (awake_any _).mono ?_; rintro e w3 ⟨rfl, hb3⟩))
    go_ret
    exact ⟨rfl, HB1.out.trans (hb3.mono HB1.out.size)⟩
end Go.Proofs.Ythnpgigcnmogiaa
