/- The law WordTurns returns true for every number; the old blocks are left alone. -/
import Derived.Test.YthnpgigcnmogiaaLaws
import Derived.Test.YthnpgigcnmogiaaBitMath
import Derived.Deep.RegionHeld3
namespace Go.Proofs.Ythnpgigcnmogiaa
set_option linter.unusedVariables false
set_option linter.unusedSimpArgs false
open Go.RowKit
theorem ofN_not (l : List Bool) (k : Nat) (hk : k ≤ l.length) : ofN (l.map (!·)) k + ofN l k + 1 = 2 ^ k := by
  induction k with
  | zero => simp [ofN]
  | succ k ih =>
    have h := ih (by omega)
    have e : l[k]? = some l[k] := List.getElem?_eq_getElem (by omega)
    have e2 : (l.map (!·))[k]? = some (!l[k]) := by simp [e]
    simp only [ofN, e, e2, Nat.pow_succ]
    cases l[k] <;> simp <;> omega
theorem turn_math (n : Int) : w16 (ofL ((bitL n).map (!·)) + 1) = w16 (-n) := by
  have h := ofN_not (bitL n) 16 (by rw [bitL_length]; decide)
  have h2 := ofN_bitL n 16 (by decide)
  have e : ofL ((bitL n).map (!·)) = w16 (ofN ((bitL n).map (!·)) 16 : Nat) := by rw [ofL, List.length_map, bitL_length, show min 16 16 = 16 by decide]
  rw [e]
  generalize ofN ((bitL n).map (!·)) 16 = x at *
  generalize ofN (bitL n) 16 = y at *
  have e3 : (x : Int) = 65535 - n % 65536 := by omega
  rw [e3]
  unfold w16
  omega
theorem bitB_sign (n : Int) : bitB n 15 = decide (w16 n < 0) := by
  unfold bitB w16
  rw [show (2 : Int) ^ 15 = 32768 by decide]
  rw [Bool.eq_iff_iff]
  simp
  omega
set_option maxHeartbeats 1000000 in
set_option maxRecDepth 100000 in
theorem turns_any (n : Int) (w : World) : Calls Try.prog 8 #[.int .i64 n] w (Tru w) := by
  obtain ⟨i0, hi, hz0, hz1, hz2⟩ := info_parts Try.boolInfo
  have hlb : (bitL n).length = 16 := bitL_length n
  have HLB := Lib.hid hlb
  clear hlb
  go_enter Try.func8, Try.ntmps8
  go_wp2_with (go_at_call 16; refine (bits_new _ _).mono ?_; rintro e w1 ⟨A1, c1, rfl, hR1, hB1⟩; have HR1 := Lib.hid hR1; have HB1 := Lib.hid hB1; clear hR1 hB1; rw [HLB.out])
  go_loopw [4, 5] (fun v i wr => ∃ k : Nat, k ≤ 16 ∧ i = .int .i64 k ∧ wr.ownsRow w1.heap.size 4 1 v k (bls (((bitL n).take k).map (!·))) ∧ Below w1.heap.size w1 wr) (fun _ i _ => 16 - (intOf i).toNat)
  case atStart => exact ⟨0, Nat.zero_le _, rfl, by simpa [bls] using World.ownsRow_nil _ _ _ _, Below.refl _ _⟩
  case round =>
    obtain ⟨k, hk, rfl, hown, hbl⟩ := hrel
    by_cases hlt : k < 16
    · obtain ⟨ad, b, rfl, _, hx, hc⟩ := (HR1.out.below hbl).bool_at (k := k) (by rw [HLB.out]; exact hlt)
      have HX := Lib.hid hx
      clear hx
      have hsz := hbl.size
      go_wp2_with (at_builtin; refine wpList_append_own _ rfl _ _ 25 rfl w1.heap.size 4 i0 (.bool false) 1 1 Try.underlying25 hi hz0 hz1 hz2 rfl (by decide) _ _ _ rfl (hown.alloc _) ⟨wr.heap.size, 0, none⟩ 1 1 [.bool (!b)] rfl rfl (cell_one_new _ _ _) (one_cell_bool _) (by unfold maxLen; omega) (by omega) (by simp; omega) ?_; intro v1 w2 hown1 hgrow1 _)
      have hb1 := own_below hbl hsz hown hgrow1
      go_roundw
      case rel => exact ⟨k + 1, by omega, by go_num, by rw [take_succ_of HX.out]; simpa [bls] using hown1, hb1⟩
      case measure => simp [intOf]; omega
    · obtain rfl : k = 16 := by omega
      obtain ⟨A2, c2, rfl⟩ := own_form hown
      have ht : (bitL n).take 16 = bitL n := by rw [← HLB.out, List.take_length]
      have hR2 := Rd.of_own hown
      rw [ht] at hR2
      obtain ⟨ad, b, rfl, hblk, hx, hc⟩ := (HR1.out.below hbl).bool_at (k := 15) (by rw [HLB.out]; decide)
      have hb15 : b = decide (w16 n < 0) := by
        rw [← bitB_sign]
        have : (bitL n)[15]? = some (bitB n 15) := by simp [bitL]
        rw [this] at hx
        exact (Option.some.inj hx).symm
      have hsm : decide (bitL (w16 (-n)) = bitL (w16 (ofL ((bitL n).map (!·)) + 1))) = true := by rw [turn_math]; simp
      subst hb15
      have HS := Lib.hid hsm
      have HR2 := Lib.hid hR2
      have HBL := Lib.hid hbl
      clear hsm hR2 hbl hown hx ht
      have hnl : ((bitL n).map (!·)).length = 16 := by rw [List.length_map]; exact HLB.out
      have HNL := Lib.hid hnl
      clear hnl
      go_wp2
      have hz1 := HBL.out.size
      have hblk2 : ad.block < wr.heap.size := by omega
      have hc2 : wr.cell? ⟨ad.block, ad.off + 15, none⟩ = some (.bool (decide (w16 n < 0))) := by simpa [Addr.add] using hc
      clear hc
      go_region_held3 (fun w' => w'.cell? ⟨ad.block, ad.off + 15, none⟩ = some (.bool (decide (w16 n < 0))))
        (first
          | go_keep
          | (exact (HB5.out.cell (p := ⟨ad.block, ad.off + 15, none⟩) (by have := HB3.out.size; have := HB4.out.size; simp at *; omega)).trans (by assumption))
          | (exact (HB4.out.cell (p := ⟨ad.block, ad.off + 15, none⟩) (by have := HB3.out.size; simp at *; omega)).trans (by assumption))
          | (exact (HB3.out.cell (p := ⟨ad.block, ad.off + 15, none⟩) hblk2).trans (by assumption)))
        (first
          | (go_at_call 13; refine (neg_any _ _).mono ?_; rintro e w' ⟨rfl, rfl⟩)
          | (go_at_call_of 16 (Value.int IntKind.i64 (w16 (-n))); refine (bits_new _ _).mono ?_; rintro e w2 ⟨A3, c3, rfl, hR3, hB3⟩; have HR3 := Lib.hid hR3; have HB3 := Lib.hid hB3; clear hR3 hB3; rw [bitL_length])
          | (go_at_call 19; refine (add_any _ _ _).mono ?_; rintro e w' ⟨rfl, rfl⟩)
          | (go_at_call 16; refine (bits_new _ _).mono ?_; rintro e w3 ⟨A4, c4, rfl, hR4, hB4⟩; have HR4 := Lib.hid hR4; have HB4 := Lib.hid hB4; clear hR4 hB4; rw [bitL_length])
          | (go_at_call 15; refine (same_n _ _ _ _ _ _ _ _ _ _ (bitL_length _) (bitL_length _) ((HR3.out.below HB4.out).more HB4.out.size) HR4.out (by omega)).mono ?_; rintro e w' ⟨rfl, j, rfl⟩; rw [HS.out])
          | (go_at_call 11; refine (wrap_any _ _).mono ?_; rintro e w' ⟨rfl, rfl⟩)
          | (go_at_call 9; refine (in_any _ _).mono ?_; rintro e w' ⟨rfl, rfl⟩)
          | (go_at_call 18; refine (awake_any _).mono ?_; rintro e w5 ⟨rfl, hb5⟩; have HB5 := Lib.hid hb5; clear hb5)
          | (go_at_call 29; refine (of_n _ _ _ _ _ _ HNL.out ((show Rd wr.drew wr.heap.size _ _ from HR2.out).below HB3.out) (by omega)).mono ?_; rintro e w' ⟨rfl, rfl⟩))
      go_wp2
      go_ret
      have s3 := HB3.out.size
      have s4 := HB4.out.size
      have h1 : Below w.heap.size w wr := HB1.out.trans (HBL.out.mono HB1.out.size)
      have h2 : Below w.heap.size w w2 := h1.drew.trans (HB3.out.mono (by simp; exact h1.size))
      have h3 : Below w.heap.size w w3 := h2.trans (HB4.out.mono h2.size)
      exact ⟨rfl, (below_drewN h3 j).trans (HB5.out.mono h3.size)⟩
end Go.Proofs.Ythnpgigcnmogiaa
