/- Bits of package word, for every number: the slice of its sixteen bits, in a new block. -/
import Derived.Test.YthnpgigcnmogiaaMem
import Derived.Test.YthnpgigcnmogiaaWord
namespace Go.Proofs.Ythnpgigcnmogiaa
set_option linter.unusedVariables false
set_option linter.unusedSimpArgs false
open Go.RowKit
/-- bit i of a number -/
def bitB (n : Int) (i : Nat) : Bool := n / 2 ^ i % 2 == 1
def bitL (n : Int) : List Bool := (List.range 16).map (bitB n)
def bitC (n : Int) (k : Nat) : Array Value := ((List.range 16).map fun i => Value.bool (decide (i < k) && bitB n i)).toArray
theorem bitC_size (n : Int) (k : Nat) : (bitC n k).size = 16 := by simp [bitC]
theorem and_one_i64 (m : Int) : bits .and .i64 m 1 = m % 2 := by
  show IntKind.i64.wrap ((BitVec.ofInt 64 m &&& BitVec.ofInt 64 1).toNat : Int) = _
  rw [BitVec.toNat_and, show (BitVec.ofInt 64 1).toNat = 1 from rfl, Nat.and_one_is_mod, BitVec.toNat_ofInt, IntKind.wrap_i64]
  omega
theorem bitC_step (n : Int) (k : Nat) (hk : k < 16) : (bitC n k).setIfInBounds k (Value.bool (bits .and .i64 (n / 2 ^ k) 1 == 1)) = bitC n (k + 1) := by
  rw [and_one_i64]
  apply Array.ext
  · simp [bitC]
  · intro i h1 h2
    have hi : i < 16 := by simpa [bitC] using h2
    rw [Array.getElem_setIfInBounds (by simpa [bitC] using hi)]
    by_cases e : k = i
    · subst e
      simp [bitC, bitB]
    · have ht : decide (i < k) = decide (i < k + 1) := by
        rw [decide_eq_decide]; omega
      simp [bitC, e, ht]
theorem bitC_all (n : Int) : bitC n 16 = (bls (bitL n)).toArray := by
  apply Array.ext
  · simp [bitC, bls, bitL]
  · intro i h1 h2
    have hi : i < 16 := by simpa [bitC] using h1
    simp [bitC, bls, bitL, hi]
theorem bitL_length (n : Int) : (bitL n).length = 16 := by simp [bitL]
set_option maxHeartbeats 400000 in
theorem bits_any (n : Int) (w : World) :
    Calls Try.prog 16 #[.int .i64 n] w fun e w' => e = .returned (.slice (some ⟨w.heap.size, 0, none⟩) 16 16) ∧ w.alloc (.cells (bls (bitL n)).toArray 34) = w' := by
  have hs : ∀ k : Nat, k < 16 → ∃ v, (w.alloc (.cells (bitC n k) 34)).cell? ⟨w.heap.size, k, none⟩ = some v := fun k hk =>
    ⟨(bitC n k)[k]'(by rw [bitC_size]; exact hk), by rw [cell_of_row _ _ _ _ _ _ (heap_alloc_new w _)]; exact Array.getElem?_eq_getElem _⟩
  go_enter Try.func16, Try.ntmps16
  go_wp2
  go_loopw [5] (fun i wr => ∃ k : Nat, k ≤ 16 ∧ i = .int .i64 k ∧ wr = w.alloc (.cells (bitC n k) 34)) (fun i _ => 16 - (intOf i).toNat)
  case atStart => exact ⟨0, Nat.zero_le _, rfl, rfl⟩
  case round =>
    obtain ⟨k, hk, rfl, rfl⟩ := hrel
    by_cases hlt : k < 16
    · obtain ⟨v, hv⟩ := hs k hlt
      have hstep := Lib.hid (bitC_step n k hlt)
      generalize bitC n k = C at *
      go_wp2
      go_roundw
      case rel => exact ⟨k + 1, by omega, by go_num, by rw [hstep.out]⟩
      case measure => simp [intOf]; omega
    · go_wp2
      go_ret
      have e : k = 16 := by omega
      exact ⟨rfl, by rw [e, bitC_all]⟩
end Go.Proofs.Ythnpgigcnmogiaa
