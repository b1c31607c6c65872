/- Bits and numbers: the number of the bits of a number is the number; the bits of the number of sixteen bits are the bits. -/
import Derived.Test.YthnpgigcnmogiaaOf
namespace Go.Proofs.Ythnpgigcnmogiaa
set_option linter.unusedVariables false
set_option linter.unusedSimpArgs false
open Go.RowKit
theorem pow_pos' (k : Nat) : (0 : Int) < 2 ^ k := Int.pow_pos (by decide)
theorem emod_succ (n : Int) (k : Nat) : n % 2 ^ (k + 1) = n % 2 ^ k + (if bitB n k then 2 ^ k else 0) := by
  have hp := pow_pos' k
  have e1 := Int.mul_ediv_add_emod n (2 ^ k)
  have r0 := Int.emod_nonneg n (Int.ne_of_gt hp)
  have r1 := Int.emod_lt_of_pos n hp
  unfold bitB
  generalize n % 2 ^ k = r at *
  generalize n / 2 ^ k = q at *
  rw [Int.pow_succ]
  generalize (2 : Int) ^ k = p at *
  have e2 : n = (p * 2) * (q / 2) + (r + p * (q % 2)) := by
    have h : q = 2 * (q / 2) + q % 2 := by omega
    rw [← e1, Int.mul_assoc, Int.add_comm r, ← Int.add_assoc, ← Int.mul_add, ← h]
  rcases (show q % 2 = 0 ∨ q % 2 = 1 by omega) with h | h
  · rw [e2, h]
    simp only [Int.mul_zero, Int.add_zero]
    rw [Int.add_comm, Int.add_mul_emod_self_left, Int.emod_eq_of_lt r0 (by omega)]
    simp
  · rw [e2, h]
    simp only [Int.mul_one]
    rw [Int.add_comm, Int.add_mul_emod_self_left, Int.emod_eq_of_lt (by omega) (by omega)]
    simp
theorem ofN_bitL (n : Int) (k : Nat) (hk : k ≤ 16) : (ofN (bitL n) k : Int) = n % 2 ^ k := by
  induction k with
  | zero => simp [ofN, Int.emod_one]
  | succ k ih =>
    have e : (bitL n)[k]? = some (bitB n k) := by simp [bitL, show k < 16 by omega]
    rw [emod_succ, ← ih (by omega), ofN, e]
    cases bitB n k <;> simp
theorem ofL_bitL (n : Int) : ofL (bitL n) = w16 n := by
  rw [ofL, bitL_length, show min 16 16 = 16 by decide, ofN_bitL n 16 (by decide)]
  unfold w16
  omega
theorem ofN_bit (l : List Bool) (i : Nat) : ∀ m : Nat, i < m → (ofN l m : Int) / 2 ^ i % 2 = if l[i]? = some true then 1 else 0 := by
  intro m
  induction m with
  | zero => intro h; omega
  | succ m ih =>
    intro h
    rw [ofN]
    have hl := ofN_lt l m
    rcases Nat.lt_or_ge i m with hi | hi
    · rw [← ih hi]
      obtain ⟨d, rfl⟩ : ∃ d, m = i + 1 + d := ⟨m - i - 1, by omega⟩
      split
      · have e : ((ofN l (i + 1 + d) + 2 ^ (i + 1 + d) : Nat) : Int) = (ofN l (i + 1 + d) : Int) + 2 ^ i * (2 * 2 ^ d) := by
          simp only [Int.natCast_add, Int.natCast_pow, Int.pow_add, Int.pow_succ, Int.pow_zero, Int.mul_assoc, Int.one_mul]
          rfl
        rw [e, Int.add_mul_ediv_left _ _ (Int.ne_of_gt (pow_pos' i)), Int.add_mul_emod_self_left]
      · simp
    · obtain rfl : i = m := by omega
      have h0 : (ofN l i : Int) / 2 ^ i = 0 := Int.ediv_eq_zero_of_lt (by omega) (by exact_mod_cast hl)
      split
      · have e : ((ofN l i + 2 ^ i : Nat) : Int) = (ofN l i : Int) + 2 ^ i * 1 := by simp
        rw [e, Int.add_mul_ediv_left _ _ (Int.ne_of_gt (pow_pos' i)), h0]
        rfl
      · simp only [Nat.add_zero]
        rw [h0]
        rfl
theorem bitL_ofL (l : List Bool) (hl : l.length = 16) : bitL (ofL l) = l := by
  have e : ∃ q, ofL l = (ofN l 16 : Nat) + 65536 * q := by
    rw [ofL, hl]
    refine ⟨-(((ofN l 16 : Nat) + 32768) / 65536), ?_⟩
    simp only [show min 16 16 = 16 by decide]
    unfold w16
    omega
  obtain ⟨q, hq⟩ := e
  apply List.ext_getElem
  · rw [bitL_length, hl]
  · intro i h1 h2
    have hi : i < 16 := by rw [bitL_length] at h1; exact h1
    have hb : bitB (ofL l) i = l[i] := by
      rw [hq, bit_shift _ _ _ hi, bitB, ofN_bit l i 16 hi, List.getElem?_eq_getElem h2]
      cases l[i] <;> simp
    simpa [bitL] using hb
end Go.Proofs.Ythnpgigcnmogiaa
