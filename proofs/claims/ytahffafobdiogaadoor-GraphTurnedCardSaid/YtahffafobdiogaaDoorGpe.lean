/- The bits of a word, the least first: plain. -/
import Derived.Test.YtahffafobdiogaaDoorGpd
import Derived.Lib.TrailingZeros
namespace Go.Proofs.YtahffafobdiogaaDoor
set_option linter.unusedVariables false
set_option linter.unusedSimpArgs false
namespace gr
/-- the places of the bits of a word -/
def bitsL (x : Nat) : List Nat := (List.range 64).filter fun i => x.testBit i
theorem bitsL_mem {x i : Nat} : i ∈ bitsL x ↔ i < 64 ∧ x.testBit i = true := by
  unfold bitsL
  rw [List.mem_filter, List.mem_range]
theorem bitsL_zero : bitsL 0 = [] := by
  unfold bitsL
  rw [List.filter_eq_nil_iff]
  intro i _
  simp
theorem low_bits {x : Nat} (h0 : x ≠ 0) (hx : x < 18446744073709551616) : Lib.ctz 64 x < 64 ∧ x.testBit (Lib.ctz 64 x) = true ∧ (∀ i, i < Lib.ctz 64 x → x.testBit i = false) ∧ ∀ i, (x &&& (x - 1)).testBit i = (x.testBit i && decide (i ≠ Lib.ctz 64 x)) := by
  have hc : Lib.ctz 64 x = Lib.ctzFrom 64 x := by unfold Lib.ctz; rw [if_neg h0]
  obtain ⟨m, hm, hk⟩ := Lib.ctzFrom_spec 64 x (by omega) hx
  rw [hc]
  generalize Lib.ctzFrom 64 x = k at *
  have e1 : ∀ i, x.testBit i = (decide (k ≤ i) && (2 * m + 1).testBit (i - k)) := fun i => by
    rw [hm, Nat.mul_comm, Nat.testBit_mul_two_pow]
  have hp : 0 < 2 ^ k := Nat.two_pow_pos k
  have e0 : x - 1 = 2 ^ k * (2 * m) + (2 ^ k - 1) := by
    rw [hm, Nat.mul_add]
    omega
  have e2 : ∀ i, (x - 1).testBit i = if i < k then (2 ^ k - 1).testBit i else (2 * m).testBit (i - k) := fun i => by
    rw [e0, Nat.testBit_two_pow_mul_add _ (by omega)]
  refine ⟨hk, ?_, fun i hi => ?_, fun i => ?_⟩
  · rw [e1]
    simp
  · rw [e1, decide_eq_false (by omega), Bool.false_and]
  · rw [Nat.testBit_and, e1, e2]
    by_cases h1 : i < k
    · rw [decide_eq_false (by omega)]
      simp
    · rw [if_neg h1]
      by_cases h2 : i = k
      · subst h2
        simp
      · obtain ⟨j, rfl⟩ : ∃ j, i = k + (j + 1) := ⟨i - k - 1, by omega⟩
        have e3 : k + (j + 1) - k = j + 1 := by omega
        rw [e3, Nat.testBit_succ, Nat.testBit_succ]
        have d1 : (2 * m + 1) / 2 = m := by omega
        have d2 : 2 * m / 2 = m := by omega
        rw [d1, d2, decide_eq_true (by omega : k ≤ k + (j + 1)), decide_eq_true (by omega : k + (j + 1) ≠ k)]
        cases m.testBit j <;> rfl
/-- one round of 'for word != 0; word &= word - 1' -/
theorem bits_step {x : Nat} (h0 : x ≠ 0) (hx : x < 18446744073709551616) : bitsL x = Lib.ctz 64 x :: bitsL (x &&& (x - 1)) ∧ x &&& (x - 1) < x := by
  obtain ⟨h1, h2, h3, h4⟩ := low_bits h0 hx
  refine ⟨?_, ?_⟩
  · generalize Lib.ctz 64 x = k at *
    unfold bitsL
    have hr : List.range 64 = List.range k ++ k :: (List.range (63 - k)).map (· + (k + 1)) := by
      have := @List.range_add k (64 - k)
      rw [show k + (64 - k) = 64 by omega] at this
      rw [this, show 64 - k = (63 - k) + 1 by omega, List.range_succ_eq_map, List.map_cons, List.map_map]
      congr 2
      apply List.map_congr_left
      intro a _
      simp
      omega
    rw [hr, List.filter_append, List.filter_append, List.filter_cons, List.filter_cons]
    have f1 : (List.range k).filter (fun i => x.testBit i) = [] := by
      rw [List.filter_eq_nil_iff]
      intro i hi
      rw [h3 i (List.mem_range.1 hi)]
      simp
    have f2 : (List.range k).filter (fun i => (x &&& (x - 1)).testBit i) = [] := by
      rw [List.filter_eq_nil_iff]
      intro i hi
      rw [h4, h3 i (List.mem_range.1 hi)]
      simp
    have f3 : (x &&& (x - 1)).testBit k = false := by rw [h4]; simp
    rw [f1, f2, h2, f3]
    simp only [List.nil_append, if_true, Bool.false_eq_true, if_false]
    congr 1
    apply List.filter_congr
    intro i hi
    obtain ⟨a, _, rfl⟩ := List.mem_map.1 hi
    rw [h4, decide_eq_true (by omega : a + (k + 1) ≠ k), Bool.and_true]
  · have := @Nat.and_le_right x (x - 1)
    omega
/-- the members of a row of words -/
def inW (l : List Nat) (v : Nat) : Bool := (l.getD (v / 64) 0).testBit (v % 64)
/-- those of one row that are not in another, in order -/
theorem andn_bit (x y i : Nat) (hx : x < 18446744073709551616) : (x &&& (18446744073709551615 - y % 18446744073709551616)).testBit i = (x.testBit i && !y.testBit i) := by
  rw [Nat.testBit_and]
  by_cases hi : i < 64
  · have h := Nat.testBit_two_pow_sub_succ (x := y % 18446744073709551616) (n := 64) (by omega) i
    have e : 2 ^ 64 - (y % 18446744073709551616 + 1) = 18446744073709551615 - y % 18446744073709551616 := by omega
    rw [e] at h
    have h2 : (y % 18446744073709551616).testBit i = y.testBit i := by
      have := Nat.testBit_mod_two_pow y 64 i
      rw [show (2 : Nat) ^ 64 = 18446744073709551616 from rfl] at this
      rw [this, decide_eq_true hi, Bool.true_and]
    rw [h, decide_eq_true hi, Bool.true_and, h2]
  · have hb : x.testBit i = false := Nat.testBit_lt_two_pow (Nat.lt_of_lt_of_le hx (show 2 ^ 64 ≤ 2 ^ i from Nat.pow_le_pow_right (by omega) (by omega)))
    rw [hb]
    simp
end gr
end Go.Proofs.YtahffafobdiogaaDoor
