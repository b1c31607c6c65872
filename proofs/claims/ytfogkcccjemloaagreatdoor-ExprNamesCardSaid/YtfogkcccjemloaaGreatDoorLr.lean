/- Ident of both is one. -/
import Derived.Test.YtfogkcccjemloaaGreatDoorLo
namespace Go.Proofs.YtfogkcccjemloaaGreatDoor
set_option linter.unusedVariables false
set_option linter.unusedSimpArgs false
open Go.RowKit
theorem ext_all (s : ByteArray) : s.extract 0 s.size = s := by
  apply ByteArray.ext
  apply Array.toList_inj.mp
  rw [head_extract, ← len_toList, List.take_length]
theorem id_eq (s : ByteArray) : idP s = idR s := by
  unfold idP idR
  by_cases h0 : 0 < s.size
  · have hh : (s.data.toList.headD 0) = s[0] := by
      have := byte_get s 0 h0
      rcases hl : s.data.toList with _ | ⟨c, r⟩
      · rw [hl] at this; cases this
      · rw [hl] at this; simpa using this
    rw [decide_eq_true h0, Bool.true_and, Bool.true_and, hh, fst, dif_pos h0]
    by_cases hL : pL ((s[0].toNat : Nat) : Int) = true
    · rw [if_pos hL, hL, Bool.and_true]
      have hle := sp_le pI s
      by_cases hk : sp pI s.data.toList ≤ 40
      · rw [if_pos hk]
        by_cases hs : sp pI s.data.toList = s.size
        · rw [hs, ext_all, nmK]
          rw [hs] at hk
          rw [decide_eq_true hk]
          cases isKw s <;> simp
        · have q : ((((sp pI s.data.toList : Nat) : Int)) == (s.size : Int)) = false := by rw [beq_eq_false_iff_ne]; omega
          simp only [q, Bool.and_false]
          rw [decide_eq_false hs, Bool.and_false, Bool.false_and]
      · rw [if_neg hk]
        have : ¬ (s.size ≤ 40 ∧ sp pI s.data.toList = s.size) := by omega
        by_cases h4 : s.size ≤ 40
        · rw [decide_eq_false (fun e => this ⟨h4, e⟩), Bool.and_false, Bool.false_and]; rfl
        · rw [decide_eq_false h4, Bool.false_and, Bool.false_and]; rfl
    · rw [if_neg hL]
      rw [Bool.not_eq_true] at hL
      rw [hL, Bool.and_false, Bool.false_and]
      split
      · split
        · rfl
        · split <;> rfl
      · split
        · split <;> rfl
        · split
          · rfl
          · split <;> rfl
  · rw [decide_eq_false h0, Bool.false_and, Bool.false_and, Bool.false_and, Bool.false_and, Bool.false_and]
end Go.Proofs.YtfogkcccjemloaaGreatDoor
