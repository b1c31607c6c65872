/- gap: the blanks and remarks in front. -/
import Derived.Test.YtfogkcccjemloaaGreatDoorLc
import Derived.IntWalk
import Derived.Deep.RegionHeld3
import Derived.Deep.RegionLaw
import Derived.Deep.OwnRows
namespace Go.Proofs.YtfogkcccjemloaaGreatDoor
set_option linter.unusedVariables false
set_option linter.unusedSimpArgs false
open Go.RowKit
theorem drop_bytes (s : ByteArray) (k : Nat) : (s.extract k s.size).data.toList = s.data.toList.drop k := by
  rw [ByteArray.data_extract]
  simp only [Array.toList_extract, List.extract_eq_take_drop]
  rw [List.take_of_length_le]
  rw [List.length_drop, len_toList]
  exact Nat.le_refl _
theorem drop_size (s : ByteArray) (k : Nat) : (s.extract k s.size).size = s.size - k := by
  rw [← len_toList, drop_bytes, List.length_drop, len_toList]
theorem sp_length (p : Int → Bool) (l : List UInt8) : sp p l ≤ l.length := tw_le _ _
theorem pre2 {l : List UInt8} (h : Lib.hasPrefix l [45, 45] = true) : ∃ r, l = 45 :: 45 :: r := by
  rcases l with _ | ⟨a, _ | ⟨b, r⟩⟩
  · simp [Lib.hasPrefix] at h
  · simp [Lib.hasPrefix] at h
  · refine ⟨r, ?_⟩
    simp [Lib.hasPrefix] at h
    rw [← h.1, ← h.2]
theorem sp_dash {l : List UInt8} (h : Lib.hasPrefix l [45, 45] = true) : 0 < sp pN l ∧ 0 < l.length := by
  obtain ⟨r, rfl⟩ := pre2 h
  have : pN ((((45 : UInt8).toNat : Nat) : Int)) = true := rfl
  exact ⟨by rw [sp, List.takeWhile_cons, if_pos this]; simp, by simp⟩
/-- the bytes of the blanks and remarks in front -/
def gapN (l : List UInt8) : Nat :=
  if h : Lib.hasPrefix (l.drop (sp pB l)) [45, 45] = true then sp pB l + sp pN (l.drop (sp pB l)) + gapN (l.drop (sp pB l + sp pN (l.drop (sp pB l)))) else sp pB l
termination_by l.length
decreasing_by
  have := sp_dash h
  rw [List.length_drop] at this ⊢
  omega
theorem gapN_yes {l : List UInt8} (h : Lib.hasPrefix (l.drop (sp pB l)) [45, 45] = true) : gapN l = sp pB l + sp pN (l.drop (sp pB l)) + gapN (l.drop (sp pB l + sp pN (l.drop (sp pB l)))) := by
  rw [gapN, dif_pos h]
theorem gapN_no {l : List UInt8} (h : Lib.hasPrefix (l.drop (sp pB l)) [45, 45] = false) : gapN l = sp pB l := by
  rw [gapN, dif_neg (by rw [h]; simp)]
theorem pB_contains (c : UInt8) : (ByteArray.mk #[32, 9, 10, 13]).data.toList.contains c = pB ((c.toNat : Nat) : Int) := by
  have key : ∀ d : UInt8, (c == d) = (((c.toNat : Nat) : Int) == ((d.toNat : Nat) : Int)) := fun d => by
    rw [Bool.eq_iff_iff, beq_iff_eq, beq_iff_eq]
    constructor
    · rintro rfl; rfl
    · intro h; exact UInt8.toNat_inj.1 (by omega)
  show [32, 9, 10, 13].contains c = _
  simp only [List.contains_cons, List.contains_nil, Bool.or_false, key, pB]
  simp only [Bool.or_assoc]
  rfl
end Go.Proofs.YtfogkcccjemloaaGreatDoor
