/- word and number of the reference. -/
import Derived.Test.YtfogkcccjemloaaGreatDoorLk
namespace Go.Proofs.YtfogkcccjemloaaGreatDoor
set_option linter.unusedVariables false
set_option linter.unusedSimpArgs false
open Go.RowKit
theorem spd_at {p : Int → Bool} {s : ByteArray} {a j : Nat} (ha : a ≤ j) (hj : j - a < sp p (s.data.toList.drop a)) : ∃ h : j < s.size, p ((s[j].toNat : Nat) : Int) = true := by
  obtain ⟨b, h1, h2, _⟩ := tw_at _ _ _ hj
  rw [List.getElem?_drop, show a + (j - a) = j by omega] at h1
  have hlt : j < s.size := by rw [← len_toList]; exact (List.getElem?_eq_some_iff.1 h1).1
  rw [byte_get s j hlt] at h1
  obtain rfl : s[j] = b := by simpa using h1
  exact ⟨hlt, h2⟩
theorem spd_end {p : Int → Bool} {s : ByteArray} {a j : Nat} (ha : a ≤ j) (hj : j - a = sp p (s.data.toList.drop a)) (hlt : j < s.size) : p ((s[j].toNat : Nat) : Int) = false := by
  apply tw_end (fun c : UInt8 => p ((c.toNat : Nat) : Int)) (s.data.toList.drop a)
  show (s.data.toList.drop a)[sp p (s.data.toList.drop a)]? = _
  rw [← hj, List.getElem?_drop, show a + (j - a) = j by omega, byte_get s j hlt]
theorem spd_le (p : Int → Bool) (s : ByteArray) (a : Nat) (ha : a ≤ s.size) : a + sp p (s.data.toList.drop a) ≤ s.size := by
  have := sp_length p (s.data.toList.drop a)
  rw [List.length_drop, len_toList] at this
  omega
end Go.Proofs.YtfogkcccjemloaaGreatDoor
