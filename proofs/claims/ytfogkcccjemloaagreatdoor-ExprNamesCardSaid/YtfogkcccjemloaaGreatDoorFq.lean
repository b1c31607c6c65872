/- A look-up by value in a map of bools; the set of names that came. -/
import Derived.Test.YtfogkcccjemloaaGreatDoorFp
import Derived.RangeFuncWrites
import Derived.Maps.OwnIn
import Derived.Maps.AppendAt
import Derived.Maps.Views
namespace Go.Proofs.YtfogkcccjemloaaGreatDoor
set_option linter.unusedVariables false
set_option linter.unusedSimpArgs false
open Go.RowKit Go.Shelf Go.Maps
theorem plainElem_bool_inv {H : Type} {P : Program} {e : TypeId} (he : P.underlying e = some .bool) {v : Value} {z : DataW H × List MemPlace} (h : plainElem P e v = some z) : ∃ a, v = .bool a ∧ z = (.lit (.bool a), []) := by
  unfold plainElem at h
  rw [he] at h
  cases v <;> simp at h
  exact ⟨_, rfl, h.symm⟩
theorem lookup_bool {H : Type} {P : Program} {w : World} {k t e : TypeId} {b n : Nat} {D : DataW H} (h : w.ownsMap P k (plainElem P e) b n D) (K : Keyed P k) (ht : P.underlying t = some (.map k e)) (he : P.underlying e = some .bool) (hz : (zeroValue e).run P w = .ok (.bool false) w)
    {key : Value} {kl : Lit} (hkey : keyOf P k key = some kl) : ∃ c, (Instr.lookup t (.map (some b)) key false).run P w = .ok (.bool c) w ∧ D.atKey kl (.lit (.bool false)) = .lit (.bool c) := by
  obtain ⟨v, ps, hrun, hv⟩ := h.lookup K ht hz (plainElem_bool he false) hkey
  obtain ⟨c, rfl, hc⟩ := plainElem_bool_inv he hv
  simp only [Prod.mk.injEq] at hc
  exact ⟨c, hrun, hc.1⟩
theorem isMap_put' {H : Type} {D : DataW H} (h : IsMap D) (k : Lit) (d : DataW H) : IsMap (D.put k d) := by
  obtain ⟨es, rfl⟩ := h
  exact ⟨_, rfl⟩
theorem seen_put {H : Type} {D : DataW H} (hD : IsMap D) (s t : ByteArray) (b : Bool) (h : D.atKey (.string t.data.toList) (.lit (.bool false)) = .lit (.bool b)) :
    (D.put (.string s.data.toList) (.lit (.bool true))).atKey (.string t.data.toList) (.lit (.bool false)) = .lit (.bool (b || (s.toList == t.toList))) := by
  rw [ByteArray.toList_eq, ByteArray.toList_eq]
  by_cases e : s.data.toList = t.data.toList
  · rw [e, atKey_put_same hD (by simp [WideAt.IsKeyLit])]
    simp
  · rw [atKey_put_other (fun h => e (by injection h with h; exact h.symm)), h]
    have : (s.data.toList == t.data.toList) = false := by simpa using e
    rw [this, Bool.or_false]
theorem has_snoc (l : List ByteArray) (s t : ByteArray) : hasN (l ++ [s]) t = (hasN l t || (s.toList == t.toList)) := by
  unfold hasN
  rw [List.any_append]
  simp
end Go.Proofs.YtfogkcccjemloaaGreatDoor
