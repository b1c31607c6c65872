/- The least cycle about a vertex: plain. -/
import Derived.Test.YtahffafobdiogaaDoorGpi
namespace Go.Proofs.YtahffafobdiogaaDoor
set_option linter.unusedVariables false
set_option linter.unusedSimpArgs false
namespace gr
/-- the way on from a vertex at distance d: each time the least neighbour that is one nearer -/
def fol (nx : Nat → Nat → Option Nat) : Nat → Nat → List Nat
  | 0, _ => []
  | d + 1, v => match nx v d with
    | none => []
    | some w => w :: fol nx d w
/-- the least w with an edge from v and D w = d -/
def nea (E : Nat → Nat → Bool) (n : Nat) (D : Nat → Option Nat) (v d : Nat) : Option Nat := (List.range n).find? fun w => E v w && decide (D w = some d)
theorem nea_some {E : Nat → Nat → Bool} {n : Nat} {D : Nat → Option Nat} {v d w : Nat} (h : nea E n D v d = some w) : w < n ∧ E v w = true ∧ D w = some d := by
  have h1 := List.find?_some h
  rw [Bool.and_eq_true, decide_eq_true_eq] at h1
  exact ⟨List.mem_range.1 (List.mem_of_find?_eq_some h), h1.1, h1.2⟩
theorem nea_ex {E : Nat → Nat → Bool} {n : Nat} {D : Nat → Option Nat} {v d w : Nat} (hw : w < n) (he : E v w = true) (hd : D w = some d) : ∃ u, nea E n D v d = some u := by
  cases h : nea E n D v d with
  | some u => exact ⟨u, rfl⟩
  | none =>
    have := List.find?_eq_none.1 h w (List.mem_range.2 hw)
    rw [he, hd] at this
    simp at this
/-- two that agree up to d give the same way on -/
theorem nea_congr {E : Nat → Nat → Bool} {n : Nat} {D D' : Nat → Option Nat} {v d : Nat} (h : ∀ w, w < n → (D w = some d ↔ D' w = some d)) : nea E n D v d = nea E n D' v d := by
  unfold nea
  have : ∀ l : List Nat, (∀ w ∈ l, w < n) → l.find? (fun w => E v w && decide (D w = some d)) = l.find? (fun w => E v w && decide (D' w = some d)) := by
    intro l
    induction l with
    | nil => intro _; rfl
    | cons a l ih =>
      intro hl
      rw [List.find?_cons, List.find?_cons, ih fun w hw => hl w (List.mem_cons_of_mem _ hw)]
      have e : decide (D a = some d) = decide (D' a = some d) := by
        rw [Bool.eq_iff_iff, decide_eq_true_eq, decide_eq_true_eq]
        exact h a (hl a List.mem_cons_self)
      rw [e]
  exact this _ fun w hw => List.mem_range.1 hw
/-- the smallest distance among those to which an edge leads from v -/
def Mnd (E : Nat → Nat → Bool) (n : Nat) (D : Nat → Option Nat) (v d : Nat) : Prop := (∃ w, w < n ∧ E v w = true ∧ D w = some d) ∧ ∀ w e, w < n → E v w = true → D w = some e → d ≤ e
theorem Mnd.uniq {E : Nat → Nat → Bool} {n : Nat} {D : Nat → Option Nat} {v d e : Nat} (h : Mnd E n D v d) (k : Mnd E n D v e) : d = e := by
  obtain ⟨⟨w, a, b, c⟩, h2⟩ := h
  obtain ⟨⟨u, x, y, z⟩, k2⟩ := k
  exact Nat.le_antisymm (h2 u e x y z) (k2 w d a b c)
/-- distances that are known as far as m only say the same of all that is not farther -/
theorem Mnd.capped {E : Nat → Nat → Bool} {n : Nat} {D D' : Nat → Option Nat} {v d m : Nat} (h : ∀ w e, D' w = some e ↔ D w = some e ∧ e ≤ m) (hd : d ≤ m) : Mnd E n D v d ↔ Mnd E n D' v d := by
  constructor
  · rintro ⟨⟨w, a, b, c⟩, k⟩
    exact ⟨⟨w, a, b, (h w d).2 ⟨c, hd⟩⟩, fun u e x y z => k u e x y ((h u e).1 z).1⟩
  · rintro ⟨⟨w, a, b, c⟩, k⟩
    refine ⟨⟨w, a, b, ((h w d).1 c).1⟩, fun u e x y z => ?_⟩
    rcases Nat.lt_or_ge m e with h1 | h1
    · omega
    · exact k u e x y ((h u e).2 ⟨z, h1⟩)
end gr
end Go.Proofs.YtahffafobdiogaaDoor
