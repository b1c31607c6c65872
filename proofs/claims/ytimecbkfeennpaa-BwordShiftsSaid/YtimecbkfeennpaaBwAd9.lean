/- A new block of two cells, later. -/
import Derived.Test.YtimecbkfeennpaaBwAd0
namespace Go.Proofs.Ytimecbkfeennpaa
set_option linter.unusedVariables false
set_option linter.unusedSimpArgs false
open Go.RowKit
theorem box2f {w W : World} {x y : Value} {t : TypeId} {g : Nat} (hg : w.heap.size = g) (hb : Below (w.alloc (.cells #[x, y] t)).heap.size (w.alloc (.cells #[x, y] t)) W) :
    W.cell? ⟨g, 0, none⟩ = some x ∧ W.cell? ⟨g, 1, none⟩ = some y ∧ W.frozen? ⟨g, 0, none⟩ = false ∧ W.frozen? ⟨g, 1, none⟩ = false := by
  subst hg
  have h := box2 hb
  refine ⟨h.1, h.2, (hb.frozen (p := ⟨w.heap.size, 0, none⟩) (by simp)).trans ?_, (hb.frozen (p := ⟨w.heap.size, 1, none⟩) (by simp)).trans ?_⟩ <;> simp [go_sem]
theorem with_box2f {G : Prop} {w W : World} {x y : Value} {t : TypeId} {g : Nat} (hg : w.heap.size = g) (hb : Below (w.alloc (.cells #[x, y] t)).heap.size (w.alloc (.cells #[x, y] t)) W)
    (k : W.cell? ⟨g, 0, none⟩ = some x ∧ W.cell? ⟨g, 1, none⟩ = some y ∧ W.frozen? ⟨g, 0, none⟩ = false ∧ W.frozen? ⟨g, 1, none⟩ = false → G) : G := k (box2f hg hb)
end Go.Proofs.Ytimecbkfeennpaa
