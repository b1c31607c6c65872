/- Small words for the walk of BwordOnJoins. -/
import Derived.Test.YtimecbkfeennpaaBwAd0
namespace Go.Proofs.Ytimecbkfeennpaa
set_option linter.unusedVariables false
set_option linter.unusedSimpArgs false
open Go.RowKit
theorem box222 {w W : World} {x y x' y' x2 y2 : Value} {t t' t2 : TypeId} (hb : Below (((w.alloc (.cells #[x, y] t)).alloc (.cells #[x', y'] t')).alloc (.cells #[x2, y2] t2)).heap.size (((w.alloc (.cells #[x, y] t)).alloc (.cells #[x', y'] t')).alloc (.cells #[x2, y2] t2)) W) :
    W.cell? ⟨w.heap.size, 0, none⟩ = some x ∧ W.cell? ⟨w.heap.size, 1, none⟩ = some y ∧ W.cell? ⟨w.heap.size + 1, 0, none⟩ = some x' ∧ W.cell? ⟨w.heap.size + 1, 1, none⟩ = some y' ∧ W.cell? ⟨w.heap.size + 2, 0, none⟩ = some x2 ∧ W.cell? ⟨w.heap.size + 2, 1, none⟩ = some y2 := by
  have h1 := box22 (bel_step (bel_box (.cells #[x2, y2] t2)) hb)
  have h2 := box2 (w := (w.alloc (.cells #[x, y] t)).alloc (.cells #[x', y'] t')) hb
  rw [show ((w.alloc (.cells #[x, y] t)).alloc (.cells #[x', y'] t')).heap.size = w.heap.size + 2 by simp] at h2
  exact ⟨h1.1, h1.2.1, h1.2.2.1, h1.2.2.2, h2.1, h2.2⟩
end Go.Proofs.Ytimecbkfeennpaa
