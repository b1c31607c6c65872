/- symbols of the reference. -/
import Derived.Test.YtbnddbhfnpdjeaaDoorLm
import Derived.Test.YtbnddbhfnpdjeaaDoorLg
namespace Go.Proofs.YtbnddbhfnpdjeaaDoor
set_option linter.unusedVariables false
set_option linter.unusedSimpArgs false
open Go.RowKit
def syB : List ByteArray := [⟨#[45, 62]⟩, ⟨#[60, 62]⟩, ⟨#[60, 61]⟩, ⟨#[62, 61]⟩, ⟨#[40]⟩, ⟨#[41]⟩, ⟨#[58]⟩, ⟨#[59]⟩, ⟨#[44]⟩, ⟨#[61]⟩, ⟨#[124]⟩, ⟨#[60]⟩, ⟨#[62]⟩, ⟨#[43]⟩, ⟨#[45]⟩, ⟨#[42]⟩, ⟨#[47]⟩]
theorem syB_len : syB.length = 17 := rfl
theorem syB_list : syB.map ByteArray.toList = syL := by
  simp only [syL, syB, List.map_cons, List.map_nil, ByteArray.toList_eq]
set_option maxRecDepth 100000 in
theorem symbols_any (w : World) : Calls Tryd.prog 41 #[] w (fun e w' => e = .returned (.slice (some ⟨w.heap.size, 0, none⟩) 17 17) ∧ Strs w' w'.heap.size ⟨w.heap.size, 0, none⟩ syB ∧ Below w.heap.size w w') := by
  go_enter Tryd.func41, Tryd.ntmps41
  go_wp2
  go_ret
  refine ⟨rfl, ⟨by simp, fun j x hx => ?_⟩, (by repeat (first | (with_reducible exact Below.refl _ _) | (with_reducible assumption) | (with_reducible exact bel_box _) | (with_reducible refine bel_step ?_ (by with_reducible assumption)) | (with_reducible refine Below.drew ?_) | (with_reducible refine below_drewN ?_ _) | (with_reducible refine bel_alloc ?_ _)))⟩
  have e : (Addr.add ⟨w.heap.size, 0, none⟩ j) = ⟨w.heap.size, j, none⟩ := by
    unfold Addr.add
    by_cases h : j = 0
    · subst h; rfl
    · simp [h]
  rw [e]
  have hk := cell_of_row (w.alloc (.cells (syB.map Value.string).toArray 9)) w.heap.size j (syB.map Value.string).toArray 9 (0, 0) (heap_alloc_new w _)
  refine Eq.trans hk ?_
  rw [List.getElem?_toArray, List.getElem?_map, hx]
  rfl
end Go.Proofs.YtbnddbhfnpdjeaaDoor
