/- Keyword of the reference. -/
import Derived.Test.YtfogkcccjemloaaGreatDoorLl
namespace Go.Proofs.YtfogkcccjemloaaGreatDoor
set_option linter.unusedVariables false
set_option linter.unusedSimpArgs false
open Go.RowKit
def kwB : List ByteArray := [⟨#[97, 115, 115, 117, 109, 101]⟩, ⟨#[97, 110, 100]⟩, ⟨#[97, 117, 116, 111, 109, 97, 116, 111, 110]⟩, ⟨#[98, 111, 111, 108]⟩, ⟨#[99, 111, 110, 116, 105, 110, 117, 101]⟩, ⟨#[100, 111]⟩, ⟨#[100, 111, 110, 101]⟩, ⟨#[101, 108, 115, 101]⟩, ⟨#[101, 110, 100]⟩, ⟨#[101, 110, 115, 117, 114, 101]⟩, ⟨#[101, 118, 101, 114, 121]⟩, ⟨#[102, 97, 108, 115, 101]⟩, ⟨#[102, 98, 121]⟩, ⟨#[105, 102]⟩, ⟨#[105, 110, 116]⟩, ⟨#[108, 101, 116]⟩, ⟨#[109, 101, 114, 103, 101]⟩, ⟨#[109, 111, 100]⟩, ⟨#[110, 111, 100, 101]⟩, ⟨#[110, 111, 116]⟩, ⟨#[111, 114]⟩, ⟨#[112, 114, 101]⟩, ⟨#[114, 101, 116, 117, 114, 110, 115]⟩, ⟨#[115, 116, 97, 116, 101]⟩, ⟨#[116, 101, 108]⟩, ⟨#[116, 104, 101, 110]⟩, ⟨#[116, 114, 117, 101]⟩, ⟨#[116, 121, 112, 101]⟩, ⟨#[117, 110, 108, 101, 115, 115]⟩, ⟨#[117, 110, 116, 105, 108]⟩, ⟨#[118, 97, 114]⟩, ⟨#[119, 104, 101, 110]⟩, ⟨#[120, 111, 114]⟩]
theorem kwB_len : kwB.length = 33 := rfl
theorem kw_is (s : ByteArray) : isKw s = kwB.any fun b => b.toList == s.toList := by
  have e : kwL = kwB.map ByteArray.toList := by
    simp only [kwL, kwB, List.map_cons, List.map_nil, ByteArray.toList_eq]
  rw [isKw, e, List.contains_eq_any_beq, List.any_map]
  congr 1
  funext x
  simp only [Function.comp]
  rw [Bool.eq_iff_iff, beq_iff_eq, beq_iff_eq]
  exact eq_comm
def Strs (w : World) (B : Nat) (A : Addr) (l : List ByteArray) : Prop := A.block < B ∧ ∀ j x, l[j]? = some x → w.cell? (A.add j) = some (.string x)
set_option maxRecDepth 100000 in
theorem keywords_any (w : World) : Calls Tryz.prog 92 #[] w (fun e w' => e = .returned (.slice (some ⟨w.heap.size, 0, none⟩) 33 33) ∧ Strs w' w'.heap.size ⟨w.heap.size, 0, none⟩ kwB ∧ Below w.heap.size w w') := by
  go_enter Tryz.func92, Tryz.ntmps92
  go_wp2
  go_ret
  refine ⟨rfl, ⟨by simp, fun j x hx => ?_⟩, (by repeat (first | (with_reducible exact Below.refl _ _) | (with_reducible assumption) | (with_reducible exact bel_box _) | (with_reducible refine bel_step ?_ (by with_reducible assumption)) | (with_reducible refine Below.drew ?_) | (with_reducible refine below_drewN ?_ _) | (with_reducible refine bel_alloc ?_ _)))⟩
  have e : (Addr.add ⟨w.heap.size, 0, none⟩ j) = ⟨w.heap.size, j, none⟩ := by
    unfold Addr.add
    by_cases h : j = 0
    · subst h; rfl
    · simp [h]
  rw [e]
  have hk := cell_of_row (w.alloc (.cells (kwB.map Value.string).toArray 9)) w.heap.size j (kwB.map Value.string).toArray 9 (0, 0) (heap_alloc_new w _)
  refine Eq.trans hk ?_
  rw [List.getElem?_toArray, List.getElem?_map, hx]
  rfl
end Go.Proofs.YtfogkcccjemloaaGreatDoor
