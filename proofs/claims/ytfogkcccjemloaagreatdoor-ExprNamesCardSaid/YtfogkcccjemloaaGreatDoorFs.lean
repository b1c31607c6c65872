/- Names and Instant of the program. -/
import Derived.Test.YtfogkcccjemloaaGreatDoorFr
namespace Go.Proofs.YtfogkcccjemloaaGreatDoor
set_option linter.unusedVariables false
set_option linter.unusedSimpArgs false
open Go.RowKit Go.Shelf Go.Maps
theorem RdX.nms {w : World} {B : Nat} {x : Xt} (h : RdX w B x) (b : Bool) : ∀ y ∈ x.lst b, y.nm.size ≤ maxLen := by
  induction x using Xt.ind with
  | h x ih =>
    intro y hy
    rw [Xt.lst_eq] at hy
    rcases List.mem_cons.1 hy with rfl | hy
    · exact h.len.2
    · obtain ⟨l, hl, hyl⟩ := List.mem_flatten.1 hy
      obtain ⟨z, hz, rfl⟩ := List.mem_map.1 hl
      exact ih z (kids_mem hz) (h.kid (kids_mem hz)) y hyl
theorem variables_names (x : Xt) (w : World) (hX : RdX w w.heap.size x) (hs : x.size ≤ 100000) : Calls Tryz.prog 45 #[.func (.func 62) #[] #[.pointer (some ⟨w.heap.size, 0, none⟩), .pointer (some ⟨w.heap.size + 1, 0, none⟩)]] (inW w x 41) (NewN (nmS false x []) (inW w x 41)) := by
  have h := variables_any x.list x.size w.heap.size w.heap.size (w.heap.size + 1) (inW w x 41) (by rw [inW_size]; omega) hs (fun y hy => hX.nms false y (by rw [lst_false]; exact hy)) (withinY_atP (fun y => y ∈ x.list) 2 w.heap.size x w (fun y h => h) (Nat.le_refl _) hX)
  rwa [← lst_false] at h
theorem variables_instant (x : Xt) (w : World) (hX : RdX w w.heap.size x) (hs : x.size ≤ 100000) : Calls Tryz.prog 45 #[.func (.func 62) #[] #[.pointer (some ⟨w.heap.size, 0, none⟩), .pointer (some ⟨w.heap.size + 1, 0, none⟩)]] (inW w x 46) (NewN (nmS true x []) (inW w x 46)) :=
  variables_any (x.lst true) (x.lst true).length w.heap.size w.heap.size (w.heap.size + 1) (inW w x 46) (by rw [inW_size]; omega) (Nat.le_trans (lst_len x) hs) (hX.nms true) (withinYI_atP (fun y => y ∈ x.lst true) 2 w.heap.size x w (fun y h => h) (Nat.le_refl _) hX)
end Go.Proofs.YtfogkcccjemloaaGreatDoor
