/- lives. -/
import Derived.Test.YtfogkcccjemloaaGreatDoorGb
import Derived.Test.YtfogkcccjemloaaGreatDoorFt
import Derived.Test.YtfogkcccjemloaaGreatDoorFf
import Derived.Test.YtfogkcccjemloaaGreatDoorFl
namespace Go.Proofs.YtfogkcccjemloaaGreatDoor
set_option linter.unusedVariables false
set_option linter.unusedSimpArgs false
open Go.RowKit
theorem leaf_list (k op t v : Int) (nm : ByteArray) : (Xt.mk k op t v nm none 0 []).list = [.mk k op t v nm none 0 []] := by rw [Xt.list_eq]; rfl
theorem leaf_size (k op t v : Int) (nm : ByteArray) : (Xt.mk k op t v nm none 0 []).size = 1 := by rw [Xt.size_eq]; rfl
theorem leaf_depth (k op t v : Int) (nm : ByteArray) : (Xt.mk k op t v nm none 0 []).depth = 1 := by rw [Xt.depth_eq]; rfl
theorem leaf_lst (k op t v : Int) (nm : ByteArray) (b : Bool) : (Xt.mk k op t v nm none 0 []).lst b = [.mk k op t v nm none 0 []] := by
  rw [Xt.lst_eq]
  cases hk : kidsI b (Xt.mk k op t v nm none 0 []) with
  | nil => rfl
  | cons y r => have := kids_mem (b := b) (x := Xt.mk k op t v nm none 0 []) (y := y) (by rw [hk]; simp); cases this
theorem fby_list (b : Nat) : (fbyX b).list = [fbyX b, k0, vX] := by
  rw [Xt.list_eq]
  show _ :: ([k0, vX].map Xt.list).flatten = _
  simp only [List.map_cons, List.map_nil, k0, vX, leaf_list]
  rfl
theorem ex_list (b : Nat) : (exX b).list = [exX b, vC, vX, fbyX b, k0, vX] := by
  rw [Xt.list_eq]
  show _ :: ([vC, vX, fbyX b].map Xt.list).flatten = _
  simp only [List.map_cons, List.map_nil, fby_list]
  simp only [vC, vX, leaf_list]
  rfl
theorem ex_size (b : Nat) : (exX b).size = 6 := by
  rw [← list_length, ex_list]; rfl
theorem fby_size (b : Nat) : (fbyX b).size = 3 := by
  rw [← list_length, fby_list]; rfl
theorem fby_depth (b : Nat) : (fbyX b).depth = 2 := by
  rw [Xt.depth_eq]
  show 1 + ([k0, vX].map Xt.depth).foldl max 0 = _
  simp only [List.map_cons, List.map_nil, k0, vX, leaf_depth]
  rfl
theorem ex_depth (b : Nat) : (exX b).depth = 3 := by
  rw [Xt.depth_eq]
  show 1 + ([vC, vX, fbyX b].map Xt.depth).foldl max 0 = _
  simp only [List.map_cons, List.map_nil, vC, vX, leaf_depth, fby_depth]
  rfl
theorem ex_count (b : Nat) : ((exX b).list.countP fun y => y.k == 2) = 3 := by rw [ex_list]; rfl
theorem ex_state (b : Nat) : ((exX b).list.any fun y => stK y.k) = true := by rw [ex_list]; rfl
theorem st_c : stepN [] vC = [⟨#[99]⟩] := by
  simp only [stepN, hasN, List.any_nil]
  decide +kernel
theorem st_x : stepN [⟨#[99]⟩] vX = [⟨#[99]⟩, ⟨#[120]⟩] := by
  simp only [stepN, hasN, List.any_cons, List.any_nil, ByteArray.toList_eq]
  decide +kernel
theorem st_x2 : stepN [⟨#[99]⟩, ⟨#[120]⟩] vX = [⟨#[99]⟩, ⟨#[120]⟩] := by
  simp only [stepN, hasN, List.any_cons, List.any_nil, ByteArray.toList_eq]
  decide +kernel
theorem st_no {acc : List ByteArray} {x : Xt} (h : hasVar x.k = false) : stepN acc x = acc := by
  unfold stepN
  rw [h, Bool.false_and, if_neg (by simp)]
theorem ex_names (b : Nat) : nmS false (exX b) [] = [⟨#[99]⟩, ⟨#[120]⟩] := by
  unfold nmS
  rw [lst_false, ex_list]
  simp only [List.foldl_cons, List.foldl_nil]
  rw [st_no (x := exX b) rfl, st_c, st_x, st_no (x := fbyX b) rfl, st_no (x := k0) rfl, st_x2]
theorem fby_inst (b : Nat) : nmS true (fbyX b) [] = [] := by
  unfold nmS
  rw [Xt.lst_eq]
  have : kidsI true (fbyX b) = [k0] := rfl
  rw [this]
  simp only [List.map_cons, List.map_nil, k0, leaf_lst, List.flatten_cons, List.flatten_nil, List.append_nil]
  simp only [List.foldl_cons, List.foldl_nil]
  rw [st_no (x := fbyX b) rfl, st_no rfl]
def vIf : Xt := .mk 2 0 0 0 ⟨#[105, 102]⟩ none 0 []
def ifX (b : Nat) (c : Nat) : Xt := .mk 4 0 0 0 ⟨#[]⟩ (some ⟨b + 1, 0, none⟩) c [vC, vX]
theorem if_list (b c : Nat) : (ifX b c).list = [ifX b c, vC, vX] := by
  rw [Xt.list_eq]
  show _ :: ([vC, vX].map Xt.list).flatten = _
  simp only [List.map_cons, List.map_nil, vC, vX, leaf_list]
  rfl
theorem if_depth (b c : Nat) : (ifX b c).depth = 2 := by
  rw [Xt.depth_eq]
  show 1 + ([vC, vX].map Xt.depth).foldl max 0 = _
  simp only [List.map_cons, List.map_nil, vC, vX, leaf_depth]
  rfl
theorem idP_vC : idP vC.nm = true := by decide +kernel
theorem idP_vX : idP vX.nm = true := by decide +kernel
theorem idP_vIf : idP vIf.nm = false := by decide +kernel
end Go.Proofs.YtfogkcccjemloaaGreatDoor
