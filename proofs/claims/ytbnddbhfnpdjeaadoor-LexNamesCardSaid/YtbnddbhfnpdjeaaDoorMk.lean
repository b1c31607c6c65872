/- lives: the examples. -/
import Derived.Test.YtbnddbhfnpdjeaaDoorMe
import Derived.Test.YtbnddbhfnpdjeaaDoorMb
namespace Go.Proofs.YtbnddbhfnpdjeaaDoor
set_option linter.unusedVariables false
set_option linter.unusedSimpArgs false
open Go.RowKit
theorem isKw_bt (l : List UInt8) : isKw (bt l) = kwL.contains l := by rw [isKw, ByteArray.toList_eq]; rfl
theorem isSy_bt (l : List UInt8) : isSy (bt l) = syL.contains l := by rw [isSy, ByteArray.toList_eq]; rfl
def T1 : List Tk := [(1, ⟨#[120]⟩, 0), (4, ⟨#[60, 61]⟩, 1), (2, ⟨#[49, 50]⟩, 3)]
def T3 : List Tk := [(5, ⟨#[49, 40, 48, 49, 41]⟩, 0)]
theorem s1 : scanL [120, 60, 61, 49, 50, 32, 45, 45, 32, 121] 0 = (T1, 0, 0) := by
  have g0 : gapN [120, 60, 61, 49, 50, 32, 45, 45, 32, 121] = 0 := gap_head (by decide) (fun h => by cases h)
  have f0 : fL [120, 60, 61, 49, 50, 32, 45, 45, 32, 121] = (1, ⟨#[120]⟩, 1, 0) := by
    rw [fL_id (m := 1) (by decide) (by rfl), if_pos (by decide), nmK, isKw_bt]
    rfl
  have g1 : gapN [60, 61, 49, 50, 32, 45, 45, 32, 121] = 0 := gap_head (by decide) (fun h => by cases h)
  have f1 : fL [60, 61, 49, 50, 32, 45, 45, 32, 121] = (4, ⟨#[60, 61]⟩, 2, 0) := by
    rw [fL_sy (by decide) (by decide) (by decide), if_pos ⟨by simp, by rw [isSy_bt]; decide⟩]
    rfl
  have g2 : gapN [49, 50, 32, 45, 45, 32, 121] = 0 := gap_head (by decide) (fun h => by cases h)
  have f2 : fL [49, 50, 32, 45, 45, 32, 121] = (2, ⟨#[49, 50]⟩, 2, 0) := by
    rw [fL_nu (m := 2) (by decide) (by decide) (by rfl), if_neg (by decide), if_pos (by decide)]
    rfl
  have g3 : gapN [32, 45, 45, 32, 121] = 5 := by
    rw [gap_blank (by decide), gap_dash (by decide), show sp pN [45, 45, 32, 121] = 4 by rfl]
    show 4 + gapN [] + 1 = 5
    rw [gap_nil]
  rw [scanL_go (by rw [g0]; decide) (by rw [g0]; exact f0), g0]
  show (if (scanL [60, 61, 49, 50, 32, 45, 45, 32, 121] 1).2.2 = 0 then (1, ⟨#[120]⟩, 0) :: (scanL [60, 61, 49, 50, 32, 45, 45, 32, 121] 1).1 else [], (scanL [60, 61, 49, 50, 32, 45, 45, 32, 121] 1).2) = (T1, 0, 0)
  have e1 : scanL [60, 61, 49, 50, 32, 45, 45, 32, 121] 1 = ([(4, ⟨#[60, 61]⟩, 1), (2, ⟨#[49, 50]⟩, 3)], 0, 0) := by
    rw [scanL_go (by rw [g1]; decide) (by rw [g1]; exact f1), g1]
    show (if (scanL [49, 50, 32, 45, 45, 32, 121] 3).2.2 = 0 then (4, ⟨#[60, 61]⟩, 1) :: (scanL [49, 50, 32, 45, 45, 32, 121] 3).1 else [], (scanL [49, 50, 32, 45, 45, 32, 121] 3).2) = _
    have e2 : scanL [49, 50, 32, 45, 45, 32, 121] 3 = ([(2, ⟨#[49, 50]⟩, 3)], 0, 0) := by
      rw [scanL_go (by rw [g2]; decide) (by rw [g2]; exact f2), g2]
      show (if (scanL [32, 45, 45, 32, 121] 5).2.2 = 0 then (2, ⟨#[49, 50]⟩, 3) :: (scanL [32, 45, 45, 32, 121] 5).1 else [], (scanL [32, 45, 45, 32, 121] 5).2) = _
      rw [scanL_end (by rw [g3]; decide)]
      rfl
    rw [e2]
    rfl
  rw [e1]
  rfl
theorem s2 : scanL [97, 32, 48, 49] 0 = ([], 2, 5) := by
  have g0 : gapN [97, 32, 48, 49] = 0 := gap_head (by decide) (fun h => by cases h)
  have f0 : fL [97, 32, 48, 49] = (1, ⟨#[97]⟩, 1, 0) := by
    rw [fL_id (m := 1) (by decide) (by rfl), if_pos (by decide), nmK, isKw_bt]
    rfl
  have g1 : gapN [32, 48, 49] = 1 := by
    rw [gap_blank (by decide), gap_head (by decide) (fun h => by cases h)]
  have f1 : fL [48, 49] = (0, ⟨#[]⟩, 0, 5) := by
    rw [fL_nu (m := 2) (by decide) (by decide) (by rfl), if_pos (by decide)]
  rw [scanL_go (by rw [g0]; decide) (by rw [g0]; exact f0), g0]
  show (if (scanL [32, 48, 49] 1).2.2 = 0 then _ :: (scanL [32, 48, 49] 1).1 else [], (scanL [32, 48, 49] 1).2) = _
  rw [scanL_err (a := 0) (tx := ⟨#[]⟩) (n := 0) (e := 5) (by rw [g1]; decide) (by rw [g1]; exact f1) (by decide), g1]
  rfl
theorem s3 : scanL [39, 49, 40, 48, 49, 41, 39] 0 = (T3, 0, 0) := by
  have g0 : gapN [39, 49, 40, 48, 49, 41, 39] = 0 := gap_head (by decide) (fun h => by cases h)
  have f0 : fL [39, 49, 40, 48, 49, 41, 39] = (5, ⟨#[49, 40, 48, 49, 41]⟩, 7, 0) := by
    rw [fL_wo (m := 5) (by rfl), if_pos (by rfl)]
    rfl
  rw [scanL_go (by rw [g0]; decide) (by rw [g0]; exact f0), g0]
  show (if (scanL [] 7).2.2 = 0 then _ :: (scanL [] 7).1 else [], (scanL [] 7).2) = _
  rw [scanL_end (by rw [gap_nil]; decide)]
  rfl
theorem i1 : idP ⟨#[120, 95, 49]⟩ = true := by
  have f : fst ⟨#[120, 95, 49]⟩ = (1, ⟨#[120, 95, 49]⟩, 3, 0) := by
    show fL [120, 95, 49] = _
    rw [fL_id (m := 3) (by decide) (by rfl), if_pos (by decide), nmK, isKw_bt]
    rfl
  rw [idP, f]
  rfl
theorem i2 : idP ⟨#[105, 102]⟩ = false := by
  have f : fst ⟨#[105, 102]⟩ = (3, ⟨#[105, 102]⟩, 2, 0) := by
    show fL [105, 102] = _
    rw [fL_id (m := 2) (by decide) (by rfl), if_pos (by decide), nmK, isKw_bt]
    rfl
  rw [idP, f]
  rfl
theorem k1 : isKw ⟨#[105, 102]⟩ = true := by
  show isKw (bt [105, 102]) = true
  rw [isKw_bt]; rfl
theorem j1 : jn T1 3 = ⟨#[120, 32, 60, 61, 32, 49, 50]⟩ := by
  apply ba_ext
  rw [show (3 : Nat) = T1.length from rfl, jn_all]
  rfl
theorem sameT_self (pl : Bool) (x : List Tk) : sameT pl x x = true := by
  unfold sameT
  rw [Bool.and_eq_true]
  refine ⟨by simp, ?_⟩
  rw [List.all_eq_true]
  rintro ⟨a, b⟩ h
  have : a = b := by
    have := List.of_mem_zip h
    obtain ⟨i, hi⟩ := List.getElem?_of_mem h
    rw [List.getElem?_zip_eq_some] at hi
    have := hi.1.symm.trans hi.2
    injection this
  subst this
  simp [tkE]
end Go.Proofs.YtbnddbhfnpdjeaaDoor
