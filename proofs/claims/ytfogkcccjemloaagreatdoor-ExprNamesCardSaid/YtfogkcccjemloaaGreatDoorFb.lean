/- Depth of both. -/
import Derived.Test.YtfogkcccjemloaaGreatDoorEb
namespace Go.Proofs.YtfogkcccjemloaaGreatDoor
set_option linter.unusedVariables false
set_option linter.unusedSimpArgs false
open Go.RowKit
theorem parts_max (x : Xt) : ∃ M : Nat → Nat, x.depth = 1 + M x.ar.length ∧ M 0 = 0 ∧ Hid (∀ (k : Nat) (y : Xt), x.ar[k]? = some y → M (k + 1) = max (M k) y.depth) := by
  refine ⟨fun k => ((x.ar.take k).map Xt.depth).foldl max 0, ?_, rfl, Lib.hid fun k y hy => ?_⟩
  · simp only [List.take_length]
    exact Xt.depth_eq x
  · show ((x.ar.take (k + 1)).map Xt.depth).foldl max 0 = _
    rw [take_succ_of hy, List.map_append, List.foldl_append]
    rfl
theorem foldl_max_le (l : List Nat) (b m : Nat) (hb : b ≤ m) (h : ∀ a ∈ l, a ≤ m) : l.foldl max b ≤ m := by
  induction l generalizing b with
  | nil => exact hb
  | cons a l ih => exact ih _ (by have := h a (by simp); omega) (fun c hc => h c (by simp [hc]))
theorem mem_sum_le (l : List Xt) (a : Xt) (h : a ∈ l) : a.size ≤ (l.map Xt.size).sum := by
  induction l with
  | nil => cases h
  | cons b l ih =>
    rcases List.mem_cons.1 h with rfl | h
    · simp
    · have := ih h; simp; omega
theorem depth_le (x : Xt) : x.depth ≤ x.size := by
  induction x using Xt.ind with
  | h x ih =>
    rw [Xt.depth_eq, Xt.size_eq]
    have : (x.ar.map Xt.depth).foldl max 0 ≤ (x.ar.map Xt.size).sum := foldl_max_le _ _ _ (Nat.zero_le _) fun a ha => by
      obtain ⟨y, hy, rfl⟩ := List.mem_map.1 ha
      exact Nat.le_trans (ih y hy) (mem_sum_le _ _ hy)
    omega
theorem size_kid {x y : Xt} (h : y ∈ x.ar) : y.size < x.size := by
  rw [Xt.size_eq x]
  have := mem_sum_le _ _ h
  omega
theorem depth_pos (x : Xt) : 1 ≤ x.depth := by rw [Xt.depth_eq]; omega
set_option maxHeartbeats 1000000 in
set_option maxRecDepth 20000 in
theorem rdepth_any (x : Xt) : ∀ w, RdX w w.heap.size x → x.size ≤ 100000 → Calls Tryz.prog 17 #[xV x] w (Bel (.int .i64 (x.depth : Nat)) w) := by
  induction x using Xt.ind with
  | h x ih =>
    intro w hX hS
    have h9 := hX.len.1
    unfold maxLen at h9
    have HX := Lib.hid hX
    have IH := Lib.hid ih
    have HK := Lib.hid (fun y (h : y ∈ x.ar) => size_kid h)
    have hdl := depth_le x
    clear hX ih
    obtain ⟨M, hM, hM0, HM⟩ := parts_max x
    rw [hM] at hdl ⊢
    clear hM
    simp only [xV] at IH ⊢
    go_enter Tryz.func17, Tryz.ntmps17
    go_wp2
    go_loopw [3, 4] (fun n i wr => ∃ k : Nat, k ≤ x.ar.length ∧ i = .int .i64 (k : Int) ∧ n = .int .i64 (M k : Int) ∧ Below (bxW w x).heap.size (bxW w x) wr) (fun _ i _ => x.ar.length - (intOf i).toNat)
    case atStart => exact ⟨0, by omega, rfl, by rw [hM0]; rfl, Below.refl _ _⟩
    case round =>
      obtain ⟨k, hk, rfl, rfl, hbl⟩ := hrel
      obtain ⟨b0, b1, b2, b3, b4, b5, b6⟩ := bxW_cells hbl
      have hBW := bxW_below hbl
      by_cases hlt : k < x.ar.length
      · obtain ⟨ad, y, hA, had, hy, hm, ⟨c0, c1, c2, c3, c4, c5⟩, hr⟩ := (HX.out.to hBW).at_ hlt
        rw [hA] at b5
        clear hA
        have hn1 := HM.out k y hy
        have hys := HK.out y hm
        clear hy
        go_wp2_with (go_at_call 17; (with_reducible refine (IH.out y hm _ (hr.to ?_) (by omega)).mono ?_); (focus ((repeat (first | (with_reducible exact Below.refl _ _) | (with_reducible assumption) | (with_reducible exact bel_box _) | (with_reducible refine bel_step ?_ (by with_reducible assumption)) | (with_reducible refine Below.drew ?_) | (with_reducible refine below_drewN ?_ _) | (with_reducible refine bel_alloc ?_ _))); done)); rintro e w1 ⟨rfl, hb1⟩)
        all_goals exact ⟨⟨k + 1, by omega, by congr 1, by congr 1; omega, (by repeat (first | (with_reducible exact Below.refl _ _) | (with_reducible assumption) | (with_reducible exact bel_box _) | (with_reducible refine bel_step ?_ (by with_reducible assumption)) | (with_reducible refine Below.drew ?_) | (with_reducible refine below_drewN ?_ _) | (with_reducible refine bel_alloc ?_ _)))⟩, by simp [intOf]; omega⟩
      · obtain rfl : k = x.ar.length := by omega
        go_wp2
        go_ret
        exact ⟨congrArg (fun z : Int => Ending.returned (.int .i64 z)) (by omega), hBW⟩
set_option maxHeartbeats 1000000 in
set_option maxRecDepth 20000 in
theorem depth_any (x : Xt) : ∀ w, RdX w w.heap.size x → x.size ≤ 100000 → Calls Tryz.prog 16 #[xV x] w (Bel (.int .i64 (x.depth : Nat)) w) := by
  induction x using Xt.ind with
  | h x ih =>
    intro w hX hS
    have h9 := hX.len.1
    unfold maxLen at h9
    have HX := Lib.hid hX
    have IH := Lib.hid ih
    have HK := Lib.hid (fun y (h : y ∈ x.ar) => size_kid h)
    have hdl := depth_le x
    clear hX ih
    obtain ⟨M, hM, hM0, HM⟩ := parts_max x
    rw [hM] at hdl ⊢
    clear hM
    simp only [xV] at IH ⊢
    go_enter Tryz.func16, Tryz.ntmps16
    go_wp2
    go_loopw [3, 9] (fun n i wr => ∃ k : Nat, k ≤ x.ar.length ∧ i = .int .i64 (k : Int) ∧ n = .int .i64 (M k : Int) ∧ Below (bxW w x).heap.size (bxW w x) wr) (fun _ i _ => x.ar.length - (intOf i).toNat)
    case atStart => exact ⟨0, by omega, rfl, by rw [hM0]; rfl, Below.refl _ _⟩
    case round =>
      obtain ⟨k, hk, rfl, rfl, hbl⟩ := hrel
      have hBW := bxW_below hbl
      by_cases hlt : k < x.ar.length
      · obtain ⟨ad, y, hA, had, hy, hm, ⟨c0, c1, c2, c3, c4, c5⟩, hr⟩ := (HX.out.to hBW).at_ hlt
        rw [hA]
        clear hA
        have hn1 := HM.out k y hy
        have hys := HK.out y hm
        clear hy
        go_wp2_with (go_at_call 16; (with_reducible refine (IH.out y hm _ (hr.to ?_) (by omega)).mono ?_); (focus ((repeat (first | (with_reducible exact Below.refl _ _) | (with_reducible assumption) | (with_reducible exact bel_box _) | (with_reducible refine bel_step ?_ (by with_reducible assumption)) | (with_reducible refine Below.drew ?_) | (with_reducible refine below_drewN ?_ _) | (with_reducible refine bel_alloc ?_ _))); done)); rintro e w1 ⟨rfl, hb1⟩)
        all_goals exact ⟨⟨k + 1, by omega, by congr 1, by congr 1; omega, (by repeat (first | (with_reducible exact Below.refl _ _) | (with_reducible assumption) | (with_reducible exact bel_box _) | (with_reducible refine bel_step ?_ (by with_reducible assumption)) | (with_reducible refine Below.drew ?_) | (with_reducible refine below_drewN ?_ _) | (with_reducible refine bel_alloc ?_ _)))⟩, by simp [intOf]; omega⟩
      · obtain rfl : k = x.ar.length := by omega
        go_wp2
        go_ret
        exact ⟨congrArg (fun z : Int => Ending.returned (.int .i64 z)) (by omega), hBW⟩
end Go.Proofs.YtfogkcccjemloaaGreatDoor
