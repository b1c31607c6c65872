/- heavy; the walk of ExprCounts. -/
import Derived.Test.YtfogkcccjemloaaGreatDoorGd
namespace Go.Proofs.YtfogkcccjemloaaGreatDoor
set_option linter.unusedVariables false
set_option linter.unusedSimpArgs false
open Go.RowKit Go.Sort
set_option maxHeartbeats 1000000 in
set_option maxRecDepth 20000 in
theorem heavy_any (x : Xt) (w : World) (hX : RdX w w.heap.size x) : Calls Tryz.prog 10 #[xV x] w (Bel (.bool (decide (500 < x.size))) w) := by
  obtain ⟨m, hm⟩ : ∃ m, min x.size 501 = m := ⟨_, rfl⟩
  have KW : Hid (∀ W, Below w.heap.size w W → Calls Tryz.prog 37 #[xV x, .int .i64 501] W (Bel (.int .i64 (m : Nat)) W)) := Lib.hid fun W h => by
    have := weigh_any x 501 W (hX.to h) (by omega) (by omega)
    rwa [hm] at this
  have hq : decide (500 < x.size) = decide (500 < m) := by rw [← hm, decide_eq_decide]; omega
  rw [hq]
  clear hq hm hX
  simp only [xV] at KW ⊢
  by_cases h : 500 < m
  · rw [decide_eq_true h]
    have u : (500 : Int) < (m : Int) := by omega
    go_enter Tryz.func10, Tryz.ntmps10
    go_wp2_with (go_at_call 37; (with_reducible refine (KW.out _ ?_).mono ?_); (focus ((repeat (first | (with_reducible exact Below.refl _ _) | (with_reducible assumption) | (with_reducible exact bel_box _) | (with_reducible refine bel_step ?_ (by with_reducible assumption)) | (with_reducible refine Below.drew ?_) | (with_reducible refine below_drewN ?_ _) | (with_reducible refine bel_alloc ?_ _))); done)); rintro e w1 ⟨rfl, hb1⟩)
    go_ret
    exact ⟨rfl, (by repeat (first | (with_reducible exact Below.refl _ _) | (with_reducible assumption) | (with_reducible exact bel_box _) | (with_reducible refine bel_step ?_ (by with_reducible assumption)) | (with_reducible refine Below.drew ?_) | (with_reducible refine below_drewN ?_ _) | (with_reducible refine bel_alloc ?_ _)))⟩
  · rw [decide_eq_false h]
    have u : (m : Int) ≤ (500 : Int) := by omega
    go_enter Tryz.func10, Tryz.ntmps10
    go_wp2_with (go_at_call 37; (with_reducible refine (KW.out _ ?_).mono ?_); (focus ((repeat (first | (with_reducible exact Below.refl _ _) | (with_reducible assumption) | (with_reducible exact bel_box _) | (with_reducible refine bel_step ?_ (by with_reducible assumption)) | (with_reducible refine Below.drew ?_) | (with_reducible refine below_drewN ?_ _) | (with_reducible refine bel_alloc ?_ _))); done)); rintro e w1 ⟨rfl, hb1⟩)
    go_ret
    exact ⟨ret_bool (decide_eq_false (by omega)), (by repeat (first | (with_reducible exact Below.refl _ _) | (with_reducible assumption) | (with_reducible exact bel_box _) | (with_reducible refine bel_step ?_ (by with_reducible assumption)) | (with_reducible refine Below.drew ?_) | (with_reducible refine below_drewN ?_ _) | (with_reducible refine bel_alloc ?_ _)))⟩
set_option maxHeartbeats 2000000 in
set_option maxRecDepth 20000 in
theorem counts_any (x : Xt) (kd : Int) (w : World) (hs : Std w) (hX : RdX w w.heap.size x) : Calls Tryz.prog 4 #[xV x, .int .i64 kd] w (Bel (.bool true) w) := by
  have KL : Hid (∀ W, Below w.heap.size w W → Calls Tryz.prog 11 #[] W (Bel (.bool true) W)) := Lib.hid fun W h => lives_any W (hs.to h)
  have KH : Hid (∀ W, Below w.heap.size w W → Calls Tryz.prog 10 #[xV x] W (Bel (.bool (decide (500 < x.size))) W)) := Lib.hid fun W h => heavy_any x W (hX.to h)
  by_cases h5 : 500 < x.size
  · rw [decide_eq_true h5] at KH
    simp only [xV] at KH ⊢
    clear h5 hX hs
    go_enter Tryz.func4, Tryz.ntmps4
    go_wp2_with (first
      | (go_at_call 10; (with_reducible refine (KH.out _ ?_).mono ?_); (focus ((repeat (first | (with_reducible exact Below.refl _ _) | (with_reducible assumption) | (with_reducible exact bel_box _) | (with_reducible refine bel_step ?_ (by with_reducible assumption)) | (with_reducible refine Below.drew ?_) | (with_reducible refine below_drewN ?_ _) | (with_reducible refine bel_alloc ?_ _))); done)); rintro e w1 ⟨rfl, hb1⟩)
      | (go_at_call 11; (with_reducible refine (KL.out _ ?_).mono ?_); (focus ((repeat (first | (with_reducible exact Below.refl _ _) | (with_reducible assumption) | (with_reducible exact bel_box _) | (with_reducible refine bel_step ?_ (by with_reducible assumption)) | (with_reducible refine Below.drew ?_) | (with_reducible refine below_drewN ?_ _) | (with_reducible refine bel_alloc ?_ _))); done)); rintro e w2 ⟨rfl, hb2⟩))
    go_ret
    exact ⟨rfl, (by repeat (first | (with_reducible exact Below.refl _ _) | (with_reducible assumption) | (with_reducible exact bel_box _) | (with_reducible refine bel_step ?_ (by with_reducible assumption)) | (with_reducible refine Below.drew ?_) | (with_reducible refine below_drewN ?_ _) | (with_reducible refine bel_alloc ?_ _)))⟩
  rw [decide_eq_false h5] at KH
  have K1 : Hid (∀ W, Below w.heap.size w W → Calls Tryz.prog 14 #[xV x] W (Bel (.int .i64 (x.size : Nat)) W)) := Lib.hid fun W h => size_any x W (hX.to h) (by omega)
  have K2 : Hid (∀ W, Below w.heap.size w W → Calls Tryz.prog 15 #[xV x] W (Bel (.int .i64 (x.size : Nat)) W)) := Lib.hid fun W h => rsize_any x W (hX.to h) (by omega)
  have K3 : Hid (∀ W, Below w.heap.size w W → Calls Tryz.prog 16 #[xV x] W (Bel (.int .i64 (x.depth : Nat)) W)) := Lib.hid fun W h => depth_any x W (hX.to h) (by omega)
  have K4 : Hid (∀ W, Below w.heap.size w W → Calls Tryz.prog 17 #[xV x] W (Bel (.int .i64 (x.depth : Nat)) W)) := Lib.hid fun W h => rdepth_any x W (hX.to h) (by omega)
  have K5 : Hid (∀ W, Below w.heap.size w W → Calls Tryz.prog 18 #[xV x, .int .i64 kd] W (Bel (.int .i64 ((x.list.countP fun y => y.k == kd) : Nat)) W)) := Lib.hid fun W h => count_any x kd W (hX.to h) (by omega)
  have K6 : Hid (∀ W, Below w.heap.size w W → Calls Tryz.prog 19 #[xV x, .int .i64 kd] W (Bel (.int .i64 ((x.list.countP fun y => y.k == kd) : Nat)) W)) := Lib.hid fun W h => rcount_any x kd W (hX.to h) (by omega)
  have K7 : Hid (∀ W, Below w.heap.size w W → Calls Tryz.prog 20 #[xV x] W (Bel (.bool (!x.list.any fun y => stK y.k)) W)) := Lib.hid fun W h => stateless_any x W (hX.to h) (by omega)
  have K8 : Hid (∀ W, Below w.heap.size w W → Calls Tryz.prog 21 #[xV x] W (Bel (.bool (!x.list.any fun y => stK y.k)) W)) := Lib.hid fun W h => rstateless_any x W (hX.to h) (by omega)
  generalize x.size = n1 at K1 K2
  generalize x.depth = n2 at K3 K4
  generalize (x.list.countP fun y => y.k == kd) = n3 at K5 K6
  generalize (!x.list.any fun y => stK y.k) = n4 at K7 K8
  simp only [xV] at K1 K2 K3 K4 K5 K6 K7 K8 KH ⊢
  clear hX hs
  go_enter Tryz.func4, Tryz.ntmps4
  go_wp2_with (go_at_call 10; (with_reducible refine (KH.out _ ?_).mono ?_); (focus ((repeat (first | (with_reducible exact Below.refl _ _) | (with_reducible assumption) | (with_reducible exact bel_box _) | (with_reducible refine bel_step ?_ (by with_reducible assumption)) | (with_reducible refine Below.drew ?_) | (with_reducible refine below_drewN ?_ _) | (with_reducible refine bel_alloc ?_ _))); done)); rintro e w1 ⟨rfl, hv1⟩)
  obtain ⟨b0, b1, b2, b3, b4, b5, _⟩ := bxW_cells (w := w) (x := x) (W := w1) hv1
  have hB1 := bxW_below (w := w) (x := x) hv1
  have k0 := cell_regrown b0
  have k1 := cell_regrown b1
  have k2 := cell_regrown b2
  have k3 := cell_regrown b3
  have k4 := cell_regrown b4
  have k5 := cell_regrown b5
  have c1 := fun dd os => Calls.regrown_of (K1.out (grow (redrawn w1 dd) os) (hB1.trans ((below_regrown w1 dd os).mono hB1.size)))
  have c2 := fun dd os => Calls.regrown_of (K2.out (grow (redrawn w1 dd) os) (hB1.trans ((below_regrown w1 dd os).mono hB1.size)))
  have c3 := fun dd os => Calls.regrown_of (K3.out (grow (redrawn w1 dd) os) (hB1.trans ((below_regrown w1 dd os).mono hB1.size)))
  have c4 := fun dd os => Calls.regrown_of (K4.out (grow (redrawn w1 dd) os) (hB1.trans ((below_regrown w1 dd os).mono hB1.size)))
  have c5 := fun dd os => Calls.regrown_of (K5.out (grow (redrawn w1 dd) os) (hB1.trans ((below_regrown w1 dd os).mono hB1.size)))
  have c6 := fun dd os => Calls.regrown_of (K6.out (grow (redrawn w1 dd) os) (hB1.trans ((below_regrown w1 dd os).mono hB1.size)))
  have c7 := fun dd os => Calls.regrown_of (K7.out (grow (redrawn w1 dd) os) (hB1.trans ((below_regrown w1 dd os).mono hB1.size)))
  have c8 := fun dd os => Calls.regrown_of (K8.out (grow (redrawn w1 dd) os) (hB1.trans ((below_regrown w1 dd os).mono hB1.size)))
  have c9 := fun dd os => Calls.regrown_of (KL.out (grow (redrawn w1 dd) os) (hB1.trans ((below_regrown w1 dd os).mono hB1.size)))
  refine wp_region_quiet_below (by kernel_rfl) (by kernel_rfl) ?_
  repeat (quiet_step (first | with_reducible exact c1 _ _ | with_reducible exact c2 _ _ | with_reducible exact c3 _ _ | with_reducible exact c4 _ _ | with_reducible exact c5 _ _ | with_reducible exact c6 _ _ | with_reducible exact c7 _ _ | with_reducible exact c8 _ _ | with_reducible exact c9 _ _))
  refine wpQuiet_nil ?_
  intro _ hw'
  obtain ⟨⟨dq, osq⟩, hw''⟩ := hw'
  subst hw''
  have hv2 := hv1.trans ((below_regrown w1 dq osq).mono hv1.size)
  generalize grow (redrawn w1 dq) osq = w2 at hv2 ⊢
  clear b0 b1 b2 b3 b4 b5 k0 k1 k2 k3 k4 k5 c1 c2 c3 c4 c5 c6 c7 c8 c9
  go_wp2
  go_ret
  exact ⟨rfl, bxW_below (w := w) (x := x) hv2⟩
end Go.Proofs.YtfogkcccjemloaaGreatDoor
