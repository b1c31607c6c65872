/- Texts of one chain, in one file. -/
import Derived.Test.YtfogkcccjemloaaGreatDoorQ3
import Derived.Test.YtfogkcccjemloaaGreatDoorQ1
import Derived.Test.YtfogkcccjemloaaGreatDoorRows
import Derived.Stop.LaidErr
import Derived.Lib.LaidTab
import Derived.LaidMore
import Derived.Lay
import Derived.LaidOnce
import Derived.ChangeSlices
import Derived.ChangeSame
import Derived.ChangeMaps
import Derived.Stop.Joined
/- heavy; the walk of ExprCounts. -/
namespace Go.Proofs.YtfogkcccjemloaaGreatDoor
set_option linter.unusedVariables false
set_option linter.unusedSimpArgs false
open Go.RowKit Go.Sort
set_option maxHeartbeats 1000000 in
set_option maxRecDepth 20000 in
theorem heavy_any (x : Xt) (w : World) (hX : RdX w w.heap.size x) : Calls Tryz.prog 10 #[xV x] w (Bel (.bool (decide (500 < x.size))) w) := by
  obtain ⟨m, hm⟩ : ∃ m, min x.size 501 = m := ⟨_, rfl⟩
  have KW : Hid (∀ W, Below w.heap.size w W → Calls Tryz.prog 37 #[xV x, .int .i64 501] W (Bel (.int .i64 (m : Nat)) W)) := Lib.hid fun W h => by
    have := weigh_any x 501 W (hX.to h) (by omega) (by omega)
    rwa [hm] at this
  have hq : decide (500 < x.size) = decide (500 < m) := by rw [← hm, decide_eq_decide]; omega
  rw [hq]
  clear hq hm hX
  simp only [xV] at KW ⊢
  by_cases h : 500 < m
  · rw [decide_eq_true h]
    have u : (500 : Int) < (m : Int) := by omega
    go_enter Tryz.func10, Tryz.ntmps10
    go_wp2_with (go_at_call 37; (with_reducible refine (KW.out _ ?_).mono ?_); (focus ((repeat (first | (with_reducible exact Below.refl _ _) | (with_reducible assumption) | (with_reducible exact bel_box _) | (with_reducible refine bel_step ?_ (by with_reducible assumption)) | (with_reducible refine Below.drew ?_) | (with_reducible refine below_drewN ?_ _) | (with_reducible refine bel_alloc ?_ _))); done)); rintro e w1 ⟨rfl, hb1⟩)
    go_ret
    exact ⟨rfl, (by repeat (first | (with_reducible exact Below.refl _ _) | (with_reducible assumption) | (with_reducible exact bel_box _) | (with_reducible refine bel_step ?_ (by with_reducible assumption)) | (with_reducible refine Below.drew ?_) | (with_reducible refine below_drewN ?_ _) | (with_reducible refine bel_alloc ?_ _)))⟩
  · rw [decide_eq_false h]
    have u : (m : Int) ≤ (500 : Int) := by omega
    go_enter Tryz.func10, Tryz.ntmps10
    go_wp2_with (go_at_call 37; (with_reducible refine (KW.out _ ?_).mono ?_); (focus ((repeat (first | (with_reducible exact Below.refl _ _) | (with_reducible assumption) | (with_reducible exact bel_box _) | (with_reducible refine bel_step ?_ (by with_reducible assumption)) | (with_reducible refine Below.drew ?_) | (with_reducible refine below_drewN ?_ _) | (with_reducible refine bel_alloc ?_ _))); done)); rintro e w1 ⟨rfl, hb1⟩)
    go_ret
    exact ⟨ret_bool (decide_eq_false (by omega)), (by repeat (first | (with_reducible exact Below.refl _ _) | (with_reducible assumption) | (with_reducible exact bel_box _) | (with_reducible refine bel_step ?_ (by with_reducible assumption)) | (with_reducible refine Below.drew ?_) | (with_reducible refine below_drewN ?_ _) | (with_reducible refine bel_alloc ?_ _)))⟩
set_option maxHeartbeats 2000000 in
set_option maxRecDepth 20000 in
theorem counts_any (x : Xt) (kd : Int) (w : World) (hs : Std w) (hX : RdX w w.heap.size x) : Calls Tryz.prog 4 #[xV x, .int .i64 kd] w (Bel (.bool true) w) := by
  have KL : Hid (∀ W, Below w.heap.size w W → Calls Tryz.prog 11 #[] W (Bel (.bool true) W)) := Lib.hid fun W h => lives_any W (hs.to h)
  have KH : Hid (∀ W, Below w.heap.size w W → Calls Tryz.prog 10 #[xV x] W (Bel (.bool (decide (500 < x.size))) W)) := Lib.hid fun W h => heavy_any x W (hX.to h)
  by_cases h5 : 500 < x.size
  · rw [decide_eq_true h5] at KH
    simp only [xV] at KH ⊢
    clear h5 hX hs
    go_enter Tryz.func4, Tryz.ntmps4
    go_wp2_with (first
      | (go_at_call 10; (with_reducible refine (KH.out _ ?_).mono ?_); (focus ((repeat (first | (with_reducible exact Below.refl _ _) | (with_reducible assumption) | (with_reducible exact bel_box _) | (with_reducible refine bel_step ?_ (by with_reducible assumption)) | (with_reducible refine Below.drew ?_) | (with_reducible refine below_drewN ?_ _) | (with_reducible refine bel_alloc ?_ _))); done)); rintro e w1 ⟨rfl, hb1⟩)
      | (go_at_call 11; (with_reducible refine (KL.out _ ?_).mono ?_); (focus ((repeat (first | (with_reducible exact Below.refl _ _) | (with_reducible assumption) | (with_reducible exact bel_box _) | (with_reducible refine bel_step ?_ (by with_reducible assumption)) | (with_reducible refine Below.drew ?_) | (with_reducible refine below_drewN ?_ _) | (with_reducible refine bel_alloc ?_ _))); done)); rintro e w2 ⟨rfl, hb2⟩))
    go_ret
    exact ⟨rfl, (by repeat (first | (with_reducible exact Below.refl _ _) | (with_reducible assumption) | (with_reducible exact bel_box _) | (with_reducible refine bel_step ?_ (by with_reducible assumption)) | (with_reducible refine Below.drew ?_) | (with_reducible refine below_drewN ?_ _) | (with_reducible refine bel_alloc ?_ _)))⟩
  rw [decide_eq_false h5] at KH
  have K1 : Hid (∀ W, Below w.heap.size w W → Calls Tryz.prog 14 #[xV x] W (Bel (.int .i64 (x.size : Nat)) W)) := Lib.hid fun W h => size_any x W (hX.to h) (by omega)
  have K2 : Hid (∀ W, Below w.heap.size w W → Calls Tryz.prog 15 #[xV x] W (Bel (.int .i64 (x.size : Nat)) W)) := Lib.hid fun W h => rsize_any x W (hX.to h) (by omega)
  have K3 : Hid (∀ W, Below w.heap.size w W → Calls Tryz.prog 16 #[xV x] W (Bel (.int .i64 (x.depth : Nat)) W)) := Lib.hid fun W h => depth_any x W (hX.to h) (by omega)
  have K4 : Hid (∀ W, Below w.heap.size w W → Calls Tryz.prog 17 #[xV x] W (Bel (.int .i64 (x.depth : Nat)) W)) := Lib.hid fun W h => rdepth_any x W (hX.to h) (by omega)
  have K5 : Hid (∀ W, Below w.heap.size w W → Calls Tryz.prog 18 #[xV x, .int .i64 kd] W (Bel (.int .i64 ((x.list.countP fun y => y.k == kd) : Nat)) W)) := Lib.hid fun W h => count_any x kd W (hX.to h) (by omega)
  have K6 : Hid (∀ W, Below w.heap.size w W → Calls Tryz.prog 19 #[xV x, .int .i64 kd] W (Bel (.int .i64 ((x.list.countP fun y => y.k == kd) : Nat)) W)) := Lib.hid fun W h => rcount_any x kd W (hX.to h) (by omega)
  have K7 : Hid (∀ W, Below w.heap.size w W → Calls Tryz.prog 20 #[xV x] W (Bel (.bool (!x.list.any fun y => stK y.k)) W)) := Lib.hid fun W h => stateless_any x W (hX.to h) (by omega)
  have K8 : Hid (∀ W, Below w.heap.size w W → Calls Tryz.prog 21 #[xV x] W (Bel (.bool (!x.list.any fun y => stK y.k)) W)) := Lib.hid fun W h => rstateless_any x W (hX.to h) (by omega)
  generalize x.size = n1 at K1 K2
  generalize x.depth = n2 at K3 K4
  generalize (x.list.countP fun y => y.k == kd) = n3 at K5 K6
  generalize (!x.list.any fun y => stK y.k) = n4 at K7 K8
  simp only [xV] at K1 K2 K3 K4 K5 K6 K7 K8 KH ⊢
  clear hX hs
  go_enter Tryz.func4, Tryz.ntmps4
  go_wp2_with (go_at_call 10; (with_reducible refine (KH.out _ ?_).mono ?_); (focus ((repeat (first | (with_reducible exact Below.refl _ _) | (with_reducible assumption) | (with_reducible exact bel_box _) | (with_reducible refine bel_step ?_ (by with_reducible assumption)) | (with_reducible refine Below.drew ?_) | (with_reducible refine below_drewN ?_ _) | (with_reducible refine bel_alloc ?_ _))); done)); rintro e w1 ⟨rfl, hv1⟩)
  obtain ⟨b0, b1, b2, b3, b4, b5, _⟩ := bxW_cells (w := w) (x := x) (W := w1) hv1
  have hB1 := bxW_below (w := w) (x := x) hv1
  have k0 := cell_regrown b0
  have k1 := cell_regrown b1
  have k2 := cell_regrown b2
  have k3 := cell_regrown b3
  have k4 := cell_regrown b4
  have k5 := cell_regrown b5
  have c1 := fun dd os => Calls.regrown_of (K1.out (grow (redrawn w1 dd) os) (hB1.trans ((below_regrown w1 dd os).mono hB1.size)))
  have c2 := fun dd os => Calls.regrown_of (K2.out (grow (redrawn w1 dd) os) (hB1.trans ((below_regrown w1 dd os).mono hB1.size)))
  have c3 := fun dd os => Calls.regrown_of (K3.out (grow (redrawn w1 dd) os) (hB1.trans ((below_regrown w1 dd os).mono hB1.size)))
  have c4 := fun dd os => Calls.regrown_of (K4.out (grow (redrawn w1 dd) os) (hB1.trans ((below_regrown w1 dd os).mono hB1.size)))
  have c5 := fun dd os => Calls.regrown_of (K5.out (grow (redrawn w1 dd) os) (hB1.trans ((below_regrown w1 dd os).mono hB1.size)))
  have c6 := fun dd os => Calls.regrown_of (K6.out (grow (redrawn w1 dd) os) (hB1.trans ((below_regrown w1 dd os).mono hB1.size)))
  have c7 := fun dd os => Calls.regrown_of (K7.out (grow (redrawn w1 dd) os) (hB1.trans ((below_regrown w1 dd os).mono hB1.size)))
  have c8 := fun dd os => Calls.regrown_of (K8.out (grow (redrawn w1 dd) os) (hB1.trans ((below_regrown w1 dd os).mono hB1.size)))
  have c9 := fun dd os => Calls.regrown_of (KL.out (grow (redrawn w1 dd) os) (hB1.trans ((below_regrown w1 dd os).mono hB1.size)))
  refine wp_region_quiet_below (by kernel_rfl) (by kernel_rfl) ?_
  repeat (quiet_step (first | with_reducible exact c1 _ _ | with_reducible exact c2 _ _ | with_reducible exact c3 _ _ | with_reducible exact c4 _ _ | with_reducible exact c5 _ _ | with_reducible exact c6 _ _ | with_reducible exact c7 _ _ | with_reducible exact c8 _ _ | with_reducible exact c9 _ _))
  refine wpQuiet_nil ?_
  intro _ hw'
  obtain ⟨⟨dq, osq⟩, hw''⟩ := hw'
  subst hw''
  have hv2 := hv1.trans ((below_regrown w1 dq osq).mono hv1.size)
  generalize grow (redrawn w1 dq) osq = w2 at hv2 ⊢
  clear b0 b1 b2 b3 b4 b5 k0 k1 k2 k3 k4 k5 c1 c2 c3 c4 c5 c6 c7 c8 c9
  go_wp2
  go_ret
  exact ⟨rfl, bxW_below (w := w) (x := x) hv2⟩
end Go.Proofs.YtfogkcccjemloaaGreatDoor
/- The walk of ExprSame. -/
namespace Go.Proofs.YtfogkcccjemloaaGreatDoor
set_option linter.unusedVariables false
set_option linter.unusedSimpArgs false
open Go.RowKit Go.Sort
theorem bx_two {w W : World} {a b : Xt} (h : Below (bxW (bxW w a) b).heap.size (bxW (bxW w a) b) W) :
    (W.cell? ⟨w.heap.size, 0, none⟩ = some (.int .i64 a.k) ∧ W.cell? ⟨w.heap.size, 1, none⟩ = some (.int .i64 a.op) ∧ W.cell? ⟨w.heap.size, 2, none⟩ = some (.int .i64 a.t) ∧ W.cell? ⟨w.heap.size, 3, none⟩ = some (.int .i64 a.v) ∧ W.cell? ⟨w.heap.size, 4, none⟩ = some (.string a.nm) ∧ W.cell? ⟨w.heap.size, 5, none⟩ = some (.slice a.A a.ar.length a.c)) ∧
    (W.cell? ⟨w.heap.size + 1, 0, none⟩ = some (.int .i64 b.k) ∧ W.cell? ⟨w.heap.size + 1, 1, none⟩ = some (.int .i64 b.op) ∧ W.cell? ⟨w.heap.size + 1, 2, none⟩ = some (.int .i64 b.t) ∧ W.cell? ⟨w.heap.size + 1, 3, none⟩ = some (.int .i64 b.v) ∧ W.cell? ⟨w.heap.size + 1, 4, none⟩ = some (.string b.nm) ∧ W.cell? ⟨w.heap.size + 1, 5, none⟩ = some (.slice b.A b.ar.length b.c)) ∧ Below w.heap.size w W := by
  have h1 : Below (bxW w a).heap.size (bxW w a) W := (bel_box _).trans (h.mono (by rw [bxW_size (bxW w a)]; omega))
  obtain ⟨a0, a1, a2, a3, a4, a5, _⟩ := bxW_cells h1
  obtain ⟨d0, d1, d2, d3, d4, d5, _⟩ := bxW_cells h
  rw [bxW_size] at d0 d1 d2 d3 d4 d5
  exact ⟨⟨a0, a1, a2, a3, a4, a5⟩, ⟨d0, d1, d2, d3, d4, d5⟩, bxW_below h1⟩
set_option maxHeartbeats 2000000 in
set_option maxRecDepth 20000 in
theorem exprsame_any (a b : Xt) (w : World) (hs : Std w) (hA : RdX w w.heap.size a) (hB : RdX w w.heap.size b) : Calls Tryz.prog 6 #[xV a, xV b] w (Bel (.bool true) w) := by
  have KL : Hid (∀ W, Below w.heap.size w W → Calls Tryz.prog 11 #[] W (Bel (.bool true) W)) := Lib.hid fun W h => lives_any W (hs.to h)
  have HA : Hid (∀ W, Below w.heap.size w W → Calls Tryz.prog 10 #[xV a] W (Bel (.bool (decide (500 < a.size))) W)) := Lib.hid fun W h => heavy_any a W (hA.to h)
  have HB : Hid (∀ W, Below w.heap.size w W → Calls Tryz.prog 10 #[xV b] W (Bel (.bool (decide (500 < b.size))) W)) := Lib.hid fun W h => heavy_any b W (hB.to h)
  by_cases h5 : 500 < a.size
  · rw [decide_eq_true h5] at HA
    simp only [xV] at HA ⊢
    clear h5 hA hB HB hs
    go_enter Tryz.func6, Tryz.ntmps6
    go_wp2_with (first
      | (go_at_call 10; (with_reducible refine (HA.out _ ?_).mono ?_); (focus ((repeat (first | (with_reducible exact Below.refl _ _) | (with_reducible assumption) | (with_reducible exact bel_box _) | (with_reducible refine bel_step ?_ (by with_reducible assumption)) | (with_reducible refine Below.drew ?_) | (with_reducible refine below_drewN ?_ _) | (with_reducible refine bel_alloc ?_ _))); done)); rintro e w1 ⟨rfl, hb1⟩)
      | (go_at_call 11; (with_reducible refine (KL.out _ ?_).mono ?_); (focus ((repeat (first | (with_reducible exact Below.refl _ _) | (with_reducible assumption) | (with_reducible exact bel_box _) | (with_reducible refine bel_step ?_ (by with_reducible assumption)) | (with_reducible refine Below.drew ?_) | (with_reducible refine below_drewN ?_ _) | (with_reducible refine bel_alloc ?_ _))); done)); rintro e w2 ⟨rfl, hb2⟩))
    go_ret
    exact ⟨rfl, (by repeat (first | (with_reducible exact Below.refl _ _) | (with_reducible assumption) | (with_reducible exact bel_box _) | (with_reducible refine bel_step ?_ (by with_reducible assumption)) | (with_reducible refine Below.drew ?_) | (with_reducible refine below_drewN ?_ _) | (with_reducible refine bel_alloc ?_ _)))⟩
  rw [decide_eq_false h5] at HA
  by_cases h6 : 500 < b.size
  · rw [decide_eq_true h6] at HB
    simp only [xV] at HA HB ⊢
    clear h5 hA hB hs h6
    go_enter Tryz.func6, Tryz.ntmps6
    go_wp2_with (first
      | (go_at_call 10; (with_reducible refine (HA.out _ ?_).mono ?_); (focus ((repeat (first | (with_reducible exact Below.refl _ _) | (with_reducible assumption) | (with_reducible exact bel_box _) | (with_reducible refine bel_step ?_ (by with_reducible assumption)) | (with_reducible refine Below.drew ?_) | (with_reducible refine below_drewN ?_ _) | (with_reducible refine bel_alloc ?_ _))); done)); rintro e w1 ⟨rfl, hb1⟩; obtain ⟨⟨a0, a1, a2, a3, a4, a5⟩, ⟨d0, d1, d2, d3, d4, d5⟩, hbw⟩ := bx_two hb1; clear hbw)
      | (go_at_call 10; (with_reducible refine (HB.out _ ?_).mono ?_); (focus ((repeat (first | (with_reducible exact Below.refl _ _) | (with_reducible assumption) | (with_reducible exact bel_box _) | (with_reducible refine bel_step ?_ (by with_reducible assumption)) | (with_reducible refine Below.drew ?_) | (with_reducible refine below_drewN ?_ _) | (with_reducible refine bel_alloc ?_ _))); done)); rintro e w2 ⟨rfl, hb2⟩)
      | (go_at_call 11; (with_reducible refine (KL.out _ ?_).mono ?_); (focus ((repeat (first | (with_reducible exact Below.refl _ _) | (with_reducible assumption) | (with_reducible exact bel_box _) | (with_reducible refine bel_step ?_ (by with_reducible assumption)) | (with_reducible refine Below.drew ?_) | (with_reducible refine below_drewN ?_ _) | (with_reducible refine bel_alloc ?_ _))); done)); rintro e w3 ⟨rfl, hb3⟩))
    go_ret
    exact ⟨rfl, (by repeat (first | (with_reducible exact Below.refl _ _) | (with_reducible assumption) | (with_reducible exact bel_box _) | (with_reducible refine bel_step ?_ (by with_reducible assumption)) | (with_reducible refine Below.drew ?_) | (with_reducible refine below_drewN ?_ _) | (with_reducible refine bel_alloc ?_ _)))⟩
  rw [decide_eq_false h6] at HB
  have K1 : Hid (∀ W, Below w.heap.size w W → Calls Tryz.prog 28 #[xV a, xV b] W (Bel (.bool (sameX a b)) W)) := Lib.hid fun W h => sameX_any a b W (hA.to h) (hB.to h) (by omega)
  have K2 : Hid (∀ W, Below w.heap.size w W → Calls Tryz.prog 29 #[xV a, xV b] W (Bel (.bool (sameX a b)) W)) := Lib.hid fun W h => rsameX_any a b W (hA.to h) (hB.to h) (by omega)
  have K3 : Hid (∀ W, Below w.heap.size w W → Calls Tryz.prog 28 #[xV a, xV a] W (Bel (.bool true) W)) := Lib.hid fun W h => by have := sameX_any a a W (hA.to h) (hA.to h) (by omega); rwa [sameX_refl] at this
  have K4 : Hid (∀ W, Below w.heap.size w W → Calls Tryz.prog 28 #[xV b, xV a] W (Bel (.bool (sameX a b)) W)) := Lib.hid fun W h => by have := sameX_any b a W (hB.to h) (hA.to h) (by omega); rwa [sameX_symm] at this
  generalize sameX a b = V at K1 K2 K4
  simp only [xV] at K1 K2 K3 K4 HA HB ⊢
  clear hA hB hs h5 h6
  go_enter Tryz.func6, Tryz.ntmps6
  go_wp2_with (first
    | (go_at_call 10; (with_reducible refine (HA.out _ ?_).mono ?_); (focus ((repeat (first | (with_reducible exact Below.refl _ _) | (with_reducible assumption) | (with_reducible exact bel_box _) | (with_reducible refine bel_step ?_ (by with_reducible assumption)) | (with_reducible refine Below.drew ?_) | (with_reducible refine below_drewN ?_ _) | (with_reducible refine bel_alloc ?_ _))); done)); rintro e w1 ⟨rfl, hb1⟩; obtain ⟨⟨a0, a1, a2, a3, a4, a5⟩, ⟨d0, d1, d2, d3, d4, d5⟩, hbw⟩ := bx_two hb1; clear hbw)
    | (go_at_call 10; (with_reducible refine (HB.out _ ?_).mono ?_); (focus ((repeat (first | (with_reducible exact Below.refl _ _) | (with_reducible assumption) | (with_reducible exact bel_box _) | (with_reducible refine bel_step ?_ (by with_reducible assumption)) | (with_reducible refine Below.drew ?_) | (with_reducible refine below_drewN ?_ _) | (with_reducible refine bel_alloc ?_ _))); done)); rintro e w2 ⟨rfl, hb2⟩))
  obtain ⟨⟨a0, a1, a2, a3, a4, a5⟩, ⟨d0, d1, d2, d3, d4, d5⟩, hv⟩ := bx_two (w := w) (a := a) (b := b) (W := w2) (by repeat (first | (with_reducible exact Below.refl _ _) | (with_reducible assumption) | (with_reducible exact bel_box _) | (with_reducible refine bel_step ?_ (by with_reducible assumption)) | (with_reducible refine Below.drew ?_) | (with_reducible refine below_drewN ?_ _) | (with_reducible refine bel_alloc ?_ _)))
  have k0 := cell_regrown a0
  have m0 := cell_regrown d0
  have k1 := cell_regrown a1
  have m1 := cell_regrown d1
  have k2 := cell_regrown a2
  have m2 := cell_regrown d2
  have k3 := cell_regrown a3
  have m3 := cell_regrown d3
  have k4 := cell_regrown a4
  have m4 := cell_regrown d4
  have k5 := cell_regrown a5
  have m5 := cell_regrown d5
  have c1 := fun dd os => Calls.regrown_of (K1.out (grow (redrawn w2 dd) os) (hv.trans ((below_regrown w2 dd os).mono hv.size)))
  have c2 := fun dd os => Calls.regrown_of (K2.out (grow (redrawn w2 dd) os) (hv.trans ((below_regrown w2 dd os).mono hv.size)))
  have c3 := fun dd os => Calls.regrown_of (K3.out (grow (redrawn w2 dd) os) (hv.trans ((below_regrown w2 dd os).mono hv.size)))
  have c4 := fun dd os => Calls.regrown_of (K4.out (grow (redrawn w2 dd) os) (hv.trans ((below_regrown w2 dd os).mono hv.size)))
  have c5 := fun dd os => Calls.regrown_of (KL.out (grow (redrawn w2 dd) os) (hv.trans ((below_regrown w2 dd os).mono hv.size)))
  refine wp_region_quiet_below (by kernel_rfl) (by kernel_rfl) ?_
  repeat (quiet_step (first | with_reducible exact c1 _ _ | with_reducible exact c2 _ _ | with_reducible exact c3 _ _ | with_reducible exact c4 _ _ | with_reducible exact c5 _ _))
  refine wpQuiet_nil ?_
  intro _ hw'
  obtain ⟨⟨dq, osq⟩, hw''⟩ := hw'
  subst hw''
  go_wp2
  go_ret
  exact ⟨rfl, hv.trans ((below_regrown w2 dq osq).mono hv.size)⟩
end Go.Proofs.YtfogkcccjemloaaGreatDoor
/- The frame of the rows of layer 6: what the listed variables give; an argument that is an expression. -/
namespace Go.Proofs.YtfogkcccjemloaaGreatDoor
set_option linter.unusedVariables false
set_option linter.unusedSimpArgs false
open Go.ChangeShapes Go.WideShapes Go.ChangeAt Go.RowKit Go.Deep Go.WideElems
def laidL : List (String × DataW Unit) := [("math/bits.deBruijn32tab", Rows.laid_math_bits_deBruijn32tab), ("math/bits.deBruijn64tab", Rows.laid_math_bits_deBruijn64tab), ("internal/strconv.uint64pow10", Rows.laid_internal_strconv_uint64pow10), ("unicode/utf8.acceptRanges", Rows.laid_unicode_utf8_acceptRanges), ("strconv.ErrRange", Rows.laid_strconv_ErrRange), ("strconv.ErrSyntax", Rows.laid_strconv_ErrSyntax), ("unicode/utf8.first", Rows.laid_unicode_utf8_first)]
theorem tyTab : (Tryz.prog.globals[5]?).map (·.type) = some 137 := by kernel_rfl
theorem tySyn : (Tryz.prog.globals[1]?).map (·.type) = some 83 := by kernel_rfl
theorem tyRng : (Tryz.prog.globals[2]?).map (·.type) = some 83 := by kernel_rfl
theorem star : "*" ++ "errors.errorString" = "*errors.errorString" := by decide
theorem rowES (u : TypeId) (h : Tryz.prog.typeName? 3 u = some "*errors.errorString") : u = 127 :=
  typeName_ptr_named (nm := "errors.errorString") (by rw [star]; kernel_rfl) (by kernel_rfl) (by decide) u (by rw [star]; exact h)
theorem std_of_laid {W : World} (h : laidMetH Tryz.prog laidL W) : Std W := by
  rw [MakeChecks.laidMetH_plain _ _ _ (by kernel_rfl)] at h
  have h3 : laidMet Tryz.prog (("internal/strconv.uint64pow10", Lib.tabData .u64 Lib.pow10Tab) :: [("unicode/utf8.acceptRanges", Rows.laid_unicode_utf8_acceptRanges), ("strconv.ErrRange", Rows.laid_strconv_ErrRange), ("strconv.ErrSyntax", Rows.laid_strconv_ErrSyntax), ("unicode/utf8.first", Rows.laid_unicode_utf8_first)]) W := h.tail.tail
  have h4 := h3.tail.tail
  have h5 := h4.tail
  refine ⟨Lib.tabIs_of_head gTab tyTab Tryz.underlying137 Tryz.underlying112 (by kernel_rfl) (by kernel_rfl) h3, ?_, ?_⟩
  · obtain ⟨a, s, hv, _⟩ := laid_sentinel h5 gSyn tySyn Tryz.underlying83 rowES Tryz.underlying127 Tryz.underlying129 rfl rfl Tryz.underlying9 (by kernel_rfl) (by kernel_rfl)
    exact ⟨_, _, hv⟩
  · obtain ⟨a, s, hv, _⟩ := laid_sentinel h4 gRng tyRng Tryz.underlying83 rowES Tryz.underlying127 Tryz.underlying129 rfl rfl Tryz.underlying9 (by kernel_rfl) (by kernel_rfl)
    exact ⟨_, _, hv⟩
theorem int_le {n : Int} (h : (Lit.int .i64 n).wf = true) : n ≤ 9223372036854775807 := by
  have h2 : n ≤ IntKind.i64.max := by simp only [Lit.wf, Bool.and_eq_true, decide_eq_true_eq] at h; exact h.2
  exact h2
theorem int_ge {n : Int} (h : (Lit.int .i64 n).wf = true) : -9223372036854775808 ≤ n := by
  have h2 : IntKind.i64.min ≤ n := by simp only [Lit.wf, Bool.and_eq_true, decide_eq_true_eq] at h; exact h.1
  exact h2
theorem u8_le {n : Int} (h : (Lit.int .u8 n).wf = true) : n ≤ 255 := by
  have h2 : n ≤ IntKind.u8.max := by simp only [Lit.wf, Bool.and_eq_true, decide_eq_true_eq] at h; exact h.2
  exact h2
theorem u8_ge {n : Int} (h : (Lit.int .u8 n).wf = true) : 0 ≤ n := by
  have h2 : IntKind.u8.min ≤ n := by simp only [Lit.wf, Bool.and_eq_true, decide_eq_true_eq] at h; exact h.1
  exact h2
section
variable {H : Type} {enc : TypeId × Value → H} {w : World} {held : Bool}
theorem array6 {cs : Array Value} (h : cs.size = 6) : ∃ a b c d e f, cs = #[a, b, c, d, e, f] := by
  rcases cs with ⟨l⟩
  match l, h with
  | [a, b, c, d, e, f], _ => exact ⟨a, b, c, d, e, f, rfl⟩
set_option maxRecDepth 100000 in
/-- an expression, opened -/
theorem open_expr {b0 : Nat} {r : Reach} {v : Value} {d : DataW H} {p : List MemPlace} (hv : Value.okWide Tryz.prog w r b0 24 v) (h : DataW.Trod enc Tryz.prog w 0 (fun _ => true) held 24 v d p) (hsz : ∀ n ∈ d.weights Tryz.prog 24, n ≤ reachBytes) :
    ∃ x : Xt, v = xV x ∧ RdX w w.heap.size x ∧ NmB x := by
  obtain ⟨cs, rfl, hs⟩ := okWide_struct Tryz.underlying24 hv
  obtain ⟨fuel, hf⟩ := h
  obtain ⟨x, hx, hR, hN⟩ := rd_expr Tryz.underlying24 (by kernel_rfl) rfl rfl rfl rfl rfl rfl (by kernel_rfl) (by kernel_rfl) (by kernel_rfl) (by kernel_rfl) (by kernel_rfl) (by kernel_rfl) Tryz.underlying3 Tryz.underlying3 Tryz.underlying3 Tryz.underlying3 Tryz.underlying9 Tryz.underlying22 fuel _ _ hf hsz
  refine ⟨x, ?_, hR, hN⟩
  have : cs.toList = _ := hx
  unfold xV
  congr 1
  exact Array.toList_inj.1 this
end
end Go.Proofs.YtfogkcccjemloaaGreatDoor
