/- Texts of one chain, in one file. -/
import Derived.Test.YtfogkcccjemloaaGreatDoorQ3
import Derived.Maps.Range
import Derived.Maps.RangeWalk
import Derived.Lib.QuietBelow
import Derived.Test.YtfogkcccjemloaaGreatDoorQ1
import Derived.ProofKit
import Derived.OpenShut
import Derived.Deep.Slices
import Derived.SizedLaws
import Derived.RangeFuncWrites
import Derived.Maps.OwnIn
import Derived.Maps.AppendAt
import Derived.Maps.Views
import Derived.StringKeys
/- What within hands back, each expression with what is known of it; Check of the program. -/
namespace Go.Proofs.YtfogkcccjemloaaGreatDoor
set_option linter.unusedVariables false
set_option linter.unusedSimpArgs false
open Go.RowKit Go.Shelf
attribute [local go_sem] Oper.semAt_some
/-- J over lists of expressions of which P is known, said of the expressions -/
def upJ {P : Xt → Prop} (J : List {y : Xt // P y} → World → Prop) (pre : List Xt) (W : World) : Prop := ∃ q, q.map (·.1) = pre ∧ J q W
set_option maxHeartbeats 1000000 in
set_option maxRecDepth 100000 in
theorem within_stopsP (P : Xt → Prop) (n be bp n₀ : Nat) (S : Nat → Prop) (x : Xt) (w : World) (hP : ∀ y ∈ x.list, P y) (hS : ∀ k, S k → n₀ ≤ k ∧ k < w.heap.size) (hn₀ : n₀ ≤ w.heap.size) (hbe : be < w.heap.size) (hbp : bp < w.heap.size) (hX : RdX w n₀ x)
    (c0 : w.cell? ⟨be, 0, none⟩ = some (.int .i64 x.k)) (c1 : w.cell? ⟨be, 1, none⟩ = some (.int .i64 x.op)) (c2 : w.cell? ⟨be, 2, none⟩ = some (.int .i64 x.t)) (c3 : w.cell? ⟨be, 3, none⟩ = some (.int .i64 x.v)) (c4 : w.cell? ⟨be, 4, none⟩ = some (.string x.nm)) (c5 : w.cell? ⟨be, 5, none⟩ = some (.slice x.A x.ar.length x.c)) (cp : w.cell? ⟨bp, 0, none⟩ = some (.func (.func 41) #[] #[])) :
    SeqStopsK Fence.wide n Tryz.prog 62 #[.pointer (some ⟨be, 0, none⟩), .pointer (some ⟨bp, 0, none⟩)] (fun y : {y : Xt // P y} => #[xV y.1]) (KX S) (fun ys => ys.map (·.1) = x.list) (fun pre => pre.map (·.1) <+: x.list) x.size w := by
  intro l J Jx W hW hJ _ hY h0
  have hdd : ∀ k : Nat, (Fence.wide.depth.isSome = true → 1 ≤ k) := fun k h => by cases h
  have hWs := hW.size
  have d0 := (hW.cell (p := ⟨be, 0, none⟩) hbe).trans c0
  have d1 := (hW.cell (p := ⟨be, 1, none⟩) hbe).trans c1
  have d2 := (hW.cell (p := ⟨be, 2, none⟩) hbe).trans c2
  have d3 := (hW.cell (p := ⟨be, 3, none⟩) hbe).trans c3
  have d4 := (hW.cell (p := ⟨be, 4, none⟩) hbe).trans c4
  have d5 := (hW.cell (p := ⟨be, 5, none⟩) hbe).trans c5
  have dp := (hW.cell (p := ⟨bp, 0, none⟩) hbp).trans cp
  have hp := walk_each_in l n₀ W.heap.size x.size S (fun k hs => ⟨(hS k hs).1, by have := (hS k hs).2; omega⟩) (upJ J) (upJ Jx) (fun s A B row ⟨q, hq, hs⟩ hg hr => ⟨q, hq, hJ q A B row hs hg hr⟩) P
    (fun m pre y W1 hPy ⟨q, hq, hj⟩ hl => yield_any rfl m (YieldAt.mono (hY q ⟨y, hPy⟩ W1 hj (by rw [← hq, List.length_map] at hl; exact hl)) fun e W' h => h.elim
      (fun ⟨he, hj2, hk⟩ => .inl ⟨he, ⟨q ++ [⟨y, hPy⟩], by rw [List.map_append, hq]; rfl, hj2⟩, hk⟩) (fun ⟨he, hx⟩ => .inr ⟨he, q ++ [⟨y, hPy⟩], by rw [List.map_append, hq]; rfl, hx⟩))) x (n - 1) [] W hP (hX.blw (hW.mono hn₀) (Nat.le_refl _)) (Nat.le_refl _) ⟨[], rfl, h0⟩ (by simp)
  simp only [List.nil_append, xV] at hp
  clear hY c0 c1 c2 c3 c4 c5 cp
  simp only [List.append_toArray, List.cons_append, List.nil_append, Array.append_eq_append] at *
  refine callsIn_of_wp Tryz.func62 rfl trivial ?_ rfl
  simp only [Tryz.ntmps62, List.size_toArray, List.length_cons, List.length_nil, Nat.reduceAdd, Nat.reduceSub, Array.replicate_succ, Array.replicate_zero, List.push_toArray, List.append_toArray, List.nil_append, List.cons_append]
  gi_wp2_with (refine ⟨trivial, hdd _, ?_⟩; gi_at_call 63; refine hp.mono ?_; clear hp; rintro e W1 (⟨rfl, ⟨ys, hys, hJ1⟩, _⟩ | ⟨rfl, q, hq, ys, hys, hx⟩))
  · go_end0
    exact ⟨⟨_, rfl⟩, .inl ⟨ys, hys, hJ1⟩⟩
  · go_end0
    exact ⟨⟨_, rfl⟩, .inr ⟨ys, by rw [hys]; exact hq, hx⟩⟩
theorem within_atP (P : Xt → Prop) (n n₀ : Nat) (S : Nat → Prop) (x : Xt) (w : World) (hP : ∀ y ∈ x.list, P y) (hS : ∀ k, S k → n₀ ≤ k ∧ k < w.heap.size) (hn₀ : n₀ ≤ w.heap.size) (hX : RdX w n₀ x) :
    SeqStopsK Fence.wide n Tryz.prog 62 #[.pointer (some ⟨w.heap.size, 0, none⟩), .pointer (some ⟨w.heap.size + 1, 0, none⟩)] (fun y : {y : Xt // P y} => #[xV y.1]) (KX S) (fun ys => ys.map (·.1) = x.list) (fun pre => pre.map (·.1) <+: x.list) x.size (inW w x 41) := by
  obtain ⟨b0, b1, b2, b3, b4, b5, _⟩ := bxW_cells (w := w) (x := x) (W := inW w x 41) (bel_box _)
  exact within_stopsP P n w.heap.size (w.heap.size + 1) n₀ S x _ hP (fun k hs => ⟨(hS k hs).1, by rw [inW_size]; have := (hS k hs).2; omega⟩) (by rw [inW_size]; omega) (by rw [inW_size]; omega) (by rw [inW_size]; omega) (hX.blw ((inW_below w x _).mono hn₀) (Nat.le_refl _)) b0 b1 b2 b3 b4 b5 (by simp [go_sem])
theorem RdX.all {w : World} {B : Nat} {x : Xt} (h : RdX w B x) : ∀ y ∈ x.list, y.ar.length ≤ maxLen := by
  induction x using Xt.ind with
  | h x ih =>
    intro y hy
    rw [Xt.list_eq] at hy
    rcases List.mem_cons.1 hy with rfl | hy
    · exact h.len.1
    · obtain ⟨l, hl, hyl⟩ := List.mem_flatten.1 hy
      obtain ⟨z, hz, rfl⟩ := List.mem_map.1 hl
      exact ih z hz (h.kid hz) y hyl
/-- the first error -/
def firstE (f : Xt → Int) : List Xt → Int
  | [] => 0
  | y :: r => if f y = 0 then firstE f r else f y
theorem firstE_ok {f : Xt → Int} {l : List Xt} (h : ∀ y ∈ l, f y = 0) : firstE f l = 0 := by
  induction l with
  | nil => rfl
  | cons y r ih => rw [firstE, if_pos (h y (by simp))]; exact ih fun z hz => h z (by simp [hz])
theorem firstE_at {f : Xt → Int} {l r : List Xt} {y : Xt} (h : ∀ z ∈ l, f z = 0) (hy : f y ≠ 0) : firstE f (l ++ y :: r) = f y := by
  induction l with
  | nil => rw [List.nil_append, firstE, if_neg hy]
  | cons z l ih => rw [List.cons_append, firstE, if_pos (h z (by simp))]; exact ih fun u hu => h u (by simp [hu])
theorem bx2 {w W : World} {x : Xt} {v : Value} {t : TypeId} (h : Below ((bxW w x).alloc (.cells #[v] t)).heap.size ((bxW w x).alloc (.cells #[v] t)) W) :
    (W.cell? ⟨w.heap.size, 0, none⟩ = some (.int .i64 x.k) ∧ W.cell? ⟨w.heap.size, 1, none⟩ = some (.int .i64 x.op) ∧ W.cell? ⟨w.heap.size, 2, none⟩ = some (.int .i64 x.t) ∧ W.cell? ⟨w.heap.size, 3, none⟩ = some (.int .i64 x.v) ∧ W.cell? ⟨w.heap.size, 4, none⟩ = some (.string x.nm) ∧ W.cell? ⟨w.heap.size, 5, none⟩ = some (.slice x.A x.ar.length x.c)) ∧ (W.cell? ⟨w.heap.size + 1, 0, none⟩ = some v ∧ W.frozen? ⟨w.heap.size + 1, 0, none⟩ = false) ∧ w.heap.size + 1 < W.heap.size ∧ Below w.heap.size w W := by
  have hz := h.size
  have hz2 : ((bxW w x).alloc (.cells #[v] t)).heap.size = w.heap.size + 2 := by simp only [World.size_alloc]
  rw [hz2] at hz
  have hb : Below (bxW w x).heap.size (bxW w x) W := (bel_box _).trans (h.mono (by rw [World.size_alloc]; omega))
  obtain ⟨b0, b1, b2, b3, b4, b5, _⟩ := bxW_cells hb
  refine ⟨⟨b0, b1, b2, b3, b4, b5⟩, ⟨?_, ?_⟩, by omega, bxW_below hb⟩
  · exact (h.cell (p := ⟨w.heap.size + 1, 0, none⟩) (by rw [hz2]; simp)).trans (by simp [go_sem])
  · exact (h.frozen (p := ⟨w.heap.size + 1, 0, none⟩) (by rw [hz2]; simp)).trans (by simp [go_sem])
def chkAll (wok : ByteArray → Bool) (x : Xt) : Int := if 400 < x.size ∨ 32 < x.depth then 3 else firstE (chk1 wok) x.list
set_option maxHeartbeats 2000000 in
set_option maxRecDepth 100000 in
theorem check_any (wok : ByteArray → Bool) (x : Xt) (w : World) (hX : RdX w w.heap.size x) (hN : ∀ y ∈ x.list, NmOk wok w y) : Calls Tryz.prog 12 #[xV x] w (Bel (.int .i64 (chkAll wok x)) w) := by
  have hdd : ∀ k : Nat, (Fence.wide.depth.isSome = true → 1 ≤ k) := fun k h => by cases h
  have KW := Lib.hid (fun W => within_any x 41 W)
  have KE : Hid (∀ W, Below w.heap.size w W → Calls Tryz.prog 39 #[xV x, .int .i64 400] W (Bel (.bool (decide (400 < x.size))) W)) := Lib.hid fun W hb => exceeds_any x 400 W (hX.to hb) (by omega)
  have HX := Lib.hid hX
  have hal := hX.all
  have hsz : x.size ≤ 400 → Hid (∀ W, Below w.heap.size w W → Calls Tryz.prog 16 #[xV x] W (Bel (.int .i64 (x.depth : Nat)) W)) := fun h => Lib.hid fun W hb => depth_any x W (hX.to hb) (by omega)
  clear hX
  simp only [xV] at KW KE hsz ⊢
  refine (callsIn_wide (n := 3)).1 ?_
  by_cases h400 : 400 < x.size
  · rw [chkAll, if_pos (.inl h400)]
    rw [decide_eq_true h400] at KE
    refine callsIn_of_wp_marks Tryz.func12 rfl trivial ?_ rfl
    simp only [Tryz.ntmps12, List.size_toArray, List.length_cons, List.length_nil, Nat.reduceAdd, Nat.reduceSub, Array.replicate_succ, Array.replicate_zero, List.push_toArray, List.append_toArray, List.nil_append, List.cons_append]
    gi_wp2_with (refine ⟨trivial, ?_⟩; gi_at_call 39; refine (callsIn_wide.2 (KE.out _ ?_)).mono ?_; (focus ((repeat (first | (with_reducible exact Below.refl _ _) | (with_reducible assumption) | (with_reducible exact bel_box _) | (with_reducible refine bel_step ?_ (by with_reducible assumption)) | (with_reducible refine Below.drew ?_) | (with_reducible refine below_drewN ?_ _) | (with_reducible refine bel_alloc ?_ _))); done)); rintro e W1 ⟨rfl, hb1⟩; obtain ⟨⟨a0, a1, a2, a3, a4, a5⟩, ⟨r0, r1⟩, hzz, hBB⟩ := bx2 hb1; clear hb1)
    refine ⟨trivial, ?_⟩
    gi_wp2
    refine ⟨.int .i64 3, ?_, rfl, hBB.setCell (p := ⟨w.heap.size + 1, 0, none⟩) (by simp) _⟩
    have hc5 := World.cell?_setCell_same' W1 ⟨w.heap.size + 1, 0, none⟩ (.int .i64 3) (by rw [r0]; rfl)
    simp [results, Tryz.f12, go_sem, hc5]
  rw [decide_eq_false h400] at KE
  have KD := hsz (by omega)
  clear hsz
  have hdl := depth_le x
  by_cases h32 : 32 < x.depth
  · rw [chkAll, if_pos (.inr h32)]
    have u1 : (32 : Int) < (x.depth : Int) := by omega
    refine callsIn_of_wp_marks Tryz.func12 rfl trivial ?_ rfl
    simp only [Tryz.ntmps12, List.size_toArray, List.length_cons, List.length_nil, Nat.reduceAdd, Nat.reduceSub, Array.replicate_succ, Array.replicate_zero, List.push_toArray, List.append_toArray, List.nil_append, List.cons_append]
    gi_wp2_with (first
      | (refine ⟨trivial, ?_⟩; gi_at_call 39; refine (callsIn_wide.2 (KE.out _ ?_)).mono ?_; (focus ((repeat (first | (with_reducible exact Below.refl _ _) | (with_reducible assumption) | (with_reducible exact bel_box _) | (with_reducible refine bel_step ?_ (by with_reducible assumption)) | (with_reducible refine Below.drew ?_) | (with_reducible refine below_drewN ?_ _) | (with_reducible refine bel_alloc ?_ _))); done)); rintro e W1 ⟨rfl, hb1⟩; obtain ⟨⟨a0, a1, a2, a3, a4, a5⟩, ⟨r0, r1⟩, hzz, hBB⟩ := bx2 hb1)
      | (refine ⟨trivial, ?_⟩; gi_at_call 16; refine (callsIn_wide.2 (KD.out _ ?_)).mono ?_; (focus (exact hBB; done)); rintro e W2 ⟨rfl, hb2⟩; obtain ⟨_, ⟨s0, s1⟩, hzy, hBC⟩ := bx2 (hb1.trans (hb2.mono hb1.size))))
    refine ⟨.int .i64 3, ?_, rfl, hBC.setCell (p := ⟨w.heap.size + 1, 0, none⟩) (by simp) _⟩
    have hc5 := World.cell?_setCell_same' W2 ⟨w.heap.size + 1, 0, none⟩ (.int .i64 3) (by rw [s0]; rfl)
    simp [results, Tryz.f12, go_sem, hc5]
  rw [chkAll, if_neg (by omega)]
  have u1 : (x.depth : Int) ≤ 32 := by omega
  refine callsIn_of_wp_marks Tryz.func12 rfl trivial ?_ rfl
  simp only [Tryz.ntmps12, List.size_toArray, List.length_cons, List.length_nil, Nat.reduceAdd, Nat.reduceSub, Array.replicate_succ, Array.replicate_zero, List.push_toArray, List.append_toArray, List.nil_append, List.cons_append]
  gi_wp2_with (first
    | (refine ⟨trivial, ?_⟩; gi_at_call 39; refine (callsIn_wide.2 (KE.out _ ?_)).mono ?_; (focus ((repeat (first | (with_reducible exact Below.refl _ _) | (with_reducible assumption) | (with_reducible exact bel_box _) | (with_reducible refine bel_step ?_ (by with_reducible assumption)) | (with_reducible refine Below.drew ?_) | (with_reducible refine below_drewN ?_ _) | (with_reducible refine bel_alloc ?_ _))); done)); rintro e W1 ⟨rfl, hb1⟩; obtain ⟨⟨a0, a1, a2, a3, a4, a5⟩, ⟨r0, r1⟩, hzz, hBB⟩ := bx2 hb1)
    | (refine ⟨trivial, ?_⟩; gi_at_call 16; refine (callsIn_wide.2 (KD.out _ ?_)).mono ?_; (focus (exact hBB; done)); rintro e W2 ⟨rfl, hb2⟩; obtain ⟨⟨e0, e1, e2, e3, e4, e5⟩, ⟨s0, s1⟩, hzy, hBC⟩ := bx2 (hb1.trans (hb2.mono hb1.size)))
    | (refine ⟨trivial, ?_⟩; gi_at_call 40; refine (callsIn_wide.2 (KW.out _)).mono ?_; rintro e W3 ⟨rfl, rfl⟩))
  have hst := within_atP (fun y => y ∈ x.list) (3 - 1) w.heap.size (fun k => k = w.heap.size + 1) x W2 (fun y h => h) (fun k hk => by subst hk; omega) (by omega) (HX.out.blw hBC (Nat.le_refl _))
  obtain ⟨W0, hW0⟩ : ∃ W0, inW W2 x 41 = W0 := ⟨_, rfl⟩
  have hz0 : W0.heap.size = W2.heap.size + 2 := by rw [← hW0, inW_size]
  have hB0 : Below w.heap.size w W0 := by rw [← hW0]; exact hBC.trans ((inW_below W2 x _).mono (by omega))
  have f2 : W0.cell? ⟨w.heap.size + 1, 0, none⟩ = some (.int .i64 0) := by rw [← hW0]; exact (inW_old (by omega)).1.trans s0
  have f3 : W0.frozen? ⟨w.heap.size + 1, 0, none⟩ = false := by rw [← hW0]; exact (inW_old (by omega)).2.trans s1
  rw [hW0] at hst
  rw [show (bxW W2 x).alloc (.cells #[.func (.func 41) #[] #[]] 42) = W0 from hW0]
  have HN := Lib.hid hN
  have HAL := Lib.hid hal
  clear hW0 KW KE KD HX hN hal a0 a1 a2 a3 a4 a5 r0 r1 e0 e1 e2 e3 e4 e5 s0 s1 hb1 hb2 hBB hBC hzz
  refine wpIn_rangeFunc_ownH rfl (by decide) (gf := 62) (lb := #[.pointer (some ⟨W2.heap.size, 0, none⟩), .pointer (some ⟨W2.heap.size + 1, 0, none⟩)]) rfl trivial (enters_of Tryz.func62 (by kernel_rfl) rfl)
    hst KX_t KX_b (Below.refl _ _) (fun _ => rfl)
    (fun pre W => ((∀ y ∈ pre, chk1 wok y.1 = 0) ∧ W.cell? ⟨w.heap.size + 1, 0, none⟩ = some (.int .i64 0) ∧ W.frozen? ⟨w.heap.size + 1, 0, none⟩ = false) ∧ Below w.heap.size w W)
    (fun c pre W => (c = .ret ∧ ∃ q y, pre = q ++ [y] ∧ (∀ z ∈ q, chk1 wok z.1 = 0) ∧ chk1 wok y.1 ≠ 0 ∧ W.cell? ⟨w.heap.size + 1, 0, none⟩ = some (.int .i64 (chk1 wok y.1))) ∧ Below w.heap.size w W)
    (OwnFrom.and (Own.from (fun s A B row hs hg hr => ⟨hs.1, cell_kept hs.2.1 hg hr, (frozen_kept hs.2.1 hg hr).trans hs.2.2⟩) _) (ownFrom_below (Nat.le_refl _) (by omega)))
    (fun c => OwnFrom.and (Own.from (fun s A B row hs hg hr => by
      obtain ⟨h1, q, y, h2, h3, h4, h5⟩ := hs
      exact ⟨h1, q, y, h2, h3, h4, cell_kept h5 hg hr⟩) _) (ownFrom_below (Nat.le_refl _) (by omega)))
    ⟨⟨by simp, f2, f3⟩, hB0⟩
    (fun y a' W => ∃ Bx, (w.heap.size + 2 ≤ Bx ∧ W.cell? ⟨Bx, 0, none⟩ = some (.int .i64 y.1.k) ∧ W.cell? ⟨Bx, 1, none⟩ = some (.int .i64 y.1.op) ∧ W.cell? ⟨Bx, 2, none⟩ = some (.int .i64 y.1.t) ∧ W.cell? ⟨Bx, 3, none⟩ = some (.int .i64 y.1.v) ∧ W.cell? ⟨Bx, 4, none⟩ = some (.string y.1.nm) ∧ W.cell? ⟨Bx, 5, none⟩ = some (.slice y.1.A y.1.ar.length y.1.c)) ∧ a' = { tmps := #[.agg #[.int .i64 x.k, .int .i64 x.op, .int .i64 x.t, .int .i64 x.v, .string x.nm, .slice x.A x.ar.length x.c], .pointer (some ⟨w.heap.size, 0, none⟩), .pointer (some ⟨w.heap.size + 1, 0, none⟩), .pointer (some ⟨Bx, 0, none⟩), undef, .agg #[.int .i64 x.k, .int .i64 x.op, .int .i64 x.t, .int .i64 x.v, .string x.nm, .slice x.A x.ar.length x.c], .bool false, .bool false, .agg #[.int .i64 x.k, .int .i64 x.op, .int .i64 x.t, .int .i64 x.v, .string x.nm, .slice x.A x.ar.length x.c], .int .i64 (x.depth : Int), .bool (decide ((32 : Int) < (x.depth : Int))), .bool (decide ((32 : Int) < (x.depth : Int))), .agg #[.int .i64 x.k, .int .i64 x.op, .int .i64 x.t, .int .i64 x.v, .string x.nm, .slice x.A x.ar.length x.c], .func (.func 62) #[] #[.pointer (some ⟨W2.heap.size, 0, none⟩), .pointer (some ⟨W2.heap.size + 1, 0, none⟩)], xV y.1, undef, undef, undef, undef, undef], defers := [] })
    (fun y a' s A B row hs hg hr => by
      obtain ⟨Bx, ⟨h1, h2, h3, h4, h5, h6, h7⟩, h8⟩ := hs
      exact ⟨Bx, ⟨h1, cell_kept h2 hg (fun r e => (hr r e).2), cell_kept h3 hg (fun r e => (hr r e).2), cell_kept h4 hg (fun r e => (hr r e).2), cell_kept h5 hg (fun r e => (hr r e).2), cell_kept h6 hg (fun r e => (hr r e).2), cell_kept h7 hg (fun r e => (hr r e).2)⟩, h8⟩) ?assign ?body ?done ?stop
  case assign =>
    rintro l pre y W K ⟨⟨i1, i2, i3⟩, hB⟩ hK
    rw [fold1]
    simp only [xV] at hK ⊢
    gi_wp2
    obtain ⟨d0, d1, d2, d3, d4, d5⟩ := bx_box W y.1
    exact hK _ _ ((KeepsOthers.alloc _ _).from _) (KX.of_below (bel_box _)) ⟨⟨i1, cell_al _ i2, frozen_al _ i2 i3⟩, bel_alloc hB _⟩ ⟨W.heap.size, ⟨by have := World.block_lt_of_cell? W _ i2; simp only at this; omega, d0, d1, d2, d3, d4, d5⟩, rfl⟩
  case body =>
    rintro l pre y a' W hl ⟨r, hr⟩ ⟨⟨i1, i2, i3⟩, hB⟩ ⟨Bx, ⟨hBx, d0, d1, d2, d3, d4, d5⟩, rfl⟩ hlt
    have hbk := World.block_lt_of_cell? W _ i2
    have KC : Hid (Calls Tryz.prog 42 #[xV y.1] W (Bel (.int .i64 (chk1 wok y.1)) W)) := Lib.hid (checkone_any wok y.1 W (HAL.out _ y.2) ((HN.out _ y.2).to hB))
    simp only [xV] at KC
    by_cases hc : chk1 wok y.1 = 0
    · gi_wp2_with (refine ⟨trivial, ?_⟩; gi_at_call 42; refine (CallsIn.inRound l (callsIn_wide.2 KC.out)).mono ?_; rintro e W5 ⟨rfl, hb5⟩)
      exact ⟨(KeepsOthers.of_grownBy (below_grown hb5) (fun j o e => by cases e)).from _, KX.of_below hb5, ⟨fun z hz => (List.mem_append.1 hz).elim (i1 z) (fun h => by rw [List.mem_singleton.1 h]; exact hc), (hb5.cell (p := ⟨w.heap.size + 1, 0, none⟩) hbk).trans i2, (hb5.frozen (p := ⟨w.heap.size + 1, 0, none⟩) hbk).trans i3⟩, hB.trans (hb5.mono hB.size)⟩
    · gi_wp2_with (refine ⟨trivial, ?_⟩; gi_at_call 42; refine (CallsIn.inRound l (callsIn_wide.2 KC.out)).mono ?_; rintro e W5 ⟨rfl, hb5⟩; have j2 := (hb5.cell (p := ⟨w.heap.size + 1, 0, none⟩) hbk).trans i2; have j3 := (hb5.frozen (p := ⟨w.heap.size + 1, 0, none⟩) hbk).trans i3)
      exact ⟨((KeepsOthers.of_grownBy (below_grown hb5) (fun j o e => by cases e)).trans (KeepsOthers.setCell _ _ _)).from _, ⟨rfl, pre, y, rfl, i1, hc, World.cell?_setCell_same' _ _ _ (by rw [j2]; rfl)⟩, (hB.trans (hb5.mono hB.size)).setCell (p := ⟨w.heap.size + 1, 0, none⟩) (by simp) _⟩
  case done =>
    rintro D ys W hD hys ⟨⟨hn, hc, hf⟩, hB⟩ hK
    have hv : firstE (chk1 wok) x.list = 0 := firstE_ok fun y hy => by
      rw [← hys] at hy
      obtain ⟨z, hz, rfl⟩ := List.mem_map.1 hy
      exact hn z hz
    gi_wp2
    have hK' := (KeepsOthers.setCell W ⟨w.heap.size + 1, 0, none⟩ (.int .i64 0)).same D _ hK rfl
    refine ⟨by simp, .inl ⟨_, _, rfl, run_takeDeferred hK', ?_⟩⟩
    have hc5 := cell_kept (World.cell?_setCell_same' W ⟨w.heap.size + 1, 0, none⟩ (.int .i64 0) (by rw [hc]; rfl)) (grownBy_putObj' _ D (.deferred none)) (fun r e => by cases e; exact ⟨_, hK', rfl⟩)
    refine ⟨.int .i64 0, ?_, rfl, (hB.setCell (p := ⟨w.heap.size + 1, 0, none⟩) (by simp) _).trans (belowK_b (w := w) (Nat.le_refl _) _ D _ _ (by omega) hK' rfl rfl)⟩
    simp [results, Tryz.f12, go_sem, hc5]
  case stop =>
    rintro D c pre W hD ⟨t, ht⟩ ⟨⟨rfl, q, y, rfl, hq, hy, hc⟩, hB⟩ hK
    have hv : firstE (chk1 wok) x.list = chk1 wok y.1 := by
      have hl : x.list = q.map (·.1) ++ y.1 :: t := ht.symm.trans (by rw [List.map_append, List.append_assoc]; rfl)
      exact (congrArg _ hl).trans (firstE_at (fun z hz => by obtain ⟨u, hu, rfl⟩ := List.mem_map.1 hz; exact hq u hu) hy)
    gi_wp2
    refine ⟨by simp, .inl ⟨_, _, rfl, run_takeDeferred hK, ?_⟩⟩
    have hc5 := cell_kept hc (grownBy_putObj' _ D (.deferred none)) (fun r e => by cases e; exact ⟨_, hK, rfl⟩)
    refine ⟨.int .i64 (chk1 wok y.1), ?_, rfl, hB.trans (belowK_b (w := w) (Nat.le_refl _) W D _ _ (by omega) hK rfl rfl)⟩
    simp [results, Tryz.f12, go_sem, hc5]
end Go.Proofs.YtfogkcccjemloaaGreatDoor
/- The list of expressions, of the reference. -/
namespace Go.Proofs.YtfogkcccjemloaaGreatDoor
set_option linter.unusedVariables false
set_option linter.unusedSimpArgs false
open Go.RowKit
def xCs (x : Xt) : List Value := [.int .i64 x.k, .int .i64 x.op, .int .i64 x.t, .int .i64 x.v, .string x.nm, .slice x.A x.ar.length x.c]
def xsC (l : List Xt) : List Value := l.flatMap xCs
theorem xsC_length (l : List Xt) : (xsC l).length = l.length * 6 := by
  induction l with
  | nil => rfl
  | cons a r ih => simp [xsC, xCs] at ih ⊢; omega
theorem xsC_app (l r : List Xt) : xsC (l ++ r) = xsC l ++ xsC r := by simp [xsC]
theorem xpInfo : (Tryz.prog.info? 24).map (fun i => (i.zero, i.size, i.bytes)) = some (some (.agg #[.int .i64 0, .int .i64 0, .int .i64 0, .int .i64 0, .string ⟨#[]⟩, .slice none 0 0]), 6, 72) := by kernel_rfl
theorem own_keep6 {w W : World} {base n size : Nat} {e : TypeId} {v : Value} {xs : List Value} (h : w.ownsRow base e size v n xs) (hb : Below w.heap.size w W) : W.ownsRow base e size v n xs := by
  refine ⟨h.1, h.2.imp id fun ⟨g, cap, cur, e1, h1, h2, r⟩ => ⟨g, cap, cur, e1, h1, ?_, r⟩⟩
  rw [hb.block g (Array.getElem?_eq_some_iff.1 h2).1]
  exact h2
theorem own_form6 {w : World} {base n size : Nat} {e : TypeId} {v : Value} {xs : List Value} (h : w.ownsRow base e size v n xs) : ∃ A c, v = .slice A n c := by
  rcases h.2 with ⟨rfl, rfl⟩ | ⟨g, cap, cur, rfl, _⟩
  · exact ⟨_, _, rfl⟩
  · exact ⟨_, _, rfl⟩
theorem x_one (x : Xt) : ∀ u ∈ xCs x, u.oneCell' = true := by
  intro u hu
  simp [xCs] at hu
  rcases hu with rfl | rfl | rfl | rfl | rfl | rfl <;> rfl
theorem row6 (w : World) (o : Obj) (x : Xt) (t : TypeId) : ∀ j u, (xCs x)[j]? = some u → ((w.alloc o).alloc (.cells #[.int .i64 x.k, .int .i64 x.op, .int .i64 x.t, .int .i64 x.v, .string x.nm, .slice x.A x.ar.length x.c] t)).cell? ((⟨w.heap.size + 1, 0, none⟩ : Addr).add j) = some u := by
  intro j u hu
  have e : w.heap.size + 1 = (w.alloc o).heap.size := (World.size_alloc _ _).symm
  rw [e]
  have hz : ∀ k : Nat, ((w.alloc o).alloc (.cells #[.int .i64 x.k, .int .i64 x.op, .int .i64 x.t, .int .i64 x.v, .string x.nm, .slice x.A x.ar.length x.c] t)).cell? ((⟨(w.alloc o).heap.size, 0, none⟩ : Addr).add k) = (xCs x)[k]? := by
    intro k
    rcases k with _ | _ | _ | _ | _ | _ | k <;> simp [go_sem, Addr.add, xCs]
  rw [hz]; exact hu
/-- the row l behind list, from the row v -/
def LsR (w : World) (B : Nat) (v : Value) (n : Nat) (xs : List Value) (w' : World) (v' : Value) : Prop := w'.ownsRow B 24 6 v' n xs ∧ w.grownBy w' v.ownBlock ∧ (v'.ownBlock = v.ownBlock ∨ ∃ j, v'.ownBlock = some j ∧ w.heap.size ≤ j)
/-- the row l while list is under way -/
def LsI (w : World) (x : Xt) (B : Nat) (ob : Option Nat) (n : Nat) (xs : List Value) (v : Value) (wr : World) : Prop := wr.ownsRow B 24 6 v n xs ∧ (bxW w x).grownBy wr ob ∧ (v.ownBlock = ob ∨ ∃ j, v.ownBlock = some j ∧ (bxW w x).heap.size ≤ j)
theorem LsI.open_ {w wr : World} {x : Xt} {B n : Nat} {ob : Option Nat} {xs : List Value} {v : Value} (h : LsI w x B ob n xs v wr) (hB : B ≤ w.heap.size) (hl : ∀ j, ob = some j → B ≤ j ∧ j < w.heap.size) :
    Below B w wr ∧ (wr.cell? ⟨w.heap.size, 0, none⟩ = some (.int .i64 x.k) ∧ wr.cell? ⟨w.heap.size, 1, none⟩ = some (.int .i64 x.op) ∧ wr.cell? ⟨w.heap.size, 2, none⟩ = some (.int .i64 x.t) ∧ wr.cell? ⟨w.heap.size, 3, none⟩ = some (.int .i64 x.v) ∧ wr.cell? ⟨w.heap.size, 4, none⟩ = some (.string x.nm) ∧ wr.cell? ⟨w.heap.size, 5, none⟩ = some (.slice x.A x.ar.length x.c)) ∧ w.heap.size < wr.heap.size := by
  obtain ⟨_, hg, _⟩ := h
  have hz := hg.size
  rw [bxW_size] at hz
  have hne : some w.heap.size ≠ ob := fun e => by have := (hl _ e.symm).2; omega
  refine ⟨Below.grown ((bel_box _).mono hB) hg (by rw [bxW_size]; omega) (fun j hj => (hl j hj).1), ⟨?_, ?_, ?_, ?_, ?_, ?_⟩, by omega⟩ <;> exact hg.cell (by simp [go_sem]) hne
theorem LsI.next {w wr w1 : World} {x : Xt} {B n m : Nat} {ob : Option Nat} {xs ys : List Value} {v v' : Value} (h : LsI w x B ob n xs v wr) (k : LsR wr B v m ys w1 v') : LsI w x B ob m ys v' w1 := by
  obtain ⟨_, hg, ha⟩ := h
  obtain ⟨k1, k2, k3⟩ := k
  have hz := hg.size
  refine ⟨k1, hg.andThen k2 fun j hj => ?_, ?_⟩
  · rcases ha with ha | ⟨j', e, hj'⟩
    · exact .inr (ha.symm.trans hj)
    · rw [e] at hj
      exact .inl (by have := Option.some.inj hj; omega)
  · rcases k3 with k3 | ⟨j, e, hj⟩
    · rw [k3]; exact ha
    · exact .inr ⟨j, e, by omega⟩
theorem LsI.first {w W w3 : World} {x : Xt} {B m : Nat} {ob : Option Nat} {ys : List Value} {v' : Value} (hW : Below (bxW w x).heap.size (bxW w x) W) (h1 : w3.ownsRow B 24 6 v' m ys) (h2 : W.grownBy w3 ob) (h3 : v'.ownBlock = ob ∨ v'.ownBlock = some W.heap.size) : LsI w x B ob m ys v' w3 := by
  refine ⟨h1, ?_, h3.imp id fun e => ⟨_, e, hW.size⟩⟩
  exact ((below_grown hW).but ob).andThen h2 fun j hj => .inr hj
theorem LsI.last {w wr : World} {x : Xt} {B n : Nat} {v0 : Value} {xs : List Value} {v : Value} (h : LsI w x B v0.ownBlock n xs v wr) : LsR w B v0 n xs wr v := by
  obtain ⟨h1, h2, h3⟩ := h
  refine ⟨h1, (World.grownBy_alloc w _ _).trans h2, h3.imp id fun ⟨j, e, hj⟩ => ⟨j, e, by rw [bxW_size] at hj; omega⟩⟩
set_option maxHeartbeats 1000000 in
set_option maxRecDepth 20000 in
theorem rlist_any (x : Xt) : ∀ w B v n xs, B ≤ w.heap.size → RdX w B x → w.ownsRow B 24 6 v n xs → n + x.size ≤ 100000 → Calls Tryz.prog 56 #[xV x, v] w (fun e w' => ∃ v', e = .returned v' ∧ LsR w B v (n + x.size) (xs ++ xsC x.list) w' v') := by
  obtain ⟨i0, hi, iz, is, ib⟩ := info_parts xpInfo
  induction x using Xt.ind with
  | h x ih =>
    intro w B v n xs hB hX hown hS
    obtain ⟨V, cv, rfl⟩ := own_form6 hown
    have h9 := hX.len.1
    unfold maxLen at h9
    have HX := Lib.hid hX
    have IH := Lib.hid ih
    have HO := Lib.hid hown
    clear hX ih hown
    obtain ⟨F, hF, hF0, hFl, HF, HFl⟩ := parts_sum x
    rw [hF] at hS ⊢
    simp only [xV] at IH ⊢
    go_enter Tryz.func56, Tryz.ntmps56
    go_wp2_with (at_builtin; (refine wpList_append_own_at _ rfl _ _ 22 rfl B 24 i0 (.agg #[.int .i64 0, .int .i64 0, .int .i64 0, .int .i64 0, .string ⟨#[]⟩, .slice none 0 0]) 6 72 Tryz.underlying22 hi iz is ib rfl (by decide) _ n xs rfl (own_keep6 HO.out ?_) ⟨w.heap.size + 1, 0, none⟩ 1 1 (xCs x) rfl rfl (row6 _ _ _ _) (x_one x) (by unfold maxLen; omega) (by omega) ?_ ?_; (focus ((repeat (first | (with_reducible exact Below.refl _ _) | (with_reducible assumption) | (with_reducible exact bel_box _) | (with_reducible refine bel_step ?_ (by with_reducible assumption)) | (with_reducible refine Below.drew ?_) | (with_reducible refine below_drewN ?_ _) | (with_reducible refine bel_alloc ?_ _))); done)); (focus (simp; omega)); intro v3 w3 hown3 hgrow3 _ hat3; have HI := LsI.first (w := w) (x := x) (by repeat (first | (with_reducible exact Below.refl _ _) | (with_reducible assumption) | (with_reducible exact bel_box _) | (with_reducible refine bel_step ?_ (by with_reducible assumption)) | (with_reducible refine Below.drew ?_) | (with_reducible refine below_drewN ?_ _) | (with_reducible refine bel_alloc ?_ _))) hown3 (ob := (Value.slice V n cv).ownBlock) hgrow3 hat3; clear hown3 hgrow3 hat3))
    have hlt := Lib.hid (fun j (h : (Value.slice V n cv).ownBlock = some j) => HO.out.lt j h)
    obtain ⟨v0, hv0⟩ : ∃ v0, Value.slice V n cv = v0 := ⟨_, rfl⟩
    rw [hv0] at HI hlt
    go_loopw [1, 5] (fun v i wr => ∃ k : Nat, k ≤ x.ar.length ∧ i = .int .i64 (k : Int) ∧ LsI w x B v0.ownBlock (n + 1 + F k) (xs ++ xsC (x :: ((x.ar.take k).map Xt.list).flatten)) v wr) (fun _ i _ => x.ar.length - (intOf i).toNat)
    case atStart => exact ⟨0, by omega, rfl, by rw [hF0]; simpa [xsC] using HI⟩
    case round =>
      obtain ⟨k, hk, rfl, hI⟩ := hrel
      obtain ⟨hBB, ⟨b0, b1, b2, b3, b4, b5⟩, b6⟩ := hI.open_ hB hlt.out
      by_cases hlk : k < x.ar.length
      · obtain ⟨ad, y, hA, had, hy, hm, ⟨c0, c1, c2, c3, c4, c5⟩, hr⟩ := (HX.out.blw hBB (Nat.le_refl _)).at_ hlk
        rw [hA] at b5
        clear hA
        have hn1 := HF.out k y hy
        have hn2 := HFl.out (k + 1)
        have HT : Hid ((x.ar.take (k + 1)).map Xt.list = (x.ar.take k).map Xt.list ++ [y.list]) := Lib.hid (by rw [take_succ_of hy, List.map_append]; rfl)
        have HII := Lib.hid hI
        have HIo := Lib.hid hI.1
        clear hy hI HI hv0
        go_wp2_with (go_at_call 56; (with_reducible refine (IH.out y hm _ B _ _ _ (by omega) hr HIo.out (by omega)).mono ?_); rintro e w1 ⟨v', rfl, hl⟩)
        have hJ := HII.out.next hl
        refine ⟨⟨k + 1, by omega, by congr 1, ?_⟩, by simp [intOf]; omega⟩
        rw [HT.out, show n + 1 + F (k + 1) = n + 1 + F k + y.size by omega]
        rwa [List.append_assoc, ← xsC_app, List.cons_append, show (List.map Xt.list (List.take k x.ar)).flatten ++ y.list = (List.map Xt.list (List.take k x.ar) ++ [y.list]).flatten by simp] at hJ
      · obtain rfl : k = x.ar.length := by omega
        go_wp2
        go_ret
        refine ⟨_, rfl, ?_⟩
        have hJ := hI.last
        rw [List.take_length, ← Xt.list_eq] at hJ
        rwa [hv0, show n + (1 + F x.ar.length) = n + 1 + F x.ar.length by omega]
end Go.Proofs.YtfogkcccjemloaaGreatDoor
/- List, Count, Stateless of the reference. -/
namespace Go.Proofs.YtfogkcccjemloaaGreatDoor
set_option linter.unusedVariables false
set_option linter.unusedSimpArgs false
open Go.RowKit Go.Sort
/-- A reads as these expressions, below block B -/
def RdXs (w : World) (B : Nat) (A : Option Addr) (l : List Xt) : Prop := l ≠ [] → ∃ ad, A = some ad ∧ ad.block < B ∧ ∀ (i : Nat) (y : Xt), l[i]? = some y → XC w (ad.add (i * 6)) y
theorem RdXs.to {w W : World} {A : Option Addr} {l : List Xt} (h : RdXs w w.heap.size A l) (hb : Below w.heap.size w W) : RdXs W W.heap.size A l := fun hn => by
  obtain ⟨ad, e, hB, hc⟩ := h hn
  have hs := hb.size
  exact ⟨ad, e, by omega, fun i t ht => (hc i t ht).keep fun p hp => hb.cell (by rw [hp, add_block]; exact hB)⟩
theorem RdXs.at_ {w : World} {B : Nat} {A : Option Addr} {l : List Xt} (h : RdXs w B A l) {k : Nat} (hk : k < l.length) : ∃ ad y, A = some ad ∧ ad.block < B ∧ l[k]? = some y ∧ y ∈ l ∧ XC w (ad.add (k * 6)) y := by
  have he : l[k]? = some l[k] := List.getElem?_eq_getElem hk
  obtain ⟨ad, e, hb, hc⟩ := h (by rintro rfl; simp at hk)
  exact ⟨ad, _, e, hb, he, List.mem_of_getElem? he, hc k _ he⟩
theorem xsC_get (l : List Xt) (i : Nat) (y : Xt) (h : l[i]? = some y) (j : Nat) (hj : j < 6) : (xsC l)[i * 6 + j]? = (xCs y)[j]? := by
  induction l generalizing i with
  | nil => simp at h
  | cons a r ih =>
    have e : xsC (a :: r) = xCs a ++ xsC r := rfl
    have hl : (xCs a).length = 6 := rfl
    rw [e]
    rcases i with _ | i
    · obtain rfl : a = y := by simpa using h
      rw [Nat.zero_mul, Nat.zero_add, List.getElem?_append_left (by rw [hl]; exact hj)]
    · rw [List.getElem?_append_right (by rw [hl]; omega), hl, show (i + 1) * 6 + j - 6 = i * 6 + j by omega]
      exact ih i (by simpa using h)
theorem add_add6 (g n j : Nat) : ((⟨g, 0, none⟩ : Addr).add n).off + j = n + j ∧ ((⟨g, 0, none⟩ : Addr).add n).block = g ∧ (⟨g, 0, none⟩ : Addr).add n = ⟨g, n, none⟩ := by
  unfold Addr.add
  by_cases h : n = 0
  · subst h; simp
  · simp [h]
theorem RdXs.of_own {w : World} {base : Nat} {e : TypeId} {A : Option Addr} {c : Nat} {l : List Xt} (h : w.ownsRow base e 6 (.slice A l.length c) l.length (xsC l)) : RdXs w w.heap.size A l := fun hn => by
  rcases h.2 with ⟨h1, h2⟩ | ⟨g, cap, cur, h1, h2, h3, h4, h5, h6, h7⟩
  · exact absurd (List.length_eq_zero_iff.1 h2) hn
  · have hA : A = some ⟨g, 0, none⟩ := by injection h1
    subst hA
    refine ⟨_, rfl, (Array.getElem?_eq_some_iff.1 h3).1, fun i y hy => ?_⟩
    have key : ∀ j u, j < 6 → (xCs y)[j]? = some u → w.cell? ⟨g, i * 6 + j, none⟩ = some u := fun j u hj6 hj => by
      rw [← xsC_get l i y hy j hj6] at hj
      rw [cell_of_row w g (i * 6 + j) cur _ (0, 0) h3]
      rw [← h7, List.getElem?_take] at hj
      split at hj
      · rw [← Array.getElem?_toList]; exact hj
      · cases hj
    unfold XC
    rw [(add_add6 g (i * 6) 1).1, (add_add6 g (i * 6) 2).1, (add_add6 g (i * 6) 3).1, (add_add6 g (i * 6) 4).1, (add_add6 g (i * 6) 5).1, (add_add6 g (i * 6) 1).2.1, (add_add6 g (i * 6) 1).2.2]
    exact ⟨key 0 _ (by omega) rfl, key 1 _ (by omega) rfl, key 2 _ (by omega) rfl, key 3 _ (by omega) rfl, key 4 _ (by omega) rfl, key 5 _ (by omega) rfl⟩
/-- a list of expressions, new -/
def NewX (l : List Xt) (w : World) (e : Ending) (w' : World) : Prop := ∃ A c, e = .returned (.slice A l.length c) ∧ RdXs w' w'.heap.size A l ∧ Below w.heap.size w w'
set_option maxHeartbeats 1000000 in
set_option maxRecDepth 20000 in
theorem rList_any (x : Xt) (w : World) (hX : RdX w w.heap.size x) (hs : x.size ≤ 100000) : Calls Tryz.prog 33 #[xV x] w (NewX x.list w) := by
  have K : Hid (∀ W, Below w.heap.size w W → Calls Tryz.prog 56 #[xV x, .slice none 0 0] W (NewX x.list W)) := Lib.hid fun W hb => by
    have := rlist_any x W W.heap.size (.slice none 0 0) 0 [] (Nat.le_refl _) (hX.to hb) (World.ownsRow_nil _ _ _ _) (by omega)
    rw [Nat.zero_add, List.nil_append, ← list_length x] at this
    refine this.mono fun e w1 ⟨v', he, h1, h2, h3⟩ => ?_
    obtain ⟨A, c, rfl⟩ := own_form6 h1
    exact ⟨A, c, he, RdXs.of_own h1, ⟨h2.os, h2.tape, h2.output, h2.size, fun k hk => h2.block k hk (by intro e; cases e)⟩⟩
  simp only [xV] at K ⊢
  go_enter Tryz.func33, Tryz.ntmps33
  go_wp2_with (go_at_call 56; (with_reducible refine (K.out _ ?_).mono ?_); (focus ((repeat (first | (with_reducible exact Below.refl _ _) | (with_reducible assumption) | (with_reducible exact bel_box _) | (with_reducible refine bel_step ?_ (by with_reducible assumption)) | (with_reducible refine Below.drew ?_) | (with_reducible refine below_drewN ?_ _) | (with_reducible refine bel_alloc ?_ _))); done)); rintro e w1 ⟨A, c, rfl, hR, hb1⟩)
  go_ret
  exact ⟨A, c, rfl, hR, (by repeat (first | (with_reducible exact Below.refl _ _) | (with_reducible assumption) | (with_reducible exact bel_box _) | (with_reducible refine bel_step ?_ (by with_reducible assumption)) | (with_reducible refine Below.drew ?_) | (with_reducible refine below_drewN ?_ _) | (with_reducible refine bel_alloc ?_ _)))⟩
theorem parts_count (l : List Xt) (p : Xt → Bool) : ∃ C : Nat → Nat, l.countP p = C l.length ∧ C 0 = 0 ∧ (∀ k, C k ≤ k) ∧ Hid (∀ (k : Nat) (y : Xt), l[k]? = some y → C (k + 1) = C k + if p y then 1 else 0) := by
  refine ⟨fun k => (l.take k).countP p, by simp, by simp, fun k => ?_, Lib.hid fun k y hy => ?_⟩
  · exact Nat.le_trans List.countP_le_length (by simp [List.length_take]; omega)
  · show (l.take (k + 1)).countP p = _
    rw [take_succ_of hy, List.countP_append]
    simp [List.countP_cons]
set_option maxHeartbeats 1000000 in
set_option maxRecDepth 20000 in
theorem rcount_any (x : Xt) (kd : Int) (w : World) (hX : RdX w w.heap.size x) (hs : x.size ≤ 100000) : Calls Tryz.prog 19 #[xV x, .int .i64 kd] w (Bel (.int .i64 ((x.list.countP fun y => y.k == kd) : Nat)) w) := by
  have K : Hid (∀ W, Below w.heap.size w W → Calls Tryz.prog 33 #[xV x] W (NewX x.list W)) := Lib.hid fun W hb => rList_any x W (hX.to hb) hs
  have hl := list_length x
  obtain ⟨l, hL⟩ : ∃ l, x.list = l := ⟨_, rfl⟩
  rw [hL] at K hl ⊢
  clear hL hX
  obtain ⟨C, hC, hC0, hCl, HC⟩ := parts_count l (fun y => y.k == kd)
  rw [hC]
  clear hC
  have HCl := Lib.hid hCl
  clear hCl
  simp only [xV] at K ⊢
  go_enter Tryz.func19, Tryz.ntmps19
  go_wp2_with (go_at_call 33; (with_reducible refine (K.out _ ?_).mono ?_); (focus ((repeat (first | (with_reducible exact Below.refl _ _) | (with_reducible assumption) | (with_reducible exact bel_box _) | (with_reducible refine bel_step ?_ (by with_reducible assumption)) | (with_reducible refine Below.drew ?_) | (with_reducible refine below_drewN ?_ _) | (with_reducible refine bel_alloc ?_ _))); done)); rintro e w1 ⟨A, c, rfl, hR, hb1⟩)
  rw [← hl]
  go_loopw [5, 7] (fun n i wr => ∃ k : Nat, k ≤ l.length ∧ i = .int .i64 (k : Int) ∧ n = .int .i64 (C k : Nat) ∧ wr = w1) (fun _ i _ => l.length - (intOf i).toNat)
  case atStart => exact ⟨0, by omega, rfl, by rw [hC0]; rfl, rfl⟩
  case round =>
    obtain ⟨k, hk, rfl, rfl, rfl⟩ := hrel
    have hCk := HCl.out k
    by_cases hlt : k < l.length
    · obtain ⟨ad, y, rfl, had, hy, hm, ⟨c0, c1, c2, c3, c4, c5⟩⟩ := hR.at_ hlt
      have hn := HC.out k y hy
      clear hy
      by_cases hq : (y.k == kd) = true
      · rw [if_pos hq] at hn
        go_wp2
        exact ⟨⟨k + 1, by omega, by congr 1, by congr 1; omega, trivial⟩, by simp [intOf]; omega⟩
      · rw [if_neg hq] at hn
        rw [Bool.not_eq_true] at hq
        go_wp2
        exact ⟨⟨k + 1, by omega, by congr 1, by congr 1; omega, trivial⟩, by simp [intOf]; omega⟩
    · obtain rfl : k = l.length := by omega
      go_wp2
      go_ret
      exact ⟨rfl, (by repeat (first | (with_reducible exact Below.refl _ _) | (with_reducible assumption) | (with_reducible exact bel_box _) | (with_reducible refine bel_step ?_ (by with_reducible assumption)) | (with_reducible refine Below.drew ?_) | (with_reducible refine below_drewN ?_ _) | (with_reducible refine bel_alloc ?_ _)))⟩
theorem any_of_counts (l : List Xt) : (!l.any fun y => stK y.k) = (((((l.countP (fun y => y.k == 5) + l.countP (fun y => y.k == 6)) + l.countP (fun y => y.k == 7)) + l.countP (fun y => y.k == 10)) + l.countP (fun y => y.k == 11)) == 0) := by
  induction l with
  | nil => rfl
  | cons a l ih =>
    rw [List.any_cons, Bool.not_or, ih]
    have e : stK a.k = (a.k == 5 || a.k == 6 || a.k == 7 || a.k == 10 || a.k == 11) := rfl
    rw [e]
    simp only [List.countP_cons]
    generalize l.countP (fun y => y.k == 5) = n1
    generalize l.countP (fun y => y.k == 6) = n2
    generalize l.countP (fun y => y.k == 7) = n3
    generalize l.countP (fun y => y.k == 10) = n4
    generalize l.countP (fun y => y.k == 11) = n5
    cases a.k == 5 <;> cases a.k == 6 <;> cases a.k == 7 <;> cases a.k == 10 <;> cases a.k == 11 <;> simp (config := { decide := false }) only [if_true, if_false, Bool.false_eq_true, Bool.or_false, Bool.false_or, Bool.or_true, Bool.true_or, Bool.not_true, Bool.not_false, Bool.false_and, Bool.true_and, Nat.add_zero] <;> exact (beq_eq_false_iff_ne.2 (by omega)).symm
set_option maxHeartbeats 1000000 in
set_option maxRecDepth 20000 in
theorem rstateless_any (x : Xt) (w : World) (hX : RdX w w.heap.size x) (hs : x.size ≤ 100000) : Calls Tryz.prog 21 #[xV x] w (Bel (.bool (!x.list.any fun y => stK y.k)) w) := by
  have hl := list_length x
  have KC : ∀ kd : Int, ∃ n : Nat, n ≤ 100000 ∧ (x.list.countP fun y => y.k == kd) = n ∧ Hid (∀ W, Below w.heap.size w W → Calls Tryz.prog 19 #[xV x, .int .i64 kd] W (Bel (.int .i64 n) W)) := fun kd => ⟨_, Nat.le_trans List.countP_le_length (by omega), rfl, Lib.hid fun W hb => rcount_any x kd W (hX.to hb) hs⟩
  rw [any_of_counts]
  obtain ⟨a, ha, ea, K1⟩ := KC 5
  obtain ⟨b, hb, eb, K2⟩ := KC 6
  obtain ⟨c, hc, ec, K3⟩ := KC 7
  obtain ⟨d, hd, ed, K4⟩ := KC 10
  obtain ⟨f, hf, ef, K5⟩ := KC 11
  rw [ea, eb, ec, ed, ef]
  clear ea eb ec ed ef KC hX
  obtain ⟨s1, e1⟩ : ∃ s : Nat, a + b = s := ⟨_, rfl⟩
  obtain ⟨s2, e2⟩ : ∃ s : Nat, s1 + c = s := ⟨_, rfl⟩
  obtain ⟨s3, e3⟩ : ∃ s : Nat, s2 + d = s := ⟨_, rfl⟩
  obtain ⟨s4, e4⟩ : ∃ s : Nat, s3 + f = s := ⟨_, rfl⟩
  rw [e1, e2, e3, e4]
  have f1 : (a : Int) + (b : Int) = (s1 : Int) := by omega
  have f2 : (s1 : Int) + (c : Int) = (s2 : Int) := by omega
  have f3 : (s2 : Int) + (d : Int) = (s3 : Int) := by omega
  have f4 : (s3 : Int) + (f : Int) = (s4 : Int) := by omega
  have g1 : IntKind.i64.wrap (s1 : Int) = (s1 : Int) := Go.IntWalk.i64_in _ ⟨by omega, by omega⟩
  have g2 : IntKind.i64.wrap (s2 : Int) = (s2 : Int) := Go.IntWalk.i64_in _ ⟨by omega, by omega⟩
  have g3 : IntKind.i64.wrap (s3 : Int) = (s3 : Int) := Go.IntWalk.i64_in _ ⟨by omega, by omega⟩
  have g4 : IntKind.i64.wrap (s4 : Int) = (s4 : Int) := Go.IntWalk.i64_in _ ⟨by omega, by omega⟩
  simp only [xV] at K1 K2 K3 K4 K5 ⊢
  go_enter Tryz.func21, Tryz.ntmps21
  obtain ⟨b0, b1, b2, b3, b4, b5, _⟩ := bxW_cells (w := w) (x := x) (Below.refl _ _)
  have hBx := bxW_below (w := w) (x := x) (Below.refl _ _)
  go_wp2
  obtain ⟨W0, hW0⟩ : ∃ W0, bxW w x = W0 := ⟨_, rfl⟩
  rw [hW0] at b0 b1 b2 b3 b4 b5 hBx
  rw [show w.alloc (.cells #[.int .i64 x.k, .int .i64 x.op, .int .i64 x.t, .int .i64 x.v, .string x.nm, .slice x.A x.ar.length x.c] 24) = W0 from hW0]
  clear hW0
  have k0 := cell_regrown b0
  have k1 := cell_regrown b1
  have k2 := cell_regrown b2
  have k3 := cell_regrown b3
  have k4 := cell_regrown b4
  have k5 := cell_regrown b5
  have c1 := fun dd os => Calls.regrown_of (K1.out (grow (redrawn W0 dd) os) (hBx.trans ((below_regrown W0 dd os).mono hBx.size)))
  have c2 := fun dd os => Calls.regrown_of (K2.out (grow (redrawn W0 dd) os) (hBx.trans ((below_regrown W0 dd os).mono hBx.size)))
  have c3 := fun dd os => Calls.regrown_of (K3.out (grow (redrawn W0 dd) os) (hBx.trans ((below_regrown W0 dd os).mono hBx.size)))
  have c4 := fun dd os => Calls.regrown_of (K4.out (grow (redrawn W0 dd) os) (hBx.trans ((below_regrown W0 dd os).mono hBx.size)))
  have c5 := fun dd os => Calls.regrown_of (K5.out (grow (redrawn W0 dd) os) (hBx.trans ((below_regrown W0 dd os).mono hBx.size)))
  clear K1 K2 K3 K4 K5 b0 b1 b2 b3 b4 b5
  refine wp_region_quiet_below (by kernel_rfl) (by kernel_rfl) ?_
  repeat (quiet_step (first | with_reducible exact c1 _ _ | with_reducible exact c2 _ _ | with_reducible exact c3 _ _ | with_reducible exact c4 _ _ | with_reducible exact c5 _ _))
  refine wpQuiet_nil ?_
  intro _ hw'
  obtain ⟨⟨dq, osq⟩, hw''⟩ := hw'
  subst hw''
  go_wp2
  go_ret
  refine ⟨?_, hBx.trans ((below_regrown W0 dq osq).mono hBx.size)⟩
  have hq : ((s4 : Int) == 0) = (s4 == 0) := by rw [Bool.eq_iff_iff]; simp
  rw [← hq]
  rfl
end Go.Proofs.YtfogkcccjemloaaGreatDoor
/- The form of both is one; Check of the reference. -/
namespace Go.Proofs.YtfogkcccjemloaaGreatDoor
set_option linter.unusedVariables false
set_option linter.unusedSimpArgs false
open Go.RowKit Go.Sort
set_option maxHeartbeats 2000000 in
theorem form_one (k op t v : Int) (n : Nat) (ne wok : Bool) : formRP k op t v (argP k op t v n) (tagP t v) ne wok = (formedP k op t v n wok && onlyP k op t v ne) := by
  by_cases h1 : k = 1
  · subst h1; by_cases h2t : t = 2 <;> by_cases h3t : 3 ≤ t <;> by_cases h0v : 0 ≤ v <;> by_cases ho : op = 0 <;> by_cases ht : t = 1 <;> by_cases hv : v = 0 <;> cases ne <;> cases wok <;> (first | (rw [Bool.eq_iff_iff]; simp [formRP, argP, tagP, formedP, onlyP, hasVal, hasBr, opnds, hasIdn, hasVar, *]; done) | (rw [Bool.eq_iff_iff]; simp [formRP, argP, tagP, formedP, onlyP, hasVal, hasBr, opnds, hasIdn, hasVar, *]; omega) | (rw [Bool.eq_iff_iff]; simp_all [formRP, argP, tagP, formedP, onlyP, hasVal, hasBr, opnds, hasIdn, hasVar]; omega))
  by_cases h2 : k = 2
  · subst h2; by_cases ho : op = 0 <;> by_cases ht : t = 1 <;> by_cases hv : v = 0 <;> cases ne <;> cases wok <;> (first | (rw [Bool.eq_iff_iff]; simp [formRP, argP, tagP, formedP, onlyP, hasVal, hasBr, opnds, hasIdn, hasVar, *]; done) | (rw [Bool.eq_iff_iff]; simp [formRP, argP, tagP, formedP, onlyP, hasVal, hasBr, opnds, hasIdn, hasVar, *]; omega) | (rw [Bool.eq_iff_iff]; simp_all [formRP, argP, tagP, formedP, onlyP, hasVal, hasBr, opnds, hasIdn, hasVar]; omega))
  by_cases h3 : k = 3
  · subst h3; by_cases ho : op = 0 <;> by_cases ht : t = 1 <;> by_cases hv : v = 0 <;> cases ne <;> cases wok <;> (first | (rw [Bool.eq_iff_iff]; simp [formRP, argP, tagP, formedP, onlyP, hasVal, hasBr, opnds, hasIdn, hasVar, *]; done) | (rw [Bool.eq_iff_iff]; simp [formRP, argP, tagP, formedP, onlyP, hasVal, hasBr, opnds, hasIdn, hasVar, *]; omega) | (rw [Bool.eq_iff_iff]; simp_all [formRP, argP, tagP, formedP, onlyP, hasVal, hasBr, opnds, hasIdn, hasVar]; omega))
  by_cases h4 : k = 4
  · subst h4; by_cases ho : op = 0 <;> by_cases ht : t = 1 <;> by_cases hv : v = 0 <;> cases ne <;> cases wok <;> (first | (rw [Bool.eq_iff_iff]; simp [formRP, argP, tagP, formedP, onlyP, hasVal, hasBr, opnds, hasIdn, hasVar, *]; done) | (rw [Bool.eq_iff_iff]; simp [formRP, argP, tagP, formedP, onlyP, hasVal, hasBr, opnds, hasIdn, hasVar, *]; omega) | (rw [Bool.eq_iff_iff]; simp_all [formRP, argP, tagP, formedP, onlyP, hasVal, hasBr, opnds, hasIdn, hasVar]; omega))
  by_cases h5 : k = 5
  · subst h5; by_cases ho : op = 0 <;> by_cases ht : t = 1 <;> by_cases hv : v = 0 <;> cases ne <;> cases wok <;> (first | (rw [Bool.eq_iff_iff]; simp [formRP, argP, tagP, formedP, onlyP, hasVal, hasBr, opnds, hasIdn, hasVar, *]; done) | (rw [Bool.eq_iff_iff]; simp [formRP, argP, tagP, formedP, onlyP, hasVal, hasBr, opnds, hasIdn, hasVar, *]; omega) | (rw [Bool.eq_iff_iff]; simp_all [formRP, argP, tagP, formedP, onlyP, hasVal, hasBr, opnds, hasIdn, hasVar]; omega))
  by_cases h6 : k = 6
  · subst h6; by_cases ho : op = 0 <;> by_cases ht : t = 1 <;> by_cases hv : v = 0 <;> cases ne <;> cases wok <;> (first | (rw [Bool.eq_iff_iff]; simp [formRP, argP, tagP, formedP, onlyP, hasVal, hasBr, opnds, hasIdn, hasVar, *]; done) | (rw [Bool.eq_iff_iff]; simp [formRP, argP, tagP, formedP, onlyP, hasVal, hasBr, opnds, hasIdn, hasVar, *]; omega) | (rw [Bool.eq_iff_iff]; simp_all [formRP, argP, tagP, formedP, onlyP, hasVal, hasBr, opnds, hasIdn, hasVar]; omega))
  by_cases h7 : k = 7
  · subst h7; by_cases ho : op = 0 <;> by_cases ht : t = 1 <;> by_cases hv : v = 0 <;> cases ne <;> cases wok <;> (first | (rw [Bool.eq_iff_iff]; simp [formRP, argP, tagP, formedP, onlyP, hasVal, hasBr, opnds, hasIdn, hasVar, *]; done) | (rw [Bool.eq_iff_iff]; simp [formRP, argP, tagP, formedP, onlyP, hasVal, hasBr, opnds, hasIdn, hasVar, *]; omega) | (rw [Bool.eq_iff_iff]; simp_all [formRP, argP, tagP, formedP, onlyP, hasVal, hasBr, opnds, hasIdn, hasVar]; omega))
  by_cases h8 : k = 8
  · subst h8; by_cases ho : op = 0 <;> by_cases ht : t = 1 <;> by_cases hv : v = 0 <;> cases ne <;> cases wok <;> (first | (rw [Bool.eq_iff_iff]; simp [formRP, argP, tagP, formedP, onlyP, hasVal, hasBr, opnds, hasIdn, hasVar, *]; done) | (rw [Bool.eq_iff_iff]; simp [formRP, argP, tagP, formedP, onlyP, hasVal, hasBr, opnds, hasIdn, hasVar, *]; omega) | (rw [Bool.eq_iff_iff]; simp_all [formRP, argP, tagP, formedP, onlyP, hasVal, hasBr, opnds, hasIdn, hasVar]; omega))
  by_cases h9 : k = 9
  · subst h9; by_cases ho : op = 0 <;> by_cases ht : t = 1 <;> by_cases hv : v = 0 <;> cases ne <;> cases wok <;> (first | (rw [Bool.eq_iff_iff]; simp [formRP, argP, tagP, formedP, onlyP, hasVal, hasBr, opnds, hasIdn, hasVar, *]; done) | (rw [Bool.eq_iff_iff]; simp [formRP, argP, tagP, formedP, onlyP, hasVal, hasBr, opnds, hasIdn, hasVar, *]; omega) | (rw [Bool.eq_iff_iff]; simp_all [formRP, argP, tagP, formedP, onlyP, hasVal, hasBr, opnds, hasIdn, hasVar]; omega))
  by_cases h10 : k = 10
  · subst h10; by_cases ho : op = 0 <;> by_cases ht : t = 1 <;> by_cases hv : v = 0 <;> cases ne <;> cases wok <;> (first | (rw [Bool.eq_iff_iff]; simp [formRP, argP, tagP, formedP, onlyP, hasVal, hasBr, opnds, hasIdn, hasVar, *]; done) | (rw [Bool.eq_iff_iff]; simp [formRP, argP, tagP, formedP, onlyP, hasVal, hasBr, opnds, hasIdn, hasVar, *]; omega) | (rw [Bool.eq_iff_iff]; simp_all [formRP, argP, tagP, formedP, onlyP, hasVal, hasBr, opnds, hasIdn, hasVar]; omega))
  by_cases h11 : k = 11
  · subst h11; by_cases ho : op = 0 <;> by_cases ht : t = 1 <;> by_cases hv : v = 0 <;> cases ne <;> cases wok <;> (first | (rw [Bool.eq_iff_iff]; simp [formRP, argP, tagP, formedP, onlyP, hasVal, hasBr, opnds, hasIdn, hasVar, *]; done) | (rw [Bool.eq_iff_iff]; simp [formRP, argP, tagP, formedP, onlyP, hasVal, hasBr, opnds, hasIdn, hasVar, *]; omega) | (rw [Bool.eq_iff_iff]; simp_all [formRP, argP, tagP, formedP, onlyP, hasVal, hasBr, opnds, hasIdn, hasVar]; omega))
  have e1 : formRP k op t v (argP k op t v n) (tagP t v) ne wok = false := by
    rw [formRP, if_pos]
    omega
  have e2 : formedP k op t v n wok = false := by
    rw [formedP, if_neg h1, if_neg h2, if_neg h3, if_neg h4, if_neg h5, if_neg (by omega), if_neg h8, if_neg h9, if_neg h10, if_neg h11]
  rw [e1, e2]
  rfl
end Go.Proofs.YtfogkcccjemloaaGreatDoor
/- Check of the reference. -/
namespace Go.Proofs.YtfogkcccjemloaaGreatDoor
set_option linter.unusedVariables false
set_option linter.unusedSimpArgs false
open Go.RowKit Go.Sort
/-- what is asked of the reference's callees that read the Name -/
def NmR (wok : ByteArray → Bool) (w : World) (x : Xt) : Prop := (x.k = 11 → Hid (∀ W, Below w.heap.size w W → Calls Tryz.prog 69 #[.string x.nm] W (fun e w' => ∃ (A1 A2 : Option Addr) (n1 c1 n2 c2 : Nat) (er : Int), e = .returned (.tuple #[.agg #[.slice A1 n1 c1, .slice A2 n2 c2], .int .i64 er]) ∧ (er == 0) = wok x.nm ∧ Below W.heap.size W w'))) ∧ (hasIdn x.k = true → Hid (∀ W, Below w.heap.size w W → Calls Tryz.prog 44 #[.string x.nm] W (Bel (.bool (idP x.nm)) W)))
theorem firstE_take {f : Xt → Int} {l : List Xt} {k : Nat} {y : Xt} (hy : l[k]? = some y) (h : ∀ z ∈ l.take k, f z = 0) (hf : f y ≠ 0) : firstE f l = f y := by
  have e : l = l.take k ++ y :: l.drop (k + 1) := by
    have h1 := (List.getElem?_eq_some_iff.1 hy).1
    conv => lhs; rw [← List.take_append_drop k l, List.drop_eq_getElem_cons h1, (List.getElem?_eq_some_iff.1 hy).2]
  rw [e]
  exact firstE_at h hf
theorem ok_take {f : Xt → Int} {l : List Xt} {k : Nat} {y : Xt} (hy : l[k]? = some y) (h : ∀ z ∈ l.take k, f z = 0) (hf : f y = 0) : ∀ z ∈ l.take (k + 1), f z = 0 := by
  intro z hz
  rw [take_succ_of hy] at hz
  rcases List.mem_append.1 hz with hz | hz
  · exact h z hz
  · obtain rfl := List.mem_singleton.1 hz
    exact hf
set_option maxHeartbeats 4000000 in
set_option maxRecDepth 20000 in
theorem rcheck_any (wok : ByteArray → Bool) (x : Xt) (w : World) (hX : RdX w w.heap.size x) (hs : x.size ≤ 500) (hN : ∀ y ∈ x.list, NmR wok w y) : Calls Tryz.prog 13 #[xV x] w (Bel (.int .i64 (chkAll wok x)) w) := by
  have KS : Hid (∀ W, Below w.heap.size w W → Calls Tryz.prog 15 #[xV x] W (Bel (.int .i64 (x.size : Nat)) W)) := Lib.hid fun W h => rsize_any x W (hX.to h) (by omega)
  have KD : Hid (∀ W, Below w.heap.size w W → Calls Tryz.prog 17 #[xV x] W (Bel (.int .i64 (x.depth : Nat)) W)) := Lib.hid fun W h => rdepth_any x W (hX.to h) (by omega)
  have KL : Hid (∀ W, Below w.heap.size w W → Calls Tryz.prog 33 #[xV x] W (NewX x.list W)) := Lib.hid fun W h => rList_any x W (hX.to h) (by omega)
  have hll := list_length x
  have hal := hX.all
  have hdl := depth_le x
  simp only [xV] at KS KD KL ⊢
  by_cases h1 : 400 < x.size
  · have u1 : (400 : Int) < (x.size : Int) := by omega
    rw [chkAll, if_pos (.inl h1)]
    clear h1 hX hN hll hal hs hdl
    go_enter Tryz.func13, Tryz.ntmps13
    go_wp2_with (go_at_call 15; (with_reducible refine (KS.out _ ?_).mono ?_); (focus ((repeat (first | (with_reducible exact Below.refl _ _) | (with_reducible assumption) | (with_reducible exact bel_box _) | (with_reducible refine bel_step ?_ (by with_reducible assumption)) | (with_reducible refine Below.drew ?_) | (with_reducible refine below_drewN ?_ _) | (with_reducible refine bel_alloc ?_ _))); done)); rintro e w1 ⟨rfl, hb1⟩)
    go_ret
    exact ⟨rfl, (by repeat (first | (with_reducible exact Below.refl _ _) | (with_reducible assumption) | (with_reducible exact bel_box _) | (with_reducible refine bel_step ?_ (by with_reducible assumption)) | (with_reducible refine Below.drew ?_) | (with_reducible refine below_drewN ?_ _) | (with_reducible refine bel_alloc ?_ _)))⟩
  have u1 : (x.size : Int) ≤ 400 := by omega
  by_cases h2 : 32 < x.depth
  · have u2 : (32 : Int) < (x.depth : Int) := by omega
    rw [chkAll, if_pos (.inr h2)]
    clear h1 h2 hX hN hll hal hs hdl
    go_enter Tryz.func13, Tryz.ntmps13
    go_wp2_with (first
      | (go_at_call 15; (with_reducible refine (KS.out _ ?_).mono ?_); (focus ((repeat (first | (with_reducible exact Below.refl _ _) | (with_reducible assumption) | (with_reducible exact bel_box _) | (with_reducible refine bel_step ?_ (by with_reducible assumption)) | (with_reducible refine Below.drew ?_) | (with_reducible refine below_drewN ?_ _) | (with_reducible refine bel_alloc ?_ _))); done)); rintro e w1 ⟨rfl, hb1⟩; obtain ⟨b0, b1, b2, b3, b4, b5, _⟩ := bxW_cells (w := w) (x := x) (W := w1) (by repeat (first | (with_reducible exact Below.refl _ _) | (with_reducible assumption) | (with_reducible exact bel_box _) | (with_reducible refine bel_step ?_ (by with_reducible assumption)) | (with_reducible refine Below.drew ?_) | (with_reducible refine below_drewN ?_ _) | (with_reducible refine bel_alloc ?_ _))))
      | (go_at_call 17; (with_reducible refine (KD.out _ ?_).mono ?_); (focus ((repeat (first | (with_reducible exact Below.refl _ _) | (with_reducible assumption) | (with_reducible exact bel_box _) | (with_reducible refine bel_step ?_ (by with_reducible assumption)) | (with_reducible refine Below.drew ?_) | (with_reducible refine below_drewN ?_ _) | (with_reducible refine bel_alloc ?_ _))); done)); rintro e w2 ⟨rfl, hb2⟩))
    go_ret
    exact ⟨rfl, (by repeat (first | (with_reducible exact Below.refl _ _) | (with_reducible assumption) | (with_reducible exact bel_box _) | (with_reducible refine bel_step ?_ (by with_reducible assumption)) | (with_reducible refine Below.drew ?_) | (with_reducible refine below_drewN ?_ _) | (with_reducible refine bel_alloc ?_ _)))⟩
  have u2 : (x.depth : Int) ≤ 32 := by omega
  rw [chkAll, if_neg (by omega)]
  obtain ⟨l, hl⟩ : ∃ l, x.list = l := ⟨_, rfl⟩
  rw [hl] at KL hll hal hN ⊢
  have hl5 : l.length ≤ 500 := by omega
  have HN := Lib.hid hN
  have HAL := Lib.hid hal
  clear h1 h2 hX hN hal hl hll hdl
  obtain ⟨V, hV⟩ : ∃ V, firstE (chk1 wok) l = V := ⟨_, rfl⟩
  have HV := Lib.hid hV
  rw [hV]
  clear hV
  go_enter Tryz.func13, Tryz.ntmps13
  go_wp2_with (first
    | (go_at_call 15; (with_reducible refine (KS.out _ ?_).mono ?_); (focus ((repeat (first | (with_reducible exact Below.refl _ _) | (with_reducible assumption) | (with_reducible exact bel_box _) | (with_reducible refine bel_step ?_ (by with_reducible assumption)) | (with_reducible refine Below.drew ?_) | (with_reducible refine below_drewN ?_ _) | (with_reducible refine bel_alloc ?_ _))); done)); rintro e w1 ⟨rfl, hb1⟩; obtain ⟨b0, b1, b2, b3, b4, b5, _⟩ := bxW_cells (w := w) (x := x) (W := w1) (by repeat (first | (with_reducible exact Below.refl _ _) | (with_reducible assumption) | (with_reducible exact bel_box _) | (with_reducible refine bel_step ?_ (by with_reducible assumption)) | (with_reducible refine Below.drew ?_) | (with_reducible refine below_drewN ?_ _) | (with_reducible refine bel_alloc ?_ _))))
    | (go_at_call 17; (with_reducible refine (KD.out _ ?_).mono ?_); (focus ((repeat (first | (with_reducible exact Below.refl _ _) | (with_reducible assumption) | (with_reducible exact bel_box _) | (with_reducible refine bel_step ?_ (by with_reducible assumption)) | (with_reducible refine Below.drew ?_) | (with_reducible refine below_drewN ?_ _) | (with_reducible refine bel_alloc ?_ _))); done)); rintro e w2 ⟨rfl, hb2⟩; obtain ⟨d0, d1, d2, d3, d4, d5, _⟩ := bxW_cells (w := w) (x := x) (W := w2) (by repeat (first | (with_reducible exact Below.refl _ _) | (with_reducible assumption) | (with_reducible exact bel_box _) | (with_reducible refine bel_step ?_ (by with_reducible assumption)) | (with_reducible refine Below.drew ?_) | (with_reducible refine below_drewN ?_ _) | (with_reducible refine bel_alloc ?_ _))))
    | (go_at_call 33; (with_reducible refine (KL.out _ ?_).mono ?_); (focus ((repeat (first | (with_reducible exact Below.refl _ _) | (with_reducible assumption) | (with_reducible exact bel_box _) | (with_reducible refine bel_step ?_ (by with_reducible assumption)) | (with_reducible refine Below.drew ?_) | (with_reducible refine below_drewN ?_ _) | (with_reducible refine bel_alloc ?_ _))); done)); rintro e w3 ⟨A, c, rfl, hR, hb3⟩))
  have HB3 : Hid (Below w.heap.size w w3) := Lib.hid (by repeat (first | (with_reducible exact Below.refl _ _) | (with_reducible assumption) | (with_reducible exact bel_box _) | (with_reducible refine bel_step ?_ (by with_reducible assumption)) | (with_reducible refine Below.drew ?_) | (with_reducible refine below_drewN ?_ _) | (with_reducible refine bel_alloc ?_ _)))
  clear b0 b1 b2 b3 b4 b5 d0 d1 d2 d3 d4 d5 hb1 hb2 hb3 KS KD KL
  go_loopw [4] (fun i wr => ∃ k : Nat, k ≤ l.length ∧ i = .int .i64 (k : Int) ∧ Below w3.heap.size w3 wr ∧ Hid (∀ z ∈ l.take k, chk1 wok z = 0)) (fun i _ => l.length - (intOf i).toNat)
  case atStart => exact ⟨0, by omega, rfl, Below.refl _ _, Lib.hid (by simp)⟩
  case round =>
    obtain ⟨k, hk, rfl, hbl, hno⟩ := hrel
    have HBR : Hid (Below w.heap.size w wr) := Lib.hid (HB3.out.trans (hbl.mono HB3.out.size))
    by_cases hlt : k < l.length
    · obtain ⟨ad, y, rfl, had, hy, hm, ⟨c0, c1, c2, c3, c4, c5⟩⟩ := (hR.to hbl).at_ hlt
      have H1 := Lib.hid (fun hf => (firstE_take hy hno.out hf).symm.trans HV.out)
      have H2 := Lib.hid (fun hf => ok_take hy hno.out hf)
      have hyl := HAL.out y hm
      unfold maxLen at hyl
      have KF : Hid (∀ W, Below wr.heap.size wr W → Calls Tryz.prog 43 #[.agg #[.int .i64 y.k, .int .i64 y.op, .int .i64 y.t, .int .i64 y.v, .string y.nm, .slice y.A y.ar.length y.c]] W (Bel (.bool (formedP y.k y.op y.t y.v y.ar.length (wok y.nm) && onlyP y.k y.op y.t y.v (y.nm.toList == []))) W)) := Lib.hid fun W h => by
        have := rform_any y (wok y.nm) W (fun hk => Lib.hid fun W' h' => ((HN.out y hm).1 hk).out W' (bel_step (HBR.out.trans (h.mono HBR.out.size)) h'))
        rwa [form_one] at this
      have KN := Lib.hid (fun W => named_any y.k W)
      have KI : hasIdn y.k = true → Hid (∀ W, Below wr.heap.size wr W → Calls Tryz.prog 44 #[.string y.nm] W (Bel (.bool (idP y.nm)) W)) := fun hi => Lib.hid fun W h => ((HN.out y hm).2 hi).out W (HBR.out.trans (h.mono HBR.out.size))
      have hc1 : chk1 wok y = if 64 < y.ar.length then 3 else if (formedP y.k y.op y.t y.v y.ar.length (wok y.nm) && onlyP y.k y.op y.t y.v (y.nm.toList == [])) = false then 5 else if (hasIdn y.k && !idP y.nm) = true then 6 else 0 := rfl
      generalize (formedP y.k y.op y.t y.v y.ar.length (wok y.nm) && onlyP y.k y.op y.t y.v (y.nm.toList == [])) = bf at KF hc1
      generalize idP y.nm = bi at KI hc1
      generalize hasIdn y.k = bn at KI KN hc1
      have HC : Hid (∀ W, Below wr.heap.size wr W → XC W (ad.add (k * 6)) y) := Lib.hid fun W h => (show XC wr (ad.add (k * 6)) y from ⟨c0, c1, c2, c3, c4, c5⟩).keep fun p hp => h.cell (by rw [hp, add_block]; exact had)
      clear hy hm hno HN HAL HV
      by_cases h64 : 64 < y.ar.length
      · rw [if_pos h64] at hc1
        have u3 : (64 : Int) < (y.ar.length : Int) := by omega
        have hv := H1.out (by rw [hc1]; decide)
        rw [hc1] at hv
        clear hc1 H1 H2
        go_wp2
        go_ret
        exact ⟨by rw [← hv]; rfl, HBR.out⟩
      rw [if_neg h64] at hc1
      have u3 : (y.ar.length : Int) ≤ 64 := by omega
      cases bf
      · rw [if_pos rfl] at hc1
        have hv := H1.out (by rw [hc1]; decide)
        rw [hc1] at hv
        clear hc1 H1 H2
        go_wp2_with (go_at_call 43; (with_reducible refine (KF.out _ ?_).mono ?_); (focus ((repeat (first | (with_reducible exact Below.refl _ _) | (with_reducible assumption) | (with_reducible exact bel_box _) | (with_reducible refine bel_step ?_ (by with_reducible assumption)) | (with_reducible refine Below.drew ?_) | (with_reducible refine below_drewN ?_ _) | (with_reducible refine bel_alloc ?_ _))); done)); rintro e w5 ⟨rfl, hb5⟩)
        go_ret
        exact ⟨by rw [← hv]; rfl, HBR.out.trans (Below.mono (by repeat (first | (with_reducible exact Below.refl _ _) | (with_reducible assumption) | (with_reducible exact bel_box _) | (with_reducible refine bel_step ?_ (by with_reducible assumption)) | (with_reducible refine Below.drew ?_) | (with_reducible refine below_drewN ?_ _) | (with_reducible refine bel_alloc ?_ _))) HBR.out.size)⟩
      rw [if_neg (by simp)] at hc1
      cases bn
      · rw [Bool.false_and, if_neg (by simp)] at hc1
        have N := Lib.hid (H2.out hc1)
        clear hc1 H1 H2 KI
        go_wp2_with (first
          | (go_at_call 43; (with_reducible refine (KF.out _ ?_).mono ?_); (focus ((repeat (first | (with_reducible exact Below.refl _ _) | (with_reducible assumption) | (with_reducible exact bel_box _) | (with_reducible refine bel_step ?_ (by with_reducible assumption)) | (with_reducible refine Below.drew ?_) | (with_reducible refine below_drewN ?_ _) | (with_reducible refine bel_alloc ?_ _))); done)); rintro e w5 ⟨rfl, hb5⟩; obtain ⟨e0, e1, e2, e3, e4, e5⟩ := HC.out w5 (by repeat (first | (with_reducible exact Below.refl _ _) | (with_reducible assumption) | (with_reducible exact bel_box _) | (with_reducible refine bel_step ?_ (by with_reducible assumption)) | (with_reducible refine Below.drew ?_) | (with_reducible refine below_drewN ?_ _) | (with_reducible refine bel_alloc ?_ _))))
          | (go_at_call 34; (with_reducible refine (KN.out _).mono ?_); rintro e w6 ⟨rfl, hb6⟩))
        exact ⟨⟨k + 1, by omega, by congr 1, (by repeat (first | (with_reducible exact Below.refl _ _) | (with_reducible assumption) | (with_reducible exact bel_box _) | (with_reducible refine bel_step ?_ (by with_reducible assumption)) | (with_reducible refine Below.drew ?_) | (with_reducible refine below_drewN ?_ _) | (with_reducible refine bel_alloc ?_ _))), N⟩, by simp [intOf]; omega⟩
      have KI2 := KI rfl
      rw [Bool.true_and] at hc1
      cases bi
      · rw [if_pos (by simp)] at hc1
        have hv := H1.out (by rw [hc1]; decide)
        rw [hc1] at hv
        clear hc1 H1 H2 KI
        go_wp2_with (first
          | (go_at_call 43; (with_reducible refine (KF.out _ ?_).mono ?_); (focus ((repeat (first | (with_reducible exact Below.refl _ _) | (with_reducible assumption) | (with_reducible exact bel_box _) | (with_reducible refine bel_step ?_ (by with_reducible assumption)) | (with_reducible refine Below.drew ?_) | (with_reducible refine below_drewN ?_ _) | (with_reducible refine bel_alloc ?_ _))); done)); rintro e w5 ⟨rfl, hb5⟩; obtain ⟨e0, e1, e2, e3, e4, e5⟩ := HC.out w5 (by repeat (first | (with_reducible exact Below.refl _ _) | (with_reducible assumption) | (with_reducible exact bel_box _) | (with_reducible refine bel_step ?_ (by with_reducible assumption)) | (with_reducible refine Below.drew ?_) | (with_reducible refine below_drewN ?_ _) | (with_reducible refine bel_alloc ?_ _))))
          | (go_at_call 34; (with_reducible refine (KN.out _).mono ?_); rintro e w6 ⟨rfl, hb6⟩; obtain ⟨g0, g1, g2, g3, g4, g5⟩ := HC.out w6 (by repeat (first | (with_reducible exact Below.refl _ _) | (with_reducible assumption) | (with_reducible exact bel_box _) | (with_reducible refine bel_step ?_ (by with_reducible assumption)) | (with_reducible refine Below.drew ?_) | (with_reducible refine below_drewN ?_ _) | (with_reducible refine bel_alloc ?_ _))))
          | (go_at_call 44; (with_reducible refine (KI2.out _ ?_).mono ?_); (focus ((repeat (first | (with_reducible exact Below.refl _ _) | (with_reducible assumption) | (with_reducible exact bel_box _) | (with_reducible refine bel_step ?_ (by with_reducible assumption)) | (with_reducible refine Below.drew ?_) | (with_reducible refine below_drewN ?_ _) | (with_reducible refine bel_alloc ?_ _))); done)); rintro e w7 ⟨rfl, hb7⟩))
        go_ret
        exact ⟨by rw [← hv]; rfl, HBR.out.trans (Below.mono (by repeat (first | (with_reducible exact Below.refl _ _) | (with_reducible assumption) | (with_reducible exact bel_box _) | (with_reducible refine bel_step ?_ (by with_reducible assumption)) | (with_reducible refine Below.drew ?_) | (with_reducible refine below_drewN ?_ _) | (with_reducible refine bel_alloc ?_ _))) HBR.out.size)⟩
      · rw [if_neg (by simp)] at hc1
        have N := Lib.hid (H2.out hc1)
        clear hc1 H1 H2 KI
        go_wp2_with (first
          | (go_at_call 43; (with_reducible refine (KF.out _ ?_).mono ?_); (focus ((repeat (first | (with_reducible exact Below.refl _ _) | (with_reducible assumption) | (with_reducible exact bel_box _) | (with_reducible refine bel_step ?_ (by with_reducible assumption)) | (with_reducible refine Below.drew ?_) | (with_reducible refine below_drewN ?_ _) | (with_reducible refine bel_alloc ?_ _))); done)); rintro e w5 ⟨rfl, hb5⟩; obtain ⟨e0, e1, e2, e3, e4, e5⟩ := HC.out w5 (by repeat (first | (with_reducible exact Below.refl _ _) | (with_reducible assumption) | (with_reducible exact bel_box _) | (with_reducible refine bel_step ?_ (by with_reducible assumption)) | (with_reducible refine Below.drew ?_) | (with_reducible refine below_drewN ?_ _) | (with_reducible refine bel_alloc ?_ _))))
          | (go_at_call 34; (with_reducible refine (KN.out _).mono ?_); rintro e w6 ⟨rfl, hb6⟩; obtain ⟨g0, g1, g2, g3, g4, g5⟩ := HC.out w6 (by repeat (first | (with_reducible exact Below.refl _ _) | (with_reducible assumption) | (with_reducible exact bel_box _) | (with_reducible refine bel_step ?_ (by with_reducible assumption)) | (with_reducible refine Below.drew ?_) | (with_reducible refine below_drewN ?_ _) | (with_reducible refine bel_alloc ?_ _))))
          | (go_at_call 44; (with_reducible refine (KI2.out _ ?_).mono ?_); (focus ((repeat (first | (with_reducible exact Below.refl _ _) | (with_reducible assumption) | (with_reducible exact bel_box _) | (with_reducible refine bel_step ?_ (by with_reducible assumption)) | (with_reducible refine Below.drew ?_) | (with_reducible refine below_drewN ?_ _) | (with_reducible refine bel_alloc ?_ _))); done)); rintro e w7 ⟨rfl, hb7⟩))
        exact ⟨⟨k + 1, by omega, by congr 1, (by repeat (first | (with_reducible exact Below.refl _ _) | (with_reducible assumption) | (with_reducible exact bel_box _) | (with_reducible refine bel_step ?_ (by with_reducible assumption)) | (with_reducible refine Below.drew ?_) | (with_reducible refine below_drewN ?_ _) | (with_reducible refine bel_alloc ?_ _))), N⟩, by simp [intOf]; omega⟩
    · obtain rfl : k = l.length := by omega
      have h1 := hno.out
      rw [List.take_length] at h1
      have hv := (firstE_ok h1).symm.trans HV.out
      clear h1 hno
      go_wp2
      go_ret
      exact ⟨by rw [← hv]; rfl, HBR.out⟩
end Go.Proofs.YtfogkcccjemloaaGreatDoor
/- The frame of a law's row: a call that returns true and leaves the old blocks alone meets the row; arguments that are slices of bools are opened. -/
namespace Go.Proofs.YtfogkcccjemloaaGreatDoor
set_option linter.unusedVariables false
set_option linter.unusedSimpArgs false
open Go.ChangeShapes Go.WideShapes Go.ChangeAt Go.RowKit Go.Deep
def Tru (w : World) (e : Ending) (w' : World) : Prop := e = .returned (.bool true) ∧ Below w.heap.size w w'
section
variable {H : Type} {enc : TypeId × Value → H} {P : Program}
theorem trodAll_below (hl : laidOutB P = true) {W W' : World} (hb : Below W.heap.size W W') : ∀ {ts : List TypeId} {vs : List Value} {ds : List (DataW H)} {ps : List MemPlace},
    (∀ t ∈ ts, P.readableRec t = true ∧ t < P.types.size) → DataW.TrodAll enc P W 0 (fun _ => true) true ts vs ds ps → (∀ x ∈ ps, x.block < W.heap.size) →
    DataW.TrodAll enc P W' 0 (fun b => decide (b < W.heap.size)) true ts vs ds ps := by
  intro ts
  induction ts with
  | nil => intro vs ds ps _ h _; cases vs <;> cases ds <;> simp_all [DataW.TrodAll]
  | cons t ts ih =>
    intro vs ds ps ht h hlt
    match vs, ds, h with
    | v :: vs, d :: ds, ⟨p, q, h1, h2, e⟩ =>
      subst e
      obtain ⟨hr, hs⟩ := ht t (by simp)
      exact ⟨p, q, Below.trod hl hr hs h1 hb (fun x hx => hlt x (by simp [hx])), ih (fun u hu => ht u (by simp [hu])) h2 (fun x hx => hlt x (by simp [hx])), rfl⟩
theorem law_post {f : Func} {s : ChangeSpec} {W W' : World} {args : Array Value} {ds gs : List (DataW H)} {before : List MemPlace} {tb : TypeId}
    (hW : DataW.Whole enc P f.params.toList s.vars false W args.toList ds gs before) (hv : s.vars = [])
    (hs : (s.fn H (ds ++ gs)).results = [.lit (.bool true)] ∧ (s.fn H (ds ++ gs)).args = ds ∧ (s.fn H (ds ++ gs)).vars = [])
    (hf : f.resultTypes = #[tb]) (htb : P.underlying tb = some .bool) (hl : laidOutB P = true) (hts : ∀ t ∈ f.params.toList, P.readableRec t = true ∧ t < P.types.size)
    (hb : Below W.heap.size W W') : s.post enc P f false true false false W args (.bool true) W' := by
  have hW' := hW
  obtain ⟨p, q, hA, hV, rfl, _, _⟩ := hW
  rw [hv] at hV
  obtain ⟨rfl, rfl⟩ := trodVars_none hV
  refine ⟨ds, [], p ++ [], [], p, [], hW', ?_, ?_, ?_, hb.frame _, fun h => by cases h⟩
  · rw [hs.1, hf]
    exact trodAll_mk1 (shut_bool htb true)
  · rw [hs.2.1]
    exact trodAll_below hl hb hts hA (fun x hx => hW'.lt x (by simp [hx]))
  · rw [hv, hs.2.2]
    rfl
/-- a slice of bools, opened -/
theorem open_bls {w : World} {held : Bool} {base : Nat} {t e : TypeId} {fuel : Nat} {v : Value} {x : DataW H × List MemPlace} (ht : P.underlying t = some (.slice e)) (he : P.underlying e = some .bool) (hc : P.cellsOf e = 1)
    (h : DataW.trod enc P w base (fun _ => true) held fuel t [v] = some x) :
    ∃ (A : Option Addr) (l : List Bool) (c : Nat), v = .slice A l.length c ∧ Rd w w.heap.size A (bls l) ∧ l.length ≤ 9223372036854775807 := by
  rcases open_slice1 ht hc h with ⟨hcs, _⟩ | ⟨a, len, cap, m, n, V, D, Pl, hcs, _, hl, hm, hmm, _, hx⟩
  · simp only [List.cons.injEq, and_true] at hcs
    exact ⟨none, [], 0, hcs, Rd.nil _ _ _, by simp⟩
  · simp only [List.cons.injEq, and_true] at hcs
    have hmc : m = cap := by simpa using hmm
    refine ⟨some a, (List.range len).map fun i => match V i with | .bool b => b | _ => false, cap, by simp [hcs], ?_, by simp only [List.length_map, List.length_range, maxLen] at *; omega⟩
    have key : ∀ i, i < len → w.cell? (a.add i) = some (.bool (match V i with | .bool b => b | _ => false)) := by
      intro i hi
      obtain ⟨h1, h2⟩ := hx i (by omega)
      obtain ⟨b, hb, _⟩ := DataW.trod_bool he h2
      simp only [List.cons.injEq, and_true] at hb
      rw [h1, hb]
    intro hne
    refine ⟨a, rfl, ?_, ?_⟩
    · have h0 : 0 < len := by
        rcases Nat.eq_zero_or_pos len with h | h
        · subst h; simp [bls] at hne
        · exact h
      have := World.block_lt_of_cell? w _ (key 0 h0)
      rwa [add_block] at this
    · intro j u hu
      have hj : j < len := by
        have := (List.getElem?_eq_some_iff.1 hu).1
        simpa [bls] using this
      rw [key j hj]
      simpa [bls, hj] using hu
end
end Go.Proofs.YtfogkcccjemloaaGreatDoor
/- An argument that is an expression, opened: a tree that lies in memory. -/
namespace Go.Proofs.YtfogkcccjemloaaGreatDoor
set_option linter.unusedVariables false
set_option linter.unusedSimpArgs false
open Go.ChangeShapes Go.WideShapes Go.ChangeAt Go.RowKit Go.Deep Go.WideElems
theorem choose_list {α : Type} {p : Nat → α → Prop} : ∀ n, (∀ i, i < n → ∃ e, p i e) → ∃ l : List α, l.length = n ∧ ∀ i e, l[i]? = some e → p i e := by
  intro n
  induction n with
  | zero => exact fun _ => ⟨[], rfl, fun i e h => by simp at h⟩
  | succ n ih =>
    intro h
    obtain ⟨l, hl, hp⟩ := ih fun i hi => h i (by omega)
    obtain ⟨e, he⟩ := h n (by omega)
    refine ⟨l ++ [e], by simp [hl], fun i x hx => ?_⟩
    rcases Nat.lt_or_ge i n with hi | hi
    · exact hp i x (by rwa [List.getElem?_append_left (by omega)] at hx)
    · rw [List.getElem?_append_right (by omega)] at hx
      have hi2 : i = n := by
        have := (List.getElem?_eq_some_iff.1 hx).1
        simp at this
        omega
      subst hi2
      rw [hl, Nat.sub_self] at hx
      obtain rfl : e = x := by simpa using hx
      exact he
/-- names are no longer than what a machine holds -/
def NmB (x : Xt) : Prop := ∀ y ∈ x.list, y.nm.size ≤ 140737488351232
theorem NmB.kid {x y : Xt} (h : NmB x) (hy : y ∈ x.ar) : NmB y := fun z hz => h z (by rw [Xt.list_eq]; exact List.mem_cons.2 (.inr (List.mem_flatten.2 ⟨_, List.mem_map_of_mem hy, hz⟩)))
section
variable {H : Type} {enc : TypeId × Value → H} {P : Program} {w : World} {held : Bool}
theorem mem_wAll {e : TypeId} {l : List (DataW H)} {d : DataW H} (hd : d ∈ l) : ∀ n ∈ d.weights P e, n ∈ DataW.weightsAll P e l := by
  induction l with
  | nil => cases hd
  | cons a l ih =>
    intro n hn
    rw [DataW.weightsAll]
    rcases List.mem_cons.1 hd with rfl | hd
    · exact List.mem_append_left _ hn
    · exact List.mem_append_right _ (ih hd n hn)
theorem rd_expr {T : TypeId} {f0 f1 f2 f3 f4 f5 : Field} (hT : P.underlying T = some (.struct #[f0, f1, f2, f3, f4, f5])) (ce : P.cellsOf T = 6)
    (o0 : f0.offset = 0) (o1 : f1.offset = 1) (o2 : f2.offset = 2) (o3 : f3.offset = 3) (o4 : f4.offset = 4) (o5 : f5.offset = 5)
    (c0 : P.cellsOf f0.type = 1) (c1 : P.cellsOf f1.type = 1) (c2 : P.cellsOf f2.type = 1) (c3 : P.cellsOf f3.type = 1) (c4 : P.cellsOf f4.type = 1) (c5 : P.cellsOf f5.type = 1)
    (i0 : P.underlying f0.type = some (.int .i64)) (i1 : P.underlying f1.type = some (.int .i64)) (i2 : P.underlying f2.type = some (.int .i64)) (i3 : P.underlying f3.type = some (.int .i64)) (i4 : P.underlying f4.type = some .string) (i5 : P.underlying f5.type = some (.slice T)) :
    ∀ (fuel : Nat) (cs : List Value) (x : DataW H × List MemPlace), DataW.trod enc P w 0 (fun _ => true) held fuel T cs = some x → (∀ n ∈ x.1.weights P T, n ≤ reachBytes) →
      ∃ e : Xt, cs = [.int .i64 e.k, .int .i64 e.op, .int .i64 e.t, .int .i64 e.v, .string e.nm, .slice e.A e.ar.length e.c] ∧ RdX w w.heap.size e ∧ NmB e := by
  intro fuel
  induction fuel using Nat.strongRecOn with
  | ind fuel ih =>
    intro cs x h hw
    obtain ⟨xs, k, hk, hxy, hlen, hxl, hf⟩ := DataW.trod_struct hT h
    rw [ce] at hlen
    match xs, hxl, cs, hlen with
    | [y0, y1, y2, y3, y4, y5], _, [v0, v1, v2, v3, v4, v5], _ =>
      have g0 := hf 0 f0 rfl
      have g1 := hf 1 f1 rfl
      have g2 := hf 2 f2 rfl
      have g3 := hf 3 f3 rfl
      have g4 := hf 4 f4 rfl
      have g5 := hf 5 f5 rfl
      simp [o0, o1, o2, o3, o4, o5, c0, c1, c2, c3, c4, c5] at g0 g1 g2 g3 g4 g5
      obtain ⟨n0, z0, _⟩ := DataW.trod_int i0 g0
      obtain ⟨n1, z1, _⟩ := DataW.trod_int i1 g1
      obtain ⟨n2, z2, _⟩ := DataW.trod_int i2 g2
      obtain ⟨n3, z3, _⟩ := DataW.trod_int i3 g3
      obtain ⟨s, z4, zy4, hs⟩ := DataW.trod_string i4 g4
      simp only [List.cons.injEq, and_true] at z0 z1 z2 z3 z4
      subst z0; subst z1; subst z2; subst z3; subst z4
      subst hxy
      have hwe : DataW.weights P T (.agg [y0.1, y1.1, y2.1, y3.1, y4.1, y5.1]) = y0.1.weights P f0.type ++ (y1.1.weights P f1.type ++ (y2.1.weights P f2.type ++ (y3.1.weights P f3.type ++ (y4.1.weights P f4.type ++ (y5.1.weights P f5.type ++ []))))) := by
        simp [DataW.weights, DataW.weightsEach, hT]
      have hw4 : ∀ n ∈ y4.1.weights P f4.type, n ≤ reachBytes := fun n hn => hw n (by simp only [List.map_cons, List.map_nil]; rw [hwe]; simp [hn])
      have hw5 : ∀ n ∈ y5.1.weights P f5.type, n ≤ reachBytes := fun n hn => hw n (by simp only [List.map_cons, List.map_nil]; rw [hwe]; simp [hn])
      have hs2 : s.size ≤ 140737488351232 := by
        have := hw4 s.data.toList.length (by rw [zy4]; simp [DataW.weights])
        rw [Array.length_toList] at this
        exact this
      rcases DataW.trod_slice i5 g5 with ⟨hv, _⟩ | ⟨a, len, cap, elems, rest, n, hkn, hv, hx0, _, hl, hm, hel, hx, _, _⟩
      · simp only [List.cons.injEq, and_true] at hv
        subst hv
        refine ⟨.mk n0 n1 n2 n3 s none 0 [], rfl, .mk _ (fun h => absurd rfl h) (fun ad i y h => by cases h) (fun y h => by cases h) ⟨⟨by simp [Xt.ar], hs⟩, Nat.le_refl _⟩, fun y hy => ?_⟩
        rw [Xt.list_eq] at hy
        obtain rfl := List.mem_singleton.1 (show y ∈ [Xt.mk n0 n1 n2 n3 s none 0 []] from hy)
        exact hs2
      · simp only [List.cons.injEq, and_true] at hv
        subst hv
        have key : ∀ i, i < len → ∃ e : Xt, XC w (a.add (i * 6)) e ∧ RdX w w.heap.size e ∧ NmB e := by
          intro i hi
          have h1 := hx i hi
          rw [ce, List.getElem?_eq_getElem (by omega)] at h1
          obtain ⟨cs', h2, h3⟩ := Option.bind_eq_some_iff.1 h1
          obtain ⟨_, hlen', hcell⟩ := World.cells?_some h2
          obtain ⟨e, he, hR, hN⟩ := ih n (by omega) cs' _ h3 fun m hm => hw5 m (by
            rw [hx0]
            simp only [DataW.weights, i5, List.mem_cons, List.mem_append]
            exact .inr (.inl (mem_wAll (List.mem_map_of_mem (List.getElem_mem (by omega))) m hm)))
          subst he
          refine ⟨e, ⟨?_, ?_, ?_, ?_, ?_, ?_⟩, hR, hN⟩
          · have := hcell 0 (by decide); rw [add_add] at this; simpa using this
          · have := hcell 1 (by decide); generalize a.add (i * 6) = b at this ⊢; simpa [Addr.add] using this
          · have := hcell 2 (by decide); generalize a.add (i * 6) = b at this ⊢; simpa [Addr.add] using this
          · have := hcell 3 (by decide); generalize a.add (i * 6) = b at this ⊢; simpa [Addr.add] using this
          · have := hcell 4 (by decide); generalize a.add (i * 6) = b at this ⊢; simpa [Addr.add] using this
          · have := hcell 5 (by decide); generalize a.add (i * 6) = b at this ⊢; simpa [Addr.add] using this
        obtain ⟨l, hll, hp⟩ := choose_list len key
        refine ⟨.mk n0 n1 n2 n3 s (some a) cap l, by rw [show (Xt.mk n0 n1 n2 n3 s (some a) cap l).ar.length = len from hll]; rfl, .mk _ (fun hne => ⟨a, rfl, ?_⟩) (fun ad i y hA hy => ?_) (fun y hy => ?_) ⟨⟨?_, hs⟩, ?_⟩, fun y hy => ?_⟩
        · have hne2 : l ≠ [] := hne
          have h0 : 0 < l.length := List.length_pos_iff.2 hne2
          have := World.block_lt_of_cell? w _ (hp 0 _ (List.getElem?_eq_getElem h0)).1.1
          rwa [add_block] at this
        · obtain rfl : a = ad := Option.some.inj hA
          exact (hp i y hy).1
        · obtain ⟨j, hj⟩ := List.getElem?_of_mem (show y ∈ l from hy)
          exact (hp j y hj).2.1
        · show l.length ≤ maxLen
          omega
        · show l.length ≤ cap
          omega
        · rw [Xt.list_eq] at hy
          rcases List.mem_cons.1 hy with rfl | hy
          · exact hs2
          · obtain ⟨q, hq, hyq⟩ := List.mem_flatten.1 hy
            obtain ⟨z, hz, rfl⟩ := List.mem_map.1 hq
            obtain ⟨j, hj⟩ := List.getElem?_of_mem (show z ∈ l from hz)
            exact (hp j z hj).2.2 y hyq
end
end Go.Proofs.YtfogkcccjemloaaGreatDoor
/- The example of the law. -/
namespace Go.Proofs.YtfogkcccjemloaaGreatDoor
set_option linter.unusedVariables false
set_option linter.unusedSimpArgs false
open Go.RowKit
theorem RdX.leaf {w : World} {B : Nat} (k op t v : Int) (nm : ByteArray) (h : nm.size ≤ maxLen) : RdX w B (.mk k op t v nm none 0 []) :=
  .mk _ (fun h => absurd rfl h) (fun _ _ _ h => by cases h) (fun _ h => by cases h) ⟨⟨Nat.zero_le _, h⟩, Nat.le_refl _⟩
def vC : Xt := .mk 2 0 0 0 ⟨#[99]⟩ none 0 []
def vX : Xt := .mk 2 0 0 0 ⟨#[120]⟩ none 0 []
def k0 : Xt := .mk 1 0 2 0 ⟨#[]⟩ none 0 []
def fbyX (b : Nat) : Xt := .mk 7 0 0 0 ⟨#[]⟩ (some ⟨b, 0, none⟩) 2 [k0, vX]
/-- if c then x else 0 fby x -/
def exX (b : Nat) : Xt := .mk 4 0 0 0 ⟨#[]⟩ (some ⟨b + 1, 0, none⟩) 3 [vC, vX, fbyX b]
theorem nm1 (n : UInt8) : (ByteArray.mk #[n]).size ≤ maxLen := by show 1 ≤ maxLen; unfold maxLen; omega
theorem nm0 : (ByteArray.mk #[]).size ≤ maxLen := Nat.zero_le _
theorem fby_read {w : World} {B b : Nat} (h0 : XC w ⟨b, 0, none⟩ k0) (h1 : XC w ⟨b, 6, none⟩ vX) (hB : b < B) : RdX w B (fbyX b) := by
  refine .mk _ (fun _ => ⟨_, rfl, hB⟩) (fun ad i y hA hy => ?_) (fun y hy => ?_) ⟨⟨by show 2 ≤ maxLen; unfold maxLen; omega, nm0⟩, Nat.le_refl _⟩
  · obtain rfl := Option.some.inj hA
    rcases i with _ | _ | i
    · obtain rfl : k0 = y := Option.some.inj hy
      exact h0
    · obtain rfl : vX = y := Option.some.inj hy
      exact h1
    · cases hy
  · rcases List.mem_cons.1 (show y ∈ [k0, vX] from hy) with rfl | hy
    · exact RdX.leaf _ _ _ _ _ nm0
    · obtain rfl := List.mem_singleton.1 hy
      exact RdX.leaf _ _ _ _ _ (nm1 _)
theorem ex_read {w : World} {B b : Nat} (h0 : XC w ⟨b, 0, none⟩ k0) (h1 : XC w ⟨b, 6, none⟩ vX) (g0 : XC w ⟨b + 1, 0, none⟩ vC) (g1 : XC w ⟨b + 1, 6, none⟩ vX) (g2 : XC w ⟨b + 1, 12, none⟩ (fbyX b)) (hB : b + 1 < B) : RdX w B (exX b) := by
  refine .mk _ (fun _ => ⟨_, rfl, hB⟩) (fun ad i y hA hy => ?_) (fun y hy => ?_) ⟨⟨by show 3 ≤ maxLen; unfold maxLen; omega, nm0⟩, Nat.le_refl _⟩
  · obtain rfl := Option.some.inj hA
    rcases i with _ | _ | _ | i
    · obtain rfl : vC = y := Option.some.inj hy
      exact g0
    · obtain rfl : vX = y := Option.some.inj hy
      exact g1
    · obtain rfl : fbyX b = y := Option.some.inj hy
      exact g2
    · cases hy
  · rcases List.mem_cons.1 (show y ∈ [vC, vX, fbyX b] from hy) with rfl | hy
    · exact RdX.leaf _ _ _ _ _ (nm1 _)
    · rcases List.mem_cons.1 hy with rfl | hy
      · exact RdX.leaf _ _ _ _ _ (nm1 _)
      · obtain rfl := List.mem_singleton.1 hy
        exact fby_read h0 h1 (by omega)
set_option maxHeartbeats 1000000 in
set_option maxRecDepth 20000 in
theorem example_any (w : World) : Calls Tryz.prog 38 #[] w (fun e w' => e = .returned (xV (exX (w.heap.size + 3))) ∧ RdX w' w'.heap.size (exX (w.heap.size + 3)) ∧ Below w.heap.size w w' ∧ w'.heap.size = w.heap.size + 5) := by
  go_enter Tryz.func38, Tryz.ntmps38
  go_wp2
  refine bodyPost_ret (v := xV (exX (w.heap.size + 3))) (by simp [results, Tryz.f38, go_sem, xV, exX, Xt.k, Xt.op, Xt.t, Xt.v, Xt.nm, Xt.A, Xt.c, Xt.ar]) rfl ⟨rfl, ex_read ?_ ?_ ?_ ?_ ?_ (by simp only [World.size_alloc]; omega), (by repeat (first | (with_reducible exact Below.refl _ _) | (with_reducible assumption) | (with_reducible exact bel_box _) | (with_reducible refine bel_step ?_ (by with_reducible assumption)) | (with_reducible refine Below.drew ?_) | (with_reducible refine below_drewN ?_ _) | (with_reducible refine bel_alloc ?_ _))), by simp only [World.size_alloc]⟩
  all_goals (unfold XC; simp [go_sem, k0, vX, vC, fbyX, Xt.k, Xt.op, Xt.t, Xt.v, Xt.nm, Xt.A, Xt.c, Xt.ar])
end Go.Proofs.YtfogkcccjemloaaGreatDoor
/- Has of the reference; rows of names. -/
namespace Go.Proofs.YtfogkcccjemloaaGreatDoor
set_option linter.unusedVariables false
set_option linter.unusedSimpArgs false
open Go.RowKit Go.Sort
def nmC (l : List ByteArray) : List Value := l.map Value.string
/-- A reads as these names, below block B -/
def RdN (w : World) (B : Nat) (A : Option Addr) (l : List ByteArray) : Prop := l ≠ [] → ∃ ad, A = some ad ∧ ad.block < B ∧ ∀ (i : Nat) (y : ByteArray), l[i]? = some y → w.cell? (ad.add i) = some (.string y)
theorem RdN.to {w W : World} {A : Option Addr} {l : List ByteArray} (h : RdN w w.heap.size A l) (hb : Below w.heap.size w W) : RdN W W.heap.size A l := fun hn => by
  obtain ⟨ad, e, hB, hc⟩ := h hn
  have hs := hb.size
  exact ⟨ad, e, by omega, fun i t ht => (hb.cell (by rw [add_block]; exact hB)).trans (hc i t ht)⟩
theorem RdN.at_ {w : World} {B : Nat} {A : Option Addr} {l : List ByteArray} (h : RdN w B A l) {k : Nat} (hk : k < l.length) : ∃ ad y, A = some ad ∧ ad.block < B ∧ l[k]? = some y ∧ w.cell? (ad.add k) = some (.string y) := by
  have he : l[k]? = some l[k] := List.getElem?_eq_getElem hk
  obtain ⟨ad, e, hb, hc⟩ := h (by rintro rfl; simp at hk)
  exact ⟨ad, _, e, hb, he, hc k _ he⟩
theorem RdN.of_own {w : World} {base : Nat} {e : TypeId} {A : Option Addr} {c : Nat} {l : List ByteArray} (h : w.ownsRow base e 1 (.slice A l.length c) l.length (nmC l)) : RdN w w.heap.size A l := fun hn => by
  rcases h.2 with ⟨h1, h2⟩ | ⟨g, cap, cur, h1, h2, h3, h4, h5, h6, h7⟩
  · exact absurd (List.length_eq_zero_iff.1 h2) hn
  · have hA : A = some ⟨g, 0, none⟩ := by injection h1
    subst hA
    refine ⟨_, rfl, (Array.getElem?_eq_some_iff.1 h3).1, fun i y hy => ?_⟩
    have hj : (nmC l)[i]? = some (.string y) := by rw [nmC, List.getElem?_map, hy]; rfl
    rw [(add_add6 g i 0).2.2, cell_of_row w g i cur _ (0, 0) h3]
    rw [← h7, List.getElem?_take] at hj
    split at hj
    · rw [← Array.getElem?_toList]; exact hj
    · cases hj
def hasN (l : List ByteArray) (s : ByteArray) : Bool := l.any fun y => y.toList == s.toList
theorem any_take {l : List ByteArray} {p : ByteArray → Bool} {k : Nat} {y : ByteArray} (h : l[k]? = some y) : (l.take (k + 1)).any p = ((l.take k).any p || p y) := by
  rw [take_succ_of h, List.any_append]; simp
theorem any_hit {l : List ByteArray} {p : ByteArray → Bool} {k : Nat} {y : ByteArray} (h : l[k]? = some y) (hp : p y = true) : l.any p = true := List.any_eq_true.2 ⟨y, List.mem_of_getElem? h, hp⟩
set_option maxHeartbeats 1000000 in
set_option maxRecDepth 20000 in
theorem rhas_any (A : Option Addr) (c : Nat) (l : List ByteArray) (s : ByteArray) (w : World) (hR : RdN w w.heap.size A l) (hl : l.length ≤ 100000) : Calls Tryz.prog 24 #[.slice A l.length c, .string s] w (Bel (.bool (hasN l s)) w) := by
  unfold hasN
  obtain ⟨p, hp⟩ : ∃ p : ByteArray → Bool, (fun y => y.toList == s.toList) = p := ⟨_, rfl⟩
  have hps : ∀ y, (y.toList == s.toList) = p y := fun y => by rw [← hp]
  rw [hp]
  clear hp
  have HA := Lib.hid (fun k y (h : l[k]? = some y) => any_take (p := p) h)
  have HH := Lib.hid (fun k y (h : l[k]? = some y) (q : p y = true) => any_hit (p := p) h q)
  have HP := Lib.hid hps
  clear hps
  go_enter Tryz.func24, Tryz.ntmps24
  go_wp2
  go_loopw [5] (fun i wr => ∃ k : Nat, k ≤ l.length ∧ i = .int .i64 (k : Int) ∧ wr = w ∧ Hid ((l.take k).any p = false)) (fun i _ => l.length - (intOf i).toNat)
  case atStart => exact ⟨0, by omega, rfl, rfl, Lib.hid rfl⟩
  case round =>
    obtain ⟨k, hk, rfl, rfl, hno⟩ := hrel
    by_cases hlt : k < l.length
    · obtain ⟨ad, y, rfl, had, hy, c0⟩ := hR.at_ hlt
      have h1 := HA.out k y hy
      have h2 := HH.out k y hy
      have h3 := HP.out y
      rw [hno.out, Bool.false_or] at h1
      clear hy HA HH HP
      cases q : p y
      · rw [q] at h1 h3
        have H1 := Lib.hid h1
        clear h1 h2 q
        go_wp2
        exact ⟨⟨k + 1, by omega, by congr 1, trivial, H1⟩, by simp [intOf]; omega⟩
      · rw [h2 q]
        rw [q] at h3
        clear h1 h2 q
        go_wp2
        go_ret
        exact ⟨rfl, Below.refl _ _⟩
    · obtain rfl : k = l.length := by omega
      have h1 := hno.out
      rw [List.take_length] at h1
      go_wp2
      go_ret
      exact ⟨by rw [h1]; rfl, Below.refl _ _⟩
end Go.Proofs.YtfogkcccjemloaaGreatDoor
/- variable, names of the reference. -/
namespace Go.Proofs.YtfogkcccjemloaaGreatDoor
set_option linter.unusedVariables false
set_option linter.unusedSimpArgs false
open Go.RowKit Go.Sort
set_option maxRecDepth 20000 in
theorem rvariable_any (x : Xt) (w : World) : Calls Tryz.prog 52 #[xV x] w (Bel (.bool (hasVar x.k)) w) := by
  simp only [xV]
  go_enter Tryz.func52, Tryz.ntmps52
  go_wp2
  all_goals go_ret
  all_goals exact ⟨ret_bool (by simp_all [hasVar]), (by repeat (first | (with_reducible exact Below.refl _ _) | (with_reducible assumption) | (with_reducible exact bel_box _) | (with_reducible refine bel_step ?_ (by with_reducible assumption)) | (with_reducible refine Below.drew ?_) | (with_reducible refine below_drewN ?_ _) | (with_reducible refine bel_alloc ?_ _)))⟩
/-- the row l behind list, from the row v -/
def LqR (T : TypeId) (z : Nat) (w : World) (B : Nat) (v : Value) (n : Nat) (xs : List Value) (w' : World) (v' : Value) : Prop := w'.ownsRow B T z v' n xs ∧ w.grownBy w' v.ownBlock ∧ (v'.ownBlock = v.ownBlock ∨ ∃ j, v'.ownBlock = some j ∧ w.heap.size ≤ j)
/-- the row l while list is under way -/
def LqI (T : TypeId) (z : Nat) (w : World) (x : Xt) (B : Nat) (ob : Option Nat) (n : Nat) (xs : List Value) (v : Value) (wr : World) : Prop := wr.ownsRow B T z v n xs ∧ (bxW w x).grownBy wr ob ∧ (v.ownBlock = ob ∨ ∃ j, v.ownBlock = some j ∧ (bxW w x).heap.size ≤ j)
theorem LqI.open_ {T : TypeId} {z : Nat} {w wr : World} {x : Xt} {B n : Nat} {ob : Option Nat} {xs : List Value} {v : Value} (h : LqI T z w x B ob n xs v wr) (hB : B ≤ w.heap.size) (hl : ∀ j, ob = some j → B ≤ j ∧ j < w.heap.size) :
    Below B w wr ∧ (wr.cell? ⟨w.heap.size, 0, none⟩ = some (.int .i64 x.k) ∧ wr.cell? ⟨w.heap.size, 1, none⟩ = some (.int .i64 x.op) ∧ wr.cell? ⟨w.heap.size, 2, none⟩ = some (.int .i64 x.t) ∧ wr.cell? ⟨w.heap.size, 3, none⟩ = some (.int .i64 x.v) ∧ wr.cell? ⟨w.heap.size, 4, none⟩ = some (.string x.nm) ∧ wr.cell? ⟨w.heap.size, 5, none⟩ = some (.slice x.A x.ar.length x.c)) ∧ w.heap.size < wr.heap.size := by
  obtain ⟨_, hg, _⟩ := h
  have hz := hg.size
  rw [bxW_size] at hz
  have hne : some w.heap.size ≠ ob := fun e => by have := (hl _ e.symm).2; omega
  refine ⟨Below.grown ((bel_box _).mono hB) hg (by rw [bxW_size]; omega) (fun j hj => (hl j hj).1), ⟨?_, ?_, ?_, ?_, ?_, ?_⟩, by omega⟩ <;> exact hg.cell (by simp [go_sem]) hne
theorem LqI.next {T : TypeId} {z : Nat} {w wr w1 : World} {x : Xt} {B n m : Nat} {ob : Option Nat} {xs ys : List Value} {v v' : Value} (h : LqI T z w x B ob n xs v wr) (k : LqR T z wr B v m ys w1 v') : LqI T z w x B ob m ys v' w1 := by
  obtain ⟨_, hg, ha⟩ := h
  obtain ⟨k1, k2, k3⟩ := k
  have hz := hg.size
  refine ⟨k1, hg.andThen k2 fun j hj => ?_, ?_⟩
  · rcases ha with ha | ⟨j', e, hj'⟩
    · exact .inr (ha.symm.trans hj)
    · rw [e] at hj
      exact .inl (by have := Option.some.inj hj; omega)
  · rcases k3 with k3 | ⟨j, e, hj⟩
    · rw [k3]; exact ha
    · exact .inr ⟨j, e, by omega⟩
theorem LqI.first {T : TypeId} {z : Nat} {w W w3 : World} {x : Xt} {B m : Nat} {ob : Option Nat} {ys : List Value} {v' : Value} (hW : Below (bxW w x).heap.size (bxW w x) W) (h1 : w3.ownsRow B T z v' m ys) (h2 : W.grownBy w3 ob) (h3 : v'.ownBlock = ob ∨ v'.ownBlock = some W.heap.size) : LqI T z w x B ob m ys v' w3 := by
  refine ⟨h1, ?_, h3.imp id fun e => ⟨_, e, hW.size⟩⟩
  exact ((below_grown hW).but ob).andThen h2 fun j hj => .inr hj
theorem LqI.last {T : TypeId} {z : Nat} {w wr : World} {x : Xt} {B n : Nat} {v0 : Value} {xs : List Value} {v : Value} (h : LqI T z w x B v0.ownBlock n xs v wr) : LqR T z w B v0 n xs wr v := by
  obtain ⟨h1, h2, h3⟩ := h
  refine ⟨h1, (World.grownBy_alloc w _ _).trans h2, h3.imp id fun ⟨j, e, hj⟩ => ⟨j, e, by rw [bxW_size] at hj; omega⟩⟩
/-- the parts on which it depends at the same instant (or all) -/
def kidsI (b : Bool) (x : Xt) : List Xt := if (b && x.k == 5) = true then [] else if (b && x.k == 7) = true then x.ar.take 1 else x.ar
theorem kids_mem {b : Bool} {x y : Xt} (h : y ∈ kidsI b x) : y ∈ x.ar := by
  unfold kidsI at h
  split at h
  · cases h
  · split at h
    · exact List.mem_of_mem_take h
    · exact h
def Xt.lst (b : Bool) (x : Xt) : List Xt := x :: ((kidsI b x).attach.map fun a => Xt.lst b a.1).flatten
termination_by SizeOf.sizeOf x
decreasing_by exact Xt.lt_of_mem (kids_mem a.2)
theorem Xt.lst_eq (b : Bool) (x : Xt) : x.lst b = x :: ((kidsI b x).map (Xt.lst b)).flatten := by
  rw [Xt.lst]
  congr 2
  simp
def stepN (acc : List ByteArray) (x : Xt) : List ByteArray := if (hasVar x.k && !hasN acc x.nm) = true then acc ++ [x.nm] else acc
def nmS (b : Bool) (x : Xt) (acc : List ByteArray) : List ByteArray := (x.lst b).foldl stepN acc
theorem nm_eq (b : Bool) (x : Xt) (acc : List ByteArray) : nmS b x acc = (kidsI b x).foldl (fun a y => nmS b y a) (stepN acc x) := by
  unfold nmS
  rw [Xt.lst_eq, List.foldl_cons, List.foldl_flatten, List.foldl_map]
theorem step_length (acc : List ByteArray) (x : Xt) : (stepN acc x).length ≤ acc.length + 1 := by
  unfold stepN; split <;> simp
theorem kids_size (b : Bool) (x : Xt) : ((kidsI b x).map Xt.size).sum ≤ (x.ar.map Xt.size).sum := by
  unfold kidsI
  split
  · simp
  · split
    · exact sum_take_le _ _ _
    · exact Nat.le_refl _
theorem nm_length (b : Bool) (x : Xt) : ∀ acc, (nmS b x acc).length ≤ acc.length + x.size := by
  induction x using Xt.ind with
  | h x ih =>
    intro acc
    have hk := kids_size b x
    have hm : ∀ y ∈ kidsI b x, ∀ acc, (nmS b y acc).length ≤ acc.length + y.size := fun y hy => ih y (kids_mem hy)
    rw [nm_eq, Xt.size_eq]
    have key : ∀ (l : List Xt) (a : List ByteArray), (∀ y ∈ l, ∀ acc, (nmS b y acc).length ≤ acc.length + y.size) → (l.foldl (fun a y => nmS b y a) a).length ≤ a.length + (l.map Xt.size).sum := by
      intro l
      induction l with
      | nil => intro a _; simp
      | cons y l ih2 =>
        intro a h
        have h1 := h y (by simp) a
        have h2 := ih2 (nmS b y a) fun z hz => h z (by simp [hz])
        simp only [List.foldl_cons, List.map_cons, List.sum_cons]
        omega
    have h1 := key _ (stepN acc x) hm
    have h2 := step_length acc x
    omega
/-- whether names skips the argument i -/
def skp (b : Bool) (x : Xt) (i : Nat) : Bool := b && (x.k == 5 || x.k == 7 && decide (0 < i))
theorem kids_skip {b : Bool} {x : Xt} {i : Nat} (h : skp b x i = true) : (kidsI b x).take (i + 1) = (kidsI b x).take i := by
  unfold skp at h
  unfold kidsI
  cases b
  · simp at h
  · simp only [Bool.true_and] at h ⊢
    by_cases h5 : (x.k == 5) = true
    · rw [if_pos h5]; simp
    · rw [if_neg h5]
      rw [Bool.not_eq_true] at h5
      rw [h5, Bool.false_or, Bool.and_eq_true, decide_eq_true_eq] at h
      rw [if_pos h.1, List.take_take, List.take_take]
      congr 1
      omega
theorem kids_go {b : Bool} {x y : Xt} {i : Nat} (h : skp b x i = false) (hy : x.ar[i]? = some y) : (kidsI b x).take (i + 1) = (kidsI b x).take i ++ [y] := by
  unfold skp at h
  unfold kidsI
  cases b
  · exact take_succ_of hy
  · simp only [Bool.true_and] at h ⊢
    rw [Bool.or_eq_false_iff] at h
    rw [if_neg (by rw [h.1]; simp)]
    by_cases h7 : (x.k == 7) = true
    · rw [h7, Bool.true_and, decide_eq_false_iff_not] at h
      obtain rfl : i = 0 := by omega
      rw [if_pos h7, List.take_take]
      exact take_succ_of hy
    · rw [if_neg h7]
      exact take_succ_of hy
theorem kids_all (b : Bool) (x : Xt) : (kidsI b x).take x.ar.length = kidsI b x := by
  apply List.take_of_length_le
  unfold kidsI
  split
  · simp
  · split
    · simp; omega
    · exact Nat.le_refl _
theorem parts_names (b : Bool) (x : Xt) (acc : List ByteArray) : ∃ G : Nat → List ByteArray, nmS b x acc = G x.ar.length ∧ G 0 = stepN acc x ∧ Hid (∀ k, skp b x k = true → G (k + 1) = G k) ∧ Hid (∀ k y, skp b x k = false → x.ar[k]? = some y → G (k + 1) = nmS b y (G k)) := by
  refine ⟨fun k => ((kidsI b x).take k).foldl (fun a y => nmS b y a) (stepN acc x), ?_, rfl, Lib.hid fun k h => ?_, Lib.hid fun k y h hy => ?_⟩
  · show _ = List.foldl _ _ (List.take x.ar.length _)
    rw [kids_all, nm_eq]
  · show List.foldl _ _ (List.take (k + 1) _) = _
    rw [kids_skip h]
  · show List.foldl _ _ (List.take (k + 1) _) = _
    rw [kids_go h hy, List.foldl_append]
    rfl
theorem stInfo : (Tryz.prog.info? 9).map (fun i => (i.zero, i.size, i.bytes)) = some (some (.string ⟨#[]⟩), 1, 16) := by kernel_rfl
theorem row1 (W : World) (nm : ByteArray) (t : TypeId) : ∀ j u, [Value.string nm][j]? = some u → (W.alloc (.cells #[.string nm] t)).cell? ((⟨W.heap.size, 0, none⟩ : Addr).add j) = some u := by
  intro j u hu
  rcases j with _ | j
  · obtain rfl : Value.string nm = u := by simpa using hu
    rw [show (Addr.add ⟨W.heap.size, 0, none⟩ 0) = ⟨W.heap.size, 0, none⟩ from rfl]
    simp [go_sem]
  · simp at hu
end Go.Proofs.YtfogkcccjemloaaGreatDoor
/- names of the reference. -/
namespace Go.Proofs.YtfogkcccjemloaaGreatDoor
set_option linter.unusedVariables false
set_option linter.unusedSimpArgs false
open Go.RowKit Go.Sort
theorem nmC_snoc (l : List ByteArray) (s : ByteArray) : nmC (l ++ [s]) = nmC l ++ [Value.string s] := by simp [nmC]
theorem LqI.same {T : TypeId} {z : Nat} {w W : World} {x : Xt} {B n : Nat} {xs : List Value} {v : Value} (hW : Below (bxW w x).heap.size (bxW w x) W) (h : w.ownsRow B T z v n xs) : LqI T z w x B v.ownBlock n xs v W :=
  ⟨own_keep6 (own_keep6 h (bel_box _)) hW, (below_grown hW).but _, .inl rfl⟩
set_option maxHeartbeats 2000000 in
set_option maxRecDepth 20000 in
theorem rnames_any (b : Bool) (x : Xt) : ∀ w B v acc, B ≤ w.heap.size → RdX w B x → w.ownsRow B 9 1 v acc.length (nmC acc) → acc.length + x.size ≤ 100000 → Calls Tryz.prog 47 #[xV x, .bool b, v] w (fun e w' => ∃ v', e = .returned v' ∧ LqR 9 1 w B v (nmS b x acc).length (nmC (nmS b x acc)) w' v') := by
  obtain ⟨i0, hi, iz, is, ib⟩ := info_parts stInfo
  induction x using Xt.ind with
  | h x ih =>
    intro w B v acc hB hX hown hS
    have h9 := hX.len.1
    unfold maxLen at h9
    have HX := Lib.hid hX
    have IH := Lib.hid ih
    have HO := Lib.hid hown
    have hlt := Lib.hid (fun j (h : v.ownBlock = some j) => hown.lt j h)
    have KV := Lib.hid (fun W => rvariable_any x W)
    clear hX ih hown
    obtain ⟨F, hF, hF0, hFl, HF, HFl⟩ := parts_sum x
    obtain ⟨G, hG, hG0, HGs, HGg⟩ := parts_names b x acc
    rw [hF] at hS
    rw [hG]
    clear hG
    have KH : Hid (∀ W, Below w.heap.size w W → Calls Tryz.prog 24 #[v, .string x.nm] W (Bel (.bool (hasN acc x.nm)) W)) := Lib.hid fun W hb => by
      obtain ⟨V, cv, e⟩ := own_form6 HO.out
      have ho := HO.out
      rw [e] at ho ⊢
      exact rhas_any V cv acc x.nm W ((RdN.of_own ho).to hb) (by omega)
    have h0 := step_length acc x
    rw [← hG0] at h0
    simp only [xV] at IH KV ⊢
    obtain ⟨b0, b1, b2, b3, b4, b5, b6⟩ := bxW_cells (w := w) (x := x) (Below.refl _ _)
    go_enter Tryz.func47, Tryz.ntmps47
    have hsn : G 0 = if (hasVar x.k && !hasN acc x.nm) = true then acc ++ [x.nm] else acc := hG0
    clear hG0
    generalize hasVar x.k = q1 at *
    generalize hasN acc x.nm = q2 at *
    cases q1
    · go_wp2_with (go_at_call 52; (with_reducible refine (KV.out _).mono ?_); rintro e w1 ⟨rfl, hb1⟩)
      have hg : G 0 = acc := hsn
      have HI := LqI.same (x := x) hb1 HO.out
      rw [← hg] at HI
      have HI0 := Lib.hid HI
      clear HI
      go_loopw [2, 7] (fun u i wr => ∃ k : Nat, k ≤ x.ar.length ∧ i = .int .i64 (k : Int) ∧ (G k).length ≤ acc.length + 1 + F k ∧ Hid (LqI 9 1 w x B v.ownBlock (G k).length (nmC (G k)) u wr)) (fun _ i _ => x.ar.length - (intOf i).toNat)
      case atStart => exact ⟨0, by omega, rfl, by omega, HI0⟩
      case round =>
        obtain ⟨k, hk, rfl, hGl, hI⟩ := hrel
        obtain ⟨hBB, ⟨b0, b1, b2, b3, b4, b5⟩, b6⟩ := hI.out.open_ hB hlt.out
        by_cases hlk : k < x.ar.length
        · obtain ⟨ad, y, hA, had, hy, hm, ⟨c0, c1, c2, c3, c4, c5⟩, hr⟩ := (HX.out.blw hBB (Nat.le_refl _)).at_ hlk
          rw [hA] at b5
          clear hA
          have hn1 := HF.out k y hy
          have hn2 := HFl.out (k + 1)
          have hs1 := HGs.out k
          have hs2 := fun h => HGg.out k y h hy
          have hs0 : skp b x k = (b && (x.k == 5 || x.k == 7 && decide (0 < k))) := rfl
          have hnl := nm_length b y (G k)
          have HIo := Lib.hid hI.out.1
          have KY : Hid (Calls Tryz.prog 47 #[xV y, .bool b, u2] wr (fun e w' => ∃ v', e = .returned v' ∧ LqR 9 1 wr B u2 (nmS b y (G k)).length (nmC (nmS b y (G k))) w' v')) := Lib.hid (IH.out y hm wr B u2 (G k) (by omega) hr HIo.out (by omega))
          simp only [xV] at KY
          clear hy IH
          obtain ⟨N, hN⟩ : ∃ N, nmS b y (G k) = N := ⟨_, rfl⟩
          rw [hN] at KY hs2 hnl
          clear hN
          cases q : skp b x k
          · have HS := Lib.hid (hs2 q)
            rw [hs0] at q
            clear hs1 hs2 hs0 HGs HGg hsn hg
            cases b
            · clear q
              go_wp2_with (go_at_call 47; (with_reducible refine (KY.out).mono ?_); rintro e w2 ⟨v', rfl, hl⟩)
              refine ⟨⟨k + 1, by omega, by congr 1, ?_, Lib.hid ?_⟩, by simp [intOf]; omega⟩
              · rw [HS.out]; omega
              · rw [HS.out]; exact hI.out.next hl
            · rw [Bool.true_and, Bool.or_eq_false_iff] at q
              obtain ⟨h5, q⟩ := q
              cases h7 : x.k == 7
              · clear q
                go_wp2_with (go_at_call 47; (with_reducible refine (KY.out).mono ?_); rintro e w2 ⟨v', rfl, hl⟩)
                refine ⟨⟨k + 1, by omega, by congr 1, ?_, Lib.hid ?_⟩, by simp [intOf]; omega⟩
                · rw [HS.out]; omega
                · rw [HS.out]; exact hI.out.next hl
              · rw [h7, Bool.true_and, decide_eq_false_iff_not] at q
                have u : (k : Int) ≤ 0 := by omega
                go_wp2_with (go_at_call 47; (with_reducible refine (KY.out).mono ?_); rintro e w2 ⟨v', rfl, hl⟩)
                refine ⟨⟨k + 1, by omega, by congr 1, ?_, Lib.hid ?_⟩, by simp [intOf]; omega⟩
                · rw [HS.out]; omega
                · rw [HS.out]; exact hI.out.next hl
          · have HS := Lib.hid (hs1 q)
            rw [hs0] at q
            clear hs1 hs2 hs0 HGs HGg hsn hg
            cases b
            · simp at q
            · rw [Bool.true_and] at q
              cases h5 : x.k == 5
              · rw [h5, Bool.false_or, Bool.and_eq_true, decide_eq_true_eq] at q
                obtain ⟨h7, q⟩ := q
                have u : (0 : Int) < (k : Int) := by omega
                go_wp2
                refine ⟨⟨k + 1, by omega, by congr 1, ?_, Lib.hid ?_⟩, by simp [intOf]; omega⟩
                · rw [HS.out]; omega
                · rw [HS.out]; exact hI.out
              · clear q
                go_wp2
                refine ⟨⟨k + 1, by omega, by congr 1, ?_, Lib.hid ?_⟩, by simp [intOf]; omega⟩
                · rw [HS.out]; omega
                · rw [HS.out]; exact hI.out
        · obtain rfl : k = x.ar.length := by omega
          clear hB
          go_wp2
          go_ret
          exact ⟨_, rfl, hI.out.last⟩
    · cases q2
      · have hg : G 0 = acc ++ [x.nm] := hsn
        go_wp2_with (first
          | (go_at_call 52; (with_reducible refine (KV.out _).mono ?_); rintro e w1 ⟨rfl, hb1⟩; obtain ⟨d0, d1, d2, d3, d4, d5, d6⟩ := bxW_cells (w := w) (x := x) hb1; have hz1 := hb1.size)
          | (go_at_call 24; (with_reducible refine (KH.out _ ?_).mono ?_); (focus ((repeat (first | (with_reducible exact Below.refl _ _) | (with_reducible assumption) | (with_reducible exact bel_box _) | (with_reducible refine bel_step ?_ (by with_reducible assumption)) | (with_reducible refine Below.drew ?_) | (with_reducible refine below_drewN ?_ _) | (with_reducible refine bel_alloc ?_ _))); done)); rintro e w2 ⟨rfl, hb2⟩; have hb3 : Hid (Below (bxW w x).heap.size (bxW w x) w2) := Lib.hid (hb1.trans (hb2.mono hb1.size)); obtain ⟨f0, f1, f2, f3, f4, f5, f6⟩ := bxW_cells (w := w) (x := x) hb3.out; have hz2 := hb2.size)
          | (at_builtin; (refine wpList_append_own_at _ rfl _ _ 32 rfl B 9 i0 (.string ⟨#[]⟩) 1 16 Tryz.underlying32 hi iz is ib rfl (by decide) _ acc.length (nmC acc) rfl (own_keep6 HO.out ?_) ⟨w2.heap.size, 0, none⟩ 1 1 [.string x.nm] rfl rfl (row1 _ _ _) (by intro u hu; obtain rfl := List.mem_singleton.1 hu; rfl) (by unfold maxLen; omega) (by omega) ?_ ?_; (focus ((repeat (first | (with_reducible exact Below.refl _ _) | (with_reducible assumption) | (with_reducible exact bel_box _) | (with_reducible refine bel_step ?_ (by with_reducible assumption)) | (with_reducible refine Below.drew ?_) | (with_reducible refine below_drewN ?_ _) | (with_reducible refine bel_alloc ?_ _))); done)); (focus (simp; omega)); intro v3 w3 hown3 hgrow3 _ hat3; have HI : LqI 9 1 w x B v.ownBlock (G 0).length (nmC (G 0)) v3 w3 := by (rw [hg, nmC_snoc, List.length_append]; exact LqI.first (hb3.out.trans ((bel_box _).mono hb3.out.size)) hown3 hgrow3 hat3)); clear hown3 hgrow3 hat3))
        have HI0 := Lib.hid HI
        clear HI
        go_loopw [2, 7] (fun u i wr => ∃ k : Nat, k ≤ x.ar.length ∧ i = .int .i64 (k : Int) ∧ (G k).length ≤ acc.length + 1 + F k ∧ Hid (LqI 9 1 w x B v.ownBlock (G k).length (nmC (G k)) u wr)) (fun _ i _ => x.ar.length - (intOf i).toNat)
        case atStart => exact ⟨0, by omega, rfl, by omega, HI0⟩
        case round =>
          obtain ⟨k, hk, rfl, hGl, hI⟩ := hrel
          obtain ⟨hBB, ⟨b0, b1, b2, b3, b4, b5⟩, b6⟩ := hI.out.open_ hB hlt.out
          by_cases hlk : k < x.ar.length
          · obtain ⟨ad, y, hA, had, hy, hm, ⟨c0, c1, c2, c3, c4, c5⟩, hr⟩ := (HX.out.blw hBB (Nat.le_refl _)).at_ hlk
            rw [hA] at b5
            clear hA
            have hn1 := HF.out k y hy
            have hn2 := HFl.out (k + 1)
            have hs1 := HGs.out k
            have hs2 := fun h => HGg.out k y h hy
            have hs0 : skp b x k = (b && (x.k == 5 || x.k == 7 && decide (0 < k))) := rfl
            have hnl := nm_length b y (G k)
            have HIo := Lib.hid hI.out.1
            have KY : Hid (Calls Tryz.prog 47 #[xV y, .bool b, u2] wr (fun e w' => ∃ v', e = .returned v' ∧ LqR 9 1 wr B u2 (nmS b y (G k)).length (nmC (nmS b y (G k))) w' v')) := Lib.hid (IH.out y hm wr B u2 (G k) (by omega) hr HIo.out (by omega))
            simp only [xV] at KY
            clear hy IH
            obtain ⟨N, hN⟩ : ∃ N, nmS b y (G k) = N := ⟨_, rfl⟩
            rw [hN] at KY hs2 hnl
            clear hN
            cases q : skp b x k
            · have HS := Lib.hid (hs2 q)
              rw [hs0] at q
              clear hs1 hs2 hs0 HGs HGg hsn hg
              cases b
              · clear q
                go_wp2_with (go_at_call 47; (with_reducible refine (KY.out).mono ?_); rintro e w2 ⟨v', rfl, hl⟩)
                refine ⟨⟨k + 1, by omega, by congr 1, ?_, Lib.hid ?_⟩, by simp [intOf]; omega⟩
                · rw [HS.out]; omega
                · rw [HS.out]; exact hI.out.next hl
              · rw [Bool.true_and, Bool.or_eq_false_iff] at q
                obtain ⟨h5, q⟩ := q
                cases h7 : x.k == 7
                · clear q
                  go_wp2_with (go_at_call 47; (with_reducible refine (KY.out).mono ?_); rintro e w2 ⟨v', rfl, hl⟩)
                  refine ⟨⟨k + 1, by omega, by congr 1, ?_, Lib.hid ?_⟩, by simp [intOf]; omega⟩
                  · rw [HS.out]; omega
                  · rw [HS.out]; exact hI.out.next hl
                · rw [h7, Bool.true_and, decide_eq_false_iff_not] at q
                  have u : (k : Int) ≤ 0 := by omega
                  go_wp2_with (go_at_call 47; (with_reducible refine (KY.out).mono ?_); rintro e w2 ⟨v', rfl, hl⟩)
                  refine ⟨⟨k + 1, by omega, by congr 1, ?_, Lib.hid ?_⟩, by simp [intOf]; omega⟩
                  · rw [HS.out]; omega
                  · rw [HS.out]; exact hI.out.next hl
            · have HS := Lib.hid (hs1 q)
              rw [hs0] at q
              clear hs1 hs2 hs0 HGs HGg hsn hg
              cases b
              · simp at q
              · rw [Bool.true_and] at q
                cases h5 : x.k == 5
                · rw [h5, Bool.false_or, Bool.and_eq_true, decide_eq_true_eq] at q
                  obtain ⟨h7, q⟩ := q
                  have u : (0 : Int) < (k : Int) := by omega
                  go_wp2
                  refine ⟨⟨k + 1, by omega, by congr 1, ?_, Lib.hid ?_⟩, by simp [intOf]; omega⟩
                  · rw [HS.out]; omega
                  · rw [HS.out]; exact hI.out
                · clear q
                  go_wp2
                  refine ⟨⟨k + 1, by omega, by congr 1, ?_, Lib.hid ?_⟩, by simp [intOf]; omega⟩
                  · rw [HS.out]; omega
                  · rw [HS.out]; exact hI.out
          · obtain rfl : k = x.ar.length := by omega
            clear hB
            go_wp2
            go_ret
            exact ⟨_, rfl, hI.out.last⟩
      · have hg : G 0 = acc := hsn
        go_wp2_with (first
          | (go_at_call 52; (with_reducible refine (KV.out _).mono ?_); rintro e w1 ⟨rfl, hb1⟩; obtain ⟨d0, d1, d2, d3, d4, d5, d6⟩ := bxW_cells (w := w) (x := x) hb1)
          | (go_at_call 24; (with_reducible refine (KH.out _ ?_).mono ?_); (focus ((repeat (first | (with_reducible exact Below.refl _ _) | (with_reducible assumption) | (with_reducible exact bel_box _) | (with_reducible refine bel_step ?_ (by with_reducible assumption)) | (with_reducible refine Below.drew ?_) | (with_reducible refine below_drewN ?_ _) | (with_reducible refine bel_alloc ?_ _))); done)); rintro e w2 ⟨rfl, hb2⟩; have hb3 : Hid (Below (bxW w x).heap.size (bxW w x) w2) := Lib.hid (hb1.trans (hb2.mono hb1.size))))
        have HI := LqI.same (x := x) hb3.out HO.out
        rw [← hg] at HI
        have HI0 := Lib.hid HI
        clear HI
        go_loopw [2, 7] (fun u i wr => ∃ k : Nat, k ≤ x.ar.length ∧ i = .int .i64 (k : Int) ∧ (G k).length ≤ acc.length + 1 + F k ∧ Hid (LqI 9 1 w x B v.ownBlock (G k).length (nmC (G k)) u wr)) (fun _ i _ => x.ar.length - (intOf i).toNat)
        case atStart => exact ⟨0, by omega, rfl, by omega, HI0⟩
        case round =>
          obtain ⟨k, hk, rfl, hGl, hI⟩ := hrel
          obtain ⟨hBB, ⟨b0, b1, b2, b3, b4, b5⟩, b6⟩ := hI.out.open_ hB hlt.out
          by_cases hlk : k < x.ar.length
          · obtain ⟨ad, y, hA, had, hy, hm, ⟨c0, c1, c2, c3, c4, c5⟩, hr⟩ := (HX.out.blw hBB (Nat.le_refl _)).at_ hlk
            rw [hA] at b5
            clear hA
            have hn1 := HF.out k y hy
            have hn2 := HFl.out (k + 1)
            have hs1 := HGs.out k
            have hs2 := fun h => HGg.out k y h hy
            have hs0 : skp b x k = (b && (x.k == 5 || x.k == 7 && decide (0 < k))) := rfl
            have hnl := nm_length b y (G k)
            have HIo := Lib.hid hI.out.1
            have KY : Hid (Calls Tryz.prog 47 #[xV y, .bool b, u2] wr (fun e w' => ∃ v', e = .returned v' ∧ LqR 9 1 wr B u2 (nmS b y (G k)).length (nmC (nmS b y (G k))) w' v')) := Lib.hid (IH.out y hm wr B u2 (G k) (by omega) hr HIo.out (by omega))
            simp only [xV] at KY
            clear hy IH
            obtain ⟨N, hN⟩ : ∃ N, nmS b y (G k) = N := ⟨_, rfl⟩
            rw [hN] at KY hs2 hnl
            clear hN
            cases q : skp b x k
            · have HS := Lib.hid (hs2 q)
              rw [hs0] at q
              clear hs1 hs2 hs0 HGs HGg hsn hg
              cases b
              · clear q
                go_wp2_with (go_at_call 47; (with_reducible refine (KY.out).mono ?_); rintro e w2 ⟨v', rfl, hl⟩)
                refine ⟨⟨k + 1, by omega, by congr 1, ?_, Lib.hid ?_⟩, by simp [intOf]; omega⟩
                · rw [HS.out]; omega
                · rw [HS.out]; exact hI.out.next hl
              · rw [Bool.true_and, Bool.or_eq_false_iff] at q
                obtain ⟨h5, q⟩ := q
                cases h7 : x.k == 7
                · clear q
                  go_wp2_with (go_at_call 47; (with_reducible refine (KY.out).mono ?_); rintro e w2 ⟨v', rfl, hl⟩)
                  refine ⟨⟨k + 1, by omega, by congr 1, ?_, Lib.hid ?_⟩, by simp [intOf]; omega⟩
                  · rw [HS.out]; omega
                  · rw [HS.out]; exact hI.out.next hl
                · rw [h7, Bool.true_and, decide_eq_false_iff_not] at q
                  have u : (k : Int) ≤ 0 := by omega
                  go_wp2_with (go_at_call 47; (with_reducible refine (KY.out).mono ?_); rintro e w2 ⟨v', rfl, hl⟩)
                  refine ⟨⟨k + 1, by omega, by congr 1, ?_, Lib.hid ?_⟩, by simp [intOf]; omega⟩
                  · rw [HS.out]; omega
                  · rw [HS.out]; exact hI.out.next hl
            · have HS := Lib.hid (hs1 q)
              rw [hs0] at q
              clear hs1 hs2 hs0 HGs HGg hsn hg
              cases b
              · simp at q
              · rw [Bool.true_and] at q
                cases h5 : x.k == 5
                · rw [h5, Bool.false_or, Bool.and_eq_true, decide_eq_true_eq] at q
                  obtain ⟨h7, q⟩ := q
                  have u : (0 : Int) < (k : Int) := by omega
                  go_wp2
                  refine ⟨⟨k + 1, by omega, by congr 1, ?_, Lib.hid ?_⟩, by simp [intOf]; omega⟩
                  · rw [HS.out]; omega
                  · rw [HS.out]; exact hI.out
                · clear q
                  go_wp2
                  refine ⟨⟨k + 1, by omega, by congr 1, ?_, Lib.hid ?_⟩, by simp [intOf]; omega⟩
                  · rw [HS.out]; omega
                  · rw [HS.out]; exact hI.out
          · obtain rfl : k = x.ar.length := by omega
            clear hB
            go_wp2
            go_ret
            exact ⟨_, rfl, hI.out.last⟩
end Go.Proofs.YtfogkcccjemloaaGreatDoor
/- Names, Instant, SameNames of the reference. -/
namespace Go.Proofs.YtfogkcccjemloaaGreatDoor
set_option linter.unusedVariables false
set_option linter.unusedSimpArgs false
open Go.RowKit Go.Sort
/-- a list of names, new -/
def NewN (l : List ByteArray) (w : World) (e : Ending) (w' : World) : Prop := ∃ A c, e = .returned (.slice A l.length c) ∧ RdN w' w'.heap.size A l ∧ Below w.heap.size w w'
theorem rnames_new (b : Bool) (x : Xt) (w : World) (hX : RdX w w.heap.size x) (hs : x.size ≤ 100000) : Calls Tryz.prog 47 #[xV x, .bool b, .slice none 0 0] w (NewN (nmS b x []) w) := by
  refine (rnames_any b x w w.heap.size (.slice none 0 0) [] (Nat.le_refl _) hX (World.ownsRow_nil _ _ _ _) (by simpa using hs)).mono fun e w1 ⟨v', he, h1, h2, h3⟩ => ?_
  obtain ⟨A, c, rfl⟩ := own_form6 h1
  exact ⟨A, c, he, RdN.of_own h1, ⟨h2.os, h2.tape, h2.output, h2.size, fun k hk => h2.block k hk (by intro e; cases e)⟩⟩
set_option maxHeartbeats 1000000 in
set_option maxRecDepth 20000 in
theorem rNames_any (x : Xt) (w : World) (hX : RdX w w.heap.size x) (hs : x.size ≤ 100000) : Calls Tryz.prog 26 #[xV x] w (NewN (nmS false x []) w) := by
  have K : Hid (∀ W, Below w.heap.size w W → Calls Tryz.prog 47 #[xV x, .bool false, .slice none 0 0] W (NewN (nmS false x []) W)) := Lib.hid fun W hb => rnames_new false x W (hX.to hb) hs
  simp only [xV] at K ⊢
  go_enter Tryz.func26, Tryz.ntmps26
  go_wp2_with (go_at_call 47; (with_reducible refine (K.out _ ?_).mono ?_); (focus ((repeat (first | (with_reducible exact Below.refl _ _) | (with_reducible assumption) | (with_reducible exact bel_box _) | (with_reducible refine bel_step ?_ (by with_reducible assumption)) | (with_reducible refine Below.drew ?_) | (with_reducible refine below_drewN ?_ _) | (with_reducible refine bel_alloc ?_ _))); done)); rintro e w1 ⟨A, c, rfl, hR, hb1⟩)
  go_ret
  exact ⟨A, c, rfl, hR, (by repeat (first | (with_reducible exact Below.refl _ _) | (with_reducible assumption) | (with_reducible exact bel_box _) | (with_reducible refine bel_step ?_ (by with_reducible assumption)) | (with_reducible refine Below.drew ?_) | (with_reducible refine below_drewN ?_ _) | (with_reducible refine bel_alloc ?_ _)))⟩
set_option maxHeartbeats 1000000 in
set_option maxRecDepth 20000 in
theorem rInstant_any (x : Xt) (w : World) (hX : RdX w w.heap.size x) (hs : x.size ≤ 100000) : Calls Tryz.prog 27 #[xV x] w (NewN (nmS true x []) w) := by
  have K : Hid (∀ W, Below w.heap.size w W → Calls Tryz.prog 47 #[xV x, .bool true, .slice none 0 0] W (NewN (nmS true x []) W)) := Lib.hid fun W hb => rnames_new true x W (hX.to hb) hs
  simp only [xV] at K ⊢
  go_enter Tryz.func27, Tryz.ntmps27
  go_wp2_with (go_at_call 47; (with_reducible refine (K.out _ ?_).mono ?_); (focus ((repeat (first | (with_reducible exact Below.refl _ _) | (with_reducible assumption) | (with_reducible exact bel_box _) | (with_reducible refine bel_step ?_ (by with_reducible assumption)) | (with_reducible refine Below.drew ?_) | (with_reducible refine below_drewN ?_ _) | (with_reducible refine bel_alloc ?_ _))); done)); rintro e w1 ⟨A, c, rfl, hR, hb1⟩)
  go_ret
  exact ⟨A, c, rfl, hR, (by repeat (first | (with_reducible exact Below.refl _ _) | (with_reducible assumption) | (with_reducible exact bel_box _) | (with_reducible refine bel_step ?_ (by with_reducible assumption)) | (with_reducible refine Below.drew ?_) | (with_reducible refine below_drewN ?_ _) | (with_reducible refine bel_alloc ?_ _)))⟩
def sameN (a b : List ByteArray) : Bool := a.map ByteArray.toList == b.map ByteArray.toList
theorem same_step {a b : List ByteArray} {k : Nat} {y z : ByteArray} (ha : a[k]? = some y) (hb : b[k]? = some z) (h : (a.take k).map ByteArray.toList = (b.take k).map ByteArray.toList) (hy : (y.toList == z.toList) = true) : (a.take (k + 1)).map ByteArray.toList = (b.take (k + 1)).map ByteArray.toList := by
  rw [take_succ_of ha, take_succ_of hb, List.map_append, List.map_append, h, List.map_singleton, List.map_singleton, eq_of_beq hy]
theorem same_no {a b : List ByteArray} {k : Nat} {y z : ByteArray} (ha : a[k]? = some y) (hb : b[k]? = some z) (hy : (y.toList == z.toList) = false) : sameN a b = false := by
  rw [sameN, beq_eq_false_iff_ne]
  intro e
  have h := congrArg (fun l => l[k]?) e
  simp only [List.getElem?_map, ha, hb, Option.map_some] at h
  rw [Option.some.inj h] at hy
  simp at hy
set_option maxHeartbeats 1000000 in
set_option maxRecDepth 20000 in
theorem rsame_any (A A' : Option Addr) (c c' : Nat) (a b : List ByteArray) (w : World) (hA : RdN w w.heap.size A a) (hB : RdN w w.heap.size A' b) (ha : a.length ≤ 200000) (hb : b.length ≤ 200000) : Calls Tryz.prog 25 #[.slice A a.length c, .slice A' b.length c'] w (Bel (.bool (sameN a b)) w) := by
  have H1 := Lib.hid (fun k y z (p : a[k]? = some y) (q : b[k]? = some z) h => same_step p q h)
  have H2 := Lib.hid (fun k y z (p : a[k]? = some y) (q : b[k]? = some z) h => same_no p q h)
  by_cases hl : a.length = b.length
  · have H3 : Hid (a.map ByteArray.toList = b.map ByteArray.toList → sameN a b = true) := Lib.hid fun h => by rw [sameN, h]; exact beq_self_eq_true _
    generalize sameN a b = V at *
    obtain ⟨n, hn⟩ : ∃ n, a.length = n := ⟨_, rfl⟩
    have hm : b.length = n := hl ▸ hn
    rw [hn, hm]
    have HL := Lib.hid (And.intro hn hm)
    rw [hn] at ha
    clear hl hn hm hb
    go_enter Tryz.func25, Tryz.ntmps25
    go_wp2
    go_loopw [5] (fun i wr => ∃ k : Nat, k ≤ n ∧ i = .int .i64 (k : Int) ∧ Below w.heap.size w wr ∧ Hid ((a.take k).map ByteArray.toList = (b.take k).map ByteArray.toList)) (fun i _ => n - (intOf i).toNat)
    case atStart => exact ⟨0, by omega, rfl, Below.refl _ _, Lib.hid rfl⟩
    case round =>
      obtain ⟨k, hk, rfl, hbl, hno⟩ := hrel
      by_cases hlt : k < n
      · obtain ⟨ad, y, rfl, had, hy, c0⟩   := (hA.to hbl).at_ (k := k) (by rw [HL.out.1]; exact hlt)
        obtain ⟨ad', z, rfl, had', hz, c0'⟩ := (hB.to hbl).at_ (k := k) (by rw [HL.out.2]; exact hlt)
        have h1 := H1.out k y z hy hz hno.out
        have h2 := H2.out k y z hy hz
        clear hy hz
        cases q : (y.toList == z.toList)
        · have h3 := h2 q
          clear h1 h2
          go_wp2
          go_quiet (fail)
          go_wp2
          go_ret
          exact ⟨by rw [h3]; rfl, (by repeat (first | (with_reducible exact Below.refl _ _) | (with_reducible assumption) | (with_reducible exact bel_box _) | (with_reducible refine bel_step ?_ (by with_reducible assumption)) | (with_reducible refine Below.drew ?_) | (with_reducible refine below_drewN ?_ _) | (with_reducible refine bel_alloc ?_ _)))⟩
        · have H4 := Lib.hid (h1 q)
          clear h1 h2
          go_wp2
          go_quiet (fail)
          go_wp2
          exact ⟨⟨k + 1, by omega, by congr 1, (by repeat (first | (with_reducible exact Below.refl _ _) | (with_reducible assumption) | (with_reducible exact bel_box _) | (with_reducible refine bel_step ?_ (by with_reducible assumption)) | (with_reducible refine Below.drew ?_) | (with_reducible refine below_drewN ?_ _) | (with_reducible refine bel_alloc ?_ _))), H4⟩, by simp [intOf]; omega⟩
      · obtain rfl : k = n := by omega
        have h1 := hno.out
        rw [← HL.out.1, List.take_length, HL.out.1, ← HL.out.2, List.take_length] at h1
        have h2 := H3.out h1
        clear h1 hno
        go_wp2
        go_ret
        exact ⟨by rw [h2]; rfl, hbl⟩
  · have h3 : sameN a b = false := by
      rw [sameN, beq_eq_false_iff_ne]
      intro e
      have := congrArg List.length e
      simp at this
      omega
    rw [h3]
    have hl2 : (((a.length : Nat) : Int) != ((b.length : Nat) : Int)) = true := by simp; omega
    go_enter Tryz.func25, Tryz.ntmps25
    go_wp2
    go_ret
    exact ⟨rfl, Below.refl _ _⟩
end Go.Proofs.YtfogkcccjemloaaGreatDoor
/- The iterator over what an expression depends on at the same instant. -/
namespace Go.Proofs.YtfogkcccjemloaaGreatDoor
set_option linter.unusedVariables false
set_option linter.unusedSimpArgs false
open Go.RowKit Go.Shelf
attribute [local go_sem] Oper.semAt_some
def iA (x : Xt) : Option Addr := if x.k = 5 then none else x.A
def iC (x : Xt) : Nat := if x.k = 5 then 0 else x.c
theorem kids_length (b : Bool) (x : Xt) : (kidsI b x).length ≤ x.ar.length := by
  unfold kidsI
  split
  · simp
  · split
    · simp; omega
    · exact Nat.le_refl _
theorem lst_pos (x : Xt) : 1 ≤ (x.lst true).length := by rw [Xt.lst_eq]; simp
theorem RdX.at_kid {w : World} {B : Nat} {x : Xt} (h : RdX w B x) {k : Nat} (hk : k < (kidsI true x).length) : ∃ ad y, iA x = some ad ∧ ad.block < B ∧ (kidsI true x)[k]? = some y ∧ y ∈ x.ar ∧ XC w (ad.add (k * 6)) y ∧ RdX w B y := by
  have hl := kids_length true x
  obtain ⟨ad, y, hA, had, hy, hm, hc, hr⟩ := h.at_ (i := k) (by omega)
  have h5 : x.k ≠ 5 := by
    intro e
    rw [kidsI, if_pos (by rw [e]; rfl)] at hk
    simp at hk
  refine ⟨ad, y, by rw [iA, if_neg h5]; exact hA, had, ?_, hm, hc, hr⟩
  unfold kidsI at hk ⊢
  rw [if_neg (by simpa using h5)] at hk ⊢
  split
  · rename_i h7
    rw [if_pos h7] at hk
    rw [List.getElem?_take, if_pos (by simp at hk; omega)]
    exact hy
  · exact hy
theorem parts_lst (x : Xt) : ∃ L : Nat → List Xt, x.lst true = x :: L (kidsI true x).length ∧ L 0 = [] ∧ Hid (∀ (k : Nat) (y : Xt), (kidsI true x)[k]? = some y → L (k + 1) = L k ++ y.lst true ∧ (L k).length + (y.lst true).length + 1 ≤ (x.lst true).length ∧ ∃ r, L k ++ y.lst true ++ r = L (kidsI true x).length) := by
  refine ⟨fun k => (((kidsI true x).take k).map (Xt.lst true)).flatten, ?_, rfl, Lib.hid fun k y hy => ?_⟩
  · simp only [List.take_length]
    exact Xt.lst_eq true x
  · have e1 : (((kidsI true x).take (k + 1)).map (Xt.lst true)).flatten = (((kidsI true x).take k).map (Xt.lst true)).flatten ++ y.lst true := by
      rw [take_succ_of hy, List.map_append, List.flatten_append]
      simp
    have e2 : (((kidsI true x).take k).map (Xt.lst true)).flatten ++ y.lst true ++ (((kidsI true x).drop (k + 1)).map (Xt.lst true)).flatten = (((kidsI true x).take (kidsI true x).length).map (Xt.lst true)).flatten := by
      rw [← e1, ← List.flatten_append, ← List.map_append, List.take_append_drop, List.take_length]
    refine ⟨e1, ?_, _, e2⟩
    have h1 := congrArg List.length e2
    have h2 := congrArg List.length (Xt.lst_eq true x)
    rw [List.length_cons] at h2
    rw [List.take_length] at h1
    rw [List.length_append, List.length_append] at h1
    simp only
    omega
set_option maxHeartbeats 1000000 in
theorem instant_any (x : Xt) (w : World) (h9 : x.ar.length ≤ 2 ^ 63 - 1) (hcap : x.ar.length ≤ x.c) : Calls Tryz.prog 46 #[xV x] w (Bel (.slice (iA x) (kidsI true x).length (iC x)) w) := by
  by_cases h5 : x.k = 5
  · have e1 : iA x = none := if_pos h5
    have e2 : iC x = 0 := if_pos h5
    have e3 : kidsI true x = [] := by rw [kidsI, if_pos (by rw [h5]; rfl)]
    rw [e1, e2, e3]
    have h5' : (x.k == 5) = true := by rw [h5]; rfl
    simp only [xV]
    go_enter Tryz.func46, Tryz.ntmps46
    go_wp2
    all_goals go_ret
    all_goals exact ⟨rfl, (by repeat (first | (with_reducible exact Below.refl _ _) | (with_reducible assumption) | (with_reducible exact bel_box _) | (with_reducible refine bel_step ?_ (by with_reducible assumption)) | (with_reducible refine Below.drew ?_) | (with_reducible refine below_drewN ?_ _) | (with_reducible refine bel_alloc ?_ _)))⟩
  · have e1 : iA x = x.A := if_neg h5
    have e2 : iC x = x.c := if_neg h5
    have h5' : (x.k == 5) = false := by simpa using h5
    rw [e1, e2]
    by_cases h7 : x.k = 7
    · have e3 : (kidsI true x).length = min 1 x.ar.length := by
        rw [kidsI, if_neg (by rw [Bool.true_and, h5']; simp), if_pos (by rw [h7]; rfl), List.length_take]
      rw [e3]
      have h7' : (x.k == 7) = true := by rw [h7]; rfl
      simp only [xV]
      go_enter Tryz.func46, Tryz.ntmps46
      go_wp2
      all_goals first
        | (exfalso; omega)
        | (go_ret; exact ⟨by rw [show (min 1 (x.ar.length : Int)).toNat = min 1 x.ar.length by omega]; rfl, (by repeat (first | (with_reducible exact Below.refl _ _) | (with_reducible assumption) | (with_reducible exact bel_box _) | (with_reducible refine bel_step ?_ (by with_reducible assumption)) | (with_reducible refine Below.drew ?_) | (with_reducible refine below_drewN ?_ _) | (with_reducible refine bel_alloc ?_ _)))⟩)
    · have e3 : kidsI true x = x.ar := by
        rw [kidsI, if_neg (by rw [Bool.true_and, h5']; simp), if_neg (by simpa using h7)]
      rw [e3]
      have h7' : (x.k == 7) = false := by simpa using h7
      simp only [xV]
      go_enter Tryz.func46, Tryz.ntmps46
      go_wp2
      all_goals go_ret
      all_goals exact ⟨rfl, (by repeat (first | (with_reducible exact Below.refl _ _) | (with_reducible assumption) | (with_reducible exact bel_box _) | (with_reducible refine bel_step ?_ (by with_reducible assumption)) | (with_reducible refine Below.drew ?_) | (with_reducible refine below_drewN ?_ _) | (with_reducible refine bel_alloc ?_ _)))⟩
set_option maxRecDepth 100000 in
set_option maxHeartbeats 4000000 in
theorem walkI_in (l n₀ B : Nat) (N : Nat) (S : Nat → Prop) (hS : ∀ k, S k → n₀ ≤ k ∧ k < B) (J Jx : List Xt → World → Prop) (hJ : AbidesFrom B J) (P : Xt → Prop)
    (hY : ∀ m pre x W, P x → J pre W → pre.length < N → YieldAt Fence.wide m Tryz.prog l #[xV x] W fun e W' =>
      (e = .returned (.bool true) ∧ J (pre ++ [x]) W' ∧ KX S W W') ∨ (e = .returned (.bool false) ∧ Jx (pre ++ [x]) W')) (x : Xt) :
    ∀ (n : Nat) (pre : List Xt) (W : World), (∀ y ∈ x.lst true, P y) → RdX W n₀ x → B ≤ W.heap.size → J pre W → pre.length + (x.lst true).length ≤ N →
      CallsIn Fence.wide n Tryz.prog 63 #[xV x, .func (.func 46) #[] #[], .func (.yield l) #[] #[]] W fun e W' =>
        (e = .returned (.bool true) ∧ J (pre ++ x.lst true) W' ∧ KX S W W') ∨ (e = .returned (.bool false) ∧ ∃ q, q <+: x.lst true ∧ Jx (pre ++ q) W') := by
  induction x using Xt.ind with
  | h x ih =>
    intro n pre W hP hX hB hj hN
    have hdd : ∀ k : Nat, (Fence.wide.depth.isSome = true → 1 ≤ k) := fun k h => by cases h
    have h9 := hX.len.1
    unfold maxLen at h9
    have hx1 := lst_pos x
    have hns : ∀ k, B ≤ k → ¬ S k := fun k hk hs => by have := (hS k hs).2; omega
    obtain ⟨b0, b1, b2, b3, b4, b5⟩ := bx_box W x
    -- the round at x itself, with what the walk wants next beside it
    have hy0 := YieldAt.mono (R' := fun e W2 =>
        (e = .returned (.bool true) ∧ J (pre ++ [x]) W2 ∧ KX S W W2 ∧ RdX W2 n₀ x ∧ W.heap.size < W2.heap.size ∧ W2.cell? ⟨W.heap.size, 0, none⟩ = some (.int .i64 x.k) ∧ W2.cell? ⟨W.heap.size, 1, none⟩ = some (.int .i64 x.op) ∧ W2.cell? ⟨W.heap.size, 2, none⟩ = some (.int .i64 x.t) ∧ W2.cell? ⟨W.heap.size, 3, none⟩ = some (.int .i64 x.v) ∧ W2.cell? ⟨W.heap.size, 4, none⟩ = some (.string x.nm) ∧ W2.cell? ⟨W.heap.size, 5, none⟩ = some (.slice x.A x.ar.length x.c)) ∨
        (e = .returned (.bool false) ∧ Jx (pre ++ [x]) W2)) (hY (n - 1) pre x (bxW W x) (hP x (by rw [Xt.lst_eq]; simp)) (abides_below hJ hj (bel_box _)) (by omega)) fun e W2 h => h.elim (fun ⟨he, hj2, hk⟩ => .inl ⟨he, hj2, (KX.of_below (bel_box _)).trans hk, (hX.kx (KX.of_below (bel_box _)) (fun k hs => (hS k hs).1)).kx hk (fun k hs => (hS k hs).1), by have := hk.1; rw [bxW_size] at this; omega,
          hk.cell (a := ⟨_, _, none⟩) (hns _ hB) b0, hk.cell (a := ⟨_, _, none⟩) (hns _ hB) b1, hk.cell (a := ⟨_, _, none⟩) (hns _ hB) b2, hk.cell (a := ⟨_, _, none⟩) (hns _ hB) b3, hk.cell (a := ⟨_, _, none⟩) (hns _ hB) b4, hk.cell (a := ⟨_, _, none⟩) (hns _ hB) b5⟩) .inr
    have IH := Lib.hid ih
    have HX := Lib.hid hX
    have HP := Lib.hid hP
    obtain ⟨L, hL, hL0, HL⟩ := parts_lst x
    have hkl := kids_length true x
    have AK : Hid (∀ {w : World} {B : Nat}, RdX w B x → ∀ {k : Nat}, k < (kidsI true x).length → ∃ ad y, iA x = some ad ∧ ad.block < B ∧ (kidsI true x)[k]? = some y ∧ y ∈ x.ar ∧ XC w (ad.add (k * 6)) y ∧ RdX w B y) := Lib.hid fun h => h.at_kid
    rw [hL] at hP
    have HPL := Lib.hid hP
    clear hP HP
    rw [hL]
    have HA := Lib.hid (fun W => instant_any x W h9 HX.out.cap)
    obtain ⟨M, hM⟩ : ∃ M, (kidsI true x).length = M := ⟨_, rfl⟩
    rw [hM] at HA AK HL hkl HPL
    rw [hM]
    clear hX ih b0 b1 b2 b3 b4 b5 hY
    simp only [xV] at hy0 HA IH ⊢
    obtain ⟨fn, tmps, assign, body, hy, hR⟩ := hy0
    refine callsIn_of_wp Tryz.func63 rfl trivial ?_ rfl
    simp only [Tryz.ntmps63, List.size_toArray, List.length_cons, List.length_nil, Nat.reduceAdd, Nat.reduceSub, Array.replicate_succ, Array.replicate_zero, List.push_toArray, List.append_toArray, List.nil_append, List.cons_append]
    gi_wp2_with (first
      | ((try refine ⟨hdd _, ?_⟩); refine hR.mono ?_; clear hR; rintro e W2 (⟨rfl, hJ2, hk2, hX2, hz2, d0, d1, d2, d3, d4, d5⟩ | ⟨rfl, hx2⟩))
      | (refine ⟨trivial, hdd _, ?_⟩; gi_at_call 46; refine (callsIn_wide.2 (HA.out _)).mono ?_; rintro e W3 ⟨rfl, hb3⟩))
    · clear HA hy
      have hJ3 := abides_below hJ hJ2 hb3
      have hk3 : KX S W W3 := hk2.trans (KX.of_below hb3)
      clear hX2 hz2 d0 d1 d2 d3 d4 d5 hJ2 hk2 hb3
      gi_loopw [17] (fun i wr => ∃ k : Nat, k ≤ M ∧ i = .int .i64 (k : Int) ∧ J (pre ++ x :: L k) wr ∧ KX S W wr) (fun i _ => M - (intOf i).toNat)
      case atStart => exact ⟨0, by omega, rfl, by rw [hL0]; exact hJ3, hk3⟩
      case round =>
        obtain ⟨k, hk, rfl, hJk, hkk⟩ := hrel
        by_cases hlt : k < M
        · have hXr := HX.out.kx hkk (fun k hs => (hS k hs).1)
          obtain ⟨ad, y, hA, had, hy, hm, ⟨c0, c1, c2, c3, c4, c5⟩, hr⟩ := AK.out hXr hlt
          obtain ⟨e1, e2, r, e3⟩ := HL.out k y hy
          have hcall := (IH.out y hm (n - 1) (pre ++ x :: L k) (bxW wr y) (fun z hz => HPL.out z (List.mem_cons.2 (.inr (by rw [← e3]; simp [hz])))) (hr.kx (KX.of_below (S := S) (bel_box _)) (fun k hs => (hS k hs).1)) (by rw [bxW_size]; have := hkk.1; omega) (abides_below hJ hJk (bel_box _)) (by simp only [List.length_append, List.length_cons]; omega)).mono (R' := fun e W5 =>
            (e = .returned (.bool true) ∧ J (pre ++ x :: L (k + 1)) W5 ∧ KX S W W5) ∨ (e = .returned (.bool false) ∧ ∃ q, q <+: x :: L M ∧ Jx (pre ++ q) W5)) (fun e W5 h => h.elim
              (fun ⟨he, hj5, hk5⟩ => .inl ⟨he, by rw [e1]; simpa [List.append_assoc] using hj5, (hkk.trans (KX.of_below (bel_box _))).trans hk5⟩)
              (fun ⟨he, q, ⟨t, ht⟩, hx5⟩ => .inr ⟨he, x :: L k ++ q, ⟨t ++ r, by rw [← e3, ← ht]; simp [List.append_assoc]⟩, by simpa [List.append_assoc] using hx5⟩))
          have HC := Lib.hid hcall
          clear hcall hXr hr e1 e2 e3 hy hJk hkk IH HL HPL AK
          rw [hA]
          clear hA
          gi_wp2_with (refine ⟨trivial, hdd _, ?_⟩; gi_at_call 63; refine HC.out.mono ?_; clear HC; rintro e W5 (⟨rfl, hJ5, hk5⟩ | ⟨rfl, q, hq, hx5⟩))
          · exact ⟨⟨k + 1, by omega, by congr 1, hJ5, hk5⟩, by simp [intOf]; omega⟩
          · go_ret
            exact .inr ⟨rfl, q, hq, hx5⟩
        · obtain rfl : k = M := by omega
          gi_wp2
          go_ret
          exact .inl ⟨rfl, hJk, hkk⟩
    · go_ret
      exact .inr ⟨rfl, [x], ⟨L M, rfl⟩, hx2⟩
end Go.Proofs.YtfogkcccjemloaaGreatDoor
/- What within hands back, for what an expression depends on at the same instant. -/
namespace Go.Proofs.YtfogkcccjemloaaGreatDoor
set_option linter.unusedVariables false
set_option linter.unusedSimpArgs false
open Go.RowKit Go.Shelf
attribute [local go_sem] Oper.semAt_some
theorem lst_false (x : Xt) : x.lst false = x.list := by
  induction x using Xt.ind with
  | h x ih =>
    rw [Xt.lst_eq, Xt.list_eq]
    have e : kidsI false x = x.ar := rfl
    rw [e, List.map_congr_left ih]
theorem lst_len (x : Xt) : (x.lst true).length ≤ x.size := by
  induction x using Xt.ind with
  | h x ih =>
    rw [Xt.lst_eq, Xt.size_eq, List.length_cons, List.length_flatten, List.map_map]
    have h1 := kids_size true x
    have h2 : ((kidsI true x).map (List.length ∘ Xt.lst true)).sum ≤ ((kidsI true x).map Xt.size).sum := by
      have hm : ∀ y ∈ kidsI true x, (y.lst true).length ≤ y.size := fun y hy => ih y (kids_mem hy)
      generalize kidsI true x = l at hm
      induction l with
      | nil => simp
      | cons a l ih2 =>
        have h3 := hm a (by simp)
        have h4 := ih2 fun y hy => hm y (by simp [hy])
        simp only [List.map_cons, List.sum_cons, Function.comp_def] at h4 ⊢
        omega
    omega
set_option maxHeartbeats 1000000 in
set_option maxRecDepth 100000 in
theorem withinI_stopsP (P : Xt → Prop) (n be bp n₀ : Nat) (S : Nat → Prop) (x : Xt) (w : World) (hP : ∀ y ∈ x.lst true, P y) (hS : ∀ k, S k → n₀ ≤ k ∧ k < w.heap.size) (hn₀ : n₀ ≤ w.heap.size) (hbe : be < w.heap.size) (hbp : bp < w.heap.size) (hX : RdX w n₀ x)
    (c0 : w.cell? ⟨be, 0, none⟩ = some (.int .i64 x.k)) (c1 : w.cell? ⟨be, 1, none⟩ = some (.int .i64 x.op)) (c2 : w.cell? ⟨be, 2, none⟩ = some (.int .i64 x.t)) (c3 : w.cell? ⟨be, 3, none⟩ = some (.int .i64 x.v)) (c4 : w.cell? ⟨be, 4, none⟩ = some (.string x.nm)) (c5 : w.cell? ⟨be, 5, none⟩ = some (.slice x.A x.ar.length x.c)) (cp : w.cell? ⟨bp, 0, none⟩ = some (.func (.func 46) #[] #[])) :
    SeqStopsK Fence.wide n Tryz.prog 62 #[.pointer (some ⟨be, 0, none⟩), .pointer (some ⟨bp, 0, none⟩)] (fun y : {y : Xt // P y} => #[xV y.1]) (KX S) (fun ys => ys.map (·.1) = x.lst true) (fun pre => pre.map (·.1) <+: x.lst true) (x.lst true).length w := by
  intro l J Jx W hW hJ _ hY h0
  have hdd : ∀ k : Nat, (Fence.wide.depth.isSome = true → 1 ≤ k) := fun k h => by cases h
  have hWs := hW.size
  have d0 := (hW.cell (p := ⟨be, 0, none⟩) hbe).trans c0
  have d1 := (hW.cell (p := ⟨be, 1, none⟩) hbe).trans c1
  have d2 := (hW.cell (p := ⟨be, 2, none⟩) hbe).trans c2
  have d3 := (hW.cell (p := ⟨be, 3, none⟩) hbe).trans c3
  have d4 := (hW.cell (p := ⟨be, 4, none⟩) hbe).trans c4
  have d5 := (hW.cell (p := ⟨be, 5, none⟩) hbe).trans c5
  have dp := (hW.cell (p := ⟨bp, 0, none⟩) hbp).trans cp
  have hp := walkI_in l n₀ W.heap.size (x.lst true).length S (fun k hs => ⟨(hS k hs).1, by have := (hS k hs).2; omega⟩) (upJ J) (upJ Jx) (fun s A B row ⟨q, hq, hs⟩ hg hr => ⟨q, hq, hJ q A B row hs hg hr⟩) P
    (fun m pre y W1 hPy ⟨q, hq, hj⟩ hl => yield_any rfl m (YieldAt.mono (hY q ⟨y, hPy⟩ W1 hj (by rw [← hq, List.length_map] at hl; exact hl)) fun e W' h => h.elim
      (fun ⟨he, hj2, hk⟩ => .inl ⟨he, ⟨q ++ [⟨y, hPy⟩], by rw [List.map_append, hq]; rfl, hj2⟩, hk⟩) (fun ⟨he, hx⟩ => .inr ⟨he, q ++ [⟨y, hPy⟩], by rw [List.map_append, hq]; rfl, hx⟩))) x (n - 1) [] W hP (hX.blw (hW.mono hn₀) (Nat.le_refl _)) (Nat.le_refl _) ⟨[], rfl, h0⟩ (by simp)
  simp only [List.nil_append, xV] at hp
  clear hY c0 c1 c2 c3 c4 c5 cp
  simp only [List.append_toArray, List.cons_append, List.nil_append, Array.append_eq_append] at *
  refine callsIn_of_wp Tryz.func62 rfl trivial ?_ rfl
  simp only [Tryz.ntmps62, List.size_toArray, List.length_cons, List.length_nil, Nat.reduceAdd, Nat.reduceSub, Array.replicate_succ, Array.replicate_zero, List.push_toArray, List.append_toArray, List.nil_append, List.cons_append]
  gi_wp2_with (refine ⟨trivial, hdd _, ?_⟩; gi_at_call 63; refine hp.mono ?_; clear hp; rintro e W1 (⟨rfl, ⟨ys, hys, hJ1⟩, _⟩ | ⟨rfl, q, hq, ys, hys, hx⟩))
  · go_end0
    exact ⟨⟨_, rfl⟩, .inl ⟨ys, hys, hJ1⟩⟩
  · go_end0
    exact ⟨⟨_, rfl⟩, .inr ⟨ys, by rw [hys]; exact hq, hx⟩⟩
theorem withinI_atP (P : Xt → Prop) (n n₀ : Nat) (S : Nat → Prop) (x : Xt) (w : World) (hP : ∀ y ∈ x.lst true, P y) (hS : ∀ k, S k → n₀ ≤ k ∧ k < w.heap.size) (hn₀ : n₀ ≤ w.heap.size) (hX : RdX w n₀ x) :
    SeqStopsK Fence.wide n Tryz.prog 62 #[.pointer (some ⟨w.heap.size, 0, none⟩), .pointer (some ⟨w.heap.size + 1, 0, none⟩)] (fun y : {y : Xt // P y} => #[xV y.1]) (KX S) (fun ys => ys.map (·.1) = x.lst true) (fun pre => pre.map (·.1) <+: x.lst true) (x.lst true).length (inW w x 46) := by
  obtain ⟨b0, b1, b2, b3, b4, b5, _⟩ := bxW_cells (w := w) (x := x) (W := inW w x 46) (bel_box _)
  exact withinI_stopsP P n w.heap.size (w.heap.size + 1) n₀ S x _ hP (fun k hs => ⟨(hS k hs).1, by rw [inW_size]; have := (hS k hs).2; omega⟩) (by rw [inW_size]; omega) (by rw [inW_size]; omega) (by rw [inW_size]; omega) (hX.blw ((inW_below w x _).mono hn₀) (Nat.le_refl _)) b0 b1 b2 b3 b4 b5 (by simp [go_sem])
end Go.Proofs.YtfogkcccjemloaaGreatDoor
/- The iterators again, for a consumer that grows rows of names: what a round leaves are the cells that lay ahead, and the boxes of expressions. -/
namespace Go.Proofs.YtfogkcccjemloaaGreatDoor
set_option linter.unusedVariables false
set_option linter.unusedSimpArgs false
open Go.RowKit Go.Shelf
attribute [local go_sem] Oper.semAt_some
/-- what a round leaves: the cells below n₀, and whatever box of an expression -/
def KY (n₀ : Nat) (W W' : World) : Prop := W.heap.size ≤ W'.heap.size ∧ ∀ k o, W.heap[k]? = some o → o.isCells = true → (k < n₀ ∨ ∃ cs fz, o = .cells cs 24 fz) → W'.heap[k]? = some o
theorem KY.refl (n₀ : Nat) (W : World) : KY n₀ W W := ⟨Nat.le_refl _, fun _ _ h _ _ => h⟩
theorem KY.trans {n₀ : Nat} {A B C : World} (h : KY n₀ A B) (g : KY n₀ B C) : KY n₀ A C := ⟨Nat.le_trans h.1 g.1, fun k o ho hc hd => g.2 k o (h.2 k o ho hc hd) hc hd⟩
theorem KY.of_below {n₀ : Nat} {W W' : World} (h : Below W.heap.size W W') : KY n₀ W W' := ⟨h.size, fun k o ho _ _ => (h.block k (Array.getElem?_eq_some_iff.1 ho).1).trans ho⟩
theorem KY.cell {n₀ : Nat} {W W' : World} (h : KY n₀ W W') {a : Addr} {v : Value} (hs : a.block < n₀) (hc : W.cell? a = some v) : W'.cell? a = some v := by
  obtain ⟨o, ho, hk⟩ := cells_of_cell hc
  exact (World.cell?_of_block ((h.2 _ o ho hk (.inl hs)).trans ho.symm)).trans hc
theorem KY.bx {n₀ : Nat} {W W2 : World} {x : Xt} (h : KY n₀ (bxW W x) W2) : W2.cell? ⟨W.heap.size, 0, none⟩ = some (.int .i64 x.k) ∧ W2.cell? ⟨W.heap.size, 1, none⟩ = some (.int .i64 x.op) ∧ W2.cell? ⟨W.heap.size, 2, none⟩ = some (.int .i64 x.t) ∧ W2.cell? ⟨W.heap.size, 3, none⟩ = some (.int .i64 x.v) ∧ W2.cell? ⟨W.heap.size, 4, none⟩ = some (.string x.nm) ∧ W2.cell? ⟨W.heap.size, 5, none⟩ = some (.slice x.A x.ar.length x.c) := by
  obtain ⟨b0, b1, b2, b3, b4, b5⟩ := bx_box W x
  have ho := World.alloc_heap_new W (.cells #[.int .i64 x.k, .int .i64 x.op, .int .i64 x.t, .int .i64 x.v, .string x.nm, .slice x.A x.ar.length x.c] 24)
  have key : W2.heap[W.heap.size]? = (bxW W x).heap[W.heap.size]? := (h.2 _ _ ho rfl (.inr ⟨_, _, rfl⟩)).trans ho.symm
  exact ⟨(World.cell?_of_block key).trans b0, (World.cell?_of_block key).trans b1, (World.cell?_of_block key).trans b2, (World.cell?_of_block key).trans b3, (World.cell?_of_block key).trans b4, (World.cell?_of_block key).trans b5⟩
theorem KY.put {n₀ : Nat} (W : World) (l : Nat) (o o' : Obj) (ho : W.heap[l]? = some o) (hc : o.isCells = false) : KY n₀ W (W.putObj l o') := by
  refine ⟨by simp, fun k q hq hqc _ => ?_⟩
  rw [World.putObj_heap_other (fun e => by subst e; rw [ho] at hq; injection hq with hq; subst hq; rw [hc] at hqc; cases hqc)]
  exact hq
theorem KY_t {n₀ : Nat} : ∀ {A B C : World}, KY n₀ A B → KY n₀ B C → KY n₀ A C := fun h g => h.trans g
theorem KY_b {n₀ N : Nat} : ∀ (W : World) (l : Nat) (o o' : Obj), N ≤ l → W.heap[l]? = some o → o.isCells = false → o.isWalk = false → KY n₀ W (W.putObj l o') := fun W l o o' _ ho hc _ => KY.put W l o o' ho hc
theorem RdX.ky {W W' : World} {n₀ : Nat} {x : Xt} (h : RdX W n₀ x) (hk : KY n₀ W W') : RdX W' n₀ x := by
  induction h with
  | mk x h0 h1 h2 h3 ih =>
    refine .mk x h0 (fun ad i y ha hy => ?_) ih h3
    obtain ⟨ad', e, hb⟩ := h0 (by intro e; rw [e] at hy; simp at hy)
    obtain rfl : ad = ad' := Option.some.inj (ha.symm.trans e)
    have hn : (ad.add (i * 6)).block < n₀ := by rw [add_block]; exact hb
    obtain ⟨c0, c1, c2, c3, c4, c5⟩ := h1 ad i y ha hy
    exact ⟨hk.cell hn c0, hk.cell (a := ⟨_, _, none⟩) hn c1, hk.cell (a := ⟨_, _, none⟩) hn c2, hk.cell (a := ⟨_, _, none⟩) hn c3, hk.cell (a := ⟨_, _, none⟩) hn c4, hk.cell (a := ⟨_, _, none⟩) hn c5⟩
set_option maxRecDepth 100000 in
set_option maxHeartbeats 4000000 in
theorem walkY_in (l n₀ B : Nat) (N : Nat) (J Jx : List Xt → World → Prop) (hJ : AbidesFrom B J) (P : Xt → Prop)
    (hY : ∀ m pre x W, P x → J pre W → pre.length < N → YieldAt Fence.wide m Tryz.prog l #[xV x] W fun e W' =>
      (e = .returned (.bool true) ∧ J (pre ++ [x]) W' ∧ KY n₀ W W') ∨ (e = .returned (.bool false) ∧ Jx (pre ++ [x]) W')) (x : Xt) :
    ∀ (n : Nat) (pre : List Xt) (W : World), (∀ y ∈ x.list, P y) → RdX W n₀ x → B ≤ W.heap.size → J pre W → pre.length + x.size ≤ N →
      CallsIn Fence.wide n Tryz.prog 63 #[xV x, .func (.func 41) #[] #[], .func (.yield l) #[] #[]] W fun e W' =>
        (e = .returned (.bool true) ∧ J (pre ++ x.list) W' ∧ KY n₀ W W') ∨ (e = .returned (.bool false) ∧ ∃ q, q <+: x.list ∧ Jx (pre ++ q) W') := by
  induction x using Xt.ind with
  | h x ih =>
    intro n pre W hP hX hB hj hN
    have hdd : ∀ k : Nat, (Fence.wide.depth.isSome = true → 1 ≤ k) := fun k h => by cases h
    have h9 := hX.len.1
    unfold maxLen at h9
    have hx1 := Xt.size_pos x
    obtain ⟨b0, b1, b2, b3, b4, b5⟩ := bx_box W x
    -- the round at x itself, with what the walk wants next beside it
    have hy0 := YieldAt.mono (R' := fun e W2 =>
        (e = .returned (.bool true) ∧ J (pre ++ [x]) W2 ∧ KY n₀ W W2 ∧ RdX W2 n₀ x ∧ W.heap.size < W2.heap.size ∧ W2.cell? ⟨W.heap.size, 0, none⟩ = some (.int .i64 x.k) ∧ W2.cell? ⟨W.heap.size, 1, none⟩ = some (.int .i64 x.op) ∧ W2.cell? ⟨W.heap.size, 2, none⟩ = some (.int .i64 x.t) ∧ W2.cell? ⟨W.heap.size, 3, none⟩ = some (.int .i64 x.v) ∧ W2.cell? ⟨W.heap.size, 4, none⟩ = some (.string x.nm) ∧ W2.cell? ⟨W.heap.size, 5, none⟩ = some (.slice x.A x.ar.length x.c)) ∨
        (e = .returned (.bool false) ∧ Jx (pre ++ [x]) W2)) (hY (n - 1) pre x (bxW W x) (hP x (by rw [Xt.list_eq]; simp)) (abides_below hJ hj (bel_box _)) (by omega)) fun e W2 h => h.elim (fun ⟨he, hj2, hk⟩ => .inl ⟨he, hj2, (KY.of_below (bel_box _)).trans hk, (hX.ky (KY.of_below (bel_box _))).ky hk, by have := hk.1; rw [bxW_size] at this; omega,
          hk.bx.1, hk.bx.2.1, hk.bx.2.2.1, hk.bx.2.2.2.1, hk.bx.2.2.2.2.1, hk.bx.2.2.2.2.2⟩) .inr
    have IH := Lib.hid ih
    have HX := Lib.hid hX
    have HP := Lib.hid hP
    obtain ⟨L, hL, hL0, HL⟩ := parts_list x
    rw [hL] at hP
    have HPL := Lib.hid hP
    clear hP HP
    rw [hL]
    have HA := Lib.hid (fun W => arguments_any x W)
    clear hX ih b0 b1 b2 b3 b4 b5 hY
    simp only [xV] at hy0 HA IH ⊢
    obtain ⟨fn, tmps, assign, body, hy, hR⟩ := hy0
    refine callsIn_of_wp Tryz.func63 rfl trivial ?_ rfl
    simp only [Tryz.ntmps63, List.size_toArray, List.length_cons, List.length_nil, Nat.reduceAdd, Nat.reduceSub, Array.replicate_succ, Array.replicate_zero, List.push_toArray, List.append_toArray, List.nil_append, List.cons_append]
    gi_wp2_with (first
      | ((try refine ⟨hdd _, ?_⟩); refine hR.mono ?_; clear hR; rintro e W2 (⟨rfl, hJ2, hk2, hX2, hz2, d0, d1, d2, d3, d4, d5⟩ | ⟨rfl, hx2⟩))
      | (refine ⟨trivial, hdd _, ?_⟩; gi_at_call 41; refine (callsIn_wide.2 (HA.out _)).mono ?_; rintro e W3 ⟨rfl, hb3⟩))
    · clear HA hy
      have hJ3 := abides_below hJ hJ2 hb3
      have hk3 : KY n₀ W W3 := hk2.trans (KY.of_below hb3)
      clear hX2 hz2 d0 d1 d2 d3 d4 d5 hJ2 hk2 hb3
      gi_loopw [17] (fun i wr => ∃ k : Nat, k ≤ x.ar.length ∧ i = .int .i64 (k : Int) ∧ J (pre ++ x :: L k) wr ∧ KY n₀ W wr) (fun i _ => x.ar.length - (intOf i).toNat)
      case atStart => exact ⟨0, by omega, rfl, by rw [hL0]; exact hJ3, hk3⟩
      case round =>
        obtain ⟨k, hk, rfl, hJk, hkk⟩ := hrel
        by_cases hlt : k < x.ar.length
        · have hXr := HX.out.ky hkk
          obtain ⟨ad, y, hA, had, hy, hm, ⟨c0, c1, c2, c3, c4, c5⟩, hr⟩ := hXr.at_ hlt
          obtain ⟨e1, e2, r, e3⟩ := HL.out k y hy
          have hcall := (IH.out y hm (n - 1) (pre ++ x :: L k) (bxW wr y) (fun z hz => HPL.out z (List.mem_cons.2 (.inr (by rw [← e3]; simp [hz])))) (hr.ky (KY.of_below (bel_box _))) (by rw [bxW_size]; have := hkk.1; omega) (abides_below hJ hJk (bel_box _)) (by simp only [List.length_append, List.length_cons]; omega)).mono (R' := fun e W5 =>
            (e = .returned (.bool true) ∧ J (pre ++ x :: L (k + 1)) W5 ∧ KY n₀ W W5) ∨ (e = .returned (.bool false) ∧ ∃ q, q <+: x :: L x.ar.length ∧ Jx (pre ++ q) W5)) (fun e W5 h => h.elim
              (fun ⟨he, hj5, hk5⟩ => .inl ⟨he, by rw [e1]; simpa [List.append_assoc] using hj5, (hkk.trans (KY.of_below (bel_box _))).trans hk5⟩)
              (fun ⟨he, q, ⟨t, ht⟩, hx5⟩ => .inr ⟨he, x :: L k ++ q, ⟨t ++ r, by rw [← e3, ← ht]; simp [List.append_assoc]⟩, by simpa [List.append_assoc] using hx5⟩))
          have HC := Lib.hid hcall
          clear hcall hXr hr e1 e2 e3 hy hJk hkk IH HL HPL
          rw [hA]
          clear hA
          gi_wp2_with (refine ⟨trivial, hdd _, ?_⟩; gi_at_call 63; refine HC.out.mono ?_; clear HC; rintro e W5 (⟨rfl, hJ5, hk5⟩ | ⟨rfl, q, hq, hx5⟩))
          · exact ⟨⟨k + 1, by omega, by congr 1, hJ5, hk5⟩, by simp [intOf]; omega⟩
          · go_ret
            exact .inr ⟨rfl, q, hq, hx5⟩
        · obtain rfl : k = x.ar.length := by omega
          gi_wp2
          go_ret
          exact .inl ⟨rfl, hJk, hkk⟩
    · go_ret
      exact .inr ⟨rfl, [x], ⟨L x.ar.length, rfl⟩, hx2⟩
set_option maxRecDepth 100000 in
set_option maxHeartbeats 4000000 in
theorem walkYI_in (l n₀ B : Nat) (N : Nat) (J Jx : List Xt → World → Prop) (hJ : AbidesFrom B J) (P : Xt → Prop)
    (hY : ∀ m pre x W, P x → J pre W → pre.length < N → YieldAt Fence.wide m Tryz.prog l #[xV x] W fun e W' =>
      (e = .returned (.bool true) ∧ J (pre ++ [x]) W' ∧ KY n₀ W W') ∨ (e = .returned (.bool false) ∧ Jx (pre ++ [x]) W')) (x : Xt) :
    ∀ (n : Nat) (pre : List Xt) (W : World), (∀ y ∈ x.lst true, P y) → RdX W n₀ x → B ≤ W.heap.size → J pre W → pre.length + (x.lst true).length ≤ N →
      CallsIn Fence.wide n Tryz.prog 63 #[xV x, .func (.func 46) #[] #[], .func (.yield l) #[] #[]] W fun e W' =>
        (e = .returned (.bool true) ∧ J (pre ++ x.lst true) W' ∧ KY n₀ W W') ∨ (e = .returned (.bool false) ∧ ∃ q, q <+: x.lst true ∧ Jx (pre ++ q) W') := by
  induction x using Xt.ind with
  | h x ih =>
    intro n pre W hP hX hB hj hN
    have hdd : ∀ k : Nat, (Fence.wide.depth.isSome = true → 1 ≤ k) := fun k h => by cases h
    have h9 := hX.len.1
    unfold maxLen at h9
    have hx1 := lst_pos x
    obtain ⟨b0, b1, b2, b3, b4, b5⟩ := bx_box W x
    -- the round at x itself, with what the walk wants next beside it
    have hy0 := YieldAt.mono (R' := fun e W2 =>
        (e = .returned (.bool true) ∧ J (pre ++ [x]) W2 ∧ KY n₀ W W2 ∧ RdX W2 n₀ x ∧ W.heap.size < W2.heap.size ∧ W2.cell? ⟨W.heap.size, 0, none⟩ = some (.int .i64 x.k) ∧ W2.cell? ⟨W.heap.size, 1, none⟩ = some (.int .i64 x.op) ∧ W2.cell? ⟨W.heap.size, 2, none⟩ = some (.int .i64 x.t) ∧ W2.cell? ⟨W.heap.size, 3, none⟩ = some (.int .i64 x.v) ∧ W2.cell? ⟨W.heap.size, 4, none⟩ = some (.string x.nm) ∧ W2.cell? ⟨W.heap.size, 5, none⟩ = some (.slice x.A x.ar.length x.c)) ∨
        (e = .returned (.bool false) ∧ Jx (pre ++ [x]) W2)) (hY (n - 1) pre x (bxW W x) (hP x (by rw [Xt.lst_eq]; simp)) (abides_below hJ hj (bel_box _)) (by omega)) fun e W2 h => h.elim (fun ⟨he, hj2, hk⟩ => .inl ⟨he, hj2, (KY.of_below (bel_box _)).trans hk, (hX.ky (KY.of_below (bel_box _))).ky hk, by have := hk.1; rw [bxW_size] at this; omega,
          hk.bx.1, hk.bx.2.1, hk.bx.2.2.1, hk.bx.2.2.2.1, hk.bx.2.2.2.2.1, hk.bx.2.2.2.2.2⟩) .inr
    have IH := Lib.hid ih
    have HX := Lib.hid hX
    have HP := Lib.hid hP
    obtain ⟨L, hL, hL0, HL⟩ := parts_lst x
    have hkl := kids_length true x
    have AK : Hid (∀ {w : World} {B : Nat}, RdX w B x → ∀ {k : Nat}, k < (kidsI true x).length → ∃ ad y, iA x = some ad ∧ ad.block < B ∧ (kidsI true x)[k]? = some y ∧ y ∈ x.ar ∧ XC w (ad.add (k * 6)) y ∧ RdX w B y) := Lib.hid fun h => h.at_kid
    rw [hL] at hP
    have HPL := Lib.hid hP
    clear hP HP
    rw [hL]
    have HA := Lib.hid (fun W => instant_any x W h9 HX.out.cap)
    obtain ⟨M, hM⟩ : ∃ M, (kidsI true x).length = M := ⟨_, rfl⟩
    rw [hM] at HA AK HL hkl HPL
    rw [hM]
    clear hX ih b0 b1 b2 b3 b4 b5 hY
    simp only [xV] at hy0 HA IH ⊢
    obtain ⟨fn, tmps, assign, body, hy, hR⟩ := hy0
    refine callsIn_of_wp Tryz.func63 rfl trivial ?_ rfl
    simp only [Tryz.ntmps63, List.size_toArray, List.length_cons, List.length_nil, Nat.reduceAdd, Nat.reduceSub, Array.replicate_succ, Array.replicate_zero, List.push_toArray, List.append_toArray, List.nil_append, List.cons_append]
    gi_wp2_with (first
      | ((try refine ⟨hdd _, ?_⟩); refine hR.mono ?_; clear hR; rintro e W2 (⟨rfl, hJ2, hk2, hX2, hz2, d0, d1, d2, d3, d4, d5⟩ | ⟨rfl, hx2⟩))
      | (refine ⟨trivial, hdd _, ?_⟩; gi_at_call 46; refine (callsIn_wide.2 (HA.out _)).mono ?_; rintro e W3 ⟨rfl, hb3⟩))
    · clear HA hy
      have hJ3 := abides_below hJ hJ2 hb3
      have hk3 : KY n₀ W W3 := hk2.trans (KY.of_below hb3)
      clear hX2 hz2 d0 d1 d2 d3 d4 d5 hJ2 hk2 hb3
      gi_loopw [17] (fun i wr => ∃ k : Nat, k ≤ M ∧ i = .int .i64 (k : Int) ∧ J (pre ++ x :: L k) wr ∧ KY n₀ W wr) (fun i _ => M - (intOf i).toNat)
      case atStart => exact ⟨0, by omega, rfl, by rw [hL0]; exact hJ3, hk3⟩
      case round =>
        obtain ⟨k, hk, rfl, hJk, hkk⟩ := hrel
        by_cases hlt : k < M
        · have hXr := HX.out.ky hkk
          obtain ⟨ad, y, hA, had, hy, hm, ⟨c0, c1, c2, c3, c4, c5⟩, hr⟩ := AK.out hXr hlt
          obtain ⟨e1, e2, r, e3⟩ := HL.out k y hy
          have hcall := (IH.out y hm (n - 1) (pre ++ x :: L k) (bxW wr y) (fun z hz => HPL.out z (List.mem_cons.2 (.inr (by rw [← e3]; simp [hz])))) (hr.ky (KY.of_below (bel_box _))) (by rw [bxW_size]; have := hkk.1; omega) (abides_below hJ hJk (bel_box _)) (by simp only [List.length_append, List.length_cons]; omega)).mono (R' := fun e W5 =>
            (e = .returned (.bool true) ∧ J (pre ++ x :: L (k + 1)) W5 ∧ KY n₀ W W5) ∨ (e = .returned (.bool false) ∧ ∃ q, q <+: x :: L M ∧ Jx (pre ++ q) W5)) (fun e W5 h => h.elim
              (fun ⟨he, hj5, hk5⟩ => .inl ⟨he, by rw [e1]; simpa [List.append_assoc] using hj5, (hkk.trans (KY.of_below (bel_box _))).trans hk5⟩)
              (fun ⟨he, q, ⟨t, ht⟩, hx5⟩ => .inr ⟨he, x :: L k ++ q, ⟨t ++ r, by rw [← e3, ← ht]; simp [List.append_assoc]⟩, by simpa [List.append_assoc] using hx5⟩))
          have HC := Lib.hid hcall
          clear hcall hXr hr e1 e2 e3 hy hJk hkk IH HL HPL AK
          rw [hA]
          clear hA
          gi_wp2_with (refine ⟨trivial, hdd _, ?_⟩; gi_at_call 63; refine HC.out.mono ?_; clear HC; rintro e W5 (⟨rfl, hJ5, hk5⟩ | ⟨rfl, q, hq, hx5⟩))
          · exact ⟨⟨k + 1, by omega, by congr 1, hJ5, hk5⟩, by simp [intOf]; omega⟩
          · go_ret
            exact .inr ⟨rfl, q, hq, hx5⟩
        · obtain rfl : k = M := by omega
          gi_wp2
          go_ret
          exact .inl ⟨rfl, hJk, hkk⟩
    · go_ret
      exact .inr ⟨rfl, [x], ⟨L M, rfl⟩, hx2⟩
end Go.Proofs.YtfogkcccjemloaaGreatDoor
/- What within hands back, for a consumer that grows rows of names. -/
namespace Go.Proofs.YtfogkcccjemloaaGreatDoor
set_option linter.unusedVariables false
set_option linter.unusedSimpArgs false
open Go.RowKit Go.Shelf
attribute [local go_sem] Oper.semAt_some
set_option maxHeartbeats 1000000 in
set_option maxRecDepth 100000 in
theorem withinY_stopsP (P : Xt → Prop) (n be bp n₀ : Nat) (x : Xt) (w : World) (hP : ∀ y ∈ x.list, P y) (hn₀ : n₀ ≤ w.heap.size) (hbe : be < w.heap.size) (hbp : bp < w.heap.size) (hX : RdX w n₀ x)
    (c0 : w.cell? ⟨be, 0, none⟩ = some (.int .i64 x.k)) (c1 : w.cell? ⟨be, 1, none⟩ = some (.int .i64 x.op)) (c2 : w.cell? ⟨be, 2, none⟩ = some (.int .i64 x.t)) (c3 : w.cell? ⟨be, 3, none⟩ = some (.int .i64 x.v)) (c4 : w.cell? ⟨be, 4, none⟩ = some (.string x.nm)) (c5 : w.cell? ⟨be, 5, none⟩ = some (.slice x.A x.ar.length x.c)) (cp : w.cell? ⟨bp, 0, none⟩ = some (.func (.func 41) #[] #[])) :
    SeqStopsK Fence.wide n Tryz.prog 62 #[.pointer (some ⟨be, 0, none⟩), .pointer (some ⟨bp, 0, none⟩)] (fun y : {y : Xt // P y} => #[xV y.1]) (KY n₀) (fun ys => ys.map (·.1) = x.list) (fun pre => pre.map (·.1) <+: x.list) x.size w := by
  intro l J Jx W hW hJ _ hY h0
  have hdd : ∀ k : Nat, (Fence.wide.depth.isSome = true → 1 ≤ k) := fun k h => by cases h
  have hWs := hW.size
  have d0 := (hW.cell (p := ⟨be, 0, none⟩) hbe).trans c0
  have d1 := (hW.cell (p := ⟨be, 1, none⟩) hbe).trans c1
  have d2 := (hW.cell (p := ⟨be, 2, none⟩) hbe).trans c2
  have d3 := (hW.cell (p := ⟨be, 3, none⟩) hbe).trans c3
  have d4 := (hW.cell (p := ⟨be, 4, none⟩) hbe).trans c4
  have d5 := (hW.cell (p := ⟨be, 5, none⟩) hbe).trans c5
  have dp := (hW.cell (p := ⟨bp, 0, none⟩) hbp).trans cp
  have hp := walkY_in l n₀ W.heap.size x.size (upJ J) (upJ Jx) (fun s A B row ⟨q, hq, hs⟩ hg hr => ⟨q, hq, hJ q A B row hs hg hr⟩) P
    (fun m pre y W1 hPy ⟨q, hq, hj⟩ hl => yield_any rfl m (YieldAt.mono (hY q ⟨y, hPy⟩ W1 hj (by rw [← hq, List.length_map] at hl; exact hl)) fun e W' h => h.elim
      (fun ⟨he, hj2, hk⟩ => .inl ⟨he, ⟨q ++ [⟨y, hPy⟩], by rw [List.map_append, hq]; rfl, hj2⟩, hk⟩) (fun ⟨he, hx⟩ => .inr ⟨he, q ++ [⟨y, hPy⟩], by rw [List.map_append, hq]; rfl, hx⟩))) x (n - 1) [] W hP (hX.blw (hW.mono hn₀) (Nat.le_refl _)) (Nat.le_refl _) ⟨[], rfl, h0⟩ (by simp)
  simp only [List.nil_append, xV] at hp
  clear hY c0 c1 c2 c3 c4 c5 cp
  simp only [List.append_toArray, List.cons_append, List.nil_append, Array.append_eq_append] at *
  refine callsIn_of_wp Tryz.func62 rfl trivial ?_ rfl
  simp only [Tryz.ntmps62, List.size_toArray, List.length_cons, List.length_nil, Nat.reduceAdd, Nat.reduceSub, Array.replicate_succ, Array.replicate_zero, List.push_toArray, List.append_toArray, List.nil_append, List.cons_append]
  gi_wp2_with (refine ⟨trivial, hdd _, ?_⟩; gi_at_call 63; refine hp.mono ?_; clear hp; rintro e W1 (⟨rfl, ⟨ys, hys, hJ1⟩, _⟩ | ⟨rfl, q, hq, ys, hys, hx⟩))
  · go_end0
    exact ⟨⟨_, rfl⟩, .inl ⟨ys, hys, hJ1⟩⟩
  · go_end0
    exact ⟨⟨_, rfl⟩, .inr ⟨ys, by rw [hys]; exact hq, hx⟩⟩
theorem withinY_atP (P : Xt → Prop) (n n₀ : Nat) (x : Xt) (w : World) (hP : ∀ y ∈ x.list, P y) (hn₀ : n₀ ≤ w.heap.size) (hX : RdX w n₀ x) :
    SeqStopsK Fence.wide n Tryz.prog 62 #[.pointer (some ⟨w.heap.size, 0, none⟩), .pointer (some ⟨w.heap.size + 1, 0, none⟩)] (fun y : {y : Xt // P y} => #[xV y.1]) (KY n₀) (fun ys => ys.map (·.1) = x.list) (fun pre => pre.map (·.1) <+: x.list) x.size (inW w x 41) := by
  obtain ⟨b0, b1, b2, b3, b4, b5, _⟩ := bxW_cells (w := w) (x := x) (W := inW w x 41) (bel_box _)
  exact withinY_stopsP P n w.heap.size (w.heap.size + 1) n₀ x _ hP (by rw [inW_size]; omega) (by rw [inW_size]; omega) (by rw [inW_size]; omega) (hX.blw ((inW_below w x _).mono hn₀) (Nat.le_refl _)) b0 b1 b2 b3 b4 b5 (by simp [go_sem])
set_option maxHeartbeats 1000000 in
set_option maxRecDepth 100000 in
theorem withinYI_stopsP (P : Xt → Prop) (n be bp n₀ : Nat) (x : Xt) (w : World) (hP : ∀ y ∈ x.lst true, P y) (hn₀ : n₀ ≤ w.heap.size) (hbe : be < w.heap.size) (hbp : bp < w.heap.size) (hX : RdX w n₀ x)
    (c0 : w.cell? ⟨be, 0, none⟩ = some (.int .i64 x.k)) (c1 : w.cell? ⟨be, 1, none⟩ = some (.int .i64 x.op)) (c2 : w.cell? ⟨be, 2, none⟩ = some (.int .i64 x.t)) (c3 : w.cell? ⟨be, 3, none⟩ = some (.int .i64 x.v)) (c4 : w.cell? ⟨be, 4, none⟩ = some (.string x.nm)) (c5 : w.cell? ⟨be, 5, none⟩ = some (.slice x.A x.ar.length x.c)) (cp : w.cell? ⟨bp, 0, none⟩ = some (.func (.func 46) #[] #[])) :
    SeqStopsK Fence.wide n Tryz.prog 62 #[.pointer (some ⟨be, 0, none⟩), .pointer (some ⟨bp, 0, none⟩)] (fun y : {y : Xt // P y} => #[xV y.1]) (KY n₀) (fun ys => ys.map (·.1) = x.lst true) (fun pre => pre.map (·.1) <+: x.lst true) (x.lst true).length w := by
  intro l J Jx W hW hJ _ hY h0
  have hdd : ∀ k : Nat, (Fence.wide.depth.isSome = true → 1 ≤ k) := fun k h => by cases h
  have hWs := hW.size
  have d0 := (hW.cell (p := ⟨be, 0, none⟩) hbe).trans c0
  have d1 := (hW.cell (p := ⟨be, 1, none⟩) hbe).trans c1
  have d2 := (hW.cell (p := ⟨be, 2, none⟩) hbe).trans c2
  have d3 := (hW.cell (p := ⟨be, 3, none⟩) hbe).trans c3
  have d4 := (hW.cell (p := ⟨be, 4, none⟩) hbe).trans c4
  have d5 := (hW.cell (p := ⟨be, 5, none⟩) hbe).trans c5
  have dp := (hW.cell (p := ⟨bp, 0, none⟩) hbp).trans cp
  have hp := walkYI_in l n₀ W.heap.size (x.lst true).length (upJ J) (upJ Jx) (fun s A B row ⟨q, hq, hs⟩ hg hr => ⟨q, hq, hJ q A B row hs hg hr⟩) P
    (fun m pre y W1 hPy ⟨q, hq, hj⟩ hl => yield_any rfl m (YieldAt.mono (hY q ⟨y, hPy⟩ W1 hj (by rw [← hq, List.length_map] at hl; exact hl)) fun e W' h => h.elim
      (fun ⟨he, hj2, hk⟩ => .inl ⟨he, ⟨q ++ [⟨y, hPy⟩], by rw [List.map_append, hq]; rfl, hj2⟩, hk⟩) (fun ⟨he, hx⟩ => .inr ⟨he, q ++ [⟨y, hPy⟩], by rw [List.map_append, hq]; rfl, hx⟩))) x (n - 1) [] W hP (hX.blw (hW.mono hn₀) (Nat.le_refl _)) (Nat.le_refl _) ⟨[], rfl, h0⟩ (by simp)
  simp only [List.nil_append, xV] at hp
  clear hY c0 c1 c2 c3 c4 c5 cp
  simp only [List.append_toArray, List.cons_append, List.nil_append, Array.append_eq_append] at *
  refine callsIn_of_wp Tryz.func62 rfl trivial ?_ rfl
  simp only [Tryz.ntmps62, List.size_toArray, List.length_cons, List.length_nil, Nat.reduceAdd, Nat.reduceSub, Array.replicate_succ, Array.replicate_zero, List.push_toArray, List.append_toArray, List.nil_append, List.cons_append]
  gi_wp2_with (refine ⟨trivial, hdd _, ?_⟩; gi_at_call 63; refine hp.mono ?_; clear hp; rintro e W1 (⟨rfl, ⟨ys, hys, hJ1⟩, _⟩ | ⟨rfl, q, hq, ys, hys, hx⟩))
  · go_end0
    exact ⟨⟨_, rfl⟩, .inl ⟨ys, hys, hJ1⟩⟩
  · go_end0
    exact ⟨⟨_, rfl⟩, .inr ⟨ys, by rw [hys]; exact hq, hx⟩⟩
theorem withinYI_atP (P : Xt → Prop) (n n₀ : Nat) (x : Xt) (w : World) (hP : ∀ y ∈ x.lst true, P y) (hn₀ : n₀ ≤ w.heap.size) (hX : RdX w n₀ x) :
    SeqStopsK Fence.wide n Tryz.prog 62 #[.pointer (some ⟨w.heap.size, 0, none⟩), .pointer (some ⟨w.heap.size + 1, 0, none⟩)] (fun y : {y : Xt // P y} => #[xV y.1]) (KY n₀) (fun ys => ys.map (·.1) = x.lst true) (fun pre => pre.map (·.1) <+: x.lst true) (x.lst true).length (inW w x 46) := by
  obtain ⟨b0, b1, b2, b3, b4, b5, _⟩ := bxW_cells (w := w) (x := x) (W := inW w x 46) (bel_box _)
  exact withinYI_stopsP P n w.heap.size (w.heap.size + 1) n₀ x _ hP (by rw [inW_size]; omega) (by rw [inW_size]; omega) (by rw [inW_size]; omega) (hX.blw ((inW_below w x _).mono hn₀) (Nat.le_refl _)) b0 b1 b2 b3 b4 b5 (by simp [go_sem])
end Go.Proofs.YtfogkcccjemloaaGreatDoor
/- A look-up by value in a map of bools; the set of names that came. -/
namespace Go.Proofs.YtfogkcccjemloaaGreatDoor
set_option linter.unusedVariables false
set_option linter.unusedSimpArgs false
open Go.RowKit Go.Shelf Go.Maps
theorem plainElem_bool_inv {H : Type} {P : Program} {e : TypeId} (he : P.underlying e = some .bool) {v : Value} {z : DataW H × List MemPlace} (h : plainElem P e v = some z) : ∃ a, v = .bool a ∧ z = (.lit (.bool a), []) := by
  unfold plainElem at h
  rw [he] at h
  cases v <;> simp at h
  exact ⟨_, rfl, h.symm⟩
theorem lookup_bool {H : Type} {P : Program} {w : World} {k t e : TypeId} {b n : Nat} {D : DataW H} (h : w.ownsMap P k (plainElem P e) b n D) (K : Keyed P k) (ht : P.underlying t = some (.map k e)) (he : P.underlying e = some .bool) (hz : (zeroValue e).run P w = .ok (.bool false) w)
    {key : Value} {kl : Lit} (hkey : keyOf P k key = some kl) : ∃ c, (Instr.lookup t (.map (some b)) key false).run P w = .ok (.bool c) w ∧ D.atKey kl (.lit (.bool false)) = .lit (.bool c) := by
  obtain ⟨v, ps, hrun, hv⟩ := h.lookup K ht hz (plainElem_bool he false) hkey
  obtain ⟨c, rfl, hc⟩ := plainElem_bool_inv he hv
  simp only [Prod.mk.injEq] at hc
  exact ⟨c, hrun, hc.1⟩
theorem isMap_put' {H : Type} {D : DataW H} (h : IsMap D) (k : Lit) (d : DataW H) : IsMap (D.put k d) := by
  obtain ⟨es, rfl⟩ := h
  exact ⟨_, rfl⟩
theorem seen_put {H : Type} {D : DataW H} (hD : IsMap D) (s t : ByteArray) (b : Bool) (h : D.atKey (.string t.data.toList) (.lit (.bool false)) = .lit (.bool b)) :
    (D.put (.string s.data.toList) (.lit (.bool true))).atKey (.string t.data.toList) (.lit (.bool false)) = .lit (.bool (b || (s.toList == t.toList))) := by
  rw [ByteArray.toList_eq, ByteArray.toList_eq]
  by_cases e : s.data.toList = t.data.toList
  · rw [e, atKey_put_same hD (by simp [WideAt.IsKeyLit])]
    simp
  · rw [atKey_put_other (fun h => e (by injection h with h; exact h.symm)), h]
    have : (s.data.toList == t.data.toList) = false := by simpa using e
    rw [this, Bool.or_false]
theorem has_snoc (l : List ByteArray) (s t : ByteArray) : hasN (l ++ [s]) t = (hasN l t || (s.toList == t.toList)) := by
  unfold hasN
  rw [List.any_append]
  simp
end Go.Proofs.YtfogkcccjemloaaGreatDoor
/- variables of the program. -/
namespace Go.Proofs.YtfogkcccjemloaaGreatDoor
set_option linter.unusedVariables false
set_option linter.unusedSimpArgs false
open Go.RowKit Go.Shelf Go.Maps
attribute [local go_sem] Oper.semAt_some
/-- the names that have come -/
def fN (pre : List Xt) : List ByteArray := pre.foldl stepN []
def VI (b : Nat) (pre : List Xt) (W : World) : Prop := Boxed W (b + 2) 71 (.map (some (b + 1))) ∧ ∃ n D, n ≤ pre.length ∧ IsMap D ∧ (∀ t : ByteArray, D.atKey (.string t.data.toList) (.lit (.bool false)) = .lit (.bool (hasN (fN pre) t))) ∧ W.ownsMap Tryz.prog 9 (plainElem (H := Unit) Tryz.prog 4) (b + 1) n D
theorem VI_own {b B : Nat} (hB : b + 3 ≤ B) {α : Type} (g : α → Xt) : OwnFrom B (fun (pre : List α) W => VI b (pre.map g) W) := by
  rintro s X Y row ⟨h1, n, D, h2, h3, h4, h5⟩ hg hr
  exact ⟨h1.kept hg (fun e => by have := (hr _ e.symm).1; omega), n, D, h2, h3, h4, h5.kept hg (fun e => by have := (hr _ e.symm).1; omega)⟩
theorem fN_snoc (pre : List Xt) (y : Xt) : fN (pre ++ [y]) = stepN (fN pre) y := by rw [fN, List.foldl_append]; rfl
theorem VI.below {b : Nat} {pre : List Xt} {W W' : World} (h : VI b pre W) (hb : Below W.heap.size W W') : VI b pre W' := by
  obtain ⟨h1, n, D, h2, h3, h4, h5⟩ := h
  exact ⟨h1.kept (below_grown hb) (by simp), n, D, h2, h3, h4, h5.kept (below_grown hb) (by simp)⟩
theorem VI.same {b : Nat} {pre : List Xt} {y : Xt} {W : World} (h : VI b pre W) (e : stepN (fN pre) y = fN pre) : VI b (pre ++ [y]) W := by
  obtain ⟨h1, n, D, h2, h3, h4, h5⟩ := h
  exact ⟨h1, n, D, by rw [List.length_append]; omega, h3, fun t => by rw [fN_snoc, e]; exact h4 t, h5⟩
theorem own_not_map {W : World} {b n size m ck : Nat} {e : TypeId} {v : Value} {xs : List Value} {es : Array MapEntry} (h : W.ownsRow b e size v n xs) (hh : W.heap[m]? = some (.map es ck)) : v.ownBlock ≠ some m := by
  rcases h.2 with ⟨rfl, _⟩ | ⟨g, cap, cur, rfl, _, hgb, _⟩
  · simp [Value.ownBlock]
  · intro e
    obtain rfl : g = m := by simpa [Value.ownBlock] using e
    rw [hh] at hgb
    cases hgb
theorem fN_length (pre : List Xt) : (fN pre).length ≤ pre.length := by
  have : ∀ (l : List Xt) (a : List ByteArray), (l.foldl stepN a).length ≤ a.length + l.length := by
    intro l
    induction l with
    | nil => intro a; simp
    | cons z l ih => intro a; have h1 := ih (stepN a z); have h2 := step_length a z; simp only [List.foldl_cons, List.length_cons]; omega
  have h := this pre []
  rw [List.length_nil, Nat.zero_add] at h
  exact h
theorem KY.appended {n₀ b k B : Nat} {W w1 : World} {v v' : Value} {xs : List Value} {tmp : Obj} (hv : Boxed W B 32 v) (hrow : W.ownsRow b 9 1 v k xs) (hb : n₀ ≤ b) (hB : n₀ ≤ B) (hg : (W.alloc tmp).grownBy w1 v.ownBlock) : KY n₀ W (w1.setCell ⟨B, 0, none⟩ v') := by
  have hz := hg.size
  rw [World.size_alloc] at hz
  refine ⟨by simp [World.setCell]; omega, fun j o ho hc hd => ?_⟩
  have hlt : j < W.heap.size := (Array.getElem?_eq_some_iff.1 ho).1
  have hjB : j ≠ B := by
    rintro rfl
    rcases hd with hd | ⟨cs, fz, rfl⟩
    · omega
    · have := ho.symm.trans hv
      simp at this
  have hjv : some j ≠ v.ownBlock := by
    rcases hrow.2 with ⟨rfl, _⟩ | ⟨g, cap, cur, rfl, hbg, hgb, _⟩
    · simp [Value.ownBlock]
    · intro e
      obtain rfl : j = g := by simpa [Value.ownBlock] using e
      rcases hd with hd | ⟨cs, fz, rfl⟩
      · omega
      · have := ho.symm.trans hgb
        simp at this
  rw [heap_setCell_other w1 _ j v' hjB]
  exact (hg.block j (by rw [World.size_alloc]; omega) hjv).trans ((Below.heap_alloc _ _ _ hlt).trans ho)
theorem KY.map {n₀ m : Nat} {W w1 : World} (hg : W.grownBy w1 (some m)) (hm : ∀ o, W.heap[m]? = some o → o.isCells = false) : KY n₀ W w1 := by
  refine ⟨hg.size, fun j o ho hc _ => ?_⟩
  exact (hg.block j (Array.getElem?_eq_some_iff.1 ho).1 (fun e => by obtain rfl := Option.some.inj e; rw [hm o ho] at hc; cases hc)).trans ho
set_option maxHeartbeats 2000000 in
set_option maxRecDepth 100000 in
theorem variables_any (xl : List Xt) (N n₀ be bp : Nat) (w : World) (hn₀ : n₀ ≤ w.heap.size) (hN : N ≤ 100000) (hnm : ∀ y ∈ xl, y.nm.size ≤ maxLen)
    (hst : SeqStopsK Fence.wide 2 Tryz.prog 62 #[.pointer (some ⟨be, 0, none⟩), .pointer (some ⟨bp, 0, none⟩)] (fun y : {y : Xt // y ∈ xl} => #[xV y.1]) (KY n₀) (fun ys => ys.map (·.1) = xl) (fun pre => pre.map (·.1) <+: xl) N w) :
    Calls Tryz.prog 45 #[.func (.func 62) #[] #[.pointer (some ⟨be, 0, none⟩), .pointer (some ⟨bp, 0, none⟩)]] w (NewN (xl.foldl stepN []) w) := by
  have hmm := @run_makeMap Tryz.prog
  obtain ⟨i0, hi, iz, is, ib⟩ := info_parts stInfo
  refine (callsIn_wide (n := 3)).1 ?_
  refine callsIn_of_wp_marks Tryz.func45 rfl trivial ?_ rfl
  simp only [Tryz.ntmps45, List.size_toArray, List.length_cons, List.length_nil, Nat.reduceAdd, Nat.reduceSub, Array.replicate_succ, Array.replicate_zero, List.push_toArray, List.append_toArray, List.nil_append, List.cons_append]
  gi_wp2
  obtain ⟨Wb, hWb⟩ : ∃ Wb, ((w.alloc (.cells #[.slice none 0 0] 32)).alloc (.map #[] 0)).alloc (.cells #[.map (some (w.heap.size + 1))] 71) = Wb := ⟨_, rfl⟩
  have hzb : Wb.heap.size = w.heap.size + 3 := by rw [← hWb]; simp only [World.size_alloc]
  have hBb : Below w.heap.size w Wb := by rw [← hWb]; exact (((Below.refl _ w).alloc (Nat.le_refl _) _).alloc (by simp) _).alloc (by simp; omega) _
  have hb0 : Boxed Wb w.heap.size 32 (.slice none 0 0) := by rw [← hWb]; exact ((Boxed.new w _ _).alloc _).alloc _
  have hv0 : VI w.heap.size [] Wb := by
    rw [← hWb]
    refine ⟨?_, 0, .map [], Nat.le_refl _, ⟨[], rfl⟩, fun t => rfl, ?_⟩
    · have := Boxed.new ((w.alloc (.cells #[.slice none 0 0] 32)).alloc (.map #[] 0)) 71 (.map (some (w.heap.size + 1)))
      simpa only [World.size_alloc] using this
    · have := World.ownsMap_made (w.alloc (.cells #[.slice none 0 0] 32)) Tryz.prog 9 (plainElem (H := Unit) Tryz.prog 4)
      rw [World.size_alloc] at this
      exact this.alloc _
  rw [hWb]
  clear hWb
  have HNM := Lib.hid hnm
  clear hnm
  refine wpIn_rangeFunc_ownH rfl (by decide) (gf := 62) (lb := #[.pointer (some ⟨be, 0, none⟩), .pointer (some ⟨bp, 0, none⟩)]) rfl trivial (enters_of Tryz.func62 (by kernel_rfl) rfl)
    hst KY_t KY_b (hBb) (fun _ => rfl)
    (fun pre W => (VI w.heap.size (pre.map (·.1)) W ∧ ∃ v, Boxed W w.heap.size 32 v ∧ W.ownsRow w.heap.size 9 1 v (fN (pre.map (·.1))).length (nmC (fN (pre.map (·.1)))) ∧ True) ∧ Below w.heap.size w W)
    (fun _ _ _ => False)
    (OwnFrom.and (OwnFrom.and (VI_own (by omega) _) (Own.from (holdsRow_own w.heap.size w.heap.size 32 9 1 (fun pre : List {y : Xt // y ∈ xl} => (fN (pre.map (·.1))).length) (fun pre => nmC (fN (pre.map (·.1)))) (fun _ _ => True)) _)) (ownFrom_below (Nat.le_refl _) (by omega)))
    (fun _ _ _ _ _ hs _ _ => hs)
    ⟨⟨hv0, _, hb0, World.ownsRow_nil _ _ _ _, trivial⟩, hBb⟩
    (fun y a' W => ∃ Bx, (w.heap.size + 3 ≤ Bx ∧ W.cell? ⟨Bx, 0, none⟩ = some (.int .i64 y.1.k) ∧ W.cell? ⟨Bx, 4, none⟩ = some (.string y.1.nm)) ∧ a' = { tmps := #[.func (.func 62) #[] #[.pointer (some ⟨be, 0, none⟩), .pointer (some ⟨bp, 0, none⟩)], undef, .slice none 0 0, .pointer (some ⟨w.heap.size, 0, none⟩), .pointer (some ⟨w.heap.size + 1 + 1, 0, none⟩), .pointer (some ⟨Bx, 0, none⟩), .map (some (w.heap.size + 1)), .func (.func 62) #[] #[.pointer (some ⟨be, 0, none⟩), .pointer (some ⟨bp, 0, none⟩)], xV y.1, undef, undef, undef, undef, undef, undef, undef, undef, undef, undef, undef, undef, undef, undef, undef, undef, undef, undef, undef], defers := [] })
    (fun y a' s A B row hs hg hr => by
      obtain ⟨Bx, ⟨h1, h2, h3⟩, h4⟩ := hs
      exact ⟨Bx, ⟨h1, cell_kept h2 hg (fun r e => (hr r e).2), cell_kept h3 hg (fun r e => (hr r e).2)⟩, h4⟩) ?assign ?body ?done ?stop
  case assign =>
    rintro l pre y W K ⟨⟨i1, v, i2, i3, _⟩, hB⟩ hK
    rw [fold1]
    simp only [xV] at hK ⊢
    gi_wp2
    obtain ⟨d0, d1, d2, d3, d4, d5⟩ := bx_box W y.1
    have hlt := i1.1.lt
    obtain ⟨k1, n, D, k2, k3, k4, k5⟩ := i1
    exact hK _ _ ((KeepsOthers.alloc _ _).from _) (KY.of_below (bel_box _)) ⟨⟨⟨k1.alloc _, n, D, k2, k3, k4, k5.alloc _⟩, v, i2.alloc _, i3.alloc _, trivial⟩, bel_alloc hB _⟩ ⟨W.heap.size, ⟨by omega, d0, d4⟩, rfl⟩
  case body =>
    rintro l pre y a' W hl ⟨r, hr⟩ ⟨⟨i1, v, i2, i3, _⟩, hB⟩ ⟨Bx, ⟨hBx, d0, d4⟩, rfl⟩ hlt
    have hbk := World.block_lt_of_cell? W _ d0
    have KV := Lib.hid (hasvar_any y.1.k W)
    have hst : stepN (fN (pre.map (·.1))) y.1 = if (hasVar y.1.k && !hasN (fN (pre.map (·.1))) y.1.nm) = true then fN (pre.map (·.1)) ++ [y.1.nm] else fN (pre.map (·.1)) := rfl
    have hmp : (pre ++ [y]).map (·.1) = pre.map (·.1) ++ [y.1] := by rw [List.map_append]; rfl
    cases q1 : hasVar y.1.k
    · rw [q1] at KV hst
      have hs : stepN (fN (pre.map (·.1))) y.1 = fN (pre.map (·.1)) := hst
      gi_wp2_with (refine ⟨trivial, ?_⟩; gi_at_call 51; refine (CallsIn.inRound l (callsIn_wide.2 KV.out)).mono ?_; rintro e W5 ⟨rfl, hb5⟩)
      refine ⟨(KeepsOthers.of_grownBy (below_grown hb5) (fun j o e => by cases e)).from _, KY.of_below hb5, ⟨?_, v, i2.kept (below_grown hb5) (by simp), ?_, trivial⟩, hB.trans (hb5.mono hB.size)⟩
      · rw [hmp]; exact (i1.below hb5).same hs
      · rw [hmp, fN_snoc, hs]; exact own_keep6 i3 hb5
    · rw [q1] at KV hst
      obtain ⟨k1, n, D, k2, k3, k4, k5⟩ := i1
      have hsz := HNM.out y.1 y.2
      have hk := WideMaps.keyOf_string_mk (P := Tryz.prog) (k := 9) Tryz.underlying9 hsz
      have k4y := k4 y.1.nm
      cases q2 : hasN (fN (pre.map (·.1))) y.1.nm
      · rw [q2] at hst k4y
        have hs : stepN (fN (pre.map (·.1))) y.1 = fN (pre.map (·.1)) ++ [y.1.nm] := hst
        have hn : n < maxLen := by unfold maxLen; simp at k2; omega
        have hfl := fN_length (pre.map (·.1))
        rw [List.length_map] at hfl
        have hBs := hB.size
        gi_wp2_with (first
          | (refine ⟨trivial, ?_⟩; gi_at_call 51; refine (CallsIn.inRound l (callsIn_wide.2 KV.out)).mono ?_; rintro e W5 ⟨rfl, hb5⟩; have k1' := k1.kept (below_grown hb5) (by simp); have k5' := k5.kept (below_grown hb5) (by simp); obtain ⟨c, hrun, hat⟩ := lookup_bool k5' (string_keyed Tryz.underlying9) Tryz.underlying71 Tryz.underlying4 (Tryz.zeroValue4 _) hk; obtain rfl : c = false := (by have := hat.symm.trans k4y; simpa using this); have cs : W5.cell? ⟨w.heap.size + 1 + 1, 0, none⟩ = some (.map (some (w.heap.size + 1))) := k1'.cell; have d4' := (hb5.cell (p := ⟨Bx, 4, none⟩) hbk).trans d4; have hz5 := hb5.size)
          | (gi_at_mapUpdate; refine wpListIn_mapUpdate_own _ rfl _ _ _ 71 rfl 9 4 (string_keyed Tryz.underlying9) Tryz.underlying71 _ (w.heap.size + 1) n _ rfl k5' hn _ _ _ rfl rfl hk _ [] (plainElem_bool Tryz.underlying4 true) ?_; intro w6 k6 hgrow6; have hcm := k5'; obtain ⟨es, ck, hh, _⟩ := hcm; have d5' := cell_kept d4' hgrow6 (fun r e => by cases e; exact ⟨_, hh, rfl⟩); have hv6 := (i2.kept (below_grown hb5) (by simp)).kept hgrow6 (by simp); have hr6 := (own_keep6 i3 hb5).kept hgrow6 (.inr (own_not_map (own_keep6 i3 hb5) hh)); have c6 := hv6.cell; have hz6 := hgrow6.size)
          | (gi_at_builtin; refine wpListIn_append_own _ rfl _ _ 32 rfl w.heap.size 9 i0 (.string ⟨#[]⟩) 1 16 Tryz.underlying32 hi iz is ib rfl (by decide) _ _ _ rfl (hr6.alloc _) ⟨w6.heap.size, 0, none⟩ 1 1 [.string y.1.nm] rfl rfl (cell_one_new _ _ _) (by simp [Value.oneCell']) (by unfold maxLen; omega) (by omega) (by simp; omega) ?_; intro v' w7 hown7 hgrow7 _; obtain ⟨g', cap', rfl⟩ := ownsRow_succ hown7; obtain ⟨hv1, hv2, hr2, hk2, hb2⟩ := hv6.appended (by decide) hr6 (by omega) (Nat.le_refl _) hown7 hgrow7; have hy2 := KY.appended (n₀ := n₀) (v' := .slice (some ⟨g', 0, none⟩) ((fN (pre.map (·.1))).length + 1) cap') hv6 hr6 hn₀ hn₀ hgrow7; have hc1 := hv1.cell; have hf1 := hv1.frozen))
        have hg7 : (w6.alloc (.cells #[.string y.1.nm] 9)).grownBy w7 v.ownBlock := hgrow7
        have k16 := k1'.kept hgrow6 (by simp)
        have k66 := k6
        obtain ⟨es6, ck6, hh6, _⟩ := k66
        refine ⟨(((KeepsOthers.of_grownBy (below_grown hb5) (fun j o e => by cases e)).from _).trans (KeepsFrom.of_grownBy hgrow6 (fun j e => by cases e; omega))).trans (hk2.from _), ((KY.of_below hb5).trans (KY.map hgrow6 (fun o ho => by rw [hh] at ho; cases ho; rfl))).trans hy2, ⟨?_, _, hv2, ?_, trivial⟩, ((hB.trans (hb5.mono hB.size)).grown hgrow6 (by omega) (fun k e => by cases e; omega)).trans hb2⟩
        · rw [hmp]
          refine ⟨((k16.alloc _).kept hg7 (k16.not_row (by decide) hr6)).kept (grownBy_setCell' w7 _ _) (by simp), n + 1, _, by rw [List.length_append, List.length_singleton]; omega, k3.put _ _, fun t => ?_, ((k6.alloc _).kept hg7 (own_not_map hr6 hh6).symm).kept (grownBy_setCell' w7 _ _) (by simp)⟩
          rw [fN_snoc, hs, has_snoc]
          exact seen_put k3 _ t _ (k4 t)
        · rw [hmp, fN_snoc, hs, nmC_snoc, List.length_append]
          exact hr2
      · rw [q2] at hst k4y
        have hs : stepN (fN (pre.map (·.1))) y.1 = fN (pre.map (·.1)) := hst
        gi_wp2_with (refine ⟨trivial, ?_⟩; gi_at_call 51; refine (CallsIn.inRound l (callsIn_wide.2 KV.out)).mono ?_; rintro e W5 ⟨rfl, hb5⟩; have k1' := k1.kept (below_grown hb5) (by simp); have k5' := k5.kept (below_grown hb5) (by simp); obtain ⟨c, hrun, hat⟩ := lookup_bool k5' (string_keyed Tryz.underlying9) Tryz.underlying71 Tryz.underlying4 (Tryz.zeroValue4 _) hk; obtain rfl : c = true := (by have := hat.symm.trans k4y; simpa using this); have cs : W5.cell? ⟨w.heap.size + 1 + 1, 0, none⟩ = some (.map (some (w.heap.size + 1))) := k1'.cell; have d4' := (hb5.cell (p := ⟨Bx, 4, none⟩) hbk).trans d4)
        refine ⟨(KeepsOthers.of_grownBy (below_grown hb5) (fun j o e => by cases e)).from _, KY.of_below hb5, ⟨?_, v, i2.kept (below_grown hb5) (by simp), ?_, trivial⟩, hB.trans (hb5.mono hB.size)⟩
        · rw [hmp]; exact VI.same ⟨k1', n, D, k2, k3, k4, k5'⟩ hs
        · rw [hmp, fN_snoc, hs]; exact own_keep6 i3 hb5
  case done =>
    rintro D ys W hD hys ⟨⟨i1, v, i2, i3, _⟩, hB⟩ hK
    have hf : fN (ys.map (·.1)) = xl.foldl stepN [] := congrArg fN hys
    rw [hf] at i3
    obtain ⟨V, c, rfl⟩ := own_form6 i3
    have c0 := i2.cell
    gi_wp2
    refine ⟨by simp, .inl ⟨_, _, rfl, run_takeDeferred hK, ?_⟩⟩
    refine ⟨_, results_tmp rfl _ _ _, V, c, rfl, RdN.of_own (ownsRow_putObj i3 _ hK rfl), hB.trans (belowK_b (w := w) (Nat.le_refl _) W D _ _ (by omega) hK rfl rfl)⟩
  case stop =>
    rintro D c pre W _ _ h _
    exact h.elim
end Go.Proofs.YtfogkcccjemloaaGreatDoor
/- Names and Instant of the program. -/
namespace Go.Proofs.YtfogkcccjemloaaGreatDoor
set_option linter.unusedVariables false
set_option linter.unusedSimpArgs false
open Go.RowKit Go.Shelf Go.Maps
theorem RdX.nms {w : World} {B : Nat} {x : Xt} (h : RdX w B x) (b : Bool) : ∀ y ∈ x.lst b, y.nm.size ≤ maxLen := by
  induction x using Xt.ind with
  | h x ih =>
    intro y hy
    rw [Xt.lst_eq] at hy
    rcases List.mem_cons.1 hy with rfl | hy
    · exact h.len.2
    · obtain ⟨l, hl, hyl⟩ := List.mem_flatten.1 hy
      obtain ⟨z, hz, rfl⟩ := List.mem_map.1 hl
      exact ih z (kids_mem hz) (h.kid (kids_mem hz)) y hyl
theorem variables_names (x : Xt) (w : World) (hX : RdX w w.heap.size x) (hs : x.size ≤ 100000) : Calls Tryz.prog 45 #[.func (.func 62) #[] #[.pointer (some ⟨w.heap.size, 0, none⟩), .pointer (some ⟨w.heap.size + 1, 0, none⟩)]] (inW w x 41) (NewN (nmS false x []) (inW w x 41)) := by
  have h := variables_any x.list x.size w.heap.size w.heap.size (w.heap.size + 1) (inW w x 41) (by rw [inW_size]; omega) hs (fun y hy => hX.nms false y (by rw [lst_false]; exact hy)) (withinY_atP (fun y => y ∈ x.list) 2 w.heap.size x w (fun y h => h) (Nat.le_refl _) hX)
  rwa [← lst_false] at h
theorem variables_instant (x : Xt) (w : World) (hX : RdX w w.heap.size x) (hs : x.size ≤ 100000) : Calls Tryz.prog 45 #[.func (.func 62) #[] #[.pointer (some ⟨w.heap.size, 0, none⟩), .pointer (some ⟨w.heap.size + 1, 0, none⟩)]] (inW w x 46) (NewN (nmS true x []) (inW w x 46)) :=
  variables_any (x.lst true) (x.lst true).length w.heap.size w.heap.size (w.heap.size + 1) (inW w x 46) (by rw [inW_size]; omega) (Nat.le_trans (lst_len x) hs) (hX.nms true) (withinYI_atP (fun y => y ∈ x.lst true) 2 w.heap.size x w (fun y h => h) (Nat.le_refl _) hX)
end Go.Proofs.YtfogkcccjemloaaGreatDoor
/- Names and Instant of the program. -/
namespace Go.Proofs.YtfogkcccjemloaaGreatDoor
set_option linter.unusedVariables false
set_option linter.unusedSimpArgs false
open Go.RowKit Go.Shelf Go.Maps
set_option maxHeartbeats 1000000 in
set_option maxRecDepth 20000 in
theorem names_any (x : Xt) (w : World) (hX : RdX w w.heap.size x) (hs : x.size ≤ 100000) : Calls Tryz.prog 22 #[xV x] w (NewN (nmS false x []) w) := by
  have KW := Lib.hid (fun W => within_any x 41 W)
  obtain ⟨W1, hW1⟩ : ∃ W1, bxW w x = W1 := ⟨_, rfl⟩
  have hb1 : Below w.heap.size w W1 := by rw [← hW1]; exact bel_box _
  obtain ⟨W0, hW0⟩ : ∃ W0, inW W1 x 41 = W0 := ⟨_, rfl⟩
  have hz : W1.heap.size = w.heap.size + 1 := by rw [← hW1, bxW_size]
  have hb0 : Below w.heap.size w W0 := by rw [← hW0]; exact hb1.trans ((inW_below W1 x _).mono (by rw [hz]; omega))
  have KV := variables_names x W1 (hX.to hb1) hs
  rw [hW0, hz] at KV
  have KV2 := Lib.hid KV
  have HW1 := Lib.hid hW1
  have HW0 := Lib.hid hW0
  clear KV hW1 hW0 hz
  simp only [xV] at KW ⊢
  go_enter Tryz.func22, Tryz.ntmps22
  go_wp2_with (go_at_call 40; (with_reducible refine (KW.out _).mono ?_); rintro e w1 ⟨rfl, rfl⟩)
  rw [show ((bxW (w.alloc (.cells #[.int .i64 x.k, .int .i64 x.op, .int .i64 x.t, .int .i64 x.v, .string x.nm, .slice x.A x.ar.length x.c] 24)) x).alloc (.cells #[.func (.func 41) #[] #[]] 42)) = W0 by rw [← HW0.out, ← HW1.out]]
  clear HW0 HW1 KW
  go_wp2_with (go_at_call 45; (with_reducible refine KV2.out.mono ?_); rintro e w2 ⟨A, c, rfl, hR, hb2⟩)
  go_ret
  exact ⟨A, c, rfl, hR, hb0.trans (hb2.mono hb0.size)⟩
set_option maxHeartbeats 1000000 in
set_option maxRecDepth 20000 in
theorem instants_any (x : Xt) (w : World) (hX : RdX w w.heap.size x) (hs : x.size ≤ 100000) : Calls Tryz.prog 23 #[xV x] w (NewN (nmS true x []) w) := by
  have KW := Lib.hid (fun W => within_any x 46 W)
  obtain ⟨W1, hW1⟩ : ∃ W1, bxW w x = W1 := ⟨_, rfl⟩
  have hb1 : Below w.heap.size w W1 := by rw [← hW1]; exact bel_box _
  obtain ⟨W0, hW0⟩ : ∃ W0, inW W1 x 46 = W0 := ⟨_, rfl⟩
  have hz : W1.heap.size = w.heap.size + 1 := by rw [← hW1, bxW_size]
  have hb0 : Below w.heap.size w W0 := by rw [← hW0]; exact hb1.trans ((inW_below W1 x _).mono (by rw [hz]; omega))
  have KV := variables_instant x W1 (hX.to hb1) hs
  rw [hW0, hz] at KV
  have KV2 := Lib.hid KV
  have HW1 := Lib.hid hW1
  have HW0 := Lib.hid hW0
  clear KV hW1 hW0 hz
  simp only [xV] at KW ⊢
  go_enter Tryz.func23, Tryz.ntmps23
  go_wp2_with (go_at_call 40; (with_reducible refine (KW.out _).mono ?_); rintro e w1 ⟨rfl, rfl⟩)
  rw [show ((bxW (w.alloc (.cells #[.int .i64 x.k, .int .i64 x.op, .int .i64 x.t, .int .i64 x.v, .string x.nm, .slice x.A x.ar.length x.c] 24)) x).alloc (.cells #[.func (.func 46) #[] #[]] 42)) = W0 by rw [← HW0.out, ← HW1.out]]
  clear HW0 HW1 KW
  go_wp2_with (go_at_call 45; (with_reducible refine KV2.out.mono ?_); rintro e w2 ⟨A, c, rfl, hR, hb2⟩)
  go_ret
  exact ⟨A, c, rfl, hR, hb0.trans (hb2.mono hb0.size)⟩
end Go.Proofs.YtfogkcccjemloaaGreatDoor
/- lives. -/
namespace Go.Proofs.YtfogkcccjemloaaGreatDoor
set_option linter.unusedVariables false
set_option linter.unusedSimpArgs false
open Go.RowKit
theorem leaf_list (k op t v : Int) (nm : ByteArray) : (Xt.mk k op t v nm none 0 []).list = [.mk k op t v nm none 0 []] := by rw [Xt.list_eq]; rfl
theorem leaf_size (k op t v : Int) (nm : ByteArray) : (Xt.mk k op t v nm none 0 []).size = 1 := by rw [Xt.size_eq]; rfl
theorem leaf_depth (k op t v : Int) (nm : ByteArray) : (Xt.mk k op t v nm none 0 []).depth = 1 := by rw [Xt.depth_eq]; rfl
theorem leaf_lst (k op t v : Int) (nm : ByteArray) (b : Bool) : (Xt.mk k op t v nm none 0 []).lst b = [.mk k op t v nm none 0 []] := by
  rw [Xt.lst_eq]
  cases hk : kidsI b (Xt.mk k op t v nm none 0 []) with
  | nil => rfl
  | cons y r => have := kids_mem (b := b) (x := Xt.mk k op t v nm none 0 []) (y := y) (by rw [hk]; simp); cases this
theorem fby_list (b : Nat) : (fbyX b).list = [fbyX b, k0, vX] := by
  rw [Xt.list_eq]
  show _ :: ([k0, vX].map Xt.list).flatten = _
  simp only [List.map_cons, List.map_nil, k0, vX, leaf_list]
  rfl
theorem ex_list (b : Nat) : (exX b).list = [exX b, vC, vX, fbyX b, k0, vX] := by
  rw [Xt.list_eq]
  show _ :: ([vC, vX, fbyX b].map Xt.list).flatten = _
  simp only [List.map_cons, List.map_nil, fby_list]
  simp only [vC, vX, leaf_list]
  rfl
theorem ex_size (b : Nat) : (exX b).size = 6 := by
  rw [← list_length, ex_list]; rfl
theorem fby_size (b : Nat) : (fbyX b).size = 3 := by
  rw [← list_length, fby_list]; rfl
theorem fby_depth (b : Nat) : (fbyX b).depth = 2 := by
  rw [Xt.depth_eq]
  show 1 + ([k0, vX].map Xt.depth).foldl max 0 = _
  simp only [List.map_cons, List.map_nil, k0, vX, leaf_depth]
  rfl
theorem ex_depth (b : Nat) : (exX b).depth = 3 := by
  rw [Xt.depth_eq]
  show 1 + ([vC, vX, fbyX b].map Xt.depth).foldl max 0 = _
  simp only [List.map_cons, List.map_nil, vC, vX, leaf_depth, fby_depth]
  rfl
theorem ex_count (b : Nat) : ((exX b).list.countP fun y => y.k == 2) = 3 := by rw [ex_list]; rfl
theorem ex_state (b : Nat) : ((exX b).list.any fun y => stK y.k) = true := by rw [ex_list]; rfl
theorem st_c : stepN [] vC = [⟨#[99]⟩] := by
  simp only [stepN, hasN, List.any_nil]
  decide +kernel
theorem st_x : stepN [⟨#[99]⟩] vX = [⟨#[99]⟩, ⟨#[120]⟩] := by
  simp only [stepN, hasN, List.any_cons, List.any_nil, ByteArray.toList_eq]
  decide +kernel
theorem st_x2 : stepN [⟨#[99]⟩, ⟨#[120]⟩] vX = [⟨#[99]⟩, ⟨#[120]⟩] := by
  simp only [stepN, hasN, List.any_cons, List.any_nil, ByteArray.toList_eq]
  decide +kernel
theorem st_no {acc : List ByteArray} {x : Xt} (h : hasVar x.k = false) : stepN acc x = acc := by
  unfold stepN
  rw [h, Bool.false_and, if_neg (by simp)]
theorem ex_names (b : Nat) : nmS false (exX b) [] = [⟨#[99]⟩, ⟨#[120]⟩] := by
  unfold nmS
  rw [lst_false, ex_list]
  simp only [List.foldl_cons, List.foldl_nil]
  rw [st_no (x := exX b) rfl, st_c, st_x, st_no (x := fbyX b) rfl, st_no (x := k0) rfl, st_x2]
theorem fby_inst (b : Nat) : nmS true (fbyX b) [] = [] := by
  unfold nmS
  rw [Xt.lst_eq]
  have : kidsI true (fbyX b) = [k0] := rfl
  rw [this]
  simp only [List.map_cons, List.map_nil, k0, leaf_lst, List.flatten_cons, List.flatten_nil, List.append_nil]
  simp only [List.foldl_cons, List.foldl_nil]
  rw [st_no (x := fbyX b) rfl, st_no rfl]
def vIf : Xt := .mk 2 0 0 0 ⟨#[105, 102]⟩ none 0 []
def ifX (b : Nat) (c : Nat) : Xt := .mk 4 0 0 0 ⟨#[]⟩ (some ⟨b + 1, 0, none⟩) c [vC, vX]
theorem if_list (b c : Nat) : (ifX b c).list = [ifX b c, vC, vX] := by
  rw [Xt.list_eq]
  show _ :: ([vC, vX].map Xt.list).flatten = _
  simp only [List.map_cons, List.map_nil, vC, vX, leaf_list]
  rfl
theorem if_depth (b c : Nat) : (ifX b c).depth = 2 := by
  rw [Xt.depth_eq]
  show 1 + ([vC, vX].map Xt.depth).foldl max 0 = _
  simp only [List.map_cons, List.map_nil, vC, vX, leaf_depth]
  rfl
theorem idP_vC : idP vC.nm = true := by decide +kernel
theorem idP_vX : idP vX.nm = true := by decide +kernel
theorem idP_vIf : idP vIf.nm = false := by decide +kernel
end Go.Proofs.YtfogkcccjemloaaGreatDoor
