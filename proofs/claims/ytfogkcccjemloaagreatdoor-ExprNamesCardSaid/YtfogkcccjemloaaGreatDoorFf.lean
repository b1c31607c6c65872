/- What within hands back, each expression with what is known of it; Check of the program. -/
import Derived.Test.YtfogkcccjemloaaGreatDoorFa
import Derived.Test.YtfogkcccjemloaaGreatDoorFb
import Derived.Test.YtfogkcccjemloaaGreatDoorFe
namespace Go.Proofs.YtfogkcccjemloaaGreatDoor
set_option linter.unusedVariables false
set_option linter.unusedSimpArgs false
open Go.RowKit Go.Shelf
attribute [local go_sem] Oper.semAt_some
/-- J over lists of expressions of which P is known, said of the expressions -/
def upJ {P : Xt → Prop} (J : List {y : Xt // P y} → World → Prop) (pre : List Xt) (W : World) : Prop := ∃ q, q.map (·.1) = pre ∧ J q W
set_option maxHeartbeats 1000000 in
set_option maxRecDepth 100000 in
theorem within_stopsP (P : Xt → Prop) (n be bp n₀ : Nat) (S : Nat → Prop) (x : Xt) (w : World) (hP : ∀ y ∈ x.list, P y) (hS : ∀ k, S k → n₀ ≤ k ∧ k < w.heap.size) (hn₀ : n₀ ≤ w.heap.size) (hbe : be < w.heap.size) (hbp : bp < w.heap.size) (hX : RdX w n₀ x)
    (c0 : w.cell? ⟨be, 0, none⟩ = some (.int .i64 x.k)) (c1 : w.cell? ⟨be, 1, none⟩ = some (.int .i64 x.op)) (c2 : w.cell? ⟨be, 2, none⟩ = some (.int .i64 x.t)) (c3 : w.cell? ⟨be, 3, none⟩ = some (.int .i64 x.v)) (c4 : w.cell? ⟨be, 4, none⟩ = some (.string x.nm)) (c5 : w.cell? ⟨be, 5, none⟩ = some (.slice x.A x.ar.length x.c)) (cp : w.cell? ⟨bp, 0, none⟩ = some (.func (.func 41) #[] #[])) :
    SeqStopsK Fence.wide n Tryz.prog 62 #[.pointer (some ⟨be, 0, none⟩), .pointer (some ⟨bp, 0, none⟩)] (fun y : {y : Xt // P y} => #[xV y.1]) (KX S) (fun ys => ys.map (·.1) = x.list) (fun pre => pre.map (·.1) <+: x.list) x.size w := by
  intro l J Jx W hW hJ _ hY h0
  have hdd : ∀ k : Nat, (Fence.wide.depth.isSome = true → 1 ≤ k) := fun k h => by cases h
  have hWs := hW.size
  have d0 := (hW.cell (p := ⟨be, 0, none⟩) hbe).trans c0
  have d1 := (hW.cell (p := ⟨be, 1, none⟩) hbe).trans c1
  have d2 := (hW.cell (p := ⟨be, 2, none⟩) hbe).trans c2
  have d3 := (hW.cell (p := ⟨be, 3, none⟩) hbe).trans c3
  have d4 := (hW.cell (p := ⟨be, 4, none⟩) hbe).trans c4
  have d5 := (hW.cell (p := ⟨be, 5, none⟩) hbe).trans c5
  have dp := (hW.cell (p := ⟨bp, 0, none⟩) hbp).trans cp
  have hp := walk_each_in l n₀ W.heap.size x.size S (fun k hs => ⟨(hS k hs).1, by have := (hS k hs).2; omega⟩) (upJ J) (upJ Jx) (fun s A B row ⟨q, hq, hs⟩ hg hr => ⟨q, hq, hJ q A B row hs hg hr⟩) P
    (fun m pre y W1 hPy ⟨q, hq, hj⟩ hl => yield_any rfl m (YieldAt.mono (hY q ⟨y, hPy⟩ W1 hj (by rw [← hq, List.length_map] at hl; exact hl)) fun e W' h => h.elim
      (fun ⟨he, hj2, hk⟩ => .inl ⟨he, ⟨q ++ [⟨y, hPy⟩], by rw [List.map_append, hq]; rfl, hj2⟩, hk⟩) (fun ⟨he, hx⟩ => .inr ⟨he, q ++ [⟨y, hPy⟩], by rw [List.map_append, hq]; rfl, hx⟩))) x (n - 1) [] W hP (hX.blw (hW.mono hn₀) (Nat.le_refl _)) (Nat.le_refl _) ⟨[], rfl, h0⟩ (by simp)
  simp only [List.nil_append, xV] at hp
  clear hY c0 c1 c2 c3 c4 c5 cp
  simp only [List.append_toArray, List.cons_append, List.nil_append, Array.append_eq_append] at *
  refine callsIn_of_wp Tryz.func62 rfl trivial ?_ rfl
  simp only [Tryz.ntmps62, List.size_toArray, List.length_cons, List.length_nil, Nat.reduceAdd, Nat.reduceSub, Array.replicate_succ, Array.replicate_zero, List.push_toArray, List.append_toArray, List.nil_append, List.cons_append]
  gi_wp2_with (refine ⟨trivial, hdd _, ?_⟩; gi_at_call 63; refine hp.mono ?_; clear hp; rintro e W1 (⟨rfl, ⟨ys, hys, hJ1⟩, _⟩ | ⟨rfl, q, hq, ys, hys, hx⟩))
  · go_end0
    exact ⟨⟨_, rfl⟩, .inl ⟨ys, hys, hJ1⟩⟩
  · go_end0
    exact ⟨⟨_, rfl⟩, .inr ⟨ys, by rw [hys]; exact hq, hx⟩⟩
theorem within_atP (P : Xt → Prop) (n n₀ : Nat) (S : Nat → Prop) (x : Xt) (w : World) (hP : ∀ y ∈ x.list, P y) (hS : ∀ k, S k → n₀ ≤ k ∧ k < w.heap.size) (hn₀ : n₀ ≤ w.heap.size) (hX : RdX w n₀ x) :
    SeqStopsK Fence.wide n Tryz.prog 62 #[.pointer (some ⟨w.heap.size, 0, none⟩), .pointer (some ⟨w.heap.size + 1, 0, none⟩)] (fun y : {y : Xt // P y} => #[xV y.1]) (KX S) (fun ys => ys.map (·.1) = x.list) (fun pre => pre.map (·.1) <+: x.list) x.size (inW w x 41) := by
  obtain ⟨b0, b1, b2, b3, b4, b5, _⟩ := bxW_cells (w := w) (x := x) (W := inW w x 41) (bel_box _)
  exact within_stopsP P n w.heap.size (w.heap.size + 1) n₀ S x _ hP (fun k hs => ⟨(hS k hs).1, by rw [inW_size]; have := (hS k hs).2; omega⟩) (by rw [inW_size]; omega) (by rw [inW_size]; omega) (by rw [inW_size]; omega) (hX.blw ((inW_below w x _).mono hn₀) (Nat.le_refl _)) b0 b1 b2 b3 b4 b5 (by simp [go_sem])
theorem RdX.all {w : World} {B : Nat} {x : Xt} (h : RdX w B x) : ∀ y ∈ x.list, y.ar.length ≤ maxLen := by
  induction x using Xt.ind with
  | h x ih =>
    intro y hy
    rw [Xt.list_eq] at hy
    rcases List.mem_cons.1 hy with rfl | hy
    · exact h.len.1
    · obtain ⟨l, hl, hyl⟩ := List.mem_flatten.1 hy
      obtain ⟨z, hz, rfl⟩ := List.mem_map.1 hl
      exact ih z hz (h.kid hz) y hyl
/-- the first error -/
def firstE (f : Xt → Int) : List Xt → Int
  | [] => 0
  | y :: r => if f y = 0 then firstE f r else f y
theorem firstE_ok {f : Xt → Int} {l : List Xt} (h : ∀ y ∈ l, f y = 0) : firstE f l = 0 := by
  induction l with
  | nil => rfl
  | cons y r ih => rw [firstE, if_pos (h y (by simp))]; exact ih fun z hz => h z (by simp [hz])
theorem firstE_at {f : Xt → Int} {l r : List Xt} {y : Xt} (h : ∀ z ∈ l, f z = 0) (hy : f y ≠ 0) : firstE f (l ++ y :: r) = f y := by
  induction l with
  | nil => rw [List.nil_append, firstE, if_neg hy]
  | cons z l ih => rw [List.cons_append, firstE, if_pos (h z (by simp))]; exact ih fun u hu => h u (by simp [hu])
theorem bx2 {w W : World} {x : Xt} {v : Value} {t : TypeId} (h : Below ((bxW w x).alloc (.cells #[v] t)).heap.size ((bxW w x).alloc (.cells #[v] t)) W) :
    (W.cell? ⟨w.heap.size, 0, none⟩ = some (.int .i64 x.k) ∧ W.cell? ⟨w.heap.size, 1, none⟩ = some (.int .i64 x.op) ∧ W.cell? ⟨w.heap.size, 2, none⟩ = some (.int .i64 x.t) ∧ W.cell? ⟨w.heap.size, 3, none⟩ = some (.int .i64 x.v) ∧ W.cell? ⟨w.heap.size, 4, none⟩ = some (.string x.nm) ∧ W.cell? ⟨w.heap.size, 5, none⟩ = some (.slice x.A x.ar.length x.c)) ∧ (W.cell? ⟨w.heap.size + 1, 0, none⟩ = some v ∧ W.frozen? ⟨w.heap.size + 1, 0, none⟩ = false) ∧ w.heap.size + 1 < W.heap.size ∧ Below w.heap.size w W := by
  have hz := h.size
  have hz2 : ((bxW w x).alloc (.cells #[v] t)).heap.size = w.heap.size + 2 := by simp only [World.size_alloc]
  rw [hz2] at hz
  have hb : Below (bxW w x).heap.size (bxW w x) W := (bel_box _).trans (h.mono (by rw [World.size_alloc]; omega))
  obtain ⟨b0, b1, b2, b3, b4, b5, _⟩ := bxW_cells hb
  refine ⟨⟨b0, b1, b2, b3, b4, b5⟩, ⟨?_, ?_⟩, by omega, bxW_below hb⟩
  · exact (h.cell (p := ⟨w.heap.size + 1, 0, none⟩) (by rw [hz2]; simp)).trans (by simp [go_sem])
  · exact (h.frozen (p := ⟨w.heap.size + 1, 0, none⟩) (by rw [hz2]; simp)).trans (by simp [go_sem])
def chkAll (wok : ByteArray → Bool) (x : Xt) : Int := if 400 < x.size ∨ 32 < x.depth then 3 else firstE (chk1 wok) x.list
set_option maxHeartbeats 2000000 in
set_option maxRecDepth 100000 in
theorem check_any (wok : ByteArray → Bool) (x : Xt) (w : World) (hX : RdX w w.heap.size x) (hN : ∀ y ∈ x.list, NmOk wok w y) : Calls Tryz.prog 12 #[xV x] w (Bel (.int .i64 (chkAll wok x)) w) := by
  have hdd : ∀ k : Nat, (Fence.wide.depth.isSome = true → 1 ≤ k) := fun k h => by cases h
  have KW := Lib.hid (fun W => within_any x 41 W)
  have KE : Hid (∀ W, Below w.heap.size w W → Calls Tryz.prog 39 #[xV x, .int .i64 400] W (Bel (.bool (decide (400 < x.size))) W)) := Lib.hid fun W hb => exceeds_any x 400 W (hX.to hb) (by omega)
  have HX := Lib.hid hX
  have hal := hX.all
  have hsz : x.size ≤ 400 → Hid (∀ W, Below w.heap.size w W → Calls Tryz.prog 16 #[xV x] W (Bel (.int .i64 (x.depth : Nat)) W)) := fun h => Lib.hid fun W hb => depth_any x W (hX.to hb) (by omega)
  clear hX
  simp only [xV] at KW KE hsz ⊢
  refine (callsIn_wide (n := 3)).1 ?_
  by_cases h400 : 400 < x.size
  · rw [chkAll, if_pos (.inl h400)]
    rw [decide_eq_true h400] at KE
    refine callsIn_of_wp_marks Tryz.func12 rfl trivial ?_ rfl
    simp only [Tryz.ntmps12, List.size_toArray, List.length_cons, List.length_nil, Nat.reduceAdd, Nat.reduceSub, Array.replicate_succ, Array.replicate_zero, List.push_toArray, List.append_toArray, List.nil_append, List.cons_append]
    gi_wp2_with (refine ⟨trivial, ?_⟩; gi_at_call 39; refine (callsIn_wide.2 (KE.out _ ?_)).mono ?_; (focus ((repeat (first | (with_reducible exact Below.refl _ _) | (with_reducible assumption) | (with_reducible exact bel_box _) | (with_reducible refine bel_step ?_ (by with_reducible assumption)) | (with_reducible refine Below.drew ?_) | (with_reducible refine below_drewN ?_ _) | (with_reducible refine bel_alloc ?_ _))); done)); rintro e W1 ⟨rfl, hb1⟩; obtain ⟨⟨a0, a1, a2, a3, a4, a5⟩, ⟨r0, r1⟩, hzz, hBB⟩ := bx2 hb1; clear hb1)
    refine ⟨trivial, ?_⟩
    gi_wp2
    refine ⟨.int .i64 3, ?_, rfl, hBB.setCell (p := ⟨w.heap.size + 1, 0, none⟩) (by simp) _⟩
    have hc5 := World.cell?_setCell_same' W1 ⟨w.heap.size + 1, 0, none⟩ (.int .i64 3) (by rw [r0]; rfl)
    simp [results, Tryz.f12, go_sem, hc5]
  rw [decide_eq_false h400] at KE
  have KD := hsz (by omega)
  clear hsz
  have hdl := depth_le x
  by_cases h32 : 32 < x.depth
  · rw [chkAll, if_pos (.inr h32)]
    have u1 : (32 : Int) < (x.depth : Int) := by omega
    refine callsIn_of_wp_marks Tryz.func12 rfl trivial ?_ rfl
    simp only [Tryz.ntmps12, List.size_toArray, List.length_cons, List.length_nil, Nat.reduceAdd, Nat.reduceSub, Array.replicate_succ, Array.replicate_zero, List.push_toArray, List.append_toArray, List.nil_append, List.cons_append]
    gi_wp2_with (first
      | (refine ⟨trivial, ?_⟩; gi_at_call 39; refine (callsIn_wide.2 (KE.out _ ?_)).mono ?_; (focus ((repeat (first | (with_reducible exact Below.refl _ _) | (with_reducible assumption) | (with_reducible exact bel_box _) | (with_reducible refine bel_step ?_ (by with_reducible assumption)) | (with_reducible refine Below.drew ?_) | (with_reducible refine below_drewN ?_ _) | (with_reducible refine bel_alloc ?_ _))); done)); rintro e W1 ⟨rfl, hb1⟩; obtain ⟨⟨a0, a1, a2, a3, a4, a5⟩, ⟨r0, r1⟩, hzz, hBB⟩ := bx2 hb1)
      | (refine ⟨trivial, ?_⟩; gi_at_call 16; refine (callsIn_wide.2 (KD.out _ ?_)).mono ?_; (focus (exact hBB; done)); rintro e W2 ⟨rfl, hb2⟩; obtain ⟨_, ⟨s0, s1⟩, hzy, hBC⟩ := bx2 (hb1.trans (hb2.mono hb1.size))))
    refine ⟨.int .i64 3, ?_, rfl, hBC.setCell (p := ⟨w.heap.size + 1, 0, none⟩) (by simp) _⟩
    have hc5 := World.cell?_setCell_same' W2 ⟨w.heap.size + 1, 0, none⟩ (.int .i64 3) (by rw [s0]; rfl)
    simp [results, Tryz.f12, go_sem, hc5]
  rw [chkAll, if_neg (by omega)]
  have u1 : (x.depth : Int) ≤ 32 := by omega
  refine callsIn_of_wp_marks Tryz.func12 rfl trivial ?_ rfl
  simp only [Tryz.ntmps12, List.size_toArray, List.length_cons, List.length_nil, Nat.reduceAdd, Nat.reduceSub, Array.replicate_succ, Array.replicate_zero, List.push_toArray, List.append_toArray, List.nil_append, List.cons_append]
  gi_wp2_with (first
    | (refine ⟨trivial, ?_⟩; gi_at_call 39; refine (callsIn_wide.2 (KE.out _ ?_)).mono ?_; (focus ((repeat (first | (with_reducible exact Below.refl _ _) | (with_reducible assumption) | (with_reducible exact bel_box _) | (with_reducible refine bel_step ?_ (by with_reducible assumption)) | (with_reducible refine Below.drew ?_) | (with_reducible refine below_drewN ?_ _) | (with_reducible refine bel_alloc ?_ _))); done)); rintro e W1 ⟨rfl, hb1⟩; obtain ⟨⟨a0, a1, a2, a3, a4, a5⟩, ⟨r0, r1⟩, hzz, hBB⟩ := bx2 hb1)
    | (refine ⟨trivial, ?_⟩; gi_at_call 16; refine (callsIn_wide.2 (KD.out _ ?_)).mono ?_; (focus (exact hBB; done)); rintro e W2 ⟨rfl, hb2⟩; obtain ⟨⟨e0, e1, e2, e3, e4, e5⟩, ⟨s0, s1⟩, hzy, hBC⟩ := bx2 (hb1.trans (hb2.mono hb1.size)))
    | (refine ⟨trivial, ?_⟩; gi_at_call 40; refine (callsIn_wide.2 (KW.out _)).mono ?_; rintro e W3 ⟨rfl, rfl⟩))
  have hst := within_atP (fun y => y ∈ x.list) (3 - 1) w.heap.size (fun k => k = w.heap.size + 1) x W2 (fun y h => h) (fun k hk => by subst hk; omega) (by omega) (HX.out.blw hBC (Nat.le_refl _))
  obtain ⟨W0, hW0⟩ : ∃ W0, inW W2 x 41 = W0 := ⟨_, rfl⟩
  have hz0 : W0.heap.size = W2.heap.size + 2 := by rw [← hW0, inW_size]
  have hB0 : Below w.heap.size w W0 := by rw [← hW0]; exact hBC.trans ((inW_below W2 x _).mono (by omega))
  have f2 : W0.cell? ⟨w.heap.size + 1, 0, none⟩ = some (.int .i64 0) := by rw [← hW0]; exact (inW_old (by omega)).1.trans s0
  have f3 : W0.frozen? ⟨w.heap.size + 1, 0, none⟩ = false := by rw [← hW0]; exact (inW_old (by omega)).2.trans s1
  rw [hW0] at hst
  rw [show (bxW W2 x).alloc (.cells #[.func (.func 41) #[] #[]] 42) = W0 from hW0]
  have HN := Lib.hid hN
  have HAL := Lib.hid hal
  clear hW0 KW KE KD HX hN hal a0 a1 a2 a3 a4 a5 r0 r1 e0 e1 e2 e3 e4 e5 s0 s1 hb1 hb2 hBB hBC hzz
  refine wpIn_rangeFunc_ownH rfl (by decide) (gf := 62) (lb := #[.pointer (some ⟨W2.heap.size, 0, none⟩), .pointer (some ⟨W2.heap.size + 1, 0, none⟩)]) rfl trivial (enters_of Tryz.func62 (by kernel_rfl) rfl)
    hst KX_t KX_b (Below.refl _ _) (fun _ => rfl)
    (fun pre W => ((∀ y ∈ pre, chk1 wok y.1 = 0) ∧ W.cell? ⟨w.heap.size + 1, 0, none⟩ = some (.int .i64 0) ∧ W.frozen? ⟨w.heap.size + 1, 0, none⟩ = false) ∧ Below w.heap.size w W)
    (fun c pre W => (c = .ret ∧ ∃ q y, pre = q ++ [y] ∧ (∀ z ∈ q, chk1 wok z.1 = 0) ∧ chk1 wok y.1 ≠ 0 ∧ W.cell? ⟨w.heap.size + 1, 0, none⟩ = some (.int .i64 (chk1 wok y.1))) ∧ Below w.heap.size w W)
    (OwnFrom.and (Own.from (fun s A B row hs hg hr => ⟨hs.1, cell_kept hs.2.1 hg hr, (frozen_kept hs.2.1 hg hr).trans hs.2.2⟩) _) (ownFrom_below (Nat.le_refl _) (by omega)))
    (fun c => OwnFrom.and (Own.from (fun s A B row hs hg hr => by
      obtain ⟨h1, q, y, h2, h3, h4, h5⟩ := hs
      exact ⟨h1, q, y, h2, h3, h4, cell_kept h5 hg hr⟩) _) (ownFrom_below (Nat.le_refl _) (by omega)))
    ⟨⟨by simp, f2, f3⟩, hB0⟩
    (fun y a' W => ∃ Bx, (w.heap.size + 2 ≤ Bx ∧ W.cell? ⟨Bx, 0, none⟩ = some (.int .i64 y.1.k) ∧ W.cell? ⟨Bx, 1, none⟩ = some (.int .i64 y.1.op) ∧ W.cell? ⟨Bx, 2, none⟩ = some (.int .i64 y.1.t) ∧ W.cell? ⟨Bx, 3, none⟩ = some (.int .i64 y.1.v) ∧ W.cell? ⟨Bx, 4, none⟩ = some (.string y.1.nm) ∧ W.cell? ⟨Bx, 5, none⟩ = some (.slice y.1.A y.1.ar.length y.1.c)) ∧ a' = { tmps := #[.agg #[.int .i64 x.k, .int .i64 x.op, .int .i64 x.t, .int .i64 x.v, .string x.nm, .slice x.A x.ar.length x.c], .pointer (some ⟨w.heap.size, 0, none⟩), .pointer (some ⟨w.heap.size + 1, 0, none⟩), .pointer (some ⟨Bx, 0, none⟩), undef, .agg #[.int .i64 x.k, .int .i64 x.op, .int .i64 x.t, .int .i64 x.v, .string x.nm, .slice x.A x.ar.length x.c], .bool false, .bool false, .agg #[.int .i64 x.k, .int .i64 x.op, .int .i64 x.t, .int .i64 x.v, .string x.nm, .slice x.A x.ar.length x.c], .int .i64 (x.depth : Int), .bool (decide ((32 : Int) < (x.depth : Int))), .bool (decide ((32 : Int) < (x.depth : Int))), .agg #[.int .i64 x.k, .int .i64 x.op, .int .i64 x.t, .int .i64 x.v, .string x.nm, .slice x.A x.ar.length x.c], .func (.func 62) #[] #[.pointer (some ⟨W2.heap.size, 0, none⟩), .pointer (some ⟨W2.heap.size + 1, 0, none⟩)], xV y.1, undef, undef, undef, undef, undef], defers := [] })
    (fun y a' s A B row hs hg hr => by
      obtain ⟨Bx, ⟨h1, h2, h3, h4, h5, h6, h7⟩, h8⟩ := hs
      exact ⟨Bx, ⟨h1, cell_kept h2 hg (fun r e => (hr r e).2), cell_kept h3 hg (fun r e => (hr r e).2), cell_kept h4 hg (fun r e => (hr r e).2), cell_kept h5 hg (fun r e => (hr r e).2), cell_kept h6 hg (fun r e => (hr r e).2), cell_kept h7 hg (fun r e => (hr r e).2)⟩, h8⟩) ?assign ?body ?done ?stop
  case assign =>
    rintro l pre y W K ⟨⟨i1, i2, i3⟩, hB⟩ hK
    rw [fold1]
    simp only [xV] at hK ⊢
    gi_wp2
    obtain ⟨d0, d1, d2, d3, d4, d5⟩ := bx_box W y.1
    exact hK _ _ ((KeepsOthers.alloc _ _).from _) (KX.of_below (bel_box _)) ⟨⟨i1, cell_al _ i2, frozen_al _ i2 i3⟩, bel_alloc hB _⟩ ⟨W.heap.size, ⟨by have := World.block_lt_of_cell? W _ i2; simp only at this; omega, d0, d1, d2, d3, d4, d5⟩, rfl⟩
  case body =>
    rintro l pre y a' W hl ⟨r, hr⟩ ⟨⟨i1, i2, i3⟩, hB⟩ ⟨Bx, ⟨hBx, d0, d1, d2, d3, d4, d5⟩, rfl⟩ hlt
    have hbk := World.block_lt_of_cell? W _ i2
    have KC : Hid (Calls Tryz.prog 42 #[xV y.1] W (Bel (.int .i64 (chk1 wok y.1)) W)) := Lib.hid (checkone_any wok y.1 W (HAL.out _ y.2) ((HN.out _ y.2).to hB))
    simp only [xV] at KC
    by_cases hc : chk1 wok y.1 = 0
    · gi_wp2_with (refine ⟨trivial, ?_⟩; gi_at_call 42; refine (CallsIn.inRound l (callsIn_wide.2 KC.out)).mono ?_; rintro e W5 ⟨rfl, hb5⟩)
      exact ⟨(KeepsOthers.of_grownBy (below_grown hb5) (fun j o e => by cases e)).from _, KX.of_below hb5, ⟨fun z hz => (List.mem_append.1 hz).elim (i1 z) (fun h => by rw [List.mem_singleton.1 h]; exact hc), (hb5.cell (p := ⟨w.heap.size + 1, 0, none⟩) hbk).trans i2, (hb5.frozen (p := ⟨w.heap.size + 1, 0, none⟩) hbk).trans i3⟩, hB.trans (hb5.mono hB.size)⟩
    · gi_wp2_with (refine ⟨trivial, ?_⟩; gi_at_call 42; refine (CallsIn.inRound l (callsIn_wide.2 KC.out)).mono ?_; rintro e W5 ⟨rfl, hb5⟩; have j2 := (hb5.cell (p := ⟨w.heap.size + 1, 0, none⟩) hbk).trans i2; have j3 := (hb5.frozen (p := ⟨w.heap.size + 1, 0, none⟩) hbk).trans i3)
      exact ⟨((KeepsOthers.of_grownBy (below_grown hb5) (fun j o e => by cases e)).trans (KeepsOthers.setCell _ _ _)).from _, ⟨rfl, pre, y, rfl, i1, hc, World.cell?_setCell_same' _ _ _ (by rw [j2]; rfl)⟩, (hB.trans (hb5.mono hB.size)).setCell (p := ⟨w.heap.size + 1, 0, none⟩) (by simp) _⟩
  case done =>
    rintro D ys W hD hys ⟨⟨hn, hc, hf⟩, hB⟩ hK
    have hv : firstE (chk1 wok) x.list = 0 := firstE_ok fun y hy => by
      rw [← hys] at hy
      obtain ⟨z, hz, rfl⟩ := List.mem_map.1 hy
      exact hn z hz
    gi_wp2
    have hK' := (KeepsOthers.setCell W ⟨w.heap.size + 1, 0, none⟩ (.int .i64 0)).same D _ hK rfl
    refine ⟨by simp, .inl ⟨_, _, rfl, run_takeDeferred hK', ?_⟩⟩
    have hc5 := cell_kept (World.cell?_setCell_same' W ⟨w.heap.size + 1, 0, none⟩ (.int .i64 0) (by rw [hc]; rfl)) (grownBy_putObj' _ D (.deferred none)) (fun r e => by cases e; exact ⟨_, hK', rfl⟩)
    refine ⟨.int .i64 0, ?_, rfl, (hB.setCell (p := ⟨w.heap.size + 1, 0, none⟩) (by simp) _).trans (belowK_b (w := w) (Nat.le_refl _) _ D _ _ (by omega) hK' rfl rfl)⟩
    simp [results, Tryz.f12, go_sem, hc5]
  case stop =>
    rintro D c pre W hD ⟨t, ht⟩ ⟨⟨rfl, q, y, rfl, hq, hy, hc⟩, hB⟩ hK
    have hv : firstE (chk1 wok) x.list = chk1 wok y.1 := by
      have hl : x.list = q.map (·.1) ++ y.1 :: t := ht.symm.trans (by rw [List.map_append, List.append_assoc]; rfl)
      exact (congrArg _ hl).trans (firstE_at (fun z hz => by obtain ⟨u, hu, rfl⟩ := List.mem_map.1 hz; exact hq u hu) hy)
    gi_wp2
    refine ⟨by simp, .inl ⟨_, _, rfl, run_takeDeferred hK, ?_⟩⟩
    have hc5 := cell_kept hc (grownBy_putObj' _ D (.deferred none)) (fun r e => by cases e; exact ⟨_, hK, rfl⟩)
    refine ⟨.int .i64 (chk1 wok y.1), ?_, rfl, hB.trans (belowK_b (w := w) (Nat.le_refl _) W D _ _ (by omega) hK rfl rfl)⟩
    simp [results, Tryz.f12, go_sem, hc5]
end Go.Proofs.YtfogkcccjemloaaGreatDoor
