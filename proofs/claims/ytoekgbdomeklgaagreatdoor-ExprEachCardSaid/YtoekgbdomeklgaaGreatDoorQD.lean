/- Texts of one chain, in one file. -/
import Derived.Sort.CutIn
import Derived.Test.YtoekgbdomeklgaaGreatDoorRows
import Derived.Stop.LaidErr
import Derived.Lib.LaidTab
import Derived.LaidMore
import Derived.Lay
import Derived.LaidOnce
import Derived.ChangeSlices
import Derived.ChangeSame
import Derived.ChangeMaps
import Derived.Stop.Joined
import Derived.Test.YtoekgbdomeklgaaGreatDoorQC
/- The walk of ExprEach. -/
namespace Go.Proofs.YtoekgbdomeklgaaGreatDoor
set_option linter.unusedVariables false
set_option linter.unusedSimpArgs false
open Go.RowKit Go.Shelf Go.Sort
attribute [local go_sem] Oper.semAt_some
theorem flat_ct : ∀ (l m : List Xt), (∀ a ∈ l, ∀ b : Xt, a.ct = b.ct → a.list.map Xt.ct = b.list.map Xt.ct) → l.map Xt.ct = m.map Xt.ct → ((l.map Xt.list).flatten).map Xt.ct = ((m.map Xt.list).flatten).map Xt.ct := by
  intro l
  induction l with
  | nil =>
    intro m _ h
    cases m with
    | nil => rfl
    | cons b m => cases h
  | cons a l ih =>
    intro m hl h
    cases m with
    | nil => cases h
    | cons b m =>
      simp only [List.map_cons, List.cons.injEq] at h
      simp only [List.map_cons, List.flatten_cons, List.map_append]
      rw [hl a (by simp) b h.1, ih m (fun c hc => hl c (by simp [hc])) h.2]
theorem ct_list (x : Xt) : ∀ y : Xt, x.ct = y.ct → x.list.map Xt.ct = y.list.map Xt.ct := by
  induction x using Xt.ind with
  | h x ih =>
    intro y h
    obtain ⟨_, _, _, _, _, h6, _⟩ := ct_parts h
    rw [Xt.list_eq, Xt.list_eq y, List.map_cons, List.map_cons, h, flat_ct x.ar y.ar ih h6]
theorem ct_size {x y : Xt} (h : x.ct = y.ct) : x.size = y.size := by
  have := congrArg List.length (ct_list x y h)
  rw [List.length_map, List.length_map, list_length, list_length] at this
  exact this
/-- the first k of a list, and one more -/
theorem pre_next {α : Type} {p l : List α} {a : α} {k : Nat} {b : α} (hp : p <+: l) (hk : k = p.length) (hb : l[k]? = some b) : (p ++ [a] <+: l) ↔ a = b := by
  subst hk
  obtain ⟨t, rfl⟩ := hp
  rw [List.getElem?_append_right (Nat.le_refl _), Nat.sub_self] at hb
  cases t with
  | nil => cases hb
  | cons c t =>
    obtain rfl : c = b := by simpa using hb
    rw [List.prefix_append_right_inj]
    constructor
    · rintro ⟨u, hu⟩
      simp at hu
      exact hu.1
    · rintro rfl
      exact ⟨t, rfl⟩
theorem run_eqlIn_fn_nil {P : Program} (w : World) (n : Nat) (t : TypeId) {ps rs : Array TypeId} {v : Bool} (f : Fn) (b c : Array Value) (h : P.underlying t = some (.func ps rs v)) :
    (Op.equalIn (n + 1) t (.func f b c) .nilFunc).run P w = .ok false w := by
  simp [Op.equalIn, run_underlying h]
theorem run_eql_fn_nil {P : Program} (w : World) (t : TypeId) {ps rs : Array TypeId} {v : Bool} (f : Fn) (b c : Array Value) (h : P.underlying t = some (.func ps rs v)) :
    (binOp .eql t (.func f b c) .nilFunc).run P w = .ok (.bool false) w := by
  simp only [binOp]
  simp [Op.equal, Op.maxDepth, run_eqlIn_fn_nil w 9999 t f b c h]
theorem EachR.some {x : Xt} {w w' : World} {e : Ending} (h : EachR x w e w') : Below w.heap.size w w' ∧ ∃ f c, e = .returned (.func (.func f) #[] c) := by
  obtain ⟨hb, (⟨_, f, c, rfl⟩ | ⟨_, x', be, rfl, _⟩)⟩ := h
  · exact ⟨hb, f, c, rfl⟩
  · exact ⟨hb, _, _, rfl⟩
/-- the boxes of the law: the expression's, stop's, the result's -/
theorem ev_box {w W : World} {x : Xt} {s : Int} (h : Below (((bxW w x).alloc (.cells #[.int .u8 s] 5)).alloc (.cells #[.bool false] 4)).heap.size (((bxW w x).alloc (.cells #[.int .u8 s] 5)).alloc (.cells #[.bool false] 4)) W) :
    (W.cell? ⟨w.heap.size, 0, none⟩ = some (.int .i64 x.k) ∧ W.cell? ⟨w.heap.size, 1, none⟩ = some (.int .i64 x.op) ∧ W.cell? ⟨w.heap.size, 2, none⟩ = some (.int .i64 x.t) ∧ W.cell? ⟨w.heap.size, 3, none⟩ = some (.int .i64 x.v) ∧ W.cell? ⟨w.heap.size, 4, none⟩ = some (.string x.nm) ∧ W.cell? ⟨w.heap.size, 5, none⟩ = some (.slice x.A x.ar.length x.c)) ∧
    W.cell? ⟨w.heap.size + 1, 0, none⟩ = some (.int .u8 s) ∧ (W.cell? ⟨w.heap.size + 1 + 1, 0, none⟩ = some (.bool false) ∧ W.frozen? ⟨w.heap.size + 1 + 1, 0, none⟩ = false) ∧ w.heap.size + 3 ≤ W.heap.size ∧ Below w.heap.size w W := by
  have hz : (((bxW w x).alloc (.cells #[.int .u8 s] 5)).alloc (.cells #[.bool false] 4)).heap.size = w.heap.size + 3 := by simp only [World.size_alloc]
  have hsz := h.size
  rw [hz] at hsz
  have hb : Below (bxW w x).heap.size (bxW w x) W := (bel_alloc (bel_box _) _).trans (h.mono (by rw [hz, bxW_size]; omega))
  obtain ⟨b0, b1, b2, b3, b4, b5, _⟩ := bxW_cells hb
  refine ⟨⟨b0, b1, b2, b3, b4, b5⟩, ?_, ⟨?_, ?_⟩, hsz, bxW_below hb⟩
  · exact (h.cell (p := ⟨w.heap.size + 1, 0, none⟩) (by rw [hz]; simp)).trans (by simp [go_sem])
  · exact (h.cell (p := ⟨w.heap.size + 1 + 1, 0, none⟩) (by rw [hz]; simp)).trans (by simp [go_sem])
  · exact (h.frozen (p := ⟨w.heap.size + 1 + 1, 0, none⟩) (by rw [hz]; simp)).trans (by simp [go_sem])
/-- a round goes on: what has come are the first contents, no more than s, and n says how many -/
def EvI (x : Xt) (s q : Nat) (w V : World) (pre : List Xt) (W : World) : Prop :=
  (pre.map Xt.ct <+: x.list.map Xt.ct ∧ pre.length ≤ s) ∧ ((W.cell? ⟨q, 0, none⟩ = some (.int .i64 (pre.length : Int)) ∧ W.frozen? ⟨q, 0, none⟩ = false) ∧ KX (fun k => k = q) V W) ∧ Below w.heap.size w W
theorem EvI.own {x : Xt} {s q : Nat} {w V : World} {B : Nat} (h : w.heap.size ≤ B) : OwnFrom B (EvI x s q w V) :=
  OwnFrom.and (ownFrom_pure _ _) (OwnFrom.and (OwnFrom.and (Own.from (fun s A B row hs hg hr => ⟨cell_kept hs.1 hg hr, (frozen_kept hs.1 hg hr).trans hs.2⟩) _) (own_kx _)) (ownFrom_below (Nat.le_refl _) h))
/-- .. or is left: by a return, where something else has come; by the break, where s + 1 have come -/
def EvX (x : Xt) (s q : Nat) (w V : World) (c : Code) (pre : List Xt) (W : World) : Prop :=
  (c = .ret ∧ ¬ pre.map Xt.ct <+: x.list.map Xt.ct) ∨ (c = .exit 0 ∧ EvI x (s + 1) q w V pre W ∧ pre.length = s + 1)
theorem EvX.own {x : Xt} {s q : Nat} {w V : World} {B : Nat} (h : w.heap.size ≤ B) (c : Code) : OwnFrom B (EvX x s q w V c) := fun pre X Y row hs hg hr =>
  hs.elim .inl fun ⟨h1, h2, h3⟩ => .inr ⟨h1, EvI.own h pre X Y row h2 hg hr, h3⟩
theorem RdXs.kx {S : Nat → Prop} {W W' : World} {B : Nat} {A : Option Addr} {l : List Xt} (h : RdXs W B A l) (hk : KX S W W') (hS : ∀ k, S k → B ≤ k) : RdXs W' B A l := fun hn => by
  obtain ⟨ad, e, hb, hc⟩ := h hn
  refine ⟨ad, e, hb, fun i y hy => ?_⟩
  have hne : ¬ S (ad.add (i * 6)).block := fun hs => by have := hS _ hs; rw [add_block] at this; omega
  obtain ⟨c0, c1, c2, c3, c4, c5⟩ := hc i y hy
  exact ⟨hk.cell hne c0, hk.cell (a := ⟨_, _, none⟩) hne c1, hk.cell (a := ⟨_, _, none⟩) hne c2, hk.cell (a := ⟨_, _, none⟩) hne c3, hk.cell (a := ⟨_, _, none⟩) hne c4, hk.cell (a := ⟨_, _, none⟩) hne c5⟩
theorem RdX.up {W : World} {B B' : Nat} {x : Xt} (h : RdX W B x) (hB : B ≤ B') : RdX W B' x := h.blw (Below.refl _ _) hB
set_option maxHeartbeats 4000000 in
set_option maxRecDepth 100000 in
theorem expreach_any (x : Xt) (s : Nat) (h8 : s ≤ 255) (w : World) (hs : Std w) (hX : RdX w w.heap.size x) : Calls Tryz.prog 3 #[xV x, .int .u8 (s : Int)] w (Bel (.bool true) w) := by
  have KE := Lib.hid (fun W (h : Below w.heap.size w W) => each_any x W (hX.to h))
  have KH := Lib.hid (fun W (h : Below w.heap.size w W) => heavy_any x W (hX.to h))
  have KL := Lib.hid (fun W (h : Below w.heap.size w W) => lives_any W (hs.to h))
  have KR : x.size ≤ 500 → Hid (∀ W, Below w.heap.size w W → Calls Tryz.prog 7 #[xV x] W (NewX x.list W)) := fun h => Lib.hid fun W hb => rList_any x W (hX.to hb) (by omega)
  have hsm := spare_small x 1 29826161 (by omega)
  have qn := fun (w : World) (f : FuncId) (c : Array Value) => run_eql_fn_nil (P := Tryz.prog) w 26 (.func f) #[] c Tryz.underlying26
  have HX := Lib.hid hX
  clear hs hX
  by_cases z : 500 < x.size
  · rw [decide_eq_true z] at KH
    clear KR hsm
    simp only [xV] at KE KH ⊢
    go_enter Tryz.func3, Tryz.ntmps3
    go_wp2_with (first
      | (go_at_call 4; (with_reducible refine (KE.out _ ?_).mono ?_); (focus ((repeat (first | (with_reducible exact Below.refl _ _) | (with_reducible assumption) | (with_reducible exact bel_box _) | (with_reducible refine bel_step ?_ (by with_reducible assumption)) | (with_reducible refine Below.drew ?_) | (with_reducible refine below_drewN ?_ _) | (with_reducible refine bel_alloc ?_ _))); done)); rintro e w1 hp1; obtain ⟨hb1, f, c, rfl⟩ := hp1.some; clear hp1; (try clear hBw b0 b1 b2 b3 b4 b5 u0 r0 r1 bz); obtain ⟨⟨b0, b1, b2, b3, b4, b5⟩, u0, ⟨r0, r1⟩, bz, hBw⟩ := ev_box (w := w) (x := x) (s := (s : Int)) (W := w1) (by repeat (first | (with_reducible exact Below.refl _ _) | (with_reducible assumption) | (with_reducible exact bel_box _) | (with_reducible refine bel_step ?_ (by with_reducible assumption)) | (with_reducible refine Below.drew ?_) | (with_reducible refine below_drewN ?_ _) | (with_reducible refine bel_alloc ?_ _))))
      | (go_at_call 5; (with_reducible refine (KH.out _ ?_).mono ?_); (focus ((repeat (first | (with_reducible exact Below.refl _ _) | (with_reducible assumption) | (with_reducible exact bel_box _) | (with_reducible refine bel_step ?_ (by with_reducible assumption)) | (with_reducible refine Below.drew ?_) | (with_reducible refine below_drewN ?_ _) | (with_reducible refine bel_alloc ?_ _))); done)); rintro e w2 ⟨rfl, hb2⟩; (try clear hBw b0 b1 b2 b3 b4 b5 u0 r0 r1 bz); obtain ⟨⟨b0, b1, b2, b3, b4, b5⟩, u0, ⟨r0, r1⟩, bz, hBw⟩ := ev_box (w := w) (x := x) (s := (s : Int)) (W := w2) (by repeat (first | (with_reducible exact Below.refl _ _) | (with_reducible assumption) | (with_reducible exact bel_box _) | (with_reducible refine bel_step ?_ (by with_reducible assumption)) | (with_reducible refine Below.drew ?_) | (with_reducible refine below_drewN ?_ _) | (with_reducible refine bel_alloc ?_ _))))
      | (go_at_call 6; (with_reducible refine (KL.out _ ?_).mono ?_); (focus ((repeat (first | (with_reducible exact Below.refl _ _) | (with_reducible assumption) | (with_reducible exact bel_box _) | (with_reducible refine bel_step ?_ (by with_reducible assumption)) | (with_reducible refine Below.drew ?_) | (with_reducible refine below_drewN ?_ _) | (with_reducible refine bel_alloc ?_ _))); done)); rintro e w3 ⟨rfl, hb3⟩; (try clear hBw b0 b1 b2 b3 b4 b5 u0 r0 r1 bz); obtain ⟨⟨b0, b1, b2, b3, b4, b5⟩, u0, ⟨r0, r1⟩, bz, hBw⟩ := ev_box (w := w) (x := x) (s := (s : Int)) (W := w3) (by repeat (first | (with_reducible exact Below.refl _ _) | (with_reducible assumption) | (with_reducible exact bel_box _) | (with_reducible refine bel_step ?_ (by with_reducible assumption)) | (with_reducible refine Below.drew ?_) | (with_reducible refine below_drewN ?_ _) | (with_reducible refine bel_alloc ?_ _)))))
    have hc5 := World.cell?_setCell_same' w3 ⟨w.heap.size + 1 + 1, 0, none⟩ (.bool true) (by rw [r0]; rfl)
    refine bodyPost_ret (v := .bool true) (by simp [results, Tryz.f3, go_sem, hc5]) rfl ?_
    exact ⟨rfl, hBw.setCell (p := ⟨w.heap.size + 1 + 1, 0, none⟩) (show w.heap.size ≤ w.heap.size + 1 + 1 by omega) _⟩
  · rw [decide_eq_false z] at KH
    have hsz : x.size ≤ 500 := by omega
    have KR := KR hsz
    have hsp : 0 ≤ x.sp 1 29826161 := by
      have h1 : (x.size : Int) * (1 + x.size) ≤ 500 * 501 := Int.mul_le_mul (by omega) (by omega) (by omega) (by omega)
      have := hsm (by omega)
      omega
    clear z hsm
    simp only [xV] at KE KH KR ⊢
    refine (callsIn_wide (n := 5)).1 ?_
    refine callsIn_of_wp_marks Tryz.func3 rfl trivial ?_ rfl
    simp only [Tryz.ntmps3, List.size_toArray, List.length_cons, List.length_nil, Nat.reduceAdd, Nat.reduceSub, Array.replicate_succ, Array.replicate_zero, List.push_toArray, List.append_toArray, List.nil_append, List.cons_append]
    gi_wp2_with (first
      | (refine ⟨trivial, ?_⟩; gi_at_call 4; refine (callsIn_wide.2 (KE.out _ ?_)).mono ?_; (focus ((repeat (first | (with_reducible exact Below.refl _ _) | (with_reducible assumption) | (with_reducible exact bel_box _) | (with_reducible refine bel_step ?_ (by with_reducible assumption)) | (with_reducible refine Below.drew ?_) | (with_reducible refine below_drewN ?_ _) | (with_reducible refine bel_alloc ?_ _))); done)); rintro e w1 ⟨hb1, (⟨h, _⟩ | ⟨_, x', be, rfl, hct, hx', hbe, hcs⟩)⟩; (first | (exact absurd h (by omega)) | skip); have HCS := Lib.hid hcs; clear hcs; (try clear hBw b0 b1 b2 b3 b4 b5 u0 r0 r1 bz); obtain ⟨⟨b0, b1, b2, b3, b4, b5⟩, u0, ⟨r0, r1⟩, bz, hBw⟩ := ev_box (w := w) (x := x) (s := (s : Int)) (W := w1) (by repeat (first | (with_reducible exact Below.refl _ _) | (with_reducible assumption) | (with_reducible exact bel_box _) | (with_reducible refine bel_step ?_ (by with_reducible assumption)) | (with_reducible refine Below.drew ?_) | (with_reducible refine below_drewN ?_ _) | (with_reducible refine bel_alloc ?_ _))))
      | (refine ⟨trivial, ?_⟩; gi_at_call 5; refine (callsIn_wide.2 (KH.out _ ?_)).mono ?_; (focus ((repeat (first | (with_reducible exact Below.refl _ _) | (with_reducible assumption) | (with_reducible exact bel_box _) | (with_reducible refine bel_step ?_ (by with_reducible assumption)) | (with_reducible refine Below.drew ?_) | (with_reducible refine below_drewN ?_ _) | (with_reducible refine bel_alloc ?_ _))); done)); rintro e w2 ⟨rfl, hb2⟩; (try clear hBw b0 b1 b2 b3 b4 b5 u0 r0 r1 bz); obtain ⟨⟨b0, b1, b2, b3, b4, b5⟩, u0, ⟨r0, r1⟩, bz, hBw⟩ := ev_box (w := w) (x := x) (s := (s : Int)) (W := w2) (by repeat (first | (with_reducible exact Below.refl _ _) | (with_reducible assumption) | (with_reducible exact bel_box _) | (with_reducible refine bel_step ?_ (by with_reducible assumption)) | (with_reducible refine Below.drew ?_) | (with_reducible refine below_drewN ?_ _) | (with_reducible refine bel_alloc ?_ _))))
      | (refine ⟨trivial, ?_⟩; gi_at_call 7; refine (callsIn_wide.2 (KR.out _ ?_)).mono ?_; (focus ((repeat (first | (with_reducible exact Below.refl _ _) | (with_reducible assumption) | (with_reducible exact bel_box _) | (with_reducible refine bel_step ?_ (by with_reducible assumption)) | (with_reducible refine Below.drew ?_) | (with_reducible refine below_drewN ?_ _) | (with_reducible refine bel_alloc ?_ _))); done)); rintro e w3 ⟨A, c, rfl, hA, hb3⟩; (try clear hBw b0 b1 b2 b3 b4 b5 u0 r0 r1 bz); obtain ⟨⟨b0, b1, b2, b3, b4, b5⟩, u0, ⟨r0, r1⟩, bz, hBw⟩ := ev_box (w := w) (x := x) (s := (s : Int)) (W := w3) (by repeat (first | (with_reducible exact Below.refl _ _) | (with_reducible assumption) | (with_reducible exact bel_box _) | (with_reducible refine bel_step ?_ (by with_reducible assumption)) | (with_reducible refine Below.drew ?_) | (with_reducible refine below_drewN ?_ _) | (with_reducible refine bel_alloc ?_ _)))))
    obtain ⟨V, hV⟩ : ∃ V, (w3.alloc (.cells #[.slice A x.list.length c] 22)).alloc (.cells #[.int .i64 0] 3) = V := ⟨_, rfl⟩
    rw [hV]
    have hVz : V.heap.size = w3.heap.size + 2 := by rw [← hV]; simp only [World.size_alloc]
    have hV3 : Below w3.heap.size w3 V := by rw [← hV]; exact bel_alloc (bel_box _) _
    have hV1 : Below w1.heap.size w1 V := (bel_step hb2 hb3).trans (hV3.mono (bel_step hb2 hb3).size)
    have h13 : w1.heap.size ≤ w3.heap.size := (bel_step hb2 hb3).size
    have vp : V.cell? ⟨w3.heap.size, 0, none⟩ = some (.slice A x.list.length c) := by rw [← hV]; simp [go_sem]
    have vq : V.cell? ⟨w3.heap.size + 1, 0, none⟩ = some (.int .i64 0) := by rw [← hV]; simp [go_sem]
    have vf : V.frozen? ⟨w3.heap.size + 1, 0, none⟩ = false := by rw [← hV]; simp [go_sem]
    have vu := (hV3.cell (p := ⟨w.heap.size + 1, 0, none⟩) (show w.heap.size + 1 < w3.heap.size by omega)).trans u0
    have vr := (hV3.cell (p := ⟨w.heap.size + 1 + 1, 0, none⟩) (show w.heap.size + 1 + 1 < w3.heap.size by omega)).trans r0
    have vg := (hV3.frozen (p := ⟨w.heap.size + 1 + 1, 0, none⟩) (show w.heap.size + 1 + 1 < w3.heap.size by omega)).trans r1
    have hVw : Below w.heap.size w V := hBw.trans (hV3.mono hBw.size)
    have hVA : RdXs V w3.heap.size A x.list := fun hn => by
      obtain ⟨ad, e, hb, hc⟩ := hA hn
      exact ⟨ad, e, hb, fun i y hy => (hc i y hy).keep fun p hp => hV3.cell (by rw [hp, add_block]; exact hb)⟩
    have HVX := Lib.hid (HX.out.blw hVw (Nat.le_refl _))
    have HVA := Lib.hid hVA
    obtain ⟨c0, c1, c2, c3, c4, c5⟩ := HCS.out
    have hyd := each1_yields (5 - 1) be w1.heap.size (fun k => k = w3.heap.size + 1) x' V (fun k hk => by subst hk; omega) (by omega) hbe (hx'.blw hV1 (Nat.le_refl _)) (by rw [ct_size hct]; omega)
      ((hV1.cell (p := ⟨be, 0, none⟩) hbe).trans c0) ((hV1.cell (p := ⟨be, 1, none⟩) hbe).trans c1) ((hV1.cell (p := ⟨be, 2, none⟩) hbe).trans c2) ((hV1.cell (p := ⟨be, 3, none⟩) hbe).trans c3) ((hV1.cell (p := ⟨be, 4, none⟩) hbe).trans c4) ((hV1.cell (p := ⟨be, 5, none⟩) hbe).trans c5)
    rw [ct_list x' x hct] at hyd
    have HLL := Lib.hid (list_length x)
    have HLV := Lib.hid (And.intro hV3 hVw)
    clear hV hV1 hVA hA hx' hct HCS c0 c1 c2 c3 c4 c5 hb1 hb2 hb3 b0 b1 b2 b3 b4 b5 u0 r0 r1 hBw KE KH KR qn
    refine range_yields (by decide) (gf := 13) (lb := #[.pointer (some ⟨be, 0, none⟩)]) rfl (enters_of Tryz.func13 (by kernel_rfl) rfl) hyd (Below.refl _ _) (fun _ => rfl)
      (EvI x s (w3.heap.size + 1) w V) (EvX x s (w3.heap.size + 1) w V) (EvI.own (by omega)) (EvX.own (by omega))
      ⟨⟨List.nil_prefix, Nat.zero_le _⟩, ⟨⟨vq, vf⟩, KX.refl _ _⟩, hVw⟩
      (fun y a' W => ∃ Bx, (W.cell? ⟨Bx, 0, none⟩ = some (.int .i64 y.k) ∧ W.cell? ⟨Bx, 1, none⟩ = some (.int .i64 y.op) ∧ W.cell? ⟨Bx, 2, none⟩ = some (.int .i64 y.t) ∧ W.cell? ⟨Bx, 3, none⟩ = some (.int .i64 y.v) ∧ W.cell? ⟨Bx, 4, none⟩ = some (.string y.nm) ∧ W.cell? ⟨Bx, 5, none⟩ = some (.slice y.A y.ar.length y.c)) ∧ RdX W W.heap.size y ∧ a' = { tmps := #[.agg #[.int .i64 x.k, .int .i64 x.op, .int .i64 x.t, .int .i64 x.v, .string x.nm, .slice x.A x.ar.length x.c], .int .u8 (s : Int), .pointer (some ⟨w.heap.size, 0, none⟩), .pointer (some ⟨w.heap.size + 1, 0, none⟩), .pointer (some ⟨w.heap.size + 1 + 1, 0, none⟩), .func (.func 13) #[] #[.pointer (some ⟨be, 0, none⟩)], .pointer (some ⟨w3.heap.size, 0, none⟩), .pointer (some ⟨w3.heap.size + 1, 0, none⟩), .pointer (some ⟨Bx, 0, none⟩), .agg #[.int .i64 x.k, .int .i64 x.op, .int .i64 x.t, .int .i64 x.v, .string x.nm, .slice x.A x.ar.length x.c], .func (.func 13) #[] #[.pointer (some ⟨be, 0, none⟩)], .func (.func 13) #[] #[.pointer (some ⟨be, 0, none⟩)], .bool false, .agg #[.int .i64 x.k, .int .i64 x.op, .int .i64 x.t, .int .i64 x.v, .string x.nm, .slice x.A x.ar.length x.c], .bool false, undef, .agg #[.int .i64 x.k, .int .i64 x.op, .int .i64 x.t, .int .i64 x.v, .string x.nm, .slice x.A x.ar.length x.c], .slice A x.list.length c, .func (.func 13) #[] #[.pointer (some ⟨be, 0, none⟩)], xV y, undef, undef, undef, undef, undef, undef, undef, undef, undef, undef, undef, undef, undef, undef, undef, undef, undef, undef, undef, undef, undef, undef, undef, undef, undef, undef, undef, undef, undef, undef], defers := [] })
      (fun y a' s A B row hs hg hr => by
        obtain ⟨Bx, ⟨h2, h3, h4, h5, h6, h7⟩, h8, h9⟩ := hs
        exact ⟨Bx, ⟨cell_kept h2 hg (fun r e => (hr r e).2), cell_kept h3 hg (fun r e => (hr r e).2), cell_kept h4 hg (fun r e => (hr r e).2), cell_kept h5 hg (fun r e => (hr r e).2), cell_kept h6 hg (fun r e => (hr r e).2), cell_kept h7 hg (fun r e => (hr r e).2)⟩, (h8.kx (S := fun _ => False) (KX.grown hg fun r e => (hr r e).2) (fun _ h => h.elim)).up hg.size, h9⟩) ?assign ?body ?done ?stop
    case assign =>
      rintro l2 pre y X K hi hq hK
      rw [fold1]
      simp only [xV] at hK ⊢
      gi_wp2
      obtain ⟨d0, d1, d2, d3, d4, d5⟩ := bx_box X y
      exact hK _ _ ((KeepsOthers.alloc _ _).from _) (KX.of_below (bel_box _)) ((EvI.own (B := V.heap.size) (by omega)).alloc _ hi) ⟨X.heap.size, ⟨d0, d1, d2, d3, d4, d5⟩, hq.to (bel_box _), rfl⟩
    case body =>
      rintro l2 pre y a' X ⟨⟨i1, i2⟩, ⟨⟨i3, i4⟩, i5⟩, i6⟩ ⟨Bx, ⟨d0, d1, d2, d3, d4, d5⟩, hyr, rfl⟩
      have mixed : Tryz.prog.follows .mixedOrders = true := by kernel_rfl
      have xp := i5.cell (a := ⟨_, _, none⟩) (fun hs => by simp at hs) vp
      have xu := i5.cell (a := ⟨_, _, none⟩) (fun hs => by simp only at hs; omega) vu
      have xr := i5.cell (a := ⟨_, _, none⟩) (fun hs => by simp only at hs; omega) vr
      have xg := (i5.frozen (a := ⟨_, _, none⟩) (fun hs => by simp only at hs; omega) vr).trans vg
      have hpl : pre.length ≤ x.list.length := by have := i1.length_le; simpa using this
      have HI := Lib.hid i1
      have HK := Lib.hid (And.intro i5 i6)
      clear vp vq vf vu vr vg i1 i5 i6 hyd
      have hbx : w3.heap.size + 1 < X.heap.size := by have := World.block_lt_of_cell? X _ i3; exact this
      have HUP : Hid (∀ W, Below X.heap.size X W → W.cell? ⟨w3.heap.size + 1, 0, none⟩ = some (.int .i64 (pre.length : Int)) ∧ W.frozen? ⟨w3.heap.size + 1, 0, none⟩ = false ∧ W.cell? ⟨w.heap.size + 1, 0, none⟩ = some (.int .u8 (s : Int)) ∧ W.cell? ⟨w.heap.size + 1 + 1, 0, none⟩ = some (.bool false) ∧ W.frozen? ⟨w.heap.size + 1 + 1, 0, none⟩ = false) := Lib.hid fun W h =>
        ⟨(h.cell (p := ⟨_, 0, none⟩) hbx).trans i3, (h.frozen (p := ⟨_, 0, none⟩) hbx).trans i4, (h.cell (p := ⟨w.heap.size + 1, 0, none⟩) (show w.heap.size + 1 < X.heap.size by omega)).trans xu, (h.cell (p := ⟨w.heap.size + 1 + 1, 0, none⟩) (show w.heap.size + 1 + 1 < X.heap.size by omega)).trans xr, (h.frozen (p := ⟨w.heap.size + 1 + 1, 0, none⟩) (show w.heap.size + 1 + 1 < X.heap.size by omega)).trans xg⟩
      by_cases hlt : pre.length < x.list.length
      · obtain ⟨ad, z, hA, had, hz, hzm, ⟨c0, c1, c2, c3, c4, c5⟩⟩ := (HVA.out.kx HK.out.1 (fun k hk => by subst hk; omega)).at_ hlt
        have hzr : RdX X X.heap.size z := ((HVX.out.kx HK.out.1 (fun k hk => by subst hk; omega)).mem z hzm).up (by omega)
        have hnx := pre_next (p := pre.map Xt.ct) (l := x.list.map Xt.ct) (a := y.ct) (k := pre.length) (b := z.ct) HI.out (by simp) (by rw [List.getElem?_map, hz]; rfl)
        have KS := Lib.hid (fun W (h : Below X.heap.size X W) => rsameX_all y z W (hyr.to h) (hzr.to h))
        have HS2 : Hid (sameX y z = true ↔ (pre ++ [y]).map Xt.ct <+: x.list.map Xt.ct) := Lib.hid (by rw [sameX_iff, List.map_append]; exact hnx.symm)
        have hp5 : pre.length ≤ 500 := by have := HLL.out; omega
        subst hA
        clear hz hzr hnx hyr hzm had xu xr xg i4
        simp only [xV] at KS
        generalize sameX y z = b at *
        have hd : decide (x.list.length ≤ pre.length) = false := by simp; omega
        gi_wp2
        gi_cut [32] from 20 (fun s W => s = .bool (!b) ∧ Below X.heap.size X W)
        case first =>
          gi_region_with_o (refine ⟨trivial, ?_⟩; gi_at_call 8; refine (CallsIn.inRound l2 (callsIn_wide.2 (KS.out _ ?_))).mono ?_; (focus ((repeat (first | (with_reducible exact Below.refl _ _) | (with_reducible assumption) | (with_reducible exact bel_box _) | (with_reducible refine bel_step ?_ (by with_reducible assumption)) | (with_reducible refine Below.drew ?_) | (with_reducible refine below_drewN ?_ _) | (with_reducible refine bel_alloc ?_ _))); done)); rintro e w5 ⟨rfl, hb5⟩; have HB5 := Lib.hid (show Below X.heap.size X w5 from (by repeat (first | (with_reducible exact Below.refl _ _) | (with_reducible assumption) | (with_reducible exact bel_box _) | (with_reducible refine bel_step ?_ (by with_reducible assumption)) | (with_reducible refine Below.drew ?_) | (with_reducible refine below_drewN ?_ _) | (with_reducible refine bel_alloc ?_ _)))); clear hb5)
          all_goals
            (try gi_wp2_with (fail))
            gi_meet
            exact ⟨rfl, HB5.out⟩
        case rest =>
          obtain ⟨rfl, hbc⟩ := hcut
          obtain ⟨y3, y4, yu, yr, yg⟩ := HUP.out wc hbc
          have HB5 := Lib.hid hbc
          clear c0 c1 c2 c3 c4 c5 d0 d1 d2 d3 d4 d5 xp i3 hbc KS
          cases b
          · have nb : (!false) = true := rfl
            have HC : Hid (¬ (pre ++ [y]).map Xt.ct <+: x.list.map Xt.ct) := Lib.hid fun h => by have := HS2.out.2 h; cases this
            clear HS2
            gi_wp2
            exact ⟨(((KeepsOthers.of_grownBy (below_grown HB5.out) (fun j o e => by cases e))).trans (KeepsOthers.setCell _ _ _)).from _, .inl ⟨rfl, HC.out⟩⟩
          · have nb : (!true) = false := rfl
            have HC := Lib.hid (HS2.out.1 rfl)
            clear HS2
            have HKF := Lib.hid (((KeepsOthers.of_grownBy (below_grown HB5.out) (fun j o e => by cases e)).trans (KeepsOthers.setCell wc ⟨w3.heap.size + 1, 0, none⟩ (Value.int .i64 ((pre.length : Int) + 1)))).from V.heap.size)
            have HKX := Lib.hid ((KX.of_below HB5.out).trans (KX.set (S := fun k => k = w3.heap.size + 1) (W := wc) (a := ⟨w3.heap.size + 1, 0, none⟩) rfl (Value.int .i64 ((pre.length : Int) + 1))))
            have HBL := Lib.hid ((HK.out.2.trans (HB5.out.mono HK.out.2.size)).setCell (p := ⟨w3.heap.size + 1, 0, none⟩) (show w.heap.size ≤ w3.heap.size + 1 by omega) (Value.int .i64 ((pre.length : Int) + 1)))
            have HCN : Hid ((wc.setCell ⟨w3.heap.size + 1, 0, none⟩ (Value.int .i64 ((pre.length : Int) + 1))).cell? ⟨w3.heap.size + 1, 0, none⟩ = some (.int .i64 (((pre ++ [y]).length : Nat) : Int))) := Lib.hid (by rw [show (((pre ++ [y]).length : Nat) : Int) = (pre.length : Int) + 1 by simp]; exact World.cell?_setCell_same' _ _ _ (by rw [y3]; rfl))
            have HFN : Hid ((wc.setCell ⟨w3.heap.size + 1, 0, none⟩ (Value.int .i64 ((pre.length : Int) + 1))).frozen? ⟨w3.heap.size + 1, 0, none⟩ = false) := Lib.hid ((World.frozen?_setCell _ _ _ _).trans y4)
            by_cases hst : pre.length + 1 ≤ s
            · have HST : Hid ((pre ++ [y]).length ≤ s) := Lib.hid (by simp; omega)
              gi_wp2
              exact ⟨HKF.out, HKX.out, ⟨HC.out, HST.out⟩, ⟨⟨HCN.out, HFN.out⟩, HK.out.1.trans HKX.out⟩, HBL.out⟩
            · have HST : Hid ((pre ++ [y]).length = s + 1) := Lib.hid (by simp; omega)
              gi_wp2
              exact ⟨HKF.out, .inr ⟨rfl, ⟨⟨HC.out, Nat.le_of_eq HST.out⟩, ⟨⟨HCN.out, HFN.out⟩, HK.out.1.trans HKX.out⟩, HBL.out⟩, HST.out⟩⟩
      · have q0 : (x.list.length : Int) ≤ (pre.length : Int) := by omega
        have HC : Hid (¬ (pre ++ [y]).map Xt.ct <+: x.list.map Xt.ct) := Lib.hid fun h => by have := h.length_le; simp at this; omega
        clear hlt
        gi_wp2
        gi_cut [32] from 20 (fun s W => s = .bool true ∧ Below X.heap.size X W)
        case first =>
          gi_region_with_o (refine ⟨trivial, ?_⟩)
          all_goals
            (try gi_wp2_with (fail))
            gi_meet
            exact ⟨rfl, (by repeat (first | (with_reducible exact Below.refl _ _) | (with_reducible assumption) | (with_reducible exact bel_box _) | (with_reducible refine bel_step ?_ (by with_reducible assumption)) | (with_reducible refine Below.drew ?_) | (with_reducible refine below_drewN ?_ _) | (with_reducible refine bel_alloc ?_ _)))⟩
        case rest =>
          obtain ⟨rfl, hbc⟩ := hcut
          obtain ⟨y3, y4, yu, yr, yg⟩ := HUP.out wc hbc
          have HB5 := Lib.hid hbc
          clear d0 d1 d2 d3 d4 d5 xp xr xu xg i3 i4 hbc
          gi_wp2
          exact ⟨(((KeepsOthers.of_grownBy (below_grown HB5.out) (fun j o e => by cases e))).trans (KeepsOthers.setCell _ _ _)).from _, .inl ⟨rfl, HC.out⟩⟩
    case done =>
      rintro D zs X hD hz ⟨⟨i1, i2⟩, ⟨⟨i3, i4⟩, i5⟩, i6⟩ hK
      have q9 : ((zs.length : Int) == min (x.list.length : Int) ((s : Int) + 1)) = true := by
        have h1 := congrArg List.length hz
        simp only [List.length_map] at h1
        rw [beq_iff_eq]
        omega
      have xp := i5.cell (a := ⟨_, _, none⟩) (fun hs => by simp at hs) vp
      have xu := i5.cell (a := ⟨_, _, none⟩) (fun hs => by simp only at hs; omega) vu
      have xr := i5.cell (a := ⟨_, _, none⟩) (fun hs => by simp only at hs; omega) vr
      have xg := (i5.frozen (a := ⟨_, _, none⟩) (fun hs => by simp only at hs; omega) vr).trans vg
      have hBX := i6
      have hDX := (Array.getElem?_eq_some_iff.1 hK).1
      have hrz : w.heap.size + 1 + 1 < X.heap.size := World.block_lt_of_cell? X _ xr
      have HI6 := Lib.hid i6
      have HIK := Lib.hid hK
      clear vp vq vf vu vr vg hyd i1 i2 i4 i5 i6 hBX hK hz
      gi_wp2_with (refine ⟨trivial, ?_⟩; gi_at_call 6; refine (callsIn_wide.2 (KL.out _ ?_)).mono ?_; (focus (exact HI6.out; done)); rintro e w9 ⟨rfl, hb9⟩; have y0 := (hb9.cell (p := ⟨w.heap.size + 1 + 1, 0, none⟩) hrz).trans xr; have y1 := (hb9.frozen (p := ⟨w.heap.size + 1 + 1, 0, none⟩) hrz).trans xg)
      have hK9 := (hb9.block D hDX).trans HIK.out
      have hB9 := HI6.out.trans (hb9.mono HI6.out.size)
      have hK' := (KeepsOthers.setCell w9 ⟨w.heap.size + 1 + 1, 0, none⟩ (Value.bool true)).same D _ hK9 rfl
      refine ⟨by simp, .inl ⟨_, _, rfl, run_takeDeferred hK', ?_⟩⟩
      have hc5 := cell_kept (World.cell?_setCell_same' w9 ⟨w.heap.size + 1 + 1, 0, none⟩ (Value.bool true) (by rw [y0]; rfl)) (grownBy_putObj' _ D (.deferred none)) (fun r e => by cases e; exact ⟨_, hK', rfl⟩)
      refine ⟨.bool true, ?_, rfl, (hB9.setCell (p := ⟨w.heap.size + 1 + 1, 0, none⟩) (show w.heap.size ≤ w.heap.size + 1 + 1 by omega) _).trans (belowK_b (w := w) (Nat.le_refl _) _ D _ _ (by omega) hK' rfl rfl)⟩
      simp [results, Tryz.f3, go_sem, hc5]
    case stop =>
      rintro D c zs X hD hz hx hK
      obtain ⟨rfl, h⟩ | ⟨rfl, ⟨⟨i1, i2⟩, ⟨⟨i3, i4⟩, i5⟩, i6⟩, hl⟩ := hx
      · exact absurd hz h
      have q9 : ((zs.length : Int) == min (x.list.length : Int) ((s : Int) + 1)) = true := by
        have h1 := i1.length_le
        simp only [List.length_map] at h1
        rw [beq_iff_eq]
        omega
      clear hl
      have xp := i5.cell (a := ⟨_, _, none⟩) (fun hs => by simp at hs) vp
      have xu := i5.cell (a := ⟨_, _, none⟩) (fun hs => by simp only at hs; omega) vu
      have xr := i5.cell (a := ⟨_, _, none⟩) (fun hs => by simp only at hs; omega) vr
      have xg := (i5.frozen (a := ⟨_, _, none⟩) (fun hs => by simp only at hs; omega) vr).trans vg
      have hBX := i6
      have hDX := (Array.getElem?_eq_some_iff.1 hK).1
      have hrz : w.heap.size + 1 + 1 < X.heap.size := World.block_lt_of_cell? X _ xr
      have HI6 := Lib.hid i6
      have HIK := Lib.hid hK
      clear vp vq vf vu vr vg hyd i1 i2 i4 i5 i6 hBX hK hz
      gi_wp2_with (refine ⟨trivial, ?_⟩; gi_at_call 6; refine (callsIn_wide.2 (KL.out _ ?_)).mono ?_; (focus (exact HI6.out; done)); rintro e w9 ⟨rfl, hb9⟩; have y0 := (hb9.cell (p := ⟨w.heap.size + 1 + 1, 0, none⟩) hrz).trans xr; have y1 := (hb9.frozen (p := ⟨w.heap.size + 1 + 1, 0, none⟩) hrz).trans xg)
      have hK9 := (hb9.block D hDX).trans HIK.out
      have hB9 := HI6.out.trans (hb9.mono HI6.out.size)
      have hK' := (KeepsOthers.setCell w9 ⟨w.heap.size + 1 + 1, 0, none⟩ (Value.bool true)).same D _ hK9 rfl
      refine ⟨by simp, .inl ⟨_, _, rfl, run_takeDeferred hK', ?_⟩⟩
      have hc5 := cell_kept (World.cell?_setCell_same' w9 ⟨w.heap.size + 1 + 1, 0, none⟩ (Value.bool true) (by rw [y0]; rfl)) (grownBy_putObj' _ D (.deferred none)) (fun r e => by cases e; exact ⟨_, hK', rfl⟩)
      refine ⟨.bool true, ?_, rfl, (hB9.setCell (p := ⟨w.heap.size + 1 + 1, 0, none⟩) (show w.heap.size ≤ w.heap.size + 1 + 1 by omega) _).trans (belowK_b (w := w) (Nat.le_refl _) _ D _ _ (by omega) hK' rfl rfl)⟩
      simp [results, Tryz.f3, go_sem, hc5]
end Go.Proofs.YtoekgbdomeklgaaGreatDoor
/- ExprEach at whatever byte. -/
namespace Go.Proofs.YtoekgbdomeklgaaGreatDoor
set_option linter.unusedVariables false
set_option linter.unusedSimpArgs false
open Go.RowKit
theorem expreach_int (x : Xt) (a : Int) (h0 : 0 ≤ a) (h1 : a ≤ 255) (w : World) (hs : Std w) (hX : RdX w w.heap.size x) : Calls Tryz.prog 3 #[xV x, .int .u8 a] w (Bel (.bool true) w) := by
  obtain ⟨s, rfl⟩ : ∃ s : Nat, a = s := ⟨a.toNat, by omega⟩
  exact expreach_any x s (by omega) w hs hX
end Go.Proofs.YtoekgbdomeklgaaGreatDoor
/- The frame of the rows of layer 6: what the listed variables give; an argument that is an expression. -/
namespace Go.Proofs.YtoekgbdomeklgaaGreatDoor
set_option linter.unusedVariables false
set_option linter.unusedSimpArgs false
open Go.ChangeShapes Go.WideShapes Go.ChangeAt Go.RowKit Go.Deep Go.WideElems
def laidL : List (String × DataW Unit) := [("math/bits.deBruijn32tab", Rows.laid_math_bits_deBruijn32tab), ("math/bits.deBruijn64tab", Rows.laid_math_bits_deBruijn64tab), ("internal/strconv.uint64pow10", Rows.laid_internal_strconv_uint64pow10), ("unicode/utf8.acceptRanges", Rows.laid_unicode_utf8_acceptRanges), ("strconv.ErrRange", Rows.laid_strconv_ErrRange), ("strconv.ErrSyntax", Rows.laid_strconv_ErrSyntax), ("unicode/utf8.first", Rows.laid_unicode_utf8_first)]
theorem tyTab : (Tryz.prog.globals[5]?).map (·.type) = some 130 := by kernel_rfl
theorem tySyn : (Tryz.prog.globals[1]?).map (·.type) = some 76 := by kernel_rfl
theorem tyRng : (Tryz.prog.globals[2]?).map (·.type) = some 76 := by kernel_rfl
theorem star : "*" ++ "errors.errorString" = "*errors.errorString" := by decide
theorem rowES (u : TypeId) (h : Tryz.prog.typeName? 3 u = some "*errors.errorString") : u = 120 :=
  typeName_ptr_named (nm := "errors.errorString") (by rw [star]; kernel_rfl) (by kernel_rfl) (by decide) u (by rw [star]; exact h)
theorem std_of_laid {W : World} (h : laidMetH Tryz.prog laidL W) : Std W := by
  rw [MakeChecks.laidMetH_plain _ _ _ (by kernel_rfl)] at h
  have h3 : laidMet Tryz.prog (("internal/strconv.uint64pow10", Lib.tabData .u64 Lib.pow10Tab) :: [("unicode/utf8.acceptRanges", Rows.laid_unicode_utf8_acceptRanges), ("strconv.ErrRange", Rows.laid_strconv_ErrRange), ("strconv.ErrSyntax", Rows.laid_strconv_ErrSyntax), ("unicode/utf8.first", Rows.laid_unicode_utf8_first)]) W := h.tail.tail
  have h4 := h3.tail.tail
  have h5 := h4.tail
  refine ⟨Lib.tabIs_of_head gTab tyTab Tryz.underlying130 Tryz.underlying105 (by kernel_rfl) (by kernel_rfl) h3, ?_, ?_⟩
  · obtain ⟨a, s, hv, _⟩ := laid_sentinel h5 gSyn tySyn Tryz.underlying76 rowES Tryz.underlying120 Tryz.underlying122 rfl rfl Tryz.underlying9 (by kernel_rfl) (by kernel_rfl)
    exact ⟨_, _, hv⟩
  · obtain ⟨a, s, hv, _⟩ := laid_sentinel h4 gRng tyRng Tryz.underlying76 rowES Tryz.underlying120 Tryz.underlying122 rfl rfl Tryz.underlying9 (by kernel_rfl) (by kernel_rfl)
    exact ⟨_, _, hv⟩
theorem u8_le {n : Int} (h : (Lit.int .u8 n).wf = true) : n ≤ 255 := by
  have h2 : n ≤ IntKind.u8.max := by simp only [Lit.wf, Bool.and_eq_true, decide_eq_true_eq] at h; exact h.2
  exact h2
theorem u8_ge {n : Int} (h : (Lit.int .u8 n).wf = true) : 0 ≤ n := by
  have h2 : IntKind.u8.min ≤ n := by simp only [Lit.wf, Bool.and_eq_true, decide_eq_true_eq] at h; exact h.1
  exact h2
section
variable {H : Type} {enc : TypeId × Value → H} {w : World} {held : Bool}
set_option maxRecDepth 100000 in
/-- an expression, opened -/
theorem open_expr {b0 : Nat} {r : Reach} {v : Value} {d : DataW H} {p : List MemPlace} (hv : Value.okWide Tryz.prog w r b0 24 v) (h : DataW.Trod enc Tryz.prog w 0 (fun _ => true) held 24 v d p) (hsz : ∀ n ∈ d.weights Tryz.prog 24, n ≤ reachBytes) :
    ∃ x : Xt, v = xV x ∧ RdX w w.heap.size x ∧ NmB x := by
  obtain ⟨cs, rfl, hs⟩ := okWide_struct Tryz.underlying24 hv
  obtain ⟨fuel, hf⟩ := h
  obtain ⟨x, hx, hR, hN⟩ := rd_expr Tryz.underlying24 (by kernel_rfl) rfl rfl rfl rfl rfl rfl (by kernel_rfl) (by kernel_rfl) (by kernel_rfl) (by kernel_rfl) (by kernel_rfl) (by kernel_rfl) Tryz.underlying3 Tryz.underlying3 Tryz.underlying3 Tryz.underlying3 Tryz.underlying9 Tryz.underlying22 fuel _ _ hf hsz
  refine ⟨x, ?_, hR, hN⟩
  have : cs.toList = _ := hx
  unfold xV
  congr 1
  exact Array.toList_inj.1 this
end
end Go.Proofs.YtoekgbdomeklgaaGreatDoor
