/- walk of the program: the iterator over an expression. -/
import Derived.Test.YtfogkcccjemloaaGreatDoorEb
import Derived.RangeFuncNested
import Derived.RangeFuncBound
import Derived.RangeFuncCalls
import Derived.RangeFuncLeaves
import Derived.RangeFuncFrom
import Derived.Shelf.Abstract
import Derived.Shelf.RegionOpen
import Derived.WalkKit
import Derived.OwnWalkIn
import Derived.TacticsInMore
import Derived.LoopNIn
import Derived.LoopIn
namespace Go.Proofs.YtfogkcccjemloaaGreatDoor
set_option linter.unusedVariables false
set_option linter.unusedSimpArgs false
open Go.RowKit Go.Shelf
attribute [local go_sem] Oper.semAt_some
theorem room_none {F : Fence} (hd : F.depth = none) (k : Nat) : F.room k := fun d h => by rw [hd] at h; cases h
theorem round_any {F : Fence} (hd : F.depth = none) {m m' : Nat} {P : Program} {l : Nat} {f : FuncId} {tmps : Array Value} {assign body : Code} {w : World} {R : Ending → World → Prop}
    (h : RoundIn F m P l f tmps assign body w R) : RoundIn F m' P l f tmps assign body w R := ⟨h.1, fun c cs _ => h.2 c cs (room_none hd _)⟩
theorem yield_any {F : Fence} (hd : F.depth = none) {m : Nat} (m' : Nat) {P : Program} {l : Nat} {args : Array Value} {W : World} {R : Ending → World → Prop} (h : YieldAt F m P l args W R) : YieldAt F m' P l args W R := by
  obtain ⟨fn, tmps, assign, body, hy, hR⟩ := h
  exact ⟨fn, tmps, assign, body, hy, round_any hd hR⟩
theorem below_grown {W W' : World} (h : Below W.heap.size W W') : W.grownBy W' none := ⟨h.os, h.tape, h.output, h.size, fun k hk _ => h.block k hk⟩
theorem abides_below {β : Type} {B : Nat} {J : β → World → Prop} (h : AbidesFrom B J) {s : β} {W W' : World} (hs : J s W) (hb : Below W.heap.size W W') : J s W' :=
  h s W W' none hs (below_grown hb) (fun r e => by cases e)
set_option maxHeartbeats 400000 in
theorem arguments_any (x : Xt) (w : World) : Calls Tryz.prog 41 #[xV x] w (Bel (.slice x.A x.ar.length x.c) w) := by
  simp only [xV]
  go_enter Tryz.func41, Tryz.ntmps41
  go_wp2
  go_ret
  exact ⟨rfl, (by repeat (first | (with_reducible exact Below.refl _ _) | (with_reducible assumption) | (with_reducible exact bel_box _) | (with_reducible refine bel_step ?_ (by with_reducible assumption)) | (with_reducible refine Below.drew ?_) | (with_reducible refine below_drewN ?_ _) | (with_reducible refine bel_alloc ?_ _)))⟩
/-- what a round leaves: all cells, but those of the blocks in S -/
def KX (S : Nat → Prop) (W W' : World) : Prop := W.heap.size ≤ W'.heap.size ∧ ∀ k o, ¬ S k → W.heap[k]? = some o → o.isCells = true → W'.heap[k]? = some o
theorem KX.refl (S : Nat → Prop) (W : World) : KX S W W := ⟨Nat.le_refl _, fun _ _ _ h _ => h⟩
theorem KX.trans {S : Nat → Prop} {A B C : World} (h : KX S A B) (g : KX S B C) : KX S A C := ⟨Nat.le_trans h.1 g.1, fun k o hs ho hc => g.2 k o hs (h.2 k o hs ho hc) hc⟩
theorem KX.of_below {S : Nat → Prop} {W W' : World} (h : Below W.heap.size W W') : KX S W W' := ⟨h.size, fun k o _ ho _ => (h.block k (Array.getElem?_eq_some_iff.1 ho).1).trans ho⟩
theorem KX.cell {S : Nat → Prop} {W W' : World} (h : KX S W W') {a : Addr} {v : Value} (hs : ¬ S a.block) (hc : W.cell? a = some v) : W'.cell? a = some v := by
  obtain ⟨o, ho, hk⟩ := cells_of_cell hc
  exact (World.cell?_of_block ((h.2 _ o hs ho hk).trans ho.symm)).trans hc
theorem KX.frozen {S : Nat → Prop} {W W' : World} (h : KX S W W') {a : Addr} {v : Value} (hs : ¬ S a.block) (hc : W.cell? a = some v) : W'.frozen? a = W.frozen? a := by
  obtain ⟨o, ho, hk⟩ := cells_of_cell hc
  exact World.frozen?_of_block ((h.2 _ o hs ho hk).trans ho.symm)
theorem KX.put {S : Nat → Prop} (W : World) (l : Nat) (o o' : Obj) (ho : W.heap[l]? = some o) (hc : o.isCells = false) : KX S W (W.putObj l o') := by
  refine ⟨by simp, fun k q _ hq hqc => ?_⟩
  rw [World.putObj_heap_other (fun e => by subst e; rw [ho] at hq; injection hq with hq; subst hq; rw [hc] at hqc; cases hqc)]
  exact hq
theorem RdX.kx {S : Nat → Prop} {W W' : World} {B : Nat} {x : Xt} (h : RdX W B x) (hk : KX S W W') (hS : ∀ k, S k → B ≤ k) : RdX W' B x := by
  induction h with
  | mk x h0 h1 h2 h3 ih =>
    refine .mk x h0 (fun ad i y ha hy => ?_) ih h3
    obtain ⟨ad', e, hb⟩ := h0 (by intro e; rw [e] at hy; simp at hy)
    obtain rfl : ad = ad' := Option.some.inj (ha.symm.trans e)
    have hn : ¬ S (ad.add (i * 6)).block := fun hs => by have := hS _ hs; rw [add_block] at this; omega
    obtain ⟨c0, c1, c2, c3, c4, c5⟩ := h1 ad i y ha hy
    exact ⟨hk.cell hn c0, hk.cell (a := ⟨_, _, none⟩) hn c1, hk.cell (a := ⟨_, _, none⟩) hn c2, hk.cell (a := ⟨_, _, none⟩) hn c3, hk.cell (a := ⟨_, _, none⟩) hn c4, hk.cell (a := ⟨_, _, none⟩) hn c5⟩
theorem bx_box (w : World) (x : Xt) : (bxW w x).cell? ⟨w.heap.size, 0, none⟩ = some (.int .i64 x.k) ∧ (bxW w x).cell? ⟨w.heap.size, 1, none⟩ = some (.int .i64 x.op) ∧ (bxW w x).cell? ⟨w.heap.size, 2, none⟩ = some (.int .i64 x.t) ∧ (bxW w x).cell? ⟨w.heap.size, 3, none⟩ = some (.int .i64 x.v) ∧ (bxW w x).cell? ⟨w.heap.size, 4, none⟩ = some (.string x.nm) ∧ (bxW w x).cell? ⟨w.heap.size, 5, none⟩ = some (.slice x.A x.ar.length x.c) := by
  obtain ⟨b0, b1, b2, b3, b4, b5, _⟩ := bxW_cells (w := w) (x := x) (Below.refl _ _)
  exact ⟨b0, b1, b2, b3, b4, b5⟩
/-- what has come of the arguments, by how many are over -/
theorem parts_list (x : Xt) : ∃ L : Nat → List Xt, x.list = x :: L x.ar.length ∧ L 0 = [] ∧ Hid (∀ (k : Nat) (y : Xt), x.ar[k]? = some y → L (k + 1) = L k ++ y.list ∧ (L k).length + y.size + 1 ≤ x.size ∧ ∃ r, L k ++ y.list ++ r = L x.ar.length) := by
  refine ⟨fun k => ((x.ar.take k).map Xt.list).flatten, ?_, rfl, Lib.hid fun k y hy => ?_⟩
  · simp only [List.take_length]
    exact Xt.list_eq x
  · have e1 : ((x.ar.take (k + 1)).map Xt.list).flatten = ((x.ar.take k).map Xt.list).flatten ++ y.list := by
      rw [take_succ_of hy, List.map_append, List.flatten_append]
      simp
    have e2 : ((x.ar.take k).map Xt.list).flatten ++ y.list ++ ((x.ar.drop (k + 1)).map Xt.list).flatten = ((x.ar.take x.ar.length).map Xt.list).flatten := by
      rw [← e1, ← List.flatten_append, ← List.map_append, List.take_append_drop, List.take_length]
    refine ⟨e1, ?_, _, e2⟩
    have h1 := congrArg List.length e2
    have h2 := list_length x
    rw [Xt.list_eq, List.length_cons] at h2
    rw [List.take_length] at h1
    rw [List.length_append, List.length_append, list_length y] at h1
    simp only
    omega
set_option maxRecDepth 100000 in
set_option maxHeartbeats 4000000 in
theorem walk_each_in (l n₀ B : Nat) (N : Nat) (S : Nat → Prop) (hS : ∀ k, S k → n₀ ≤ k ∧ k < B) (J Jx : List Xt → World → Prop) (hJ : AbidesFrom B J) (P : Xt → Prop)
    (hY : ∀ m pre x W, P x → J pre W → pre.length < N → YieldAt Fence.wide m Tryz.prog l #[xV x] W fun e W' =>
      (e = .returned (.bool true) ∧ J (pre ++ [x]) W' ∧ KX S W W') ∨ (e = .returned (.bool false) ∧ Jx (pre ++ [x]) W')) (x : Xt) :
    ∀ (n : Nat) (pre : List Xt) (W : World), (∀ y ∈ x.list, P y) → RdX W n₀ x → B ≤ W.heap.size → J pre W → pre.length + x.size ≤ N →
      CallsIn Fence.wide n Tryz.prog 63 #[xV x, .func (.func 41) #[] #[], .func (.yield l) #[] #[]] W fun e W' =>
        (e = .returned (.bool true) ∧ J (pre ++ x.list) W' ∧ KX S W W') ∨ (e = .returned (.bool false) ∧ ∃ q, q <+: x.list ∧ Jx (pre ++ q) W') := by
  induction x using Xt.ind with
  | h x ih =>
    intro n pre W hP hX hB hj hN
    have hdd : ∀ k : Nat, (Fence.wide.depth.isSome = true → 1 ≤ k) := fun k h => by cases h
    have h9 := hX.len.1
    unfold maxLen at h9
    have hx1 := Xt.size_pos x
    have hns : ∀ k, B ≤ k → ¬ S k := fun k hk hs => by have := (hS k hs).2; omega
    obtain ⟨b0, b1, b2, b3, b4, b5⟩ := bx_box W x
    -- the round at x itself, with what the walk wants next beside it
    have hy0 := YieldAt.mono (R' := fun e W2 =>
        (e = .returned (.bool true) ∧ J (pre ++ [x]) W2 ∧ KX S W W2 ∧ RdX W2 n₀ x ∧ W.heap.size < W2.heap.size ∧ W2.cell? ⟨W.heap.size, 0, none⟩ = some (.int .i64 x.k) ∧ W2.cell? ⟨W.heap.size, 1, none⟩ = some (.int .i64 x.op) ∧ W2.cell? ⟨W.heap.size, 2, none⟩ = some (.int .i64 x.t) ∧ W2.cell? ⟨W.heap.size, 3, none⟩ = some (.int .i64 x.v) ∧ W2.cell? ⟨W.heap.size, 4, none⟩ = some (.string x.nm) ∧ W2.cell? ⟨W.heap.size, 5, none⟩ = some (.slice x.A x.ar.length x.c)) ∨
        (e = .returned (.bool false) ∧ Jx (pre ++ [x]) W2)) (hY (n - 1) pre x (bxW W x) (hP x (by rw [Xt.list_eq]; simp)) (abides_below hJ hj (bel_box _)) (by omega)) fun e W2 h => h.elim (fun ⟨he, hj2, hk⟩ => .inl ⟨he, hj2, (KX.of_below (bel_box _)).trans hk, (hX.kx (KX.of_below (bel_box _)) (fun k hs => (hS k hs).1)).kx hk (fun k hs => (hS k hs).1), by have := hk.1; rw [bxW_size] at this; omega,
          hk.cell (a := ⟨_, _, none⟩) (hns _ hB) b0, hk.cell (a := ⟨_, _, none⟩) (hns _ hB) b1, hk.cell (a := ⟨_, _, none⟩) (hns _ hB) b2, hk.cell (a := ⟨_, _, none⟩) (hns _ hB) b3, hk.cell (a := ⟨_, _, none⟩) (hns _ hB) b4, hk.cell (a := ⟨_, _, none⟩) (hns _ hB) b5⟩) .inr
    have IH := Lib.hid ih
    have HX := Lib.hid hX
    have HP := Lib.hid hP
    obtain ⟨L, hL, hL0, HL⟩ := parts_list x
    rw [hL] at hP
    have HPL := Lib.hid hP
    clear hP HP
    rw [hL]
    have HA := Lib.hid (fun W => arguments_any x W)
    clear hX ih b0 b1 b2 b3 b4 b5 hY
    simp only [xV] at hy0 HA IH ⊢
    obtain ⟨fn, tmps, assign, body, hy, hR⟩ := hy0
    refine callsIn_of_wp Tryz.func63 rfl trivial ?_ rfl
    simp only [Tryz.ntmps63, List.size_toArray, List.length_cons, List.length_nil, Nat.reduceAdd, Nat.reduceSub, Array.replicate_succ, Array.replicate_zero, List.push_toArray, List.append_toArray, List.nil_append, List.cons_append]
    gi_wp2_with (first
      | ((try refine ⟨hdd _, ?_⟩); refine hR.mono ?_; clear hR; rintro e W2 (⟨rfl, hJ2, hk2, hX2, hz2, d0, d1, d2, d3, d4, d5⟩ | ⟨rfl, hx2⟩))
      | (refine ⟨trivial, hdd _, ?_⟩; gi_at_call 41; refine (callsIn_wide.2 (HA.out _)).mono ?_; rintro e W3 ⟨rfl, hb3⟩))
    · clear HA hy
      have hJ3 := abides_below hJ hJ2 hb3
      have hk3 : KX S W W3 := hk2.trans (KX.of_below hb3)
      clear hX2 hz2 d0 d1 d2 d3 d4 d5 hJ2 hk2 hb3
      gi_loopw [17] (fun i wr => ∃ k : Nat, k ≤ x.ar.length ∧ i = .int .i64 (k : Int) ∧ J (pre ++ x :: L k) wr ∧ KX S W wr) (fun i _ => x.ar.length - (intOf i).toNat)
      case atStart => exact ⟨0, by omega, rfl, by rw [hL0]; exact hJ3, hk3⟩
      case round =>
        obtain ⟨k, hk, rfl, hJk, hkk⟩ := hrel
        by_cases hlt : k < x.ar.length
        · have hXr := HX.out.kx hkk (fun k hs => (hS k hs).1)
          obtain ⟨ad, y, hA, had, hy, hm, ⟨c0, c1, c2, c3, c4, c5⟩, hr⟩ := hXr.at_ hlt
          obtain ⟨e1, e2, r, e3⟩ := HL.out k y hy
          have hcall := (IH.out y hm (n - 1) (pre ++ x :: L k) (bxW wr y) (fun z hz => HPL.out z (List.mem_cons.2 (.inr (by rw [← e3]; simp [hz])))) (hr.kx (KX.of_below (S := S) (bel_box _)) (fun k hs => (hS k hs).1)) (by rw [bxW_size]; have := hkk.1; omega) (abides_below hJ hJk (bel_box _)) (by simp only [List.length_append, List.length_cons]; omega)).mono (R' := fun e W5 =>
            (e = .returned (.bool true) ∧ J (pre ++ x :: L (k + 1)) W5 ∧ KX S W W5) ∨ (e = .returned (.bool false) ∧ ∃ q, q <+: x :: L x.ar.length ∧ Jx (pre ++ q) W5)) (fun e W5 h => h.elim
              (fun ⟨he, hj5, hk5⟩ => .inl ⟨he, by rw [e1]; simpa [List.append_assoc] using hj5, (hkk.trans (KX.of_below (bel_box _))).trans hk5⟩)
              (fun ⟨he, q, ⟨t, ht⟩, hx5⟩ => .inr ⟨he, x :: L k ++ q, ⟨t ++ r, by rw [← e3, ← ht]; simp [List.append_assoc]⟩, by simpa [List.append_assoc] using hx5⟩))
          have HC := Lib.hid hcall
          clear hcall hXr hr e1 e2 e3 hy hJk hkk IH HL HPL
          rw [hA]
          clear hA
          gi_wp2_with (refine ⟨trivial, hdd _, ?_⟩; gi_at_call 63; refine HC.out.mono ?_; clear HC; rintro e W5 (⟨rfl, hJ5, hk5⟩ | ⟨rfl, q, hq, hx5⟩))
          · exact ⟨⟨k + 1, by omega, by congr 1, hJ5, hk5⟩, by simp [intOf]; omega⟩
          · go_ret
            exact .inr ⟨rfl, q, hq, hx5⟩
        · obtain rfl : k = x.ar.length := by omega
          gi_wp2
          go_ret
          exact .inl ⟨rfl, hJk, hkk⟩
    · go_ret
      exact .inr ⟨rfl, [x], ⟨L x.ar.length, rfl⟩, hx2⟩
end Go.Proofs.YtfogkcccjemloaaGreatDoor
