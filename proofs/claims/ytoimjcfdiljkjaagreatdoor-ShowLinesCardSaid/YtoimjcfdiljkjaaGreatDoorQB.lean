import Derived.RangeFuncNested
import Derived.RangeFuncBound
import Derived.RangeFuncCalls
import Derived.RangeFuncLeaves
import Derived.RangeFuncFrom
import Derived.Shelf.Abstract
import Derived.Shelf.RegionOpen
import Derived.WalkKit
import Derived.OwnWalkIn
import Derived.TacticsInMore
import Derived.LoopNIn
import Derived.LoopIn
import Derived.Maps.Range
import Derived.Maps.RangeWalk
import Derived.Lib.QuietBelow
import Derived.Test.YtoimjcfdiljkjaaGreatDoorRows
import Derived.WalkLawsBesides
import Derived.Lib.Hide
import Derived.Shelf.Strings.Builder1
import Derived.Shelf.Strings.Builder2
import Derived.Shelf.Strings.OnBuilder
import Derived.Shelf.Strings.Trim
import Derived.Shelf.Small.Utf8
import Derived.Shelf.Small.Strs
import Derived.Shelf.Strings.BuilderF
import Derived.Shelf.Strings.BuilderK
import Derived.Shelf.Strconv.Atoi
import Derived.Shelf.Strconv.Itoa0
import Derived.Shelf.Strconv.Itoa1
import Derived.Shelf.LaysM
import Derived.Shelf.Strconv.Itoa2
import Derived.Shelf.Strconv.Itoa3
import Derived.Shelf.Strconv.AtoiErrFast
import Derived.Shelf.Strconv.ParseIntEmpty
import Derived.Shelf.Strconv.AtoiFail
import Derived.Shelf.Strconv.Clone
import Derived.Shelf.Strconv.SyntaxError
import Derived.Shelf.LaysC
import Derived.Shelf.Strconv.ToError
import Derived.Shelf.Strconv.Lower
import Derived.Shelf.Strconv.ParseUint10
import Derived.Shelf.Strconv.ParseUint10Empty
import Derived.Shelf.Strconv.ParseUint10Any
import Derived.Shelf.Strconv.ParseInt10
import Derived.Shelf.Strconv.AtoiLong
import Derived.Shelf.Strconv.AtoiInnerAll
import Derived.Shelf.Strconv.RangeError
import Derived.Shelf.Strconv.ToErrorRange
import Derived.Shelf.Strconv.AtoiAll
import Derived.Shelf.Strconv.ErrVarAll
import Derived.Shelf.Strings.Search1
import Derived.Shelf.Strings.Search2
import Derived.Shelf.Strings.Cut
import Derived.Shelf.Strings.Shaped
import Derived.Shelf.Strings.Prefix
import Derived.Shelf.Unicode.Decode
import Derived.Shelf.Strings.Runes
import Derived.Shelf.Strings.AsciiSet
import Derived.Shelf.Unicode.DecodeSlow
import Derived.Shelf.Unicode.DecodeAny
import Derived.Shelf.Unicode.DecodeLast
import Derived.Ground.Names2Prog
import Derived.Shelf.Slices.ReverseS
import Derived.Shelf.Slices.Cells
import Derived.Test.YtoimjcfdiljkjaaGreatDoorProg
import Derived.Shelf.Strings.SlTrimAscii
import Derived.Test.YtoimjcfdiljkjaaGreatDoorQA
set_option linter.unusedVariables false
set_option linter.unusedSimpArgs false
namespace Go.Proofs.YtoimjcfdiljkjaaGreatDoor
open Go.RowKit
theorem parts_max (x : Xt) : ∃ M : Nat → Nat, x.depth = 1 + M x.ar.length ∧ M 0 = 0 ∧ Hid (∀ (k : Nat) (y : Xt), x.ar[k]? = some y → M (k + 1) = max (M k) y.depth) := by
  refine ⟨fun k => ((x.ar.take k).map Xt.depth).foldl max 0, ?_, rfl, Lib.hid fun k y hy => ?_⟩
  · simp only [List.take_length]
    exact Xt.depth_eq x
  · show ((x.ar.take (k + 1)).map Xt.depth).foldl max 0 = _
    rw [take_succ_of hy, List.map_append, List.foldl_append]
    rfl
theorem foldl_max_le (l : List Nat) (b m : Nat) (hb : b ≤ m) (h : ∀ a ∈ l, a ≤ m) : l.foldl max b ≤ m := by
  induction l generalizing b with
  | nil => exact hb
  | cons a l ih => exact ih _ (by have := h a (by simp); omega) (fun c hc => h c (by simp [hc]))
theorem mem_sum_le (l : List Xt) (a : Xt) (h : a ∈ l) : a.size ≤ (l.map Xt.size).sum := by
  induction l with
  | nil => cases h
  | cons b l ih =>
    rcases List.mem_cons.1 h with rfl | h
    · simp
    · have := ih h; simp; omega
theorem depth_le (x : Xt) : x.depth ≤ x.size := by
  induction x using Xt.ind with
  | h x ih =>
    rw [Xt.depth_eq, Xt.size_eq]
    have : (x.ar.map Xt.depth).foldl max 0 ≤ (x.ar.map Xt.size).sum := foldl_max_le _ _ _ (Nat.zero_le _) fun a ha => by
      obtain ⟨y, hy, rfl⟩ := List.mem_map.1 ha
      exact Nat.le_trans (ih y hy) (mem_sum_le _ _ hy)
    omega
theorem size_kid {x y : Xt} (h : y ∈ x.ar) : y.size < x.size := by
  rw [Xt.size_eq x]
  have := mem_sum_le _ _ h
  omega
set_option maxHeartbeats 1000000 in
set_option maxRecDepth 20000 in
theorem rdepth_any (x : Xt) : ∀ w, RdX w w.heap.size x → x.size ≤ 1048576 → Calls Tryz.prog 109 #[xV x] w (Bel (.int .i64 (x.depth : Nat)) w) := by
  induction x using Xt.ind with
  | h x ih =>
    intro w hX hS
    have h9 := hX.len.1
    unfold maxLen at h9
    have HX := Lib.hid hX
    have IH := Lib.hid ih
    have HK := Lib.hid (fun y (h : y ∈ x.ar) => size_kid h)
    have hdl := depth_le x
    clear hX ih
    obtain ⟨M, hM, hM0, HM⟩ := parts_max x
    rw [hM] at hdl ⊢
    clear hM
    simp only [xV] at IH ⊢
    go_enter Tryz.func109, Tryz.ntmps109
    go_wp2
    go_loopw [3, 4] (fun n i wr => ∃ k : Nat, k ≤ x.ar.length ∧ i = .int .i64 (k : Int) ∧ n = .int .i64 (M k : Int) ∧ Below (bxW w x).heap.size (bxW w x) wr) (fun _ i _ => x.ar.length - (intOf i).toNat)
    case atStart => exact ⟨0, by omega, rfl, by rw [hM0]; rfl, Below.refl _ _⟩
    case round =>
      obtain ⟨k, hk, rfl, rfl, hbl⟩ := hrel
      obtain ⟨b0, b1, b2, b3, b4, b5, b6⟩ := bxW_cells hbl
      have hBW := bxW_below hbl
      by_cases hlt : k < x.ar.length
      · obtain ⟨ad, y, hA, had, hy, hm, ⟨c0, c1, c2, c3, c4, c5⟩, hr⟩ := (HX.out.to hBW).at_ hlt
        rw [hA] at b5
        clear hA
        have hn1 := HM.out k y hy
        have hys := HK.out y hm
        clear hy
        go_wp2_with (go_at_call 109; (with_reducible refine (IH.out y hm _ (hr.to ?_) (by omega)).mono ?_); (exact bl); rintro e w1 ⟨rfl, hb1⟩)
        all_goals exact ⟨⟨k + 1, by omega, by congr 1, by congr 1; omega, bl⟩, by simp [intOf]; omega⟩
      · obtain rfl : k = x.ar.length := by omega
        go_wp2
        go_ret
        exact ⟨congrArg (fun z : Int => Ending.returned (.int .i64 z)) (by omega), hBW⟩
set_option maxHeartbeats 1000000 in
set_option maxRecDepth 20000 in
theorem depth_any (x : Xt) : ∀ w, RdX w w.heap.size x → x.size ≤ 1048576 → Calls Tryz.prog 134 #[xV x] w (Bel (.int .i64 (x.depth : Nat)) w) := by
  induction x using Xt.ind with
  | h x ih =>
    intro w hX hS
    have h9 := hX.len.1
    unfold maxLen at h9
    have HX := Lib.hid hX
    have IH := Lib.hid ih
    have HK := Lib.hid (fun y (h : y ∈ x.ar) => size_kid h)
    have hdl := depth_le x
    clear hX ih
    obtain ⟨M, hM, hM0, HM⟩ := parts_max x
    rw [hM] at hdl ⊢
    clear hM
    simp only [xV] at IH ⊢
    go_enter Tryz.func134, Tryz.ntmps134
    go_wp2
    go_loopw [3, 9] (fun n i wr => ∃ k : Nat, k ≤ x.ar.length ∧ i = .int .i64 (k : Int) ∧ n = .int .i64 (M k : Int) ∧ Below (bxW w x).heap.size (bxW w x) wr) (fun _ i _ => x.ar.length - (intOf i).toNat)
    case atStart => exact ⟨0, by omega, rfl, by rw [hM0]; rfl, Below.refl _ _⟩
    case round =>
      obtain ⟨k, hk, rfl, rfl, hbl⟩ := hrel
      have hBW := bxW_below hbl
      by_cases hlt : k < x.ar.length
      · obtain ⟨ad, y, hA, had, hy, hm, ⟨c0, c1, c2, c3, c4, c5⟩, hr⟩ := (HX.out.to hBW).at_ hlt
        rw [hA]
        clear hA
        have hn1 := HM.out k y hy
        have hys := HK.out y hm
        clear hy
        go_wp2_with (go_at_call 134; (with_reducible refine (IH.out y hm _ (hr.to ?_) (by omega)).mono ?_); (exact bl); rintro e w1 ⟨rfl, hb1⟩)
        all_goals exact ⟨⟨k + 1, by omega, by congr 1, by congr 1; omega, bl⟩, by simp [intOf]; omega⟩
      · obtain rfl : k = x.ar.length := by omega
        go_wp2
        go_ret
        exact ⟨congrArg (fun z : Int => Ending.returned (.int .i64 z)) (by omega), hBW⟩
end Go.Proofs.YtoimjcfdiljkjaaGreatDoor
namespace Go.Proofs.YtoimjcfdiljkjaaGreatDoor
open Go.RowKit Go.Shelf
attribute [local go_sem] Oper.semAt_some
theorem room_none {F : Fence} (hd : F.depth = none) (k : Nat) : F.room k := fun d h => by rw [hd] at h; cases h
theorem round_any {F : Fence} (hd : F.depth = none) {m m' : Nat} {P : Program} {l : Nat} {f : FuncId} {tmps : Array Value} {assign body : Code} {w : World} {R : Ending → World → Prop}
    (h : RoundIn F m P l f tmps assign body w R) : RoundIn F m' P l f tmps assign body w R := ⟨h.1, fun c cs _ => h.2 c cs (room_none hd _)⟩
theorem yield_any {F : Fence} (hd : F.depth = none) {m : Nat} (m' : Nat) {P : Program} {l : Nat} {args : Array Value} {W : World} {R : Ending → World → Prop} (h : YieldAt F m P l args W R) : YieldAt F m' P l args W R := by
  obtain ⟨fn, tmps, assign, body, hy, hR⟩ := h
  exact ⟨fn, tmps, assign, body, hy, round_any hd hR⟩
theorem below_grown {W W' : World} (h : Below W.heap.size W W') : W.grownBy W' none := ⟨h.os, h.tape, h.output, h.size, fun k hk _ => h.block k hk⟩
theorem abides_below {β : Type} {B : Nat} {J : β → World → Prop} (h : AbidesFrom B J) {s : β} {W W' : World} (hs : J s W) (hb : Below W.heap.size W W') : J s W' :=
  h s W W' none hs (below_grown hb) (fun r e => by cases e)
set_option maxHeartbeats 400000 in
theorem arguments_any (x : Xt) (w : World) : Calls Tryz.prog 136 #[xV x] w (Bel (.slice x.A x.ar.length x.c) w) := by
  simp only [xV]
  go_enter Tryz.func136, Tryz.ntmps136
  go_wp2
  go_ret
  exact ⟨rfl, bl⟩
def KX (S : Nat → Prop) (W W' : World) : Prop := W.heap.size ≤ W'.heap.size ∧ ∀ k o, ¬ S k → W.heap[k]? = some o → o.isCells = true → W'.heap[k]? = some o
theorem KX.refl (S : Nat → Prop) (W : World) : KX S W W := ⟨Nat.le_refl _, fun _ _ _ h _ => h⟩
theorem KX.trans {S : Nat → Prop} {A B C : World} (h : KX S A B) (g : KX S B C) : KX S A C := ⟨Nat.le_trans h.1 g.1, fun k o hs ho hc => g.2 k o hs (h.2 k o hs ho hc) hc⟩
theorem KX.of_below {S : Nat → Prop} {W W' : World} (h : Below W.heap.size W W') : KX S W W' := ⟨h.size, fun k o _ ho _ => (h.block k (Array.getElem?_eq_some_iff.1 ho).1).trans ho⟩
theorem KX.cell {S : Nat → Prop} {W W' : World} (h : KX S W W') {a : Addr} {v : Value} (hs : ¬ S a.block) (hc : W.cell? a = some v) : W'.cell? a = some v := by
  obtain ⟨o, ho, hk⟩ := cells_of_cell hc
  exact (World.cell?_of_block ((h.2 _ o hs ho hk).trans ho.symm)).trans hc
theorem KX.frozen {S : Nat → Prop} {W W' : World} (h : KX S W W') {a : Addr} {v : Value} (hs : ¬ S a.block) (hc : W.cell? a = some v) : W'.frozen? a = W.frozen? a := by
  obtain ⟨o, ho, hk⟩ := cells_of_cell hc
  exact World.frozen?_of_block ((h.2 _ o hs ho hk).trans ho.symm)
theorem KX.put {S : Nat → Prop} (W : World) (l : Nat) (o o' : Obj) (ho : W.heap[l]? = some o) (hc : o.isCells = false) : KX S W (W.putObj l o') := by
  refine ⟨by simp, fun k q _ hq hqc => ?_⟩
  rw [World.putObj_heap_other (fun e => by subst e; rw [ho] at hq; injection hq with hq; subst hq; rw [hc] at hqc; cases hqc)]
  exact hq
theorem RdX.kx {S : Nat → Prop} {W W' : World} {B : Nat} {x : Xt} (h : RdX W B x) (hk : KX S W W') (hS : ∀ k, S k → B ≤ k) : RdX W' B x := by
  induction h with
  | mk x h0 h1 h2 h3 ih =>
    refine .mk x h0 (fun ad i y ha hy => ?_) ih h3
    obtain ⟨ad', e, hb⟩ := h0 (by intro e; rw [e] at hy; simp at hy)
    obtain rfl : ad = ad' := Option.some.inj (ha.symm.trans e)
    have hn : ¬ S (ad.add (i * 6)).block := fun hs => by have := hS _ hs; rw [add_block] at this; omega
    obtain ⟨c0, c1, c2, c3, c4, c5⟩ := h1 ad i y ha hy
    exact ⟨hk.cell hn c0, hk.cell (a := ⟨_, _, none⟩) hn c1, hk.cell (a := ⟨_, _, none⟩) hn c2, hk.cell (a := ⟨_, _, none⟩) hn c3, hk.cell (a := ⟨_, _, none⟩) hn c4, hk.cell (a := ⟨_, _, none⟩) hn c5⟩
theorem bx_box (w : World) (x : Xt) : (bxW w x).cell? ⟨w.heap.size, 0, none⟩ = some (.int .i64 x.k) ∧ (bxW w x).cell? ⟨w.heap.size, 1, none⟩ = some (.int .i64 x.op) ∧ (bxW w x).cell? ⟨w.heap.size, 2, none⟩ = some (.int .i64 x.t) ∧ (bxW w x).cell? ⟨w.heap.size, 3, none⟩ = some (.int .i64 x.v) ∧ (bxW w x).cell? ⟨w.heap.size, 4, none⟩ = some (.string x.nm) ∧ (bxW w x).cell? ⟨w.heap.size, 5, none⟩ = some (.slice x.A x.ar.length x.c) := by
  obtain ⟨b0, b1, b2, b3, b4, b5, _⟩ := bxW_cells (w := w) (x := x) (Below.refl _ _)
  exact ⟨b0, b1, b2, b3, b4, b5⟩
theorem parts_list (x : Xt) : ∃ L : Nat → List Xt, x.list = x :: L x.ar.length ∧ L 0 = [] ∧ Hid (∀ (k : Nat) (y : Xt), x.ar[k]? = some y → L (k + 1) = L k ++ y.list ∧ (L k).length + y.size + 1 ≤ x.size ∧ ∃ r, L k ++ y.list ++ r = L x.ar.length) := by
  refine ⟨fun k => ((x.ar.take k).map Xt.list).flatten, ?_, rfl, Lib.hid fun k y hy => ?_⟩
  · simp only [List.take_length]
    exact Xt.list_eq x
  · have e1 : ((x.ar.take (k + 1)).map Xt.list).flatten = ((x.ar.take k).map Xt.list).flatten ++ y.list := by
      rw [take_succ_of hy, List.map_append, List.flatten_append]
      simp
    have e2 : ((x.ar.take k).map Xt.list).flatten ++ y.list ++ ((x.ar.drop (k + 1)).map Xt.list).flatten = ((x.ar.take x.ar.length).map Xt.list).flatten := by
      rw [← e1, ← List.flatten_append, ← List.map_append, List.take_append_drop, List.take_length]
    refine ⟨e1, ?_, _, e2⟩
    have h1 := congrArg List.length e2
    have h2 := list_length x
    rw [Xt.list_eq, List.length_cons] at h2
    rw [List.take_length] at h1
    rw [List.length_append, List.length_append, list_length y] at h1
    simp only
    omega
set_option maxRecDepth 100000 in
set_option maxHeartbeats 4000000 in
theorem walk_each_in (l n₀ B : Nat) (N : Nat) (S : Nat → Prop) (hS : ∀ k, S k → n₀ ≤ k ∧ k < B) (J Jx : List Xt → World → Prop) (hJ : AbidesFrom B J) (P : Xt → Prop)
    (hY : ∀ m pre x W, P x → J pre W → pre.length < N → YieldAt Fence.wide m Tryz.prog l #[xV x] W fun e W' =>
      (e = .returned (.bool true) ∧ J (pre ++ [x]) W' ∧ KX S W W') ∨ (e = .returned (.bool false) ∧ Jx (pre ++ [x]) W')) (x : Xt) :
    ∀ (n : Nat) (pre : List Xt) (W : World), (∀ y ∈ x.list, P y) → RdX W n₀ x → B ≤ W.heap.size → J pre W → pre.length + x.size ≤ N →
      CallsIn Fence.wide n Tryz.prog 171 #[xV x, .func (.func 136) #[] #[], .func (.yield l) #[] #[]] W fun e W' =>
        (e = .returned (.bool true) ∧ J (pre ++ x.list) W' ∧ KX S W W') ∨ (e = .returned (.bool false) ∧ ∃ q, q <+: x.list ∧ Jx (pre ++ q) W') := by
  induction x using Xt.ind with
  | h x ih =>
    intro n pre W hP hX hB hj hN
    have hdd : ∀ k : Nat, (Fence.wide.depth.isSome = true → 1 ≤ k) := fun k h => by cases h
    have h9 := hX.len.1
    unfold maxLen at h9
    have hx1 := Xt.size_pos x
    have hns : ∀ k, B ≤ k → ¬ S k := fun k hk hs => by have := (hS k hs).2; omega
    obtain ⟨b0, b1, b2, b3, b4, b5⟩ := bx_box W x
    -- the round at x itself, with what the walk wants next beside it
    have hy0 := YieldAt.mono (R' := fun e W2 =>
        (e = .returned (.bool true) ∧ J (pre ++ [x]) W2 ∧ KX S W W2 ∧ RdX W2 n₀ x ∧ W.heap.size < W2.heap.size ∧ W2.cell? ⟨W.heap.size, 0, none⟩ = some (.int .i64 x.k) ∧ W2.cell? ⟨W.heap.size, 1, none⟩ = some (.int .i64 x.op) ∧ W2.cell? ⟨W.heap.size, 2, none⟩ = some (.int .i64 x.t) ∧ W2.cell? ⟨W.heap.size, 3, none⟩ = some (.int .i64 x.v) ∧ W2.cell? ⟨W.heap.size, 4, none⟩ = some (.string x.nm) ∧ W2.cell? ⟨W.heap.size, 5, none⟩ = some (.slice x.A x.ar.length x.c)) ∨
        (e = .returned (.bool false) ∧ Jx (pre ++ [x]) W2)) (hY (n - 1) pre x (bxW W x) (hP x (by rw [Xt.list_eq]; simp)) (abides_below hJ hj (bel_box _)) (by omega)) fun e W2 h => h.elim (fun ⟨he, hj2, hk⟩ => .inl ⟨he, hj2, (KX.of_below (bel_box _)).trans hk, (hX.kx (KX.of_below (bel_box _)) (fun k hs => (hS k hs).1)).kx hk (fun k hs => (hS k hs).1), by have := hk.1; rw [bxW_size] at this; omega,
          hk.cell (a := ⟨_, _, none⟩) (hns _ hB) b0, hk.cell (a := ⟨_, _, none⟩) (hns _ hB) b1, hk.cell (a := ⟨_, _, none⟩) (hns _ hB) b2, hk.cell (a := ⟨_, _, none⟩) (hns _ hB) b3, hk.cell (a := ⟨_, _, none⟩) (hns _ hB) b4, hk.cell (a := ⟨_, _, none⟩) (hns _ hB) b5⟩) .inr
    have IH := Lib.hid ih
    have HX := Lib.hid hX
    have HP := Lib.hid hP
    obtain ⟨L, hL, hL0, HL⟩ := parts_list x
    rw [hL] at hP
    have HPL := Lib.hid hP
    clear hP HP
    rw [hL]
    have HA := Lib.hid (fun W => arguments_any x W)
    clear hX ih b0 b1 b2 b3 b4 b5 hY
    simp only [xV] at hy0 HA IH ⊢
    obtain ⟨fn, tmps, assign, body, hy, hR⟩ := hy0
    refine callsIn_of_wp Tryz.func171 rfl trivial ?_ rfl
    simp only [Tryz.ntmps171, List.size_toArray, List.length_cons, List.length_nil, Nat.reduceAdd, Nat.reduceSub, Array.replicate_succ, Array.replicate_zero, List.push_toArray, List.append_toArray, List.nil_append, List.cons_append]
    gi_wp2_with (first
      | ((try refine ⟨hdd _, ?_⟩); refine hR.mono ?_; clear hR; rintro e W2 (⟨rfl, hJ2, hk2, hX2, hz2, d0, d1, d2, d3, d4, d5⟩ | ⟨rfl, hx2⟩))
      | (refine ⟨trivial, hdd _, ?_⟩; gi_at_call 136; refine (callsIn_wide.2 (HA.out _)).mono ?_; rintro e W3 ⟨rfl, hb3⟩))
    · clear HA hy
      have hJ3 := abides_below hJ hJ2 hb3
      have hk3 : KX S W W3 := hk2.trans (KX.of_below hb3)
      clear hX2 hz2 d0 d1 d2 d3 d4 d5 hJ2 hk2 hb3
      gi_loopw [17] (fun i wr => ∃ k : Nat, k ≤ x.ar.length ∧ i = .int .i64 (k : Int) ∧ J (pre ++ x :: L k) wr ∧ KX S W wr) (fun i _ => x.ar.length - (intOf i).toNat)
      case atStart => exact ⟨0, by omega, rfl, by rw [hL0]; exact hJ3, hk3⟩
      case round =>
        obtain ⟨k, hk, rfl, hJk, hkk⟩ := hrel
        by_cases hlt : k < x.ar.length
        · have hXr := HX.out.kx hkk (fun k hs => (hS k hs).1)
          obtain ⟨ad, y, hA, had, hy, hm, ⟨c0, c1, c2, c3, c4, c5⟩, hr⟩ := hXr.at_ hlt
          obtain ⟨e1, e2, r, e3⟩ := HL.out k y hy
          have hcall := (IH.out y hm (n - 1) (pre ++ x :: L k) (bxW wr y) (fun z hz => HPL.out z (List.mem_cons.2 (.inr (by rw [← e3]; simp [hz])))) (hr.kx (KX.of_below (S := S) (bel_box _)) (fun k hs => (hS k hs).1)) (by rw [bxW_size]; have := hkk.1; omega) (abides_below hJ hJk (bel_box _)) (by simp only [List.length_append, List.length_cons]; omega)).mono (R' := fun e W5 =>
            (e = .returned (.bool true) ∧ J (pre ++ x :: L (k + 1)) W5 ∧ KX S W W5) ∨ (e = .returned (.bool false) ∧ ∃ q, q <+: x :: L x.ar.length ∧ Jx (pre ++ q) W5)) (fun e W5 h => h.elim
              (fun ⟨he, hj5, hk5⟩ => .inl ⟨he, by rw [e1]; simpa [List.append_assoc] using hj5, (hkk.trans (KX.of_below (bel_box _))).trans hk5⟩)
              (fun ⟨he, q, ⟨t, ht⟩, hx5⟩ => .inr ⟨he, x :: L k ++ q, ⟨t ++ r, by rw [← e3, ← ht]; simp [List.append_assoc]⟩, by simpa [List.append_assoc] using hx5⟩))
          have HC := Lib.hid hcall
          clear hcall hXr hr e1 e2 e3 hy hJk hkk IH HL HPL
          rw [hA]
          clear hA
          gi_wp2_with (refine ⟨trivial, hdd _, ?_⟩; gi_at_call 171; refine HC.out.mono ?_; clear HC; rintro e W5 (⟨rfl, hJ5, hk5⟩ | ⟨rfl, q, hq, hx5⟩))
          · exact ⟨⟨k + 1, by omega, by congr 1, hJ5, hk5⟩, by simp [intOf]; omega⟩
          · go_ret
            exact .inr ⟨rfl, q, hq, hx5⟩
        · obtain rfl : k = x.ar.length := by omega
          gi_wp2
          go_ret
          exact .inl ⟨rfl, hJk, hkk⟩
    · go_ret
      exact .inr ⟨rfl, [x], ⟨L x.ar.length, rfl⟩, hx2⟩
end Go.Proofs.YtoimjcfdiljkjaaGreatDoor
namespace Go.Proofs.YtoimjcfdiljkjaaGreatDoor
open Go.RowKit Go.Shelf
attribute [local go_sem] Oper.semAt_some
theorem KX.set {S : Nat → Prop} {W : World} {a : Addr} (hs : S a.block) (v : Value) : KX S W (W.setCell a v) := by
  refine ⟨by simp [World.setCell], fun k o hk ho _ => ?_⟩
  rw [heap_setCell_other W a k v (fun e => hk (by rw [e]; exact hs))]
  exact ho
theorem KX_t {S : Nat → Prop} : ∀ {A B C : World}, KX S A B → KX S B C → KX S A C := fun h g => h.trans g
theorem KX_b {S : Nat → Prop} {N : Nat} : ∀ (W : World) (l : Nat) (o o' : Obj), N ≤ l → W.heap[l]? = some o → o.isCells = false → o.isWalk = false → KX S W (W.putObj l o') := fun W l o o' _ ho hc _ => KX.put W l o o' ho hc
set_option maxHeartbeats 400000 in
theorem within_any (x : Xt) (f : Nat) (w : World) : Calls Tryz.prog 135 #[xV x, .func (.func f) #[] #[]] w (fun e w' => e = .returned (.func (.func 170) #[] #[.pointer (some ⟨w.heap.size, 0, none⟩), .pointer (some ⟨w.heap.size + 1, 0, none⟩)]) ∧ w' = (bxW w x).alloc (.cells #[.func (.func f) #[] #[]] 155)) := by
  simp only [xV]
  go_enter Tryz.func135, Tryz.ntmps135
  go_wp2
  go_ret
  exact ⟨rfl, rfl⟩
set_option maxHeartbeats 1000000 in
set_option maxRecDepth 100000 in
theorem within_stops (n be bp n₀ : Nat) (S : Nat → Prop) (x : Xt) (w : World) (hS : ∀ k, S k → n₀ ≤ k ∧ k < w.heap.size) (hn₀ : n₀ ≤ w.heap.size) (hbe : be < w.heap.size) (hbp : bp < w.heap.size) (hX : RdX w n₀ x)
    (c0 : w.cell? ⟨be, 0, none⟩ = some (.int .i64 x.k)) (c1 : w.cell? ⟨be, 1, none⟩ = some (.int .i64 x.op)) (c2 : w.cell? ⟨be, 2, none⟩ = some (.int .i64 x.t)) (c3 : w.cell? ⟨be, 3, none⟩ = some (.int .i64 x.v)) (c4 : w.cell? ⟨be, 4, none⟩ = some (.string x.nm)) (c5 : w.cell? ⟨be, 5, none⟩ = some (.slice x.A x.ar.length x.c)) (cp : w.cell? ⟨bp, 0, none⟩ = some (.func (.func 136) #[] #[])) :
    SeqStopsK Fence.wide n Tryz.prog 170 #[.pointer (some ⟨be, 0, none⟩), .pointer (some ⟨bp, 0, none⟩)] (fun y : Xt => #[xV y]) (KX S) (fun ys => ys = x.list) (fun pre => pre <+: x.list) x.size w := by
  intro l J Jx W hW hJ _ hY h0
  have hdd : ∀ k : Nat, (Fence.wide.depth.isSome = true → 1 ≤ k) := fun k h => by cases h
  have hWs := hW.size
  have d0 := (hW.cell (p := ⟨be, 0, none⟩) hbe).trans c0
  have d1 := (hW.cell (p := ⟨be, 1, none⟩) hbe).trans c1
  have d2 := (hW.cell (p := ⟨be, 2, none⟩) hbe).trans c2
  have d3 := (hW.cell (p := ⟨be, 3, none⟩) hbe).trans c3
  have d4 := (hW.cell (p := ⟨be, 4, none⟩) hbe).trans c4
  have d5 := (hW.cell (p := ⟨be, 5, none⟩) hbe).trans c5
  have dp := (hW.cell (p := ⟨bp, 0, none⟩) hbp).trans cp
  have hp := walk_each_in l n₀ W.heap.size x.size S (fun k hs => ⟨(hS k hs).1, by have := (hS k hs).2; omega⟩) J Jx hJ (fun _ => True) (fun m pre y W1 _ hj hl => yield_any rfl m (hY pre y W1 hj hl)) x (n - 1) [] W (fun _ _ => trivial) (hX.blw (hW.mono hn₀) (Nat.le_refl _)) (Nat.le_refl _) h0 (by simp)
  simp only [List.nil_append, xV] at hp
  clear hY c0 c1 c2 c3 c4 c5 cp
  simp only [List.append_toArray, List.cons_append, List.nil_append, Array.append_eq_append] at *
  refine callsIn_of_wp Tryz.func170 rfl trivial ?_ rfl
  simp only [Tryz.ntmps170, List.size_toArray, List.length_cons, List.length_nil, Nat.reduceAdd, Nat.reduceSub, Array.replicate_succ, Array.replicate_zero, List.push_toArray, List.append_toArray, List.nil_append, List.cons_append]
  gi_wp2_with (refine ⟨trivial, hdd _, ?_⟩; gi_at_call 171; refine hp.mono ?_; clear hp; rintro e W1 (⟨rfl, hJ1, _⟩ | ⟨rfl, q, hq, hx⟩))
  · go_end0
    exact ⟨⟨_, rfl⟩, .inl ⟨_, rfl, hJ1⟩⟩
  · go_end0
    exact ⟨⟨_, rfl⟩, .inr ⟨q, hq, hx⟩⟩
end Go.Proofs.YtoimjcfdiljkjaaGreatDoor
namespace Go.Proofs.YtoimjcfdiljkjaaGreatDoor
open Go.RowKit Go.Shelf
attribute [local go_sem] Oper.semAt_some
abbrev inW (w : World) (x : Xt) (f : Nat) : World := (bxW w x).alloc (.cells #[.func (.func f) #[] #[]] 155)
theorem inW_size (w : World) (x : Xt) (f : Nat) : (inW w x f).heap.size = w.heap.size + 2 := by simp only [World.size_alloc]
theorem inW_below (w : World) (x : Xt) (f : Nat) : Below w.heap.size w (inW w x f) := bxW_below (bel_box _)
theorem within_at (n n₀ : Nat) (S : Nat → Prop) (x : Xt) (w : World) (hS : ∀ k, S k → n₀ ≤ k ∧ k < w.heap.size) (hn₀ : n₀ ≤ w.heap.size) (hX : RdX w n₀ x) :
    SeqStopsK Fence.wide n Tryz.prog 170 #[.pointer (some ⟨w.heap.size, 0, none⟩), .pointer (some ⟨w.heap.size + 1, 0, none⟩)] (fun y : Xt => #[xV y]) (KX S) (fun ys => ys = x.list) (fun pre => pre <+: x.list) x.size (inW w x 136) := by
  obtain ⟨b0, b1, b2, b3, b4, b5, _⟩ := bxW_cells (w := w) (x := x) (W := inW w x 136) (bel_box _)
  exact within_stops n w.heap.size (w.heap.size + 1) n₀ S x _ (fun k hs => ⟨(hS k hs).1, by rw [inW_size]; have := (hS k hs).2; omega⟩) (by rw [inW_size]; omega) (by rw [inW_size]; omega) (by rw [inW_size]; omega) (hX.blw ((inW_below w x _).mono hn₀) (Nat.le_refl _)) b0 b1 b2 b3 b4 b5 (by simp [go_sem])
theorem inW_old {w : World} {x : Xt} {f : Nat} {b : Nat} {i : Nat} (h : b < w.heap.size) : (inW w x f).cell? ⟨b, i, none⟩ = w.cell? ⟨b, i, none⟩ ∧ (inW w x f).frozen? ⟨b, i, none⟩ = w.frozen? ⟨b, i, none⟩ :=
  ⟨(inW_below w x f).cell (p := ⟨b, i, none⟩) h, (inW_below w x f).frozen (p := ⟨b, i, none⟩) h⟩
theorem fold1 (t : Array Value) (p : Nat) (v : Value) : (#[p].zip #[v]).foldl (fun t (x : Nat × Value) => match x with | (p, v) => t.setIfInBounds p v) t = t.setIfInBounds p v := by simp
theorem cell_al {W : World} {a : Addr} {v : Value} (o : Obj) (h : W.cell? a = some v) : (W.alloc o).cell? a = some v := cell_kept h (World.grownBy_alloc W o none) (fun r e => by cases e)
theorem frozen_al {W : World} {a : Addr} {v : Value} (o : Obj) (h : W.cell? a = some v) (hf : W.frozen? a = false) : (W.alloc o).frozen? a = false := (frozen_kept h (World.grownBy_alloc W o none) (fun r e => by cases e)).trans hf
end Go.Proofs.YtoimjcfdiljkjaaGreatDoor
namespace Go.Proofs.YtoimjcfdiljkjaaGreatDoor
open Go.RowKit
def xCs (x : Xt) : List Value := [.int .i64 x.k, .int .i64 x.op, .int .i64 x.t, .int .i64 x.v, .string x.nm, .slice x.A x.ar.length x.c]
def xsC (l : List Xt) : List Value := l.flatMap xCs
theorem xsC_app (l r : List Xt) : xsC (l ++ r) = xsC l ++ xsC r := by simp [xsC]
theorem xpInfo : (Tryz.prog.info? 33).map (fun i => (i.zero, i.size, i.bytes)) = some (some (.agg #[.int .i64 0, .int .i64 0, .int .i64 0, .int .i64 0, .string ⟨#[]⟩, .slice none 0 0]), 6, 72) := by kernel_rfl
theorem own_keep6 {w W : World} {base n size : Nat} {e : TypeId} {v : Value} {xs : List Value} (h : w.ownsRow base e size v n xs) (hb : Below w.heap.size w W) : W.ownsRow base e size v n xs := by
  refine ⟨h.1, h.2.imp id fun ⟨g, cap, cur, e1, h1, h2, r⟩ => ⟨g, cap, cur, e1, h1, ?_, r⟩⟩
  rw [hb.block g (Array.getElem?_eq_some_iff.1 h2).1]
  exact h2
theorem own_form6 {w : World} {base n size : Nat} {e : TypeId} {v : Value} {xs : List Value} (h : w.ownsRow base e size v n xs) : ∃ A c, v = .slice A n c := by
  rcases h.2 with ⟨rfl, rfl⟩ | ⟨g, cap, cur, rfl, _⟩
  · exact ⟨_, _, rfl⟩
  · exact ⟨_, _, rfl⟩
theorem x_one (x : Xt) : ∀ u ∈ xCs x, u.oneCell' = true := by
  intro u hu
  simp [xCs] at hu
  rcases hu with rfl | rfl | rfl | rfl | rfl | rfl <;> rfl
theorem row6 (w : World) (o : Obj) (x : Xt) (t : TypeId) : ∀ j u, (xCs x)[j]? = some u → ((w.alloc o).alloc (.cells #[.int .i64 x.k, .int .i64 x.op, .int .i64 x.t, .int .i64 x.v, .string x.nm, .slice x.A x.ar.length x.c] t)).cell? ((⟨w.heap.size + 1, 0, none⟩ : Addr).add j) = some u := by
  intro j u hu
  have e : w.heap.size + 1 = (w.alloc o).heap.size := (World.size_alloc _ _).symm
  rw [e]
  have hz : ∀ k : Nat, ((w.alloc o).alloc (.cells #[.int .i64 x.k, .int .i64 x.op, .int .i64 x.t, .int .i64 x.v, .string x.nm, .slice x.A x.ar.length x.c] t)).cell? ((⟨(w.alloc o).heap.size, 0, none⟩ : Addr).add k) = (xCs x)[k]? := by
    intro k
    rcases k with _ | _ | _ | _ | _ | _ | k <;> simp [go_sem, Addr.add, xCs]
  rw [hz]; exact hu
def LsR (w : World) (B : Nat) (v : Value) (n : Nat) (xs : List Value) (w' : World) (v' : Value) : Prop := w'.ownsRow B 33 6 v' n xs ∧ w.grownBy w' v.ownBlock ∧ (v'.ownBlock = v.ownBlock ∨ ∃ j, v'.ownBlock = some j ∧ w.heap.size ≤ j)
def LsI (w : World) (x : Xt) (B : Nat) (ob : Option Nat) (n : Nat) (xs : List Value) (v : Value) (wr : World) : Prop := wr.ownsRow B 33 6 v n xs ∧ (bxW w x).grownBy wr ob ∧ (v.ownBlock = ob ∨ ∃ j, v.ownBlock = some j ∧ (bxW w x).heap.size ≤ j)
theorem LsI.open_ {w wr : World} {x : Xt} {B n : Nat} {ob : Option Nat} {xs : List Value} {v : Value} (h : LsI w x B ob n xs v wr) (hB : B ≤ w.heap.size) (hl : ∀ j, ob = some j → B ≤ j ∧ j < w.heap.size) :
    Below B w wr ∧ (wr.cell? ⟨w.heap.size, 0, none⟩ = some (.int .i64 x.k) ∧ wr.cell? ⟨w.heap.size, 1, none⟩ = some (.int .i64 x.op) ∧ wr.cell? ⟨w.heap.size, 2, none⟩ = some (.int .i64 x.t) ∧ wr.cell? ⟨w.heap.size, 3, none⟩ = some (.int .i64 x.v) ∧ wr.cell? ⟨w.heap.size, 4, none⟩ = some (.string x.nm) ∧ wr.cell? ⟨w.heap.size, 5, none⟩ = some (.slice x.A x.ar.length x.c)) ∧ w.heap.size < wr.heap.size := by
  obtain ⟨_, hg, _⟩ := h
  have hz := hg.size
  rw [bxW_size] at hz
  have hne : some w.heap.size ≠ ob := fun e => by have := (hl _ e.symm).2; omega
  refine ⟨Below.grown ((bel_box _).mono hB) hg (by rw [bxW_size]; omega) (fun j hj => (hl j hj).1), ⟨?_, ?_, ?_, ?_, ?_, ?_⟩, by omega⟩ <;> exact hg.cell (by simp [go_sem]) hne
theorem LsI.next {w wr w1 : World} {x : Xt} {B n m : Nat} {ob : Option Nat} {xs ys : List Value} {v v' : Value} (h : LsI w x B ob n xs v wr) (k : LsR wr B v m ys w1 v') : LsI w x B ob m ys v' w1 := by
  obtain ⟨_, hg, ha⟩ := h
  obtain ⟨k1, k2, k3⟩ := k
  have hz := hg.size
  refine ⟨k1, hg.andThen k2 fun j hj => ?_, ?_⟩
  · rcases ha with ha | ⟨j', e, hj'⟩
    · exact .inr (ha.symm.trans hj)
    · rw [e] at hj
      exact .inl (by have := Option.some.inj hj; omega)
  · rcases k3 with k3 | ⟨j, e, hj⟩
    · rw [k3]; exact ha
    · exact .inr ⟨j, e, by omega⟩
theorem LsI.first {w W w3 : World} {x : Xt} {B m : Nat} {ob : Option Nat} {ys : List Value} {v' : Value} (hW : Below (bxW w x).heap.size (bxW w x) W) (h1 : w3.ownsRow B 33 6 v' m ys) (h2 : W.grownBy w3 ob) (h3 : v'.ownBlock = ob ∨ v'.ownBlock = some W.heap.size) : LsI w x B ob m ys v' w3 := by
  refine ⟨h1, ?_, h3.imp id fun e => ⟨_, e, hW.size⟩⟩
  exact ((below_grown hW).but ob).andThen h2 fun j hj => .inr hj
theorem LsI.last {w wr : World} {x : Xt} {B n : Nat} {v0 : Value} {xs : List Value} {v : Value} (h : LsI w x B v0.ownBlock n xs v wr) : LsR w B v0 n xs wr v := by
  obtain ⟨h1, h2, h3⟩ := h
  refine ⟨h1, (World.grownBy_alloc w _ _).trans h2, h3.imp id fun ⟨j, e, hj⟩ => ⟨j, e, by rw [bxW_size] at hj; omega⟩⟩
set_option maxHeartbeats 1000000 in
set_option maxRecDepth 20000 in
theorem rlist_any (x : Xt) : ∀ w B v n xs, B ≤ w.heap.size → RdX w B x → w.ownsRow B 33 6 v n xs → n + x.size ≤ 1048576 → Calls Tryz.prog 141 #[xV x, v] w (fun e w' => ∃ v', e = .returned v' ∧ LsR w B v (n + x.size) (xs ++ xsC x.list) w' v') := by
  obtain ⟨i0, hi, iz, is, ib⟩ := info_parts xpInfo
  induction x using Xt.ind with
  | h x ih =>
    intro w B v n xs hB hX hown hS
    obtain ⟨V, cv, rfl⟩ := own_form6 hown
    have h9 := hX.len.1
    unfold maxLen at h9
    have HX := Lib.hid hX
    have IH := Lib.hid ih
    have HO := Lib.hid hown
    clear hX ih hown
    obtain ⟨F, hF, hF0, hFl, HF, HFl⟩ := parts_sum x
    rw [hF] at hS ⊢
    simp only [xV] at IH ⊢
    go_enter Tryz.func141, Tryz.ntmps141
    go_wp2_with (at_builtin; (refine wpList_append_own_at _ rfl _ _ 31 rfl B 33 i0 (.agg #[.int .i64 0, .int .i64 0, .int .i64 0, .int .i64 0, .string ⟨#[]⟩, .slice none 0 0]) 6 72 Tryz.underlying31 hi iz is ib rfl (by decide) _ n xs rfl (own_keep6 HO.out ?_) ⟨w.heap.size + 1, 0, none⟩ 1 1 (xCs x) rfl rfl (row6 _ _ _ _) (x_one x) (by unfold maxLen; omega) (by omega) ?_ ?_; (exact bl); (focus (simp; omega)); intro v3 w3 hown3 hgrow3 _ hat3; have HI := LsI.first (w := w) (x := x) bl hown3 (ob := (Value.slice V n cv).ownBlock) hgrow3 hat3; clear hown3 hgrow3 hat3))
    have hlt := Lib.hid (fun j (h : (Value.slice V n cv).ownBlock = some j) => HO.out.lt j h)
    obtain ⟨v0, hv0⟩ : ∃ v0, Value.slice V n cv = v0 := ⟨_, rfl⟩
    rw [hv0] at HI hlt
    go_loopw [1, 5] (fun v i wr => ∃ k : Nat, k ≤ x.ar.length ∧ i = .int .i64 (k : Int) ∧ LsI w x B v0.ownBlock (n + 1 + F k) (xs ++ xsC (x :: ((x.ar.take k).map Xt.list).flatten)) v wr) (fun _ i _ => x.ar.length - (intOf i).toNat)
    case atStart => exact ⟨0, by omega, rfl, by rw [hF0]; simpa [xsC] using HI⟩
    case round =>
      obtain ⟨k, hk, rfl, hI⟩ := hrel
      obtain ⟨hBB, ⟨b0, b1, b2, b3, b4, b5⟩, b6⟩ := hI.open_ hB hlt.out
      by_cases hlk : k < x.ar.length
      · obtain ⟨ad, y, hA, had, hy, hm, ⟨c0, c1, c2, c3, c4, c5⟩, hr⟩ := (HX.out.blw hBB (Nat.le_refl _)).at_ hlk
        rw [hA] at b5
        clear hA
        have hn1 := HF.out k y hy
        have hn2 := HFl.out (k + 1)
        have HT : Hid ((x.ar.take (k + 1)).map Xt.list = (x.ar.take k).map Xt.list ++ [y.list]) := Lib.hid (by rw [take_succ_of hy, List.map_append]; rfl)
        have HII := Lib.hid hI
        have HIo := Lib.hid hI.1
        clear hy hI HI hv0
        go_wp2_with (go_at_call 141; (with_reducible refine (IH.out y hm _ B _ _ _ (by omega) hr HIo.out (by omega)).mono ?_); rintro e w1 ⟨v', rfl, hl⟩)
        have hJ := HII.out.next hl
        refine ⟨⟨k + 1, by omega, by congr 1, ?_⟩, by simp [intOf]; omega⟩
        rw [HT.out, show n + 1 + F (k + 1) = n + 1 + F k + y.size by omega]
        rwa [List.append_assoc, ← xsC_app, List.cons_append, show (List.map Xt.list (List.take k x.ar)).flatten ++ y.list = (List.map Xt.list (List.take k x.ar) ++ [y.list]).flatten by simp] at hJ
      · obtain rfl : k = x.ar.length := by omega
        go_wp2
        go_ret
        refine ⟨_, rfl, ?_⟩
        have hJ := hI.last
        rw [List.take_length, ← Xt.list_eq] at hJ
        rwa [hv0, show n + (1 + F x.ar.length) = n + 1 + F x.ar.length by omega]
end Go.Proofs.YtoimjcfdiljkjaaGreatDoor
namespace Go.Proofs.YtoimjcfdiljkjaaGreatDoor
open Go.RowKit Go.Shelf
attribute [local go_sem] Oper.semAt_some
def stK (n : Int) : Bool := n == 5 || n == 6 || n == 7 || n == 10 || n == 11
set_option maxHeartbeats 2000000 in
set_option maxRecDepth 100000 in
theorem stateless_any (x : Xt) (w : World) (hX : RdX w w.heap.size x) (hs : x.size ≤ 1048576) : Calls Tryz.prog 185 #[xV x] w (Bel (.bool (!x.list.any fun y => stK y.k)) w) := by
  have hdd : ∀ k : Nat, (Fence.wide.depth.isSome = true → 1 ≤ k) := fun k h => by cases h
  have KW := Lib.hid (fun W => within_any x 136 W)
  have HX := Lib.hid hX
  clear hX
  simp only [xV] at KW ⊢
  refine (callsIn_wide (n := 3)).1 ?_
  refine callsIn_of_wp_marks Tryz.func185 rfl trivial ?_ rfl
  simp only [Tryz.ntmps185, List.size_toArray, List.length_cons, List.length_nil, Nat.reduceAdd, Nat.reduceSub, Array.replicate_succ, Array.replicate_zero, List.push_toArray, List.append_toArray, List.nil_append, List.cons_append]
  gi_wp2_with (refine ⟨trivial, ?_⟩; gi_at_call 135; refine (callsIn_wide.2 (KW.out _)).mono ?_; rintro e W1 ⟨rfl, rfl⟩)
  obtain ⟨Wc, hWc⟩ : ∃ Wc, ((bxW w x).alloc (.cells #[.bool false] 4)) = Wc := ⟨_, rfl⟩
  have hz : Wc.heap.size = w.heap.size + 2 := by rw [← hWc]; simp only [World.size_alloc]
  have hBc : Below w.heap.size w Wc := by rw [← hWc]; exact bel_alloc (bel_box _) _
  have g2 : Wc.cell? ⟨w.heap.size + 1, 0, none⟩ = some (.bool false) := by rw [← hWc]; simp [go_sem]
  have g3 : Wc.frozen? ⟨w.heap.size + 1, 0, none⟩ = false := by rw [← hWc]; simp [go_sem]
  have hst := within_at (3 - 1) w.heap.size (fun k => k = w.heap.size + 1) x Wc (fun k hk => by subst hk; omega) (by omega) (HX.out.blw hBc (Nat.le_refl _))
  obtain ⟨W0, hW0⟩ : ∃ W0, inW Wc x 136 = W0 := ⟨_, rfl⟩
  have hz0 : W0.heap.size = w.heap.size + 4 := by rw [← hW0, inW_size]; omega
  have hB0 : Below w.heap.size w W0 := by rw [← hW0]; exact hBc.trans ((inW_below Wc x _).mono (by omega))
  have f2 : W0.cell? ⟨w.heap.size + 1, 0, none⟩ = some (.bool false) := by rw [← hW0]; exact (inW_old (by omega)).1.trans g2
  have f3 : W0.frozen? ⟨w.heap.size + 1, 0, none⟩ = false := by rw [← hW0]; exact (inW_old (by omega)).2.trans g3
  rw [hz, hW0] at hst
  rw [show (bxW ((w.alloc (Obj.cells #[.int .i64 x.k, .int .i64 x.op, .int .i64 x.t, .int .i64 x.v, .string x.nm, .slice x.A x.ar.length x.c] 33)).alloc (.cells #[.bool false] 4)) x).alloc (.cells #[.func (.func 136) #[] #[]] 155) = W0 by rw [← hW0, ← hWc]]
  clear hW0 hWc g2 g3 KW HX
  refine wpIn_rangeFunc_ownH rfl (by decide) (gf := 170) (lb := #[.pointer (some ⟨w.heap.size + 2, 0, none⟩), .pointer (some ⟨w.heap.size + 2 + 1, 0, none⟩)]) rfl trivial (enters_of Tryz.func170 (by kernel_rfl) rfl)
    hst KX_t KX_b (Below.refl _ _) (fun _ => rfl)
    (fun pre W => (pre.any (fun y => stK y.k) = false ∧ W.cell? ⟨w.heap.size + 1, 0, none⟩ = some (.bool false) ∧ W.frozen? ⟨w.heap.size + 1, 0, none⟩ = false) ∧ Below w.heap.size w W)
    (fun c pre W => (c = .ret ∧ pre.any (fun y => stK y.k) = true ∧ W.cell? ⟨w.heap.size + 1, 0, none⟩ = some (.bool false)) ∧ Below w.heap.size w W)
    (OwnFrom.and (Own.from (fun s A B row hs hg hr => ⟨hs.1, cell_kept hs.2.1 hg hr, (frozen_kept hs.2.1 hg hr).trans hs.2.2⟩) _) (ownFrom_below (Nat.le_refl _) (by omega)))
    (fun c => OwnFrom.and (Own.from (fun s A B row hs hg hr => ⟨hs.1, hs.2.1, cell_kept hs.2.2 hg hr⟩) _) (ownFrom_below (Nat.le_refl _) (by omega)))
    ⟨⟨rfl, f2, f3⟩, hB0⟩
    (fun y a' W => ∃ Bx, (w.heap.size + 2 ≤ Bx ∧ W.cell? ⟨Bx, 0, none⟩ = some (.int .i64 y.k)) ∧ a' = { tmps := #[.agg #[.int .i64 x.k, .int .i64 x.op, .int .i64 x.t, .int .i64 x.v, .string x.nm, .slice x.A x.ar.length x.c], .pointer (some ⟨w.heap.size, 0, none⟩), .pointer (some ⟨w.heap.size + 1, 0, none⟩), .pointer (some ⟨Bx, 0, none⟩), .agg #[.int .i64 x.k, .int .i64 x.op, .int .i64 x.t, .int .i64 x.v, .string x.nm, .slice x.A x.ar.length x.c], .func (.func 170) #[] #[.pointer (some ⟨w.heap.size + 2, 0, none⟩), .pointer (some ⟨w.heap.size + 2 + 1, 0, none⟩)], xV y, undef, undef, undef, undef, undef, undef, undef, undef], defers := [] })
    (fun y a' s A B row hs hg hr => by
      obtain ⟨Bx, ⟨h1, h2⟩, h3⟩ := hs
      exact ⟨Bx, ⟨h1, cell_kept h2 hg (fun r e => (hr r e).2)⟩, h3⟩) ?assign ?body ?done ?stop
  case assign =>
    rintro l pre y W K ⟨⟨i1, i2, i3⟩, hB⟩ hK
    rw [fold1]
    simp only [xV] at hK ⊢
    gi_wp2
    have hb := bx_box W y
    exact hK _ _ ((KeepsOthers.alloc _ _).from _) (KX.of_below (bel_box _)) ⟨⟨i1, cell_al _ i2, frozen_al _ i2 i3⟩, bel_alloc hB _⟩ ⟨W.heap.size, ⟨by have := World.block_lt_of_cell? W _ i2; simp only at this; omega, hb.1⟩, rfl⟩
  case body =>
    rintro l pre y a' W hl ⟨r, hr⟩ ⟨⟨i1, i2, i3⟩, hB⟩ ⟨Bx, ⟨hBx, bx⟩, rfl⟩ hlt
    have hcs : (pre ++ [y]).any (fun y => stK y.k) = stK y.k := by rw [List.any_append, i1]; simp
    by_cases q5 : (y.k == 5) = true
    · have hst : stK y.k = true := by simp [stK, q5]
      gi_wp2
      exact ⟨(KeepsOthers.setCell _ _ _).from _, ⟨rfl, by rw [hcs, hst], World.cell?_setCell_same' _ _ _ (by rw [i2]; rfl)⟩, hB.setCell (p := ⟨w.heap.size + 1, 0, none⟩) (by simp) _⟩
    rw [Bool.not_eq_true] at q5
    by_cases q6 : (y.k == 6) = true
    · have hst : stK y.k = true := by simp [stK, q6]
      gi_wp2
      exact ⟨(KeepsOthers.setCell _ _ _).from _, ⟨rfl, by rw [hcs, hst], World.cell?_setCell_same' _ _ _ (by rw [i2]; rfl)⟩, hB.setCell (p := ⟨w.heap.size + 1, 0, none⟩) (by simp) _⟩
    rw [Bool.not_eq_true] at q6
    by_cases q7 : (y.k == 7) = true
    · have hst : stK y.k = true := by simp [stK, q7]
      gi_wp2
      exact ⟨(KeepsOthers.setCell _ _ _).from _, ⟨rfl, by rw [hcs, hst], World.cell?_setCell_same' _ _ _ (by rw [i2]; rfl)⟩, hB.setCell (p := ⟨w.heap.size + 1, 0, none⟩) (by simp) _⟩
    rw [Bool.not_eq_true] at q7
    by_cases q10 : (y.k == 10) = true
    · have hst : stK y.k = true := by simp [stK, q10]
      gi_wp2
      exact ⟨(KeepsOthers.setCell _ _ _).from _, ⟨rfl, by rw [hcs, hst], World.cell?_setCell_same' _ _ _ (by rw [i2]; rfl)⟩, hB.setCell (p := ⟨w.heap.size + 1, 0, none⟩) (by simp) _⟩
    rw [Bool.not_eq_true] at q10
    by_cases q11 : (y.k == 11) = true
    · have hst : stK y.k = true := by simp [stK, q11]
      gi_wp2
      exact ⟨(KeepsOthers.setCell _ _ _).from _, ⟨rfl, by rw [hcs, hst], World.cell?_setCell_same' _ _ _ (by rw [i2]; rfl)⟩, hB.setCell (p := ⟨w.heap.size + 1, 0, none⟩) (by simp) _⟩
    rw [Bool.not_eq_true] at q11
    have hst : stK y.k = false := by simp only [stK, q5, q6, q7, q10, q11, Bool.or_false]
    gi_wp2
    exact ⟨(KeepsOthers.refl _).from _, KX.refl _ _, ⟨by rw [hcs, hst], i2, i3⟩, hB⟩
  case done =>
    rintro D ys W hD rfl ⟨⟨hn, hc, hf⟩, hB⟩ hK
    gi_wp2
    have hK' := (KeepsOthers.setCell W ⟨w.heap.size + 1, 0, none⟩ (.bool true)).same D _ hK rfl
    refine ⟨by simp, .inl ⟨_, _, rfl, run_takeDeferred hK', ?_⟩⟩
    have hc5 := cell_kept (World.cell?_setCell_same' W ⟨w.heap.size + 1, 0, none⟩ (.bool true) (by rw [hc]; rfl)) (grownBy_putObj' _ D (.deferred none)) (fun r e => by cases e; exact ⟨_, hK', rfl⟩)
    refine ⟨.bool true, ?_, by rw [hn]; rfl, (hB.setCell (p := ⟨w.heap.size + 1, 0, none⟩) (by simp) _).trans (belowK_b (w := w) (Nat.le_refl _) _ D _ _ (by omega) hK' rfl rfl)⟩
    simp [results, Tryz.f185, go_sem, hc5]
  case stop =>
    rintro D c pre W hD ⟨t, ht⟩ ⟨⟨rfl, hin, hc⟩, hB⟩ hK
    have hany : x.list.any (fun y => stK y.k) = true := by rw [← ht, List.any_append, hin]; rfl
    gi_wp2
    refine ⟨by simp, .inl ⟨_, _, rfl, run_takeDeferred hK, ?_⟩⟩
    have hc5 := cell_kept hc (grownBy_putObj' _ D (.deferred none)) (fun r e => by cases e; exact ⟨_, hK, rfl⟩)
    refine ⟨.bool false, ?_, by rw [hany]; rfl, hB.trans (belowK_b (w := w) (Nat.le_refl _) W D _ _ (by omega) hK rfl rfl)⟩
    simp [results, Tryz.f185, go_sem, hc5]
end Go.Proofs.YtoimjcfdiljkjaaGreatDoor
namespace Go.Proofs.YtoimjcfdiljkjaaGreatDoor
open Go.RowKit Go.Sort
def RdXs (w : World) (B : Nat) (A : Option Addr) (l : List Xt) : Prop := l ≠ [] → ∃ ad, A = some ad ∧ ad.block < B ∧ ∀ (i : Nat) (y : Xt), l[i]? = some y → XC w (ad.add (i * 6)) y
theorem RdXs.to {w W : World} {A : Option Addr} {l : List Xt} (h : RdXs w w.heap.size A l) (hb : Below w.heap.size w W) : RdXs W W.heap.size A l := fun hn => by
  obtain ⟨ad, e, hB, hc⟩ := h hn
  have hs := hb.size
  exact ⟨ad, e, by omega, fun i t ht => (hc i t ht).keep fun p hp => hb.cell (by rw [hp, add_block]; exact hB)⟩
theorem RdXs.at_ {w : World} {B : Nat} {A : Option Addr} {l : List Xt} (h : RdXs w B A l) {k : Nat} (hk : k < l.length) : ∃ ad y, A = some ad ∧ ad.block < B ∧ l[k]? = some y ∧ y ∈ l ∧ XC w (ad.add (k * 6)) y := by
  have he : l[k]? = some l[k] := List.getElem?_eq_getElem hk
  obtain ⟨ad, e, hb, hc⟩ := h (by rintro rfl; simp at hk)
  exact ⟨ad, _, e, hb, he, List.mem_of_getElem? he, hc k _ he⟩
theorem xsC_get (l : List Xt) (i : Nat) (y : Xt) (h : l[i]? = some y) (j : Nat) (hj : j < 6) : (xsC l)[i * 6 + j]? = (xCs y)[j]? := by
  induction l generalizing i with
  | nil => simp at h
  | cons a r ih =>
    have e : xsC (a :: r) = xCs a ++ xsC r := rfl
    have hl : (xCs a).length = 6 := rfl
    rw [e]
    rcases i with _ | i
    · obtain rfl : a = y := by simpa using h
      rw [Nat.zero_mul, Nat.zero_add, List.getElem?_append_left (by rw [hl]; exact hj)]
    · rw [List.getElem?_append_right (by rw [hl]; omega), hl, show (i + 1) * 6 + j - 6 = i * 6 + j by omega]
      exact ih i (by simpa using h)
theorem add_add6 (g n j : Nat) : ((⟨g, 0, none⟩ : Addr).add n).off + j = n + j ∧ ((⟨g, 0, none⟩ : Addr).add n).block = g ∧ (⟨g, 0, none⟩ : Addr).add n = ⟨g, n, none⟩ := by
  unfold Addr.add
  by_cases h : n = 0
  · subst h; simp
  · simp [h]
theorem RdXs.of_own {w : World} {base : Nat} {e : TypeId} {A : Option Addr} {c : Nat} {l : List Xt} (h : w.ownsRow base e 6 (.slice A l.length c) l.length (xsC l)) : RdXs w w.heap.size A l := fun hn => by
  rcases h.2 with ⟨h1, h2⟩ | ⟨g, cap, cur, h1, h2, h3, h4, h5, h6, h7⟩
  · exact absurd (List.length_eq_zero_iff.1 h2) hn
  · have hA : A = some ⟨g, 0, none⟩ := by injection h1
    subst hA
    refine ⟨_, rfl, (Array.getElem?_eq_some_iff.1 h3).1, fun i y hy => ?_⟩
    have key : ∀ j u, j < 6 → (xCs y)[j]? = some u → w.cell? ⟨g, i * 6 + j, none⟩ = some u := fun j u hj6 hj => by
      rw [← xsC_get l i y hy j hj6] at hj
      rw [cell_of_row w g (i * 6 + j) cur _ (0, 0) h3]
      rw [← h7, List.getElem?_take] at hj
      split at hj
      · rw [← Array.getElem?_toList]; exact hj
      · cases hj
    unfold XC
    rw [(add_add6 g (i * 6) 1).1, (add_add6 g (i * 6) 2).1, (add_add6 g (i * 6) 3).1, (add_add6 g (i * 6) 4).1, (add_add6 g (i * 6) 5).1, (add_add6 g (i * 6) 1).2.1, (add_add6 g (i * 6) 1).2.2]
    exact ⟨key 0 _ (by omega) rfl, key 1 _ (by omega) rfl, key 2 _ (by omega) rfl, key 3 _ (by omega) rfl, key 4 _ (by omega) rfl, key 5 _ (by omega) rfl⟩
def NewX (l : List Xt) (w : World) (e : Ending) (w' : World) : Prop := ∃ A c, e = .returned (.slice A l.length c) ∧ RdXs w' w'.heap.size A l ∧ Below w.heap.size w w'
set_option maxHeartbeats 1000000 in
set_option maxRecDepth 20000 in
theorem rList_any (x : Xt) (w : World) (hX : RdX w w.heap.size x) (hs : x.size ≤ 1048576) : Calls Tryz.prog 110 #[xV x] w (NewX x.list w) := by
  have K : Hid (∀ W, Below w.heap.size w W → Calls Tryz.prog 141 #[xV x, .slice none 0 0] W (NewX x.list W)) := Lib.hid fun W hb => by
    have := rlist_any x W W.heap.size (.slice none 0 0) 0 [] (Nat.le_refl _) (hX.to hb) (World.ownsRow_nil _ _ _ _) (by omega)
    rw [Nat.zero_add, List.nil_append, ← list_length x] at this
    refine this.mono fun e w1 ⟨v', he, h1, h2, h3⟩ => ?_
    obtain ⟨A, c, rfl⟩ := own_form6 h1
    exact ⟨A, c, he, RdXs.of_own h1, ⟨h2.os, h2.tape, h2.output, h2.size, fun k hk => h2.block k hk (by intro e; cases e)⟩⟩
  simp only [xV] at K ⊢
  go_enter Tryz.func110, Tryz.ntmps110
  go_wp2_with (go_at_call 141; (with_reducible refine (K.out _ ?_).mono ?_); (exact bl); rintro e w1 ⟨A, c, rfl, hR, hb1⟩)
  go_ret
  exact ⟨A, c, rfl, hR, bl⟩
theorem parts_count (l : List Xt) (p : Xt → Bool) : ∃ C : Nat → Nat, l.countP p = C l.length ∧ C 0 = 0 ∧ (∀ k, C k ≤ k) ∧ Hid (∀ (k : Nat) (y : Xt), l[k]? = some y → C (k + 1) = C k + if p y then 1 else 0) := by
  refine ⟨fun k => (l.take k).countP p, by simp, by simp, fun k => ?_, Lib.hid fun k y hy => ?_⟩
  · exact Nat.le_trans List.countP_le_length (by simp [List.length_take]; omega)
  · show (l.take (k + 1)).countP p = _
    rw [take_succ_of hy, List.countP_append]
    simp [List.countP_cons]
set_option maxHeartbeats 1000000 in
set_option maxRecDepth 20000 in
theorem rcount_any (x : Xt) (kd : Int) (w : World) (hX : RdX w w.heap.size x) (hs : x.size ≤ 1048576) : Calls Tryz.prog 198 #[xV x, .int .i64 kd] w (Bel (.int .i64 ((x.list.countP fun y => y.k == kd) : Nat)) w) := by
  have K : Hid (∀ W, Below w.heap.size w W → Calls Tryz.prog 110 #[xV x] W (NewX x.list W)) := Lib.hid fun W hb => rList_any x W (hX.to hb) hs
  have hl := list_length x
  obtain ⟨l, hL⟩ : ∃ l, x.list = l := ⟨_, rfl⟩
  rw [hL] at K hl ⊢
  clear hL hX
  obtain ⟨C, hC, hC0, hCl, HC⟩ := parts_count l (fun y => y.k == kd)
  rw [hC]
  clear hC
  have HCl := Lib.hid hCl
  clear hCl
  simp only [xV] at K ⊢
  go_enter Tryz.func198, Tryz.ntmps198
  go_wp2_with (go_at_call 110; (with_reducible refine (K.out _ ?_).mono ?_); (exact bl); rintro e w1 ⟨A, c, rfl, hR, hb1⟩)
  rw [← hl]
  go_loopw [5, 7] (fun n i wr => ∃ k : Nat, k ≤ l.length ∧ i = .int .i64 (k : Int) ∧ n = .int .i64 (C k : Nat) ∧ wr = w1) (fun _ i _ => l.length - (intOf i).toNat)
  case atStart => exact ⟨0, by omega, rfl, by rw [hC0]; rfl, rfl⟩
  case round =>
    obtain ⟨k, hk, rfl, rfl, rfl⟩ := hrel
    have hCk := HCl.out k
    by_cases hlt : k < l.length
    · obtain ⟨ad, y, rfl, had, hy, hm, ⟨c0, c1, c2, c3, c4, c5⟩⟩ := hR.at_ hlt
      have hn := HC.out k y hy
      clear hy
      by_cases hq : (y.k == kd) = true
      · rw [if_pos hq] at hn
        go_wp2
        exact ⟨⟨k + 1, by omega, by congr 1, by congr 1; omega, trivial⟩, by simp [intOf]; omega⟩
      · rw [if_neg hq] at hn
        rw [Bool.not_eq_true] at hq
        go_wp2
        exact ⟨⟨k + 1, by omega, by congr 1, by congr 1; omega, trivial⟩, by simp [intOf]; omega⟩
    · obtain rfl : k = l.length := by omega
      go_wp2
      go_ret
      exact ⟨rfl, bl⟩
theorem any_of_counts (l : List Xt) : (!l.any fun y => stK y.k) = (((((l.countP (fun y => y.k == 5) + l.countP (fun y => y.k == 6)) + l.countP (fun y => y.k == 7)) + l.countP (fun y => y.k == 10)) + l.countP (fun y => y.k == 11)) == 0) := by
  induction l with
  | nil => rfl
  | cons a l ih =>
    rw [List.any_cons, Bool.not_or, ih]
    have e : stK a.k = (a.k == 5 || a.k == 6 || a.k == 7 || a.k == 10 || a.k == 11) := rfl
    rw [e]
    simp only [List.countP_cons]
    generalize l.countP (fun y => y.k == 5) = n1
    generalize l.countP (fun y => y.k == 6) = n2
    generalize l.countP (fun y => y.k == 7) = n3
    generalize l.countP (fun y => y.k == 10) = n4
    generalize l.countP (fun y => y.k == 11) = n5
    cases a.k == 5 <;> cases a.k == 6 <;> cases a.k == 7 <;> cases a.k == 10 <;> cases a.k == 11 <;> simp (config := { decide := false }) only [if_true, if_false, Bool.false_eq_true, Bool.or_false, Bool.false_or, Bool.or_true, Bool.true_or, Bool.not_true, Bool.not_false, Bool.false_and, Bool.true_and, Nat.add_zero] <;> exact (beq_eq_false_iff_ne.2 (by omega)).symm
set_option maxHeartbeats 1000000 in
set_option maxRecDepth 20000 in
theorem rstateless_any (x : Xt) (w : World) (hX : RdX w w.heap.size x) (hs : x.size ≤ 1048576) : Calls Tryz.prog 187 #[xV x] w (Bel (.bool (!x.list.any fun y => stK y.k)) w) := by
  have hl := list_length x
  have KC : ∀ kd : Int, ∃ n : Nat, n ≤ 1048576 ∧ (x.list.countP fun y => y.k == kd) = n ∧ Hid (∀ W, Below w.heap.size w W → Calls Tryz.prog 198 #[xV x, .int .i64 kd] W (Bel (.int .i64 n) W)) := fun kd => ⟨_, Nat.le_trans List.countP_le_length (by omega), rfl, Lib.hid fun W hb => rcount_any x kd W (hX.to hb) hs⟩
  rw [any_of_counts]
  obtain ⟨a, ha, ea, K1⟩ := KC 5
  obtain ⟨b, hb, eb, K2⟩ := KC 6
  obtain ⟨c, hc, ec, K3⟩ := KC 7
  obtain ⟨d, hd, ed, K4⟩ := KC 10
  obtain ⟨f, hf, ef, K5⟩ := KC 11
  rw [ea, eb, ec, ed, ef]
  clear ea eb ec ed ef KC hX
  obtain ⟨s1, e1⟩ : ∃ s : Nat, a + b = s := ⟨_, rfl⟩
  obtain ⟨s2, e2⟩ : ∃ s : Nat, s1 + c = s := ⟨_, rfl⟩
  obtain ⟨s3, e3⟩ : ∃ s : Nat, s2 + d = s := ⟨_, rfl⟩
  obtain ⟨s4, e4⟩ : ∃ s : Nat, s3 + f = s := ⟨_, rfl⟩
  rw [e1, e2, e3, e4]
  have f1 : (a : Int) + (b : Int) = (s1 : Int) := by omega
  have f2 : (s1 : Int) + (c : Int) = (s2 : Int) := by omega
  have f3 : (s2 : Int) + (d : Int) = (s3 : Int) := by omega
  have f4 : (s3 : Int) + (f : Int) = (s4 : Int) := by omega
  have g1 : IntKind.i64.wrap (s1 : Int) = (s1 : Int) := Go.IntWalk.i64_in _ ⟨by omega, by omega⟩
  have g2 : IntKind.i64.wrap (s2 : Int) = (s2 : Int) := Go.IntWalk.i64_in _ ⟨by omega, by omega⟩
  have g3 : IntKind.i64.wrap (s3 : Int) = (s3 : Int) := Go.IntWalk.i64_in _ ⟨by omega, by omega⟩
  have g4 : IntKind.i64.wrap (s4 : Int) = (s4 : Int) := Go.IntWalk.i64_in _ ⟨by omega, by omega⟩
  simp only [xV] at K1 K2 K3 K4 K5 ⊢
  go_enter Tryz.func187, Tryz.ntmps187
  obtain ⟨b0, b1, b2, b3, b4, b5, _⟩ := bxW_cells (w := w) (x := x) (Below.refl _ _)
  have hBx := bxW_below (w := w) (x := x) (Below.refl _ _)
  go_wp2
  obtain ⟨W0, hW0⟩ : ∃ W0, bxW w x = W0 := ⟨_, rfl⟩
  rw [hW0] at b0 b1 b2 b3 b4 b5 hBx
  rw [show w.alloc (.cells #[.int .i64 x.k, .int .i64 x.op, .int .i64 x.t, .int .i64 x.v, .string x.nm, .slice x.A x.ar.length x.c] 33) = W0 from hW0]
  clear hW0
  have k0 := cell_regrown b0
  have k1 := cell_regrown b1
  have k2 := cell_regrown b2
  have k3 := cell_regrown b3
  have k4 := cell_regrown b4
  have k5 := cell_regrown b5
  have c1 := fun dd os => Calls.regrown_of (K1.out (grow (redrawn W0 dd) os) (hBx.trans ((below_regrown W0 dd os).mono hBx.size)))
  have c2 := fun dd os => Calls.regrown_of (K2.out (grow (redrawn W0 dd) os) (hBx.trans ((below_regrown W0 dd os).mono hBx.size)))
  have c3 := fun dd os => Calls.regrown_of (K3.out (grow (redrawn W0 dd) os) (hBx.trans ((below_regrown W0 dd os).mono hBx.size)))
  have c4 := fun dd os => Calls.regrown_of (K4.out (grow (redrawn W0 dd) os) (hBx.trans ((below_regrown W0 dd os).mono hBx.size)))
  have c5 := fun dd os => Calls.regrown_of (K5.out (grow (redrawn W0 dd) os) (hBx.trans ((below_regrown W0 dd os).mono hBx.size)))
  clear K1 K2 K3 K4 K5 b0 b1 b2 b3 b4 b5
  refine wp_region_quiet_below (by kernel_rfl) (by kernel_rfl) ?_
  repeat (quiet_step (first | with_reducible exact c1 _ _ | with_reducible exact c2 _ _ | with_reducible exact c3 _ _ | with_reducible exact c4 _ _ | with_reducible exact c5 _ _))
  refine wpQuiet_nil ?_
  intro _ hw'
  obtain ⟨⟨dq, osq⟩, hw''⟩ := hw'
  subst hw''
  go_wp2
  go_ret
  refine ⟨?_, hBx.trans ((below_regrown W0 dq osq).mono hBx.size)⟩
  have hq : ((s4 : Int) == 0) = (s4 == 0) := by rw [Bool.eq_iff_iff]; simp
  rw [← hq]
  rfl
end Go.Proofs.YtoimjcfdiljkjaaGreatDoor
namespace Go.Proofs.YtoimjcfdiljkjaaGreatDoor.va
open Go.RowKit
theorem ret_int {k : IntKind} {a b : Int} (h : a = b) : Ending.returned (.int k a) = .returned (.int k b) := by rw [h]
theorem ret_bool {a b : Bool} (h : a = b) : Ending.returned (.bool a) = .returned (.bool b) := by rw [h]
theorem in_any (n : Int) (w : World) : Calls Tryz.prog 76 #[.int .i64 n] w fun e w' => e = .returned (.bool (decide (-32768 ≤ n) && decide (n ≤ 32767))) ∧ w = w' := by
  go_enter Tryz.func76, Tryz.ntmps76
  go_wp2
  all_goals go_ret
  · exact ⟨ret_bool (by simp [*]), rfl⟩
  · exact ⟨ret_bool (by simp; omega), rfl⟩
end Go.Proofs.YtoimjcfdiljkjaaGreatDoor.va
namespace Go.Proofs
open Go.Shelf
def Tryz.lays156_ren : Go.Shelf.Ren := ⟨fun | 156 => 51 | 165 => 91 | 166 => 89 | 169 => 26 | 240 => 124 | 241 => 125 | 276 => 164 | 277 => 165 | n => n, fun | 31 => 51 | 9 => 9 | 3 => 3 | 4 => 4 | 0 => 0 | 20 => 20 | 72 => 69 | 76 => 138 | 70 => 66 | 37 => 67 | 75 => 137 | 127 => 112 | 164 => 194 | 5 => 5 | 80 => 76 | n => n, fun | n => n⟩
theorem Tryz.lays156 : Go.Proofs.Lays.n156 Tryz.prog Tryz.lays156_ren := {
  mixed := by kernel_rfl
  f156 := Tryz.func51.trans (congrArg some (by kernel_rfl))
  f165 := Tryz.func91.trans (congrArg some (by kernel_rfl))
  f166 := Tryz.func89.trans (congrArg some (by kernel_rfl))
  f169 := Tryz.func26.trans (congrArg some (by kernel_rfl))
  f240 := Tryz.func124.trans (congrArg some (by kernel_rfl))
  f241 := Tryz.func125.trans (congrArg some (by kernel_rfl))
  f276 := Tryz.func164.trans (congrArg some (by kernel_rfl))
  f277 := Tryz.func165.trans (congrArg some (by kernel_rfl))
  t0 := Tryz.underlying0
  a0 := Tryz.isAgg0
  z0 := Tryz.sizeOf0
  v0 := Tryz.zeroValue0
  t3 := Tryz.underlying3
  a3 := Tryz.isAgg3
  z3 := Tryz.sizeOf3
  v3 := Tryz.zeroValue3
  t4 := Tryz.underlying4
  a4 := Tryz.isAgg4
  z4 := Tryz.sizeOf4
  v4 := Tryz.zeroValue4
  t9 := Tryz.underlying9
  a9 := Tryz.isAgg9
  z9 := Tryz.sizeOf9
  v9 := Tryz.zeroValue9
  t20 := Tryz.underlying20
  a20 := Tryz.isAgg20
  z20 := Tryz.sizeOf20
  v20 := Tryz.zeroValue20
  t31 := Tryz.underlying51
  a31 := Tryz.isAgg51
  z31 := Tryz.sizeOf51
  v31 := Tryz.zeroValue51
  t37 := Tryz.underlying67
  a37 := Tryz.isAgg67
  z37 := Tryz.sizeOf67
  v37 := Tryz.zeroValue67
  t70 := Tryz.underlying66
  a70 := Tryz.isAgg66
  z70 := Tryz.sizeOf66
  v70 := Tryz.zeroValue66
  t72 := Tryz.underlying69
  a72 := Tryz.isAgg69
  z72 := Tryz.sizeOf69
  v72 := Tryz.zeroValue69
  t75 := Tryz.underlying137
  a75 := Tryz.isAgg137
  z75 := Tryz.sizeOf137
  v75 := Tryz.zeroValue137
  t76 := Tryz.underlying138
  a76 := Tryz.isAgg138
  z76 := Tryz.sizeOf138
  v76 := Tryz.zeroValue138
  t127 := Tryz.underlying112
  a127 := Tryz.isAgg112
  z127 := Tryz.sizeOf112
  v127 := Tryz.zeroValue112
  t164 := Tryz.underlying194
  a164 := Tryz.isAgg194
  z164 := Tryz.sizeOf194
  v164 := Tryz.zeroValue194 }
theorem Tryz.Builder_Extra_156 : Builder.Extra Tryz.prog Tryz.lays156_ren := {
  sizeBuilder := by kernel_rfl
  liesBuilder := by kernel_rfl
  t5 := Tryz.underlying5
  a5 := Tryz.isAgg5
  z5 := Tryz.sizeOf5
  v5 := Tryz.zeroValue5
  infoByte := by kernel_rfl
  cellsByte := by kernel_rfl
  sizeByte := by kernel_rfl
  neB5 := by decide }
open Go.RowKit in
theorem Tryz.strings_Join_none (a : Option Addr) (c : Nat) (sep : ByteArray) (w : World) :
    Calls Tryz.prog 51 #[.slice a 0 c, .string sep] w fun e w' => e = .returned (.string ⟨#[]⟩) ∧ w' = w := Any.strings_Join_none Tryz.lays156 Tryz.Builder_Extra_156 a c sep w
open Go.RowKit in
theorem Tryz.strings_Join (bk o c : Nat) (xs : List ByteArray) (sep : ByteArray) (w : World) (hcells : ∀ (j : Nat) x, xs[j]? = some x → w.cell? ⟨bk, o + j, none⟩ = some (.string x)) (hbk : bk < w.heap.size) (hN : xs.length ≤ 140737488355328) (hcap : xs.length ≤ c) (hlen : (Lib.join (xs.map (·.data.toList)) sep.data.toList).length ≤ 140737488355328) :
    Calls Tryz.prog 51 #[.slice (some ⟨bk, o, none⟩) xs.length c, .string sep] w fun e w' => e = .returned (.string ⟨(Lib.join (xs.map (·.data.toList)) sep.data.toList).toArray⟩) ∧ Below w.heap.size w w' := Any.strings_Join Tryz.lays156 Tryz.Builder_Extra_156 bk o c xs sep w hcells hbk hN hcap hlen
def Tryz.lays160_ren : Go.Shelf.Ren := ⟨fun | 160 => 214 | 232 => 225 | 231 => 224 | 227 => 226 | 234 => 228 | 233 => 227 | 236 => 230 | 235 => 229 | 228 => 238 | 271 => 241 | 151 => 240 | 197 => 239 | 120 => 245 | 152 => 244 | 260 => 243 | 137 => 181 | 119 => 246 | 224 => 236 | 225 => 235 | 217 => 194 | 266 => 207 | n => n, fun | 9 => 9 | 4 => 4 | 3 => 3 | 5 => 5 | 117 => 240 | 116 => 239 | 0 => 0 | 124 => 243 | 21 => 21 | 105 => 249 | 46 => 229 | 119 => 257 | 139 => 260 | 138 => 259 | n => n, fun | 3 => 6 | 4 => 7 | n => n⟩
theorem Tryz.lays160 : Go.Proofs.Lays.n160 Tryz.prog Tryz.lays160_ren := {
  mixed := by kernel_rfl
  f119 := Tryz.func246.trans (congrArg some (by kernel_rfl))
  f120 := Tryz.func245.trans (congrArg some (by kernel_rfl))
  f137 := Tryz.func181.trans (congrArg some (by kernel_rfl))
  f151 := Tryz.func240.trans (congrArg some (by kernel_rfl))
  f152 := Tryz.func244.trans (congrArg some (by kernel_rfl))
  f160 := Tryz.func214.trans (congrArg some (by kernel_rfl))
  f197 := Tryz.func239.trans (congrArg some (by kernel_rfl))
  f217 := Tryz.func194.trans (congrArg some (by kernel_rfl))
  f224 := Tryz.func236.trans (congrArg some (by kernel_rfl))
  f225 := Tryz.func235.trans (congrArg some (by kernel_rfl))
  f227 := Tryz.func226.trans (congrArg some (by kernel_rfl))
  f228 := Tryz.func238.trans (congrArg some (by kernel_rfl))
  f231 := Tryz.func224.trans (congrArg some (by kernel_rfl))
  f232 := Tryz.func225.trans (congrArg some (by kernel_rfl))
  f233 := Tryz.func227.trans (congrArg some (by kernel_rfl))
  f234 := Tryz.func228.trans (congrArg some (by kernel_rfl))
  f235 := Tryz.func229.trans (congrArg some (by kernel_rfl))
  f236 := Tryz.func230.trans (congrArg some (by kernel_rfl))
  f260 := Tryz.func243.trans (congrArg some (by kernel_rfl))
  f266 := Tryz.func207.trans (congrArg some (by kernel_rfl))
  f271 := Tryz.func241.trans (congrArg some (by kernel_rfl))
  t0 := Tryz.underlying0
  a0 := Tryz.isAgg0
  z0 := Tryz.sizeOf0
  v0 := Tryz.zeroValue0
  t3 := Tryz.underlying3
  a3 := Tryz.isAgg3
  z3 := Tryz.sizeOf3
  v3 := Tryz.zeroValue3
  t4 := Tryz.underlying4
  a4 := Tryz.isAgg4
  z4 := Tryz.sizeOf4
  v4 := Tryz.zeroValue4
  t5 := Tryz.underlying5
  a5 := Tryz.isAgg5
  z5 := Tryz.sizeOf5
  v5 := Tryz.zeroValue5
  t9 := Tryz.underlying9
  a9 := Tryz.isAgg9
  z9 := Tryz.sizeOf9
  v9 := Tryz.zeroValue9
  t21 := Tryz.underlying21
  a21 := Tryz.isAgg21
  z21 := Tryz.sizeOf21
  v21 := Tryz.zeroValue21
  t46 := Tryz.underlying229
  a46 := Tryz.isAgg229
  z46 := Tryz.sizeOf229
  v46 := Tryz.zeroValue229
  t105 := Tryz.underlying249
  a105 := Tryz.isAgg249
  z105 := Tryz.sizeOf249
  v105 := Tryz.zeroValue249
  t116 := Tryz.underlying239
  a116 := Tryz.isAgg239
  z116 := Tryz.sizeOf239
  t117 := Tryz.underlying240
  a117 := Tryz.isAgg240
  z117 := Tryz.sizeOf240
  v117 := Tryz.zeroValue240
  t119 := Tryz.underlying257
  a119 := Tryz.isAgg257
  z119 := Tryz.sizeOf257
  t124 := Tryz.underlying243
  a124 := Tryz.isAgg243
  z124 := Tryz.sizeOf243
  v124 := Tryz.zeroValue243
  t138 := Tryz.underlying259
  a138 := Tryz.isAgg259
  z138 := Tryz.sizeOf259
  v138 := Tryz.zeroValue259
  t139 := Tryz.underlying260
  a139 := Tryz.isAgg260
  z139 := Tryz.sizeOf260
  v139 := Tryz.zeroValue260
  g3 := by kernel_rfl
  g4 := by kernel_rfl }
def Tryz.lays137_ren : Go.Shelf.Ren := ⟨fun | 137 => 181 | 217 => 194 | 266 => 207 | n => n, fun | 9 => 9 | 5 => 5 | 3 => 3 | n => n, fun | n => n⟩
theorem Tryz.lays137 : Go.Proofs.Lays.n137 Tryz.prog Tryz.lays137_ren := {
  mixed := by kernel_rfl
  f137 := Tryz.func181.trans (congrArg some (by kernel_rfl))
  f217 := Tryz.func194.trans (congrArg some (by kernel_rfl))
  f266 := Tryz.func207.trans (congrArg some (by kernel_rfl))
  t3 := Tryz.underlying3
  a3 := Tryz.isAgg3
  z3 := Tryz.sizeOf3
  v3 := Tryz.zeroValue3
  t5 := Tryz.underlying5
  a5 := Tryz.isAgg5
  z5 := Tryz.sizeOf5
  v5 := Tryz.zeroValue5
  t9 := Tryz.underlying9
  a9 := Tryz.isAgg9
  z9 := Tryz.sizeOf9
  v9 := Tryz.zeroValue9 }
open Go.RowKit in
theorem Tryz.strings_IndexByte (s : ByteArray) (c : Int) (w : World) :
    Calls Tryz.prog 181 #[.string s, .int .u8 c] w fun e w' => e = .returned (.int .i64 (Lib.indexByte s.data.toList c.toNat.toUInt8)) ∧ w' = w := Any.strings_IndexByte Tryz.lays137 s c w
def Tryz.laysM171_ren : Go.Shelf.Ren := ⟨fun | 171 => 140 | 243 => 175 | 246 => 193 | 283 => 203 | 284 => 204 | 285 => 205 | 286 => 206 | 129 => 216 | 317 => 215 | 318 => 217 | 319 => 218 | 320 => 219 | 337 => 231 | 338 => 232 | n => n, fun | 3 => 3 | 9 => 9 | 2 => 2 | 4 => 4 | 171 => 212 | 0 => 0 | 53 => 213 | 37 => 67 | 5 => 5 | 173 => 216 | 212 => 226 | 51 => 227 | 20 => 20 | 213 => 228 | 46 => 229 | 232 => 252 | 233 => 253 | n => n, fun | 17 => 1 | 18 => 4 | 19 => 5 | n => n⟩
theorem Tryz.laysM171 : Go.Proofs.LaysM.n171 Tryz.prog Tryz.laysM171_ren := {
  mixed := by kernel_rfl
  f129 := Tryz.func216.trans (congrArg some (by kernel_rfl))
  f171 := Tryz.func140.trans (congrArg some (by kernel_rfl))
  f243 := Tryz.func175.trans (congrArg some (by kernel_rfl))
  f246 := Tryz.func193.trans (congrArg some (by kernel_rfl))
  f283 := Tryz.func203.trans (congrArg some (by kernel_rfl))
  f284 := Tryz.func204.trans (congrArg some (by kernel_rfl))
  f285 := Tryz.func205.trans (congrArg some (by kernel_rfl))
  f286 := Tryz.func206.trans (congrArg some (by kernel_rfl))
  f317 := Tryz.func215.trans (congrArg some (by kernel_rfl))
  f318 := Tryz.func217.trans (congrArg some (by kernel_rfl))
  f319 := Tryz.func218.trans (congrArg some (by kernel_rfl))
  f320 := Tryz.func219.trans (congrArg some (by kernel_rfl))
  f337 := Tryz.func231.trans (congrArg some (by kernel_rfl))
  f338 := Tryz.func232.trans (congrArg some (by kernel_rfl))
  t0 := Tryz.underlying0
  a0 := Tryz.isAgg0
  z0 := Tryz.sizeOf0
  v0 := Tryz.zeroValue0
  t2 := Tryz.underlying2
  a2 := Tryz.isAgg2
  z2 := Tryz.sizeOf2
  v2 := Tryz.zeroValue2
  t3 := Tryz.underlying3
  a3 := Tryz.isAgg3
  z3 := Tryz.sizeOf3
  v3 := Tryz.zeroValue3
  t4 := Tryz.underlying4
  a4 := Tryz.isAgg4
  z4 := Tryz.sizeOf4
  v4 := Tryz.zeroValue4
  t5 := Tryz.underlying5
  a5 := Tryz.isAgg5
  z5 := Tryz.sizeOf5
  v5 := Tryz.zeroValue5
  t9 := Tryz.underlying9
  a9 := Tryz.isAgg9
  z9 := Tryz.sizeOf9
  v9 := Tryz.zeroValue9
  t20 := Tryz.underlying20
  a20 := Tryz.isAgg20
  z20 := Tryz.sizeOf20
  v20 := Tryz.zeroValue20
  t37 := Tryz.underlying67
  a37 := Tryz.isAgg67
  z37 := Tryz.sizeOf67
  v37 := Tryz.zeroValue67
  t46 := Tryz.underlying229
  a46 := Tryz.isAgg229
  z46 := Tryz.sizeOf229
  v46 := Tryz.zeroValue229
  t51 := Tryz.underlying227
  a51 := Tryz.isAgg227
  z51 := Tryz.sizeOf227
  v51 := Tryz.zeroValue227
  t53 := Tryz.underlying213
  a53 := Tryz.isAgg213
  z53 := Tryz.sizeOf213
  v53 := Tryz.zeroValue213
  t171 := Tryz.underlying212
  a171 := Tryz.isAgg212
  z171 := Tryz.sizeOf212
  v171 := Tryz.zeroValue212
  t173 := Tryz.underlying216
  a173 := Tryz.isAgg216
  z173 := Tryz.sizeOf216
  v173 := Tryz.zeroValue216
  t212 := Tryz.underlying226
  a212 := Tryz.isAgg226
  z212 := Tryz.sizeOf226
  v212 := Tryz.zeroValue226
  t213 := Tryz.underlying228
  a213 := Tryz.isAgg228
  z213 := Tryz.sizeOf228
  t232 := Tryz.underlying252
  a232 := Tryz.isAgg252
  z232 := Tryz.sizeOf252
  v232 := Tryz.zeroValue252
  t233 := Tryz.underlying253
  a233 := Tryz.isAgg253
  z233 := Tryz.sizeOf253
  v233 := Tryz.zeroValue253
  g17 := by kernel_rfl
  g18 := by kernel_rfl
  g19 := by kernel_rfl
  i0 := by kernel_rfl
  i2 := by kernel_rfl
  i3 := by kernel_rfl
  i4 := by kernel_rfl
  i5 := by kernel_rfl
  i9 := by kernel_rfl
  i20 := by kernel_rfl
  i37 := by kernel_rfl
  i46 := by kernel_rfl
  i51 := by kernel_rfl
  i53 := by kernel_rfl
  i171 := by kernel_rfl
  i173 := by kernel_rfl
  i212 := by kernel_rfl
  i232 := by kernel_rfl
  i233 := by kernel_rfl
  m17 := by kernel_rfl
  m18 := by kernel_rfl
  m19 := by kernel_rfl }
open Go.RowKit Go.Sort Go.Lib in
theorem Tryz.strconv_Itoa (n : Int) (h0 : -9223372036854775808 ≤ n) (h1 : n ≤ 9223372036854775807) (w : World) (htab : Lib.TabIs Tryz.prog w "internal/strconv.uint64pow10" .u64 Lib.pow10Tab) :
    Calls Tryz.prog 140 #[.int .i64 n] w fun e w' => e = .returned (.string ⟨(Lib.itoa n).toArray⟩) ∧ ∃ k os, w' = grow (w.drewN k) os := Any.strconv_Itoa Tryz.laysM171 n h0 h1 w htab
def Tryz.laysC172_ren : Go.Shelf.Ren := ⟨fun | 172 => 182 | 244 => 195 | 245 => 196 | 247 => 208 | 279 => 209 | 280 => 210 | 281 => 211 | 282 => 212 | 287 => 220 | 316 => 221 | 171 => 140 | 205 => 222 | 321 => 233 | 322 => 234 | 243 => 175 | 246 => 193 | 283 => 203 | 284 => 204 | 285 => 205 | 286 => 206 | 129 => 216 | 317 => 215 | 318 => 217 | 319 => 218 | 320 => 219 | 337 => 231 | 338 => 232 | n => n, fun | 9 => 9 | 3 => 3 | 75 => 137 | 76 => 138 | 4 => 4 | 5 => 5 | 167 => 218 | 37 => 67 | 0 => 0 | 85 => 219 | 2 => 2 | 168 => 221 | 53 => 213 | 175 => 231 | 46 => 229 | 210 => 234 | 127 => 112 | 145 => 248 | 143 => 246 | 21 => 21 | 171 => 212 | 173 => 216 | 212 => 226 | 51 => 227 | 20 => 20 | 213 => 228 | 232 => 252 | 233 => 253 | 80 => 76 | n => n, fun | 15 => 2 | 16 => 3 | 17 => 1 | 18 => 4 | 19 => 5 | n => n⟩
theorem Tryz.laysC172 : Go.Proofs.LaysC.n172 Tryz.prog Tryz.laysC172_ren := {
  mixed := by kernel_rfl
  f129 := Tryz.func216.trans (congrArg some (by kernel_rfl))
  f171 := Tryz.func140.trans (congrArg some (by kernel_rfl))
  f172 := Tryz.func182.trans (congrArg some (by kernel_rfl))
  f205 := Tryz.func222.trans (congrArg some (by kernel_rfl))
  f243 := Tryz.func175.trans (congrArg some (by kernel_rfl))
  f244 := Tryz.func195.trans (congrArg some (by kernel_rfl))
  f245 := Tryz.func196.trans (congrArg some (by kernel_rfl))
  f246 := Tryz.func193.trans (congrArg some (by kernel_rfl))
  f247 := Tryz.func208.trans (congrArg some (by kernel_rfl))
  f279 := Tryz.func209.trans (congrArg some (by kernel_rfl))
  f280 := Tryz.func210.trans (congrArg some (by kernel_rfl))
  f281 := Tryz.func211.trans (congrArg some (by kernel_rfl))
  f282 := Tryz.func212.trans (congrArg some (by kernel_rfl))
  f283 := Tryz.func203.trans (congrArg some (by kernel_rfl))
  f284 := Tryz.func204.trans (congrArg some (by kernel_rfl))
  f285 := Tryz.func205.trans (congrArg some (by kernel_rfl))
  f286 := Tryz.func206.trans (congrArg some (by kernel_rfl))
  f287 := Tryz.func220.trans (congrArg some (by kernel_rfl))
  f316 := Tryz.func221.trans (congrArg some (by kernel_rfl))
  f317 := Tryz.func215.trans (congrArg some (by kernel_rfl))
  f318 := Tryz.func217.trans (congrArg some (by kernel_rfl))
  f319 := Tryz.func218.trans (congrArg some (by kernel_rfl))
  f320 := Tryz.func219.trans (congrArg some (by kernel_rfl))
  f321 := Tryz.func233.trans (congrArg some (by kernel_rfl))
  f322 := Tryz.func234.trans (congrArg some (by kernel_rfl))
  f337 := Tryz.func231.trans (congrArg some (by kernel_rfl))
  f338 := Tryz.func232.trans (congrArg some (by kernel_rfl))
  t0 := Tryz.underlying0
  a0 := Tryz.isAgg0
  z0 := Tryz.sizeOf0
  v0 := Tryz.zeroValue0
  t2 := Tryz.underlying2
  a2 := Tryz.isAgg2
  z2 := Tryz.sizeOf2
  v2 := Tryz.zeroValue2
  t3 := Tryz.underlying3
  a3 := Tryz.isAgg3
  z3 := Tryz.sizeOf3
  v3 := Tryz.zeroValue3
  t4 := Tryz.underlying4
  a4 := Tryz.isAgg4
  z4 := Tryz.sizeOf4
  v4 := Tryz.zeroValue4
  t5 := Tryz.underlying5
  a5 := Tryz.isAgg5
  z5 := Tryz.sizeOf5
  v5 := Tryz.zeroValue5
  t9 := Tryz.underlying9
  a9 := Tryz.isAgg9
  z9 := Tryz.sizeOf9
  v9 := Tryz.zeroValue9
  t20 := Tryz.underlying20
  a20 := Tryz.isAgg20
  z20 := Tryz.sizeOf20
  v20 := Tryz.zeroValue20
  t21 := Tryz.underlying21
  a21 := Tryz.isAgg21
  z21 := Tryz.sizeOf21
  v21 := Tryz.zeroValue21
  t37 := Tryz.underlying67
  a37 := Tryz.isAgg67
  z37 := Tryz.sizeOf67
  v37 := Tryz.zeroValue67
  t46 := Tryz.underlying229
  a46 := Tryz.isAgg229
  z46 := Tryz.sizeOf229
  v46 := Tryz.zeroValue229
  t51 := Tryz.underlying227
  a51 := Tryz.isAgg227
  z51 := Tryz.sizeOf227
  v51 := Tryz.zeroValue227
  t53 := Tryz.underlying213
  a53 := Tryz.isAgg213
  z53 := Tryz.sizeOf213
  v53 := Tryz.zeroValue213
  t75 := Tryz.underlying137
  a75 := Tryz.isAgg137
  z75 := Tryz.sizeOf137
  v75 := Tryz.zeroValue137
  t76 := Tryz.underlying138
  a76 := Tryz.isAgg138
  z76 := Tryz.sizeOf138
  v76 := Tryz.zeroValue138
  t85 := Tryz.underlying219
  a85 := Tryz.isAgg219
  z85 := Tryz.sizeOf219
  v85 := Tryz.zeroValue219
  t127 := Tryz.underlying112
  a127 := Tryz.isAgg112
  z127 := Tryz.sizeOf112
  v127 := Tryz.zeroValue112
  t143 := Tryz.underlying246
  a143 := Tryz.isAgg246
  z143 := Tryz.sizeOf246
  v143 := Tryz.zeroValue246
  t145 := Tryz.underlying248
  a145 := Tryz.isAgg248
  z145 := Tryz.sizeOf248
  v145 := Tryz.zeroValue248
  t167 := Tryz.underlying218
  a167 := Tryz.isAgg218
  z167 := Tryz.sizeOf218
  v167 := Tryz.zeroValue218
  t168 := Tryz.underlying221
  a168 := Tryz.isAgg221
  z168 := Tryz.sizeOf221
  v168 := Tryz.zeroValue221
  t171 := Tryz.underlying212
  a171 := Tryz.isAgg212
  z171 := Tryz.sizeOf212
  v171 := Tryz.zeroValue212
  t173 := Tryz.underlying216
  a173 := Tryz.isAgg216
  z173 := Tryz.sizeOf216
  v173 := Tryz.zeroValue216
  t175 := Tryz.underlying231
  a175 := Tryz.isAgg231
  z175 := Tryz.sizeOf231
  v175 := Tryz.zeroValue231
  t210 := Tryz.underlying234
  a210 := Tryz.isAgg234
  z210 := Tryz.sizeOf234
  v210 := Tryz.zeroValue234
  t212 := Tryz.underlying226
  a212 := Tryz.isAgg226
  z212 := Tryz.sizeOf226
  v212 := Tryz.zeroValue226
  t213 := Tryz.underlying228
  a213 := Tryz.isAgg228
  z213 := Tryz.sizeOf228
  t232 := Tryz.underlying252
  a232 := Tryz.isAgg252
  z232 := Tryz.sizeOf252
  v232 := Tryz.zeroValue252
  t233 := Tryz.underlying253
  a233 := Tryz.isAgg253
  z233 := Tryz.sizeOf253
  v233 := Tryz.zeroValue253
  g15 := by kernel_rfl
  g16 := by kernel_rfl
  g17 := by kernel_rfl
  g18 := by kernel_rfl
  g19 := by kernel_rfl
  t80 := Tryz.underlying76
  a80 := Tryz.isAgg76
  z80 := Tryz.sizeOf76
  v80 := Tryz.zeroValue76
  i0 := by kernel_rfl
  i2 := by kernel_rfl
  i3 := by kernel_rfl
  i4 := by kernel_rfl
  i5 := by kernel_rfl
  i9 := by kernel_rfl
  i20 := by kernel_rfl
  i21 := by kernel_rfl
  i37 := by kernel_rfl
  i46 := by kernel_rfl
  i51 := by kernel_rfl
  i53 := by kernel_rfl
  i75 := by kernel_rfl
  i76 := by kernel_rfl
  i80 := by kernel_rfl
  i85 := by kernel_rfl
  i127 := by kernel_rfl
  i143 := by kernel_rfl
  i145 := by kernel_rfl
  i167 := by kernel_rfl
  i168 := by kernel_rfl
  i171 := by kernel_rfl
  i173 := by kernel_rfl
  i175 := by kernel_rfl
  i210 := by kernel_rfl
  i212 := by kernel_rfl
  i232 := by kernel_rfl
  i233 := by kernel_rfl
  m15 := by kernel_rfl
  m16 := by kernel_rfl
  m17 := by kernel_rfl
  m18 := by kernel_rfl
  m19 := by kernel_rfl
  c0 := by kernel_rfl
  c2 := by kernel_rfl
  c3 := by kernel_rfl
  c4 := by kernel_rfl
  c5 := by kernel_rfl
  c9 := by kernel_rfl
  c20 := by kernel_rfl
  c21 := by kernel_rfl
  c37 := by kernel_rfl
  c46 := by kernel_rfl
  c51 := by kernel_rfl
  c53 := by kernel_rfl
  c75 := by kernel_rfl
  c76 := by kernel_rfl
  c80 := by kernel_rfl
  c85 := by kernel_rfl
  c127 := by kernel_rfl
  c143 := by kernel_rfl
  c145 := by kernel_rfl
  c167 := by kernel_rfl
  c168 := by kernel_rfl
  c171 := by kernel_rfl
  c173 := by kernel_rfl
  c175 := by kernel_rfl
  c210 := by kernel_rfl
  c212 := by kernel_rfl
  c213 := by kernel_rfl
  c232 := by kernel_rfl
  c233 := by kernel_rfl }
open Go.RowKit in
theorem Tryz.strconv_Atoi_ok (s : ByteArray) (hmax : s.size ≤ 9223372036854775806) (v : Int) (h : Lib.atoiAll s.data.toList = .ok v) (w : World) :
    Calls Tryz.prog 182 #[.string s] w fun e w' => e = .returned (.tuple #[.int .i64 v, .nilIface]) ∧ (w' = w ∨ ∃ t, w' = Lib.bytesWorld w 5 t) := Any.strconv_Atoi_ok Tryz.laysC172 s hmax v h w
open Go.RowKit in
theorem Tryz.strconv_Atoi_syntax_var (s : ByteArray) (hlim : s.size ≤ 281474976710656) (h : Lib.atoiAll s.data.toList = .«syntax») (tp : TypeId) (p : Value) (w : World) (hvar : w.var? Tryz.prog "strconv.ErrSyntax" = some #[.iface tp p]) :
    Calls Tryz.prog 182 #[.string s] w fun e w' => ∃ N, e = .returned (.tuple #[.int .i64 0, .iface 221 (.pointer (some ⟨N, 0, none⟩))]) ∧ w.heap.size ≤ N ∧ w'.heap[N]? = some (.cells #[.string ⟨#[65, 116, 111, 105]⟩, .string s, .iface tp p] 234 (0, 0)) ∧ Below w.heap.size w w' := Any.strconv_Atoi_syntax_var Tryz.laysC172 s hlim h tp p w hvar
open Go.RowKit in
theorem Tryz.strconv_Atoi_range_var (s : ByteArray) (hlim : s.size ≤ 281474976710656) (h : Lib.atoiAll s.data.toList = .range) (tp : TypeId) (p : Value) (w : World) (hvar : w.var? Tryz.prog "strconv.ErrRange" = some #[.iface tp p]) :
    Calls Tryz.prog 182 #[.string s] w fun e w' => ∃ N, e = .returned (.tuple #[.int .i64 (Lib.atoiSat s.data.toList), .iface 221 (.pointer (some ⟨N, 0, none⟩))]) ∧ w.heap.size ≤ N ∧ w'.heap[N]? = some (.cells #[.string ⟨#[65, 116, 111, 105]⟩, .string s, .iface tp p] 234 (0, 0)) ∧ Below w.heap.size w w' := Any.strconv_Atoi_range_var Tryz.laysC172 s hlim h tp p w hvar
def Tryz.lays219_ren : Go.Shelf.Ren := ⟨fun | 219 => 223 | 217 => 194 | 225 => 235 | 224 => 236 | 267 => 237 | 266 => 207 | 314 => 242 | n => n, fun | 9 => 9 | 3 => 3 | 4 => 4 | 5 => 5 | 46 => 229 | 146 => 254 | 51 => 227 | n => n, fun | 1 => 0 | n => n⟩
theorem Tryz.lays219 : Go.Proofs.Lays.n219 Tryz.prog Tryz.lays219_ren := {
  mixed := by kernel_rfl
  f217 := Tryz.func194.trans (congrArg some (by kernel_rfl))
  f219 := Tryz.func223.trans (congrArg some (by kernel_rfl))
  f224 := Tryz.func236.trans (congrArg some (by kernel_rfl))
  f225 := Tryz.func235.trans (congrArg some (by kernel_rfl))
  f266 := Tryz.func207.trans (congrArg some (by kernel_rfl))
  f267 := Tryz.func237.trans (congrArg some (by kernel_rfl))
  f314 := Tryz.func242.trans (congrArg some (by kernel_rfl))
  t3 := Tryz.underlying3
  a3 := Tryz.isAgg3
  z3 := Tryz.sizeOf3
  v3 := Tryz.zeroValue3
  t4 := Tryz.underlying4
  a4 := Tryz.isAgg4
  z4 := Tryz.sizeOf4
  v4 := Tryz.zeroValue4
  t5 := Tryz.underlying5
  a5 := Tryz.isAgg5
  z5 := Tryz.sizeOf5
  v5 := Tryz.zeroValue5
  t9 := Tryz.underlying9
  a9 := Tryz.isAgg9
  z9 := Tryz.sizeOf9
  v9 := Tryz.zeroValue9
  t46 := Tryz.underlying229
  a46 := Tryz.isAgg229
  z46 := Tryz.sizeOf229
  v46 := Tryz.zeroValue229
  t51 := Tryz.underlying227
  a51 := Tryz.isAgg227
  z51 := Tryz.sizeOf227
  v51 := Tryz.zeroValue227
  t146 := Tryz.underlying254
  a146 := Tryz.isAgg254
  z146 := Tryz.sizeOf254
  v146 := Tryz.zeroValue254
  g1 := by kernel_rfl }
open Go.RowKit Go.Lib in
theorem Tryz.stringslite_Index_one (s : ByteArray) (c : UInt8) (w : World) :
    Calls Tryz.prog 223 #[.string s, .string ⟨#[c]⟩] w fun e w' => e = .returned (.int .i64 (Lib.indexByte s.data.toList c)) ∧ w' = w := Any.stringslite_Index_one Tryz.lays219 s c w
def Tryz.lays99_ren : Go.Shelf.Ren := ⟨fun | 99 => 183 | 206 => 197 | n => n, fun | 9 => 9 | 4 => 4 | 3 => 3 | n => n, fun | n => n⟩
theorem Tryz.lays99 : Go.Proofs.Lays.n99 Tryz.prog Tryz.lays99_ren := {
  mixed := by kernel_rfl
  f99 := Tryz.func183.trans (congrArg some (by kernel_rfl))
  f206 := Tryz.func197.trans (congrArg some (by kernel_rfl))
  t3 := Tryz.underlying3
  a3 := Tryz.isAgg3
  z3 := Tryz.sizeOf3
  v3 := Tryz.zeroValue3
  t4 := Tryz.underlying4
  a4 := Tryz.isAgg4
  z4 := Tryz.sizeOf4
  v4 := Tryz.zeroValue4
  t9 := Tryz.underlying9
  a9 := Tryz.isAgg9
  z9 := Tryz.sizeOf9
  v9 := Tryz.zeroValue9 }
open Go.RowKit Go.Lib in
theorem Tryz.strings_HasPrefix (s p : ByteArray) (w : World) :
    Calls Tryz.prog 183 #[.string s, .string p] w fun e w' => e = .returned (.bool (Lib.hasPrefix s.data.toList p.data.toList)) ∧ w' = w := Any.strings_HasPrefix Tryz.lays99 s p w
def Tryz.laysNm217_ren : Go.Shelf.Ren := ⟨fun | 17 => 106 | n => n, fun | 24 => 51 | 9 => 9 | 3 => 3 | 4 => 4 | 0 => 0 | n => n, fun | n => n⟩
theorem Tryz.laysNm217 : Go.Proofs.Lays2.n17 Tryz.prog Tryz.laysNm217_ren := {
  mixed := by kernel_rfl
  f17 := Tryz.func106.trans (congrArg some (by kernel_rfl))
  t0 := Tryz.underlying0
  a0 := Tryz.isAgg0
  z0 := Tryz.sizeOf0
  v0 := Tryz.zeroValue0
  t3 := Tryz.underlying3
  a3 := Tryz.isAgg3
  z3 := Tryz.sizeOf3
  v3 := Tryz.zeroValue3
  t4 := Tryz.underlying4
  a4 := Tryz.isAgg4
  z4 := Tryz.sizeOf4
  v4 := Tryz.zeroValue4
  t9 := Tryz.underlying9
  a9 := Tryz.isAgg9
  z9 := Tryz.sizeOf9
  v9 := Tryz.zeroValue9
  t24 := Tryz.underlying51
  a24 := Tryz.isAgg51
  z24 := Tryz.sizeOf51
  v24 := Tryz.zeroValue51 }
open Go.RowKit Go.Lib Go.Sort in
theorem Tryz.slices_Reverse_string (blk off cap : Nat) (zs : List (List UInt8)) (w : World) (hH : Holds encStr w blk off zs.toArray) (hsz : zs.length ≤ 9223372036854775807) :
    Calls Tryz.prog 106 #[.slice (some ⟨blk, off, none⟩) zs.length cap] w fun e w' => e = .returned (.tuple #[]) ∧ ∃ n, w' = putRow encStr (Sort.ahead w n) blk off zs.reverse.toArray := Any.slices_Reverse_string Tryz.laysNm217 blk off cap zs w hH hsz
end Go.Proofs
namespace Go.Proofs
open Go.Shelf
open Go.RowKit Go.Lib in
theorem Tryz.strings_Trim_laid (s cutset : ByteArray) (w : World) (hs : s.size ≤ 9223372036854775807) (hcs : cutset.size < 4294967281) (hascii : ∀ (j : Nat) b, cutset.data.toList[j]? = some b → b.toNat < 128) :
    Calls Tryz.prog 214 #[.string s, .string cutset] w fun e w' => e = .returned (.string ⟨(Lib.trimS s.data.toList cutset.data.toList).toArray⟩) ∧ Below w.heap.size w w' := Any.strings_Trim_laid Tryz.lays160 (by kernel_rfl) s cutset w hs hcs hascii
end Go.Proofs
namespace Go.Proofs.YtoimjcfdiljkjaaGreatDoor.va
open Go.RowKit
def Bel (v : Value) (w : World) (e : Ending) (w' : World) : Prop := e = .returned v ∧ Below w.heap.size w w'
def ss (l : List ByteArray) : List Value := l.map Value.string
theorem ss_get {l : List ByteArray} {k : Nat} {b : ByteArray} (h : l[k]? = some b) : (ss l)[k]? = some (.string b) := by simp [ss, h]
theorem _root_.Go.Proofs.YtoimjcfdiljkjaaGreatDoor.Rd.str_at {w : World} {B : Nat} {A : Option Addr} {l : List ByteArray} (h : Rd w B A (ss l)) {k : Nat} (hk : k < l.length) :
    ∃ ad b, A = some ad ∧ ad.block < B ∧ l[k]? = some b ∧ w.cell? (ad.add k) = some (.string b) := by
  obtain ⟨ad, e, hb, hc⟩ := h (by intro e; have := congrArg List.length e; simp [ss] at this; rw [this] at hk; simp at hk)
  exact ⟨ad, l[k], e, hb, List.getElem?_eq_getElem hk, hc k _ (ss_get (List.getElem?_eq_getElem hk))⟩
structure En where
  name : ByteArray
  A : Option Addr
  c : Nat
  tags : List ByteArray
def RdE (w : World) (B : Nat) (A : Option Addr) (es : List En) : Prop :=
  (es ≠ [] → ∃ ad, A = some ad ∧ ad.block < B ∧ ∀ (i : Nat) (e : En), es[i]? = some e → w.cell? (ad.add (i * 2)) = some (.string e.name) ∧ w.cell? (ad.add (i * 2 + 1)) = some (.slice e.A e.tags.length e.c)) ∧
  ∀ (i : Nat) (e : En), es[i]? = some e → Rd w B e.A (ss e.tags)
theorem RdE.nil (w : World) (B : Nat) (A : Option Addr) : RdE w B A [] := ⟨fun h => absurd rfl h, fun i e h => by simp at h⟩
theorem RdE.keep {w w' : World} {B : Nat} {A : Option Addr} {es : List En} (h : RdE w B A es) (hk : ∀ p : Addr, p.block < B → w'.cell? p = w.cell? p) : RdE w' B A es := by
  refine ⟨fun hn => ?_, fun i e he => (h.2 i e he).keep hk⟩
  obtain ⟨ad, e, hb, hc⟩ := h.1 hn
  exact ⟨ad, e, hb, fun i x hx => ⟨(hk _ (by rw [add_block]; exact hb)).trans (hc i x hx).1, (hk _ (by rw [add_block]; exact hb)).trans (hc i x hx).2⟩⟩
theorem RdE.more {w : World} {B B' : Nat} {A : Option Addr} {es : List En} (h : RdE w B A es) (hB : B ≤ B') : RdE w B' A es := by
  refine ⟨fun hn => ?_, fun i e he => (h.2 i e he).more hB⟩
  obtain ⟨ad, e, hb, hc⟩ := h.1 hn
  exact ⟨ad, e, by omega, hc⟩
theorem RdE.to {w W : World} {A : Option Addr} {es : List En} (h : RdE w w.heap.size A es) (hb : Below w.heap.size w W) : RdE W W.heap.size A es := (h.keep fun _ hp => hb.cell hp).more hb.size
theorem add_fld (ad : Addr) (n : Nat) : ad.add (n + 1) = ⟨(ad.add n).block, (ad.add n).off + 1, none⟩ := by
  unfold Addr.add
  by_cases h : n = 0
  · subst h; simp
  · simp [h, Nat.add_assoc]
theorem RdE.at_ {w : World} {B : Nat} {A : Option Addr} {es : List En} (h : RdE w B A es) {k : Nat} (hk : k < es.length) :
    ∃ ad e, A = some ad ∧ ad.block < B ∧ es[k]? = some e ∧ w.cell? (ad.add (k * 2)) = some (.string e.name) ∧ w.cell? ⟨(ad.add (k * 2)).block, (ad.add (k * 2)).off + 1, none⟩ = some (.slice e.A e.tags.length e.c) ∧ Rd w B e.A (ss e.tags) := by
  have he : es[k]? = some es[k] := List.getElem?_eq_getElem hk
  obtain ⟨ad, e, hb, hc⟩ := h.1 (by rintro rfl; simp at hk)
  exact ⟨ad, _, e, hb, he, (hc k _ he).1, by rw [← add_fld]; exact (hc k _ he).2, h.2 k _ he⟩
def Std (w : World) : Prop := Lib.TabIs Tryz.prog w "internal/strconv.uint64pow10" .u64 Lib.pow10Tab ∧ (∃ tp p, w.var? Tryz.prog "strconv.ErrSyntax" = some #[.iface tp p]) ∧ ∃ tp p, w.var? Tryz.prog "strconv.ErrRange" = some #[.iface tp p]
theorem var_below {n : String} {g : Nat} {v : Array Value} {w w' : World} (hg : Tryz.prog.globalNamed n = some g) (h : w.var? Tryz.prog n = some v) (hb : Below w.heap.size w w') : w'.var? Tryz.prog n = some v := by
  unfold World.var? at h ⊢
  rw [hg] at h ⊢
  simp only [Option.bind_some] at h ⊢
  have hlt : g < w.heap.size := by
    rcases Nat.lt_or_ge g w.heap.size with h' | h'
    · exact h'
    · rw [Array.getElem?_eq_none h'] at h; cases h
  rw [hb.block g hlt]
  exact h
theorem tab_below {n : String} {g : Nat} {k : IntKind} {zs : List Int} {w w' : World} (hg : Tryz.prog.globalNamed n = some g) (h : Lib.TabIs Tryz.prog w n k zs) (hb : Below w.heap.size w w') : Lib.TabIs Tryz.prog w' n k zs := var_below hg h hb
theorem gTab : Tryz.prog.globalNamed "internal/strconv.uint64pow10" = some 1 := by kernel_rfl
theorem gSyn : Tryz.prog.globalNamed "strconv.ErrSyntax" = some 2 := by kernel_rfl
theorem gRng : Tryz.prog.globalNamed "strconv.ErrRange" = some 3 := by kernel_rfl
theorem Std.to {w w' : World} (h : Std w) (hb : Below w.heap.size w w') : Std w' := by
  obtain ⟨h1, ⟨a, b, h2⟩, c, d, h3⟩ := h
  exact ⟨tab_below gTab h1 hb, ⟨a, b, var_below gSyn h2 hb⟩, c, d, var_below gRng h3 hb⟩
theorem below_grow' (w : World) (k : Nat) (os : Array Obj) : Below w.heap.size w (Go.Sort.grow (w.drewN k) os) :=
  ⟨rfl, rfl, rfl, by show w.heap.size ≤ (w.heap ++ os).size; rw [Array.size_append]; omega, fun j hj => by show (w.heap ++ os)[j]? = _; exact Array.getElem?_append_left hj⟩
theorem itoa_any (n : Int) (w : World) (hs : Std w) (h0 : -9223372036854775808 ≤ n) (h1 : n ≤ 9223372036854775807) :
    Calls Tryz.prog 140 #[.int .i64 n] w (Bel (.string ⟨(Lib.itoa n).toArray⟩) w) :=
  (Tryz.strconv_Itoa n h0 h1 w hs.1).mono fun e w' ⟨he, k, os, hw⟩ => ⟨he, by rw [hw]; exact below_grow' w k os⟩
def atoiV (l : List UInt8) : Int := match Lib.atoiAll l with | .ok v => v | .syntax => 0 | .range => Lib.atoiSat l
def atoiOk (l : List UInt8) : Bool := match Lib.atoiAll l with | .ok v => true | _ => false
def Ato (l : List UInt8) (w : World) (e : Ending) (w' : World) : Prop := ∃ ev, e = .returned (.tuple #[.int .i64 (atoiV l), ev]) ∧ Below w.heap.size w w' ∧ (if atoiOk l then ev = .nilIface else ∃ t p, ev = .iface t p)
theorem atoi_any (s : ByteArray) (w : World) (hs : Std w) (hl : s.size ≤ 281474976710656) : Calls Tryz.prog 182 #[.string s] w (Ato s.data.toList w) := by
  obtain ⟨h1, ⟨a, b, h2⟩, c, d, h3⟩ := hs
  cases h : Lib.atoiAll s.data.toList with
  | ok v =>
    refine (Tryz.strconv_Atoi_ok s (by omega) v h w).mono fun e w' ⟨he, hw⟩ => ⟨.nilIface, by rw [he, atoiV, h], ?_, by rw [atoiOk, h]; rfl⟩
    rcases hw with rfl | ⟨t, rfl⟩
    · exact Below.refl _ _
    · exact Lib.bytesWorld_below _ _ _
  | «syntax» =>
    refine (Tryz.strconv_Atoi_syntax_var s hl h a b w h2).mono fun e w' hx => ?_
    obtain ⟨N, he, _, _, hb⟩ := hx
    have e1 : atoiV s.data.toList = 0 := by rw [atoiV, h]
    have e2 : atoiOk s.data.toList = false := by rw [atoiOk, h]
    exact ⟨_, by rw [he, e1], hb, by rw [e2]; exact ⟨_, _, rfl⟩⟩
  | range =>
    refine (Tryz.strconv_Atoi_range_var s hl h c d w h3).mono fun e w' hx => ?_
    obtain ⟨N, he, _, _, hb⟩ := hx
    have e1 : atoiV s.data.toList = Lib.atoiSat s.data.toList := by rw [atoiV, h]
    have e2 : atoiOk s.data.toList = false := by rw [atoiOk, h]
    exact ⟨_, by rw [he, e1], hb, by rw [e2]; exact ⟨_, _, rfl⟩⟩
end Go.Proofs.YtoimjcfdiljkjaaGreatDoor.va
namespace Go.Proofs.YtoimjcfdiljkjaaGreatDoor.va
open Go.RowKit
def b01 (b : Bool) : Int := if b then 1 else 0
end Go.Proofs.YtoimjcfdiljkjaaGreatDoor.va
namespace Go.Proofs.YtoimjcfdiljkjaaGreatDoor.va
open Go.RowKit
theorem add_off (b j : Nat) : (Addr.mk b 0 none).add j = ⟨b, j, none⟩ := by
  unfold Addr.add
  split
  · rename_i h; rw [h]
  · simp
theorem rd_alloc (w : World) (cs : Array Value) (t : TypeId) : Rd (w.alloc (.cells cs t)) (w.alloc (.cells cs t)).heap.size (some ⟨w.heap.size, 0, none⟩) cs.toList := by
  intro _
  refine ⟨_, rfl, by simp, fun j u hu => ?_⟩
  rw [add_off, cell_of_row _ _ j cs t (0, 0) (heap_alloc_new w _), ← hu]
  simp
def enuB (es : List En) (t : Int) : Bool := decide (3 ≤ t) && decide (t - 3 < es.length)
def valB (es : List En) (t : Int) : Bool := t == 1 || t == 2 || enuB es t
abbrev sFalse : ByteArray := ⟨#[102, 97, 108, 115, 101]⟩
abbrev sTrue : ByteArray := ⟨#[116, 114, 117, 101]⟩
def tagsOf (es : List En) (t : Int) : List ByteArray := if t = 1 then [sFalse, sTrue] else if enuB es t then ((es[(t - 3).toNat]?).map (·.tags)).getD [] else []
def sizeT (es : List En) (t : Int) : Int := if t = 2 then 65536 else (tagsOf es t).length
def hasB (es : List En) (t v : Int) : Bool := if t = 2 then decide (-32768 ≤ v) && decide (v ≤ 32767) else decide (0 ≤ v) && decide (v < sizeT es t)
def NewS (l : List ByteArray) (w : World) (e : Ending) (w' : World) : Prop := ∃ A c, e = .returned (.slice A l.length c) ∧ Rd w' w'.heap.size A (ss l) ∧ Below w.heap.size w w'
theorem enum_any (A : Option Addr) (c : Nat) (es : List En) (t : Int) (w : World) (hl : es.length ≤ 9223372036854775807) (hti : t ≤ 9223372036854775807) :
    Calls Tryz.prog 146 #[.slice A es.length c, .int .i64 t] w fun e w' => e = .returned (.bool (enuB es t)) ∧ w = w' := by
  by_cases h3 : 3 ≤ t
  · by_cases hl : t - 3 < es.length
    all_goals
      go_enter Tryz.func146, Tryz.ntmps146
      go_wp2
      go_ret
      exact ⟨ret_bool (by simp [enuB, *]; try omega), rfl⟩
  · have e3 : decide (3 ≤ t) = false := by simpa using h3
    go_enter Tryz.func146, Tryz.ntmps146
    go_wp2
    go_ret
    exact ⟨ret_bool (by simp [enuB, *]; try omega), rfl⟩
theorem valid_any (A : Option Addr) (c : Nat) (es : List En) (t : Int) (w : World) (hl : es.length ≤ 9223372036854775807) (hti : t ≤ 9223372036854775807) :
    Calls Tryz.prog 139 #[.slice A es.length c, .int .i64 t] w fun e w' => e = .returned (.bool (valB es t)) ∧ w = w' := by
  by_cases h1 : t = 1
  · subst h1
    go_enter Tryz.func139, Tryz.ntmps139
    go_wp2
    go_ret
    exact ⟨rfl, rfl⟩
  by_cases h2 : t = 2
  · subst h2
    go_enter Tryz.func139, Tryz.ntmps139
    go_wp2
    go_ret
    exact ⟨rfl, rfl⟩
  have e1 : (t == 1) = false := by simp [h1]
  have e2 : (t == 2) = false := by simp [h2]
  have hv : valB es t = enuB es t := by simp [valB, e1, e2]
  rw [hv]
  clear h1 h2 hv
  go_enter Tryz.func139, Tryz.ntmps139
  go_wp2_with (go_at_call 146; refine (enum_any _ _ es _ _ hl hti).mono ?_; rintro e w' ⟨rfl, rfl⟩)
  go_ret
  exact ⟨rfl, rfl⟩
theorem known_any (A : Option Addr) (c : Nat) (es : List En) (t : Int) (w : World) (hl : es.length ≤ 9223372036854775807) (hti : t ≤ 9223372036854775807) :
    Calls Tryz.prog 99 #[.slice A es.length c, .int .i64 t] w fun e w' => e = .returned (.bool (valB es t)) ∧ w = w' := by
  by_cases h1 : t = 1
  · subst h1
    go_enter Tryz.func99, Tryz.ntmps99
    go_wp2
    go_ret
    exact ⟨rfl, rfl⟩
  by_cases h2 : t = 2
  · subst h2
    go_enter Tryz.func99, Tryz.ntmps99
    go_wp2
    go_ret
    exact ⟨rfl, rfl⟩
  have e1 : (t == 1) = false := by simp [h1]
  have e2 : (t == 2) = false := by simp [h2]
  have hv : valB es t = enuB es t := by simp [valB, e1, e2]
  rw [hv]
  clear h1 h2 hv
  by_cases h3 : 3 ≤ t
  · by_cases hl : t - 3 < es.length
    all_goals
      go_enter Tryz.func99, Tryz.ntmps99
      go_wp2
      go_ret
      exact ⟨ret_bool (by simp [enuB, *]; try omega), rfl⟩
  · have e3 : decide (3 ≤ t) = false := by simpa using h3
    go_enter Tryz.func99, Tryz.ntmps99
    go_wp2
    go_ret
    exact ⟨ret_bool (by simp [enuB, *]; try omega), rfl⟩
theorem tagsOf_enu {es : List En} {k : Nat} {e : En} (he : es[k]? = some e) : tagsOf es ((k : Int) + 3) = e.tags := by
  have hk : k < es.length := (List.getElem?_eq_some_iff.1 he).1
  rw [tagsOf, if_neg (by omega), if_pos (by simp [enuB]; omega), show ((k : Int) + 3 - 3).toNat = k by omega, he]
  rfl
theorem tags_any (A : Option Addr) (c : Nat) (es : List En) (t : Int) (w : World) (hA : RdE w w.heap.size A es) (hl : es.length ≤ 9223372036854775807) (hti : t ≤ 9223372036854775807) :
    Calls Tryz.prog 116 #[.slice A es.length c, .int .i64 t] w (NewS (tagsOf es t) w) := by
  by_cases h1 : t = 1
  · subst h1
    go_enter Tryz.func116, Tryz.ntmps116
    go_wp2
    go_ret
    exact ⟨_, _, rfl, rd_alloc w #[.string sFalse, .string sTrue] _, bel_box _⟩
  have e1 : (t == 1) = false := by simp [h1]
  by_cases h3 : enuB es t = true
  · obtain ⟨k, rfl⟩ : ∃ k : Nat, t = k + 3 := ⟨(t - 3).toNat, by simp [enuB] at h3; omega⟩
    have hk : k < es.length := by simp [enuB] at h3; omega
    obtain ⟨ad, e, rfl, hb, he, hn, ht, hr⟩ := hA.at_ hk
    have HT := Lib.hid (tagsOf_enu he)
    have KE := Lib.hid (fun A c w => enum_any A c es ((k : Int) + 3) w hl hti)
    clear h1 hti
    go_enter Tryz.func116, Tryz.ntmps116
    go_wp2_with (go_at_call 146; refine (KE.out _ _ _).mono ?_; rintro e w' ⟨rfl, rfl⟩; rw [h3])
    go_ret
    refine ⟨e.A, e.c, ?_, ?_, Below.refl _ _⟩
    · rw [HT.out]; rfl
    · rw [HT.out]; exact hr
  · rw [Bool.not_eq_true] at h3
    have ht : tagsOf es t = [] := by rw [tagsOf, if_neg h1, if_neg (by simp [h3])]
    rw [ht]
    clear h1 ht
    go_enter Tryz.func116, Tryz.ntmps116
    go_wp2_with (go_at_call 146; refine (enum_any _ _ es _ _ hl hti).mono ?_; rintro e w' ⟨rfl, rfl⟩; rw [h3])
    go_ret
    exact ⟨none, 0, rfl, Rd.nil _ _ _, Below.refl _ _⟩
theorem size_any (A : Option Addr) (c : Nat) (es : List En) (t : Int) (w : World) (hA : RdE w w.heap.size A es) (hl : es.length ≤ 9223372036854775807) (hti : t ≤ 9223372036854775807) :
    Calls Tryz.prog 77 #[.slice A es.length c, .int .i64 t] w (Bel (.int .i64 (sizeT es t)) w) := by
  by_cases h1 : t = 2
  · subst h1
    go_enter Tryz.func77, Tryz.ntmps77
    go_wp2
    go_ret
    exact ⟨rfl, Below.refl _ _⟩
  · have e1 : (t == 2) = false := by simp [h1]
    have KT := Lib.hid (tags_any A c es t w hA hl hti)
    have KS : sizeT es t = (tagsOf es t).length := by rw [sizeT, if_neg h1]
    rw [KS]
    clear h1 KS hA hti
    go_enter Tryz.func77, Tryz.ntmps77
    go_wp2_with (go_at_call 116; refine KT.out.mono ?_; rintro e w' ⟨A', c', rfl, hr, hb⟩)
    go_ret
    exact ⟨rfl, hb⟩
theorem rsize_any (A : Option Addr) (c : Nat) (es : List En) (t : Int) (w : World) (hA : RdE w w.heap.size A es) (hl : es.length ≤ 9223372036854775807) (hti : t ≤ 9223372036854775807) :
    Calls Tryz.prog 79 #[.slice A es.length c, .int .i64 t] w (Bel (.int .i64 (sizeT es t)) w) := by
  by_cases h1 : t = 1
  · subst h1
    go_enter Tryz.func79, Tryz.ntmps79
    go_wp2
    go_ret
    exact ⟨rfl, Below.refl _ _⟩
  by_cases h2 : t = 2
  · subst h2
    go_enter Tryz.func79, Tryz.ntmps79
    go_wp2
    go_ret
    exact ⟨rfl, Below.refl _ _⟩
  have e1 : (t == 1) = false := by simp [h1]
  have e2 : (t == 2) = false := by simp [h2]
  by_cases h3 : 3 ≤ t
  · by_cases h4 : t - 3 < es.length
    · obtain ⟨k, rfl⟩ : ∃ k : Nat, t = k + 3 := ⟨(t - 3).toNat, by omega⟩
      have hk : k < es.length := by omega
      obtain ⟨ad, e, rfl, hb, he, hn, ht, hr⟩ := hA.at_ hk
      have HT := Lib.hid (tagsOf_enu he)
      have hs : sizeT es ((k : Int) + 3) = e.tags.length := by rw [sizeT, if_neg h2, HT.out]
      rw [hs]
      clear h1 h2 h4 hs hti
      go_enter Tryz.func79, Tryz.ntmps79
      go_wp2
      go_ret
      exact ⟨rfl, Below.refl _ _⟩
    · have hs : sizeT es t = 0 := by rw [sizeT, if_neg h2, tagsOf, if_neg h1, if_neg (by simp [enuB]; omega)]; rfl
      rw [hs]
      clear hs h1 h2
      go_enter Tryz.func79, Tryz.ntmps79
      go_wp2
      go_ret
      exact ⟨rfl, Below.refl _ _⟩
  · have hs : sizeT es t = 0 := by rw [sizeT, if_neg h2, tagsOf, if_neg h1, if_neg (by simp [enuB]; omega)]; rfl
    rw [hs]
    have e3 : decide (t < 3) = true := by simpa using h3
    clear hs h1 h2
    go_enter Tryz.func79, Tryz.ntmps79
    go_wp2
    go_ret
    exact ⟨rfl, Below.refl _ _⟩
theorem has_any (A : Option Addr) (c : Nat) (es : List En) (t v : Int) (w : World) (hA : RdE w w.heap.size A es) (hl : es.length ≤ 9223372036854775807) (hti : t ≤ 9223372036854775807) :
    Calls Tryz.prog 39 #[.slice A es.length c, .int .i64 t, .int .i64 v] w (Bel (.bool (hasB es t v)) w) := by
  by_cases h1 : t = 2
  · subst h1
    have hs : hasB es 2 v = (decide (-32768 ≤ v) && decide (v ≤ 32767)) := rfl
    rw [hs]
    clear hs
    go_enter Tryz.func39, Tryz.ntmps39
    go_wp2_with (go_at_call 76; refine (in_any _ _).mono ?_; rintro e w' ⟨rfl, rfl⟩)
    go_ret
    exact ⟨rfl, Below.refl _ _⟩
  · have e1 : (t == 2) = false := by simp [h1]
    have KT := Lib.hid (size_any A c es t w hA hl hti)
    have KS : hasB es t v = (decide (0 ≤ v) && decide (v < sizeT es t)) := by rw [hasB, if_neg h1]
    rw [KS]
    clear h1 KS hA hti
    by_cases h0 : 0 ≤ v
    · go_enter Tryz.func39, Tryz.ntmps39
      go_wp2_with (go_at_call 77; refine KT.out.mono ?_; rintro e w' ⟨rfl, hb⟩)
      go_ret
      exact ⟨ret_bool (by simp [h0]), hb⟩
    · have e0 : decide (0 ≤ v) = false := by simpa using h0
      go_enter Tryz.func39, Tryz.ntmps39
      go_wp2
      go_ret
      exact ⟨ret_bool (by simp [h0]), Below.refl _ _⟩
theorem rhas_any (A : Option Addr) (c : Nat) (es : List En) (t v : Int) (w : World) (hA : RdE w w.heap.size A es) (hl : es.length ≤ 9223372036854775807) (hti : t ≤ 9223372036854775807) :
    Calls Tryz.prog 41 #[.slice A es.length c, .int .i64 t, .int .i64 v] w (Bel (.bool (hasB es t v)) w) := by
  by_cases h1 : t = 2
  · subst h1
    have hs : hasB es 2 v = (decide (-32768 ≤ v) && decide (v ≤ 32767)) := rfl
    rw [hs]
    clear hs
    go_enter Tryz.func41, Tryz.ntmps41
    go_wp2
    all_goals go_ret
    · exact ⟨ret_bool (by simp [*]), Below.refl _ _⟩
    · exact ⟨ret_bool (by simp [*]; try omega), Below.refl _ _⟩
  · have e1 : (t == 2) = false := by simp [h1]
    have KT := Lib.hid (rsize_any A c es t w hA hl hti)
    have KS : hasB es t v = (decide (0 ≤ v) && decide (v < sizeT es t)) := by rw [hasB, if_neg h1]
    rw [KS]
    clear h1 KS hA hti
    by_cases h0 : 0 ≤ v
    · go_enter Tryz.func41, Tryz.ntmps41
      go_wp2_with (go_at_call 79; refine KT.out.mono ?_; rintro e w' ⟨rfl, hb⟩)
      go_ret
      exact ⟨ret_bool (by simp [h0]), hb⟩
    · have e0 : decide (0 ≤ v) = false := by simpa using h0
      go_enter Tryz.func41, Tryz.ntmps41
      go_wp2
      go_ret
      exact ⟨ret_bool (by simp [h0]), Below.refl _ _⟩
abbrev sBool : ByteArray := ⟨#[98, 111, 111, 108]⟩
abbrev sInt : ByteArray := ⟨#[105, 110, 116]⟩
def nameT (es : List En) (t : Int) : ByteArray := if t = 1 then sBool else if t = 2 then sInt else if enuB es t then ((es[(t - 3).toNat]?).map (·.name)).getD ⟨#[]⟩ else ⟨#[]⟩
theorem nameT_enu {es : List En} {k : Nat} {e : En} (he : es[k]? = some e) : nameT es ((k : Int) + 3) = e.name := by
  have hk : k < es.length := (List.getElem?_eq_some_iff.1 he).1
  rw [nameT, if_neg (by omega), if_neg (by omega), if_pos (by simp [enuB]; omega), show ((k : Int) + 3 - 3).toNat = k by omega, he]
  rfl
theorem name_any (A : Option Addr) (c : Nat) (es : List En) (t : Int) (w : World) (hA : RdE w w.heap.size A es) (hl : es.length ≤ 9223372036854775807) (hti : t ≤ 9223372036854775807) :
    Calls Tryz.prog 126 #[.slice A es.length c, .int .i64 t] w (Bel (.tuple #[.string (nameT es t), .bool (valB es t)]) w) := by
  by_cases h1 : t = 1
  · subst h1
    go_enter Tryz.func126, Tryz.ntmps126
    go_wp2
    go_ret2
    exact ⟨rfl, Below.refl _ _⟩
  by_cases h2 : t = 2
  · subst h2
    go_enter Tryz.func126, Tryz.ntmps126
    go_wp2
    go_ret2
    exact ⟨rfl, Below.refl _ _⟩
  have e1 : (t == 1) = false := by simp [h1]
  have e2 : (t == 2) = false := by simp [h2]
  have hv : valB es t = enuB es t := by simp [valB, e1, e2]
  rw [hv]
  by_cases h3 : enuB es t = true
  · obtain ⟨k, rfl⟩ : ∃ k : Nat, t = k + 3 := ⟨(t - 3).toNat, by simp [enuB] at h3; omega⟩
    have hk : k < es.length := by simp [enuB] at h3; omega
    obtain ⟨ad, e, rfl, hb, he, hn, ht, hr⟩ := hA.at_ hk
    have HT := Lib.hid (nameT_enu he)
    have KE := Lib.hid (fun A c w => enum_any A c es ((k : Int) + 3) w hl hti)
    rw [h3, HT.out]
    clear h1 h2 hti hv
    go_enter Tryz.func126, Tryz.ntmps126
    go_wp2_with (go_at_call 146; refine (KE.out _ _ _).mono ?_; rintro e w' ⟨rfl, rfl⟩; rw [h3])
    go_ret2
    exact ⟨rfl, Below.refl _ _⟩
  · rw [Bool.not_eq_true] at h3
    have ht : nameT es t = ⟨#[]⟩ := by rw [nameT, if_neg h1, if_neg h2, if_neg (by simp [h3])]
    rw [ht, h3]
    clear h1 h2 ht hv
    go_enter Tryz.func126, Tryz.ntmps126
    go_wp2_with (go_at_call 146; refine (enum_any _ _ es _ _ hl hti).mono ?_; rintro e w' ⟨rfl, rfl⟩; rw [h3])
    go_ret2
    exact ⟨rfl, Below.refl _ _⟩
theorem rname_any (A : Option Addr) (c : Nat) (es : List En) (t : Int) (w : World) (hA : RdE w w.heap.size A es) (hl : es.length ≤ 9223372036854775807) (hti : t ≤ 9223372036854775807) :
    Calls Tryz.prog 60 #[.slice A es.length c, .int .i64 t] w (Bel (.tuple #[.string (nameT es t), .bool (valB es t)]) w) := by
  have KV := Lib.hid (fun A c w => known_any A c es t w hl hti)
  by_cases hv : valB es t = true
  · rw [hv]
    by_cases h1 : t = 1
    · subst h1
      go_enter Tryz.func60, Tryz.ntmps60
      go_wp2_with (go_at_call 99; refine (KV.out _ _ _).mono ?_; rintro e w' ⟨rfl, rfl⟩; rw [hv])
      go_ret2
      exact ⟨rfl, Below.refl _ _⟩
    by_cases h2 : t = 2
    · subst h2
      go_enter Tryz.func60, Tryz.ntmps60
      go_wp2_with (go_at_call 99; refine (KV.out _ _ _).mono ?_; rintro e w' ⟨rfl, rfl⟩; rw [hv])
      go_ret2
      exact ⟨rfl, Below.refl _ _⟩
    have e1 : (t == 1) = false := by simp [h1]
    have e2 : (t == 2) = false := by simp [h2]
    have h3 : enuB es t = true := by simpa [valB, e1, e2] using hv
    obtain ⟨k, rfl⟩ : ∃ k : Nat, t = k + 3 := ⟨(t - 3).toNat, by simp [enuB] at h3; omega⟩
    have hk : k < es.length := by simp [enuB] at h3; omega
    obtain ⟨ad, e, rfl, hb, he, hn, ht, hr⟩ := hA.at_ hk
    have HT := Lib.hid (nameT_enu he)
    rw [HT.out]
    clear h1 h2 hti h3
    go_enter Tryz.func60, Tryz.ntmps60
    go_wp2_with (go_at_call 99; refine (KV.out _ _ _).mono ?_; rintro e w' ⟨rfl, rfl⟩; rw [hv])
    go_ret2
    exact ⟨rfl, Below.refl _ _⟩
  · rw [Bool.not_eq_true] at hv
    have ht : nameT es t = ⟨#[]⟩ := by
      have : t ≠ 1 ∧ t ≠ 2 ∧ enuB es t = false := by simpa [valB, and_assoc] using hv
      rw [nameT, if_neg this.1, if_neg this.2.1, if_neg (by simp [this.2.2])]
    rw [ht, hv]
    clear ht
    go_enter Tryz.func60, Tryz.ntmps60
    go_wp2_with (go_at_call 99; refine (KV.out _ _ _).mono ?_; rintro e w' ⟨rfl, rfl⟩; rw [hv])
    go_ret2
    exact ⟨rfl, Below.refl _ _⟩
end Go.Proofs.YtoimjcfdiljkjaaGreatDoor.va
namespace Go.Proofs.YtoimjcfdiljkjaaGreatDoor
open Go.RowKit
structure Rw (α : Type) where
  A : Option Addr
  c : Nat
  l : List α
structure Ot where
  nm : ByteArray
  t : Int
  tag : Int
structure Dt where
  nm : ByteArray
  ty : Int
  ck : Rw Ot
structure Qt where
  lf : Rw ByteArray
  r : Xt
structure Tt where
  cd : Xt
  to : Int
  re : Bool
inductive St where
  | mk (nm : ByteArray) (lc : Rw Dt) (qs : Rw Qt) (au : Rw (Rw St)) (un ut : Rw Tt)
def St.nm : St → ByteArray | .mk nm _ _ _ _ _ => nm
def St.lc : St → Rw Dt | .mk _ lc _ _ _ _ => lc
def St.qs : St → Rw Qt | .mk _ _ qs _ _ _ => qs
def St.au : St → Rw (Rw St) | .mk _ _ _ au _ _ => au
def St.un : St → Rw Tt | .mk _ _ _ _ un _ => un
def St.ut : St → Rw Tt | .mk _ _ _ _ _ ut => ut
theorem St.lt_of_mem {s t : St} {a : Rw St} (ha : a ∈ s.au.l) (ht : t ∈ a.l) : SizeOf.sizeOf t < SizeOf.sizeOf s := by
  cases s with
  | mk nm lc qs au un ut =>
    have h1 := List.sizeOf_lt_of_mem (show a ∈ au.l from ha)
    have h2 := List.sizeOf_lt_of_mem ht
    cases a with
    | mk A c l =>
      cases au with
      | mk A' c' l' =>
        simp at h1 h2 ⊢
        omega
theorem St.ind {P : St → Prop} (h : ∀ s : St, (∀ a ∈ s.au.l, ∀ t ∈ a.l, P t) → P s) (s : St) : P s := by
  generalize hN : SizeOf.sizeOf s = N
  induction N using Nat.strongRecOn generalizing s with
  | ind N ih =>
    subst hN
    exact h s fun a ha t ht => ih _ (St.lt_of_mem ha ht) t rfl
structure Nt where
  nm : ByteArray
  ins : Rw Dt
  outs : Rw Dt
  locs : Rw Dt
  qs : Rw Qt
  au : Rw (Rw St)
  asm : Rw Xt
  ens : Rw Xt
structure Pt where
  es : Rw va.En
  ns : Rw Nt
abbrev Rw.v {α : Type} (r : Rw α) : Value := .slice r.A r.l.length r.c
abbrev oV (o : Ot) : Value := .agg #[.string o.nm, .int .i64 o.t, .int .i64 o.tag]
abbrev dV (d : Dt) : Value := .agg #[.string d.nm, .int .i64 d.ty, .slice d.ck.A d.ck.l.length d.ck.c]
abbrev qV (q : Qt) : Value := .agg #[.slice q.lf.A q.lf.l.length q.lf.c, .int .i64 q.r.k, .int .i64 q.r.op, .int .i64 q.r.t, .int .i64 q.r.v, .string q.r.nm, .slice q.r.A q.r.ar.length q.r.c]
abbrev tV (t : Tt) : Value := .agg #[.int .i64 t.cd.k, .int .i64 t.cd.op, .int .i64 t.cd.t, .int .i64 t.cd.v, .string t.cd.nm, .slice t.cd.A t.cd.ar.length t.cd.c, .int .i64 t.to, .bool t.re]
abbrev sV (s : St) : Value := .agg #[.string s.nm, .slice s.lc.A s.lc.l.length s.lc.c, .slice s.qs.A s.qs.l.length s.qs.c, .slice s.au.A s.au.l.length s.au.c, .slice s.un.A s.un.l.length s.un.c, .slice s.ut.A s.ut.l.length s.ut.c]
abbrev aV (a : Rw St) : Value := .agg #[.slice a.A a.l.length a.c]
abbrev nV (n : Nt) : Value := .agg #[.string n.nm, .slice n.ins.A n.ins.l.length n.ins.c, .slice n.outs.A n.outs.l.length n.outs.c, .slice n.locs.A n.locs.l.length n.locs.c, .slice n.qs.A n.qs.l.length n.qs.c, .slice n.au.A n.au.l.length n.au.c, .slice n.asm.A n.asm.l.length n.asm.c, .slice n.ens.A n.ens.l.length n.ens.c]
abbrev pV (p : Pt) : Value := .agg #[.slice p.es.A p.es.l.length p.es.c, .slice p.ns.A p.ns.l.length p.ns.c]
def OC (w : World) (a : Addr) (o : Ot) : Prop := w.cell? a = some (.string o.nm) ∧ w.cell? ⟨a.block, a.off + 1, none⟩ = some (.int .i64 o.t) ∧ w.cell? ⟨a.block, a.off + 2, none⟩ = some (.int .i64 o.tag)
def DC (w : World) (a : Addr) (d : Dt) : Prop := w.cell? a = some (.string d.nm) ∧ w.cell? ⟨a.block, a.off + 1, none⟩ = some (.int .i64 d.ty) ∧ w.cell? ⟨a.block, a.off + 2, none⟩ = some (.slice d.ck.A d.ck.l.length d.ck.c)
def BC (w : World) (a : Addr) (b : ByteArray) : Prop := w.cell? a = some (.string b)
def QC (w : World) (a : Addr) (q : Qt) : Prop := w.cell? a = some (.slice q.lf.A q.lf.l.length q.lf.c) ∧ w.cell? ⟨a.block, a.off + 1, none⟩ = some (.int .i64 q.r.k) ∧ w.cell? ⟨a.block, a.off + 2, none⟩ = some (.int .i64 q.r.op) ∧ w.cell? ⟨a.block, a.off + 3, none⟩ = some (.int .i64 q.r.t) ∧ w.cell? ⟨a.block, a.off + 4, none⟩ = some (.int .i64 q.r.v) ∧ w.cell? ⟨a.block, a.off + 5, none⟩ = some (.string q.r.nm) ∧ w.cell? ⟨a.block, a.off + 6, none⟩ = some (.slice q.r.A q.r.ar.length q.r.c)
def TC (w : World) (a : Addr) (t : Tt) : Prop := XC w a t.cd ∧ w.cell? ⟨a.block, a.off + 6, none⟩ = some (.int .i64 t.to) ∧ w.cell? ⟨a.block, a.off + 7, none⟩ = some (.bool t.re)
def SC (w : World) (a : Addr) (s : St) : Prop := w.cell? a = some (.string s.nm) ∧ w.cell? ⟨a.block, a.off + 1, none⟩ = some (.slice s.lc.A s.lc.l.length s.lc.c) ∧ w.cell? ⟨a.block, a.off + 2, none⟩ = some (.slice s.qs.A s.qs.l.length s.qs.c) ∧ w.cell? ⟨a.block, a.off + 3, none⟩ = some (.slice s.au.A s.au.l.length s.au.c) ∧ w.cell? ⟨a.block, a.off + 4, none⟩ = some (.slice s.un.A s.un.l.length s.un.c) ∧ w.cell? ⟨a.block, a.off + 5, none⟩ = some (.slice s.ut.A s.ut.l.length s.ut.c)
def AC (w : World) (a : Addr) (r : Rw St) : Prop := w.cell? a = some (.slice r.A r.l.length r.c)
def NC (w : World) (a : Addr) (n : Nt) : Prop := w.cell? a = some (.string n.nm) ∧ w.cell? ⟨a.block, a.off + 1, none⟩ = some (.slice n.ins.A n.ins.l.length n.ins.c) ∧ w.cell? ⟨a.block, a.off + 2, none⟩ = some (.slice n.outs.A n.outs.l.length n.outs.c) ∧ w.cell? ⟨a.block, a.off + 3, none⟩ = some (.slice n.locs.A n.locs.l.length n.locs.c) ∧ w.cell? ⟨a.block, a.off + 4, none⟩ = some (.slice n.qs.A n.qs.l.length n.qs.c) ∧ w.cell? ⟨a.block, a.off + 5, none⟩ = some (.slice n.au.A n.au.l.length n.au.c) ∧ w.cell? ⟨a.block, a.off + 6, none⟩ = some (.slice n.asm.A n.asm.l.length n.asm.c) ∧ w.cell? ⟨a.block, a.off + 7, none⟩ = some (.slice n.ens.A n.ens.l.length n.ens.c)
def OneB {α : Type} (C : World → Addr → α → Prop) : Prop := ∀ (w W : World) (a : Addr) (y : α), C w a y → (∀ p : Addr, p.block = a.block → W.cell? p = w.cell? p) → C W a y
theorem oneB_O : OneB OC := fun _ _ _ _ h k => ⟨(k _ rfl).trans h.1, (k ⟨_, _, none⟩ rfl).trans h.2.1, (k ⟨_, _, none⟩ rfl).trans h.2.2⟩
theorem oneB_D : OneB DC := fun _ _ _ _ h k => ⟨(k _ rfl).trans h.1, (k ⟨_, _, none⟩ rfl).trans h.2.1, (k ⟨_, _, none⟩ rfl).trans h.2.2⟩
theorem oneB_B : OneB BC := fun _ _ _ _ h k => (k _ rfl).trans h
theorem oneB_X : OneB XC := fun _ _ _ _ h k => h.keep k
theorem oneB_Q : OneB QC := fun _ _ _ _ h k => ⟨(k _ rfl).trans h.1, (k ⟨_, _, none⟩ rfl).trans h.2.1, (k ⟨_, _, none⟩ rfl).trans h.2.2.1, (k ⟨_, _, none⟩ rfl).trans h.2.2.2.1, (k ⟨_, _, none⟩ rfl).trans h.2.2.2.2.1, (k ⟨_, _, none⟩ rfl).trans h.2.2.2.2.2.1, (k ⟨_, _, none⟩ rfl).trans h.2.2.2.2.2.2⟩
theorem oneB_T : OneB TC := fun _ _ _ _ h k => ⟨h.1.keep k, (k ⟨_, _, none⟩ rfl).trans h.2.1, (k ⟨_, _, none⟩ rfl).trans h.2.2⟩
theorem oneB_S : OneB SC := fun _ _ _ _ h k => ⟨(k _ rfl).trans h.1, (k ⟨_, _, none⟩ rfl).trans h.2.1, (k ⟨_, _, none⟩ rfl).trans h.2.2.1, (k ⟨_, _, none⟩ rfl).trans h.2.2.2.1, (k ⟨_, _, none⟩ rfl).trans h.2.2.2.2.1, (k ⟨_, _, none⟩ rfl).trans h.2.2.2.2.2⟩
theorem oneB_A : OneB AC := fun _ _ _ _ h k => (k _ rfl).trans h
theorem oneB_N : OneB NC := fun _ _ _ _ h k => ⟨(k _ rfl).trans h.1, (k ⟨_, _, none⟩ rfl).trans h.2.1, (k ⟨_, _, none⟩ rfl).trans h.2.2.1, (k ⟨_, _, none⟩ rfl).trans h.2.2.2.1, (k ⟨_, _, none⟩ rfl).trans h.2.2.2.2.1, (k ⟨_, _, none⟩ rfl).trans h.2.2.2.2.2.1, (k ⟨_, _, none⟩ rfl).trans h.2.2.2.2.2.2.1, (k ⟨_, _, none⟩ rfl).trans h.2.2.2.2.2.2.2⟩
def RdR {α : Type} (w : World) (B sz : Nat) (C : World → Addr → α → Prop) (r : Rw α) : Prop :=
  (r.l ≠ [] → ∃ ad, r.A = some ad ∧ ad.block < B) ∧ (∀ (ad : Addr) (i : Nat) (y : α), r.A = some ad → r.l[i]? = some y → C w (ad.add (i * sz)) y) ∧ r.l.length ≤ maxLen ∧ r.l.length ≤ r.c
theorem RdR.blw {α : Type} {w W : World} {B B' sz : Nat} {C : World → Addr → α → Prop} {r : Rw α} (h : RdR w B sz C r) (hC : OneB C) (hb : Below B w W) (hB : B ≤ B') : RdR W B' sz C r := by
  refine ⟨fun hn => ?_, fun ad i y ha hy => ?_, h.2.2⟩
  · obtain ⟨ad, e, h⟩ := h.1 hn
    exact ⟨ad, e, by omega⟩
  · obtain ⟨ad', e, h'⟩ := h.1 (by intro e; rw [e] at hy; simp at hy)
    obtain rfl : ad = ad' := Option.some.inj (ha.symm.trans e)
    exact hC _ _ _ _ (h.2.1 ad i y ha hy) fun p hp => hb.cell (by rw [hp, add_block]; exact h')
theorem RdR.at_ {α : Type} {w : World} {B sz : Nat} {C : World → Addr → α → Prop} {r : Rw α} (h : RdR w B sz C r) {i : Nat} (hi : i < r.l.length) : ∃ ad y, r.A = some ad ∧ ad.block < B ∧ r.l[i]? = some y ∧ y ∈ r.l ∧ C w (ad.add (i * sz)) y := by
  obtain ⟨ad, e, hb⟩ := h.1 (by intro e; rw [e] at hi; simp at hi)
  have hy : r.l[i]? = some r.l[i] := List.getElem?_eq_getElem hi
  exact ⟨ad, _, e, hb, hy, List.mem_of_getElem? hy, h.2.1 ad i _ e hy⟩
theorem RdR.len {α : Type} {w : World} {B sz : Nat} {C : World → Addr → α → Prop} {r : Rw α} (h : RdR w B sz C r) : r.l.length ≤ maxLen := h.2.2.1
theorem RdR.nil {α : Type} (w : World) (B sz : Nat) (C : World → Addr → α → Prop) (c : Nat) : RdR w B sz C ⟨none, c, []⟩ := ⟨fun h => absurd rfl h, fun ad i y h => by simp at h, Nat.zero_le _, Nat.zero_le _⟩
def RsB (w : World) (B : Nat) (r : Rw ByteArray) : Prop := RdR w B 1 BC r ∧ ∀ b ∈ r.l, b.size ≤ 140737488351232
theorem RsB.blw {w W : World} {B B' : Nat} {r : Rw ByteArray} (h : RsB w B r) (hb : Below B w W) (hB : B ≤ B') : RsB W B' r := ⟨h.1.blw oneB_B hb hB, h.2⟩
def RsO (w : World) (B : Nat) (r : Rw Ot) : Prop := RdR w B 3 OC r ∧ ∀ o ∈ r.l, o.nm.size ≤ 140737488351232 ∧ o.t ≤ 9223372036854775807
theorem RsO.blw {w W : World} {B B' : Nat} {r : Rw Ot} (h : RsO w B r) (hb : Below B w W) (hB : B ≤ B') : RsO W B' r := ⟨h.1.blw oneB_O hb hB, h.2⟩
def RsD (w : World) (B : Nat) (d : Dt) : Prop := (d.nm.size ≤ 140737488351232 ∧ d.ty ≤ 9223372036854775807) ∧ RsO w B d.ck
def RsDs (w : World) (B : Nat) (r : Rw Dt) : Prop := RdR w B 3 DC r ∧ ∀ d ∈ r.l, RsD w B d
theorem RsDs.blw {w W : World} {B B' : Nat} {r : Rw Dt} (h : RsDs w B r) (hb : Below B w W) (hB : B ≤ B') : RsDs W B' r := ⟨h.1.blw oneB_D hb hB, fun d hd => ⟨(h.2 d hd).1, (h.2 d hd).2.blw hb hB⟩⟩
def RsX (w : World) (B : Nat) (x : Xt) : Prop := RdX w B x ∧ ∀ y ∈ x.list, y.nm.size ≤ 140737488351232 ∧ y.t ≤ 9223372036854775807
theorem RsX.blw {w W : World} {B B' : Nat} {x : Xt} (h : RsX w B x) (hb : Below B w W) (hB : B ≤ B') : RsX W B' x := ⟨h.1.blw hb hB, h.2⟩
def RsXs (w : World) (B : Nat) (r : Rw Xt) : Prop := RdR w B 6 XC r ∧ ∀ x ∈ r.l, RsX w B x
theorem RsXs.blw {w W : World} {B B' : Nat} {r : Rw Xt} (h : RsXs w B r) (hb : Below B w W) (hB : B ≤ B') : RsXs W B' r := ⟨h.1.blw oneB_X hb hB, fun d hd => (h.2 d hd).blw hb hB⟩
def RsQ (w : World) (B : Nat) (q : Qt) : Prop := RsB w B q.lf ∧ RsX w B q.r
def RsQs (w : World) (B : Nat) (r : Rw Qt) : Prop := RdR w B 7 QC r ∧ ∀ q ∈ r.l, RsQ w B q
theorem RsQs.blw {w W : World} {B B' : Nat} {r : Rw Qt} (h : RsQs w B r) (hb : Below B w W) (hB : B ≤ B') : RsQs W B' r := ⟨h.1.blw oneB_Q hb hB, fun d hd => ⟨(h.2 d hd).1.blw hb hB, (h.2 d hd).2.blw hb hB⟩⟩
def RsTs (w : World) (B : Nat) (r : Rw Tt) : Prop := RdR w B 8 TC r ∧ ∀ t ∈ r.l, RsX w B t.cd
theorem RsTs.blw {w W : World} {B B' : Nat} {r : Rw Tt} (h : RsTs w B r) (hb : Below B w W) (hB : B ≤ B') : RsTs W B' r := ⟨h.1.blw oneB_T hb hB, fun d hd => (h.2 d hd).blw hb hB⟩
inductive RsS (w : World) (B : Nat) : St → Prop
  | mk (s : St) (h1 : s.nm.size ≤ 140737488351232) (h2 : RsDs w B s.lc) (h3 : RsQs w B s.qs) (h4 : RdR w B 1 AC s.au) (h5 : ∀ a ∈ s.au.l, RdR w B 6 SC a) (h6 : ∀ a ∈ s.au.l, ∀ t ∈ a.l, RsS w B t) (h7 : RsTs w B s.un) (h8 : RsTs w B s.ut) : RsS w B s
theorem RsS.blw {w W : World} {B B' : Nat} {s : St} (h : RsS w B s) (hb : Below B w W) (hB : B ≤ B') : RsS W B' s := by
  induction h with
  | mk s h1 h2 h3 h4 h5 h6 h7 h8 ih => exact .mk s h1 (h2.blw hb hB) (h3.blw hb hB) (h4.blw oneB_A hb hB) (fun a ha => (h5 a ha).blw oneB_S hb hB) ih (h7.blw hb hB) (h8.blw hb hB)
theorem RsS.of {w : World} {B : Nat} {s : St} (h : RsS w B s) : s.nm.size ≤ 140737488351232 ∧ RsDs w B s.lc ∧ RsQs w B s.qs ∧ RdR w B 1 AC s.au ∧ (∀ a ∈ s.au.l, RdR w B 6 SC a) ∧ (∀ a ∈ s.au.l, ∀ t ∈ a.l, RsS w B t) ∧ RsTs w B s.un ∧ RsTs w B s.ut := by
  cases h with
  | mk s h1 h2 h3 h4 h5 h6 h7 h8 => exact ⟨h1, h2, h3, h4, h5, h6, h7, h8⟩
def RsA (w : World) (B : Nat) (a : Rw St) : Prop := RdR w B 6 SC a ∧ ∀ t ∈ a.l, RsS w B t
theorem RsA.blw {w W : World} {B B' : Nat} {a : Rw St} (h : RsA w B a) (hb : Below B w W) (hB : B ≤ B') : RsA W B' a := ⟨h.1.blw oneB_S hb hB, fun t ht => (h.2 t ht).blw hb hB⟩
def RsAs (w : World) (B : Nat) (r : Rw (Rw St)) : Prop := RdR w B 1 AC r ∧ ∀ a ∈ r.l, RsA w B a
theorem RsAs.blw {w W : World} {B B' : Nat} {r : Rw (Rw St)} (h : RsAs w B r) (hb : Below B w W) (hB : B ≤ B') : RsAs W B' r := ⟨h.1.blw oneB_A hb hB, fun t ht => (h.2 t ht).blw hb hB⟩
def RsN (w : World) (B : Nat) (n : Nt) : Prop := n.nm.size ≤ 140737488351232 ∧ RsDs w B n.ins ∧ RsDs w B n.outs ∧ RsDs w B n.locs ∧ RsQs w B n.qs ∧ RsAs w B n.au ∧ RsXs w B n.asm ∧ RsXs w B n.ens
theorem RsN.blw {w W : World} {B B' : Nat} {n : Nt} (h : RsN w B n) (hb : Below B w W) (hB : B ≤ B') : RsN W B' n :=
  ⟨h.1, h.2.1.blw hb hB, h.2.2.1.blw hb hB, h.2.2.2.1.blw hb hB, h.2.2.2.2.1.blw hb hB, h.2.2.2.2.2.1.blw hb hB, h.2.2.2.2.2.2.1.blw hb hB, h.2.2.2.2.2.2.2.blw hb hB⟩
def RsE (w : World) (B : Nat) (r : Rw va.En) : Prop := va.RdE w B r.A r.l ∧ (r.l.length ≤ maxLen ∧ r.l.length ≤ r.c) ∧ ∀ e ∈ r.l, e.name.size ≤ 140737488351232 ∧ (e.tags.length ≤ maxLen ∧ e.tags.length ≤ e.c) ∧ ∀ b ∈ e.tags, b.size ≤ 140737488351232
theorem RsE.blw {w W : World} {B B' : Nat} {r : Rw va.En} (h : RsE w B r) (hb : Below B w W) (hB : B ≤ B') : RsE W B' r := ⟨(h.1.keep fun _ hp => hb.cell hp).more hB, h.2⟩
def RsP (w : World) (B : Nat) (p : Pt) : Prop := RsE w B p.es ∧ RdR w B 8 NC p.ns ∧ ∀ n ∈ p.ns.l, RsN w B n
theorem RsP.blw {w W : World} {B B' : Nat} {p : Pt} (h : RsP w B p) (hb : Below B w W) (hB : B ≤ B') : RsP W B' p := ⟨h.1.blw hb hB, h.2.1.blw oneB_N hb hB, fun n hn => (h.2.2 n hn).blw hb hB⟩
end Go.Proofs.YtoimjcfdiljkjaaGreatDoor
namespace Go.Proofs.YtoimjcfdiljkjaaGreatDoor.va
open Go.RowKit
def textE (es : List En) (t v : Int) : Int := if valB es t then (if hasB es t v then 0 else 14) else 10
def textS (es : List En) (t v : Int) : ByteArray := if textE es t v = 0 then (if t = 2 then ⟨(Lib.itoa v).toArray⟩ else (tagsOf es t).getD v.toNat ⟨#[]⟩) else ⟨#[]⟩
theorem hasB_bd {es : List En} {t v : Int} (h : hasB es t v = true) (h2 : t ≠ 2) : 0 ≤ v ∧ v < (tagsOf es t).length := by
  rw [hasB, if_neg h2, sizeT, if_neg h2] at h
  simpa using h
theorem hasB_16 {es : List En} {v : Int} (h : hasB es 2 v = true) : -32768 ≤ v ∧ v ≤ 32767 := by
  rw [hasB, if_pos rfl] at h
  simpa using h
set_option maxHeartbeats 1000000 in
theorem text_any (A : Option Addr) (c : Nat) (es : List En) (t v : Int) (w : World) (hs : Std w) (hA : RdE w w.heap.size A es) (hl : es.length ≤ 9223372036854775807) (hti : t ≤ 9223372036854775807) :
    Calls Tryz.prog 103 #[.slice A es.length c, .int .i64 t, .int .i64 v] w (Bel (.tuple #[.string (textS es t v), .int .i64 (textE es t v)]) w) := by
  have KV := Lib.hid (fun w => valid_any A c es t w hl hti)
  have KH := Lib.hid (has_any A c es t v w hA hl hti)
  have KT := Lib.hid (fun w h => tags_any A c es t w h hl hti)
  have HS := Lib.hid hs
  have HA := Lib.hid hA
  clear hti hs hA
  by_cases hv : valB es t = true
  · by_cases hh : hasB es t v = true
    · have he : textE es t v = 0 := by rw [textE, if_pos hv, if_pos hh]
      by_cases h2 : t = 2
      · subst h2
        obtain ⟨v1, v2⟩ := hasB_16 hh
        have hx : textS es 2 v = ⟨(Lib.itoa v).toArray⟩ := by rw [textS, if_pos he, if_pos rfl]
        rw [he, hx]
        rw [hv] at KV
        rw [hh] at KH
        clear he hx hv hh
        go_enter Tryz.func103, Tryz.ntmps103
        go_wp2_with (first
          | (go_at_call 139; refine (KV.out _).mono ?_; rintro e w1 ⟨rfl, rfl⟩)
          | (go_at_call 39; refine KH.out.mono ?_; rintro e w2 ⟨rfl, hb2⟩)
          | (go_at_call 140; refine (itoa_any _ _ (HS.out.to ?_) (by omega) (by omega)).mono ?_; (exact bl); rintro e w3 ⟨rfl, hb3⟩))
        go_ret2
        exact ⟨rfl, bl⟩
      · obtain ⟨v1, v2⟩ := hasB_bd hh h2
        obtain ⟨k, rfl⟩ : ∃ k : Nat, v = k := ⟨v.toNat, by omega⟩
        have hk : k < (tagsOf es t).length := by omega
        have e2 : (t == 2) = false := by simp [h2]
        have hx : textS es t k = (tagsOf es t).getD k ⟨#[]⟩ := by rw [textS, if_pos he, if_neg h2]; rfl
        have HX := Lib.hid hx
        rw [he]
        rw [hv] at KV
        rw [hh] at KH
        clear he hx hv hh h2 v1 v2
        go_enter Tryz.func103, Tryz.ntmps103
        go_wp2_with (first
          | (go_at_call 139; refine (KV.out _).mono ?_; rintro e w1 ⟨rfl, rfl⟩)
          | (go_at_call 39; refine KH.out.mono ?_; rintro e w2 ⟨rfl, hb2⟩)
          | (go_at_call 116; refine (KT.out _ (HA.out.to ?_)).mono ?_; (exact bl); rintro e w3 ⟨A', c', rfl, hr, hb3⟩; obtain ⟨ad, b, rfl, _, hgb, hcb⟩ := hr.str_at hk))
        go_ret2
        exact ⟨by rw [HX.out, List.getD, hgb]; rfl, bl⟩
    · rw [Bool.not_eq_true] at hh
      have he : textE es t v = 14 := by rw [textE, if_pos hv, hh]; rfl
      have hx : textS es t v = ⟨#[]⟩ := by rw [textS, he, if_neg (by omega)]
      rw [he, hx]
      rw [hv] at KV
      rw [hh] at KH
      clear he hx hv hh
      go_enter Tryz.func103, Tryz.ntmps103
      go_wp2_with (first
        | (go_at_call 139; refine (KV.out _).mono ?_; rintro e w1 ⟨rfl, rfl⟩)
        | (go_at_call 39; refine KH.out.mono ?_; rintro e w2 ⟨rfl, hb2⟩))
      go_ret2
      exact ⟨rfl, bl⟩
  · rw [Bool.not_eq_true] at hv
    have he : textE es t v = 10 := by rw [textE, hv]; rfl
    have hx : textS es t v = ⟨#[]⟩ := by rw [textS, he, if_neg (by omega)]
    rw [he, hx]
    rw [hv] at KV
    clear he hx hv
    go_enter Tryz.func103, Tryz.ntmps103
    go_wp2_with (first
      | (go_at_call 139; refine (KV.out _).mono ?_; rintro e w1 ⟨rfl, rfl⟩))
    go_ret2
    exact ⟨rfl, Below.refl _ _⟩
end Go.Proofs.YtoimjcfdiljkjaaGreatDoor.va
namespace Go.Proofs.YtoimjcfdiljkjaaGreatDoor
open Go.RowKit
def tB (l : List UInt8) : ByteArray := ⟨l.toArray⟩
def bsT (b : ByteArray) : List UInt8 := b.data.toList
theorem tB_bsT (b : ByteArray) : tB (bsT b) = b := by cases b; rfl
theorem tB_app (l m : List UInt8) : tB l ++ tB m = tB (l ++ m) := by
  apply ByteArray.ext
  simp [tB]
theorem tB_size (l : List UInt8) : (tB l).size = l.length := by
  show l.toArray.size = _
  simp
theorem bsT_size (b : ByteArray) : (bsT b).length = b.size := by
  show b.data.toList.length = b.data.size
  simp
def symS (op : Int) : List UInt8 := if op = 3 then [97, 110, 100] else if op = 4 then [111, 114] else if op = 5 then [120, 111, 114] else if op = 6 then [43] else if op = 7 then [45] else if op = 8 then [42] else if op = 9 then [47] else if op = 10 then [109, 111, 100] else if op = 11 then [61] else if op = 12 then [60, 62] else if op = 13 then [60] else if op = 14 then [60, 61] else if op = 15 then [62] else [62, 61]
def brS (s : List UInt8) : List UInt8 := [40] ++ s ++ [41]
def bareB (x : Xt) : Bool := x.k == 2 || x.k == 11 || x.k == 10 || (x.k == 1 && (x.t != 2 || decide (0 ≤ x.v)))
def opdS (x : Xt) (s : List UInt8) : List UInt8 := if bareB x then s else brS s
def negS (x : Xt) (s : List UInt8) : List UInt8 := if x.k = 1 ∧ x.t = 2 then brS s else opdS x s
def valS (es : List va.En) (t v : Int) : List UInt8 := bsT (va.textS es t v)
def xt0 : Xt := .mk 0 0 0 0 ⟨#[]⟩ none 0 []
def opI (l : List Xt) (ts : List (List UInt8)) (i : Nat) : List UInt8 := opdS (l.getD i xt0) (ts.getD i [])
def betS (l : List Xt) (ts : List (List UInt8)) (sy : List UInt8) : List UInt8 := opI l ts 0 ++ [32] ++ sy ++ [32] ++ opI l ts 1
def oprS (op : Int) (l : List Xt) (ts : List (List UInt8)) : List UInt8 :=
  if op = 1 then [110, 111, 116, 32] ++ opI l ts 0 else if op = 2 then [45] ++ negS (l.getD 0 xt0) (ts.getD 0 []) else betS l ts (symS op)
def smpS (es : List va.En) (o : Ot) : List UInt8 := [119, 104, 101, 110, 32] ++ valS es o.t o.tag ++ brS (bsT o.nm)
def braS (es : List va.En) (t : Int) (i : Nat) (s : List UInt8) : List UInt8 := [32] ++ brS (valS es t i ++ [32, 45, 62, 32] ++ s)
def brsS (es : List va.En) (t : Int) (ts : List (List UInt8)) : List (List UInt8) := if t = 1 then (ts.mapIdx (braS es t)).reverse else ts.mapIdx (braS es t)
def mrgS (es : List va.En) (t : Int) (nm : ByteArray) (ts : List (List UInt8)) : List UInt8 := [109, 101, 114, 103, 101, 32] ++ bsT nm ++ (brsS es t ts).flatten
def calS (v : Int) (nm : ByteArray) (l : List Xt) (ts : List (List UInt8)) : List UInt8 :=
  bsT nm ++ brS (Lib.join (ts.take (ts.length - v.toNat)) [44, 32]) ++ (if v = 1 then [32, 101, 118, 101, 114, 121, 32] ++ opI l ts (ts.length - 1) else [])
def ndS (es : List va.En) (x : Xt) (ts : List (List UInt8)) : List UInt8 :=
  if x.k = 1 then valS es x.t x.v else if x.k = 3 then oprS x.op x.ar ts
  else if x.k = 4 then [105, 102, 32] ++ ts.getD 0 [] ++ [32, 116, 104, 101, 110, 32] ++ ts.getD 1 [] ++ [32, 101, 108, 115, 101, 32] ++ ts.getD 2 []
  else if x.k = 5 then [112, 114, 101, 32] ++ opI x.ar ts 0 else if x.k = 6 then betS x.ar ts [45, 62] else if x.k = 7 then betS x.ar ts [102, 98, 121]
  else if x.k = 8 then opI x.ar ts 0 ++ [32] ++ smpS es ⟨x.nm, x.t, x.v⟩ else if x.k = 9 then mrgS es x.t x.nm ts else if x.k = 10 then calS x.v x.nm x.ar ts
  else if x.k = 11 then [39] ++ bsT x.nm ++ [39] else bsT x.nm
def Xt.tx (es : List va.En) (x : Xt) : List UInt8 := ndS es x (x.ar.attach.map fun a => Xt.tx es a.1)
termination_by SizeOf.sizeOf x
decreasing_by exact Xt.lt_of_mem a.2
theorem Xt.tx_eq (es : List va.En) (x : Xt) : x.tx es = ndS es x (x.ar.map (Xt.tx es)) := by
  rw [Xt.tx]
  congr 1
  simp
def clkS (es : List va.En) (l : List Ot) : List UInt8 := Lib.join (l.map (smpS es)) [32]
def dclS (es : List va.En) (d : Dt) : List UInt8 := bsT d.nm ++ [58, 32] ++ bsT (va.nameT es d.ty) ++ (if 0 < d.ck.l.length then [32] ++ clkS es d.ck.l else [])
def dcsS (es : List va.En) (l : List Dt) : List UInt8 := Lib.join (l.map (dclS es)) [59, 32]
def lftS (l : List ByteArray) : List UInt8 := if 1 < l.length then brS (Lib.join (l.map bsT) [44, 32]) else Lib.join (l.map bsT) [44, 32]
def eqnS (es : List va.En) (q : Qt) : List UInt8 := lftS q.lf.l ++ [32, 61, 32] ++ q.r.tx es ++ [59]
def trnS (es : List va.En) (ss : List St) (t : Tt) : List UInt8 := t.cd.tx es ++ (if t.re then [32, 99, 111, 110, 116, 105, 110, 117, 101, 32] else [32, 116, 104, 101, 110, 32]) ++ bsT ((ss.map St.nm).getD t.to.toNat ⟨#[]⟩) ++ [59]
def linS (n : Nat) (s : List UInt8) : List UInt8 := (List.replicate n [32, 32]).flatten ++ s ++ [10]
end Go.Proofs.YtoimjcfdiljkjaaGreatDoor
