/- Texts of one chain, in one file. -/
import Derived.Test.YtfogkcccjemloaaGreatDoorQ3
import Derived.RangeFuncWrites
import Derived.Maps.OwnIn
import Derived.Maps.AppendAt
import Derived.Maps.Views
import Derived.StringKeys
import Derived.Deep.RegionWith
import Derived.Test.YtfogkcccjemloaaGreatDoorQ1
import Derived.Deep.RegionHeld3
import Derived.Test.YtfogkcccjemloaaGreatDoorRows
import Derived.Stop.LaidErr
import Derived.Lib.LaidTab
import Derived.LaidMore
import Derived.Lay
import Derived.LaidOnce
import Derived.ChangeSlices
import Derived.ChangeSame
import Derived.ChangeMaps
import Derived.Stop.Joined
/- The iterators again, for a consumer that grows rows of names: what a round leaves are the cells that lay ahead, and the boxes of expressions. -/
namespace Go.Proofs.YtfogkcccjemloaaGreatDoor
set_option linter.unusedVariables false
set_option linter.unusedSimpArgs false
open Go.RowKit Go.Shelf
attribute [local go_sem] Oper.semAt_some
/-- what a round leaves: the cells below n₀, and whatever box of an expression -/
def KY (n₀ : Nat) (W W' : World) : Prop := W.heap.size ≤ W'.heap.size ∧ ∀ k o, W.heap[k]? = some o → o.isCells = true → (k < n₀ ∨ ∃ cs fz, o = .cells cs 24 fz) → W'.heap[k]? = some o
theorem KY.refl (n₀ : Nat) (W : World) : KY n₀ W W := ⟨Nat.le_refl _, fun _ _ h _ _ => h⟩
theorem KY.trans {n₀ : Nat} {A B C : World} (h : KY n₀ A B) (g : KY n₀ B C) : KY n₀ A C := ⟨Nat.le_trans h.1 g.1, fun k o ho hc hd => g.2 k o (h.2 k o ho hc hd) hc hd⟩
theorem KY.of_below {n₀ : Nat} {W W' : World} (h : Below W.heap.size W W') : KY n₀ W W' := ⟨h.size, fun k o ho _ _ => (h.block k (Array.getElem?_eq_some_iff.1 ho).1).trans ho⟩
theorem KY.cell {n₀ : Nat} {W W' : World} (h : KY n₀ W W') {a : Addr} {v : Value} (hs : a.block < n₀) (hc : W.cell? a = some v) : W'.cell? a = some v := by
  obtain ⟨o, ho, hk⟩ := cells_of_cell hc
  exact (World.cell?_of_block ((h.2 _ o ho hk (.inl hs)).trans ho.symm)).trans hc
theorem KY.bx {n₀ : Nat} {W W2 : World} {x : Xt} (h : KY n₀ (bxW W x) W2) : W2.cell? ⟨W.heap.size, 0, none⟩ = some (.int .i64 x.k) ∧ W2.cell? ⟨W.heap.size, 1, none⟩ = some (.int .i64 x.op) ∧ W2.cell? ⟨W.heap.size, 2, none⟩ = some (.int .i64 x.t) ∧ W2.cell? ⟨W.heap.size, 3, none⟩ = some (.int .i64 x.v) ∧ W2.cell? ⟨W.heap.size, 4, none⟩ = some (.string x.nm) ∧ W2.cell? ⟨W.heap.size, 5, none⟩ = some (.slice x.A x.ar.length x.c) := by
  obtain ⟨b0, b1, b2, b3, b4, b5⟩ := bx_box W x
  have ho := World.alloc_heap_new W (.cells #[.int .i64 x.k, .int .i64 x.op, .int .i64 x.t, .int .i64 x.v, .string x.nm, .slice x.A x.ar.length x.c] 24)
  have key : W2.heap[W.heap.size]? = (bxW W x).heap[W.heap.size]? := (h.2 _ _ ho rfl (.inr ⟨_, _, rfl⟩)).trans ho.symm
  exact ⟨(World.cell?_of_block key).trans b0, (World.cell?_of_block key).trans b1, (World.cell?_of_block key).trans b2, (World.cell?_of_block key).trans b3, (World.cell?_of_block key).trans b4, (World.cell?_of_block key).trans b5⟩
theorem KY.put {n₀ : Nat} (W : World) (l : Nat) (o o' : Obj) (ho : W.heap[l]? = some o) (hc : o.isCells = false) : KY n₀ W (W.putObj l o') := by
  refine ⟨by simp, fun k q hq hqc _ => ?_⟩
  rw [World.putObj_heap_other (fun e => by subst e; rw [ho] at hq; injection hq with hq; subst hq; rw [hc] at hqc; cases hqc)]
  exact hq
theorem KY_t {n₀ : Nat} : ∀ {A B C : World}, KY n₀ A B → KY n₀ B C → KY n₀ A C := fun h g => h.trans g
theorem KY_b {n₀ N : Nat} : ∀ (W : World) (l : Nat) (o o' : Obj), N ≤ l → W.heap[l]? = some o → o.isCells = false → o.isWalk = false → KY n₀ W (W.putObj l o') := fun W l o o' _ ho hc _ => KY.put W l o o' ho hc
theorem RdX.ky {W W' : World} {n₀ : Nat} {x : Xt} (h : RdX W n₀ x) (hk : KY n₀ W W') : RdX W' n₀ x := by
  induction h with
  | mk x h0 h1 h2 h3 ih =>
    refine .mk x h0 (fun ad i y ha hy => ?_) ih h3
    obtain ⟨ad', e, hb⟩ := h0 (by intro e; rw [e] at hy; simp at hy)
    obtain rfl : ad = ad' := Option.some.inj (ha.symm.trans e)
    have hn : (ad.add (i * 6)).block < n₀ := by rw [add_block]; exact hb
    obtain ⟨c0, c1, c2, c3, c4, c5⟩ := h1 ad i y ha hy
    exact ⟨hk.cell hn c0, hk.cell (a := ⟨_, _, none⟩) hn c1, hk.cell (a := ⟨_, _, none⟩) hn c2, hk.cell (a := ⟨_, _, none⟩) hn c3, hk.cell (a := ⟨_, _, none⟩) hn c4, hk.cell (a := ⟨_, _, none⟩) hn c5⟩
set_option maxRecDepth 100000 in
set_option maxHeartbeats 4000000 in
theorem walkY_in (l n₀ B : Nat) (N : Nat) (J Jx : List Xt → World → Prop) (hJ : AbidesFrom B J) (P : Xt → Prop)
    (hY : ∀ m pre x W, P x → J pre W → pre.length < N → YieldAt Fence.wide m Tryz.prog l #[xV x] W fun e W' =>
      (e = .returned (.bool true) ∧ J (pre ++ [x]) W' ∧ KY n₀ W W') ∨ (e = .returned (.bool false) ∧ Jx (pre ++ [x]) W')) (x : Xt) :
    ∀ (n : Nat) (pre : List Xt) (W : World), (∀ y ∈ x.list, P y) → RdX W n₀ x → B ≤ W.heap.size → J pre W → pre.length + x.size ≤ N →
      CallsIn Fence.wide n Tryz.prog 63 #[xV x, .func (.func 41) #[] #[], .func (.yield l) #[] #[]] W fun e W' =>
        (e = .returned (.bool true) ∧ J (pre ++ x.list) W' ∧ KY n₀ W W') ∨ (e = .returned (.bool false) ∧ ∃ q, q <+: x.list ∧ Jx (pre ++ q) W') := by
  induction x using Xt.ind with
  | h x ih =>
    intro n pre W hP hX hB hj hN
    have hdd : ∀ k : Nat, (Fence.wide.depth.isSome = true → 1 ≤ k) := fun k h => by cases h
    have h9 := hX.len.1
    unfold maxLen at h9
    have hx1 := Xt.size_pos x
    obtain ⟨b0, b1, b2, b3, b4, b5⟩ := bx_box W x
    -- the round at x itself, with what the walk wants next beside it
    have hy0 := YieldAt.mono (R' := fun e W2 =>
        (e = .returned (.bool true) ∧ J (pre ++ [x]) W2 ∧ KY n₀ W W2 ∧ RdX W2 n₀ x ∧ W.heap.size < W2.heap.size ∧ W2.cell? ⟨W.heap.size, 0, none⟩ = some (.int .i64 x.k) ∧ W2.cell? ⟨W.heap.size, 1, none⟩ = some (.int .i64 x.op) ∧ W2.cell? ⟨W.heap.size, 2, none⟩ = some (.int .i64 x.t) ∧ W2.cell? ⟨W.heap.size, 3, none⟩ = some (.int .i64 x.v) ∧ W2.cell? ⟨W.heap.size, 4, none⟩ = some (.string x.nm) ∧ W2.cell? ⟨W.heap.size, 5, none⟩ = some (.slice x.A x.ar.length x.c)) ∨
        (e = .returned (.bool false) ∧ Jx (pre ++ [x]) W2)) (hY (n - 1) pre x (bxW W x) (hP x (by rw [Xt.list_eq]; simp)) (abides_below hJ hj (bel_box _)) (by omega)) fun e W2 h => h.elim (fun ⟨he, hj2, hk⟩ => .inl ⟨he, hj2, (KY.of_below (bel_box _)).trans hk, (hX.ky (KY.of_below (bel_box _))).ky hk, by have := hk.1; rw [bxW_size] at this; omega,
          hk.bx.1, hk.bx.2.1, hk.bx.2.2.1, hk.bx.2.2.2.1, hk.bx.2.2.2.2.1, hk.bx.2.2.2.2.2⟩) .inr
    have IH := Lib.hid ih
    have HX := Lib.hid hX
    have HP := Lib.hid hP
    obtain ⟨L, hL, hL0, HL⟩ := parts_list x
    rw [hL] at hP
    have HPL := Lib.hid hP
    clear hP HP
    rw [hL]
    have HA := Lib.hid (fun W => arguments_any x W)
    clear hX ih b0 b1 b2 b3 b4 b5 hY
    simp only [xV] at hy0 HA IH ⊢
    obtain ⟨fn, tmps, assign, body, hy, hR⟩ := hy0
    refine callsIn_of_wp Tryz.func63 rfl trivial ?_ rfl
    simp only [Tryz.ntmps63, List.size_toArray, List.length_cons, List.length_nil, Nat.reduceAdd, Nat.reduceSub, Array.replicate_succ, Array.replicate_zero, List.push_toArray, List.append_toArray, List.nil_append, List.cons_append]
    gi_wp2_with (first
      | ((try refine ⟨hdd _, ?_⟩); refine hR.mono ?_; clear hR; rintro e W2 (⟨rfl, hJ2, hk2, hX2, hz2, d0, d1, d2, d3, d4, d5⟩ | ⟨rfl, hx2⟩))
      | (refine ⟨trivial, hdd _, ?_⟩; gi_at_call 41; refine (callsIn_wide.2 (HA.out _)).mono ?_; rintro e W3 ⟨rfl, hb3⟩))
    · clear HA hy
      have hJ3 := abides_below hJ hJ2 hb3
      have hk3 : KY n₀ W W3 := hk2.trans (KY.of_below hb3)
      clear hX2 hz2 d0 d1 d2 d3 d4 d5 hJ2 hk2 hb3
      gi_loopw [17] (fun i wr => ∃ k : Nat, k ≤ x.ar.length ∧ i = .int .i64 (k : Int) ∧ J (pre ++ x :: L k) wr ∧ KY n₀ W wr) (fun i _ => x.ar.length - (intOf i).toNat)
      case atStart => exact ⟨0, by omega, rfl, by rw [hL0]; exact hJ3, hk3⟩
      case round =>
        obtain ⟨k, hk, rfl, hJk, hkk⟩ := hrel
        by_cases hlt : k < x.ar.length
        · have hXr := HX.out.ky hkk
          obtain ⟨ad, y, hA, had, hy, hm, ⟨c0, c1, c2, c3, c4, c5⟩, hr⟩ := hXr.at_ hlt
          obtain ⟨e1, e2, r, e3⟩ := HL.out k y hy
          have hcall := (IH.out y hm (n - 1) (pre ++ x :: L k) (bxW wr y) (fun z hz => HPL.out z (List.mem_cons.2 (.inr (by rw [← e3]; simp [hz])))) (hr.ky (KY.of_below (bel_box _))) (by rw [bxW_size]; have := hkk.1; omega) (abides_below hJ hJk (bel_box _)) (by simp only [List.length_append, List.length_cons]; omega)).mono (R' := fun e W5 =>
            (e = .returned (.bool true) ∧ J (pre ++ x :: L (k + 1)) W5 ∧ KY n₀ W W5) ∨ (e = .returned (.bool false) ∧ ∃ q, q <+: x :: L x.ar.length ∧ Jx (pre ++ q) W5)) (fun e W5 h => h.elim
              (fun ⟨he, hj5, hk5⟩ => .inl ⟨he, by rw [e1]; simpa [List.append_assoc] using hj5, (hkk.trans (KY.of_below (bel_box _))).trans hk5⟩)
              (fun ⟨he, q, ⟨t, ht⟩, hx5⟩ => .inr ⟨he, x :: L k ++ q, ⟨t ++ r, by rw [← e3, ← ht]; simp [List.append_assoc]⟩, by simpa [List.append_assoc] using hx5⟩))
          have HC := Lib.hid hcall
          clear hcall hXr hr e1 e2 e3 hy hJk hkk IH HL HPL
          rw [hA]
          clear hA
          gi_wp2_with (refine ⟨trivial, hdd _, ?_⟩; gi_at_call 63; refine HC.out.mono ?_; clear HC; rintro e W5 (⟨rfl, hJ5, hk5⟩ | ⟨rfl, q, hq, hx5⟩))
          · exact ⟨⟨k + 1, by omega, by congr 1, hJ5, hk5⟩, by simp [intOf]; omega⟩
          · go_ret
            exact .inr ⟨rfl, q, hq, hx5⟩
        · obtain rfl : k = x.ar.length := by omega
          gi_wp2
          go_ret
          exact .inl ⟨rfl, hJk, hkk⟩
    · go_ret
      exact .inr ⟨rfl, [x], ⟨L x.ar.length, rfl⟩, hx2⟩
set_option maxRecDepth 100000 in
set_option maxHeartbeats 4000000 in
theorem walkYI_in (l n₀ B : Nat) (N : Nat) (J Jx : List Xt → World → Prop) (hJ : AbidesFrom B J) (P : Xt → Prop)
    (hY : ∀ m pre x W, P x → J pre W → pre.length < N → YieldAt Fence.wide m Tryz.prog l #[xV x] W fun e W' =>
      (e = .returned (.bool true) ∧ J (pre ++ [x]) W' ∧ KY n₀ W W') ∨ (e = .returned (.bool false) ∧ Jx (pre ++ [x]) W')) (x : Xt) :
    ∀ (n : Nat) (pre : List Xt) (W : World), (∀ y ∈ x.lst true, P y) → RdX W n₀ x → B ≤ W.heap.size → J pre W → pre.length + (x.lst true).length ≤ N →
      CallsIn Fence.wide n Tryz.prog 63 #[xV x, .func (.func 46) #[] #[], .func (.yield l) #[] #[]] W fun e W' =>
        (e = .returned (.bool true) ∧ J (pre ++ x.lst true) W' ∧ KY n₀ W W') ∨ (e = .returned (.bool false) ∧ ∃ q, q <+: x.lst true ∧ Jx (pre ++ q) W') := by
  induction x using Xt.ind with
  | h x ih =>
    intro n pre W hP hX hB hj hN
    have hdd : ∀ k : Nat, (Fence.wide.depth.isSome = true → 1 ≤ k) := fun k h => by cases h
    have h9 := hX.len.1
    unfold maxLen at h9
    have hx1 := lst_pos x
    obtain ⟨b0, b1, b2, b3, b4, b5⟩ := bx_box W x
    -- the round at x itself, with what the walk wants next beside it
    have hy0 := YieldAt.mono (R' := fun e W2 =>
        (e = .returned (.bool true) ∧ J (pre ++ [x]) W2 ∧ KY n₀ W W2 ∧ RdX W2 n₀ x ∧ W.heap.size < W2.heap.size ∧ W2.cell? ⟨W.heap.size, 0, none⟩ = some (.int .i64 x.k) ∧ W2.cell? ⟨W.heap.size, 1, none⟩ = some (.int .i64 x.op) ∧ W2.cell? ⟨W.heap.size, 2, none⟩ = some (.int .i64 x.t) ∧ W2.cell? ⟨W.heap.size, 3, none⟩ = some (.int .i64 x.v) ∧ W2.cell? ⟨W.heap.size, 4, none⟩ = some (.string x.nm) ∧ W2.cell? ⟨W.heap.size, 5, none⟩ = some (.slice x.A x.ar.length x.c)) ∨
        (e = .returned (.bool false) ∧ Jx (pre ++ [x]) W2)) (hY (n - 1) pre x (bxW W x) (hP x (by rw [Xt.lst_eq]; simp)) (abides_below hJ hj (bel_box _)) (by omega)) fun e W2 h => h.elim (fun ⟨he, hj2, hk⟩ => .inl ⟨he, hj2, (KY.of_below (bel_box _)).trans hk, (hX.ky (KY.of_below (bel_box _))).ky hk, by have := hk.1; rw [bxW_size] at this; omega,
          hk.bx.1, hk.bx.2.1, hk.bx.2.2.1, hk.bx.2.2.2.1, hk.bx.2.2.2.2.1, hk.bx.2.2.2.2.2⟩) .inr
    have IH := Lib.hid ih
    have HX := Lib.hid hX
    have HP := Lib.hid hP
    obtain ⟨L, hL, hL0, HL⟩ := parts_lst x
    have hkl := kids_length true x
    have AK : Hid (∀ {w : World} {B : Nat}, RdX w B x → ∀ {k : Nat}, k < (kidsI true x).length → ∃ ad y, iA x = some ad ∧ ad.block < B ∧ (kidsI true x)[k]? = some y ∧ y ∈ x.ar ∧ XC w (ad.add (k * 6)) y ∧ RdX w B y) := Lib.hid fun h => h.at_kid
    rw [hL] at hP
    have HPL := Lib.hid hP
    clear hP HP
    rw [hL]
    have HA := Lib.hid (fun W => instant_any x W h9 HX.out.cap)
    obtain ⟨M, hM⟩ : ∃ M, (kidsI true x).length = M := ⟨_, rfl⟩
    rw [hM] at HA AK HL hkl HPL
    rw [hM]
    clear hX ih b0 b1 b2 b3 b4 b5 hY
    simp only [xV] at hy0 HA IH ⊢
    obtain ⟨fn, tmps, assign, body, hy, hR⟩ := hy0
    refine callsIn_of_wp Tryz.func63 rfl trivial ?_ rfl
    simp only [Tryz.ntmps63, List.size_toArray, List.length_cons, List.length_nil, Nat.reduceAdd, Nat.reduceSub, Array.replicate_succ, Array.replicate_zero, List.push_toArray, List.append_toArray, List.nil_append, List.cons_append]
    gi_wp2_with (first
      | ((try refine ⟨hdd _, ?_⟩); refine hR.mono ?_; clear hR; rintro e W2 (⟨rfl, hJ2, hk2, hX2, hz2, d0, d1, d2, d3, d4, d5⟩ | ⟨rfl, hx2⟩))
      | (refine ⟨trivial, hdd _, ?_⟩; gi_at_call 46; refine (callsIn_wide.2 (HA.out _)).mono ?_; rintro e W3 ⟨rfl, hb3⟩))
    · clear HA hy
      have hJ3 := abides_below hJ hJ2 hb3
      have hk3 : KY n₀ W W3 := hk2.trans (KY.of_below hb3)
      clear hX2 hz2 d0 d1 d2 d3 d4 d5 hJ2 hk2 hb3
      gi_loopw [17] (fun i wr => ∃ k : Nat, k ≤ M ∧ i = .int .i64 (k : Int) ∧ J (pre ++ x :: L k) wr ∧ KY n₀ W wr) (fun i _ => M - (intOf i).toNat)
      case atStart => exact ⟨0, by omega, rfl, by rw [hL0]; exact hJ3, hk3⟩
      case round =>
        obtain ⟨k, hk, rfl, hJk, hkk⟩ := hrel
        by_cases hlt : k < M
        · have hXr := HX.out.ky hkk
          obtain ⟨ad, y, hA, had, hy, hm, ⟨c0, c1, c2, c3, c4, c5⟩, hr⟩ := AK.out hXr hlt
          obtain ⟨e1, e2, r, e3⟩ := HL.out k y hy
          have hcall := (IH.out y hm (n - 1) (pre ++ x :: L k) (bxW wr y) (fun z hz => HPL.out z (List.mem_cons.2 (.inr (by rw [← e3]; simp [hz])))) (hr.ky (KY.of_below (bel_box _))) (by rw [bxW_size]; have := hkk.1; omega) (abides_below hJ hJk (bel_box _)) (by simp only [List.length_append, List.length_cons]; omega)).mono (R' := fun e W5 =>
            (e = .returned (.bool true) ∧ J (pre ++ x :: L (k + 1)) W5 ∧ KY n₀ W W5) ∨ (e = .returned (.bool false) ∧ ∃ q, q <+: x :: L M ∧ Jx (pre ++ q) W5)) (fun e W5 h => h.elim
              (fun ⟨he, hj5, hk5⟩ => .inl ⟨he, by rw [e1]; simpa [List.append_assoc] using hj5, (hkk.trans (KY.of_below (bel_box _))).trans hk5⟩)
              (fun ⟨he, q, ⟨t, ht⟩, hx5⟩ => .inr ⟨he, x :: L k ++ q, ⟨t ++ r, by rw [← e3, ← ht]; simp [List.append_assoc]⟩, by simpa [List.append_assoc] using hx5⟩))
          have HC := Lib.hid hcall
          clear hcall hXr hr e1 e2 e3 hy hJk hkk IH HL HPL AK
          rw [hA]
          clear hA
          gi_wp2_with (refine ⟨trivial, hdd _, ?_⟩; gi_at_call 63; refine HC.out.mono ?_; clear HC; rintro e W5 (⟨rfl, hJ5, hk5⟩ | ⟨rfl, q, hq, hx5⟩))
          · exact ⟨⟨k + 1, by omega, by congr 1, hJ5, hk5⟩, by simp [intOf]; omega⟩
          · go_ret
            exact .inr ⟨rfl, q, hq, hx5⟩
        · obtain rfl : k = M := by omega
          gi_wp2
          go_ret
          exact .inl ⟨rfl, hJk, hkk⟩
    · go_ret
      exact .inr ⟨rfl, [x], ⟨L M, rfl⟩, hx2⟩
end Go.Proofs.YtfogkcccjemloaaGreatDoor
/- What within hands back, for a consumer that grows rows of names. -/
namespace Go.Proofs.YtfogkcccjemloaaGreatDoor
set_option linter.unusedVariables false
set_option linter.unusedSimpArgs false
open Go.RowKit Go.Shelf
attribute [local go_sem] Oper.semAt_some
set_option maxHeartbeats 1000000 in
set_option maxRecDepth 100000 in
theorem withinY_stopsP (P : Xt → Prop) (n be bp n₀ : Nat) (x : Xt) (w : World) (hP : ∀ y ∈ x.list, P y) (hn₀ : n₀ ≤ w.heap.size) (hbe : be < w.heap.size) (hbp : bp < w.heap.size) (hX : RdX w n₀ x)
    (c0 : w.cell? ⟨be, 0, none⟩ = some (.int .i64 x.k)) (c1 : w.cell? ⟨be, 1, none⟩ = some (.int .i64 x.op)) (c2 : w.cell? ⟨be, 2, none⟩ = some (.int .i64 x.t)) (c3 : w.cell? ⟨be, 3, none⟩ = some (.int .i64 x.v)) (c4 : w.cell? ⟨be, 4, none⟩ = some (.string x.nm)) (c5 : w.cell? ⟨be, 5, none⟩ = some (.slice x.A x.ar.length x.c)) (cp : w.cell? ⟨bp, 0, none⟩ = some (.func (.func 41) #[] #[])) :
    SeqStopsK Fence.wide n Tryz.prog 62 #[.pointer (some ⟨be, 0, none⟩), .pointer (some ⟨bp, 0, none⟩)] (fun y : {y : Xt // P y} => #[xV y.1]) (KY n₀) (fun ys => ys.map (·.1) = x.list) (fun pre => pre.map (·.1) <+: x.list) x.size w := by
  intro l J Jx W hW hJ _ hY h0
  have hdd : ∀ k : Nat, (Fence.wide.depth.isSome = true → 1 ≤ k) := fun k h => by cases h
  have hWs := hW.size
  have d0 := (hW.cell (p := ⟨be, 0, none⟩) hbe).trans c0
  have d1 := (hW.cell (p := ⟨be, 1, none⟩) hbe).trans c1
  have d2 := (hW.cell (p := ⟨be, 2, none⟩) hbe).trans c2
  have d3 := (hW.cell (p := ⟨be, 3, none⟩) hbe).trans c3
  have d4 := (hW.cell (p := ⟨be, 4, none⟩) hbe).trans c4
  have d5 := (hW.cell (p := ⟨be, 5, none⟩) hbe).trans c5
  have dp := (hW.cell (p := ⟨bp, 0, none⟩) hbp).trans cp
  have hp := walkY_in l n₀ W.heap.size x.size (upJ J) (upJ Jx) (fun s A B row ⟨q, hq, hs⟩ hg hr => ⟨q, hq, hJ q A B row hs hg hr⟩) P
    (fun m pre y W1 hPy ⟨q, hq, hj⟩ hl => yield_any rfl m (YieldAt.mono (hY q ⟨y, hPy⟩ W1 hj (by rw [← hq, List.length_map] at hl; exact hl)) fun e W' h => h.elim
      (fun ⟨he, hj2, hk⟩ => .inl ⟨he, ⟨q ++ [⟨y, hPy⟩], by rw [List.map_append, hq]; rfl, hj2⟩, hk⟩) (fun ⟨he, hx⟩ => .inr ⟨he, q ++ [⟨y, hPy⟩], by rw [List.map_append, hq]; rfl, hx⟩))) x (n - 1) [] W hP (hX.blw (hW.mono hn₀) (Nat.le_refl _)) (Nat.le_refl _) ⟨[], rfl, h0⟩ (by simp)
  simp only [List.nil_append, xV] at hp
  clear hY c0 c1 c2 c3 c4 c5 cp
  simp only [List.append_toArray, List.cons_append, List.nil_append, Array.append_eq_append] at *
  refine callsIn_of_wp Tryz.func62 rfl trivial ?_ rfl
  simp only [Tryz.ntmps62, List.size_toArray, List.length_cons, List.length_nil, Nat.reduceAdd, Nat.reduceSub, Array.replicate_succ, Array.replicate_zero, List.push_toArray, List.append_toArray, List.nil_append, List.cons_append]
  gi_wp2_with (refine ⟨trivial, hdd _, ?_⟩; gi_at_call 63; refine hp.mono ?_; clear hp; rintro e W1 (⟨rfl, ⟨ys, hys, hJ1⟩, _⟩ | ⟨rfl, q, hq, ys, hys, hx⟩))
  · go_end0
    exact ⟨⟨_, rfl⟩, .inl ⟨ys, hys, hJ1⟩⟩
  · go_end0
    exact ⟨⟨_, rfl⟩, .inr ⟨ys, by rw [hys]; exact hq, hx⟩⟩
theorem withinY_atP (P : Xt → Prop) (n n₀ : Nat) (x : Xt) (w : World) (hP : ∀ y ∈ x.list, P y) (hn₀ : n₀ ≤ w.heap.size) (hX : RdX w n₀ x) :
    SeqStopsK Fence.wide n Tryz.prog 62 #[.pointer (some ⟨w.heap.size, 0, none⟩), .pointer (some ⟨w.heap.size + 1, 0, none⟩)] (fun y : {y : Xt // P y} => #[xV y.1]) (KY n₀) (fun ys => ys.map (·.1) = x.list) (fun pre => pre.map (·.1) <+: x.list) x.size (inW w x 41) := by
  obtain ⟨b0, b1, b2, b3, b4, b5, _⟩ := bxW_cells (w := w) (x := x) (W := inW w x 41) (bel_box _)
  exact withinY_stopsP P n w.heap.size (w.heap.size + 1) n₀ x _ hP (by rw [inW_size]; omega) (by rw [inW_size]; omega) (by rw [inW_size]; omega) (hX.blw ((inW_below w x _).mono hn₀) (Nat.le_refl _)) b0 b1 b2 b3 b4 b5 (by simp [go_sem])
set_option maxHeartbeats 1000000 in
set_option maxRecDepth 100000 in
theorem withinYI_stopsP (P : Xt → Prop) (n be bp n₀ : Nat) (x : Xt) (w : World) (hP : ∀ y ∈ x.lst true, P y) (hn₀ : n₀ ≤ w.heap.size) (hbe : be < w.heap.size) (hbp : bp < w.heap.size) (hX : RdX w n₀ x)
    (c0 : w.cell? ⟨be, 0, none⟩ = some (.int .i64 x.k)) (c1 : w.cell? ⟨be, 1, none⟩ = some (.int .i64 x.op)) (c2 : w.cell? ⟨be, 2, none⟩ = some (.int .i64 x.t)) (c3 : w.cell? ⟨be, 3, none⟩ = some (.int .i64 x.v)) (c4 : w.cell? ⟨be, 4, none⟩ = some (.string x.nm)) (c5 : w.cell? ⟨be, 5, none⟩ = some (.slice x.A x.ar.length x.c)) (cp : w.cell? ⟨bp, 0, none⟩ = some (.func (.func 46) #[] #[])) :
    SeqStopsK Fence.wide n Tryz.prog 62 #[.pointer (some ⟨be, 0, none⟩), .pointer (some ⟨bp, 0, none⟩)] (fun y : {y : Xt // P y} => #[xV y.1]) (KY n₀) (fun ys => ys.map (·.1) = x.lst true) (fun pre => pre.map (·.1) <+: x.lst true) (x.lst true).length w := by
  intro l J Jx W hW hJ _ hY h0
  have hdd : ∀ k : Nat, (Fence.wide.depth.isSome = true → 1 ≤ k) := fun k h => by cases h
  have hWs := hW.size
  have d0 := (hW.cell (p := ⟨be, 0, none⟩) hbe).trans c0
  have d1 := (hW.cell (p := ⟨be, 1, none⟩) hbe).trans c1
  have d2 := (hW.cell (p := ⟨be, 2, none⟩) hbe).trans c2
  have d3 := (hW.cell (p := ⟨be, 3, none⟩) hbe).trans c3
  have d4 := (hW.cell (p := ⟨be, 4, none⟩) hbe).trans c4
  have d5 := (hW.cell (p := ⟨be, 5, none⟩) hbe).trans c5
  have dp := (hW.cell (p := ⟨bp, 0, none⟩) hbp).trans cp
  have hp := walkYI_in l n₀ W.heap.size (x.lst true).length (upJ J) (upJ Jx) (fun s A B row ⟨q, hq, hs⟩ hg hr => ⟨q, hq, hJ q A B row hs hg hr⟩) P
    (fun m pre y W1 hPy ⟨q, hq, hj⟩ hl => yield_any rfl m (YieldAt.mono (hY q ⟨y, hPy⟩ W1 hj (by rw [← hq, List.length_map] at hl; exact hl)) fun e W' h => h.elim
      (fun ⟨he, hj2, hk⟩ => .inl ⟨he, ⟨q ++ [⟨y, hPy⟩], by rw [List.map_append, hq]; rfl, hj2⟩, hk⟩) (fun ⟨he, hx⟩ => .inr ⟨he, q ++ [⟨y, hPy⟩], by rw [List.map_append, hq]; rfl, hx⟩))) x (n - 1) [] W hP (hX.blw (hW.mono hn₀) (Nat.le_refl _)) (Nat.le_refl _) ⟨[], rfl, h0⟩ (by simp)
  simp only [List.nil_append, xV] at hp
  clear hY c0 c1 c2 c3 c4 c5 cp
  simp only [List.append_toArray, List.cons_append, List.nil_append, Array.append_eq_append] at *
  refine callsIn_of_wp Tryz.func62 rfl trivial ?_ rfl
  simp only [Tryz.ntmps62, List.size_toArray, List.length_cons, List.length_nil, Nat.reduceAdd, Nat.reduceSub, Array.replicate_succ, Array.replicate_zero, List.push_toArray, List.append_toArray, List.nil_append, List.cons_append]
  gi_wp2_with (refine ⟨trivial, hdd _, ?_⟩; gi_at_call 63; refine hp.mono ?_; clear hp; rintro e W1 (⟨rfl, ⟨ys, hys, hJ1⟩, _⟩ | ⟨rfl, q, hq, ys, hys, hx⟩))
  · go_end0
    exact ⟨⟨_, rfl⟩, .inl ⟨ys, hys, hJ1⟩⟩
  · go_end0
    exact ⟨⟨_, rfl⟩, .inr ⟨ys, by rw [hys]; exact hq, hx⟩⟩
theorem withinYI_atP (P : Xt → Prop) (n n₀ : Nat) (x : Xt) (w : World) (hP : ∀ y ∈ x.lst true, P y) (hn₀ : n₀ ≤ w.heap.size) (hX : RdX w n₀ x) :
    SeqStopsK Fence.wide n Tryz.prog 62 #[.pointer (some ⟨w.heap.size, 0, none⟩), .pointer (some ⟨w.heap.size + 1, 0, none⟩)] (fun y : {y : Xt // P y} => #[xV y.1]) (KY n₀) (fun ys => ys.map (·.1) = x.lst true) (fun pre => pre.map (·.1) <+: x.lst true) (x.lst true).length (inW w x 46) := by
  obtain ⟨b0, b1, b2, b3, b4, b5, _⟩ := bxW_cells (w := w) (x := x) (W := inW w x 46) (bel_box _)
  exact withinYI_stopsP P n w.heap.size (w.heap.size + 1) n₀ x _ hP (by rw [inW_size]; omega) (by rw [inW_size]; omega) (by rw [inW_size]; omega) (hX.blw ((inW_below w x _).mono hn₀) (Nat.le_refl _)) b0 b1 b2 b3 b4 b5 (by simp [go_sem])
end Go.Proofs.YtfogkcccjemloaaGreatDoor
/- A look-up by value in a map of bools; the set of names that came. -/
namespace Go.Proofs.YtfogkcccjemloaaGreatDoor
set_option linter.unusedVariables false
set_option linter.unusedSimpArgs false
open Go.RowKit Go.Shelf Go.Maps
theorem plainElem_bool_inv {H : Type} {P : Program} {e : TypeId} (he : P.underlying e = some .bool) {v : Value} {z : DataW H × List MemPlace} (h : plainElem P e v = some z) : ∃ a, v = .bool a ∧ z = (.lit (.bool a), []) := by
  unfold plainElem at h
  rw [he] at h
  cases v <;> simp at h
  exact ⟨_, rfl, h.symm⟩
theorem lookup_bool {H : Type} {P : Program} {w : World} {k t e : TypeId} {b n : Nat} {D : DataW H} (h : w.ownsMap P k (plainElem P e) b n D) (K : Keyed P k) (ht : P.underlying t = some (.map k e)) (he : P.underlying e = some .bool) (hz : (zeroValue e).run P w = .ok (.bool false) w)
    {key : Value} {kl : Lit} (hkey : keyOf P k key = some kl) : ∃ c, (Instr.lookup t (.map (some b)) key false).run P w = .ok (.bool c) w ∧ D.atKey kl (.lit (.bool false)) = .lit (.bool c) := by
  obtain ⟨v, ps, hrun, hv⟩ := h.lookup K ht hz (plainElem_bool he false) hkey
  obtain ⟨c, rfl, hc⟩ := plainElem_bool_inv he hv
  simp only [Prod.mk.injEq] at hc
  exact ⟨c, hrun, hc.1⟩
theorem isMap_put' {H : Type} {D : DataW H} (h : IsMap D) (k : Lit) (d : DataW H) : IsMap (D.put k d) := by
  obtain ⟨es, rfl⟩ := h
  exact ⟨_, rfl⟩
theorem seen_put {H : Type} {D : DataW H} (hD : IsMap D) (s t : ByteArray) (b : Bool) (h : D.atKey (.string t.data.toList) (.lit (.bool false)) = .lit (.bool b)) :
    (D.put (.string s.data.toList) (.lit (.bool true))).atKey (.string t.data.toList) (.lit (.bool false)) = .lit (.bool (b || (s.toList == t.toList))) := by
  rw [ByteArray.toList_eq, ByteArray.toList_eq]
  by_cases e : s.data.toList = t.data.toList
  · rw [e, atKey_put_same hD (by simp [WideAt.IsKeyLit])]
    simp
  · rw [atKey_put_other (fun h => e (by injection h with h; exact h.symm)), h]
    have : (s.data.toList == t.data.toList) = false := by simpa using e
    rw [this, Bool.or_false]
theorem has_snoc (l : List ByteArray) (s t : ByteArray) : hasN (l ++ [s]) t = (hasN l t || (s.toList == t.toList)) := by
  unfold hasN
  rw [List.any_append]
  simp
end Go.Proofs.YtfogkcccjemloaaGreatDoor
/- variables of the program. -/
namespace Go.Proofs.YtfogkcccjemloaaGreatDoor
set_option linter.unusedVariables false
set_option linter.unusedSimpArgs false
open Go.RowKit Go.Shelf Go.Maps
attribute [local go_sem] Oper.semAt_some
/-- the names that have come -/
def fN (pre : List Xt) : List ByteArray := pre.foldl stepN []
def VI (b : Nat) (pre : List Xt) (W : World) : Prop := Boxed W (b + 2) 71 (.map (some (b + 1))) ∧ ∃ n D, n ≤ pre.length ∧ IsMap D ∧ (∀ t : ByteArray, D.atKey (.string t.data.toList) (.lit (.bool false)) = .lit (.bool (hasN (fN pre) t))) ∧ W.ownsMap Tryz.prog 9 (plainElem (H := Unit) Tryz.prog 4) (b + 1) n D
theorem VI_own {b B : Nat} (hB : b + 3 ≤ B) {α : Type} (g : α → Xt) : OwnFrom B (fun (pre : List α) W => VI b (pre.map g) W) := by
  rintro s X Y row ⟨h1, n, D, h2, h3, h4, h5⟩ hg hr
  exact ⟨h1.kept hg (fun e => by have := (hr _ e.symm).1; omega), n, D, h2, h3, h4, h5.kept hg (fun e => by have := (hr _ e.symm).1; omega)⟩
theorem fN_snoc (pre : List Xt) (y : Xt) : fN (pre ++ [y]) = stepN (fN pre) y := by rw [fN, List.foldl_append]; rfl
theorem VI.below {b : Nat} {pre : List Xt} {W W' : World} (h : VI b pre W) (hb : Below W.heap.size W W') : VI b pre W' := by
  obtain ⟨h1, n, D, h2, h3, h4, h5⟩ := h
  exact ⟨h1.kept (below_grown hb) (by simp), n, D, h2, h3, h4, h5.kept (below_grown hb) (by simp)⟩
theorem VI.same {b : Nat} {pre : List Xt} {y : Xt} {W : World} (h : VI b pre W) (e : stepN (fN pre) y = fN pre) : VI b (pre ++ [y]) W := by
  obtain ⟨h1, n, D, h2, h3, h4, h5⟩ := h
  exact ⟨h1, n, D, by rw [List.length_append]; omega, h3, fun t => by rw [fN_snoc, e]; exact h4 t, h5⟩
theorem own_not_map {W : World} {b n size m ck : Nat} {e : TypeId} {v : Value} {xs : List Value} {es : Array MapEntry} (h : W.ownsRow b e size v n xs) (hh : W.heap[m]? = some (.map es ck)) : v.ownBlock ≠ some m := by
  rcases h.2 with ⟨rfl, _⟩ | ⟨g, cap, cur, rfl, _, hgb, _⟩
  · simp [Value.ownBlock]
  · intro e
    obtain rfl : g = m := by simpa [Value.ownBlock] using e
    rw [hh] at hgb
    cases hgb
theorem fN_length (pre : List Xt) : (fN pre).length ≤ pre.length := by
  have : ∀ (l : List Xt) (a : List ByteArray), (l.foldl stepN a).length ≤ a.length + l.length := by
    intro l
    induction l with
    | nil => intro a; simp
    | cons z l ih => intro a; have h1 := ih (stepN a z); have h2 := step_length a z; simp only [List.foldl_cons, List.length_cons]; omega
  have h := this pre []
  rw [List.length_nil, Nat.zero_add] at h
  exact h
theorem KY.appended {n₀ b k B : Nat} {W w1 : World} {v v' : Value} {xs : List Value} {tmp : Obj} (hv : Boxed W B 32 v) (hrow : W.ownsRow b 9 1 v k xs) (hb : n₀ ≤ b) (hB : n₀ ≤ B) (hg : (W.alloc tmp).grownBy w1 v.ownBlock) : KY n₀ W (w1.setCell ⟨B, 0, none⟩ v') := by
  have hz := hg.size
  rw [World.size_alloc] at hz
  refine ⟨by simp [World.setCell]; omega, fun j o ho hc hd => ?_⟩
  have hlt : j < W.heap.size := (Array.getElem?_eq_some_iff.1 ho).1
  have hjB : j ≠ B := by
    rintro rfl
    rcases hd with hd | ⟨cs, fz, rfl⟩
    · omega
    · have := ho.symm.trans hv
      simp at this
  have hjv : some j ≠ v.ownBlock := by
    rcases hrow.2 with ⟨rfl, _⟩ | ⟨g, cap, cur, rfl, hbg, hgb, _⟩
    · simp [Value.ownBlock]
    · intro e
      obtain rfl : j = g := by simpa [Value.ownBlock] using e
      rcases hd with hd | ⟨cs, fz, rfl⟩
      · omega
      · have := ho.symm.trans hgb
        simp at this
  rw [heap_setCell_other w1 _ j v' hjB]
  exact (hg.block j (by rw [World.size_alloc]; omega) hjv).trans ((Below.heap_alloc _ _ _ hlt).trans ho)
theorem KY.map {n₀ m : Nat} {W w1 : World} (hg : W.grownBy w1 (some m)) (hm : ∀ o, W.heap[m]? = some o → o.isCells = false) : KY n₀ W w1 := by
  refine ⟨hg.size, fun j o ho hc _ => ?_⟩
  exact (hg.block j (Array.getElem?_eq_some_iff.1 ho).1 (fun e => by obtain rfl := Option.some.inj e; rw [hm o ho] at hc; cases hc)).trans ho
set_option maxHeartbeats 2000000 in
set_option maxRecDepth 100000 in
theorem variables_any (xl : List Xt) (N n₀ be bp : Nat) (w : World) (hn₀ : n₀ ≤ w.heap.size) (hN : N ≤ 100000) (hnm : ∀ y ∈ xl, y.nm.size ≤ maxLen)
    (hst : SeqStopsK Fence.wide 2 Tryz.prog 62 #[.pointer (some ⟨be, 0, none⟩), .pointer (some ⟨bp, 0, none⟩)] (fun y : {y : Xt // y ∈ xl} => #[xV y.1]) (KY n₀) (fun ys => ys.map (·.1) = xl) (fun pre => pre.map (·.1) <+: xl) N w) :
    Calls Tryz.prog 45 #[.func (.func 62) #[] #[.pointer (some ⟨be, 0, none⟩), .pointer (some ⟨bp, 0, none⟩)]] w (NewN (xl.foldl stepN []) w) := by
  have hmm := @run_makeMap Tryz.prog
  obtain ⟨i0, hi, iz, is, ib⟩ := info_parts stInfo
  refine (callsIn_wide (n := 3)).1 ?_
  refine callsIn_of_wp_marks Tryz.func45 rfl trivial ?_ rfl
  simp only [Tryz.ntmps45, List.size_toArray, List.length_cons, List.length_nil, Nat.reduceAdd, Nat.reduceSub, Array.replicate_succ, Array.replicate_zero, List.push_toArray, List.append_toArray, List.nil_append, List.cons_append]
  gi_wp2
  obtain ⟨Wb, hWb⟩ : ∃ Wb, ((w.alloc (.cells #[.slice none 0 0] 32)).alloc (.map #[] 0)).alloc (.cells #[.map (some (w.heap.size + 1))] 71) = Wb := ⟨_, rfl⟩
  have hzb : Wb.heap.size = w.heap.size + 3 := by rw [← hWb]; simp only [World.size_alloc]
  have hBb : Below w.heap.size w Wb := by rw [← hWb]; exact (((Below.refl _ w).alloc (Nat.le_refl _) _).alloc (by simp) _).alloc (by simp; omega) _
  have hb0 : Boxed Wb w.heap.size 32 (.slice none 0 0) := by rw [← hWb]; exact ((Boxed.new w _ _).alloc _).alloc _
  have hv0 : VI w.heap.size [] Wb := by
    rw [← hWb]
    refine ⟨?_, 0, .map [], Nat.le_refl _, ⟨[], rfl⟩, fun t => rfl, ?_⟩
    · have := Boxed.new ((w.alloc (.cells #[.slice none 0 0] 32)).alloc (.map #[] 0)) 71 (.map (some (w.heap.size + 1)))
      simpa only [World.size_alloc] using this
    · have := World.ownsMap_made (w.alloc (.cells #[.slice none 0 0] 32)) Tryz.prog 9 (plainElem (H := Unit) Tryz.prog 4)
      rw [World.size_alloc] at this
      exact this.alloc _
  rw [hWb]
  clear hWb
  have HNM := Lib.hid hnm
  clear hnm
  refine wpIn_rangeFunc_ownH rfl (by decide) (gf := 62) (lb := #[.pointer (some ⟨be, 0, none⟩), .pointer (some ⟨bp, 0, none⟩)]) rfl trivial (enters_of Tryz.func62 (by kernel_rfl) rfl)
    hst KY_t KY_b (hBb) (fun _ => rfl)
    (fun pre W => (VI w.heap.size (pre.map (·.1)) W ∧ ∃ v, Boxed W w.heap.size 32 v ∧ W.ownsRow w.heap.size 9 1 v (fN (pre.map (·.1))).length (nmC (fN (pre.map (·.1)))) ∧ True) ∧ Below w.heap.size w W)
    (fun _ _ _ => False)
    (OwnFrom.and (OwnFrom.and (VI_own (by omega) _) (Own.from (holdsRow_own w.heap.size w.heap.size 32 9 1 (fun pre : List {y : Xt // y ∈ xl} => (fN (pre.map (·.1))).length) (fun pre => nmC (fN (pre.map (·.1)))) (fun _ _ => True)) _)) (ownFrom_below (Nat.le_refl _) (by omega)))
    (fun _ _ _ _ _ hs _ _ => hs)
    ⟨⟨hv0, _, hb0, World.ownsRow_nil _ _ _ _, trivial⟩, hBb⟩
    (fun y a' W => ∃ Bx, (w.heap.size + 3 ≤ Bx ∧ W.cell? ⟨Bx, 0, none⟩ = some (.int .i64 y.1.k) ∧ W.cell? ⟨Bx, 4, none⟩ = some (.string y.1.nm)) ∧ a' = { tmps := #[.func (.func 62) #[] #[.pointer (some ⟨be, 0, none⟩), .pointer (some ⟨bp, 0, none⟩)], undef, .slice none 0 0, .pointer (some ⟨w.heap.size, 0, none⟩), .pointer (some ⟨w.heap.size + 1 + 1, 0, none⟩), .pointer (some ⟨Bx, 0, none⟩), .map (some (w.heap.size + 1)), .func (.func 62) #[] #[.pointer (some ⟨be, 0, none⟩), .pointer (some ⟨bp, 0, none⟩)], xV y.1, undef, undef, undef, undef, undef, undef, undef, undef, undef, undef, undef, undef, undef, undef, undef, undef, undef, undef, undef], defers := [] })
    (fun y a' s A B row hs hg hr => by
      obtain ⟨Bx, ⟨h1, h2, h3⟩, h4⟩ := hs
      exact ⟨Bx, ⟨h1, cell_kept h2 hg (fun r e => (hr r e).2), cell_kept h3 hg (fun r e => (hr r e).2)⟩, h4⟩) ?assign ?body ?done ?stop
  case assign =>
    rintro l pre y W K ⟨⟨i1, v, i2, i3, _⟩, hB⟩ hK
    rw [fold1]
    simp only [xV] at hK ⊢
    gi_wp2
    obtain ⟨d0, d1, d2, d3, d4, d5⟩ := bx_box W y.1
    have hlt := i1.1.lt
    obtain ⟨k1, n, D, k2, k3, k4, k5⟩ := i1
    exact hK _ _ ((KeepsOthers.alloc _ _).from _) (KY.of_below (bel_box _)) ⟨⟨⟨k1.alloc _, n, D, k2, k3, k4, k5.alloc _⟩, v, i2.alloc _, i3.alloc _, trivial⟩, bel_alloc hB _⟩ ⟨W.heap.size, ⟨by omega, d0, d4⟩, rfl⟩
  case body =>
    rintro l pre y a' W hl ⟨r, hr⟩ ⟨⟨i1, v, i2, i3, _⟩, hB⟩ ⟨Bx, ⟨hBx, d0, d4⟩, rfl⟩ hlt
    have hbk := World.block_lt_of_cell? W _ d0
    have KV := Lib.hid (hasvar_any y.1.k W)
    have hst : stepN (fN (pre.map (·.1))) y.1 = if (hasVar y.1.k && !hasN (fN (pre.map (·.1))) y.1.nm) = true then fN (pre.map (·.1)) ++ [y.1.nm] else fN (pre.map (·.1)) := rfl
    have hmp : (pre ++ [y]).map (·.1) = pre.map (·.1) ++ [y.1] := by rw [List.map_append]; rfl
    cases q1 : hasVar y.1.k
    · rw [q1] at KV hst
      have hs : stepN (fN (pre.map (·.1))) y.1 = fN (pre.map (·.1)) := hst
      gi_wp2_with (refine ⟨trivial, ?_⟩; gi_at_call 51; refine (CallsIn.inRound l (callsIn_wide.2 KV.out)).mono ?_; rintro e W5 ⟨rfl, hb5⟩)
      refine ⟨(KeepsOthers.of_grownBy (below_grown hb5) (fun j o e => by cases e)).from _, KY.of_below hb5, ⟨?_, v, i2.kept (below_grown hb5) (by simp), ?_, trivial⟩, hB.trans (hb5.mono hB.size)⟩
      · rw [hmp]; exact (i1.below hb5).same hs
      · rw [hmp, fN_snoc, hs]; exact own_keep6 i3 hb5
    · rw [q1] at KV hst
      obtain ⟨k1, n, D, k2, k3, k4, k5⟩ := i1
      have hsz := HNM.out y.1 y.2
      have hk := WideMaps.keyOf_string_mk (P := Tryz.prog) (k := 9) Tryz.underlying9 hsz
      have k4y := k4 y.1.nm
      cases q2 : hasN (fN (pre.map (·.1))) y.1.nm
      · rw [q2] at hst k4y
        have hs : stepN (fN (pre.map (·.1))) y.1 = fN (pre.map (·.1)) ++ [y.1.nm] := hst
        have hn : n < maxLen := by unfold maxLen; simp at k2; omega
        have hfl := fN_length (pre.map (·.1))
        rw [List.length_map] at hfl
        have hBs := hB.size
        gi_wp2_with (first
          | (refine ⟨trivial, ?_⟩; gi_at_call 51; refine (CallsIn.inRound l (callsIn_wide.2 KV.out)).mono ?_; rintro e W5 ⟨rfl, hb5⟩; have k1' := k1.kept (below_grown hb5) (by simp); have k5' := k5.kept (below_grown hb5) (by simp); obtain ⟨c, hrun, hat⟩ := lookup_bool k5' (string_keyed Tryz.underlying9) Tryz.underlying71 Tryz.underlying4 (Tryz.zeroValue4 _) hk; obtain rfl : c = false := (by have := hat.symm.trans k4y; simpa using this); have cs : W5.cell? ⟨w.heap.size + 1 + 1, 0, none⟩ = some (.map (some (w.heap.size + 1))) := k1'.cell; have d4' := (hb5.cell (p := ⟨Bx, 4, none⟩) hbk).trans d4; have hz5 := hb5.size)
          | (gi_at_mapUpdate; refine wpListIn_mapUpdate_own _ rfl _ _ _ 71 rfl 9 4 (string_keyed Tryz.underlying9) Tryz.underlying71 _ (w.heap.size + 1) n _ rfl k5' hn _ _ _ rfl rfl hk _ [] (plainElem_bool Tryz.underlying4 true) ?_; intro w6 k6 hgrow6; have hcm := k5'; obtain ⟨es, ck, hh, _⟩ := hcm; have d5' := cell_kept d4' hgrow6 (fun r e => by cases e; exact ⟨_, hh, rfl⟩); have hv6 := (i2.kept (below_grown hb5) (by simp)).kept hgrow6 (by simp); have hr6 := (own_keep6 i3 hb5).kept hgrow6 (.inr (own_not_map (own_keep6 i3 hb5) hh)); have c6 := hv6.cell; have hz6 := hgrow6.size)
          | (gi_at_builtin; refine wpListIn_append_own _ rfl _ _ 32 rfl w.heap.size 9 i0 (.string ⟨#[]⟩) 1 16 Tryz.underlying32 hi iz is ib rfl (by decide) _ _ _ rfl (hr6.alloc _) ⟨w6.heap.size, 0, none⟩ 1 1 [.string y.1.nm] rfl rfl (cell_one_new _ _ _) (by simp [Value.oneCell']) (by unfold maxLen; omega) (by omega) (by simp; omega) ?_; intro v' w7 hown7 hgrow7 _; obtain ⟨g', cap', rfl⟩ := ownsRow_succ hown7; obtain ⟨hv1, hv2, hr2, hk2, hb2⟩ := hv6.appended (by decide) hr6 (by omega) (Nat.le_refl _) hown7 hgrow7; have hy2 := KY.appended (n₀ := n₀) (v' := .slice (some ⟨g', 0, none⟩) ((fN (pre.map (·.1))).length + 1) cap') hv6 hr6 hn₀ hn₀ hgrow7; have hc1 := hv1.cell; have hf1 := hv1.frozen))
        have hg7 : (w6.alloc (.cells #[.string y.1.nm] 9)).grownBy w7 v.ownBlock := hgrow7
        have k16 := k1'.kept hgrow6 (by simp)
        have k66 := k6
        obtain ⟨es6, ck6, hh6, _⟩ := k66
        refine ⟨(((KeepsOthers.of_grownBy (below_grown hb5) (fun j o e => by cases e)).from _).trans (KeepsFrom.of_grownBy hgrow6 (fun j e => by cases e; omega))).trans (hk2.from _), ((KY.of_below hb5).trans (KY.map hgrow6 (fun o ho => by rw [hh] at ho; cases ho; rfl))).trans hy2, ⟨?_, _, hv2, ?_, trivial⟩, ((hB.trans (hb5.mono hB.size)).grown hgrow6 (by omega) (fun k e => by cases e; omega)).trans hb2⟩
        · rw [hmp]
          refine ⟨((k16.alloc _).kept hg7 (k16.not_row (by decide) hr6)).kept (grownBy_setCell' w7 _ _) (by simp), n + 1, _, by rw [List.length_append, List.length_singleton]; omega, k3.put _ _, fun t => ?_, ((k6.alloc _).kept hg7 (own_not_map hr6 hh6).symm).kept (grownBy_setCell' w7 _ _) (by simp)⟩
          rw [fN_snoc, hs, has_snoc]
          exact seen_put k3 _ t _ (k4 t)
        · rw [hmp, fN_snoc, hs, nmC_snoc, List.length_append]
          exact hr2
      · rw [q2] at hst k4y
        have hs : stepN (fN (pre.map (·.1))) y.1 = fN (pre.map (·.1)) := hst
        gi_wp2_with (refine ⟨trivial, ?_⟩; gi_at_call 51; refine (CallsIn.inRound l (callsIn_wide.2 KV.out)).mono ?_; rintro e W5 ⟨rfl, hb5⟩; have k1' := k1.kept (below_grown hb5) (by simp); have k5' := k5.kept (below_grown hb5) (by simp); obtain ⟨c, hrun, hat⟩ := lookup_bool k5' (string_keyed Tryz.underlying9) Tryz.underlying71 Tryz.underlying4 (Tryz.zeroValue4 _) hk; obtain rfl : c = true := (by have := hat.symm.trans k4y; simpa using this); have cs : W5.cell? ⟨w.heap.size + 1 + 1, 0, none⟩ = some (.map (some (w.heap.size + 1))) := k1'.cell; have d4' := (hb5.cell (p := ⟨Bx, 4, none⟩) hbk).trans d4)
        refine ⟨(KeepsOthers.of_grownBy (below_grown hb5) (fun j o e => by cases e)).from _, KY.of_below hb5, ⟨?_, v, i2.kept (below_grown hb5) (by simp), ?_, trivial⟩, hB.trans (hb5.mono hB.size)⟩
        · rw [hmp]; exact VI.same ⟨k1', n, D, k2, k3, k4, k5'⟩ hs
        · rw [hmp, fN_snoc, hs]; exact own_keep6 i3 hb5
  case done =>
    rintro D ys W hD hys ⟨⟨i1, v, i2, i3, _⟩, hB⟩ hK
    have hf : fN (ys.map (·.1)) = xl.foldl stepN [] := congrArg fN hys
    rw [hf] at i3
    obtain ⟨V, c, rfl⟩ := own_form6 i3
    have c0 := i2.cell
    gi_wp2
    refine ⟨by simp, .inl ⟨_, _, rfl, run_takeDeferred hK, ?_⟩⟩
    refine ⟨_, results_tmp rfl _ _ _, V, c, rfl, RdN.of_own (ownsRow_putObj i3 _ hK rfl), hB.trans (belowK_b (w := w) (Nat.le_refl _) W D _ _ (by omega) hK rfl rfl)⟩
  case stop =>
    rintro D c pre W _ _ h _
    exact h.elim
end Go.Proofs.YtfogkcccjemloaaGreatDoor
/- Names and Instant of the program. -/
namespace Go.Proofs.YtfogkcccjemloaaGreatDoor
set_option linter.unusedVariables false
set_option linter.unusedSimpArgs false
open Go.RowKit Go.Shelf Go.Maps
theorem RdX.nms {w : World} {B : Nat} {x : Xt} (h : RdX w B x) (b : Bool) : ∀ y ∈ x.lst b, y.nm.size ≤ maxLen := by
  induction x using Xt.ind with
  | h x ih =>
    intro y hy
    rw [Xt.lst_eq] at hy
    rcases List.mem_cons.1 hy with rfl | hy
    · exact h.len.2
    · obtain ⟨l, hl, hyl⟩ := List.mem_flatten.1 hy
      obtain ⟨z, hz, rfl⟩ := List.mem_map.1 hl
      exact ih z (kids_mem hz) (h.kid (kids_mem hz)) y hyl
theorem variables_names (x : Xt) (w : World) (hX : RdX w w.heap.size x) (hs : x.size ≤ 100000) : Calls Tryz.prog 45 #[.func (.func 62) #[] #[.pointer (some ⟨w.heap.size, 0, none⟩), .pointer (some ⟨w.heap.size + 1, 0, none⟩)]] (inW w x 41) (NewN (nmS false x []) (inW w x 41)) := by
  have h := variables_any x.list x.size w.heap.size w.heap.size (w.heap.size + 1) (inW w x 41) (by rw [inW_size]; omega) hs (fun y hy => hX.nms false y (by rw [lst_false]; exact hy)) (withinY_atP (fun y => y ∈ x.list) 2 w.heap.size x w (fun y h => h) (Nat.le_refl _) hX)
  rwa [← lst_false] at h
theorem variables_instant (x : Xt) (w : World) (hX : RdX w w.heap.size x) (hs : x.size ≤ 100000) : Calls Tryz.prog 45 #[.func (.func 62) #[] #[.pointer (some ⟨w.heap.size, 0, none⟩), .pointer (some ⟨w.heap.size + 1, 0, none⟩)]] (inW w x 46) (NewN (nmS true x []) (inW w x 46)) :=
  variables_any (x.lst true) (x.lst true).length w.heap.size w.heap.size (w.heap.size + 1) (inW w x 46) (by rw [inW_size]; omega) (Nat.le_trans (lst_len x) hs) (hX.nms true) (withinYI_atP (fun y => y ∈ x.lst true) 2 w.heap.size x w (fun y h => h) (Nat.le_refl _) hX)
end Go.Proofs.YtfogkcccjemloaaGreatDoor
/- Names and Instant of the program. -/
namespace Go.Proofs.YtfogkcccjemloaaGreatDoor
set_option linter.unusedVariables false
set_option linter.unusedSimpArgs false
open Go.RowKit Go.Shelf Go.Maps
set_option maxHeartbeats 1000000 in
set_option maxRecDepth 20000 in
theorem names_any (x : Xt) (w : World) (hX : RdX w w.heap.size x) (hs : x.size ≤ 100000) : Calls Tryz.prog 22 #[xV x] w (NewN (nmS false x []) w) := by
  have KW := Lib.hid (fun W => within_any x 41 W)
  obtain ⟨W1, hW1⟩ : ∃ W1, bxW w x = W1 := ⟨_, rfl⟩
  have hb1 : Below w.heap.size w W1 := by rw [← hW1]; exact bel_box _
  obtain ⟨W0, hW0⟩ : ∃ W0, inW W1 x 41 = W0 := ⟨_, rfl⟩
  have hz : W1.heap.size = w.heap.size + 1 := by rw [← hW1, bxW_size]
  have hb0 : Below w.heap.size w W0 := by rw [← hW0]; exact hb1.trans ((inW_below W1 x _).mono (by rw [hz]; omega))
  have KV := variables_names x W1 (hX.to hb1) hs
  rw [hW0, hz] at KV
  have KV2 := Lib.hid KV
  have HW1 := Lib.hid hW1
  have HW0 := Lib.hid hW0
  clear KV hW1 hW0 hz
  simp only [xV] at KW ⊢
  go_enter Tryz.func22, Tryz.ntmps22
  go_wp2_with (go_at_call 40; (with_reducible refine (KW.out _).mono ?_); rintro e w1 ⟨rfl, rfl⟩)
  rw [show ((bxW (w.alloc (.cells #[.int .i64 x.k, .int .i64 x.op, .int .i64 x.t, .int .i64 x.v, .string x.nm, .slice x.A x.ar.length x.c] 24)) x).alloc (.cells #[.func (.func 41) #[] #[]] 42)) = W0 by rw [← HW0.out, ← HW1.out]]
  clear HW0 HW1 KW
  go_wp2_with (go_at_call 45; (with_reducible refine KV2.out.mono ?_); rintro e w2 ⟨A, c, rfl, hR, hb2⟩)
  go_ret
  exact ⟨A, c, rfl, hR, hb0.trans (hb2.mono hb0.size)⟩
set_option maxHeartbeats 1000000 in
set_option maxRecDepth 20000 in
theorem instants_any (x : Xt) (w : World) (hX : RdX w w.heap.size x) (hs : x.size ≤ 100000) : Calls Tryz.prog 23 #[xV x] w (NewN (nmS true x []) w) := by
  have KW := Lib.hid (fun W => within_any x 46 W)
  obtain ⟨W1, hW1⟩ : ∃ W1, bxW w x = W1 := ⟨_, rfl⟩
  have hb1 : Below w.heap.size w W1 := by rw [← hW1]; exact bel_box _
  obtain ⟨W0, hW0⟩ : ∃ W0, inW W1 x 46 = W0 := ⟨_, rfl⟩
  have hz : W1.heap.size = w.heap.size + 1 := by rw [← hW1, bxW_size]
  have hb0 : Below w.heap.size w W0 := by rw [← hW0]; exact hb1.trans ((inW_below W1 x _).mono (by rw [hz]; omega))
  have KV := variables_instant x W1 (hX.to hb1) hs
  rw [hW0, hz] at KV
  have KV2 := Lib.hid KV
  have HW1 := Lib.hid hW1
  have HW0 := Lib.hid hW0
  clear KV hW1 hW0 hz
  simp only [xV] at KW ⊢
  go_enter Tryz.func23, Tryz.ntmps23
  go_wp2_with (go_at_call 40; (with_reducible refine (KW.out _).mono ?_); rintro e w1 ⟨rfl, rfl⟩)
  rw [show ((bxW (w.alloc (.cells #[.int .i64 x.k, .int .i64 x.op, .int .i64 x.t, .int .i64 x.v, .string x.nm, .slice x.A x.ar.length x.c] 24)) x).alloc (.cells #[.func (.func 46) #[] #[]] 42)) = W0 by rw [← HW0.out, ← HW1.out]]
  clear HW0 HW1 KW
  go_wp2_with (go_at_call 45; (with_reducible refine KV2.out.mono ?_); rintro e w2 ⟨A, c, rfl, hR, hb2⟩)
  go_ret
  exact ⟨A, c, rfl, hR, hb0.trans (hb2.mono hb0.size)⟩
end Go.Proofs.YtfogkcccjemloaaGreatDoor
/- lives. -/
namespace Go.Proofs.YtfogkcccjemloaaGreatDoor
set_option linter.unusedVariables false
set_option linter.unusedSimpArgs false
open Go.RowKit
theorem leaf_list (k op t v : Int) (nm : ByteArray) : (Xt.mk k op t v nm none 0 []).list = [.mk k op t v nm none 0 []] := by rw [Xt.list_eq]; rfl
theorem leaf_size (k op t v : Int) (nm : ByteArray) : (Xt.mk k op t v nm none 0 []).size = 1 := by rw [Xt.size_eq]; rfl
theorem leaf_depth (k op t v : Int) (nm : ByteArray) : (Xt.mk k op t v nm none 0 []).depth = 1 := by rw [Xt.depth_eq]; rfl
theorem leaf_lst (k op t v : Int) (nm : ByteArray) (b : Bool) : (Xt.mk k op t v nm none 0 []).lst b = [.mk k op t v nm none 0 []] := by
  rw [Xt.lst_eq]
  cases hk : kidsI b (Xt.mk k op t v nm none 0 []) with
  | nil => rfl
  | cons y r => have := kids_mem (b := b) (x := Xt.mk k op t v nm none 0 []) (y := y) (by rw [hk]; simp); cases this
theorem fby_list (b : Nat) : (fbyX b).list = [fbyX b, k0, vX] := by
  rw [Xt.list_eq]
  show _ :: ([k0, vX].map Xt.list).flatten = _
  simp only [List.map_cons, List.map_nil, k0, vX, leaf_list]
  rfl
theorem ex_list (b : Nat) : (exX b).list = [exX b, vC, vX, fbyX b, k0, vX] := by
  rw [Xt.list_eq]
  show _ :: ([vC, vX, fbyX b].map Xt.list).flatten = _
  simp only [List.map_cons, List.map_nil, fby_list]
  simp only [vC, vX, leaf_list]
  rfl
theorem ex_size (b : Nat) : (exX b).size = 6 := by
  rw [← list_length, ex_list]; rfl
theorem fby_size (b : Nat) : (fbyX b).size = 3 := by
  rw [← list_length, fby_list]; rfl
theorem fby_depth (b : Nat) : (fbyX b).depth = 2 := by
  rw [Xt.depth_eq]
  show 1 + ([k0, vX].map Xt.depth).foldl max 0 = _
  simp only [List.map_cons, List.map_nil, k0, vX, leaf_depth]
  rfl
theorem ex_depth (b : Nat) : (exX b).depth = 3 := by
  rw [Xt.depth_eq]
  show 1 + ([vC, vX, fbyX b].map Xt.depth).foldl max 0 = _
  simp only [List.map_cons, List.map_nil, vC, vX, leaf_depth, fby_depth]
  rfl
theorem ex_count (b : Nat) : ((exX b).list.countP fun y => y.k == 2) = 3 := by rw [ex_list]; rfl
theorem ex_state (b : Nat) : ((exX b).list.any fun y => stK y.k) = true := by rw [ex_list]; rfl
theorem st_c : stepN [] vC = [⟨#[99]⟩] := by
  simp only [stepN, hasN, List.any_nil]
  decide +kernel
theorem st_x : stepN [⟨#[99]⟩] vX = [⟨#[99]⟩, ⟨#[120]⟩] := by
  simp only [stepN, hasN, List.any_cons, List.any_nil, ByteArray.toList_eq]
  decide +kernel
theorem st_x2 : stepN [⟨#[99]⟩, ⟨#[120]⟩] vX = [⟨#[99]⟩, ⟨#[120]⟩] := by
  simp only [stepN, hasN, List.any_cons, List.any_nil, ByteArray.toList_eq]
  decide +kernel
theorem st_no {acc : List ByteArray} {x : Xt} (h : hasVar x.k = false) : stepN acc x = acc := by
  unfold stepN
  rw [h, Bool.false_and, if_neg (by simp)]
theorem ex_names (b : Nat) : nmS false (exX b) [] = [⟨#[99]⟩, ⟨#[120]⟩] := by
  unfold nmS
  rw [lst_false, ex_list]
  simp only [List.foldl_cons, List.foldl_nil]
  rw [st_no (x := exX b) rfl, st_c, st_x, st_no (x := fbyX b) rfl, st_no (x := k0) rfl, st_x2]
theorem fby_inst (b : Nat) : nmS true (fbyX b) [] = [] := by
  unfold nmS
  rw [Xt.lst_eq]
  have : kidsI true (fbyX b) = [k0] := rfl
  rw [this]
  simp only [List.map_cons, List.map_nil, k0, leaf_lst, List.flatten_cons, List.flatten_nil, List.append_nil]
  simp only [List.foldl_cons, List.foldl_nil]
  rw [st_no (x := fbyX b) rfl, st_no rfl]
def vIf : Xt := .mk 2 0 0 0 ⟨#[105, 102]⟩ none 0 []
def ifX (b : Nat) (c : Nat) : Xt := .mk 4 0 0 0 ⟨#[]⟩ (some ⟨b + 1, 0, none⟩) c [vC, vX]
theorem if_list (b c : Nat) : (ifX b c).list = [ifX b c, vC, vX] := by
  rw [Xt.list_eq]
  show _ :: ([vC, vX].map Xt.list).flatten = _
  simp only [List.map_cons, List.map_nil, vC, vX, leaf_list]
  rfl
theorem if_depth (b c : Nat) : (ifX b c).depth = 2 := by
  rw [Xt.depth_eq]
  show 1 + ([vC, vX].map Xt.depth).foldl max 0 = _
  simp only [List.map_cons, List.map_nil, vC, vX, leaf_depth]
  rfl
theorem idP_vC : idP vC.nm = true := by decide +kernel
theorem idP_vX : idP vX.nm = true := by decide +kernel
theorem idP_vIf : idP vIf.nm = false := by decide +kernel
end Go.Proofs.YtfogkcccjemloaaGreatDoor
/- lives: the walk. -/
namespace Go.Proofs.YtfogkcccjemloaaGreatDoor
set_option linter.unusedVariables false
set_option linter.unusedSimpArgs false
open Go.RowKit
def chkF (k op t v : Int) (n : Nat) (nm : ByteArray) (q : Bool) : Int := if 64 < n then 3 else if (formedP k op t v n q && onlyP k op t v (nm.data.toList == [])) = false then 5 else if (hasIdn k && !idP nm) = true then 6 else 0
theorem chk1_F (wok : ByteArray → Bool) (x : Xt) : chk1 wok x = chkF x.k x.op x.t x.v x.ar.length x.nm (wok x.nm) := by
  rw [chk1, chkF, ByteArray.toList_eq]
theorem f_if3 (q : Bool) : chkF 4 0 0 0 3 ⟨#[]⟩ q = 0 := by cases q <;> decide +kernel
theorem f_if2 (q : Bool) : chkF 4 0 0 0 2 ⟨#[]⟩ q = 5 := by cases q <;> decide +kernel
theorem f_fby (q : Bool) : chkF 7 0 0 0 2 ⟨#[]⟩ q = 0 := by cases q <;> decide +kernel
theorem f_c (q : Bool) : chkF 2 0 0 0 0 ⟨#[99]⟩ q = 0 := by cases q <;> decide +kernel
theorem f_x (q : Bool) : chkF 2 0 0 0 0 ⟨#[120]⟩ q = 0 := by cases q <;> decide +kernel
theorem f_k (q : Bool) : chkF 1 0 2 0 0 ⟨#[]⟩ q = 0 := by cases q <;> decide +kernel
theorem f_n (q : Bool) : chkF 2 0 0 0 0 ⟨#[105, 102]⟩ q = 6 := by cases q <;> decide +kernel
theorem chk_ex (wok : ByteArray → Bool) (b : Nat) : chkAll wok (exX b) = 0 := by
  rw [chkAll, if_neg (by rw [ex_size, ex_depth]; omega), ex_list]
  have h1 : chk1 wok (exX b) = 0 := (chk1_F _ _).trans (f_if3 _)
  have h2 : chk1 wok (fbyX b) = 0 := (chk1_F _ _).trans (f_fby _)
  have h3 : chk1 wok vC = 0 := (chk1_F _ _).trans (f_c _)
  have h4 : chk1 wok vX = 0 := (chk1_F _ _).trans (f_x _)
  have h5 : chk1 wok k0 = 0 := (chk1_F _ _).trans (f_k _)
  simp only [firstE, h1, h2, h3, h4, h5, if_pos]
theorem chk_vIf (wok : ByteArray → Bool) : chkAll wok vIf = 6 := by
  rw [chkAll, if_neg (by rw [vIf, leaf_size, leaf_depth]; omega), vIf, leaf_list]
  have h' : chk1 wok (.mk 2 0 0 0 ⟨#[105, 102]⟩ none 0 []) = 6 := (chk1_F _ _).trans (f_n _)
  simp only [firstE, h']
  rfl
theorem chk_if2 (wok : ByteArray → Bool) (b c : Nat) : chkAll wok (ifX b c) = 5 := by
  rw [chkAll, if_neg (by rw [← list_length, if_list, if_depth]; show ¬ (400 < 3 ∨ 32 < 2); omega), if_list]
  have h : chk1 wok (ifX b c) = 5 := (chk1_F _ _).trans (f_if2 _)
  simp only [firstE, h]
  rfl
theorem nmok_of {wok : ByteArray → Bool} {w : World} (hs : Std w) (y : Xt) (hk : y.k ≠ 11) (hn : y.nm.size ≤ 140737488351232) : NmOk wok w y :=
  ⟨fun h => absurd h hk, fun _ => Lib.hid fun W hb => ident_any y.nm W (hs.to hb) hn⟩
theorem rdn_lit (W : World) (x y : ByteArray) (t : TypeId) : RdN (W.alloc (.cells #[.string x, .string y] t)) (W.alloc (.cells #[.string x, .string y] t)).heap.size (some ⟨W.heap.size, 0, none⟩) [x, y] := fun _ => ⟨_, rfl, by rw [World.size_alloc]; exact Nat.lt_succ_self _, fun i z hz => by
  rcases i with _ | _ | i
  · obtain rfl : x = z := Option.some.inj hz
    rw [show (Addr.add ⟨W.heap.size, 0, none⟩ 0) = ⟨W.heap.size, 0, none⟩ from rfl]
    simp [go_sem]
  · obtain rfl : y = z := Option.some.inj hz
    simp [go_sem, Addr.add]
  · cases hz⟩
theorem sameN_refl (l : List ByteArray) : sameN l l = true := by rw [sameN]; exact beq_self_eq_true _
abbrev exL (b : Nat) : Value := .agg #[.int .i64 4, .int .i64 0, .int .i64 0, .int .i64 0, .string ⟨#[]⟩, .slice (some ⟨b + 1, 0, none⟩) 3 3]
abbrev fbL (b : Nat) : Value := .agg #[.int .i64 7, .int .i64 0, .int .i64 0, .int .i64 0, .string ⟨#[]⟩, .slice (some ⟨b, 0, none⟩) 2 2]
set_option maxHeartbeats 2000000 in
set_option maxRecDepth 20000 in
theorem lives_any (w : World) (hs : Std w) : Calls Tryz.prog 11 #[] w (Bel (.bool true) w) := by
  have KE : Hid (∀ W, Calls Tryz.prog 38 #[] W (fun e w' => e = .returned (exL (W.heap.size + 3)) ∧ RdX w' w'.heap.size (exX (W.heap.size + 3)) ∧ Below W.heap.size W w' ∧ w'.heap.size = W.heap.size + 5)) := Lib.hid fun W => example_any W
  have HS := Lib.hid hs
  clear hs
  go_enter Tryz.func11, Tryz.ntmps11
  go_wp2_with (go_at_call 38; refine (KE.out _).mono ?_; rintro e w1 ⟨rfl, hR, hb1, hz1⟩)
  obtain ⟨b, hb⟩ : ∃ b, w.heap.size + 3 = b := ⟨_, rfl⟩
  have hs1 := HS.out.to hb1
  rw [hb] at hR ⊢
  have hz2 : w1.heap.size = b + 2 := by omega
  have hbb : w.heap.size + 5 = b + 2 := by omega
  rw [hbb]
  obtain ⟨W1, hW1⟩ : ∃ W1, w1.alloc (.cells #[.int .i64 4, .int .i64 0, .int .i64 0, .int .i64 0, .string ⟨#[]⟩, .slice (some ⟨b + 1, 0, none⟩) 3 3] 24) = W1 := ⟨_, rfl⟩
  have hW : Below w1.heap.size w1 W1 := by rw [← hW1]; exact bel_box _
  have BX : Hid (∀ W, Below W1.heap.size W1 W → W.cell? ⟨b + 2, 0, none⟩ = some (.int .i64 4) ∧ W.cell? ⟨b + 2, 1, none⟩ = some (.int .i64 0) ∧ W.cell? ⟨b + 2, 2, none⟩ = some (.int .i64 0) ∧ W.cell? ⟨b + 2, 3, none⟩ = some (.int .i64 0) ∧ W.cell? ⟨b + 2, 4, none⟩ = some (.string ⟨#[]⟩) ∧ W.cell? ⟨b + 2, 5, none⟩ = some (.slice (some ⟨b + 1, 0, none⟩) 3 3)) := Lib.hid fun W h => by
    rw [← hW1] at h
    have := bxW_cells (w := w1) (x := exX b) h
    rw [hz2] at this
    exact ⟨this.1, this.2.1, this.2.2.1, this.2.2.2.1, this.2.2.2.2.1, this.2.2.2.2.2.1⟩
  have FX : Hid (∀ W, Below W1.heap.size W1 W → W.cell? ⟨b + 1, 12, none⟩ = some (.int .i64 7) ∧ W.cell? ⟨b + 1, 13, none⟩ = some (.int .i64 0) ∧ W.cell? ⟨b + 1, 14, none⟩ = some (.int .i64 0) ∧ W.cell? ⟨b + 1, 15, none⟩ = some (.int .i64 0) ∧ W.cell? ⟨b + 1, 16, none⟩ = some (.string ⟨#[]⟩) ∧ W.cell? ⟨b + 1, 17, none⟩ = some (.slice (some ⟨b, 0, none⟩) 2 2)) := Lib.hid fun W h => by
    have h2 := hR.to (hW.trans (h.mono hW.size))
    obtain ⟨ad, y, hA, _, hy, _, hc, _⟩ := h2.at_ (i := 2) (show 2 < 3 by decide)
    obtain rfl := Option.some.inj hA
    obtain rfl : fbyX b = y := Option.some.inj hy
    exact hc
  have up : ∀ {W}, Below W1.heap.size W1 W → Below w1.heap.size w1 W := fun h => hW.trans (h.mono hW.size)
  have K1 : Hid (∀ W, Below W1.heap.size W1 W → Calls Tryz.prog 12 #[exL b] W (Bel (.int .i64 0) W)) := Lib.hid fun W h => by
    have := check_any (fun _ => false) (exX b) W (hR.to (up h)) (fun y hy => by
      rw [ex_list] at hy
      refine nmok_of (hs1.to (up h)) y ?_ ?_
      · rcases List.mem_cons.1 hy with rfl | hy
        · show (4 : Int) ≠ 11; decide
        · simp only [List.mem_cons, List.not_mem_nil, or_false] at hy
          rcases hy with rfl | rfl | rfl | rfl | rfl <;> first | decide | (show (7 : Int) ≠ 11; decide) | exact Nat.zero_le _
      · rcases List.mem_cons.1 hy with rfl | hy
        · exact Nat.zero_le _
        · simp only [List.mem_cons, List.not_mem_nil, or_false] at hy
          rcases hy with rfl | rfl | rfl | rfl | rfl <;> first | decide | (show (7 : Int) ≠ 11; decide) | exact Nat.zero_le _)
    rwa [chk_ex] at this
  have K2 : Hid (∀ W, Below W1.heap.size W1 W → Calls Tryz.prog 14 #[exL b] W (Bel (.int .i64 6) W)) := Lib.hid fun W h => by
    have := size_any (exX b) W (hR.to (up h)) (by rw [ex_size]; omega)
    rwa [ex_size] at this
  have K3 : Hid (∀ W, Below W1.heap.size W1 W → Calls Tryz.prog 16 #[exL b] W (Bel (.int .i64 3) W)) := Lib.hid fun W h => by
    have := depth_any (exX b) W (hR.to (up h)) (by rw [ex_size]; omega)
    rwa [ex_depth] at this
  have K4 : Hid (∀ W, Below W1.heap.size W1 W → Calls Tryz.prog 18 #[exL b, .int .i64 2] W (Bel (.int .i64 3) W)) := Lib.hid fun W h => by
    have := count_any (exX b) 2 W (hR.to (up h)) (by rw [ex_size]; omega)
    rwa [ex_count] at this
  have K5 : Hid (∀ W, Below W1.heap.size W1 W → Calls Tryz.prog 22 #[exL b] W (NewN [⟨#[99]⟩, ⟨#[120]⟩] W)) := Lib.hid fun W h => by
    have := names_any (exX b) W (hR.to (up h)) (by rw [ex_size]; omega)
    rwa [ex_names] at this
  have K6 : Hid (∀ W, Below W1.heap.size W1 W → Calls Tryz.prog 23 #[fbL b] W (NewN [] W)) := Lib.hid fun W h => by
    have hk := (hR.to (up h)).kid (y := fbyX b) (by show fbyX b ∈ [vC, vX, fbyX b]; simp)
    have := instants_any (fbyX b) W hk (by rw [fby_size]; omega)
    rwa [fby_inst] at this
  have K7 : Hid (∀ W, Below W1.heap.size W1 W → Calls Tryz.prog 20 #[exL b] W (Bel (.bool false) W)) := Lib.hid fun W h => by
    have := stateless_any (exX b) W (hR.to (up h)) (by rw [ex_size]; omega)
    rwa [ex_state] at this
  have K8 : Hid (∀ W, Below W1.heap.size W1 W → Calls Tryz.prog 12 #[.agg #[.int .i64 2, .int .i64 0, .int .i64 0, .int .i64 0, .string ⟨#[105, 102]⟩, .slice none 0 0]] W (Bel (.int .i64 6) W)) := Lib.hid fun W h => by
    have := check_any (fun _ => false) vIf W (RdX.leaf _ _ _ _ _ (by show 2 ≤ maxLen; unfold maxLen; omega)) (fun y hy => by
      rw [vIf, leaf_list] at hy
      obtain rfl := List.mem_singleton.1 hy
      exact nmok_of (hs1.to (up h)) _ (by decide) (by decide))
    rwa [chk_vIf] at this
  have K9 : Hid (∀ W, Below W1.heap.size W1 W → Calls Tryz.prog 12 #[.agg #[.int .i64 4, .int .i64 0, .int .i64 0, .int .i64 0, .string ⟨#[]⟩, .slice (some ⟨b + 1, 0, none⟩) 2 3]] W (Bel (.int .i64 5) W)) := Lib.hid fun W h => by
    have hX : RdX W W.heap.size (ifX b 3) := by
      have h2 := hR.to (up h)
      cases h2 with
      | mk x h0 h1 h2 h3 =>
        refine .mk _ (fun _ => h0 (List.cons_ne_nil _ _)) (fun ad i y hA hy => ?_) (fun y hy => h2 y ?_) ⟨⟨by show 2 ≤ maxLen; unfold maxLen; omega, nm0⟩, by show 2 ≤ 3; decide⟩
        · refine h1 ad i y hA ?_
          rcases i with _ | _ | i
          · exact hy
          · exact hy
          · cases hy
        · rcases List.mem_cons.1 (show y ∈ [vC, vX] from hy) with rfl | hy
          · show vC ∈ [vC, vX, fbyX b]; simp
          · obtain rfl := List.mem_singleton.1 hy
            show vX ∈ [vC, vX, fbyX b]; simp
    have := check_any (fun _ => false) (ifX b 3) W hX (fun y hy => by
      rw [if_list] at hy
      refine nmok_of (hs1.to (up h)) y ?_ ?_
      · rcases List.mem_cons.1 hy with rfl | hy
        · show (4 : Int) ≠ 11; decide
        · simp only [List.mem_cons, List.not_mem_nil, or_false] at hy
          rcases hy with rfl | rfl <;> decide
      · rcases List.mem_cons.1 hy with rfl | hy
        · exact Nat.zero_le _
        · simp only [List.mem_cons, List.not_mem_nil, or_false] at hy
          rcases hy with rfl | rfl <;> decide)
    rwa [chk_if2] at this
  have S1 : Hid (∀ (A A' : Option Addr) (c : Nat) W, RdN W W.heap.size A [⟨#[99]⟩, ⟨#[120]⟩] → RdN W W.heap.size A' [⟨#[99]⟩, ⟨#[120]⟩] → Calls Tryz.prog 25 #[.slice A 2 c, .slice A' 2 2] W (Bel (.bool true) W)) := Lib.hid fun A A' c W h h' => by
    have := rsame_any A A' c 2 [⟨#[99]⟩, ⟨#[120]⟩] [⟨#[99]⟩, ⟨#[120]⟩] W h h' (by decide) (by decide)
    rwa [sameN_refl] at this
  have S2 : Hid (∀ (A : Option Addr) (c : Nat) W, Calls Tryz.prog 25 #[.slice A 0 c, .slice none 0 0] W (Bel (.bool true) W)) := Lib.hid fun A c W =>
    rsame_any A none c 0 [] [] W (fun h => absurd rfl h) (fun h => absurd rfl h) (by decide) (by decide)
  have HB : Hid (Below w.heap.size w W1) := Lib.hid (hb1.trans (hW.mono hb1.size))
  obtain ⟨a0, a1, a2, a3, a4, a5⟩ := BX.out W1 (Below.refl _ _)
  have HW1 := Lib.hid hW1
  rw [hW1]
  clear hW1 hW up hR hb1 hz1 hz2 hbb hs1 hb KE HS
  go_wp2_with (first
    | (go_at_call 12; (with_reducible refine (K1.out _ ?_).mono ?_); (focus ((repeat (first | (with_reducible exact Below.refl _ _) | (with_reducible assumption) | (with_reducible exact bel_box _) | (with_reducible refine bel_step ?_ (by with_reducible assumption)) | (with_reducible refine Below.drew ?_) | (with_reducible refine below_drewN ?_ _) | (with_reducible refine bel_alloc ?_ _))); done)); rintro e w2 ⟨rfl, hb2⟩; obtain ⟨a0, a1, a2, a3, a4, a5⟩ := BX.out w2 (by repeat (first | (with_reducible exact Below.refl _ _) | (with_reducible assumption) | (with_reducible exact bel_box _) | (with_reducible refine bel_step ?_ (by with_reducible assumption)) | (with_reducible refine Below.drew ?_) | (with_reducible refine below_drewN ?_ _) | (with_reducible refine bel_alloc ?_ _))))
    | (go_at_call 14; (with_reducible refine (K2.out _ ?_).mono ?_); (focus ((repeat (first | (with_reducible exact Below.refl _ _) | (with_reducible assumption) | (with_reducible exact bel_box _) | (with_reducible refine bel_step ?_ (by with_reducible assumption)) | (with_reducible refine Below.drew ?_) | (with_reducible refine below_drewN ?_ _) | (with_reducible refine bel_alloc ?_ _))); done)); rintro e w3 ⟨rfl, hb3⟩; obtain ⟨a0, a1, a2, a3, a4, a5⟩ := BX.out w3 (by repeat (first | (with_reducible exact Below.refl _ _) | (with_reducible assumption) | (with_reducible exact bel_box _) | (with_reducible refine bel_step ?_ (by with_reducible assumption)) | (with_reducible refine Below.drew ?_) | (with_reducible refine below_drewN ?_ _) | (with_reducible refine bel_alloc ?_ _))))
    | (go_at_call 16; (with_reducible refine (K3.out _ ?_).mono ?_); (focus ((repeat (first | (with_reducible exact Below.refl _ _) | (with_reducible assumption) | (with_reducible exact bel_box _) | (with_reducible refine bel_step ?_ (by with_reducible assumption)) | (with_reducible refine Below.drew ?_) | (with_reducible refine below_drewN ?_ _) | (with_reducible refine bel_alloc ?_ _))); done)); rintro e w4 ⟨rfl, hb4⟩; obtain ⟨a0, a1, a2, a3, a4, a5⟩ := BX.out w4 (by repeat (first | (with_reducible exact Below.refl _ _) | (with_reducible assumption) | (with_reducible exact bel_box _) | (with_reducible refine bel_step ?_ (by with_reducible assumption)) | (with_reducible refine Below.drew ?_) | (with_reducible refine below_drewN ?_ _) | (with_reducible refine bel_alloc ?_ _))))
    | (go_at_call 18; (with_reducible refine (K4.out _ ?_).mono ?_); (focus ((repeat (first | (with_reducible exact Below.refl _ _) | (with_reducible assumption) | (with_reducible exact bel_box _) | (with_reducible refine bel_step ?_ (by with_reducible assumption)) | (with_reducible refine Below.drew ?_) | (with_reducible refine below_drewN ?_ _) | (with_reducible refine bel_alloc ?_ _))); done)); rintro e w5 ⟨rfl, hb5⟩; obtain ⟨a0, a1, a2, a3, a4, a5⟩ := BX.out w5 (by repeat (first | (with_reducible exact Below.refl _ _) | (with_reducible assumption) | (with_reducible exact bel_box _) | (with_reducible refine bel_step ?_ (by with_reducible assumption)) | (with_reducible refine Below.drew ?_) | (with_reducible refine below_drewN ?_ _) | (with_reducible refine bel_alloc ?_ _))))
    | (go_at_call 22; (with_reducible refine (K5.out _ ?_).mono ?_); (focus ((repeat (first | (with_reducible exact Below.refl _ _) | (with_reducible assumption) | (with_reducible exact bel_box _) | (with_reducible refine bel_step ?_ (by with_reducible assumption)) | (with_reducible refine Below.drew ?_) | (with_reducible refine below_drewN ?_ _) | (with_reducible refine bel_alloc ?_ _))); done)); rintro e w6 ⟨A6, c6, rfl, hR6, hb6⟩; obtain ⟨a0, a1, a2, a3, a4, a5⟩ := BX.out w6 (by repeat (first | (with_reducible exact Below.refl _ _) | (with_reducible assumption) | (with_reducible exact bel_box _) | (with_reducible refine bel_step ?_ (by with_reducible assumption)) | (with_reducible refine Below.drew ?_) | (with_reducible refine below_drewN ?_ _) | (with_reducible refine bel_alloc ?_ _))))
    | (go_at_call 25; (with_reducible refine (S1.out _ _ _ _ ?_ ?_).mono ?_); (focus (exact hR6.to (by repeat (first | (with_reducible exact Below.refl _ _) | (with_reducible assumption) | (with_reducible exact bel_box _) | (with_reducible refine bel_step ?_ (by with_reducible assumption)) | (with_reducible refine Below.drew ?_) | (with_reducible refine below_drewN ?_ _) | (with_reducible refine bel_alloc ?_ _))); done)); (focus (exact rdn_lit _ _ _ _; done)); rintro e w7 ⟨rfl, hb7⟩; obtain ⟨a0, a1, a2, a3, a4, a5⟩ := BX.out w7 (by repeat (first | (with_reducible exact Below.refl _ _) | (with_reducible assumption) | (with_reducible exact bel_box _) | (with_reducible refine bel_step ?_ (by with_reducible assumption)) | (with_reducible refine Below.drew ?_) | (with_reducible refine below_drewN ?_ _) | (with_reducible refine bel_alloc ?_ _))); obtain ⟨d0, d1, d2, d3, d4, d5⟩ := FX.out w7 (by repeat (first | (with_reducible exact Below.refl _ _) | (with_reducible assumption) | (with_reducible exact bel_box _) | (with_reducible refine bel_step ?_ (by with_reducible assumption)) | (with_reducible refine Below.drew ?_) | (with_reducible refine below_drewN ?_ _) | (with_reducible refine bel_alloc ?_ _))))
    | (go_at_call 23; (with_reducible refine (K6.out _ ?_).mono ?_); (focus ((repeat (first | (with_reducible exact Below.refl _ _) | (with_reducible assumption) | (with_reducible exact bel_box _) | (with_reducible refine bel_step ?_ (by with_reducible assumption)) | (with_reducible refine Below.drew ?_) | (with_reducible refine below_drewN ?_ _) | (with_reducible refine bel_alloc ?_ _))); done)); rintro e w8 ⟨A8, c8, rfl, hR8, hb8⟩; obtain ⟨a0, a1, a2, a3, a4, a5⟩ := BX.out w8 (by repeat (first | (with_reducible exact Below.refl _ _) | (with_reducible assumption) | (with_reducible exact bel_box _) | (with_reducible refine bel_step ?_ (by with_reducible assumption)) | (with_reducible refine Below.drew ?_) | (with_reducible refine below_drewN ?_ _) | (with_reducible refine bel_alloc ?_ _))))
    | (go_at_call 25; (with_reducible refine (S2.out _ _ _).mono ?_); rintro e w9 ⟨rfl, hb9⟩; obtain ⟨a0, a1, a2, a3, a4, a5⟩ := BX.out w9 (by repeat (first | (with_reducible exact Below.refl _ _) | (with_reducible assumption) | (with_reducible exact bel_box _) | (with_reducible refine bel_step ?_ (by with_reducible assumption)) | (with_reducible refine Below.drew ?_) | (with_reducible refine below_drewN ?_ _) | (with_reducible refine bel_alloc ?_ _))))
    | (go_at_call 20; (with_reducible refine (K7.out _ ?_).mono ?_); (focus ((repeat (first | (with_reducible exact Below.refl _ _) | (with_reducible assumption) | (with_reducible exact bel_box _) | (with_reducible refine bel_step ?_ (by with_reducible assumption)) | (with_reducible refine Below.drew ?_) | (with_reducible refine below_drewN ?_ _) | (with_reducible refine bel_alloc ?_ _))); done)); rintro e w10 ⟨rfl, hb10⟩; obtain ⟨a0, a1, a2, a3, a4, a5⟩ := BX.out w10 (by repeat (first | (with_reducible exact Below.refl _ _) | (with_reducible assumption) | (with_reducible exact bel_box _) | (with_reducible refine bel_step ?_ (by with_reducible assumption)) | (with_reducible refine Below.drew ?_) | (with_reducible refine below_drewN ?_ _) | (with_reducible refine bel_alloc ?_ _))))
    | (go_at_call 12; (with_reducible refine (K8.out _ ?_).mono ?_); (focus ((repeat (first | (with_reducible exact Below.refl _ _) | (with_reducible assumption) | (with_reducible exact bel_box _) | (with_reducible refine bel_step ?_ (by with_reducible assumption)) | (with_reducible refine Below.drew ?_) | (with_reducible refine below_drewN ?_ _) | (with_reducible refine bel_alloc ?_ _))); done)); rintro e w11 ⟨rfl, hb11⟩; obtain ⟨a0, a1, a2, a3, a4, a5⟩ := BX.out w11 (by repeat (first | (with_reducible exact Below.refl _ _) | (with_reducible assumption) | (with_reducible exact bel_box _) | (with_reducible refine bel_step ?_ (by with_reducible assumption)) | (with_reducible refine Below.drew ?_) | (with_reducible refine below_drewN ?_ _) | (with_reducible refine bel_alloc ?_ _))))
    | (go_at_call 12; (with_reducible refine (K9.out _ ?_).mono ?_); (focus ((repeat (first | (with_reducible exact Below.refl _ _) | (with_reducible assumption) | (with_reducible exact bel_box _) | (with_reducible refine bel_step ?_ (by with_reducible assumption)) | (with_reducible refine Below.drew ?_) | (with_reducible refine below_drewN ?_ _) | (with_reducible refine bel_alloc ?_ _))); done)); rintro e w12 ⟨rfl, hb12⟩))
  go_ret
  exact ⟨rfl, HB.out.trans (Below.mono (by repeat (first | (with_reducible exact Below.refl _ _) | (with_reducible assumption) | (with_reducible exact bel_box _) | (with_reducible refine bel_step ?_ (by with_reducible assumption)) | (with_reducible refine Below.drew ?_) | (with_reducible refine below_drewN ?_ _) | (with_reducible refine bel_alloc ?_ _))) HB.out.size)⟩
end Go.Proofs.YtfogkcccjemloaaGreatDoor
/- heavy; the walk of ExprCounts. -/
namespace Go.Proofs.YtfogkcccjemloaaGreatDoor
set_option linter.unusedVariables false
set_option linter.unusedSimpArgs false
open Go.RowKit Go.Sort
set_option maxHeartbeats 1000000 in
set_option maxRecDepth 20000 in
theorem heavy_any (x : Xt) (w : World) (hX : RdX w w.heap.size x) : Calls Tryz.prog 10 #[xV x] w (Bel (.bool (decide (500 < x.size))) w) := by
  obtain ⟨m, hm⟩ : ∃ m, min x.size 501 = m := ⟨_, rfl⟩
  have KW : Hid (∀ W, Below w.heap.size w W → Calls Tryz.prog 37 #[xV x, .int .i64 501] W (Bel (.int .i64 (m : Nat)) W)) := Lib.hid fun W h => by
    have := weigh_any x 501 W (hX.to h) (by omega) (by omega)
    rwa [hm] at this
  have hq : decide (500 < x.size) = decide (500 < m) := by rw [← hm, decide_eq_decide]; omega
  rw [hq]
  clear hq hm hX
  simp only [xV] at KW ⊢
  by_cases h : 500 < m
  · rw [decide_eq_true h]
    have u : (500 : Int) < (m : Int) := by omega
    go_enter Tryz.func10, Tryz.ntmps10
    go_wp2_with (go_at_call 37; (with_reducible refine (KW.out _ ?_).mono ?_); (focus ((repeat (first | (with_reducible exact Below.refl _ _) | (with_reducible assumption) | (with_reducible exact bel_box _) | (with_reducible refine bel_step ?_ (by with_reducible assumption)) | (with_reducible refine Below.drew ?_) | (with_reducible refine below_drewN ?_ _) | (with_reducible refine bel_alloc ?_ _))); done)); rintro e w1 ⟨rfl, hb1⟩)
    go_ret
    exact ⟨rfl, (by repeat (first | (with_reducible exact Below.refl _ _) | (with_reducible assumption) | (with_reducible exact bel_box _) | (with_reducible refine bel_step ?_ (by with_reducible assumption)) | (with_reducible refine Below.drew ?_) | (with_reducible refine below_drewN ?_ _) | (with_reducible refine bel_alloc ?_ _)))⟩
  · rw [decide_eq_false h]
    have u : (m : Int) ≤ (500 : Int) := by omega
    go_enter Tryz.func10, Tryz.ntmps10
    go_wp2_with (go_at_call 37; (with_reducible refine (KW.out _ ?_).mono ?_); (focus ((repeat (first | (with_reducible exact Below.refl _ _) | (with_reducible assumption) | (with_reducible exact bel_box _) | (with_reducible refine bel_step ?_ (by with_reducible assumption)) | (with_reducible refine Below.drew ?_) | (with_reducible refine below_drewN ?_ _) | (with_reducible refine bel_alloc ?_ _))); done)); rintro e w1 ⟨rfl, hb1⟩)
    go_ret
    exact ⟨ret_bool (decide_eq_false (by omega)), (by repeat (first | (with_reducible exact Below.refl _ _) | (with_reducible assumption) | (with_reducible exact bel_box _) | (with_reducible refine bel_step ?_ (by with_reducible assumption)) | (with_reducible refine Below.drew ?_) | (with_reducible refine below_drewN ?_ _) | (with_reducible refine bel_alloc ?_ _)))⟩
set_option maxHeartbeats 2000000 in
set_option maxRecDepth 20000 in
theorem counts_any (x : Xt) (kd : Int) (w : World) (hs : Std w) (hX : RdX w w.heap.size x) : Calls Tryz.prog 4 #[xV x, .int .i64 kd] w (Bel (.bool true) w) := by
  have KL : Hid (∀ W, Below w.heap.size w W → Calls Tryz.prog 11 #[] W (Bel (.bool true) W)) := Lib.hid fun W h => lives_any W (hs.to h)
  have KH : Hid (∀ W, Below w.heap.size w W → Calls Tryz.prog 10 #[xV x] W (Bel (.bool (decide (500 < x.size))) W)) := Lib.hid fun W h => heavy_any x W (hX.to h)
  by_cases h5 : 500 < x.size
  · rw [decide_eq_true h5] at KH
    simp only [xV] at KH ⊢
    clear h5 hX hs
    go_enter Tryz.func4, Tryz.ntmps4
    go_wp2_with (first
      | (go_at_call 10; (with_reducible refine (KH.out _ ?_).mono ?_); (focus ((repeat (first | (with_reducible exact Below.refl _ _) | (with_reducible assumption) | (with_reducible exact bel_box _) | (with_reducible refine bel_step ?_ (by with_reducible assumption)) | (with_reducible refine Below.drew ?_) | (with_reducible refine below_drewN ?_ _) | (with_reducible refine bel_alloc ?_ _))); done)); rintro e w1 ⟨rfl, hb1⟩)
      | (go_at_call 11; (with_reducible refine (KL.out _ ?_).mono ?_); (focus ((repeat (first | (with_reducible exact Below.refl _ _) | (with_reducible assumption) | (with_reducible exact bel_box _) | (with_reducible refine bel_step ?_ (by with_reducible assumption)) | (with_reducible refine Below.drew ?_) | (with_reducible refine below_drewN ?_ _) | (with_reducible refine bel_alloc ?_ _))); done)); rintro e w2 ⟨rfl, hb2⟩))
    go_ret
    exact ⟨rfl, (by repeat (first | (with_reducible exact Below.refl _ _) | (with_reducible assumption) | (with_reducible exact bel_box _) | (with_reducible refine bel_step ?_ (by with_reducible assumption)) | (with_reducible refine Below.drew ?_) | (with_reducible refine below_drewN ?_ _) | (with_reducible refine bel_alloc ?_ _)))⟩
  rw [decide_eq_false h5] at KH
  have K1 : Hid (∀ W, Below w.heap.size w W → Calls Tryz.prog 14 #[xV x] W (Bel (.int .i64 (x.size : Nat)) W)) := Lib.hid fun W h => size_any x W (hX.to h) (by omega)
  have K2 : Hid (∀ W, Below w.heap.size w W → Calls Tryz.prog 15 #[xV x] W (Bel (.int .i64 (x.size : Nat)) W)) := Lib.hid fun W h => rsize_any x W (hX.to h) (by omega)
  have K3 : Hid (∀ W, Below w.heap.size w W → Calls Tryz.prog 16 #[xV x] W (Bel (.int .i64 (x.depth : Nat)) W)) := Lib.hid fun W h => depth_any x W (hX.to h) (by omega)
  have K4 : Hid (∀ W, Below w.heap.size w W → Calls Tryz.prog 17 #[xV x] W (Bel (.int .i64 (x.depth : Nat)) W)) := Lib.hid fun W h => rdepth_any x W (hX.to h) (by omega)
  have K5 : Hid (∀ W, Below w.heap.size w W → Calls Tryz.prog 18 #[xV x, .int .i64 kd] W (Bel (.int .i64 ((x.list.countP fun y => y.k == kd) : Nat)) W)) := Lib.hid fun W h => count_any x kd W (hX.to h) (by omega)
  have K6 : Hid (∀ W, Below w.heap.size w W → Calls Tryz.prog 19 #[xV x, .int .i64 kd] W (Bel (.int .i64 ((x.list.countP fun y => y.k == kd) : Nat)) W)) := Lib.hid fun W h => rcount_any x kd W (hX.to h) (by omega)
  have K7 : Hid (∀ W, Below w.heap.size w W → Calls Tryz.prog 20 #[xV x] W (Bel (.bool (!x.list.any fun y => stK y.k)) W)) := Lib.hid fun W h => stateless_any x W (hX.to h) (by omega)
  have K8 : Hid (∀ W, Below w.heap.size w W → Calls Tryz.prog 21 #[xV x] W (Bel (.bool (!x.list.any fun y => stK y.k)) W)) := Lib.hid fun W h => rstateless_any x W (hX.to h) (by omega)
  generalize x.size = n1 at K1 K2
  generalize x.depth = n2 at K3 K4
  generalize (x.list.countP fun y => y.k == kd) = n3 at K5 K6
  generalize (!x.list.any fun y => stK y.k) = n4 at K7 K8
  simp only [xV] at K1 K2 K3 K4 K5 K6 K7 K8 KH ⊢
  clear hX hs
  go_enter Tryz.func4, Tryz.ntmps4
  go_wp2_with (go_at_call 10; (with_reducible refine (KH.out _ ?_).mono ?_); (focus ((repeat (first | (with_reducible exact Below.refl _ _) | (with_reducible assumption) | (with_reducible exact bel_box _) | (with_reducible refine bel_step ?_ (by with_reducible assumption)) | (with_reducible refine Below.drew ?_) | (with_reducible refine below_drewN ?_ _) | (with_reducible refine bel_alloc ?_ _))); done)); rintro e w1 ⟨rfl, hv1⟩)
  obtain ⟨b0, b1, b2, b3, b4, b5, _⟩ := bxW_cells (w := w) (x := x) (W := w1) hv1
  have hB1 := bxW_below (w := w) (x := x) hv1
  have k0 := cell_regrown b0
  have k1 := cell_regrown b1
  have k2 := cell_regrown b2
  have k3 := cell_regrown b3
  have k4 := cell_regrown b4
  have k5 := cell_regrown b5
  have c1 := fun dd os => Calls.regrown_of (K1.out (grow (redrawn w1 dd) os) (hB1.trans ((below_regrown w1 dd os).mono hB1.size)))
  have c2 := fun dd os => Calls.regrown_of (K2.out (grow (redrawn w1 dd) os) (hB1.trans ((below_regrown w1 dd os).mono hB1.size)))
  have c3 := fun dd os => Calls.regrown_of (K3.out (grow (redrawn w1 dd) os) (hB1.trans ((below_regrown w1 dd os).mono hB1.size)))
  have c4 := fun dd os => Calls.regrown_of (K4.out (grow (redrawn w1 dd) os) (hB1.trans ((below_regrown w1 dd os).mono hB1.size)))
  have c5 := fun dd os => Calls.regrown_of (K5.out (grow (redrawn w1 dd) os) (hB1.trans ((below_regrown w1 dd os).mono hB1.size)))
  have c6 := fun dd os => Calls.regrown_of (K6.out (grow (redrawn w1 dd) os) (hB1.trans ((below_regrown w1 dd os).mono hB1.size)))
  have c7 := fun dd os => Calls.regrown_of (K7.out (grow (redrawn w1 dd) os) (hB1.trans ((below_regrown w1 dd os).mono hB1.size)))
  have c8 := fun dd os => Calls.regrown_of (K8.out (grow (redrawn w1 dd) os) (hB1.trans ((below_regrown w1 dd os).mono hB1.size)))
  have c9 := fun dd os => Calls.regrown_of (KL.out (grow (redrawn w1 dd) os) (hB1.trans ((below_regrown w1 dd os).mono hB1.size)))
  refine wp_region_quiet_below (by kernel_rfl) (by kernel_rfl) ?_
  repeat (quiet_step (first | with_reducible exact c1 _ _ | with_reducible exact c2 _ _ | with_reducible exact c3 _ _ | with_reducible exact c4 _ _ | with_reducible exact c5 _ _ | with_reducible exact c6 _ _ | with_reducible exact c7 _ _ | with_reducible exact c8 _ _ | with_reducible exact c9 _ _))
  refine wpQuiet_nil ?_
  intro _ hw'
  obtain ⟨⟨dq, osq⟩, hw''⟩ := hw'
  subst hw''
  have hv2 := hv1.trans ((below_regrown w1 dq osq).mono hv1.size)
  generalize grow (redrawn w1 dq) osq = w2 at hv2 ⊢
  clear b0 b1 b2 b3 b4 b5 k0 k1 k2 k3 k4 k5 c1 c2 c3 c4 c5 c6 c7 c8 c9
  go_wp2
  go_ret
  exact ⟨rfl, bxW_below (w := w) (x := x) hv2⟩
end Go.Proofs.YtfogkcccjemloaaGreatDoor
/- The walk of ExprNames. -/
namespace Go.Proofs.YtfogkcccjemloaaGreatDoor
set_option linter.unusedVariables false
set_option linter.unusedSimpArgs false
open Go.RowKit Go.Sort
theorem has_snoc_any (l : List ByteArray) (s t : ByteArray) (h : hasN l t = true) : hasN (l ++ [s]) t = true := by
  rw [has_snoc, h, Bool.true_or]
theorem has_step (acc : List ByteArray) (x : Xt) (t : ByteArray) (h : hasN acc t = true) : hasN (stepN acc x) t = true := by
  unfold stepN
  split
  · exact has_snoc_any _ _ _ h
  · exact h
theorem has_fold (l : List Xt) (acc : List ByteArray) (t : ByteArray) (h : hasN acc t = true) : hasN (l.foldl stepN acc) t = true := by
  induction l generalizing acc with
  | nil => exact h
  | cons y l ih => exact ih _ (has_step acc y t h)
theorem has_var (l : List Xt) (acc : List ByteArray) (y : Xt) (hy : y ∈ l) (hv : hasVar y.k = true) : hasN (l.foldl stepN acc) y.nm = true := by
  induction l generalizing acc with
  | nil => cases hy
  | cons z l ih =>
    rw [List.foldl_cons]
    rcases List.mem_cons.1 hy with rfl | hy
    · refine has_fold l _ _ ?_
      unfold stepN
      cases q : hasN acc y.nm
      · rw [hv, if_pos (by simp), has_snoc]; simp
      · rw [hv, if_neg (by simp)]; exact q
    · exact ih _ hy
theorem fold_mem (l : List Xt) (acc : List ByteArray) (s : ByteArray) (h : s ∈ l.foldl stepN acc) : s ∈ acc ∨ ∃ y ∈ l, hasVar y.k = true ∧ y.nm = s := by
  induction l generalizing acc with
  | nil => exact .inl h
  | cons y l ih =>
    rw [List.foldl_cons] at h
    rcases ih _ h with h | ⟨z, hz, h1, h2⟩
    · unfold stepN at h
      split at h
      · rename_i hq
        rcases List.mem_append.1 h with h | h
        · exact .inl h
        · refine .inr ⟨y, by simp, ?_, (List.mem_singleton.1 h).symm⟩
          rw [Bool.and_eq_true] at hq
          exact hq.1
      · exact .inl h
    · exact .inr ⟨z, by simp [hz], h1, h2⟩
theorem lst_sub (b : Bool) (x : Xt) : ∀ y ∈ x.lst b, y ∈ x.list := by
  induction x using Xt.ind with
  | h x ih =>
    intro y hy
    rw [Xt.lst_eq] at hy
    rw [Xt.list_eq]
    rcases List.mem_cons.1 hy with rfl | hy
    · simp
    · obtain ⟨l, hl, hyl⟩ := List.mem_flatten.1 hy
      obtain ⟨z, hz, rfl⟩ := List.mem_map.1 hl
      exact List.mem_cons.2 (.inr (List.mem_flatten.2 ⟨_, List.mem_map_of_mem (kids_mem hz), ih z (kids_mem hz) y hyl⟩))
theorem inst_sub (x : Xt) (s : ByteArray) (h : s ∈ nmS true x []) : hasN (nmS false x []) s = true := by
  rcases fold_mem _ _ _ h with h | ⟨y, hy, hv, rfl⟩
  · cases h
  · have := lst_sub true x y hy
    unfold nmS
    rw [lst_false]
    exact has_var _ _ y this hv
set_option maxHeartbeats 2000000 in
set_option maxRecDepth 20000 in
theorem exprnames_any (x : Xt) (w : World) (hs : Std w) (hX : RdX w w.heap.size x) : Calls Tryz.prog 5 #[xV x] w (Bel (.bool true) w) := by
  have KL : Hid (∀ W, Below w.heap.size w W → Calls Tryz.prog 11 #[] W (Bel (.bool true) W)) := Lib.hid fun W h => lives_any W (hs.to h)
  have KH : Hid (∀ W, Below w.heap.size w W → Calls Tryz.prog 10 #[xV x] W (Bel (.bool (decide (500 < x.size))) W)) := Lib.hid fun W h => heavy_any x W (hX.to h)
  by_cases h5 : 500 < x.size
  · rw [decide_eq_true h5] at KH
    simp only [xV] at KH ⊢
    clear h5 hX hs
    go_enter Tryz.func5, Tryz.ntmps5
    go_wp2_with (first
      | (go_at_call 10; (with_reducible refine (KH.out _ ?_).mono ?_); (focus ((repeat (first | (with_reducible exact Below.refl _ _) | (with_reducible assumption) | (with_reducible exact bel_box _) | (with_reducible refine bel_step ?_ (by with_reducible assumption)) | (with_reducible refine Below.drew ?_) | (with_reducible refine below_drewN ?_ _) | (with_reducible refine bel_alloc ?_ _))); done)); rintro e w1 ⟨rfl, hb1⟩)
      | (go_at_call 11; (with_reducible refine (KL.out _ ?_).mono ?_); (focus ((repeat (first | (with_reducible exact Below.refl _ _) | (with_reducible assumption) | (with_reducible exact bel_box _) | (with_reducible refine bel_step ?_ (by with_reducible assumption)) | (with_reducible refine Below.drew ?_) | (with_reducible refine below_drewN ?_ _) | (with_reducible refine bel_alloc ?_ _))); done)); rintro e w2 ⟨rfl, hb2⟩))
    go_ret
    exact ⟨rfl, (by repeat (first | (with_reducible exact Below.refl _ _) | (with_reducible assumption) | (with_reducible exact bel_box _) | (with_reducible refine bel_step ?_ (by with_reducible assumption)) | (with_reducible refine Below.drew ?_) | (with_reducible refine below_drewN ?_ _) | (with_reducible refine bel_alloc ?_ _)))⟩
  rw [decide_eq_false h5] at KH
  have KN : Hid (∀ W, Below w.heap.size w W → Calls Tryz.prog 22 #[xV x] W (NewN (nmS false x []) W)) := Lib.hid fun W h => names_any x W (hX.to h) (by omega)
  have KI : Hid (∀ W, Below w.heap.size w W → Calls Tryz.prog 23 #[xV x] W (NewN (nmS true x []) W)) := Lib.hid fun W h => instants_any x W (hX.to h) (by omega)
  have RN : Hid (∀ W, Below w.heap.size w W → Calls Tryz.prog 26 #[xV x] W (NewN (nmS false x []) W)) := Lib.hid fun W h => rNames_any x W (hX.to h) (by omega)
  have RI : Hid (∀ W, Below w.heap.size w W → Calls Tryz.prog 27 #[xV x] W (NewN (nmS true x []) W)) := Lib.hid fun W h => rInstant_any x W (hX.to h) (by omega)
  have hl1 := nm_length false x []
  have hl2 := nm_length true x []
  have HM : Hid (∀ (k : Nat) s, (nmS true x [])[k]? = some s → hasN (nmS false x []) s = true) := Lib.hid fun k s h => inst_sub x s (List.mem_of_getElem? h)
  rw [List.length_nil, Nat.zero_add] at hl1 hl2
  generalize nmS false x [] = N at *
  generalize nmS true x [] = M at *
  have HL := Lib.hid (show N.length ≤ 500 ∧ M.length ≤ 500 by omega)
  simp only [xV] at KN KI RN RI KH ⊢
  clear hX hs h5 hl1 hl2
  go_enter Tryz.func5, Tryz.ntmps5
  go_wp2_with (go_at_call 10; (with_reducible refine (KH.out _ ?_).mono ?_); (focus ((repeat (first | (with_reducible exact Below.refl _ _) | (with_reducible assumption) | (with_reducible exact bel_box _) | (with_reducible refine bel_step ?_ (by with_reducible assumption)) | (with_reducible refine Below.drew ?_) | (with_reducible refine below_drewN ?_ _) | (with_reducible refine bel_alloc ?_ _))); done)); rintro e w1 ⟨rfl, hv1⟩; obtain ⟨b0, b1, b2, b3, b4, b5, _⟩ := bxW_cells (w := w) (x := x) (W := w1) hv1)
  clear KH
  go_region_with (first
    | (go_at_call 22; (with_reducible refine (KN.out _ ?_).mono ?_); (focus ((repeat (first | (with_reducible exact Below.refl _ _) | (with_reducible assumption) | (with_reducible exact bel_box _) | (with_reducible refine bel_step ?_ (by with_reducible assumption)) | (with_reducible refine Below.drew ?_) | (with_reducible refine below_drewN ?_ _) | (with_reducible refine bel_alloc ?_ _))); done)); rintro e w2 ⟨A2, c2, rfl, hR2, hb2⟩; obtain ⟨d0, d1, d2, d3, d4, d5, _⟩ := bxW_cells (w := w) (x := x) (W := w2) (by repeat (first | (with_reducible exact Below.refl _ _) | (with_reducible assumption) | (with_reducible exact bel_box _) | (with_reducible refine bel_step ?_ (by with_reducible assumption)) | (with_reducible refine Below.drew ?_) | (with_reducible refine below_drewN ?_ _) | (with_reducible refine bel_alloc ?_ _))))
    | (go_at_call 23; (with_reducible refine (KI.out _ ?_).mono ?_); (focus ((repeat (first | (with_reducible exact Below.refl _ _) | (with_reducible assumption) | (with_reducible exact bel_box _) | (with_reducible refine bel_step ?_ (by with_reducible assumption)) | (with_reducible refine Below.drew ?_) | (with_reducible refine below_drewN ?_ _) | (with_reducible refine bel_alloc ?_ _))); done)); rintro e w3 ⟨A3, c3, rfl, hR3, hb3⟩; obtain ⟨e0, e1, e2, e3, e4, e5, _⟩ := bxW_cells (w := w) (x := x) (W := w3) (by repeat (first | (with_reducible exact Below.refl _ _) | (with_reducible assumption) | (with_reducible exact bel_box _) | (with_reducible refine bel_step ?_ (by with_reducible assumption)) | (with_reducible refine Below.drew ?_) | (with_reducible refine below_drewN ?_ _) | (with_reducible refine bel_alloc ?_ _)))))
  all_goals clear b0 b1 b2 b3 b4 b5 d0 d1 d2 d3 d4 d5 KN KI
  all_goals go_wp2
  all_goals go_loopw [5] (fun i wr => ∃ k : Nat, k ≤ M.length ∧ i = .int .i64 (k : Int) ∧ Below w3.heap.size w3 wr) (fun i _ => M.length - (intOf i).toNat)
  all_goals first
    | exact ⟨0, by omega, rfl, Below.refl _ _⟩
    | skip
  all_goals
    obtain ⟨k, hk, rfl, hbl⟩ := hrel
    have HBW : Hid (Below (bxW w x).heap.size (bxW w x) wr) := Lib.hid (by repeat (first | (with_reducible exact Below.refl _ _) | (with_reducible assumption) | (with_reducible exact bel_box _) | (with_reducible refine bel_step ?_ (by with_reducible assumption)) | (with_reducible refine Below.drew ?_) | (with_reducible refine below_drewN ?_ _) | (with_reducible refine bel_alloc ?_ _)))
    obtain ⟨hL1, hL2⟩ := HL.out
    by_cases hlt : k < M.length
    · obtain ⟨ad, s, rfl, had, hs, c0⟩ := (hR3.to hbl).at_ hlt
      have hm := HM.out k s hs
      have KS : Hid (∀ W, RdN W W.heap.size A2 N → Calls Tryz.prog 24 #[.slice A2 N.length c2, .string s] W (Bel (.bool true) W)) := Lib.hid fun W h => by
        have := rhas_any A2 c2 N s W h (by omega)
        rwa [hm] at this
      have hR2r : RdN wr wr.heap.size A2 N := hR2.to (by repeat (first | (with_reducible exact Below.refl _ _) | (with_reducible assumption) | (with_reducible exact bel_box _) | (with_reducible refine bel_step ?_ (by with_reducible assumption)) | (with_reducible refine Below.drew ?_) | (with_reducible refine below_drewN ?_ _) | (with_reducible refine bel_alloc ?_ _)))
      clear hs hm
      go_wp2_with (go_at_call 24; (with_reducible refine (KS.out _ ?_).mono ?_); (focus (first | exact hR2r | exact hR2r.to (by repeat (first | (with_reducible exact Below.refl _ _) | (with_reducible assumption) | (with_reducible exact bel_box _) | (with_reducible refine bel_step ?_ (by with_reducible assumption)) | (with_reducible refine Below.drew ?_) | (with_reducible refine below_drewN ?_ _) | (with_reducible refine bel_alloc ?_ _))); done)); rintro e w4 ⟨rfl, hb4⟩)
      exact ⟨⟨k + 1, by omega, by congr 1, (by repeat (first | (with_reducible exact Below.refl _ _) | (with_reducible assumption) | (with_reducible exact bel_box _) | (with_reducible refine bel_step ?_ (by with_reducible assumption)) | (with_reducible refine Below.drew ?_) | (with_reducible refine below_drewN ?_ _) | (with_reducible refine bel_alloc ?_ _)))⟩, by simp [intOf]; omega⟩
    · obtain rfl : k = M.length := by omega
      obtain ⟨f0, f1, f2, f3, f4, f5, _⟩ := bxW_cells (w := w) (x := x) (W := wr) HBW.out
      have hv4 := bxW_below HBW.out
      clear e0 e1 e2 e3 e4 e5
      have HV4 := Lib.hid hv4
      clear hv4
      have RN2 : Hid (∀ W, Below wr.heap.size wr W → Calls Tryz.prog 26 #[.agg #[.int .i64 x.k, .int .i64 x.op, .int .i64 x.t, .int .i64 x.v, .string x.nm, .slice x.A x.ar.length x.c]] W (NewN N W)) := Lib.hid fun W h => RN.out W (HV4.out.trans (h.mono HV4.out.size))
      have RI2 : Hid (∀ W, Below wr.heap.size wr W → Calls Tryz.prog 27 #[.agg #[.int .i64 x.k, .int .i64 x.op, .int .i64 x.t, .int .i64 x.v, .string x.nm, .slice x.A x.ar.length x.c]] W (NewN M W)) := Lib.hid fun W h => RI.out W (HV4.out.trans (h.mono HV4.out.size))
      have KL2 : Hid (∀ W, Below wr.heap.size wr W → Calls Tryz.prog 11 #[] W (Bel (.bool true) W)) := Lib.hid fun W h => KL.out W (HV4.out.trans (h.mono HV4.out.size))
      have BX : Hid (∀ W, Below wr.heap.size wr W → W.cell? ⟨w.heap.size, 0, none⟩ = some (.int .i64 x.k) ∧ W.cell? ⟨w.heap.size, 1, none⟩ = some (.int .i64 x.op) ∧ W.cell? ⟨w.heap.size, 2, none⟩ = some (.int .i64 x.t) ∧ W.cell? ⟨w.heap.size, 3, none⟩ = some (.int .i64 x.v) ∧ W.cell? ⟨w.heap.size, 4, none⟩ = some (.string x.nm) ∧ W.cell? ⟨w.heap.size, 5, none⟩ = some (.slice x.A x.ar.length x.c)) := Lib.hid fun W h => by
        obtain ⟨q0, q1, q2, q3, q4, q5, _⟩ := bxW_cells (w := w) (x := x) (W := W) (HBW.out.trans (h.mono HBW.out.size))
        exact ⟨q0, q1, q2, q3, q4, q5⟩
      have R2 : RdN wr wr.heap.size A2 N := hR2.to (by repeat (first | (with_reducible exact Below.refl _ _) | (with_reducible assumption) | (with_reducible exact bel_box _) | (with_reducible refine bel_step ?_ (by with_reducible assumption)) | (with_reducible refine Below.drew ?_) | (with_reducible refine below_drewN ?_ _) | (with_reducible refine bel_alloc ?_ _)))
      have R3 : RdN wr wr.heap.size A3 M := hR3.to (by repeat (first | (with_reducible exact Below.refl _ _) | (with_reducible assumption) | (with_reducible exact bel_box _) | (with_reducible refine bel_step ?_ (by with_reducible assumption)) | (with_reducible refine Below.drew ?_) | (with_reducible refine below_drewN ?_ _) | (with_reducible refine bel_alloc ?_ _)))
      have S1 : Hid (∀ (A : Option Addr) (c : Nat) W, RdN W W.heap.size A2 N → RdN W W.heap.size A N → Calls Tryz.prog 25 #[.slice A2 N.length c2, .slice A N.length c] W (Bel (.bool true) W)) := Lib.hid fun A c W h h' => by
        have := rsame_any A2 A c2 c N N W h h' (by omega) (by omega)
        rwa [sameN_refl] at this
      have S2 : Hid (∀ (A : Option Addr) (c : Nat) W, RdN W W.heap.size A3 M → RdN W W.heap.size A M → Calls Tryz.prog 25 #[.slice A3 M.length c3, .slice A M.length c] W (Bel (.bool true) W)) := Lib.hid fun A c W h h' => by
        have := rsame_any A3 A c3 c M M W h h' (by omega) (by omega)
        rwa [sameN_refl] at this
      clear hR2 hR3 hb2 hb3 hbl hv1 RN RI KL HM
      go_wp2_with (first
        | (go_at_call 26; (with_reducible refine (RN2.out _ ?_).mono ?_); (focus ((repeat (first | (with_reducible exact Below.refl _ _) | (with_reducible assumption) | (with_reducible exact bel_box _) | (with_reducible refine bel_step ?_ (by with_reducible assumption)) | (with_reducible refine Below.drew ?_) | (with_reducible refine below_drewN ?_ _) | (with_reducible refine bel_alloc ?_ _))); done)); rintro e w5 ⟨A5, c5, rfl, hR5, hb5⟩)
        | (go_at_call 25; (with_reducible refine (S1.out _ _ _ ?_ hR5).mono ?_); (focus (exact R2.to (by repeat (first | (with_reducible exact Below.refl _ _) | (with_reducible assumption) | (with_reducible exact bel_box _) | (with_reducible refine bel_step ?_ (by with_reducible assumption)) | (with_reducible refine Below.drew ?_) | (with_reducible refine below_drewN ?_ _) | (with_reducible refine bel_alloc ?_ _))); done)); rintro e w6 ⟨rfl, hb6⟩; obtain ⟨f0, f1, f2, f3, f4, f5⟩ := BX.out w6 (by repeat (first | (with_reducible exact Below.refl _ _) | (with_reducible assumption) | (with_reducible exact bel_box _) | (with_reducible refine bel_step ?_ (by with_reducible assumption)) | (with_reducible refine Below.drew ?_) | (with_reducible refine below_drewN ?_ _) | (with_reducible refine bel_alloc ?_ _))))
        | (go_at_call 27; (with_reducible refine (RI2.out _ ?_).mono ?_); (focus ((repeat (first | (with_reducible exact Below.refl _ _) | (with_reducible assumption) | (with_reducible exact bel_box _) | (with_reducible refine bel_step ?_ (by with_reducible assumption)) | (with_reducible refine Below.drew ?_) | (with_reducible refine below_drewN ?_ _) | (with_reducible refine bel_alloc ?_ _))); done)); rintro e w7 ⟨A7, c7, rfl, hR7, hb7⟩)
        | (go_at_call 25; (with_reducible refine (S2.out _ _ _ ?_ hR7).mono ?_); (focus (exact R3.to (by repeat (first | (with_reducible exact Below.refl _ _) | (with_reducible assumption) | (with_reducible exact bel_box _) | (with_reducible refine bel_step ?_ (by with_reducible assumption)) | (with_reducible refine Below.drew ?_) | (with_reducible refine below_drewN ?_ _) | (with_reducible refine bel_alloc ?_ _))); done)); rintro e w8 ⟨rfl, hb8⟩)
        | (go_at_call 11; (with_reducible refine (KL2.out _ ?_).mono ?_); (focus ((repeat (first | (with_reducible exact Below.refl _ _) | (with_reducible assumption) | (with_reducible exact bel_box _) | (with_reducible refine bel_step ?_ (by with_reducible assumption)) | (with_reducible refine Below.drew ?_) | (with_reducible refine below_drewN ?_ _) | (with_reducible refine bel_alloc ?_ _))); done)); rintro e w9 ⟨rfl, hb9⟩))
      go_ret
      exact ⟨rfl, HV4.out.trans (Below.mono (by repeat (first | (with_reducible exact Below.refl _ _) | (with_reducible assumption) | (with_reducible exact bel_box _) | (with_reducible refine bel_step ?_ (by with_reducible assumption)) | (with_reducible refine Below.drew ?_) | (with_reducible refine below_drewN ?_ _) | (with_reducible refine bel_alloc ?_ _))) HV4.out.size)⟩
end Go.Proofs.YtfogkcccjemloaaGreatDoor
/- What a renaming keeps. -/
namespace Go.Proofs.YtfogkcccjemloaaGreatDoor
set_option linter.unusedVariables false
set_option linter.unusedSimpArgs false
open Go.RowKit Go.Sort Go.Deep
theorem map_like {ρ : Int → ByteArray → ByteArray} {α : Type} (f g : Xt → α) : ∀ (l m : List Xt), l.map Xt.ct = m.map (Xt.rc ρ) → (∀ a ∈ m, ∀ X : Xt, X.ct = a.rc ρ → f X = g a) → l.map f = m.map g
  | [], [], _, _ => rfl
  | [], _ :: _, h, _ => by cases h
  | _ :: _, [], h, _ => by cases h
  | X :: l, a :: m, h, k => by
    simp only [List.map_cons, List.cons.injEq] at h ⊢
    exact ⟨k a (by simp) X h.1, map_like f g l m h.2 fun b hb => k b (by simp [hb])⟩
theorem rc_parts {ρ : Int → ByteArray → ByteArray} {X e : Xt} (h : X.ct = e.rc ρ) : X.k = e.k ∧ X.op = e.op ∧ X.t = e.t ∧ X.v = e.v ∧ X.nm.toList = (ρ e.k e.nm).toList ∧ X.ar.map Xt.ct = e.ar.map (Xt.rc ρ) := by
  rw [Xt.ct_eq, Xt.rc_eq] at h
  injection h with h1 h2 h3 h4 h5 h6
  exact ⟨h1, h2, h3, h4, h5, h6⟩
theorem size_rc {ρ : Int → ByteArray → ByteArray} (e : Xt) : ∀ X : Xt, X.ct = e.rc ρ → X.size = e.size := by
  induction e using Xt.ind with
  | h e ih =>
    intro X h
    rw [Xt.size_eq, Xt.size_eq, map_like Xt.size Xt.size _ _ (rc_parts h).2.2.2.2.2 ih]
theorem depth_rc {ρ : Int → ByteArray → ByteArray} (e : Xt) : ∀ X : Xt, X.ct = e.rc ρ → X.depth = e.depth := by
  induction e using Xt.ind with
  | h e ih =>
    intro X h
    rw [Xt.depth_eq, Xt.depth_eq, map_like Xt.depth Xt.depth _ _ (rc_parts h).2.2.2.2.2 ih]
theorem back_rc {a b : ByteArray} (e : Xt) : (∀ y ∈ e.list, hasVar y.k = true → ¬ y.nm.toList = b.toList) → ∀ X : Xt, X.ct = e.rc (rnm a b) → X.rc (rnm b a) = e.ct := by
  induction e using Xt.ind with
  | h e ih =>
    intro hn X h
    obtain ⟨h1, h2, h3, h4, h5, h6⟩ := rc_parts h
    rw [Xt.rc_eq, Xt.ct_eq, h1, h2, h3, h4]
    congr 1
    · have hv := hn e (by rw [Xt.list_eq]; simp)
      unfold rnm at h5 ⊢
      cases q : hasVar e.k
      · rw [Bool.false_and, if_neg (by simp)]
        rw [q, Bool.false_and, if_neg (by simp)] at h5
        exact h5
      · have hv := hv q
        rw [q, Bool.true_and] at h5
        rw [Bool.true_and]
        by_cases ha : e.nm.toList = a.toList
        · rw [if_pos (by simpa using ha)] at h5
          rw [if_pos (by simpa using h5), ha]
        · rw [if_neg (by simpa using ha)] at h5
          rw [if_neg (by rw [h5]; simpa using hv), h5]
    · exact map_like (Xt.rc (rnm b a)) Xt.ct _ _ h6 fun y hy X hX => ih y hy (fun z hz => hn z (by rw [Xt.list_eq]; exact List.mem_cons.2 (.inr (List.mem_flatten.2 ⟨_, List.mem_map_of_mem hy, hz⟩)))) X hX
theorem no_name {e : Xt} {b : ByteArray} (h : hasN (nmS false e []) b = false) : ∀ y ∈ e.list, hasVar y.k = true → ¬ y.nm.toList = b.toList := by
  intro y hy hv he
  have h1 : hasN (nmS false e []) y.nm = true := by
    unfold nmS
    rw [lst_false]
    exact has_var _ _ y hy hv
  unfold hasN at h h1
  rw [he] at h1
  rw [h1] at h
  cases h
theorem two_box {w w2 W : World} {x y : Xt} (h1 : Below (bxW w x).heap.size (bxW w x) W) (h2 : Below (bxW w2 y).heap.size (bxW w2 y) W) :
    W.cell? ⟨w.heap.size, 0, none⟩ = some (.int .i64 x.k) ∧ W.cell? ⟨w.heap.size, 1, none⟩ = some (.int .i64 x.op) ∧ W.cell? ⟨w.heap.size, 2, none⟩ = some (.int .i64 x.t) ∧ W.cell? ⟨w.heap.size, 3, none⟩ = some (.int .i64 x.v) ∧ W.cell? ⟨w.heap.size, 4, none⟩ = some (.string x.nm) ∧ W.cell? ⟨w.heap.size, 5, none⟩ = some (.slice x.A x.ar.length x.c) ∧
    W.cell? ⟨w2.heap.size, 0, none⟩ = some (.int .i64 y.k) ∧ W.cell? ⟨w2.heap.size, 1, none⟩ = some (.int .i64 y.op) ∧ W.cell? ⟨w2.heap.size, 2, none⟩ = some (.int .i64 y.t) ∧ W.cell? ⟨w2.heap.size, 3, none⟩ = some (.int .i64 y.v) ∧ W.cell? ⟨w2.heap.size, 4, none⟩ = some (.string y.nm) ∧ W.cell? ⟨w2.heap.size, 5, none⟩ = some (.slice y.A y.ar.length y.c) := by
  obtain ⟨a0, a1, a2, a3, a4, a5, _⟩ := bxW_cells h1
  obtain ⟨d0, d1, d2, d3, d4, d5, _⟩ := bxW_cells h2
  exact ⟨a0, a1, a2, a3, a4, a5, d0, d1, d2, d3, d4, d5⟩
end Go.Proofs.YtfogkcccjemloaaGreatDoor
/- The walk of ExprRenames. -/
namespace Go.Proofs.YtfogkcccjemloaaGreatDoor
set_option linter.unusedVariables false
set_option linter.unusedSimpArgs false
open Go.RowKit Go.Sort Go.Deep
/-- a new tree, spelled out -/
def NewV (c : Xc) (w : World) (e : Ending) (w' : World) : Prop := ∃ y : Xt, e = .returned (.agg #[.int .i64 y.k, .int .i64 y.op, .int .i64 y.t, .int .i64 y.v, .string y.nm, .slice y.A y.ar.length y.c]) ∧ y.ct = c ∧ RdX w' w'.heap.size y ∧ Below w.heap.size w w'
theorem NewE.v {c : Xc} {w w' : World} {e : Ending} (h : NewE c w e w') : NewV c w e w' := by
  obtain ⟨y, h1, h2, h3, h4⟩ := h
  exact ⟨y, h1, h2, h3.rd (fun b hb => hb.2), h4⟩
set_option maxHeartbeats 4000000 in
set_option maxRecDepth 20000 in
theorem exprrenames_any (x : Xt) (a b : ByteArray) (w : World) (hs : Std w) (hX : RdX w w.heap.size x) : Calls Tryz.prog 7 #[xV x, .string a, .string b] w (Bel (.bool true) w) := by
  have KL : Hid (∀ W, Below w.heap.size w W → Calls Tryz.prog 11 #[] W (Bel (.bool true) W)) := Lib.hid fun W h => lives_any W (hs.to h)
  have KH : Hid (∀ W, Below w.heap.size w W → Calls Tryz.prog 10 #[xV x] W (Bel (.bool (decide (500 < x.size))) W)) := Lib.hid fun W h => heavy_any x W (hX.to h)
  by_cases h5 : 500 < x.size
  · rw [decide_eq_true h5] at KH
    simp only [xV] at KH ⊢
    clear h5 hX hs
    go_enter Tryz.func7, Tryz.ntmps7
    go_wp2_with (first
      | (go_at_call 10; (with_reducible refine (KH.out _ ?_).mono ?_); (focus ((repeat (first | (with_reducible exact Below.refl _ _) | (with_reducible assumption) | (with_reducible exact bel_box _) | (with_reducible refine bel_step ?_ (by with_reducible assumption)) | (with_reducible refine Below.drew ?_) | (with_reducible refine below_drewN ?_ _) | (with_reducible refine bel_alloc ?_ _))); done)); rintro e w1 ⟨rfl, hb1⟩)
      | (go_at_call 11; (with_reducible refine (KL.out _ ?_).mono ?_); (focus ((repeat (first | (with_reducible exact Below.refl _ _) | (with_reducible assumption) | (with_reducible exact bel_box _) | (with_reducible refine bel_step ?_ (by with_reducible assumption)) | (with_reducible refine Below.drew ?_) | (with_reducible refine below_drewN ?_ _) | (with_reducible refine bel_alloc ?_ _))); done)); rintro e w2 ⟨rfl, hb2⟩))
    go_ret
    exact ⟨rfl, (by repeat (first | (with_reducible exact Below.refl _ _) | (with_reducible assumption) | (with_reducible exact bel_box _) | (with_reducible refine bel_step ?_ (by with_reducible assumption)) | (with_reducible refine Below.drew ?_) | (with_reducible refine below_drewN ?_ _) | (with_reducible refine bel_alloc ?_ _)))⟩
  rw [decide_eq_false h5] at KH
  by_cases ha : 50 < a.size
  · have u1 : (50 : Int) < (a.size : Int) := by omega
    simp only [xV] at KH ⊢
    clear h5 hX hs
    go_enter Tryz.func7, Tryz.ntmps7
    go_wp2_with (first
      | (go_at_call 10; (with_reducible refine (KH.out _ ?_).mono ?_); (focus ((repeat (first | (with_reducible exact Below.refl _ _) | (with_reducible assumption) | (with_reducible exact bel_box _) | (with_reducible refine bel_step ?_ (by with_reducible assumption)) | (with_reducible refine Below.drew ?_) | (with_reducible refine below_drewN ?_ _) | (with_reducible refine bel_alloc ?_ _))); done)); rintro e w1 ⟨rfl, hb1⟩)
      | (go_at_call 11; (with_reducible refine (KL.out _ ?_).mono ?_); (focus ((repeat (first | (with_reducible exact Below.refl _ _) | (with_reducible assumption) | (with_reducible exact bel_box _) | (with_reducible refine bel_step ?_ (by with_reducible assumption)) | (with_reducible refine Below.drew ?_) | (with_reducible refine below_drewN ?_ _) | (with_reducible refine bel_alloc ?_ _))); done)); rintro e w2 ⟨rfl, hb2⟩))
    go_ret
    exact ⟨rfl, (by repeat (first | (with_reducible exact Below.refl _ _) | (with_reducible assumption) | (with_reducible exact bel_box _) | (with_reducible refine bel_step ?_ (by with_reducible assumption)) | (with_reducible refine Below.drew ?_) | (with_reducible refine below_drewN ?_ _) | (with_reducible refine bel_alloc ?_ _)))⟩
  have u1 : (a.size : Int) ≤ 50 := by omega
  by_cases hb : 50 < b.size
  · have u2 : (50 : Int) < (b.size : Int) := by omega
    simp only [xV] at KH ⊢
    clear h5 hX hs
    go_enter Tryz.func7, Tryz.ntmps7
    go_wp2_with (first
      | (go_at_call 10; (with_reducible refine (KH.out _ ?_).mono ?_); (focus ((repeat (first | (with_reducible exact Below.refl _ _) | (with_reducible assumption) | (with_reducible exact bel_box _) | (with_reducible refine bel_step ?_ (by with_reducible assumption)) | (with_reducible refine Below.drew ?_) | (with_reducible refine below_drewN ?_ _) | (with_reducible refine bel_alloc ?_ _))); done)); rintro e w1 ⟨rfl, hb1⟩)
      | (go_at_call 11; (with_reducible refine (KL.out _ ?_).mono ?_); (focus ((repeat (first | (with_reducible exact Below.refl _ _) | (with_reducible assumption) | (with_reducible exact bel_box _) | (with_reducible refine bel_step ?_ (by with_reducible assumption)) | (with_reducible refine Below.drew ?_) | (with_reducible refine below_drewN ?_ _) | (with_reducible refine bel_alloc ?_ _))); done)); rintro e w2 ⟨rfl, hb2⟩))
    go_ret
    exact ⟨rfl, (by repeat (first | (with_reducible exact Below.refl _ _) | (with_reducible assumption) | (with_reducible exact bel_box _) | (with_reducible refine bel_step ?_ (by with_reducible assumption)) | (with_reducible refine Below.drew ?_) | (with_reducible refine below_drewN ?_ _) | (with_reducible refine bel_alloc ?_ _)))⟩
  have u2 : (b.size : Int) ≤ 50 := by omega
  have hbm : b.size ≤ maxLen := by unfold maxLen; omega
  have ham : a.size ≤ maxLen := by unfold maxLen; omega
  have KR : Hid (∀ W, Below w.heap.size w W → Calls Tryz.prog 30 #[xV x, .string a, .string b] W (NewV (x.rc (rnm a b)) W)) := Lib.hid fun W h => (rename_any a b x W (hX.to h) (by omega) hbm).mono fun e w' hn => hn.v
  have RR : Hid (∀ W, Below w.heap.size w W → Calls Tryz.prog 31 #[xV x, .string a, .string b] W (NewV (x.rc (rnm a b)) W)) := Lib.hid fun W h => (rrename_any a b hbm x W (hX.to h) (by omega)).mono fun e w' hn => hn.v
  have K1 : Hid (∀ W, Below w.heap.size w W → Calls Tryz.prog 14 #[xV x] W (Bel (.int .i64 (x.size : Nat)) W)) := Lib.hid fun W h => size_any x W (hX.to h) (by omega)
  have K2 : Hid (∀ W, Below w.heap.size w W → Calls Tryz.prog 16 #[xV x] W (Bel (.int .i64 (x.depth : Nat)) W)) := Lib.hid fun W h => depth_any x W (hX.to h) (by omega)
  have K3 : Hid (∀ (X : Xt) W, X.ct = x.rc (rnm a b) → RdX W W.heap.size X → Calls Tryz.prog 14 #[xV X] W (Bel (.int .i64 (x.size : Nat)) W)) := Lib.hid fun X W hc h => by
    have hz := size_rc x X hc
    have := size_any X W h (by omega)
    rwa [hz] at this
  have K4 : Hid (∀ (X : Xt) W, X.ct = x.rc (rnm a b) → RdX W W.heap.size X → Calls Tryz.prog 16 #[xV X] W (Bel (.int .i64 (x.depth : Nat)) W)) := Lib.hid fun X W hc h => by
    have hz := size_rc x X hc
    have := depth_any X W h (by omega)
    rwa [depth_rc x X hc] at this
  have K5 : Hid (∀ (X Y : Xt) W, X.ct = x.rc (rnm a b) → Y.ct = x.rc (rnm a b) → RdX W W.heap.size X → RdX W W.heap.size Y → Calls Tryz.prog 29 #[xV X, xV Y] W (Bel (.bool true) W)) := Lib.hid fun X Y W hc hd h k => by
    have hz := size_rc x X hc
    have := rsameX_any X Y W h k (by omega)
    rwa [sameX_yes (hc.trans hd.symm)] at this
  have K6 : Hid (∀ (X : Xt) W, X.ct = x.rc (rnm a b) → RdX W W.heap.size X → Calls Tryz.prog 30 #[xV X, .string b, .string a] W (NewV (X.rc (rnm b a)) W)) := Lib.hid fun X W hc h => (rename_any b a X W h (by have hz := size_rc x X hc; omega) ham).mono fun e w' hn => hn.v
  have K7 : hasN (nmS false x []) b = false → Hid (∀ (X Y : Xt) W, X.ct = x.rc (rnm a b) → Y.ct = X.rc (rnm b a) → RdX W W.heap.size Y → Below w.heap.size w W → Calls Tryz.prog 29 #[xV Y, xV x] W (Bel (.bool true) W)) := fun hno => Lib.hid fun X Y W hc hd k h => by
    have hz := size_rc X Y hd
    have hz2 := size_rc x X hc
    have := rsameX_any Y x W k (hX.to h) (by omega)
    rwa [sameX_yes (hd.trans (back_rc x (no_name hno) X hc))] at this
  have hl1 := nm_length false x []
  rw [List.length_nil, Nat.zero_add] at hl1
  have K8 : Hid (∀ W, Below w.heap.size w W → Calls Tryz.prog 26 #[xV x] W (NewN (nmS false x []) W)) := Lib.hid fun W h => rNames_any x W (hX.to h) (by omega)
  have K9 : Hid (∀ (A : Option Addr) (c : Nat) W, RdN W W.heap.size A (nmS false x []) → Calls Tryz.prog 24 #[.slice A (nmS false x []).length c, .string b] W (Bel (.bool (hasN (nmS false x []) b)) W)) := Lib.hid fun A c W h => rhas_any A c (nmS false x []) b W h (by omega)
  generalize nmS false x [] = N at *
  generalize x.size = n1 at K1 K3
  generalize x.depth = n2 at K2 K4
  simp only [xV] at KR RR K1 K2 K3 K4 K5 K6 K7 K8 KH ⊢
  clear hX hs h5 ha hb hbm ham hl1
  have main : ∀ q, hasN N b = q → Calls Tryz.prog 7 #[.agg #[.int .i64 x.k, .int .i64 x.op, .int .i64 x.t, .int .i64 x.v, .string x.nm, .slice x.A x.ar.length x.c], .string a, .string b] w (Bel (.bool true) w) := by
    intro q hq
    rw [hq] at K9 K7
    clear hq
    cases q
    · have K7' := K7 rfl
      clear K7
      go_enter Tryz.func7, Tryz.ntmps7
      go_wp2_with (first
        | (go_at_call 10; (with_reducible refine (KH.out _ ?_).mono ?_); (focus ((repeat (first | (with_reducible exact Below.refl _ _) | (with_reducible assumption) | (with_reducible exact bel_box _) | (with_reducible refine bel_step ?_ (by with_reducible assumption)) | (with_reducible refine Below.drew ?_) | (with_reducible refine below_drewN ?_ _) | (with_reducible refine bel_alloc ?_ _))); done)); rintro e w1 ⟨rfl, hb1⟩; obtain ⟨b0, b1, b2, b3, b4, b5, _⟩ := bxW_cells (w := w) (x := x) (W := w1) (by repeat (first | (with_reducible exact Below.refl _ _) | (with_reducible assumption) | (with_reducible exact bel_box _) | (with_reducible refine bel_step ?_ (by with_reducible assumption)) | (with_reducible refine Below.drew ?_) | (with_reducible refine below_drewN ?_ _) | (with_reducible refine bel_alloc ?_ _))))
        | (go_at_call 30; (with_reducible refine (KR.out _ ?_).mono ?_); (focus ((repeat (first | (with_reducible exact Below.refl _ _) | (with_reducible assumption) | (with_reducible exact bel_box _) | (with_reducible refine bel_step ?_ (by with_reducible assumption)) | (with_reducible refine Below.drew ?_) | (with_reducible refine below_drewN ?_ _) | (with_reducible refine bel_alloc ?_ _))); done)); rintro e w2 ⟨X, rfl, hc, hR2, hb2⟩; obtain ⟨d0, d1, d2, d3, d4, d5, _⟩ := bxW_cells (w := w) (x := x) (W := w2) (by repeat (first | (with_reducible exact Below.refl _ _) | (with_reducible assumption) | (with_reducible exact bel_box _) | (with_reducible refine bel_step ?_ (by with_reducible assumption)) | (with_reducible refine Below.drew ?_) | (with_reducible refine below_drewN ?_ _) | (with_reducible refine bel_alloc ?_ _)))))
      obtain ⟨W3, hW3⟩ : ∃ W3, w2.alloc (.cells #[.int .i64 X.k, .int .i64 X.op, .int .i64 X.t, .int .i64 X.v, .string X.nm, .slice X.A X.ar.length X.c] 24) = W3 := ⟨_, rfl⟩
      have TB : Hid (∀ W, Below W3.heap.size W3 W → ((W.cell? ⟨w.heap.size, 0, none⟩ = some (.int .i64 x.k) ∧ W.cell? ⟨w.heap.size, 1, none⟩ = some (.int .i64 x.op) ∧ W.cell? ⟨w.heap.size, 2, none⟩ = some (.int .i64 x.t) ∧ W.cell? ⟨w.heap.size, 3, none⟩ = some (.int .i64 x.v) ∧ W.cell? ⟨w.heap.size, 4, none⟩ = some (.string x.nm) ∧ W.cell? ⟨w.heap.size, 5, none⟩ = some (.slice x.A x.ar.length x.c) ∧ W.cell? ⟨w2.heap.size, 0, none⟩ = some (.int .i64 X.k) ∧ W.cell? ⟨w2.heap.size, 1, none⟩ = some (.int .i64 X.op) ∧ W.cell? ⟨w2.heap.size, 2, none⟩ = some (.int .i64 X.t) ∧ W.cell? ⟨w2.heap.size, 3, none⟩ = some (.int .i64 X.v) ∧ W.cell? ⟨w2.heap.size, 4, none⟩ = some (.string X.nm) ∧ W.cell? ⟨w2.heap.size, 5, none⟩ = some (.slice X.A X.ar.length X.c)) ∧ RdX W W.heap.size X ∧ Below w.heap.size w W)) := Lib.hid fun W h => by
        rw [← hW3] at h
        have h2 : Below w2.heap.size w2 W := (bel_box _).trans (h.mono (by rw [World.size_alloc]; exact Nat.le_succ _))
        have h1 : Below (bxW w x).heap.size (bxW w x) W := Below.trans (show Below (bxW w x).heap.size (bxW w x) w2 from (by repeat (first | (with_reducible exact Below.refl _ _) | (with_reducible assumption) | (with_reducible exact bel_box _) | (with_reducible refine bel_step ?_ (by with_reducible assumption)) | (with_reducible refine Below.drew ?_) | (with_reducible refine below_drewN ?_ _) | (with_reducible refine bel_alloc ?_ _)))) (h2.mono (Below.size (show Below (bxW w x).heap.size (bxW w x) w2 from (by repeat (first | (with_reducible exact Below.refl _ _) | (with_reducible assumption) | (with_reducible exact bel_box _) | (with_reducible refine bel_step ?_ (by with_reducible assumption)) | (with_reducible refine Below.drew ?_) | (with_reducible refine below_drewN ?_ _) | (with_reducible refine bel_alloc ?_ _))))))
        exact ⟨two_box (w2 := w2) (y := X) h1 h, hR2.to h2, bxW_below h1⟩
      obtain ⟨⟨m0, m1, m2, m3, m4, m5, p0, p1, p2, p3, p4, p5⟩, hRX, hbX⟩ := TB.out W3 (Below.refl _ _)
      rw [hW3]
      have HC := Lib.hid hc
      have RR2 : Hid (∀ W, Below W3.heap.size W3 W → Calls Tryz.prog 31 #[.agg #[.int .i64 x.k, .int .i64 x.op, .int .i64 x.t, .int .i64 x.v, .string x.nm, .slice x.A x.ar.length x.c], .string a, .string b] W (NewV (x.rc (rnm a b)) W)) := Lib.hid fun W h => RR.out W (TB.out W h).2.2
      have S1 : Hid (∀ W, Below W3.heap.size W3 W → Calls Tryz.prog 14 #[.agg #[.int .i64 x.k, .int .i64 x.op, .int .i64 x.t, .int .i64 x.v, .string x.nm, .slice x.A x.ar.length x.c]] W (Bel (.int .i64 (n1 : Nat)) W)) := Lib.hid fun W h => K1.out W (TB.out W h).2.2
      have S2 : Hid (∀ W, Below W3.heap.size W3 W → Calls Tryz.prog 16 #[.agg #[.int .i64 x.k, .int .i64 x.op, .int .i64 x.t, .int .i64 x.v, .string x.nm, .slice x.A x.ar.length x.c]] W (Bel (.int .i64 (n2 : Nat)) W)) := Lib.hid fun W h => K2.out W (TB.out W h).2.2
      have S3 : Hid (∀ W, Below W3.heap.size W3 W → Calls Tryz.prog 14 #[.agg #[.int .i64 X.k, .int .i64 X.op, .int .i64 X.t, .int .i64 X.v, .string X.nm, .slice X.A X.ar.length X.c]] W (Bel (.int .i64 (n1 : Nat)) W)) := Lib.hid fun W h => K3.out X W HC.out (TB.out W h).2.1
      have S4 : Hid (∀ W, Below W3.heap.size W3 W → Calls Tryz.prog 16 #[.agg #[.int .i64 X.k, .int .i64 X.op, .int .i64 X.t, .int .i64 X.v, .string X.nm, .slice X.A X.ar.length X.c]] W (Bel (.int .i64 (n2 : Nat)) W)) := Lib.hid fun W h => K4.out X W HC.out (TB.out W h).2.1
      have S5 : Hid (∀ (Y : Xt) W, Y.ct = x.rc (rnm a b) → RdX W W.heap.size Y → Below W3.heap.size W3 W → Calls Tryz.prog 29 #[.agg #[.int .i64 X.k, .int .i64 X.op, .int .i64 X.t, .int .i64 X.v, .string X.nm, .slice X.A X.ar.length X.c], .agg #[.int .i64 Y.k, .int .i64 Y.op, .int .i64 Y.t, .int .i64 Y.v, .string Y.nm, .slice Y.A Y.ar.length Y.c]] W (Bel (.bool true) W)) := Lib.hid fun Y W hd k h => K5.out X Y W HC.out hd (TB.out W h).2.1 k
      have HW3 := Lib.hid hW3
      have HBX := Lib.hid hbX
      clear hW3 hbX hRX b0 b1 b2 b3 b4 b5 d0 d1 d2 d3 d4 d5 hc hR2 hb2 hb1
      go_region_held3 (fun w' => w'.cell? ⟨w.heap.size, 0, none⟩ = some (.int .i64 x.k) ∧ w'.cell? ⟨w.heap.size, 1, none⟩ = some (.int .i64 x.op) ∧ w'.cell? ⟨w.heap.size, 2, none⟩ = some (.int .i64 x.t) ∧ w'.cell? ⟨w.heap.size, 3, none⟩ = some (.int .i64 x.v) ∧ w'.cell? ⟨w.heap.size, 4, none⟩ = some (.string x.nm) ∧ w'.cell? ⟨w.heap.size, 5, none⟩ = some (.slice x.A x.ar.length x.c) ∧ w'.cell? ⟨w2.heap.size, 0, none⟩ = some (.int .i64 X.k) ∧ w'.cell? ⟨w2.heap.size, 1, none⟩ = some (.int .i64 X.op) ∧ w'.cell? ⟨w2.heap.size, 2, none⟩ = some (.int .i64 X.t) ∧ w'.cell? ⟨w2.heap.size, 3, none⟩ = some (.int .i64 X.v) ∧ w'.cell? ⟨w2.heap.size, 4, none⟩ = some (.string X.nm) ∧ w'.cell? ⟨w2.heap.size, 5, none⟩ = some (.slice X.A X.ar.length X.c))
        ((refine (TB.out _ ?_).1; (focus ((repeat (first | (with_reducible exact Below.refl _ _) | (with_reducible assumption) | (with_reducible exact bel_box _) | (with_reducible refine bel_step ?_ (by with_reducible assumption)) | (with_reducible refine Below.drew ?_) | (with_reducible refine below_drewN ?_ _) | (with_reducible refine bel_alloc ?_ _))); done))))
        (first
          | (go_at_call 31; (with_reducible refine (RR2.out _ ?_).mono ?_); (focus ((repeat (first | (with_reducible exact Below.refl _ _) | (with_reducible assumption) | (with_reducible exact bel_box _) | (with_reducible refine bel_step ?_ (by with_reducible assumption)) | (with_reducible refine Below.drew ?_) | (with_reducible refine below_drewN ?_ _) | (with_reducible refine bel_alloc ?_ _))); done)); rintro e w5 ⟨Y, rfl, hcY, hR5, hb5⟩)
          | (go_at_call 29; (with_reducible refine (S5.out Y _ hcY hR5 ?_).mono ?_); (focus ((repeat (first | (with_reducible exact Below.refl _ _) | (with_reducible assumption) | (with_reducible exact bel_box _) | (with_reducible refine bel_step ?_ (by with_reducible assumption)) | (with_reducible refine Below.drew ?_) | (with_reducible refine below_drewN ?_ _) | (with_reducible refine bel_alloc ?_ _))); done)); rintro e w6 ⟨rfl, hb6⟩)
          | (go_at_call 14; (with_reducible refine (S3.out _ ?_).mono ?_); (focus ((repeat (first | (with_reducible exact Below.refl _ _) | (with_reducible assumption) | (with_reducible exact bel_box _) | (with_reducible refine bel_step ?_ (by with_reducible assumption)) | (with_reducible refine Below.drew ?_) | (with_reducible refine below_drewN ?_ _) | (with_reducible refine bel_alloc ?_ _))); done)); rintro e w7 ⟨rfl, hb7⟩)
          | (go_at_call 14; (with_reducible refine (S1.out _ ?_).mono ?_); (focus ((repeat (first | (with_reducible exact Below.refl _ _) | (with_reducible assumption) | (with_reducible exact bel_box _) | (with_reducible refine bel_step ?_ (by with_reducible assumption)) | (with_reducible refine Below.drew ?_) | (with_reducible refine below_drewN ?_ _) | (with_reducible refine bel_alloc ?_ _))); done)); rintro e w8 ⟨rfl, hb8⟩)
          | (go_at_call 16; (with_reducible refine (S4.out _ ?_).mono ?_); (focus ((repeat (first | (with_reducible exact Below.refl _ _) | (with_reducible assumption) | (with_reducible exact bel_box _) | (with_reducible refine bel_step ?_ (by with_reducible assumption)) | (with_reducible refine Below.drew ?_) | (with_reducible refine below_drewN ?_ _) | (with_reducible refine bel_alloc ?_ _))); done)); rintro e w9 ⟨rfl, hb9⟩)
          | (go_at_call 16; (with_reducible refine (S2.out _ ?_).mono ?_); (focus ((repeat (first | (with_reducible exact Below.refl _ _) | (with_reducible assumption) | (with_reducible exact bel_box _) | (with_reducible refine bel_step ?_ (by with_reducible assumption)) | (with_reducible refine Below.drew ?_) | (with_reducible refine below_drewN ?_ _) | (with_reducible refine bel_alloc ?_ _))); done)); rintro e w10 ⟨rfl, hb10⟩))
      clear m0 m1 m2 m3 m4 m5 p0 p1 p2 p3 p4 p5
      have R8 : Hid (∀ W, Below W3.heap.size W3 W → Calls Tryz.prog 26 #[.agg #[.int .i64 x.k, .int .i64 x.op, .int .i64 x.t, .int .i64 x.v, .string x.nm, .slice x.A x.ar.length x.c]] W (NewN N W)) := Lib.hid fun W h => K8.out W (TB.out W h).2.2
      have R6 : Hid (∀ W, Below W3.heap.size W3 W → Calls Tryz.prog 30 #[.agg #[.int .i64 X.k, .int .i64 X.op, .int .i64 X.t, .int .i64 X.v, .string X.nm, .slice X.A X.ar.length X.c], .string b, .string a] W (NewV (X.rc (rnm b a)) W)) := Lib.hid fun W h => K6.out X W HC.out (TB.out W h).2.1
      have RL : Hid (∀ W, Below W3.heap.size W3 W → Calls Tryz.prog 11 #[] W (Bel (.bool true) W)) := Lib.hid fun W h => KL.out W (TB.out W h).2.2
      have R7 : Hid (∀ (Y : Xt) W, Y.ct = X.rc (rnm b a) → RdX W W.heap.size Y → Below W3.heap.size W3 W → Calls Tryz.prog 29 #[.agg #[.int .i64 Y.k, .int .i64 Y.op, .int .i64 Y.t, .int .i64 Y.v, .string Y.nm, .slice Y.A Y.ar.length Y.c], .agg #[.int .i64 x.k, .int .i64 x.op, .int .i64 x.t, .int .i64 x.v, .string x.nm, .slice x.A x.ar.length x.c]] W (Bel (.bool true) W)) := Lib.hid fun Y W hd k h => K7'.out X Y W HC.out hd k (TB.out W h).2.2
      go_wp2
      obtain ⟨m0, m1, m2, m3, m4, m5, p0, p1, p2, p3, p4, p5⟩ := (TB.out w10 (by repeat (first | (with_reducible exact Below.refl _ _) | (with_reducible assumption) | (with_reducible exact bel_box _) | (with_reducible refine bel_step ?_ (by with_reducible assumption)) | (with_reducible refine Below.drew ?_) | (with_reducible refine below_drewN ?_ _) | (with_reducible refine bel_alloc ?_ _)))).1
      go_region_held3 (fun w' => w'.cell? ⟨w.heap.size, 0, none⟩ = some (.int .i64 x.k) ∧ w'.cell? ⟨w.heap.size, 1, none⟩ = some (.int .i64 x.op) ∧ w'.cell? ⟨w.heap.size, 2, none⟩ = some (.int .i64 x.t) ∧ w'.cell? ⟨w.heap.size, 3, none⟩ = some (.int .i64 x.v) ∧ w'.cell? ⟨w.heap.size, 4, none⟩ = some (.string x.nm) ∧ w'.cell? ⟨w.heap.size, 5, none⟩ = some (.slice x.A x.ar.length x.c) ∧ w'.cell? ⟨w2.heap.size, 0, none⟩ = some (.int .i64 X.k) ∧ w'.cell? ⟨w2.heap.size, 1, none⟩ = some (.int .i64 X.op) ∧ w'.cell? ⟨w2.heap.size, 2, none⟩ = some (.int .i64 X.t) ∧ w'.cell? ⟨w2.heap.size, 3, none⟩ = some (.int .i64 X.v) ∧ w'.cell? ⟨w2.heap.size, 4, none⟩ = some (.string X.nm) ∧ w'.cell? ⟨w2.heap.size, 5, none⟩ = some (.slice X.A X.ar.length X.c))
        ((refine (TB.out _ ?_).1; (focus ((repeat (first | (with_reducible exact Below.refl _ _) | (with_reducible assumption) | (with_reducible exact bel_box _) | (with_reducible refine bel_step ?_ (by with_reducible assumption)) | (with_reducible refine Below.drew ?_) | (with_reducible refine below_drewN ?_ _) | (with_reducible refine bel_alloc ?_ _))); done))))
        (first
          | (go_at_call 26; (with_reducible refine (R8.out _ ?_).mono ?_); (focus ((repeat (first | (with_reducible exact Below.refl _ _) | (with_reducible assumption) | (with_reducible exact bel_box _) | (with_reducible refine bel_step ?_ (by with_reducible assumption)) | (with_reducible refine Below.drew ?_) | (with_reducible refine below_drewN ?_ _) | (with_reducible refine bel_alloc ?_ _))); done)); rintro e w11 ⟨A11, c11, rfl, hR11, hb11⟩)
          | (go_at_call 24; (with_reducible refine (K9.out _ _ _ hR11).mono ?_); rintro e w12 ⟨rfl, hb12⟩)
          | (go_at_call 30; (with_reducible refine (R6.out _ ?_).mono ?_); (focus ((repeat (first | (with_reducible exact Below.refl _ _) | (with_reducible assumption) | (with_reducible exact bel_box _) | (with_reducible refine bel_step ?_ (by with_reducible assumption)) | (with_reducible refine Below.drew ?_) | (with_reducible refine below_drewN ?_ _) | (with_reducible refine bel_alloc ?_ _))); done)); rintro e w13 ⟨Z, rfl, hcZ, hR13, hb13⟩)
          | (go_at_call 29; (with_reducible refine (R7.out Z _ hcZ hR13 ?_).mono ?_); (focus ((repeat (first | (with_reducible exact Below.refl _ _) | (with_reducible assumption) | (with_reducible exact bel_box _) | (with_reducible refine bel_step ?_ (by with_reducible assumption)) | (with_reducible refine Below.drew ?_) | (with_reducible refine below_drewN ?_ _) | (with_reducible refine bel_alloc ?_ _))); done)); rintro e w14 ⟨rfl, hb14⟩)
          | (go_at_call 11; (with_reducible refine (RL.out _ ?_).mono ?_); (focus ((repeat (first | (with_reducible exact Below.refl _ _) | (with_reducible assumption) | (with_reducible exact bel_box _) | (with_reducible refine bel_step ?_ (by with_reducible assumption)) | (with_reducible refine Below.drew ?_) | (with_reducible refine below_drewN ?_ _) | (with_reducible refine bel_alloc ?_ _))); done)); rintro e w15 ⟨rfl, hb15⟩))
      go_wp2
      go_ret
      exact ⟨rfl, HBX.out.trans (Below.mono (by repeat (first | (with_reducible exact Below.refl _ _) | (with_reducible assumption) | (with_reducible exact bel_box _) | (with_reducible refine bel_step ?_ (by with_reducible assumption)) | (with_reducible refine Below.drew ?_) | (with_reducible refine below_drewN ?_ _) | (with_reducible refine bel_alloc ?_ _))) HBX.out.size)⟩
    · clear K7
      go_enter Tryz.func7, Tryz.ntmps7
      go_wp2_with (first
        | (go_at_call 10; (with_reducible refine (KH.out _ ?_).mono ?_); (focus ((repeat (first | (with_reducible exact Below.refl _ _) | (with_reducible assumption) | (with_reducible exact bel_box _) | (with_reducible refine bel_step ?_ (by with_reducible assumption)) | (with_reducible refine Below.drew ?_) | (with_reducible refine below_drewN ?_ _) | (with_reducible refine bel_alloc ?_ _))); done)); rintro e w1 ⟨rfl, hb1⟩; obtain ⟨b0, b1, b2, b3, b4, b5, _⟩ := bxW_cells (w := w) (x := x) (W := w1) (by repeat (first | (with_reducible exact Below.refl _ _) | (with_reducible assumption) | (with_reducible exact bel_box _) | (with_reducible refine bel_step ?_ (by with_reducible assumption)) | (with_reducible refine Below.drew ?_) | (with_reducible refine below_drewN ?_ _) | (with_reducible refine bel_alloc ?_ _))))
        | (go_at_call 30; (with_reducible refine (KR.out _ ?_).mono ?_); (focus ((repeat (first | (with_reducible exact Below.refl _ _) | (with_reducible assumption) | (with_reducible exact bel_box _) | (with_reducible refine bel_step ?_ (by with_reducible assumption)) | (with_reducible refine Below.drew ?_) | (with_reducible refine below_drewN ?_ _) | (with_reducible refine bel_alloc ?_ _))); done)); rintro e w2 ⟨X, rfl, hc, hR2, hb2⟩; obtain ⟨d0, d1, d2, d3, d4, d5, _⟩ := bxW_cells (w := w) (x := x) (W := w2) (by repeat (first | (with_reducible exact Below.refl _ _) | (with_reducible assumption) | (with_reducible exact bel_box _) | (with_reducible refine bel_step ?_ (by with_reducible assumption)) | (with_reducible refine Below.drew ?_) | (with_reducible refine below_drewN ?_ _) | (with_reducible refine bel_alloc ?_ _)))))
      obtain ⟨W3, hW3⟩ : ∃ W3, w2.alloc (.cells #[.int .i64 X.k, .int .i64 X.op, .int .i64 X.t, .int .i64 X.v, .string X.nm, .slice X.A X.ar.length X.c] 24) = W3 := ⟨_, rfl⟩
      have TB : Hid (∀ W, Below W3.heap.size W3 W → ((W.cell? ⟨w.heap.size, 0, none⟩ = some (.int .i64 x.k) ∧ W.cell? ⟨w.heap.size, 1, none⟩ = some (.int .i64 x.op) ∧ W.cell? ⟨w.heap.size, 2, none⟩ = some (.int .i64 x.t) ∧ W.cell? ⟨w.heap.size, 3, none⟩ = some (.int .i64 x.v) ∧ W.cell? ⟨w.heap.size, 4, none⟩ = some (.string x.nm) ∧ W.cell? ⟨w.heap.size, 5, none⟩ = some (.slice x.A x.ar.length x.c) ∧ W.cell? ⟨w2.heap.size, 0, none⟩ = some (.int .i64 X.k) ∧ W.cell? ⟨w2.heap.size, 1, none⟩ = some (.int .i64 X.op) ∧ W.cell? ⟨w2.heap.size, 2, none⟩ = some (.int .i64 X.t) ∧ W.cell? ⟨w2.heap.size, 3, none⟩ = some (.int .i64 X.v) ∧ W.cell? ⟨w2.heap.size, 4, none⟩ = some (.string X.nm) ∧ W.cell? ⟨w2.heap.size, 5, none⟩ = some (.slice X.A X.ar.length X.c)) ∧ RdX W W.heap.size X ∧ Below w.heap.size w W)) := Lib.hid fun W h => by
        rw [← hW3] at h
        have h2 : Below w2.heap.size w2 W := (bel_box _).trans (h.mono (by rw [World.size_alloc]; exact Nat.le_succ _))
        have h1 : Below (bxW w x).heap.size (bxW w x) W := Below.trans (show Below (bxW w x).heap.size (bxW w x) w2 from (by repeat (first | (with_reducible exact Below.refl _ _) | (with_reducible assumption) | (with_reducible exact bel_box _) | (with_reducible refine bel_step ?_ (by with_reducible assumption)) | (with_reducible refine Below.drew ?_) | (with_reducible refine below_drewN ?_ _) | (with_reducible refine bel_alloc ?_ _)))) (h2.mono (Below.size (show Below (bxW w x).heap.size (bxW w x) w2 from (by repeat (first | (with_reducible exact Below.refl _ _) | (with_reducible assumption) | (with_reducible exact bel_box _) | (with_reducible refine bel_step ?_ (by with_reducible assumption)) | (with_reducible refine Below.drew ?_) | (with_reducible refine below_drewN ?_ _) | (with_reducible refine bel_alloc ?_ _))))))
        exact ⟨two_box (w2 := w2) (y := X) h1 h, hR2.to h2, bxW_below h1⟩
      obtain ⟨⟨m0, m1, m2, m3, m4, m5, p0, p1, p2, p3, p4, p5⟩, hRX, hbX⟩ := TB.out W3 (Below.refl _ _)
      rw [hW3]
      have HC := Lib.hid hc
      have RR2 : Hid (∀ W, Below W3.heap.size W3 W → Calls Tryz.prog 31 #[.agg #[.int .i64 x.k, .int .i64 x.op, .int .i64 x.t, .int .i64 x.v, .string x.nm, .slice x.A x.ar.length x.c], .string a, .string b] W (NewV (x.rc (rnm a b)) W)) := Lib.hid fun W h => RR.out W (TB.out W h).2.2
      have S1 : Hid (∀ W, Below W3.heap.size W3 W → Calls Tryz.prog 14 #[.agg #[.int .i64 x.k, .int .i64 x.op, .int .i64 x.t, .int .i64 x.v, .string x.nm, .slice x.A x.ar.length x.c]] W (Bel (.int .i64 (n1 : Nat)) W)) := Lib.hid fun W h => K1.out W (TB.out W h).2.2
      have S2 : Hid (∀ W, Below W3.heap.size W3 W → Calls Tryz.prog 16 #[.agg #[.int .i64 x.k, .int .i64 x.op, .int .i64 x.t, .int .i64 x.v, .string x.nm, .slice x.A x.ar.length x.c]] W (Bel (.int .i64 (n2 : Nat)) W)) := Lib.hid fun W h => K2.out W (TB.out W h).2.2
      have S3 : Hid (∀ W, Below W3.heap.size W3 W → Calls Tryz.prog 14 #[.agg #[.int .i64 X.k, .int .i64 X.op, .int .i64 X.t, .int .i64 X.v, .string X.nm, .slice X.A X.ar.length X.c]] W (Bel (.int .i64 (n1 : Nat)) W)) := Lib.hid fun W h => K3.out X W HC.out (TB.out W h).2.1
      have S4 : Hid (∀ W, Below W3.heap.size W3 W → Calls Tryz.prog 16 #[.agg #[.int .i64 X.k, .int .i64 X.op, .int .i64 X.t, .int .i64 X.v, .string X.nm, .slice X.A X.ar.length X.c]] W (Bel (.int .i64 (n2 : Nat)) W)) := Lib.hid fun W h => K4.out X W HC.out (TB.out W h).2.1
      have S5 : Hid (∀ (Y : Xt) W, Y.ct = x.rc (rnm a b) → RdX W W.heap.size Y → Below W3.heap.size W3 W → Calls Tryz.prog 29 #[.agg #[.int .i64 X.k, .int .i64 X.op, .int .i64 X.t, .int .i64 X.v, .string X.nm, .slice X.A X.ar.length X.c], .agg #[.int .i64 Y.k, .int .i64 Y.op, .int .i64 Y.t, .int .i64 Y.v, .string Y.nm, .slice Y.A Y.ar.length Y.c]] W (Bel (.bool true) W)) := Lib.hid fun Y W hd k h => K5.out X Y W HC.out hd (TB.out W h).2.1 k
      have HW3 := Lib.hid hW3
      have HBX := Lib.hid hbX
      clear hW3 hbX hRX b0 b1 b2 b3 b4 b5 d0 d1 d2 d3 d4 d5 hc hR2 hb2 hb1
      go_region_held3 (fun w' => w'.cell? ⟨w.heap.size, 0, none⟩ = some (.int .i64 x.k) ∧ w'.cell? ⟨w.heap.size, 1, none⟩ = some (.int .i64 x.op) ∧ w'.cell? ⟨w.heap.size, 2, none⟩ = some (.int .i64 x.t) ∧ w'.cell? ⟨w.heap.size, 3, none⟩ = some (.int .i64 x.v) ∧ w'.cell? ⟨w.heap.size, 4, none⟩ = some (.string x.nm) ∧ w'.cell? ⟨w.heap.size, 5, none⟩ = some (.slice x.A x.ar.length x.c) ∧ w'.cell? ⟨w2.heap.size, 0, none⟩ = some (.int .i64 X.k) ∧ w'.cell? ⟨w2.heap.size, 1, none⟩ = some (.int .i64 X.op) ∧ w'.cell? ⟨w2.heap.size, 2, none⟩ = some (.int .i64 X.t) ∧ w'.cell? ⟨w2.heap.size, 3, none⟩ = some (.int .i64 X.v) ∧ w'.cell? ⟨w2.heap.size, 4, none⟩ = some (.string X.nm) ∧ w'.cell? ⟨w2.heap.size, 5, none⟩ = some (.slice X.A X.ar.length X.c))
        ((refine (TB.out _ ?_).1; (focus ((repeat (first | (with_reducible exact Below.refl _ _) | (with_reducible assumption) | (with_reducible exact bel_box _) | (with_reducible refine bel_step ?_ (by with_reducible assumption)) | (with_reducible refine Below.drew ?_) | (with_reducible refine below_drewN ?_ _) | (with_reducible refine bel_alloc ?_ _))); done))))
        (first
          | (go_at_call 31; (with_reducible refine (RR2.out _ ?_).mono ?_); (focus ((repeat (first | (with_reducible exact Below.refl _ _) | (with_reducible assumption) | (with_reducible exact bel_box _) | (with_reducible refine bel_step ?_ (by with_reducible assumption)) | (with_reducible refine Below.drew ?_) | (with_reducible refine below_drewN ?_ _) | (with_reducible refine bel_alloc ?_ _))); done)); rintro e w5 ⟨Y, rfl, hcY, hR5, hb5⟩)
          | (go_at_call 29; (with_reducible refine (S5.out Y _ hcY hR5 ?_).mono ?_); (focus ((repeat (first | (with_reducible exact Below.refl _ _) | (with_reducible assumption) | (with_reducible exact bel_box _) | (with_reducible refine bel_step ?_ (by with_reducible assumption)) | (with_reducible refine Below.drew ?_) | (with_reducible refine below_drewN ?_ _) | (with_reducible refine bel_alloc ?_ _))); done)); rintro e w6 ⟨rfl, hb6⟩)
          | (go_at_call 14; (with_reducible refine (S3.out _ ?_).mono ?_); (focus ((repeat (first | (with_reducible exact Below.refl _ _) | (with_reducible assumption) | (with_reducible exact bel_box _) | (with_reducible refine bel_step ?_ (by with_reducible assumption)) | (with_reducible refine Below.drew ?_) | (with_reducible refine below_drewN ?_ _) | (with_reducible refine bel_alloc ?_ _))); done)); rintro e w7 ⟨rfl, hb7⟩)
          | (go_at_call 14; (with_reducible refine (S1.out _ ?_).mono ?_); (focus ((repeat (first | (with_reducible exact Below.refl _ _) | (with_reducible assumption) | (with_reducible exact bel_box _) | (with_reducible refine bel_step ?_ (by with_reducible assumption)) | (with_reducible refine Below.drew ?_) | (with_reducible refine below_drewN ?_ _) | (with_reducible refine bel_alloc ?_ _))); done)); rintro e w8 ⟨rfl, hb8⟩)
          | (go_at_call 16; (with_reducible refine (S4.out _ ?_).mono ?_); (focus ((repeat (first | (with_reducible exact Below.refl _ _) | (with_reducible assumption) | (with_reducible exact bel_box _) | (with_reducible refine bel_step ?_ (by with_reducible assumption)) | (with_reducible refine Below.drew ?_) | (with_reducible refine below_drewN ?_ _) | (with_reducible refine bel_alloc ?_ _))); done)); rintro e w9 ⟨rfl, hb9⟩)
          | (go_at_call 16; (with_reducible refine (S2.out _ ?_).mono ?_); (focus ((repeat (first | (with_reducible exact Below.refl _ _) | (with_reducible assumption) | (with_reducible exact bel_box _) | (with_reducible refine bel_step ?_ (by with_reducible assumption)) | (with_reducible refine Below.drew ?_) | (with_reducible refine below_drewN ?_ _) | (with_reducible refine bel_alloc ?_ _))); done)); rintro e w10 ⟨rfl, hb10⟩))
      clear m0 m1 m2 m3 m4 m5 p0 p1 p2 p3 p4 p5
      have R8 : Hid (∀ W, Below W3.heap.size W3 W → Calls Tryz.prog 26 #[.agg #[.int .i64 x.k, .int .i64 x.op, .int .i64 x.t, .int .i64 x.v, .string x.nm, .slice x.A x.ar.length x.c]] W (NewN N W)) := Lib.hid fun W h => K8.out W (TB.out W h).2.2
      have R6 : Hid (∀ W, Below W3.heap.size W3 W → Calls Tryz.prog 30 #[.agg #[.int .i64 X.k, .int .i64 X.op, .int .i64 X.t, .int .i64 X.v, .string X.nm, .slice X.A X.ar.length X.c], .string b, .string a] W (NewV (X.rc (rnm b a)) W)) := Lib.hid fun W h => K6.out X W HC.out (TB.out W h).2.1
      have RL : Hid (∀ W, Below W3.heap.size W3 W → Calls Tryz.prog 11 #[] W (Bel (.bool true) W)) := Lib.hid fun W h => KL.out W (TB.out W h).2.2
      go_wp2
      obtain ⟨m0, m1, m2, m3, m4, m5, p0, p1, p2, p3, p4, p5⟩ := (TB.out w10 (by repeat (first | (with_reducible exact Below.refl _ _) | (with_reducible assumption) | (with_reducible exact bel_box _) | (with_reducible refine bel_step ?_ (by with_reducible assumption)) | (with_reducible refine Below.drew ?_) | (with_reducible refine below_drewN ?_ _) | (with_reducible refine bel_alloc ?_ _)))).1
      first
        | (go_region_with (first
          | (go_at_call 26; (with_reducible refine (R8.out _ ?_).mono ?_); (focus ((repeat (first | (with_reducible exact Below.refl _ _) | (with_reducible assumption) | (with_reducible exact bel_box _) | (with_reducible refine bel_step ?_ (by with_reducible assumption)) | (with_reducible refine Below.drew ?_) | (with_reducible refine below_drewN ?_ _) | (with_reducible refine bel_alloc ?_ _))); done)); rintro e w11 ⟨A11, c11, rfl, hR11, hb11⟩)
          | (go_at_call 24; (with_reducible refine (K9.out _ _ _ hR11).mono ?_); rintro e w12 ⟨rfl, hb12⟩)
          | (go_at_call 11; (with_reducible refine (RL.out _ ?_).mono ?_); (focus ((repeat (first | (with_reducible exact Below.refl _ _) | (with_reducible assumption) | (with_reducible exact bel_box _) | (with_reducible refine bel_step ?_ (by with_reducible assumption)) | (with_reducible refine Below.drew ?_) | (with_reducible refine below_drewN ?_ _) | (with_reducible refine bel_alloc ?_ _))); done)); rintro e w15 ⟨rfl, hb15⟩)))
        | (fail)
      all_goals go_wp2
      all_goals go_ret
      all_goals exact ⟨rfl, HBX.out.trans (Below.mono (by repeat (first | (with_reducible exact Below.refl _ _) | (with_reducible assumption) | (with_reducible exact bel_box _) | (with_reducible refine bel_step ?_ (by with_reducible assumption)) | (with_reducible refine Below.drew ?_) | (with_reducible refine below_drewN ?_ _) | (with_reducible refine bel_alloc ?_ _))) HBX.out.size)⟩
  exact main _ rfl
end Go.Proofs.YtfogkcccjemloaaGreatDoor
/- The frame of the rows of layer 6: what the listed variables give; an argument that is an expression. -/
namespace Go.Proofs.YtfogkcccjemloaaGreatDoor
set_option linter.unusedVariables false
set_option linter.unusedSimpArgs false
open Go.ChangeShapes Go.WideShapes Go.ChangeAt Go.RowKit Go.Deep Go.WideElems
def laidL : List (String × DataW Unit) := [("math/bits.deBruijn32tab", Rows.laid_math_bits_deBruijn32tab), ("math/bits.deBruijn64tab", Rows.laid_math_bits_deBruijn64tab), ("internal/strconv.uint64pow10", Rows.laid_internal_strconv_uint64pow10), ("unicode/utf8.acceptRanges", Rows.laid_unicode_utf8_acceptRanges), ("strconv.ErrRange", Rows.laid_strconv_ErrRange), ("strconv.ErrSyntax", Rows.laid_strconv_ErrSyntax), ("unicode/utf8.first", Rows.laid_unicode_utf8_first)]
theorem tyTab : (Tryz.prog.globals[5]?).map (·.type) = some 137 := by kernel_rfl
theorem tySyn : (Tryz.prog.globals[1]?).map (·.type) = some 83 := by kernel_rfl
theorem tyRng : (Tryz.prog.globals[2]?).map (·.type) = some 83 := by kernel_rfl
theorem star : "*" ++ "errors.errorString" = "*errors.errorString" := by decide
theorem rowES (u : TypeId) (h : Tryz.prog.typeName? 3 u = some "*errors.errorString") : u = 127 :=
  typeName_ptr_named (nm := "errors.errorString") (by rw [star]; kernel_rfl) (by kernel_rfl) (by decide) u (by rw [star]; exact h)
theorem std_of_laid {W : World} (h : laidMetH Tryz.prog laidL W) : Std W := by
  rw [MakeChecks.laidMetH_plain _ _ _ (by kernel_rfl)] at h
  have h3 : laidMet Tryz.prog (("internal/strconv.uint64pow10", Lib.tabData .u64 Lib.pow10Tab) :: [("unicode/utf8.acceptRanges", Rows.laid_unicode_utf8_acceptRanges), ("strconv.ErrRange", Rows.laid_strconv_ErrRange), ("strconv.ErrSyntax", Rows.laid_strconv_ErrSyntax), ("unicode/utf8.first", Rows.laid_unicode_utf8_first)]) W := h.tail.tail
  have h4 := h3.tail.tail
  have h5 := h4.tail
  refine ⟨Lib.tabIs_of_head gTab tyTab Tryz.underlying137 Tryz.underlying112 (by kernel_rfl) (by kernel_rfl) h3, ?_, ?_⟩
  · obtain ⟨a, s, hv, _⟩ := laid_sentinel h5 gSyn tySyn Tryz.underlying83 rowES Tryz.underlying127 Tryz.underlying129 rfl rfl Tryz.underlying9 (by kernel_rfl) (by kernel_rfl)
    exact ⟨_, _, hv⟩
  · obtain ⟨a, s, hv, _⟩ := laid_sentinel h4 gRng tyRng Tryz.underlying83 rowES Tryz.underlying127 Tryz.underlying129 rfl rfl Tryz.underlying9 (by kernel_rfl) (by kernel_rfl)
    exact ⟨_, _, hv⟩
theorem int_le {n : Int} (h : (Lit.int .i64 n).wf = true) : n ≤ 9223372036854775807 := by
  have h2 : n ≤ IntKind.i64.max := by simp only [Lit.wf, Bool.and_eq_true, decide_eq_true_eq] at h; exact h.2
  exact h2
theorem int_ge {n : Int} (h : (Lit.int .i64 n).wf = true) : -9223372036854775808 ≤ n := by
  have h2 : IntKind.i64.min ≤ n := by simp only [Lit.wf, Bool.and_eq_true, decide_eq_true_eq] at h; exact h.1
  exact h2
theorem u8_le {n : Int} (h : (Lit.int .u8 n).wf = true) : n ≤ 255 := by
  have h2 : n ≤ IntKind.u8.max := by simp only [Lit.wf, Bool.and_eq_true, decide_eq_true_eq] at h; exact h.2
  exact h2
theorem u8_ge {n : Int} (h : (Lit.int .u8 n).wf = true) : 0 ≤ n := by
  have h2 : IntKind.u8.min ≤ n := by simp only [Lit.wf, Bool.and_eq_true, decide_eq_true_eq] at h; exact h.1
  exact h2
section
variable {H : Type} {enc : TypeId × Value → H} {w : World} {held : Bool}
theorem array6 {cs : Array Value} (h : cs.size = 6) : ∃ a b c d e f, cs = #[a, b, c, d, e, f] := by
  rcases cs with ⟨l⟩
  match l, h with
  | [a, b, c, d, e, f], _ => exact ⟨a, b, c, d, e, f, rfl⟩
set_option maxRecDepth 100000 in
/-- an expression, opened -/
theorem open_expr {b0 : Nat} {r : Reach} {v : Value} {d : DataW H} {p : List MemPlace} (hv : Value.okWide Tryz.prog w r b0 24 v) (h : DataW.Trod enc Tryz.prog w 0 (fun _ => true) held 24 v d p) (hsz : ∀ n ∈ d.weights Tryz.prog 24, n ≤ reachBytes) :
    ∃ x : Xt, v = xV x ∧ RdX w w.heap.size x ∧ NmB x := by
  obtain ⟨cs, rfl, hs⟩ := okWide_struct Tryz.underlying24 hv
  obtain ⟨fuel, hf⟩ := h
  obtain ⟨x, hx, hR, hN⟩ := rd_expr Tryz.underlying24 (by kernel_rfl) rfl rfl rfl rfl rfl rfl (by kernel_rfl) (by kernel_rfl) (by kernel_rfl) (by kernel_rfl) (by kernel_rfl) (by kernel_rfl) Tryz.underlying3 Tryz.underlying3 Tryz.underlying3 Tryz.underlying3 Tryz.underlying9 Tryz.underlying22 fuel _ _ hf hsz
  refine ⟨x, ?_, hR, hN⟩
  have : cs.toList = _ := hx
  unfold xV
  congr 1
  exact Array.toList_inj.1 this
end
end Go.Proofs.YtfogkcccjemloaaGreatDoor
