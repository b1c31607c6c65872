/- Texts of one chain, in one file. -/
import Derived.Sort.Grow
import Derived.RangeFuncNested
import Derived.RangeFuncBound
import Derived.RangeFuncCalls
import Derived.RangeFuncLeaves
import Derived.RangeFuncFrom
import Derived.Shelf.Abstract
import Derived.OwnWalkIn
import Derived.TacticsInMore
import Derived.LoopNIn
import Derived.LoopIn
import Derived.Laws.AppendOwnNone
import Derived.ProofKit
import Derived.OpenShut
import Derived.Deep.Slices
import Derived.Deep.SlicePairs
import Derived.Stop.LaidErr
import Derived.Lib.LaidTab
import Derived.LaidMore
import Derived.ChangeSlices
import Derived.ChangeSame
import Derived.Stop.Joined
import Derived.Test.YtahffafobdiogaaDoorQB
/- Parts: what it calls. -/
namespace Go.Proofs.YtahffafobdiogaaDoor
set_option linter.unusedVariables false
set_option linter.unusedSimpArgs false
open Go.RowKit
namespace gr
/-- a block of the heap is there, of whatever content but of this type -/
theorem sort_any (g cap : Nat) (l : List Nat) (w : World) (hg : g < w.heap.size) (hl : l.length ≤ 4096) (hc : ∀ (j : Nat) (x : Nat), l[j]? = some x → w.cell? ⟨g, j, none⟩ = some (.int .i64 (x : Int)) ∧ w.frozen? ⟨g, j, none⟩ = false) :
    Calls Tryd.prog 44 #[.slice (some ⟨g, 0, none⟩) l.length cap] w fun e w' => e = .returned (.tuple #[]) ∧ (∀ (j : Nat) (x : Nat), (l.mergeSort fun x y => decide (x ≤ y))[j]? = some x → w'.cell? ⟨g, j, none⟩ = some (.int .i64 (x : Int))) ∧ w.heap.size ≤ w'.heap.size ∧ Os w w' ∧ (∀ k, k < w.heap.size → k ≠ g → w'.heap[k]? = w.heap[k]?) ∧ ∀ c t f, w.heap[g]? = some (.cells c t f) → ∃ c', w'.heap[g]? = some (.cells c' t f) := by
  have hH : Sort.Holds (Value.int .i64) w g 0 (l.map fun x : Nat => (x : Int)).toArray := fun j hj => by
    simp only [List.size_toArray, List.length_map] at hj
    obtain ⟨h1, h2⟩ := hc j l[j] (List.getElem?_eq_getElem hj)
    rw [Nat.zero_add]
    refine ⟨?_, h2⟩
    rw [h1, getElem!_pos _ j (by simpa using hj)]
    simp
  have key := Tryd.slices_So g 0 cap (l.map fun x : Nat => (x : Int)) w hH hg (by rw [List.length_map]; omega)
  rw [List.length_map] at key
  refine key.mono ?_
  rintro e w' ⟨he, n, os, rfl⟩
  have hms : ((l.map fun x : Nat => (x : Int)).mergeSort fun x y => decide (x ≤ y)) = (l.mergeSort fun x y => decide (x ≤ y)).map fun x : Nat => (x : Int) := by
    rw [List.map_mergeSort]
    intro a _ b _
    simp
  have hH2 := Sort.holds_grow (Value.int .i64) _ os g 0 ((l.map fun x : Nat => (x : Int)).mergeSort fun x y => decide (x ≤ y)).toArray (by simpa using hg) (Sort.holds_putRow (Value.int .i64) (Sort.ahead w n) g 0 _ ((l.map fun x : Nat => (x : Int)).mergeSort fun x y => decide (x ≤ y)).toArray (Sort.holds_ahead _ w n g 0 _ hH) (by simp))
  refine ⟨he, fun j x hx => ?_, by simp, ⟨rfl, rfl, rfl⟩, fun k hk hkg => ?_, fun c t f hcg => ?_⟩
  · have hj : j < (l.mergeSort fun x y => decide (x ≤ y)).length := by
      rcases Nat.lt_or_ge j (l.mergeSort fun x y => decide (x ≤ y)).length with h | h
      · exact h
      · rw [List.getElem?_eq_none h] at hx; cases hx
    have h3 := (hH2 j (by rw [hms]; simpa using hj)).1
    rw [Nat.zero_add] at h3
    rw [h3, hms, getElem!_pos _ j (by simpa using hj)]
    rw [List.getElem?_eq_getElem hj] at hx
    injection hx with hx
    simp [hx]
  · rw [Sort.heap_grow_old _ os (by simpa using hk)]
    unfold Sort.putRow Sort.mapBlock
    simp only [Array.getElem?_modify, Sort.heap_ahead]
    rw [if_neg (fun e => hkg e.symm)]
  · rw [Sort.heap_grow_old _ os (by simpa using hg)]
    unfold Sort.putRow Sort.mapBlock
    simp only [Array.getElem?_modify, Sort.heap_ahead, if_true, hcg, Option.map_some, Sort.onCells]
    exact ⟨_, rfl⟩
/-- a row in a box: what is appended one by one -/
structure Bx (W : World) (pl B : Nat) (L : List Nat) : Prop where
  fc : ∃ V, W.cell? ⟨pl, 0, none⟩ = some V ∧ W.ownsRow B 3 1 V L.length (vV L)
  ff : W.frozen? ⟨pl, 0, none⟩ = false
  bz : B ≤ W.heap.size
  fit : pl < B
  nl : L = [] → W.cell? ⟨pl, 0, none⟩ = some (.slice none 0 0)
theorem Bx.keep {W W' : World} {pl B : Nat} {L : List Nat} (h : Bx W pl B L) (hb : Below W.heap.size W W') : Bx W' pl B L := by
  obtain ⟨V, h1, h2⟩ := h.fc
  exact ⟨⟨V, (hb.cell (p := ⟨pl, 0, none⟩) (World.block_lt_of_cell? W _ h1)).trans h1, own_keep h2 hb⟩, (hb.frozen (p := ⟨pl, 0, none⟩) (World.block_lt_of_cell? W _ h1)).trans h.ff, Nat.le_trans h.bz hb.size, h.fit, fun e => (hb.cell (p := ⟨pl, 0, none⟩) (World.block_lt_of_cell? W _ h1)).trans (h.nl e)⟩
theorem Bx.kp {S : Nat → Prop} {W W' : World} {pl B : Nat} {L : List Nat} (h : Bx W pl B L) (hk : Kp S W W') (hs : ∀ k, S k → k < B ∧ k ≠ pl) : Bx W' pl B L := by
  obtain ⟨V, h1, h2⟩ := h.fc
  have hp := World.block_lt_of_cell? W _ h1
  exact ⟨⟨V, (World.cell?_of_block (hk.2 pl hp (fun x => (hs _ x).2 rfl))).trans h1, hk.own h2 (fun k x => (hs k x).1)⟩, (World.frozen?_of_block (hk.2 pl hp (fun x => (hs _ x).2 rfl))).trans h.ff, Nat.le_trans h.bz hk.1, h.fit, fun e => (World.cell?_of_block (hk.2 pl hp (fun x => (hs _ x).2 rfl))).trans (h.nl e)⟩
/-- what an append may write: the box, and rows of numbers from B on -/
theorem own_grown_kt {W w3 : World} {B n : Nat} {A : Option Addr} {c : Nat} {xs : List Value} (o : Obj) (h : W.ownsRow B 3 1 (.slice A n c) n xs) (hg : (W.alloc o).grownBy w3 (Value.slice A n c).ownBlock) (T : Nat → Prop) : KT B T W w3 := by
  refine ⟨by have := hg.size; rw [World.size_alloc] at this; omega, fun k ob hk ht hi => ?_, ⟨hg.os, hg.tape, hg.output⟩⟩
  have hkl := (Array.getElem?_eq_some_iff.1 hk).1
  rw [hg.block k (by rw [World.size_alloc]; omega) (fun e => ?_)]
  · exact (Below.heap_alloc W o k hkl).trans hk
  · rcases h.2 with ⟨e1, _⟩ | ⟨g, cap, cur, e1, e2, e3, _⟩
    · injection e1 with e1 _ _
      rw [e1] at e
      cases e
    · injection e1 with e1 _ _
      rw [e1] at e
      simp only [Value.ownBlock, Option.some.injEq] at e
      subst e
      rw [e3] at hk
      injection hk with hk
      rcases hi with hi | hi
      · omega
      · exact hi ⟨_, _, hk.symm⟩
set_option maxRecDepth 100000 in
set_option maxHeartbeats 2000000 in
theorem papp1_any (pl B u : Nat) (L : List Nat) (W : World) (hL : L.length ≤ 4096) (h : Bx W pl B L) :
    Calls Tryd.prog 41 #[.int .i64 u, .pointer (some ⟨pl, 0, none⟩)] W fun e W' => e = .returned (.tuple #[]) ∧ Bx W' pl B (L ++ [u]) ∧ KT B (fun k => k = pl) W W' := by
  obtain ⟨V, hV, hO⟩ := h.fc
  have hff := h.ff
  have hbz := h.bz
  have hfit := h.fit
  have hlt : pl < W.heap.size := World.block_lt_of_cell? W _ hV
  obtain ⟨A, c, rfl⟩ := own_form hO
  obtain ⟨i0, hi, iz, is, ib⟩ := infoI
  have HO := Lib.hid hO
  clear h hO
  go_enter Tryd.func41, Tryd.ntmps41
  go_wp2_with (at_builtin; refine wpList_append_own_at _ rfl _ _ 24 rfl B 3 i0 (.int .i64 0) 1 8 Tryd.underlying24 hi iz is ib rfl (by decide) _ L.length (vV L) rfl (own_keep HO.out (bel_box _)) ⟨W.heap.size, 0, none⟩ 1 1 [.int .i64 (u : Int)] rfl rfl (row1 _ _ _) (one_int _) (by unfold maxLen; omega) (by omega) (by rw [World.size_alloc]; omega) ?_; intro V3 w3 hown3 hgrow3 _ _; obtain ⟨A3, c3, rfl⟩ := own_form hown3; have hkt := own_grown_kt _ HO.out hgrow3 (fun k => k = pl); have hb3 : Below B W w3 := own_below (Below.refl _ _) hbz HO.out hgrow3; have v3 : w3.cell? ⟨pl, 0, none⟩ = some (.slice A L.length c) := (hb3.cell (p := ⟨pl, 0, none⟩) hfit).trans hV; have r3 : w3.frozen? ⟨pl, 0, none⟩ = false := (hb3.frozen (p := ⟨pl, 0, none⟩) hfit).trans hff; have hown3 := Lib.hid hown3; have hb3 := Lib.hid hb3; have hkt := Lib.hid hkt; clear hgrow3)
  refine bodyPost_end (v := .tuple #[]) (results_none rfl _ _ _) rfl ?_
  have hw := hown3.out
  rw [vV_snoc] at hw
  have hk5 : Kp (fun k => k = pl) w3 (w3.setCell ⟨pl, 0, none⟩ (.slice A3 (L.length + 1) c3)) := Kp.set (S := fun k => k = pl) w3 (a := ⟨pl, 0, none⟩) rfl _
  refine ⟨rfl, ⟨⟨_, World.cell?_setCell_same w3 _ _ v3, ?_⟩, by rw [World.frozen?_setCell]; exact r3, by rw [World.size_setCell]; have := hb3.out.size; omega, hfit, fun e => (by simp at e)⟩, hkt.out.trans (.kp hk5)⟩
  rw [show (L ++ [u]).length = L.length + 1 by simp]
  exact hk5.own hw (fun k e => by omega)
set_option maxRecDepth 100000 in
set_option maxHeartbeats 2000000 in
theorem papp2_any (pl B u : Nat) (L : List Nat) (W : World) (hL : L.length ≤ 4096) (h : Bx W pl B L) :
    Calls Tryd.prog 43 #[.int .i64 u, .pointer (some ⟨pl, 0, none⟩)] W fun e W' => e = .returned (.tuple #[]) ∧ Bx W' pl B (L ++ [u]) ∧ KT B (fun k => k = pl) W W' := by
  obtain ⟨V, hV, hO⟩ := h.fc
  have hff := h.ff
  have hbz := h.bz
  have hfit := h.fit
  have hlt : pl < W.heap.size := World.block_lt_of_cell? W _ hV
  obtain ⟨A, c, rfl⟩ := own_form hO
  obtain ⟨i0, hi, iz, is, ib⟩ := infoI
  have HO := Lib.hid hO
  clear h hO
  go_enter Tryd.func43, Tryd.ntmps43
  go_wp2_with (at_builtin; refine wpList_append_own_at _ rfl _ _ 24 rfl B 3 i0 (.int .i64 0) 1 8 Tryd.underlying24 hi iz is ib rfl (by decide) _ L.length (vV L) rfl (own_keep HO.out (bel_box _)) ⟨W.heap.size, 0, none⟩ 1 1 [.int .i64 (u : Int)] rfl rfl (row1 _ _ _) (one_int _) (by unfold maxLen; omega) (by omega) (by rw [World.size_alloc]; omega) ?_; intro V3 w3 hown3 hgrow3 _ _; obtain ⟨A3, c3, rfl⟩ := own_form hown3; have hkt := own_grown_kt _ HO.out hgrow3 (fun k => k = pl); have hb3 : Below B W w3 := own_below (Below.refl _ _) hbz HO.out hgrow3; have v3 : w3.cell? ⟨pl, 0, none⟩ = some (.slice A L.length c) := (hb3.cell (p := ⟨pl, 0, none⟩) hfit).trans hV; have r3 : w3.frozen? ⟨pl, 0, none⟩ = false := (hb3.frozen (p := ⟨pl, 0, none⟩) hfit).trans hff; have hown3 := Lib.hid hown3; have hb3 := Lib.hid hb3; have hkt := Lib.hid hkt; clear hgrow3)
  refine bodyPost_end (v := .tuple #[]) (results_none rfl _ _ _) rfl ?_
  have hw := hown3.out
  rw [vV_snoc] at hw
  have hk5 : Kp (fun k => k = pl) w3 (w3.setCell ⟨pl, 0, none⟩ (.slice A3 (L.length + 1) c3)) := Kp.set (S := fun k => k = pl) w3 (a := ⟨pl, 0, none⟩) rfl _
  refine ⟨rfl, ⟨⟨_, World.cell?_setCell_same w3 _ _ v3, ?_⟩, by rw [World.frozen?_setCell]; exact r3, by rw [World.size_setCell]; have := hb3.out.size; omega, hfit, fun e => (by simp at e)⟩, hkt.out.trans (.kp hk5)⟩
  rw [show (L ++ [u]).length = L.length + 1 by simp]
  exact hk5.own hw (fun k e => by omega)
end gr
end Go.Proofs.YtahffafobdiogaaDoor
/- slices.Backward: the iterator. -/
namespace Go.Proofs.YtahffafobdiogaaDoor
set_option linter.unusedVariables false
set_option linter.unusedSimpArgs false
open Go.RowKit Go.Shelf
attribute [local go_sem] Oper.semAt_some
namespace gr
/-- the blocks of cells below N but for those of S are as they were -/
structure Kn (N : Nat) (S : Nat → Prop) (W W' : World) : Prop where
  size : W.heap.size ≤ W'.heap.size
  cells : ∀ (k : Nat) (o : Obj), k < N → ¬ S k → W.heap[k]? = some o → o.isCells = true → W'.heap[k]? = some o
theorem Kn.refl (N : Nat) (S : Nat → Prop) (W : World) : Kn N S W W := ⟨Nat.le_refl _, fun _ _ _ _ h _ => h⟩
theorem Kn.trans {N : Nat} {S : Nat → Prop} : ∀ {A B C : World}, Kn N S A B → Kn N S B C → Kn N S A C := fun h g => ⟨Nat.le_trans h.1 g.1, fun k o hk hs ho hc => g.2 k o hk hs (h.2 k o hk hs ho hc) hc⟩
theorem Kn.put {N : Nat} {S : Nat → Prop} {M : Nat} : ∀ (W : World) (l : Nat) (o o' : Obj), M ≤ l → W.heap[l]? = some o → o.isCells = false → o.isWalk = false → Kn N S W (W.putObj l o') := fun W l o o' _ ho hc _ => by
  refine ⟨by simp, fun k q _ _ hq hqc => ?_⟩
  rw [World.putObj_heap_other (fun e => by subst e; rw [ho] at hq; injection hq with hq; subst hq; rw [hc] at hqc; cases hqc)]
  exact hq
theorem Kn.cell {N : Nat} {S : Nat → Prop} {W W' : World} (h : Kn N S W W') {a : Addr} {v : Value} (hc : W.cell? a = some v) (hN : a.block < N) (hs : ¬ S a.block) : W'.cell? a = some v := by
  obtain ⟨o, ho, hk⟩ := cells_of_cell hc
  exact (World.cell?_of_block ((h.2 _ o hN hs ho hk).trans ho.symm)).trans hc
/-- what comes, from the last on: its place and itself, with what is known of it -/
def bk (zs : List Nat) (Q : Nat → Prop) (hQ : ∀ j, Q (zs.getD j 0)) (k : Nat) : List {p : Nat × Nat // Q p.2} := (List.range k).map fun j => ⟨(zs.length - 1 - j, zs.getD (zs.length - 1 - j) 0), hQ _⟩
theorem bk_succ (zs : List Nat) (Q : Nat → Prop) (hQ : ∀ j, Q (zs.getD j 0)) (k : Nat) : bk zs Q hQ (k + 1) = bk zs Q hQ k ++ [⟨(zs.length - 1 - k, zs.getD (zs.length - 1 - k) 0), hQ _⟩] := by
  unfold bk
  rw [List.range_succ, List.map_append]
  rfl
theorem bk_len (zs : List Nat) (Q : Nat → Prop) (hQ : ∀ j, Q (zs.getD j 0)) (k : Nat) : (bk zs Q hQ k).length = k := by simp [bk]
set_option maxHeartbeats 400000 in
theorem backw_any (A : Option Addr) (n c : Nat) (w : World) : Calls Tryd.prog 42 #[.slice A n c] w fun e w' => e = .returned (.func (.func 59) #[] #[.pointer (some ⟨w.heap.size, 0, none⟩)]) ∧ w' = w.alloc (.cells #[.slice A n c] 24) := by
  go_enter Tryd.func42, Tryd.ntmps42
  go_wp2
  go_ret
  exact ⟨rfl, rfl⟩
set_option maxRecDepth 100000 in
set_option maxHeartbeats 4000000 in
theorem backw_stops (Q : Nat → Prop) (n Bs N : Nat) (S : Nat → Prop) (A : Option Addr) (c : Nat) (zs : List Nat) (hQ : ∀ j, Q (zs.getD j 0)) (hz : zs.length ≤ 4096) (w : World) (hBs : Bs < w.heap.size) (hN : N ≤ w.heap.size) (hBN : Bs < N) (hBS : ¬ S Bs) (hc : w.cell? ⟨Bs, 0, none⟩ = some (.slice A zs.length c))
    (hr : ∀ (j x : Nat), zs[j]? = some x → ∃ ad, A = some ad ∧ ad.block < N ∧ ¬ S ad.block ∧ w.cell? (ad.add j) = some (.int .i64 (x : Int))) :
    SeqStopsK Fence.wide n Tryd.prog 59 #[.pointer (some ⟨Bs, 0, none⟩)] (fun x : {p : Nat × Nat // Q p.2} => #[.int .i64 ((x.1.1 : Nat) : Int), .int .i64 ((x.1.2 : Nat) : Int)]) (Kn N S) (fun ys => ys = bk zs Q hQ zs.length) (fun _ => True) zs.length w := by
  intro l J Jx W hW hJ _ hY h0
  have hdd : ∀ k : Nat, (Fence.wide.depth.isSome = true → 1 ≤ k) := fun k h => by cases h
  have hcW := (hW.cell (p := ⟨Bs, 0, none⟩) hBs).trans hc
  have HR := Lib.hid (fun (j x : Nat) (h : zs[j]? = some x) => by
    obtain ⟨ad, h1, h2, h3, h4⟩ := hr j x h
    exact (⟨ad, h1, h2, h3, (hW.cell (p := ad.add j) (by rw [add_block]; omega)).trans h4⟩ : ∃ ad, A = some ad ∧ ad.block < N ∧ ¬ S ad.block ∧ W.cell? (ad.add j) = some (.int .i64 (x : Int))))
  clear hr hc hW
  refine callsIn_of_wp Tryd.func59 rfl trivial ?_ rfl
  simp only [Tryd.ntmps59, List.append_toArray, List.size_toArray, List.length_append, List.length_cons, List.length_nil, Nat.reduceAdd, Nat.reduceSub, Array.replicate_succ, Array.replicate_zero, List.push_toArray, List.nil_append, List.cons_append]
  obtain ⟨m, hm⟩ : ∃ m, zs.length = m := ⟨_, rfl⟩
  rw [hm] at hcW hY hz
  have HM := Lib.hid hm
  clear hm
  gi_wp2
  gi_loopw [3] (fun i wr => ∃ k r : Nat, k + r = m ∧ i = .int .i64 ((r : Int) - 1) ∧ J (bk zs Q hQ k) wr ∧ Kn N S W wr) (fun i _ => (intOf i + 1).toNat)
  case atStart => exact ⟨0, m, by omega, rfl, h0, Kn.refl _ _ _⟩
  case round =>
    obtain ⟨k, r, hkr, rfl, hJs, hkn⟩ := hrel
    have hcb := hkn.cell hcW hBN hBS
    cases r with
    | zero =>
      have hkm : k = m := by omega
      subst hkm
      gi_wp2
      go_end0
      exact ⟨⟨_, rfl⟩, .inl ⟨_, rfl, by rw [HM.out]; exact hJs⟩⟩
    | succ r =>
      have hri : zs[r]? = some (zs.getD r 0) := by
        rw [List.getElem?_eq_getElem (by rw [HM.out]; omega), List.getD, List.getElem?_eq_getElem (by rw [HM.out]; omega)]
        rfl
      obtain ⟨ad, rfl, g1, g2, g3⟩ := HR.out r _ hri
      have hcc := hkn.cell g3 (by rw [add_block]; exact g1) (by rw [add_block]; exact g2)
      have hy0 := hY _ ⟨(r, zs.getD r 0), hQ r⟩ wr hJs (by rw [bk_len]; omega)
      have e1 : bk zs Q hQ k ++ [⟨(r, zs.getD r 0), hQ r⟩] = bk zs Q hQ (k + 1) := by
        rw [bk_succ]
        have e0 : zs.length - 1 - k = r := by rw [HM.out]; omega
        subst e0
        rfl
      rw [e1] at hy0
      obtain ⟨fn, tmps, assign, body, hy, hR⟩ := hy0
      dsimp only at hy
      have x1 : ((r + 1 : Nat) : Int) - 1 = (r : Int) := by omega
      have x2 : (r : Int) < (m : Int) := by omega
      have x3 : (0 : Int) ≤ (r : Int) := by omega
      rw [x1]
      have HX1 := Lib.hid x1
      clear x1
      clear e1 hri g3 hY HR
      generalize zs.getD r 0 = y at *
      gi_wp2
      refine ⟨fun h => (by cases h), hR.mono ?_⟩
      rintro e W3 (⟨rfl, hJ3, hk3⟩ | ⟨rfl, hJx3⟩)
      · gi_wp2
        go_roundw
        case rel => exact ⟨k + 1, r, by omega, rfl, hJ3, hkn.trans hk3⟩
        case measure => simp [intOf] <;> omega
      · gi_wp2
        refine bodyPost_ret (results_none rfl _ _ _) rfl ?_
        exact ⟨⟨_, rfl⟩, .inr ⟨_, trivial, hJx3⟩⟩
end gr
end Go.Proofs.YtahffafobdiogaaDoor
/- Parts: what the second search finds: plain. -/
namespace Go.Proofs.YtahffafobdiogaaDoor
set_option linter.unusedVariables false
set_option linter.unusedSimpArgs false
open Go.RowKit
namespace gr
/-- what the search along the edges leaves -/
structure Lft (E : Nat → Nat → Bool) (n : Nat) (L : List Nat) : Prop where
  mem : ∀ x, x ∈ L ↔ x < n
  nd : L.Nodup
  hd : ∀ b x, Ahd L b x → Rch (nbs E n) b x → ∃ z, Mut (nbs E n) b z ∧ (z = x ∨ Ahd L x z)
theorem lft_of {E : Nat → Nat → Bool} {n : Nat} {S L : List Nat} (h : Dfs (nbs E n) (List.range n) [] [] S L) : Lft E n L := by
  obtain ⟨h1, h2, h3⟩ := whole h
  obtain ⟨_, _, h4⟩ := dfs_inv (n := n) nbs_lt h (fun x hx => List.mem_range.1 hx) (fun x hx => (by cases hx)) List.nodup_nil (fun x hx => (by cases hx))
  refine ⟨fun x => ⟨fun hx => h4 x ((h1 x).1 hx), fun hx => (h1 x).2 (h.sub.2 x (List.mem_range.2 hx))⟩, h2, h3⟩
theorem Lft.len {E : Nat → Nat → Bool} {n : Nat} {L : List Nat} (h : Lft E n L) : L.length = n := by
  have h1 := nodup_len' L (List.range n) h.nd fun x hx => List.mem_range.2 ((h.mem x).1 hx)
  have h2 := nodup_len' (List.range n) L List.nodup_range fun x hx => (h.mem x).2 (List.mem_range.1 hx)
  rw [List.length_range] at h1 h2
  omega
/-- the state of the second search: what is behind is B, seen are T, the parts are ps -/
structure Pst (E : Nat → Nat → Bool) (n : Nat) (B T : List Nat) (ps : List (List Nat)) : Prop where
  seen : ∀ x, x ∈ T ↔ ∃ z ∈ B, Mut (nbs E n) x z
  parts : ∀ l, l ∈ ps ↔ ∃ v ∈ B, l = cmp (nbs E n) n v
  diff : ps.Pairwise (fun a b => a.headD 0 ≠ b.headD 0)
theorem Pst.nil (E : Nat → Nat → Bool) (n : Nat) : Pst E n [] [] [] := ⟨fun x => (by simp), fun l => (by simp), List.Pairwise.nil⟩
theorem Pst.skip {E : Nat → Nat → Bool} {n v : Nat} {B T : List Nat} {ps : List (List Nat)} (h : Pst E n B T ps) (hv : v ∈ T) : Pst E n (v :: B) T ps := by
  obtain ⟨z, hz, hm⟩ := (h.seen v).1 hv
  refine ⟨fun x => ?_, fun l => ?_, h.diff⟩
  · rw [h.seen x]
    constructor
    · rintro ⟨y, hy, hm2⟩
      exact ⟨y, List.mem_cons_of_mem _ hy, hm2⟩
    · rintro ⟨y, hy, hm2⟩
      rcases List.mem_cons.1 hy with rfl | hy
      · exact ⟨z, hz, hm2.trans hm⟩
      · exact ⟨y, hy, hm2⟩
  · rw [h.parts l]
    constructor
    · rintro ⟨y, hy, e⟩
      exact ⟨y, List.mem_cons_of_mem _ hy, e⟩
    · rintro ⟨y, hy, e⟩
      rcases List.mem_cons.1 hy with rfl | hy
      · exact ⟨z, hz, e.trans (cmp_eq hm)⟩
      · exact ⟨y, hy, e⟩
theorem cmp_cons {s : Nat → List Nat} {n v : Nat} (hv : v < n) : ∃ a r, cmp s n v = a :: r ∧ a < n ∧ Mut s v a := by
  have hm : v ∈ cmp s n v := cmp_mem.2 ⟨hv, Mut.refl s v⟩
  cases hc : cmp s n v with
  | nil => rw [hc] at hm; cases hm
  | cons a r =>
    have : a ∈ cmp s n v := by rw [hc]; exact List.mem_cons_self
    exact ⟨a, r, rfl, cmp_mem.1 this⟩
theorem cmp_head {s : Nat → List Nat} {n u v : Nat} (hu : u < n) (hv : v < n) (h : (cmp s n u).headD 0 = (cmp s n v).headD 0) : Mut s u v := by
  obtain ⟨a, r, e1, _, h1⟩ := cmp_cons (s := s) hu
  obtain ⟨b, q, e2, _, h2⟩ := cmp_cons (s := s) hv
  rw [e1, e2] at h
  simp only [List.headD_cons] at h
  subst h
  exact h1.trans h2.symm
/-- the members of a component, sorted -/
theorem sorted_cmp {E : Nat → Nat → Bool} {n v : Nat} {M : List Nat} (hn : M.Nodup) (hlt : ∀ x, Mut (nbs E n) x v → x < n) (hm : ∀ x, x ∈ M ↔ Mut (nbs E n) x v) : (M.mergeSort fun x y => decide (x ≤ y)) = cmp (nbs E n) n v := by
  have hp := List.mergeSort_perm M (fun x y => decide (x ≤ y))
  refine asc_ext id _ _ ?_ (cmp_asc _ n v) fun x => ?_
  · have h1 : (M.mergeSort fun x y => decide (x ≤ y)).Pairwise fun a b => decide (a ≤ b) = true := List.pairwise_mergeSort (fun a b c h1 h2 => by simp at *; omega) (fun a b => by simp; omega) M
    have h2 : (M.mergeSort fun x y => decide (x ≤ y)).Nodup := hp.nodup_iff.2 hn
    refine (h1.and h2).imp fun {a b} h => ?_
    simp only [decide_eq_true_eq] at h
    simp only [id]
    omega
  · rw [hp.mem_iff, hm, cmp_mem]
    exact ⟨fun h => ⟨hlt x h, h.symm⟩, fun h => h.2.symm⟩
theorem Pst.step {E E' : Nat → Nat → Bool} (hE' : ∀ u x, E' u x = E x u) {n v : Nat} (hEn : ∀ u x, E u x = true → x < n) (hEm : ∀ u x, E u x = true → u < n) {L A B T T' M : List Nat} {ps : List (List Nat)} (hL : Lft E n L) (hs : L = A ++ v :: B) (h : Pst E n B T ps) (hv : v ∉ T) (hd : Dfs (nbs E' n) [v] T [] T' M) :
    Pst E n (v :: B) T' (ps ++ [M.mergeSort fun x y => decide (x ≤ y)]) ∧ M ≠ [] ∧ (M.mergeSort fun x y => decide (x ≤ y)) = cmp (nbs E n) n v := by
  have hvn : v < n := (hL.mem v).1 (by rw [hs]; simp)
  have hrl : ∀ x, Rch (nbs E n) x v → x < n := fun x hr => by
    cases hr with
    | refl => exact hvn
    | step h1 _ => exact hEm _ _ (nbs_mem.1 h1).2
  obtain ⟨g1, M', hM, g2, g3⟩ := part_step (s := nbs E n) (t := nbs E' n) (fun x y hy => nbs_mem.2 ⟨hEm _ _ (nbs_mem.1 hy).2, (hE' y x).trans (nbs_mem.1 hy).2⟩) (fun x y hx => nbs_mem.2 ⟨hEn x y ((hE' y x).symm.trans (nbs_mem.1 hx).2), (hE' y x).symm.trans (nbs_mem.1 hx).2⟩) hs hL.hd hL.nd (fun x hr => (hL.mem x).2 (hrl x hr)) h.seen hv hd
  rw [List.nil_append] at hM
  subst hM
  have hsc := sorted_cmp g2 (fun x hx => hrl x hx.1) g3
  have hBn : ∀ z ∈ B, z < n := fun z hz => (hL.mem z).1 (by rw [hs]; simp [hz])
  refine ⟨⟨fun x => ?_, fun l => ?_, ?_⟩, ?_, hsc⟩
  · rw [g1 x, h.seen x]
    constructor
    · rintro (⟨z, hz, hm⟩ | hm)
      · exact ⟨z, List.mem_cons_of_mem _ hz, hm⟩
      · exact ⟨v, List.mem_cons_self, hm⟩
    · rintro ⟨z, hz, hm⟩
      rcases List.mem_cons.1 hz with rfl | hz
      · exact .inr hm
      · exact .inl ⟨z, hz, hm⟩
  · rw [List.mem_append, List.mem_singleton, h.parts l, hsc]
    constructor
    · rintro (⟨z, hz, e⟩ | e)
      · exact ⟨z, List.mem_cons_of_mem _ hz, e⟩
      · exact ⟨v, List.mem_cons_self, e⟩
    · rintro ⟨z, hz, e⟩
      rcases List.mem_cons.1 hz with rfl | hz
      · exact .inr e
      · exact .inl ⟨z, hz, e⟩
  · rw [List.pairwise_append]
    refine ⟨h.diff, by simp, fun a ha b hb e => ?_⟩
    rw [List.mem_singleton, hsc] at hb
    subst hb
    obtain ⟨z, hz, rfl⟩ := (h.parts a).1 ha
    exact hv ((h.seen v).2 ⟨z, hz, (cmp_head (hBn z hz) hvn e).symm⟩)
  · intro e
    have := (g3 v).2 (Mut.refl _ v)
    rw [e] at this
    cases this
/-- all parts, sorted by their least vertices -/
theorem Pst.done {E : Nat → Nat → Bool} {n : Nat} {L T : List Nat} {ps qs : List (List Nat)} (hL : Lft E n L) (h : Pst E n L T ps) (hp : qs.Perm ps) (hs : qs.Pairwise fun a b => a.headD 0 ≤ b.headD 0) : qs = prts (nbs E n) n := by
  refine prts_uniq ?_ fun l => ?_
  · have hd : qs.Pairwise fun a b => a.headD 0 ≠ b.headD 0 := (hp.pairwise_iff (fun {a b} h => Ne.symm h)).2 h.diff
    exact (hs.and hd).imp fun {a b} h => by have := h.1; have := h.2; omega
  · rw [hp.mem_iff, h.parts l]
    constructor
    · rintro ⟨v, hv, e⟩
      exact ⟨v, (hL.mem v).1 hv, e⟩
    · rintro ⟨v, hv, e⟩
      exact ⟨v, (hL.mem v).2 hv, e⟩
end gr
end Go.Proofs.YtahffafobdiogaaDoor
/- Parts: its searches, what its second loop keeps. -/
namespace Go.Proofs.YtahffafobdiogaaDoor
set_option linter.unusedVariables false
set_option linter.unusedSimpArgs false
open Go.RowKit
namespace gr
theorem pwalk (fn lb n sb pl B : Nat) (eg : ∀ args w, (callFunc fn args).run Tryd.prog w = .ok (.enter fn args) w) (hpa : ∀ u L W, L.length ≤ 4096 → Bx W pl B L → Calls Tryd.prog fn #[.int .i64 ((u : Nat) : Int), .pointer (some ⟨pl, 0, none⟩)] W fun e W' => e = .returned (.tuple #[]) ∧ Bx W' pl B (L ++ [u]) ∧ KT B (fun k => k = pl) W W')
    (E : Nat → Nat → Bool) (hn : n ≤ 4096) (hEn : ∀ u w, E u w = true → w < n) (v : Nat) (S L : List Nat) (W : World) (hv : v < n) (hL : LkE W lb n E) (hS : Seen W sb n S) (hB : Bx W pl B L) (hT : Tz W) (hin : (∀ x ∈ L, x ∈ S) ∧ L.Nodup ∧ ∀ x ∈ S, x < n)
    (hsB : sb < B) (hsp : sb ≠ pl) (hsl : ¬ (lb ≤ sb ∧ sb ≤ lb + n)) (hpl : ¬ (lb ≤ pl ∧ pl ≤ lb + n)) (htB : tzB < B) (htp : tzB ≠ pl) (hts : tzB ≠ sb) :
    Calls Tryd.prog 38 #[sl lb n, .int .i64 v, sl sb (sizeW n), .func (.func fn) #[] #[.pointer (some ⟨pl, 0, none⟩)]] W fun e W' => e = .returned (.tuple #[]) ∧ ∃ S' L', Dfs (nbs E n) [v] S L S' L' ∧ Seen W' sb n S' ∧ Bx W' pl B L' ∧ KT B (fun k => k = pl ∨ k = sb) W W' := by
  have hplB := hB.fit
  refine (walk_any lb n sb B fn _ eg E hEn hn (fun k => k = pl) (fun L W => Bx W pl B L ∧ Tz W) (fun k hk => by omega) hsB (fun e => hsp e) (fun k h1 h2 e => hpl ⟨by omega, by omega⟩) hsl
    (fun l W W' ⟨g1, g2⟩ hb => ⟨g1.keep hb, g2.keep hb⟩)
    (fun l W i x ⟨g1, g2⟩ => ⟨g1.kp (Kp.set (S := fun k => k = sb) W (a := ⟨sb, i, none⟩) rfl x) (fun k e => ⟨by omega, fun e2 => hsp (by omega)⟩), g2.kp (Kp.set (S := fun k => k = sb) W (a := ⟨sb, i, none⟩) rfl x) (fun e => hts e)⟩)
    (fun l W h => h.2) ?_ (uns n S) v S L W (Nat.le_refl _) hv hL hS ⟨hB, hT⟩ hB.bz hin).mono ?_
  · rintro l u U hu hnd hlt ⟨g1, g2⟩ hBz
    have hlen : l.length ≤ 4096 := by
      have := nodup_len' _ (List.range n) hnd fun x hx => List.mem_range.2 (hlt x hx)
      rw [List.length_range, List.length_append, List.length_singleton] at this
      omega
    refine (hpa u l U hlen g1).mono ?_
    rintro e U' ⟨he, q1, q2⟩
    refine ⟨he, ⟨q1, fun j hj => ?_⟩, q2⟩
    have hc := g2 j hj
    obtain ⟨o, ho, hk⟩ := cells_of_cell hc
    exact (World.cell?_of_block ((q2.2 tzB o ho (fun e => htp e) (.inl htB)).trans ho.symm)).trans hc
  · rintro e W' ⟨he, S', L', h1, h2, ⟨h3, _⟩, h4⟩
    exact ⟨he, S', L', h1, h2, h3, h4⟩
/-- a part: where its row lies, its vertices, its capacity -/
def encP (e : Nat × List Nat × Nat) : Value := .slice (some ⟨e.1, 0, none⟩) e.2.1.length e.2.2
/-- what the second loop keeps -/
structure PI (W : World) (lb n sb ps pb pp N : Nat) (E : Nat → Nat → Bool) (T : List Nat) (es : List (Nat × List Nat × Nat)) : Prop where
  lk : LkE W lb n E
  tz : Tz W
  bc : W.cell? ⟨pb, 0, none⟩ = some (sl lb n)
  sc : W.cell? ⟨ps, 0, none⟩ = some (sl sb (sizeW n))
  sn : Seen W sb n T
  pc : ∃ V, W.cell? ⟨pp, 0, none⟩ = some V ∧ W.ownsRow N 24 1 V es.length (es.map encP)
  pf : W.frozen? ⟨pp, 0, none⟩ = false
  en : ∀ e ∈ es, N ≤ e.1 ∧ (∃ cs f, W.heap[e.1]? = some (.cells cs 3 f)) ∧ ∀ (j x : Nat), e.2.1[j]? = some x → W.cell? ⟨e.1, j, none⟩ = some (.int .i64 (x : Int))
  bz : N ≤ W.heap.size
  fit : tzB < N ∧ lb + n < N ∧ sb < N ∧ ps < N ∧ pb < N ∧ pp < N ∧ sb ≠ ps ∧ sb ≠ pb ∧ sb ≠ pp ∧ sb ≠ tzB ∧ ¬ (lb ≤ sb ∧ sb ≤ lb + n) ∧ pp ≠ tzB ∧ pp ≠ ps ∧ pp ≠ pb ∧ ¬ (lb ≤ pp ∧ pp ≤ lb + n)
theorem Blk.cells {W : World} {b : Nat} {t : TypeId} {xs : List Value} (h : Blk W b t xs) {W' : World} (hk : ∀ o, W.heap[b]? = some o → o.isCells = true → W'.heap[b]? = some o) : Blk W' b t xs := hk _ h rfl
/-- all cells kept but those of the set -/
theorem PI.to {W W' : World} {lb n sb ps pb pp N : Nat} {E : Nat → Nat → Bool} {T T' : List Nat} {es : List (Nat × List Nat × Nat)} (h : PI W lb n sb ps pb pp N E T es) (hz : W.heap.size ≤ W'.heap.size) (hk : ∀ (k : Nat) (o : Obj), k ≠ sb → W.heap[k]? = some o → o.isCells = true → W'.heap[k]? = some o) (hs : Seen W' sb n T') : PI W' lb n sb ps pb pp N E T' es := by
  obtain ⟨f1, f2, f3, f4, f5, f6, f7, f8, f9, f10, f11, f12, f13, f14, f15⟩ := h.fit
  have hcell : ∀ (b i : Nat) (v : Value), b ≠ sb → W.cell? ⟨b, i, none⟩ = some v → W'.cell? ⟨b, i, none⟩ = some v ∧ W'.frozen? ⟨b, i, none⟩ = W.frozen? ⟨b, i, none⟩ := fun b i v hb hv => by
    obtain ⟨o, ho, hc⟩ := cells_of_cell hv
    have e : W'.heap[b]? = W.heap[b]? := (hk b o hb ho hc).trans ho.symm
    exact ⟨(World.cell?_of_block e).trans hv, World.frozen?_of_block e⟩
  obtain ⟨wss, hl1, hl2⟩ := h.lk.ex
  obtain ⟨V, hV, hO⟩ := h.pc
  refine ⟨⟨wss, ⟨hl1.row.cells fun o => hk _ o (fun e => f11 (by omega)), fun v hv => (hl1.sets v hv).cells fun o => hk _ o (fun e => f11 (by omega))⟩, hl2⟩,
    fun j hj => (hcell _ _ _ (fun e => f10 e.symm) (h.tz j hj)).1, (hcell _ _ _ (Ne.symm f8) h.bc).1, (hcell _ _ _ (Ne.symm f7) h.sc).1, hs, ⟨V, (hcell _ _ _ (Ne.symm f9) hV).1, hO.1, hO.2.imp id fun ⟨g, cap, cur, e1, e2, e3, r⟩ => ⟨g, cap, cur, e1, e2, hk g _ (fun e => by omega) e3 rfl, r⟩⟩, (hcell _ _ _ (Ne.symm f9) hV).2.trans h.pf,
    fun e he => ?_, Nat.le_trans h.bz hz, h.fit⟩
  obtain ⟨g1, ⟨cs, f, g2⟩, g3⟩ := h.en e he
  exact ⟨g1, ⟨cs, f, hk _ _ (fun e => by omega) g2 rfl⟩, fun j x hx => (hcell _ _ _ (fun e => by omega) (g3 j x hx)).1⟩
theorem PI.same {W W' : World} {lb n sb ps pb pp N : Nat} {E : Nat → Nat → Bool} {T : List Nat} {es : List (Nat × List Nat × Nat)} (h : PI W lb n sb ps pb pp N E T es) (hz : W.heap.size ≤ W'.heap.size) (hk : ∀ (k : Nat) (o : Obj), W.heap[k]? = some o → o.isCells = true → W'.heap[k]? = some o) : PI W' lb n sb ps pb pp N E T es := by
  obtain ⟨ws, h1, h2⟩ := h.sn
  exact h.to hz (fun k o _ => hk k o) ⟨ws, h1.cells fun o => hk _ o, h2⟩
/-- one more part: its slice was appended to the row of parts -/
theorem PI.push {W w3 : World} {lb n sb ps pb pp N g c : Nat} {l : List Nat} {E : Nat → Nat → Bool} {T : List Nat} {es : List (Nat × List Nat × Nat)} (h : PI W lb n sb ps pb pp N E T es) (o : Obj) {V V3 : Value} (hV : W.cell? ⟨pp, 0, none⟩ = some V) (hO : W.ownsRow N 24 1 V es.length (es.map encP)) (hg : (W.alloc o).grownBy w3 V.ownBlock) (hO3 : w3.ownsRow N 24 1 V3 (es.length + 1) (es.map encP ++ [encP (g, l, c)]))
    (hN : N ≤ g) (hgc : ∃ cs f, W.heap[g]? = some (.cells cs 3 f)) (hgl : ∀ (j x : Nat), l[j]? = some x → W.cell? ⟨g, j, none⟩ = some (.int .i64 (x : Int))) : PI (w3.setCell ⟨pp, 0, none⟩ V3) lb n sb ps pb pp N E T (es ++ [(g, l, c)]) ∧ (∀ (k : Nat) (ob : Obj), k < N → k ≠ pp → W.heap[k]? = some ob → (w3.setCell ⟨pp, 0, none⟩ V3).heap[k]? = some ob) ∧ (∀ (k : Nat) (ob : Obj), ob.isCells = false → W.heap[k]? = some ob → (w3.setCell ⟨pp, 0, none⟩ V3).heap[k]? = some ob) ∧ W.heap.size ≤ w3.heap.size ∧ Os W w3 := by
  obtain ⟨f1, f2, f3, f4, f5, f6, f7, f8, f9, f10, f11, f12, f13, f14, f15⟩ := h.fit
  have hown : ∀ k (ob : Obj), W.heap[k]? = some ob → (∀ cs f, ob ≠ .cells cs 24 f) ∨ k < N → w3.heap[k]? = some ob := fun k ob hk hi => by
    have hkl := (Array.getElem?_eq_some_iff.1 hk).1
    rw [hg.block k (by rw [World.size_alloc]; omega) (fun e => ?_)]
    · exact (Below.heap_alloc W o k hkl).trans hk
    · rcases hO.2 with ⟨e1, _⟩ | ⟨g', cap, cur, e1, e2, e3, _⟩
      · rw [e1] at e; cases e
      · rw [e1] at e
        simp only [Value.ownBlock, Option.some.injEq] at e
        subst e
        rw [e3] at hk
        injection hk with hk
        rcases hi with hi | hi
        · exact hi _ _ hk.symm
        · omega
  have hz3 : W.heap.size ≤ w3.heap.size := by have := hg.size; rw [World.size_alloc] at this; omega
  have hlow : ∀ k (ob : Obj), k ≠ pp → W.heap[k]? = some ob → (∀ cs f, ob ≠ .cells cs 24 f) ∨ k < N → (w3.setCell ⟨pp, 0, none⟩ V3).heap[k]? = some ob := fun k ob hk ho hi => (Below.heap_setCell _ _ _ _ hk).trans (hown k ob ho hi)
  have hcell : ∀ (b i : Nat) (v : Value), b < N → b ≠ pp → W.cell? ⟨b, i, none⟩ = some v → (w3.setCell ⟨pp, 0, none⟩ V3).cell? ⟨b, i, none⟩ = some v := fun b i v hb hp hv => by
    obtain ⟨ob, ho, hc⟩ := cells_of_cell hv
    exact (World.cell?_of_block ((hlow b ob hp ho (.inr hb)).trans ho.symm)).trans hv
  obtain ⟨wss, hl1, hl2⟩ := h.lk.ex
  obtain ⟨ws, hs1, hs2⟩ := h.sn
  have hppW := World.block_lt_of_cell? W _ hV
  have hpc3 : w3.cell? ⟨pp, 0, none⟩ = some V := by
    obtain ⟨ob, ho, hc⟩ := cells_of_cell hV
    exact (World.cell?_of_block ((hown pp ob ho (.inr f6)).trans ho.symm)).trans hV
  have hpf3 : w3.frozen? ⟨pp, 0, none⟩ = false := by
    obtain ⟨ob, ho, hc⟩ := cells_of_cell hV
    exact (World.frozen?_of_block ((hown pp ob ho (.inr f6)).trans ho.symm)).trans h.pf
  have hV3 : ∃ A c', V3 = .slice A (es.length + 1) c' := own_form hO3
  refine ⟨⟨⟨wss, ⟨hl1.row.to ((hlow _ _ (fun e => f15 (by omega)) hl1.row (.inr (by omega))).trans hl1.row.symm), fun v hv => (hl1.sets v hv).to ((hlow _ _ (fun e => f15 (by omega)) (hl1.sets v hv) (.inr (by omega))).trans (hl1.sets v hv).symm)⟩, hl2⟩,
    fun j hj => hcell _ _ _ f1 (fun e => f12 e.symm) (h.tz j hj), hcell _ _ _ f5 (fun e => f14 e.symm) h.bc, hcell _ _ _ f4 (fun e => f13 e.symm) h.sc, ⟨ws, hs1.to ((hlow _ _ f9 hs1 (.inr f3)).trans hs1.symm), hs2⟩, ⟨V3, World.cell?_setCell_same w3 _ _ hpc3, ?_⟩, by rw [World.frozen?_setCell]; exact hpf3, fun e he => ?_, by rw [World.size_setCell]; have := h.bz; omega, h.fit⟩,
    fun k ob hk hp ho => hlow k ob hp ho (.inr hk), fun k ob hc ho => hlow k ob (fun e => ?_) ho (.inl fun cs f e => by rw [e] at hc; cases hc), hz3, ⟨hg.os, hg.tape, hg.output⟩⟩
  · have hk5 : Kp (fun k => k = pp) w3 (w3.setCell ⟨pp, 0, none⟩ V3) := Kp.set (S := fun k => k = pp) w3 (a := ⟨pp, 0, none⟩) rfl _
    have h5 := hk5.own hO3 (fun k e => by omega)
    rw [show (es ++ [(g, l, c)]).length = es.length + 1 by simp, List.map_append]
    exact h5
  · have hkeep : ∀ g', N ≤ g' → (∃ cs f, W.heap[g']? = some (.cells cs 3 f)) → (w3.setCell ⟨pp, 0, none⟩ V3).heap[g']? = W.heap[g']? := fun g' hN' ⟨cs, f, hh⟩ => (hlow g' _ (fun e => by omega) hh (.inl fun cs' f' e => by injection e with _ e2 _; exact absurd e2 (by decide))).trans hh.symm
    rcases List.mem_append.1 he with he | he
    · obtain ⟨g1, g2, g3⟩ := h.en e he
      have hkk := hkeep e.1 g1 g2
      obtain ⟨cs, f, g2⟩ := g2
      exact ⟨g1, ⟨cs, f, hkk.trans g2⟩, fun j x hx => (World.cell?_of_block hkk).trans (g3 j x hx)⟩
    · rw [List.mem_singleton] at he
      subst he
      have hkk := hkeep g hN hgc
      obtain ⟨cs, f, g2⟩ := hgc
      exact ⟨hN, ⟨cs, f, hkk.trans g2⟩, fun j x hx => (World.cell?_of_block hkk).trans (hgl j x hx)⟩
  · subst e
    obtain ⟨o2, ho2, hc2⟩ := cells_of_cell hV
    simp only at ho2
    rw [ho] at ho2
    injection ho2 with ho2
    rw [ho2, hc2] at hc
    cases hc
end gr
end Go.Proofs.YtahffafobdiogaaDoor
/- Parts: its last sort. -/
namespace Go.Proofs.YtahffafobdiogaaDoor
set_option linter.unusedVariables false
set_option linter.unusedSimpArgs false
open Go.RowKit
namespace gr
set_option maxRecDepth 100000 in
theorem key_any (ga gb la lb ca cb x y : Nat) (W : World) (ha : W.cell? ⟨ga, 0, none⟩ = some (.int .i64 (x : Int))) (hb : W.cell? ⟨gb, 0, none⟩ = some (.int .i64 (y : Int))) (hla : 0 < la) (hlb : 0 < lb) (hx : x ≤ 4096) (hy : y ≤ 4096) :
    Calls Tryd.prog 46 #[.slice (some ⟨ga, 0, none⟩) la ca, .slice (some ⟨gb, 0, none⟩) lb cb] W fun e W' => e = .returned (.int .i64 ((x : Int) - (y : Int))) ∧ ∃ q, W' = W.drewN q := by
  have e1 : IntKind.i64.wrap ((x : Int) - (y : Int)) = (x : Int) - (y : Int) := IntWalk.i64_in _ (by omega)
  have ha' : W.cell? ((⟨ga, 0, none⟩ : Addr).add 0) = some (.int .i64 (x : Int)) := ha
  have hb' : W.cell? ((⟨gb, 0, none⟩ : Addr).add 0) = some (.int .i64 (y : Int)) := hb
  have e2 : (0 : Int) < (la : Int) := by omega
  have e3 : (0 : Int) < (lb : Int) := by omega
  go_enter Tryd.func46, Tryd.ntmps46
  go_wp2
  go_quiet (fail)
  go_wp2
  go_ret
  exact ⟨rfl, _, rfl⟩
theorem getElem!_attach (es : List (Nat × List Nat × Nat)) [Inhabited { e // e ∈ es }] (j : Nat) (hj : j < es.length) : (es.attach.toArray[j]!).1 = es[j] := by
  rw [getElem!_pos _ j (by simpa using hj)]
  simp
/-- the parts, sorted by their first vertices -/
theorem psort_any (es : List (Nat × List Nat × Nat)) (hl : es.length ≤ 4096) (W : World) (A : Option Addr) (c N : Nat) (hO : W.ownsRow N 24 1 (.slice A es.length c) es.length (es.map encP))
    (hen : ∀ e ∈ es, 0 < e.2.1.length ∧ e.2.1.headD 0 ≤ 4096 ∧ (∃ cs f, W.heap[e.1]? = some (.cells cs 3 f)) ∧ ∀ (j x : Nat), e.2.1[j]? = some x → W.cell? ⟨e.1, j, none⟩ = some (.int .i64 (x : Int))) :
    Calls Tryd.prog 45 #[.slice A es.length c, .func (.func 46) #[] #[]] W fun e W' => e = .returned (.tuple #[]) ∧ ∃ fs : List (Nat × List Nat × Nat), fs.Perm es ∧ (fs.map fun e => e.2.1).Pairwise (fun a b => a.headD 0 ≤ b.headD 0) ∧
      (∀ (j : Nat) (x : Nat × List Nat × Nat), fs[j]? = some x → ∃ ad, A = some ad ∧ W'.cell? (ad.add j) = some (encP x)) ∧ (∀ e ∈ es, ∀ (j x : Nat), e.2.1[j]? = some x → W'.cell? ⟨e.1, j, none⟩ = some (.int .i64 (x : Int))) ∧ (∀ k, k < W.heap.size → (∀ g, A = some g → k ≠ g.block) → W'.heap[k]? = W.heap[k]?) ∧ W.heap.size ≤ W'.heap.size ∧ Os W W' := by
  rcases Nat.eq_zero_or_pos es.length with h0 | h0
  · have e0 : es = [] := List.eq_nil_of_length_eq_zero h0
    subst e0
    refine (Tryd.slices_SF0 A c _ W).mono ?_
    rintro e W' ⟨he, rfl⟩
    exact ⟨he, [], .refl _, List.Pairwise.nil, fun j x hx => (by simp at hx), fun e he => (by cases he), fun k _ _ => rfl, Nat.le_refl _, rfl, rfl, rfl⟩
  · obtain ⟨g, cap, hA, hg1, hg2⟩ := hO.form h0
    injection hA with hA hA1 hA2
    subst hA
    obtain ⟨csg, hgc⟩ : ∃ cs, W.heap[g]? = some (.cells cs 24 (0, 0)) := by
      rcases hO.2 with ⟨y, _⟩ | ⟨g', cp, cur, y1, y2, y3, _⟩
      · cases y
      · injection y1 with y1 _ _
        injection y1 with y1
        injection y1 with y1
        subst y1
        exact ⟨_, y3⟩
    haveI : Inhabited { e // e ∈ es } := ⟨⟨es[0], List.getElem_mem h0⟩⟩
    have hsz : es.attach.toArray.size = es.length := by simp
    have hH : Sort.Holds (fun e : { e // e ∈ es } => encP e.1) W g 0 es.attach.toArray := fun j hj => by
      have hj2 : j < es.length := by simpa using hj
      refine ⟨?_, ?_⟩
      · have h1 := hO.cells (g := g) rfl j (encP es[j]) (by rw [List.getElem?_map, List.getElem?_eq_getElem hj2]; rfl)
        show W.cell? ⟨g, 0 + j, none⟩ = some (encP (es.attach.toArray[j]!).1)
        rw [getElem!_attach es j hj2, Nat.zero_add, ← off_add g j]
        exact h1
      · unfold World.frozen?
        rw [hgc]
        simp
    have hblk : ∀ (m : Nat) (os : Array Obj) (dk : Array { e // e ∈ es }) (k : Nat), k < W.heap.size → k ≠ g → (sortWorld (fun e : { e // e ∈ es } => encP e.1) W g 0 m dk os).heap[k]? = W.heap[k]? := fun m os dk k hk hkg => by
      unfold sortWorld
      rw [Sort.heap_grow_old _ os (by simpa using hk)]
      unfold Sort.putRow Sort.mapBlock
      simp only [Array.getElem?_modify, Sort.heap_ahead]
      rw [if_neg (fun e => hkg e.symm)]
    have hcl : ∀ (m : Nat) (os : Array Obj) (dk : Array { e // e ∈ es }) (e), e ∈ es → ∀ (j x : Nat), e.2.1[j]? = some x → (sortWorld (fun e : { e // e ∈ es } => encP e.1) W g 0 m dk os).cell? ⟨e.1, j, none⟩ = some (.int .i64 (x : Int)) := fun m os dk e he j x hx => by
      obtain ⟨_, _, ⟨cs, f, h3⟩, h4⟩ := hen e he
      have h5 := h4 j x hx
      have hlt : e.1 < W.heap.size := (Array.getElem?_eq_some_iff.1 h3).1
      exact (World.cell?_of_block (hblk m os dk e.1 hlt (fun e2 => by
        rw [e2, hgc] at h3
        injection h3 with h3
        injection h3 with _ h3 _
        exact absurd h3 (by decide)))).trans h5
    have hhd : ∀ (e : Nat × List Nat × Nat), 0 < e.2.1.length → e.2.1[0]? = some (e.2.1.headD 0) := fun e h => by
      cases hc : e.2.1 with
      | nil => rw [hc] at h; simp at h
      | cons a r => simp
    have hlt0 : ∀ a b : { e // e ∈ es }, ltOf (fun a b : { e // e ∈ es } => ((a.1.2.1.headD 0 : Nat) : Int) - ((b.1.2.1.headD 0 : Nat) : Int)) a b = decide (a.1.2.1.headD 0 < b.1.2.1.headD 0) := fun a b => by
      unfold ltOf
      rw [decide_eq_decide]
      simp only []
      omega
    have key := Tryd.slices_SF (fun e : { e // e ∈ es } => encP e.1) (fun _ => rfl) (fun a b => ((a.1.2.1.headD 0 : Nat) : Int) - ((b.1.2.1.headD 0 : Nat) : Int))
      ⟨fun x => by rw [hlt0]; simp, fun x y z h1 h2 => by rw [hlt0] at *; simp at *; omega, fun x y z h1 h2 => by rw [hlt0] at *; simp at *; omega⟩
      46 #[] g 0 c es.attach.toArray W (enters_of Tryd.func46 (by kernel_rfl) rfl)
      (fun m os dk _ x y => by
        obtain ⟨x1, x2, _⟩ := hen x.1 x.2
        obtain ⟨y1, y2, _⟩ := hen y.1 y.2
        refine (key_any x.1.1 y.1.1 _ _ x.1.2.2 y.1.2.2 _ _ _ (hcl m os dk x.1 x.2 0 _ (hhd _ x1)) (hcl m os dk y.1 y.2 0 _ (hhd _ y1)) x1 y1 x2 y2).mono ?_
        rintro e W' ⟨he, q, hq⟩
        exact ⟨he, q, #[], by rw [hq]; exact (Sort.grow_empty _).symm⟩)
      hH hg2 (by rw [hsz]; omega)
    rw [hsz] at key
    refine key.mono ?_
    rintro e W' ⟨he, d', n, os, ⟨hp1, _, hp2⟩, hs, rfl⟩
    have hz : d'.size = es.length := by rw [hp1, hsz]
    rw [show d'.extract 0 es.length = d' by rw [← hz]; simp, show (es.attach.toArray).extract 0 es.length = es.attach.toArray by rw [← hsz]; exact Array.extract_size] at hp2
    have hH2 := Sort.holds_grow (fun e : { e // e ∈ es } => encP e.1) _ os g 0 d' (by simpa using hg2) (Sort.holds_putRow (fun e : { e // e ∈ es } => encP e.1) (Sort.ahead W n) g 0 _ d' (Sort.holds_ahead _ W n g 0 _ hH) (by rw [hz, hsz]))
    have hget : ∀ (j : Nat) (h : j < d'.size), (d'.toList.map fun e => e.1)[j]? = some (d'[j]!).1 := fun j h => by
      rw [List.getElem?_map, Array.getElem?_toList, getElem!_pos _ j h, Array.getElem?_eq_getElem h]
      rfl
    refine ⟨he, d'.toList.map fun e => e.1, ?_, ?_, fun j x hx => ⟨_, rfl, ?_⟩, fun e he j x hx => hcl n os d' e he j x hx, fun k hk hg => hblk n os d' k hk (hg _ rfl), by unfold sortWorld; simp, rfl, rfl, rfl⟩
    · have := hp2.map fun e : { e // e ∈ es } => e.1
      rw [show (es.attach.toArray.toList.map fun e : { e // e ∈ es } => e.1) = es by simp [List.attach_map_subtype_val]] at this
      exact this
    · rw [List.map_map, List.pairwise_map, List.pairwise_iff_getElem]
      intro i j hi hj hij
      have h1 := hs i j (Nat.zero_le _) hij (by rw [← hz]; simpa using hj)
      rw [hlt0, getElem!_pos _ i (by simpa using hi), getElem!_pos _ j (by simpa using hj)] at h1
      simp only [decide_eq_false_iff_not] at h1
      simp only [Function.comp, Array.getElem_toList]
      omega
    · have hj : j < d'.size := by
        rcases Nat.lt_or_ge j d'.size with h | h
        · exact h
        · rw [List.getElem?_eq_none (by simpa using h)] at hx; cases hx
      have h3 := (hH2 j hj).1
      rw [hget j hj] at hx
      injection hx with hx
      rw [off_add, ← hx]
      rw [Nat.zero_add] at h3
      exact h3
/-- a row of rows of numbers -/
def NewP (ls : List (List Nat)) (w : World) (e : Ending) (w' : World) : Prop := ∃ (A : Option Addr) (c : Nat) (fs : List (Nat × List Nat × Nat)), e = .returned (.tuple #[.slice A fs.length c, .int .i64 0]) ∧ (fs.map fun e => e.2.1) = ls ∧ Rd w' w'.heap.size A (fs.map encP) ∧ (∀ e ∈ fs, Rd w' w'.heap.size (some ⟨e.1, 0, none⟩) (vV e.2.1)) ∧ Below w.heap.size w w'
theorem cell_put {W : World} {l : Nat} {o : Obj} (o' : Obj) (h : W.heap[l]? = some o) (hc : o.isCells = false) {p : Addr} {v : Value} (hv : W.cell? p = some v) : (W.putObj l o').cell? p = some v := by
  obtain ⟨ob, ho, hk⟩ := cells_of_cell hv
  exact (World.cell?_of_block (World.putObj_heap_other (fun e => by rw [e, h] at ho; injection ho with ho; rw [← ho, hc] at hk; cases hk))).trans hv
theorem rd_nums {W : World} {g : Nat} {l : List Nat} (h : ∀ (j x : Nat), l[j]? = some x → W.cell? ⟨g, j, none⟩ = some (.int .i64 (x : Int))) : Rd W W.heap.size (some ⟨g, 0, none⟩) (vV l) := fun hn => by
  have h0 : 0 < l.length := by
    rcases Nat.eq_zero_or_pos l.length with h0 | h0
    · exact absurd (by rw [List.eq_nil_of_length_eq_zero h0]; rfl) hn
    · exact h0
  refine ⟨_, rfl, ?_, fun j u hu => ?_⟩
  · exact World.block_lt_of_cell? W _ (h 0 _ (List.getElem?_eq_getElem h0))
  · unfold vV at hu
    rw [List.getElem?_map] at hu
    cases hx : l[j]? with
    | none => rw [hx] at hu; cases hu
    | some x =>
      rw [hx] at hu
      injection hu with hu
      rw [off_add, ← hu]
      exact h j x hx
theorem rd_row {W : World} {A : Option Addr} {xs : List (Nat × List Nat × Nat)} (h : ∀ (j : Nat) (x : Nat × List Nat × Nat), xs[j]? = some x → ∃ ad, A = some ad ∧ W.cell? (ad.add j) = some (encP x)) : Rd W W.heap.size A (xs.map encP) := fun hn => by
  have h0 : 0 < xs.length := by
    rcases Nat.eq_zero_or_pos xs.length with h0 | h0
    · exact absurd (by rw [List.eq_nil_of_length_eq_zero h0]; rfl) hn
    · exact h0
  obtain ⟨ad, hA, hc⟩ := h 0 _ (List.getElem?_eq_getElem h0)
  refine ⟨ad, hA, ?_, fun j u hu => ?_⟩
  · have := World.block_lt_of_cell? W _ hc
    rw [add_block] at this
    exact this
  · rw [List.getElem?_map] at hu
    cases hx : xs[j]? with
    | none => rw [hx] at hu; cases hu
    | some x =>
      rw [hx] at hu
      injection hu with hu
      obtain ⟨ad', hA', hc'⟩ := h j x hx
      rw [hA] at hA'
      injection hA' with hA'
      rw [← hu, hA']
      exact hc'
end gr
end Go.Proofs.YtahffafobdiogaaDoor
/- Parts of the program. -/
namespace Go.Proofs.YtahffafobdiogaaDoor
set_option linter.unusedVariables false
set_option linter.unusedSimpArgs false
open Go.RowKit Go.Shelf
attribute [local go_sem] Oper.semAt_some
namespace gr
/-- what the first loop keeps -/
structure PJ (w W : World) (lb n sb ps pl N : Nat) (E : Nat → Nat → Bool) (S L : List Nat) : Prop where
  lk : LkE W lb n E
  tz : Tz W
  sc : W.cell? ⟨ps, 0, none⟩ = some (sl sb (sizeW n))
  sf : W.frozen? ⟨ps, 0, none⟩ = false
  sn : Seen W sb n S
  bx : Bx W pl N L
  low : Below w.heap.size w W
  fit : tzB < w.heap.size ∧ w.heap.size ≤ pl ∧ pl < lb ∧ lb + n < sb ∧ sb < ps ∧ ps < N
theorem PJ.kt {w W W' : World} {lb n sb ps pl N : Nat} {E : Nat → Nat → Bool} {S L S' L' : List Nat} (h : PJ w W lb n sb ps pl N E S L) (hk : KT N (fun k => k = pl ∨ k = sb) W W') (hs : Seen W' sb n S') (hb : Bx W' pl N L') : PJ w W' lb n sb ps pl N E S' L' := by
  obtain ⟨f1, f2, f3, f4, f5, f6⟩ := h.fit
  have hz := h.bx.bz
  have hcell : ∀ (b i : Nat) (v : Value), b < N → ¬ (b = pl ∨ b = sb) → W.cell? ⟨b, i, none⟩ = some v → W'.cell? ⟨b, i, none⟩ = some v ∧ W'.frozen? ⟨b, i, none⟩ = W.frozen? ⟨b, i, none⟩ := fun b i v hb hp hv => by
    obtain ⟨o, ho, hc⟩ := cells_of_cell hv
    have e : W'.heap[b]? = W.heap[b]? := (hk.2 b o ho hp (.inl hb)).trans ho.symm
    exact ⟨(World.cell?_of_block e).trans hv, World.frozen?_of_block e⟩
  exact ⟨hk.lke h.lk (fun k h1 h2 x => by omega), fun j hj => (hcell tzB j _ (by omega) (by omega) (h.tz j hj)).1, (hcell _ _ _ (by omega) (by omega) h.sc).1, (hcell _ _ _ (by omega) (by omega) h.sc).2.trans h.sf, hs, hb, h.low.trans (hk.low (by omega) (by omega) (fun k x => by omega)), h.fit⟩
theorem infoL : ∃ i, Tryd.prog.info? 24 = some i ∧ i.zero = some (.slice none 0 0) ∧ i.size = 1 ∧ i.bytes = 24 := info_parts (by kernel_rfl)
theorem cut_at (L : List Nat) (k : Nat) (hk : k < L.length) : L = L.take (L.length - k - 1) ++ L.getD (L.length - 1 - k) 0 :: L.drop (L.length - k) := by
  have h1 : L.length - k - 1 < L.length := by omega
  have e : L.getD (L.length - 1 - k) 0 = L[L.length - k - 1] := by
    rw [List.getD, show L.length - 1 - k = L.length - k - 1 by omega, List.getElem?_eq_getElem h1]
    rfl
  rw [e]
  conv => lhs; rw [← List.take_append_drop (L.length - k - 1) L]
  congr 1
  rw [List.drop_eq_getElem_cons h1]
  congr 2
  omega
theorem bk_rev {zs : List Nat} {Q : Nat → Prop} {hQ : ∀ j, Q (zs.getD j 0)} {k : Nat} (hk : k ≤ zs.length) : ((bk zs Q hQ k).map fun x => x.1.2).reverse = zs.drop (zs.length - k) := by
  induction k with
  | zero => simp [bk]
  | succ k ih =>
    rw [bk_succ, List.map_append, List.reverse_append, ih (by omega), List.map_singleton]
    have h1 : zs.length - (k + 1) < zs.length := by omega
    rw [List.drop_eq_getElem_cons h1]
    simp only [List.reverse_singleton, List.singleton_append]
    congr 1
    · rw [List.getD, show zs.length - 1 - k = zs.length - (k + 1) by omega, List.getElem?_eq_getElem h1]
      rfl
    · congr 1
      omega
theorem one_sl (A : Option Addr) (n c : Nat) : ∀ u ∈ [Value.slice A n c], u.oneCell' = true := by
  intro u hu
  simp at hu
  subst hu
  rfl
theorem ne_own {W : World} {B n k : Nat} {t : TypeId} {v : Value} {xs : List Value} (h : W.ownsRow B t 1 v n xs) (_ : B ≤ W.heap.size) (hk : k < B) : some k ≠ v.ownBlock := fun e => by
  have := h.lt k e.symm
  omega
theorem PI.pcs {W w3 : World} {lb n sb ps pb pp N : Nat} {E : Nat → Nat → Bool} {T : List Nat} {es : List (Nat × List Nat × Nat)} (h : PI W lb n sb ps pb pp N E T es) (o : Obj) {V : Value} (hV : W.cell? ⟨pp, 0, none⟩ = some V) (hO : W.ownsRow N 24 1 V es.length (es.map encP)) (hg : (W.alloc o).grownBy w3 V.ownBlock) : w3.cell? ⟨pp, 0, none⟩ = some V ∧ w3.frozen? ⟨pp, 0, none⟩ = false := by
  obtain ⟨f1, f2, f3, f4, f5, f6, f7, f8, f9, f10, f11, f12, f13, f14, f15⟩ := h.fit
  obtain ⟨ob, ho, hc⟩ := cells_of_cell hV
  have hl := World.block_lt_of_cell? W _ hV
  have e : w3.heap[pp]? = W.heap[pp]? := by
    rw [hg.block pp (by rw [World.size_alloc]; simp only at hl; omega) (ne_own hO h.bz f6)]
    exact Below.heap_alloc W o pp hl
  exact ⟨(World.cell?_of_block e).trans hV, (World.frozen?_of_block e).trans h.pf⟩
set_option maxRecDepth 100000 in
set_option maxHeartbeats 8000000 in
theorem parts_ok (n : Nat) (A : Option Addr) (c : Nat) (ns : List (Nat × Nat)) (hn : n ≤ 4096) (hr : ∀ e ∈ ns, e.1 < n ∧ e.2 < n) (hl : ns.length ≤ 1048576) (w : World) (hT : Tz w) (hE : RdE w w.heap.size A (eN ns)) (hv : valB n (eN ns) = true) :
    Calls Tryd.prog 18 #[.int .i64 n, .slice A ns.length c] w (NewP (prts (nbs (eK ns) n) n) w) := by
  have hdd : ∀ k : Nat, (Fence.wide.depth.isSome = true → 1 ≤ k) := fun k h => by cases h
  obtain ⟨E, hEE⟩ : ∃ E, eK ns = E := ⟨_, rfl⟩
  have hEn : ∀ u w, E u w = true → w < n := hEE ▸ eK_lt hr
  have hEm : ∀ u x, E u x = true → u < n := fun u x h => by
    rw [← hEE] at h
    unfold eK at h
    exact (hr _ (List.contains_iff_mem.1 h)).1
  have KV := Lib.hid (valid_any n A c (eN ns) (by rw [eN_len]; exact hl) w hE)
  rw [hv, eN_len] at KV
  have htz := tz_lt hT
  have hfit : ∀ (W w' : World) (F : Nat → Nat → Bool), LkE w' W.heap.size n F → W.heap.size + n < w'.heap.size := fun W w' F h2 => by
    rcases Nat.eq_zero_or_pos n with h0 | h0
    · have := h2.lt0; omega
    · have := h2.lt (v := n - 1) (by omega); omega
  have KF := Lib.hid (fun W (hb : Below w.heap.size w W) => (forward_any n hn A c ns hr hl W ((hE.below hb).more' hb.size)).mono (R' := fun e w' => e = .returned (sl W.heap.size n) ∧ (LkE w' W.heap.size n E ∧ Below W.heap.size W w' ∧ Below w.heap.size w w' ∧ W.heap.size + n < w'.heap.size)) fun e w' ⟨h1, h2, h3⟩ => by
    rw [hEE] at h2
    exact ⟨h1, h2, h3, hb.trans (h3.mono hb.size), hfit _ _ _ h2⟩)
  have KB := Lib.hid (fun W (hb : Below w.heap.size w W) => (backward_any n hn A c ns hr hl W ((hE.below hb).more' hb.size)).mono (R' := fun e w' => e = .returned (sl W.heap.size n) ∧ (LkE w' W.heap.size n (fun u x => E x u) ∧ Below W.heap.size W w' ∧ Below w.heap.size w w' ∧ W.heap.size + n < w'.heap.size)) fun e w' ⟨h1, h2, h3⟩ => by
    rw [hEE] at h2
    exact ⟨h1, h2, h3, hb.trans (h3.mono hb.size), hfit _ _ _ h2⟩)
  have HNW := Lib.hid (newSet_any n hn)
  have HT := Lib.hid hT
  have HEn := Lib.hid hEn
  have HEm := Lib.hid hEm
  rw [hEE]
  clear hT hE hv hr hEE hEn hEm hfit
  refine (callsIn_wide (n := 6)).1 ?_
  refine callsIn_of_wp_marks Tryd.func18 rfl trivial ?_ rfl
  simp only [Tryd.ntmps18, List.size_toArray, List.length_cons, List.length_nil, Nat.reduceAdd, Nat.reduceSub, Array.replicate_succ, Array.replicate_zero, List.push_toArray, List.append_toArray, List.nil_append, List.cons_append]
  gi_wp2_with (first
    | (refine ⟨trivial, ?_⟩; gi_at_call 23; refine (callsIn_wide.2 KV.out).mono ?_; clear KV; rintro e w1 ⟨rfl, hb1⟩)
    | (refine ⟨trivial, ?_⟩; gi_at_call 24; refine (callsIn_wide.2 (KF.out _ (bel_alloc hb1 _))).mono ?_; clear KF; rintro e w2 ⟨rfl, hf2⟩)
    | (refine ⟨trivial, ?_⟩; gi_at_call 27; refine (callsIn_wide.2 (HNW.out _)).mono ?_; rintro e w3 ⟨rfl, rfl⟩))
  obtain ⟨a1, a2, a3, a4⟩ := hf2
  rw [World.size_alloc] at a1 a2 a4
  have hz1 := hb1.size
  have p1 : PJ w ((w2.alloc (.cells (uV (List.replicate (sizeW n) 0)).toArray 69)).alloc (.cells #[sl w2.heap.size (sizeW n)] 49)) (w1.heap.size + 1) n w2.heap.size (w2.heap.size + 1) w1.heap.size (w2.heap.size + 1 + 1) E [] [] := by
    have hbb : Below w2.heap.size w2 ((w2.alloc (.cells (uV (List.replicate (sizeW n) 0)).toArray 69)).alloc (.cells #[sl w2.heap.size (sizeW n)] 49)) := bel_alloc (bel_box _) _
    have hpl := Blk.new w1 [Value.slice none 0 0] 24
    have hpl2 := (hpl.below a2 (by omega)).keep hbb
    have hps := Blk.new (w2.alloc (.cells (uV (List.replicate (sizeW n) 0)).toArray 69)) [sl w2.heap.size (sizeW n)] 49
    rw [World.size_alloc] at hps
    exact ⟨a1.keep hbb, (HT.out.keep a3).keep hbb, hps.cell (i := 0) rfl, hps.frozen 0, ⟨_, (Blk.new w2 (uV (List.replicate (sizeW n) 0)) _).alloc _, (St.empty _).congr fun u => rfl⟩,
      ⟨⟨_, hpl2.cell (i := 0) rfl, World.ownsRow_nil _ _ _ _⟩, hpl2.frozen 0, by simp, by omega, fun _ => hpl2.cell (i := 0) rfl⟩, a3.trans (hbb.mono a3.size), htz, hz1, by omega, by omega, by omega, by omega⟩
  clear a1 a2 hb1
  generalize (w2.alloc (.cells (uV (List.replicate (sizeW n) 0)).toArray 69)).alloc (.cells #[.slice (some ⟨w2.heap.size, 0, none⟩) (sizeW n) (sizeW n)] 49) = W3 at *
  gi_loopw [25] (fun i wr => ∃ (k : Nat) (S L : List Nat), k ≤ n ∧ i = .int .i64 (k : Int) ∧ PJ w wr (w1.heap.size + 1) n w2.heap.size (w2.heap.size + 1) w1.heap.size (w2.heap.size + 1 + 1) E S L ∧ Hid (Dfs (nbs E n) (List.range k) [] [] S L)) (fun i _ => n - (intOf i).toNat)
  case atStart => exact ⟨0, [], [], by omega, rfl, p1, Lib.hid (.nil _ _)⟩
  case round =>
    obtain ⟨k, S, L, hk, rfl, hp, hd⟩ := hrel
    clear p1
    by_cases hlt : k < n
    · have dk : (k : Int) < (n : Int) := by omega
      have csc := hp.sc
      obtain ⟨f1, f2, f3, f4, f5, f6⟩ := hp.fit
      have KW := Lib.hid (pwalk 41 (w1.heap.size + 1) n w2.heap.size w1.heap.size (w2.heap.size + 1 + 1) (enters_of Tryd.func41 (by kernel_rfl) rfl) (fun u L W hL hB => papp1_any w1.heap.size (w2.heap.size + 1 + 1) u L W hL hB) E hn HEn.out k S L wr hlt hp.lk hp.sn hp.bx hp.tz (dfs_inv (n := n) nbs_lt hd.out (fun x hx => by have := List.mem_range.1 hx; omega) (fun x hx => (by cases hx)) List.nodup_nil (fun x hx => (by cases hx))) (by omega) (by omega) (by omega) (by omega) (by omega) (by omega) (by omega))
      have HP := Lib.hid hp
      clear hp
      gi_wp2_with (refine ⟨trivial, ?_⟩; gi_at_call 38; refine (callsIn_wide.2 KW.out).mono ?_; clear KW; rintro e w4 ⟨rfl, S', L', g1, g2, g3, g4⟩)
      refine ⟨⟨k + 1, S', L', by omega, by congr 1, HP.out.kt g4 g2 g3, Lib.hid ?_⟩, by simp [intOf]; omega⟩
      rw [List.range_succ]
      exact hd.out.app g1
    · have hkn : n = k := by omega
      subst hkn
      obtain ⟨W4, rfl⟩ : ∃ U, U = wr := ⟨_, rfl⟩
      have hlft := Lib.hid (lft_of hd.out)
      clear hd
      have csc := hp.sc
      have csf := hp.sf
      have hlow := hp.low
      have HP := Lib.hid hp
      clear hp
      obtain ⟨V, hV, hO⟩ := HP.out.bx.fc
      obtain ⟨A1, c1, rfl⟩ := own_form hO
      have hLn := hlft.out.len
      have hz4 := HP.out.bx.bz
      obtain ⟨e1, e2, e3, e4, e5, e6⟩ := HP.out.fit
      gi_wp2_with (first
        | (refine ⟨trivial, ?_⟩; gi_at_call 34; refine (callsIn_wide.2 (KB.out _ (bel_alloc hlow _))).mono ?_; clear KB; rintro e w5 ⟨rfl, hf5⟩)
        | (refine ⟨trivial, ?_⟩; gi_at_call 27; fail))
      rw [World.size_alloc] at hf5
      obtain ⟨a5, a6, a7, a8⟩ := hf5
      have bb6 : Below w5.heap.size w5 ((w5.alloc (.cells (uV (List.replicate (sizeW n) 0)).toArray 69)).alloc (.cells #[sl (W4.heap.size + 1) n] 44)) := bel_alloc (bel_box _) _
      have bb46 : Below W4.heap.size W4 ((w5.alloc (.cells (uV (List.replicate (sizeW n) 0)).toArray 69)).alloc (.cells #[sl (W4.heap.size + 1) n] 44)) := ((bel_box _).trans (a6.mono (by omega))).trans (bb6.mono (by omega))
      have s6 := (bb46.cell (p := ⟨w2.heap.size + 1, 0, none⟩) (by simp only; omega)).trans csc
      have t6 := (bb46.frozen (p := ⟨w2.heap.size + 1, 0, none⟩) (by simp only; omega)).trans csf
      have l6 : (((w5.alloc (.cells (uV (List.replicate (sizeW n) 0)).toArray 69)).alloc (.cells #[sl (W4.heap.size + 1) n] 44)).setCell ⟨w2.heap.size + 1, 0, none⟩ (sl w5.heap.size (sizeW n))).cell? ⟨w1.heap.size, 0, none⟩ = some (.slice A1 L.length c1) := (World.cell?_setCell_other _ _ _ _ (by intro e; injection e with e; omega)).trans ((bb46.cell (p := ⟨w1.heap.size, 0, none⟩) (by simp only; omega)).trans hV)
      have KBk := Lib.hid (fun W => backw_any A1 L.length c1 W)
      have g6 : LkE (((w5.alloc (.cells (uV (List.replicate (sizeW n) 0)).toArray 69)).alloc (.cells #[sl (W4.heap.size + 1) n] 44)).setCell ⟨w2.heap.size + 1, 0, none⟩ (sl w5.heap.size (sizeW n))) (W4.heap.size + 1) n (fun u x => E x u) := (a5.keep bb6).to fun k h1 h2 => Below.heap_setCell _ _ _ _ (by simp only; omega)
      have g7 : ∀ (W : World), W = (((w5.alloc (.cells (uV (List.replicate (sizeW n) 0)).toArray 69)).alloc (.cells #[sl (W4.heap.size + 1) n] 44)).setCell ⟨w2.heap.size + 1, 0, none⟩ (sl w5.heap.size (sizeW n))) → Below w.heap.size w W ∧ W.heap.size = w5.heap.size + 2 ∧ Tz W ∧ W.cell? ⟨w5.heap.size + 1, 0, none⟩ = some (sl (W4.heap.size + 1) n) ∧ W.cell? ⟨w2.heap.size + 1, 0, none⟩ = some (sl w5.heap.size (sizeW n)) ∧ Seen W w5.heap.size n [] ∧ Blk W W4.heap.size 34 [.slice none 0 0] ∧ W.ownsRow (w2.heap.size + 1 + 1) 3 1 (.slice A1 L.length c1) L.length (vV L) := by
        rintro W rfl
        have hp0 := (Blk.new W4 [Value.slice none 0 0] 34).below a6 (by omega)
        have hlk := Blk.new (w5.alloc (.cells (uV (List.replicate (sizeW n) 0)).toArray 69)) [sl (W4.heap.size + 1) n] 44
        rw [World.size_alloc] at hlk
        have hbw := a7.trans (bb6.mono a7.size)
        refine ⟨hbw.setCell (p := ⟨_, _, none⟩) (by simp only; omega) _, by simp, ((HT.out.keep a7).keep bb6).kp (Kp.set (S := fun k => k = w2.heap.size + 1) _ (a := ⟨w2.heap.size + 1, 0, none⟩) rfl _) (by omega), (hlk.set_other (by omega) _ _).cell (i := 0) rfl, World.cell?_setCell_same _ _ _ s6, ⟨_, ((Blk.new w5 (uV (List.replicate (sizeW n) 0)) _).alloc _).set_other (by omega) _ _, (St.empty _).congr fun u => rfl⟩, (hp0.keep bb6).set_other (by omega) _ _, ?_⟩
        exact (Kp.set (S := fun k => k = w2.heap.size + 1) _ (a := ⟨w2.heap.size + 1, 0, none⟩) rfl _).own (own_keep hO bb46) (fun k e => by omega)
      have g7 := g7 _ rfl
      rw [hLn] at l6 KBk g7
      gi_wp2_with (first
        | (refine ⟨trivial, ?_⟩; gi_at_call 27; refine (callsIn_wide.2 (HNW.out _)).mono ?_; rintro e w6 ⟨rfl, rfl⟩)
        | (refine ⟨trivial, ?_⟩; gi_at_call 42; fail))
      generalize ((w5.alloc (.cells (uV (List.replicate (sizeW n) 0)).toArray 69)).alloc (.cells #[.slice (some ⟨W4.heap.size + 1, 0, none⟩) n n] 44)).setCell ⟨w2.heap.size + 1, 0, none⟩ (.slice (some ⟨w5.heap.size, 0, none⟩) (sizeW n) (sizeW n)) = W7 at *
      obtain ⟨z1, z2, z3, z4, z5, z6, z7, z8⟩ := g7
      clear bb6 bb46 s6 t6 l6 a5 a6 hO hV
      refine ⟨trivial, ?_⟩
      refine (callsIn_wide.2 (KBk.out W7)).mono ?_
      rintro e w8 ⟨rfl, rfl⟩
      gi_wp2_with fail
      obtain ⟨W8, hW8⟩ : ∃ W8, W7.alloc (.cells #[.slice A1 n c1] 24) = W8 := ⟨_, rfl⟩
      rw [hW8]
      have hb8 : Below W7.heap.size W7 W8 := by rw [← hW8]; exact bel_box _
      have hz8 : W8.heap.size = W7.heap.size + 1 := by rw [← hW8]; simp
      have hbx : Blk W8 W7.heap.size 24 [.slice A1 n c1] := by rw [← hW8]; exact Blk.new _ _ _
      have hPI : PI W8 (W4.heap.size + 1) n w5.heap.size (w2.heap.size + 1) (w5.heap.size + 1) W4.heap.size (W7.heap.size + 1) (fun u x => E x u) [] [] :=
        ⟨g6.keep hb8, z3.keep hb8, (hb8.cell (p := ⟨w5.heap.size + 1, 0, none⟩) (by simp only; omega)).trans z4, (hb8.cell (p := ⟨w2.heap.size + 1, 0, none⟩) (by simp only; omega)).trans z5, z6.keep hb8, ⟨_, (z7.keep hb8).cell (i := 0) rfl, World.ownsRow_nil _ _ _ _⟩, (z7.keep hb8).frozen 0, fun e he => (by cases he), by omega, by omega, by omega, by omega, by omega, by omega, by omega, by omega, by omega, by omega, by omega, by omega, by omega, by omega, by omega, by omega⟩
      have hlow8 : Below w.heap.size w W8 := z1.trans (hb8.mono z1.size)
      have hQ : ∀ j, (fun v => v < n ∨ n = 0) (L.getD j 0) := fun j => by
        rcases Nat.lt_or_ge j L.length with h | h
        · left
          rw [List.getD, List.getElem?_eq_getElem h]
          exact (hlft.out.mem _).1 (List.getElem_mem h)
        · rcases Nat.eq_zero_or_pos n with h0 | h0
          · exact .inr h0
          · left
            rw [List.getD, List.getElem?_eq_none h]
            exact h0
      have hst := backw_stops (fun v => v < n ∨ n = 0) (6 - 1) W7.heap.size (W7.heap.size + 1) (fun k => k = w5.heap.size ∨ k = W4.heap.size) A1 c1 L hQ (by omega) W8 (by omega) (by omega) (by omega) (fun x => by omega) (by rw [hLn]; exact hbx.cell (i := 0) rfl) (fun j x hx => by
        have hj : j < n := by
          rcases Nat.lt_or_ge j L.length with h | h
          · omega
          · rw [List.getElem?_eq_none h] at hx; cases hx
        obtain ⟨g, cap, e1, e2, e3⟩ := z8.form (by omega)
        injection e1 with e1 _ _
        subst e1
        refine ⟨_, rfl, by simp only; omega, fun x => ?_, (hb8.cell (p := (⟨g, 0, none⟩ : Addr).add j) (by rw [add_block]; exact e3)).trans (z8.cells (g := g) rfl j _ (by unfold vV; rw [List.getElem?_map, hx]; rfl))⟩
        rcases z8.2 with ⟨y, _⟩ | ⟨g', cp, cur, y1, y2, y3, _⟩
        · cases y
        · injection y1 with y1 _ _
          injection y1 with y1
          injection y1 with y1
          subst y1
          rcases x with x | x
          · obtain ⟨ws, q1, _⟩ := z6
            unfold Blk at q1
            rw [← x] at q1
            rw [y3] at q1
            injection q1 with q1
            injection q1 with _ q1 _
            exact absurd q1 (by decide)
          · unfold Blk at z7
            rw [← x, y3] at z7
            injection z7 with z7
            injection z7 with _ z7 _
            exact absurd z7 (by decide))
      rw [hLn] at hst
      clear z8 z3 z4 z5 z6 z7 g6 hbx
      have hz7 : w.heap.size ≤ W7.heap.size := z1.size
      rw [z2] at hst hPI hz8 hz7
      refine wpIn_rangeFunc_ownH rfl (by decide) (gf := 59) (lb := #[.pointer (some ⟨(w5.heap.size + 2), 0, none⟩)]) rfl trivial (enters_of Tryd.func59 (by kernel_rfl) rfl)
        hst Kn.trans Kn.put (Below.refl _ _) (fun _ => rfl)
        (fun pre W => (∃ T es, PI W (W4.heap.size + 1) n w5.heap.size (w2.heap.size + 1) (w5.heap.size + 1) W4.heap.size ((w5.heap.size + 2) + 1) (fun u x => E x u) T es ∧ es.length ≤ pre.length ∧ (∀ x ∈ T, x < n) ∧ (pre = bk L (fun v => v < n ∨ n = 0) hQ pre.length → Pst E n ((pre.map fun x => x.1.2).reverse) T (es.map fun e => e.2.1))) ∧ Below w.heap.size w W)
        (fun _ _ _ => False)
        (OwnFrom.and (Own.from (fun s A B row hs hg hr => by
          obtain ⟨T, es, q1, q2⟩ := hs
          exact ⟨T, es, q1.same hg.size (fun k o ho hc => by
            rw [hg.block k (Array.getElem?_eq_some_iff.1 ho).1 (fun e => by
              obtain ⟨o2, ho2, hc2⟩ := hr k e.symm
              rw [ho] at ho2
              injection ho2 with ho2
              rw [ho2, hc2] at hc
              cases hc)]
            exact ho), q2⟩) _) (ownFrom_below (Nat.le_refl _) (by omega)))
        (fun _ _ _ _ _ hs _ _ => hs)
        ⟨⟨[], [], hPI, by simp, (fun x hx => by cases hx), fun _ => Pst.nil E n⟩, hlow8⟩
        (fun x a' _ => a' = { tmps := #[.int .i64 (n : Int), .slice A ns.length c, undef, undef, .slice none 0 0, .int .i64 0, .pointer (some ⟨w1.heap.size, 0, none⟩), sl (w1.heap.size + 1) n, .pointer (some ⟨w2.heap.size + 1, 0, none⟩), u9, .pointer (some ⟨W4.heap.size, 0, none⟩), .pointer (some ⟨w5.heap.size + 1, 0, none⟩), undef, .int .i64 ((x.1.2 : Nat) : Int), undef, .int .i64 (n : Int), .slice A ns.length c, .bool true, .bool false, .int .i64 (n : Int), .slice A ns.length c, sl (w1.heap.size + 1) n, .int .i64 (n : Int), sl w2.heap.size (sizeW n), .int .i64 (n : Int), .int .i64 (n : Int), .bool false, u27, u28, u29, u30, u31, u32, u33, .int .i64 (n : Int), .slice A ns.length c, sl (W4.heap.size + 1) n, .int .i64 (n : Int), sl w5.heap.size (sizeW n), .slice A1 n c1, .func (.func 59) #[] #[.pointer (some ⟨w5.heap.size + 2, 0, none⟩)], .int .i64 ((x.1.1 : Nat) : Int), .int .i64 ((x.1.2 : Nat) : Int), undef, undef, undef, undef, undef, undef, undef, undef, undef, undef, undef, undef, undef, undef, undef, undef], defers := [] })
        (fun x a' s A B row hs hg hr => hs) ?assign ?body ?done ?stop
      case assign =>
        intro l pre x W K hI hK
        gi_wp2
        exact hK _ _ (KeepsFrom.refl _ _) (Kn.refl _ _ _) hI rfl
      case body =>
        rintro l pre x a' W hl hr ⟨⟨T, es, hp, hel, hTn, hst2⟩, hlow⟩ rfl hlt
        have hlt2 : pre.length < n := hlt
        have hv : x.1.2 < n := x.2.elim id (fun h0 => by omega)
        obtain ⟨v, hxv⟩ : ∃ v, x.1.2 = v := ⟨_, rfl⟩
        rw [hxv] at hv
        simp only [hxv]
        have HX := Lib.hid hxv
        have cbc := cell_al (.cells #[.slice none 0 0] 24) hp.bc
        have csc := cell_al (.cells #[.slice none 0 0] 24) hp.sc
        have hz := hp.bz
        have HPI := Lib.hid hp
        -- the search
        have KW : Hid (Calls Tryd.prog 38 #[sl (W4.heap.size + 1) n, .int .i64 v, sl w5.heap.size (sizeW n), .func (.func 43) #[] #[.pointer (some ⟨W.heap.size, 0, none⟩)]] (W.alloc (.cells #[.slice none 0 0] 24)) fun e W' => e = .returned (.tuple #[]) ∧ ∃ S' L', Dfs (nbs (fun u x => E x u) n) [v] T [] S' L' ∧ Seen W' w5.heap.size n S' ∧ Bx W' W.heap.size (W.heap.size + 1) L' ∧ KT (W.heap.size + 1) (fun k => k = W.heap.size ∨ k = w5.heap.size) (W.alloc (.cells #[.slice none 0 0] 24)) W') := by
          have hbb : Below W.heap.size W (W.alloc (.cells #[.slice none 0 0] 24)) := bel_box _
          have hpb := Blk.new W [Value.slice none 0 0] 24
          exact Lib.hid (pwalk 43 (W4.heap.size + 1) n w5.heap.size W.heap.size (W.heap.size + 1) (enters_of Tryd.func43 (by kernel_rfl) rfl) (fun u L W' hL hB => papp2_any W.heap.size (W.heap.size + 1) u L W' hL hB) (fun u x => E x u) hn (fun u x h => HEm.out x u h) v T [] _ hv (hp.lk.keep hbb) (hp.sn.keep hbb) ⟨⟨_, hpb.cell (i := 0) rfl, World.ownsRow_nil _ _ _ _⟩, hpb.frozen 0, by simp, by omega, fun _ => hpb.cell (i := 0) rfl⟩ (hp.tz.keep hbb) ⟨(fun x hx => by cases hx), List.nodup_nil, hTn⟩ (by omega) (by omega) (by omega) (by omega) (by omega) (by omega) (by omega))
        clear hp
        gi_wp2_with fail
        refine ⟨trivial, ?_⟩
        refine (callsIn_wide.2 KW.out).mono ?_
        clear KW
        rintro e w9 ⟨rfl, S', L', g1, g2, g3, g4⟩
        have hzz : (W.alloc (.cells #[.slice none 0 0] 24)).heap.size = W.heap.size + 1 := by simp
        have hz9 : W.heap.size < w9.heap.size := by have := g4.1; omega
        have hkept : ∀ (k : Nat) (o : Obj), k ≠ w5.heap.size → W.heap[k]? = some o → w9.heap[k]? = some o := fun k o hk ho => by
          have hkl := (Array.getElem?_eq_some_iff.1 ho).1
          exact g4.2 k o ((Below.heap_alloc W _ k hkl).trans ho) (by omega) (.inl (by omega))
        have hlow9 : Below w.heap.size w w9 := hlow.trans (((bel_box (.cells #[.slice none 0 0] 24)).mono (by omega)).trans (g4.low (by omega) (by omega) (fun k x => by omega)))
        have hsbc : ∀ o, W.heap[w5.heap.size]? = some o → o.isCells = true := fun o ho => by
          obtain ⟨us, q1, _⟩ := HPI.out.sn
          unfold Blk at q1
          rw [q1] at ho
          injection ho with ho
          rw [← ho]
          rfl
        have hppc : ∀ o, W.heap[W4.heap.size]? = some o → o.isCells = true := fun o ho => by
          obtain ⟨Vp, q1, _⟩ := HPI.out.pc
          obtain ⟨o2, q2, q3⟩ := cells_of_cell q1
          simp only at q2
          rw [q2] at ho
          injection ho with ho
          rw [← ho]
          exact q3
        have hnext : pre ++ [x] = bk L (fun v => v < n ∨ n = 0) hQ (pre ++ [x]).length → pre = bk L (fun v => v < n ∨ n = 0) hQ pre.length ∧ ∃ A, L = A ++ v :: (pre.map fun x => x.1.2).reverse := fun e => by
          rw [List.length_append, List.length_singleton, bk_succ] at e
          obtain ⟨h1, h2⟩ := List.append_inj' e rfl
          refine ⟨h1, L.take (L.length - pre.length - 1), ?_⟩
          injection h2 with h2 _
          have h3 : v = L.getD (L.length - 1 - pre.length) 0 := by rw [← HX.out, h2]
          have h4 : (pre.map fun x => x.1.2).reverse = L.drop (L.length - pre.length) := by
            have h5 := bk_rev (zs := L) (Q := fun v => v < n ∨ n = 0) (hQ := hQ) (k := pre.length) (by omega)
            rw [← h1] at h5
            exact h5
          rw [h4, h3]
          exact cut_at L pre.length (by omega)
        have hmap : ((pre ++ [x]).map fun x => x.1.2).reverse = v :: (pre.map fun x => x.1.2).reverse := by
          rw [List.map_append, List.reverse_append, List.map_singleton, HX.out]
          rfl
        by_cases hL0 : L' = []
        · have c9 := g3.nl hL0
          have hdone : ∃ T es, PI w9 (W4.heap.size + 1) n w5.heap.size (w2.heap.size + 1) (w5.heap.size + 1) W4.heap.size (w5.heap.size + 2 + 1) (fun u x => E x u) T es ∧ es.length ≤ (pre ++ [x]).length ∧ (∀ x ∈ T, x < n) ∧ (pre ++ [x] = bk L (fun v => v < n ∨ n = 0) hQ (pre ++ [x]).length → Pst E n (((pre ++ [x]).map fun x => x.1.2).reverse) T (es.map fun e => e.2.1)) := by
            have hvT : v ∈ T ∧ S' = T := by
              cases g1 with
              | skip h k => cases k with | nil => exact ⟨h, rfl⟩
              | go h k1 k2 =>
                cases k2 with
                | nil => exact absurd hL0 (by simp)
            refine ⟨S', es, HPI.out.to (by omega) (fun k o hk ho _ => hkept k o hk ho) g2, by rw [List.length_append]; omega, by rw [hvT.2]; exact hTn, fun e => ?_⟩
            rw [hmap, hvT.2]
            exact (hst2 (hnext e).1).skip hvT.1
          have HD := Lib.hid hdone
          clear hdone g1 g2 g3 g4
          gi_wp2
          exact ⟨⟨by omega, fun k o _ ho hc => hkept k o (fun e => by subst e; rw [hsbc o ho] at hc; cases hc) ho⟩, ⟨by omega, fun k o _ hS ho _ => hkept k o (fun e => hS (.inl e)) ho⟩, HD.out, hlow9⟩
        · have hL1 : 0 < L'.length := List.length_pos_iff.2 hL0
          have hinv := dfs_inv (n := n) nbs_lt g1 (fun y hy => by rw [List.mem_singleton.1 hy]; exact hv) (fun y hy => (by cases hy)) List.nodup_nil hTn
          have hLl : L'.length ≤ 4096 := by
            have := nodup_len' _ (List.range n) hinv.2.1 fun y hy => List.mem_range.2 (hinv.2.2 y (hinv.1 y hy))
            rw [List.length_range] at this
            omega
          have hvT : v ∉ T := fun h => by
            cases g1 with
            | skip h k => cases k with | nil => exact hL0 rfl
            | go h2 k1 k2 => exact h2 h
          obtain ⟨V6, c9, o6⟩ := g3.fc
          obtain ⟨g, cap, rfl, hg1, hg2⟩ := o6.form hL1
          have hgh : ∃ cs, w9.heap[g]? = some (.cells cs 3 (0, 0)) := by
            rcases o6.2 with ⟨y, _⟩ | ⟨g', cp, cur, y1, y2, y3, _⟩
            · cases y
            · injection y1 with y1 _ _
              injection y1 with y1
              injection y1 with y1
              subst y1
              exact ⟨_, y3⟩
          have KS := sort_any g cap L' w9 hg2 hLl (fun j y hy => ⟨off_add g j ▸ o6.cells (g := g) rfl j _ (by unfold vV; rw [List.getElem?_map, hy]; rfl), by
            obtain ⟨cs, hcs⟩ := hgh
            unfold World.frozen?
            rw [hcs]
            simp⟩)
          have HH := Lib.hid (show ∀ w10, (∀ (j y : Nat), (L'.mergeSort fun x y => decide (x ≤ y))[j]? = some y → w10.cell? ⟨g, j, none⟩ = some (.int .i64 (y : Int))) → w9.heap.size ≤ w10.heap.size → Os w9 w10 → (∀ k, k < w9.heap.size → k ≠ g → w10.heap[k]? = w9.heap[k]?) → (∀ c t f, w9.heap[g]? = some (.cells c t f) → ∃ c', w10.heap[g]? = some (.cells c' t f)) →
              PI w10 (W4.heap.size + 1) n w5.heap.size (w2.heap.size + 1) (w5.heap.size + 1) W4.heap.size (w5.heap.size + 2 + 1) (fun u x => E x u) S' es ∧ w10.cell? ⟨W.heap.size, 0, none⟩ = some (.slice (some ⟨g, 0, none⟩) L'.length cap) ∧ (∃ cs f, w10.heap[g]? = some (.cells cs 3 f)) ∧ (∀ (k : Nat) (o : Obj), k ≠ w5.heap.size → W.heap[k]? = some o → w10.heap[k]? = some o) ∧ Below w.heap.size w w10 from fun w10 q1 q2 q3 q4 q5 => by
            have hk10 : ∀ (k : Nat) (o : Obj), k ≠ w5.heap.size → W.heap[k]? = some o → w10.heap[k]? = some o := fun k o hk ho => by
              have hkl := (Array.getElem?_eq_some_iff.1 ho).1
              exact (q4 k (by omega) (by omega)).trans (hkept k o hk ho)
            obtain ⟨us, u1, u2⟩ := g2
            obtain ⟨cs, hcs⟩ := hgh
            exact ⟨HPI.out.to (by omega) (fun k o hk ho _ => hk10 k o hk ho) ⟨us, u1.to (q4 _ u1.lt (by omega)), u2⟩, (World.cell?_of_block (q4 W.heap.size hz9 (by omega))).trans c9, let ⟨c', hc'⟩ := q5 _ _ _ hcs; ⟨c', _, hc'⟩, hk10, ⟨q3.1.trans hlow9.os, q3.2.1.trans hlow9.tape, q3.2.2.trans hlow9.output, Nat.le_trans hlow9.size q2, fun k hk => (q4 k (by omega) (by omega)).trans (hlow9.block k hk)⟩⟩)
          have hstep : pre ++ [x] = bk L (fun v => v < n ∨ n = 0) hQ (pre ++ [x]).length → Pst E n (((pre ++ [x]).map fun x => x.1.2).reverse) S' ((es.map fun e => e.2.1) ++ [L'.mergeSort fun x y => decide (x ≤ y)]) := fun e => by
            obtain ⟨h1, A0, h2⟩ := hnext e
            rw [hmap]
            exact ((hst2 h1).step (E' := fun u x => E x u) (fun _ _ => rfl) (fun u x h => HEn.out u x h) (fun u x h => HEm.out u x h) hlft.out h2 hvT g1).1
          have HSt := Lib.hid hstep
          have HS9 := Lib.hid hinv.2.2
          have hml : (L'.mergeSort fun x y => decide (x ≤ y)).length = L'.length := List.length_mergeSort L'
          have HML := Lib.hid hml
          have hesl : es.length < 4096 := by omega
          have KS := Lib.hid KS
          obtain ⟨i0, hi, iz, is, ib⟩ := infoL
          clear hstep hnext hmap hst2 o6 hgh g1 g2 g3 hinv hml HPI hkept
          generalize (L'.mergeSort fun x y => decide (x ≤ y)) = M at *
          generalize hll : L'.length = ll at *
          gi_wp2_with fail
          refine ⟨trivial, ?_⟩
          refine (callsIn_wide.2 KS.out).mono ?_
          rintro e w10 ⟨rfl, q1, q2, q3, q4, q5⟩
          obtain ⟨p1, p2, p3, p4, p5⟩ := HH.out w10 q1 q2 q3 q4 q5
          obtain ⟨Vp, hVp, hOp⟩ := p1.pc
          obtain ⟨Ap, cp, rfl⟩ := own_form hOp
          have hpf := p1.pf
          have hbz := p1.bz
          have HP1 := Lib.hid p1
          have HOp := Lib.hid hOp
          have HP3 := Lib.hid p3
          have HP4 := Lib.hid p4
          have HQ1 := Lib.hid q1
          have HQ4 := Lib.hid q4
          clear KS HH p1 p3 p4 hOp q1 q4 q5 g4
          have hNz : w5.heap.size + 2 + 1 ≤ w10.heap.size := hbz
          have hown0 : (w10.alloc (.cells #[.slice (some ⟨g, 0, none⟩) ll cap] 24)).ownsRow (w5.heap.size + 2 + 1) 24 1 (.slice Ap es.length cp) es.length (es.map encP) := own_keep HOp.out (bel_box _)
          gi_wp2_with (gi_at_builtin; refine wpListIn_append_own _ rfl _ _ 34 rfl (w5.heap.size + 2 + 1) 24 i0 (.slice none 0 0) 1 24 Tryd.underlying34 hi iz is ib rfl (by decide) _ es.length (es.map encP) rfl hown0 ⟨w10.heap.size, 0, none⟩ 1 1 [.slice (some ⟨g, 0, none⟩) ll cap] rfl rfl (row1 _ _ _) (one_sl _ _ _) (by unfold maxLen; omega) (by omega) (by rw [World.size_alloc]; omega) ?_; intro V3 w3' hown3 hgrow3 h4; clear h4; obtain ⟨A3, c3, rfl⟩ := own_form hown3; replace hgrow3 : (w10.alloc (.cells #[.slice (some ⟨g, 0, none⟩) ll cap] 24)).grownBy w3' (Value.slice Ap es.length cp).ownBlock := hgrow3; have vf := HP1.out.pcs _ hVp HOp.out hgrow3; obtain ⟨vp3, fp3⟩ := vf; have hgrow3 := Lib.hid hgrow3; have hown3 := Lib.hid hown3)
          obtain ⟨r1, r2, r3, r4, r5⟩ := HP1.out.push (g := g) (c := cap) (l := M) _ hVp HOp.out hgrow3.out (by have e : encP (g, M, cap) = .slice (some ⟨g, 0, none⟩) ll cap := (by unfold encP; simp only; rw [HML.out]); rw [e]; exact hown3.out) (by omega) HP3.out HQ1.out
          have hbe : Below w.heap.size w10 (w3'.setCell ⟨W4.heap.size, 0, none⟩ (.slice A3 (es.length + 1) c3)) := ⟨r5.1, r5.2.1, r5.2.2, by rw [World.size_setCell]; exact r4, fun k hk => by
            have hk10 : k < w10.heap.size := by omega
            exact (r2 k _ (by omega) (by omega) (Array.getElem?_eq_getElem hk10)).trans (Array.getElem?_eq_getElem hk10).symm⟩
          exact ⟨⟨by rw [World.size_setCell]; omega, fun k o _ ho hc => r3 k o hc (HP4.out k o (fun e => by subst e; rw [hsbc o ho] at hc; cases hc) ho)⟩, ⟨by rw [World.size_setCell]; omega, fun k o hk hS ho _ => r2 k o hk (fun e => hS (.inr e)) (HP4.out k o (fun e => hS (.inl e)) ho)⟩, ⟨S', es ++ [(g, M, cap)], r1, by simp; omega, HS9.out, fun e => by rw [List.map_append (l₁ := es)]; exact HSt.out e⟩, p5.trans hbe⟩
      case done =>
        rintro D ys W hD hys ⟨⟨T, es, hp, hel, hTn, hst2⟩, hlow⟩ hK
        subst hys
        have hps : Pst E n L T (es.map fun e => e.2.1) := by
          have h := hst2 (by rw [bk_len])
          have h2 := bk_rev (zs := L) (Q := fun v => v < n ∨ n = 0) (hQ := hQ) (k := n) (by omega)
          rw [show L.length - n = 0 by omega, List.drop_zero] at h2
          rw [h2] at h
          exact h
        have hel' : es.length ≤ n := by rw [bk_len] at hel; exact hel
        obtain ⟨Vp, hVp, hOp⟩ := hp.pc
        obtain ⟨Ap, cp, rfl⟩ := own_form hOp
        have hbz := hp.bz
        have hen : ∀ e ∈ es, 0 < e.2.1.length ∧ e.2.1.headD 0 ≤ 4096 ∧ (∃ cs f, W.heap[e.1]? = some (.cells cs 3 f)) ∧ ∀ (j x : Nat), e.2.1[j]? = some x → W.cell? ⟨e.1, j, none⟩ = some (.int .i64 (x : Int)) := fun e he => by
          obtain ⟨v, hv, ev⟩ := (hps.parts e.2.1).1 (List.mem_map.2 ⟨e, he, rfl⟩)
          obtain ⟨a, r, e1, e2, _⟩ := cmp_cons (s := nbs E n) ((hlft.out.mem v).1 hv)
          rw [e1] at ev
          obtain ⟨_, h2, h3⟩ := hp.en e he
          exact ⟨by rw [ev]; simp, by rw [ev]; simp only [List.headD_cons]; omega, h2, h3⟩
        have KS := Lib.hid (psort_any es (by omega) W Ap cp _ hOp hen)
        have hDl : D < W.heap.size := (Array.getElem?_eq_some_iff.1 hK).1
        have HDg := Lib.hid (show ∀ g : Addr, Ap = some g → D ≠ g.block from fun g e e2 => by
          rcases hOp.2 with ⟨y, _⟩ | ⟨g', cp', cur, y1, y2, y3, _⟩
          · injection y with y _ _
            rw [e] at y
            cases y
          · injection y1 with y1 _ _
            rw [e] at y1
            injection y1 with y1
            rw [y1] at e2
            simp only at e2
            rw [← e2, hK] at y3
            cases y3)
        have HPg := Lib.hid (show ∀ k : Nat, k < w5.heap.size + 2 + 1 → ∀ g : Addr, Ap = some g → k ≠ g.block from fun k hk g e e2 => ne_own hOp hbz hk (by rw [e, e2]; rfl))
        have HPS := Lib.hid hps
        have HKD := Lib.hid hK
        clear hp hst2 hps hen hOp hK hel
        gi_wp2_with fail
        refine ⟨trivial, ?_⟩
        refine (callsIn_wide.2 KS.out).mono ?_
        rintro e w10 ⟨rfl, fs, q1, q2, q3, q4, q5, q6, q7⟩
        have hV10 : w10.cell? ⟨W4.heap.size, 0, none⟩ = some (.slice Ap es.length cp) := (World.cell?_of_block (q5 W4.heap.size (World.block_lt_of_cell? W _ hVp) (HPg.out _ (by omega)))).trans hVp
        have HQ := Lib.hid (show (fs.map fun e => e.2.1) = prts (nbs E n) n from HPS.out.done hlft.out (q1.map _) q2)
        have HQ1 := Lib.hid q1
        have HQ3 := Lib.hid q3
        have HQ4 := Lib.hid q4
        have HK10 := Lib.hid ((q5 D hDl (HDg.out)).trans HKD.out)
        have hb10 : Below w.heap.size W w10 := ⟨q7.1, q7.2.1, q7.2.2, by omega, fun k hk => q5 k (by have := hlow.size; omega) (HPg.out k (by omega))⟩
        clear q1 q2 q3 q4 q5 KS
        gi_wp2
        refine ⟨by simp, .inl ⟨_, _, rfl, run_takeDeferred HK10.out, ?_⟩⟩
        refine ⟨_, results_tmp2 rfl _ _ _, Ap, cp, fs, ?_, HQ.out, rd_row fun j x hx => ?_, fun e he => rd_nums fun j x hx => ?_, (hlow.trans hb10).trans (belowK_b (w := w) (Nat.le_refl _) w10 D _ _ (by omega) HK10.out rfl rfl)⟩
        · rw [HQ1.out.length_eq]
          rfl
        · obtain ⟨ad, h1, h2⟩ := HQ3.out j x hx
          exact ⟨ad, h1, cell_put _ HK10.out rfl h2⟩
        · exact cell_put _ HK10.out rfl (HQ4.out e (HQ1.out.mem_iff.1 he) j x hx)
      case stop =>
        rintro D c pre W _ _ h _
        exact h.elim
end gr
end Go.Proofs.YtahffafobdiogaaDoor
/- The cycle, computed; the values of the examples: plain. -/
namespace Go.Proofs.YtahffafobdiogaaDoor
set_option linter.unusedVariables false
set_option linter.unusedSimpArgs false
namespace gr
def pdB (E : Nat → Nat → Bool) (n low t : Nat) : Nat → Nat → Bool
  | 0, w => decide (w = t)
  | d + 1, w => decide (w < n) && decide (low ≤ w) && (List.range n).any fun v => E w v && pdB E n low t d v
theorem Pd.ltn {E : Nat → Nat → Bool} {n low t d w : Nat} (ht : t < n) (h : Pd E n low t d w) : w < n := by
  cases h with
  | zero => exact ht
  | succ hu _ _ _ => exact hu
theorem pdB_iff {E : Nat → Nat → Bool} {n low t : Nat} (ht : t < n) : ∀ (d w : Nat), pdB E n low t d w = true ↔ Pd E n low t d w
  | 0, w => by
    rw [pdB, decide_eq_true_eq, Pd.zero_iff]
  | d + 1, w => by
    rw [pdB, Bool.and_eq_true, Bool.and_eq_true, decide_eq_true_eq, decide_eq_true_eq, List.any_eq_true]
    constructor
    · rintro ⟨⟨h1, h2⟩, v, _, h3⟩
      rw [Bool.and_eq_true, pdB_iff ht d v] at h3
      exact .succ h1 h2 h3.1 h3.2
    · intro h
      cases h with
      | succ hu hl h k => exact ⟨⟨hu, hl⟩, _, List.mem_range.2 (k.ltn ht), by rw [Bool.and_eq_true, pdB_iff ht d]; exact ⟨h, k⟩⟩
def dstB (E : Nat → Nat → Bool) (n v w : Nat) : Option Nat := (List.range n).find? fun d => pdB E n v v d w
theorem dstB_eq {E : Nat → Nat → Bool} {n v : Nat} (hv : v < n) : dstB E n v = dstS E n v := dst_eq fun w d => by
  unfold dstB
  rw [List.find?_range_eq_some, pdB_iff hv]
  constructor
  · rintro ⟨h1, h2, h3⟩
    refine ⟨h1, fun e he => ?_⟩
    rcases Nat.lt_or_ge e d with h | h
    · have := h3 e h
      rw [(pdB_iff hv e w).2 he] at this
      cases this
    · exact h
  · intro h
    refine ⟨h.1, List.mem_range.2 (h.lt hv), fun e he => ?_⟩
    cases hp : pdB E n v v e w with
    | false => rfl
    | true =>
      have := h.2 e ((pdB_iff hv e w).1 hp)
      omega
def mndB (E : Nat → Nat → Bool) (n : Nat) (D : Nat → Option Nat) (v : Nat) : Option Nat := (List.range n).find? fun d => (List.range n).any fun w => E v w && decide (D w = some d)
theorem mndB_eq {E : Nat → Nat → Bool} {n : Nat} {D : Nat → Option Nat} (hD : ∀ w d, D w = some d → d < n) (v : Nat) : mndO E n D v = mndB E n D v := by
  have hany : ∀ d, ((List.range n).any fun w => E v w && decide (D w = some d)) = true ↔ ∃ w, w < n ∧ E v w = true ∧ D w = some d := fun d => by
    rw [List.any_eq_true]
    constructor
    · rintro ⟨w, h1, h2⟩
      rw [Bool.and_eq_true, decide_eq_true_eq] at h2
      exact ⟨w, List.mem_range.1 h1, h2⟩
    · rintro ⟨w, h1, h2⟩
      exact ⟨w, List.mem_range.2 h1, by rw [Bool.and_eq_true, decide_eq_true_eq]; exact h2⟩
  cases hm : mndB E n D v with
  | some d =>
    unfold mndB at hm
    rw [List.find?_range_eq_some, hany] at hm
    refine mndO_some.2 ⟨hm.1, fun w e h1 h2 h3 => ?_⟩
    rcases Nat.lt_or_ge e d with h | h
    · have := hm.2.2 e h
      rw [(hany e).2 ⟨w, h1, h2, h3⟩] at this
      cases this
    · exact h
  | none =>
    unfold mndB at hm
    refine mndO_none.2 fun w h1 h2 => ?_
    cases hd : D w with
    | none => rfl
    | some d =>
      have := List.find?_eq_none.1 hm d (List.mem_range.2 (hD w d hd))
      exact absurd ((hany d).2 ⟨w, h1, h2, hd⟩) this
def cstB (E : Nat → Nat → Bool) (n : Nat) (best : List Nat) (v : Nat) : List Nat :=
  let l := match mndB E n (dstB E n v) v with | none => [] | some d => v :: folr (nea E n (dstB E n v)) d v
  if l ≠ [] ∧ (best = [] ∨ l.length < best.length) then l else best
theorem cstB_eq {E : Nat → Nat → Bool} {n v : Nat} (hv : v < n) (best : List Nat) : cstep E n best v = cstB E n best v := by
  unfold cstep cstB thrS
  rw [mndB_eq (fun w d h => (dstS_iff.1 h).lt hv) v, ← dstB_eq hv]
  rfl
theorem cycB_eq {E : Nat → Nat → Bool} {n : Nat} : ∀ k, k ≤ n → cycK E n k = (List.range k).foldl (cstB E n) []
  | 0, _ => rfl
  | k + 1, h => by rw [cycK_succ, cycB_eq k (by omega), cstB_eq (by omega), List.range_succ, List.foldl_append]; rfl
/-- the examples -/
theorem ex_ord : ordL 4 [(2, 0), (0, 3)] = [1, 2, 0, 3] ∧ ordX 4 [(2, 0), (0, 3)] = 0 := by decide +kernel
theorem ex_cyc : cycK (eK [(0, 1), (1, 2), (2, 0), (4, 3), (3, 4)]) 5 5 = [3, 4] := by
  rw [cycB_eq 5 (Nat.le_refl _)]
  decide +kernel
theorem ex_cycx : cycX (eK [(0, 1), (1, 2), (2, 0), (4, 3), (3, 4)]) 5 = 0 := by
  unfold cycX
  rw [ex_cyc]
  rfl
theorem ex_none : cycK (eK []) 3 3 = [] ∧ cycX (eK []) 3 = 8 := by
  have h : cycK (eK []) 3 3 = [] := by
    rw [cycB_eq 3 (Nat.le_refl _)]
    decide +kernel
  exact ⟨h, by unfold cycX; rw [h]; rfl⟩
theorem Rch.stay {s : Nat → List Nat} (S : List Nat) (hc : ∀ x ∈ S, ∀ y ∈ s x, y ∈ S) {u v : Nat} (h : Rch s u v) : u ∈ S → v ∈ S := by
  induction h with
  | refl _ => exact id
  | step h1 _ ih => exact fun hu => ih (hc _ hu _ h1)
theorem ex_rch : rowB 3 (rchB (nbs (eK [(1, 2)]) 3) 1) = [.bool false, .bool true, .bool true] := by
  have h0 : rchB (nbs (eK [(1, 2)]) 3) 1 0 = false := by
    cases h : rchB (nbs (eK [(1, 2)]) 3) 1 0 with
    | false => rfl
    | true =>
      have := (rchB_iff.1 h).stay [1, 2] (by decide +kernel) (by decide)
      exact absurd this (by decide)
  have h1 : rchB (nbs (eK [(1, 2)]) 3) 1 1 = true := rchB_iff.2 (.refl _)
  have h2 : rchB (nbs (eK [(1, 2)]) 3) 1 2 = true := rchB_iff.2 (Rch.one (by decide +kernel))
  unfold rowB
  simp only [List.range_succ, List.range_zero, List.nil_append, List.cons_append, List.map_cons, List.map_nil, h0, h1, h2]
theorem mut_no {s : Nat → List Nat} (S : List Nat) (hc : ∀ x ∈ S, ∀ y ∈ s x, y ∈ S) {u v : Nat} (hu : u ∈ S) (hv : v ∉ S) : ¬ Mut s u v := fun h => hv (h.1.stay S hc hu)
theorem ex_parts : prts (nbs (eK [(0, 2), (2, 0), (2, 1)]) 4) 4 = [[0, 2], [1], [3]] := by
  obtain ⟨s, hs⟩ : ∃ s, nbs (eK [(0, 2), (2, 0), (2, 1)]) 4 = s := ⟨_, rfl⟩
  rw [hs]
  have e02 : Mut s 0 2 := ⟨Rch.one (by rw [← hs]; decide +kernel), Rch.one (by rw [← hs]; decide +kernel)⟩
  have n1 : ∀ v, v ≠ 1 → ¬ Mut s 1 v := fun v hv => mut_no [1] (by rw [← hs]; decide +kernel) (by decide) (by simpa using hv)
  have n3 : ∀ v, v ≠ 3 → ¬ Mut s 3 v := fun v hv => mut_no [3] (by rw [← hs]; decide +kernel) (by decide) (by simpa using hv)
  have c : ∀ v l, l.Pairwise (fun a b : Nat => a < b) → (∀ x, x ∈ l ↔ x < 4 ∧ Mut s v x) → cmp s 4 v = l := fun v l h1 h2 => asc_ext id _ _ (cmp_asc s 4 v) h1 fun x => by rw [cmp_mem, h2]
  have c0 : cmp s 4 0 = [0, 2] := c 0 _ (by decide) fun x => by
    constructor
    · intro h
      simp only [List.mem_cons, List.not_mem_nil, or_false] at h
      rcases h with rfl | rfl
      · exact ⟨by omega, Mut.refl _ _⟩
      · exact ⟨by omega, e02⟩
    · rintro ⟨h1, h2⟩
      have h3 : x ≠ 1 := fun e => n1 0 (by omega) (by rw [e] at h2; exact h2.symm)
      have h4 : x ≠ 3 := fun e => n3 0 (by omega) (by rw [e] at h2; exact h2.symm)
      simp only [List.mem_cons, List.not_mem_nil, or_false]
      omega
  have c2 : cmp s 4 2 = [0, 2] := (cmp_eq e02.symm).trans c0
  have c1 : cmp s 4 1 = [1] := c 1 _ (by decide) fun x => by
    rw [List.mem_singleton]
    constructor
    · rintro rfl
      exact ⟨by omega, Mut.refl _ _⟩
    · rintro ⟨_, h2⟩
      exact Classical.byContradiction fun e => n1 x e h2
  have c3 : cmp s 4 3 = [3] := c 3 _ (by decide) fun x => by
    rw [List.mem_singleton]
    constructor
    · rintro rfl
      exact ⟨by omega, Mut.refl _ _⟩
    · rintro ⟨_, h2⟩
      exact Classical.byContradiction fun e => n3 x e h2
  refine (prts_uniq (by decide) fun l => ?_).symm
  simp only [List.mem_cons, List.not_mem_nil, or_false]
  constructor
  · rintro (rfl | rfl | rfl)
    · exact ⟨0, by omega, c0.symm⟩
    · exact ⟨1, by omega, c1.symm⟩
    · exact ⟨3, by omega, c3.symm⟩
  · rintro ⟨v, hv, rfl⟩
    rcases (show v = 0 ∨ v = 1 ∨ v = 2 ∨ v = 3 by omega) with rfl | rfl | rfl | rfl
    · exact .inl c0
    · exact .inr (.inl c1)
    · exact .inl c2
    · exact .inr (.inr c3)
end gr
end Go.Proofs.YtahffafobdiogaaDoor
/- Same and lists. -/
namespace Go.Proofs.YtahffafobdiogaaDoor
set_option linter.unusedVariables false
set_option linter.unusedSimpArgs false
open Go.RowKit
namespace gr
theorem rd_at {W : World} {B : Nat} {A : Option Addr} {l : List Nat} (h : Rd W B A (vV l)) {k : Nat} (hk : k < l.length) : ∃ ad, A = some ad ∧ ad.block < B ∧ W.cell? (ad.add k) = some (.int .i64 ((l.getD k 0 : Nat) : Int)) := by
  obtain ⟨ad, h1, h2, h3⟩ := h (fun e => by have := congrArg List.length e; simp [vV] at this; subst this; simp at hk)
  refine ⟨ad, h1, h2, h3 k _ ?_⟩
  unfold vV
  rw [List.getElem?_map, List.getElem?_eq_getElem hk, List.getD, List.getElem?_eq_getElem hk]
  rfl
theorem take_more {l m : List Nat} {k : Nat} (h1 : k < l.length) (h2 : k < m.length) (h : l.take k = m.take k) : l.take (k + 1) = m.take (k + 1) ↔ l.getD k 0 = m.getD k 0 := by
  have e1 := List.take_succ_eq_append_getElem h1
  have e2 := List.take_succ_eq_append_getElem h2
  rw [e1, e2, h, List.getD, List.getD, List.getElem?_eq_getElem h1, List.getElem?_eq_getElem h2, List.append_cancel_left_eq]
  simp
theorem take_ne {l m : List Nat} {k : Nat} (h : l.take k ≠ m.take k) : (decide (l = m)) = false := by
  rw [decide_eq_false_iff_not]
  exact fun e => h (by rw [e])
set_option maxRecDepth 100000 in
set_option maxHeartbeats 1000000 in
theorem same_any (A B : Option Addr) (c d : Nat) (l m : List Nat) (w : World) (hA : Rd w w.heap.size A (vV l)) (hB : Rd w w.heap.size B (vV m)) (hl : l.length ≤ 1048576) (hm : m.length ≤ 1048576) :
    Calls Tryd.prog 12 #[.slice A l.length c, .slice B m.length d] w fun e w' => e = .returned (.bool (decide (l = m))) ∧ ∃ q, w' = w.drewN q := by
  have HA := Lib.hid hA
  have HB := Lib.hid hB
  clear hA hB
  by_cases hlm : l.length = m.length
  · have Hlm := Lib.hid hlm
    obtain ⟨n, hn⟩ : ∃ n, m.length = n := ⟨_, rfl⟩
    rw [hlm, hn]
    rw [hn] at hm hlm
    have HN := Lib.hid hn
    have HL := Lib.hid hlm
    clear hn hl hlm
    go_enter Tryd.func12, Tryd.ntmps12
    go_wp2
    go_loopw [5] (fun i wr => ∃ k j : Nat, k ≤ n ∧ i = .int .i64 k ∧ wr = w.drewN j ∧ Hid (l.take k = m.take k)) (fun i _ => n - (intOf i).toNat)
    case atStart => exact ⟨0, 0, by omega, rfl, rfl, rfl⟩
    case round =>
      obtain ⟨k, j, hk, rfl, rfl, HT⟩ := hrel
      by_cases hlt : k < n
      · obtain ⟨ad, rfl, _, hc⟩ := rd_at HA.out (show k < l.length by rw [HL.out]; exact hlt)
        obtain ⟨ad', rfl, _, hc'⟩ := rd_at HB.out (show k < m.length by rw [HN.out]; exact hlt)
        have HX := Lib.hid (take_more (show k < l.length by rw [HL.out]; exact hlt) (show k < m.length by rw [HN.out]; exact hlt) HT.out)
        generalize l.getD k 0 = x at *
        generalize m.getD k 0 = y at *
        have e3 : (k : Int) < (n : Int) := by omega
        go_wp2
        go_quiet (fail)
        go_wp2
        · go_ret
          refine ⟨congrArg (fun b => Ending.returned (.bool b)) (Eq.symm (take_ne (k := k + 1) fun e => ?_)), _, World.drewN_drewN _ _ _⟩
          have hxy := HX.out.1 e
          subst hxy
          simp at *
        · go_roundw
          case rel => exact ⟨k + 1, _, by omega, by go_num, rfl, HX.out.2 (by simp at *; omega)⟩
          case measure => simp [intOf]; omega
      · go_wp2
        go_ret
        have hkn : k = n := by omega
        refine ⟨congrArg (fun b => Ending.returned (.bool b)) (Eq.symm (decide_eq_true ?_)), _, rfl⟩
        have h1 := HT.out
        rw [hkn, List.take_of_length_le (by rw [HL.out]; omega), List.take_of_length_le (by rw [HN.out]; omega)] at h1
        exact h1
  · have hne : ¬ l = m := fun e => hlm (by rw [e])
    rw [decide_eq_false hne]
    have h1 : ¬ ((l.length : Int) = (m.length : Int)) := by omega
    clear HA HB hne
    generalize l.length = x at *
    generalize m.length = y at *
    have h2 : ((x : Int) == (y : Int)) = false := by simpa using h1
    go_enter Tryd.func12, Tryd.ntmps12
    go_wp2
    go_ret
    exact ⟨rfl, 0, rfl⟩
end gr
end Go.Proofs.YtahffafobdiogaaDoor
/- lists of lists. -/
namespace Go.Proofs.YtahffafobdiogaaDoor
set_option linter.unusedVariables false
set_option linter.unusedSimpArgs false
open Go.RowKit
namespace gr
abbrev PR := Nat × List Nat × Nat
/-- a row of rows can be read -/
def Rp (W : World) (A : Option Addr) (fs : List PR) : Prop := Rd W W.heap.size A (fs.map encP) ∧ ∀ e ∈ fs, Rd W W.heap.size (some ⟨e.1, 0, none⟩) (vV e.2.1)
theorem Rp.to {W W' : World} {A : Option Addr} {fs : List PR} (h : Rp W A fs) (hb : Below W.heap.size W W') : Rp W' A fs := ⟨h.1.to hb, fun e he => (h.2 e he).to hb⟩
theorem rp_at {W : World} {A : Option Addr} {fs : List PR} (h : Rp W A fs) {k : Nat} (hk : k < fs.length) : ∃ ad e, A = some ad ∧ fs[k]? = some e ∧ W.cell? (ad.add k) = some (encP e) ∧ Rd W W.heap.size (some ⟨e.1, 0, none⟩) (vV e.2.1) := by
  obtain ⟨ad, h1, h2, h3⟩ := h.1 (fun e => by have := congrArg List.length e; simp at this; subst this; simp at hk)
  refine ⟨ad, fs[k], h1, List.getElem?_eq_getElem hk, h3 k _ (by rw [List.getElem?_map, List.getElem?_eq_getElem hk]; rfl), h.2 _ (List.getElem_mem hk)⟩
end gr
end Go.Proofs.YtahffafobdiogaaDoor
/- awake. -/
namespace Go.Proofs.YtahffafobdiogaaDoor
set_option linter.unusedVariables false
set_option linter.unusedSimpArgs false
open Go.RowKit
namespace gr
/-- the cells of edges -/
def cE (ns : List (Nat × Nat)) : List Value := ns.flatMap fun e => [.int .i64 (e.1 : Int), .int .i64 (e.2 : Int)]
theorem cE_get : ∀ (ns : List (Nat × Nat)) (k : Nat), (cE ns)[k * 2]? = (ns[k]?).map (fun e => Value.int .i64 (e.1 : Int)) ∧ (cE ns)[k * 2 + 1]? = (ns[k]?).map (fun e => Value.int .i64 (e.2 : Int))
  | [], k => by simp [cE]
  | e :: r, 0 => by simp [cE]
  | e :: r, k + 1 => by
    have h := cE_get r k
    have e1 : cE (e :: r) = .int .i64 (e.1 : Int) :: .int .i64 (e.2 : Int) :: cE r := rfl
    rw [e1, show (k + 1) * 2 = k * 2 + 1 + 1 by omega]
    simp only [List.getElem?_cons_succ]
    exact h
theorem rdE_blk {W : World} {b : Nat} {t : TypeId} {ns : List (Nat × Nat)} (h : Blk W b t (cE ns)) : RdE W W.heap.size (some ⟨b, 0, none⟩) (eN ns) := fun _ => by
  refine ⟨_, rfl, h.lt, fun k e he => ?_⟩
  rw [eN_get] at he
  cases hx : ns[k]? with
  | none => rw [hx] at he; cases he
  | some x =>
    rw [hx] at he
    injection he with he
    subst he
    obtain ⟨h1, h2⟩ := cE_get ns k
    rw [hx] at h1 h2
    rw [off_add]
    exact ⟨h.cell h1, h.cell h2⟩
theorem ko_ex (w W : World) (hT : Tz w) (hb : Below w.heap.size w W) : Calls Tryd.prog 10 #[.int .i64 4, .slice (some ⟨W.heap.size, 0, none⟩) 2 2] (W.alloc (.cells #[.int .i64 2, .int .i64 0, .int .i64 0, .int .i64 3] 40)) fun e w' => ∃ A c, e = .returned (.tuple #[.slice A 4 c, .int .i64 0]) ∧ Rd w' w'.heap.size A (vV [1, 2, 0, 3]) ∧ Below w.heap.size w w' ∧ Below W.heap.size W w' := by
  have hblk : Blk (W.alloc (.cells #[.int .i64 2, .int .i64 0, .int .i64 0, .int .i64 3] 40)) W.heap.size _ (cE [(2, 0), (0, 3)]) := Blk.new W (cE [(2, 0), (0, 3)]) 40
  have hb2 : Below w.heap.size w (W.alloc (.cells #[.int .i64 2, .int .i64 0, .int .i64 0, .int .i64 3] 40)) := bel_alloc hb _
  refine (order_ok 4 (some ⟨W.heap.size, 0, none⟩) 2 [(2, 0), (0, 3)] (by decide) (by decide) (by decide) _ (hT.keep hb2) (rdE_blk hblk) (by decide +kernel)).mono ?_
  rintro e w' ⟨A, c, he, h1, h2⟩
  rw [ex_ord.1, ex_ord.2] at he
  rw [ex_ord.1] at h1
  exact ⟨A, c, he, h1, hb2.trans (h2.mono hb2.size), (bel_box _).trans (h2.mono (by simp))⟩
theorem kc_ex (w W : World) (hT : Tz w) (hb : Below w.heap.size w W) : Calls Tryd.prog 14 #[.int .i64 5, .slice (some ⟨W.heap.size, 0, none⟩) 5 5] (W.alloc (.cells #[.int .i64 0, .int .i64 1, .int .i64 1, .int .i64 2, .int .i64 2, .int .i64 0, .int .i64 4, .int .i64 3, .int .i64 3, .int .i64 4] 40)) fun e w' => ∃ A c, e = .returned (.tuple #[.slice A 2 c, .int .i64 0]) ∧ Rd w' w'.heap.size A (vV [3, 4]) ∧ Below w.heap.size w w' ∧ Below W.heap.size W w' := by
  have hblk : Blk (W.alloc (.cells #[.int .i64 0, .int .i64 1, .int .i64 1, .int .i64 2, .int .i64 2, .int .i64 0, .int .i64 4, .int .i64 3, .int .i64 3, .int .i64 4] 40)) W.heap.size _ (cE [(0, 1), (1, 2), (2, 0), (4, 3), (3, 4)]) := Blk.new W (cE [(0, 1), (1, 2), (2, 0), (4, 3), (3, 4)]) 40
  have hb2 : Below w.heap.size w (W.alloc (.cells #[.int .i64 0, .int .i64 1, .int .i64 1, .int .i64 2, .int .i64 2, .int .i64 0, .int .i64 4, .int .i64 3, .int .i64 3, .int .i64 4] 40)) := bel_alloc hb _
  refine (cycle_ok 5 (some ⟨W.heap.size, 0, none⟩) 5 [(0, 1), (1, 2), (2, 0), (4, 3), (3, 4)] (by decide) (by decide) (by decide) _ (hT.keep hb2) (rdE_blk hblk) (by decide +kernel)).mono ?_
  rintro e w' ⟨A, c, he, h1, h2⟩
  rw [ex_cyc, ex_cycx] at he
  rw [ex_cyc] at h1
  exact ⟨A, c, he, h1, hb2.trans (h2.mono hb2.size), (bel_box _).trans (h2.mono (by simp))⟩
theorem kn_ex (w W : World) (hT : Tz w) (hb : Below w.heap.size w W) : Calls Tryd.prog 14 #[.int .i64 3, .slice none 0 0] W fun e w' => ∃ A c, e = .returned (.tuple #[.slice A 0 c, .int .i64 8]) ∧ Below w.heap.size w w' ∧ Below W.heap.size W w' := by
  refine (cycle_ok 3 none 0 [] (by decide) (by decide) (by decide) _ (hT.keep hb) (fun h => absurd rfl h) (by decide +kernel)).mono ?_
  rintro e w' ⟨A, c, he, h1, h2⟩
  rw [ex_none.1, ex_none.2] at he
  exact ⟨A, c, he, hb.trans (h2.mono hb.size), h2⟩
theorem kr_ex (w W : World) (hT : Tz w) (hb : Below w.heap.size w W) : Calls Tryd.prog 16 #[.int .i64 3, .slice (some ⟨W.heap.size, 0, none⟩) 1 1, .int .i64 1] (W.alloc (.cells #[.int .i64 1, .int .i64 2] 40)) fun e w' => ∃ ad c, e = .returned (.tuple #[.slice (some ad) 3 c, .int .i64 0]) ∧ (ad.block < w'.heap.size ∧ w'.cell? (ad.add 0) = some (.bool false) ∧ w'.cell? (ad.add 1) = some (.bool true) ∧ w'.cell? (ad.add 2) = some (.bool true)) ∧ Below w.heap.size w w' ∧ Below W.heap.size W w' := by
  have hblk : Blk (W.alloc (.cells #[.int .i64 1, .int .i64 2] 40)) W.heap.size _ (cE [(1, 2)]) := Blk.new W (cE [(1, 2)]) 40
  have hb2 : Below w.heap.size w (W.alloc (.cells #[.int .i64 1, .int .i64 2] 40)) := bel_alloc hb _
  refine (reach_ok 3 1 (some ⟨W.heap.size, 0, none⟩) 1 [(1, 2)] (by decide) (by decide) (by decide) (by decide) _ (hT.keep hb2) (rdE_blk hblk) (by decide +kernel)).mono ?_
  rintro e w' ⟨A, c, he, h1, h2⟩
  rw [ex_rch] at h1
  obtain ⟨ad, rfl, h3, h4⟩ := h1 (by simp)
  exact ⟨ad, c, he, ⟨h3, h4 0 _ rfl, h4 1 _ rfl, h4 2 _ rfl⟩, hb2.trans (h2.mono hb2.size), (bel_box _).trans (h2.mono (by simp))⟩
theorem kp_ex (w W : World) (hT : Tz w) (hb : Below w.heap.size w W) : Calls Tryd.prog 18 #[.int .i64 4, .slice (some ⟨W.heap.size, 0, none⟩) 3 3] (W.alloc (.cells #[.int .i64 0, .int .i64 2, .int .i64 2, .int .i64 0, .int .i64 2, .int .i64 1] 40)) fun e w' => ∃ ad c g0 g1 g2 p0 p1 p2, e = .returned (.tuple #[.slice (some ad) 3 c, .int .i64 0]) ∧ (ad.block < w'.heap.size ∧ w'.cell? (ad.add 0) = some (.slice (some ⟨g0, 0, none⟩) 2 p0) ∧ w'.cell? (ad.add 1) = some (.slice (some ⟨g1, 0, none⟩) 1 p1) ∧ w'.cell? (ad.add 2) = some (.slice (some ⟨g2, 0, none⟩) 1 p2)) ∧ (Rd w' w'.heap.size (some ⟨g0, 0, none⟩) (vV [0, 2]) ∧ Rd w' w'.heap.size (some ⟨g1, 0, none⟩) (vV [1]) ∧ Rd w' w'.heap.size (some ⟨g2, 0, none⟩) (vV [3])) ∧ Below w.heap.size w w' ∧ Below W.heap.size W w' := by
  have hblk : Blk (W.alloc (.cells #[.int .i64 0, .int .i64 2, .int .i64 2, .int .i64 0, .int .i64 2, .int .i64 1] 40)) W.heap.size _ (cE [(0, 2), (2, 0), (2, 1)]) := Blk.new W (cE [(0, 2), (2, 0), (2, 1)]) 40
  have hb2 : Below w.heap.size w (W.alloc (.cells #[.int .i64 0, .int .i64 2, .int .i64 2, .int .i64 0, .int .i64 2, .int .i64 1] 40)) := bel_alloc hb _
  refine (parts_ok 4 (some ⟨W.heap.size, 0, none⟩) 3 [(0, 2), (2, 0), (2, 1)] (by decide) (by decide) (by decide) _ (hT.keep hb2) (rdE_blk hblk) (by decide +kernel)).mono ?_
  rintro e w' ⟨A, c, fs, he, h0, h1, h3, h2⟩
  rw [ex_parts] at h0
  obtain ⟨e0, e1, e2, rfl⟩ : ∃ e0 e1 e2, fs = [e0, e1, e2] := by
    rcases fs with _ | ⟨a, _ | ⟨b, _ | ⟨d, _ | ⟨f, r⟩⟩⟩⟩
    · simp at h0
    · simp at h0
    · simp at h0
    · exact ⟨_, _, _, rfl⟩
    · simp at h0
  simp only [List.map_cons, List.map_nil, List.cons.injEq, and_true] at h0
  obtain ⟨x0, x1, x2⟩ := h0
  obtain ⟨ad, rfl, h4, h5⟩ := h1 (by simp)
  have r0 := h3 e0 (by simp)
  have r1 := h3 e1 (by simp)
  have r2 := h3 e2 (by simp)
  have y0 := h5 0 _ rfl
  have y1 := h5 1 _ rfl
  have y2 := h5 2 _ rfl
  unfold encP at y0 y1 y2
  rw [x0] at r0 y0
  rw [x1] at r1 y1
  rw [x2] at r2 y2
  exact ⟨ad, c, e0.1, e1.1, e2.1, e0.2.2, e1.2.2, e2.2.2, he, ⟨h4, y0, y1, y2⟩, ⟨r0, r1, r2⟩, hb2.trans (h2.mono hb2.size), (bel_box _).trans (h2.mono (by simp))⟩
theorem same_new (A : Option Addr) (c : Nat) (l : List Nat) (W : World) (h : Rd W W.heap.size A (vV l)) (hl : l.length ≤ 1048576) : Calls Tryd.prog 12 #[.slice A l.length c, .slice (some ⟨W.heap.size, 0, none⟩) l.length l.length] (W.alloc (.cells (vV l).toArray 3)) fun e w' => e = .returned (.bool true) ∧ Below W.heap.size W w' := by
  have hblk := Blk.new W (vV l) 3
  have hbb : Below W.heap.size W (W.alloc (.cells (vV l).toArray 3)) := bel_box _
  refine (same_any A (some ⟨W.heap.size, 0, none⟩) c l.length l l _ (h.to hbb) (rd_nums fun j x hx => hblk.cell (by unfold vV; rw [List.getElem?_map, hx]; rfl)) hl hl).mono ?_
  rintro e w' ⟨he, q, rfl⟩
  rw [decide_eq_true rfl] at he
  exact ⟨he, below_drewN hbb q⟩
end gr
end Go.Proofs.YtahffafobdiogaaDoor
/- awake. -/
namespace Go.Proofs.YtahffafobdiogaaDoor
set_option linter.unusedVariables false
set_option linter.unusedSimpArgs false
open Go.RowKit
namespace gr
theorem addr0 (a : Addr) : a.add 0 = a := rfl
theorem addr1 (a : Addr) : a.add 1 = ⟨a.block, a.off + 1, none⟩ := by simp [Addr.add]
theorem addr2 (a : Addr) : a.add 2 = ⟨a.block, a.off + 2, none⟩ := by simp [Addr.add]
theorem cell_to {W W' : World} (hb : Below W.heap.size W W') {ad : Addr} {k : Nat} {v : Value} (h0 : ad.block < W.heap.size) (h : W.cell? (ad.add k) = some v) : W'.cell? (ad.add k) = some v := (hb.cell (by rw [add_block]; exact h0)).trans h
theorem keep3 {W W' : World} {ad : Addr} {v0 v1 v2 : Value} (h : ad.block < W.heap.size ∧ W.cell? (ad.add 0) = some v0 ∧ W.cell? (ad.add 1) = some v1 ∧ W.cell? (ad.add 2) = some v2) (hb : Below W.heap.size W W') : ad.block < W'.heap.size ∧ W'.cell? (ad.add 0) = some v0 ∧ W'.cell? (ad.add 1) = some v1 ∧ W'.cell? (ad.add 2) = some v2 := ⟨Nat.lt_of_lt_of_le h.1 hb.size, cell_to hb h.1 h.2.1, cell_to hb h.1 h.2.2.1, cell_to hb h.1 h.2.2.2⟩
theorem keep5 {W W' : World} {A B C : Option Addr} {a b c : List Value} (h : Rd W W.heap.size A a ∧ Rd W W.heap.size B b ∧ Rd W W.heap.size C c) (hb : Below W.heap.size W W') : Rd W' W'.heap.size A a ∧ Rd W' W'.heap.size B b ∧ Rd W' W'.heap.size C c := ⟨h.1.to hb, h.2.1.to hb, h.2.2.to hb⟩
set_option maxRecDepth 100000 in
set_option maxHeartbeats 8000000 in
theorem awake_any (w : World) (hT : Tz w) : Calls Tryd.prog 13 #[] w fun e w' => e = .returned (.bool true) ∧ Below w.heap.size w w' := by
  have HT := Lib.hid hT
  clear hT
  go_enter Tryd.func13, Tryd.ntmps13
  go_wp2_with (first
    | (go_at_call 10; refine (ko_ex w _ HT.out (Below.refl _ _)).mono ?_; rintro e w1 ⟨A1, c1, rfl, r1, b1, d1⟩; have R1 := Lib.hid r1; clear r1 d1)
    | (go_at_call 14; refine (kn_ex w _ HT.out b4).mono ?_; rintro e w5 ⟨A5, c5, rfl, b5, d5⟩; have R1 := Lib.hid (R1.out.to d5); have R2 := Lib.hid (R2.out.to d5); have R3 := Lib.hid (keep3 R3.out d5); have R4 := Lib.hid (keep3 R4.out d5); have R5 := Lib.hid (keep5 R5.out d5); clear d5 b4)
    | (go_at_call 14; refine (kc_ex w _ HT.out b1).mono ?_; rintro e w2 ⟨A2, c2, rfl, r2, b2, d2⟩; have R1 := Lib.hid (R1.out.to d2); have R2 := Lib.hid r2; clear r2 d2 b1)
    | (go_at_call 16; refine (kr_ex w _ HT.out b2).mono ?_; rintro e w3 ⟨ad3, c3, rfl, r3, b3, d3⟩; have R1 := Lib.hid (R1.out.to d3); have R2 := Lib.hid (R2.out.to d3); have R3 := Lib.hid r3; clear r3 d3 b2)
    | (go_at_call 18; refine (kp_ex w _ HT.out b3).mono ?_; rintro e w4 ⟨ad4, c4, g0, g1, g2, p0, p1, p2, rfl, r4, r5, b4, d4⟩; have R1 := Lib.hid (R1.out.to d4); have R2 := Lib.hid (R2.out.to d4); have R3 := Lib.hid (keep3 R3.out d4); have R4 := Lib.hid r4; have R5 := Lib.hid r5; clear r4 r5 d4 b3)
    | (have bb := b5; clear bb; go_at_call 12; refine (same_new A1 _ [1, 2, 0, 3] _ R1.out (by decide)).mono ?_; rintro e w6 ⟨rfl, d6⟩; have b6 := b5.trans (d6.mono b5.size); have R2 := Lib.hid (R2.out.to d6); have R3 := Lib.hid (keep3 R3.out d6); have R4 := Lib.hid (keep3 R4.out d6); have R5 := Lib.hid (keep5 R5.out d6); clear d6 b5)
    | (have bb := b6; clear bb; go_at_call 12; refine (same_new A2 _ [3, 4] _ R2.out (by decide)).mono ?_; rintro e w7 ⟨rfl, d7⟩; have b7 := b6.trans (d7.mono b6.size); obtain ⟨_, x0, x1, x2⟩ := keep3 R3.out d7; rw [addr0] at x0; rw [addr1] at x1; rw [addr2] at x2; have R4 := Lib.hid (keep3 R4.out d7); obtain ⟨_, y0, _, _⟩ := R4.out; rw [addr0] at y0; have R5 := Lib.hid (keep5 R5.out d7); clear d7 b6)
    | (have bb := b7; clear bb; go_at_call 12; refine (same_new _ _ [0, 2] _ R5.out.1 (by decide)).mono ?_; rintro e w8 ⟨rfl, d8⟩; have b8 := b7.trans (d8.mono b7.size); have R4 := Lib.hid (keep3 R4.out d8); obtain ⟨_, _, y1, _⟩ := R4.out; rw [addr1] at y1; have R5 := Lib.hid (keep5 R5.out d8); clear d8 b7 x0 x1 x2 y0)
    | (have bb := b8; clear bb; go_at_call 12; refine (same_new _ _ [1] _ R5.out.2.1 (by decide)).mono ?_; rintro e w9 ⟨rfl, d9⟩; have b9 := b8.trans (d9.mono b8.size); have R4 := Lib.hid (keep3 R4.out d9); obtain ⟨_, _, _, y2⟩ := R4.out; rw [addr2] at y2; have R5 := Lib.hid (keep5 R5.out d9); clear d9 b8 y1)
    | (have bb := b9; clear bb; go_at_call 12; refine (same_new _ _ [3] _ R5.out.2.2 (by decide)).mono ?_; rintro e w10 ⟨rfl, d10⟩; have b10 := b9.trans (d10.mono b9.size); clear d10 b9 y2))
  go_ret
  exact ⟨rfl, b10⟩
end gr
end Go.Proofs.YtahffafobdiogaaDoor
/- The order and the repetition of edges have no effect. -/
namespace Go.Proofs.YtahffafobdiogaaDoor
set_option linter.unusedVariables false
set_option linter.unusedSimpArgs false
open Go.RowKit
namespace gr
theorem eN_mem {ns : List (Nat × Nat)} {a b : Nat} : ((a : Int), (b : Int)) ∈ eN ns ↔ (a, b) ∈ ns := by
  unfold eN
  rw [List.mem_map]
  constructor
  · rintro ⟨⟨x, y⟩, h1, h2⟩
    injection h2 with h2 h3
    simp only at h2 h3
    obtain rfl : x = a := by omega
    obtain rfl : y = b := by omega
    exact h1
  · intro h
    exact ⟨_, h, rfl⟩
theorem cyc_len (E : Nat → Nat → Bool) (n : Nat) : (cycK E n n).length ≤ n := by
  by_cases h : cycK E n n = []
  · rw [h]; simp
  · obtain ⟨v, d, h1, ⟨⟨w, h2, h3, h4⟩, _⟩, _, h5⟩ := cycK_len n (Nat.le_refl _) h
    have := (dstS_iff.1 h4).lt h1
    omega
theorem cmp_len (s : Nat → List Nat) (n v : Nat) : (cmp s n v).length ≤ n := by
  have h := nodup_len' (cmp s n v) (List.range n) ((cmp_asc s n v).imp fun h => by omega) fun x hx => List.mem_range.2 (cmp_mem.1 hx).1
  rwa [List.length_range] at h
theorem prts_len (s : Nat → List Nat) (n : Nat) : (prts s n).length ≤ n ∧ ∀ l ∈ prts s n, l.length ≤ n := by
  refine ⟨?_, fun l hl => ?_⟩
  · unfold prts
    rw [List.length_map]
    have h := nodup_len' (lst1 s n) (List.range n) ?_ fun x hx => List.mem_range.2 (lst1_mem.1 hx).1
    · rwa [List.length_range] at h
    · unfold lst1
      exact List.Pairwise.filter _ List.nodup_range
  · obtain ⟨v, _, rfl⟩ := (prts_mem).1 hl
    exact cmp_len s n v
end gr
end Go.Proofs.YtahffafobdiogaaDoor
/- The law GraphTurned. -/
namespace Go.Proofs.YtahffafobdiogaaDoor
set_option linter.unusedVariables false
set_option linter.unusedSimpArgs false
open Go.RowKit
namespace gr
theorem kaw {w : World} (hT : Tz w) (W : World) (hb : Below w.heap.size w W) : Calls Tryd.prog 13 #[] W fun e w' => e = .returned (.bool true) ∧ Below w.heap.size w w' := (awake_any W (hT.keep hb)).mono fun e w' ⟨h1, h2⟩ => ⟨h1, hb.trans (h2.mono hb.size)⟩
end gr
end Go.Proofs.YtahffafobdiogaaDoor
/- An order and the places of the vertices in it; few. -/
namespace Go.Proofs.YtahffafobdiogaaDoor
set_option linter.unusedVariables false
set_option linter.unusedSimpArgs false
open Go.RowKit
namespace gr
theorem rdE_take {W : World} {B : Nat} {A : Option Addr} {es : List (Int × Int)} (h : RdE W B A es) (k : Nat) : RdE W B A (es.take k) := fun hn => by
  obtain ⟨ad, h1, h2, h3⟩ := h (fun e => hn (by rw [e]; simp))
  refine ⟨ad, h1, h2, fun j e he => h3 j e ?_⟩
  rw [List.getElem?_take] at he
  split at he
  · exact he
  · cases he
set_option maxHeartbeats 1000000 in
theorem few_any (A : Option Addr) (c : Nat) (es : List (Int × Int)) (w : World) (hA : A = none → es = []) (hc : es.length ≤ c) (hl : es.length ≤ 9223372036854775807) :
    Calls Tryd.prog 9 #[.slice A es.length c] w fun e w' => e = .returned (.slice A (es.take 400).length c) ∧ w' = w := by
  rw [List.length_take]
  by_cases h : 400 < es.length
  · rw [Nat.min_eq_left (by omega)]
    have h2 : (400 : Int) < (es.length : Int) := by omega
    have h3 : 400 ≤ c := by omega
    cases A with
    | none => rw [hA rfl] at h; simp at h
    | some ad =>
      clear hA
      generalize es.length = L at *
      go_enter Tryd.func9, Tryd.ntmps9
      go_wp2
      go_ret
      exact ⟨rfl, rfl⟩
  · rw [Nat.min_eq_right (by omega)]
    have h2 : ¬ (400 : Int) < (es.length : Int) := by omega
    clear hA
    generalize es.length = L at *
    go_enter Tryd.func9, Tryd.ntmps9
    go_wp2
    go_ret
    exact ⟨rfl, rfl⟩
end gr
end Go.Proofs.YtahffafobdiogaaDoor
/- What a shortest cycle is: plain. -/
namespace Go.Proofs.YtahffafobdiogaaDoor
set_option linter.unusedVariables false
set_option linter.unusedSimpArgs false
open Go.RowKit
namespace gr
theorem folr_at {E : Nat → Nat → Bool} {n v : Nat} (hv : v < n) : ∀ (d u : Nat), (d = 0 ∨ ∃ w, w < n ∧ E u w = true ∧ dstS E n v w = some d) → ∀ i, i < d → dstS E n v ((folr (nea E n (dstS E n v)) d u).getD i 0) = some (d - i) ∧ E ((u :: folr (nea E n (dstS E n v)) d u).getD i 0) ((u :: folr (nea E n (dstS E n v)) d u).getD (i + 1) 0) = true
  | 0, _, _, i, hi => by omega
  | d + 1, u, h, i, hi => by
    rcases h with h | ⟨w, h1, h2, h3⟩
    · omega
    · obtain ⟨x, hx⟩ := nea_ex (E := E) (n := n) (D := dstS E n v) h1 h2 h3
      obtain ⟨a1, a2, a3⟩ := nea_some hx
      have e : folr (nea E n (dstS E n v)) (d + 1) u = x :: folr (nea E n (dstS E n v)) d x := by
        rw [folr, hx]
      rw [e]
      cases i with
      | zero => exact ⟨a3, a2⟩
      | succ i =>
        have hc : d = 0 ∨ ∃ w, w < n ∧ E x w = true ∧ dstS E n v w = some d := by
          rcases Nat.eq_zero_or_pos d with h0 | h0
          · exact .inl h0
          · right
            obtain ⟨_, _, ⟨y, hy1, hy2⟩, _⟩ := Ds.succ_iff.1 (dstS_iff.1 a3)
            obtain ⟨e, rfl⟩ : ∃ e, d = e + 1 := ⟨d - 1, by omega⟩
            exact ⟨y, (Ds.succ_iff.1 hy2).1, hy1, dstS_iff.2 hy2⟩
        obtain ⟨b1, b2⟩ := folr_at hv d x hc i (by omega)
        refine ⟨?_, b2⟩
        rw [show d + 1 - (i + 1) = d - i by omega]
        exact b1
/-- a cycle that begins with its least vertex -/
structure Cyc (E : Nat → Nat → Bool) (n : Nat) (l : List Nat) : Prop where
  pos : 0 < l.length
  le : l.length ≤ n
  ge : ∀ i, i < l.length → l.getD 0 0 ≤ l.getD i 0
  ne : ∀ i, 0 < i → i < l.length → l.getD i 0 ≠ l.getD 0 0
  ed : ∀ i, i < l.length → E (l.getD i 0) (l.getD ((i + 1) % l.length) 0) = true
theorem cyc_of {E : Nat → Nat → Bool} {n : Nat} (h : cycK E n n ≠ []) : Cyc E n (cycK E n n) := by
  obtain ⟨v, d, hv, hm, e, hlen⟩ := cycK_len n (Nat.le_refl _) h
  have hle := cyc_len E n
  obtain ⟨w, h1, h2, h3⟩ := hm.1
  have hf := folr_at hv d v (.inr ⟨w, h1, h2, h3⟩)
  rw [e] at hlen hle ⊢
  generalize hxs : folr (nea E n (dstS E n v)) d v = xs at *
  have h0 : (v :: xs).getD 0 0 = v := rfl
  have hge : ∀ i, i < d → v ≤ xs.getD i 0 ∧ xs.getD i 0 ≠ v := fun i hi => by
    have h4 := dstS_iff.1 (hf i hi).1
    obtain ⟨k, hk⟩ : ∃ k, d - i = k + 1 := ⟨d - i - 1, by omega⟩
    rw [hk] at h4
    refine ⟨(Ds.succ_iff.1 h4).2.1, fun e => ?_⟩
    rw [e] at h4
    have h5 : Ds E n v v 0 v := Ds.zero_iff.2 rfl
    have := h4.uniq h5
    omega
  refine ⟨by simp, hle, fun i hi => ?_, fun i h0 hi => ?_, fun i hi => ?_⟩
  · cases i with
    | zero => exact Nat.le_refl _
    | succ i => exact (hge i (by simp at hi hlen; omega)).1
  · cases i with
    | zero => omega
    | succ i => exact (hge i (by simp at hi hlen; omega)).2
  · rcases Nat.lt_or_ge i d with hid | hid
    · rw [Nat.mod_eq_of_lt (by omega)]
      exact (hf i hid).2
    · have hi2 : i = d := by omega
      subst hi2
      rw [hlen, Nat.mod_self, h0]
      cases i with
      | zero =>
        have h5 := Ds.zero_iff.1 (dstS_iff.1 h3)
        subst h5
        exact h2
      | succ d =>
        have h4 := dstS_iff.1 (hf d (by omega)).1
        rw [show d + 1 - d = 0 + 1 by omega] at h4
        obtain ⟨_, _, ⟨x, h6, h7⟩, _⟩ := Ds.succ_iff.1 h4
        rw [Ds.zero_iff.1 h7] at h6
        exact h6
theorem cyc_lt {E : Nat → Nat → Bool} {n : Nat} {l : List Nat} (hEm : ∀ u x, E u x = true → u < n) (h : Cyc E n l) {i : Nat} (hi : i < l.length) : l.getD i 0 < n := hEm _ _ (h.ed i hi)
/-- all of its vertices are in one component -/
theorem cyc_mut {E : Nat → Nat → Bool} {n : Nat} {l : List Nat} (hEn : ∀ u x, E u x = true → x < n) (h : Cyc E n l) {i : Nat} (hi : i < l.length) : Mut (nbs E n) (l.getD 0 0) (l.getD i 0) := by
  have one : ∀ j, j < l.length → Rch (nbs E n) (l.getD j 0) (l.getD ((j + 1) % l.length) 0) := fun j hj => Rch.one (nbs_mem.2 ⟨hEn _ _ (h.ed j hj), h.ed j hj⟩)
  have up : ∀ j, j < l.length → Rch (nbs E n) (l.getD 0 0) (l.getD j 0) := fun j => by
    induction j with
    | zero => exact fun _ => .refl _
    | succ j ih =>
      intro hj
      have := one j (by omega)
      rw [Nat.mod_eq_of_lt hj] at this
      exact (ih (by omega)).trans this
  have down : ∀ k j, j + k + 1 = l.length → Rch (nbs E n) (l.getD j 0) (l.getD 0 0) := fun k => by
    induction k with
    | zero =>
      intro j hj
      have := one j (by omega)
      rw [show j + 1 = l.length by omega, Nat.mod_self] at this
      exact this
    | succ k ih =>
      intro j hj
      have := one j (by omega)
      rw [Nat.mod_eq_of_lt (by omega)] at this
      exact this.trans (ih (j + 1) (by omega))
  exact ⟨up i hi, down (l.length - i - 1) i (by omega)⟩
end gr
end Go.Proofs.YtahffafobdiogaaDoor
/- has and holds. -/
namespace Go.Proofs.YtahffafobdiogaaDoor
set_option linter.unusedVariables false
set_option linter.unusedSimpArgs false
open Go.RowKit
namespace gr
theorem mem_take_succ {α : Type} {l : List α} {k : Nat} {x y : α} (h : l[k]? = some x) : y ∈ l.take (k + 1) ↔ y ∈ l.take k ∨ y = x := by
  rw [List.take_add_one, h]
  simp
set_option maxRecDepth 100000 in
set_option maxHeartbeats 1000000 in
theorem lholds_any (A : Option Addr) (c : Nat) (l : List Nat) (v : Nat) (w : World) (hA : Rd w w.heap.size A (vV l)) (hl : l.length ≤ 1048576) :
    Calls Tryd.prog 22 #[.slice A l.length c, .int .i64 (v : Int)] w fun e w' => e = .returned (.bool (decide (v ∈ l))) ∧ w' = w := by
  have HA := Lib.hid hA
  clear hA
  obtain ⟨m, hm⟩ : ∃ m, l.length = m := ⟨_, rfl⟩
  rw [hm] at hl ⊢
  have HM := Lib.hid hm
  clear hm
  go_enter Tryd.func22, Tryd.ntmps22
  go_wp2
  go_loopw [5] (fun i wr => ∃ k : Nat, k ≤ m ∧ i = .int .i64 (k : Int) ∧ wr = w ∧ Hid (v ∉ l.take k)) (fun i _ => m - (intOf i).toNat)
  case atStart => exact ⟨0, by omega, rfl, rfl, Lib.hid (by simp)⟩
  case round =>
    obtain ⟨k, hk, rfl, rfl, HT⟩ := hrel
    by_cases hlt : k < m
    · have hkl : k < l.length := by rw [HM.out]; exact hlt
      obtain ⟨ad, rfl, _, hc⟩ := rd_at HA.out hkl
      have hx : l[k]? = some (l.getD k 0) := by rw [List.getD, List.getElem?_eq_getElem hkl]; rfl
      have HX := Lib.hid hx
      clear hx
      generalize l.getD k 0 = x at *
      have e1 : (k : Int) < (m : Int) := by omega
      by_cases hxv : x = v
      · subst hxv
        go_wp2
        go_ret
        exact ⟨congrArg (fun b => Ending.returned (.bool b)) (decide_eq_true (List.mem_of_getElem? HX.out)).symm, rfl⟩
      · have h2 : ¬ ((x : Int) = (v : Int)) := by omega
        have h3 : ((x : Int) == (v : Int)) = false := by simpa using h2
        go_wp2
        go_roundw
        case rel => exact ⟨k + 1, by omega, by go_num, by trivial, Lib.hid (by rw [mem_take_succ HX.out]; exact fun h => h.elim HT.out (fun e => hxv e.symm))⟩
        case measure => simp [intOf]; omega
    · have hkm : k = m := by omega
      subst hkm
      have hn : v ∉ l := by
        have := HT.out
        rwa [List.take_of_length_le (by rw [HM.out]; omega)] at this
      have HN := Lib.hid hn
      clear hn
      go_wp2
      go_ret
      exact ⟨congrArg (fun b => Ending.returned (.bool b)) (decide_eq_false HN.out).symm, rfl⟩
set_option maxRecDepth 100000 in
set_option maxHeartbeats 1000000 in
theorem ehas_any (A : Option Addr) (c : Nat) (es : List (Int × Int)) (a b : Nat) (w : World) (hA : RdE w w.heap.size A es) (hl : es.length ≤ 1048576) :
    Calls Tryd.prog 21 #[.slice A es.length c, .int .i64 (a : Int), .int .i64 (b : Int)] w fun e w' => e = .returned (.bool (decide (((a : Int), (b : Int)) ∈ es))) ∧ w' = w := by
  have HA := Lib.hid hA
  clear hA
  obtain ⟨m, hm⟩ : ∃ m, es.length = m := ⟨_, rfl⟩
  rw [hm] at hl ⊢
  have HM := Lib.hid hm
  clear hm
  go_enter Tryd.func21, Tryd.ntmps21
  go_wp2
  go_loopw [7] (fun i wr => ∃ k : Nat, k ≤ m ∧ i = .int .i64 (k : Int) ∧ wr = w ∧ Hid (((a : Int), (b : Int)) ∉ es.take k)) (fun i _ => m - (intOf i).toNat)
  case atStart => exact ⟨0, by omega, rfl, rfl, Lib.hid (by simp)⟩
  case round =>
    obtain ⟨k, hk, rfl, rfl, HT⟩ := hrel
    by_cases hlt : k < m
    · have hkl : k < es.length := by rw [HM.out]; exact hlt
      obtain ⟨ad, f, t, rfl, _, hx, c0, c1⟩ := HA.out.at_ hkl
      have HX := Lib.hid hx
      clear hx
      have e1 : (k : Int) < (m : Int) := by omega
      by_cases h1 : f = (a : Int)
      · by_cases h2 : t = (b : Int)
        · subst h1
          subst h2
          go_wp2
          go_ret
          exact ⟨congrArg (fun b => Ending.returned (.bool b)) (decide_eq_true (List.mem_of_getElem? HX.out)).symm, rfl⟩
        · subst h1
          have h3 : (t == (b : Int)) = false := by simpa using h2
          go_wp2
          go_roundw
          case rel => exact ⟨k + 1, by omega, by go_num, by trivial, Lib.hid (by rw [mem_take_succ HX.out]; exact fun h => h.elim HT.out (fun e => h2 (by injection e with _ e; exact e.symm)))⟩
          case measure => simp [intOf]; omega
      · have h3 : (f == (a : Int)) = false := by simpa using h1
        go_wp2
        go_roundw
        case rel => exact ⟨k + 1, by omega, by go_num, by trivial, Lib.hid (by rw [mem_take_succ HX.out]; exact fun h => h.elim HT.out (fun e => h1 (by injection e with e _; exact e.symm)))⟩
        case measure => simp [intOf]; omega
    · have hkm : k = m := by omega
      subst hkm
      have hn : ((a : Int), (b : Int)) ∉ es := by
        have := HT.out
        rwa [List.take_of_length_le (by rw [HM.out]; omega)] at this
      have HN := Lib.hid hn
      clear hn
      go_wp2
      go_ret
      exact ⟨congrArg (fun b => Ending.returned (.bool b)) (decide_eq_false HN.out).symm, rfl⟩
end gr
end Go.Proofs.YtahffafobdiogaaDoor
/- The law GraphRound. -/
namespace Go.Proofs.YtahffafobdiogaaDoor
set_option linter.unusedVariables false
set_option linter.unusedSimpArgs false
open Go.RowKit
namespace gr
theorem cmp_first {s : Nat → List Nat} {n v x : Nat} (h : x ∈ cmp s n v) : (cmp s n v).getD 0 0 ≤ x := by
  have ha := cmp_asc s n v
  cases hc : cmp s n v with
  | nil => rw [hc] at h; cases h
  | cons a r =>
    rw [hc] at h ha
    rcases List.mem_cons.1 h with rfl | h
    · exact Nat.le_refl _
    · exact Nat.le_of_lt ((List.pairwise_cons.1 ha).1 x h)
set_option maxRecDepth 100000 in
set_option maxHeartbeats 8000000 in
theorem round_any (n : Int) (A : Option Addr) (c : Nat) (es : List (Int × Int)) (w : World) (hT : Tz w) (hA : RdE w w.heap.size A es) (hcl : es.length ≤ c) (hl : es.length ≤ 9223372036854775807) (hn : -9223372036854775808 ≤ n ∧ n ≤ 9223372036854775807) :
    Calls Tryd.prog 7 #[.int .i64 n, .slice A es.length c] w fun e w' => e = .returned (.bool true) ∧ Below w.heap.size w w' := by
  have KAW := Lib.hid (kaw hT)
  have KF := Lib.hid (few_any A c es w (fun h => Classical.byContradiction fun hne => by obtain ⟨_, h1, _⟩ := hA hne; rw [h] at h1; cases h1) hcl hl)
  have hA2 := rdE_take hA 400
  have hm : (es.take 400).length ≤ 400 := by rw [List.length_take]; omega
  clear hA hcl
  generalize es.take 400 = E at *
  generalize es.length = L at *
  by_cases h100 : 100 < n
  · clear hT hA2
    generalize E.length = m at *
    go_enter Tryd.func7, Tryd.ntmps7
    go_wp2_with (first
      | (go_at_call 9; refine KF.out.mono ?_; rintro e w0 ⟨rfl, rfl⟩)
      | (go_at_call 13; refine (KAW.out _ (Below.refl _ _)).mono ?_; rintro e w1 ⟨rfl, hb1⟩))
    go_ret
    exact ⟨rfl, hb1⟩
  cases hv : valB n E with
  | false =>
    have KO := Lib.hid (show ∀ W, Below w.heap.size w W → _ from fun W hb => parts_bad n A c E (by omega) W ((hA2.below hb).more' hb.size) hv)
    have KC := Lib.hid (show ∀ W, Below w.heap.size w W → _ from fun W hb => cycle_bad n A c E (by omega) W ((hA2.below hb).more' hb.size) hv)
    clear hT hA2 hv
    generalize E.length = m at *
    go_enter Tryd.func7, Tryd.ntmps7
    go_wp2_with (first
      | (go_at_call 9; refine KF.out.mono ?_; clear KF; rintro e w0 ⟨rfl, rfl⟩)
      | (go_at_call 14; refine (KC.out _ (Below.refl _ _)).mono ?_; rintro e w1 ⟨A1, c1, rfl, r1, b1⟩; clear r1)
      | (go_at_call 18; refine (KO.out _ b1).mono ?_; rintro e w2 ⟨rfl, d2⟩; have b2 := b1.trans (d2.mono b1.size); clear d2 b1)
      | (go_at_call 13; refine (KAW.out _ b2).mono ?_; rintro e w3 ⟨rfl, b3⟩))
    go_ret
    exact ⟨rfl, b3⟩
  | true =>
    obtain ⟨N, ns, rfl, hN, rfl, hr⟩ := valB_nat hv
    have hm' : ns.length ≤ 400 := by rw [← eN_len]; exact hm
    have hEn : ∀ u x, eK ns u x = true → x < N := eK_lt hr
    have hEm : ∀ u x, eK ns u x = true → u < N := fun u x h => by
      unfold eK at h
      exact (hr _ (List.contains_iff_mem.1 h)).1
    have KO := Lib.hid (show ∀ W, Below w.heap.size w W → _ from fun W hb => parts_ok N A c ns hN hr (by omega) W (hT.keep hb) ((hA2.below hb).more' hb.size) hv)
    have KC := Lib.hid (show ∀ W, Below w.heap.size w W → _ from fun W hb => cycle_ok N A c ns hN hr (by omega) W (hT.keep hb) ((hA2.below hb).more' hb.size) hv)
    have HE := Lib.hid hA2
    rw [eN_len] at KF
    by_cases hcy : cycK (eK ns) N N = []
    · have x2 : cycX (eK ns) N = 8 := by unfold cycX; rw [hcy]; rfl
      rw [x2, hcy] at KC
      clear hT hA2 hv HE x2 hcy hEn hEm
      generalize ns.length = m at *
      go_enter Tryd.func7, Tryd.ntmps7
      go_wp2_with (first
        | (go_at_call 9; refine KF.out.mono ?_; clear KF; rintro e w0 ⟨rfl, rfl⟩)
        | (go_at_call 14; refine (KC.out _ (Below.refl _ _)).mono ?_; rintro e w1 ⟨A1, c1, rfl, r1, b1⟩; clear r1)
        | (go_at_call 18; refine (KO.out _ b1).mono ?_; rintro e w2 ⟨A2, c2, fs, rfl, q1, q2, q3, d2⟩; have b2 := b1.trans (d2.mono b1.size); clear q1 q2 q3 d2 b1)
        | (go_at_call 13; refine (KAW.out _ b2).mono ?_; rintro e w3 ⟨rfl, b3⟩))
      go_ret
      exact ⟨rfl, b3⟩
    · have hC := cyc_of hcy
      have x2 : cycX (eK ns) N = 0 := by
        unfold cycX
        cases hc : cycK (eK ns) N N with
        | nil => exact absurd hc hcy
        | cons a r => rfl
      rw [x2] at KC
      obtain ⟨l, hl2⟩ : ∃ l, cycK (eK ns) N N = l := ⟨_, rfl⟩
      rw [hl2] at KC hC
      obtain ⟨ll, hll⟩ : ∃ ll, l.length = ll := ⟨_, rfl⟩
      have KC := Lib.hid (show ∀ W, Below w.heap.size w W → Calls Tryd.prog 14 #[.int .i64 (N : Int), .slice A ns.length c] W fun e w' => ∃ A c, e = .returned (.tuple #[.slice A ll c, .int .i64 0]) ∧ Rd w' w'.heap.size A (vV l) ∧ Below W.heap.size W w' from fun W hb => (KC.out W hb).mono fun e w' h => by rw [← hll]; exact h)
      have h1 := hC.pos
      have h2 := hC.le
      rw [hll] at h1 h2
      have HC := Lib.hid hC
      have HL := Lib.hid hll
      have KH := Lib.hid (show ∀ k, k < ll → ∀ W, Below w.heap.size w W → Calls Tryd.prog 21 #[.slice A ns.length c, .int .i64 ((l.getD k 0 : Nat) : Int), .int .i64 ((l.getD ((k + 1) % ll) 0 : Nat) : Int)] W fun e w' => e = .returned (.bool true) ∧ w' = W from fun k hk W hb => by
        have h3 := ehas_any A c (eN ns) (l.getD k 0) (l.getD ((k + 1) % ll) 0) W ((hA2.below hb).more' hb.size) (by rw [eN_len]; omega)
        rw [decide_eq_true (eN_mem.2 (by
          have h4 := hC.ed k (by rw [hll]; exact hk)
          rw [hll] at h4
          unfold eK at h4
          exact List.contains_iff_mem.1 h4)), eN_len] at h3
        exact h3)
      have HM := Lib.hid (fun i (hi : i < l.length) => cyc_mut hEn hC hi)
      have HLt := Lib.hid (fun i (hi : i < l.length) => cyc_lt hEm hC hi)
      have HPm := Lib.hid (prts_len (nbs (eK ns) N) N)
      clear hT hA2 hv HE x2 hcy hEn hEm hC hl2 hll hr hm
      generalize hnb : nbs (eK ns) N = sn at *
      clear hnb
      generalize ns.length = m at *
      have n1 : ((ll : Int) == 0) = false := by simp; omega
      have n2 : ¬ N < ll := by omega
      go_enter Tryd.func7, Tryd.ntmps7
      go_wp2_with (first
        | (go_at_call 9; refine KF.out.mono ?_; clear KF; rintro e w0 ⟨rfl, rfl⟩)
        | (go_at_call 14; refine (KC.out _ (Below.refl _ _)).mono ?_; rintro e w1 ⟨A1, c1, rfl, r1, b1⟩; have R1 := Lib.hid r1; clear r1)
        | (go_at_call 18; refine (KO.out _ b1).mono ?_; rintro e w2 ⟨A2, c2, fs, rfl, q1, q2, q3, d2⟩; have b2 := b1.trans (d2.mono b1.size); have R1 := Lib.hid (R1.out.to d2); have Q1 := Lib.hid q1; have Q2 := Lib.hid (show Rp w2 A2 fs from ⟨q2, q3⟩); clear q1 q2 q3 d2 b1))
      go_loopw [9] (fun i wr => ∃ k j : Nat, k ≤ ll ∧ i = .int .i64 (k : Int) ∧ wr = w2.drewN j) (fun i _ => ll - (intOf i).toNat)
      case atStart => exact ⟨0, 0, by omega, rfl, rfl⟩
      case round =>
        obtain ⟨k, j, hk, rfl, rfl⟩ := hrel
        by_cases hlt : k < ll
        · have hr0 : (k + 1) % ll < ll := Nat.mod_lt _ h1
          obtain ⟨ad, rfl, _, c0⟩ := rd_at R1.out (show 0 < l.length by rw [HL.out]; exact h1)
          obtain ⟨_, rfl2, _, ck⟩ := rd_at R1.out (show k < l.length by rw [HL.out]; exact hlt)
          cases rfl2
          obtain ⟨_, rfl3, _, cr⟩ := rd_at R1.out (show (k + 1) % ll < l.length by rw [HL.out]; exact hr0)
          cases rfl3
          rw [addr0] at c0
          have hge := HC.out.ge k (by rw [HL.out]; exact hlt)
          have hne := fun h0 => HC.out.ne k h0 (by rw [HL.out]; exact hlt)
          have KS := Lib.hid (fun q => (KH.out k hlt (w2.drewN (j + q)) (below_drewN b2 _)).mono (R' := fun e w' => e = .returned (.bool true) ∧ ∃ q, w' = w2.drewN (j + q)) fun e w' ⟨h1, h2⟩ => ⟨h1, q, h2⟩)
          have e2 : ((k : Int) + 1).tmod (ll : Int) = (((k + 1) % ll : Nat) : Int) := rfl
          have e2b : ((k : Int) + 1) % (ll : Int) = (((k + 1) % ll : Nat) : Int) := rfl
          have e3 : ¬ ((ll : Int) = 0) := by omega
          have e4 : (0 : Int) ≤ (((k + 1) % ll : Nat) : Int) := by omega
          have e5 : (((k + 1) % ll : Nat) : Int) < (ll : Int) := by omega
          generalize (k + 1) % ll = r at *
          generalize l.getD k 0 = x at *
          generalize l.getD r 0 = y at *
          generalize l.getD 0 0 = v0 at *
          have e1 : (k : Int) < (ll : Int) := by omega
          have e6 : decide (x < v0) = false := decide_eq_false (by omega)
          have e8 : (0 : Int) < (ll : Int) := by omega
          have hend : True := trivial
          by_cases hk0 : k = 0
          · have e7b : decide (0 < k) = false := decide_eq_false (by omega)
            clear hk0 hne hend hr0
            go_wp2
            go_quiet ((go_at_call 21; exact KS.out _))
            go_wp2
            go_roundw
            case rel => exact ⟨k + 1, _, by omega, by go_num, rfl⟩
            case measure => simp [intOf]; omega
          · have e7b : decide (0 < k) = true := decide_eq_true (by omega)
            have e9c : (x == v0) = false := by have := hne (by omega); simpa using this
            have e9b : ¬ x = v0 := hne (by omega)
            have e9 : ((x : Int) == (v0 : Int)) = false := by have := hne (by omega); simp; omega
            clear hk0 hne hend hr0
            go_wp2
            go_quiet ((go_at_call 21; exact KS.out _))
            go_wp2
            go_roundw
            case rel => exact ⟨k + 1, _, by omega, by go_num, rfl⟩
            case measure => simp [intOf]; omega
        · have hv0N : l.getD 0 0 < N := HLt.out 0 (by rw [HL.out]; exact h1)
          obtain ⟨P, hP⟩ : ∃ P, fs.length = P := ⟨_, rfl⟩
          have hPb : P ≤ 300 := by
            have := HPm.out.1
            rw [← Q1.out, List.length_map, hP] at this
            omega
          have HF := Lib.hid (show ∀ k, k < P → ∃ ad x g p, A2 = some ad ∧ w2.cell? (ad.add k) = some (.slice (some ⟨g, 0, none⟩) x.length p) ∧ Rd w2 w2.heap.size (some ⟨g, 0, none⟩) (vV x) ∧ 0 < x.length ∧ x.length ≤ 4096 ∧ (l.getD 0 0 ∈ x → x.getD 0 0 ≤ l.getD 0 0 ∧ ∀ i, i < ll → l.getD i 0 ∈ x) ∧ (fs.map fun e => e.2.1)[k]? = some x from fun k hk => by
            obtain ⟨ad, e, h3, h4, h5, h6⟩ := rp_at Q2.out (show k < fs.length by rw [hP]; exact hk)
            have hx : (fs.map fun e => e.2.1)[k]? = some e.2.1 := by rw [List.getElem?_map, h4]; rfl
            have hmem : e.2.1 ∈ prts sn N := by rw [← Q1.out]; exact List.mem_of_getElem? hx
            obtain ⟨v, hv, ev⟩ := prts_mem.1 hmem
            have hlen := cmp_len sn N v
            rw [← ev] at hlen
            refine ⟨ad, e.2.1, e.1, e.2.2, h3, h5, h6, ?_, by omega, fun hin => ?_, hx⟩
            · obtain ⟨a, r, e1, _⟩ := cmp_cons (s := sn) hv
              rw [ev, e1]
              simp
            · rw [ev] at hin ⊢
              refine ⟨cmp_first hin, fun i hi => cmp_mem.2 ⟨HLt.out i (by rw [HL.out]; exact hi), (cmp_mem.1 hin).2.trans (HM.out i (by rw [HL.out]; exact hi))⟩⟩)
          have HX := Lib.hid (show ∃ k x, k < P ∧ (fs.map fun e => e.2.1)[k]? = some x ∧ l.getD 0 0 ∈ x by
            have hmem : cmp sn N (l.getD 0 0) ∈ fs.map fun e => e.2.1 := by rw [Q1.out]; exact prts_mem.2 ⟨_, hv0N, rfl⟩
            obtain ⟨k, hk, e⟩ := List.getElem_of_mem hmem
            exact ⟨k, _, by rw [← hP]; simpa using hk, List.getElem?_eq_getElem hk, by rw [e]; exact cmp_mem.2 ⟨hv0N, Mut.refl _ _⟩⟩)
          obtain ⟨ad, rfl, _, c0⟩ := rd_at R1.out (show 0 < l.length by rw [HL.out]; exact h1)
          rw [addr0] at c0
          have HCk := Lib.hid (show ∀ k, k < ll → w2.cell? (ad.add k) = some (.int .i64 ((l.getD k 0 : Nat) : Int)) from fun k hk => by
            obtain ⟨_, rfl2, _, ck⟩ := rd_at R1.out (show k < l.length by rw [HL.out]; exact hk)
            cases rfl2
            exact ck)
          have hkl : k = ll := by omega
          have e8 : (0 : Int) < (ll : Int) := by omega
          clear Q2
          generalize hfm : (fs.map fun e => e.2.1) = fm at *
          rw [hP]
          clear hfm hP
          clear hkl
          obtain ⟨W4, hW4⟩ : ∃ W4, w2.drewN j = W4 := ⟨_, rfl⟩
          go_wp2
          go_loopw [10] (fun i wr => ∃ k j : Nat, k ≤ P ∧ i = .int .i64 (k : Int) ∧ wr = w2.drewN j ∧ Hid (∀ i x, i < k → fm[i]? = some x → l.getD 0 0 ∉ x)) (fun i _ => P - (intOf i).toNat)
          case atStart => exact ⟨0, _, by omega, rfl, hW4.symm, Lib.hid (fun i x hi => by omega)⟩
          case round =>
            obtain ⟨k2, j2, hk2, rfl, rfl, HN⟩ := hrel
            by_cases hlt2 : k2 < P
            · obtain ⟨ad2, x, g, p, rfl, ca, ra, x1, x2, hin, hx⟩ := HF.out k2 hlt2
              obtain ⟨_, rfl3, _, cx⟩ := rd_at ra x1
              cases rfl3
              rw [addr0] at cx
              have KHo := Lib.hid (fun q => (lholds_any (some ⟨g, 0, none⟩) p x (l.getD 0 0) (w2.drewN (j2 + q)) (ra.drewN _) (by omega)).mono (R' := fun e w' => e = .returned (.bool (decide (l.getD 0 0 ∈ x))) ∧ ∃ q, w' = w2.drewN (j2 + q)) fun e w' ⟨h1, h2⟩ => ⟨h1, q, h2⟩)
              have KHk := Lib.hid (show l.getD 0 0 ∈ x → ∀ k, k < ll → ∀ j q, Calls Tryd.prog 22 #[.slice (some ⟨g, 0, none⟩) x.length p, .int .i64 ((l.getD k 0 : Nat) : Int)] (w2.drewN (j + q)) fun e w' => e = .returned (.bool true) ∧ ∃ q, w' = w2.drewN (j + q) from fun hv k hk j q => (lholds_any (some ⟨g, 0, none⟩) p x (l.getD k 0) (w2.drewN (j + q)) (ra.drewN _) (by omega)).mono fun e w' ⟨h1, h2⟩ => ⟨by rw [h1, decide_eq_true ((hin hv).2 k hk)], q, h2⟩)
              have hnext := Lib.hid (show l.getD 0 0 ∉ x → ∀ i y, i < k2 + 1 → fm[i]? = some y → l.getD 0 0 ∉ y from fun hv i y hi hy => by
                rcases Nat.lt_or_ge i k2 with h | h
                · exact HN.out i y h hy
                · obtain rfl : i = k2 := by omega
                  rw [hx] at hy
                  injection hy with hy
                  rw [← hy]
                  exact hv)
              have hle := fun hv => (hin hv).1
              have e1 : (k2 : Int) < (P : Int) := by omega
              clear ra hin hx HN
              generalize hd : decide (l.getD 0 0 ∈ x) = d at *
              have HD := Lib.hid hd
              clear hd
              generalize x.getD 0 0 = y0 at *
              generalize hv0 : l.getD 0 0 = v0 at *
              have hxl : decide (0 < x.length) = true := decide_eq_true x1
              generalize x.length = xl at *
              by_cases hyv : y0 ≤ v0
              · have e2 : decide (y0 ≤ v0) = true := decide_eq_true hyv
                clear hle
                cases d with
                | false =>
                  have hnx := hnext.out (of_decide_eq_false HD.out)
                  have hnx := Lib.hid hnx
                  go_wp2
                  go_quiet ((go_at_call 22; exact KHo.out _))
                  go_wp2
                  go_roundw
                  case rel => exact ⟨k2 + 1, _, by omega, by go_num, rfl, hnx⟩
                  case measure => simp [intOf]; omega
                | true =>
                  have hvx := of_decide_eq_true HD.out
                  have KH3 := Lib.hid (KHk.out hvx)
                  clear hvx
                  go_wp2
                  go_quiet ((go_at_call 22; exact KHo.out _))
                  go_wp2
                  go_loopw [11] (fun i wr => ∃ k j : Nat, k ≤ ll ∧ i = .int .i64 (k : Int) ∧ wr = w2.drewN j) (fun i _ => ll - (intOf i).toNat)
                  case atStart => exact ⟨0, _, by omega, rfl, by rw [World.drewN_drewN]⟩
                  case round =>
                    obtain ⟨k4, j4, hk4, rfl, rfl⟩ := hrel
                    by_cases hlt4 : k4 < ll
                    · have ck := HCk.out k4 hlt4
                      have KS := Lib.hid (KH3.out k4 hlt4 j4)
                      generalize l.getD k4 0 = z at *
                      have e3 : (k4 : Int) < (ll : Int) := by omega
                      go_wp2
                      go_quiet ((go_at_call 22; exact KS.out _))
                      go_wp2
                      go_roundw
                      case rel => exact ⟨k4 + 1, _, by omega, by go_num, rfl⟩
                      case measure => simp [intOf]; omega
                    · have KA := Lib.hid (KAW.out (w2.drewN j4) (below_drewN b2 _))
                      go_wp2_with (go_at_call 13; refine KA.out.mono ?_; rintro e w9 ⟨rfl, b9⟩)
                      go_ret
                      exact ⟨rfl, b9⟩
              · have e2 : decide (y0 ≤ v0) = false := decide_eq_false hyv
                have hnx := Lib.hid (hnext.out (fun h => hyv (hle h)))
                clear hle
                go_wp2
                go_quiet (fail)
                go_wp2
                go_roundw
                case rel => exact ⟨k2 + 1, _, by omega, by go_num, rfl, hnx⟩
                case measure => simp [intOf]; omega
            · obtain ⟨k3, x, h3, h4, h5⟩ := HX.out
              exact absurd h5 (HN.out k3 x (by omega) h4)
end gr
end Go.Proofs.YtahffafobdiogaaDoor
/- The frame of a law's row: a call that returns true and leaves the old blocks alone meets the row; arguments that are slices of bools are opened. -/
namespace Go.Proofs.YtahffafobdiogaaDoor
set_option linter.unusedVariables false
set_option linter.unusedSimpArgs false
open Go.ChangeShapes Go.WideShapes Go.ChangeAt Go.RowKit Go.Deep
section
variable {H : Type} {enc : TypeId × Value → H} {P : Program}
theorem trodAll_below (hl : laidOutB P = true) {W W' : World} (hb : Below W.heap.size W W') : ∀ {ts : List TypeId} {vs : List Value} {ds : List (DataW H)} {ps : List MemPlace},
    (∀ t ∈ ts, P.readableRec t = true ∧ t < P.types.size) → DataW.TrodAll enc P W 0 (fun _ => true) true ts vs ds ps → (∀ x ∈ ps, x.block < W.heap.size) →
    DataW.TrodAll enc P W' 0 (fun b => decide (b < W.heap.size)) true ts vs ds ps := by
  intro ts
  induction ts with
  | nil => intro vs ds ps _ h _; cases vs <;> cases ds <;> simp_all [DataW.TrodAll]
  | cons t ts ih =>
    intro vs ds ps ht h hlt
    match vs, ds, h with
    | v :: vs, d :: ds, ⟨p, q, h1, h2, e⟩ =>
      subst e
      obtain ⟨hr, hs⟩ := ht t (by simp)
      exact ⟨p, q, Below.trod hl hr hs h1 hb (fun x hx => hlt x (by simp [hx])), ih (fun u hu => ht u (by simp [hu])) h2 (fun x hx => hlt x (by simp [hx])), rfl⟩
theorem law_post {f : Func} {s : ChangeSpec} {W W' : World} {args : Array Value} {ds gs : List (DataW H)} {before : List MemPlace} {tb : TypeId}
    (hW : DataW.Whole enc P f.params.toList s.vars false W args.toList ds gs before) (hv : s.vars = [])
    (hs : (s.fn H (ds ++ gs)).results = [.lit (.bool true)] ∧ (s.fn H (ds ++ gs)).args = ds ∧ (s.fn H (ds ++ gs)).vars = [])
    (hf : f.resultTypes = #[tb]) (htb : P.underlying tb = some .bool) (hl : laidOutB P = true) (hts : ∀ t ∈ f.params.toList, P.readableRec t = true ∧ t < P.types.size)
    (hb : Below W.heap.size W W') : s.post enc P f false true false false W args (.bool true) W' := by
  have hW' := hW
  obtain ⟨p, q, hA, hV, rfl, _, _⟩ := hW
  rw [hv] at hV
  obtain ⟨rfl, rfl⟩ := trodVars_none hV
  refine ⟨ds, [], p ++ [], [], p, [], hW', ?_, ?_, ?_, hb.frame _, fun h => by cases h⟩
  · rw [hs.1, hf]
    exact trodAll_mk1 (shut_bool htb true)
  · rw [hs.2.1]
    exact trodAll_below hl hb hts hA (fun x hx => hW'.lt x (by simp [hx]))
  · rw [hv, hs.2.2]
    rfl
end
end Go.Proofs.YtahffafobdiogaaDoor
/- The frame of the rows of layer 4: what the listed variable gives; an argument of edges. -/
namespace Go.Proofs.YtahffafobdiogaaDoor
set_option linter.unusedVariables false
set_option linter.unusedSimpArgs false
open Go.ChangeShapes Go.WideShapes Go.ChangeAt Go.RowKit Go.Deep Go.WideElems
def laidL : List (String × DataW Unit) := [("math/bits.deBruijn64tab", Rows.laid_math_bits_deBruijn64tab)]
theorem gTab : Tryd.prog.globalNamed "math/bits.deBruijn64tab" = some 0 := by kernel_rfl
theorem tyTab : (Tryd.prog.globals[0]?).map (·.type) = some 80 := by kernel_rfl
theorem door_met (os : Os) (args : Array Value) : laidMetH Tryd.prog laidL ((World.doorLaid Tryd.prog 400 os).forCall (fun _ _ => 0) ⟨#[], args, []⟩).memory :=
  laidMetH_of_parts3 (fuel := 8) (laidMet_of_run' 8 (by kernel_rfl) (by kernel_rfl)) (by kernel_rfl) (by kernel_rfl)
theorem std_of_laid {W : World} (h : laidMetH Tryd.prog laidL W) : gr.Tz W := by
  rw [MakeChecks.laidMetH_plain _ _ _ (by kernel_rfl)] at h
  have h3 : laidMet Tryd.prog (("math/bits.deBruijn64tab", Lib.tabData .u8 (Lib.deBruijn64tab.map fun x : Nat => (x : Int))) :: []) W := h
  have ht := Lib.tabIs_of_head gTab tyTab Tryd.underlying80 Tryd.underlying5 (by kernel_rfl) (by kernel_rfl) h3
  intro j hj
  have hc := ht.cell gTab j (by rw [List.length_map]; exact hj)
  have e : ((Lib.deBruijn64tab.map fun x : Nat => (x : Int)).getD j 0 : Int) = ((Lib.deBruijn64tab.getD j 0 : Nat) : Int) := by
    rw [List.getD, List.getD, List.getElem?_map, List.getElem?_eq_getElem hj]
    rfl
  rw [e] at hc
  exact hc
theorem int_le {n : Int} (h : (Lit.int .i64 n).wf = true) : n ≤ 9223372036854775807 := by
  have h2 : n ≤ IntKind.i64.max := by simp only [Lit.wf, Bool.and_eq_true, decide_eq_true_eq] at h; exact h.2
  exact h2
theorem int_ge {n : Int} (h : (Lit.int .i64 n).wf = true) : -9223372036854775808 ≤ n := by
  have h2 : IntKind.i64.min ≤ n := by simp only [Lit.wf, Bool.and_eq_true, decide_eq_true_eq] at h; exact h.1
  exact h2
section
variable {H : Type} {enc : TypeId × Value → H} {P : Program} {w : World} {held : Bool} {base : Nat}
theorem choose_list {α : Type} {p : Nat → α → Prop} : ∀ n, (∀ i, i < n → ∃ e, p i e) → ∃ l : List α, l.length = n ∧ ∀ i e, l[i]? = some e → p i e := by
  intro n
  induction n with
  | zero => exact fun _ => ⟨[], rfl, fun i e h => by simp at h⟩
  | succ n ih =>
    intro h
    obtain ⟨l, hl, hp⟩ := ih fun i hi => h i (by omega)
    obtain ⟨e, he⟩ := h n (by omega)
    refine ⟨l ++ [e], by simp [hl], fun i x hx => ?_⟩
    rcases Nat.lt_or_ge i n with hi | hi
    · exact hp i x (by rwa [List.getElem?_append_left (by omega)] at hx)
    · rw [List.getElem?_append_right (by omega)] at hx
      have hi2 : i = n := by
        have := (List.getElem?_eq_some_iff.1 hx).1
        simp at this
        omega
      subst hi2
      rw [hl, Nat.sub_self] at hx
      obtain rfl : e = x := by simpa using hx
      exact he
theorem rd_edges {t e : TypeId} {f0 f1 : Field} {fuel : Nat} {v : Value} {x : DataW H × List MemPlace} (ht : P.underlying t = some (.slice e)) (he : P.underlying e = some (.struct #[f0, f1]))
    (ce : P.cellsOf e = 2) (o0 : f0.offset = 0) (o1 : f1.offset = 1) (c0 : P.cellsOf f0.type = 1) (c1 : P.cellsOf f1.type = 1) (i0 : P.underlying f0.type = some (.int .i64)) (i1 : P.underlying f1.type = some (.int .i64))
    (h : DataW.trod enc P w base (fun _ => true) held fuel t [v] = some x) :
    ∃ (A : Option Addr) (l : List (Int × Int)) (c : Nat), v = .slice A l.length c ∧ gr.RdE w w.heap.size A l ∧ (A = none → c = 0) ∧ l.length ≤ 9223372036854775807 ∧ l.length ≤ c := by
  rcases open_slice_pairs ht he ce o0 o1 c0 c1 h with ⟨hv, _⟩ | ⟨a, len, cap, m, n, V0, V1, D0, D1, P0, P1, hv, _, hl, hm, hmm, _, hx⟩
  · simp only [List.cons.injEq, and_true] at hv
    exact ⟨none, [], 0, hv, fun h => absurd rfl h, fun _ => rfl, by simp, by simp⟩
  · simp only [List.cons.injEq, and_true] at hv
    have hmc : m = cap := by simpa using hmm
    obtain ⟨l, hll, hp⟩ := choose_list (p := fun i (e : Int × Int) => w.cell? (a.add (i * 2)) = some (.int .i64 e.1) ∧ w.cell? (a.add (i * 2 + 1)) = some (.int .i64 e.2)) len fun i hi => by
      obtain ⟨h1, h2, h3, h4⟩ := hx i (by omega)
      obtain ⟨n0, e0, _⟩ := DataW.trod_int i0 h3
      obtain ⟨n1, e1, _⟩ := DataW.trod_int i1 h4
      simp only [List.cons.injEq, and_true] at e0 e1
      exact ⟨(n0, n1), by rw [h1, e0], by rw [h2, e1]⟩
    refine ⟨some a, l, cap, by rw [hll]; exact hv, fun hne => ⟨a, rfl, ?_, fun k e he => ?_⟩, fun h => (by cases h), by rw [hll]; unfold maxLen at hm; omega, by rw [hll]; exact hl⟩
    · have h0 : 0 < l.length := List.length_pos_iff.2 hne
      have := World.block_lt_of_cell? w _ (hp 0 _ (List.getElem?_eq_getElem h0)).1
      rwa [add_block] at this
    · obtain ⟨g1, g2⟩ := hp k e he
      have ee : ∀ i, a.add (i + 1) = ⟨(a.add i).block, (a.add i).off + 1, none⟩ := fun i => by simp [Addr.add]; by_cases h0 : i = 0 <;> simp [h0]; try omega
      exact ⟨g1, by rw [← ee]; exact g2⟩
end
end Go.Proofs.YtahffafobdiogaaDoor
