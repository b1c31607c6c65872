/- Parts: what it calls. -/
import Derived.Test.YtahffafobdiogaaDoorKgw
import Derived.Test.YtahffafobdiogaaDoorShelf2
import Derived.Sort.Grow
namespace Go.Proofs.YtahffafobdiogaaDoor
set_option linter.unusedVariables false
set_option linter.unusedSimpArgs false
open Go.RowKit
namespace gr
/-- a block of the heap is there, of whatever content but of this type -/
theorem sort_any (g cap : Nat) (l : List Nat) (w : World) (hg : g < w.heap.size) (hl : l.length ≤ 4096) (hc : ∀ (j : Nat) (x : Nat), l[j]? = some x → w.cell? ⟨g, j, none⟩ = some (.int .i64 (x : Int)) ∧ w.frozen? ⟨g, j, none⟩ = false) :
    Calls Tryd.prog 44 #[.slice (some ⟨g, 0, none⟩) l.length cap] w fun e w' => e = .returned (.tuple #[]) ∧ (∀ (j : Nat) (x : Nat), (l.mergeSort fun x y => decide (x ≤ y))[j]? = some x → w'.cell? ⟨g, j, none⟩ = some (.int .i64 (x : Int))) ∧ w.heap.size ≤ w'.heap.size ∧ Os w w' ∧ (∀ k, k < w.heap.size → k ≠ g → w'.heap[k]? = w.heap[k]?) ∧ ∀ c t f, w.heap[g]? = some (.cells c t f) → ∃ c', w'.heap[g]? = some (.cells c' t f) := by
  have hH : Sort.Holds (Value.int .i64) w g 0 (l.map fun x : Nat => (x : Int)).toArray := fun j hj => by
    simp only [List.size_toArray, List.length_map] at hj
    obtain ⟨h1, h2⟩ := hc j l[j] (List.getElem?_eq_getElem hj)
    rw [Nat.zero_add]
    refine ⟨?_, h2⟩
    rw [h1, getElem!_pos _ j (by simpa using hj)]
    simp
  have key := Tryd.slices_So g 0 cap (l.map fun x : Nat => (x : Int)) w hH hg (by rw [List.length_map]; omega)
  rw [List.length_map] at key
  refine key.mono ?_
  rintro e w' ⟨he, n, os, rfl⟩
  have hms : ((l.map fun x : Nat => (x : Int)).mergeSort fun x y => decide (x ≤ y)) = (l.mergeSort fun x y => decide (x ≤ y)).map fun x : Nat => (x : Int) := by
    rw [List.map_mergeSort]
    intro a _ b _
    simp
  have hH2 := Sort.holds_grow (Value.int .i64) _ os g 0 ((l.map fun x : Nat => (x : Int)).mergeSort fun x y => decide (x ≤ y)).toArray (by simpa using hg) (Sort.holds_putRow (Value.int .i64) (Sort.ahead w n) g 0 _ ((l.map fun x : Nat => (x : Int)).mergeSort fun x y => decide (x ≤ y)).toArray (Sort.holds_ahead _ w n g 0 _ hH) (by simp))
  refine ⟨he, fun j x hx => ?_, by simp, ⟨rfl, rfl, rfl⟩, fun k hk hkg => ?_, fun c t f hcg => ?_⟩
  · have hj : j < (l.mergeSort fun x y => decide (x ≤ y)).length := by
      rcases Nat.lt_or_ge j (l.mergeSort fun x y => decide (x ≤ y)).length with h | h
      · exact h
      · rw [List.getElem?_eq_none h] at hx; cases hx
    have h3 := (hH2 j (by rw [hms]; simpa using hj)).1
    rw [Nat.zero_add] at h3
    rw [h3, hms, getElem!_pos _ j (by simpa using hj)]
    rw [List.getElem?_eq_getElem hj] at hx
    injection hx with hx
    simp [hx]
  · rw [Sort.heap_grow_old _ os (by simpa using hk)]
    unfold Sort.putRow Sort.mapBlock
    simp only [Array.getElem?_modify, Sort.heap_ahead]
    rw [if_neg (fun e => hkg e.symm)]
  · rw [Sort.heap_grow_old _ os (by simpa using hg)]
    unfold Sort.putRow Sort.mapBlock
    simp only [Array.getElem?_modify, Sort.heap_ahead, if_true, hcg, Option.map_some, Sort.onCells]
    exact ⟨_, rfl⟩
/-- a row in a box: what is appended one by one -/
structure Bx (W : World) (pl B : Nat) (L : List Nat) : Prop where
  fc : ∃ V, W.cell? ⟨pl, 0, none⟩ = some V ∧ W.ownsRow B 3 1 V L.length (vV L)
  ff : W.frozen? ⟨pl, 0, none⟩ = false
  bz : B ≤ W.heap.size
  fit : pl < B
  nl : L = [] → W.cell? ⟨pl, 0, none⟩ = some (.slice none 0 0)
theorem Bx.keep {W W' : World} {pl B : Nat} {L : List Nat} (h : Bx W pl B L) (hb : Below W.heap.size W W') : Bx W' pl B L := by
  obtain ⟨V, h1, h2⟩ := h.fc
  exact ⟨⟨V, (hb.cell (p := ⟨pl, 0, none⟩) (World.block_lt_of_cell? W _ h1)).trans h1, own_keep h2 hb⟩, (hb.frozen (p := ⟨pl, 0, none⟩) (World.block_lt_of_cell? W _ h1)).trans h.ff, Nat.le_trans h.bz hb.size, h.fit, fun e => (hb.cell (p := ⟨pl, 0, none⟩) (World.block_lt_of_cell? W _ h1)).trans (h.nl e)⟩
theorem Bx.kp {S : Nat → Prop} {W W' : World} {pl B : Nat} {L : List Nat} (h : Bx W pl B L) (hk : Kp S W W') (hs : ∀ k, S k → k < B ∧ k ≠ pl) : Bx W' pl B L := by
  obtain ⟨V, h1, h2⟩ := h.fc
  have hp := World.block_lt_of_cell? W _ h1
  exact ⟨⟨V, (World.cell?_of_block (hk.2 pl hp (fun x => (hs _ x).2 rfl))).trans h1, hk.own h2 (fun k x => (hs k x).1)⟩, (World.frozen?_of_block (hk.2 pl hp (fun x => (hs _ x).2 rfl))).trans h.ff, Nat.le_trans h.bz hk.1, h.fit, fun e => (World.cell?_of_block (hk.2 pl hp (fun x => (hs _ x).2 rfl))).trans (h.nl e)⟩
/-- what an append may write: the box, and rows of numbers from B on -/
theorem own_grown_kt {W w3 : World} {B n : Nat} {A : Option Addr} {c : Nat} {xs : List Value} (o : Obj) (h : W.ownsRow B 3 1 (.slice A n c) n xs) (hg : (W.alloc o).grownBy w3 (Value.slice A n c).ownBlock) (T : Nat → Prop) : KT B T W w3 := by
  refine ⟨by have := hg.size; rw [World.size_alloc] at this; omega, fun k ob hk ht hi => ?_, ⟨hg.os, hg.tape, hg.output⟩⟩
  have hkl := (Array.getElem?_eq_some_iff.1 hk).1
  rw [hg.block k (by rw [World.size_alloc]; omega) (fun e => ?_)]
  · exact (Below.heap_alloc W o k hkl).trans hk
  · rcases h.2 with ⟨e1, _⟩ | ⟨g, cap, cur, e1, e2, e3, _⟩
    · injection e1 with e1 _ _
      rw [e1] at e
      cases e
    · injection e1 with e1 _ _
      rw [e1] at e
      simp only [Value.ownBlock, Option.some.injEq] at e
      subst e
      rw [e3] at hk
      injection hk with hk
      rcases hi with hi | hi
      · omega
      · exact hi ⟨_, _, hk.symm⟩
set_option maxRecDepth 100000 in
set_option maxHeartbeats 2000000 in
theorem papp1_any (pl B u : Nat) (L : List Nat) (W : World) (hL : L.length ≤ 4096) (h : Bx W pl B L) :
    Calls Tryd.prog 41 #[.int .i64 u, .pointer (some ⟨pl, 0, none⟩)] W fun e W' => e = .returned (.tuple #[]) ∧ Bx W' pl B (L ++ [u]) ∧ KT B (fun k => k = pl) W W' := by
  obtain ⟨V, hV, hO⟩ := h.fc
  have hff := h.ff
  have hbz := h.bz
  have hfit := h.fit
  have hlt : pl < W.heap.size := World.block_lt_of_cell? W _ hV
  obtain ⟨A, c, rfl⟩ := own_form hO
  obtain ⟨i0, hi, iz, is, ib⟩ := infoI
  have HO := Lib.hid hO
  clear h hO
  go_enter Tryd.func41, Tryd.ntmps41
  go_wp2_with (at_builtin; refine wpList_append_own_at _ rfl _ _ 24 rfl B 3 i0 (.int .i64 0) 1 8 Tryd.underlying24 hi iz is ib rfl (by decide) _ L.length (vV L) rfl (own_keep HO.out (bel_box _)) ⟨W.heap.size, 0, none⟩ 1 1 [.int .i64 (u : Int)] rfl rfl (row1 _ _ _) (one_int _) (by unfold maxLen; omega) (by omega) (by rw [World.size_alloc]; omega) ?_; intro V3 w3 hown3 hgrow3 _ _; obtain ⟨A3, c3, rfl⟩ := own_form hown3; have hkt := own_grown_kt _ HO.out hgrow3 (fun k => k = pl); have hb3 : Below B W w3 := own_below (Below.refl _ _) hbz HO.out hgrow3; have v3 : w3.cell? ⟨pl, 0, none⟩ = some (.slice A L.length c) := (hb3.cell (p := ⟨pl, 0, none⟩) hfit).trans hV; have r3 : w3.frozen? ⟨pl, 0, none⟩ = false := (hb3.frozen (p := ⟨pl, 0, none⟩) hfit).trans hff; have hown3 := Lib.hid hown3; have hb3 := Lib.hid hb3; have hkt := Lib.hid hkt; clear hgrow3)
  refine bodyPost_end (v := .tuple #[]) (results_none rfl _ _ _) rfl ?_
  have hw := hown3.out
  rw [vV_snoc] at hw
  have hk5 : Kp (fun k => k = pl) w3 (w3.setCell ⟨pl, 0, none⟩ (.slice A3 (L.length + 1) c3)) := Kp.set (S := fun k => k = pl) w3 (a := ⟨pl, 0, none⟩) rfl _
  refine ⟨rfl, ⟨⟨_, World.cell?_setCell_same w3 _ _ v3, ?_⟩, by rw [World.frozen?_setCell]; exact r3, by rw [World.size_setCell]; have := hb3.out.size; omega, hfit, fun e => (by simp at e)⟩, hkt.out.trans (.kp hk5)⟩
  rw [show (L ++ [u]).length = L.length + 1 by simp]
  exact hk5.own hw (fun k e => by omega)
set_option maxRecDepth 100000 in
set_option maxHeartbeats 2000000 in
theorem papp2_any (pl B u : Nat) (L : List Nat) (W : World) (hL : L.length ≤ 4096) (h : Bx W pl B L) :
    Calls Tryd.prog 43 #[.int .i64 u, .pointer (some ⟨pl, 0, none⟩)] W fun e W' => e = .returned (.tuple #[]) ∧ Bx W' pl B (L ++ [u]) ∧ KT B (fun k => k = pl) W W' := by
  obtain ⟨V, hV, hO⟩ := h.fc
  have hff := h.ff
  have hbz := h.bz
  have hfit := h.fit
  have hlt : pl < W.heap.size := World.block_lt_of_cell? W _ hV
  obtain ⟨A, c, rfl⟩ := own_form hO
  obtain ⟨i0, hi, iz, is, ib⟩ := infoI
  have HO := Lib.hid hO
  clear h hO
  go_enter Tryd.func43, Tryd.ntmps43
  go_wp2_with (at_builtin; refine wpList_append_own_at _ rfl _ _ 24 rfl B 3 i0 (.int .i64 0) 1 8 Tryd.underlying24 hi iz is ib rfl (by decide) _ L.length (vV L) rfl (own_keep HO.out (bel_box _)) ⟨W.heap.size, 0, none⟩ 1 1 [.int .i64 (u : Int)] rfl rfl (row1 _ _ _) (one_int _) (by unfold maxLen; omega) (by omega) (by rw [World.size_alloc]; omega) ?_; intro V3 w3 hown3 hgrow3 _ _; obtain ⟨A3, c3, rfl⟩ := own_form hown3; have hkt := own_grown_kt _ HO.out hgrow3 (fun k => k = pl); have hb3 : Below B W w3 := own_below (Below.refl _ _) hbz HO.out hgrow3; have v3 : w3.cell? ⟨pl, 0, none⟩ = some (.slice A L.length c) := (hb3.cell (p := ⟨pl, 0, none⟩) hfit).trans hV; have r3 : w3.frozen? ⟨pl, 0, none⟩ = false := (hb3.frozen (p := ⟨pl, 0, none⟩) hfit).trans hff; have hown3 := Lib.hid hown3; have hb3 := Lib.hid hb3; have hkt := Lib.hid hkt; clear hgrow3)
  refine bodyPost_end (v := .tuple #[]) (results_none rfl _ _ _) rfl ?_
  have hw := hown3.out
  rw [vV_snoc] at hw
  have hk5 : Kp (fun k => k = pl) w3 (w3.setCell ⟨pl, 0, none⟩ (.slice A3 (L.length + 1) c3)) := Kp.set (S := fun k => k = pl) w3 (a := ⟨pl, 0, none⟩) rfl _
  refine ⟨rfl, ⟨⟨_, World.cell?_setCell_same w3 _ _ v3, ?_⟩, by rw [World.frozen?_setCell]; exact r3, by rw [World.size_setCell]; have := hb3.out.size; omega, hfit, fun e => (by simp at e)⟩, hkt.out.trans (.kp hk5)⟩
  rw [show (L ++ [u]).length = L.length + 1 by simp]
  exact hk5.own hw (fun k e => by omega)
end gr
end Go.Proofs.YtahffafobdiogaaDoor
