/- slices.Backward: the iterator. -/
import Derived.Test.YtahffafobdiogaaDoorKgx
import Derived.RangeFuncNested
import Derived.RangeFuncBound
import Derived.RangeFuncCalls
import Derived.RangeFuncLeaves
import Derived.RangeFuncFrom
import Derived.Shelf.Abstract
import Derived.OwnWalkIn
import Derived.TacticsInMore
import Derived.LoopNIn
import Derived.LoopIn
namespace Go.Proofs.YtahffafobdiogaaDoor
set_option linter.unusedVariables false
set_option linter.unusedSimpArgs false
open Go.RowKit Go.Shelf
attribute [local go_sem] Oper.semAt_some
namespace gr
/-- the blocks of cells below N but for those of S are as they were -/
structure Kn (N : Nat) (S : Nat → Prop) (W W' : World) : Prop where
  size : W.heap.size ≤ W'.heap.size
  cells : ∀ (k : Nat) (o : Obj), k < N → ¬ S k → W.heap[k]? = some o → o.isCells = true → W'.heap[k]? = some o
theorem Kn.refl (N : Nat) (S : Nat → Prop) (W : World) : Kn N S W W := ⟨Nat.le_refl _, fun _ _ _ _ h _ => h⟩
theorem Kn.trans {N : Nat} {S : Nat → Prop} : ∀ {A B C : World}, Kn N S A B → Kn N S B C → Kn N S A C := fun h g => ⟨Nat.le_trans h.1 g.1, fun k o hk hs ho hc => g.2 k o hk hs (h.2 k o hk hs ho hc) hc⟩
theorem Kn.put {N : Nat} {S : Nat → Prop} {M : Nat} : ∀ (W : World) (l : Nat) (o o' : Obj), M ≤ l → W.heap[l]? = some o → o.isCells = false → o.isWalk = false → Kn N S W (W.putObj l o') := fun W l o o' _ ho hc _ => by
  refine ⟨by simp, fun k q _ _ hq hqc => ?_⟩
  rw [World.putObj_heap_other (fun e => by subst e; rw [ho] at hq; injection hq with hq; subst hq; rw [hc] at hqc; cases hqc)]
  exact hq
theorem Kn.cell {N : Nat} {S : Nat → Prop} {W W' : World} (h : Kn N S W W') {a : Addr} {v : Value} (hc : W.cell? a = some v) (hN : a.block < N) (hs : ¬ S a.block) : W'.cell? a = some v := by
  obtain ⟨o, ho, hk⟩ := cells_of_cell hc
  exact (World.cell?_of_block ((h.2 _ o hN hs ho hk).trans ho.symm)).trans hc
/-- what comes, from the last on: its place and itself, with what is known of it -/
def bk (zs : List Nat) (Q : Nat → Prop) (hQ : ∀ j, Q (zs.getD j 0)) (k : Nat) : List {p : Nat × Nat // Q p.2} := (List.range k).map fun j => ⟨(zs.length - 1 - j, zs.getD (zs.length - 1 - j) 0), hQ _⟩
theorem bk_succ (zs : List Nat) (Q : Nat → Prop) (hQ : ∀ j, Q (zs.getD j 0)) (k : Nat) : bk zs Q hQ (k + 1) = bk zs Q hQ k ++ [⟨(zs.length - 1 - k, zs.getD (zs.length - 1 - k) 0), hQ _⟩] := by
  unfold bk
  rw [List.range_succ, List.map_append]
  rfl
theorem bk_len (zs : List Nat) (Q : Nat → Prop) (hQ : ∀ j, Q (zs.getD j 0)) (k : Nat) : (bk zs Q hQ k).length = k := by simp [bk]
set_option maxHeartbeats 400000 in
theorem backw_any (A : Option Addr) (n c : Nat) (w : World) : Calls Tryd.prog 42 #[.slice A n c] w fun e w' => e = .returned (.func (.func 59) #[] #[.pointer (some ⟨w.heap.size, 0, none⟩)]) ∧ w' = w.alloc (.cells #[.slice A n c] 24) := by
  go_enter Tryd.func42, Tryd.ntmps42
  go_wp2
  go_ret
  exact ⟨rfl, rfl⟩
set_option maxRecDepth 100000 in
set_option maxHeartbeats 4000000 in
theorem backw_stops (Q : Nat → Prop) (n Bs N : Nat) (S : Nat → Prop) (A : Option Addr) (c : Nat) (zs : List Nat) (hQ : ∀ j, Q (zs.getD j 0)) (hz : zs.length ≤ 4096) (w : World) (hBs : Bs < w.heap.size) (hN : N ≤ w.heap.size) (hBN : Bs < N) (hBS : ¬ S Bs) (hc : w.cell? ⟨Bs, 0, none⟩ = some (.slice A zs.length c))
    (hr : ∀ (j x : Nat), zs[j]? = some x → ∃ ad, A = some ad ∧ ad.block < N ∧ ¬ S ad.block ∧ w.cell? (ad.add j) = some (.int .i64 (x : Int))) :
    SeqStopsK Fence.wide n Tryd.prog 59 #[.pointer (some ⟨Bs, 0, none⟩)] (fun x : {p : Nat × Nat // Q p.2} => #[.int .i64 ((x.1.1 : Nat) : Int), .int .i64 ((x.1.2 : Nat) : Int)]) (Kn N S) (fun ys => ys = bk zs Q hQ zs.length) (fun _ => True) zs.length w := by
  intro l J Jx W hW hJ _ hY h0
  have hdd : ∀ k : Nat, (Fence.wide.depth.isSome = true → 1 ≤ k) := fun k h => by cases h
  have hcW := (hW.cell (p := ⟨Bs, 0, none⟩) hBs).trans hc
  have HR := Lib.hid (fun (j x : Nat) (h : zs[j]? = some x) => by
    obtain ⟨ad, h1, h2, h3, h4⟩ := hr j x h
    exact (⟨ad, h1, h2, h3, (hW.cell (p := ad.add j) (by rw [add_block]; omega)).trans h4⟩ : ∃ ad, A = some ad ∧ ad.block < N ∧ ¬ S ad.block ∧ W.cell? (ad.add j) = some (.int .i64 (x : Int))))
  clear hr hc hW
  refine callsIn_of_wp Tryd.func59 rfl trivial ?_ rfl
  simp only [Tryd.ntmps59, List.append_toArray, List.size_toArray, List.length_append, List.length_cons, List.length_nil, Nat.reduceAdd, Nat.reduceSub, Array.replicate_succ, Array.replicate_zero, List.push_toArray, List.nil_append, List.cons_append]
  obtain ⟨m, hm⟩ : ∃ m, zs.length = m := ⟨_, rfl⟩
  rw [hm] at hcW hY hz
  have HM := Lib.hid hm
  clear hm
  gi_wp2
  gi_loopw [3] (fun i wr => ∃ k r : Nat, k + r = m ∧ i = .int .i64 ((r : Int) - 1) ∧ J (bk zs Q hQ k) wr ∧ Kn N S W wr) (fun i _ => (intOf i + 1).toNat)
  case atStart => exact ⟨0, m, by omega, rfl, h0, Kn.refl _ _ _⟩
  case round =>
    obtain ⟨k, r, hkr, rfl, hJs, hkn⟩ := hrel
    have hcb := hkn.cell hcW hBN hBS
    cases r with
    | zero =>
      have hkm : k = m := by omega
      subst hkm
      gi_wp2
      go_end0
      exact ⟨⟨_, rfl⟩, .inl ⟨_, rfl, by rw [HM.out]; exact hJs⟩⟩
    | succ r =>
      have hri : zs[r]? = some (zs.getD r 0) := by
        rw [List.getElem?_eq_getElem (by rw [HM.out]; omega), List.getD, List.getElem?_eq_getElem (by rw [HM.out]; omega)]
        rfl
      obtain ⟨ad, rfl, g1, g2, g3⟩ := HR.out r _ hri
      have hcc := hkn.cell g3 (by rw [add_block]; exact g1) (by rw [add_block]; exact g2)
      have hy0 := hY _ ⟨(r, zs.getD r 0), hQ r⟩ wr hJs (by rw [bk_len]; omega)
      have e1 : bk zs Q hQ k ++ [⟨(r, zs.getD r 0), hQ r⟩] = bk zs Q hQ (k + 1) := by
        rw [bk_succ]
        have e0 : zs.length - 1 - k = r := by rw [HM.out]; omega
        subst e0
        rfl
      rw [e1] at hy0
      obtain ⟨fn, tmps, assign, body, hy, hR⟩ := hy0
      dsimp only at hy
      have x1 : ((r + 1 : Nat) : Int) - 1 = (r : Int) := by omega
      have x2 : (r : Int) < (m : Int) := by omega
      have x3 : (0 : Int) ≤ (r : Int) := by omega
      rw [x1]
      have HX1 := Lib.hid x1
      clear x1
      clear e1 hri g3 hY HR
      generalize zs.getD r 0 = y at *
      gi_wp2
      refine ⟨fun h => (by cases h), hR.mono ?_⟩
      rintro e W3 (⟨rfl, hJ3, hk3⟩ | ⟨rfl, hJx3⟩)
      · gi_wp2
        go_roundw
        case rel => exact ⟨k + 1, r, by omega, rfl, hJ3, hkn.trans hk3⟩
        case measure => simp [intOf] <;> omega
      · gi_wp2
        refine bodyPost_ret (results_none rfl _ _ _) rfl ?_
        exact ⟨⟨_, rfl⟩, .inr ⟨_, trivial, hJx3⟩⟩
end gr
end Go.Proofs.YtahffafobdiogaaDoor
