/- The list of expressions, of the reference. -/
import Derived.Test.YtfogkcccjemloaaGreatDoorFb
import Derived.Test.YtfogkcccjemloaaGreatDoorEy
import Derived.Maps.Range
import Derived.Maps.RangeWalk
namespace Go.Proofs.YtfogkcccjemloaaGreatDoor
set_option linter.unusedVariables false
set_option linter.unusedSimpArgs false
open Go.RowKit
def xCs (x : Xt) : List Value := [.int .i64 x.k, .int .i64 x.op, .int .i64 x.t, .int .i64 x.v, .string x.nm, .slice x.A x.ar.length x.c]
def xsC (l : List Xt) : List Value := l.flatMap xCs
theorem xsC_length (l : List Xt) : (xsC l).length = l.length * 6 := by
  induction l with
  | nil => rfl
  | cons a r ih => simp [xsC, xCs] at ih ⊢; omega
theorem xsC_app (l r : List Xt) : xsC (l ++ r) = xsC l ++ xsC r := by simp [xsC]
theorem xpInfo : (Tryz.prog.info? 24).map (fun i => (i.zero, i.size, i.bytes)) = some (some (.agg #[.int .i64 0, .int .i64 0, .int .i64 0, .int .i64 0, .string ⟨#[]⟩, .slice none 0 0]), 6, 72) := by kernel_rfl
theorem own_keep6 {w W : World} {base n size : Nat} {e : TypeId} {v : Value} {xs : List Value} (h : w.ownsRow base e size v n xs) (hb : Below w.heap.size w W) : W.ownsRow base e size v n xs := by
  refine ⟨h.1, h.2.imp id fun ⟨g, cap, cur, e1, h1, h2, r⟩ => ⟨g, cap, cur, e1, h1, ?_, r⟩⟩
  rw [hb.block g (Array.getElem?_eq_some_iff.1 h2).1]
  exact h2
theorem own_form6 {w : World} {base n size : Nat} {e : TypeId} {v : Value} {xs : List Value} (h : w.ownsRow base e size v n xs) : ∃ A c, v = .slice A n c := by
  rcases h.2 with ⟨rfl, rfl⟩ | ⟨g, cap, cur, rfl, _⟩
  · exact ⟨_, _, rfl⟩
  · exact ⟨_, _, rfl⟩
theorem x_one (x : Xt) : ∀ u ∈ xCs x, u.oneCell' = true := by
  intro u hu
  simp [xCs] at hu
  rcases hu with rfl | rfl | rfl | rfl | rfl | rfl <;> rfl
theorem row6 (w : World) (o : Obj) (x : Xt) (t : TypeId) : ∀ j u, (xCs x)[j]? = some u → ((w.alloc o).alloc (.cells #[.int .i64 x.k, .int .i64 x.op, .int .i64 x.t, .int .i64 x.v, .string x.nm, .slice x.A x.ar.length x.c] t)).cell? ((⟨w.heap.size + 1, 0, none⟩ : Addr).add j) = some u := by
  intro j u hu
  have e : w.heap.size + 1 = (w.alloc o).heap.size := (World.size_alloc _ _).symm
  rw [e]
  have hz : ∀ k : Nat, ((w.alloc o).alloc (.cells #[.int .i64 x.k, .int .i64 x.op, .int .i64 x.t, .int .i64 x.v, .string x.nm, .slice x.A x.ar.length x.c] t)).cell? ((⟨(w.alloc o).heap.size, 0, none⟩ : Addr).add k) = (xCs x)[k]? := by
    intro k
    rcases k with _ | _ | _ | _ | _ | _ | k <;> simp [go_sem, Addr.add, xCs]
  rw [hz]; exact hu
/-- the row l behind list, from the row v -/
def LsR (w : World) (B : Nat) (v : Value) (n : Nat) (xs : List Value) (w' : World) (v' : Value) : Prop := w'.ownsRow B 24 6 v' n xs ∧ w.grownBy w' v.ownBlock ∧ (v'.ownBlock = v.ownBlock ∨ ∃ j, v'.ownBlock = some j ∧ w.heap.size ≤ j)
/-- the row l while list is under way -/
def LsI (w : World) (x : Xt) (B : Nat) (ob : Option Nat) (n : Nat) (xs : List Value) (v : Value) (wr : World) : Prop := wr.ownsRow B 24 6 v n xs ∧ (bxW w x).grownBy wr ob ∧ (v.ownBlock = ob ∨ ∃ j, v.ownBlock = some j ∧ (bxW w x).heap.size ≤ j)
theorem LsI.open_ {w wr : World} {x : Xt} {B n : Nat} {ob : Option Nat} {xs : List Value} {v : Value} (h : LsI w x B ob n xs v wr) (hB : B ≤ w.heap.size) (hl : ∀ j, ob = some j → B ≤ j ∧ j < w.heap.size) :
    Below B w wr ∧ (wr.cell? ⟨w.heap.size, 0, none⟩ = some (.int .i64 x.k) ∧ wr.cell? ⟨w.heap.size, 1, none⟩ = some (.int .i64 x.op) ∧ wr.cell? ⟨w.heap.size, 2, none⟩ = some (.int .i64 x.t) ∧ wr.cell? ⟨w.heap.size, 3, none⟩ = some (.int .i64 x.v) ∧ wr.cell? ⟨w.heap.size, 4, none⟩ = some (.string x.nm) ∧ wr.cell? ⟨w.heap.size, 5, none⟩ = some (.slice x.A x.ar.length x.c)) ∧ w.heap.size < wr.heap.size := by
  obtain ⟨_, hg, _⟩ := h
  have hz := hg.size
  rw [bxW_size] at hz
  have hne : some w.heap.size ≠ ob := fun e => by have := (hl _ e.symm).2; omega
  refine ⟨Below.grown ((bel_box _).mono hB) hg (by rw [bxW_size]; omega) (fun j hj => (hl j hj).1), ⟨?_, ?_, ?_, ?_, ?_, ?_⟩, by omega⟩ <;> exact hg.cell (by simp [go_sem]) hne
theorem LsI.next {w wr w1 : World} {x : Xt} {B n m : Nat} {ob : Option Nat} {xs ys : List Value} {v v' : Value} (h : LsI w x B ob n xs v wr) (k : LsR wr B v m ys w1 v') : LsI w x B ob m ys v' w1 := by
  obtain ⟨_, hg, ha⟩ := h
  obtain ⟨k1, k2, k3⟩ := k
  have hz := hg.size
  refine ⟨k1, hg.andThen k2 fun j hj => ?_, ?_⟩
  · rcases ha with ha | ⟨j', e, hj'⟩
    · exact .inr (ha.symm.trans hj)
    · rw [e] at hj
      exact .inl (by have := Option.some.inj hj; omega)
  · rcases k3 with k3 | ⟨j, e, hj⟩
    · rw [k3]; exact ha
    · exact .inr ⟨j, e, by omega⟩
theorem LsI.first {w W w3 : World} {x : Xt} {B m : Nat} {ob : Option Nat} {ys : List Value} {v' : Value} (hW : Below (bxW w x).heap.size (bxW w x) W) (h1 : w3.ownsRow B 24 6 v' m ys) (h2 : W.grownBy w3 ob) (h3 : v'.ownBlock = ob ∨ v'.ownBlock = some W.heap.size) : LsI w x B ob m ys v' w3 := by
  refine ⟨h1, ?_, h3.imp id fun e => ⟨_, e, hW.size⟩⟩
  exact ((below_grown hW).but ob).andThen h2 fun j hj => .inr hj
theorem LsI.last {w wr : World} {x : Xt} {B n : Nat} {v0 : Value} {xs : List Value} {v : Value} (h : LsI w x B v0.ownBlock n xs v wr) : LsR w B v0 n xs wr v := by
  obtain ⟨h1, h2, h3⟩ := h
  refine ⟨h1, (World.grownBy_alloc w _ _).trans h2, h3.imp id fun ⟨j, e, hj⟩ => ⟨j, e, by rw [bxW_size] at hj; omega⟩⟩
set_option maxHeartbeats 1000000 in
set_option maxRecDepth 20000 in
theorem rlist_any (x : Xt) : ∀ w B v n xs, B ≤ w.heap.size → RdX w B x → w.ownsRow B 24 6 v n xs → n + x.size ≤ 100000 → Calls Tryz.prog 56 #[xV x, v] w (fun e w' => ∃ v', e = .returned v' ∧ LsR w B v (n + x.size) (xs ++ xsC x.list) w' v') := by
  obtain ⟨i0, hi, iz, is, ib⟩ := info_parts xpInfo
  induction x using Xt.ind with
  | h x ih =>
    intro w B v n xs hB hX hown hS
    obtain ⟨V, cv, rfl⟩ := own_form6 hown
    have h9 := hX.len.1
    unfold maxLen at h9
    have HX := Lib.hid hX
    have IH := Lib.hid ih
    have HO := Lib.hid hown
    clear hX ih hown
    obtain ⟨F, hF, hF0, hFl, HF, HFl⟩ := parts_sum x
    rw [hF] at hS ⊢
    simp only [xV] at IH ⊢
    go_enter Tryz.func56, Tryz.ntmps56
    go_wp2_with (at_builtin; (refine wpList_append_own_at _ rfl _ _ 22 rfl B 24 i0 (.agg #[.int .i64 0, .int .i64 0, .int .i64 0, .int .i64 0, .string ⟨#[]⟩, .slice none 0 0]) 6 72 Tryz.underlying22 hi iz is ib rfl (by decide) _ n xs rfl (own_keep6 HO.out ?_) ⟨w.heap.size + 1, 0, none⟩ 1 1 (xCs x) rfl rfl (row6 _ _ _ _) (x_one x) (by unfold maxLen; omega) (by omega) ?_ ?_; (focus ((repeat (first | (with_reducible exact Below.refl _ _) | (with_reducible assumption) | (with_reducible exact bel_box _) | (with_reducible refine bel_step ?_ (by with_reducible assumption)) | (with_reducible refine Below.drew ?_) | (with_reducible refine below_drewN ?_ _) | (with_reducible refine bel_alloc ?_ _))); done)); (focus (simp; omega)); intro v3 w3 hown3 hgrow3 _ hat3; have HI := LsI.first (w := w) (x := x) (by repeat (first | (with_reducible exact Below.refl _ _) | (with_reducible assumption) | (with_reducible exact bel_box _) | (with_reducible refine bel_step ?_ (by with_reducible assumption)) | (with_reducible refine Below.drew ?_) | (with_reducible refine below_drewN ?_ _) | (with_reducible refine bel_alloc ?_ _))) hown3 (ob := (Value.slice V n cv).ownBlock) hgrow3 hat3; clear hown3 hgrow3 hat3))
    have hlt := Lib.hid (fun j (h : (Value.slice V n cv).ownBlock = some j) => HO.out.lt j h)
    obtain ⟨v0, hv0⟩ : ∃ v0, Value.slice V n cv = v0 := ⟨_, rfl⟩
    rw [hv0] at HI hlt
    go_loopw [1, 5] (fun v i wr => ∃ k : Nat, k ≤ x.ar.length ∧ i = .int .i64 (k : Int) ∧ LsI w x B v0.ownBlock (n + 1 + F k) (xs ++ xsC (x :: ((x.ar.take k).map Xt.list).flatten)) v wr) (fun _ i _ => x.ar.length - (intOf i).toNat)
    case atStart => exact ⟨0, by omega, rfl, by rw [hF0]; simpa [xsC] using HI⟩
    case round =>
      obtain ⟨k, hk, rfl, hI⟩ := hrel
      obtain ⟨hBB, ⟨b0, b1, b2, b3, b4, b5⟩, b6⟩ := hI.open_ hB hlt.out
      by_cases hlk : k < x.ar.length
      · obtain ⟨ad, y, hA, had, hy, hm, ⟨c0, c1, c2, c3, c4, c5⟩, hr⟩ := (HX.out.blw hBB (Nat.le_refl _)).at_ hlk
        rw [hA] at b5
        clear hA
        have hn1 := HF.out k y hy
        have hn2 := HFl.out (k + 1)
        have HT : Hid ((x.ar.take (k + 1)).map Xt.list = (x.ar.take k).map Xt.list ++ [y.list]) := Lib.hid (by rw [take_succ_of hy, List.map_append]; rfl)
        have HII := Lib.hid hI
        have HIo := Lib.hid hI.1
        clear hy hI HI hv0
        go_wp2_with (go_at_call 56; (with_reducible refine (IH.out y hm _ B _ _ _ (by omega) hr HIo.out (by omega)).mono ?_); rintro e w1 ⟨v', rfl, hl⟩)
        have hJ := HII.out.next hl
        refine ⟨⟨k + 1, by omega, by congr 1, ?_⟩, by simp [intOf]; omega⟩
        rw [HT.out, show n + 1 + F (k + 1) = n + 1 + F k + y.size by omega]
        rwa [List.append_assoc, ← xsC_app, List.cons_append, show (List.map Xt.list (List.take k x.ar)).flatten ++ y.list = (List.map Xt.list (List.take k x.ar) ++ [y.list]).flatten by simp] at hJ
      · obtain rfl : k = x.ar.length := by omega
        go_wp2
        go_ret
        refine ⟨_, rfl, ?_⟩
        have hJ := hI.last
        rw [List.take_length, ← Xt.list_eq] at hJ
        rwa [hv0, show n + (1 + F x.ar.length) = n + 1 + F x.ar.length by omega]
end Go.Proofs.YtfogkcccjemloaaGreatDoor
