/- Texts of one chain, in one file. -/
import Derived.Test.YtfogkcccjemloaaGreatDoorRows
import Derived.WalkKit
import Derived.WalkLawsBesides
import Derived.Lib.Hide
import Derived.Deep.Draws
import Derived.Deep.QuietTactic
import Derived.BigQuiet
import Derived.Maps.AppendAt
import Derived.Deep.AppendLies
import Derived.Lib.QuietBelow
import Derived.RangeFuncNested
import Derived.RangeFuncBound
import Derived.RangeFuncCalls
import Derived.RangeFuncLeaves
import Derived.RangeFuncFrom
import Derived.Shelf.Abstract
import Derived.Shelf.RegionOpen
import Derived.OwnWalkIn
import Derived.TacticsInMore
import Derived.LoopNIn
import Derived.LoopIn
import Derived.Maps.Range
import Derived.Maps.RangeWalk
import Derived.ProofKit
import Derived.OpenShut
import Derived.Deep.Slices
import Derived.SizedLaws
/- Words for memory: a slice header whose cells read as a list of values, kept over what leaves the old blocks alone. -/
namespace Go.Proofs.YtfogkcccjemloaaGreatDoor
set_option linter.unusedVariables false
set_option linter.unusedSimpArgs false
open Go.RowKit

theorem add_block (a : Addr) (n : Nat) : (a.add n).block = a.block := by unfold Addr.add; split <;> rfl
theorem add_zero' (a : Addr) : a.add 0 = a := by simp [Addr.add]

/-- A and the length of xs are a slice whose elements (one cell each) are xs, in a block below B -/
def Rd (w : World) (B : Nat) (A : Option Addr) (xs : List Value) : Prop :=
  xs ≠ [] → ∃ ad, A = some ad ∧ ad.block < B ∧ ∀ j u, xs[j]? = some u → w.cell? (ad.add j) = some u

theorem Rd.nil (w : World) (B : Nat) (A : Option Addr) : Rd w B A [] := fun h => absurd rfl h
theorem Rd.keep {w w' : World} {B : Nat} {A : Option Addr} {xs : List Value} (h : Rd w B A xs) (hk : ∀ p : Addr, p.block < B → w'.cell? p = w.cell? p) : Rd w' B A xs := fun hn => by
  obtain ⟨ad, e, hb, hc⟩ := h hn
  exact ⟨ad, e, hb, fun j u hu => (hk _ (by rw [add_block]; exact hb)).trans (hc j u hu)⟩
theorem Rd.more {w : World} {B B' : Nat} {A : Option Addr} {xs : List Value} (h : Rd w B A xs) (hB : B ≤ B') : Rd w B' A xs := fun hn => by
  obtain ⟨ad, e, hb, hc⟩ := h hn
  exact ⟨ad, e, by omega, hc⟩
theorem Rd.below {w w' : World} {B : Nat} {A : Option Addr} {xs : List Value} (h : Rd w B A xs) (hb : Below B w w') : Rd w' B A xs := h.keep fun _ hp => hb.cell hp
theorem Rd.drewN {w : World} {B : Nat} {A : Option Addr} {xs : List Value} (h : Rd w B A xs) (k : Nat) : Rd (w.drewN k) B A xs := h
theorem below_drewN {B : Nat} {a w : World} (h : Below B a w) (n : Nat) : Below B a (w.drewN n) := ⟨h.os, h.tape, h.output, h.size, h.block⟩
theorem below_self (B : Nat) (w : World) (n : Nat) : Below B w (w.drewN n) := below_drewN (Below.refl _ _) n

def bls (l : List Bool) : List Value := l.map Value.bool
theorem bls_length (l : List Bool) : (bls l).length = l.length := by simp [bls]
theorem bls_get {l : List Bool} {k : Nat} {b : Bool} (h : l[k]? = some b) : (bls l)[k]? = some (.bool b) := by simp [bls, h]
/-- the cell at a place within a slice of bools -/
theorem Rd.bool_at {w : World} {B : Nat} {A : Option Addr} {l : List Bool} (h : Rd w B A (bls l)) {k : Nat} (hk : k < l.length) :
    ∃ ad b, A = some ad ∧ ad.block < B ∧ l[k]? = some b ∧ w.cell? (ad.add k) = some (.bool b) := by
  obtain ⟨ad, e, hb, hc⟩ := h (by intro e; have := congrArg List.length e; simp [bls] at this; rw [this] at hk; simp at hk)
  exact ⟨ad, l[k], e, hb, List.getElem?_eq_getElem hk, hc k _ (bls_get (List.getElem?_eq_getElem hk))⟩
theorem take_succ_of {α : Type} {l : List α} {k : Nat} {b : α} (h : l[k]? = some b) : l.take (k + 1) = l.take k ++ [b] := by
  rw [List.take_add_one, h]; rfl
theorem Rd.of_own {w : World} {base : Nat} {e : TypeId} {A : Option Addr} {n c : Nat} {xs : List Value} (h : w.ownsRow base e 1 (.slice A n c) n xs) : Rd w w.heap.size A xs := fun hn => by
  have hl : xs.length = n := by simpa using h.1
  have hn' : 0 < n := by
    rcases Nat.eq_zero_or_pos n with h0 | h0
    · exact absurd (List.eq_nil_of_length_eq_zero (hl.trans h0)) hn
    · exact h0
  obtain ⟨g, cap, hv, _, hlt⟩ := h.form hn'
  have hA : A = some ⟨g, 0, none⟩ := by injection hv
  subst hA
  exact ⟨_, rfl, hlt, fun j u hu => h.cells (g := g) rfl j u hu⟩
/-- an owned value is a slice header -/
theorem own_form {w : World} {base n : Nat} {e : TypeId} {v : Value} {xs : List Value} (h : w.ownsRow base e 1 v n xs) : ∃ A c, v = .slice A n c := by
  rcases h.2 with ⟨rfl, rfl⟩ | ⟨g, cap, cur, rfl, _⟩
  · exact ⟨_, _, rfl⟩
  · exact ⟨_, _, rfl⟩
/-- one append onto what the call owns leaves the old blocks alone -/
theorem own_below {w wr w1 : World} {base n : Nat} {e : TypeId} {v : Value} {xs : List Value} {o : Obj} (hb : Below base w wr) (hbase : base ≤ wr.heap.size) (hown : wr.ownsRow base e 1 v n xs) (hg : (wr.alloc o).grownBy w1 v.ownBlock) : Below base w w1 :=
  (hb.alloc hbase o).grown hg (by simp; omega) (fun k hk => (hown.lt k hk).1)
theorem one_cell_bool (b : Bool) : ∀ u ∈ [Value.bool b], u.oneCell' = true := by
  intro u hu
  simp at hu
  subst hu
  rfl
theorem bel_box {w : World} (o : Obj) : Below w.heap.size w (w.alloc o) := (Below.refl _ _).alloc (Nat.le_refl _) _
theorem bel_step {w W w' : World} (h : Below w.heap.size w W) (hb : Below W.heap.size W w') : Below w.heap.size w w' := h.trans (hb.mono h.size)
theorem bel_alloc {w W : World} (h : Below w.heap.size w W) (o : Obj) : Below w.heap.size w (W.alloc o) := h.alloc h.size o
theorem bcell {W w1 : World} (hb : Below W.heap.size W w1) : (∀ b o, b < W.heap.size → w1.cell? ⟨b, o, none⟩ = W.cell? ⟨b, o, none⟩) ∧ (∀ b o, b < W.heap.size → w1.frozen? ⟨b, o, none⟩ = W.frozen? ⟨b, o, none⟩) ∧ W.heap.size ≤ w1.heap.size :=
  ⟨fun b o h => hb.cell (p := ⟨b, o, none⟩) h, fun b o h => hb.frozen (p := ⟨b, o, none⟩) h, hb.size⟩
/-- a reading at the start is one later -/
theorem Rd.to {w W : World} {A : Option Addr} {xs : List Value} (h : Rd w w.heap.size A xs) (hb : Below w.heap.size w W) : Rd W W.heap.size A xs := (h.below hb).more hb.size
theorem Rd.cut {w : World} {B : Nat} {A : Option Addr} {l : List Bool} (h : Rd w B A (bls l)) (n : Nat) : Rd w B A (bls (l.take n)) := fun hn => by
  obtain ⟨ad, e, hb, hc⟩ := h (by intro e; apply hn; simp [bls] at e; simp [bls, e])
  refine ⟨ad, e, hb, fun j u hu => hc j u ?_⟩
  have hj : j < (l.take n).length := by have := (List.getElem?_eq_some_iff.1 hu).1; simpa [bls] using this
  rw [List.length_take] at hj
  have e2 : (l.take n)[j]? = l[j]? := List.getElem?_take_of_lt (by omega)
  rw [bls, List.getElem?_map, e2] at hu
  rw [bls, List.getElem?_map]
  exact hu
theorem add_add' (a : Addr) (i j : Nat) : (a.add i).add j = a.add (i + j) := by
  unfold Addr.add
  by_cases hi : i = 0 <;> by_cases hj : j = 0 <;> simp [hi, hj, Nat.add_assoc]
theorem Rd.drop {w : World} {B : Nat} {A : Option Addr} {l : List Bool} (h : Rd w B A (bls l)) (k : Nat) : Rd w B (A.map (·.add k)) (bls (l.drop k)) := fun hn => by
  obtain ⟨ad, e, hb, hc⟩ := h (by intro e; apply hn; simp [bls] at e; simp [bls, e])
  refine ⟨ad.add k, by rw [e]; rfl, by rw [add_block]; exact hb, fun j u hu => ?_⟩
  rw [add_add']
  apply hc
  rw [bls, List.getElem?_map, List.getElem?_drop] at hu
  rw [bls, List.getElem?_map]
  exact hu
theorem Rd.drop_some {w : World} {B : Nat} {a : Addr} {l : List Bool} (h : Rd w B (some a) (bls l)) (k : Nat) : Rd w B (some (a.add k)) (bls (l.drop k)) := h.drop k
/-- what is owned stays owned while its block is left alone -/
theorem own_keep {w w' : World} {base n : Nat} {e : TypeId} {v : Value} {xs : List Value} (h : w.ownsRow base e 1 v n xs) (hb : Below w.heap.size w w') : w'.ownsRow base e 1 v n xs := by
  refine ⟨h.1, ?_⟩
  rcases h.2 with hn | ⟨g, cap, cur, rfl, hbg, hg, rest⟩
  · exact .inl hn
  · have hlt : g < w.heap.size := by
      rcases Nat.lt_or_ge g w.heap.size with hlt | hge
      · exact hlt
      · rw [Array.getElem?_eq_none hge] at hg; cases hg
    exact .inr ⟨g, cap, cur, rfl, hbg, (hb.block g hlt).trans hg, rest⟩
theorem own_cap {w : World} {base n c : Nat} {e : TypeId} {A : Option Addr} {xs : List Value} (h : w.ownsRow base e 1 (.slice A n c) n xs) : n ≤ c := by
  rcases h.2 with ⟨hv, hn⟩ | ⟨g, cap, cur, hv, _, _, hnc, _⟩
  · omega
  · injection hv with _ _ hc; omega
theorem set2_cells {W : World} {b : Nat} {u v : Value} (h0 : W.cell? ⟨b, 0, none⟩ = some u) (h1 : W.cell? ⟨b, 1, none⟩ = some v) (x y : Value) :
    ((W.setCell ⟨b, 0, none⟩ x).setCell ⟨b, 1, none⟩ y).cell? ⟨b, 0, none⟩ = some x ∧ ((W.setCell ⟨b, 0, none⟩ x).setCell ⟨b, 1, none⟩ y).cell? ⟨b, 1, none⟩ = some y := by
  have e1 : (W.setCell ⟨b, 0, none⟩ x).cell? ⟨b, 1, none⟩ = some v := (World.cell?_setCell_other W _ _ _ (by simp)).trans h1
  refine ⟨?_, World.cell?_setCell_same _ _ _ e1⟩
  rw [World.cell?_setCell_other _ _ _ _ (by simp)]
  exact World.cell?_setCell_same _ _ _ h0
/-- what is owned, after the writes to a block below -/
theorem own_set2 {w : World} {base n c b : Nat} {e : TypeId} {A : Option Addr} {xs : List Value} (h : w.ownsRow base e 1 (.slice A n c) n xs) (hb : b < base) (x y : Value) :
    Rd ((w.setCell ⟨b, 0, none⟩ x).setCell ⟨b, 1, none⟩ y) ((w.setCell ⟨b, 0, none⟩ x).setCell ⟨b, 1, none⟩ y).heap.size A xs :=
  Rd.of_own (ownsRow_setCell_below (ownsRow_setCell_below h (a := ⟨b, 0, none⟩) hb x) (a := ⟨b, 1, none⟩) hb y)
theorem bel_set2 {w W : World} (h : Below w.heap.size w W) {b : Nat} (hb : w.heap.size ≤ b) (x y : Value) : Below w.heap.size w ((W.setCell ⟨b, 0, none⟩ x).setCell ⟨b, 1, none⟩ y) :=
  (h.setCell (p := ⟨b, 0, none⟩) hb x).setCell (p := ⟨b, 1, none⟩) hb y
theorem Rd.drop_none {w : World} {B k : Nat} {a : Addr} {l : List Bool} (h : Rd w B (some a) (bls l)) (he : l.drop k = []) : Rd w B (some a) (bls (l.drop k)) := by rw [he]; exact Rd.nil _ _ _
/-- where there is something, it lies in a block from N on -/
def Nw (N : Nat) (A : Option Addr) (xs : List Value) : Prop := ∀ ad, A = some ad → xs ≠ [] → N ≤ ad.block
theorem Nw.nil (N : Nat) (A : Option Addr) : Nw N A [] := fun _ _ h => absurd rfl h
theorem Nw.mono {N N' : Nat} {A : Option Addr} {xs : List Value} (h : Nw N A xs) (hN : N' ≤ N) : Nw N' A xs := fun ad e hx => Nat.le_trans hN (h ad e hx)
theorem own_new {w : World} {base n c : Nat} {e : TypeId} {A : Option Addr} {xs : List Value} (h : w.ownsRow base e 1 (.slice A n c) n xs) : Nw base A xs := fun ad ha hx => by
  rcases h.2 with ⟨hv, hn⟩ | ⟨g, cap, cur, hv, hb, _⟩
  · have : xs = [] := List.eq_nil_of_length_eq_zero (by have := h.1; omega)
    exact absurd this hx
  · subst ha
    injection hv with h1
    injection h1 with h1
    rw [h1]
    exact hb
theorem Rd.set_lo {w : World} {A : Option Addr} {N : Nat} {xs : List Value} (h : Rd w w.heap.size A xs) (hn : Nw N A xs) {p : Addr} (hp : p.block < N) (u : Value) : Rd (w.setCell p u) (w.setCell p u).heap.size A xs := fun hx => by
  obtain ⟨ad, e, hb, hc⟩ := h hx
  have hN := hn ad e hx
  refine ⟨ad, e, by simpa [World.setCell] using hb, fun j v hv => ?_⟩
  rw [World.cell?_setCell_other _ _ _ _ (fun e2 => by have := congrArg Addr.block e2; rw [add_block] at this; omega)]
  exact hc j v hv
theorem Rd.set2_lo {w : World} {A : Option Addr} {N b : Nat} {xs : List Value} (h : Rd w w.heap.size A xs) (hn : Nw N A xs) (hb : b < N) (x y : Value) :
    Rd ((w.setCell ⟨b, 0, none⟩ x).setCell ⟨b, 1, none⟩ y) ((w.setCell ⟨b, 0, none⟩ x).setCell ⟨b, 1, none⟩ y).heap.size A xs :=
  (h.set_lo hn (p := ⟨b, 0, none⟩) hb x).set_lo hn (p := ⟨b, 1, none⟩) hb y
/-- what a cell holds, whatever it is -/
def rc (w : World) (b i : Nat) : Value := (w.cell? ⟨b, i, none⟩).getD undef
theorem rc_of {w : World} {b i : Nat} {v : Value} (h : w.cell? ⟨b, i, none⟩ = some v) : w.cell? ⟨b, i, none⟩ = some (rc w b i) := by rw [rc, h]; rfl
attribute [irreducible] rc
/-- a block of two cells that can be written stays one -/
theorem res4_of {W : World} {b : Nat} {x y : Value} (h0 : W.cell? ⟨b, 0, none⟩ = some x) (h1 : W.cell? ⟨b, 1, none⟩ = some y) (h2 : W.frozen? ⟨b, 0, none⟩ = false) (h3 : W.frozen? ⟨b, 1, none⟩ = false) :
    W.cell? ⟨b, 0, none⟩ = some (rc W b 0) ∧ W.cell? ⟨b, 1, none⟩ = some (rc W b 1) ∧ W.frozen? ⟨b, 0, none⟩ = false ∧ W.frozen? ⟨b, 1, none⟩ = false := ⟨rc_of h0, rc_of h1, h2, h3⟩
theorem res4_below {W W' : World} {b : Nat} (h : W.cell? ⟨b, 0, none⟩ = some (rc W b 0) ∧ W.cell? ⟨b, 1, none⟩ = some (rc W b 1) ∧ W.frozen? ⟨b, 0, none⟩ = false ∧ W.frozen? ⟨b, 1, none⟩ = false) (e : Below W.heap.size W W') :
    W'.cell? ⟨b, 0, none⟩ = some (rc W' b 0) ∧ W'.cell? ⟨b, 1, none⟩ = some (rc W' b 1) ∧ W'.frozen? ⟨b, 0, none⟩ = false ∧ W'.frozen? ⟨b, 1, none⟩ = false := by
  have hb := World.block_lt_of_cell? W _ h.1
  exact ⟨rc_of ((e.cell (p := ⟨b, 0, none⟩) hb).trans h.1), rc_of ((e.cell (p := ⟨b, 1, none⟩) hb).trans h.2.1), (e.frozen (p := ⟨b, 0, none⟩) hb).trans h.2.2.1, (e.frozen (p := ⟨b, 1, none⟩) hb).trans h.2.2.2⟩
theorem res4_alloc {W : World} {b : Nat} (h : W.cell? ⟨b, 0, none⟩ = some (rc W b 0) ∧ W.cell? ⟨b, 1, none⟩ = some (rc W b 1) ∧ W.frozen? ⟨b, 0, none⟩ = false ∧ W.frozen? ⟨b, 1, none⟩ = false) (o : Obj) :
    (W.alloc o).cell? ⟨b, 0, none⟩ = some (rc (W.alloc o) b 0) ∧ (W.alloc o).cell? ⟨b, 1, none⟩ = some (rc (W.alloc o) b 1) ∧ (W.alloc o).frozen? ⟨b, 0, none⟩ = false ∧ (W.alloc o).frozen? ⟨b, 1, none⟩ = false :=
  res4_below h ((Below.refl _ _).alloc (Nat.le_refl _) o)
theorem res4_set {W : World} {b : Nat} (h : W.cell? ⟨b, 0, none⟩ = some (rc W b 0) ∧ W.cell? ⟨b, 1, none⟩ = some (rc W b 1) ∧ W.frozen? ⟨b, 0, none⟩ = false ∧ W.frozen? ⟨b, 1, none⟩ = false) (x y : Value) :
    ((W.setCell ⟨b, 0, none⟩ x).setCell ⟨b, 1, none⟩ y).cell? ⟨b, 0, none⟩ = some (rc ((W.setCell ⟨b, 0, none⟩ x).setCell ⟨b, 1, none⟩ y) b 0) ∧ ((W.setCell ⟨b, 0, none⟩ x).setCell ⟨b, 1, none⟩ y).cell? ⟨b, 1, none⟩ = some (rc ((W.setCell ⟨b, 0, none⟩ x).setCell ⟨b, 1, none⟩ y) b 1) ∧
      ((W.setCell ⟨b, 0, none⟩ x).setCell ⟨b, 1, none⟩ y).frozen? ⟨b, 0, none⟩ = false ∧ ((W.setCell ⟨b, 0, none⟩ x).setCell ⟨b, 1, none⟩ y).frozen? ⟨b, 1, none⟩ = false := by
  have e1 : (W.setCell ⟨b, 0, none⟩ x).cell? ⟨b, 1, none⟩ = some (rc W b 1) := (World.cell?_setCell_other W _ _ _ (by simp)).trans h.2.1
  refine ⟨rc_of (v := x) ?_, rc_of (v := y) (World.cell?_setCell_same _ _ _ e1), ?_, ?_⟩
  · rw [World.cell?_setCell_other _ _ _ _ (by simp)]
    exact World.cell?_setCell_same _ _ _ h.1
  · simpa [go_sem] using h.2.2.1
  · simpa [go_sem] using h.2.2.2
end Go.Proofs.YtfogkcccjemloaaGreatDoor
/- Tests of a byte, of both sides. -/
namespace Go.Proofs.YtfogkcccjemloaaGreatDoor
set_option linter.unusedVariables false
set_option linter.unusedSimpArgs false
open Go.RowKit
def Bel (v : Value) (w : World) (e : Ending) (w' : World) : Prop := e = .returned v ∧ Below w.heap.size w w'
theorem ret_bool {a b : Bool} (h : a = b) : Ending.returned (.bool a) = .returned (.bool b) := by rw [h]
/-- tests of a byte, as a number -/
def pL (n : Int) : Bool := decide (97 ≤ n ∧ n ≤ 122 ∨ 65 ≤ n ∧ n ≤ 90)
def pG (n : Int) : Bool := decide (48 ≤ n ∧ n ≤ 57)
def pI (n : Int) : Bool := pL n || pG n || n == 95
def pB (n : Int) : Bool := n == 32 || n == 9 || n == 10 || n == 13
def pN (n : Int) : Bool := n != 10
def pW (n : Int) : Bool := n == 48 || n == 49 || n == 40 || n == 41
theorem letter_any (n : Int) (w : World) : Calls Tryz.prog 75 #[.int .u8 n] w (Bel (.bool (pL n)) w) := by
  go_enter Tryz.func75, Tryz.ntmps75
  go_wp2
  all_goals go_ret
  all_goals refine ⟨ret_bool ?_, (by repeat (first | (with_reducible exact Below.refl _ _) | (with_reducible assumption) | (with_reducible exact bel_box _) | (with_reducible refine bel_step ?_ (by with_reducible assumption)) | (with_reducible refine Below.drew ?_) | (with_reducible refine below_drewN ?_ _) | (with_reducible refine bel_alloc ?_ _)))⟩
  all_goals (first | (rw [eq_comm, pL, decide_eq_true_eq]; omega) | (rw [eq_comm, pL, decide_eq_false_iff_not]; omega) | (rw [Bool.eq_iff_iff]; simp [pL]; omega))
theorem digit_any (n : Int) (w : World) : Calls Tryz.prog 79 #[.int .u8 n] w (Bel (.bool (pG n)) w) := by
  go_enter Tryz.func79, Tryz.ntmps79
  go_wp2
  all_goals go_ret
  all_goals refine ⟨ret_bool ?_, (by repeat (first | (with_reducible exact Below.refl _ _) | (with_reducible assumption) | (with_reducible exact bel_box _) | (with_reducible refine bel_step ?_ (by with_reducible assumption)) | (with_reducible refine Below.drew ?_) | (with_reducible refine below_drewN ?_ _) | (with_reducible refine bel_alloc ?_ _)))⟩
  all_goals (first | (rw [eq_comm, pG, decide_eq_true_eq]; omega) | (rw [eq_comm, pG, decide_eq_false_iff_not]; omega) | (rw [Bool.eq_iff_iff]; simp [pG]; omega))
theorem rletter_any (n : Int) (w : World) : Calls Tryz.prog 70 #[.int .u8 n] w (Bel (.bool (pL n)) w) := by
  go_enter Tryz.func70, Tryz.ntmps70
  go_wp2
  all_goals go_ret
  all_goals refine ⟨ret_bool ?_, (by repeat (first | (with_reducible exact Below.refl _ _) | (with_reducible assumption) | (with_reducible exact bel_box _) | (with_reducible refine bel_step ?_ (by with_reducible assumption)) | (with_reducible refine Below.drew ?_) | (with_reducible refine below_drewN ?_ _) | (with_reducible refine bel_alloc ?_ _)))⟩
  all_goals (first | (rw [eq_comm, pL, decide_eq_true_eq]; omega) | (rw [eq_comm, pL, decide_eq_false_iff_not]; omega) | (rw [Bool.eq_iff_iff]; simp [pL]; omega))
theorem rdigit_any (n : Int) (w : World) : Calls Tryz.prog 91 #[.int .u8 n] w (Bel (.bool (pG n)) w) := by
  go_enter Tryz.func91, Tryz.ntmps91
  go_wp2
  all_goals go_ret
  all_goals refine ⟨ret_bool ?_, (by repeat (first | (with_reducible exact Below.refl _ _) | (with_reducible assumption) | (with_reducible exact bel_box _) | (with_reducible refine bel_step ?_ (by with_reducible assumption)) | (with_reducible refine Below.drew ?_) | (with_reducible refine below_drewN ?_ _) | (with_reducible refine bel_alloc ?_ _)))⟩
  all_goals (first | (rw [eq_comm, pG, decide_eq_true_eq]; omega) | (rw [eq_comm, pG, decide_eq_false_iff_not]; omega) | (rw [Bool.eq_iff_iff]; simp [pG]; omega))
theorem inner_any (n : Int) (w : World) : Calls Tryz.prog 71 #[.int .u8 n] w (Bel (.bool (pI n)) w) := by
  have k1 := Lib.hid (rletter_any n)
  have k2 := Lib.hid (rdigit_any n)
  have e : pI n = (pL n || pG n || n == 95) := rfl
  rw [e]
  clear e
  generalize pL n = a at *
  generalize pG n = b at *
  cases a <;> cases b
  all_goals
    go_enter Tryz.func71, Tryz.ntmps71
    go_wp2_with (first
      | (go_at_call 70; refine (k1.out _).mono ?_; rintro e w1 ⟨rfl, hb1⟩)
      | (go_at_call 91; refine (k2.out _).mono ?_; rintro e w2 ⟨rfl, hb2⟩))
  all_goals go_ret
  all_goals exact ⟨ret_bool (by simp), (by repeat (first | (with_reducible exact Below.refl _ _) | (with_reducible assumption) | (with_reducible exact bel_box _) | (with_reducible refine bel_step ?_ (by with_reducible assumption)) | (with_reducible refine Below.drew ?_) | (with_reducible refine below_drewN ?_ _) | (with_reducible refine bel_alloc ?_ _)))⟩
end Go.Proofs.YtfogkcccjemloaaGreatDoor
/- Expressions ar they lie in memory: trees with the addresses of their arguments. -/
namespace Go.Proofs.YtfogkcccjemloaaGreatDoor
set_option linter.unusedVariables false
set_option linter.unusedSimpArgs false
open Go.RowKit
inductive Xt where
  | mk (k op t v : Int) (nm : ByteArray) (A : Option Addr) (c : Nat) (ar : List Xt)
def Xt.k : Xt → Int | .mk k _ _ _ _ _ _ _ => k
def Xt.op : Xt → Int | .mk _ op _ _ _ _ _ _ => op
def Xt.t : Xt → Int | .mk _ _ t _ _ _ _ _ => t
def Xt.v : Xt → Int | .mk _ _ _ v _ _ _ _ => v
def Xt.nm : Xt → ByteArray | .mk _ _ _ _ nm _ _ _ => nm
def Xt.A : Xt → Option Addr | .mk _ _ _ _ _ A _ _ => A
def Xt.c : Xt → Nat | .mk _ _ _ _ _ _ c _ => c
def Xt.ar : Xt → List Xt | .mk _ _ _ _ _ _ _ ar => ar
theorem Xt.lt_of_mem {a x : Xt} (h : a ∈ x.ar) : SizeOf.sizeOf a < SizeOf.sizeOf x := by
  cases x with
  | mk k op t v nm A c ar =>
    have := List.sizeOf_lt_of_mem (show a ∈ ar from h)
    simp
    omega
theorem Xt.ind {P : Xt → Prop} (h : ∀ x : Xt, (∀ a ∈ x.ar, P a) → P x) (x : Xt) : P x := by
  generalize hN : SizeOf.sizeOf x = N
  induction N using Nat.strongRecOn generalizing x with
  | ind N ih =>
    subst hN
    exact h x fun a ha => ih _ (Xt.lt_of_mem ha) a rfl
/-- its value -/
def xV (x : Xt) : Value := .agg #[.int .i64 x.k, .int .i64 x.op, .int .i64 x.t, .int .i64 x.v, .string x.nm, .slice x.A x.ar.length x.c]
/-- it lies in six cells -/
def XC (w : World) (a : Addr) (x : Xt) : Prop := w.cell? a = some (.int .i64 x.k) ∧ w.cell? ⟨a.block, a.off + 1, none⟩ = some (.int .i64 x.op) ∧ w.cell? ⟨a.block, a.off + 2, none⟩ = some (.int .i64 x.t) ∧ w.cell? ⟨a.block, a.off + 3, none⟩ = some (.int .i64 x.v) ∧ w.cell? ⟨a.block, a.off + 4, none⟩ = some (.string x.nm) ∧ w.cell? ⟨a.block, a.off + 5, none⟩ = some (.slice x.A x.ar.length x.c)
theorem XC.keep {w W : World} {a : Addr} {x : Xt} (h : XC w a x) (hk : ∀ p : Addr, p.block = a.block → W.cell? p = w.cell? p) : XC W a x :=
  ⟨(hk a rfl).trans h.1, (hk ⟨a.block, a.off + 1, none⟩ rfl).trans h.2.1, (hk ⟨a.block, a.off + 2, none⟩ rfl).trans h.2.2.1, (hk ⟨a.block, a.off + 3, none⟩ rfl).trans h.2.2.2.1, (hk ⟨a.block, a.off + 4, none⟩ rfl).trans h.2.2.2.2.1, (hk ⟨a.block, a.off + 5, none⟩ rfl).trans h.2.2.2.2.2⟩
/-- the arguments lie in memory, below block B -/
inductive RdX (w : World) (B : Nat) : Xt → Prop
  | mk (x : Xt) (h0 : x.ar ≠ [] → ∃ ad, x.A = some ad ∧ ad.block < B) (h1 : ∀ (ad : Addr) (i : Nat) (y : Xt), x.A = some ad → x.ar[i]? = some y → XC w (ad.add (i * 6)) y) (h2 : ∀ y ∈ x.ar, RdX w B y) (h3 : (x.ar.length ≤ maxLen ∧ x.nm.size ≤ maxLen) ∧ x.ar.length ≤ x.c) : RdX w B x
theorem RdX.blw {w W : World} {B B' : Nat} {x : Xt} (h : RdX w B x) (hb : Below B w W) (hB : B ≤ B') : RdX W B' x := by
  induction h with
  | mk x h0 h1 h2 h3 ih =>
    refine .mk x (fun hn => ?_) (fun ad i y ha hy => ?_) ih h3
    · obtain ⟨ad, e, h⟩ := h0 hn
      exact ⟨ad, e, by omega⟩
    · obtain ⟨ad', e, h⟩ := h0 (by intro e; rw [e] at hy; simp at hy)
      obtain rfl : ad = ad' := Option.some.inj (ha.symm.trans e)
      exact (h1 ad i y ha hy).keep fun p hp => hb.cell (by rw [hp, add_block]; exact h)
theorem RdX.to {w W : World} {x : Xt} (h : RdX w w.heap.size x) (hb : Below w.heap.size w W) : RdX W W.heap.size x := h.blw hb hb.size
theorem RdX.kid {w : World} {B : Nat} {x y : Xt} (h : RdX w B x) (hy : y ∈ x.ar) : RdX w B y := by
  cases h with
  | mk x h0 h1 h2 h3 => exact h2 y hy
theorem RdX.len {w : World} {B : Nat} {x : Xt} (h : RdX w B x) : x.ar.length ≤ maxLen ∧ x.nm.size ≤ maxLen := by
  cases h with
  | mk x h0 h1 h2 h3 => exact h3.1
theorem RdX.cap {w : World} {B : Nat} {x : Xt} (h : RdX w B x) : x.ar.length ≤ x.c := by
  cases h with
  | mk x h0 h1 h2 h3 => exact h3.2
theorem RdX.at_ {w : World} {B : Nat} {x : Xt} (h : RdX w B x) {i : Nat} (hi : i < x.ar.length) : ∃ ad y, x.A = some ad ∧ ad.block < B ∧ x.ar[i]? = some y ∧ y ∈ x.ar ∧ XC w (ad.add (i * 6)) y ∧ RdX w B y := by
  cases h with
  | mk x h0 h1 h2 h3 =>
    obtain ⟨ad, e, hb⟩ := h0 (by intro e; rw [e] at hi; simp at hi)
    have hy : x.ar[i]? = some x.ar[i] := List.getElem?_eq_getElem hi
    exact ⟨ad, _, e, hb, hy, List.mem_of_getElem? hy, h1 ad i _ e hy, h2 _ (List.mem_of_getElem? hy)⟩
/-- how many expressions -/
def Xt.size (x : Xt) : Nat := 1 + (x.ar.attach.map fun a => Xt.size a.1).sum
termination_by SizeOf.sizeOf x
decreasing_by exact Xt.lt_of_mem a.2
theorem Xt.size_eq (x : Xt) : x.size = 1 + (x.ar.map Xt.size).sum := by
  rw [Xt.size]
  congr 2
  simp
def Xt.depth (x : Xt) : Nat := 1 + (x.ar.attach.map fun a => Xt.depth a.1).foldl max 0
termination_by SizeOf.sizeOf x
decreasing_by exact Xt.lt_of_mem a.2
theorem Xt.depth_eq (x : Xt) : x.depth = 1 + (x.ar.map Xt.depth).foldl max 0 := by
  rw [Xt.depth]
  congr 2
  simp
/-- all of them, each before its arguments -/
def Xt.list (x : Xt) : List Xt := x :: (x.ar.attach.map fun a => Xt.list a.1).flatten
termination_by SizeOf.sizeOf x
decreasing_by exact Xt.lt_of_mem a.2
theorem Xt.list_eq (x : Xt) : x.list = x :: (x.ar.map Xt.list).flatten := by
  rw [Xt.list]
  congr 2
  simp
theorem Xt.size_pos (x : Xt) : 1 ≤ x.size := by rw [Xt.size_eq]; omega
theorem sum_take_succ {l : List Xt} {f : Xt → Nat} {k : Nat} {y : Xt} (h : l[k]? = some y) : ((l.take (k + 1)).map f).sum = ((l.take k).map f).sum + f y := by
  rw [take_succ_of h, List.map_append, List.sum_append]; simp
theorem sum_take_le (l : List Xt) (f : Xt → Nat) (k : Nat) : ((l.take k).map f).sum ≤ (l.map f).sum := by
  conv => rhs; rw [← List.take_append_drop k l, List.map_append, List.sum_append]
  omega
theorem list_length (x : Xt) : x.list.length = x.size := by
  induction x using Xt.ind with
  | h x ih =>
    rw [Xt.list_eq, Xt.size_eq, List.length_cons, List.length_flatten, List.map_map, Nat.add_comm]
    congr 2
    exact List.map_congr_left fun a ha => ih a ha
end Go.Proofs.YtfogkcccjemloaaGreatDoor
/- Size, Depth, Weigh of the reference. -/
namespace Go.Proofs.YtfogkcccjemloaaGreatDoor
set_option linter.unusedVariables false
set_option linter.unusedSimpArgs false
open Go.RowKit
/-- the world in which an expression that came in has its box -/
abbrev bxW (w : World) (x : Xt) : World := w.alloc (.cells #[.int .i64 x.k, .int .i64 x.op, .int .i64 x.t, .int .i64 x.v, .string x.nm, .slice x.A x.ar.length x.c] 24)
theorem bxW_size (w : World) (x : Xt) : (bxW w x).heap.size = w.heap.size + 1 := World.size_alloc _ _
theorem bxW_below {w W : World} {x : Xt} (h : Below (bxW w x).heap.size (bxW w x) W) : Below w.heap.size w W := (bel_box _).trans (h.mono (by rw [bxW_size]; omega))
theorem bxW_cells {w W : World} {x : Xt} (h : Below (bxW w x).heap.size (bxW w x) W) :
    W.cell? ⟨w.heap.size, 0, none⟩ = some (.int .i64 x.k) ∧ W.cell? ⟨w.heap.size, 1, none⟩ = some (.int .i64 x.op) ∧ W.cell? ⟨w.heap.size, 2, none⟩ = some (.int .i64 x.t) ∧ W.cell? ⟨w.heap.size, 3, none⟩ = some (.int .i64 x.v) ∧ W.cell? ⟨w.heap.size, 4, none⟩ = some (.string x.nm) ∧ W.cell? ⟨w.heap.size, 5, none⟩ = some (.slice x.A x.ar.length x.c) ∧ w.heap.size < W.heap.size := by
  have hz := h.size
  rw [bxW_size] at hz
  obtain ⟨hc, _, _⟩ := bcell h
  rw [hc _ _ (by rw [bxW_size]; simp), hc _ _ (by rw [bxW_size]; simp), hc _ _ (by rw [bxW_size]; simp), hc _ _ (by rw [bxW_size]; simp), hc _ _ (by rw [bxW_size]; simp), hc _ _ (by rw [bxW_size]; simp)]
  refine ⟨?_, ?_, ?_, ?_, ?_, ?_, by omega⟩ <;> simp [go_sem]
set_option maxHeartbeats 1000000 in
set_option maxRecDepth 20000 in
theorem rsize_any (x : Xt) : ∀ w, RdX w w.heap.size x → x.size ≤ 100000 → Calls Tryz.prog 15 #[xV x] w (Bel (.int .i64 (x.size : Nat)) w) := by
  induction x using Xt.ind with
  | h x ih =>
    intro w hX hS
    have HX := Lib.hid hX
    have IH := Lib.hid ih
    clear hX ih
    rw [Xt.size_eq] at hS ⊢
    have hts := fun k => sum_take_le x.ar Xt.size k
    have hal : (x.ar.map Xt.size).sum = ((x.ar.take x.ar.length).map Xt.size).sum := by rw [List.take_length]
    have hcl : x.ar.length ≤ (x.ar.map Xt.size).sum := by
      generalize x.ar = l
      induction l with
      | nil => simp
      | cons a l ih => have := Xt.size_pos a; simp; omega
    rw [hal] at hS hcl ⊢
    clear hal
    generalize hF : (fun k => ((x.ar.take k).map Xt.size).sum) = F at *
    have hFk : ∀ k, ((x.ar.take k).map Xt.size).sum = F k := fun k => by rw [← hF]
    have HN : Hid (∀ (k : Nat) (y : Xt), x.ar[k]? = some y → F (k + 1) = F k + y.size) := Lib.hid fun k y hy => by rw [← hFk, ← hFk]; exact sum_take_succ hy
    have hle : ∀ k, F k ≤ F x.ar.length := fun k => by
      rw [← hFk, ← hFk, List.take_length]; exact sum_take_le x.ar Xt.size k
    have hF0 : F 0 = 0 := by rw [← hFk]; rfl
    simp only [hFk] at hS hcl ⊢
    clear hF hFk hts
    simp only [xV] at IH ⊢
    have HL := Lib.hid hle
    go_enter Tryz.func15, Tryz.ntmps15
    go_wp2
    go_loopw [3, 4] (fun n i wr => ∃ k : Nat, k ≤ x.ar.length ∧ i = .int .i64 (k : Int) ∧ n = .int .i64 ((1 + F k : Nat) : Int) ∧ Below (bxW w x).heap.size (bxW w x) wr) (fun _ i _ => x.ar.length - (intOf i).toNat)
    case atStart => exact ⟨0, by omega, rfl, by rw [hF0]; rfl, Below.refl _ _⟩
    case round =>
      obtain ⟨k, hk, rfl, rfl, hbl⟩ := hrel
      obtain ⟨b0, b1, b2, b3, b4, b5, b6⟩ := bxW_cells hbl
      have hBW := bxW_below hbl
      by_cases hlt : k < x.ar.length
      · obtain ⟨ad, y, hA, had, hy, hm, ⟨c0, c1, c2, c3, c4, c5⟩, hr⟩ := (HX.out.to hBW).at_ hlt
        rw [hA] at b5
        clear hA
        have hn1 := HN.out k y hy
        have hn2 := HL.out (k + 1)
        have hcells := Lib.hid hy
        clear hy
        have u1 : IntKind.i64.wrap (((1 + F k : Nat) : Int) + (y.size : Int)) = ((1 + F (k + 1) : Nat) : Int) := by rw [Go.IntWalk.i64_in _ ⟨by omega, by omega⟩]; omega
        go_wp2_with (go_at_call 15; (with_reducible refine (IH.out y hm _ (hr.to ?_) (by omega)).mono ?_); (focus ((repeat (first | (with_reducible exact Below.refl _ _) | (with_reducible assumption) | (with_reducible exact bel_box _) | (with_reducible refine bel_step ?_ (by with_reducible assumption)) | (with_reducible refine Below.drew ?_) | (with_reducible refine below_drewN ?_ _) | (with_reducible refine bel_alloc ?_ _))); done)); rintro e w1 ⟨rfl, hb1⟩)
        exact ⟨⟨k + 1, by omega, by congr 1, by congr 1; omega, (by repeat (first | (with_reducible exact Below.refl _ _) | (with_reducible assumption) | (with_reducible exact bel_box _) | (with_reducible refine bel_step ?_ (by with_reducible assumption)) | (with_reducible refine Below.drew ?_) | (with_reducible refine below_drewN ?_ _) | (with_reducible refine bel_alloc ?_ _)))⟩, by simp [intOf]; omega⟩
      · obtain rfl : k = x.ar.length := by omega
        go_wp2
        go_ret
        exact ⟨rfl, hBW⟩
/-- what a sum over the arguments needs, by its partial sums -/
theorem parts_sum (x : Xt) : ∃ F : Nat → Nat, x.size = 1 + F x.ar.length ∧ F 0 = 0 ∧ x.ar.length ≤ F x.ar.length ∧ Hid (∀ (k : Nat) (y : Xt), x.ar[k]? = some y → F (k + 1) = F k + y.size) ∧ Hid (∀ k, F k ≤ F x.ar.length) := by
  refine ⟨fun k => ((x.ar.take k).map Xt.size).sum, ?_, rfl, ?_, Lib.hid fun k y hy => sum_take_succ hy, Lib.hid fun k => ?_⟩
  · simp only [List.take_length]
    exact Xt.size_eq x
  · simp only [List.take_length]
    generalize x.ar = l
    induction l with
    | nil => simp
    | cons a l ih => have := Xt.size_pos a; simp; omega
  · simp only [List.take_length]
    exact sum_take_le x.ar Xt.size k
set_option maxHeartbeats 1000000 in
set_option maxRecDepth 20000 in
theorem weigh_any (x : Xt) : ∀ (m : Nat) w, RdX w w.heap.size x → 1 ≤ m → m ≤ 100000 → Calls Tryz.prog 37 #[xV x, .int .i64 (m : Int)] w (Bel (.int .i64 ((min x.size m : Nat) : Int)) w) := by
  induction x using Xt.ind with
  | h x ih =>
    intro m w hX h1 h2
    have h9 := hX.len.1
    unfold maxLen at h9
    have HX := Lib.hid hX
    have IH := Lib.hid ih
    clear hX ih
    obtain ⟨F, hFx, hF0, _, HN, HL⟩ := parts_sum x
    rw [hFx]
    clear hFx
    obtain ⟨V, hV⟩ : ∃ V, min (1 + F x.ar.length) m = V := ⟨_, rfl⟩
    have HV := Lib.hid hV
    rw [hV]
    clear hV
    simp only [xV] at IH ⊢
    go_enter Tryz.func37, Tryz.ntmps37
    go_wp2
    go_loopw [5, 6] (fun n i wr => ∃ k N : Nat, k ≤ x.ar.length ∧ i = .int .i64 (k : Int) ∧ n = .int .i64 (N : Int) ∧ Hid (N = min (1 + F k) m) ∧ N ≤ m ∧ Below (bxW w x).heap.size (bxW w x) wr) (fun _ i _ => x.ar.length - (intOf i).toNat)
    case atStart => exact ⟨0, 1, by omega, rfl, rfl, Lib.hid (by rw [hF0]; omega), by omega, Below.refl _ _⟩
    case round =>
      obtain ⟨k, N, hk, rfl, rfl, hN, hNle, hbl⟩ := hrel
      obtain ⟨b0, b1, b2, b3, b4, b5, b6⟩ := bxW_cells hbl
      have hBW := bxW_below hbl
      by_cases hlt : k < x.ar.length
      · by_cases hNm : N < m
        · obtain ⟨ad, y, hA, had, hy, hm, ⟨c0, c1, c2, c3, c4, c5⟩, hr⟩ := (HX.out.to hBW).at_ hlt
          rw [hA] at b5
          clear hA
          have hn1 := HN.out k y hy
          have hy1 := Xt.size_pos y
          clear hy
          have hNe : N = 1 + F k := by have := hN.out; omega
          obtain ⟨d, hd⟩ : ∃ d, m - N = d := ⟨_, rfl⟩
          obtain ⟨r, hr2⟩ : ∃ r, min y.size d = r := ⟨_, rfl⟩
          have K1 : Hid (∀ W, Below wr.heap.size wr W → Calls Tryz.prog 37 #[.agg #[.int .i64 y.k, .int .i64 y.op, .int .i64 y.t, .int .i64 y.v, .string y.nm, .slice y.A y.ar.length y.c], .int .i64 (d : Int)] W (Bel (.int .i64 (r : Nat)) W)) := Lib.hid fun W hb => by
            have := IH.out y hm d W (hr.to hb) (by omega) (by omega)
            rwa [hr2] at this
          have HN2 : Hid (N + r = min (1 + F (k + 1)) m) := Lib.hid (by omega)
          have g1 : N + r ≤ m := by omega
          have u1 : (m : Int) - (N : Int) = (d : Int) := by omega
          have u2 : IntKind.i64.wrap (d : Int) = (d : Int) := Go.IntWalk.i64_in _ ⟨by omega, by omega⟩
          have u3 : (N : Int) < (m : Int) := by omega
          clear hN hn1 hNe hd hr2 hy1
          go_wp2_with (go_at_call 37; (with_reducible refine (K1.out _ ?_).mono ?_); (focus ((repeat (first | (with_reducible exact Below.refl _ _) | (with_reducible assumption) | (with_reducible exact bel_box _) | (with_reducible refine bel_step ?_ (by with_reducible assumption)) | (with_reducible refine Below.drew ?_) | (with_reducible refine below_drewN ?_ _) | (with_reducible refine bel_alloc ?_ _))); done)); rintro e w1 ⟨rfl, hb1⟩)
          exact ⟨⟨k + 1, N + r, by omega, by congr 1, by congr 1, HN2, g1, (by repeat (first | (with_reducible exact Below.refl _ _) | (with_reducible assumption) | (with_reducible exact bel_box _) | (with_reducible refine bel_step ?_ (by with_reducible assumption)) | (with_reducible refine Below.drew ?_) | (with_reducible refine below_drewN ?_ _) | (with_reducible refine bel_alloc ?_ _)))⟩, by simp [intOf]; omega⟩
        · have hv : N = V := by
            have h1 := hN.out
            have h2 := HV.out
            have h3 := HL.out k
            omega
          subst hv
          have u3 : (m : Int) ≤ (N : Int) := by omega
          have u4 : (N : Int) ≤ (m : Int) := by omega
          clear hN HV
          go_wp2
          go_ret
          refine ⟨?_, hBW⟩
          congr 2
      · obtain rfl : k = x.ar.length := by omega
        obtain rfl : N = V := hN.out.trans HV.out
        have u4 : (N : Int) ≤ (m : Int) := by omega
        clear hN HV
        go_wp2
        go_ret
        refine ⟨?_, hBW⟩
        congr 2
end Go.Proofs.YtfogkcccjemloaaGreatDoor
/- Same of both, by the content of a tree. -/
namespace Go.Proofs.YtfogkcccjemloaaGreatDoor
set_option linter.unusedVariables false
set_option linter.unusedSimpArgs false
open Go.RowKit Go.Sort
/-- what a tree says, without its addresses -/
inductive Xc where
  | mk (k op t v : Int) (nm : List UInt8) (ar : List Xc)
def Xt.ct (x : Xt) : Xc := .mk x.k x.op x.t x.v x.nm.toList (x.ar.attach.map fun a => Xt.ct a.1)
termination_by SizeOf.sizeOf x
decreasing_by exact Xt.lt_of_mem a.2
theorem Xt.ct_eq (x : Xt) : x.ct = .mk x.k x.op x.t x.v x.nm.toList (x.ar.map Xt.ct) := by
  rw [Xt.ct]
  congr 1
  simp
open Classical in
noncomputable def sameX (a b : Xt) : Bool := decide (a.ct = b.ct)
open Classical in
theorem sameX_iff {a b : Xt} : sameX a b = true ↔ a.ct = b.ct := by
  unfold sameX; exact decide_eq_true_iff
theorem sameX_yes {a b : Xt} (h : a.ct = b.ct) : sameX a b = true := sameX_iff.2 h
theorem sameX_no {a b : Xt} (h : ¬ a.ct = b.ct) : sameX a b = false := by
  cases q : sameX a b
  · rfl
  · exact absurd (sameX_iff.1 q) h
theorem sameX_refl (a : Xt) : sameX a a = true := sameX_yes rfl
theorem sameX_symm (a b : Xt) : sameX a b = sameX b a := by
  rw [Bool.eq_iff_iff, sameX_iff, sameX_iff]; exact eq_comm
/-- equal but for the arguments -/
def headEq (a b : Xt) : Bool := a.k == b.k && a.op == b.op && a.t == b.t && a.v == b.v && a.nm.toList == b.nm.toList && a.ar.length == b.ar.length
theorem ct_parts {a b : Xt} (h : a.ct = b.ct) : a.k = b.k ∧ a.op = b.op ∧ a.t = b.t ∧ a.v = b.v ∧ a.nm.toList = b.nm.toList ∧ a.ar.map Xt.ct = b.ar.map Xt.ct ∧ a.ar.length = b.ar.length := by
  rw [Xt.ct_eq, Xt.ct_eq] at h
  injection h with h1 h2 h3 h4 h5 h6
  exact ⟨h1, h2, h3, h4, h5, h6, by have := congrArg List.length h6; simpa using this⟩
theorem ct_of {a b : Xt} (h1 : a.k = b.k) (h2 : a.op = b.op) (h3 : a.t = b.t) (h4 : a.v = b.v) (h5 : a.nm.toList = b.nm.toList) (h6 : a.ar.map Xt.ct = b.ar.map Xt.ct) : a.ct = b.ct := by
  rw [Xt.ct_eq, Xt.ct_eq, h1, h2, h3, h4, h5, h6]
theorem ct_take {a b : List Xt} {k : Nat} {y z : Xt} (ha : a[k]? = some y) (hb : b[k]? = some z) (h : (a.take k).map Xt.ct = (b.take k).map Xt.ct) (hy : sameX y z = true) : (a.take (k + 1)).map Xt.ct = (b.take (k + 1)).map Xt.ct := by
  rw [take_succ_of ha, take_succ_of hb, List.map_append, List.map_append, h, List.map_singleton, List.map_singleton, sameX_iff.1 hy]
theorem ct_differ {a b : List Xt} {k : Nat} {y z : Xt} (ha : a[k]? = some y) (hb : b[k]? = some z) (hy : sameX y z = false) : ¬ a.map Xt.ct = b.map Xt.ct := by
  intro e
  have h := congrArg (fun l => l[k]?) e
  simp only [List.getElem?_map, ha, hb, Option.map_some] at h
  rw [sameX_yes (Option.some.inj h)] at hy
  cases hy
set_option maxHeartbeats 2000000 in
set_option maxRecDepth 20000 in
theorem rsameX_any (a : Xt) : ∀ (b : Xt) w, RdX w w.heap.size a → RdX w w.heap.size b → a.size ≤ 100000 → Calls Tryz.prog 29 #[xV a, xV b] w (Bel (.bool (sameX a b)) w) := by
  induction a using Xt.ind with
  | h a ih =>
    intro b w hA hB hs
    have h9 := hA.len.1
    have h9b := hB.len.1
    unfold maxLen at h9 h9b
    have IH : Hid (∀ (k : Nat) (y : Xt), a.ar[k]? = some y → ∀ (z : Xt) W, RdX W W.heap.size y → RdX W W.heap.size z → Calls Tryz.prog 29 #[xV y, xV z] W (Bel (.bool (sameX y z)) W)) := Lib.hid fun k y hy z W h1 h2 => ih y (List.mem_of_getElem? hy) z W h1 h2 (by
      obtain ⟨F, hF, _, _, HN, HL⟩ := parts_sum a
      have := HN.out k y hy
      have := HL.out (k + 1)
      omega)
    clear ih hs
    simp only [xV] at IH ⊢
    have HA := Lib.hid hA
    have HB := Lib.hid hB
    clear hA hB
    obtain ⟨b0, b1, b2, b3, b4, b5, b6⟩ := bxW_cells (w := w) (x := a) (W := bxW (bxW w a) b) (bel_box _)
    obtain ⟨d0, d1, d2, d3, d4, d5, d6⟩ := bxW_cells (w := bxW w a) (x := b) (W := bxW (bxW w a) b) (Below.refl _ _)
    rw [bxW_size] at d0 d1 d2 d3 d4 d5 d6
    have hBW : Below w.heap.size w (bxW (bxW w a) b) := bel_alloc (bel_box _) _
    obtain ⟨V, hV⟩ : ∃ V, sameX a b = V := ⟨_, rfl⟩
    have HN : Hid (¬ a.ct = b.ct → V = false) := Lib.hid fun h => hV ▸ sameX_no h
    have HY : Hid (a.ct = b.ct → V = true) := Lib.hid fun h => hV ▸ sameX_yes h
    rw [hV]
    clear hV
    cases q1 : (a.k != b.k)
    case true =>
      have hv : V = false := HN.out fun e => by
        obtain ⟨g1, g2, g3, g4, g5, g6, g7⟩ := ct_parts e
        simp [g1] at q1
      clear HN HY IH HA HB
      go_enter Tryz.func29, Tryz.ntmps29
      go_wp2
      go_ret
      exact ⟨by rw [hv]; rfl, hBW⟩
    cases q2 : (a.op != b.op)
    case true =>
      have hv : V = false := HN.out fun e => by
        obtain ⟨g1, g2, g3, g4, g5, g6, g7⟩ := ct_parts e
        simp [g2] at q2
      clear HN HY IH HA HB
      go_enter Tryz.func29, Tryz.ntmps29
      go_wp2
      go_ret
      exact ⟨by rw [hv]; rfl, hBW⟩
    cases q3 : (a.t != b.t)
    case true =>
      have hv : V = false := HN.out fun e => by
        obtain ⟨g1, g2, g3, g4, g5, g6, g7⟩ := ct_parts e
        simp [g3] at q3
      clear HN HY IH HA HB
      go_enter Tryz.func29, Tryz.ntmps29
      go_wp2
      go_ret
      exact ⟨by rw [hv]; rfl, hBW⟩
    cases q4 : (a.v != b.v)
    case true =>
      have hv : V = false := HN.out fun e => by
        obtain ⟨g1, g2, g3, g4, g5, g6, g7⟩ := ct_parts e
        simp [g4] at q4
      clear HN HY IH HA HB
      go_enter Tryz.func29, Tryz.ntmps29
      go_wp2
      go_ret
      exact ⟨by rw [hv]; rfl, hBW⟩
    cases q5 : (a.nm.toList == b.nm.toList)
    case false =>
      have hv : V = false := HN.out fun e => by
        obtain ⟨g1, g2, g3, g4, g5, g6, g7⟩ := ct_parts e
        simp [g5] at q5
      clear HN HY IH HA HB
      go_enter Tryz.func29, Tryz.ntmps29
      go_wp2
      go_ret
      exact ⟨by rw [hv]; rfl, hBW⟩
    cases q6 : (((a.ar.length : Nat) : Int) != ((b.ar.length : Nat) : Int))
    case true =>
      have hv : V = false := HN.out fun e => by
        obtain ⟨g1, g2, g3, g4, g5, g6, g7⟩ := ct_parts e
        simp [g7] at q6
      clear HN HY IH HA HB
      go_enter Tryz.func29, Tryz.ntmps29
      go_wp2
      go_ret
      exact ⟨by rw [hv]; rfl, hBW⟩
    have p1 : a.k = b.k := by simpa using q1
    have p2 : a.op = b.op := by simpa using q2
    have p3 : a.t = b.t := by simpa using q3
    have p4 : a.v = b.v := by simpa using q4
    have p5 : a.nm.toList = b.nm.toList := by simpa using q5
    have HP := Lib.hid (And.intro p1 (And.intro p2 (And.intro p3 (And.intro p4 p5))))
    clear p1 p2 p3 p4 p5
    go_enter Tryz.func29, Tryz.ntmps29
    go_wp2
    have hll : a.ar.length = b.ar.length := by
      have h : ((a.ar.length : Nat) : Int) = ((b.ar.length : Nat) : Int) := by simpa using q6
      omega
    have HLL := Lib.hid hll
    clear hll
    clear q1 q2 q3 q4 q5 q6 b0 b1 b2 b3 b4 b5 b6 d0 d1 d2 d3 d4 d5 d6
    go_loopw [5] (fun i wr => ∃ k : Nat, k ≤ a.ar.length ∧ i = .int .i64 (k : Int) ∧ Below (bxW (bxW w a) b).heap.size (bxW (bxW w a) b) wr ∧ Hid ((a.ar.take k).map Xt.ct = (b.ar.take k).map Xt.ct)) (fun i _ => a.ar.length - (intOf i).toNat)
    case atStart => exact ⟨0, by omega, rfl, Below.refl _ _, Lib.hid rfl⟩
    case round =>
      obtain ⟨k, hk, rfl, hbl, hno⟩ := hrel
      have hb0 : Below (bxW w a).heap.size (bxW w a) wr := (bel_box _).trans (hbl.mono (by rw [bxW_size (bxW w a)]; omega))
      obtain ⟨b0, b1, b2, b3, b4, b5, b6⟩ := bxW_cells hb0
      obtain ⟨d0, d1, d2, d3, d4, d5, d6⟩ := bxW_cells (w := bxW w a) (x := b) hbl
      rw [bxW_size] at d0 d1 d2 d3 d4 d5 d6
      have hbw := bxW_below hb0
      by_cases hlt : k < a.ar.length
      · obtain ⟨ad, y, hA, had, hy, hm, ⟨c0, c1, c2, c3, c4, c5⟩, hr⟩ := (HA.out.to hbw).at_ hlt
        have hlt2 : k < b.ar.length := by have := HLL.out; omega
        obtain ⟨ad', z, hA', had', hz, hm', ⟨e0, e1, e2, e3, e4, e5⟩, hr'⟩ := (HB.out.to hbw).at_ (i := k) hlt2
        have H1 := fun h => ct_take hy hz hno.out h
        have H2 := fun h => ct_differ hy hz h
        have KS := IH.out k y hy z
        generalize sameX y z = r at H1 H2 KS
        have c1' := fun dd os => Calls.regrown_of (KS (grow (redrawn wr dd) os) (hr.to (below_regrown wr dd os)) (hr'.to (below_regrown wr dd os)))
        rw [hA] at b5
        rw [hA'] at d5
        clear hA hA' hy hz hm hm' KS hr hr'
        have f5 := cell_regrown b5
        have g5 := cell_regrown d5
        have f6 := cell_regrown c0
        have f7 := cell_regrown c1
        have f8 := cell_regrown c2
        have f9 := cell_regrown c3
        have f10 := cell_regrown c4
        have f11 := cell_regrown c5
        have g6 := cell_regrown e0
        have g7 := cell_regrown e1
        have g8 := cell_regrown e2
        have g9 := cell_regrown e3
        have g10 := cell_regrown e4
        have g11 := cell_regrown e5
        clear b0 b1 b2 b3 b4 d0 d1 d2 d3 d4 c0 c1 c2 c3 c4 c5 e0 e1 e2 e3 e4 e5
        cases r
        · have H := Lib.hid (HN.out fun e => H2 rfl (ct_parts e).2.2.2.2.2.1)
          clear H1 H2 HN HY HP IH hno
          go_wp2
          refine wp_region_quiet_below (by kernel_rfl) (by kernel_rfl) ?_
          repeat (quiet_step (with_reducible exact c1' _ _))
          refine wpQuiet_nil ?_
          intro _ hw'
          obtain ⟨⟨dq, osq⟩, hw''⟩ := hw'
          subst hw''
          go_wp2
          go_ret
          exact ⟨by rw [H.out]; rfl, hbw.trans ((below_regrown wr dq osq).mono hbw.size)⟩
        · have H := Lib.hid (H1 rfl)
          clear H1 H2 HN HY HP IH hno
          go_wp2
          refine wp_region_quiet_below (by kernel_rfl) (by kernel_rfl) ?_
          repeat (quiet_step (with_reducible exact c1' _ _))
          refine wpQuiet_nil ?_
          intro _ hw'
          obtain ⟨⟨dq, osq⟩, hw''⟩ := hw'
          subst hw''
          go_wp2
          go_roundw
          case rel => exact ⟨k + 1, by omega, by go_num, hbl.trans ((below_regrown wr dq osq).mono hbl.size), H⟩
          case measure => simp [intOf]; omega
      · obtain rfl : k = a.ar.length := by omega
        have h1 := hno.out
        rw [List.take_length, HLL.out, List.take_length] at h1
        have h2 := HY.out (ct_of HP.out.1 HP.out.2.1 HP.out.2.2.1 HP.out.2.2.2.1 HP.out.2.2.2.2 h1)
        clear h1 hno HP HN HY IH
        go_wp2
        go_ret
        exact ⟨by rw [h2]; rfl, hbw⟩
end Go.Proofs.YtfogkcccjemloaaGreatDoor
/- Depth of both. -/
namespace Go.Proofs.YtfogkcccjemloaaGreatDoor
set_option linter.unusedVariables false
set_option linter.unusedSimpArgs false
open Go.RowKit
theorem parts_max (x : Xt) : ∃ M : Nat → Nat, x.depth = 1 + M x.ar.length ∧ M 0 = 0 ∧ Hid (∀ (k : Nat) (y : Xt), x.ar[k]? = some y → M (k + 1) = max (M k) y.depth) := by
  refine ⟨fun k => ((x.ar.take k).map Xt.depth).foldl max 0, ?_, rfl, Lib.hid fun k y hy => ?_⟩
  · simp only [List.take_length]
    exact Xt.depth_eq x
  · show ((x.ar.take (k + 1)).map Xt.depth).foldl max 0 = _
    rw [take_succ_of hy, List.map_append, List.foldl_append]
    rfl
theorem foldl_max_le (l : List Nat) (b m : Nat) (hb : b ≤ m) (h : ∀ a ∈ l, a ≤ m) : l.foldl max b ≤ m := by
  induction l generalizing b with
  | nil => exact hb
  | cons a l ih => exact ih _ (by have := h a (by simp); omega) (fun c hc => h c (by simp [hc]))
theorem mem_sum_le (l : List Xt) (a : Xt) (h : a ∈ l) : a.size ≤ (l.map Xt.size).sum := by
  induction l with
  | nil => cases h
  | cons b l ih =>
    rcases List.mem_cons.1 h with rfl | h
    · simp
    · have := ih h; simp; omega
theorem depth_le (x : Xt) : x.depth ≤ x.size := by
  induction x using Xt.ind with
  | h x ih =>
    rw [Xt.depth_eq, Xt.size_eq]
    have : (x.ar.map Xt.depth).foldl max 0 ≤ (x.ar.map Xt.size).sum := foldl_max_le _ _ _ (Nat.zero_le _) fun a ha => by
      obtain ⟨y, hy, rfl⟩ := List.mem_map.1 ha
      exact Nat.le_trans (ih y hy) (mem_sum_le _ _ hy)
    omega
theorem size_kid {x y : Xt} (h : y ∈ x.ar) : y.size < x.size := by
  rw [Xt.size_eq x]
  have := mem_sum_le _ _ h
  omega
theorem depth_pos (x : Xt) : 1 ≤ x.depth := by rw [Xt.depth_eq]; omega
set_option maxHeartbeats 1000000 in
set_option maxRecDepth 20000 in
theorem rdepth_any (x : Xt) : ∀ w, RdX w w.heap.size x → x.size ≤ 100000 → Calls Tryz.prog 17 #[xV x] w (Bel (.int .i64 (x.depth : Nat)) w) := by
  induction x using Xt.ind with
  | h x ih =>
    intro w hX hS
    have h9 := hX.len.1
    unfold maxLen at h9
    have HX := Lib.hid hX
    have IH := Lib.hid ih
    have HK := Lib.hid (fun y (h : y ∈ x.ar) => size_kid h)
    have hdl := depth_le x
    clear hX ih
    obtain ⟨M, hM, hM0, HM⟩ := parts_max x
    rw [hM] at hdl ⊢
    clear hM
    simp only [xV] at IH ⊢
    go_enter Tryz.func17, Tryz.ntmps17
    go_wp2
    go_loopw [3, 4] (fun n i wr => ∃ k : Nat, k ≤ x.ar.length ∧ i = .int .i64 (k : Int) ∧ n = .int .i64 (M k : Int) ∧ Below (bxW w x).heap.size (bxW w x) wr) (fun _ i _ => x.ar.length - (intOf i).toNat)
    case atStart => exact ⟨0, by omega, rfl, by rw [hM0]; rfl, Below.refl _ _⟩
    case round =>
      obtain ⟨k, hk, rfl, rfl, hbl⟩ := hrel
      obtain ⟨b0, b1, b2, b3, b4, b5, b6⟩ := bxW_cells hbl
      have hBW := bxW_below hbl
      by_cases hlt : k < x.ar.length
      · obtain ⟨ad, y, hA, had, hy, hm, ⟨c0, c1, c2, c3, c4, c5⟩, hr⟩ := (HX.out.to hBW).at_ hlt
        rw [hA] at b5
        clear hA
        have hn1 := HM.out k y hy
        have hys := HK.out y hm
        clear hy
        go_wp2_with (go_at_call 17; (with_reducible refine (IH.out y hm _ (hr.to ?_) (by omega)).mono ?_); (focus ((repeat (first | (with_reducible exact Below.refl _ _) | (with_reducible assumption) | (with_reducible exact bel_box _) | (with_reducible refine bel_step ?_ (by with_reducible assumption)) | (with_reducible refine Below.drew ?_) | (with_reducible refine below_drewN ?_ _) | (with_reducible refine bel_alloc ?_ _))); done)); rintro e w1 ⟨rfl, hb1⟩)
        all_goals exact ⟨⟨k + 1, by omega, by congr 1, by congr 1; omega, (by repeat (first | (with_reducible exact Below.refl _ _) | (with_reducible assumption) | (with_reducible exact bel_box _) | (with_reducible refine bel_step ?_ (by with_reducible assumption)) | (with_reducible refine Below.drew ?_) | (with_reducible refine below_drewN ?_ _) | (with_reducible refine bel_alloc ?_ _)))⟩, by simp [intOf]; omega⟩
      · obtain rfl : k = x.ar.length := by omega
        go_wp2
        go_ret
        exact ⟨congrArg (fun z : Int => Ending.returned (.int .i64 z)) (by omega), hBW⟩
set_option maxHeartbeats 1000000 in
set_option maxRecDepth 20000 in
theorem depth_any (x : Xt) : ∀ w, RdX w w.heap.size x → x.size ≤ 100000 → Calls Tryz.prog 16 #[xV x] w (Bel (.int .i64 (x.depth : Nat)) w) := by
  induction x using Xt.ind with
  | h x ih =>
    intro w hX hS
    have h9 := hX.len.1
    unfold maxLen at h9
    have HX := Lib.hid hX
    have IH := Lib.hid ih
    have HK := Lib.hid (fun y (h : y ∈ x.ar) => size_kid h)
    have hdl := depth_le x
    clear hX ih
    obtain ⟨M, hM, hM0, HM⟩ := parts_max x
    rw [hM] at hdl ⊢
    clear hM
    simp only [xV] at IH ⊢
    go_enter Tryz.func16, Tryz.ntmps16
    go_wp2
    go_loopw [3, 9] (fun n i wr => ∃ k : Nat, k ≤ x.ar.length ∧ i = .int .i64 (k : Int) ∧ n = .int .i64 (M k : Int) ∧ Below (bxW w x).heap.size (bxW w x) wr) (fun _ i _ => x.ar.length - (intOf i).toNat)
    case atStart => exact ⟨0, by omega, rfl, by rw [hM0]; rfl, Below.refl _ _⟩
    case round =>
      obtain ⟨k, hk, rfl, rfl, hbl⟩ := hrel
      have hBW := bxW_below hbl
      by_cases hlt : k < x.ar.length
      · obtain ⟨ad, y, hA, had, hy, hm, ⟨c0, c1, c2, c3, c4, c5⟩, hr⟩ := (HX.out.to hBW).at_ hlt
        rw [hA]
        clear hA
        have hn1 := HM.out k y hy
        have hys := HK.out y hm
        clear hy
        go_wp2_with (go_at_call 16; (with_reducible refine (IH.out y hm _ (hr.to ?_) (by omega)).mono ?_); (focus ((repeat (first | (with_reducible exact Below.refl _ _) | (with_reducible assumption) | (with_reducible exact bel_box _) | (with_reducible refine bel_step ?_ (by with_reducible assumption)) | (with_reducible refine Below.drew ?_) | (with_reducible refine below_drewN ?_ _) | (with_reducible refine bel_alloc ?_ _))); done)); rintro e w1 ⟨rfl, hb1⟩)
        all_goals exact ⟨⟨k + 1, by omega, by congr 1, by congr 1; omega, (by repeat (first | (with_reducible exact Below.refl _ _) | (with_reducible assumption) | (with_reducible exact bel_box _) | (with_reducible refine bel_step ?_ (by with_reducible assumption)) | (with_reducible refine Below.drew ?_) | (with_reducible refine below_drewN ?_ _) | (with_reducible refine bel_alloc ?_ _)))⟩, by simp [intOf]; omega⟩
      · obtain rfl : k = x.ar.length := by omega
        go_wp2
        go_ret
        exact ⟨congrArg (fun z : Int => Ending.returned (.int .i64 z)) (by omega), hBW⟩
end Go.Proofs.YtfogkcccjemloaaGreatDoor
/- walk of the program: the iterator over an expression. -/
namespace Go.Proofs.YtfogkcccjemloaaGreatDoor
set_option linter.unusedVariables false
set_option linter.unusedSimpArgs false
open Go.RowKit Go.Shelf
attribute [local go_sem] Oper.semAt_some
theorem room_none {F : Fence} (hd : F.depth = none) (k : Nat) : F.room k := fun d h => by rw [hd] at h; cases h
theorem round_any {F : Fence} (hd : F.depth = none) {m m' : Nat} {P : Program} {l : Nat} {f : FuncId} {tmps : Array Value} {assign body : Code} {w : World} {R : Ending → World → Prop}
    (h : RoundIn F m P l f tmps assign body w R) : RoundIn F m' P l f tmps assign body w R := ⟨h.1, fun c cs _ => h.2 c cs (room_none hd _)⟩
theorem yield_any {F : Fence} (hd : F.depth = none) {m : Nat} (m' : Nat) {P : Program} {l : Nat} {args : Array Value} {W : World} {R : Ending → World → Prop} (h : YieldAt F m P l args W R) : YieldAt F m' P l args W R := by
  obtain ⟨fn, tmps, assign, body, hy, hR⟩ := h
  exact ⟨fn, tmps, assign, body, hy, round_any hd hR⟩
theorem below_grown {W W' : World} (h : Below W.heap.size W W') : W.grownBy W' none := ⟨h.os, h.tape, h.output, h.size, fun k hk _ => h.block k hk⟩
theorem abides_below {β : Type} {B : Nat} {J : β → World → Prop} (h : AbidesFrom B J) {s : β} {W W' : World} (hs : J s W) (hb : Below W.heap.size W W') : J s W' :=
  h s W W' none hs (below_grown hb) (fun r e => by cases e)
set_option maxHeartbeats 400000 in
theorem arguments_any (x : Xt) (w : World) : Calls Tryz.prog 41 #[xV x] w (Bel (.slice x.A x.ar.length x.c) w) := by
  simp only [xV]
  go_enter Tryz.func41, Tryz.ntmps41
  go_wp2
  go_ret
  exact ⟨rfl, (by repeat (first | (with_reducible exact Below.refl _ _) | (with_reducible assumption) | (with_reducible exact bel_box _) | (with_reducible refine bel_step ?_ (by with_reducible assumption)) | (with_reducible refine Below.drew ?_) | (with_reducible refine below_drewN ?_ _) | (with_reducible refine bel_alloc ?_ _)))⟩
/-- what a round leaves: all cells, but those of the blocks in S -/
def KX (S : Nat → Prop) (W W' : World) : Prop := W.heap.size ≤ W'.heap.size ∧ ∀ k o, ¬ S k → W.heap[k]? = some o → o.isCells = true → W'.heap[k]? = some o
theorem KX.refl (S : Nat → Prop) (W : World) : KX S W W := ⟨Nat.le_refl _, fun _ _ _ h _ => h⟩
theorem KX.trans {S : Nat → Prop} {A B C : World} (h : KX S A B) (g : KX S B C) : KX S A C := ⟨Nat.le_trans h.1 g.1, fun k o hs ho hc => g.2 k o hs (h.2 k o hs ho hc) hc⟩
theorem KX.of_below {S : Nat → Prop} {W W' : World} (h : Below W.heap.size W W') : KX S W W' := ⟨h.size, fun k o _ ho _ => (h.block k (Array.getElem?_eq_some_iff.1 ho).1).trans ho⟩
theorem KX.cell {S : Nat → Prop} {W W' : World} (h : KX S W W') {a : Addr} {v : Value} (hs : ¬ S a.block) (hc : W.cell? a = some v) : W'.cell? a = some v := by
  obtain ⟨o, ho, hk⟩ := cells_of_cell hc
  exact (World.cell?_of_block ((h.2 _ o hs ho hk).trans ho.symm)).trans hc
theorem KX.frozen {S : Nat → Prop} {W W' : World} (h : KX S W W') {a : Addr} {v : Value} (hs : ¬ S a.block) (hc : W.cell? a = some v) : W'.frozen? a = W.frozen? a := by
  obtain ⟨o, ho, hk⟩ := cells_of_cell hc
  exact World.frozen?_of_block ((h.2 _ o hs ho hk).trans ho.symm)
theorem KX.put {S : Nat → Prop} (W : World) (l : Nat) (o o' : Obj) (ho : W.heap[l]? = some o) (hc : o.isCells = false) : KX S W (W.putObj l o') := by
  refine ⟨by simp, fun k q _ hq hqc => ?_⟩
  rw [World.putObj_heap_other (fun e => by subst e; rw [ho] at hq; injection hq with hq; subst hq; rw [hc] at hqc; cases hqc)]
  exact hq
theorem RdX.kx {S : Nat → Prop} {W W' : World} {B : Nat} {x : Xt} (h : RdX W B x) (hk : KX S W W') (hS : ∀ k, S k → B ≤ k) : RdX W' B x := by
  induction h with
  | mk x h0 h1 h2 h3 ih =>
    refine .mk x h0 (fun ad i y ha hy => ?_) ih h3
    obtain ⟨ad', e, hb⟩ := h0 (by intro e; rw [e] at hy; simp at hy)
    obtain rfl : ad = ad' := Option.some.inj (ha.symm.trans e)
    have hn : ¬ S (ad.add (i * 6)).block := fun hs => by have := hS _ hs; rw [add_block] at this; omega
    obtain ⟨c0, c1, c2, c3, c4, c5⟩ := h1 ad i y ha hy
    exact ⟨hk.cell hn c0, hk.cell (a := ⟨_, _, none⟩) hn c1, hk.cell (a := ⟨_, _, none⟩) hn c2, hk.cell (a := ⟨_, _, none⟩) hn c3, hk.cell (a := ⟨_, _, none⟩) hn c4, hk.cell (a := ⟨_, _, none⟩) hn c5⟩
theorem bx_box (w : World) (x : Xt) : (bxW w x).cell? ⟨w.heap.size, 0, none⟩ = some (.int .i64 x.k) ∧ (bxW w x).cell? ⟨w.heap.size, 1, none⟩ = some (.int .i64 x.op) ∧ (bxW w x).cell? ⟨w.heap.size, 2, none⟩ = some (.int .i64 x.t) ∧ (bxW w x).cell? ⟨w.heap.size, 3, none⟩ = some (.int .i64 x.v) ∧ (bxW w x).cell? ⟨w.heap.size, 4, none⟩ = some (.string x.nm) ∧ (bxW w x).cell? ⟨w.heap.size, 5, none⟩ = some (.slice x.A x.ar.length x.c) := by
  obtain ⟨b0, b1, b2, b3, b4, b5, _⟩ := bxW_cells (w := w) (x := x) (Below.refl _ _)
  exact ⟨b0, b1, b2, b3, b4, b5⟩
/-- what has come of the arguments, by how many are over -/
theorem parts_list (x : Xt) : ∃ L : Nat → List Xt, x.list = x :: L x.ar.length ∧ L 0 = [] ∧ Hid (∀ (k : Nat) (y : Xt), x.ar[k]? = some y → L (k + 1) = L k ++ y.list ∧ (L k).length + y.size + 1 ≤ x.size ∧ ∃ r, L k ++ y.list ++ r = L x.ar.length) := by
  refine ⟨fun k => ((x.ar.take k).map Xt.list).flatten, ?_, rfl, Lib.hid fun k y hy => ?_⟩
  · simp only [List.take_length]
    exact Xt.list_eq x
  · have e1 : ((x.ar.take (k + 1)).map Xt.list).flatten = ((x.ar.take k).map Xt.list).flatten ++ y.list := by
      rw [take_succ_of hy, List.map_append, List.flatten_append]
      simp
    have e2 : ((x.ar.take k).map Xt.list).flatten ++ y.list ++ ((x.ar.drop (k + 1)).map Xt.list).flatten = ((x.ar.take x.ar.length).map Xt.list).flatten := by
      rw [← e1, ← List.flatten_append, ← List.map_append, List.take_append_drop, List.take_length]
    refine ⟨e1, ?_, _, e2⟩
    have h1 := congrArg List.length e2
    have h2 := list_length x
    rw [Xt.list_eq, List.length_cons] at h2
    rw [List.take_length] at h1
    rw [List.length_append, List.length_append, list_length y] at h1
    simp only
    omega
set_option maxRecDepth 100000 in
set_option maxHeartbeats 4000000 in
theorem walk_each_in (l n₀ B : Nat) (N : Nat) (S : Nat → Prop) (hS : ∀ k, S k → n₀ ≤ k ∧ k < B) (J Jx : List Xt → World → Prop) (hJ : AbidesFrom B J) (P : Xt → Prop)
    (hY : ∀ m pre x W, P x → J pre W → pre.length < N → YieldAt Fence.wide m Tryz.prog l #[xV x] W fun e W' =>
      (e = .returned (.bool true) ∧ J (pre ++ [x]) W' ∧ KX S W W') ∨ (e = .returned (.bool false) ∧ Jx (pre ++ [x]) W')) (x : Xt) :
    ∀ (n : Nat) (pre : List Xt) (W : World), (∀ y ∈ x.list, P y) → RdX W n₀ x → B ≤ W.heap.size → J pre W → pre.length + x.size ≤ N →
      CallsIn Fence.wide n Tryz.prog 63 #[xV x, .func (.func 41) #[] #[], .func (.yield l) #[] #[]] W fun e W' =>
        (e = .returned (.bool true) ∧ J (pre ++ x.list) W' ∧ KX S W W') ∨ (e = .returned (.bool false) ∧ ∃ q, q <+: x.list ∧ Jx (pre ++ q) W') := by
  induction x using Xt.ind with
  | h x ih =>
    intro n pre W hP hX hB hj hN
    have hdd : ∀ k : Nat, (Fence.wide.depth.isSome = true → 1 ≤ k) := fun k h => by cases h
    have h9 := hX.len.1
    unfold maxLen at h9
    have hx1 := Xt.size_pos x
    have hns : ∀ k, B ≤ k → ¬ S k := fun k hk hs => by have := (hS k hs).2; omega
    obtain ⟨b0, b1, b2, b3, b4, b5⟩ := bx_box W x
    -- the round at x itself, with what the walk wants next beside it
    have hy0 := YieldAt.mono (R' := fun e W2 =>
        (e = .returned (.bool true) ∧ J (pre ++ [x]) W2 ∧ KX S W W2 ∧ RdX W2 n₀ x ∧ W.heap.size < W2.heap.size ∧ W2.cell? ⟨W.heap.size, 0, none⟩ = some (.int .i64 x.k) ∧ W2.cell? ⟨W.heap.size, 1, none⟩ = some (.int .i64 x.op) ∧ W2.cell? ⟨W.heap.size, 2, none⟩ = some (.int .i64 x.t) ∧ W2.cell? ⟨W.heap.size, 3, none⟩ = some (.int .i64 x.v) ∧ W2.cell? ⟨W.heap.size, 4, none⟩ = some (.string x.nm) ∧ W2.cell? ⟨W.heap.size, 5, none⟩ = some (.slice x.A x.ar.length x.c)) ∨
        (e = .returned (.bool false) ∧ Jx (pre ++ [x]) W2)) (hY (n - 1) pre x (bxW W x) (hP x (by rw [Xt.list_eq]; simp)) (abides_below hJ hj (bel_box _)) (by omega)) fun e W2 h => h.elim (fun ⟨he, hj2, hk⟩ => .inl ⟨he, hj2, (KX.of_below (bel_box _)).trans hk, (hX.kx (KX.of_below (bel_box _)) (fun k hs => (hS k hs).1)).kx hk (fun k hs => (hS k hs).1), by have := hk.1; rw [bxW_size] at this; omega,
          hk.cell (a := ⟨_, _, none⟩) (hns _ hB) b0, hk.cell (a := ⟨_, _, none⟩) (hns _ hB) b1, hk.cell (a := ⟨_, _, none⟩) (hns _ hB) b2, hk.cell (a := ⟨_, _, none⟩) (hns _ hB) b3, hk.cell (a := ⟨_, _, none⟩) (hns _ hB) b4, hk.cell (a := ⟨_, _, none⟩) (hns _ hB) b5⟩) .inr
    have IH := Lib.hid ih
    have HX := Lib.hid hX
    have HP := Lib.hid hP
    obtain ⟨L, hL, hL0, HL⟩ := parts_list x
    rw [hL] at hP
    have HPL := Lib.hid hP
    clear hP HP
    rw [hL]
    have HA := Lib.hid (fun W => arguments_any x W)
    clear hX ih b0 b1 b2 b3 b4 b5 hY
    simp only [xV] at hy0 HA IH ⊢
    obtain ⟨fn, tmps, assign, body, hy, hR⟩ := hy0
    refine callsIn_of_wp Tryz.func63 rfl trivial ?_ rfl
    simp only [Tryz.ntmps63, List.size_toArray, List.length_cons, List.length_nil, Nat.reduceAdd, Nat.reduceSub, Array.replicate_succ, Array.replicate_zero, List.push_toArray, List.append_toArray, List.nil_append, List.cons_append]
    gi_wp2_with (first
      | ((try refine ⟨hdd _, ?_⟩); refine hR.mono ?_; clear hR; rintro e W2 (⟨rfl, hJ2, hk2, hX2, hz2, d0, d1, d2, d3, d4, d5⟩ | ⟨rfl, hx2⟩))
      | (refine ⟨trivial, hdd _, ?_⟩; gi_at_call 41; refine (callsIn_wide.2 (HA.out _)).mono ?_; rintro e W3 ⟨rfl, hb3⟩))
    · clear HA hy
      have hJ3 := abides_below hJ hJ2 hb3
      have hk3 : KX S W W3 := hk2.trans (KX.of_below hb3)
      clear hX2 hz2 d0 d1 d2 d3 d4 d5 hJ2 hk2 hb3
      gi_loopw [17] (fun i wr => ∃ k : Nat, k ≤ x.ar.length ∧ i = .int .i64 (k : Int) ∧ J (pre ++ x :: L k) wr ∧ KX S W wr) (fun i _ => x.ar.length - (intOf i).toNat)
      case atStart => exact ⟨0, by omega, rfl, by rw [hL0]; exact hJ3, hk3⟩
      case round =>
        obtain ⟨k, hk, rfl, hJk, hkk⟩ := hrel
        by_cases hlt : k < x.ar.length
        · have hXr := HX.out.kx hkk (fun k hs => (hS k hs).1)
          obtain ⟨ad, y, hA, had, hy, hm, ⟨c0, c1, c2, c3, c4, c5⟩, hr⟩ := hXr.at_ hlt
          obtain ⟨e1, e2, r, e3⟩ := HL.out k y hy
          have hcall := (IH.out y hm (n - 1) (pre ++ x :: L k) (bxW wr y) (fun z hz => HPL.out z (List.mem_cons.2 (.inr (by rw [← e3]; simp [hz])))) (hr.kx (KX.of_below (S := S) (bel_box _)) (fun k hs => (hS k hs).1)) (by rw [bxW_size]; have := hkk.1; omega) (abides_below hJ hJk (bel_box _)) (by simp only [List.length_append, List.length_cons]; omega)).mono (R' := fun e W5 =>
            (e = .returned (.bool true) ∧ J (pre ++ x :: L (k + 1)) W5 ∧ KX S W W5) ∨ (e = .returned (.bool false) ∧ ∃ q, q <+: x :: L x.ar.length ∧ Jx (pre ++ q) W5)) (fun e W5 h => h.elim
              (fun ⟨he, hj5, hk5⟩ => .inl ⟨he, by rw [e1]; simpa [List.append_assoc] using hj5, (hkk.trans (KX.of_below (bel_box _))).trans hk5⟩)
              (fun ⟨he, q, ⟨t, ht⟩, hx5⟩ => .inr ⟨he, x :: L k ++ q, ⟨t ++ r, by rw [← e3, ← ht]; simp [List.append_assoc]⟩, by simpa [List.append_assoc] using hx5⟩))
          have HC := Lib.hid hcall
          clear hcall hXr hr e1 e2 e3 hy hJk hkk IH HL HPL
          rw [hA]
          clear hA
          gi_wp2_with (refine ⟨trivial, hdd _, ?_⟩; gi_at_call 63; refine HC.out.mono ?_; clear HC; rintro e W5 (⟨rfl, hJ5, hk5⟩ | ⟨rfl, q, hq, hx5⟩))
          · exact ⟨⟨k + 1, by omega, by congr 1, hJ5, hk5⟩, by simp [intOf]; omega⟩
          · go_ret
            exact .inr ⟨rfl, q, hq, hx5⟩
        · obtain rfl : k = x.ar.length := by omega
          gi_wp2
          go_ret
          exact .inl ⟨rfl, hJk, hkk⟩
    · go_ret
      exact .inr ⟨rfl, [x], ⟨L x.ar.length, rfl⟩, hx2⟩
end Go.Proofs.YtfogkcccjemloaaGreatDoor
/- within of the program, and Size. -/
namespace Go.Proofs.YtfogkcccjemloaaGreatDoor
set_option linter.unusedVariables false
set_option linter.unusedSimpArgs false
open Go.RowKit Go.Shelf
attribute [local go_sem] Oper.semAt_some
theorem KX.set {S : Nat → Prop} {W : World} {a : Addr} (hs : S a.block) (v : Value) : KX S W (W.setCell a v) := by
  refine ⟨by simp [World.setCell], fun k o hk ho _ => ?_⟩
  rw [heap_setCell_other W a k v (fun e => hk (by rw [e]; exact hs))]
  exact ho
theorem KX_t {S : Nat → Prop} : ∀ {A B C : World}, KX S A B → KX S B C → KX S A C := fun h g => h.trans g
theorem KX_b {S : Nat → Prop} {N : Nat} : ∀ (W : World) (l : Nat) (o o' : Obj), N ≤ l → W.heap[l]? = some o → o.isCells = false → o.isWalk = false → KX S W (W.putObj l o') := fun W l o o' _ ho hc _ => KX.put W l o o' ho hc
set_option maxHeartbeats 400000 in
/-- the closure that within hands back: e in a box of six cells, parts in a box -/
theorem within_any (x : Xt) (f : Nat) (w : World) : Calls Tryz.prog 40 #[xV x, .func (.func f) #[] #[]] w (fun e w' => e = .returned (.func (.func 62) #[] #[.pointer (some ⟨w.heap.size, 0, none⟩), .pointer (some ⟨w.heap.size + 1, 0, none⟩)]) ∧ w' = (bxW w x).alloc (.cells #[.func (.func f) #[] #[]] 42)) := by
  simp only [xV]
  go_enter Tryz.func40, Tryz.ntmps40
  go_wp2
  go_ret
  exact ⟨rfl, rfl⟩
set_option maxHeartbeats 1000000 in
set_option maxRecDepth 100000 in
/-- what within hands back yields the expressions in preorder -/
theorem within_stops (n be bp n₀ : Nat) (S : Nat → Prop) (x : Xt) (w : World) (hS : ∀ k, S k → n₀ ≤ k ∧ k < w.heap.size) (hn₀ : n₀ ≤ w.heap.size) (hbe : be < w.heap.size) (hbp : bp < w.heap.size) (hX : RdX w n₀ x)
    (c0 : w.cell? ⟨be, 0, none⟩ = some (.int .i64 x.k)) (c1 : w.cell? ⟨be, 1, none⟩ = some (.int .i64 x.op)) (c2 : w.cell? ⟨be, 2, none⟩ = some (.int .i64 x.t)) (c3 : w.cell? ⟨be, 3, none⟩ = some (.int .i64 x.v)) (c4 : w.cell? ⟨be, 4, none⟩ = some (.string x.nm)) (c5 : w.cell? ⟨be, 5, none⟩ = some (.slice x.A x.ar.length x.c)) (cp : w.cell? ⟨bp, 0, none⟩ = some (.func (.func 41) #[] #[])) :
    SeqStopsK Fence.wide n Tryz.prog 62 #[.pointer (some ⟨be, 0, none⟩), .pointer (some ⟨bp, 0, none⟩)] (fun y : Xt => #[xV y]) (KX S) (fun ys => ys = x.list) (fun pre => pre <+: x.list) x.size w := by
  intro l J Jx W hW hJ _ hY h0
  have hdd : ∀ k : Nat, (Fence.wide.depth.isSome = true → 1 ≤ k) := fun k h => by cases h
  have hWs := hW.size
  have d0 := (hW.cell (p := ⟨be, 0, none⟩) hbe).trans c0
  have d1 := (hW.cell (p := ⟨be, 1, none⟩) hbe).trans c1
  have d2 := (hW.cell (p := ⟨be, 2, none⟩) hbe).trans c2
  have d3 := (hW.cell (p := ⟨be, 3, none⟩) hbe).trans c3
  have d4 := (hW.cell (p := ⟨be, 4, none⟩) hbe).trans c4
  have d5 := (hW.cell (p := ⟨be, 5, none⟩) hbe).trans c5
  have dp := (hW.cell (p := ⟨bp, 0, none⟩) hbp).trans cp
  have hp := walk_each_in l n₀ W.heap.size x.size S (fun k hs => ⟨(hS k hs).1, by have := (hS k hs).2; omega⟩) J Jx hJ (fun _ => True) (fun m pre y W1 _ hj hl => yield_any rfl m (hY pre y W1 hj hl)) x (n - 1) [] W (fun _ _ => trivial) (hX.blw (hW.mono hn₀) (Nat.le_refl _)) (Nat.le_refl _) h0 (by simp)
  simp only [List.nil_append, xV] at hp
  clear hY c0 c1 c2 c3 c4 c5 cp
  simp only [List.append_toArray, List.cons_append, List.nil_append, Array.append_eq_append] at *
  refine callsIn_of_wp Tryz.func62 rfl trivial ?_ rfl
  simp only [Tryz.ntmps62, List.size_toArray, List.length_cons, List.length_nil, Nat.reduceAdd, Nat.reduceSub, Array.replicate_succ, Array.replicate_zero, List.push_toArray, List.append_toArray, List.nil_append, List.cons_append]
  gi_wp2_with (refine ⟨trivial, hdd _, ?_⟩; gi_at_call 63; refine hp.mono ?_; clear hp; rintro e W1 (⟨rfl, hJ1, _⟩ | ⟨rfl, q, hq, hx⟩))
  · go_end0
    exact ⟨⟨_, rfl⟩, .inl ⟨_, rfl, hJ1⟩⟩
  · go_end0
    exact ⟨⟨_, rfl⟩, .inr ⟨q, hq, hx⟩⟩
set_option maxHeartbeats 2000000 in
set_option maxRecDepth 100000 in
theorem size_any (x : Xt) (w : World) (hX : RdX w w.heap.size x) (hs : x.size ≤ 100000) : Calls Tryz.prog 14 #[xV x] w (Bel (.int .i64 (x.size : Nat)) w) := by
  have hdd : ∀ k : Nat, (Fence.wide.depth.isSome = true → 1 ≤ k) := fun k h => by cases h
  have KW := Lib.hid (fun W => within_any x 41 W)
  have HX := Lib.hid hX
  clear hX
  simp only [xV] at KW ⊢
  refine (callsIn_wide (n := 3)).1 ?_
  refine callsIn_of_wp_marks Tryz.func14 rfl trivial ?_ rfl
  simp only [Tryz.ntmps14, List.size_toArray, List.length_cons, List.length_nil, Nat.reduceAdd, Nat.reduceSub, Array.replicate_succ, Array.replicate_zero, List.push_toArray, List.append_toArray, List.nil_append, List.cons_append]
  gi_wp2_with (refine ⟨trivial, ?_⟩; gi_at_call 40; refine (callsIn_wide.2 (KW.out _)).mono ?_; rintro e W1 ⟨rfl, rfl⟩)
  obtain ⟨W0, hW0⟩ : ∃ W0, ((bxW ((bxW w x).alloc (.cells #[.int .i64 0] 3)) x).alloc (.cells #[.func (.func 41) #[] #[]] 42)) = W0 := ⟨_, rfl⟩
  have hV : Below (bxW ((bxW w x).alloc (.cells #[.int .i64 0] 3)) x).heap.size (bxW ((bxW w x).alloc (.cells #[.int .i64 0] 3)) x) W0 := by rw [← hW0]; exact bel_box _
  obtain ⟨b0, b1, b2, b3, b4, b5, _⟩ := bxW_cells hV
  have hz : W0.heap.size = w.heap.size + 4 := by rw [← hW0]; simp only [World.size_alloc]
  have hz1 : ((bxW w x).alloc (.cells #[.int .i64 0] 3)).heap.size = w.heap.size + 2 := by simp only [World.size_alloc]
  have hB1 : Below ((bxW w x).alloc (.cells #[.int .i64 0] 3)).heap.size ((bxW w x).alloc (.cells #[.int .i64 0] 3)) W0 := bxW_below hV
  have hB0 : Below w.heap.size w W0 := (bxW_below (bel_box _)).trans (hB1.mono (by rw [hz1]; omega))
  have hc : W0.cell? ⟨w.heap.size + 1, 0, none⟩ = some (.int .i64 0) := (hB1.cell (p := ⟨w.heap.size + 1, 0, none⟩) (by rw [hz1]; simp)).trans (by simp [go_sem])
  have hf : W0.frozen? ⟨w.heap.size + 1, 0, none⟩ = false := (hB1.frozen (p := ⟨w.heap.size + 1, 0, none⟩) (by rw [hz1]; simp)).trans (by simp [go_sem])
  have cp : W0.cell? ⟨w.heap.size + 3, 0, none⟩ = some (.func (.func 41) #[] #[]) := by rw [← hW0]; simp [go_sem]
  rw [hz1] at b0 b1 b2 b3 b4 b5
  have hst := within_stops (3 - 1) (w.heap.size + 2) (w.heap.size + 3) w.heap.size (fun k => k = w.heap.size + 1) x W0 (fun k hk => by subst hk; omega) (by omega) (by omega) (by omega) (HX.out.blw hB0 (Nat.le_refl _)) b0 b1 b2 b3 b4 b5 cp
  rw [show ((bxW ((w.alloc (Obj.cells #[.int .i64 x.k, .int .i64 x.op, .int .i64 x.t, .int .i64 x.v, .string x.nm, .slice x.A x.ar.length x.c] 24)).alloc (.cells #[.int .i64 0] 3)) x).alloc (.cells #[.func (.func 41) #[] #[]] 42)) = W0 from hW0]
  clear hW0 hV hB1 b0 b1 b2 b3 b4 b5 cp hz1 KW HX
  have hll := list_length x
  refine wpIn_rangeFunc_ownF rfl (by decide) (gf := 62) (lb := #[.pointer (some ⟨w.heap.size + 2, 0, none⟩), .pointer (some ⟨w.heap.size + 3, 0, none⟩)]) rfl trivial (enters_of Tryz.func62 (by kernel_rfl) rfl)
    hst KX_t KX_b (Below.refl _ _) (fun _ => rfl)
    (fun pre W => (W.cell? ⟨w.heap.size + 1, 0, none⟩ = some (.int .i64 (pre.length : Int)) ∧ W.frozen? ⟨w.heap.size + 1, 0, none⟩ = false) ∧ Below w.heap.size w W)
    (fun _ _ _ => False)
    (OwnFrom.and (Own.from (fun s A B row hs hg hr => ⟨cell_kept hs.1 hg hr, (frozen_kept hs.1 hg hr).trans hs.2⟩) _) (ownFrom_below (Nat.le_refl _) (by omega)))
    (fun _ _ _ _ _ hs _ _ => hs)
    ⟨⟨hc, hf⟩, hB0⟩
    (fun y => { tmps := #[.agg #[.int .i64 x.k, .int .i64 x.op, .int .i64 x.t, .int .i64 x.v, .string x.nm, .slice x.A x.ar.length x.c], .pointer (some ⟨w.heap.size, 0, none⟩), .int .i64 0, .pointer (some ⟨w.heap.size + 1, 0, none⟩), .agg #[.int .i64 x.k, .int .i64 x.op, .int .i64 x.t, .int .i64 x.v, .string x.nm, .slice x.A x.ar.length x.c], .func (.func 62) #[] #[.pointer (some ⟨w.heap.size + 2, 0, none⟩), .pointer (some ⟨w.heap.size + 3, 0, none⟩)], xV y, undef, undef, undef], defers := [] }) ?assign ?body ?done ?stop
  case assign =>
    intro l y W K hK
    gi_wp2
    simpa using hK
  case body =>
    rintro l pre y W ⟨⟨hc, hf⟩, hB⟩ hlt
    gi_wp2
    exact ⟨KeepsOthers.setCell _ _ _, KX.set (S := fun k => k = w.heap.size + 1) (a := ⟨w.heap.size + 1, 0, none⟩) rfl _, ⟨by rw [List.length_append, List.length_singleton]; exact World.cell?_setCell_same' _ _ _ (by rw [hc]; rfl), by rw [World.frozen?_setCell]; exact hf⟩, hB.setCell (p := ⟨w.heap.size + 1, 0, none⟩) (by simp) _⟩
  case done =>
    rintro D ys W hD rfl ⟨⟨hc, _⟩, hB⟩ hK
    rw [hll] at hc
    gi_wp2
    refine ⟨by simp, .inl ⟨_, _, rfl, run_takeDeferred hK, ?_⟩⟩
    exact ⟨_, results_tmp rfl _ _ _, rfl, hB.trans (belowK_b (w := w) (Nat.le_refl _) W D _ _ (by omega) hK rfl rfl)⟩
  case stop =>
    rintro D c pre W _ _ h _
    exact h.elim
end Go.Proofs.YtfogkcccjemloaaGreatDoor
/- Count and Stateless of the program. -/
namespace Go.Proofs.YtfogkcccjemloaaGreatDoor
set_option linter.unusedVariables false
set_option linter.unusedSimpArgs false
open Go.RowKit Go.Shelf
attribute [local go_sem] Oper.semAt_some
/-- the world that within leaves -/
abbrev inW (w : World) (x : Xt) (f : Nat) : World := (bxW w x).alloc (.cells #[.func (.func f) #[] #[]] 42)
theorem inW_size (w : World) (x : Xt) (f : Nat) : (inW w x f).heap.size = w.heap.size + 2 := by simp only [World.size_alloc]
theorem inW_below (w : World) (x : Xt) (f : Nat) : Below w.heap.size w (inW w x f) := bxW_below (bel_box _)
theorem within_at (n n₀ : Nat) (S : Nat → Prop) (x : Xt) (w : World) (hS : ∀ k, S k → n₀ ≤ k ∧ k < w.heap.size) (hn₀ : n₀ ≤ w.heap.size) (hX : RdX w n₀ x) :
    SeqStopsK Fence.wide n Tryz.prog 62 #[.pointer (some ⟨w.heap.size, 0, none⟩), .pointer (some ⟨w.heap.size + 1, 0, none⟩)] (fun y : Xt => #[xV y]) (KX S) (fun ys => ys = x.list) (fun pre => pre <+: x.list) x.size (inW w x 41) := by
  obtain ⟨b0, b1, b2, b3, b4, b5, _⟩ := bxW_cells (w := w) (x := x) (W := inW w x 41) (bel_box _)
  exact within_stops n w.heap.size (w.heap.size + 1) n₀ S x _ (fun k hs => ⟨(hS k hs).1, by rw [inW_size]; have := (hS k hs).2; omega⟩) (by rw [inW_size]; omega) (by rw [inW_size]; omega) (by rw [inW_size]; omega) (hX.blw ((inW_below w x _).mono hn₀) (Nat.le_refl _)) b0 b1 b2 b3 b4 b5 (by simp [go_sem])
theorem inW_old {w : World} {x : Xt} {f : Nat} {b : Nat} {i : Nat} (h : b < w.heap.size) : (inW w x f).cell? ⟨b, i, none⟩ = w.cell? ⟨b, i, none⟩ ∧ (inW w x f).frozen? ⟨b, i, none⟩ = w.frozen? ⟨b, i, none⟩ :=
  ⟨(inW_below w x f).cell (p := ⟨b, i, none⟩) h, (inW_below w x f).frozen (p := ⟨b, i, none⟩) h⟩
theorem fold1 (t : Array Value) (p : Nat) (v : Value) : (#[p].zip #[v]).foldl (fun t (x : Nat × Value) => match x with | (p, v) => t.setIfInBounds p v) t = t.setIfInBounds p v := by simp
theorem cell_al {W : World} {a : Addr} {v : Value} (o : Obj) (h : W.cell? a = some v) : (W.alloc o).cell? a = some v := cell_kept h (World.grownBy_alloc W o none) (fun r e => by cases e)
theorem frozen_al {W : World} {a : Addr} {v : Value} (o : Obj) (h : W.cell? a = some v) (hf : W.frozen? a = false) : (W.alloc o).frozen? a = false := (frozen_kept h (World.grownBy_alloc W o none) (fun r e => by cases e)).trans hf
set_option maxHeartbeats 2000000 in
set_option maxRecDepth 100000 in
theorem count_any (x : Xt) (kd : Int) (w : World) (hX : RdX w w.heap.size x) (hs : x.size ≤ 100000) : Calls Tryz.prog 18 #[xV x, .int .i64 kd] w (Bel (.int .i64 ((x.list.countP fun y => y.k == kd) : Nat)) w) := by
  have hdd : ∀ k : Nat, (Fence.wide.depth.isSome = true → 1 ≤ k) := fun k h => by cases h
  have KW := Lib.hid (fun W => within_any x 41 W)
  have HX := Lib.hid hX
  clear hX
  simp only [xV] at KW ⊢
  refine (callsIn_wide (n := 3)).1 ?_
  refine callsIn_of_wp_marks Tryz.func18 rfl trivial ?_ rfl
  simp only [Tryz.ntmps18, List.size_toArray, List.length_cons, List.length_nil, Nat.reduceAdd, Nat.reduceSub, Array.replicate_succ, Array.replicate_zero, List.push_toArray, List.append_toArray, List.nil_append, List.cons_append]
  gi_wp2_with (refine ⟨trivial, ?_⟩; gi_at_call 40; refine (callsIn_wide.2 (KW.out _)).mono ?_; rintro e W1 ⟨rfl, rfl⟩)
  obtain ⟨Wc, hWc⟩ : ∃ Wc, (((bxW w x).alloc (.cells #[.int .i64 kd] 3)).alloc (.cells #[.int .i64 0] 3)) = Wc := ⟨_, rfl⟩
  have hz : Wc.heap.size = w.heap.size + 3 := by rw [← hWc]; simp only [World.size_alloc]
  have hBc : Below w.heap.size w Wc := by rw [← hWc]; exact bel_alloc (bel_alloc (bel_box _) _) _
  have g1 : Wc.cell? ⟨w.heap.size + 1, 0, none⟩ = some (.int .i64 kd) := by rw [← hWc]; simp [go_sem]
  have g2 : Wc.cell? ⟨w.heap.size + 2, 0, none⟩ = some (.int .i64 0) := by rw [← hWc]; simp [go_sem]
  have g3 : Wc.frozen? ⟨w.heap.size + 2, 0, none⟩ = false := by rw [← hWc]; simp [go_sem]
  have hst := within_at (3 - 1) w.heap.size (fun k => k = w.heap.size + 2) x Wc (fun k hk => by subst hk; omega) (by omega) (HX.out.blw hBc (Nat.le_refl _))
  obtain ⟨W0, hW0⟩ : ∃ W0, inW Wc x 41 = W0 := ⟨_, rfl⟩
  have hz0 : W0.heap.size = w.heap.size + 5 := by rw [← hW0, inW_size]; omega
  have hB0 : Below w.heap.size w W0 := by rw [← hW0]; exact hBc.trans ((inW_below Wc x _).mono (by omega))
  have f1 : W0.cell? ⟨w.heap.size + 1, 0, none⟩ = some (.int .i64 kd) := by rw [← hW0]; exact (inW_old (by omega)).1.trans g1
  have f2 : W0.cell? ⟨w.heap.size + 2, 0, none⟩ = some (.int .i64 0) := by rw [← hW0]; exact (inW_old (by omega)).1.trans g2
  have f3 : W0.frozen? ⟨w.heap.size + 2, 0, none⟩ = false := by rw [← hW0]; exact (inW_old (by omega)).2.trans g3
  rw [hz, hW0] at hst
  rw [show (bxW (((w.alloc (Obj.cells #[.int .i64 x.k, .int .i64 x.op, .int .i64 x.t, .int .i64 x.v, .string x.nm, .slice x.A x.ar.length x.c] 24)).alloc (.cells #[.int .i64 kd] 3)).alloc (.cells #[.int .i64 0] 3)) x).alloc (.cells #[.func (.func 41) #[] #[]] 42) = W0 by rw [← hW0, ← hWc]]
  clear hW0 hWc g1 g2 g3 KW HX
  have hll := list_length x
  refine wpIn_rangeFunc_ownH rfl (by decide) (gf := 62) (lb := #[.pointer (some ⟨w.heap.size + 3, 0, none⟩), .pointer (some ⟨w.heap.size + 3 + 1, 0, none⟩)]) rfl trivial (enters_of Tryz.func62 (by kernel_rfl) rfl)
    hst KX_t KX_b (Below.refl _ _) (fun _ => rfl)
    (fun pre W => (W.cell? ⟨w.heap.size + 1, 0, none⟩ = some (.int .i64 kd) ∧ W.cell? ⟨w.heap.size + 2, 0, none⟩ = some (.int .i64 ((pre.countP fun y => y.k == kd) : Nat)) ∧ W.frozen? ⟨w.heap.size + 2, 0, none⟩ = false) ∧ Below w.heap.size w W)
    (fun _ _ _ => False)
    (OwnFrom.and (Own.from (fun s A B row hs hg hr => ⟨cell_kept hs.1 hg hr, cell_kept hs.2.1 hg hr, (frozen_kept hs.2.1 hg hr).trans hs.2.2⟩) _) (ownFrom_below (Nat.le_refl _) (by omega)))
    (fun _ _ _ _ _ hs _ _ => hs)
    ⟨⟨f1, f2, f3⟩, hB0⟩
    (fun y a' W => ∃ Bx, (w.heap.size + 3 ≤ Bx ∧ W.cell? ⟨Bx, 0, none⟩ = some (.int .i64 y.k)) ∧ a' = { tmps := #[.agg #[.int .i64 x.k, .int .i64 x.op, .int .i64 x.t, .int .i64 x.v, .string x.nm, .slice x.A x.ar.length x.c], .int .i64 kd, .pointer (some ⟨w.heap.size, 0, none⟩), .pointer (some ⟨w.heap.size + 1, 0, none⟩), .int .i64 0, .pointer (some ⟨w.heap.size + 1 + 1, 0, none⟩), .pointer (some ⟨Bx, 0, none⟩), .agg #[.int .i64 x.k, .int .i64 x.op, .int .i64 x.t, .int .i64 x.v, .string x.nm, .slice x.A x.ar.length x.c], .func (.func 62) #[] #[.pointer (some ⟨w.heap.size + 3, 0, none⟩), .pointer (some ⟨w.heap.size + 3 + 1, 0, none⟩)], xV y, undef, undef, undef, undef, undef, undef, undef], defers := [] })
    (fun y a' s A B row hs hg hr => by
      obtain ⟨Bx, ⟨h1, h2⟩, h3⟩ := hs
      exact ⟨Bx, ⟨h1, cell_kept h2 hg (fun r e => (hr r e).2)⟩, h3⟩) ?assign ?body ?done ?stop
  case assign =>
    rintro l pre y W K ⟨⟨i1, i2, i3⟩, hB⟩ hK
    rw [fold1]
    simp only [xV] at hK ⊢
    gi_wp2
    have hb := bx_box W y
    exact hK _ _ ((KeepsOthers.alloc _ _).from _) (KX.of_below (bel_box _)) ⟨⟨cell_al _ i1, cell_al _ i2, frozen_al _ i2 i3⟩, bel_alloc hB _⟩ ⟨W.heap.size, ⟨by have := World.block_lt_of_cell? W _ i2; simp only at this; omega, hb.1⟩, rfl⟩
  case body =>
    rintro l pre y a' W hl ⟨r, hr⟩ ⟨⟨i1, i2, i3⟩, hB⟩ ⟨Bx, ⟨hBx, bx⟩, rfl⟩ hlt
    have hcl : (pre.countP fun y => y.k == kd) ≤ pre.length := List.countP_le_length
    have hcs : ((pre ++ [y]).countP fun y => y.k == kd) = (pre.countP fun y => y.k == kd) + (if (y.k == kd) = true then 1 else 0) := by rw [List.countP_append, List.countP_cons, List.countP_nil, Nat.zero_add]
    cases hq : (y.k == kd)
    · rw [hq, if_neg (by simp)] at hcs
      gi_wp2
      exact ⟨(KeepsOthers.refl _).from _, KX.refl _ _, ⟨i1, by rw [hcs]; exact i2, i3⟩, hB⟩
    · rw [hq, if_pos rfl] at hcs
      generalize (pre.countP fun y => y.k == kd) = c at *
      gi_wp2
      exact ⟨(KeepsOthers.setCell _ _ _).from _, KX.set (S := fun k => k = w.heap.size + 2) (a := ⟨w.heap.size + 2, 0, none⟩) rfl _, ⟨(World.cell?_setCell_other _ _ _ _ (by simp)).trans i1, by rw [hcs]; exact World.cell?_setCell_same' _ _ _ (by rw [i2]; rfl), by rw [World.frozen?_setCell]; exact i3⟩, hB.setCell (p := ⟨w.heap.size + 2, 0, none⟩) (by simp) _⟩
  case done =>
    rintro D ys W hD rfl ⟨⟨_, hc, _⟩, hB⟩ hK
    gi_wp2
    refine ⟨by simp, .inl ⟨_, _, rfl, run_takeDeferred hK, ?_⟩⟩
    exact ⟨_, results_tmp rfl _ _ _, rfl, hB.trans (belowK_b (w := w) (Nat.le_refl _) W D _ _ (by omega) hK rfl rfl)⟩
  case stop =>
    rintro D c pre W _ _ h _
    exact h.elim
end Go.Proofs.YtfogkcccjemloaaGreatDoor
/- The list of expressions, of the reference. -/
namespace Go.Proofs.YtfogkcccjemloaaGreatDoor
set_option linter.unusedVariables false
set_option linter.unusedSimpArgs false
open Go.RowKit
def xCs (x : Xt) : List Value := [.int .i64 x.k, .int .i64 x.op, .int .i64 x.t, .int .i64 x.v, .string x.nm, .slice x.A x.ar.length x.c]
def xsC (l : List Xt) : List Value := l.flatMap xCs
theorem xsC_length (l : List Xt) : (xsC l).length = l.length * 6 := by
  induction l with
  | nil => rfl
  | cons a r ih => simp [xsC, xCs] at ih ⊢; omega
theorem xsC_app (l r : List Xt) : xsC (l ++ r) = xsC l ++ xsC r := by simp [xsC]
theorem xpInfo : (Tryz.prog.info? 24).map (fun i => (i.zero, i.size, i.bytes)) = some (some (.agg #[.int .i64 0, .int .i64 0, .int .i64 0, .int .i64 0, .string ⟨#[]⟩, .slice none 0 0]), 6, 72) := by kernel_rfl
theorem own_keep6 {w W : World} {base n size : Nat} {e : TypeId} {v : Value} {xs : List Value} (h : w.ownsRow base e size v n xs) (hb : Below w.heap.size w W) : W.ownsRow base e size v n xs := by
  refine ⟨h.1, h.2.imp id fun ⟨g, cap, cur, e1, h1, h2, r⟩ => ⟨g, cap, cur, e1, h1, ?_, r⟩⟩
  rw [hb.block g (Array.getElem?_eq_some_iff.1 h2).1]
  exact h2
theorem own_form6 {w : World} {base n size : Nat} {e : TypeId} {v : Value} {xs : List Value} (h : w.ownsRow base e size v n xs) : ∃ A c, v = .slice A n c := by
  rcases h.2 with ⟨rfl, rfl⟩ | ⟨g, cap, cur, rfl, _⟩
  · exact ⟨_, _, rfl⟩
  · exact ⟨_, _, rfl⟩
theorem x_one (x : Xt) : ∀ u ∈ xCs x, u.oneCell' = true := by
  intro u hu
  simp [xCs] at hu
  rcases hu with rfl | rfl | rfl | rfl | rfl | rfl <;> rfl
theorem row6 (w : World) (o : Obj) (x : Xt) (t : TypeId) : ∀ j u, (xCs x)[j]? = some u → ((w.alloc o).alloc (.cells #[.int .i64 x.k, .int .i64 x.op, .int .i64 x.t, .int .i64 x.v, .string x.nm, .slice x.A x.ar.length x.c] t)).cell? ((⟨w.heap.size + 1, 0, none⟩ : Addr).add j) = some u := by
  intro j u hu
  have e : w.heap.size + 1 = (w.alloc o).heap.size := (World.size_alloc _ _).symm
  rw [e]
  have hz : ∀ k : Nat, ((w.alloc o).alloc (.cells #[.int .i64 x.k, .int .i64 x.op, .int .i64 x.t, .int .i64 x.v, .string x.nm, .slice x.A x.ar.length x.c] t)).cell? ((⟨(w.alloc o).heap.size, 0, none⟩ : Addr).add k) = (xCs x)[k]? := by
    intro k
    rcases k with _ | _ | _ | _ | _ | _ | k <;> simp [go_sem, Addr.add, xCs]
  rw [hz]; exact hu
/-- the row l behind list, from the row v -/
def LsR (w : World) (B : Nat) (v : Value) (n : Nat) (xs : List Value) (w' : World) (v' : Value) : Prop := w'.ownsRow B 24 6 v' n xs ∧ w.grownBy w' v.ownBlock ∧ (v'.ownBlock = v.ownBlock ∨ ∃ j, v'.ownBlock = some j ∧ w.heap.size ≤ j)
/-- the row l while list is under way -/
def LsI (w : World) (x : Xt) (B : Nat) (ob : Option Nat) (n : Nat) (xs : List Value) (v : Value) (wr : World) : Prop := wr.ownsRow B 24 6 v n xs ∧ (bxW w x).grownBy wr ob ∧ (v.ownBlock = ob ∨ ∃ j, v.ownBlock = some j ∧ (bxW w x).heap.size ≤ j)
theorem LsI.open_ {w wr : World} {x : Xt} {B n : Nat} {ob : Option Nat} {xs : List Value} {v : Value} (h : LsI w x B ob n xs v wr) (hB : B ≤ w.heap.size) (hl : ∀ j, ob = some j → B ≤ j ∧ j < w.heap.size) :
    Below B w wr ∧ (wr.cell? ⟨w.heap.size, 0, none⟩ = some (.int .i64 x.k) ∧ wr.cell? ⟨w.heap.size, 1, none⟩ = some (.int .i64 x.op) ∧ wr.cell? ⟨w.heap.size, 2, none⟩ = some (.int .i64 x.t) ∧ wr.cell? ⟨w.heap.size, 3, none⟩ = some (.int .i64 x.v) ∧ wr.cell? ⟨w.heap.size, 4, none⟩ = some (.string x.nm) ∧ wr.cell? ⟨w.heap.size, 5, none⟩ = some (.slice x.A x.ar.length x.c)) ∧ w.heap.size < wr.heap.size := by
  obtain ⟨_, hg, _⟩ := h
  have hz := hg.size
  rw [bxW_size] at hz
  have hne : some w.heap.size ≠ ob := fun e => by have := (hl _ e.symm).2; omega
  refine ⟨Below.grown ((bel_box _).mono hB) hg (by rw [bxW_size]; omega) (fun j hj => (hl j hj).1), ⟨?_, ?_, ?_, ?_, ?_, ?_⟩, by omega⟩ <;> exact hg.cell (by simp [go_sem]) hne
theorem LsI.next {w wr w1 : World} {x : Xt} {B n m : Nat} {ob : Option Nat} {xs ys : List Value} {v v' : Value} (h : LsI w x B ob n xs v wr) (k : LsR wr B v m ys w1 v') : LsI w x B ob m ys v' w1 := by
  obtain ⟨_, hg, ha⟩ := h
  obtain ⟨k1, k2, k3⟩ := k
  have hz := hg.size
  refine ⟨k1, hg.andThen k2 fun j hj => ?_, ?_⟩
  · rcases ha with ha | ⟨j', e, hj'⟩
    · exact .inr (ha.symm.trans hj)
    · rw [e] at hj
      exact .inl (by have := Option.some.inj hj; omega)
  · rcases k3 with k3 | ⟨j, e, hj⟩
    · rw [k3]; exact ha
    · exact .inr ⟨j, e, by omega⟩
theorem LsI.first {w W w3 : World} {x : Xt} {B m : Nat} {ob : Option Nat} {ys : List Value} {v' : Value} (hW : Below (bxW w x).heap.size (bxW w x) W) (h1 : w3.ownsRow B 24 6 v' m ys) (h2 : W.grownBy w3 ob) (h3 : v'.ownBlock = ob ∨ v'.ownBlock = some W.heap.size) : LsI w x B ob m ys v' w3 := by
  refine ⟨h1, ?_, h3.imp id fun e => ⟨_, e, hW.size⟩⟩
  exact ((below_grown hW).but ob).andThen h2 fun j hj => .inr hj
theorem LsI.last {w wr : World} {x : Xt} {B n : Nat} {v0 : Value} {xs : List Value} {v : Value} (h : LsI w x B v0.ownBlock n xs v wr) : LsR w B v0 n xs wr v := by
  obtain ⟨h1, h2, h3⟩ := h
  refine ⟨h1, (World.grownBy_alloc w _ _).trans h2, h3.imp id fun ⟨j, e, hj⟩ => ⟨j, e, by rw [bxW_size] at hj; omega⟩⟩
set_option maxHeartbeats 1000000 in
set_option maxRecDepth 20000 in
theorem rlist_any (x : Xt) : ∀ w B v n xs, B ≤ w.heap.size → RdX w B x → w.ownsRow B 24 6 v n xs → n + x.size ≤ 100000 → Calls Tryz.prog 56 #[xV x, v] w (fun e w' => ∃ v', e = .returned v' ∧ LsR w B v (n + x.size) (xs ++ xsC x.list) w' v') := by
  obtain ⟨i0, hi, iz, is, ib⟩ := info_parts xpInfo
  induction x using Xt.ind with
  | h x ih =>
    intro w B v n xs hB hX hown hS
    obtain ⟨V, cv, rfl⟩ := own_form6 hown
    have h9 := hX.len.1
    unfold maxLen at h9
    have HX := Lib.hid hX
    have IH := Lib.hid ih
    have HO := Lib.hid hown
    clear hX ih hown
    obtain ⟨F, hF, hF0, hFl, HF, HFl⟩ := parts_sum x
    rw [hF] at hS ⊢
    simp only [xV] at IH ⊢
    go_enter Tryz.func56, Tryz.ntmps56
    go_wp2_with (at_builtin; (refine wpList_append_own_at _ rfl _ _ 22 rfl B 24 i0 (.agg #[.int .i64 0, .int .i64 0, .int .i64 0, .int .i64 0, .string ⟨#[]⟩, .slice none 0 0]) 6 72 Tryz.underlying22 hi iz is ib rfl (by decide) _ n xs rfl (own_keep6 HO.out ?_) ⟨w.heap.size + 1, 0, none⟩ 1 1 (xCs x) rfl rfl (row6 _ _ _ _) (x_one x) (by unfold maxLen; omega) (by omega) ?_ ?_; (focus ((repeat (first | (with_reducible exact Below.refl _ _) | (with_reducible assumption) | (with_reducible exact bel_box _) | (with_reducible refine bel_step ?_ (by with_reducible assumption)) | (with_reducible refine Below.drew ?_) | (with_reducible refine below_drewN ?_ _) | (with_reducible refine bel_alloc ?_ _))); done)); (focus (simp; omega)); intro v3 w3 hown3 hgrow3 _ hat3; have HI := LsI.first (w := w) (x := x) (by repeat (first | (with_reducible exact Below.refl _ _) | (with_reducible assumption) | (with_reducible exact bel_box _) | (with_reducible refine bel_step ?_ (by with_reducible assumption)) | (with_reducible refine Below.drew ?_) | (with_reducible refine below_drewN ?_ _) | (with_reducible refine bel_alloc ?_ _))) hown3 (ob := (Value.slice V n cv).ownBlock) hgrow3 hat3; clear hown3 hgrow3 hat3))
    have hlt := Lib.hid (fun j (h : (Value.slice V n cv).ownBlock = some j) => HO.out.lt j h)
    obtain ⟨v0, hv0⟩ : ∃ v0, Value.slice V n cv = v0 := ⟨_, rfl⟩
    rw [hv0] at HI hlt
    go_loopw [1, 5] (fun v i wr => ∃ k : Nat, k ≤ x.ar.length ∧ i = .int .i64 (k : Int) ∧ LsI w x B v0.ownBlock (n + 1 + F k) (xs ++ xsC (x :: ((x.ar.take k).map Xt.list).flatten)) v wr) (fun _ i _ => x.ar.length - (intOf i).toNat)
    case atStart => exact ⟨0, by omega, rfl, by rw [hF0]; simpa [xsC] using HI⟩
    case round =>
      obtain ⟨k, hk, rfl, hI⟩ := hrel
      obtain ⟨hBB, ⟨b0, b1, b2, b3, b4, b5⟩, b6⟩ := hI.open_ hB hlt.out
      by_cases hlk : k < x.ar.length
      · obtain ⟨ad, y, hA, had, hy, hm, ⟨c0, c1, c2, c3, c4, c5⟩, hr⟩ := (HX.out.blw hBB (Nat.le_refl _)).at_ hlk
        rw [hA] at b5
        clear hA
        have hn1 := HF.out k y hy
        have hn2 := HFl.out (k + 1)
        have HT : Hid ((x.ar.take (k + 1)).map Xt.list = (x.ar.take k).map Xt.list ++ [y.list]) := Lib.hid (by rw [take_succ_of hy, List.map_append]; rfl)
        have HII := Lib.hid hI
        have HIo := Lib.hid hI.1
        clear hy hI HI hv0
        go_wp2_with (go_at_call 56; (with_reducible refine (IH.out y hm _ B _ _ _ (by omega) hr HIo.out (by omega)).mono ?_); rintro e w1 ⟨v', rfl, hl⟩)
        have hJ := HII.out.next hl
        refine ⟨⟨k + 1, by omega, by congr 1, ?_⟩, by simp [intOf]; omega⟩
        rw [HT.out, show n + 1 + F (k + 1) = n + 1 + F k + y.size by omega]
        rwa [List.append_assoc, ← xsC_app, List.cons_append, show (List.map Xt.list (List.take k x.ar)).flatten ++ y.list = (List.map Xt.list (List.take k x.ar) ++ [y.list]).flatten by simp] at hJ
      · obtain rfl : k = x.ar.length := by omega
        go_wp2
        go_ret
        refine ⟨_, rfl, ?_⟩
        have hJ := hI.last
        rw [List.take_length, ← Xt.list_eq] at hJ
        rwa [hv0, show n + (1 + F x.ar.length) = n + 1 + F x.ar.length by omega]
end Go.Proofs.YtfogkcccjemloaaGreatDoor
/- Stateless of the program. -/
namespace Go.Proofs.YtfogkcccjemloaaGreatDoor
set_option linter.unusedVariables false
set_option linter.unusedSimpArgs false
open Go.RowKit Go.Shelf
attribute [local go_sem] Oper.semAt_some
/-- the kinds that have a state -/
def stK (n : Int) : Bool := n == 5 || n == 6 || n == 7 || n == 10 || n == 11
set_option maxHeartbeats 2000000 in
set_option maxRecDepth 100000 in
theorem stateless_any (x : Xt) (w : World) (hX : RdX w w.heap.size x) (hs : x.size ≤ 100000) : Calls Tryz.prog 20 #[xV x] w (Bel (.bool (!x.list.any fun y => stK y.k)) w) := by
  have hdd : ∀ k : Nat, (Fence.wide.depth.isSome = true → 1 ≤ k) := fun k h => by cases h
  have KW := Lib.hid (fun W => within_any x 41 W)
  have HX := Lib.hid hX
  clear hX
  simp only [xV] at KW ⊢
  refine (callsIn_wide (n := 3)).1 ?_
  refine callsIn_of_wp_marks Tryz.func20 rfl trivial ?_ rfl
  simp only [Tryz.ntmps20, List.size_toArray, List.length_cons, List.length_nil, Nat.reduceAdd, Nat.reduceSub, Array.replicate_succ, Array.replicate_zero, List.push_toArray, List.append_toArray, List.nil_append, List.cons_append]
  gi_wp2_with (refine ⟨trivial, ?_⟩; gi_at_call 40; refine (callsIn_wide.2 (KW.out _)).mono ?_; rintro e W1 ⟨rfl, rfl⟩)
  obtain ⟨Wc, hWc⟩ : ∃ Wc, ((bxW w x).alloc (.cells #[.bool false] 4)) = Wc := ⟨_, rfl⟩
  have hz : Wc.heap.size = w.heap.size + 2 := by rw [← hWc]; simp only [World.size_alloc]
  have hBc : Below w.heap.size w Wc := by rw [← hWc]; exact bel_alloc (bel_box _) _
  have g2 : Wc.cell? ⟨w.heap.size + 1, 0, none⟩ = some (.bool false) := by rw [← hWc]; simp [go_sem]
  have g3 : Wc.frozen? ⟨w.heap.size + 1, 0, none⟩ = false := by rw [← hWc]; simp [go_sem]
  have hst := within_at (3 - 1) w.heap.size (fun k => k = w.heap.size + 1) x Wc (fun k hk => by subst hk; omega) (by omega) (HX.out.blw hBc (Nat.le_refl _))
  obtain ⟨W0, hW0⟩ : ∃ W0, inW Wc x 41 = W0 := ⟨_, rfl⟩
  have hz0 : W0.heap.size = w.heap.size + 4 := by rw [← hW0, inW_size]; omega
  have hB0 : Below w.heap.size w W0 := by rw [← hW0]; exact hBc.trans ((inW_below Wc x _).mono (by omega))
  have f2 : W0.cell? ⟨w.heap.size + 1, 0, none⟩ = some (.bool false) := by rw [← hW0]; exact (inW_old (by omega)).1.trans g2
  have f3 : W0.frozen? ⟨w.heap.size + 1, 0, none⟩ = false := by rw [← hW0]; exact (inW_old (by omega)).2.trans g3
  rw [hz, hW0] at hst
  rw [show (bxW ((w.alloc (Obj.cells #[.int .i64 x.k, .int .i64 x.op, .int .i64 x.t, .int .i64 x.v, .string x.nm, .slice x.A x.ar.length x.c] 24)).alloc (.cells #[.bool false] 4)) x).alloc (.cells #[.func (.func 41) #[] #[]] 42) = W0 by rw [← hW0, ← hWc]]
  clear hW0 hWc g2 g3 KW HX
  refine wpIn_rangeFunc_ownH rfl (by decide) (gf := 62) (lb := #[.pointer (some ⟨w.heap.size + 2, 0, none⟩), .pointer (some ⟨w.heap.size + 2 + 1, 0, none⟩)]) rfl trivial (enters_of Tryz.func62 (by kernel_rfl) rfl)
    hst KX_t KX_b (Below.refl _ _) (fun _ => rfl)
    (fun pre W => (pre.any (fun y => stK y.k) = false ∧ W.cell? ⟨w.heap.size + 1, 0, none⟩ = some (.bool false) ∧ W.frozen? ⟨w.heap.size + 1, 0, none⟩ = false) ∧ Below w.heap.size w W)
    (fun c pre W => (c = .ret ∧ pre.any (fun y => stK y.k) = true ∧ W.cell? ⟨w.heap.size + 1, 0, none⟩ = some (.bool false)) ∧ Below w.heap.size w W)
    (OwnFrom.and (Own.from (fun s A B row hs hg hr => ⟨hs.1, cell_kept hs.2.1 hg hr, (frozen_kept hs.2.1 hg hr).trans hs.2.2⟩) _) (ownFrom_below (Nat.le_refl _) (by omega)))
    (fun c => OwnFrom.and (Own.from (fun s A B row hs hg hr => ⟨hs.1, hs.2.1, cell_kept hs.2.2 hg hr⟩) _) (ownFrom_below (Nat.le_refl _) (by omega)))
    ⟨⟨rfl, f2, f3⟩, hB0⟩
    (fun y a' W => ∃ Bx, (w.heap.size + 2 ≤ Bx ∧ W.cell? ⟨Bx, 0, none⟩ = some (.int .i64 y.k)) ∧ a' = { tmps := #[.agg #[.int .i64 x.k, .int .i64 x.op, .int .i64 x.t, .int .i64 x.v, .string x.nm, .slice x.A x.ar.length x.c], .pointer (some ⟨w.heap.size, 0, none⟩), .pointer (some ⟨w.heap.size + 1, 0, none⟩), .pointer (some ⟨Bx, 0, none⟩), .agg #[.int .i64 x.k, .int .i64 x.op, .int .i64 x.t, .int .i64 x.v, .string x.nm, .slice x.A x.ar.length x.c], .func (.func 62) #[] #[.pointer (some ⟨w.heap.size + 2, 0, none⟩), .pointer (some ⟨w.heap.size + 2 + 1, 0, none⟩)], xV y, undef, undef, undef, undef, undef, undef, undef, undef], defers := [] })
    (fun y a' s A B row hs hg hr => by
      obtain ⟨Bx, ⟨h1, h2⟩, h3⟩ := hs
      exact ⟨Bx, ⟨h1, cell_kept h2 hg (fun r e => (hr r e).2)⟩, h3⟩) ?assign ?body ?done ?stop
  case assign =>
    rintro l pre y W K ⟨⟨i1, i2, i3⟩, hB⟩ hK
    rw [fold1]
    simp only [xV] at hK ⊢
    gi_wp2
    have hb := bx_box W y
    exact hK _ _ ((KeepsOthers.alloc _ _).from _) (KX.of_below (bel_box _)) ⟨⟨i1, cell_al _ i2, frozen_al _ i2 i3⟩, bel_alloc hB _⟩ ⟨W.heap.size, ⟨by have := World.block_lt_of_cell? W _ i2; simp only at this; omega, hb.1⟩, rfl⟩
  case body =>
    rintro l pre y a' W hl ⟨r, hr⟩ ⟨⟨i1, i2, i3⟩, hB⟩ ⟨Bx, ⟨hBx, bx⟩, rfl⟩ hlt
    have hcs : (pre ++ [y]).any (fun y => stK y.k) = stK y.k := by rw [List.any_append, i1]; simp
    by_cases q5 : (y.k == 5) = true
    · have hst : stK y.k = true := by simp [stK, q5]
      gi_wp2
      exact ⟨(KeepsOthers.setCell _ _ _).from _, ⟨rfl, by rw [hcs, hst], World.cell?_setCell_same' _ _ _ (by rw [i2]; rfl)⟩, hB.setCell (p := ⟨w.heap.size + 1, 0, none⟩) (by simp) _⟩
    rw [Bool.not_eq_true] at q5
    by_cases q6 : (y.k == 6) = true
    · have hst : stK y.k = true := by simp [stK, q6]
      gi_wp2
      exact ⟨(KeepsOthers.setCell _ _ _).from _, ⟨rfl, by rw [hcs, hst], World.cell?_setCell_same' _ _ _ (by rw [i2]; rfl)⟩, hB.setCell (p := ⟨w.heap.size + 1, 0, none⟩) (by simp) _⟩
    rw [Bool.not_eq_true] at q6
    by_cases q7 : (y.k == 7) = true
    · have hst : stK y.k = true := by simp [stK, q7]
      gi_wp2
      exact ⟨(KeepsOthers.setCell _ _ _).from _, ⟨rfl, by rw [hcs, hst], World.cell?_setCell_same' _ _ _ (by rw [i2]; rfl)⟩, hB.setCell (p := ⟨w.heap.size + 1, 0, none⟩) (by simp) _⟩
    rw [Bool.not_eq_true] at q7
    by_cases q10 : (y.k == 10) = true
    · have hst : stK y.k = true := by simp [stK, q10]
      gi_wp2
      exact ⟨(KeepsOthers.setCell _ _ _).from _, ⟨rfl, by rw [hcs, hst], World.cell?_setCell_same' _ _ _ (by rw [i2]; rfl)⟩, hB.setCell (p := ⟨w.heap.size + 1, 0, none⟩) (by simp) _⟩
    rw [Bool.not_eq_true] at q10
    by_cases q11 : (y.k == 11) = true
    · have hst : stK y.k = true := by simp [stK, q11]
      gi_wp2
      exact ⟨(KeepsOthers.setCell _ _ _).from _, ⟨rfl, by rw [hcs, hst], World.cell?_setCell_same' _ _ _ (by rw [i2]; rfl)⟩, hB.setCell (p := ⟨w.heap.size + 1, 0, none⟩) (by simp) _⟩
    rw [Bool.not_eq_true] at q11
    have hst : stK y.k = false := by simp only [stK, q5, q6, q7, q10, q11, Bool.or_false]
    gi_wp2
    exact ⟨(KeepsOthers.refl _).from _, KX.refl _ _, ⟨by rw [hcs, hst], i2, i3⟩, hB⟩
  case done =>
    rintro D ys W hD rfl ⟨⟨hn, hc, hf⟩, hB⟩ hK
    gi_wp2
    have hK' := (KeepsOthers.setCell W ⟨w.heap.size + 1, 0, none⟩ (.bool true)).same D _ hK rfl
    refine ⟨by simp, .inl ⟨_, _, rfl, run_takeDeferred hK', ?_⟩⟩
    have hc5 := cell_kept (World.cell?_setCell_same' W ⟨w.heap.size + 1, 0, none⟩ (.bool true) (by rw [hc]; rfl)) (grownBy_putObj' _ D (.deferred none)) (fun r e => by cases e; exact ⟨_, hK', rfl⟩)
    refine ⟨.bool true, ?_, by rw [hn]; rfl, (hB.setCell (p := ⟨w.heap.size + 1, 0, none⟩) (by simp) _).trans (belowK_b (w := w) (Nat.le_refl _) _ D _ _ (by omega) hK' rfl rfl)⟩
    simp [results, Tryz.f20, go_sem, hc5]
  case stop =>
    rintro D c pre W hD ⟨t, ht⟩ ⟨⟨rfl, hin, hc⟩, hB⟩ hK
    have hany : x.list.any (fun y => stK y.k) = true := by rw [← ht, List.any_append, hin]; rfl
    gi_wp2
    refine ⟨by simp, .inl ⟨_, _, rfl, run_takeDeferred hK, ?_⟩⟩
    have hc5 := cell_kept hc (grownBy_putObj' _ D (.deferred none)) (fun r e => by cases e; exact ⟨_, hK, rfl⟩)
    refine ⟨.bool false, ?_, by rw [hany]; rfl, hB.trans (belowK_b (w := w) (Nat.le_refl _) W D _ _ (by omega) hK rfl rfl)⟩
    simp [results, Tryz.f20, go_sem, hc5]
end Go.Proofs.YtfogkcccjemloaaGreatDoor
/- List, Count, Stateless of the reference. -/
namespace Go.Proofs.YtfogkcccjemloaaGreatDoor
set_option linter.unusedVariables false
set_option linter.unusedSimpArgs false
open Go.RowKit Go.Sort
/-- A reads as these expressions, below block B -/
def RdXs (w : World) (B : Nat) (A : Option Addr) (l : List Xt) : Prop := l ≠ [] → ∃ ad, A = some ad ∧ ad.block < B ∧ ∀ (i : Nat) (y : Xt), l[i]? = some y → XC w (ad.add (i * 6)) y
theorem RdXs.to {w W : World} {A : Option Addr} {l : List Xt} (h : RdXs w w.heap.size A l) (hb : Below w.heap.size w W) : RdXs W W.heap.size A l := fun hn => by
  obtain ⟨ad, e, hB, hc⟩ := h hn
  have hs := hb.size
  exact ⟨ad, e, by omega, fun i t ht => (hc i t ht).keep fun p hp => hb.cell (by rw [hp, add_block]; exact hB)⟩
theorem RdXs.at_ {w : World} {B : Nat} {A : Option Addr} {l : List Xt} (h : RdXs w B A l) {k : Nat} (hk : k < l.length) : ∃ ad y, A = some ad ∧ ad.block < B ∧ l[k]? = some y ∧ y ∈ l ∧ XC w (ad.add (k * 6)) y := by
  have he : l[k]? = some l[k] := List.getElem?_eq_getElem hk
  obtain ⟨ad, e, hb, hc⟩ := h (by rintro rfl; simp at hk)
  exact ⟨ad, _, e, hb, he, List.mem_of_getElem? he, hc k _ he⟩
theorem xsC_get (l : List Xt) (i : Nat) (y : Xt) (h : l[i]? = some y) (j : Nat) (hj : j < 6) : (xsC l)[i * 6 + j]? = (xCs y)[j]? := by
  induction l generalizing i with
  | nil => simp at h
  | cons a r ih =>
    have e : xsC (a :: r) = xCs a ++ xsC r := rfl
    have hl : (xCs a).length = 6 := rfl
    rw [e]
    rcases i with _ | i
    · obtain rfl : a = y := by simpa using h
      rw [Nat.zero_mul, Nat.zero_add, List.getElem?_append_left (by rw [hl]; exact hj)]
    · rw [List.getElem?_append_right (by rw [hl]; omega), hl, show (i + 1) * 6 + j - 6 = i * 6 + j by omega]
      exact ih i (by simpa using h)
theorem add_add6 (g n j : Nat) : ((⟨g, 0, none⟩ : Addr).add n).off + j = n + j ∧ ((⟨g, 0, none⟩ : Addr).add n).block = g ∧ (⟨g, 0, none⟩ : Addr).add n = ⟨g, n, none⟩ := by
  unfold Addr.add
  by_cases h : n = 0
  · subst h; simp
  · simp [h]
theorem RdXs.of_own {w : World} {base : Nat} {e : TypeId} {A : Option Addr} {c : Nat} {l : List Xt} (h : w.ownsRow base e 6 (.slice A l.length c) l.length (xsC l)) : RdXs w w.heap.size A l := fun hn => by
  rcases h.2 with ⟨h1, h2⟩ | ⟨g, cap, cur, h1, h2, h3, h4, h5, h6, h7⟩
  · exact absurd (List.length_eq_zero_iff.1 h2) hn
  · have hA : A = some ⟨g, 0, none⟩ := by injection h1
    subst hA
    refine ⟨_, rfl, (Array.getElem?_eq_some_iff.1 h3).1, fun i y hy => ?_⟩
    have key : ∀ j u, j < 6 → (xCs y)[j]? = some u → w.cell? ⟨g, i * 6 + j, none⟩ = some u := fun j u hj6 hj => by
      rw [← xsC_get l i y hy j hj6] at hj
      rw [cell_of_row w g (i * 6 + j) cur _ (0, 0) h3]
      rw [← h7, List.getElem?_take] at hj
      split at hj
      · rw [← Array.getElem?_toList]; exact hj
      · cases hj
    unfold XC
    rw [(add_add6 g (i * 6) 1).1, (add_add6 g (i * 6) 2).1, (add_add6 g (i * 6) 3).1, (add_add6 g (i * 6) 4).1, (add_add6 g (i * 6) 5).1, (add_add6 g (i * 6) 1).2.1, (add_add6 g (i * 6) 1).2.2]
    exact ⟨key 0 _ (by omega) rfl, key 1 _ (by omega) rfl, key 2 _ (by omega) rfl, key 3 _ (by omega) rfl, key 4 _ (by omega) rfl, key 5 _ (by omega) rfl⟩
/-- a list of expressions, new -/
def NewX (l : List Xt) (w : World) (e : Ending) (w' : World) : Prop := ∃ A c, e = .returned (.slice A l.length c) ∧ RdXs w' w'.heap.size A l ∧ Below w.heap.size w w'
set_option maxHeartbeats 1000000 in
set_option maxRecDepth 20000 in
theorem rList_any (x : Xt) (w : World) (hX : RdX w w.heap.size x) (hs : x.size ≤ 100000) : Calls Tryz.prog 33 #[xV x] w (NewX x.list w) := by
  have K : Hid (∀ W, Below w.heap.size w W → Calls Tryz.prog 56 #[xV x, .slice none 0 0] W (NewX x.list W)) := Lib.hid fun W hb => by
    have := rlist_any x W W.heap.size (.slice none 0 0) 0 [] (Nat.le_refl _) (hX.to hb) (World.ownsRow_nil _ _ _ _) (by omega)
    rw [Nat.zero_add, List.nil_append, ← list_length x] at this
    refine this.mono fun e w1 ⟨v', he, h1, h2, h3⟩ => ?_
    obtain ⟨A, c, rfl⟩ := own_form6 h1
    exact ⟨A, c, he, RdXs.of_own h1, ⟨h2.os, h2.tape, h2.output, h2.size, fun k hk => h2.block k hk (by intro e; cases e)⟩⟩
  simp only [xV] at K ⊢
  go_enter Tryz.func33, Tryz.ntmps33
  go_wp2_with (go_at_call 56; (with_reducible refine (K.out _ ?_).mono ?_); (focus ((repeat (first | (with_reducible exact Below.refl _ _) | (with_reducible assumption) | (with_reducible exact bel_box _) | (with_reducible refine bel_step ?_ (by with_reducible assumption)) | (with_reducible refine Below.drew ?_) | (with_reducible refine below_drewN ?_ _) | (with_reducible refine bel_alloc ?_ _))); done)); rintro e w1 ⟨A, c, rfl, hR, hb1⟩)
  go_ret
  exact ⟨A, c, rfl, hR, (by repeat (first | (with_reducible exact Below.refl _ _) | (with_reducible assumption) | (with_reducible exact bel_box _) | (with_reducible refine bel_step ?_ (by with_reducible assumption)) | (with_reducible refine Below.drew ?_) | (with_reducible refine below_drewN ?_ _) | (with_reducible refine bel_alloc ?_ _)))⟩
theorem parts_count (l : List Xt) (p : Xt → Bool) : ∃ C : Nat → Nat, l.countP p = C l.length ∧ C 0 = 0 ∧ (∀ k, C k ≤ k) ∧ Hid (∀ (k : Nat) (y : Xt), l[k]? = some y → C (k + 1) = C k + if p y then 1 else 0) := by
  refine ⟨fun k => (l.take k).countP p, by simp, by simp, fun k => ?_, Lib.hid fun k y hy => ?_⟩
  · exact Nat.le_trans List.countP_le_length (by simp [List.length_take]; omega)
  · show (l.take (k + 1)).countP p = _
    rw [take_succ_of hy, List.countP_append]
    simp [List.countP_cons]
set_option maxHeartbeats 1000000 in
set_option maxRecDepth 20000 in
theorem rcount_any (x : Xt) (kd : Int) (w : World) (hX : RdX w w.heap.size x) (hs : x.size ≤ 100000) : Calls Tryz.prog 19 #[xV x, .int .i64 kd] w (Bel (.int .i64 ((x.list.countP fun y => y.k == kd) : Nat)) w) := by
  have K : Hid (∀ W, Below w.heap.size w W → Calls Tryz.prog 33 #[xV x] W (NewX x.list W)) := Lib.hid fun W hb => rList_any x W (hX.to hb) hs
  have hl := list_length x
  obtain ⟨l, hL⟩ : ∃ l, x.list = l := ⟨_, rfl⟩
  rw [hL] at K hl ⊢
  clear hL hX
  obtain ⟨C, hC, hC0, hCl, HC⟩ := parts_count l (fun y => y.k == kd)
  rw [hC]
  clear hC
  have HCl := Lib.hid hCl
  clear hCl
  simp only [xV] at K ⊢
  go_enter Tryz.func19, Tryz.ntmps19
  go_wp2_with (go_at_call 33; (with_reducible refine (K.out _ ?_).mono ?_); (focus ((repeat (first | (with_reducible exact Below.refl _ _) | (with_reducible assumption) | (with_reducible exact bel_box _) | (with_reducible refine bel_step ?_ (by with_reducible assumption)) | (with_reducible refine Below.drew ?_) | (with_reducible refine below_drewN ?_ _) | (with_reducible refine bel_alloc ?_ _))); done)); rintro e w1 ⟨A, c, rfl, hR, hb1⟩)
  rw [← hl]
  go_loopw [5, 7] (fun n i wr => ∃ k : Nat, k ≤ l.length ∧ i = .int .i64 (k : Int) ∧ n = .int .i64 (C k : Nat) ∧ wr = w1) (fun _ i _ => l.length - (intOf i).toNat)
  case atStart => exact ⟨0, by omega, rfl, by rw [hC0]; rfl, rfl⟩
  case round =>
    obtain ⟨k, hk, rfl, rfl, rfl⟩ := hrel
    have hCk := HCl.out k
    by_cases hlt : k < l.length
    · obtain ⟨ad, y, rfl, had, hy, hm, ⟨c0, c1, c2, c3, c4, c5⟩⟩ := hR.at_ hlt
      have hn := HC.out k y hy
      clear hy
      by_cases hq : (y.k == kd) = true
      · rw [if_pos hq] at hn
        go_wp2
        exact ⟨⟨k + 1, by omega, by congr 1, by congr 1; omega, trivial⟩, by simp [intOf]; omega⟩
      · rw [if_neg hq] at hn
        rw [Bool.not_eq_true] at hq
        go_wp2
        exact ⟨⟨k + 1, by omega, by congr 1, by congr 1; omega, trivial⟩, by simp [intOf]; omega⟩
    · obtain rfl : k = l.length := by omega
      go_wp2
      go_ret
      exact ⟨rfl, (by repeat (first | (with_reducible exact Below.refl _ _) | (with_reducible assumption) | (with_reducible exact bel_box _) | (with_reducible refine bel_step ?_ (by with_reducible assumption)) | (with_reducible refine Below.drew ?_) | (with_reducible refine below_drewN ?_ _) | (with_reducible refine bel_alloc ?_ _)))⟩
theorem any_of_counts (l : List Xt) : (!l.any fun y => stK y.k) = (((((l.countP (fun y => y.k == 5) + l.countP (fun y => y.k == 6)) + l.countP (fun y => y.k == 7)) + l.countP (fun y => y.k == 10)) + l.countP (fun y => y.k == 11)) == 0) := by
  induction l with
  | nil => rfl
  | cons a l ih =>
    rw [List.any_cons, Bool.not_or, ih]
    have e : stK a.k = (a.k == 5 || a.k == 6 || a.k == 7 || a.k == 10 || a.k == 11) := rfl
    rw [e]
    simp only [List.countP_cons]
    generalize l.countP (fun y => y.k == 5) = n1
    generalize l.countP (fun y => y.k == 6) = n2
    generalize l.countP (fun y => y.k == 7) = n3
    generalize l.countP (fun y => y.k == 10) = n4
    generalize l.countP (fun y => y.k == 11) = n5
    cases a.k == 5 <;> cases a.k == 6 <;> cases a.k == 7 <;> cases a.k == 10 <;> cases a.k == 11 <;> simp (config := { decide := false }) only [if_true, if_false, Bool.false_eq_true, Bool.or_false, Bool.false_or, Bool.or_true, Bool.true_or, Bool.not_true, Bool.not_false, Bool.false_and, Bool.true_and, Nat.add_zero] <;> exact (beq_eq_false_iff_ne.2 (by omega)).symm
set_option maxHeartbeats 1000000 in
set_option maxRecDepth 20000 in
theorem rstateless_any (x : Xt) (w : World) (hX : RdX w w.heap.size x) (hs : x.size ≤ 100000) : Calls Tryz.prog 21 #[xV x] w (Bel (.bool (!x.list.any fun y => stK y.k)) w) := by
  have hl := list_length x
  have KC : ∀ kd : Int, ∃ n : Nat, n ≤ 100000 ∧ (x.list.countP fun y => y.k == kd) = n ∧ Hid (∀ W, Below w.heap.size w W → Calls Tryz.prog 19 #[xV x, .int .i64 kd] W (Bel (.int .i64 n) W)) := fun kd => ⟨_, Nat.le_trans List.countP_le_length (by omega), rfl, Lib.hid fun W hb => rcount_any x kd W (hX.to hb) hs⟩
  rw [any_of_counts]
  obtain ⟨a, ha, ea, K1⟩ := KC 5
  obtain ⟨b, hb, eb, K2⟩ := KC 6
  obtain ⟨c, hc, ec, K3⟩ := KC 7
  obtain ⟨d, hd, ed, K4⟩ := KC 10
  obtain ⟨f, hf, ef, K5⟩ := KC 11
  rw [ea, eb, ec, ed, ef]
  clear ea eb ec ed ef KC hX
  obtain ⟨s1, e1⟩ : ∃ s : Nat, a + b = s := ⟨_, rfl⟩
  obtain ⟨s2, e2⟩ : ∃ s : Nat, s1 + c = s := ⟨_, rfl⟩
  obtain ⟨s3, e3⟩ : ∃ s : Nat, s2 + d = s := ⟨_, rfl⟩
  obtain ⟨s4, e4⟩ : ∃ s : Nat, s3 + f = s := ⟨_, rfl⟩
  rw [e1, e2, e3, e4]
  have f1 : (a : Int) + (b : Int) = (s1 : Int) := by omega
  have f2 : (s1 : Int) + (c : Int) = (s2 : Int) := by omega
  have f3 : (s2 : Int) + (d : Int) = (s3 : Int) := by omega
  have f4 : (s3 : Int) + (f : Int) = (s4 : Int) := by omega
  have g1 : IntKind.i64.wrap (s1 : Int) = (s1 : Int) := Go.IntWalk.i64_in _ ⟨by omega, by omega⟩
  have g2 : IntKind.i64.wrap (s2 : Int) = (s2 : Int) := Go.IntWalk.i64_in _ ⟨by omega, by omega⟩
  have g3 : IntKind.i64.wrap (s3 : Int) = (s3 : Int) := Go.IntWalk.i64_in _ ⟨by omega, by omega⟩
  have g4 : IntKind.i64.wrap (s4 : Int) = (s4 : Int) := Go.IntWalk.i64_in _ ⟨by omega, by omega⟩
  simp only [xV] at K1 K2 K3 K4 K5 ⊢
  go_enter Tryz.func21, Tryz.ntmps21
  obtain ⟨b0, b1, b2, b3, b4, b5, _⟩ := bxW_cells (w := w) (x := x) (Below.refl _ _)
  have hBx := bxW_below (w := w) (x := x) (Below.refl _ _)
  go_wp2
  obtain ⟨W0, hW0⟩ : ∃ W0, bxW w x = W0 := ⟨_, rfl⟩
  rw [hW0] at b0 b1 b2 b3 b4 b5 hBx
  rw [show w.alloc (.cells #[.int .i64 x.k, .int .i64 x.op, .int .i64 x.t, .int .i64 x.v, .string x.nm, .slice x.A x.ar.length x.c] 24) = W0 from hW0]
  clear hW0
  have k0 := cell_regrown b0
  have k1 := cell_regrown b1
  have k2 := cell_regrown b2
  have k3 := cell_regrown b3
  have k4 := cell_regrown b4
  have k5 := cell_regrown b5
  have c1 := fun dd os => Calls.regrown_of (K1.out (grow (redrawn W0 dd) os) (hBx.trans ((below_regrown W0 dd os).mono hBx.size)))
  have c2 := fun dd os => Calls.regrown_of (K2.out (grow (redrawn W0 dd) os) (hBx.trans ((below_regrown W0 dd os).mono hBx.size)))
  have c3 := fun dd os => Calls.regrown_of (K3.out (grow (redrawn W0 dd) os) (hBx.trans ((below_regrown W0 dd os).mono hBx.size)))
  have c4 := fun dd os => Calls.regrown_of (K4.out (grow (redrawn W0 dd) os) (hBx.trans ((below_regrown W0 dd os).mono hBx.size)))
  have c5 := fun dd os => Calls.regrown_of (K5.out (grow (redrawn W0 dd) os) (hBx.trans ((below_regrown W0 dd os).mono hBx.size)))
  clear K1 K2 K3 K4 K5 b0 b1 b2 b3 b4 b5
  refine wp_region_quiet_below (by kernel_rfl) (by kernel_rfl) ?_
  repeat (quiet_step (first | with_reducible exact c1 _ _ | with_reducible exact c2 _ _ | with_reducible exact c3 _ _ | with_reducible exact c4 _ _ | with_reducible exact c5 _ _))
  refine wpQuiet_nil ?_
  intro _ hw'
  obtain ⟨⟨dq, osq⟩, hw''⟩ := hw'
  subst hw''
  go_wp2
  go_ret
  refine ⟨?_, hBx.trans ((below_regrown W0 dq osq).mono hBx.size)⟩
  have hq : ((s4 : Int) == 0) = (s4 == 0) := by rw [Bool.eq_iff_iff]; simp
  rw [← hq]
  rfl
end Go.Proofs.YtfogkcccjemloaaGreatDoor
/- Same of the program, with slices.EqualFunc. -/
namespace Go.Proofs.YtfogkcccjemloaaGreatDoor
set_option linter.unusedVariables false
set_option linter.unusedSimpArgs false
open Go.RowKit Go.Sort
set_option maxHeartbeats 2000000 in
set_option maxRecDepth 20000 in
theorem equalfunc_any (la lb : List Xt) (A B : Option Addr) (c d : Nat) (w : World) (hA : RdXs w w.heap.size A la) (hB : RdXs w w.heap.size B lb) (ha : la.length ≤ 2 ^ 63 - 1) (hb : lb.length ≤ 2 ^ 63 - 1)
    (hK : Hid (∀ (k : Nat) (y z : Xt), la[k]? = some y → lb[k]? = some z → ∀ W, Below w.heap.size w W → Calls Tryz.prog 28 #[xV y, xV z] W (Bel (.bool (sameX y z)) W))) (V : Bool) (HN : Hid (¬ la.map Xt.ct = lb.map Xt.ct → V = false)) (HY : Hid (la.map Xt.ct = lb.map Xt.ct → V = true)) :
    Calls Tryz.prog 48 #[.slice A la.length c, .slice B lb.length d, .func (.func 28) #[] #[]] w (Bel (.bool V) w) := by
  cases q : (((la.length : Nat) : Int) != ((lb.length : Nat) : Int))
  case true =>
    have hv : V = false := HN.out fun e => by
      have := congrArg List.length e
      simp at this
      simp [this] at q
    clear HN HY hK hA hB
    go_enter Tryz.func48, Tryz.ntmps48
    go_wp2
    go_ret
    exact ⟨by rw [hv]; rfl, (by repeat (first | (with_reducible exact Below.refl _ _) | (with_reducible assumption) | (with_reducible exact bel_box _) | (with_reducible refine bel_step ?_ (by with_reducible assumption)) | (with_reducible refine Below.drew ?_) | (with_reducible refine below_drewN ?_ _) | (with_reducible refine bel_alloc ?_ _)))⟩
  case false =>
    have hll : la.length = lb.length := by
      have h : ((la.length : Nat) : Int) = ((lb.length : Nat) : Int) := by simpa using q
      omega
    have HLL := Lib.hid hll
    clear hll
    simp only [xV] at hK
    go_enter Tryz.func48, Tryz.ntmps48
    go_wp2
    go_loopw [17] (fun i wr => ∃ k : Nat, k ≤ la.length ∧ i = .int .i64 (k : Int) ∧ Below w.heap.size w wr ∧ Hid ((la.take k).map Xt.ct = (lb.take k).map Xt.ct)) (fun i _ => la.length - (intOf i).toNat)
    case atStart => exact ⟨0, by omega, rfl, Below.refl _ _, Lib.hid rfl⟩
    case round =>
      obtain ⟨k, hk, rfl, hbl, hno⟩ := hrel
      by_cases hlt : k < la.length
      · have hlt2 : k < lb.length := by have := HLL.out; omega
        obtain ⟨ad, y, rfl, had, hy, _, ⟨c0, c1, c2, c3, c4, c5⟩⟩ := (hA.to hbl).at_ hlt
        obtain ⟨ad', z, rfl, had', hz, _, ⟨e0, e1, e2, e3, e4, e5⟩⟩ := (hB.to hbl).at_ hlt2
        have H1 := fun h => ct_take hy hz hno.out h
        have H2 := fun h => ct_differ hy hz h
        have KS := hK.out k y z hy hz
        generalize sameX y z = r at H1 H2 KS
        have KS2 := Lib.hid KS
        clear KS hy hz hno hA hB
        have e0' := fun o => cell_al o e0
        have e1' := fun o => cell_al o e1
        have e2' := fun o => cell_al o e2
        have e3' := fun o => cell_al o e3
        have e4' := fun o => cell_al o e4
        have e5' := fun o => cell_al o e5
        cases r
        · have H := Lib.hid (HN.out (H2 rfl))
          clear H1 H2 HN HY
          go_wp2_with (go_at_call 28; (with_reducible refine (KS2.out _ ?_).mono ?_); (focus ((repeat (first | (with_reducible exact Below.refl _ _) | (with_reducible assumption) | (with_reducible exact bel_box _) | (with_reducible refine bel_step ?_ (by with_reducible assumption)) | (with_reducible refine Below.drew ?_) | (with_reducible refine below_drewN ?_ _) | (with_reducible refine bel_alloc ?_ _))); done)); rintro e w1 ⟨rfl, hb1⟩)
          go_ret
          exact ⟨by rw [H.out]; rfl, (by repeat (first | (with_reducible exact Below.refl _ _) | (with_reducible assumption) | (with_reducible exact bel_box _) | (with_reducible refine bel_step ?_ (by with_reducible assumption)) | (with_reducible refine Below.drew ?_) | (with_reducible refine below_drewN ?_ _) | (with_reducible refine bel_alloc ?_ _)))⟩
        · have H := Lib.hid (H1 rfl)
          clear H1 H2 HN HY
          go_wp2_with (go_at_call 28; (with_reducible refine (KS2.out _ ?_).mono ?_); (focus ((repeat (first | (with_reducible exact Below.refl _ _) | (with_reducible assumption) | (with_reducible exact bel_box _) | (with_reducible refine bel_step ?_ (by with_reducible assumption)) | (with_reducible refine Below.drew ?_) | (with_reducible refine below_drewN ?_ _) | (with_reducible refine bel_alloc ?_ _))); done)); rintro e w1 ⟨rfl, hb1⟩)
          go_roundw
          case rel => exact ⟨k + 1, by omega, by go_num, (by repeat (first | (with_reducible exact Below.refl _ _) | (with_reducible assumption) | (with_reducible exact bel_box _) | (with_reducible refine bel_step ?_ (by with_reducible assumption)) | (with_reducible refine Below.drew ?_) | (with_reducible refine below_drewN ?_ _) | (with_reducible refine bel_alloc ?_ _))), H⟩
          case measure => simp [intOf]; omega
      · obtain rfl : k = la.length := by omega
        have h1 := hno.out
        rw [List.take_length, HLL.out, List.take_length] at h1
        have h2 := HY.out h1
        clear h1 hno HN HY
        go_wp2
        go_ret
        exact ⟨by rw [h2]; rfl, hbl⟩
end Go.Proofs.YtfogkcccjemloaaGreatDoor
/- Same of the program. -/
namespace Go.Proofs.YtfogkcccjemloaaGreatDoor
set_option linter.unusedVariables false
set_option linter.unusedSimpArgs false
open Go.RowKit Go.Sort
theorem kids_read {w : World} {x : Xt} (h : RdX w w.heap.size x) : RdXs w w.heap.size x.A x.ar := by
  cases h with
  | mk x h0 h1 h2 h3 =>
    intro hn
    obtain ⟨ad, e, hb⟩ := h0 hn
    exact ⟨ad, e, hb, fun i y hy => h1 ad i y e hy⟩
set_option maxHeartbeats 2000000 in
set_option maxRecDepth 20000 in
theorem sameX_any (a : Xt) : ∀ (b : Xt) w, RdX w w.heap.size a → RdX w w.heap.size b → a.size ≤ 100000 → Calls Tryz.prog 28 #[xV a, xV b] w (Bel (.bool (sameX a b)) w) := by
  induction a using Xt.ind with
  | h a ih =>
    intro b w hA hB hs
    have h9 := hA.len.1
    have h9b := hB.len.1
    unfold maxLen at h9 h9b
    have KE : ∀ V, Hid (¬ a.ar.map Xt.ct = b.ar.map Xt.ct → V = false) → Hid (a.ar.map Xt.ct = b.ar.map Xt.ct → V = true) → Hid (∀ W, Below w.heap.size w W → Calls Tryz.prog 48 #[.slice a.A a.ar.length a.c, .slice b.A b.ar.length b.c, .func (.func 28) #[] #[]] W (Bel (.bool V) W)) := fun V hN hY => Lib.hid fun W h =>
      equalfunc_any a.ar b.ar a.A b.A a.c b.c W (kids_read (hA.to h)) (kids_read (hB.to h)) h9 h9b (Lib.hid fun k y z hy hz W' h' => ih y (List.mem_of_getElem? hy) z W' (((hA.to h).kid (List.mem_of_getElem? hy)).to h') (((hB.to h).kid (List.mem_of_getElem? hz)).to h') (by
        obtain ⟨F, hF, _, _, HN, HL⟩ := parts_sum a
        have := HN.out k y hy
        have := HL.out (k + 1)
        omega)) V hN hY
    clear ih hs hA hB h9 h9b
    simp only [xV]
    obtain ⟨b0, b1, b2, b3, b4, b5, b6⟩ := bxW_cells (w := w) (x := a) (W := bxW (bxW w a) b) (bel_box _)
    obtain ⟨d0, d1, d2, d3, d4, d5, d6⟩ := bxW_cells (w := bxW w a) (x := b) (W := bxW (bxW w a) b) (Below.refl _ _)
    rw [bxW_size] at d0 d1 d2 d3 d4 d5 d6
    have hBW : Below w.heap.size w (bxW (bxW w a) b) := bel_alloc (bel_box _) _
    obtain ⟨V, hV⟩ : ∃ V, sameX a b = V := ⟨_, rfl⟩
    have HN : Hid (¬ a.ct = b.ct → V = false) := Lib.hid fun h => hV ▸ sameX_no h
    have HY : Hid (a.ct = b.ct → V = true) := Lib.hid fun h => hV ▸ sameX_yes h
    rw [hV]
    clear hV
    cases q1 : (a.k == b.k)
    case false =>
      have hv : V = false := HN.out fun e => by
        obtain ⟨g1, g2, g3, g4, g5, g6, g7⟩ := ct_parts e
        simp [g1] at q1
      clear HN HY KE
      go_enter Tryz.func28, Tryz.ntmps28
      go_wp2
      go_ret
      exact ⟨by rw [hv]; rfl, (by repeat (first | (with_reducible exact Below.refl _ _) | (with_reducible assumption) | (with_reducible exact bel_box _) | (with_reducible refine bel_step ?_ (by with_reducible assumption)) | (with_reducible refine Below.drew ?_) | (with_reducible refine below_drewN ?_ _) | (with_reducible refine bel_alloc ?_ _)))⟩
    cases q2 : (a.op == b.op)
    case false =>
      have hv : V = false := HN.out fun e => by
        obtain ⟨g1, g2, g3, g4, g5, g6, g7⟩ := ct_parts e
        simp [g2] at q2
      clear HN HY KE
      go_enter Tryz.func28, Tryz.ntmps28
      go_wp2
      go_ret
      exact ⟨by rw [hv]; rfl, (by repeat (first | (with_reducible exact Below.refl _ _) | (with_reducible assumption) | (with_reducible exact bel_box _) | (with_reducible refine bel_step ?_ (by with_reducible assumption)) | (with_reducible refine Below.drew ?_) | (with_reducible refine below_drewN ?_ _) | (with_reducible refine bel_alloc ?_ _)))⟩
    cases q3 : (a.t == b.t)
    case false =>
      have hv : V = false := HN.out fun e => by
        obtain ⟨g1, g2, g3, g4, g5, g6, g7⟩ := ct_parts e
        simp [g3] at q3
      clear HN HY KE
      go_enter Tryz.func28, Tryz.ntmps28
      go_wp2
      go_ret
      exact ⟨by rw [hv]; rfl, (by repeat (first | (with_reducible exact Below.refl _ _) | (with_reducible assumption) | (with_reducible exact bel_box _) | (with_reducible refine bel_step ?_ (by with_reducible assumption)) | (with_reducible refine Below.drew ?_) | (with_reducible refine below_drewN ?_ _) | (with_reducible refine bel_alloc ?_ _)))⟩
    cases q4 : (a.v == b.v)
    case false =>
      have hv : V = false := HN.out fun e => by
        obtain ⟨g1, g2, g3, g4, g5, g6, g7⟩ := ct_parts e
        simp [g4] at q4
      clear HN HY KE
      go_enter Tryz.func28, Tryz.ntmps28
      go_wp2
      go_ret
      exact ⟨by rw [hv]; rfl, (by repeat (first | (with_reducible exact Below.refl _ _) | (with_reducible assumption) | (with_reducible exact bel_box _) | (with_reducible refine bel_step ?_ (by with_reducible assumption)) | (with_reducible refine Below.drew ?_) | (with_reducible refine below_drewN ?_ _) | (with_reducible refine bel_alloc ?_ _)))⟩
    cases q5 : (a.nm.toList == b.nm.toList)
    case false =>
      have hv : V = false := HN.out fun e => by
        obtain ⟨g1, g2, g3, g4, g5, g6, g7⟩ := ct_parts e
        simp [g5] at q5
      clear HN HY KE
      go_enter Tryz.func28, Tryz.ntmps28
      go_wp2
      go_ret
      exact ⟨by rw [hv]; rfl, (by repeat (first | (with_reducible exact Below.refl _ _) | (with_reducible assumption) | (with_reducible exact bel_box _) | (with_reducible refine bel_step ?_ (by with_reducible assumption)) | (with_reducible refine Below.drew ?_) | (with_reducible refine below_drewN ?_ _) | (with_reducible refine bel_alloc ?_ _)))⟩
    have p1 : a.k = b.k := by simpa using q1
    have p2 : a.op = b.op := by simpa using q2
    have p3 : a.t = b.t := by simpa using q3
    have p4 : a.v = b.v := by simpa using q4
    have p5 : a.nm.toList = b.nm.toList := by simpa using q5
    have KE2 := KE V (Lib.hid fun h => HN.out fun e => h (ct_parts e).2.2.2.2.2.1) (Lib.hid fun h => HY.out (ct_of p1 p2 p3 p4 p5 h))
    clear p1 p2 p3 p4 p5 HN HY KE
    have HBW := Lib.hid hBW
    clear hBW
    go_enter Tryz.func28, Tryz.ntmps28
    go_wp2_with (go_at_call 48; (with_reducible refine (KE2.out _ ?_).mono ?_); (focus (exact HBW.out; done)); rintro e w1 ⟨rfl, hb1⟩)
    go_ret
    exact ⟨rfl, HBW.out.trans (Below.mono hb1 HBW.out.size)⟩
end Go.Proofs.YtfogkcccjemloaaGreatDoor
/- The frame of a law's row: a call that returns true and leaves the old blocks alone meets the row; arguments that are slices of bools are opened. -/
namespace Go.Proofs.YtfogkcccjemloaaGreatDoor
set_option linter.unusedVariables false
set_option linter.unusedSimpArgs false
open Go.ChangeShapes Go.WideShapes Go.ChangeAt Go.RowKit Go.Deep
def Tru (w : World) (e : Ending) (w' : World) : Prop := e = .returned (.bool true) ∧ Below w.heap.size w w'
section
variable {H : Type} {enc : TypeId × Value → H} {P : Program}
theorem trodAll_below (hl : laidOutB P = true) {W W' : World} (hb : Below W.heap.size W W') : ∀ {ts : List TypeId} {vs : List Value} {ds : List (DataW H)} {ps : List MemPlace},
    (∀ t ∈ ts, P.readableRec t = true ∧ t < P.types.size) → DataW.TrodAll enc P W 0 (fun _ => true) true ts vs ds ps → (∀ x ∈ ps, x.block < W.heap.size) →
    DataW.TrodAll enc P W' 0 (fun b => decide (b < W.heap.size)) true ts vs ds ps := by
  intro ts
  induction ts with
  | nil => intro vs ds ps _ h _; cases vs <;> cases ds <;> simp_all [DataW.TrodAll]
  | cons t ts ih =>
    intro vs ds ps ht h hlt
    match vs, ds, h with
    | v :: vs, d :: ds, ⟨p, q, h1, h2, e⟩ =>
      subst e
      obtain ⟨hr, hs⟩ := ht t (by simp)
      exact ⟨p, q, Below.trod hl hr hs h1 hb (fun x hx => hlt x (by simp [hx])), ih (fun u hu => ht u (by simp [hu])) h2 (fun x hx => hlt x (by simp [hx])), rfl⟩
theorem law_post {f : Func} {s : ChangeSpec} {W W' : World} {args : Array Value} {ds gs : List (DataW H)} {before : List MemPlace} {tb : TypeId}
    (hW : DataW.Whole enc P f.params.toList s.vars false W args.toList ds gs before) (hv : s.vars = [])
    (hs : (s.fn H (ds ++ gs)).results = [.lit (.bool true)] ∧ (s.fn H (ds ++ gs)).args = ds ∧ (s.fn H (ds ++ gs)).vars = [])
    (hf : f.resultTypes = #[tb]) (htb : P.underlying tb = some .bool) (hl : laidOutB P = true) (hts : ∀ t ∈ f.params.toList, P.readableRec t = true ∧ t < P.types.size)
    (hb : Below W.heap.size W W') : s.post enc P f false true false false W args (.bool true) W' := by
  have hW' := hW
  obtain ⟨p, q, hA, hV, rfl, _, _⟩ := hW
  rw [hv] at hV
  obtain ⟨rfl, rfl⟩ := trodVars_none hV
  refine ⟨ds, [], p ++ [], [], p, [], hW', ?_, ?_, ?_, hb.frame _, fun h => by cases h⟩
  · rw [hs.1, hf]
    exact trodAll_mk1 (shut_bool htb true)
  · rw [hs.2.1]
    exact trodAll_below hl hb hts hA (fun x hx => hW'.lt x (by simp [hx]))
  · rw [hv, hs.2.2]
    rfl
/-- a slice of bools, opened -/
theorem open_bls {w : World} {held : Bool} {base : Nat} {t e : TypeId} {fuel : Nat} {v : Value} {x : DataW H × List MemPlace} (ht : P.underlying t = some (.slice e)) (he : P.underlying e = some .bool) (hc : P.cellsOf e = 1)
    (h : DataW.trod enc P w base (fun _ => true) held fuel t [v] = some x) :
    ∃ (A : Option Addr) (l : List Bool) (c : Nat), v = .slice A l.length c ∧ Rd w w.heap.size A (bls l) ∧ l.length ≤ 9223372036854775807 := by
  rcases open_slice1 ht hc h with ⟨hcs, _⟩ | ⟨a, len, cap, m, n, V, D, Pl, hcs, _, hl, hm, hmm, _, hx⟩
  · simp only [List.cons.injEq, and_true] at hcs
    exact ⟨none, [], 0, hcs, Rd.nil _ _ _, by simp⟩
  · simp only [List.cons.injEq, and_true] at hcs
    have hmc : m = cap := by simpa using hmm
    refine ⟨some a, (List.range len).map fun i => match V i with | .bool b => b | _ => false, cap, by simp [hcs], ?_, by simp only [List.length_map, List.length_range, maxLen] at *; omega⟩
    have key : ∀ i, i < len → w.cell? (a.add i) = some (.bool (match V i with | .bool b => b | _ => false)) := by
      intro i hi
      obtain ⟨h1, h2⟩ := hx i (by omega)
      obtain ⟨b, hb, _⟩ := DataW.trod_bool he h2
      simp only [List.cons.injEq, and_true] at hb
      rw [h1, hb]
    intro hne
    refine ⟨a, rfl, ?_, ?_⟩
    · have h0 : 0 < len := by
        rcases Nat.eq_zero_or_pos len with h | h
        · subst h; simp [bls] at hne
        · exact h
      have := World.block_lt_of_cell? w _ (key 0 h0)
      rwa [add_block] at this
    · intro j u hu
      have hj : j < len := by
        have := (List.getElem?_eq_some_iff.1 hu).1
        simpa [bls] using this
      rw [key j hj]
      simpa [bls, hj] using hu
end
end Go.Proofs.YtfogkcccjemloaaGreatDoor
/- An argument that is an expression, opened: a tree that lies in memory. -/
namespace Go.Proofs.YtfogkcccjemloaaGreatDoor
set_option linter.unusedVariables false
set_option linter.unusedSimpArgs false
open Go.ChangeShapes Go.WideShapes Go.ChangeAt Go.RowKit Go.Deep Go.WideElems
theorem choose_list {α : Type} {p : Nat → α → Prop} : ∀ n, (∀ i, i < n → ∃ e, p i e) → ∃ l : List α, l.length = n ∧ ∀ i e, l[i]? = some e → p i e := by
  intro n
  induction n with
  | zero => exact fun _ => ⟨[], rfl, fun i e h => by simp at h⟩
  | succ n ih =>
    intro h
    obtain ⟨l, hl, hp⟩ := ih fun i hi => h i (by omega)
    obtain ⟨e, he⟩ := h n (by omega)
    refine ⟨l ++ [e], by simp [hl], fun i x hx => ?_⟩
    rcases Nat.lt_or_ge i n with hi | hi
    · exact hp i x (by rwa [List.getElem?_append_left (by omega)] at hx)
    · rw [List.getElem?_append_right (by omega)] at hx
      have hi2 : i = n := by
        have := (List.getElem?_eq_some_iff.1 hx).1
        simp at this
        omega
      subst hi2
      rw [hl, Nat.sub_self] at hx
      obtain rfl : e = x := by simpa using hx
      exact he
/-- names are no longer than what a machine holds -/
def NmB (x : Xt) : Prop := ∀ y ∈ x.list, y.nm.size ≤ 140737488351232
theorem NmB.kid {x y : Xt} (h : NmB x) (hy : y ∈ x.ar) : NmB y := fun z hz => h z (by rw [Xt.list_eq]; exact List.mem_cons.2 (.inr (List.mem_flatten.2 ⟨_, List.mem_map_of_mem hy, hz⟩)))
section
variable {H : Type} {enc : TypeId × Value → H} {P : Program} {w : World} {held : Bool}
theorem mem_wAll {e : TypeId} {l : List (DataW H)} {d : DataW H} (hd : d ∈ l) : ∀ n ∈ d.weights P e, n ∈ DataW.weightsAll P e l := by
  induction l with
  | nil => cases hd
  | cons a l ih =>
    intro n hn
    rw [DataW.weightsAll]
    rcases List.mem_cons.1 hd with rfl | hd
    · exact List.mem_append_left _ hn
    · exact List.mem_append_right _ (ih hd n hn)
theorem rd_expr {T : TypeId} {f0 f1 f2 f3 f4 f5 : Field} (hT : P.underlying T = some (.struct #[f0, f1, f2, f3, f4, f5])) (ce : P.cellsOf T = 6)
    (o0 : f0.offset = 0) (o1 : f1.offset = 1) (o2 : f2.offset = 2) (o3 : f3.offset = 3) (o4 : f4.offset = 4) (o5 : f5.offset = 5)
    (c0 : P.cellsOf f0.type = 1) (c1 : P.cellsOf f1.type = 1) (c2 : P.cellsOf f2.type = 1) (c3 : P.cellsOf f3.type = 1) (c4 : P.cellsOf f4.type = 1) (c5 : P.cellsOf f5.type = 1)
    (i0 : P.underlying f0.type = some (.int .i64)) (i1 : P.underlying f1.type = some (.int .i64)) (i2 : P.underlying f2.type = some (.int .i64)) (i3 : P.underlying f3.type = some (.int .i64)) (i4 : P.underlying f4.type = some .string) (i5 : P.underlying f5.type = some (.slice T)) :
    ∀ (fuel : Nat) (cs : List Value) (x : DataW H × List MemPlace), DataW.trod enc P w 0 (fun _ => true) held fuel T cs = some x → (∀ n ∈ x.1.weights P T, n ≤ reachBytes) →
      ∃ e : Xt, cs = [.int .i64 e.k, .int .i64 e.op, .int .i64 e.t, .int .i64 e.v, .string e.nm, .slice e.A e.ar.length e.c] ∧ RdX w w.heap.size e ∧ NmB e := by
  intro fuel
  induction fuel using Nat.strongRecOn with
  | ind fuel ih =>
    intro cs x h hw
    obtain ⟨xs, k, hk, hxy, hlen, hxl, hf⟩ := DataW.trod_struct hT h
    rw [ce] at hlen
    match xs, hxl, cs, hlen with
    | [y0, y1, y2, y3, y4, y5], _, [v0, v1, v2, v3, v4, v5], _ =>
      have g0 := hf 0 f0 rfl
      have g1 := hf 1 f1 rfl
      have g2 := hf 2 f2 rfl
      have g3 := hf 3 f3 rfl
      have g4 := hf 4 f4 rfl
      have g5 := hf 5 f5 rfl
      simp [o0, o1, o2, o3, o4, o5, c0, c1, c2, c3, c4, c5] at g0 g1 g2 g3 g4 g5
      obtain ⟨n0, z0, _⟩ := DataW.trod_int i0 g0
      obtain ⟨n1, z1, _⟩ := DataW.trod_int i1 g1
      obtain ⟨n2, z2, _⟩ := DataW.trod_int i2 g2
      obtain ⟨n3, z3, _⟩ := DataW.trod_int i3 g3
      obtain ⟨s, z4, zy4, hs⟩ := DataW.trod_string i4 g4
      simp only [List.cons.injEq, and_true] at z0 z1 z2 z3 z4
      subst z0; subst z1; subst z2; subst z3; subst z4
      subst hxy
      have hwe : DataW.weights P T (.agg [y0.1, y1.1, y2.1, y3.1, y4.1, y5.1]) = y0.1.weights P f0.type ++ (y1.1.weights P f1.type ++ (y2.1.weights P f2.type ++ (y3.1.weights P f3.type ++ (y4.1.weights P f4.type ++ (y5.1.weights P f5.type ++ []))))) := by
        simp [DataW.weights, DataW.weightsEach, hT]
      have hw4 : ∀ n ∈ y4.1.weights P f4.type, n ≤ reachBytes := fun n hn => hw n (by simp only [List.map_cons, List.map_nil]; rw [hwe]; simp [hn])
      have hw5 : ∀ n ∈ y5.1.weights P f5.type, n ≤ reachBytes := fun n hn => hw n (by simp only [List.map_cons, List.map_nil]; rw [hwe]; simp [hn])
      have hs2 : s.size ≤ 140737488351232 := by
        have := hw4 s.data.toList.length (by rw [zy4]; simp [DataW.weights])
        rw [Array.length_toList] at this
        exact this
      rcases DataW.trod_slice i5 g5 with ⟨hv, _⟩ | ⟨a, len, cap, elems, rest, n, hkn, hv, hx0, _, hl, hm, hel, hx, _, _⟩
      · simp only [List.cons.injEq, and_true] at hv
        subst hv
        refine ⟨.mk n0 n1 n2 n3 s none 0 [], rfl, .mk _ (fun h => absurd rfl h) (fun ad i y h => by cases h) (fun y h => by cases h) ⟨⟨by simp [Xt.ar], hs⟩, Nat.le_refl _⟩, fun y hy => ?_⟩
        rw [Xt.list_eq] at hy
        obtain rfl := List.mem_singleton.1 (show y ∈ [Xt.mk n0 n1 n2 n3 s none 0 []] from hy)
        exact hs2
      · simp only [List.cons.injEq, and_true] at hv
        subst hv
        have key : ∀ i, i < len → ∃ e : Xt, XC w (a.add (i * 6)) e ∧ RdX w w.heap.size e ∧ NmB e := by
          intro i hi
          have h1 := hx i hi
          rw [ce, List.getElem?_eq_getElem (by omega)] at h1
          obtain ⟨cs', h2, h3⟩ := Option.bind_eq_some_iff.1 h1
          obtain ⟨_, hlen', hcell⟩ := World.cells?_some h2
          obtain ⟨e, he, hR, hN⟩ := ih n (by omega) cs' _ h3 fun m hm => hw5 m (by
            rw [hx0]
            simp only [DataW.weights, i5, List.mem_cons, List.mem_append]
            exact .inr (.inl (mem_wAll (List.mem_map_of_mem (List.getElem_mem (by omega))) m hm)))
          subst he
          refine ⟨e, ⟨?_, ?_, ?_, ?_, ?_, ?_⟩, hR, hN⟩
          · have := hcell 0 (by decide); rw [add_add] at this; simpa using this
          · have := hcell 1 (by decide); generalize a.add (i * 6) = b at this ⊢; simpa [Addr.add] using this
          · have := hcell 2 (by decide); generalize a.add (i * 6) = b at this ⊢; simpa [Addr.add] using this
          · have := hcell 3 (by decide); generalize a.add (i * 6) = b at this ⊢; simpa [Addr.add] using this
          · have := hcell 4 (by decide); generalize a.add (i * 6) = b at this ⊢; simpa [Addr.add] using this
          · have := hcell 5 (by decide); generalize a.add (i * 6) = b at this ⊢; simpa [Addr.add] using this
        obtain ⟨l, hll, hp⟩ := choose_list len key
        refine ⟨.mk n0 n1 n2 n3 s (some a) cap l, by rw [show (Xt.mk n0 n1 n2 n3 s (some a) cap l).ar.length = len from hll]; rfl, .mk _ (fun hne => ⟨a, rfl, ?_⟩) (fun ad i y hA hy => ?_) (fun y hy => ?_) ⟨⟨?_, hs⟩, ?_⟩, fun y hy => ?_⟩
        · have hne2 : l ≠ [] := hne
          have h0 : 0 < l.length := List.length_pos_iff.2 hne2
          have := World.block_lt_of_cell? w _ (hp 0 _ (List.getElem?_eq_getElem h0)).1.1
          rwa [add_block] at this
        · obtain rfl : a = ad := Option.some.inj hA
          exact (hp i y hy).1
        · obtain ⟨j, hj⟩ := List.getElem?_of_mem (show y ∈ l from hy)
          exact (hp j y hj).2.1
        · show l.length ≤ maxLen
          omega
        · show l.length ≤ cap
          omega
        · rw [Xt.list_eq] at hy
          rcases List.mem_cons.1 hy with rfl | hy
          · exact hs2
          · obtain ⟨q, hq, hyq⟩ := List.mem_flatten.1 hy
            obtain ⟨z, hz, rfl⟩ := List.mem_map.1 hq
            obtain ⟨j, hj⟩ := List.getElem?_of_mem (show z ∈ l from hz)
            exact (hp j z hj).2.2 y hyq
end
end Go.Proofs.YtfogkcccjemloaaGreatDoor
/- The example of the law. -/
namespace Go.Proofs.YtfogkcccjemloaaGreatDoor
set_option linter.unusedVariables false
set_option linter.unusedSimpArgs false
open Go.RowKit
theorem RdX.leaf {w : World} {B : Nat} (k op t v : Int) (nm : ByteArray) (h : nm.size ≤ maxLen) : RdX w B (.mk k op t v nm none 0 []) :=
  .mk _ (fun h => absurd rfl h) (fun _ _ _ h => by cases h) (fun _ h => by cases h) ⟨⟨Nat.zero_le _, h⟩, Nat.le_refl _⟩
def vC : Xt := .mk 2 0 0 0 ⟨#[99]⟩ none 0 []
def vX : Xt := .mk 2 0 0 0 ⟨#[120]⟩ none 0 []
def k0 : Xt := .mk 1 0 2 0 ⟨#[]⟩ none 0 []
def fbyX (b : Nat) : Xt := .mk 7 0 0 0 ⟨#[]⟩ (some ⟨b, 0, none⟩) 2 [k0, vX]
/-- if c then x else 0 fby x -/
def exX (b : Nat) : Xt := .mk 4 0 0 0 ⟨#[]⟩ (some ⟨b + 1, 0, none⟩) 3 [vC, vX, fbyX b]
theorem nm1 (n : UInt8) : (ByteArray.mk #[n]).size ≤ maxLen := by show 1 ≤ maxLen; unfold maxLen; omega
theorem nm0 : (ByteArray.mk #[]).size ≤ maxLen := Nat.zero_le _
theorem fby_read {w : World} {B b : Nat} (h0 : XC w ⟨b, 0, none⟩ k0) (h1 : XC w ⟨b, 6, none⟩ vX) (hB : b < B) : RdX w B (fbyX b) := by
  refine .mk _ (fun _ => ⟨_, rfl, hB⟩) (fun ad i y hA hy => ?_) (fun y hy => ?_) ⟨⟨by show 2 ≤ maxLen; unfold maxLen; omega, nm0⟩, Nat.le_refl _⟩
  · obtain rfl := Option.some.inj hA
    rcases i with _ | _ | i
    · obtain rfl : k0 = y := Option.some.inj hy
      exact h0
    · obtain rfl : vX = y := Option.some.inj hy
      exact h1
    · cases hy
  · rcases List.mem_cons.1 (show y ∈ [k0, vX] from hy) with rfl | hy
    · exact RdX.leaf _ _ _ _ _ nm0
    · obtain rfl := List.mem_singleton.1 hy
      exact RdX.leaf _ _ _ _ _ (nm1 _)
theorem ex_read {w : World} {B b : Nat} (h0 : XC w ⟨b, 0, none⟩ k0) (h1 : XC w ⟨b, 6, none⟩ vX) (g0 : XC w ⟨b + 1, 0, none⟩ vC) (g1 : XC w ⟨b + 1, 6, none⟩ vX) (g2 : XC w ⟨b + 1, 12, none⟩ (fbyX b)) (hB : b + 1 < B) : RdX w B (exX b) := by
  refine .mk _ (fun _ => ⟨_, rfl, hB⟩) (fun ad i y hA hy => ?_) (fun y hy => ?_) ⟨⟨by show 3 ≤ maxLen; unfold maxLen; omega, nm0⟩, Nat.le_refl _⟩
  · obtain rfl := Option.some.inj hA
    rcases i with _ | _ | _ | i
    · obtain rfl : vC = y := Option.some.inj hy
      exact g0
    · obtain rfl : vX = y := Option.some.inj hy
      exact g1
    · obtain rfl : fbyX b = y := Option.some.inj hy
      exact g2
    · cases hy
  · rcases List.mem_cons.1 (show y ∈ [vC, vX, fbyX b] from hy) with rfl | hy
    · exact RdX.leaf _ _ _ _ _ (nm1 _)
    · rcases List.mem_cons.1 hy with rfl | hy
      · exact RdX.leaf _ _ _ _ _ (nm1 _)
      · obtain rfl := List.mem_singleton.1 hy
        exact fby_read h0 h1 (by omega)
set_option maxHeartbeats 1000000 in
set_option maxRecDepth 20000 in
theorem example_any (w : World) : Calls Tryz.prog 38 #[] w (fun e w' => e = .returned (xV (exX (w.heap.size + 3))) ∧ RdX w' w'.heap.size (exX (w.heap.size + 3)) ∧ Below w.heap.size w w' ∧ w'.heap.size = w.heap.size + 5) := by
  go_enter Tryz.func38, Tryz.ntmps38
  go_wp2
  refine bodyPost_ret (v := xV (exX (w.heap.size + 3))) (by simp [results, Tryz.f38, go_sem, xV, exX, Xt.k, Xt.op, Xt.t, Xt.v, Xt.nm, Xt.A, Xt.c, Xt.ar]) rfl ⟨rfl, ex_read ?_ ?_ ?_ ?_ ?_ (by simp only [World.size_alloc]; omega), (by repeat (first | (with_reducible exact Below.refl _ _) | (with_reducible assumption) | (with_reducible exact bel_box _) | (with_reducible refine bel_step ?_ (by with_reducible assumption)) | (with_reducible refine Below.drew ?_) | (with_reducible refine below_drewN ?_ _) | (with_reducible refine bel_alloc ?_ _))), by simp only [World.size_alloc]⟩
  all_goals (unfold XC; simp [go_sem, k0, vX, vC, fbyX, Xt.k, Xt.op, Xt.t, Xt.v, Xt.nm, Xt.A, Xt.c, Xt.ar])
end Go.Proofs.YtfogkcccjemloaaGreatDoor
/- Has of the reference; rows of names. -/
namespace Go.Proofs.YtfogkcccjemloaaGreatDoor
set_option linter.unusedVariables false
set_option linter.unusedSimpArgs false
open Go.RowKit Go.Sort
def nmC (l : List ByteArray) : List Value := l.map Value.string
/-- A reads as these names, below block B -/
def RdN (w : World) (B : Nat) (A : Option Addr) (l : List ByteArray) : Prop := l ≠ [] → ∃ ad, A = some ad ∧ ad.block < B ∧ ∀ (i : Nat) (y : ByteArray), l[i]? = some y → w.cell? (ad.add i) = some (.string y)
theorem RdN.to {w W : World} {A : Option Addr} {l : List ByteArray} (h : RdN w w.heap.size A l) (hb : Below w.heap.size w W) : RdN W W.heap.size A l := fun hn => by
  obtain ⟨ad, e, hB, hc⟩ := h hn
  have hs := hb.size
  exact ⟨ad, e, by omega, fun i t ht => (hb.cell (by rw [add_block]; exact hB)).trans (hc i t ht)⟩
theorem RdN.at_ {w : World} {B : Nat} {A : Option Addr} {l : List ByteArray} (h : RdN w B A l) {k : Nat} (hk : k < l.length) : ∃ ad y, A = some ad ∧ ad.block < B ∧ l[k]? = some y ∧ w.cell? (ad.add k) = some (.string y) := by
  have he : l[k]? = some l[k] := List.getElem?_eq_getElem hk
  obtain ⟨ad, e, hb, hc⟩ := h (by rintro rfl; simp at hk)
  exact ⟨ad, _, e, hb, he, hc k _ he⟩
theorem RdN.of_own {w : World} {base : Nat} {e : TypeId} {A : Option Addr} {c : Nat} {l : List ByteArray} (h : w.ownsRow base e 1 (.slice A l.length c) l.length (nmC l)) : RdN w w.heap.size A l := fun hn => by
  rcases h.2 with ⟨h1, h2⟩ | ⟨g, cap, cur, h1, h2, h3, h4, h5, h6, h7⟩
  · exact absurd (List.length_eq_zero_iff.1 h2) hn
  · have hA : A = some ⟨g, 0, none⟩ := by injection h1
    subst hA
    refine ⟨_, rfl, (Array.getElem?_eq_some_iff.1 h3).1, fun i y hy => ?_⟩
    have hj : (nmC l)[i]? = some (.string y) := by rw [nmC, List.getElem?_map, hy]; rfl
    rw [(add_add6 g i 0).2.2, cell_of_row w g i cur _ (0, 0) h3]
    rw [← h7, List.getElem?_take] at hj
    split at hj
    · rw [← Array.getElem?_toList]; exact hj
    · cases hj
def hasN (l : List ByteArray) (s : ByteArray) : Bool := l.any fun y => y.toList == s.toList
theorem any_take {l : List ByteArray} {p : ByteArray → Bool} {k : Nat} {y : ByteArray} (h : l[k]? = some y) : (l.take (k + 1)).any p = ((l.take k).any p || p y) := by
  rw [take_succ_of h, List.any_append]; simp
theorem any_hit {l : List ByteArray} {p : ByteArray → Bool} {k : Nat} {y : ByteArray} (h : l[k]? = some y) (hp : p y = true) : l.any p = true := List.any_eq_true.2 ⟨y, List.mem_of_getElem? h, hp⟩
set_option maxHeartbeats 1000000 in
set_option maxRecDepth 20000 in
theorem rhas_any (A : Option Addr) (c : Nat) (l : List ByteArray) (s : ByteArray) (w : World) (hR : RdN w w.heap.size A l) (hl : l.length ≤ 100000) : Calls Tryz.prog 24 #[.slice A l.length c, .string s] w (Bel (.bool (hasN l s)) w) := by
  unfold hasN
  obtain ⟨p, hp⟩ : ∃ p : ByteArray → Bool, (fun y => y.toList == s.toList) = p := ⟨_, rfl⟩
  have hps : ∀ y, (y.toList == s.toList) = p y := fun y => by rw [← hp]
  rw [hp]
  clear hp
  have HA := Lib.hid (fun k y (h : l[k]? = some y) => any_take (p := p) h)
  have HH := Lib.hid (fun k y (h : l[k]? = some y) (q : p y = true) => any_hit (p := p) h q)
  have HP := Lib.hid hps
  clear hps
  go_enter Tryz.func24, Tryz.ntmps24
  go_wp2
  go_loopw [5] (fun i wr => ∃ k : Nat, k ≤ l.length ∧ i = .int .i64 (k : Int) ∧ wr = w ∧ Hid ((l.take k).any p = false)) (fun i _ => l.length - (intOf i).toNat)
  case atStart => exact ⟨0, by omega, rfl, rfl, Lib.hid rfl⟩
  case round =>
    obtain ⟨k, hk, rfl, rfl, hno⟩ := hrel
    by_cases hlt : k < l.length
    · obtain ⟨ad, y, rfl, had, hy, c0⟩ := hR.at_ hlt
      have h1 := HA.out k y hy
      have h2 := HH.out k y hy
      have h3 := HP.out y
      rw [hno.out, Bool.false_or] at h1
      clear hy HA HH HP
      cases q : p y
      · rw [q] at h1 h3
        have H1 := Lib.hid h1
        clear h1 h2 q
        go_wp2
        exact ⟨⟨k + 1, by omega, by congr 1, trivial, H1⟩, by simp [intOf]; omega⟩
      · rw [h2 q]
        rw [q] at h3
        clear h1 h2 q
        go_wp2
        go_ret
        exact ⟨rfl, Below.refl _ _⟩
    · obtain rfl : k = l.length := by omega
      have h1 := hno.out
      rw [List.take_length] at h1
      go_wp2
      go_ret
      exact ⟨by rw [h1]; rfl, Below.refl _ _⟩
end Go.Proofs.YtfogkcccjemloaaGreatDoor
/- span, by whatever test; the tests that among and either make. -/

namespace Go.Proofs.YtfogkcccjemloaaGreatDoor
set_option linter.unusedVariables false
set_option linter.unusedSimpArgs false
open Go.RowKit
/-- how many bytes in front pass a test -/
def sp (p : Int → Bool) (l : List UInt8) : Nat := (l.takeWhile fun c => p ((c.toNat : Nat) : Int)).length
theorem len_toList (s : ByteArray) : s.data.toList.length = s.size := Array.length_toList
theorem byte_get (s : ByteArray) (k : Nat) (h : k < s.size) : s.data.toList[k]? = some s[k] := by
  rw [List.getElem?_eq_getElem (by rw [len_toList]; exact h)]
  rfl
theorem tw_at {α : Type} (p : α → Bool) (l : List α) (i : Nat) (h : i < (l.takeWhile p).length) : ∃ b, l[i]? = some b ∧ p b = true ∧ (l.takeWhile p)[i]? = some b := by
  induction l generalizing i with
  | nil => simp at h
  | cons a r ih =>
    rw [List.takeWhile_cons] at h ⊢
    by_cases ha : p a = true
    · rw [if_pos ha] at h ⊢
      rcases i with _ | i
      · exact ⟨a, rfl, ha, rfl⟩
      · exact ih i (by simpa using h)
    · rw [if_neg ha] at h
      simp at h
theorem tw_end {α : Type} (p : α → Bool) (l : List α) (b : α) (h : l[(l.takeWhile p).length]? = some b) : p b = false := by
  induction l with
  | nil => simp at h
  | cons a r ih =>
    rw [List.takeWhile_cons] at h
    by_cases ha : p a = true
    · rw [if_pos ha] at h
      exact ih (by simpa using h)
    · rw [if_neg ha] at h
      simp at h
      rw [← h]
      simpa using ha
theorem tw_le {α : Type} (p : α → Bool) (l : List α) : (l.takeWhile p).length ≤ l.length := (List.takeWhile_sublist p).length_le
theorem sp_le (p : Int → Bool) (s : ByteArray) : sp p s.data.toList ≤ s.size := by rw [← len_toList]; exact tw_le _ _
theorem sp_at {p : Int → Bool} {s : ByteArray} {k : Nat} (h : k < sp p s.data.toList) (hk : k < s.size) : p ((s[k].toNat : Nat) : Int) = true := by
  obtain ⟨b, h1, h2, _⟩ := tw_at _ _ _ h
  rw [byte_get s k hk] at h1
  obtain rfl : s[k] = b := by simpa using h1
  exact h2
theorem sp_end {p : Int → Bool} {s : ByteArray} (hk : sp p s.data.toList < s.size) : p ((s[sp p s.data.toList].toNat : Nat) : Int) = false :=
  tw_end (fun c : UInt8 => p ((c.toNat : Nat) : Int)) s.data.toList _ (byte_get s _ hk)
set_option maxHeartbeats 400000 in
theorem span_dg (p : Int → Bool) (s : ByteArray) (w : World) (hs : s.size ≤ 9223372036854775807)
    (hc : Hid (∀ W, Below w.heap.size w W → ∀ c : UInt8, Calls Tryz.prog 79 #[.int .u8 ((c.toNat : Nat) : Int)] W (Bel (.bool (p ((c.toNat : Nat) : Int))) W))) :
    Calls Tryz.prog 77 #[.string s, .func (.func 79) #[] #[]] w (Bel (.int .i64 (sp p s.data.toList)) w) := by
  have HA := Lib.hid (fun k => @sp_at p s k)
  have HE := Lib.hid (@sp_end p s)
  have hle := sp_le p s
  generalize sp p s.data.toList = m at *
  go_enter Tryz.func77, Tryz.ntmps77
  go_wp2
  go_loopw [5, 8] (fun u i wr => ∃ k : Nat, k ≤ m ∧ i = .int .i64 k ∧ Below w.heap.size w wr) (fun _ i _ => m - (intOf i).toNat)
  case atStart => exact ⟨0, by omega, rfl, Below.refl _ _⟩
  case round =>
    obtain ⟨k, hk, rfl, hbl⟩ := hrel
    by_cases hlt : k < m
    · have hks : k < s.size := by omega
      have e1 := HA.out k hlt hks
      go_wp2_with (go_at_call 79; refine (hc.out _ hbl _).mono ?_; rintro e w1 ⟨rfl, hb1⟩; rw [e1])
      go_roundw
      case rel => exact ⟨k + 1, by omega, by go_num, (by repeat (first | (with_reducible exact Below.refl _ _) | (with_reducible assumption) | (with_reducible exact bel_box _) | (with_reducible refine bel_step ?_ (by with_reducible assumption)) | (with_reducible refine Below.drew ?_) | (with_reducible refine below_drewN ?_ _) | (with_reducible refine bel_alloc ?_ _)))⟩
      case measure => simp [intOf]; omega
    · obtain rfl : k = m := by omega
      by_cases hks : k < s.size
      · have e1 := HE.out hks
        go_wp2_with (go_at_call 79; refine (hc.out _ hbl _).mono ?_; rintro e w1 ⟨rfl, hb1⟩; rw [e1])
        go_ret
        exact ⟨rfl, (by repeat (first | (with_reducible exact Below.refl _ _) | (with_reducible assumption) | (with_reducible exact bel_box _) | (with_reducible refine bel_step ?_ (by with_reducible assumption)) | (with_reducible refine Below.drew ?_) | (with_reducible refine below_drewN ?_ _) | (with_reducible refine bel_alloc ?_ _)))⟩
      · obtain rfl : k = s.size := by omega
        go_wp2
        go_ret
        exact ⟨rfl, hbl⟩
set_option maxHeartbeats 400000 in
theorem span_am (q : Addr) (p : Int → Bool) (s : ByteArray) (w : World) (hs : s.size ≤ 9223372036854775807)
    (hc : Hid (∀ W, Below w.heap.size w W → ∀ c : UInt8, Calls Tryz.prog 95 #[.int .u8 ((c.toNat : Nat) : Int), .pointer (some q)] W (Bel (.bool (p ((c.toNat : Nat) : Int))) W))) :
    Calls Tryz.prog 77 #[.string s, .func (.func 95) #[] #[.pointer (some q)]] w (Bel (.int .i64 (sp p s.data.toList)) w) := by
  have HA := Lib.hid (fun k => @sp_at p s k)
  have HE := Lib.hid (@sp_end p s)
  have hle := sp_le p s
  generalize sp p s.data.toList = m at *
  go_enter Tryz.func77, Tryz.ntmps77
  go_wp2
  go_loopw [5, 8] (fun u i wr => ∃ k : Nat, k ≤ m ∧ i = .int .i64 k ∧ Below w.heap.size w wr) (fun _ i _ => m - (intOf i).toNat)
  case atStart => exact ⟨0, by omega, rfl, Below.refl _ _⟩
  case round =>
    obtain ⟨k, hk, rfl, hbl⟩ := hrel
    by_cases hlt : k < m
    · have hks : k < s.size := by omega
      have e1 := HA.out k hlt hks
      go_wp2_with (go_at_call 95; refine (hc.out _ hbl _).mono ?_; rintro e w1 ⟨rfl, hb1⟩; rw [e1])
      go_roundw
      case rel => exact ⟨k + 1, by omega, by go_num, (by repeat (first | (with_reducible exact Below.refl _ _) | (with_reducible assumption) | (with_reducible exact bel_box _) | (with_reducible refine bel_step ?_ (by with_reducible assumption)) | (with_reducible refine Below.drew ?_) | (with_reducible refine below_drewN ?_ _) | (with_reducible refine bel_alloc ?_ _)))⟩
      case measure => simp [intOf]; omega
    · obtain rfl : k = m := by omega
      by_cases hks : k < s.size
      · have e1 := HE.out hks
        go_wp2_with (go_at_call 95; refine (hc.out _ hbl _).mono ?_; rintro e w1 ⟨rfl, hb1⟩; rw [e1])
        go_ret
        exact ⟨rfl, (by repeat (first | (with_reducible exact Below.refl _ _) | (with_reducible assumption) | (with_reducible exact bel_box _) | (with_reducible refine bel_step ?_ (by with_reducible assumption)) | (with_reducible refine Below.drew ?_) | (with_reducible refine below_drewN ?_ _) | (with_reducible refine bel_alloc ?_ _)))⟩
      · obtain rfl : k = s.size := by omega
        go_wp2
        go_ret
        exact ⟨rfl, hbl⟩
set_option maxHeartbeats 400000 in
theorem span_ei (q : Addr) (p : Int → Bool) (s : ByteArray) (w : World) (hs : s.size ≤ 9223372036854775807)
    (hc : Hid (∀ W, Below w.heap.size w W → ∀ c : UInt8, Calls Tryz.prog 94 #[.int .u8 ((c.toNat : Nat) : Int), .pointer (some q)] W (Bel (.bool (p ((c.toNat : Nat) : Int))) W))) :
    Calls Tryz.prog 77 #[.string s, .func (.func 94) #[] #[.pointer (some q)]] w (Bel (.int .i64 (sp p s.data.toList)) w) := by
  have HA := Lib.hid (fun k => @sp_at p s k)
  have HE := Lib.hid (@sp_end p s)
  have hle := sp_le p s
  generalize sp p s.data.toList = m at *
  go_enter Tryz.func77, Tryz.ntmps77
  go_wp2
  go_loopw [5, 8] (fun u i wr => ∃ k : Nat, k ≤ m ∧ i = .int .i64 k ∧ Below w.heap.size w wr) (fun _ i _ => m - (intOf i).toNat)
  case atStart => exact ⟨0, by omega, rfl, Below.refl _ _⟩
  case round =>
    obtain ⟨k, hk, rfl, hbl⟩ := hrel
    by_cases hlt : k < m
    · have hks : k < s.size := by omega
      have e1 := HA.out k hlt hks
      go_wp2_with (go_at_call 94; refine (hc.out _ hbl _).mono ?_; rintro e w1 ⟨rfl, hb1⟩; rw [e1])
      go_roundw
      case rel => exact ⟨k + 1, by omega, by go_num, (by repeat (first | (with_reducible exact Below.refl _ _) | (with_reducible assumption) | (with_reducible exact bel_box _) | (with_reducible refine bel_step ?_ (by with_reducible assumption)) | (with_reducible refine Below.drew ?_) | (with_reducible refine below_drewN ?_ _) | (with_reducible refine bel_alloc ?_ _)))⟩
      case measure => simp [intOf]; omega
    · obtain rfl : k = m := by omega
      by_cases hks : k < s.size
      · have e1 := HE.out hks
        go_wp2_with (go_at_call 94; refine (hc.out _ hbl _).mono ?_; rintro e w1 ⟨rfl, hb1⟩; rw [e1])
        go_ret
        exact ⟨rfl, (by repeat (first | (with_reducible exact Below.refl _ _) | (with_reducible assumption) | (with_reducible exact bel_box _) | (with_reducible refine bel_step ?_ (by with_reducible assumption)) | (with_reducible refine Below.drew ?_) | (with_reducible refine below_drewN ?_ _) | (with_reducible refine bel_alloc ?_ _)))⟩
      · obtain rfl : k = s.size := by omega
        go_wp2
        go_ret
        exact ⟨rfl, hbl⟩
end Go.Proofs.YtfogkcccjemloaaGreatDoor
