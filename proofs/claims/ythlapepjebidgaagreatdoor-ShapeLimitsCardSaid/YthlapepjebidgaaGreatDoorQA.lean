/- Texts of one chain, in one file. -/
import Derived.Test.YthlapepjebidgaaGreatDoorRows
import Derived.WalkKit
import Derived.WalkLawsBesides
import Derived.Lib.Hide
import Derived.Deep.Draws
import Derived.Deep.QuietTactic
import Derived.BigQuiet
import Derived.Maps.AppendAt
import Derived.Deep.AppendLies
import Derived.RangeFuncNested
import Derived.RangeFuncBound
import Derived.RangeFuncCalls
import Derived.RangeFuncLeaves
import Derived.RangeFuncFrom
import Derived.Shelf.Abstract
import Derived.Shelf.RegionOpen
import Derived.OwnWalkIn
import Derived.TacticsInMore
import Derived.LoopNIn
import Derived.LoopIn
import Derived.Maps.Range
import Derived.Maps.RangeWalk
import Derived.Lib.QuietBelow
import Derived.Shelf.Strings.Trim
import Derived.Shelf.Small.Utf8
import Derived.Shelf.Small.Strs
import Derived.Shelf.Strconv.Atoi
import Derived.Shelf.Strconv.Itoa0
import Derived.Shelf.Strconv.Itoa1
import Derived.Shelf.LaysM
import Derived.Shelf.Strconv.Itoa2
import Derived.Shelf.Strconv.Itoa3
import Derived.Shelf.Strconv.AtoiErrFast
import Derived.Shelf.Strconv.ParseIntEmpty
import Derived.Shelf.Strconv.AtoiFail
import Derived.Shelf.Strconv.Clone
import Derived.Shelf.Strconv.SyntaxError
import Derived.Shelf.LaysC
import Derived.Shelf.Strconv.ToError
import Derived.Shelf.Strconv.Lower
import Derived.Shelf.Strconv.ParseUint10
import Derived.Shelf.Strconv.ParseUint10Empty
import Derived.Shelf.Strconv.ParseUint10Any
import Derived.Shelf.Strconv.ParseInt10
import Derived.Shelf.Strconv.AtoiLong
import Derived.Shelf.Strconv.AtoiInnerAll
import Derived.Shelf.Strconv.RangeError
import Derived.Shelf.Strconv.ToErrorRange
import Derived.Shelf.Strconv.AtoiAll
import Derived.Shelf.Strconv.ErrVarAll
import Derived.Shelf.Strings.Search1
import Derived.Shelf.Strings.Search2
import Derived.Shelf.Strings.Cut
import Derived.Shelf.Strings.Shaped
import Derived.Shelf.Strings.Prefix
import Derived.Shelf.Unicode.Decode
import Derived.Shelf.Strings.Runes
import Derived.Shelf.Strings.AsciiSet
import Derived.Shelf.Unicode.DecodeSlow
import Derived.Shelf.Unicode.DecodeAny
import Derived.Shelf.Unicode.DecodeLast
import Derived.Shelf.Slices.Equal
import Derived.Shelf.Slices.Empties2
import Derived.Test.YthlapepjebidgaaGreatDoorProg
import Derived.Shelf.Strings.SlTrimAscii
import Derived.IntWalk
import Derived.Deep.RegionHeld3
import Derived.Deep.RegionLaw
import Derived.Deep.OwnRows
/- Words for memory: a slice header whose cells read as a list of values, kept over what leaves the old blocks alone. -/
namespace Go.Proofs.YthlapepjebidgaaGreatDoor
set_option linter.unusedVariables false
set_option linter.unusedSimpArgs false
open Go.RowKit

theorem add_block (a : Addr) (n : Nat) : (a.add n).block = a.block := by unfold Addr.add; split <;> rfl
theorem add_zero' (a : Addr) : a.add 0 = a := by simp [Addr.add]

/-- A and the length of xs are a slice whose elements (one cell each) are xs, in a block below B -/
def Rd (w : World) (B : Nat) (A : Option Addr) (xs : List Value) : Prop :=
  xs ≠ [] → ∃ ad, A = some ad ∧ ad.block < B ∧ ∀ j u, xs[j]? = some u → w.cell? (ad.add j) = some u

theorem Rd.nil (w : World) (B : Nat) (A : Option Addr) : Rd w B A [] := fun h => absurd rfl h
theorem Rd.keep {w w' : World} {B : Nat} {A : Option Addr} {xs : List Value} (h : Rd w B A xs) (hk : ∀ p : Addr, p.block < B → w'.cell? p = w.cell? p) : Rd w' B A xs := fun hn => by
  obtain ⟨ad, e, hb, hc⟩ := h hn
  exact ⟨ad, e, hb, fun j u hu => (hk _ (by rw [add_block]; exact hb)).trans (hc j u hu)⟩
theorem Rd.more {w : World} {B B' : Nat} {A : Option Addr} {xs : List Value} (h : Rd w B A xs) (hB : B ≤ B') : Rd w B' A xs := fun hn => by
  obtain ⟨ad, e, hb, hc⟩ := h hn
  exact ⟨ad, e, by omega, hc⟩
theorem Rd.below {w w' : World} {B : Nat} {A : Option Addr} {xs : List Value} (h : Rd w B A xs) (hb : Below B w w') : Rd w' B A xs := h.keep fun _ hp => hb.cell hp
theorem Rd.drewN {w : World} {B : Nat} {A : Option Addr} {xs : List Value} (h : Rd w B A xs) (k : Nat) : Rd (w.drewN k) B A xs := h
theorem below_drewN {B : Nat} {a w : World} (h : Below B a w) (n : Nat) : Below B a (w.drewN n) := ⟨h.os, h.tape, h.output, h.size, h.block⟩
def bls (l : List Bool) : List Value := l.map Value.bool
theorem take_succ_of {α : Type} {l : List α} {k : Nat} {b : α} (h : l[k]? = some b) : l.take (k+1) = l.take k ++ [b] := by
  rw [List.take_add_one, h]; rfl
theorem Rd.of_own {w : World} {base : Nat} {e : TypeId} {A : Option Addr} {n c : Nat} {xs : List Value} (h : w.ownsRow base e 1 (.slice A n c) n xs) : Rd w w.heap.size A xs := fun hn => by
  have hl : xs.length = n := by simpa using h.1
  have hn' : 0 < n := by
    rcases Nat.eq_zero_or_pos n with h0 | h0
    · exact absurd (List.eq_nil_of_length_eq_zero (hl.trans h0)) hn
    · exact h0
  obtain ⟨g, cap, hv, _, hlt⟩ := h.form hn'
  have hA : A = some ⟨g, 0, none⟩ := by injection hv
  subst hA
  exact ⟨_, rfl, hlt, fun j u hu => h.cells (g := g) rfl j u hu⟩
theorem bel_box {w : World} (o : Obj) : Below w.heap.size w (w.alloc o) := (Below.refl _ _).alloc (Nat.le_refl _) _
theorem bel_step {w W w' : World} (h : Below w.heap.size w W) (hb : Below W.heap.size W w') : Below w.heap.size w w' := h.trans (hb.mono h.size)
theorem bel_alloc {w W : World} (h : Below w.heap.size w W) (o : Obj) : Below w.heap.size w (W.alloc o) := h.alloc h.size o
theorem bcell {W w1 : World} (hb : Below W.heap.size W w1) : (∀ b o, b < W.heap.size → w1.cell? ⟨b, o, none⟩ = W.cell? ⟨b, o, none⟩) ∧ (∀ b o, b < W.heap.size → w1.frozen? ⟨b, o, none⟩ = W.frozen? ⟨b, o, none⟩) ∧ W.heap.size ≤ w1.heap.size :=
  ⟨fun b o h => hb.cell (p := ⟨b, o, none⟩) h, fun b o h => hb.frozen (p := ⟨b, o, none⟩) h, hb.size⟩
/-- a reading at the start is one later -/
theorem Rd.to {w W : World} {A : Option Addr} {xs : List Value} (h : Rd w w.heap.size A xs) (hb : Below w.heap.size w W) : Rd W W.heap.size A xs := (h.below hb).more hb.size
theorem add_add' (a : Addr) (i j : Nat) : (a.add i).add j = a.add (i + j) := by
  unfold Addr.add
  by_cases hi : i = 0 <;> by_cases hj : j = 0 <;> simp [hi, hj, Nat.add_assoc]
theorem Rd.drop {w : World} {B : Nat} {A : Option Addr} {l : List Bool} (h : Rd w B A (bls l)) (k : Nat) : Rd w B (A.map (·.add k)) (bls (l.drop k)) := fun hn => by
  obtain ⟨ad, e, hb, hc⟩ := h (by intro e; apply hn; simp [bls] at e; simp [bls, e])
  refine ⟨ad.add k, by rw [e]; rfl, by rw [add_block]; exact hb, fun j u hu => ?_⟩
  rw [add_add']
  apply hc
  rw [bls, List.getElem?_map, List.getElem?_drop] at hu
  rw [bls, List.getElem?_map]
  exact hu
theorem own_cap {w : World} {base n c : Nat} {e : TypeId} {A : Option Addr} {xs : List Value} (h : w.ownsRow base e 1 (.slice A n c) n xs) : n ≤ c := by
  rcases h.2 with ⟨hv, hn⟩ | ⟨g, cap, cur, hv, _, _, hnc, _⟩
  · omega
  · injection hv with _ _ hc; omega
theorem set2_cells {W : World} {b : Nat} {u v : Value} (h0 : W.cell? ⟨b, 0, none⟩ = some u) (h1 : W.cell? ⟨b, 1, none⟩ = some v) (x y : Value) :
    ((W.setCell ⟨b, 0, none⟩ x).setCell ⟨b, 1, none⟩ y).cell? ⟨b, 0, none⟩ = some x ∧ ((W.setCell ⟨b, 0, none⟩ x).setCell ⟨b, 1, none⟩ y).cell? ⟨b, 1, none⟩ = some y := by
  have e1 : (W.setCell ⟨b, 0, none⟩ x).cell? ⟨b, 1, none⟩ = some v := (World.cell?_setCell_other W _ _ _ (by simp)).trans h1
  refine ⟨?_, World.cell?_setCell_same _ _ _ e1⟩
  rw [World.cell?_setCell_other _ _ _ _ (by simp)]
  exact World.cell?_setCell_same _ _ _ h0
theorem bel_set2 {w W : World} (h : Below w.heap.size w W) {b : Nat} (hb : w.heap.size ≤ b) (x y : Value) : Below w.heap.size w ((W.setCell ⟨b, 0, none⟩ x).setCell ⟨b, 1, none⟩ y) :=
  (h.setCell (p := ⟨b, 0, none⟩) hb x).setCell (p := ⟨b, 1, none⟩) hb y
/-- where there is something, it lies in a block from N on -/
def Nw (N : Nat) (A : Option Addr) (xs : List Value) : Prop := ∀ ad, A = some ad → xs ≠ [] → N ≤ ad.block
theorem Nw.nil (N : Nat) (A : Option Addr) : Nw N A [] := fun _ _ h => absurd rfl h
theorem Nw.mono {N N' : Nat} {A : Option Addr} {xs : List Value} (h : Nw N A xs) (hN : N' ≤ N) : Nw N' A xs := fun ad e hx => Nat.le_trans hN (h ad e hx)
theorem own_new {w : World} {base n c : Nat} {e : TypeId} {A : Option Addr} {xs : List Value} (h : w.ownsRow base e 1 (.slice A n c) n xs) : Nw base A xs := fun ad ha hx => by
  rcases h.2 with ⟨hv, hn⟩ | ⟨g, cap, cur, hv, hb, _⟩
  · have : xs = [] := List.eq_nil_of_length_eq_zero (by have := h.1; omega)
    exact absurd this hx
  · subst ha
    injection hv with h1
    injection h1 with h1
    rw [h1]
    exact hb
theorem Rd.set_lo {w : World} {A : Option Addr} {N : Nat} {xs : List Value} (h : Rd w w.heap.size A xs) (hn : Nw N A xs) {p : Addr} (hp : p.block < N) (u : Value) : Rd (w.setCell p u) (w.setCell p u).heap.size A xs := fun hx => by
  obtain ⟨ad, e, hb, hc⟩ := h hx
  have hN := hn ad e hx
  refine ⟨ad, e, by simpa [World.setCell] using hb, fun j v hv => ?_⟩
  rw [World.cell?_setCell_other _ _ _ _ (fun e2 => by have := congrArg Addr.block e2; rw [add_block] at this; omega)]
  exact hc j v hv
theorem Rd.set2_lo {w : World} {A : Option Addr} {N b : Nat} {xs : List Value} (h : Rd w w.heap.size A xs) (hn : Nw N A xs) (hb : b < N) (x y : Value) :
    Rd ((w.setCell ⟨b, 0, none⟩ x).setCell ⟨b, 1, none⟩ y) ((w.setCell ⟨b, 0, none⟩ x).setCell ⟨b, 1, none⟩ y).heap.size A xs :=
  (h.set_lo hn (p := ⟨b, 0, none⟩) hb x).set_lo hn (p := ⟨b, 1, none⟩) hb y
/-- what a cell holds, whatever it is -/
def rc (w : World) (b i : Nat) : Value := (w.cell? ⟨b, i, none⟩).getD undef
attribute [irreducible] rc
end Go.Proofs.YthlapepjebidgaaGreatDoor
/- Tests of a byte, of both sides. -/
namespace Go.Proofs.YthlapepjebidgaaGreatDoor
set_option linter.unusedVariables false
set_option linter.unusedSimpArgs false
open Go.RowKit
def Bel (v : Value) (w : World) (e : Ending) (w' : World) : Prop := e = .returned v ∧ Below w.heap.size w w'
theorem ret_bool {a b : Bool} (h : a = b) : Ending.returned (.bool a) = .returned (.bool b) := by rw [h]
/-- tests of a byte, as a number -/
def pL (n : Int) : Bool := decide (97 ≤ n ∧ n ≤ 122 ∨ 65 ≤ n ∧ n ≤ 90)
def pG (n : Int) : Bool := decide (48 ≤ n ∧ n ≤ 57)
def pI (n : Int) : Bool := pL n || pG n || n == 95
def pW (n : Int) : Bool := n == 48 || n == 49 || n == 40 || n == 41
theorem letter_any (n : Int) (w : World) : Calls Tryz.prog 133 #[.int .u8 n] w (Bel (.bool (pL n)) w) := by
  go_enter Tryz.func133, Tryz.ntmps133
  go_wp2
  all_goals go_ret
  all_goals refine ⟨ret_bool ?_, (by repeat (first | (with_reducible exact Below.refl _ _) | (with_reducible assumption) | (with_reducible exact bel_box _) | (with_reducible refine bel_step ?_ (by with_reducible assumption)) | (with_reducible refine Below.drew ?_) | (with_reducible refine below_drewN ?_ _) | (with_reducible refine bel_alloc ?_ _)))⟩
  all_goals (first | (rw [eq_comm, pL, decide_eq_true_eq]; omega) | (rw [eq_comm, pL, decide_eq_false_iff_not]; omega) | (rw [Bool.eq_iff_iff]; simp [pL]; omega))
theorem digit_any (n : Int) (w : World) : Calls Tryz.prog 137 #[.int .u8 n] w (Bel (.bool (pG n)) w) := by
  go_enter Tryz.func137, Tryz.ntmps137
  go_wp2
  all_goals go_ret
  all_goals refine ⟨ret_bool ?_, (by repeat (first | (with_reducible exact Below.refl _ _) | (with_reducible assumption) | (with_reducible exact bel_box _) | (with_reducible refine bel_step ?_ (by with_reducible assumption)) | (with_reducible refine Below.drew ?_) | (with_reducible refine below_drewN ?_ _) | (with_reducible refine bel_alloc ?_ _)))⟩
  all_goals (first | (rw [eq_comm, pG, decide_eq_true_eq]; omega) | (rw [eq_comm, pG, decide_eq_false_iff_not]; omega) | (rw [Bool.eq_iff_iff]; simp [pG]; omega))
end Go.Proofs.YthlapepjebidgaaGreatDoor
/- Expressions ar they lie in memory: trees with the addresses of their arguments. -/
namespace Go.Proofs.YthlapepjebidgaaGreatDoor
set_option linter.unusedVariables false
set_option linter.unusedSimpArgs false
open Go.RowKit
inductive Xt where
  | mk (k op t v : Int) (nm : ByteArray) (A : Option Addr) (c : Nat) (ar : List Xt)
def Xt.k : Xt → Int | .mk k _ _ _ _ _ _ _ => k
def Xt.op : Xt → Int | .mk _ op _ _ _ _ _ _ => op
def Xt.t : Xt → Int | .mk _ _ t _ _ _ _ _ => t
def Xt.v : Xt → Int | .mk _ _ _ v _ _ _ _ => v
def Xt.nm : Xt → ByteArray | .mk _ _ _ _ nm _ _ _ => nm
def Xt.A : Xt → Option Addr | .mk _ _ _ _ _ A _ _ => A
def Xt.c : Xt → Nat | .mk _ _ _ _ _ _ c _ => c
def Xt.ar : Xt → List Xt | .mk _ _ _ _ _ _ _ ar => ar
theorem Xt.lt_of_mem {a x : Xt} (h : a ∈ x.ar) : SizeOf.sizeOf a < SizeOf.sizeOf x := by
  cases x with
  | mk k op t v nm A c ar =>
    have := List.sizeOf_lt_of_mem (show a ∈ ar from h)
    simp
    omega
theorem Xt.ind {P : Xt → Prop} (h : ∀ x : Xt, (∀ a ∈ x.ar, P a) → P x) (x : Xt) : P x := by
  generalize hN : SizeOf.sizeOf x = N
  induction N using Nat.strongRecOn generalizing x with
  | ind N ih =>
    subst hN
    exact h x fun a ha => ih _ (Xt.lt_of_mem ha) a rfl
/-- its value -/
def xV (x : Xt) : Value := .agg #[.int .i64 x.k, .int .i64 x.op, .int .i64 x.t, .int .i64 x.v, .string x.nm, .slice x.A x.ar.length x.c]
/-- it lies in six cells -/
def XC (w : World) (a : Addr) (x : Xt) : Prop := w.cell? a = some (.int .i64 x.k) ∧ w.cell? ⟨a.block, a.off+1, none⟩ = some (.int .i64 x.op) ∧ w.cell? ⟨a.block, a.off + 2, none⟩ = some (.int .i64 x.t) ∧ w.cell? ⟨a.block, a.off + 3, none⟩ = some (.int .i64 x.v) ∧ w.cell? ⟨a.block, a.off + 4, none⟩ = some (.string x.nm) ∧ w.cell? ⟨a.block, a.off + 5, none⟩ = some (.slice x.A x.ar.length x.c)
theorem XC.keep {w W : World} {a : Addr} {x : Xt} (h : XC w a x) (hk : ∀ p : Addr, p.block = a.block → W.cell? p = w.cell? p) : XC W a x :=
  ⟨(hk a rfl).trans h.1, (hk ⟨a.block, a.off+1, none⟩ rfl).trans h.2.1, (hk ⟨a.block, a.off + 2, none⟩ rfl).trans h.2.2.1, (hk ⟨a.block, a.off + 3, none⟩ rfl).trans h.2.2.2.1, (hk ⟨a.block, a.off + 4, none⟩ rfl).trans h.2.2.2.2.1, (hk ⟨a.block, a.off + 5, none⟩ rfl).trans h.2.2.2.2.2⟩
/-- the arguments lie in memory, below block B -/
inductive RdX (w : World) (B : Nat) : Xt → Prop
  | mk (x : Xt) (h0 : x.ar ≠ [] → ∃ ad, x.A = some ad ∧ ad.block < B) (h1 : ∀ (ad : Addr) (i : Nat) (y : Xt), x.A = some ad → x.ar[i]? = some y → XC w (ad.add (i * 6)) y) (h2 : ∀ y ∈ x.ar, RdX w B y) (h3 : (x.ar.length ≤ maxLen ∧ x.nm.size ≤ maxLen) ∧ x.ar.length ≤ x.c) : RdX w B x
theorem RdX.blw {w W : World} {B B' : Nat} {x : Xt} (h : RdX w B x) (hb : Below B w W) (hB : B ≤ B') : RdX W B' x := by
  induction h with
  | mk x h0 h1 h2 h3 ih =>
    refine .mk x (fun hn => ?_) (fun ad i y ha hy => ?_) ih h3
    · obtain ⟨ad, e, h⟩ := h0 hn
      exact ⟨ad, e, by omega⟩
    · obtain ⟨ad', e, h⟩ := h0 (by intro e; rw [e] at hy; simp at hy)
      obtain rfl : ad = ad' := Option.some.inj (ha.symm.trans e)
      exact (h1 ad i y ha hy).keep fun p hp => hb.cell (by rw [hp, add_block]; exact h)
theorem RdX.to {w W : World} {x : Xt} (h : RdX w w.heap.size x) (hb : Below w.heap.size w W) : RdX W W.heap.size x := h.blw hb hb.size
theorem RdX.kid {w : World} {B : Nat} {x y : Xt} (h : RdX w B x) (hy : y ∈ x.ar) : RdX w B y := by
  cases h with
  | mk x h0 h1 h2 h3 => exact h2 y hy
theorem RdX.len {w : World} {B : Nat} {x : Xt} (h : RdX w B x) : x.ar.length ≤ maxLen ∧ x.nm.size ≤ maxLen := by
  cases h with
  | mk x h0 h1 h2 h3 => exact h3.1
theorem RdX.cap {w : World} {B : Nat} {x : Xt} (h : RdX w B x) : x.ar.length ≤ x.c := by
  cases h with
  | mk x h0 h1 h2 h3 => exact h3.2
theorem RdX.at_ {w : World} {B : Nat} {x : Xt} (h : RdX w B x) {i : Nat} (hi : i < x.ar.length) : ∃ ad y, x.A = some ad ∧ ad.block < B ∧ x.ar[i]? = some y ∧ y ∈ x.ar ∧ XC w (ad.add (i * 6)) y ∧ RdX w B y := by
  cases h with
  | mk x h0 h1 h2 h3 =>
    obtain ⟨ad, e, hb⟩ := h0 (by intro e; rw [e] at hi; simp at hi)
    have hy : x.ar[i]? = some x.ar[i] := List.getElem?_eq_getElem hi
    exact ⟨ad, _, e, hb, hy, List.mem_of_getElem? hy, h1 ad i _ e hy, h2 _ (List.mem_of_getElem? hy)⟩
/-- how many expressions -/
def Xt.size (x : Xt) : Nat := 1 + (x.ar.attach.map fun a => Xt.size a.1).sum
termination_by SizeOf.sizeOf x
decreasing_by exact Xt.lt_of_mem a.2
theorem Xt.size_eq (x : Xt) : x.size = 1 + (x.ar.map Xt.size).sum := by
  rw [Xt.size]
  congr 2
  simp
def Xt.depth (x : Xt) : Nat := 1 + (x.ar.attach.map fun a => Xt.depth a.1).foldl max 0
termination_by SizeOf.sizeOf x
decreasing_by exact Xt.lt_of_mem a.2
theorem Xt.depth_eq (x : Xt) : x.depth = 1 + (x.ar.map Xt.depth).foldl max 0 := by
  rw [Xt.depth]
  congr 2
  simp
/-- all of them, each before its arguments -/
def Xt.list (x : Xt) : List Xt := x :: (x.ar.attach.map fun a => Xt.list a.1).flatten
termination_by SizeOf.sizeOf x
decreasing_by exact Xt.lt_of_mem a.2
theorem Xt.list_eq (x : Xt) : x.list = x :: (x.ar.map Xt.list).flatten := by
  rw [Xt.list]
  congr 2
  simp
theorem Xt.size_pos (x : Xt) : 1 ≤ x.size := by rw [Xt.size_eq]; omega
theorem list_length (x : Xt) : x.list.length = x.size := by
  induction x using Xt.ind with
  | h x ih =>
    rw [Xt.list_eq, Xt.size_eq, List.length_cons, List.length_flatten, List.map_map, Nat.add_comm]
    congr 2
    exact List.map_congr_left fun a ha => ih a ha
end Go.Proofs.YthlapepjebidgaaGreatDoor
/- Size, Depth, Weigh of the reference. -/
namespace Go.Proofs.YthlapepjebidgaaGreatDoor
set_option linter.unusedVariables false
set_option linter.unusedSimpArgs false
open Go.RowKit
/-- the world in which an expression that came in has its box -/
abbrev bxW (w : World) (x : Xt) : World := w.alloc (.cells #[.int .i64 x.k, .int .i64 x.op, .int .i64 x.t, .int .i64 x.v, .string x.nm, .slice x.A x.ar.length x.c] 24)
theorem bxW_size (w : World) (x : Xt) : (bxW w x).heap.size = w.heap.size+1 := World.size_alloc _ _
theorem bxW_below {w W : World} {x : Xt} (h : Below (bxW w x).heap.size (bxW w x) W) : Below w.heap.size w W := (bel_box _).trans (h.mono (by rw [bxW_size]; omega))
theorem bxW_cells {w W : World} {x : Xt} (h : Below (bxW w x).heap.size (bxW w x) W) :
    W.cell? ⟨w.heap.size, 0, none⟩ = some (.int .i64 x.k) ∧ W.cell? ⟨w.heap.size, 1, none⟩ = some (.int .i64 x.op) ∧ W.cell? ⟨w.heap.size, 2, none⟩ = some (.int .i64 x.t) ∧ W.cell? ⟨w.heap.size, 3, none⟩ = some (.int .i64 x.v) ∧ W.cell? ⟨w.heap.size, 4, none⟩ = some (.string x.nm) ∧ W.cell? ⟨w.heap.size, 5, none⟩ = some (.slice x.A x.ar.length x.c) ∧ w.heap.size < W.heap.size := by
  have hz := h.size
  rw [bxW_size] at hz
  obtain ⟨hc, _, _⟩ := bcell h
  rw [hc _ _ (by rw [bxW_size]; simp), hc _ _ (by rw [bxW_size]; simp), hc _ _ (by rw [bxW_size]; simp), hc _ _ (by rw [bxW_size]; simp), hc _ _ (by rw [bxW_size]; simp), hc _ _ (by rw [bxW_size]; simp)]
  refine ⟨?_, ?_, ?_, ?_, ?_, ?_, by omega⟩ <;> simp [go_sem]
end Go.Proofs.YthlapepjebidgaaGreatDoor
/- Depth of both. -/
namespace Go.Proofs.YthlapepjebidgaaGreatDoor
set_option linter.unusedVariables false
set_option linter.unusedSimpArgs false
open Go.RowKit
theorem parts_max (x : Xt) : ∃ M : Nat → Nat, x.depth = 1 + M x.ar.length ∧ M 0 = 0 ∧ Hid (∀ (k : Nat) (y : Xt), x.ar[k]? = some y → M (k+1) = max (M k) y.depth) := by
  refine ⟨fun k => ((x.ar.take k).map Xt.depth).foldl max 0, ?_, rfl, Lib.hid fun k y hy => ?_⟩
  · simp only [List.take_length]
    exact Xt.depth_eq x
  · show ((x.ar.take (k+1)).map Xt.depth).foldl max 0 = _
    rw [take_succ_of hy, List.map_append, List.foldl_append]
    rfl
theorem foldl_max_le (l : List Nat) (b m : Nat) (hb : b ≤ m) (h : ∀ a ∈ l, a ≤ m) : l.foldl max b ≤ m := by
  induction l generalizing b with
  | nil => exact hb
  | cons a l ih => exact ih _ (by have := h a (by simp); omega) (fun c hc => h c (by simp [hc]))
theorem mem_sum_le (l : List Xt) (a : Xt) (h : a ∈ l) : a.size ≤ (l.map Xt.size).sum := by
  induction l with
  | nil => cases h
  | cons b l ih =>
    rcases List.mem_cons.1 h with rfl | h
    · simp
    · have := ih h; simp; omega
theorem depth_le (x : Xt) : x.depth ≤ x.size := by
  induction x using Xt.ind with
  | h x ih =>
    rw [Xt.depth_eq, Xt.size_eq]
    have : (x.ar.map Xt.depth).foldl max 0 ≤ (x.ar.map Xt.size).sum := foldl_max_le _ _ _ (Nat.zero_le _) fun a ha => by
      obtain ⟨y, hy, rfl⟩ := List.mem_map.1 ha
      exact Nat.le_trans (ih y hy) (mem_sum_le _ _ hy)
    omega
theorem size_kid {x y : Xt} (h : y ∈ x.ar) : y.size < x.size := by
  rw [Xt.size_eq x]
  have := mem_sum_le _ _ h
  omega
set_option maxHeartbeats 1000000 in
set_option maxRecDepth 20000 in
theorem depth_any (x : Xt) : ∀ w, RdX w w.heap.size x → x.size ≤ 1048576 → Calls Tryz.prog 36 #[xV x] w (Bel (.int .i64 (x.depth : Nat)) w) := by
  induction x using Xt.ind with
  | h x ih =>
    intro w hX hS
    have h9 := hX.len.1
    unfold maxLen at h9
    have HX := Lib.hid hX
    have IH := Lib.hid ih
    have HK := Lib.hid (fun y (h : y ∈ x.ar) => size_kid h)
    have hdl := depth_le x
    clear hX ih
    obtain ⟨M, hM, hM0, HM⟩ := parts_max x
    rw [hM] at hdl ⊢
    clear hM
    simp only [xV] at IH ⊢
    go_enter Tryz.func36, Tryz.ntmps36
    go_wp2
    go_loopw [3, 9] (fun n i wr => ∃ k : Nat, k ≤ x.ar.length ∧ i = .int .i64 (k : Int) ∧ n = .int .i64 (M k : Int) ∧ Below (bxW w x).heap.size (bxW w x) wr) (fun _ i _ => x.ar.length - (intOf i).toNat)
    case atStart => exact ⟨0, by omega, rfl, by rw [hM0]; rfl, Below.refl _ _⟩
    case round =>
      obtain ⟨k, hk, rfl, rfl, hbl⟩ := hrel
      have hBW := bxW_below hbl
      by_cases hlt : k < x.ar.length
      · obtain ⟨ad, y, hA, had, hy, hm, ⟨c0, c1, c2, c3, c4, c5⟩, hr⟩ := (HX.out.to hBW).at_ hlt
        rw [hA]
        clear hA
        have hn1 := HM.out k y hy
        have hys := HK.out y hm
        clear hy
        go_wp2_with (go_at_call 36; (with_reducible refine (IH.out y hm _ (hr.to ?_) (by omega)).mono ?_); (focus ((repeat (first | (with_reducible exact Below.refl _ _) | (with_reducible assumption) | (with_reducible exact bel_box _) | (with_reducible refine bel_step ?_ (by with_reducible assumption)) | (with_reducible refine Below.drew ?_) | (with_reducible refine below_drewN ?_ _) | (with_reducible refine bel_alloc ?_ _))); done)); rintro e w1 ⟨rfl, hb1⟩)
        all_goals exact ⟨⟨k+1, by omega, by congr 1, by congr 1; omega, (by repeat (first | (with_reducible exact Below.refl _ _) | (with_reducible assumption) | (with_reducible exact bel_box _) | (with_reducible refine bel_step ?_ (by with_reducible assumption)) | (with_reducible refine Below.drew ?_) | (with_reducible refine below_drewN ?_ _) | (with_reducible refine bel_alloc ?_ _)))⟩, by simp [intOf]; omega⟩
      · obtain rfl : k = x.ar.length := by omega
        go_wp2
        go_ret
        exact ⟨congrArg (fun z : Int => Ending.returned (.int .i64 z)) (by omega), hBW⟩
end Go.Proofs.YthlapepjebidgaaGreatDoor
/- walk of the program: the iterator over an expression. -/
namespace Go.Proofs.YthlapepjebidgaaGreatDoor
set_option linter.unusedVariables false
set_option linter.unusedSimpArgs false
open Go.RowKit Go.Shelf
attribute [local go_sem] Oper.semAt_some
theorem room_none {F : Fence} (hd : F.depth = none) (k : Nat) : F.room k := fun d h => by rw [hd] at h; cases h
theorem round_any {F : Fence} (hd : F.depth = none) {m m' : Nat} {P : Program} {l : Nat} {f : FuncId} {tmps : Array Value} {assign body : Code} {w : World} {R : Ending → World → Prop}
    (h : RoundIn F m P l f tmps assign body w R) : RoundIn F m' P l f tmps assign body w R := ⟨h.1, fun c cs _ => h.2 c cs (room_none hd _)⟩
theorem yield_any {F : Fence} (hd : F.depth = none) {m : Nat} (m' : Nat) {P : Program} {l : Nat} {args : Array Value} {W : World} {R : Ending → World → Prop} (h : YieldAt F m P l args W R) : YieldAt F m' P l args W R := by
  obtain ⟨fn, tmps, assign, body, hy, hR⟩ := h
  exact ⟨fn, tmps, assign, body, hy, round_any hd hR⟩
theorem below_grown {W W' : World} (h : Below W.heap.size W W') : W.grownBy W' none := ⟨h.os, h.tape, h.output, h.size, fun k hk _ => h.block k hk⟩
theorem abides_below {β : Type} {B : Nat} {J : β → World → Prop} (h : AbidesFrom B J) {s : β} {W W' : World} (hs : J s W) (hb : Below W.heap.size W W') : J s W' :=
  h s W W' none hs (below_grown hb) (fun r e => by cases e)
set_option maxHeartbeats 400000 in
theorem arguments_any (x : Xt) (w : World) : Calls Tryz.prog 29 #[xV x] w (Bel (.slice x.A x.ar.length x.c) w) := by
  simp only [xV]
  go_enter Tryz.func29, Tryz.ntmps29
  go_wp2
  go_ret
  exact ⟨rfl, (by repeat (first | (with_reducible exact Below.refl _ _) | (with_reducible assumption) | (with_reducible exact bel_box _) | (with_reducible refine bel_step ?_ (by with_reducible assumption)) | (with_reducible refine Below.drew ?_) | (with_reducible refine below_drewN ?_ _) | (with_reducible refine bel_alloc ?_ _)))⟩
/-- what a round leaves: all cells, but those of the blocks in S -/
def KX (S : Nat → Prop) (W W' : World) : Prop := W.heap.size ≤ W'.heap.size ∧ ∀ k o, ¬ S k → W.heap[k]? = some o → o.isCells = true → W'.heap[k]? = some o
theorem KX.refl (S : Nat → Prop) (W : World) : KX S W W := ⟨Nat.le_refl _, fun _ _ _ h _ => h⟩
theorem KX.trans {S : Nat → Prop} {A B C : World} (h : KX S A B) (g : KX S B C) : KX S A C := ⟨Nat.le_trans h.1 g.1, fun k o hs ho hc => g.2 k o hs (h.2 k o hs ho hc) hc⟩
theorem KX.of_below {S : Nat → Prop} {W W' : World} (h : Below W.heap.size W W') : KX S W W' := ⟨h.size, fun k o _ ho _ => (h.block k (Array.getElem?_eq_some_iff.1 ho).1).trans ho⟩
theorem KX.cell {S : Nat → Prop} {W W' : World} (h : KX S W W') {a : Addr} {v : Value} (hs : ¬ S a.block) (hc : W.cell? a = some v) : W'.cell? a = some v := by
  obtain ⟨o, ho, hk⟩ := cells_of_cell hc
  exact (World.cell?_of_block ((h.2 _ o hs ho hk).trans ho.symm)).trans hc
theorem KX.frozen {S : Nat → Prop} {W W' : World} (h : KX S W W') {a : Addr} {v : Value} (hs : ¬ S a.block) (hc : W.cell? a = some v) : W'.frozen? a = W.frozen? a := by
  obtain ⟨o, ho, hk⟩ := cells_of_cell hc
  exact World.frozen?_of_block ((h.2 _ o hs ho hk).trans ho.symm)
theorem KX.put {S : Nat → Prop} (W : World) (l : Nat) (o o' : Obj) (ho : W.heap[l]? = some o) (hc : o.isCells = false) : KX S W (W.putObj l o') := by
  refine ⟨by simp, fun k q _ hq hqc => ?_⟩
  rw [World.putObj_heap_other (fun e => by subst e; rw [ho] at hq; injection hq with hq; subst hq; rw [hc] at hqc; cases hqc)]
  exact hq
theorem RdX.kx {S : Nat → Prop} {W W' : World} {B : Nat} {x : Xt} (h : RdX W B x) (hk : KX S W W') (hS : ∀ k, S k → B ≤ k) : RdX W' B x := by
  induction h with
  | mk x h0 h1 h2 h3 ih =>
    refine .mk x h0 (fun ad i y ha hy => ?_) ih h3
    obtain ⟨ad', e, hb⟩ := h0 (by intro e; rw [e] at hy; simp at hy)
    obtain rfl : ad = ad' := Option.some.inj (ha.symm.trans e)
    have hn : ¬ S (ad.add (i * 6)).block := fun hs => by have := hS _ hs; rw [add_block] at this; omega
    obtain ⟨c0, c1, c2, c3, c4, c5⟩ := h1 ad i y ha hy
    exact ⟨hk.cell hn c0, hk.cell (a := ⟨_, _, none⟩) hn c1, hk.cell (a := ⟨_, _, none⟩) hn c2, hk.cell (a := ⟨_, _, none⟩) hn c3, hk.cell (a := ⟨_, _, none⟩) hn c4, hk.cell (a := ⟨_, _, none⟩) hn c5⟩
theorem bx_box (w : World) (x : Xt) : (bxW w x).cell? ⟨w.heap.size, 0, none⟩ = some (.int .i64 x.k) ∧ (bxW w x).cell? ⟨w.heap.size, 1, none⟩ = some (.int .i64 x.op) ∧ (bxW w x).cell? ⟨w.heap.size, 2, none⟩ = some (.int .i64 x.t) ∧ (bxW w x).cell? ⟨w.heap.size, 3, none⟩ = some (.int .i64 x.v) ∧ (bxW w x).cell? ⟨w.heap.size, 4, none⟩ = some (.string x.nm) ∧ (bxW w x).cell? ⟨w.heap.size, 5, none⟩ = some (.slice x.A x.ar.length x.c) := by
  obtain ⟨b0, b1, b2, b3, b4, b5, _⟩ := bxW_cells (w := w) (x := x) (Below.refl _ _)
  exact ⟨b0, b1, b2, b3, b4, b5⟩
/-- what has come of the arguments, by how many are over -/
theorem parts_list (x : Xt) : ∃ L : Nat → List Xt, x.list = x :: L x.ar.length ∧ L 0 = [] ∧ Hid (∀ (k : Nat) (y : Xt), x.ar[k]? = some y → L (k+1) = L k ++ y.list ∧ (L k).length + y.size+1 ≤ x.size ∧ ∃ r, L k ++ y.list ++ r = L x.ar.length) := by
  refine ⟨fun k => ((x.ar.take k).map Xt.list).flatten, ?_, rfl, Lib.hid fun k y hy => ?_⟩
  · simp only [List.take_length]
    exact Xt.list_eq x
  · have e1 : ((x.ar.take (k+1)).map Xt.list).flatten = ((x.ar.take k).map Xt.list).flatten ++ y.list := by
      rw [take_succ_of hy, List.map_append, List.flatten_append]
      simp
    have e2 : ((x.ar.take k).map Xt.list).flatten ++ y.list ++ ((x.ar.drop (k+1)).map Xt.list).flatten = ((x.ar.take x.ar.length).map Xt.list).flatten := by
      rw [← e1, ← List.flatten_append, ← List.map_append, List.take_append_drop, List.take_length]
    refine ⟨e1, ?_, _, e2⟩
    have h1 := congrArg List.length e2
    have h2 := list_length x
    rw [Xt.list_eq, List.length_cons] at h2
    rw [List.take_length] at h1
    rw [List.length_append, List.length_append, list_length y] at h1
    simp only
    omega
set_option maxRecDepth 100000 in
set_option maxHeartbeats 4000000 in
theorem walk_each_in (l n₀ B : Nat) (N : Nat) (S : Nat → Prop) (hS : ∀ k, S k → n₀ ≤ k ∧ k < B) (J Jx : List Xt → World → Prop) (hJ : AbidesFrom B J) (P : Xt → Prop)
    (hY : ∀ m pre x W, P x → J pre W → pre.length < N → YieldAt Fence.wide m Tryz.prog l #[xV x] W fun e W' =>
      (e = .returned (.bool true) ∧ J (pre ++ [x]) W' ∧ KX S W W') ∨ (e = .returned (.bool false) ∧ Jx (pre ++ [x]) W')) (x : Xt) :
    ∀ (n : Nat) (pre : List Xt) (W : World), (∀ y ∈ x.list, P y) → RdX W n₀ x → B ≤ W.heap.size → J pre W → pre.length + x.size ≤ N →
      CallsIn Fence.wide n Tryz.prog 68 #[xV x, .func (.func 29) #[] #[], .func (.yield l) #[] #[]] W fun e W' =>
        (e = .returned (.bool true) ∧ J (pre ++ x.list) W' ∧ KX S W W') ∨ (e = .returned (.bool false) ∧ ∃ q, q <+: x.list ∧ Jx (pre ++ q) W') := by
  induction x using Xt.ind with
  | h x ih =>
    intro n pre W hP hX hB hj hN
    have hdd : ∀ k : Nat, (Fence.wide.depth.isSome = true → 1 ≤ k) := fun k h => by cases h
    have h9 := hX.len.1
    unfold maxLen at h9
    have hx1 := Xt.size_pos x
    have hns : ∀ k, B ≤ k → ¬ S k := fun k hk hs => by have := (hS k hs).2; omega
    obtain ⟨b0, b1, b2, b3, b4, b5⟩ := bx_box W x
    -- the round at x itself, with what the walk wants next beside it
    have hy0 := YieldAt.mono (R' := fun e W2 =>
        (e = .returned (.bool true) ∧ J (pre ++ [x]) W2 ∧ KX S W W2 ∧ RdX W2 n₀ x ∧ W.heap.size < W2.heap.size ∧ W2.cell? ⟨W.heap.size, 0, none⟩ = some (.int .i64 x.k) ∧ W2.cell? ⟨W.heap.size, 1, none⟩ = some (.int .i64 x.op) ∧ W2.cell? ⟨W.heap.size, 2, none⟩ = some (.int .i64 x.t) ∧ W2.cell? ⟨W.heap.size, 3, none⟩ = some (.int .i64 x.v) ∧ W2.cell? ⟨W.heap.size, 4, none⟩ = some (.string x.nm) ∧ W2.cell? ⟨W.heap.size, 5, none⟩ = some (.slice x.A x.ar.length x.c)) ∨
        (e = .returned (.bool false) ∧ Jx (pre ++ [x]) W2)) (hY (n - 1) pre x (bxW W x) (hP x (by rw [Xt.list_eq]; simp)) (abides_below hJ hj (bel_box _)) (by omega)) fun e W2 h => h.elim (fun ⟨he, hj2, hk⟩ => .inl ⟨he, hj2, (KX.of_below (bel_box _)).trans hk, (hX.kx (KX.of_below (bel_box _)) (fun k hs => (hS k hs).1)).kx hk (fun k hs => (hS k hs).1), by have := hk.1; rw [bxW_size] at this; omega,
          hk.cell (a := ⟨_, _, none⟩) (hns _ hB) b0, hk.cell (a := ⟨_, _, none⟩) (hns _ hB) b1, hk.cell (a := ⟨_, _, none⟩) (hns _ hB) b2, hk.cell (a := ⟨_, _, none⟩) (hns _ hB) b3, hk.cell (a := ⟨_, _, none⟩) (hns _ hB) b4, hk.cell (a := ⟨_, _, none⟩) (hns _ hB) b5⟩) .inr
    have IH := Lib.hid ih
    have HX := Lib.hid hX
    have HP := Lib.hid hP
    obtain ⟨L, hL, hL0, HL⟩ := parts_list x
    rw [hL] at hP
    have HPL := Lib.hid hP
    clear hP HP
    rw [hL]
    have HA := Lib.hid (fun W => arguments_any x W)
    clear hX ih b0 b1 b2 b3 b4 b5 hY
    simp only [xV] at hy0 HA IH ⊢
    obtain ⟨fn, tmps, assign, body, hy, hR⟩ := hy0
    refine callsIn_of_wp Tryz.func68 rfl trivial ?_ rfl
    simp only [Tryz.ntmps68, List.size_toArray, List.length_cons, List.length_nil, Nat.reduceAdd, Nat.reduceSub, Array.replicate_succ, Array.replicate_zero, List.push_toArray, List.append_toArray, List.nil_append, List.cons_append]
    gi_wp2_with (first
      | ((try refine ⟨hdd _, ?_⟩); refine hR.mono ?_; clear hR; rintro e W2 (⟨rfl, hJ2, hk2, hX2, hz2, d0, d1, d2, d3, d4, d5⟩ | ⟨rfl, hx2⟩))
      | (refine ⟨trivial, hdd _, ?_⟩; gi_at_call 29; refine (callsIn_wide.2 (HA.out _)).mono ?_; rintro e W3 ⟨rfl, hb3⟩))
    · clear HA hy
      have hJ3 := abides_below hJ hJ2 hb3
      have hk3 : KX S W W3 := hk2.trans (KX.of_below hb3)
      clear hX2 hz2 d0 d1 d2 d3 d4 d5 hJ2 hk2 hb3
      gi_loopw [17] (fun i wr => ∃ k : Nat, k ≤ x.ar.length ∧ i = .int .i64 (k : Int) ∧ J (pre ++ x :: L k) wr ∧ KX S W wr) (fun i _ => x.ar.length - (intOf i).toNat)
      case atStart => exact ⟨0, by omega, rfl, by rw [hL0]; exact hJ3, hk3⟩
      case round =>
        obtain ⟨k, hk, rfl, hJk, hkk⟩ := hrel
        by_cases hlt : k < x.ar.length
        · have hXr := HX.out.kx hkk (fun k hs => (hS k hs).1)
          obtain ⟨ad, y, hA, had, hy, hm, ⟨c0, c1, c2, c3, c4, c5⟩, hr⟩ := hXr.at_ hlt
          obtain ⟨e1, e2, r, e3⟩ := HL.out k y hy
          have hcall := (IH.out y hm (n - 1) (pre ++ x :: L k) (bxW wr y) (fun z hz => HPL.out z (List.mem_cons.2 (.inr (by rw [← e3]; simp [hz])))) (hr.kx (KX.of_below (S := S) (bel_box _)) (fun k hs => (hS k hs).1)) (by rw [bxW_size]; have := hkk.1; omega) (abides_below hJ hJk (bel_box _)) (by simp only [List.length_append, List.length_cons]; omega)).mono (R' := fun e W5 =>
            (e = .returned (.bool true) ∧ J (pre ++ x :: L (k+1)) W5 ∧ KX S W W5) ∨ (e = .returned (.bool false) ∧ ∃ q, q <+: x :: L x.ar.length ∧ Jx (pre ++ q) W5)) (fun e W5 h => h.elim
              (fun ⟨he, hj5, hk5⟩ => .inl ⟨he, by rw [e1]; simpa [List.append_assoc] using hj5, (hkk.trans (KX.of_below (bel_box _))).trans hk5⟩)
              (fun ⟨he, q, ⟨t, ht⟩, hx5⟩ => .inr ⟨he, x :: L k ++ q, ⟨t ++ r, by rw [← e3, ← ht]; simp [List.append_assoc]⟩, by simpa [List.append_assoc] using hx5⟩))
          have HC := Lib.hid hcall
          clear hcall hXr hr e1 e2 e3 hy hJk hkk IH HL HPL
          rw [hA]
          clear hA
          gi_wp2_with (refine ⟨trivial, hdd _, ?_⟩; gi_at_call 68; refine HC.out.mono ?_; clear HC; rintro e W5 (⟨rfl, hJ5, hk5⟩ | ⟨rfl, q, hq, hx5⟩))
          · exact ⟨⟨k+1, by omega, by congr 1, hJ5, hk5⟩, by simp [intOf]; omega⟩
          · go_ret
            exact .inr ⟨rfl, q, hq, hx5⟩
        · obtain rfl : k = x.ar.length := by omega
          gi_wp2
          go_ret
          exact .inl ⟨rfl, hJk, hkk⟩
    · go_ret
      exact .inr ⟨rfl, [x], ⟨L x.ar.length, rfl⟩, hx2⟩
end Go.Proofs.YthlapepjebidgaaGreatDoor
/- within of the program, and Size. -/
namespace Go.Proofs.YthlapepjebidgaaGreatDoor
set_option linter.unusedVariables false
set_option linter.unusedSimpArgs false
open Go.RowKit Go.Shelf
attribute [local go_sem] Oper.semAt_some
theorem KX.set {S : Nat → Prop} {W : World} {a : Addr} (hs : S a.block) (v : Value) : KX S W (W.setCell a v) := by
  refine ⟨by simp [World.setCell], fun k o hk ho _ => ?_⟩
  rw [heap_setCell_other W a k v (fun e => hk (by rw [e]; exact hs))]
  exact ho
theorem KX_t {S : Nat → Prop} : ∀ {A B C : World}, KX S A B → KX S B C → KX S A C := fun h g => h.trans g
theorem KX_b {S : Nat → Prop} {N : Nat} : ∀ (W : World) (l : Nat) (o o' : Obj), N ≤ l → W.heap[l]? = some o → o.isCells = false → o.isWalk = false → KX S W (W.putObj l o') := fun W l o o' _ ho hc _ => KX.put W l o o' ho hc
set_option maxHeartbeats 400000 in
/-- the closure that within hands back: e in a box of six cells, parts in a box -/
theorem within_any (x : Xt) (f : Nat) (w : World) : Calls Tryz.prog 28 #[xV x, .func (.func f) #[] #[]] w (fun e w' => e = .returned (.func (.func 67) #[] #[.pointer (some ⟨w.heap.size, 0, none⟩), .pointer (some ⟨w.heap.size+1, 0, none⟩)]) ∧ w' = (bxW w x).alloc (.cells #[.func (.func f) #[] #[]] 30)) := by
  simp only [xV]
  go_enter Tryz.func28, Tryz.ntmps28
  go_wp2
  go_ret
  exact ⟨rfl, rfl⟩
set_option maxHeartbeats 1000000 in
set_option maxRecDepth 100000 in
/-- what within hands back yields the expressions in preorder -/
theorem within_stops (n be bp n₀ : Nat) (S : Nat → Prop) (x : Xt) (w : World) (hS : ∀ k, S k → n₀ ≤ k ∧ k < w.heap.size) (hn₀ : n₀ ≤ w.heap.size) (hbe : be < w.heap.size) (hbp : bp < w.heap.size) (hX : RdX w n₀ x)
    (c0 : w.cell? ⟨be, 0, none⟩ = some (.int .i64 x.k)) (c1 : w.cell? ⟨be, 1, none⟩ = some (.int .i64 x.op)) (c2 : w.cell? ⟨be, 2, none⟩ = some (.int .i64 x.t)) (c3 : w.cell? ⟨be, 3, none⟩ = some (.int .i64 x.v)) (c4 : w.cell? ⟨be, 4, none⟩ = some (.string x.nm)) (c5 : w.cell? ⟨be, 5, none⟩ = some (.slice x.A x.ar.length x.c)) (cp : w.cell? ⟨bp, 0, none⟩ = some (.func (.func 29) #[] #[])) :
    SeqStopsK Fence.wide n Tryz.prog 67 #[.pointer (some ⟨be, 0, none⟩), .pointer (some ⟨bp, 0, none⟩)] (fun y : Xt => #[xV y]) (KX S) (fun ys => ys = x.list) (fun pre => pre <+: x.list) x.size w := by
  intro l J Jx W hW hJ _ hY h0
  have hdd : ∀ k : Nat, (Fence.wide.depth.isSome = true → 1 ≤ k) := fun k h => by cases h
  have hWs := hW.size
  have d0 := (hW.cell (p := ⟨be, 0, none⟩) hbe).trans c0
  have d1 := (hW.cell (p := ⟨be, 1, none⟩) hbe).trans c1
  have d2 := (hW.cell (p := ⟨be, 2, none⟩) hbe).trans c2
  have d3 := (hW.cell (p := ⟨be, 3, none⟩) hbe).trans c3
  have d4 := (hW.cell (p := ⟨be, 4, none⟩) hbe).trans c4
  have d5 := (hW.cell (p := ⟨be, 5, none⟩) hbe).trans c5
  have dp := (hW.cell (p := ⟨bp, 0, none⟩) hbp).trans cp
  have hp := walk_each_in l n₀ W.heap.size x.size S (fun k hs => ⟨(hS k hs).1, by have := (hS k hs).2; omega⟩) J Jx hJ (fun _ => True) (fun m pre y W1 _ hj hl => yield_any rfl m (hY pre y W1 hj hl)) x (n - 1) [] W (fun _ _ => trivial) (hX.blw (hW.mono hn₀) (Nat.le_refl _)) (Nat.le_refl _) h0 (by simp)
  simp only [List.nil_append, xV] at hp
  clear hY c0 c1 c2 c3 c4 c5 cp
  simp only [List.append_toArray, List.cons_append, List.nil_append, Array.append_eq_append] at *
  refine callsIn_of_wp Tryz.func67 rfl trivial ?_ rfl
  simp only [Tryz.ntmps67, List.size_toArray, List.length_cons, List.length_nil, Nat.reduceAdd, Nat.reduceSub, Array.replicate_succ, Array.replicate_zero, List.push_toArray, List.append_toArray, List.nil_append, List.cons_append]
  gi_wp2_with (refine ⟨trivial, hdd _, ?_⟩; gi_at_call 68; refine hp.mono ?_; clear hp; rintro e W1 (⟨rfl, hJ1, _⟩ | ⟨rfl, q, hq, hx⟩))
  · go_end0
    exact ⟨⟨_, rfl⟩, .inl ⟨_, rfl, hJ1⟩⟩
  · go_end0
    exact ⟨⟨_, rfl⟩, .inr ⟨q, hq, hx⟩⟩
set_option maxHeartbeats 2000000 in
set_option maxRecDepth 100000 in
theorem size_any (x : Xt) (w : World) (hX : RdX w w.heap.size x) (hs : x.size ≤ 1048576) : Calls Tryz.prog 35 #[xV x] w (Bel (.int .i64 (x.size : Nat)) w) := by
  have hdd : ∀ k : Nat, (Fence.wide.depth.isSome = true → 1 ≤ k) := fun k h => by cases h
  have KW := Lib.hid (fun W => within_any x 29 W)
  have HX := Lib.hid hX
  clear hX
  simp only [xV] at KW ⊢
  refine (callsIn_wide (n := 3)).1 ?_
  refine callsIn_of_wp_marks Tryz.func35 rfl trivial ?_ rfl
  simp only [Tryz.ntmps35, List.size_toArray, List.length_cons, List.length_nil, Nat.reduceAdd, Nat.reduceSub, Array.replicate_succ, Array.replicate_zero, List.push_toArray, List.append_toArray, List.nil_append, List.cons_append]
  gi_wp2_with (refine ⟨trivial, ?_⟩; gi_at_call 28; refine (callsIn_wide.2 (KW.out _)).mono ?_; rintro e W1 ⟨rfl, rfl⟩)
  obtain ⟨W0, hW0⟩ : ∃ W0, ((bxW ((bxW w x).alloc (.cells #[.int .i64 0] 3)) x).alloc (.cells #[.func (.func 29) #[] #[]] 30)) = W0 := ⟨_, rfl⟩
  have hV : Below (bxW ((bxW w x).alloc (.cells #[.int .i64 0] 3)) x).heap.size (bxW ((bxW w x).alloc (.cells #[.int .i64 0] 3)) x) W0 := by rw [← hW0]; exact bel_box _
  obtain ⟨b0, b1, b2, b3, b4, b5, _⟩ := bxW_cells hV
  have hz : W0.heap.size = w.heap.size + 4 := by rw [← hW0]; simp only [World.size_alloc]
  have hz1 : ((bxW w x).alloc (.cells #[.int .i64 0] 3)).heap.size = w.heap.size + 2 := by simp only [World.size_alloc]
  have hB1 : Below ((bxW w x).alloc (.cells #[.int .i64 0] 3)).heap.size ((bxW w x).alloc (.cells #[.int .i64 0] 3)) W0 := bxW_below hV
  have hB0 : Below w.heap.size w W0 := (bxW_below (bel_box _)).trans (hB1.mono (by rw [hz1]; omega))
  have hc : W0.cell? ⟨w.heap.size+1, 0, none⟩ = some (.int .i64 0) := (hB1.cell (p := ⟨w.heap.size+1, 0, none⟩) (by rw [hz1]; simp)).trans (by simp [go_sem])
  have hf : W0.frozen? ⟨w.heap.size+1, 0, none⟩ = false := (hB1.frozen (p := ⟨w.heap.size+1, 0, none⟩) (by rw [hz1]; simp)).trans (by simp [go_sem])
  have cp : W0.cell? ⟨w.heap.size + 3, 0, none⟩ = some (.func (.func 29) #[] #[]) := by rw [← hW0]; simp [go_sem]
  rw [hz1] at b0 b1 b2 b3 b4 b5
  have hst := within_stops (3 - 1) (w.heap.size + 2) (w.heap.size + 3) w.heap.size (fun k => k = w.heap.size+1) x W0 (fun k hk => by subst hk; omega) (by omega) (by omega) (by omega) (HX.out.blw hB0 (Nat.le_refl _)) b0 b1 b2 b3 b4 b5 cp
  rw [show ((bxW ((w.alloc (Obj.cells #[.int .i64 x.k, .int .i64 x.op, .int .i64 x.t, .int .i64 x.v, .string x.nm, .slice x.A x.ar.length x.c] 24)).alloc (.cells #[.int .i64 0] 3)) x).alloc (.cells #[.func (.func 29) #[] #[]] 30)) = W0 from hW0]
  clear hW0 hV hB1 b0 b1 b2 b3 b4 b5 cp hz1 KW HX
  have hll := list_length x
  refine wpIn_rangeFunc_ownF rfl (by decide) (gf := 67) (lb := #[.pointer (some ⟨w.heap.size + 2, 0, none⟩), .pointer (some ⟨w.heap.size + 3, 0, none⟩)]) rfl trivial (enters_of Tryz.func67 (by kernel_rfl) rfl)
    hst KX_t KX_b (Below.refl _ _) (fun _ => rfl)
    (fun pre W => (W.cell? ⟨w.heap.size+1, 0, none⟩ = some (.int .i64 (pre.length : Int)) ∧ W.frozen? ⟨w.heap.size+1, 0, none⟩ = false) ∧ Below w.heap.size w W)
    (fun _ _ _ => False)
    (OwnFrom.and (Own.from (fun s A B row hs hg hr => ⟨cell_kept hs.1 hg hr, (frozen_kept hs.1 hg hr).trans hs.2⟩) _) (ownFrom_below (Nat.le_refl _) (by omega)))
    (fun _ _ _ _ _ hs _ _ => hs)
    ⟨⟨hc, hf⟩, hB0⟩
    (fun y => { tmps := #[.agg #[.int .i64 x.k, .int .i64 x.op, .int .i64 x.t, .int .i64 x.v, .string x.nm, .slice x.A x.ar.length x.c], .pointer (some ⟨w.heap.size, 0, none⟩), .int .i64 0, .pointer (some ⟨w.heap.size+1, 0, none⟩), .agg #[.int .i64 x.k, .int .i64 x.op, .int .i64 x.t, .int .i64 x.v, .string x.nm, .slice x.A x.ar.length x.c], .func (.func 67) #[] #[.pointer (some ⟨w.heap.size + 2, 0, none⟩), .pointer (some ⟨w.heap.size + 3, 0, none⟩)], xV y, undef, undef, undef], defers := [] }) ?assign ?body ?done ?stop
  case assign =>
    intro l y W K hK
    gi_wp2
    simpa using hK
  case body =>
    rintro l pre y W ⟨⟨hc, hf⟩, hB⟩ hlt
    gi_wp2
    exact ⟨KeepsOthers.setCell _ _ _, KX.set (S := fun k => k = w.heap.size+1) (a := ⟨w.heap.size+1, 0, none⟩) rfl _, ⟨by rw [List.length_append, List.length_singleton]; exact World.cell?_setCell_same' _ _ _ (by rw [hc]; rfl), by rw [World.frozen?_setCell]; exact hf⟩, hB.setCell (p := ⟨w.heap.size+1, 0, none⟩) (by simp) _⟩
  case done =>
    rintro D ys W hD rfl ⟨⟨hc, _⟩, hB⟩ hK
    rw [hll] at hc
    gi_wp2
    refine ⟨by simp, .inl ⟨_, _, rfl, run_takeDeferred hK, ?_⟩⟩
    exact ⟨_, results_tmp rfl _ _ _, rfl, hB.trans (belowK_b (w := w) (Nat.le_refl _) W D _ _ (by omega) hK rfl rfl)⟩
  case stop =>
    rintro D c pre W _ _ h _
    exact h.elim
end Go.Proofs.YthlapepjebidgaaGreatDoor
/- Count and Stateless of the program. -/
namespace Go.Proofs.YthlapepjebidgaaGreatDoor
set_option linter.unusedVariables false
set_option linter.unusedSimpArgs false
open Go.RowKit Go.Shelf
attribute [local go_sem] Oper.semAt_some
/-- the world that within leaves -/
abbrev inW (w : World) (x : Xt) (f : Nat) : World := (bxW w x).alloc (.cells #[.func (.func f) #[] #[]] 30)
theorem inW_size (w : World) (x : Xt) (f : Nat) : (inW w x f).heap.size = w.heap.size + 2 := by simp only [World.size_alloc]
theorem inW_below (w : World) (x : Xt) (f : Nat) : Below w.heap.size w (inW w x f) := bxW_below (bel_box _)
theorem within_at (n n₀ : Nat) (S : Nat → Prop) (x : Xt) (w : World) (hS : ∀ k, S k → n₀ ≤ k ∧ k < w.heap.size) (hn₀ : n₀ ≤ w.heap.size) (hX : RdX w n₀ x) :
    SeqStopsK Fence.wide n Tryz.prog 67 #[.pointer (some ⟨w.heap.size, 0, none⟩), .pointer (some ⟨w.heap.size+1, 0, none⟩)] (fun y : Xt => #[xV y]) (KX S) (fun ys => ys = x.list) (fun pre => pre <+: x.list) x.size (inW w x 29) := by
  obtain ⟨b0, b1, b2, b3, b4, b5, _⟩ := bxW_cells (w := w) (x := x) (W := inW w x 29) (bel_box _)
  exact within_stops n w.heap.size (w.heap.size+1) n₀ S x _ (fun k hs => ⟨(hS k hs).1, by rw [inW_size]; have := (hS k hs).2; omega⟩) (by rw [inW_size]; omega) (by rw [inW_size]; omega) (by rw [inW_size]; omega) (hX.blw ((inW_below w x _).mono hn₀) (Nat.le_refl _)) b0 b1 b2 b3 b4 b5 (by simp [go_sem])
theorem inW_old {w : World} {x : Xt} {f : Nat} {b : Nat} {i : Nat} (h : b < w.heap.size) : (inW w x f).cell? ⟨b, i, none⟩ = w.cell? ⟨b, i, none⟩ ∧ (inW w x f).frozen? ⟨b, i, none⟩ = w.frozen? ⟨b, i, none⟩ :=
  ⟨(inW_below w x f).cell (p := ⟨b, i, none⟩) h, (inW_below w x f).frozen (p := ⟨b, i, none⟩) h⟩
theorem fold1 (t : Array Value) (p : Nat) (v : Value) : (#[p].zip #[v]).foldl (fun t (x : Nat × Value) => match x with | (p, v) => t.setIfInBounds p v) t = t.setIfInBounds p v := by simp
theorem cell_al {W : World} {a : Addr} {v : Value} (o : Obj) (h : W.cell? a = some v) : (W.alloc o).cell? a = some v := cell_kept h (World.grownBy_alloc W o none) (fun r e => by cases e)
theorem frozen_al {W : World} {a : Addr} {v : Value} (o : Obj) (h : W.cell? a = some v) (hf : W.frozen? a = false) : (W.alloc o).frozen? a = false := (frozen_kept h (World.grownBy_alloc W o none) (fun r e => by cases e)).trans hf
end Go.Proofs.YthlapepjebidgaaGreatDoor
/- The list of expressions, of the reference. -/
namespace Go.Proofs.YthlapepjebidgaaGreatDoor
set_option linter.unusedVariables false
set_option linter.unusedSimpArgs false
open Go.RowKit
def xCs (x : Xt) : List Value := [.int .i64 x.k, .int .i64 x.op, .int .i64 x.t, .int .i64 x.v, .string x.nm, .slice x.A x.ar.length x.c]
def xsC (l : List Xt) : List Value := l.flatMap xCs
/-- the row l behind list, from the row v -/
def LsR (w : World) (B : Nat) (v : Value) (n : Nat) (xs : List Value) (w' : World) (v' : Value) : Prop := w'.ownsRow B 24 6 v' n xs ∧ w.grownBy w' v.ownBlock ∧ (v'.ownBlock = v.ownBlock ∨ ∃ j, v'.ownBlock = some j ∧ w.heap.size ≤ j)
/-- the row l while list is under way -/
def LsI (w : World) (x : Xt) (B : Nat) (ob : Option Nat) (n : Nat) (xs : List Value) (v : Value) (wr : World) : Prop := wr.ownsRow B 24 6 v n xs ∧ (bxW w x).grownBy wr ob ∧ (v.ownBlock = ob ∨ ∃ j, v.ownBlock = some j ∧ (bxW w x).heap.size ≤ j)
theorem LsI.next {w wr w1 : World} {x : Xt} {B n m : Nat} {ob : Option Nat} {xs ys : List Value} {v v' : Value} (h : LsI w x B ob n xs v wr) (k : LsR wr B v m ys w1 v') : LsI w x B ob m ys v' w1 := by
  obtain ⟨_, hg, ha⟩ := h
  obtain ⟨k1, k2, k3⟩ := k
  have hz := hg.size
  refine ⟨k1, hg.andThen k2 fun j hj => ?_, ?_⟩
  · rcases ha with ha | ⟨j', e, hj'⟩
    · exact .inr (ha.symm.trans hj)
    · rw [e] at hj
      exact .inl (by have := Option.some.inj hj; omega)
  · rcases k3 with k3 | ⟨j, e, hj⟩
    · rw [k3]; exact ha
    · exact .inr ⟨j, e, by omega⟩
theorem LsI.first {w W w3 : World} {x : Xt} {B m : Nat} {ob : Option Nat} {ys : List Value} {v' : Value} (hW : Below (bxW w x).heap.size (bxW w x) W) (h1 : w3.ownsRow B 24 6 v' m ys) (h2 : W.grownBy w3 ob) (h3 : v'.ownBlock = ob ∨ v'.ownBlock = some W.heap.size) : LsI w x B ob m ys v' w3 := by
  refine ⟨h1, ?_, h3.imp id fun e => ⟨_, e, hW.size⟩⟩
  exact ((below_grown hW).but ob).andThen h2 fun j hj => .inr hj
end Go.Proofs.YthlapepjebidgaaGreatDoor
/- Stateless of the program. -/
namespace Go.Proofs.YthlapepjebidgaaGreatDoor
set_option linter.unusedVariables false
set_option linter.unusedSimpArgs false
open Go.RowKit Go.Shelf
attribute [local go_sem] Oper.semAt_some
/-- the kinds that have a state -/
def stK (n : Int) : Bool := n == 5 || n == 6 || n == 7 || n == 10 || n == 11
set_option maxHeartbeats 2000000 in
set_option maxRecDepth 100000 in
theorem stateless_any (x : Xt) (w : World) (hX : RdX w w.heap.size x) (hs : x.size ≤ 1048576) : Calls Tryz.prog 41 #[xV x] w (Bel (.bool (!x.list.any fun y => stK y.k)) w) := by
  have hdd : ∀ k : Nat, (Fence.wide.depth.isSome = true → 1 ≤ k) := fun k h => by cases h
  have KW := Lib.hid (fun W => within_any x 29 W)
  have HX := Lib.hid hX
  clear hX
  simp only [xV] at KW ⊢
  refine (callsIn_wide (n := 3)).1 ?_
  refine callsIn_of_wp_marks Tryz.func41 rfl trivial ?_ rfl
  simp only [Tryz.ntmps41, List.size_toArray, List.length_cons, List.length_nil, Nat.reduceAdd, Nat.reduceSub, Array.replicate_succ, Array.replicate_zero, List.push_toArray, List.append_toArray, List.nil_append, List.cons_append]
  gi_wp2_with (refine ⟨trivial, ?_⟩; gi_at_call 28; refine (callsIn_wide.2 (KW.out _)).mono ?_; rintro e W1 ⟨rfl, rfl⟩)
  obtain ⟨Wc, hWc⟩ : ∃ Wc, ((bxW w x).alloc (.cells #[.bool false] 4)) = Wc := ⟨_, rfl⟩
  have hz : Wc.heap.size = w.heap.size + 2 := by rw [← hWc]; simp only [World.size_alloc]
  have hBc : Below w.heap.size w Wc := by rw [← hWc]; exact bel_alloc (bel_box _) _
  have g2 : Wc.cell? ⟨w.heap.size+1, 0, none⟩ = some (.bool false) := by rw [← hWc]; simp [go_sem]
  have g3 : Wc.frozen? ⟨w.heap.size+1, 0, none⟩ = false := by rw [← hWc]; simp [go_sem]
  have hst := within_at (3 - 1) w.heap.size (fun k => k = w.heap.size+1) x Wc (fun k hk => by subst hk; omega) (by omega) (HX.out.blw hBc (Nat.le_refl _))
  obtain ⟨W0, hW0⟩ : ∃ W0, inW Wc x 29 = W0 := ⟨_, rfl⟩
  have hz0 : W0.heap.size = w.heap.size + 4 := by rw [← hW0, inW_size]; omega
  have hB0 : Below w.heap.size w W0 := by rw [← hW0]; exact hBc.trans ((inW_below Wc x _).mono (by omega))
  have f2 : W0.cell? ⟨w.heap.size+1, 0, none⟩ = some (.bool false) := by rw [← hW0]; exact (inW_old (by omega)).1.trans g2
  have f3 : W0.frozen? ⟨w.heap.size+1, 0, none⟩ = false := by rw [← hW0]; exact (inW_old (by omega)).2.trans g3
  rw [hz, hW0] at hst
  rw [show (bxW ((w.alloc (Obj.cells #[.int .i64 x.k, .int .i64 x.op, .int .i64 x.t, .int .i64 x.v, .string x.nm, .slice x.A x.ar.length x.c] 24)).alloc (.cells #[.bool false] 4)) x).alloc (.cells #[.func (.func 29) #[] #[]] 30) = W0 by rw [← hW0, ← hWc]]
  clear hW0 hWc g2 g3 KW HX
  refine wpIn_rangeFunc_ownH rfl (by decide) (gf := 67) (lb := #[.pointer (some ⟨w.heap.size + 2, 0, none⟩), .pointer (some ⟨w.heap.size + 2+1, 0, none⟩)]) rfl trivial (enters_of Tryz.func67 (by kernel_rfl) rfl)
    hst KX_t KX_b (Below.refl _ _) (fun _ => rfl)
    (fun pre W => (pre.any (fun y => stK y.k) = false ∧ W.cell? ⟨w.heap.size+1, 0, none⟩ = some (.bool false) ∧ W.frozen? ⟨w.heap.size+1, 0, none⟩ = false) ∧ Below w.heap.size w W)
    (fun c pre W => (c = .ret ∧ pre.any (fun y => stK y.k) = true ∧ W.cell? ⟨w.heap.size+1, 0, none⟩ = some (.bool false)) ∧ Below w.heap.size w W)
    (OwnFrom.and (Own.from (fun s A B row hs hg hr => ⟨hs.1, cell_kept hs.2.1 hg hr, (frozen_kept hs.2.1 hg hr).trans hs.2.2⟩) _) (ownFrom_below (Nat.le_refl _) (by omega)))
    (fun c => OwnFrom.and (Own.from (fun s A B row hs hg hr => ⟨hs.1, hs.2.1, cell_kept hs.2.2 hg hr⟩) _) (ownFrom_below (Nat.le_refl _) (by omega)))
    ⟨⟨rfl, f2, f3⟩, hB0⟩
    (fun y a' W => ∃ Bx, (w.heap.size + 2 ≤ Bx ∧ W.cell? ⟨Bx, 0, none⟩ = some (.int .i64 y.k)) ∧ a' = { tmps := #[.agg #[.int .i64 x.k, .int .i64 x.op, .int .i64 x.t, .int .i64 x.v, .string x.nm, .slice x.A x.ar.length x.c], .pointer (some ⟨w.heap.size, 0, none⟩), .pointer (some ⟨w.heap.size+1, 0, none⟩), .pointer (some ⟨Bx, 0, none⟩), .agg #[.int .i64 x.k, .int .i64 x.op, .int .i64 x.t, .int .i64 x.v, .string x.nm, .slice x.A x.ar.length x.c], .func (.func 67) #[] #[.pointer (some ⟨w.heap.size + 2, 0, none⟩), .pointer (some ⟨w.heap.size + 2+1, 0, none⟩)], xV y, undef, undef, undef, undef, undef, undef, undef, undef], defers := [] })
    (fun y a' s A B row hs hg hr => by
      obtain ⟨Bx, ⟨h1, h2⟩, h3⟩ := hs
      exact ⟨Bx, ⟨h1, cell_kept h2 hg (fun r e => (hr r e).2)⟩, h3⟩) ?assign ?body ?done ?stop
  case assign =>
    rintro l pre y W K ⟨⟨i1, i2, i3⟩, hB⟩ hK
    rw [fold1]
    simp only [xV] at hK ⊢
    gi_wp2
    have hb := bx_box W y
    exact hK _ _ ((KeepsOthers.alloc _ _).from _) (KX.of_below (bel_box _)) ⟨⟨i1, cell_al _ i2, frozen_al _ i2 i3⟩, bel_alloc hB _⟩ ⟨W.heap.size, ⟨by have := World.block_lt_of_cell? W _ i2; simp only at this; omega, hb.1⟩, rfl⟩
  case body =>
    rintro l pre y a' W hl ⟨r, hr⟩ ⟨⟨i1, i2, i3⟩, hB⟩ ⟨Bx, ⟨hBx, bx⟩, rfl⟩ hlt
    have hcs : (pre ++ [y]).any (fun y => stK y.k) = stK y.k := by rw [List.any_append, i1]; simp
    by_cases q5 : (y.k == 5) = true
    · have hst : stK y.k = true := by simp [stK, q5]
      gi_wp2
      exact ⟨(KeepsOthers.setCell _ _ _).from _, ⟨rfl, by rw [hcs, hst], World.cell?_setCell_same' _ _ _ (by rw [i2]; rfl)⟩, hB.setCell (p := ⟨w.heap.size+1, 0, none⟩) (by simp) _⟩
    rw [Bool.not_eq_true] at q5
    by_cases q6 : (y.k == 6) = true
    · have hst : stK y.k = true := by simp [stK, q6]
      gi_wp2
      exact ⟨(KeepsOthers.setCell _ _ _).from _, ⟨rfl, by rw [hcs, hst], World.cell?_setCell_same' _ _ _ (by rw [i2]; rfl)⟩, hB.setCell (p := ⟨w.heap.size+1, 0, none⟩) (by simp) _⟩
    rw [Bool.not_eq_true] at q6
    by_cases q7 : (y.k == 7) = true
    · have hst : stK y.k = true := by simp [stK, q7]
      gi_wp2
      exact ⟨(KeepsOthers.setCell _ _ _).from _, ⟨rfl, by rw [hcs, hst], World.cell?_setCell_same' _ _ _ (by rw [i2]; rfl)⟩, hB.setCell (p := ⟨w.heap.size+1, 0, none⟩) (by simp) _⟩
    rw [Bool.not_eq_true] at q7
    by_cases q10 : (y.k == 10) = true
    · have hst : stK y.k = true := by simp [stK, q10]
      gi_wp2
      exact ⟨(KeepsOthers.setCell _ _ _).from _, ⟨rfl, by rw [hcs, hst], World.cell?_setCell_same' _ _ _ (by rw [i2]; rfl)⟩, hB.setCell (p := ⟨w.heap.size+1, 0, none⟩) (by simp) _⟩
    rw [Bool.not_eq_true] at q10
    by_cases q11 : (y.k == 11) = true
    · have hst : stK y.k = true := by simp [stK, q11]
      gi_wp2
      exact ⟨(KeepsOthers.setCell _ _ _).from _, ⟨rfl, by rw [hcs, hst], World.cell?_setCell_same' _ _ _ (by rw [i2]; rfl)⟩, hB.setCell (p := ⟨w.heap.size+1, 0, none⟩) (by simp) _⟩
    rw [Bool.not_eq_true] at q11
    have hst : stK y.k = false := by simp only [stK, q5, q6, q7, q10, q11, Bool.or_false]
    gi_wp2
    exact ⟨(KeepsOthers.refl _).from _, KX.refl _ _, ⟨by rw [hcs, hst], i2, i3⟩, hB⟩
  case done =>
    rintro D ys W hD rfl ⟨⟨hn, hc, hf⟩, hB⟩ hK
    gi_wp2
    have hK' := (KeepsOthers.setCell W ⟨w.heap.size+1, 0, none⟩ (.bool true)).same D _ hK rfl
    refine ⟨by simp, .inl ⟨_, _, rfl, run_takeDeferred hK', ?_⟩⟩
    have hc5 := cell_kept (World.cell?_setCell_same' W ⟨w.heap.size+1, 0, none⟩ (.bool true) (by rw [hc]; rfl)) (grownBy_putObj' _ D (.deferred none)) (fun r e => by cases e; exact ⟨_, hK', rfl⟩)
    refine ⟨.bool true, ?_, by rw [hn]; rfl, (hB.setCell (p := ⟨w.heap.size+1, 0, none⟩) (by simp) _).trans (belowK_b (w := w) (Nat.le_refl _) _ D _ _ (by omega) hK' rfl rfl)⟩
    simp [results, Tryz.f41, go_sem, hc5]
  case stop =>
    rintro D c pre W hD ⟨t, ht⟩ ⟨⟨rfl, hin, hc⟩, hB⟩ hK
    have hany : x.list.any (fun y => stK y.k) = true := by rw [← ht, List.any_append, hin]; rfl
    gi_wp2
    refine ⟨by simp, .inl ⟨_, _, rfl, run_takeDeferred hK, ?_⟩⟩
    have hc5 := cell_kept hc (grownBy_putObj' _ D (.deferred none)) (fun r e => by cases e; exact ⟨_, hK, rfl⟩)
    refine ⟨.bool false, ?_, by rw [hany]; rfl, hB.trans (belowK_b (w := w) (Nat.le_refl _) W D _ _ (by omega) hK rfl rfl)⟩
    simp [results, Tryz.f41, go_sem, hc5]
end Go.Proofs.YthlapepjebidgaaGreatDoor
/- List, Count, Stateless of the reference. -/
namespace Go.Proofs.YthlapepjebidgaaGreatDoor
set_option linter.unusedVariables false
set_option linter.unusedSimpArgs false
open Go.RowKit Go.Sort
/-- A reads as these expressions, below block B -/
def RdXs (w : World) (B : Nat) (A : Option Addr) (l : List Xt) : Prop := l ≠ [] → ∃ ad, A = some ad ∧ ad.block < B ∧ ∀ (i : Nat) (y : Xt), l[i]? = some y → XC w (ad.add (i * 6)) y
theorem RdXs.to {w W : World} {A : Option Addr} {l : List Xt} (h : RdXs w w.heap.size A l) (hb : Below w.heap.size w W) : RdXs W W.heap.size A l := fun hn => by
  obtain ⟨ad, e, hB, hc⟩ := h hn
  have hs := hb.size
  exact ⟨ad, e, by omega, fun i t ht => (hc i t ht).keep fun p hp => hb.cell (by rw [hp, add_block]; exact hB)⟩
theorem RdXs.at_ {w : World} {B : Nat} {A : Option Addr} {l : List Xt} (h : RdXs w B A l) {k : Nat} (hk : k < l.length) : ∃ ad y, A = some ad ∧ ad.block < B ∧ l[k]? = some y ∧ y ∈ l ∧ XC w (ad.add (k * 6)) y := by
  have he : l[k]? = some l[k] := List.getElem?_eq_getElem hk
  obtain ⟨ad, e, hb, hc⟩ := h (by rintro rfl; simp at hk)
  exact ⟨ad, _, e, hb, he, List.mem_of_getElem? he, hc k _ he⟩
theorem xsC_get (l : List Xt) (i : Nat) (y : Xt) (h : l[i]? = some y) (j : Nat) (hj : j < 6) : (xsC l)[i * 6 + j]? = (xCs y)[j]? := by
  induction l generalizing i with
  | nil => simp at h
  | cons a r ih =>
    have e : xsC (a :: r) = xCs a ++ xsC r := rfl
    have hl : (xCs a).length = 6 := rfl
    rw [e]
    rcases i with _ | i
    · obtain rfl : a = y := by simpa using h
      rw [Nat.zero_mul, Nat.zero_add, List.getElem?_append_left (by rw [hl]; exact hj)]
    · rw [List.getElem?_append_right (by rw [hl]; omega), hl, show (i+1) * 6 + j - 6 = i * 6 + j by omega]
      exact ih i (by simpa using h)
theorem add_add6 (g n j : Nat) : ((⟨g, 0, none⟩ : Addr).add n).off + j = n + j ∧ ((⟨g, 0, none⟩ : Addr).add n).block = g ∧ (⟨g, 0, none⟩ : Addr).add n = ⟨g, n, none⟩ := by
  unfold Addr.add
  by_cases h : n = 0
  · subst h; simp
  · simp [h]
theorem RdXs.of_own {w : World} {base : Nat} {e : TypeId} {A : Option Addr} {c : Nat} {l : List Xt} (h : w.ownsRow base e 6 (.slice A l.length c) l.length (xsC l)) : RdXs w w.heap.size A l := fun hn => by
  rcases h.2 with ⟨h1, h2⟩ | ⟨g, cap, cur, h1, h2, h3, h4, h5, h6, h7⟩
  · exact absurd (List.length_eq_zero_iff.1 h2) hn
  · have hA : A = some ⟨g, 0, none⟩ := by injection h1
    subst hA
    refine ⟨_, rfl, (Array.getElem?_eq_some_iff.1 h3).1, fun i y hy => ?_⟩
    have key : ∀ j u, j < 6 → (xCs y)[j]? = some u → w.cell? ⟨g, i * 6 + j, none⟩ = some u := fun j u hj6 hj => by
      rw [← xsC_get l i y hy j hj6] at hj
      rw [cell_of_row w g (i * 6 + j) cur _ (0, 0) h3]
      rw [← h7, List.getElem?_take] at hj
      split at hj
      · rw [← Array.getElem?_toList]; exact hj
      · cases hj
    unfold XC
    rw [(add_add6 g (i * 6) 1).1, (add_add6 g (i * 6) 2).1, (add_add6 g (i * 6) 3).1, (add_add6 g (i * 6) 4).1, (add_add6 g (i * 6) 5).1, (add_add6 g (i * 6) 1).2.1, (add_add6 g (i * 6) 1).2.2]
    exact ⟨key 0 _ (by omega) rfl, key 1 _ (by omega) rfl, key 2 _ (by omega) rfl, key 3 _ (by omega) rfl, key 4 _ (by omega) rfl, key 5 _ (by omega) rfl⟩
end Go.Proofs.YthlapepjebidgaaGreatDoor
/- What the functions of package word, and their references, return for every argument (the world is left as it is): plain numbers. -/
namespace Go.Proofs.YthlapepjebidgaaGreatDoor.va
set_option linter.unusedVariables false
set_option linter.unusedSimpArgs false
set_option linter.unusedVariables false
set_option linter.unusedSimpArgs false
open Go.RowKit

theorem ret_int {k : IntKind} {a b : Int} (h : a = b) : Ending.returned (.int k a) = .returned (.int k b) := by rw [h]
theorem ret_bool {a b : Bool} (h : a = b) : Ending.returned (.bool a) = .returned (.bool b) := by rw [h]
theorem in_any (n : Int) (w : World) : Calls Tryz.prog 174 #[.int .i64 n] w fun e w' => e = .returned (.bool (decide (-32768 ≤ n) && decide (n ≤ 32767))) ∧ w = w' := by
  go_enter Tryz.func174, Tryz.ntmps174
  go_wp2
  all_goals go_ret
  · exact ⟨ret_bool (by simp [*]), rfl⟩
  · exact ⟨ret_bool (by simp; omega), rfl⟩
end Go.Proofs.YthlapepjebidgaaGreatDoor.va
/-
  DERIVED: THE SHELF's CONTRACTS AT THIS DUMP, IN PLAIN WORDS (tools/lay-plain.mjs out of 'TryzShelf.lean', which tools/lay-shelf.mjs wrote): THE SAME DECLARATIONS UNDER THE SAME NAMES: 'import', 'namespace', 'open', 'def', 'theorem' AND NOTHING ELSE: no command of the shelf's: FOR A HAND-IN. Each laying: the table of numbers ('.._ren') and one theorem, a field a fact of the dump's own or the kernel's comparison; each contract: ONE APPLICATION.
-/
namespace Go.Proofs
open Go.Shelf
def Tryz.lays160_ren : Go.Shelf.Ren := ⟨fun | 160 => 176 | 232 => 185 | 231 => 184 | 227 => 186 | 234 => 188 | 233 => 187 | 236 => 190 | 235 => 189 | 228 => 200 | 271 => 203 | 151 => 202 | 197 => 201 | 120 => 211 | 152 => 210 | 260 => 209 | 137 => 166 | 119 => 215 | 224 => 198 | 225 => 197 | 217 => 177 | 266 => 191 | n => n, fun | 9 => 9 | 4 => 4 | 3 => 3 | 5 => 5 | 117 => 192 | 116 => 191 | 0 => 0 | 124 => 195 | 21 => 21 | 105 => 204 | 46 => 203 | 119 => 224 | 139 => 227 | 138 => 226 | n => n, fun | 3 => 3 | 4 => 4 | n => n⟩
theorem Tryz.lays160 : Go.Proofs.Lays.n160 Tryz.prog Tryz.lays160_ren := {
  mixed := by kernel_rfl
  f119 := Tryz.func215.trans (congrArg some (by kernel_rfl))
  f120 := Tryz.func211.trans (congrArg some (by kernel_rfl))
  f137 := Tryz.func166.trans (congrArg some (by kernel_rfl))
  f151 := Tryz.func202.trans (congrArg some (by kernel_rfl))
  f152 := Tryz.func210.trans (congrArg some (by kernel_rfl))
  f160 := Tryz.func176.trans (congrArg some (by kernel_rfl))
  f197 := Tryz.func201.trans (congrArg some (by kernel_rfl))
  f217 := Tryz.func177.trans (congrArg some (by kernel_rfl))
  f224 := Tryz.func198.trans (congrArg some (by kernel_rfl))
  f225 := Tryz.func197.trans (congrArg some (by kernel_rfl))
  f227 := Tryz.func186.trans (congrArg some (by kernel_rfl))
  f228 := Tryz.func200.trans (congrArg some (by kernel_rfl))
  f231 := Tryz.func184.trans (congrArg some (by kernel_rfl))
  f232 := Tryz.func185.trans (congrArg some (by kernel_rfl))
  f233 := Tryz.func187.trans (congrArg some (by kernel_rfl))
  f234 := Tryz.func188.trans (congrArg some (by kernel_rfl))
  f235 := Tryz.func189.trans (congrArg some (by kernel_rfl))
  f236 := Tryz.func190.trans (congrArg some (by kernel_rfl))
  f260 := Tryz.func209.trans (congrArg some (by kernel_rfl))
  f266 := Tryz.func191.trans (congrArg some (by kernel_rfl))
  f271 := Tryz.func203.trans (congrArg some (by kernel_rfl))
  t0 := Tryz.underlying0
  a0 := Tryz.isAgg0
  z0 := Tryz.sizeOf0
  v0 := Tryz.zeroValue0
  t3 := Tryz.underlying3
  a3 := Tryz.isAgg3
  z3 := Tryz.sizeOf3
  v3 := Tryz.zeroValue3
  t4 := Tryz.underlying4
  a4 := Tryz.isAgg4
  z4 := Tryz.sizeOf4
  v4 := Tryz.zeroValue4
  t5 := Tryz.underlying5
  a5 := Tryz.isAgg5
  z5 := Tryz.sizeOf5
  v5 := Tryz.zeroValue5
  t9 := Tryz.underlying9
  a9 := Tryz.isAgg9
  z9 := Tryz.sizeOf9
  v9 := Tryz.zeroValue9
  t21 := Tryz.underlying21
  a21 := Tryz.isAgg21
  z21 := Tryz.sizeOf21
  v21 := Tryz.zeroValue21
  t46 := Tryz.underlying203
  a46 := Tryz.isAgg203
  z46 := Tryz.sizeOf203
  v46 := Tryz.zeroValue203
  t105 := Tryz.underlying204
  a105 := Tryz.isAgg204
  z105 := Tryz.sizeOf204
  v105 := Tryz.zeroValue204
  t116 := Tryz.underlying191
  a116 := Tryz.isAgg191
  z116 := Tryz.sizeOf191
  t117 := Tryz.underlying192
  a117 := Tryz.isAgg192
  z117 := Tryz.sizeOf192
  v117 := Tryz.zeroValue192
  t119 := Tryz.underlying224
  a119 := Tryz.isAgg224
  z119 := Tryz.sizeOf224
  t124 := Tryz.underlying195
  a124 := Tryz.isAgg195
  z124 := Tryz.sizeOf195
  v124 := Tryz.zeroValue195
  t138 := Tryz.underlying226
  a138 := Tryz.isAgg226
  z138 := Tryz.sizeOf226
  v138 := Tryz.zeroValue226
  t139 := Tryz.underlying227
  a139 := Tryz.isAgg227
  z139 := Tryz.sizeOf227
  v139 := Tryz.zeroValue227
  g3 := by kernel_rfl
  g4 := by kernel_rfl }
def Tryz.lays137_ren : Go.Shelf.Ren := ⟨fun | 137 => 166 | 217 => 177 | 266 => 191 | n => n, fun | 9 => 9 | 5 => 5 | 3 => 3 | n => n, fun | n => n⟩
theorem Tryz.lays137 : Go.Proofs.Lays.n137 Tryz.prog Tryz.lays137_ren := {
  mixed := by kernel_rfl
  f137 := Tryz.func166.trans (congrArg some (by kernel_rfl))
  f217 := Tryz.func177.trans (congrArg some (by kernel_rfl))
  f266 := Tryz.func191.trans (congrArg some (by kernel_rfl))
  t3 := Tryz.underlying3
  a3 := Tryz.isAgg3
  z3 := Tryz.sizeOf3
  v3 := Tryz.zeroValue3
  t5 := Tryz.underlying5
  a5 := Tryz.isAgg5
  z5 := Tryz.sizeOf5
  v5 := Tryz.zeroValue5
  t9 := Tryz.underlying9
  a9 := Tryz.isAgg9
  z9 := Tryz.sizeOf9
  v9 := Tryz.zeroValue9 }
open Go.RowKit in
/-- strings.IndexByte: "IndexByte returns the index of the first instance of c in s, or -1 if c is not present in s.": IT RETURNS 'Lib.indexByte s c'; the world is as it was. (LAID: no walk: one application.) -/
theorem Tryz.strings_IndexByte (s : ByteArray) (c : Int) (w : World) :
    Calls Tryz.prog 166 #[.string s, .int .u8 c] w fun e w' => e = .returned (.int .i64 (Lib.indexByte s.data.toList c.toNat.toUInt8)) ∧ w' = w := Any.strings_IndexByte Tryz.lays137 s c w
def Tryz.laysC172_ren : Go.Shelf.Ren := ⟨fun | 172 => 167 | 244 => 178 | 245 => 179 | 247 => 192 | 279 => 193 | 280 => 194 | 281 => 195 | 282 => 196 | 287 => 204 | 316 => 205 | 171 => 207 | 205 => 206 | 321 => 212 | 322 => 213 | 243 => 214 | 246 => 216 | 283 => 217 | 284 => 218 | 285 => 219 | 286 => 220 | 129 => 222 | 317 => 221 | 318 => 223 | 319 => 224 | 320 => 225 | 337 => 226 | 338 => 227 | n => n, fun | 9 => 9 | 3 => 3 | 75 => 178 | 76 => 179 | 4 => 4 | 5 => 5 | 167 => 196 | 37 => 197 | 0 => 0 | 85 => 198 | 2 => 2 | 168 => 200 | 53 => 207 | 175 => 208 | 46 => 203 | 210 => 212 | 127 => 220 | 145 => 223 | 143 => 221 | 21 => 21 | 171 => 230 | 173 => 233 | 212 => 236 | 51 => 215 | 20 => 20 | 213 => 237 | 232 => 240 | 233 => 241 | 80 => 242 | n => n, fun | 15 => 1 | 16 => 2 | 17 => 5 | 18 => 6 | 19 => 7 | n => n⟩
theorem Tryz.laysC172 : Go.Proofs.LaysC.n172 Tryz.prog Tryz.laysC172_ren := {
  mixed := by kernel_rfl
  f129 := Tryz.func222.trans (congrArg some (by kernel_rfl))
  f171 := Tryz.func207.trans (congrArg some (by kernel_rfl))
  f172 := Tryz.func167.trans (congrArg some (by kernel_rfl))
  f205 := Tryz.func206.trans (congrArg some (by kernel_rfl))
  f243 := Tryz.func214.trans (congrArg some (by kernel_rfl))
  f244 := Tryz.func178.trans (congrArg some (by kernel_rfl))
  f245 := Tryz.func179.trans (congrArg some (by kernel_rfl))
  f246 := Tryz.func216.trans (congrArg some (by kernel_rfl))
  f247 := Tryz.func192.trans (congrArg some (by kernel_rfl))
  f279 := Tryz.func193.trans (congrArg some (by kernel_rfl))
  f280 := Tryz.func194.trans (congrArg some (by kernel_rfl))
  f281 := Tryz.func195.trans (congrArg some (by kernel_rfl))
  f282 := Tryz.func196.trans (congrArg some (by kernel_rfl))
  f283 := Tryz.func217.trans (congrArg some (by kernel_rfl))
  f284 := Tryz.func218.trans (congrArg some (by kernel_rfl))
  f285 := Tryz.func219.trans (congrArg some (by kernel_rfl))
  f286 := Tryz.func220.trans (congrArg some (by kernel_rfl))
  f287 := Tryz.func204.trans (congrArg some (by kernel_rfl))
  f316 := Tryz.func205.trans (congrArg some (by kernel_rfl))
  f317 := Tryz.func221.trans (congrArg some (by kernel_rfl))
  f318 := Tryz.func223.trans (congrArg some (by kernel_rfl))
  f319 := Tryz.func224.trans (congrArg some (by kernel_rfl))
  f320 := Tryz.func225.trans (congrArg some (by kernel_rfl))
  f321 := Tryz.func212.trans (congrArg some (by kernel_rfl))
  f322 := Tryz.func213.trans (congrArg some (by kernel_rfl))
  f337 := Tryz.func226.trans (congrArg some (by kernel_rfl))
  f338 := Tryz.func227.trans (congrArg some (by kernel_rfl))
  t0 := Tryz.underlying0
  a0 := Tryz.isAgg0
  z0 := Tryz.sizeOf0
  v0 := Tryz.zeroValue0
  t2 := Tryz.underlying2
  a2 := Tryz.isAgg2
  z2 := Tryz.sizeOf2
  v2 := Tryz.zeroValue2
  t3 := Tryz.underlying3
  a3 := Tryz.isAgg3
  z3 := Tryz.sizeOf3
  v3 := Tryz.zeroValue3
  t4 := Tryz.underlying4
  a4 := Tryz.isAgg4
  z4 := Tryz.sizeOf4
  v4 := Tryz.zeroValue4
  t5 := Tryz.underlying5
  a5 := Tryz.isAgg5
  z5 := Tryz.sizeOf5
  v5 := Tryz.zeroValue5
  t9 := Tryz.underlying9
  a9 := Tryz.isAgg9
  z9 := Tryz.sizeOf9
  v9 := Tryz.zeroValue9
  t20 := Tryz.underlying20
  a20 := Tryz.isAgg20
  z20 := Tryz.sizeOf20
  v20 := Tryz.zeroValue20
  t21 := Tryz.underlying21
  a21 := Tryz.isAgg21
  z21 := Tryz.sizeOf21
  v21 := Tryz.zeroValue21
  t37 := Tryz.underlying197
  a37 := Tryz.isAgg197
  z37 := Tryz.sizeOf197
  v37 := Tryz.zeroValue197
  t46 := Tryz.underlying203
  a46 := Tryz.isAgg203
  z46 := Tryz.sizeOf203
  v46 := Tryz.zeroValue203
  t51 := Tryz.underlying215
  a51 := Tryz.isAgg215
  z51 := Tryz.sizeOf215
  v51 := Tryz.zeroValue215
  t53 := Tryz.underlying207
  a53 := Tryz.isAgg207
  z53 := Tryz.sizeOf207
  v53 := Tryz.zeroValue207
  t75 := Tryz.underlying178
  a75 := Tryz.isAgg178
  z75 := Tryz.sizeOf178
  v75 := Tryz.zeroValue178
  t76 := Tryz.underlying179
  a76 := Tryz.isAgg179
  z76 := Tryz.sizeOf179
  v76 := Tryz.zeroValue179
  t85 := Tryz.underlying198
  a85 := Tryz.isAgg198
  z85 := Tryz.sizeOf198
  v85 := Tryz.zeroValue198
  t127 := Tryz.underlying220
  a127 := Tryz.isAgg220
  z127 := Tryz.sizeOf220
  v127 := Tryz.zeroValue220
  t143 := Tryz.underlying221
  a143 := Tryz.isAgg221
  z143 := Tryz.sizeOf221
  v143 := Tryz.zeroValue221
  t145 := Tryz.underlying223
  a145 := Tryz.isAgg223
  z145 := Tryz.sizeOf223
  v145 := Tryz.zeroValue223
  t167 := Tryz.underlying196
  a167 := Tryz.isAgg196
  z167 := Tryz.sizeOf196
  v167 := Tryz.zeroValue196
  t168 := Tryz.underlying200
  a168 := Tryz.isAgg200
  z168 := Tryz.sizeOf200
  v168 := Tryz.zeroValue200
  t171 := Tryz.underlying230
  a171 := Tryz.isAgg230
  z171 := Tryz.sizeOf230
  v171 := Tryz.zeroValue230
  t173 := Tryz.underlying233
  a173 := Tryz.isAgg233
  z173 := Tryz.sizeOf233
  v173 := Tryz.zeroValue233
  t175 := Tryz.underlying208
  a175 := Tryz.isAgg208
  z175 := Tryz.sizeOf208
  v175 := Tryz.zeroValue208
  t210 := Tryz.underlying212
  a210 := Tryz.isAgg212
  z210 := Tryz.sizeOf212
  v210 := Tryz.zeroValue212
  t212 := Tryz.underlying236
  a212 := Tryz.isAgg236
  z212 := Tryz.sizeOf236
  v212 := Tryz.zeroValue236
  t213 := Tryz.underlying237
  a213 := Tryz.isAgg237
  z213 := Tryz.sizeOf237
  t232 := Tryz.underlying240
  a232 := Tryz.isAgg240
  z232 := Tryz.sizeOf240
  v232 := Tryz.zeroValue240
  t233 := Tryz.underlying241
  a233 := Tryz.isAgg241
  z233 := Tryz.sizeOf241
  v233 := Tryz.zeroValue241
  g15 := by kernel_rfl
  g16 := by kernel_rfl
  g17 := by kernel_rfl
  g18 := by kernel_rfl
  g19 := by kernel_rfl
  t80 := Tryz.underlying242
  a80 := Tryz.isAgg242
  z80 := Tryz.sizeOf242
  v80 := Tryz.zeroValue242
  i0 := by kernel_rfl
  i2 := by kernel_rfl
  i3 := by kernel_rfl
  i4 := by kernel_rfl
  i5 := by kernel_rfl
  i9 := by kernel_rfl
  i20 := by kernel_rfl
  i21 := by kernel_rfl
  i37 := by kernel_rfl
  i46 := by kernel_rfl
  i51 := by kernel_rfl
  i53 := by kernel_rfl
  i75 := by kernel_rfl
  i76 := by kernel_rfl
  i80 := by kernel_rfl
  i85 := by kernel_rfl
  i127 := by kernel_rfl
  i143 := by kernel_rfl
  i145 := by kernel_rfl
  i167 := by kernel_rfl
  i168 := by kernel_rfl
  i171 := by kernel_rfl
  i173 := by kernel_rfl
  i175 := by kernel_rfl
  i210 := by kernel_rfl
  i212 := by kernel_rfl
  i232 := by kernel_rfl
  i233 := by kernel_rfl
  m15 := by kernel_rfl
  m16 := by kernel_rfl
  m17 := by kernel_rfl
  m18 := by kernel_rfl
  m19 := by kernel_rfl
  c0 := by kernel_rfl
  c2 := by kernel_rfl
  c3 := by kernel_rfl
  c4 := by kernel_rfl
  c5 := by kernel_rfl
  c9 := by kernel_rfl
  c20 := by kernel_rfl
  c21 := by kernel_rfl
  c37 := by kernel_rfl
  c46 := by kernel_rfl
  c51 := by kernel_rfl
  c53 := by kernel_rfl
  c75 := by kernel_rfl
  c76 := by kernel_rfl
  c80 := by kernel_rfl
  c85 := by kernel_rfl
  c127 := by kernel_rfl
  c143 := by kernel_rfl
  c145 := by kernel_rfl
  c167 := by kernel_rfl
  c168 := by kernel_rfl
  c171 := by kernel_rfl
  c173 := by kernel_rfl
  c175 := by kernel_rfl
  c210 := by kernel_rfl
  c212 := by kernel_rfl
  c213 := by kernel_rfl
  c232 := by kernel_rfl
  c233 := by kernel_rfl }
open Go.RowKit in
/-- strconv.Atoi, AT EVERY STRING THAT SPELLS AN int ('Lib.atoiAll .. = .ok v'; of whatever length: leading zeros count): v, AND NO ERROR. The world: as it was, or with the one new row that '[]byte(..)' lays. (LAID: no walk: one application.) -/
theorem Tryz.strconv_Atoi_ok (s : ByteArray) (hmax : s.size ≤ 9223372036854775806) (v : Int) (h : Lib.atoiAll s.data.toList = .ok v) (w : World) :
    Calls Tryz.prog 167 #[.string s] w fun e w' => e = .returned (.tuple #[.int .i64 v, .nilIface]) ∧ (w' = w ∨ ∃ t, w' = Lib.bytesWorld w 5 t) := Any.strconv_Atoi_ok Tryz.laysC172 s hmax v h w
open Go.RowKit in
theorem Tryz.strconv_Atoi_syntax_var (s : ByteArray) (hlim : s.size ≤ 281474976710656) (h : Lib.atoiAll s.data.toList = .«syntax») (tp : TypeId) (p : Value) (w : World) (hvar : w.var? Tryz.prog "strconv.ErrSyntax" = some #[.iface tp p]) :
    Calls Tryz.prog 167 #[.string s] w fun e w' => ∃ N, e = .returned (.tuple #[.int .i64 0, .iface 200 (.pointer (some ⟨N, 0, none⟩))]) ∧ w.heap.size ≤ N ∧ w'.heap[N]? = some (.cells #[.string ⟨#[65, 116, 111, 105]⟩, .string s, .iface tp p] 212 (0, 0)) ∧ Below w.heap.size w w' := Any.strconv_Atoi_syntax_var Tryz.laysC172 s hlim h tp p w hvar
open Go.RowKit in
theorem Tryz.strconv_Atoi_range_var (s : ByteArray) (hlim : s.size ≤ 281474976710656) (h : Lib.atoiAll s.data.toList = .range) (tp : TypeId) (p : Value) (w : World) (hvar : w.var? Tryz.prog "strconv.ErrRange" = some #[.iface tp p]) :
    Calls Tryz.prog 167 #[.string s] w fun e w' => ∃ N, e = .returned (.tuple #[.int .i64 (Lib.atoiSat s.data.toList), .iface 200 (.pointer (some ⟨N, 0, none⟩))]) ∧ w.heap.size ≤ N ∧ w'.heap[N]? = some (.cells #[.string ⟨#[65, 116, 111, 105]⟩, .string s, .iface tp p] 212 (0, 0)) ∧ Below w.heap.size w w' := Any.strconv_Atoi_range_var Tryz.laysC172 s hlim h tp p w hvar
def Tryz.lays219_ren : Go.Shelf.Ren := ⟨fun | 219 => 183 | 217 => 177 | 225 => 197 | 224 => 198 | 267 => 199 | 266 => 191 | 314 => 208 | n => n, fun | 9 => 9 | 3 => 3 | 4 => 4 | 5 => 5 | 46 => 203 | 146 => 216 | 51 => 215 | n => n, fun | 1 => 0 | n => n⟩
theorem Tryz.lays219 : Go.Proofs.Lays.n219 Tryz.prog Tryz.lays219_ren := {
  mixed := by kernel_rfl
  f217 := Tryz.func177.trans (congrArg some (by kernel_rfl))
  f219 := Tryz.func183.trans (congrArg some (by kernel_rfl))
  f224 := Tryz.func198.trans (congrArg some (by kernel_rfl))
  f225 := Tryz.func197.trans (congrArg some (by kernel_rfl))
  f266 := Tryz.func191.trans (congrArg some (by kernel_rfl))
  f267 := Tryz.func199.trans (congrArg some (by kernel_rfl))
  f314 := Tryz.func208.trans (congrArg some (by kernel_rfl))
  t3 := Tryz.underlying3
  a3 := Tryz.isAgg3
  z3 := Tryz.sizeOf3
  v3 := Tryz.zeroValue3
  t4 := Tryz.underlying4
  a4 := Tryz.isAgg4
  z4 := Tryz.sizeOf4
  v4 := Tryz.zeroValue4
  t5 := Tryz.underlying5
  a5 := Tryz.isAgg5
  z5 := Tryz.sizeOf5
  v5 := Tryz.zeroValue5
  t9 := Tryz.underlying9
  a9 := Tryz.isAgg9
  z9 := Tryz.sizeOf9
  v9 := Tryz.zeroValue9
  t46 := Tryz.underlying203
  a46 := Tryz.isAgg203
  z46 := Tryz.sizeOf203
  v46 := Tryz.zeroValue203
  t51 := Tryz.underlying215
  a51 := Tryz.isAgg215
  z51 := Tryz.sizeOf215
  v51 := Tryz.zeroValue215
  t146 := Tryz.underlying216
  a146 := Tryz.isAgg216
  z146 := Tryz.sizeOf216
  v146 := Tryz.zeroValue216
  g1 := by kernel_rfl }
open Go.RowKit Go.Lib in
/-- internal/stringslite.Index (what strings.Index calls) AT A substr OF ONE BYTE c: IT RETURNS 'Lib.indexByte s c'; the world is as it was. (LAID: no walk: one application.) -/
theorem Tryz.stringslite_Index_one (s : ByteArray) (c : UInt8) (w : World) :
    Calls Tryz.prog 183 #[.string s, .string ⟨#[c]⟩] w fun e w' => e = .returned (.int .i64 (Lib.indexByte s.data.toList c)) ∧ w' = w := Any.stringslite_Index_one Tryz.lays219 s c w
def Tryz.lays99_ren : Go.Shelf.Ren := ⟨fun | 99 => 168 | 206 => 180 | n => n, fun | 9 => 9 | 4 => 4 | 3 => 3 | n => n, fun | n => n⟩
theorem Tryz.lays99 : Go.Proofs.Lays.n99 Tryz.prog Tryz.lays99_ren := {
  mixed := by kernel_rfl
  f99 := Tryz.func168.trans (congrArg some (by kernel_rfl))
  f206 := Tryz.func180.trans (congrArg some (by kernel_rfl))
  t3 := Tryz.underlying3
  a3 := Tryz.isAgg3
  z3 := Tryz.sizeOf3
  v3 := Tryz.zeroValue3
  t4 := Tryz.underlying4
  a4 := Tryz.isAgg4
  z4 := Tryz.sizeOf4
  v4 := Tryz.zeroValue4
  t9 := Tryz.underlying9
  a9 := Tryz.isAgg9
  z9 := Tryz.sizeOf9
  v9 := Tryz.zeroValue9 }
open Go.RowKit Go.Lib in
/-- strings.HasPrefix: "HasPrefix reports whether the string s begins with prefix.": IT RETURNS 'Lib.hasPrefix s prefix'; the world is as it was. (LAID: no walk: one application.) -/
theorem Tryz.strings_HasPrefix (s p : ByteArray) (w : World) :
    Calls Tryz.prog 168 #[.string s, .string p] w fun e w' => e = .returned (.bool (Lib.hasPrefix s.data.toList p.data.toList)) ∧ w' = w := Any.strings_HasPrefix Tryz.lays99 s p w
def Tryz.lays193_ren : Go.Shelf.Ren := ⟨fun | 193 => 94 | n => n, fun | 31 => 57 | 9 => 9 | 4 => 4 | 3 => 3 | 0 => 0 | n => n, fun | n => n⟩
theorem Tryz.lays193 : Go.Proofs.Lays.n193 Tryz.prog Tryz.lays193_ren := {
  mixed := by kernel_rfl
  f193 := Tryz.func94.trans (congrArg some (by kernel_rfl))
  t0 := Tryz.underlying0
  a0 := Tryz.isAgg0
  z0 := Tryz.sizeOf0
  v0 := Tryz.zeroValue0
  t3 := Tryz.underlying3
  a3 := Tryz.isAgg3
  z3 := Tryz.sizeOf3
  v3 := Tryz.zeroValue3
  t4 := Tryz.underlying4
  a4 := Tryz.isAgg4
  z4 := Tryz.sizeOf4
  v4 := Tryz.zeroValue4
  t9 := Tryz.underlying9
  a9 := Tryz.isAgg9
  z9 := Tryz.sizeOf9
  v9 := Tryz.zeroValue9
  t31 := Tryz.underlying57
  a31 := Tryz.isAgg57
  z31 := Tryz.sizeOf57
  v31 := Tryz.zeroValue57 }
open Go.RowKit Go.Lib in
/-- slices.Equal at []string: "Equal reports whether two slices are equal: the same length and all elements equal. If the lengths are different, Equal returns false. Otherwise, the elements are compared in increasing index order, and the comparison stops at the first unequal pair. Empty and nil slices are considered equal.": IT RETURNS WHETHER THE TWO LISTS OF ELEMENTS ARE ONE; the world is as it was but for the count of draws (the test 's1[i] != s2[i]' has two reads, whose order the model draws, once a round). 'xs', 'ys': what the cells behind the two addresses hold (the spare capacity too, if you have it); 'xs.take n', 'ys.take m': the elements. THE TWO SLICES MAY OVERLAP. (LAID: no walk: one application.) -/
theorem Tryz.slices_Equal_string (b1 o1 n c b2 o2 m d : Nat) (xs ys : List ByteArray) (w : World) (hx : n ≤ xs.length) (hy : m ≤ ys.length) (hbig : n ≤ 9223372036854775807) (hbig2 : m ≤ 9223372036854775807) (hc1 : ∀ j, j < xs.length → w.cell? ⟨b1, o1 + j, none⟩ = some (.string (xs.getD j ByteArray.empty))) (hc2 : ∀ j, j < ys.length → w.cell? ⟨b2, o2 + j, none⟩ = some (.string (ys.getD j ByteArray.empty))) :
    Calls Tryz.prog 94 #[.slice (some ⟨b1, o1, none⟩) n c, .slice (some ⟨b2, o2, none⟩) m d] w fun e w' => e = .returned (.bool (decide (xs.take n = ys.take m))) ∧ ∃ q, w' = w.drewN q := Any.slices_Equal_string Tryz.lays193 b1 o1 n c b2 o2 m d xs ys w hx hy hbig hbig2 hc1 hc2
open Go.RowKit Go.Lib in
/-- The same where the first is of length 0 (a nil one too): no cell is asked for. (LAID: no walk: one application.) -/
theorem Tryz.slices_Equal_string_empty (a1 a2 : Option Addr) (c m d : Nat) (w : World) (hbig2 : m ≤ 9223372036854775807) :
    Calls Tryz.prog 94 #[.slice a1 0 c, .slice a2 m d] w fun e w' => e = .returned (.bool (decide (m = 0))) ∧ w' = w := Any.slices_Equal_string_empty Tryz.lays193 a1 a2 c m d w hbig2
open Go.RowKit Go.Lib in
theorem Tryz.slices_Equal_string_lens (a1 a2 : Option Addr) (n c m d : Nat) (w : World) (hnm : n ≠ m) :
    Calls Tryz.prog 94 #[.slice a1 n c, .slice a2 m d] w fun e w' => e = .returned (.bool false) ∧ w' = w := Any.slices_Equal_string_lens Tryz.lays193 a1 a2 n c m d w hnm
end Go.Proofs
/- strings.Trim at an ASCII cutset, laid at this program: one application of the library's contract. -/
namespace Go.Proofs
open Go.Shelf
open Go.RowKit Go.Lib in
/-- strings.Trim at an ASCII cutset however long. -/
theorem Tryz.strings_Trim_laid (s cutset : ByteArray) (w : World) (hs : s.size ≤ 9223372036854775807) (hcs : cutset.size < 4294967281) (hascii : ∀ (j : Nat) b, cutset.data.toList[j]? = some b → b.toNat < 128) :
    Calls Tryz.prog 176 #[.string s, .string cutset] w fun e w' => e = .returned (.string ⟨(Lib.trimS s.data.toList cutset.data.toList).toArray⟩) ∧ Below w.heap.size w w' := Any.strings_Trim_laid Tryz.lays160 (by kernel_rfl) s cutset w hs hcs hascii
end Go.Proofs
/- Words for the value layer: strings in memory, enumerations in memory, the numbers of operators; what the listed variables give. -/
namespace Go.Proofs.YthlapepjebidgaaGreatDoor.va
set_option linter.unusedVariables false
set_option linter.unusedSimpArgs false
open Go.RowKit
def Bel (v : Value) (w : World) (e : Ending) (w' : World) : Prop := e = .returned v ∧ Below w.heap.size w w'
/-- strings as values -/
def ss (l : List ByteArray) : List Value := l.map Value.string
theorem ss_get {l : List ByteArray} {k : Nat} {b : ByteArray} (h : l[k]? = some b) : (ss l)[k]? = some (.string b) := by simp [ss, h]
/-- an enumeration, and where its tags lie -/
structure En where
  name : ByteArray
  A : Option Addr
  c : Nat
  tags : List ByteArray
/-- A reads as the enumerations es, two cells each, below B -/
def RdE (w : World) (B : Nat) (A : Option Addr) (es : List En) : Prop :=
  (es ≠ [] → ∃ ad, A = some ad ∧ ad.block < B ∧ ∀ (i : Nat) (e : En), es[i]? = some e → w.cell? (ad.add (i * 2)) = some (.string e.name) ∧ w.cell? (ad.add (i * 2+1)) = some (.slice e.A e.tags.length e.c)) ∧
  ∀ (i : Nat) (e : En), es[i]? = some e → Rd w B e.A (ss e.tags)
theorem RdE.nil (w : World) (B : Nat) (A : Option Addr) : RdE w B A [] := ⟨fun h => absurd rfl h, fun i e h => by simp at h⟩
theorem RdE.keep {w w' : World} {B : Nat} {A : Option Addr} {es : List En} (h : RdE w B A es) (hk : ∀ p : Addr, p.block < B → w'.cell? p = w.cell? p) : RdE w' B A es := by
  refine ⟨fun hn => ?_, fun i e he => (h.2 i e he).keep hk⟩
  obtain ⟨ad, e, hb, hc⟩ := h.1 hn
  exact ⟨ad, e, hb, fun i x hx => ⟨(hk _ (by rw [add_block]; exact hb)).trans (hc i x hx).1, (hk _ (by rw [add_block]; exact hb)).trans (hc i x hx).2⟩⟩
theorem RdE.more {w : World} {B B' : Nat} {A : Option Addr} {es : List En} (h : RdE w B A es) (hB : B ≤ B') : RdE w B' A es := by
  refine ⟨fun hn => ?_, fun i e he => (h.2 i e he).more hB⟩
  obtain ⟨ad, e, hb, hc⟩ := h.1 hn
  exact ⟨ad, e, by omega, hc⟩
theorem RdE.to {w W : World} {A : Option Addr} {es : List En} (h : RdE w w.heap.size A es) (hb : Below w.heap.size w W) : RdE W W.heap.size A es := (h.keep fun _ hp => hb.cell hp).more hb.size
theorem add_fld (ad : Addr) (n : Nat) : ad.add (n+1) = ⟨(ad.add n).block, (ad.add n).off+1, none⟩ := by
  unfold Addr.add
  by_cases h : n = 0
  · subst h; simp
  · simp [h, Nat.add_assoc]
theorem RdE.at_ {w : World} {B : Nat} {A : Option Addr} {es : List En} (h : RdE w B A es) {k : Nat} (hk : k < es.length) :
    ∃ ad e, A = some ad ∧ ad.block < B ∧ es[k]? = some e ∧ w.cell? (ad.add (k * 2)) = some (.string e.name) ∧ w.cell? ⟨(ad.add (k * 2)).block, (ad.add (k * 2)).off+1, none⟩ = some (.slice e.A e.tags.length e.c) ∧ Rd w B e.A (ss e.tags) := by
  have he : es[k]? = some es[k] := List.getElem?_eq_getElem hk
  obtain ⟨ad, e, hb, hc⟩ := h.1 (by rintro rfl; simp at hk)
  exact ⟨ad, _, e, hb, he, (hc k _ he).1, by rw [← add_fld]; exact (hc k _ he).2, h.2 k _ he⟩
/-- what the listed variables give: the table of powers, and the two sentinels -/
def Std (w : World) : Prop := Lib.TabIs Tryz.prog w "internal/strconv.uint64pow10" .u64 Lib.pow10Tab ∧ (∃ tp p, w.var? Tryz.prog "strconv.ErrSyntax" = some #[.iface tp p]) ∧ ∃ tp p, w.var? Tryz.prog "strconv.ErrRange" = some #[.iface tp p]
theorem var_below {n : String} {g : Nat} {v : Array Value} {w w' : World} (hg : Tryz.prog.globalNamed n = some g) (h : w.var? Tryz.prog n = some v) (hb : Below w.heap.size w w') : w'.var? Tryz.prog n = some v := by
  unfold World.var? at h ⊢
  rw [hg] at h ⊢
  simp only [Option.bind_some] at h ⊢
  have hlt : g < w.heap.size := by
    rcases Nat.lt_or_ge g w.heap.size with h' | h'
    · exact h'
    · rw [Array.getElem?_eq_none h'] at h; cases h
  rw [hb.block g hlt]
  exact h
theorem tab_below {n : String} {g : Nat} {k : IntKind} {zs : List Int} {w w' : World} (hg : Tryz.prog.globalNamed n = some g) (h : Lib.TabIs Tryz.prog w n k zs) (hb : Below w.heap.size w w') : Lib.TabIs Tryz.prog w' n k zs := var_below hg h hb
theorem gTab : Tryz.prog.globalNamed "internal/strconv.uint64pow10" = some 5 := by kernel_rfl
theorem gSyn : Tryz.prog.globalNamed "strconv.ErrSyntax" = some 1 := by kernel_rfl
theorem gRng : Tryz.prog.globalNamed "strconv.ErrRange" = some 2 := by kernel_rfl
theorem Std.to {w w' : World} (h : Std w) (hb : Below w.heap.size w w') : Std w' := by
  obtain ⟨h1, ⟨a, b, h2⟩, c, d, h3⟩ := h
  exact ⟨tab_below gTab h1 hb, ⟨a, b, var_below gSyn h2 hb⟩, c, d, var_below gRng h3 hb⟩
/-- strconv.Atoi, at every text: a number and whether there is an error -/
def atoiV (l : List UInt8) : Int := match Lib.atoiAll l with | .ok v => v | .syntax => 0 | .range => Lib.atoiSat l
def atoiOk (l : List UInt8) : Bool := match Lib.atoiAll l with | .ok v => true | _ => false
def Ato (l : List UInt8) (w : World) (e : Ending) (w' : World) : Prop := ∃ ev, e = .returned (.tuple #[.int .i64 (atoiV l), ev]) ∧ Below w.heap.size w w' ∧ (if atoiOk l then ev = .nilIface else ∃ t p, ev = .iface t p)
theorem atoi_any (s : ByteArray) (w : World) (hs : Std w) (hl : s.size ≤ 281474976710656) : Calls Tryz.prog 167 #[.string s] w (Ato s.data.toList w) := by
  obtain ⟨h1, ⟨a, b, h2⟩, c, d, h3⟩ := hs
  cases h : Lib.atoiAll s.data.toList with
  | ok v =>
    refine (Tryz.strconv_Atoi_ok s (by omega) v h w).mono fun e w' ⟨he, hw⟩ => ⟨.nilIface, by rw [he, atoiV, h], ?_, by rw [atoiOk, h]; rfl⟩
    rcases hw with rfl | ⟨t, rfl⟩
    · exact Below.refl _ _
    · exact Lib.bytesWorld_below _ _ _
  | «syntax» =>
    refine (Tryz.strconv_Atoi_syntax_var s hl h a b w h2).mono fun e w' hx => ?_
    obtain ⟨N, he, _, _, hb⟩ := hx
    have e1 : atoiV s.data.toList = 0 := by rw [atoiV, h]
    have e2 : atoiOk s.data.toList = false := by rw [atoiOk, h]
    exact ⟨_, by rw [he, e1], hb, by rw [e2]; exact ⟨_, _, rfl⟩⟩
  | range =>
    refine (Tryz.strconv_Atoi_range_var s hl h c d w h3).mono fun e w' hx => ?_
    obtain ⟨N, he, _, _, hb⟩ := hx
    have e1 : atoiV s.data.toList = Lib.atoiSat s.data.toList := by rw [atoiV, h]
    have e2 : atoiOk s.data.toList = false := by rw [atoiOk, h]
    exact ⟨_, by rw [he, e1], hb, by rw [e2]; exact ⟨_, _, rfl⟩⟩
theorem spot_of {w : World} {a : Addr} {v : Value} (h : w.cell? a = some v) : a.spot = none := by
  unfold World.cell? at h
  split at h
  · split at h
    · cases h
    · rename_i hs; simpa using hs
  · cases h
end Go.Proofs.YthlapepjebidgaaGreatDoor.va
/- enumerated, valid, tags, Size, Has, Name of the program; known, Size, Has, Name of the reference. -/
namespace Go.Proofs.YthlapepjebidgaaGreatDoor.va
set_option linter.unusedVariables false
set_option linter.unusedSimpArgs false
open Go.RowKit
theorem add_off (b j : Nat) : (Addr.mk b 0 none).add j = ⟨b, j, none⟩ := by
  unfold Addr.add
  split
  · rename_i h; rw [h]
  · simp
/-- a row just made reads as what was laid -/
theorem rd_alloc (w : World) (cs : Array Value) (t : TypeId) : Rd (w.alloc (.cells cs t)) (w.alloc (.cells cs t)).heap.size (some ⟨w.heap.size, 0, none⟩) cs.toList := by
  intro _
  refine ⟨_, rfl, by simp, fun j u hu => ?_⟩
  rw [add_off, cell_of_row _ _ j cs t (0, 0) (heap_alloc_new w _), ← hu]
  simp
def enuB (es : List En) (t : Int) : Bool := decide (3 ≤ t) && decide (t - 3 < es.length)
def valB (es : List En) (t : Int) : Bool := t == 1 || t == 2 || enuB es t
abbrev sFalse : ByteArray := ⟨#[102, 97, 108, 115, 101]⟩
abbrev sTrue : ByteArray := ⟨#[116, 114, 117, 101]⟩
def tagsOf (es : List En) (t : Int) : List ByteArray := if t = 1 then [sFalse, sTrue] else if enuB es t then ((es[(t - 3).toNat]?).map (·.tags)).getD [] else []
def sizeT (es : List En) (t : Int) : Int := if t = 2 then 65536 else (tagsOf es t).length
def hasB (es : List En) (t v : Int) : Bool := if t = 2 then decide (-32768 ≤ v) && decide (v ≤ 32767) else decide (0 ≤ v) && decide (v < sizeT es t)
def NewS (l : List ByteArray) (w : World) (e : Ending) (w' : World) : Prop := ∃ A c, e = .returned (.slice A l.length c) ∧ Rd w' w'.heap.size A (ss l) ∧ Below w.heap.size w w'
theorem enum_any (A : Option Addr) (c : Nat) (es : List En) (t : Int) (w : World) (hl : es.length ≤ 9223372036854775807) (hti : t ≤ 9223372036854775807) :
    Calls Tryz.prog 181 #[.slice A es.length c, .int .i64 t] w fun e w' => e = .returned (.bool (enuB es t)) ∧ w = w' := by
  by_cases h3 : 3 ≤ t
  · by_cases hl : t - 3 < es.length
    all_goals
      go_enter Tryz.func181, Tryz.ntmps181
      go_wp2
      go_ret
      exact ⟨ret_bool (by simp [enuB, *]; try omega), rfl⟩
  · have e3 : decide (3 ≤ t) = false := by simpa using h3
    go_enter Tryz.func181, Tryz.ntmps181
    go_wp2
    go_ret
    exact ⟨ret_bool (by simp [enuB, *]; try omega), rfl⟩
theorem tagsOf_enu {es : List En} {k : Nat} {e : En} (he : es[k]? = some e) : tagsOf es ((k : Int) + 3) = e.tags := by
  have hk : k < es.length := (List.getElem?_eq_some_iff.1 he).1
  rw [tagsOf, if_neg (by omega), if_pos (by simp [enuB]; omega), show ((k : Int) + 3 - 3).toNat = k by omega, he]
  rfl
theorem tags_any (A : Option Addr) (c : Nat) (es : List En) (t : Int) (w : World) (hA : RdE w w.heap.size A es) (hl : es.length ≤ 9223372036854775807) (hti : t ≤ 9223372036854775807) :
    Calls Tryz.prog 173 #[.slice A es.length c, .int .i64 t] w (NewS (tagsOf es t) w) := by
  by_cases h1 : t = 1
  · subst h1
    go_enter Tryz.func173, Tryz.ntmps173
    go_wp2
    go_ret
    exact ⟨_, _, rfl, rd_alloc w #[.string sFalse, .string sTrue] _, bel_box _⟩
  have e1 : (t == 1) = false := by simp [h1]
  by_cases h3 : enuB es t = true
  · obtain ⟨k, rfl⟩ : ∃ k : Nat, t = k + 3 := ⟨(t - 3).toNat, by simp [enuB] at h3; omega⟩
    have hk : k < es.length := by simp [enuB] at h3; omega
    obtain ⟨ad, e, rfl, hb, he, hn, ht, hr⟩ := hA.at_ hk
    have HT := Lib.hid (tagsOf_enu he)
    have KE := Lib.hid (fun A c w => enum_any A c es ((k : Int) + 3) w hl hti)
    clear h1 hti
    go_enter Tryz.func173, Tryz.ntmps173
    go_wp2_with (go_at_call 181; refine (KE.out _ _ _).mono ?_; rintro e w' ⟨rfl, rfl⟩; rw [h3])
    go_ret
    refine ⟨e.A, e.c, ?_, ?_, Below.refl _ _⟩
    · rw [HT.out]; rfl
    · rw [HT.out]; exact hr
  · rw [Bool.not_eq_true] at h3
    have ht : tagsOf es t = [] := by rw [tagsOf, if_neg h1, if_neg (by simp [h3])]
    rw [ht]
    clear h1 ht
    go_enter Tryz.func173, Tryz.ntmps173
    go_wp2_with (go_at_call 181; refine (enum_any _ _ es _ _ hl hti).mono ?_; rintro e w' ⟨rfl, rfl⟩; rw [h3])
    go_ret
    exact ⟨none, 0, rfl, Rd.nil _ _ _, Below.refl _ _⟩
theorem size_any (A : Option Addr) (c : Nat) (es : List En) (t : Int) (w : World) (hA : RdE w w.heap.size A es) (hl : es.length ≤ 9223372036854775807) (hti : t ≤ 9223372036854775807) :
    Calls Tryz.prog 153 #[.slice A es.length c, .int .i64 t] w (Bel (.int .i64 (sizeT es t)) w) := by
  by_cases h1 : t = 2
  · subst h1
    go_enter Tryz.func153, Tryz.ntmps153
    go_wp2
    go_ret
    exact ⟨rfl, Below.refl _ _⟩
  · have e1 : (t == 2) = false := by simp [h1]
    have KT := Lib.hid (tags_any A c es t w hA hl hti)
    have KS : sizeT es t = (tagsOf es t).length := by rw [sizeT, if_neg h1]
    rw [KS]
    clear h1 KS hA hti
    go_enter Tryz.func153, Tryz.ntmps153
    go_wp2_with (go_at_call 173; refine KT.out.mono ?_; rintro e w' ⟨A', c', rfl, hr, hb⟩)
    go_ret
    exact ⟨rfl, hb⟩
theorem has_any (A : Option Addr) (c : Nat) (es : List En) (t v : Int) (w : World) (hA : RdE w w.heap.size A es) (hl : es.length ≤ 9223372036854775807) (hti : t ≤ 9223372036854775807) :
    Calls Tryz.prog 154 #[.slice A es.length c, .int .i64 t, .int .i64 v] w (Bel (.bool (hasB es t v)) w) := by
  by_cases h1 : t = 2
  · subst h1
    have hs : hasB es 2 v = (decide (-32768 ≤ v) && decide (v ≤ 32767)) := rfl
    rw [hs]
    clear hs
    go_enter Tryz.func154, Tryz.ntmps154
    go_wp2_with (go_at_call 174; refine (in_any _ _).mono ?_; rintro e w' ⟨rfl, rfl⟩)
    go_ret
    exact ⟨rfl, Below.refl _ _⟩
  · have e1 : (t == 2) = false := by simp [h1]
    have KT := Lib.hid (size_any A c es t w hA hl hti)
    have KS : hasB es t v = (decide (0 ≤ v) && decide (v < sizeT es t)) := by rw [hasB, if_neg h1]
    rw [KS]
    clear h1 KS hA hti
    by_cases h0 : 0 ≤ v
    · go_enter Tryz.func154, Tryz.ntmps154
      go_wp2_with (go_at_call 153; refine KT.out.mono ?_; rintro e w' ⟨rfl, hb⟩)
      go_ret
      exact ⟨ret_bool (by simp [h0]), hb⟩
    · have e0 : decide (0 ≤ v) = false := by simpa using h0
      go_enter Tryz.func154, Tryz.ntmps154
      go_wp2
      go_ret
      exact ⟨ret_bool (by simp [h0]), Below.refl _ _⟩
abbrev sBool : ByteArray := ⟨#[98, 111, 111, 108]⟩
abbrev sInt : ByteArray := ⟨#[105, 110, 116]⟩
def nameT (es : List En) (t : Int) : ByteArray := if t = 1 then sBool else if t = 2 then sInt else if enuB es t then ((es[(t - 3).toNat]?).map (·.name)).getD ⟨#[]⟩ else ⟨#[]⟩
theorem nameT_enu {es : List En} {k : Nat} {e : En} (he : es[k]? = some e) : nameT es ((k : Int) + 3) = e.name := by
  have hk : k < es.length := (List.getElem?_eq_some_iff.1 he).1
  rw [nameT, if_neg (by omega), if_neg (by omega), if_pos (by simp [enuB]; omega), show ((k : Int) + 3 - 3).toNat = k by omega, he]
  rfl
theorem name_any (A : Option Addr) (c : Nat) (es : List En) (t : Int) (w : World) (hA : RdE w w.heap.size A es) (hl : es.length ≤ 9223372036854775807) (hti : t ≤ 9223372036854775807) :
    Calls Tryz.prog 169 #[.slice A es.length c, .int .i64 t] w (Bel (.tuple #[.string (nameT es t), .bool (valB es t)]) w) := by
  by_cases h1 : t = 1
  · subst h1
    go_enter Tryz.func169, Tryz.ntmps169
    go_wp2
    go_ret2
    exact ⟨rfl, Below.refl _ _⟩
  by_cases h2 : t = 2
  · subst h2
    go_enter Tryz.func169, Tryz.ntmps169
    go_wp2
    go_ret2
    exact ⟨rfl, Below.refl _ _⟩
  have e1 : (t == 1) = false := by simp [h1]
  have e2 : (t == 2) = false := by simp [h2]
  have hv : valB es t = enuB es t := by simp [valB, e1, e2]
  rw [hv]
  by_cases h3 : enuB es t = true
  · obtain ⟨k, rfl⟩ : ∃ k : Nat, t = k + 3 := ⟨(t - 3).toNat, by simp [enuB] at h3; omega⟩
    have hk : k < es.length := by simp [enuB] at h3; omega
    obtain ⟨ad, e, rfl, hb, he, hn, ht, hr⟩ := hA.at_ hk
    have HT := Lib.hid (nameT_enu he)
    have KE := Lib.hid (fun A c w => enum_any A c es ((k : Int) + 3) w hl hti)
    rw [h3, HT.out]
    clear h1 h2 hti hv
    go_enter Tryz.func169, Tryz.ntmps169
    go_wp2_with (go_at_call 181; refine (KE.out _ _ _).mono ?_; rintro e w' ⟨rfl, rfl⟩; rw [h3])
    go_ret2
    exact ⟨rfl, Below.refl _ _⟩
  · rw [Bool.not_eq_true] at h3
    have ht : nameT es t = ⟨#[]⟩ := by rw [nameT, if_neg h1, if_neg h2, if_neg (by simp [h3])]
    rw [ht, h3]
    clear h1 h2 ht hv
    go_enter Tryz.func169, Tryz.ntmps169
    go_wp2_with (go_at_call 181; refine (enum_any _ _ es _ _ hl hti).mono ?_; rintro e w' ⟨rfl, rfl⟩; rw [h3])
    go_ret2
    exact ⟨rfl, Below.refl _ _⟩
end Go.Proofs.YthlapepjebidgaaGreatDoor.va
/- Programs as they lie in memory: rows, declarations, equations, automata, nodes. -/
namespace Go.Proofs.YthlapepjebidgaaGreatDoor
set_option linter.unusedVariables false
set_option linter.unusedSimpArgs false
open Go.RowKit
/-- a row, and where it lies -/
structure Rw (α : Type) where
  A : Option Addr
  c : Nat
  l : List α
structure Ot where
  nm : ByteArray
  t : Int
  tag : Int
structure Dt where
  nm : ByteArray
  ty : Int
  ck : Rw Ot
structure Qt where
  lf : Rw ByteArray
  r : Xt
structure Tt where
  cd : Xt
  to : Int
  re : Bool
inductive St where
  | mk (nm : ByteArray) (lc : Rw Dt) (qs : Rw Qt) (au : Rw (Rw St)) (un ut : Rw Tt)
def St.nm : St → ByteArray | .mk nm _ _ _ _ _ => nm
def St.lc : St → Rw Dt | .mk _ lc _ _ _ _ => lc
def St.qs : St → Rw Qt | .mk _ _ qs _ _ _ => qs
def St.au : St → Rw (Rw St) | .mk _ _ _ au _ _ => au
def St.un : St → Rw Tt | .mk _ _ _ _ un _ => un
def St.ut : St → Rw Tt | .mk _ _ _ _ _ ut => ut
theorem St.lt_of_mem {s t : St} {a : Rw St} (ha : a ∈ s.au.l) (ht : t ∈ a.l) : SizeOf.sizeOf t < SizeOf.sizeOf s := by
  cases s with
  | mk nm lc qs au un ut =>
    have h1 := List.sizeOf_lt_of_mem (show a ∈ au.l from ha)
    have h2 := List.sizeOf_lt_of_mem ht
    cases a with
    | mk A c l =>
      cases au with
      | mk A' c' l' =>
        simp at h1 h2 ⊢
        omega
theorem St.ind {P : St → Prop} (h : ∀ s : St, (∀ a ∈ s.au.l, ∀ t ∈ a.l, P t) → P s) (s : St) : P s := by
  generalize hN : SizeOf.sizeOf s = N
  induction N using Nat.strongRecOn generalizing s with
  | ind N ih =>
    subst hN
    exact h s fun a ha t ht => ih _ (St.lt_of_mem ha ht) t rfl
structure Nt where
  nm : ByteArray
  ins : Rw Dt
  outs : Rw Dt
  locs : Rw Dt
  qs : Rw Qt
  au : Rw (Rw St)
  asm : Rw Xt
  ens : Rw Xt
structure Pt where
  es : Rw va.En
  ns : Rw Nt
/- their values -/
abbrev Rw.v {α : Type} (r : Rw α) : Value := .slice r.A r.l.length r.c
abbrev oV (o : Ot) : Value := .agg #[.string o.nm, .int .i64 o.t, .int .i64 o.tag]
abbrev dV (d : Dt) : Value := .agg #[.string d.nm, .int .i64 d.ty, .slice d.ck.A d.ck.l.length d.ck.c]
abbrev qV (q : Qt) : Value := .agg #[.slice q.lf.A q.lf.l.length q.lf.c, .int .i64 q.r.k, .int .i64 q.r.op, .int .i64 q.r.t, .int .i64 q.r.v, .string q.r.nm, .slice q.r.A q.r.ar.length q.r.c]
abbrev tV (t : Tt) : Value := .agg #[.int .i64 t.cd.k, .int .i64 t.cd.op, .int .i64 t.cd.t, .int .i64 t.cd.v, .string t.cd.nm, .slice t.cd.A t.cd.ar.length t.cd.c, .int .i64 t.to, .bool t.re]
abbrev sV (s : St) : Value := .agg #[.string s.nm, .slice s.lc.A s.lc.l.length s.lc.c, .slice s.qs.A s.qs.l.length s.qs.c, .slice s.au.A s.au.l.length s.au.c, .slice s.un.A s.un.l.length s.un.c, .slice s.ut.A s.ut.l.length s.ut.c]
abbrev aV (a : Rw St) : Value := .agg #[.slice a.A a.l.length a.c]
abbrev nV (n : Nt) : Value := .agg #[.string n.nm, .slice n.ins.A n.ins.l.length n.ins.c, .slice n.outs.A n.outs.l.length n.outs.c, .slice n.locs.A n.locs.l.length n.locs.c, .slice n.qs.A n.qs.l.length n.qs.c, .slice n.au.A n.au.l.length n.au.c, .slice n.asm.A n.asm.l.length n.asm.c, .slice n.ens.A n.ens.l.length n.ens.c]
abbrev pV (p : Pt) : Value := .agg #[.slice p.es.A p.es.l.length p.es.c, .slice p.ns.A p.ns.l.length p.ns.c]
/- their cells -/
def OC (w : World) (a : Addr) (o : Ot) : Prop := w.cell? a = some (.string o.nm) ∧ w.cell? ⟨a.block, a.off+1, none⟩ = some (.int .i64 o.t) ∧ w.cell? ⟨a.block, a.off + 2, none⟩ = some (.int .i64 o.tag)
def DC (w : World) (a : Addr) (d : Dt) : Prop := w.cell? a = some (.string d.nm) ∧ w.cell? ⟨a.block, a.off+1, none⟩ = some (.int .i64 d.ty) ∧ w.cell? ⟨a.block, a.off + 2, none⟩ = some (.slice d.ck.A d.ck.l.length d.ck.c)
def BC (w : World) (a : Addr) (b : ByteArray) : Prop := w.cell? a = some (.string b)
def QC (w : World) (a : Addr) (q : Qt) : Prop := w.cell? a = some (.slice q.lf.A q.lf.l.length q.lf.c) ∧ w.cell? ⟨a.block, a.off+1, none⟩ = some (.int .i64 q.r.k) ∧ w.cell? ⟨a.block, a.off + 2, none⟩ = some (.int .i64 q.r.op) ∧ w.cell? ⟨a.block, a.off + 3, none⟩ = some (.int .i64 q.r.t) ∧ w.cell? ⟨a.block, a.off + 4, none⟩ = some (.int .i64 q.r.v) ∧ w.cell? ⟨a.block, a.off + 5, none⟩ = some (.string q.r.nm) ∧ w.cell? ⟨a.block, a.off + 6, none⟩ = some (.slice q.r.A q.r.ar.length q.r.c)
def TC (w : World) (a : Addr) (t : Tt) : Prop := XC w a t.cd ∧ w.cell? ⟨a.block, a.off + 6, none⟩ = some (.int .i64 t.to) ∧ w.cell? ⟨a.block, a.off + 7, none⟩ = some (.bool t.re)
def SC (w : World) (a : Addr) (s : St) : Prop := w.cell? a = some (.string s.nm) ∧ w.cell? ⟨a.block, a.off+1, none⟩ = some (.slice s.lc.A s.lc.l.length s.lc.c) ∧ w.cell? ⟨a.block, a.off + 2, none⟩ = some (.slice s.qs.A s.qs.l.length s.qs.c) ∧ w.cell? ⟨a.block, a.off + 3, none⟩ = some (.slice s.au.A s.au.l.length s.au.c) ∧ w.cell? ⟨a.block, a.off + 4, none⟩ = some (.slice s.un.A s.un.l.length s.un.c) ∧ w.cell? ⟨a.block, a.off + 5, none⟩ = some (.slice s.ut.A s.ut.l.length s.ut.c)
def AC (w : World) (a : Addr) (r : Rw St) : Prop := w.cell? a = some (.slice r.A r.l.length r.c)
def NC (w : World) (a : Addr) (n : Nt) : Prop := w.cell? a = some (.string n.nm) ∧ w.cell? ⟨a.block, a.off+1, none⟩ = some (.slice n.ins.A n.ins.l.length n.ins.c) ∧ w.cell? ⟨a.block, a.off + 2, none⟩ = some (.slice n.outs.A n.outs.l.length n.outs.c) ∧ w.cell? ⟨a.block, a.off + 3, none⟩ = some (.slice n.locs.A n.locs.l.length n.locs.c) ∧ w.cell? ⟨a.block, a.off + 4, none⟩ = some (.slice n.qs.A n.qs.l.length n.qs.c) ∧ w.cell? ⟨a.block, a.off + 5, none⟩ = some (.slice n.au.A n.au.l.length n.au.c) ∧ w.cell? ⟨a.block, a.off + 6, none⟩ = some (.slice n.asm.A n.asm.l.length n.asm.c) ∧ w.cell? ⟨a.block, a.off + 7, none⟩ = some (.slice n.ens.A n.ens.l.length n.ens.c)
/-- a predicate of cells speaks of one block -/
def OneB {α : Type} (C : World → Addr → α → Prop) : Prop := ∀ (w W : World) (a : Addr) (y : α), C w a y → (∀ p : Addr, p.block = a.block → W.cell? p = w.cell? p) → C W a y
theorem oneB_O : OneB OC := fun _ _ _ _ h k => ⟨(k _ rfl).trans h.1, (k ⟨_, _, none⟩ rfl).trans h.2.1, (k ⟨_, _, none⟩ rfl).trans h.2.2⟩
theorem oneB_D : OneB DC := fun _ _ _ _ h k => ⟨(k _ rfl).trans h.1, (k ⟨_, _, none⟩ rfl).trans h.2.1, (k ⟨_, _, none⟩ rfl).trans h.2.2⟩
theorem oneB_B : OneB BC := fun _ _ _ _ h k => (k _ rfl).trans h
theorem oneB_X : OneB XC := fun _ _ _ _ h k => h.keep k
theorem oneB_Q : OneB QC := fun _ _ _ _ h k => ⟨(k _ rfl).trans h.1, (k ⟨_, _, none⟩ rfl).trans h.2.1, (k ⟨_, _, none⟩ rfl).trans h.2.2.1, (k ⟨_, _, none⟩ rfl).trans h.2.2.2.1, (k ⟨_, _, none⟩ rfl).trans h.2.2.2.2.1, (k ⟨_, _, none⟩ rfl).trans h.2.2.2.2.2.1, (k ⟨_, _, none⟩ rfl).trans h.2.2.2.2.2.2⟩
theorem oneB_T : OneB TC := fun _ _ _ _ h k => ⟨h.1.keep k, (k ⟨_, _, none⟩ rfl).trans h.2.1, (k ⟨_, _, none⟩ rfl).trans h.2.2⟩
theorem oneB_S : OneB SC := fun _ _ _ _ h k => ⟨(k _ rfl).trans h.1, (k ⟨_, _, none⟩ rfl).trans h.2.1, (k ⟨_, _, none⟩ rfl).trans h.2.2.1, (k ⟨_, _, none⟩ rfl).trans h.2.2.2.1, (k ⟨_, _, none⟩ rfl).trans h.2.2.2.2.1, (k ⟨_, _, none⟩ rfl).trans h.2.2.2.2.2⟩
theorem oneB_A : OneB AC := fun _ _ _ _ h k => (k _ rfl).trans h
theorem oneB_N : OneB NC := fun _ _ _ _ h k => ⟨(k _ rfl).trans h.1, (k ⟨_, _, none⟩ rfl).trans h.2.1, (k ⟨_, _, none⟩ rfl).trans h.2.2.1, (k ⟨_, _, none⟩ rfl).trans h.2.2.2.1, (k ⟨_, _, none⟩ rfl).trans h.2.2.2.2.1, (k ⟨_, _, none⟩ rfl).trans h.2.2.2.2.2.1, (k ⟨_, _, none⟩ rfl).trans h.2.2.2.2.2.2.1, (k ⟨_, _, none⟩ rfl).trans h.2.2.2.2.2.2.2⟩
/-- a row lies in memory below block B, its elements in sz cells each -/
def RdR {α : Type} (w : World) (B sz : Nat) (C : World → Addr → α → Prop) (r : Rw α) : Prop :=
  (r.l ≠ [] → ∃ ad, r.A = some ad ∧ ad.block < B) ∧ (∀ (ad : Addr) (i : Nat) (y : α), r.A = some ad → r.l[i]? = some y → C w (ad.add (i * sz)) y) ∧ r.l.length ≤ maxLen ∧ r.l.length ≤ r.c
theorem RdR.blw {α : Type} {w W : World} {B B' sz : Nat} {C : World → Addr → α → Prop} {r : Rw α} (h : RdR w B sz C r) (hC : OneB C) (hb : Below B w W) (hB : B ≤ B') : RdR W B' sz C r := by
  refine ⟨fun hn => ?_, fun ad i y ha hy => ?_, h.2.2⟩
  · obtain ⟨ad, e, h⟩ := h.1 hn
    exact ⟨ad, e, by omega⟩
  · obtain ⟨ad', e, h'⟩ := h.1 (by intro e; rw [e] at hy; simp at hy)
    obtain rfl : ad = ad' := Option.some.inj (ha.symm.trans e)
    exact hC _ _ _ _ (h.2.1 ad i y ha hy) fun p hp => hb.cell (by rw [hp, add_block]; exact h')
theorem RdR.at_ {α : Type} {w : World} {B sz : Nat} {C : World → Addr → α → Prop} {r : Rw α} (h : RdR w B sz C r) {i : Nat} (hi : i < r.l.length) : ∃ ad y, r.A = some ad ∧ ad.block < B ∧ r.l[i]? = some y ∧ y ∈ r.l ∧ C w (ad.add (i * sz)) y := by
  obtain ⟨ad, e, hb⟩ := h.1 (by intro e; rw [e] at hi; simp at hi)
  have hy : r.l[i]? = some r.l[i] := List.getElem?_eq_getElem hi
  exact ⟨ad, _, e, hb, hy, List.mem_of_getElem? hy, h.2.1 ad i _ e hy⟩
theorem RdR.len {α : Type} {w : World} {B sz : Nat} {C : World → Addr → α → Prop} {r : Rw α} (h : RdR w B sz C r) : r.l.length ≤ maxLen := h.2.2.1
theorem RdR.nil {α : Type} (w : World) (B sz : Nat) (C : World → Addr → α → Prop) (c : Nat) : RdR w B sz C ⟨none, c, []⟩ := ⟨fun h => absurd rfl h, fun ad i y h => by simp at h, Nat.zero_le _, Nat.zero_le _⟩
/- texts, samplings, declarations, equations, transitions, states, nodes -/
def RsB (w : World) (B : Nat) (r : Rw ByteArray) : Prop := RdR w B 1 BC r ∧ ∀ b ∈ r.l, b.size ≤ 140737488351232
theorem RsB.blw {w W : World} {B B' : Nat} {r : Rw ByteArray} (h : RsB w B r) (hb : Below B w W) (hB : B ≤ B') : RsB W B' r := ⟨h.1.blw oneB_B hb hB, h.2⟩
def RsO (w : World) (B : Nat) (r : Rw Ot) : Prop := RdR w B 3 OC r ∧ ∀ o ∈ r.l, o.nm.size ≤ 140737488351232 ∧ o.t ≤ 9223372036854775807
theorem RsO.blw {w W : World} {B B' : Nat} {r : Rw Ot} (h : RsO w B r) (hb : Below B w W) (hB : B ≤ B') : RsO W B' r := ⟨h.1.blw oneB_O hb hB, h.2⟩
def RsD (w : World) (B : Nat) (d : Dt) : Prop := (d.nm.size ≤ 140737488351232 ∧ d.ty ≤ 9223372036854775807) ∧ RsO w B d.ck
def RsDs (w : World) (B : Nat) (r : Rw Dt) : Prop := RdR w B 3 DC r ∧ ∀ d ∈ r.l, RsD w B d
theorem RsDs.blw {w W : World} {B B' : Nat} {r : Rw Dt} (h : RsDs w B r) (hb : Below B w W) (hB : B ≤ B') : RsDs W B' r := ⟨h.1.blw oneB_D hb hB, fun d hd => ⟨(h.2 d hd).1, (h.2 d hd).2.blw hb hB⟩⟩
/-- an expression, its names bounded by what a machine holds -/
def RsX (w : World) (B : Nat) (x : Xt) : Prop := RdX w B x ∧ ∀ y ∈ x.list, y.nm.size ≤ 140737488351232 ∧ y.t ≤ 9223372036854775807
theorem RsX.blw {w W : World} {B B' : Nat} {x : Xt} (h : RsX w B x) (hb : Below B w W) (hB : B ≤ B') : RsX W B' x := ⟨h.1.blw hb hB, h.2⟩
def RsXs (w : World) (B : Nat) (r : Rw Xt) : Prop := RdR w B 6 XC r ∧ ∀ x ∈ r.l, RsX w B x
theorem RsXs.blw {w W : World} {B B' : Nat} {r : Rw Xt} (h : RsXs w B r) (hb : Below B w W) (hB : B ≤ B') : RsXs W B' r := ⟨h.1.blw oneB_X hb hB, fun d hd => (h.2 d hd).blw hb hB⟩
def RsQ (w : World) (B : Nat) (q : Qt) : Prop := RsB w B q.lf ∧ RsX w B q.r
def RsQs (w : World) (B : Nat) (r : Rw Qt) : Prop := RdR w B 7 QC r ∧ ∀ q ∈ r.l, RsQ w B q
theorem RsQs.blw {w W : World} {B B' : Nat} {r : Rw Qt} (h : RsQs w B r) (hb : Below B w W) (hB : B ≤ B') : RsQs W B' r := ⟨h.1.blw oneB_Q hb hB, fun d hd => ⟨(h.2 d hd).1.blw hb hB, (h.2 d hd).2.blw hb hB⟩⟩
def RsTs (w : World) (B : Nat) (r : Rw Tt) : Prop := RdR w B 8 TC r ∧ ∀ t ∈ r.l, RsX w B t.cd
theorem RsTs.blw {w W : World} {B B' : Nat} {r : Rw Tt} (h : RsTs w B r) (hb : Below B w W) (hB : B ≤ B') : RsTs W B' r := ⟨h.1.blw oneB_T hb hB, fun d hd => (h.2 d hd).blw hb hB⟩
inductive RsS (w : World) (B : Nat) : St → Prop
  | mk (s : St) (h1 : s.nm.size ≤ 140737488351232) (h2 : RsDs w B s.lc) (h3 : RsQs w B s.qs) (h4 : RdR w B 1 AC s.au) (h5 : ∀ a ∈ s.au.l, RdR w B 6 SC a) (h6 : ∀ a ∈ s.au.l, ∀ t ∈ a.l, RsS w B t) (h7 : RsTs w B s.un) (h8 : RsTs w B s.ut) : RsS w B s
theorem RsS.blw {w W : World} {B B' : Nat} {s : St} (h : RsS w B s) (hb : Below B w W) (hB : B ≤ B') : RsS W B' s := by
  induction h with
  | mk s h1 h2 h3 h4 h5 h6 h7 h8 ih => exact .mk s h1 (h2.blw hb hB) (h3.blw hb hB) (h4.blw oneB_A hb hB) (fun a ha => (h5 a ha).blw oneB_S hb hB) ih (h7.blw hb hB) (h8.blw hb hB)
theorem RsS.of {w : World} {B : Nat} {s : St} (h : RsS w B s) : s.nm.size ≤ 140737488351232 ∧ RsDs w B s.lc ∧ RsQs w B s.qs ∧ RdR w B 1 AC s.au ∧ (∀ a ∈ s.au.l, RdR w B 6 SC a) ∧ (∀ a ∈ s.au.l, ∀ t ∈ a.l, RsS w B t) ∧ RsTs w B s.un ∧ RsTs w B s.ut := by
  cases h with
  | mk s h1 h2 h3 h4 h5 h6 h7 h8 => exact ⟨h1, h2, h3, h4, h5, h6, h7, h8⟩
/-- an automaton -/
def RsA (w : World) (B : Nat) (a : Rw St) : Prop := RdR w B 6 SC a ∧ ∀ t ∈ a.l, RsS w B t
theorem RsA.blw {w W : World} {B B' : Nat} {a : Rw St} (h : RsA w B a) (hb : Below B w W) (hB : B ≤ B') : RsA W B' a := ⟨h.1.blw oneB_S hb hB, fun t ht => (h.2 t ht).blw hb hB⟩
def RsAs (w : World) (B : Nat) (r : Rw (Rw St)) : Prop := RdR w B 1 AC r ∧ ∀ a ∈ r.l, RsA w B a
theorem RsAs.blw {w W : World} {B B' : Nat} {r : Rw (Rw St)} (h : RsAs w B r) (hb : Below B w W) (hB : B ≤ B') : RsAs W B' r := ⟨h.1.blw oneB_A hb hB, fun t ht => (h.2 t ht).blw hb hB⟩
def RsN (w : World) (B : Nat) (n : Nt) : Prop := n.nm.size ≤ 140737488351232 ∧ RsDs w B n.ins ∧ RsDs w B n.outs ∧ RsDs w B n.locs ∧ RsQs w B n.qs ∧ RsAs w B n.au ∧ RsXs w B n.asm ∧ RsXs w B n.ens
theorem RsN.blw {w W : World} {B B' : Nat} {n : Nt} (h : RsN w B n) (hb : Below B w W) (hB : B ≤ B') : RsN W B' n :=
  ⟨h.1, h.2.1.blw hb hB, h.2.2.1.blw hb hB, h.2.2.2.1.blw hb hB, h.2.2.2.2.1.blw hb hB, h.2.2.2.2.2.1.blw hb hB, h.2.2.2.2.2.2.1.blw hb hB, h.2.2.2.2.2.2.2.blw hb hB⟩
/-- enumerations -/
def RsE (w : World) (B : Nat) (r : Rw va.En) : Prop := va.RdE w B r.A r.l ∧ (r.l.length ≤ maxLen ∧ r.l.length ≤ r.c) ∧ ∀ e ∈ r.l, e.name.size ≤ 140737488351232 ∧ (e.tags.length ≤ maxLen ∧ e.tags.length ≤ e.c) ∧ ∀ b ∈ e.tags, b.size ≤ 140737488351232
theorem RsE.blw {w W : World} {B B' : Nat} {r : Rw va.En} (h : RsE w B r) (hb : Below B w W) (hB : B ≤ B') : RsE W B' r := ⟨(h.1.keep fun _ hp => hb.cell hp).more hB, h.2⟩
def RsP (w : World) (B : Nat) (p : Pt) : Prop := RsE w B p.es ∧ RdR w B 8 NC p.ns ∧ ∀ n ∈ p.ns.l, RsN w B n
theorem RsP.blw {w W : World} {B B' : Nat} {p : Pt} (h : RsP w B p) (hb : Below B w W) (hB : B ≤ B') : RsP W B' p := ⟨h.1.blw hb hB, h.2.1.blw oneB_N hb hB, fun n hn => (h.2.2 n hn).blw hb hB⟩
end Go.Proofs.YthlapepjebidgaaGreatDoor
/- span, by whatever test; the tests that among and either make. -/

namespace Go.Proofs.YthlapepjebidgaaGreatDoor
set_option linter.unusedVariables false
set_option linter.unusedSimpArgs false
open Go.RowKit
/-- how many bytes in front pass a test -/
def sp (p : Int → Bool) (l : List UInt8) : Nat := (l.takeWhile fun c => p ((c.toNat : Nat) : Int)).length
theorem len_toList (s : ByteArray) : s.data.toList.length = s.size := Array.length_toList
theorem byte_get (s : ByteArray) (k : Nat) (h : k < s.size) : s.data.toList[k]? = some s[k] := by
  rw [List.getElem?_eq_getElem (by rw [len_toList]; exact h)]
  rfl
theorem tw_at {α : Type} (p : α → Bool) (l : List α) (i : Nat) (h : i < (l.takeWhile p).length) : ∃ b, l[i]? = some b ∧ p b = true ∧ (l.takeWhile p)[i]? = some b := by
  induction l generalizing i with
  | nil => simp at h
  | cons a r ih =>
    rw [List.takeWhile_cons] at h ⊢
    by_cases ha : p a = true
    · rw [if_pos ha] at h ⊢
      rcases i with _ | i
      · exact ⟨a, rfl, ha, rfl⟩
      · exact ih i (by simpa using h)
    · rw [if_neg ha] at h
      simp at h
theorem tw_end {α : Type} (p : α → Bool) (l : List α) (b : α) (h : l[(l.takeWhile p).length]? = some b) : p b = false := by
  induction l with
  | nil => simp at h
  | cons a r ih =>
    rw [List.takeWhile_cons] at h
    by_cases ha : p a = true
    · rw [if_pos ha] at h
      exact ih (by simpa using h)
    · rw [if_neg ha] at h
      simp at h
      rw [← h]
      simpa using ha
theorem tw_le {α : Type} (p : α → Bool) (l : List α) : (l.takeWhile p).length ≤ l.length := (List.takeWhile_sublist p).length_le
theorem sp_le (p : Int → Bool) (s : ByteArray) : sp p s.data.toList ≤ s.size := by rw [← len_toList]; exact tw_le _ _
theorem sp_at {p : Int → Bool} {s : ByteArray} {k : Nat} (h : k < sp p s.data.toList) (hk : k < s.size) : p ((s[k].toNat : Nat) : Int) = true := by
  obtain ⟨b, h1, h2, _⟩ := tw_at _ _ _ h
  rw [byte_get s k hk] at h1
  obtain rfl : s[k] = b := by simpa using h1
  exact h2
theorem sp_end {p : Int → Bool} {s : ByteArray} (hk : sp p s.data.toList < s.size) : p ((s[sp p s.data.toList].toNat : Nat) : Int) = false :=
  tw_end (fun c : UInt8 => p ((c.toNat : Nat) : Int)) s.data.toList _ (byte_get s _ hk)
set_option maxHeartbeats 400000 in
theorem span_dg (p : Int → Bool) (s : ByteArray) (w : World) (hs : s.size ≤ 9223372036854775807)
    (hc : Hid (∀ W, Below w.heap.size w W → ∀ c : UInt8, Calls Tryz.prog 137 #[.int .u8 ((c.toNat : Nat) : Int)] W (Bel (.bool (p ((c.toNat : Nat) : Int))) W))) :
    Calls Tryz.prog 135 #[.string s, .func (.func 137) #[] #[]] w (Bel (.int .i64 (sp p s.data.toList)) w) := by
  have HA := Lib.hid (fun k => @sp_at p s k)
  have HE := Lib.hid (@sp_end p s)
  have hle := sp_le p s
  generalize sp p s.data.toList = m at *
  go_enter Tryz.func135, Tryz.ntmps135
  go_wp2
  go_loopw [5, 8] (fun u i wr => ∃ k : Nat, k ≤ m ∧ i = .int .i64 k ∧ Below w.heap.size w wr) (fun _ i _ => m - (intOf i).toNat)
  case atStart => exact ⟨0, by omega, rfl, Below.refl _ _⟩
  case round =>
    obtain ⟨k, hk, rfl, hbl⟩ := hrel
    by_cases hlt : k < m
    · have hks : k < s.size := by omega
      have e1 := HA.out k hlt hks
      go_wp2_with (go_at_call 137; refine (hc.out _ hbl _).mono ?_; rintro e w1 ⟨rfl, hb1⟩; rw [e1])
      go_roundw
      case rel => exact ⟨k+1, by omega, by go_num, (by repeat (first | (with_reducible exact Below.refl _ _) | (with_reducible assumption) | (with_reducible exact bel_box _) | (with_reducible refine bel_step ?_ (by with_reducible assumption)) | (with_reducible refine Below.drew ?_) | (with_reducible refine below_drewN ?_ _) | (with_reducible refine bel_alloc ?_ _)))⟩
      case measure => simp [intOf]; omega
    · obtain rfl : k = m := by omega
      by_cases hks : k < s.size
      · have e1 := HE.out hks
        go_wp2_with (go_at_call 137; refine (hc.out _ hbl _).mono ?_; rintro e w1 ⟨rfl, hb1⟩; rw [e1])
        go_ret
        exact ⟨rfl, (by repeat (first | (with_reducible exact Below.refl _ _) | (with_reducible assumption) | (with_reducible exact bel_box _) | (with_reducible refine bel_step ?_ (by with_reducible assumption)) | (with_reducible refine Below.drew ?_) | (with_reducible refine below_drewN ?_ _) | (with_reducible refine bel_alloc ?_ _)))⟩
      · obtain rfl : k = s.size := by omega
        go_wp2
        go_ret
        exact ⟨rfl, hbl⟩
set_option maxHeartbeats 400000 in
theorem span_am (q : Addr) (p : Int → Bool) (s : ByteArray) (w : World) (hs : s.size ≤ 9223372036854775807)
    (hc : Hid (∀ W, Below w.heap.size w W → ∀ c : UInt8, Calls Tryz.prog 165 #[.int .u8 ((c.toNat : Nat) : Int), .pointer (some q)] W (Bel (.bool (p ((c.toNat : Nat) : Int))) W))) :
    Calls Tryz.prog 135 #[.string s, .func (.func 165) #[] #[.pointer (some q)]] w (Bel (.int .i64 (sp p s.data.toList)) w) := by
  have HA := Lib.hid (fun k => @sp_at p s k)
  have HE := Lib.hid (@sp_end p s)
  have hle := sp_le p s
  generalize sp p s.data.toList = m at *
  go_enter Tryz.func135, Tryz.ntmps135
  go_wp2
  go_loopw [5, 8] (fun u i wr => ∃ k : Nat, k ≤ m ∧ i = .int .i64 k ∧ Below w.heap.size w wr) (fun _ i _ => m - (intOf i).toNat)
  case atStart => exact ⟨0, by omega, rfl, Below.refl _ _⟩
  case round =>
    obtain ⟨k, hk, rfl, hbl⟩ := hrel
    by_cases hlt : k < m
    · have hks : k < s.size := by omega
      have e1 := HA.out k hlt hks
      go_wp2_with (go_at_call 165; refine (hc.out _ hbl _).mono ?_; rintro e w1 ⟨rfl, hb1⟩; rw [e1])
      go_roundw
      case rel => exact ⟨k+1, by omega, by go_num, (by repeat (first | (with_reducible exact Below.refl _ _) | (with_reducible assumption) | (with_reducible exact bel_box _) | (with_reducible refine bel_step ?_ (by with_reducible assumption)) | (with_reducible refine Below.drew ?_) | (with_reducible refine below_drewN ?_ _) | (with_reducible refine bel_alloc ?_ _)))⟩
      case measure => simp [intOf]; omega
    · obtain rfl : k = m := by omega
      by_cases hks : k < s.size
      · have e1 := HE.out hks
        go_wp2_with (go_at_call 165; refine (hc.out _ hbl _).mono ?_; rintro e w1 ⟨rfl, hb1⟩; rw [e1])
        go_ret
        exact ⟨rfl, (by repeat (first | (with_reducible exact Below.refl _ _) | (with_reducible assumption) | (with_reducible exact bel_box _) | (with_reducible refine bel_step ?_ (by with_reducible assumption)) | (with_reducible refine Below.drew ?_) | (with_reducible refine below_drewN ?_ _) | (with_reducible refine bel_alloc ?_ _)))⟩
      · obtain rfl : k = s.size := by omega
        go_wp2
        go_ret
        exact ⟨rfl, hbl⟩
set_option maxHeartbeats 400000 in
theorem span_ei (q : Addr) (p : Int → Bool) (s : ByteArray) (w : World) (hs : s.size ≤ 9223372036854775807)
    (hc : Hid (∀ W, Below w.heap.size w W → ∀ c : UInt8, Calls Tryz.prog 164 #[.int .u8 ((c.toNat : Nat) : Int), .pointer (some q)] W (Bel (.bool (p ((c.toNat : Nat) : Int))) W))) :
    Calls Tryz.prog 135 #[.string s, .func (.func 164) #[] #[.pointer (some q)]] w (Bel (.int .i64 (sp p s.data.toList)) w) := by
  have HA := Lib.hid (fun k => @sp_at p s k)
  have HE := Lib.hid (@sp_end p s)
  have hle := sp_le p s
  generalize sp p s.data.toList = m at *
  go_enter Tryz.func135, Tryz.ntmps135
  go_wp2
  go_loopw [5, 8] (fun u i wr => ∃ k : Nat, k ≤ m ∧ i = .int .i64 k ∧ Below w.heap.size w wr) (fun _ i _ => m - (intOf i).toNat)
  case atStart => exact ⟨0, by omega, rfl, Below.refl _ _⟩
  case round =>
    obtain ⟨k, hk, rfl, hbl⟩ := hrel
    by_cases hlt : k < m
    · have hks : k < s.size := by omega
      have e1 := HA.out k hlt hks
      go_wp2_with (go_at_call 164; refine (hc.out _ hbl _).mono ?_; rintro e w1 ⟨rfl, hb1⟩; rw [e1])
      go_roundw
      case rel => exact ⟨k+1, by omega, by go_num, (by repeat (first | (with_reducible exact Below.refl _ _) | (with_reducible assumption) | (with_reducible exact bel_box _) | (with_reducible refine bel_step ?_ (by with_reducible assumption)) | (with_reducible refine Below.drew ?_) | (with_reducible refine below_drewN ?_ _) | (with_reducible refine bel_alloc ?_ _)))⟩
      case measure => simp [intOf]; omega
    · obtain rfl : k = m := by omega
      by_cases hks : k < s.size
      · have e1 := HE.out hks
        go_wp2_with (go_at_call 164; refine (hc.out _ hbl _).mono ?_; rintro e w1 ⟨rfl, hb1⟩; rw [e1])
        go_ret
        exact ⟨rfl, (by repeat (first | (with_reducible exact Below.refl _ _) | (with_reducible assumption) | (with_reducible exact bel_box _) | (with_reducible refine bel_step ?_ (by with_reducible assumption)) | (with_reducible refine Below.drew ?_) | (with_reducible refine below_drewN ?_ _) | (with_reducible refine bel_alloc ?_ _)))⟩
      · obtain rfl : k = s.size := by omega
        go_wp2
        go_ret
        exact ⟨rfl, hbl⟩
end Go.Proofs.YthlapepjebidgaaGreatDoor
/- The tests that among and either make. -/
namespace Go.Proofs.YthlapepjebidgaaGreatDoor
set_option linter.unusedVariables false
set_option linter.unusedSimpArgs false
open Go.RowKit
theorem idx_ge (l : List UInt8) (c : UInt8) : -1 ≤ Lib.indexByte l c := by
  induction l with
  | nil => simp [Lib.indexByte]
  | cons d r ih =>
    rw [Lib.indexByte]
    split
    · omega
    · split
      · omega
      · omega
theorem idx_mem (l : List UInt8) (c : UInt8) : decide (Lib.indexByte l c ≥ 0) = l.contains c := by
  induction l with
  | nil => rfl
  | cons b r ih =>
    rw [Lib.indexByte, List.contains_cons]
    have hg := idx_ge r c
    by_cases hb : b = c
    · subst hb
      simp
    · have h1 : (b == c) = false := by simpa using hb
      have h2 : (c == b) = false := by simpa using Ne.symm hb
      rw [h1, h2, ← ih]
      simp only [Bool.false_eq_true, if_false, Bool.false_or]
      split
      · rename_i h
        have h' : Lib.indexByte r c = -1 := by simpa using h
        rw [h']
      · rename_i h
        have h' : Lib.indexByte r c ≠ -1 := by simpa using h
        rw [decide_eq_decide]
        omega
theorem among_call (t : ByteArray) (q : Addr) (c : UInt8) (w : World) (hq : w.cell? q = some (.string t)) :
    Calls Tryz.prog 165 #[.int .u8 ((c.toNat : Nat) : Int), .pointer (some q)] w (Bel (.bool (t.data.toList.contains c)) w) := by
  have K : Hid (∀ w, Calls Tryz.prog 166 #[.string t, .int .u8 ((c.toNat : Nat) : Int)] w fun e w' => e = .returned (.int .i64 (Lib.indexByte t.data.toList c)) ∧ w' = w) := Lib.hid fun w => by
    have := Tryz.strings_IndexByte t ((c.toNat : Nat) : Int) w
    rwa [show ((c.toNat : Nat) : Int).toNat.toUInt8 = c from by simp] at this
  have e := idx_mem t.data.toList c
  generalize Lib.indexByte t.data.toList c = i at *
  generalize t.data.toList.contains c = b at *
  go_enter Tryz.func165, Tryz.ntmps165
  go_wp2_with (go_at_call 166; refine (K.out _).mono ?_; rintro e w1 ⟨rfl, rfl⟩)
  go_ret
  exact ⟨ret_bool (by first | exact e | rw [← e]), (by repeat (first | (with_reducible exact Below.refl _ _) | (with_reducible assumption) | (with_reducible exact bel_box _) | (with_reducible refine bel_step ?_ (by with_reducible assumption)) | (with_reducible refine Below.drew ?_) | (with_reducible refine below_drewN ?_ _) | (with_reducible refine bel_alloc ?_ _)))⟩
theorem among_any (t : ByteArray) (w : World) :
    Calls Tryz.prog 138 #[.string t] w (fun e w' => e = .returned (.func (.func 165) #[] #[.pointer (some ⟨w.heap.size, 0, none⟩)]) ∧ w'.cell? ⟨w.heap.size, 0, none⟩ = some (.string t) ∧ w.heap.size < w'.heap.size ∧ Below w.heap.size w w') := by
  go_enter Tryz.func138, Tryz.ntmps138
  go_wp2
  go_ret
  refine ⟨rfl, ?_, ?_, (by repeat (first | (with_reducible exact Below.refl _ _) | (with_reducible assumption) | (with_reducible exact bel_box _) | (with_reducible refine bel_step ?_ (by with_reducible assumption)) | (with_reducible refine Below.drew ?_) | (with_reducible refine below_drewN ?_ _) | (with_reducible refine bel_alloc ?_ _)))⟩ <;> simp [go_sem]
/-- the three tests of a name's bytes, in memory -/
def Tests (w : World) (q : Addr) (B : Nat) : Prop := ∃ a r : Addr, q.block < B ∧ a.block < B ∧ r.block < B ∧ w.cell? q = some (.slice (some a) 3 3) ∧ w.cell? a = some (.func (.func 133) #[] #[]) ∧ w.cell? (a.add 1) = some (.func (.func 137) #[] #[]) ∧
  w.cell? (a.add 2) = some (.func (.func 165) #[] #[.pointer (some r)]) ∧ w.cell? r = some (.string ⟨#[95]⟩)
set_option maxHeartbeats 800000 in
theorem either_call (q : Addr) (c : UInt8) (w : World) (hq : Tests w q w.heap.size) :
    Calls Tryz.prog 164 #[.int .u8 ((c.toNat : Nat) : Int), .pointer (some q)] w (Bel (.bool (pI ((c.toNat : Nat) : Int))) w) := by
  obtain ⟨a, r, hqb, hab, hrb, h0, h1, h2, h3, h4⟩ := hq
  have k1 := Lib.hid (letter_any ((c.toNat : Nat) : Int))
  have k2 := Lib.hid (digit_any ((c.toNat : Nat) : Int))
  have k3 : Hid (∀ W, Below w.heap.size w W → Calls Tryz.prog 165 #[.int .u8 ((c.toNat : Nat) : Int), .pointer (some r)] W (Bel (.bool (((c.toNat : Nat) : Int) == 95)) W)) := Lib.hid fun W hb => by
    have := among_call ⟨#[95]⟩ r c W ((hb.cell hrb).trans h4)
    rwa [show (ByteArray.mk #[95]).data.toList.contains c = (((c.toNat : Nat) : Int) == 95) from by
      rw [show (ByteArray.mk #[95]).data.toList = [95] from rfl, List.contains_cons, List.contains_nil, Bool.or_false, Bool.eq_iff_iff, beq_iff_eq, beq_iff_eq]
      constructor
      · rintro rfl; rfl
      · intro h; apply UInt8.toNat_inj.1; have : c.toNat = 95 := by omega
        exact this] at this
  have HC : Hid (∀ W, Below w.heap.size w W → W.cell? a = some (.func (.func 133) #[] #[]) ∧ W.cell? ⟨a.block, a.off+1, none⟩ = some (.func (.func 137) #[] #[]) ∧ W.cell? ⟨a.block, a.off + 2, none⟩ = some (.func (.func 165) #[] #[.pointer (some r)])) := Lib.hid fun W hb => ⟨(hb.cell hab).trans h1, (hb.cell (p := ⟨a.block, a.off+1, none⟩) hab).trans h2, (hb.cell (p := ⟨a.block, a.off + 2, none⟩) hab).trans h3⟩
  have e : pI ((c.toNat : Nat) : Int) = (pL ((c.toNat : Nat) : Int) || pG ((c.toNat : Nat) : Int) || ((c.toNat : Nat) : Int) == 95) := rfl
  rw [e]
  clear e h1 h2 h3 h4
  generalize pL ((c.toNat : Nat) : Int) = b1 at *
  generalize pG ((c.toNat : Nat) : Int) = b2 at *
  generalize (((c.toNat : Nat) : Int) == 95) = b3 at *
  obtain ⟨c1, c2, c3⟩ := HC.out w (Below.refl _ _)
  cases b1
  rotate_left
  · go_enter Tryz.func164, Tryz.ntmps164
    go_wp2
    refine wp_loop_rounds 4 ?_
    rw [rounds_succ]
    go_wp2_with (first
      | (go_at_call 133; refine (k1.out _).mono ?_; rintro e w1 ⟨rfl, hb1⟩; obtain ⟨d1, d2, d3⟩ := HC.out w1 (by repeat (first | (with_reducible exact Below.refl _ _) | (with_reducible assumption) | (with_reducible exact bel_box _) | (with_reducible refine bel_step ?_ (by with_reducible assumption)) | (with_reducible refine Below.drew ?_) | (with_reducible refine below_drewN ?_ _) | (with_reducible refine bel_alloc ?_ _))))
      | (go_at_call 137; refine (k2.out _).mono ?_; rintro e w2 ⟨rfl, hb2⟩; obtain ⟨d4, d5, d6⟩ := HC.out w2 (by repeat (first | (with_reducible exact Below.refl _ _) | (with_reducible assumption) | (with_reducible exact bel_box _) | (with_reducible refine bel_step ?_ (by with_reducible assumption)) | (with_reducible refine Below.drew ?_) | (with_reducible refine below_drewN ?_ _) | (with_reducible refine bel_alloc ?_ _))))
      | (go_at_call 165; (with_reducible refine (k3.out _ ?_).mono ?_); (focus ((repeat (first | (with_reducible exact Below.refl _ _) | (with_reducible assumption) | (with_reducible exact bel_box _) | (with_reducible refine bel_step ?_ (by with_reducible assumption)) | (with_reducible refine Below.drew ?_) | (with_reducible refine below_drewN ?_ _) | (with_reducible refine bel_alloc ?_ _))); done)); rintro e w3 ⟨rfl, hb3⟩))
    go_ret
    exact ⟨rfl, (by repeat (first | (with_reducible exact Below.refl _ _) | (with_reducible assumption) | (with_reducible exact bel_box _) | (with_reducible refine bel_step ?_ (by with_reducible assumption)) | (with_reducible refine Below.drew ?_) | (with_reducible refine below_drewN ?_ _) | (with_reducible refine bel_alloc ?_ _)))⟩
  cases b2
  rotate_left
  · go_enter Tryz.func164, Tryz.ntmps164
    go_wp2
    refine wp_loop_rounds 4 ?_
    rw [rounds_succ]
    go_wp2_with (first
      | (go_at_call 133; refine (k1.out _).mono ?_; rintro e w1 ⟨rfl, hb1⟩; obtain ⟨d1, d2, d3⟩ := HC.out w1 (by repeat (first | (with_reducible exact Below.refl _ _) | (with_reducible assumption) | (with_reducible exact bel_box _) | (with_reducible refine bel_step ?_ (by with_reducible assumption)) | (with_reducible refine Below.drew ?_) | (with_reducible refine below_drewN ?_ _) | (with_reducible refine bel_alloc ?_ _))))
      | (go_at_call 137; refine (k2.out _).mono ?_; rintro e w2 ⟨rfl, hb2⟩; obtain ⟨d4, d5, d6⟩ := HC.out w2 (by repeat (first | (with_reducible exact Below.refl _ _) | (with_reducible assumption) | (with_reducible exact bel_box _) | (with_reducible refine bel_step ?_ (by with_reducible assumption)) | (with_reducible refine Below.drew ?_) | (with_reducible refine below_drewN ?_ _) | (with_reducible refine bel_alloc ?_ _))))
      | (go_at_call 165; (with_reducible refine (k3.out _ ?_).mono ?_); (focus ((repeat (first | (with_reducible exact Below.refl _ _) | (with_reducible assumption) | (with_reducible exact bel_box _) | (with_reducible refine bel_step ?_ (by with_reducible assumption)) | (with_reducible refine Below.drew ?_) | (with_reducible refine below_drewN ?_ _) | (with_reducible refine bel_alloc ?_ _))); done)); rintro e w3 ⟨rfl, hb3⟩))
    rw [rounds_succ]
    go_wp2_with (first
      | (go_at_call 133; refine (k1.out _).mono ?_; rintro e w1 ⟨rfl, hb1⟩; obtain ⟨d1, d2, d3⟩ := HC.out w1 (by repeat (first | (with_reducible exact Below.refl _ _) | (with_reducible assumption) | (with_reducible exact bel_box _) | (with_reducible refine bel_step ?_ (by with_reducible assumption)) | (with_reducible refine Below.drew ?_) | (with_reducible refine below_drewN ?_ _) | (with_reducible refine bel_alloc ?_ _))))
      | (go_at_call 137; refine (k2.out _).mono ?_; rintro e w2 ⟨rfl, hb2⟩; obtain ⟨d4, d5, d6⟩ := HC.out w2 (by repeat (first | (with_reducible exact Below.refl _ _) | (with_reducible assumption) | (with_reducible exact bel_box _) | (with_reducible refine bel_step ?_ (by with_reducible assumption)) | (with_reducible refine Below.drew ?_) | (with_reducible refine below_drewN ?_ _) | (with_reducible refine bel_alloc ?_ _))))
      | (go_at_call 165; (with_reducible refine (k3.out _ ?_).mono ?_); (focus ((repeat (first | (with_reducible exact Below.refl _ _) | (with_reducible assumption) | (with_reducible exact bel_box _) | (with_reducible refine bel_step ?_ (by with_reducible assumption)) | (with_reducible refine Below.drew ?_) | (with_reducible refine below_drewN ?_ _) | (with_reducible refine bel_alloc ?_ _))); done)); rintro e w3 ⟨rfl, hb3⟩))
    go_ret
    exact ⟨rfl, (by repeat (first | (with_reducible exact Below.refl _ _) | (with_reducible assumption) | (with_reducible exact bel_box _) | (with_reducible refine bel_step ?_ (by with_reducible assumption)) | (with_reducible refine Below.drew ?_) | (with_reducible refine below_drewN ?_ _) | (with_reducible refine bel_alloc ?_ _)))⟩
  cases b3
  rotate_left
  · go_enter Tryz.func164, Tryz.ntmps164
    go_wp2
    refine wp_loop_rounds 4 ?_
    rw [rounds_succ]
    go_wp2_with (first
      | (go_at_call 133; refine (k1.out _).mono ?_; rintro e w1 ⟨rfl, hb1⟩; obtain ⟨d1, d2, d3⟩ := HC.out w1 (by repeat (first | (with_reducible exact Below.refl _ _) | (with_reducible assumption) | (with_reducible exact bel_box _) | (with_reducible refine bel_step ?_ (by with_reducible assumption)) | (with_reducible refine Below.drew ?_) | (with_reducible refine below_drewN ?_ _) | (with_reducible refine bel_alloc ?_ _))))
      | (go_at_call 137; refine (k2.out _).mono ?_; rintro e w2 ⟨rfl, hb2⟩; obtain ⟨d4, d5, d6⟩ := HC.out w2 (by repeat (first | (with_reducible exact Below.refl _ _) | (with_reducible assumption) | (with_reducible exact bel_box _) | (with_reducible refine bel_step ?_ (by with_reducible assumption)) | (with_reducible refine Below.drew ?_) | (with_reducible refine below_drewN ?_ _) | (with_reducible refine bel_alloc ?_ _))))
      | (go_at_call 165; (with_reducible refine (k3.out _ ?_).mono ?_); (focus ((repeat (first | (with_reducible exact Below.refl _ _) | (with_reducible assumption) | (with_reducible exact bel_box _) | (with_reducible refine bel_step ?_ (by with_reducible assumption)) | (with_reducible refine Below.drew ?_) | (with_reducible refine below_drewN ?_ _) | (with_reducible refine bel_alloc ?_ _))); done)); rintro e w3 ⟨rfl, hb3⟩))
    rw [rounds_succ]
    go_wp2_with (first
      | (go_at_call 133; refine (k1.out _).mono ?_; rintro e w1 ⟨rfl, hb1⟩; obtain ⟨d1, d2, d3⟩ := HC.out w1 (by repeat (first | (with_reducible exact Below.refl _ _) | (with_reducible assumption) | (with_reducible exact bel_box _) | (with_reducible refine bel_step ?_ (by with_reducible assumption)) | (with_reducible refine Below.drew ?_) | (with_reducible refine below_drewN ?_ _) | (with_reducible refine bel_alloc ?_ _))))
      | (go_at_call 137; refine (k2.out _).mono ?_; rintro e w2 ⟨rfl, hb2⟩; obtain ⟨d4, d5, d6⟩ := HC.out w2 (by repeat (first | (with_reducible exact Below.refl _ _) | (with_reducible assumption) | (with_reducible exact bel_box _) | (with_reducible refine bel_step ?_ (by with_reducible assumption)) | (with_reducible refine Below.drew ?_) | (with_reducible refine below_drewN ?_ _) | (with_reducible refine bel_alloc ?_ _))))
      | (go_at_call 165; (with_reducible refine (k3.out _ ?_).mono ?_); (focus ((repeat (first | (with_reducible exact Below.refl _ _) | (with_reducible assumption) | (with_reducible exact bel_box _) | (with_reducible refine bel_step ?_ (by with_reducible assumption)) | (with_reducible refine Below.drew ?_) | (with_reducible refine below_drewN ?_ _) | (with_reducible refine bel_alloc ?_ _))); done)); rintro e w3 ⟨rfl, hb3⟩))
    rw [rounds_succ]
    go_wp2_with (first
      | (go_at_call 133; refine (k1.out _).mono ?_; rintro e w1 ⟨rfl, hb1⟩; obtain ⟨d1, d2, d3⟩ := HC.out w1 (by repeat (first | (with_reducible exact Below.refl _ _) | (with_reducible assumption) | (with_reducible exact bel_box _) | (with_reducible refine bel_step ?_ (by with_reducible assumption)) | (with_reducible refine Below.drew ?_) | (with_reducible refine below_drewN ?_ _) | (with_reducible refine bel_alloc ?_ _))))
      | (go_at_call 137; refine (k2.out _).mono ?_; rintro e w2 ⟨rfl, hb2⟩; obtain ⟨d4, d5, d6⟩ := HC.out w2 (by repeat (first | (with_reducible exact Below.refl _ _) | (with_reducible assumption) | (with_reducible exact bel_box _) | (with_reducible refine bel_step ?_ (by with_reducible assumption)) | (with_reducible refine Below.drew ?_) | (with_reducible refine below_drewN ?_ _) | (with_reducible refine bel_alloc ?_ _))))
      | (go_at_call 165; (with_reducible refine (k3.out _ ?_).mono ?_); (focus ((repeat (first | (with_reducible exact Below.refl _ _) | (with_reducible assumption) | (with_reducible exact bel_box _) | (with_reducible refine bel_step ?_ (by with_reducible assumption)) | (with_reducible refine Below.drew ?_) | (with_reducible refine below_drewN ?_ _) | (with_reducible refine bel_alloc ?_ _))); done)); rintro e w3 ⟨rfl, hb3⟩))
    go_ret
    exact ⟨rfl, (by repeat (first | (with_reducible exact Below.refl _ _) | (with_reducible assumption) | (with_reducible exact bel_box _) | (with_reducible refine bel_step ?_ (by with_reducible assumption)) | (with_reducible refine Below.drew ?_) | (with_reducible refine below_drewN ?_ _) | (with_reducible refine bel_alloc ?_ _)))⟩
  · go_enter Tryz.func164, Tryz.ntmps164
    go_wp2
    refine wp_loop_rounds 4 ?_
    rw [rounds_succ]
    go_wp2_with (first
      | (go_at_call 133; refine (k1.out _).mono ?_; rintro e w1 ⟨rfl, hb1⟩; obtain ⟨d1, d2, d3⟩ := HC.out w1 (by repeat (first | (with_reducible exact Below.refl _ _) | (with_reducible assumption) | (with_reducible exact bel_box _) | (with_reducible refine bel_step ?_ (by with_reducible assumption)) | (with_reducible refine Below.drew ?_) | (with_reducible refine below_drewN ?_ _) | (with_reducible refine bel_alloc ?_ _))))
      | (go_at_call 137; refine (k2.out _).mono ?_; rintro e w2 ⟨rfl, hb2⟩; obtain ⟨d4, d5, d6⟩ := HC.out w2 (by repeat (first | (with_reducible exact Below.refl _ _) | (with_reducible assumption) | (with_reducible exact bel_box _) | (with_reducible refine bel_step ?_ (by with_reducible assumption)) | (with_reducible refine Below.drew ?_) | (with_reducible refine below_drewN ?_ _) | (with_reducible refine bel_alloc ?_ _))))
      | (go_at_call 165; (with_reducible refine (k3.out _ ?_).mono ?_); (focus ((repeat (first | (with_reducible exact Below.refl _ _) | (with_reducible assumption) | (with_reducible exact bel_box _) | (with_reducible refine bel_step ?_ (by with_reducible assumption)) | (with_reducible refine Below.drew ?_) | (with_reducible refine below_drewN ?_ _) | (with_reducible refine bel_alloc ?_ _))); done)); rintro e w3 ⟨rfl, hb3⟩))
    rw [rounds_succ]
    go_wp2_with (first
      | (go_at_call 133; refine (k1.out _).mono ?_; rintro e w1 ⟨rfl, hb1⟩; obtain ⟨d1, d2, d3⟩ := HC.out w1 (by repeat (first | (with_reducible exact Below.refl _ _) | (with_reducible assumption) | (with_reducible exact bel_box _) | (with_reducible refine bel_step ?_ (by with_reducible assumption)) | (with_reducible refine Below.drew ?_) | (with_reducible refine below_drewN ?_ _) | (with_reducible refine bel_alloc ?_ _))))
      | (go_at_call 137; refine (k2.out _).mono ?_; rintro e w2 ⟨rfl, hb2⟩; obtain ⟨d4, d5, d6⟩ := HC.out w2 (by repeat (first | (with_reducible exact Below.refl _ _) | (with_reducible assumption) | (with_reducible exact bel_box _) | (with_reducible refine bel_step ?_ (by with_reducible assumption)) | (with_reducible refine Below.drew ?_) | (with_reducible refine below_drewN ?_ _) | (with_reducible refine bel_alloc ?_ _))))
      | (go_at_call 165; (with_reducible refine (k3.out _ ?_).mono ?_); (focus ((repeat (first | (with_reducible exact Below.refl _ _) | (with_reducible assumption) | (with_reducible exact bel_box _) | (with_reducible refine bel_step ?_ (by with_reducible assumption)) | (with_reducible refine Below.drew ?_) | (with_reducible refine below_drewN ?_ _) | (with_reducible refine bel_alloc ?_ _))); done)); rintro e w3 ⟨rfl, hb3⟩))
    rw [rounds_succ]
    go_wp2_with (first
      | (go_at_call 133; refine (k1.out _).mono ?_; rintro e w1 ⟨rfl, hb1⟩; obtain ⟨d1, d2, d3⟩ := HC.out w1 (by repeat (first | (with_reducible exact Below.refl _ _) | (with_reducible assumption) | (with_reducible exact bel_box _) | (with_reducible refine bel_step ?_ (by with_reducible assumption)) | (with_reducible refine Below.drew ?_) | (with_reducible refine below_drewN ?_ _) | (with_reducible refine bel_alloc ?_ _))))
      | (go_at_call 137; refine (k2.out _).mono ?_; rintro e w2 ⟨rfl, hb2⟩; obtain ⟨d4, d5, d6⟩ := HC.out w2 (by repeat (first | (with_reducible exact Below.refl _ _) | (with_reducible assumption) | (with_reducible exact bel_box _) | (with_reducible refine bel_step ?_ (by with_reducible assumption)) | (with_reducible refine Below.drew ?_) | (with_reducible refine below_drewN ?_ _) | (with_reducible refine bel_alloc ?_ _))))
      | (go_at_call 165; (with_reducible refine (k3.out _ ?_).mono ?_); (focus ((repeat (first | (with_reducible exact Below.refl _ _) | (with_reducible assumption) | (with_reducible exact bel_box _) | (with_reducible refine bel_step ?_ (by with_reducible assumption)) | (with_reducible refine Below.drew ?_) | (with_reducible refine below_drewN ?_ _) | (with_reducible refine bel_alloc ?_ _))); done)); rintro e w3 ⟨rfl, hb3⟩))
    rw [rounds_succ]
    go_wp2_with (first
      | (go_at_call 133; refine (k1.out _).mono ?_; rintro e w1 ⟨rfl, hb1⟩; obtain ⟨d1, d2, d3⟩ := HC.out w1 (by repeat (first | (with_reducible exact Below.refl _ _) | (with_reducible assumption) | (with_reducible exact bel_box _) | (with_reducible refine bel_step ?_ (by with_reducible assumption)) | (with_reducible refine Below.drew ?_) | (with_reducible refine below_drewN ?_ _) | (with_reducible refine bel_alloc ?_ _))))
      | (go_at_call 137; refine (k2.out _).mono ?_; rintro e w2 ⟨rfl, hb2⟩; obtain ⟨d4, d5, d6⟩ := HC.out w2 (by repeat (first | (with_reducible exact Below.refl _ _) | (with_reducible assumption) | (with_reducible exact bel_box _) | (with_reducible refine bel_step ?_ (by with_reducible assumption)) | (with_reducible refine Below.drew ?_) | (with_reducible refine below_drewN ?_ _) | (with_reducible refine bel_alloc ?_ _))))
      | (go_at_call 165; (with_reducible refine (k3.out _ ?_).mono ?_); (focus ((repeat (first | (with_reducible exact Below.refl _ _) | (with_reducible assumption) | (with_reducible exact bel_box _) | (with_reducible refine bel_step ?_ (by with_reducible assumption)) | (with_reducible refine Below.drew ?_) | (with_reducible refine below_drewN ?_ _) | (with_reducible refine bel_alloc ?_ _))); done)); rintro e w3 ⟨rfl, hb3⟩))
    go_ret
    exact ⟨rfl, (by repeat (first | (with_reducible exact Below.refl _ _) | (with_reducible assumption) | (with_reducible exact bel_box _) | (with_reducible refine bel_step ?_ (by with_reducible assumption)) | (with_reducible refine Below.drew ?_) | (with_reducible refine below_drewN ?_ _) | (with_reducible refine bel_alloc ?_ _)))⟩
end Go.Proofs.YthlapepjebidgaaGreatDoor
/- gap: the blanks and remarks in front. -/
namespace Go.Proofs.YthlapepjebidgaaGreatDoor
set_option linter.unusedVariables false
set_option linter.unusedSimpArgs false
open Go.RowKit
theorem drop_bytes (s : ByteArray) (k : Nat) : (s.extract k s.size).data.toList = s.data.toList.drop k := by
  rw [ByteArray.data_extract]
  simp only [Array.toList_extract, List.extract_eq_take_drop]
  rw [List.take_of_length_le]
  rw [List.length_drop, len_toList]
  exact Nat.le_refl _
theorem drop_size (s : ByteArray) (k : Nat) : (s.extract k s.size).size = s.size - k := by
  rw [← len_toList, drop_bytes, List.length_drop, len_toList]
theorem sp_length (p : Int → Bool) (l : List UInt8) : sp p l ≤ l.length := tw_le _ _
end Go.Proofs.YthlapepjebidgaaGreatDoor
/- Keyword of the program. -/
namespace Go.Proofs.YthlapepjebidgaaGreatDoor
set_option linter.unusedVariables false
set_option linter.unusedSimpArgs false
open Go.RowKit
def kwL : List (List UInt8) := [[97, 115, 115, 117, 109, 101], [97, 110, 100], [97, 117, 116, 111, 109, 97, 116, 111, 110], [98, 111, 111, 108], [99, 111, 110, 116, 105, 110, 117, 101], [100, 111], [100, 111, 110, 101], [101, 108, 115, 101], [101, 110, 100], [101, 110, 115, 117, 114, 101], [101, 118, 101, 114, 121], [102, 97, 108, 115, 101], [102, 98, 121], [105, 102], [105, 110, 116], [108, 101, 116], [109, 101, 114, 103, 101], [109, 111, 100], [110, 111, 100, 101], [110, 111, 116], [111, 114], [112, 114, 101], [114, 101, 116, 117, 114, 110, 115], [115, 116, 97, 116, 101], [116, 101, 108], [116, 104, 101, 110], [116, 114, 117, 101], [116, 121, 112, 101], [117, 110, 108, 101, 115, 115], [117, 110, 116, 105, 108], [118, 97, 114], [119, 104, 101, 110], [120, 111, 114]]
def isKw (s : ByteArray) : Bool := kwL.contains s.toList
set_option maxHeartbeats 4000000 in
set_option maxRecDepth 100000 in
theorem keyword_any (s : ByteArray) (w : World) : Calls Tryz.prog 163 #[.string s] w (Bel (.bool (isKw s)) w) := by
  go_enter Tryz.func163, Tryz.ntmps163
  go_wp2
  all_goals go_ret
  all_goals refine ⟨ret_bool ?_, (by repeat (first | (with_reducible exact Below.refl _ _) | (with_reducible assumption) | (with_reducible exact bel_box _) | (with_reducible refine bel_step ?_ (by with_reducible assumption)) | (with_reducible refine Below.drew ?_) | (with_reducible refine below_drewN ?_ _) | (with_reducible refine bel_alloc ?_ _)))⟩
  all_goals first | (simp only [isKw, kwL, List.contains_cons, List.contains_nil, Bool.true_or, Bool.or_true, Bool.false_or, Bool.or_false, *]; done) | (simp_all only [Bool.true_eq_false, Bool.false_eq_true])
end Go.Proofs.YthlapepjebidgaaGreatDoor
