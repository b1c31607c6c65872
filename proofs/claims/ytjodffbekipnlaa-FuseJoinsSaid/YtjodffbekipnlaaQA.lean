/- Texts of one chain, in one file. -/
import Derived.Test.YtjodffbekipnlaaRows
import Derived.WalkKit
import Derived.WalkLawsBesides
import Derived.Lib.Hide
import Derived.Deep.Draws
import Derived.Deep.QuietTactic
import Derived.BigQuiet
import Derived.Maps.AppendAt
import Derived.Deep.AppendLies
import Derived.Lib.QuietBelow
import Derived.Deep.CutRange
import Derived.Deep.RegionHeld3
/- Words for memory: a slice header whose cells read as a list of values, kept over what leaves the old blocks alone. -/
namespace Go.Proofs.Ytjodffbekipnlaa
set_option linter.unusedVariables false
set_option linter.unusedSimpArgs false
open Go.RowKit

theorem add_block (a : Addr) (n : Nat) : (a.add n).block = a.block := by unfold Addr.add; split <;> rfl
theorem add_zero' (a : Addr) : a.add 0 = a := by simp [Addr.add]

/-- A and the length of xs are a slice whose elements (one cell each) are xs, in a block below B -/
def Rd (w : World) (B : Nat) (A : Option Addr) (xs : List Value) : Prop :=
  xs ≠ [] → ∃ ad, A = some ad ∧ ad.block < B ∧ ∀ j u, xs[j]? = some u → w.cell? (ad.add j) = some u

theorem Rd.nil (w : World) (B : Nat) (A : Option Addr) : Rd w B A [] := fun h => absurd rfl h
theorem Rd.keep {w w' : World} {B : Nat} {A : Option Addr} {xs : List Value} (h : Rd w B A xs) (hk : ∀ p : Addr, p.block < B → w'.cell? p = w.cell? p) : Rd w' B A xs := fun hn => by
  obtain ⟨ad, e, hb, hc⟩ := h hn
  exact ⟨ad, e, hb, fun j u hu => (hk _ (by rw [add_block]; exact hb)).trans (hc j u hu)⟩
theorem Rd.more {w : World} {B B' : Nat} {A : Option Addr} {xs : List Value} (h : Rd w B A xs) (hB : B ≤ B') : Rd w B' A xs := fun hn => by
  obtain ⟨ad, e, hb, hc⟩ := h hn
  exact ⟨ad, e, by omega, hc⟩
theorem Rd.below {w w' : World} {B : Nat} {A : Option Addr} {xs : List Value} (h : Rd w B A xs) (hb : Below B w w') : Rd w' B A xs := h.keep fun _ hp => hb.cell hp
theorem Rd.drewN {w : World} {B : Nat} {A : Option Addr} {xs : List Value} (h : Rd w B A xs) (k : Nat) : Rd (w.drewN k) B A xs := h
theorem below_drewN {B : Nat} {a w : World} (h : Below B a w) (n : Nat) : Below B a (w.drewN n) := ⟨h.os, h.tape, h.output, h.size, h.block⟩
def bls (l : List Bool) : List Value := l.map Value.bool
theorem take_succ_of {α : Type} {l : List α} {k : Nat} {b : α} (h : l[k]? = some b) : l.take (k + 1) = l.take k ++ [b] := by
  rw [List.take_add_one, h]; rfl
theorem bel_box {w : World} (o : Obj) : Below w.heap.size w (w.alloc o) := (Below.refl _ _).alloc (Nat.le_refl _) _
theorem bel_step {w W w' : World} (h : Below w.heap.size w W) (hb : Below W.heap.size W w') : Below w.heap.size w w' := h.trans (hb.mono h.size)
theorem bel_alloc {w W : World} (h : Below w.heap.size w W) (o : Obj) : Below w.heap.size w (W.alloc o) := h.alloc h.size o
theorem bcell {W w1 : World} (hb : Below W.heap.size W w1) : (∀ b o, b < W.heap.size → w1.cell? ⟨b, o, none⟩ = W.cell? ⟨b, o, none⟩) ∧ (∀ b o, b < W.heap.size → w1.frozen? ⟨b, o, none⟩ = W.frozen? ⟨b, o, none⟩) ∧ W.heap.size ≤ w1.heap.size :=
  ⟨fun b o h => hb.cell (p := ⟨b, o, none⟩) h, fun b o h => hb.frozen (p := ⟨b, o, none⟩) h, hb.size⟩
/-- a reading at the start is one later -/
theorem Rd.to {w W : World} {A : Option Addr} {xs : List Value} (h : Rd w w.heap.size A xs) (hb : Below w.heap.size w W) : Rd W W.heap.size A xs := (h.below hb).more hb.size
theorem Rd.cut {w : World} {B : Nat} {A : Option Addr} {l : List Bool} (h : Rd w B A (bls l)) (n : Nat) : Rd w B A (bls (l.take n)) := fun hn => by
  obtain ⟨ad, e, hb, hc⟩ := h (by intro e; apply hn; simp [bls] at e; simp [bls, e])
  refine ⟨ad, e, hb, fun j u hu => hc j u ?_⟩
  have hj : j < (l.take n).length := by have := (List.getElem?_eq_some_iff.1 hu).1; simpa [bls] using this
  rw [List.length_take] at hj
  have e2 : (l.take n)[j]? = l[j]? := List.getElem?_take_of_lt (by omega)
  rw [bls, List.getElem?_map, e2] at hu
  rw [bls, List.getElem?_map]
  exact hu
theorem add_add' (a : Addr) (i j : Nat) : (a.add i).add j = a.add (i + j) := by
  unfold Addr.add
  by_cases hi : i = 0 <;> by_cases hj : j = 0 <;> simp [hi, hj, Nat.add_assoc]
theorem Rd.drop {w : World} {B : Nat} {A : Option Addr} {l : List Bool} (h : Rd w B A (bls l)) (k : Nat) : Rd w B (A.map (·.add k)) (bls (l.drop k)) := fun hn => by
  obtain ⟨ad, e, hb, hc⟩ := h (by intro e; apply hn; simp [bls] at e; simp [bls, e])
  refine ⟨ad.add k, by rw [e]; rfl, by rw [add_block]; exact hb, fun j u hu => ?_⟩
  rw [add_add']
  apply hc
  rw [bls, List.getElem?_map, List.getElem?_drop] at hu
  rw [bls, List.getElem?_map]
  exact hu
/-- where there is something, it lies in a block from N on -/
def Nw (N : Nat) (A : Option Addr) (xs : List Value) : Prop := ∀ ad, A = some ad → xs ≠ [] → N ≤ ad.block
theorem Nw.nil (N : Nat) (A : Option Addr) : Nw N A [] := fun _ _ h => absurd rfl h
theorem Nw.mono {N N' : Nat} {A : Option Addr} {xs : List Value} (h : Nw N A xs) (hN : N' ≤ N) : Nw N' A xs := fun ad e hx => Nat.le_trans hN (h ad e hx)
/-- what a cell holds, whatever it is -/
def rc (w : World) (b i : Nat) : Value := (w.cell? ⟨b, i, none⟩).getD undef
attribute [irreducible] rc
end Go.Proofs.Ytjodffbekipnlaa
/- Tests of a byte, of both sides. -/
namespace Go.Proofs.Ytjodffbekipnlaa
set_option linter.unusedVariables false
set_option linter.unusedSimpArgs false
open Go.RowKit
def Bel (v : Value) (w : World) (e : Ending) (w' : World) : Prop := e = .returned v ∧ Below w.heap.size w w'
end Go.Proofs.Ytjodffbekipnlaa
/- Expressions ar they lie in memory: trees with the addresses of their arguments. -/
namespace Go.Proofs.Ytjodffbekipnlaa
set_option linter.unusedVariables false
set_option linter.unusedSimpArgs false
open Go.RowKit
inductive Xt where
  | mk (k op t v : Int) (nm : ByteArray) (A : Option Addr) (c : Nat) (ar : List Xt)
def Xt.k : Xt → Int | .mk k _ _ _ _ _ _ _ => k
def Xt.op : Xt → Int | .mk _ op _ _ _ _ _ _ => op
def Xt.t : Xt → Int | .mk _ _ t _ _ _ _ _ => t
def Xt.v : Xt → Int | .mk _ _ _ v _ _ _ _ => v
def Xt.nm : Xt → ByteArray | .mk _ _ _ _ nm _ _ _ => nm
def Xt.A : Xt → Option Addr | .mk _ _ _ _ _ A _ _ => A
def Xt.c : Xt → Nat | .mk _ _ _ _ _ _ c _ => c
def Xt.ar : Xt → List Xt | .mk _ _ _ _ _ _ _ ar => ar
theorem Xt.lt_of_mem {a x : Xt} (h : a ∈ x.ar) : SizeOf.sizeOf a < SizeOf.sizeOf x := by
  cases x with
  | mk k op t v nm A c ar =>
    have := List.sizeOf_lt_of_mem (show a ∈ ar from h)
    simp
    omega
theorem Xt.ind {P : Xt → Prop} (h : ∀ x : Xt, (∀ a ∈ x.ar, P a) → P x) (x : Xt) : P x := by
  generalize hN : SizeOf.sizeOf x = N
  induction N using Nat.strongRecOn generalizing x with
  | ind N ih =>
    subst hN
    exact h x fun a ha => ih _ (Xt.lt_of_mem ha) a rfl
/-- its value -/
def xV (x : Xt) : Value := .agg #[.int .i64 x.k, .int .i64 x.op, .int .i64 x.t, .int .i64 x.v, .string x.nm, .slice x.A x.ar.length x.c]
/-- it lies in six cells -/
def XC (w : World) (a : Addr) (x : Xt) : Prop := w.cell? a = some (.int .i64 x.k) ∧ w.cell? ⟨a.block, a.off + 1, none⟩ = some (.int .i64 x.op) ∧ w.cell? ⟨a.block, a.off + 2, none⟩ = some (.int .i64 x.t) ∧ w.cell? ⟨a.block, a.off + 3, none⟩ = some (.int .i64 x.v) ∧ w.cell? ⟨a.block, a.off + 4, none⟩ = some (.string x.nm) ∧ w.cell? ⟨a.block, a.off + 5, none⟩ = some (.slice x.A x.ar.length x.c)
theorem XC.keep {w W : World} {a : Addr} {x : Xt} (h : XC w a x) (hk : ∀ p : Addr, p.block = a.block → W.cell? p = w.cell? p) : XC W a x :=
  ⟨(hk a rfl).trans h.1, (hk ⟨a.block, a.off + 1, none⟩ rfl).trans h.2.1, (hk ⟨a.block, a.off + 2, none⟩ rfl).trans h.2.2.1, (hk ⟨a.block, a.off + 3, none⟩ rfl).trans h.2.2.2.1, (hk ⟨a.block, a.off + 4, none⟩ rfl).trans h.2.2.2.2.1, (hk ⟨a.block, a.off + 5, none⟩ rfl).trans h.2.2.2.2.2⟩
/-- the arguments lie in memory, below block B -/
inductive RdX (w : World) (B : Nat) : Xt → Prop
  | mk (x : Xt) (h0 : x.ar ≠ [] → ∃ ad, x.A = some ad ∧ ad.block < B) (h1 : ∀ (ad : Addr) (i : Nat) (y : Xt), x.A = some ad → x.ar[i]? = some y → XC w (ad.add (i * 6)) y) (h2 : ∀ y ∈ x.ar, RdX w B y) (h3 : (x.ar.length ≤ maxLen ∧ x.nm.size ≤ maxLen) ∧ x.ar.length ≤ x.c) : RdX w B x
theorem RdX.blw {w W : World} {B B' : Nat} {x : Xt} (h : RdX w B x) (hb : Below B w W) (hB : B ≤ B') : RdX W B' x := by
  induction h with
  | mk x h0 h1 h2 h3 ih =>
    refine .mk x (fun hn => ?_) (fun ad i y ha hy => ?_) ih h3
    · obtain ⟨ad, e, h⟩ := h0 hn
      exact ⟨ad, e, by omega⟩
    · obtain ⟨ad', e, h⟩ := h0 (by intro e; rw [e] at hy; simp at hy)
      obtain rfl : ad = ad' := Option.some.inj (ha.symm.trans e)
      exact (h1 ad i y ha hy).keep fun p hp => hb.cell (by rw [hp, add_block]; exact h)
theorem RdX.to {w W : World} {x : Xt} (h : RdX w w.heap.size x) (hb : Below w.heap.size w W) : RdX W W.heap.size x := h.blw hb hb.size
theorem RdX.kid {w : World} {B : Nat} {x y : Xt} (h : RdX w B x) (hy : y ∈ x.ar) : RdX w B y := by
  cases h with
  | mk x h0 h1 h2 h3 => exact h2 y hy
theorem RdX.len {w : World} {B : Nat} {x : Xt} (h : RdX w B x) : x.ar.length ≤ maxLen ∧ x.nm.size ≤ maxLen := by
  cases h with
  | mk x h0 h1 h2 h3 => exact h3.1
theorem RdX.cap {w : World} {B : Nat} {x : Xt} (h : RdX w B x) : x.ar.length ≤ x.c := by
  cases h with
  | mk x h0 h1 h2 h3 => exact h3.2
theorem RdX.at_ {w : World} {B : Nat} {x : Xt} (h : RdX w B x) {i : Nat} (hi : i < x.ar.length) : ∃ ad y, x.A = some ad ∧ ad.block < B ∧ x.ar[i]? = some y ∧ y ∈ x.ar ∧ XC w (ad.add (i * 6)) y ∧ RdX w B y := by
  cases h with
  | mk x h0 h1 h2 h3 =>
    obtain ⟨ad, e, hb⟩ := h0 (by intro e; rw [e] at hi; simp at hi)
    have hy : x.ar[i]? = some x.ar[i] := List.getElem?_eq_getElem hi
    exact ⟨ad, _, e, hb, hy, List.mem_of_getElem? hy, h1 ad i _ e hy, h2 _ (List.mem_of_getElem? hy)⟩
/-- how many expressions -/
def Xt.size (x : Xt) : Nat := 1 + (x.ar.attach.map fun a => Xt.size a.1).sum
termination_by SizeOf.sizeOf x
decreasing_by exact Xt.lt_of_mem a.2
/-- all of them, each before its arguments -/
def Xt.list (x : Xt) : List Xt := x :: (x.ar.attach.map fun a => Xt.list a.1).flatten
termination_by SizeOf.sizeOf x
decreasing_by exact Xt.lt_of_mem a.2
theorem Xt.list_eq (x : Xt) : x.list = x :: (x.ar.map Xt.list).flatten := by
  rw [Xt.list]
  congr 2
  simp
end Go.Proofs.Ytjodffbekipnlaa
/- Size, Depth, Weigh of the reference. -/
namespace Go.Proofs.Ytjodffbekipnlaa
set_option linter.unusedVariables false
set_option linter.unusedSimpArgs false
open Go.RowKit
/-- the world in which an expression that came in has its box -/
abbrev bxW (w : World) (x : Xt) : World := w.alloc (.cells #[.int .i64 x.k, .int .i64 x.op, .int .i64 x.t, .int .i64 x.v, .string x.nm, .slice x.A x.ar.length x.c] 34)
theorem bxW_size (w : World) (x : Xt) : (bxW w x).heap.size = w.heap.size + 1 := World.size_alloc _ _
theorem bxW_below {w W : World} {x : Xt} (h : Below (bxW w x).heap.size (bxW w x) W) : Below w.heap.size w W := (bel_box _).trans (h.mono (by rw [bxW_size]; omega))
theorem bxW_cells {w W : World} {x : Xt} (h : Below (bxW w x).heap.size (bxW w x) W) :
    W.cell? ⟨w.heap.size, 0, none⟩ = some (.int .i64 x.k) ∧ W.cell? ⟨w.heap.size, 1, none⟩ = some (.int .i64 x.op) ∧ W.cell? ⟨w.heap.size, 2, none⟩ = some (.int .i64 x.t) ∧ W.cell? ⟨w.heap.size, 3, none⟩ = some (.int .i64 x.v) ∧ W.cell? ⟨w.heap.size, 4, none⟩ = some (.string x.nm) ∧ W.cell? ⟨w.heap.size, 5, none⟩ = some (.slice x.A x.ar.length x.c) ∧ w.heap.size < W.heap.size := by
  have hz := h.size
  rw [bxW_size] at hz
  obtain ⟨hc, _, _⟩ := bcell h
  rw [hc _ _ (by rw [bxW_size]; simp), hc _ _ (by rw [bxW_size]; simp), hc _ _ (by rw [bxW_size]; simp), hc _ _ (by rw [bxW_size]; simp), hc _ _ (by rw [bxW_size]; simp), hc _ _ (by rw [bxW_size]; simp)]
  refine ⟨?_, ?_, ?_, ?_, ?_, ?_, by omega⟩ <;> simp [go_sem]
end Go.Proofs.Ytjodffbekipnlaa
/- Same of both, by the content of a tree. -/
namespace Go.Proofs.Ytjodffbekipnlaa
set_option linter.unusedVariables false
set_option linter.unusedSimpArgs false
open Go.RowKit Go.Sort
/-- what a tree says, without its addresses -/
inductive Xc where
  | mk (k op t v : Int) (nm : List UInt8) (ar : List Xc)
def Xt.ct (x : Xt) : Xc := .mk x.k x.op x.t x.v x.nm.toList (x.ar.attach.map fun a => Xt.ct a.1)
termination_by SizeOf.sizeOf x
decreasing_by exact Xt.lt_of_mem a.2
theorem Xt.ct_eq (x : Xt) : x.ct = .mk x.k x.op x.t x.v x.nm.toList (x.ar.map Xt.ct) := by
  rw [Xt.ct]
  congr 1
  simp
open Classical in
noncomputable def sameX (a b : Xt) : Bool := decide (a.ct = b.ct)
open Classical in
theorem sameX_iff {a b : Xt} : sameX a b = true ↔ a.ct = b.ct := by
  unfold sameX; exact decide_eq_true_iff
theorem sameX_yes {a b : Xt} (h : a.ct = b.ct) : sameX a b = true := sameX_iff.2 h
theorem sameX_no {a b : Xt} (h : ¬ a.ct = b.ct) : sameX a b = false := by
  cases q : sameX a b
  · rfl
  · exact absurd (sameX_iff.1 q) h
theorem ct_parts {a b : Xt} (h : a.ct = b.ct) : a.k = b.k ∧ a.op = b.op ∧ a.t = b.t ∧ a.v = b.v ∧ a.nm.toList = b.nm.toList ∧ a.ar.map Xt.ct = b.ar.map Xt.ct ∧ a.ar.length = b.ar.length := by
  rw [Xt.ct_eq, Xt.ct_eq] at h
  injection h with h1 h2 h3 h4 h5 h6
  exact ⟨h1, h2, h3, h4, h5, h6, by have := congrArg List.length h6; simpa using this⟩
theorem ct_of {a b : Xt} (h1 : a.k = b.k) (h2 : a.op = b.op) (h3 : a.t = b.t) (h4 : a.v = b.v) (h5 : a.nm.toList = b.nm.toList) (h6 : a.ar.map Xt.ct = b.ar.map Xt.ct) : a.ct = b.ct := by
  rw [Xt.ct_eq, Xt.ct_eq, h1, h2, h3, h4, h5, h6]
theorem ct_take {a b : List Xt} {k : Nat} {y z : Xt} (ha : a[k]? = some y) (hb : b[k]? = some z) (h : (a.take k).map Xt.ct = (b.take k).map Xt.ct) (hy : sameX y z = true) : (a.take (k + 1)).map Xt.ct = (b.take (k + 1)).map Xt.ct := by
  rw [take_succ_of ha, take_succ_of hb, List.map_append, List.map_append, h, List.map_singleton, List.map_singleton, sameX_iff.1 hy]
theorem ct_differ {a b : List Xt} {k : Nat} {y z : Xt} (ha : a[k]? = some y) (hb : b[k]? = some z) (hy : sameX y z = false) : ¬ a.map Xt.ct = b.map Xt.ct := by
  intro e
  have h := congrArg (fun l => l[k]?) e
  simp only [List.getElem?_map, ha, hb, Option.map_some] at h
  rw [sameX_yes (Option.some.inj h)] at hy
  cases hy
set_option maxHeartbeats 2000000 in
set_option maxRecDepth 20000 in
theorem rsameX_all (a : Xt) : ∀ (b : Xt) w, RdX w w.heap.size a → RdX w w.heap.size b → Calls Try.prog 19 #[xV a, xV b] w (Bel (.bool (sameX a b)) w) := by
  induction a using Xt.ind with
  | h a ih =>
    intro b w hA hB
    have h9 := hA.len.1
    have h9b := hB.len.1
    unfold maxLen at h9 h9b
    have IH : Hid (∀ (k : Nat) (y : Xt), a.ar[k]? = some y → ∀ (z : Xt) W, RdX W W.heap.size y → RdX W W.heap.size z → Calls Try.prog 19 #[xV y, xV z] W (Bel (.bool (sameX y z)) W)) := Lib.hid fun k y hy z W h1 h2 => ih y (List.mem_of_getElem? hy) z W h1 h2
    clear ih
    simp only [xV] at IH ⊢
    have HA := Lib.hid hA
    have HB := Lib.hid hB
    clear hA hB
    obtain ⟨b0, b1, b2, b3, b4, b5, b6⟩ := bxW_cells (w := w) (x := a) (W := bxW (bxW w a) b) (bel_box _)
    obtain ⟨d0, d1, d2, d3, d4, d5, d6⟩ := bxW_cells (w := bxW w a) (x := b) (W := bxW (bxW w a) b) (Below.refl _ _)
    rw [bxW_size] at d0 d1 d2 d3 d4 d5 d6
    have hBW : Below w.heap.size w (bxW (bxW w a) b) := bel_alloc (bel_box _) _
    obtain ⟨V, hV⟩ : ∃ V, sameX a b = V := ⟨_, rfl⟩
    have HN : Hid (¬ a.ct = b.ct → V = false) := Lib.hid fun h => hV ▸ sameX_no h
    have HY : Hid (a.ct = b.ct → V = true) := Lib.hid fun h => hV ▸ sameX_yes h
    rw [hV]
    clear hV
    cases q1 : (a.k != b.k)
    case true =>
      have hv : V = false := HN.out fun e => by
        obtain ⟨g1, g2, g3, g4, g5, g6, g7⟩ := ct_parts e
        simp [g1] at q1
      clear HN HY IH HA HB
      go_enter Try.func19, Try.ntmps19
      go_wp2
      go_ret
      exact ⟨by rw [hv]; rfl, hBW⟩
    cases q2 : (a.op != b.op)
    case true =>
      have hv : V = false := HN.out fun e => by
        obtain ⟨g1, g2, g3, g4, g5, g6, g7⟩ := ct_parts e
        simp [g2] at q2
      clear HN HY IH HA HB
      go_enter Try.func19, Try.ntmps19
      go_wp2
      go_ret
      exact ⟨by rw [hv]; rfl, hBW⟩
    cases q3 : (a.t != b.t)
    case true =>
      have hv : V = false := HN.out fun e => by
        obtain ⟨g1, g2, g3, g4, g5, g6, g7⟩ := ct_parts e
        simp [g3] at q3
      clear HN HY IH HA HB
      go_enter Try.func19, Try.ntmps19
      go_wp2
      go_ret
      exact ⟨by rw [hv]; rfl, hBW⟩
    cases q4 : (a.v != b.v)
    case true =>
      have hv : V = false := HN.out fun e => by
        obtain ⟨g1, g2, g3, g4, g5, g6, g7⟩ := ct_parts e
        simp [g4] at q4
      clear HN HY IH HA HB
      go_enter Try.func19, Try.ntmps19
      go_wp2
      go_ret
      exact ⟨by rw [hv]; rfl, hBW⟩
    cases q5 : (a.nm.toList == b.nm.toList)
    case false =>
      have hv : V = false := HN.out fun e => by
        obtain ⟨g1, g2, g3, g4, g5, g6, g7⟩ := ct_parts e
        simp [g5] at q5
      clear HN HY IH HA HB
      go_enter Try.func19, Try.ntmps19
      go_wp2
      go_ret
      exact ⟨by rw [hv]; rfl, hBW⟩
    cases q6 : (((a.ar.length : Nat) : Int) != ((b.ar.length : Nat) : Int))
    case true =>
      have hv : V = false := HN.out fun e => by
        obtain ⟨g1, g2, g3, g4, g5, g6, g7⟩ := ct_parts e
        simp [g7] at q6
      clear HN HY IH HA HB
      go_enter Try.func19, Try.ntmps19
      go_wp2
      go_ret
      exact ⟨by rw [hv]; rfl, hBW⟩
    have p1 : a.k = b.k := by simpa using q1
    have p2 : a.op = b.op := by simpa using q2
    have p3 : a.t = b.t := by simpa using q3
    have p4 : a.v = b.v := by simpa using q4
    have p5 : a.nm.toList = b.nm.toList := by simpa using q5
    have HP := Lib.hid (And.intro p1 (And.intro p2 (And.intro p3 (And.intro p4 p5))))
    clear p1 p2 p3 p4 p5
    go_enter Try.func19, Try.ntmps19
    go_wp2
    have hll : a.ar.length = b.ar.length := by
      have h : ((a.ar.length : Nat) : Int) = ((b.ar.length : Nat) : Int) := by simpa using q6
      omega
    have HLL := Lib.hid hll
    clear hll
    clear q1 q2 q3 q4 q5 q6 b0 b1 b2 b3 b4 b5 b6 d0 d1 d2 d3 d4 d5 d6
    go_loopw [5] (fun i wr => ∃ k : Nat, k ≤ a.ar.length ∧ i = .int .i64 (k : Int) ∧ Below (bxW (bxW w a) b).heap.size (bxW (bxW w a) b) wr ∧ Hid ((a.ar.take k).map Xt.ct = (b.ar.take k).map Xt.ct)) (fun i _ => a.ar.length - (intOf i).toNat)
    case atStart => exact ⟨0, by omega, rfl, Below.refl _ _, Lib.hid rfl⟩
    case round =>
      obtain ⟨k, hk, rfl, hbl, hno⟩ := hrel
      have hb0 : Below (bxW w a).heap.size (bxW w a) wr := (bel_box _).trans (hbl.mono (by rw [bxW_size (bxW w a)]; omega))
      obtain ⟨b0, b1, b2, b3, b4, b5, b6⟩ := bxW_cells hb0
      obtain ⟨d0, d1, d2, d3, d4, d5, d6⟩ := bxW_cells (w := bxW w a) (x := b) hbl
      rw [bxW_size] at d0 d1 d2 d3 d4 d5 d6
      have hbw := bxW_below hb0
      by_cases hlt : k < a.ar.length
      · obtain ⟨ad, y, hA, had, hy, hm, ⟨c0, c1, c2, c3, c4, c5⟩, hr⟩ := (HA.out.to hbw).at_ hlt
        have hlt2 : k < b.ar.length := by have := HLL.out; omega
        obtain ⟨ad', z, hA', had', hz, hm', ⟨e0, e1, e2, e3, e4, e5⟩, hr'⟩ := (HB.out.to hbw).at_ (i := k) hlt2
        have H1 := fun h => ct_take hy hz hno.out h
        have H2 := fun h => ct_differ hy hz h
        have KS := IH.out k y hy z
        generalize sameX y z = r at H1 H2 KS
        have c1' := fun dd os => Calls.regrown_of (KS (grow (redrawn wr dd) os) (hr.to (below_regrown wr dd os)) (hr'.to (below_regrown wr dd os)))
        rw [hA] at b5
        rw [hA'] at d5
        clear hA hA' hy hz hm hm' KS hr hr'
        have f5 := cell_regrown b5
        have g5 := cell_regrown d5
        have f6 := cell_regrown c0
        have f7 := cell_regrown c1
        have f8 := cell_regrown c2
        have f9 := cell_regrown c3
        have f10 := cell_regrown c4
        have f11 := cell_regrown c5
        have g6 := cell_regrown e0
        have g7 := cell_regrown e1
        have g8 := cell_regrown e2
        have g9 := cell_regrown e3
        have g10 := cell_regrown e4
        have g11 := cell_regrown e5
        clear b0 b1 b2 b3 b4 d0 d1 d2 d3 d4 c0 c1 c2 c3 c4 c5 e0 e1 e2 e3 e4 e5
        cases r
        · have H := Lib.hid (HN.out fun e => H2 rfl (ct_parts e).2.2.2.2.2.1)
          clear H1 H2 HN HY HP IH hno
          go_wp2
          refine wp_region_quiet_below (by kernel_rfl) (by kernel_rfl) ?_
          repeat (quiet_step (with_reducible exact c1' _ _))
          refine wpQuiet_nil ?_
          intro _ hw'
          obtain ⟨⟨dq, osq⟩, hw''⟩ := hw'
          subst hw''
          go_wp2
          go_ret
          exact ⟨by rw [H.out]; rfl, hbw.trans ((below_regrown wr dq osq).mono hbw.size)⟩
        · have H := Lib.hid (H1 rfl)
          clear H1 H2 HN HY HP IH hno
          go_wp2
          refine wp_region_quiet_below (by kernel_rfl) (by kernel_rfl) ?_
          repeat (quiet_step (with_reducible exact c1' _ _))
          refine wpQuiet_nil ?_
          intro _ hw'
          obtain ⟨⟨dq, osq⟩, hw''⟩ := hw'
          subst hw''
          go_wp2
          go_roundw
          case rel => exact ⟨k + 1, by omega, by go_num, hbl.trans ((below_regrown wr dq osq).mono hbl.size), H⟩
          case measure => simp [intOf]; omega
      · obtain rfl : k = a.ar.length := by omega
        have h1 := hno.out
        rw [List.take_length, HLL.out, List.take_length] at h1
        have h2 := HY.out (ct_of HP.out.1 HP.out.2.1 HP.out.2.2.1 HP.out.2.2.2.1 HP.out.2.2.2.2 h1)
        clear h1 hno HP HN HY IH
        go_wp2
        go_ret
        exact ⟨by rw [h2]; rfl, hbw⟩
end Go.Proofs.Ytjodffbekipnlaa
/- Has and SameNames of the reference. -/
namespace Go.Proofs.Ytjodffbekipnlaa
set_option linter.unusedVariables false
set_option linter.unusedSimpArgs false
open Go.RowKit Go.Sort
def RdN (w : World) (B : Nat) (A : Option Addr) (l : List ByteArray) : Prop := l ≠ [] → ∃ ad, A = some ad ∧ ad.block < B ∧ ∀ (i : Nat) (y : ByteArray), l[i]? = some y → w.cell? (ad.add i) = some (.string y)
theorem RdN.to {w W : World} {A : Option Addr} {l : List ByteArray} (h : RdN w w.heap.size A l) (hb : Below w.heap.size w W) : RdN W W.heap.size A l := fun hn => by
  obtain ⟨ad, e, hB, hc⟩ := h hn
  have hs := hb.size
  exact ⟨ad, e, by omega, fun i t ht => (hb.cell (by rw [add_block]; exact hB)).trans (hc i t ht)⟩
theorem RdN.at_ {w : World} {B : Nat} {A : Option Addr} {l : List ByteArray} (h : RdN w B A l) {k : Nat} (hk : k < l.length) : ∃ ad y, A = some ad ∧ ad.block < B ∧ l[k]? = some y ∧ w.cell? (ad.add k) = some (.string y) := by
  have he : l[k]? = some l[k] := List.getElem?_eq_getElem hk
  obtain ⟨ad, e, hb, hc⟩ := h (by rintro rfl; simp at hk)
  exact ⟨ad, _, e, hb, he, hc k _ he⟩
def hasN (l : List ByteArray) (s : ByteArray) : Bool := l.any fun y => y.toList == s.toList
theorem any_take {l : List ByteArray} {p : ByteArray → Bool} {k : Nat} {y : ByteArray} (h : l[k]? = some y) : (l.take (k + 1)).any p = ((l.take k).any p || p y) := by
  rw [take_succ_of h, List.any_append]; simp
theorem any_hit {l : List ByteArray} {p : ByteArray → Bool} {k : Nat} {y : ByteArray} (h : l[k]? = some y) (hp : p y = true) : l.any p = true := List.any_eq_true.2 ⟨y, List.mem_of_getElem? h, hp⟩
set_option maxHeartbeats 1000000 in
set_option maxRecDepth 20000 in
theorem rhas_any (A : Option Addr) (c : Nat) (l : List ByteArray) (s : ByteArray) (w : World) (hR : RdN w w.heap.size A l) (hl : l.length ≤ 1048576) : Calls Try.prog 32 #[.slice A l.length c, .string s] w (Bel (.bool (hasN l s)) w) := by
  unfold hasN
  obtain ⟨p, hp⟩ : ∃ p : ByteArray → Bool, (fun y => y.toList == s.toList) = p := ⟨_, rfl⟩
  have hps : ∀ y, (y.toList == s.toList) = p y := fun y => by rw [← hp]
  rw [hp]
  clear hp
  have HA := Lib.hid (fun k y (h : l[k]? = some y) => any_take (p := p) h)
  have HH := Lib.hid (fun k y (h : l[k]? = some y) (q : p y = true) => any_hit (p := p) h q)
  have HP := Lib.hid hps
  clear hps
  go_enter Try.func32, Try.ntmps32
  go_wp2
  go_loopw [5] (fun i wr => ∃ k : Nat, k ≤ l.length ∧ i = .int .i64 (k : Int) ∧ wr = w ∧ Hid ((l.take k).any p = false)) (fun i _ => l.length - (intOf i).toNat)
  case atStart => exact ⟨0, by omega, rfl, rfl, Lib.hid rfl⟩
  case round =>
    obtain ⟨k, hk, rfl, rfl, hno⟩ := hrel
    by_cases hlt : k < l.length
    · obtain ⟨ad, y, rfl, had, hy, c0⟩ := hR.at_ hlt
      have h1 := HA.out k y hy
      have h2 := HH.out k y hy
      have h3 := HP.out y
      rw [hno.out, Bool.false_or] at h1
      clear hy HA HH HP
      cases q : p y
      · rw [q] at h1 h3
        have H1 := Lib.hid h1
        clear h1 h2 q
        go_wp2
        exact ⟨⟨k + 1, by omega, by congr 1, trivial, H1⟩, by simp [intOf]; omega⟩
      · rw [h2 q]
        rw [q] at h3
        clear h1 h2 q
        go_wp2
        go_ret
        exact ⟨rfl, Below.refl _ _⟩
    · obtain rfl : k = l.length := by omega
      have h1 := hno.out
      rw [List.take_length] at h1
      go_wp2
      go_ret
      exact ⟨by rw [h1]; rfl, Below.refl _ _⟩
def sameN (a b : List ByteArray) : Bool := a.map ByteArray.toList == b.map ByteArray.toList
theorem same_step {a b : List ByteArray} {k : Nat} {y z : ByteArray} (ha : a[k]? = some y) (hb : b[k]? = some z) (h : (a.take k).map ByteArray.toList = (b.take k).map ByteArray.toList) (hy : (y.toList == z.toList) = true) : (a.take (k + 1)).map ByteArray.toList = (b.take (k + 1)).map ByteArray.toList := by
  rw [take_succ_of ha, take_succ_of hb, List.map_append, List.map_append, h, List.map_singleton, List.map_singleton, eq_of_beq hy]
theorem same_no {a b : List ByteArray} {k : Nat} {y z : ByteArray} (ha : a[k]? = some y) (hb : b[k]? = some z) (hy : (y.toList == z.toList) = false) : sameN a b = false := by
  rw [sameN, beq_eq_false_iff_ne]
  intro e
  have h := congrArg (fun l => l[k]?) e
  simp only [List.getElem?_map, ha, hb, Option.map_some] at h
  rw [Option.some.inj h] at hy
  simp at hy
set_option maxHeartbeats 1000000 in
set_option maxRecDepth 20000 in
theorem rsame_any (A A' : Option Addr) (c c' : Nat) (a b : List ByteArray) (w : World) (hA : RdN w w.heap.size A a) (hB : RdN w w.heap.size A' b) (ha : a.length ≤ 200000) (hb : b.length ≤ 200000) : Calls Try.prog 20 #[.slice A a.length c, .slice A' b.length c'] w (Bel (.bool (sameN a b)) w) := by
  have H1 := Lib.hid (fun k y z (p : a[k]? = some y) (q : b[k]? = some z) h => same_step p q h)
  have H2 := Lib.hid (fun k y z (p : a[k]? = some y) (q : b[k]? = some z) h => same_no p q h)
  by_cases hl : a.length = b.length
  · have H3 : Hid (a.map ByteArray.toList = b.map ByteArray.toList → sameN a b = true) := Lib.hid fun h => by rw [sameN, h]; exact beq_self_eq_true _
    generalize sameN a b = V at *
    obtain ⟨n, hn⟩ : ∃ n, a.length = n := ⟨_, rfl⟩
    have hm : b.length = n := hl ▸ hn
    rw [hn, hm]
    have HL := Lib.hid (And.intro hn hm)
    rw [hn] at ha
    clear hl hn hm hb
    go_enter Try.func20, Try.ntmps20
    go_wp2
    go_loopw [5] (fun i wr => ∃ k : Nat, k ≤ n ∧ i = .int .i64 (k : Int) ∧ Below w.heap.size w wr ∧ Hid ((a.take k).map ByteArray.toList = (b.take k).map ByteArray.toList)) (fun i _ => n - (intOf i).toNat)
    case atStart => exact ⟨0, by omega, rfl, Below.refl _ _, Lib.hid rfl⟩
    case round =>
      obtain ⟨k, hk, rfl, hbl, hno⟩ := hrel
      by_cases hlt : k < n
      · obtain ⟨ad, y, rfl, had, hy, c0⟩   := (hA.to hbl).at_ (k := k) (by rw [HL.out.1]; exact hlt)
        obtain ⟨ad', z, rfl, had', hz, c0'⟩ := (hB.to hbl).at_ (k := k) (by rw [HL.out.2]; exact hlt)
        have h1 := H1.out k y z hy hz hno.out
        have h2 := H2.out k y z hy hz
        clear hy hz
        cases q : (y.toList == z.toList)
        · have h3 := h2 q
          clear h1 h2
          go_wp2
          go_quiet (fail)
          go_wp2
          go_ret
          exact ⟨by rw [h3]; rfl, (by repeat (first | (with_reducible exact Below.refl _ _) | (with_reducible assumption) | (with_reducible exact bel_box _) | (with_reducible refine bel_step ?_ (by with_reducible assumption)) | (with_reducible refine Below.drew ?_) | (with_reducible refine below_drewN ?_ _) | (with_reducible refine bel_alloc ?_ _)))⟩
        · have H4 := Lib.hid (h1 q)
          clear h1 h2
          go_wp2
          go_quiet (fail)
          go_wp2
          exact ⟨⟨k + 1, by omega, by congr 1, (by repeat (first | (with_reducible exact Below.refl _ _) | (with_reducible assumption) | (with_reducible exact bel_box _) | (with_reducible refine bel_step ?_ (by with_reducible assumption)) | (with_reducible refine Below.drew ?_) | (with_reducible refine below_drewN ?_ _) | (with_reducible refine bel_alloc ?_ _))), H4⟩, by simp [intOf]; omega⟩
      · obtain rfl : k = n := by omega
        have h1 := hno.out
        rw [← HL.out.1, List.take_length, HL.out.1, ← HL.out.2, List.take_length] at h1
        have h2 := H3.out h1
        clear h1 hno
        go_wp2
        go_ret
        exact ⟨by rw [h2]; rfl, hbl⟩
  · have h3 : sameN a b = false := by
      rw [sameN, beq_eq_false_iff_ne]
      intro e
      have := congrArg List.length e
      simp at this
      omega
    rw [h3]
    have hl2 : (((a.length : Nat) : Int) != ((b.length : Nat) : Int)) = true := by simp; omega
    go_enter Try.func20, Try.ntmps20
    go_wp2
    go_ret
    exact ⟨rfl, Below.refl _ _⟩
end Go.Proofs.Ytjodffbekipnlaa
/- Joining of statements as an operation on lists: plain. -/
namespace Go.Proofs.Ytjodffbekipnlaa
set_option linter.unusedVariables false
set_option linter.unusedSimpArgs false
namespace fu
/-- a statement: its head, and its branches -/
inductive Sx (H : Type) where
  | mk (h : H) (br : List (List (Sx H)))
variable {H : Type}
def Sx.h : Sx H → H | .mk h _ => h
def Sx.br : Sx H → List (List (Sx H)) | .mk _ br => br
theorem Sx.lt_br {s : Sx H} {b : List (Sx H)} (hb : b ∈ s.br) : SizeOf.sizeOf b < SizeOf.sizeOf s := by
  cases s with
  | mk h br =>
    have := List.sizeOf_lt_of_mem (show b ∈ br from hb)
    simp
    omega
theorem Sx.lt_mem {s t : Sx H} {b : List (Sx H)} (hb : b ∈ s.br) (ht : t ∈ b) : SizeOf.sizeOf t < SizeOf.sizeOf s := by
  have h1 := Sx.lt_br hb
  have h2 := List.sizeOf_lt_of_mem ht
  omega
theorem Sx.ind {P : Sx H → Prop} (h : ∀ s : Sx H, (∀ b ∈ s.br, ∀ t ∈ b, P t) → P s) (s : Sx H) : P s := by
  generalize hN : SizeOf.sizeOf s = N
  induction N using Nat.strongRecOn generalizing s with
  | ind N ih =>
    subst hN
    exact h s fun b hb t ht => ih _ (Sx.lt_mem hb ht) t rfl
/-- what is asked of heads: which are cases, which may be combined by name and type, whether a plain one assigns the variable of a case -/
structure Hk (H : Type) where
  c : H → Bool
  key : H → H → Bool
  asg : H → H → Bool
  krefl : ∀ a, key a a = true
  ksymm : ∀ a b, key a b = true → key b a = true
  ktrans : ∀ a b d, key a b = true → key b d = true → key a d = true
  kasg : ∀ s a b, key a b = true → asg s a = asg s b
variable (K : Hk H)
/-- does a statement assign the variable of the case d -/
def asg1 (d : H) (s : Sx H) : Bool := if K.c s.h then s.br.attach.any fun b => b.1.attach.any fun t => asg1 d t.1 else K.asg s.h d
termination_by SizeOf.sizeOf s
decreasing_by exact Sx.lt_mem b.2 t.2
def asgL (d : H) (l : List (Sx H)) : Bool := l.any (asg1 K d)
theorem asg1_eq (d : H) (s : Sx H) : asg1 K d s = if K.c s.h then s.br.any (asgL K d) else K.asg s.h d := by
  rw [asg1]
  congr 1
  rw [Bool.eq_iff_iff]
  simp only [asgL, List.any_eq_true, List.mem_attach, true_and, Subtype.exists]
  constructor
  · rintro ⟨b, hb, t, ht, h⟩
    exact ⟨b, hb, t, ht, h⟩
  · rintro ⟨b, hb, t, ht, h⟩
    exact ⟨b, hb, t, ht, h⟩
theorem asg1_key {d e : H} (h : K.key d e = true) (s : Sx H) : asg1 K d s = asg1 K e s := by
  induction s using Sx.ind with
  | h s ih =>
    rw [asg1_eq, asg1_eq, K.kasg s.h d e h]
    congr 1
    rw [Bool.eq_iff_iff]
    simp only [asgL, List.any_eq_true]
    constructor
    · rintro ⟨b, hb, t, ht, h⟩
      exact ⟨b, hb, t, ht, by rw [← ih b hb t ht]; exact h⟩
    · rintro ⟨b, hb, t, ht, h⟩
      exact ⟨b, hb, t, ht, by rw [ih b hb t ht]; exact h⟩
theorem asgL_append (d : H) (x y : List (Sx H)) : asgL K d (x ++ y) = (asgL K d x || asgL K d y) := List.any_append
/-- a is in front of b, and both are combined -/
def mate (a b : Sx H) : Bool := K.c a.h && K.c b.h && K.key a.h b.h && a.br.length == b.br.length && !asg1 K a.h a
def appf : Nat → List (Sx H) → List (Sx H) → List (Sx H)
  | 0, x, y => x ++ y
  | f + 1, x, y => match x.getLast?, y with
    | some a, b :: ys => if mate K a b then x.dropLast ++ .mk a.h (List.zipWith (appf f) a.br b.br) :: ys else x ++ b :: ys
    | _, _ => x ++ y
theorem zip_congr {α β γ : Type} {f g : α → β → γ} : ∀ (l : List α) (m : List β), (∀ a ∈ l, ∀ b, f a b = g a b) → List.zipWith f l m = List.zipWith g l m
  | [], _, _ => by simp
  | _ :: _, [], _ => by simp
  | a :: l, b :: m, h => by
    simp only [List.zipWith_cons_cons]
    rw [h a List.mem_cons_self b, zip_congr l m fun a ha b => h a (List.mem_cons_of_mem _ ha) b]
theorem appf_fuel : ∀ (f g : Nat) (x y : List (Sx H)), SizeOf.sizeOf x ≤ f → SizeOf.sizeOf x ≤ g → appf K f x y = appf K g x y
  | 0, _, x, _, h, _ => by cases x <;> simp at h
  | _ + 1, 0, x, _, _, h => by cases x <;> simp at h
  | f + 1, g + 1, x, y, hf, hg => by
    unfold appf
    split
    · rename_i a b ys hx
      have ha : a ∈ x := List.mem_of_getLast? hx
      have h1 := List.sizeOf_lt_of_mem ha
      rw [zip_congr (f := appf K f) (g := appf K g) a.br b.br fun u hu v => ?_]
      have h2 := Sx.lt_br hu
      exact appf_fuel f g u v (by omega) (by omega)
    · rfl
/-- two lists, one behind the other, joined where they meet -/
noncomputable def app (x y : List (Sx H)) : List (Sx H) := appf K (SizeOf.sizeOf x) x y
theorem app_eq (x y : List (Sx H)) : app K x y = match x.getLast?, y with
    | some a, b :: ys => if mate K a b then x.dropLast ++ .mk a.h (List.zipWith (app K) a.br b.br) :: ys else x ++ b :: ys
    | _, _ => x ++ y := by
  unfold app
  rw [appf_fuel K (SizeOf.sizeOf x) (SizeOf.sizeOf x + 1) x y (Nat.le_refl _) (Nat.le_succ _)]
  conv => lhs; unfold appf
  cases hx : x.getLast? with
  | none => rfl
  | some a =>
    cases y with
    | nil => rfl
    | cons b ys =>
      simp only
      have ha : a ∈ x := List.mem_of_getLast? hx
      have h1 := List.sizeOf_lt_of_mem ha
      have hz := zip_congr (f := appf K (SizeOf.sizeOf x)) (g := fun u v => appf K (SizeOf.sizeOf u) u v) a.br b.br fun u hu v => appf_fuel K _ _ u v (by have h2 := Sx.lt_br hu; omega) (Nat.le_refl _)
      rw [hz]
theorem app_nil (x : List (Sx H)) : app K x [] = x := by
  rw [app_eq]
  cases x.getLast? <;> simp
theorem nil_app (y : List (Sx H)) : app K [] y = y := by
  rw [app_eq]
  simp
/-- what two cases become -/
noncomputable def both (a b : Sx H) : Sx H := .mk a.h (List.zipWith (app K) a.br b.br)
theorem app_snoc (x : List (Sx H)) (a b : Sx H) (ys : List (Sx H)) : app K (x ++ [a]) (b :: ys) = if mate K a b then x ++ both K a b :: ys else x ++ a :: b :: ys := by
  rw [app_eq]
  simp only [List.getLast?_append, List.getLast?_singleton, Option.some_or, List.dropLast_concat]
  split
  · rfl
  · simp
theorem one_app (a b : Sx H) (ys : List (Sx H)) : app K [a] (b :: ys) = if mate K a b then both K a b :: ys else a :: b :: ys := app_snoc K [] a b ys
/-- what meets a list of two or more at its end does not see its beginning -/
theorem app_cons2 (u : Sx H) (x : List (Sx H)) (hx : x ≠ []) (y : List (Sx H)) : app K (u :: x) y = u :: app K x y := by
  rcases List.eq_nil_or_concat x with rfl | ⟨x', a, rfl⟩
  · exact absurd rfl hx
  · cases y with
    | nil => rw [app_nil, app_nil]
    | cons b ys =>
      rw [List.concat_eq_append] at *
      rw [← List.cons_append, app_snoc, app_snoc]
      split <;> simp
theorem app_front (w x : List (Sx H)) (hx : x ≠ []) (y : List (Sx H)) : app K (w ++ x) y = w ++ app K x y := by
  induction w with
  | nil => rfl
  | cons u w ih => rw [List.cons_append, app_cons2 K u (w ++ x) (by simp [hx]), ih, List.cons_append]
theorem zip_asg (d : H) : ∀ (l m : List (List (Sx H))), l.length = m.length → (∀ u ∈ l, ∀ v, asgL K d (app K u v) = (asgL K d u || asgL K d v)) → (List.zipWith (app K) l m).any (asgL K d) = (l.any (asgL K d) || m.any (asgL K d))
  | [], [], _, _ => rfl
  | [], _ :: _, h, _ => by simp at h
  | _ :: _, [], h, _ => by simp at h
  | u :: l, v :: m, h, hu => by
    simp only [List.zipWith_cons_cons, List.any_cons]
    rw [hu u List.mem_cons_self v, zip_asg d l m (by simpa using h) fun w hw => hu w (List.mem_cons_of_mem _ hw)]
    cases asgL K d u <;> cases asgL K d v <;> cases l.any (asgL K d) <;> simp
theorem mate_parts {a b : Sx H} (h : mate K a b = true) : K.c a.h = true ∧ K.c b.h = true ∧ K.key a.h b.h = true ∧ a.br.length = b.br.length ∧ asg1 K a.h a = false := by
  unfold mate at h
  simp only [Bool.and_eq_true, beq_iff_eq, Bool.not_eq_true'] at h
  obtain ⟨⟨⟨⟨h1, h2⟩, h3⟩, h4⟩, h5⟩ := h
  exact ⟨h1, h2, h3, h4, h5⟩
theorem asgL_app (d : H) : ∀ (n : Nat) (x y : List (Sx H)), SizeOf.sizeOf x ≤ n → asgL K d (app K x y) = (asgL K d x || asgL K d y) := by
  intro n
  induction n with
  | zero => intro x y h; cases x <;> simp at h
  | succ n ih =>
    intro x y hn
    rcases List.eq_nil_or_concat x with rfl | ⟨x', a, rfl⟩
    · rw [nil_app]; rfl
    · rw [List.concat_eq_append] at *
      cases y with
      | nil => rw [app_nil]; simp [asgL]
      | cons b ys =>
        rw [app_snoc]
        split
        · rename_i hm
          obtain ⟨h1, h2, h3, h4, _⟩ := mate_parts K hm
          have hsz : SizeOf.sizeOf a < SizeOf.sizeOf (x' ++ [a]) := List.sizeOf_lt_of_mem (by simp)
          have hb : asg1 K d (both K a b) = (asg1 K d a || asg1 K d b) := by
            have e1 : (both K a b).h = a.h := rfl
            have e2 : (both K a b).br = List.zipWith (app K) a.br b.br := rfl
            rw [asg1_eq K d (both K a b), asg1_eq K d a, asg1_eq K d b, e1, e2, h1, h2, if_pos rfl, if_pos rfl, if_pos rfl]
            exact zip_asg K d a.br b.br h4 fun u hu v => ih u v (by have := Sx.lt_br hu; omega)
          rw [asgL_append, asgL_append]
          simp only [asgL, List.any_cons, List.any_nil, Bool.or_false]
          rw [hb]
          cases x'.any (asg1 K d) <;> cases asg1 K d a <;> cases asg1 K d b <;> simp
        · simp only [asgL, List.any_append, List.any_cons, List.any_nil, Bool.or_false]
          cases x'.any (asg1 K d) <;> cases asg1 K d a <;> cases asg1 K d b <;> simp
end fu
end Go.Proofs.Ytjodffbekipnlaa
/- Joining is associative; the normal form: plain. -/
namespace Go.Proofs.Ytjodffbekipnlaa
set_option linter.unusedVariables false
set_option linter.unusedSimpArgs false
namespace fu
variable {H : Type} (K : Hk H)
theorem mate_both_l {a b : Sx H} (h : mate K a b = true) (d : Sx H) : mate K (both K a b) d = mate K b d := by
  obtain ⟨h1, h2, h3, h4, h5⟩ := mate_parts K h
  have e1 : (both K a b).h = a.h := rfl
  have e2 : (both K a b).br = List.zipWith (app K) a.br b.br := rfl
  have e3 : asg1 K a.h (both K a b) = asg1 K b.h b := by
    have h6 := asgL_app K a.h _ [a] [b] (Nat.le_refl _)
    rw [one_app, if_pos h] at h6
    simp only [asgL, List.any_cons, List.any_nil, Bool.or_false] at h6
    rw [h6, h5, Bool.false_or]
    exact asg1_key K h3 b
  unfold mate
  rw [e1, e2, e3, h1, h2, List.length_zipWith, h4, Nat.min_self]
  have e4 : K.key a.h d.h = K.key b.h d.h := by
    rw [Bool.eq_iff_iff]
    exact ⟨fun x => K.ktrans _ _ _ (K.ksymm _ _ h3) x, fun x => K.ktrans _ _ _ h3 x⟩
  rw [e4]
theorem mate_both_r {a b : Sx H} (h : mate K a b = true) (l : Sx H) : mate K l (both K a b) = mate K l a := by
  obtain ⟨h1, h2, h3, h4, h5⟩ := mate_parts K h
  have e1 : (both K a b).h = a.h := rfl
  have e2 : (both K a b).br = List.zipWith (app K) a.br b.br := rfl
  unfold mate
  rw [e1, e2, List.length_zipWith, h4, Nat.min_self]
theorem zip_assoc {α : Type} (f : α → α → α) : ∀ (l m n : List α), (∀ a ∈ l, ∀ b c, f (f a b) c = f a (f b c)) → List.zipWith f (List.zipWith f l m) n = List.zipWith f l (List.zipWith f m n)
  | [], _, _, _ => by simp
  | _ :: _, [], _, _ => by simp
  | _ :: _, _ :: _, [], _ => by simp
  | a :: l, b :: m, c :: n, h => by
    simp only [List.zipWith_cons_cons]
    rw [h a List.mem_cons_self b c, zip_assoc f l m n fun a ha b c => h a (List.mem_cons_of_mem _ ha) b c]
theorem app_assoc : ∀ (k : Nat) (x y z : List (Sx H)), SizeOf.sizeOf x ≤ k → app K (app K x y) z = app K x (app K y z) := by
  intro k
  induction k with
  | zero => intro x y z h; cases x <;> simp at h
  | succ k ih =>
    intro x y z hk
    rcases List.eq_nil_or_concat x with rfl | ⟨x', a, rfl⟩
    · rw [nil_app, nil_app]
    rw [List.concat_eq_append] at *
    have hsz : SizeOf.sizeOf a < SizeOf.sizeOf (x' ++ [a]) := List.sizeOf_lt_of_mem (by simp)
    cases z with
    | nil => rw [app_nil, app_nil]
    | cons d zs =>
      cases y with
      | nil => rw [app_nil, nil_app]
      | cons b y2 =>
        rcases List.eq_nil_or_concat y2 with rfl | ⟨y3, e, rfl⟩
        · rw [app_snoc, one_app]
          by_cases m1 : mate K a b = true
          · rw [if_pos m1]
            rw [app_snoc, mate_both_l K m1]
            by_cases m2 : mate K b d = true
            · rw [if_pos m2, if_pos m2, app_snoc, mate_both_r K m2, if_pos m1]
              congr 2
              unfold both
              congr 1
              exact zip_assoc (app K) a.br b.br d.br fun u hu v w => ih u v w (by have := Sx.lt_br hu; omega)
            · rw [if_neg m2, if_neg m2, app_snoc, if_pos m1]
          · rw [if_neg m1]
            have e1 : x' ++ [a, b] = (x' ++ [a]) ++ [b] := by simp
            rw [e1, app_snoc]
            by_cases m2 : mate K b d = true
            · rw [if_pos m2, if_pos m2, app_snoc, mate_both_r K m2, if_neg m1]
              simp
            · rw [if_neg m2, if_neg m2, app_snoc, if_neg m1]
              simp
        · rw [List.concat_eq_append, app_cons2 K b (y3 ++ [e]) (by simp), app_snoc, app_snoc]
          by_cases m1 : mate K a b = true
          · rw [if_pos m1, if_pos m1]
            have e1 : x' ++ both K a b :: (y3 ++ [e]) = (x' ++ [both K a b]) ++ (y3 ++ [e]) := by simp
            rw [e1, app_front K _ _ (by simp)]
            simp
          · rw [if_neg m1, if_neg m1]
            have e1 : x' ++ a :: b :: (y3 ++ [e]) = (x' ++ [a, b]) ++ (y3 ++ [e]) := by simp
            rw [e1, app_front K _ _ (by simp)]
            simp
theorem app_ass (x y z : List (Sx H)) : app K (app K x y) z = app K x (app K y z) := app_assoc K _ x y z (Nat.le_refl _)
/-- a statement joined: nothing, or one -/
noncomputable def norm1 (s : Sx H) : List (Sx H) :=
  if K.c s.h then
    if (s.br.attach.map fun b => b.1.attach.foldl (fun o t => app K o (norm1 t.1)) []).all List.isEmpty then [] else [.mk s.h (s.br.attach.map fun b => b.1.attach.foldl (fun o t => app K o (norm1 t.1)) [])]
  else [s]
termination_by SizeOf.sizeOf s
decreasing_by
  · exact Sx.lt_mem b.2 t.2
  · exact Sx.lt_mem b.2 t.2
noncomputable def norm (l : List (Sx H)) : List (Sx H) := l.foldl (fun o t => app K o (norm1 K t)) []
theorem norm1_eq (s : Sx H) : norm1 K s = if K.c s.h then (if (s.br.map (norm K)).all List.isEmpty then [] else [.mk s.h (s.br.map (norm K))]) else [s] := by
  have e : (s.br.attach.map fun b => b.1.attach.foldl (fun o t => app K o (norm1 K t.1)) []) = s.br.map (norm K) := by
    have h1 : ∀ b : List (Sx H), b.attach.foldl (fun o t => app K o (norm1 K t.1)) [] = norm K b := fun b => by
      unfold norm
      rw [List.foldl_attach (f := fun o t => app K o (norm1 K t))]
    simp only [h1]
    rw [List.map_attach_eq_pmap]
    simp
  rw [norm1, e]
theorem norm_from (o l : List (Sx H)) : l.foldl (fun o t => app K o (norm1 K t)) o = app K o (norm K l) := by
  unfold norm
  induction l generalizing o with
  | nil => rw [List.foldl_nil, List.foldl_nil, app_nil]
  | cons a l ih => rw [List.foldl_cons, List.foldl_cons, ih, ih (app K [] (norm1 K a)), nil_app, app_ass]
theorem norm_append (x y : List (Sx H)) : norm K (x ++ y) = app K (norm K x) (norm K y) := by
  conv => lhs; unfold norm
  rw [List.foldl_append]
  exact norm_from K _ _
theorem norm_one (s : Sx H) : norm K [s] = norm1 K s := by
  unfold norm
  rw [List.foldl_cons, List.foldl_nil, nil_app]
theorem norm_cons (s : Sx H) (l : List (Sx H)) : norm K (s :: l) = app K (norm1 K s) (norm K l) := by
  rw [← norm_one, ← norm_append]; rfl
theorem norm_snoc (l : List (Sx H)) (s : Sx H) : norm K (l ++ [s]) = app K (norm K l) (norm1 K s) := by rw [norm_append, norm_one]
/-- no neighbours that would be combined -/
def Ch (l : List (Sx H)) : Prop := ∀ p a b q, l = p ++ a :: b :: q → mate K a b = false
inductive Nf1 : Sx H → Prop
  | mk (s : Sx H) (h1 : K.c s.h = true → ∃ b ∈ s.br, b ≠ []) (h2 : K.c s.h = true → ∀ b ∈ s.br, ∀ t ∈ b, Nf1 t) (h3 : K.c s.h = true → ∀ b ∈ s.br, Ch K b) : Nf1 s
def Nf (l : List (Sx H)) : Prop := (∀ t ∈ l, Nf1 K t) ∧ Ch K l
theorem Nf1.of {s : Sx H} (h : Nf1 K s) (hc : K.c s.h = true) : (∃ b ∈ s.br, b ≠ []) ∧ ∀ b ∈ s.br, Nf K b := by
  cases h with
  | mk s h1 h2 h3 => exact ⟨h1 hc, fun b hb => ⟨h2 hc b hb, h3 hc b hb⟩⟩
theorem Ch.nil : Ch K ([] : List (Sx H)) := fun p a b q h => by simp at h
theorem Ch.one (s : Sx H) : Ch K [s] := fun p a b q h => by
  have := congrArg List.length h
  simp at this
  omega
theorem Ch.left {x y : List (Sx H)} (h : Ch K (x ++ y)) : Ch K x := fun p a b q e => h p a b (q ++ y) (by rw [e]; simp)
theorem Ch.right {x y : List (Sx H)} (h : Ch K (x ++ y)) : Ch K y := fun p a b q e => h (x ++ p) a b q (by rw [e]; simp)
/-- two of them, one behind the other -/
theorem Ch.meet {x y : List (Sx H)} {a b : Sx H} (hx : Ch K (x ++ [a])) (hy : Ch K (b :: y)) (hm : mate K a b = false) : Ch K (x ++ a :: b :: y) := fun p u v q e => by
  rcases Nat.lt_trichotomy p.length x.length with h | h | h
  · -- both in x ++ [a]
    obtain ⟨r, hr⟩ : ∃ r, x ++ [a] = p ++ u :: v :: r := by
      have h1 : p ++ [u, v] <+: x ++ [a] := by
        have h2 : p ++ [u, v] <+: x ++ a :: b :: y := ⟨q, by rw [e]; simp⟩
        have h3 : x ++ [a] <+: x ++ a :: b :: y := ⟨b :: y, by simp⟩
        exact List.prefix_of_prefix_length_le h2 h3 (by simp; omega)
      obtain ⟨r, hr⟩ := h1
      exact ⟨r, by rw [← hr]; simp⟩
    exact hx p u v r hr
  · obtain ⟨e1, e2⟩ := List.append_inj e h.symm
    injection e2 with e2 e3
    injection e3 with e3 _
    rw [← e2, ← e3]
    exact hm
  · obtain ⟨r, hr⟩ : ∃ r, p = (x ++ [a]) ++ r := by
      have h2 : x ++ [a] <+: x ++ a :: b :: y := ⟨b :: y, by simp⟩
      have h3 : p <+: x ++ a :: b :: y := ⟨u :: v :: q, e.symm⟩
      obtain ⟨r, hr⟩ := List.prefix_of_prefix_length_le h2 h3 (by simp; omega)
      exact ⟨r, hr.symm⟩
    have e4 : b :: y = r ++ u :: v :: q := by
      have h5 : (x ++ [a]) ++ (b :: y) = (x ++ [a]) ++ (r ++ u :: v :: q) := by
        rw [← List.append_assoc, ← hr, ← e]; simp
      exact List.append_cancel_left h5
    exact hy r u v q e4
end fu
end Go.Proofs.Ytjodffbekipnlaa
/- The normal form, its cases and its paths: plain. -/
namespace Go.Proofs.Ytjodffbekipnlaa
set_option linter.unusedVariables false
set_option linter.unusedSimpArgs false
namespace fu
variable {H : Type} (K : Hk H)
theorem ch_snoc_both {x : List (Sx H)} {a b : Sx H} (h : Ch K (x ++ [a])) (hm : mate K a b = true) : Ch K (x ++ [both K a b]) := fun p u v q e => by
  rcases List.eq_nil_or_concat q with rfl | ⟨q', r, rfl⟩
  · have e1 : x ++ [both K a b] = (p ++ [u]) ++ [v] := by rw [e]; simp
    obtain ⟨e2, e3⟩ := List.append_inj' e1 rfl
    injection e3 with e3 _
    subst e3
    rw [mate_both_r K hm]
    exact h p u a [] (by rw [e2]; simp)
  · rw [List.concat_eq_append] at e
    have e1 : x ++ [both K a b] = (p ++ u :: v :: q') ++ [r] := by rw [e]; simp
    obtain ⟨e2, _⟩ := List.append_inj' e1 rfl
    exact h p u v (q' ++ [a]) (by rw [e2]; simp)
theorem zip_mem {α β γ : Type} {f : α → β → γ} : ∀ {l : List α} {m : List β} {c : γ}, c ∈ List.zipWith f l m → ∃ a ∈ l, ∃ b ∈ m, c = f a b
  | [], _, _, h => by simp at h
  | _ :: _, [], _, h => by simp at h
  | a :: l, b :: m, c, h => by
    simp only [List.zipWith_cons_cons] at h
    rcases List.mem_cons.1 h with h | h
    · exact ⟨a, by simp, b, by simp, h⟩
    · obtain ⟨x, h1, y, h2, h3⟩ := zip_mem h
      exact ⟨x, by simp [h1], y, by simp [h2], h3⟩
theorem zip_first {α β γ : Type} {f : α → β → γ} : ∀ {l : List α} {m : List β} {a : α}, l.length = m.length → a ∈ l → ∃ b ∈ m, f a b ∈ List.zipWith f l m
  | a :: l, [], _, h, _ => by simp at h
  | x :: l, y :: m, a, h, ha => by
    simp only [List.zipWith_cons_cons]
    rcases List.mem_cons.1 ha with rfl | ha
    · exact ⟨y, by simp, by simp⟩
    · obtain ⟨b, h1, h2⟩ := zip_first (f := f) (by simpa using h) ha
      exact ⟨b, by simp [h1], by simp [h2]⟩
theorem app_ne {x y : List (Sx H)} (h : x ≠ []) : app K x y ≠ [] := by
  rcases List.eq_nil_or_concat x with rfl | ⟨x', a, rfl⟩
  · exact absurd rfl h
  · rw [List.concat_eq_append]
    cases y with
    | nil => rw [app_nil]; simp
    | cons b ys => rw [app_snoc]; split <;> simp
theorem nf_app : ∀ (k : Nat) (x y : List (Sx H)), SizeOf.sizeOf x ≤ k → Nf K x → Nf K y → Nf K (app K x y) := by
  intro k
  induction k with
  | zero => intro x y h; cases x <;> simp at h
  | succ k ih =>
    intro x y hk hx hy
    rcases List.eq_nil_or_concat x with rfl | ⟨x', a, rfl⟩
    · rw [nil_app]; exact hy
    rw [List.concat_eq_append] at *
    have hsz : SizeOf.sizeOf a < SizeOf.sizeOf (x' ++ [a]) := List.sizeOf_lt_of_mem (by simp)
    cases y with
    | nil => rw [app_nil]; exact hx
    | cons b ys =>
      rw [app_snoc]
      by_cases hm : mate K a b = true
      · rw [if_pos hm]
        obtain ⟨h1, h2, h3, h4, h5⟩ := mate_parts K hm
        obtain ⟨⟨u, hu, hun⟩, ha2⟩ := (hx.1 a (by simp)).of K h1
        obtain ⟨_, hb2⟩ := (hy.1 b (by simp)).of K h2
        have hall : ∀ w ∈ List.zipWith (app K) a.br b.br, Nf K w := fun w hw => by
          obtain ⟨p, hp, q, hq, rfl⟩ := zip_mem hw
          exact ih p q (by have := Sx.lt_br hp; omega) (ha2 p hp) (hb2 q hq)
        have hb1 : Nf1 K (both K a b) := .mk _ (fun _ => by
          obtain ⟨q, _, hq⟩ := zip_first (f := app K) h4 hu
          exact ⟨_, hq, app_ne K hun⟩) (fun _ w hw t ht => (hall w hw).1 t ht) (fun _ w hw => (hall w hw).2)
        refine ⟨fun t ht => ?_, ?_⟩
        · rcases List.mem_append.1 ht with ht | ht
          · exact hx.1 t (List.mem_append_left _ ht)
          · rcases List.mem_cons.1 ht with rfl | ht
            · exact hb1
            · exact hy.1 t (List.mem_cons_of_mem _ ht)
        · cases ys with
          | nil => exact ch_snoc_both K hx.2 hm
          | cons d zs =>
            refine Ch.meet K (ch_snoc_both K hx.2 hm) (Ch.right K (x := [b]) hy.2) ?_
            rw [mate_both_l K hm]
            exact hy.2 [] b d zs rfl
      · rw [if_neg hm]
        have hm2 : mate K a b = false := by simpa using hm
        refine ⟨fun t ht => ?_, Ch.meet K hx.2 hy.2 hm2⟩
        rcases List.mem_append.1 ht with ht | ht
        · exact hx.1 t (List.mem_append_left _ ht)
        · rcases List.mem_cons.1 ht with rfl | ht
          · exact hx.1 t (by simp)
          · exact hy.1 t ht
theorem Nf.nil : Nf K ([] : List (Sx H)) := ⟨fun t h => (by cases h), Ch.nil K⟩
theorem Nf.app {x y : List (Sx H)} (hx : Nf K x) (hy : Nf K y) : Nf K (app K x y) := nf_app K _ x y (Nat.le_refl _) hx hy
theorem nf_norm_of {l : List (Sx H)} (h : ∀ t ∈ l, Nf K (norm1 K t)) : Nf K (norm K l) := by
  induction l with
  | nil => exact Nf.nil K
  | cons a l ih =>
    rw [norm_cons]
    exact (h a List.mem_cons_self).app K (ih fun t ht => h t (List.mem_cons_of_mem _ ht))
theorem nf_norm1 (s : Sx H) : Nf K (norm1 K s) := by
  induction s using Sx.ind with
  | h s ih =>
    rw [norm1_eq]
    split
    · rename_i hc
      split
      · exact Nf.nil K
      · rename_i hne
        have hall : ∀ b ∈ s.br.map (norm K), Nf K b := fun b hb => by
          obtain ⟨u, hu, rfl⟩ := List.mem_map.1 hb
          exact nf_norm_of K fun t ht => ih u hu t ht
        refine ⟨fun t ht => ?_, Ch.one K _⟩
        rw [List.mem_singleton.1 ht]
        refine .mk _ (fun _ => ?_) (fun _ b hb t ht => (hall b hb).1 t ht) (fun _ b hb => (hall b hb).2)
        refine Classical.byContradiction fun h => hne (List.all_eq_true.2 fun b hb => ?_)
        cases b with
        | nil => rfl
        | cons x y => exact absurd ⟨_, hb, by simp⟩ h
    · rename_i hc
      refine ⟨fun t ht => ?_, Ch.one K _⟩
      rw [List.mem_singleton.1 ht]
      exact .mk _ (fun h => absurd h hc) (fun h => absurd h hc) (fun h => absurd h hc)
theorem nf_norm (l : List (Sx H)) : Nf K (norm K l) := nf_norm_of K fun t _ => nf_norm1 K t
theorem norm_of {l : List (Sx H)} (h : ∀ t ∈ l, norm1 K t = [t]) (hc : Ch K l) : norm K l = l := by
  rcases List.eq_nil_or_concat l with rfl | ⟨x, a, rfl⟩
  · rfl
  · rw [List.concat_eq_append] at *
    have key : ∀ (x : List (Sx H)) (a : Sx H), (∀ t ∈ x ++ [a], norm1 K t = [t]) → Ch K (x ++ [a]) → norm K (x ++ [a]) = x ++ [a] := by
      intro x
      generalize hn : x.length = n
      induction n generalizing x with
      | zero =>
        intro a h _
        obtain rfl := List.eq_nil_of_length_eq_zero hn
        rw [List.nil_append, norm_one]
        exact h a (by simp)
      | succ n ih =>
        intro a h hc
        rcases List.eq_nil_or_concat x with rfl | ⟨y, b, rfl⟩
        · simp at hn
        · rw [List.concat_eq_append] at *
          rw [norm_snoc, ih y (by simpa using hn) b (fun t ht => h t (List.mem_append_left _ ht)) (Ch.left K hc), h a (by simp), app_snoc, if_neg]
          · simp
          · have := hc y b a [] (by simp)
            rw [this]; simp
    exact key x a h hc
theorem norm1_nf (s : Sx H) : Nf1 K s → norm1 K s = [s] := by
  induction s using Sx.ind with
  | h s ih =>
    intro hs
    rw [norm1_eq]
    by_cases hc : K.c s.h = true
    · obtain ⟨⟨b, hb, hne⟩, hall⟩ := hs.of K hc
      have e : s.br.map (norm K) = s.br := by
        conv => rhs; rw [← List.map_id s.br]
        exact List.map_congr_left fun b hb => norm_of K (fun t ht => ih b hb t ht ((hall b hb).1 t ht)) (hall b hb).2
      rw [if_pos hc, e, if_neg]
      · cases s; rfl
      · intro h
        have := List.all_eq_true.1 h b hb
        cases b with
        | nil => exact hne rfl
        | cons x y => cases this
    · rw [if_neg hc]
theorem norm_nf {l : List (Sx H)} (h : Nf K l) : norm K l = l := norm_of K (fun t ht => norm1_nf K t (h.1 t ht)) h.2
theorem norm_norm (l : List (Sx H)) : norm K (norm K l) = norm K l := norm_nf K (nf_norm K l)
end fu
end Go.Proofs.Ytjodffbekipnlaa
/- Cases, empty cases and paths of joined lists: plain. -/
namespace Go.Proofs.Ytjodffbekipnlaa
set_option linter.unusedVariables false
set_option linter.unusedSimpArgs false
namespace fu
variable {H : Type} (K : Hk H)
/-- sums over lists of lists -/
def sumL {α : Type} (f : α → Nat) (l : List α) : Nat := (l.map f).sum
theorem sumL_append {α : Type} (f : α → Nat) (x y : List α) : sumL f (x ++ y) = sumL f x + sumL f y := by simp [sumL]
theorem sumL_cons {α : Type} (f : α → Nat) (a : α) (y : List α) : sumL f (a :: y) = f a + sumL f y := by simp [sumL]
theorem sumL_le {α : Type} {f g : α → Nat} {l : List α} (h : ∀ a ∈ l, f a ≤ g a) : sumL f l ≤ sumL g l := by
  induction l with
  | nil => exact Nat.le_refl _
  | cons a l ih =>
    rw [sumL_cons, sumL_cons]
    have := h a List.mem_cons_self
    have := ih fun x hx => h x (List.mem_cons_of_mem _ hx)
    omega
theorem sum_zip {α : Type} {f : α → Nat} {g : α → α → α} : ∀ (l m : List α), (∀ a ∈ l, ∀ b, f (g a b) ≤ f a + f b) → sumL f (List.zipWith g l m) ≤ sumL f l + sumL f m
  | [], _, _ => by simp [sumL]
  | _ :: _, [], _ => by simp [sumL]
  | a :: l, b :: m, h => by
    simp only [List.zipWith_cons_cons, sumL_cons]
    have := h a List.mem_cons_self b
    have := sum_zip l m fun x hx => h x (List.mem_cons_of_mem _ hx)
    omega
/-- a number of a statement that is its own and those of its branches; cst is what a case costs, pst a plain one -/
def num1 (cst : Nat → Nat) (pst : H → Nat) (s : Sx H) : Nat := if K.c s.h then cst s.br.length + (s.br.attach.map fun b => (b.1.attach.map fun t => num1 cst pst t.1).sum).sum else pst s.h
termination_by SizeOf.sizeOf s
decreasing_by exact Sx.lt_mem b.2 t.2
def num (cst : Nat → Nat) (pst : H → Nat) (l : List (Sx H)) : Nat := sumL (num1 K cst pst) l
theorem num1_eq (cst : Nat → Nat) (pst : H → Nat) (s : Sx H) : num1 K cst pst s = if K.c s.h then cst s.br.length + sumL (num K cst pst) s.br else pst s.h := by
  rw [num1]
  congr 2
  have h1 : ∀ b : List (Sx H), (b.attach.map fun t => num1 K cst pst t.1).sum = num K cst pst b := fun b => by
    unfold num sumL
    congr 1
    rw [List.map_attach_eq_pmap]
    simp
  simp only [h1]
  unfold sumL
  congr 1
  rw [List.map_attach_eq_pmap]
  simp
theorem num_app (cst : Nat → Nat) (pst : H → Nat) : ∀ (k : Nat) (x y : List (Sx H)), SizeOf.sizeOf x ≤ k → num K cst pst (app K x y) ≤ num K cst pst x + num K cst pst y := by
  intro k
  induction k with
  | zero => intro x y h; cases x <;> simp at h
  | succ k ih =>
    intro x y hk
    rcases List.eq_nil_or_concat x with rfl | ⟨x', a, rfl⟩
    · rw [nil_app]; exact Nat.le_add_left _ _
    rw [List.concat_eq_append] at *
    have hsz : SizeOf.sizeOf a < SizeOf.sizeOf (x' ++ [a]) := List.sizeOf_lt_of_mem (by simp)
    cases y with
    | nil => rw [app_nil]; exact Nat.le_add_right _ _
    | cons b ys =>
      rw [app_snoc]
      by_cases hm : mate K a b = true
      · rw [if_pos hm]
        obtain ⟨h1, h2, h3, h4, h5⟩ := mate_parts K hm
        have e1 : (both K a b).h = a.h := rfl
        have e2 : (both K a b).br = List.zipWith (app K) a.br b.br := rfl
        have h6 : num1 K cst pst (both K a b) ≤ num1 K cst pst a + num1 K cst pst b := by
          rw [num1_eq K cst pst (both K a b), num1_eq K cst pst a, num1_eq K cst pst b, e1, e2, h1, h2, if_pos rfl, if_pos rfl, if_pos rfl, List.length_zipWith, h4, Nat.min_self]
          have := sum_zip (f := num K cst pst) (g := app K) a.br b.br fun u hu v => ih u v (by have := Sx.lt_br hu; omega)
          omega
        have e0 : sumL (num1 K cst pst) ([] : List (Sx H)) = 0 := rfl
        unfold num
        simp only [sumL_append, sumL_cons, e0]
        omega
      · rw [if_neg hm]
        have e0 : sumL (num1 K cst pst) ([] : List (Sx H)) = 0 := rfl
        unfold num
        simp only [sumL_append, sumL_cons, e0]
        omega
theorem num_one (cst : Nat → Nat) (pst : H → Nat) (a : Sx H) : num K cst pst [a] = num1 K cst pst a := by
  unfold num sumL
  simp
theorem num_norm1 (cst : Nat → Nat) (pst : H → Nat) (s : Sx H) : num K cst pst (norm1 K s) ≤ num1 K cst pst s := by
  induction s using Sx.ind with
  | h s ih =>
    have hn : ∀ b ∈ s.br, num K cst pst (norm K b) ≤ num K cst pst b := fun b hb => by
      have key : ∀ l : List (Sx H), (∀ t ∈ l, num K cst pst (norm1 K t) ≤ num1 K cst pst t) → num K cst pst (norm K l) ≤ num K cst pst l := by
        intro l
        induction l with
        | nil => intro _; exact Nat.le_refl _
        | cons a l ih2 =>
          intro h
          rw [norm_cons]
          have h1 := num_app K cst pst _ (norm1 K a) (norm K l) (Nat.le_refl _)
          have h2 := h a List.mem_cons_self
          have h3 := ih2 fun t ht => h t (List.mem_cons_of_mem _ ht)
          have h4 : num K cst pst (a :: l) = num1 K cst pst a + num K cst pst l := by unfold num; rw [sumL_cons]
          omega
      exact key b fun t ht => ih b hb t ht
    rw [norm1_eq]
    by_cases hc : K.c s.h = true
    · rw [if_pos hc]
      split
      · exact Nat.zero_le _
      · rw [num1_eq K cst pst s, if_pos hc, num_one, num1_eq K cst pst (.mk s.h _)]
        rw [show (Sx.mk s.h (s.br.map (norm K))).h = s.h from rfl, show (Sx.mk s.h (s.br.map (norm K))).br = s.br.map (norm K) from rfl, if_pos hc, List.length_map]
        have h1 : sumL (num K cst pst) (s.br.map (norm K)) = sumL (fun b => num K cst pst (norm K b)) s.br := by unfold sumL; rw [List.map_map]; rfl
        have h2 := sumL_le (f := fun b => num K cst pst (norm K b)) (g := num K cst pst) hn
        rw [h1]
        omega
    · rw [if_neg hc, num_one]
      exact Nat.le_refl _
theorem num_norm (cst : Nat → Nat) (pst : H → Nat) (l : List (Sx H)) : num K cst pst (norm K l) ≤ num K cst pst l := by
  induction l with
  | nil => exact Nat.le_refl _
  | cons a l ih =>
    rw [norm_cons]
    have h1 := num_app K cst pst _ (norm1 K a) (norm K l) (Nat.le_refl _)
    have h2 := num_norm1 K cst pst a
    have h4 : num K cst pst (a :: l) = num1 K cst pst a + num K cst pst l := by unfold num; rw [sumL_cons]
    omega
/-- is there an empty case, at any depth -/
def hol1 (s : Sx H) : Bool := K.c s.h && (s.br.all List.isEmpty || s.br.attach.any fun b => b.1.attach.any fun t => hol1 t.1)
termination_by SizeOf.sizeOf s
decreasing_by exact Sx.lt_mem b.2 t.2
def hol (l : List (Sx H)) : Bool := l.any (hol1 K)
end fu
end Go.Proofs.Ytjodffbekipnlaa
/- Statements as they lie in memory. -/
namespace Go.Proofs.Ytjodffbekipnlaa
set_option linter.unusedVariables false
set_option linter.unusedSimpArgs false
open Go.RowKit Go.Sort
namespace fu
/-- a row, and where it lies -/
structure Rw (α : Type) where
  A : Option Addr
  c : Nat
  l : List α
abbrev Rw.v {α : Type} (r : Rw α) : Value := .slice r.A r.l.length r.c
inductive Zt where
  | mk (k : Int) (nm : ByteArray) (t : Int) (r : Xt) (ou : Rw ByteArray) (ar : Rw Xt) (br : Rw (Rw Zt))
def Zt.k : Zt → Int | .mk k _ _ _ _ _ _ => k
def Zt.nm : Zt → ByteArray | .mk _ nm _ _ _ _ _ => nm
def Zt.t : Zt → Int | .mk _ _ t _ _ _ _ => t
def Zt.r : Zt → Xt | .mk _ _ _ r _ _ _ => r
def Zt.ou : Zt → Rw ByteArray | .mk _ _ _ _ ou _ _ => ou
def Zt.ar : Zt → Rw Xt | .mk _ _ _ _ _ ar _ => ar
def Zt.br : Zt → Rw (Rw Zt) | .mk _ _ _ _ _ _ br => br
theorem Zt.lt_of_mem {s t : Zt} {a : Rw Zt} (ha : a ∈ s.br.l) (ht : t ∈ a.l) : SizeOf.sizeOf t < SizeOf.sizeOf s := by
  cases s with
  | mk k nm t r ou ar br =>
    have h1 := List.sizeOf_lt_of_mem (show a ∈ br.l from ha)
    have h2 := List.sizeOf_lt_of_mem ht
    cases a with
    | mk A c l =>
      cases br with
      | mk A' c' l' =>
        simp at h1 h2 ⊢
        omega
theorem Zt.ind {P : Zt → Prop} (h : ∀ s : Zt, (∀ a ∈ s.br.l, ∀ t ∈ a.l, P t) → P s) (s : Zt) : P s := by
  generalize hN : SizeOf.sizeOf s = N
  induction N using Nat.strongRecOn generalizing s with
  | ind N ih =>
    subst hN
    exact h s fun a ha t ht => ih _ (Zt.lt_of_mem ha ht) t rfl
/-- what the head of a statement says -/
structure Hd where
  k : Int
  nm : List UInt8
  t : Int
  r : Xc
  ou : List (List UInt8)
  ar : List Xc
def Zt.hd (s : Zt) : Hd := ⟨s.k, s.nm.toList, s.t, s.r.ct, s.ou.l.map ByteArray.toList, s.ar.l.map Xt.ct⟩
/-- what a statement says -/
def Zt.ct (s : Zt) : Sx Hd := .mk s.hd (s.br.l.attach.map fun b => b.1.l.attach.map fun t => Zt.ct t.1)
termination_by SizeOf.sizeOf s
decreasing_by exact Zt.lt_of_mem b.2 t.2
def cts (l : List Zt) : List (Sx Hd) := l.map Zt.ct
theorem Zt.ct_eq (s : Zt) : s.ct = .mk s.hd (s.br.l.map fun b => cts b.l) := by
  rw [Zt.ct]
  congr 1
  have h1 : ∀ b : List Zt, (b.attach.map fun t => Zt.ct t.1) = cts b := fun b => by
    unfold cts
    rw [List.map_attach_eq_pmap]
    simp
  simp only [h1]
  rw [List.map_attach_eq_pmap]
  simp
theorem Zt.ct_h (s : Zt) : s.ct.h = s.hd := by rw [Zt.ct_eq]; rfl
theorem Zt.ct_br (s : Zt) : s.ct.br = s.br.l.map fun b => cts b.l := by rw [Zt.ct_eq]; rfl
/-- the heads of cases -/
def HK : Hk Hd where
  c h := decide (h.k = 3)
  key a b := decide (a.nm = b.nm) && decide (a.t = b.t)
  asg s d := (decide (s.k = 1) && decide (s.nm = d.nm)) || (decide (s.k = 4) && decide (d.nm ∈ s.ou))
  krefl a := by simp
  ksymm a b h := by simp at h ⊢; exact ⟨h.1.symm, h.2.symm⟩
  ktrans a b d h g := by simp at h g ⊢; exact ⟨h.1.trans g.1, h.2.trans g.2⟩
  kasg s a b h := by simp at h; simp [h.1]
abbrev zV (s : Zt) : Value := .agg #[.int .i64 s.k, .string s.nm, .int .i64 s.t, .int .i64 s.r.k, .int .i64 s.r.op, .int .i64 s.r.t, .int .i64 s.r.v, .string s.r.nm, .slice s.r.A s.r.ar.length s.r.c, .slice s.ou.A s.ou.l.length s.ou.c, .slice s.ar.A s.ar.l.length s.ar.c, .slice s.br.A s.br.l.length s.br.c]
/-- it lies in twelve cells -/
def ZC (w : World) (a : Addr) (s : Zt) : Prop := w.cell? a = some (.int .i64 s.k) ∧ w.cell? ⟨a.block, a.off + 1, none⟩ = some (.string s.nm) ∧ w.cell? ⟨a.block, a.off + 2, none⟩ = some (.int .i64 s.t) ∧ w.cell? ⟨a.block, a.off + 3, none⟩ = some (.int .i64 s.r.k) ∧ w.cell? ⟨a.block, a.off + 4, none⟩ = some (.int .i64 s.r.op) ∧ w.cell? ⟨a.block, a.off + 5, none⟩ = some (.int .i64 s.r.t) ∧ w.cell? ⟨a.block, a.off + 6, none⟩ = some (.int .i64 s.r.v) ∧ w.cell? ⟨a.block, a.off + 7, none⟩ = some (.string s.r.nm) ∧ w.cell? ⟨a.block, a.off + 8, none⟩ = some (.slice s.r.A s.r.ar.length s.r.c) ∧ w.cell? ⟨a.block, a.off + 9, none⟩ = some (.slice s.ou.A s.ou.l.length s.ou.c) ∧ w.cell? ⟨a.block, a.off + 10, none⟩ = some (.slice s.ar.A s.ar.l.length s.ar.c) ∧ w.cell? ⟨a.block, a.off + 11, none⟩ = some (.slice s.br.A s.br.l.length s.br.c)
def AC (w : World) (a : Addr) (r : Rw Zt) : Prop := w.cell? a = some (.slice r.A r.l.length r.c)
def BC (w : World) (a : Addr) (b : ByteArray) : Prop := w.cell? a = some (.string b)
/-- a predicate of cells speaks of one block -/
def OneB {α : Type} (C : World → Addr → α → Prop) : Prop := ∀ (w W : World) (a : Addr) (y : α), C w a y → (∀ p : Addr, p.block = a.block → W.cell? p = w.cell? p) → C W a y
theorem oneB_B : OneB BC := fun _ _ _ _ h k => (k _ rfl).trans h
theorem oneB_X : OneB XC := fun _ _ _ _ h k => h.keep k
theorem oneB_A : OneB AC := fun _ _ _ _ h k => (k _ rfl).trans h
theorem oneB_Z : OneB ZC := fun _ _ _ _ h k => ⟨(k _ rfl).trans h.1, (k ⟨_, _, none⟩ rfl).trans h.2.1, (k ⟨_, _, none⟩ rfl).trans h.2.2.1, (k ⟨_, _, none⟩ rfl).trans h.2.2.2.1, (k ⟨_, _, none⟩ rfl).trans h.2.2.2.2.1, (k ⟨_, _, none⟩ rfl).trans h.2.2.2.2.2.1, (k ⟨_, _, none⟩ rfl).trans h.2.2.2.2.2.2.1, (k ⟨_, _, none⟩ rfl).trans h.2.2.2.2.2.2.2.1, (k ⟨_, _, none⟩ rfl).trans h.2.2.2.2.2.2.2.2.1, (k ⟨_, _, none⟩ rfl).trans h.2.2.2.2.2.2.2.2.2.1, (k ⟨_, _, none⟩ rfl).trans h.2.2.2.2.2.2.2.2.2.2.1, (k ⟨_, _, none⟩ rfl).trans h.2.2.2.2.2.2.2.2.2.2.2⟩
/-- a row lies in memory below block B, its elements in sz cells each -/
def RdR {α : Type} (w : World) (B sz : Nat) (C : World → Addr → α → Prop) (r : Rw α) : Prop :=
  (r.l ≠ [] → ∃ ad, r.A = some ad ∧ ad.block < B) ∧ (∀ (ad : Addr) (i : Nat) (y : α), r.A = some ad → r.l[i]? = some y → C w (ad.add (i * sz)) y) ∧ r.l.length ≤ maxLen ∧ r.l.length ≤ r.c
theorem RdR.blw {α : Type} {w W : World} {B B' sz : Nat} {C : World → Addr → α → Prop} {r : Rw α} (h : RdR w B sz C r) (hC : OneB C) (hb : Below B w W) (hB : B ≤ B') : RdR W B' sz C r := by
  refine ⟨fun hn => ?_, fun ad i y ha hy => ?_, h.2.2⟩
  · obtain ⟨ad, e, h⟩ := h.1 hn
    exact ⟨ad, e, by omega⟩
  · obtain ⟨ad', e, h'⟩ := h.1 (by intro e; rw [e] at hy; simp at hy)
    obtain rfl : ad = ad' := Option.some.inj (ha.symm.trans e)
    exact hC _ _ _ _ (h.2.1 ad i y ha hy) fun p hp => hb.cell (by rw [hp, add_block]; exact h')
theorem RdR.at_ {α : Type} {w : World} {B sz : Nat} {C : World → Addr → α → Prop} {r : Rw α} (h : RdR w B sz C r) {i : Nat} (hi : i < r.l.length) : ∃ ad y, r.A = some ad ∧ ad.block < B ∧ r.l[i]? = some y ∧ y ∈ r.l ∧ C w (ad.add (i * sz)) y := by
  obtain ⟨ad, e, hb⟩ := h.1 (by intro e; rw [e] at hi; simp at hi)
  have hy : r.l[i]? = some r.l[i] := List.getElem?_eq_getElem hi
  exact ⟨ad, _, e, hb, hy, List.mem_of_getElem? hy, h.2.1 ad i _ e hy⟩
theorem RdR.len {α : Type} {w : World} {B sz : Nat} {C : World → Addr → α → Prop} {r : Rw α} (h : RdR w B sz C r) : r.l.length ≤ maxLen := h.2.2.1
theorem RdR.nil {α : Type} (w : World) (B sz : Nat) (C : World → Addr → α → Prop) (c : Nat) : RdR w B sz C ⟨none, c, []⟩ := ⟨fun h => absurd rfl h, fun ad i y h => by simp at h, Nat.zero_le _, Nat.zero_le _⟩
def RsB (w : World) (B : Nat) (r : Rw ByteArray) : Prop := RdR w B 1 BC r
/-- an expression; its rows are as long as what a machine holds -/
def RsX (w : World) (B : Nat) (x : Xt) : Prop := RdX w B x ∧ ∀ y ∈ x.list, y.ar.length * 72 ≤ 140737488351232
theorem RsX.blw {w W : World} {B B' : Nat} {x : Xt} (h : RsX w B x) (hb : Below B w W) (hB : B ≤ B') : RsX W B' x := ⟨h.1.blw hb hB, h.2⟩
def RsXs (w : World) (B : Nat) (r : Rw Xt) : Prop := RdR w B 6 XC r ∧ ∀ x ∈ r.l, RsX w B x
theorem RsXs.blw {w W : World} {B B' : Nat} {r : Rw Xt} (h : RsXs w B r) (hb : Below B w W) (hB : B ≤ B') : RsXs W B' r := ⟨h.1.blw oneB_X hb hB, fun d hd => (h.2 d hd).blw hb hB⟩
inductive RsZ (w : World) (B : Nat) : Zt → Prop
  | mk (s : Zt) (h1 : RsX w B s.r) (h2 : RsB w B s.ou) (h3 : RsXs w B s.ar) (h4 : RdR w B 1 AC s.br) (h5 : ∀ a ∈ s.br.l, RdR w B 12 ZC a) (h6 : ∀ a ∈ s.br.l, ∀ t ∈ a.l, RsZ w B t) : RsZ w B s
theorem RsZ.blw {w W : World} {B B' : Nat} {s : Zt} (h : RsZ w B s) (hb : Below B w W) (hB : B ≤ B') : RsZ W B' s := by
  induction h with
  | mk s h1 h2 h3 h4 h5 h6 ih => exact .mk s (h1.blw hb hB) (RdR.blw h2 oneB_B hb hB) (h3.blw hb hB) (h4.blw oneB_A hb hB) (fun a ha => (h5 a ha).blw oneB_Z hb hB) ih
theorem RsZ.of {w : World} {B : Nat} {s : Zt} (h : RsZ w B s) : RsX w B s.r ∧ RsB w B s.ou ∧ RsXs w B s.ar ∧ RdR w B 1 AC s.br ∧ (∀ a ∈ s.br.l, RdR w B 12 ZC a) ∧ ∀ a ∈ s.br.l, ∀ t ∈ a.l, RsZ w B t := by
  cases h with
  | mk s h1 h2 h3 h4 h5 h6 => exact ⟨h1, h2, h3, h4, h5, h6⟩
/-- a list of statements -/
def RsL (w : World) (B : Nat) (a : Rw Zt) : Prop := RdR w B 12 ZC a ∧ ∀ t ∈ a.l, RsZ w B t
theorem RsL.blw {w W : World} {B B' : Nat} {a : Rw Zt} (h : RsL w B a) (hb : Below B w W) (hB : B ≤ B') : RsL W B' a := ⟨h.1.blw oneB_Z hb hB, fun t ht => (h.2 t ht).blw hb hB⟩
theorem RsL.to {w W : World} {a : Rw Zt} (h : RsL w w.heap.size a) (hb : Below w.heap.size w W) : RsL W W.heap.size a := h.blw hb hb.size
theorem RsZ.br {w : World} {B : Nat} {s : Zt} (h : RsZ w B s) {a : Rw Zt} (ha : a ∈ s.br.l) : RsL w B a := ⟨h.of.2.2.2.2.1 a ha, h.of.2.2.2.2.2 a ha⟩
/-- a list of lists of statements -/
def RsLs (w : World) (B : Nat) (r : Rw (Rw Zt)) : Prop := RdR w B 1 AC r ∧ ∀ a ∈ r.l, RsL w B a
theorem RsLs.blw {w W : World} {B B' : Nat} {r : Rw (Rw Zt)} (h : RsLs w B r) (hb : Below B w W) (hB : B ≤ B') : RsLs W B' r := ⟨h.1.blw oneB_A hb hB, fun t ht => (h.2 t ht).blw hb hB⟩
theorem RsZ.brs {w : World} {B : Nat} {s : Zt} (h : RsZ w B s) : RsLs w B s.br := ⟨h.of.2.2.2.1, fun _ ha => h.br ha⟩
theorem RsB.rdN {w : World} {B : Nat} {r : Rw ByteArray} (h : RsB w B r) : RdN w B r.A r.l := fun hn => by
  obtain ⟨ad, e, hb⟩ := h.1 hn
  exact ⟨ad, e, hb, fun i y hy => by
    have := h.2.1 ad i y e hy
    rw [Nat.mul_one] at this
    exact this⟩
end fu
end Go.Proofs.Ytjodffbekipnlaa
/- Cases of both. -/
namespace Go.Proofs.Ytjodffbekipnlaa
set_option linter.unusedVariables false
set_option linter.unusedSimpArgs false
open Go.RowKit Go.Sort
namespace fu
/-- how many cases -/
def cas (l : List (Sx Hd)) : Nat := num HK (fun _ => 1) (fun _ => 0) l
def cas1 (s : Sx Hd) : Nat := num1 HK (fun _ => 1) (fun _ => 0) s
theorem cts_take {l : List Zt} {k : Nat} {z : Zt} (h : l[k]? = some z) : cts (l.take (k + 1)) = cts (l.take k) ++ [z.ct] := by
  unfold cts
  rw [take_succ_of h, List.map_append]
  rfl
theorem cas_take {l : List Zt} {k : Nat} {z : Zt} (h : l[k]? = some z) : cas (cts (l.take (k + 1))) = cas (cts (l.take k)) + cas1 z.ct := by
  rw [cts_take h]
  unfold cas num
  rw [sumL_append, sumL_cons]
  rfl
theorem cas1_no {z : Zt} (h : ¬ z.k = 3) : cas1 z.ct = 0 := by
  unfold cas1
  rw [num1_eq, Zt.ct_h]
  have : HK.c z.hd = false := by
    show decide (z.k = 3) = false
    simpa using h
  rw [this]
  rfl
def casB (l : List (Rw Zt)) : Nat := sumL (fun b => cas (cts b.l)) l
theorem casB_take {l : List (Rw Zt)} {k : Nat} {z : Rw Zt} (h : l[k]? = some z) : casB (l.take (k + 1)) = casB (l.take k) + cas (cts z.l) := by
  unfold casB
  rw [take_succ_of h, sumL_append, sumL_cons]
  rfl
theorem cas1_yes {z : Zt} (h : z.k = 3) : cas1 z.ct = 1 + casB z.br.l := by
  unfold cas1
  rw [num1_eq, Zt.ct_h, Zt.ct_br]
  have : HK.c z.hd = true := by
    show decide (z.k = 3) = true
    simpa using h
  rw [this, if_pos rfl]
  unfold casB sumL
  rw [List.map_map]
  rfl
theorem sumL_take_le {α : Type} (f : α → Nat) (l : List α) (k : Nat) : sumL f (l.take k) ≤ sumL f l := by
  conv => rhs; rw [← List.take_append_drop k l, sumL_append]
  omega
theorem sumL_mem {α : Type} (f : α → Nat) {l : List α} {a : α} (h : a ∈ l) : f a ≤ sumL f l := by
  obtain ⟨p, q, rfl⟩ := List.append_of_mem h
  rw [sumL_append, sumL_cons]
  omega
theorem cas_take_le (l : List Zt) (k : Nat) : cas (cts (l.take k)) ≤ cas (cts l) := by
  unfold cts
  rw [List.map_take]
  exact sumL_take_le _ _ _
theorem cas_mem {l : List Zt} {z : Zt} (h : z ∈ l) : cas1 z.ct ≤ cas (cts l) := sumL_mem _ (List.mem_map.2 ⟨z, h, rfl⟩)
set_option maxRecDepth 100000 in
set_option maxHeartbeats 4000000 in
theorem rcases_all : ∀ (n : Nat) (a : Rw Zt) (w : World), SizeOf.sizeOf a.l ≤ n → RsL w w.heap.size a → cas (cts a.l) ≤ 1048576 → Calls Try.prog 13 #[.slice a.A a.l.length a.c] w (Bel (.int .i64 ((cas (cts a.l) : Nat) : Int)) w) := by
  intro n
  induction n with
  | zero => intro a w h; cases ha : a.l <;> rw [ha] at h <;> simp at h
  | succ n ih =>
    intro a w hn hR hc
    have IH : Hid (∀ z ∈ a.l, z.k = 3 → ∀ b ∈ z.br.l, ∀ W, Below w.heap.size w W → Calls Try.prog 13 #[.slice b.A b.l.length b.c] W (Bel (.int .i64 ((cas (cts b.l) : Nat) : Int)) W)) := Lib.hid fun z hz hk b hb W hbl => ih b W (by
        have h1 := List.sizeOf_lt_of_mem hz
        have h2 : SizeOf.sizeOf b.l < SizeOf.sizeOf z := by
          have h3 := List.sizeOf_lt_of_mem hb
          cases z with
          | mk k nm t r ou ar br =>
            cases b with
            | mk A c l =>
              cases br with
              | mk A' c' l' =>
                simp [Zt.br] at h3 ⊢
                omega
        omega) (((hR.2 z hz).br hb).blw hbl hbl.size) (by
        have h1 := cas_mem hz
        rw [cas1_yes hk] at h1
        have h2 : cas (cts b.l) ≤ casB z.br.l := sumL_mem (fun b => cas (cts b.l)) hb
        omega)
    have HR := Lib.hid hR
    have hlen : a.l.length ≤ 9223372036854775807 := by
      have h9 := hR.1.len
      unfold maxLen at h9
      omega
    clear ih hR hn
    obtain ⟨A, c, l⟩ := a
    simp only at IH HR hc hlen ⊢
    go_enter Try.func13, Try.ntmps13
    go_wp2
    go_loopw [3, 4] (fun nv i wr => ∃ k : Nat, k ≤ l.length ∧ i = .int .i64 (k : Int) ∧ nv = .int .i64 ((cas (cts (l.take k)) : Nat) : Int) ∧ Below w.heap.size w wr) (fun _ i _ => l.length - (intOf i).toNat)
    case atStart => exact ⟨0, by omega, rfl, rfl, Below.refl _ _⟩
    case round =>
      obtain ⟨k, hk, rfl, rfl, hbl⟩ := hrel
      by_cases hlt : k < l.length
      · obtain ⟨ad, z, hA, had, hz, hm, c0, _⟩ := (HR.out.1.blw oneB_Z hbl (Nat.le_refl _)).at_ hlt
        simp only at hA
        subst hA
        simp only at hz hm
        have hct := cas_take hz
        have hle := cas_take_le l (k + 1)
        have hle0 := cas_take_le l k
        have d1 : (k : Int) < (l.length : Int) := by omega
        have HZ : Hid (∀ W, Below w.heap.size w W → W.cell? ⟨(ad.add (k * 12)).block, (ad.add (k * 12)).off + 11, none⟩ = some (.slice z.br.A z.br.l.length z.br.c)) := Lib.hid fun W hb => ((HR.out.1.blw oneB_Z hb (Nat.le_refl _)).2.1 ad k z rfl hz).2.2.2.2.2.2.2.2.2.2.2
        by_cases hk3 : z.k = 3
        · have hcy := cas1_yes hk3
          have IHz := Lib.hid (IH.out z hm hk3)
          have HB := Lib.hid (fun W (hb : Below w.heap.size w W) => ((HR.out.2 z hm).brs).blw hb hb.size)
          rw [hk3] at c0
          rw [hcy] at hct
          have hMl : z.br.l.length ≤ 9223372036854775807 := by
            have h9 := (HB.out w (Below.refl _ _)).1.len
            unfold maxLen at h9
            omega
          clear hz hm hcy IH hk3
          obtain ⟨x, hx⟩ : ∃ x, cas (cts (l.take k)) = x := ⟨_, rfl⟩
          rw [hx] at hct hle0 ⊢
          clear hx
          have HCT := Lib.hid hct
          have hbb : x + (1 + casB z.br.l) ≤ 1048576 := by omega
          clear hct hle hle0
          generalize l.length = L at *
          go_wp2
          go_loopw [3, 5] (fun nv j W => ∃ m : Nat, m ≤ z.br.l.length ∧ j = .int .i64 (m : Int) ∧ nv = .int .i64 ((x + (1 + casB (z.br.l.take m)) : Nat) : Int) ∧ Below w.heap.size w W) (fun _ j _ => z.br.l.length - (intOf j).toNat)
          case atStart => exact ⟨0, by omega, rfl, by congr 1, hbl⟩
          case round =>
            obtain ⟨m, hm, rfl, rfl, hbW⟩ := hrel
            have c11 := HZ.out wr hbW
            have e9 : m + 0 = m := rfl
            by_cases hlt2 : m < z.br.l.length
            · obtain ⟨ad2, b, hA2, had2, hb, hbm, c2⟩ := (HB.out wr hbW).1.at_ hlt2
              have c2 : wr.cell? (ad2.add (m * 1)) = some (.slice b.A b.l.length b.c) := c2
              rw [Nat.mul_one] at c2
              rw [hA2] at c11
              have HCB := Lib.hid (casB_take hb)
              have hble : casB (z.br.l.take (m + 1)) ≤ casB z.br.l := sumL_take_le _ _ _
              rw [HCB.out] at hble
              have KB := Lib.hid (IHz.out b hbm wr hbW)
              have d2 : (m : Int) < (z.br.l.length : Int) := by omega
              clear hb hbm hA2
              generalize casB (z.br.l.take m) = u at *
              generalize cas (cts b.l) = y at *
              generalize z.br.l.length = M at *
              go_wp2_with (go_at_call 13; (with_reducible refine KB.out.mono ?_); clear KB; rintro e w5 ⟨rfl, hb5⟩)
              exact ⟨⟨m + 1, by omega, by congr 1, by rw [HCB.out]; congr 1; omega, (by repeat (first | (with_reducible exact Below.refl _ _) | (with_reducible assumption) | (with_reducible exact bel_box _) | (with_reducible refine bel_step ?_ (by with_reducible assumption)) | (with_reducible refine Below.drew ?_) | (with_reducible refine below_drewN ?_ _) | (with_reducible refine bel_alloc ?_ _)))⟩, by simp [intOf]; omega⟩
            · have hme : z.br.l.take m = z.br.l := List.take_of_length_le (by omega)
              rw [hme]
              clear hme
              generalize casB z.br.l = u at *
              generalize z.br.l.length = M at *
              go_wp2
              exact ⟨⟨k + 1, by omega, by congr 1, by rw [HCT.out], (by repeat (first | (with_reducible exact Below.refl _ _) | (with_reducible assumption) | (with_reducible exact bel_box _) | (with_reducible refine bel_step ?_ (by with_reducible assumption)) | (with_reducible refine Below.drew ?_) | (with_reducible refine below_drewN ?_ _) | (with_reducible refine bel_alloc ?_ _)))⟩, by simp [intOf]; omega⟩
        · have hcn := cas1_no hk3
          rw [hcn, Nat.add_zero] at hct
          clear hz hm IH
          have HCT := Lib.hid hct
          clear hct hle hle0 hcn
          generalize cas (cts (l.take k)) = x at *
          generalize z.k = kk at *
          go_wp2
          go_roundw
          case rel => exact ⟨k + 1, by omega, by go_num, by rw [HCT.out]; rfl, (by repeat (first | (with_reducible exact Below.refl _ _) | (with_reducible assumption) | (with_reducible exact bel_box _) | (with_reducible refine bel_step ?_ (by with_reducible assumption)) | (with_reducible refine Below.drew ?_) | (with_reducible refine below_drewN ?_ _) | (with_reducible refine bel_alloc ?_ _)))⟩
          case measure => simp [intOf]; omega
      · have hkn : k = l.length := by omega
        rw [hkn, List.take_length]
        generalize cas (cts l) = x at *
        generalize l.length = L at *
        clear hkn
        go_wp2
        go_ret
        exact ⟨rfl, hbl⟩
end fu
end Go.Proofs.Ytjodffbekipnlaa
/- Cases of the program. -/
namespace Go.Proofs.Ytjodffbekipnlaa
set_option linter.unusedVariables false
set_option linter.unusedSimpArgs false
open Go.RowKit Go.Sort
namespace fu
theorem Zt.lt_row {z : Zt} {b : Rw Zt} (h : b ∈ z.br.l) : SizeOf.sizeOf b.l < SizeOf.sizeOf z := by
  have h3 := List.sizeOf_lt_of_mem h
  cases z with
  | mk k nm t r ou ar br =>
    cases b with
    | mk A c l =>
      cases br with
      | mk A' c' l' =>
        simp [Zt.br] at h3 ⊢
        omega
theorem len_le {α : Type} {w : World} {B sz : Nat} {C : World → Addr → α → Prop} {r : Rw α} (h : RdR w B sz C r) : r.l.length ≤ 9223372036854775807 := by
  have h9 := h.len
  unfold maxLen at h9
  omega
set_option maxRecDepth 100000 in
set_option maxHeartbeats 4000000 in
theorem cases_all : ∀ (n : Nat) (a : Rw Zt) (w : World), SizeOf.sizeOf a.l ≤ n → RsL w w.heap.size a → cas (cts a.l) ≤ 1048576 → Calls Try.prog 12 #[.slice a.A a.l.length a.c] w (Bel (.int .i64 ((cas (cts a.l) : Nat) : Int)) w) := by
  intro n
  induction n with
  | zero => intro a w h; cases ha : a.l <;> rw [ha] at h <;> simp at h
  | succ n ih =>
    intro a w hn hR hc
    have IH : Hid (∀ z ∈ a.l, z.k = 3 → ∀ b ∈ z.br.l, ∀ W, Below w.heap.size w W → Calls Try.prog 12 #[.slice b.A b.l.length b.c] W (Bel (.int .i64 ((cas (cts b.l) : Nat) : Int)) W)) := Lib.hid fun z hz hk b hb W hbl => ih b W (by
        have h1 := List.sizeOf_lt_of_mem hz
        have h2 := Zt.lt_row hb
        omega) (((hR.2 z hz).br hb).blw hbl hbl.size) (by
        have h1 := cas_mem hz
        rw [cas1_yes hk] at h1
        have h2 : cas (cts b.l) ≤ casB z.br.l := sumL_mem (fun b => cas (cts b.l)) hb
        omega)
    have HR := Lib.hid hR
    have hlen := len_le hR.1
    clear ih hR hn
    obtain ⟨A, c, l⟩ := a
    simp only at IH HR hc hlen ⊢
    go_enter Try.func12, Try.ntmps12
    go_wp2
    go_loopw [3, 10] (fun nv i wr => ∃ k : Nat, k ≤ l.length ∧ i = .int .i64 (k : Int) ∧ nv = .int .i64 ((cas (cts (l.take k)) : Nat) : Int) ∧ Below w.heap.size w wr) (fun _ i _ => l.length - (intOf i).toNat)
    case atStart => exact ⟨0, by omega, rfl, rfl, Below.refl _ _⟩
    case round =>
      obtain ⟨k, hk, rfl, rfl, hbl⟩ := hrel
      by_cases hlt : k < l.length
      · obtain ⟨ad, z, hA, had, hz, hm, c0, c1, c2, c3, c4, c5, c6, c7, c8, c9, c10, c11⟩ := (HR.out.1.blw oneB_Z hbl (Nat.le_refl _)).at_ hlt
        simp only at hA
        subst hA
        simp only at hz hm
        have hct := cas_take hz
        have hle := cas_take_le l (k + 1)
        have hle0 := cas_take_le l k
        have d1 : (k : Int) < (l.length : Int) := by omega
        by_cases hk3 : z.k = 3
        · have hcy := cas1_yes hk3
          have IHz := Lib.hid (IH.out z hm hk3)
          have HB := Lib.hid (fun W (hb : Below w.heap.size w W) => ((HR.out.2 z hm).brs).blw hb hb.size)
          have hMl := len_le (HB.out w (Below.refl _ _)).1
          rw [hk3] at c0
          rw [hcy] at hct
          clear hz hm hcy IH hk3
          obtain ⟨x, hx⟩ : ∃ x, cas (cts (l.take k)) = x := ⟨_, rfl⟩
          rw [hx] at hct hle0 ⊢
          clear hx
          have HCT := Lib.hid hct
          have hbb : x + (1 + casB z.br.l) ≤ 1048576 := by omega
          clear hct hle hle0
          generalize l.length = L at *
          have hb0 : Below w.heap.size w (wr.alloc (.cells #[.int .i64 3, .string z.nm, .int .i64 z.t, .int .i64 z.r.k, .int .i64 z.r.op, .int .i64 z.r.t, .int .i64 z.r.v, .string z.r.nm, .slice z.r.A z.r.ar.length z.r.c, .slice z.ou.A z.ou.l.length z.ou.c, .slice z.ar.A z.ar.l.length z.ar.c, .slice z.br.A z.br.l.length z.br.c] 38)) := (by repeat (first | (with_reducible exact Below.refl _ _) | (with_reducible assumption) | (with_reducible exact bel_box _) | (with_reducible refine bel_step ?_ (by with_reducible assumption)) | (with_reducible refine Below.drew ?_) | (with_reducible refine below_drewN ?_ _) | (with_reducible refine bel_alloc ?_ _)))
          go_wp2
          go_loopw [3, 22] (fun nv j W => ∃ m : Nat, m ≤ z.br.l.length ∧ j = .int .i64 (m : Int) ∧ nv = .int .i64 ((x + (1 + casB (z.br.l.take m)) : Nat) : Int) ∧ Below w.heap.size w W) (fun _ j _ => z.br.l.length - (intOf j).toNat)
          case atStart => exact ⟨0, by omega, rfl, by congr 1, hb0⟩
          case round =>
            obtain ⟨m, hm, rfl, rfl, hbW⟩ := hrel
            clear hb0 c0 c1 c2 c3 c4 c5 c6 c7 c8 c9 c10 c11
            by_cases hlt2 : m < z.br.l.length
            · obtain ⟨ad2, b, hA2, had2, hb, hbm, c2⟩ := (HB.out wr hbW).1.at_ hlt2
              have c2 : wr.cell? (ad2.add (m * 1)) = some (.slice b.A b.l.length b.c) := c2
              rw [Nat.mul_one] at c2
              rw [hA2]
              have HCB := Lib.hid (casB_take hb)
              have hble : casB (z.br.l.take (m + 1)) ≤ casB z.br.l := sumL_take_le _ _ _
              rw [HCB.out] at hble
              have KB := Lib.hid (IHz.out b hbm wr hbW)
              have d2 : (m : Int) < (z.br.l.length : Int) := by omega
              clear hb hbm hA2
              generalize casB (z.br.l.take m) = u at *
              generalize cas (cts b.l) = y at *
              generalize z.br.l.length = M at *
              go_wp2_with (go_at_call 12; (with_reducible refine KB.out.mono ?_); clear KB; rintro e w5 ⟨rfl, hb5⟩)
              exact ⟨⟨m + 1, by omega, by congr 1, by rw [HCB.out]; congr 1; omega, (by repeat (first | (with_reducible exact Below.refl _ _) | (with_reducible assumption) | (with_reducible exact bel_box _) | (with_reducible refine bel_step ?_ (by with_reducible assumption)) | (with_reducible refine Below.drew ?_) | (with_reducible refine below_drewN ?_ _) | (with_reducible refine bel_alloc ?_ _)))⟩, by simp [intOf]; omega⟩
            · have hme : z.br.l.take m = z.br.l := List.take_of_length_le (by omega)
              rw [hme]
              clear hme
              generalize casB z.br.l = u at *
              generalize z.br.l.length = M at *
              go_wp2
              exact ⟨⟨k + 1, by omega, by congr 1, by rw [HCT.out], (by repeat (first | (with_reducible exact Below.refl _ _) | (with_reducible assumption) | (with_reducible exact bel_box _) | (with_reducible refine bel_step ?_ (by with_reducible assumption)) | (with_reducible refine Below.drew ?_) | (with_reducible refine below_drewN ?_ _) | (with_reducible refine bel_alloc ?_ _)))⟩, by simp [intOf]; omega⟩
        · have hcn := cas1_no hk3
          rw [hcn, Nat.add_zero] at hct
          clear hz hm IH
          have HCT := Lib.hid hct
          clear hct hle hle0 hcn
          generalize cas (cts (l.take k)) = x at *
          generalize z.k = kk at *
          generalize l.length = L at *
          go_wp2
          exact ⟨⟨k + 1, by omega, by congr 1, by rw [HCT.out]; rfl, (by repeat (first | (with_reducible exact Below.refl _ _) | (with_reducible assumption) | (with_reducible exact bel_box _) | (with_reducible refine bel_step ?_ (by with_reducible assumption)) | (with_reducible refine Below.drew ?_) | (with_reducible refine below_drewN ?_ _) | (with_reducible refine bel_alloc ?_ _)))⟩, by simp [intOf]; omega⟩
      · have hkn : k = l.length := by omega
        rw [hkn, List.take_length]
        generalize cas (cts l) = x at *
        generalize l.length = L at *
        clear hkn
        go_wp2
        go_ret
        exact ⟨rfl, hbl⟩
end fu
end Go.Proofs.Ytjodffbekipnlaa
/- Same of the reference. -/
namespace Go.Proofs.Ytjodffbekipnlaa
set_option linter.unusedVariables false
set_option linter.unusedSimpArgs false
open Go.RowKit Go.Sort
namespace fu
open Classical in
noncomputable def sameZ (l m : List Zt) : Bool := decide (cts l = cts m)
open Classical in
theorem sameZ_iff {l m : List Zt} : sameZ l m = true ↔ cts l = cts m := by unfold sameZ; exact decide_eq_true_iff
theorem sameZ_no {l m : List Zt} (h : ¬ cts l = cts m) : sameZ l m = false := by
  cases q : sameZ l m
  · rfl
  · exact absurd (sameZ_iff.1 q) h
theorem sameZ_yes {l m : List Zt} (h : cts l = cts m) : sameZ l m = true := sameZ_iff.2 h
theorem ct_iff {y z : Zt} : y.ct = z.ct ↔ y.k = z.k ∧ y.nm.toList = z.nm.toList ∧ y.t = z.t ∧ y.r.ct = z.r.ct ∧ y.ou.l.map ByteArray.toList = z.ou.l.map ByteArray.toList ∧ y.ar.l.map Xt.ct = z.ar.l.map Xt.ct ∧ (y.br.l.map fun b => cts b.l) = z.br.l.map fun b => cts b.l := by
  rw [Zt.ct_eq, Zt.ct_eq]
  constructor
  · intro h
    injection h with h1 h2
    unfold Zt.hd at h1
    injection h1 with a1 a2 a3 a4 a5 a6
    exact ⟨a1, a2, a3, a4, a5, a6, h2⟩
  · rintro ⟨a1, a2, a3, a4, a5, a6, h2⟩
    unfold Zt.hd
    rw [a1, a2, a3, a4, a5, a6, h2]
theorem cts_more {l m : List Zt} {k : Nat} {y z : Zt} (hy : l[k]? = some y) (hz : m[k]? = some z) (h : cts (l.take k) = cts (m.take k)) (e : y.ct = z.ct) : cts (l.take (k + 1)) = cts (m.take (k + 1)) := by rw [cts_take hy, cts_take hz, h, e]
theorem cts_ne {l m : List Zt} {k : Nat} {y z : Zt} (hy : l[k]? = some y) (hz : m[k]? = some z) (e : ¬ y.ct = z.ct) : ¬ cts l = cts m := by
  intro h
  have h1 := congrArg (fun l => l[k]?) h
  simp only [cts, List.getElem?_map, hy, hz, Option.map_some] at h1
  exact e (Option.some.inj h1)
theorem cts_len {l m : List Zt} (h : cts l = cts m) : l.length = m.length := by
  have := congrArg List.length h
  simpa [cts] using this
theorem map_more {α β : Type} {f : α → β} {l m : List α} {k : Nat} {y z : α} (hy : l[k]? = some y) (hz : m[k]? = some z) (h : (l.take k).map f = (m.take k).map f) (e : f y = f z) : (l.take (k + 1)).map f = (m.take (k + 1)).map f := by
  rw [take_succ_of hy, take_succ_of hz, List.map_append, List.map_append, h, List.map_singleton, List.map_singleton, e]
theorem map_at {α β : Type} {f : α → β} {l m : List α} {k : Nat} {y z : α} (hy : l[k]? = some y) (hz : m[k]? = some z) (h : l.map f = m.map f) : f y = f z := by
  have h1 := congrArg (fun l => l[k]?) h
  simp only [List.getElem?_map, hy, hz, Option.map_some] at h1
  exact Option.some.inj h1
inductive SmZ (m : Nat) : Zt → Prop
  | mk (s : Zt) (h1 : s.ou.l.length ≤ m) (h2 : s.ar.l.length ≤ m) (h3 : s.br.l.length ≤ m) (h4 : ∀ a ∈ s.br.l, a.l.length ≤ m) (h5 : ∀ a ∈ s.br.l, ∀ t ∈ a.l, SmZ m t) : SmZ m s
theorem SmZ.of {m : Nat} {s : Zt} (h : SmZ m s) : s.ou.l.length ≤ m ∧ s.ar.l.length ≤ m ∧ s.br.l.length ≤ m ∧ (∀ a ∈ s.br.l, a.l.length ≤ m) ∧ ∀ a ∈ s.br.l, ∀ t ∈ a.l, SmZ m t := by
  cases h with
  | mk s h1 h2 h3 h4 h5 => exact ⟨h1, h2, h3, h4, h5⟩
/-- no list is longer than m -/
def SmL (m : Nat) (l : List Zt) : Prop := l.length ≤ m ∧ ∀ t ∈ l, SmZ m t
theorem SmZ.br {m : Nat} {s : Zt} (h : SmZ m s) {a : Rw Zt} (ha : a ∈ s.br.l) : SmL m a.l := ⟨h.of.2.2.2.1 a ha, h.of.2.2.2.2 a ha⟩
/-- a box that holds a statement -/
def BoxZ (W : World) (p : Nat) (z : Zt) : Prop := W.cell? ⟨p, 0, none⟩ = some (.int .i64 z.k) ∧ W.cell? ⟨p, 1, none⟩ = some (.string z.nm) ∧ W.cell? ⟨p, 2, none⟩ = some (.int .i64 z.t) ∧ W.cell? ⟨p, 3, none⟩ = some (.int .i64 z.r.k) ∧ W.cell? ⟨p, 4, none⟩ = some (.int .i64 z.r.op) ∧ W.cell? ⟨p, 5, none⟩ = some (.int .i64 z.r.t) ∧ W.cell? ⟨p, 6, none⟩ = some (.int .i64 z.r.v) ∧ W.cell? ⟨p, 7, none⟩ = some (.string z.r.nm) ∧ W.cell? ⟨p, 8, none⟩ = some (.slice z.r.A z.r.ar.length z.r.c) ∧ W.cell? ⟨p, 9, none⟩ = some (.slice z.ou.A z.ou.l.length z.ou.c) ∧ W.cell? ⟨p, 10, none⟩ = some (.slice z.ar.A z.ar.l.length z.ar.c) ∧ W.cell? ⟨p, 11, none⟩ = some (.slice z.br.A z.br.l.length z.br.c)
theorem BoxZ.lt {W : World} {p : Nat} {z : Zt} (h : BoxZ W p z) : p < W.heap.size := World.block_lt_of_cell? W _ h.1
theorem BoxZ.keep {W W' : World} {p : Nat} {z : Zt} (h : BoxZ W p z) (hb : Below W.heap.size W W') : BoxZ W' p z := by
  have k : ∀ i, W'.cell? ⟨p, i, none⟩ = W.cell? ⟨p, i, none⟩ := fun i => hb.cell (p := ⟨p, i, none⟩) h.lt
  unfold BoxZ at h ⊢
  rw [k 0, k 1, k 2, k 3, k 4, k 5, k 6, k 7, k 8, k 9, k 10, k 11]
  exact h
abbrev zB (z : Zt) : Obj := .cells #[.int .i64 z.k, .string z.nm, .int .i64 z.t, .int .i64 z.r.k, .int .i64 z.r.op, .int .i64 z.r.t, .int .i64 z.r.v, .string z.r.nm, .slice z.r.A z.r.ar.length z.r.c, .slice z.ou.A z.ou.l.length z.ou.c, .slice z.ar.A z.ar.l.length z.ar.c, .slice z.br.A z.br.l.length z.br.c] 38
theorem boxZ_one (w : World) (z : Zt) : BoxZ (w.alloc (zB z)) w.heap.size z := by
  unfold BoxZ zB
  refine ⟨?_, ?_, ?_, ?_, ?_, ?_, ?_, ?_, ?_, ?_, ?_, ?_⟩ <;> simp [go_sem]
theorem boxZ_two (w : World) (o : Obj) (z : Zt) : BoxZ ((w.alloc o).alloc (zB z)) (w.heap.size + 1) z := by
  have h := boxZ_one (w.alloc o) z
  rwa [World.size_alloc] at h
set_option maxRecDepth 100000 in
set_option maxHeartbeats 8000000 in
theorem rsameZ_all : ∀ (n : Nat) (a b : Rw Zt) (w : World), SizeOf.sizeOf a.l ≤ n → RsL w w.heap.size a → RsL w w.heap.size b → SmL 200000 a.l → SmL 200000 b.l → Calls Try.prog 9 #[.slice a.A a.l.length a.c, .slice b.A b.l.length b.c] w (Bel (.bool (sameZ a.l b.l)) w) := by
  intro n
  induction n with
  | zero => intro a b w h; cases ha : a.l <;> rw [ha] at h <;> simp at h
  | succ n ih =>
    intro a b w hn hA hB hSa hSb
    have IH : Hid (∀ y ∈ a.l, ∀ z ∈ b.l, ∀ p ∈ y.br.l, ∀ q ∈ z.br.l, ∀ W, Below w.heap.size w W → Calls Try.prog 9 #[.slice p.A p.l.length p.c, .slice q.A q.l.length q.c] W (Bel (.bool (sameZ p.l q.l)) W)) := Lib.hid fun y hy z hz p hp q hq W hbl => ih p q W (by
        have h1 := List.sizeOf_lt_of_mem hy
        have h2 := Zt.lt_row hp
        omega) (((hA.2 y hy).br hp).blw hbl hbl.size) (((hB.2 z hz).br hq).blw hbl hbl.size) ((hSa.2 y hy).br hp) ((hSb.2 z hz).br hq)
    have HA := Lib.hid hA
    have HB := Lib.hid hB
    have HSA := Lib.hid hSa.2
    have HSB := Lib.hid hSb.2
    have hl1 := hSa.1
    have hl2 := hSb.1
    clear ih hA hB hn hSa hSb
    obtain ⟨A, c, l⟩ := a
    obtain ⟨B, d, m⟩ := b
    simp only at IH HA HB HSA HSB hl1 hl2 ⊢
    obtain ⟨V, hV⟩ : ∃ V, sameZ l m = V := ⟨_, rfl⟩
    have HN : Hid (¬ cts l = cts m → V = false) := Lib.hid fun h => hV ▸ sameZ_no h
    have HY : Hid (cts l = cts m → V = true) := Lib.hid fun h => hV ▸ sameZ_yes h
    rw [hV]
    clear hV
    cases q0 : (((l.length : Nat) : Int) != ((m.length : Nat) : Int))
    case true =>
      have hv : V = false := HN.out fun e => by
        have := cts_len e
        simp [this] at q0
      clear HN HY IH HA HB
      go_enter Try.func9, Try.ntmps9
      go_wp2
      go_ret
      exact ⟨by rw [hv]; rfl, Below.refl _ _⟩
    case false =>
    have hll : l.length = m.length := by
      have h : ((l.length : Nat) : Int) = ((m.length : Nat) : Int) := by simpa using q0
      omega
    have HLL := Lib.hid hll
    clear hll
    go_enter Try.func9, Try.ntmps9
    go_wp2
    go_loopw [5] (fun i wr => ∃ k : Nat, k ≤ l.length ∧ i = .int .i64 (k : Int) ∧ Below w.heap.size w wr ∧ Hid (cts (l.take k) = cts (m.take k))) (fun i _ => l.length - (intOf i).toNat)
    case atStart => exact ⟨0, by omega, rfl, Below.refl _ _, Lib.hid rfl⟩
    case round =>
      obtain ⟨k, hk, rfl, hbl, hno⟩ := hrel
      by_cases hlt : k < l.length
      · obtain ⟨ad, y, hA, had, hy, hym, _⟩ := HA.out.1.at_ hlt
        obtain ⟨ad', z, hB, had', hz, hzm, _⟩ := HB.out.1.at_ (i := k) (show k < m.length by have := HLL.out; omega)
        simp only at hA hB hy hz hym hzm
        subst hA
        subst hB
        have HM : Hid (y.ct = z.ct → cts (l.take (k + 1)) = cts (m.take (k + 1))) := Lib.hid fun e => cts_more hy hz hno.out e
        have HD : Hid (¬ y.ct = z.ct → V = false) := Lib.hid fun e => HN.out (cts_ne hy hz e)
        have TS : Hid (∀ W, Below w.heap.size w W → (W.cell? ((ad.add (k * 12))) = some (.int .i64 y.k) ∧ W.cell? ⟨((ad.add (k * 12))).block, ((ad.add (k * 12))).off + 1, none⟩ = some (.string y.nm) ∧ W.cell? ⟨((ad.add (k * 12))).block, ((ad.add (k * 12))).off + 2, none⟩ = some (.int .i64 y.t) ∧ W.cell? ⟨((ad.add (k * 12))).block, ((ad.add (k * 12))).off + 3, none⟩ = some (.int .i64 y.r.k) ∧ W.cell? ⟨((ad.add (k * 12))).block, ((ad.add (k * 12))).off + 4, none⟩ = some (.int .i64 y.r.op) ∧ W.cell? ⟨((ad.add (k * 12))).block, ((ad.add (k * 12))).off + 5, none⟩ = some (.int .i64 y.r.t) ∧ W.cell? ⟨((ad.add (k * 12))).block, ((ad.add (k * 12))).off + 6, none⟩ = some (.int .i64 y.r.v) ∧ W.cell? ⟨((ad.add (k * 12))).block, ((ad.add (k * 12))).off + 7, none⟩ = some (.string y.r.nm) ∧ W.cell? ⟨((ad.add (k * 12))).block, ((ad.add (k * 12))).off + 8, none⟩ = some (.slice y.r.A y.r.ar.length y.r.c) ∧ W.cell? ⟨((ad.add (k * 12))).block, ((ad.add (k * 12))).off + 9, none⟩ = some (.slice y.ou.A y.ou.l.length y.ou.c) ∧ W.cell? ⟨((ad.add (k * 12))).block, ((ad.add (k * 12))).off + 10, none⟩ = some (.slice y.ar.A y.ar.l.length y.ar.c) ∧ W.cell? ⟨((ad.add (k * 12))).block, ((ad.add (k * 12))).off + 11, none⟩ = some (.slice y.br.A y.br.l.length y.br.c) ∧ W.cell? ((ad'.add (k * 12))) = some (.int .i64 z.k) ∧ W.cell? ⟨((ad'.add (k * 12))).block, ((ad'.add (k * 12))).off + 1, none⟩ = some (.string z.nm) ∧ W.cell? ⟨((ad'.add (k * 12))).block, ((ad'.add (k * 12))).off + 2, none⟩ = some (.int .i64 z.t) ∧ W.cell? ⟨((ad'.add (k * 12))).block, ((ad'.add (k * 12))).off + 3, none⟩ = some (.int .i64 z.r.k) ∧ W.cell? ⟨((ad'.add (k * 12))).block, ((ad'.add (k * 12))).off + 4, none⟩ = some (.int .i64 z.r.op) ∧ W.cell? ⟨((ad'.add (k * 12))).block, ((ad'.add (k * 12))).off + 5, none⟩ = some (.int .i64 z.r.t) ∧ W.cell? ⟨((ad'.add (k * 12))).block, ((ad'.add (k * 12))).off + 6, none⟩ = some (.int .i64 z.r.v) ∧ W.cell? ⟨((ad'.add (k * 12))).block, ((ad'.add (k * 12))).off + 7, none⟩ = some (.string z.r.nm) ∧ W.cell? ⟨((ad'.add (k * 12))).block, ((ad'.add (k * 12))).off + 8, none⟩ = some (.slice z.r.A z.r.ar.length z.r.c) ∧ W.cell? ⟨((ad'.add (k * 12))).block, ((ad'.add (k * 12))).off + 9, none⟩ = some (.slice z.ou.A z.ou.l.length z.ou.c) ∧ W.cell? ⟨((ad'.add (k * 12))).block, ((ad'.add (k * 12))).off + 10, none⟩ = some (.slice z.ar.A z.ar.l.length z.ar.c) ∧ W.cell? ⟨((ad'.add (k * 12))).block, ((ad'.add (k * 12))).off + 11, none⟩ = some (.slice z.br.A z.br.l.length z.br.c))) := Lib.hid fun W h => by
          obtain ⟨c0, c1, c2, c3, c4, c5, c6, c7, c8, c9, c10, c11⟩ := (HA.out.1.blw oneB_Z h (Nat.le_refl _)).2.1 ad k y rfl hy
          obtain ⟨d0, d1, d2, d3, d4, d5, d6, d7, d8, d9, d10, d11⟩ := (HB.out.1.blw oneB_Z h (Nat.le_refl _)).2.1 ad' k z rfl hz
          exact ⟨c0, c1, c2, c3, c4, c5, c6, c7, c8, c9, c10, c11, d0, d1, d2, d3, d4, d5, d6, d7, d8, d9, d10, d11⟩
        have RY : Hid (RsZ w w.heap.size y) := Lib.hid (HA.out.2 y hym)
        have RZ : Hid (RsZ w w.heap.size z) := Lib.hid (HB.out.2 z hzm)
        have SY := Lib.hid (HSA.out y hym)
        have SZ := Lib.hid (HSB.out z hzm)
        have KR := Lib.hid (IH.out y hym z hzm)
        have d1 : (k : Int) < (l.length : Int) := by omega
        have d2 : (k : Int) < (m.length : Int) := by have := HLL.out; omega
        clear hy hz hym hzm IH HSA HSB hno HN HY HA HB
        go_upto_region 6 with fail
        go_cut [6, 7] from 15 to 119 (fun s t W => ∃ p q, s = .pointer (some ⟨p, 0, none⟩) ∧ t = .pointer (some ⟨q, 0, none⟩) ∧ BoxZ W p y ∧ BoxZ W q z ∧ Below w.heap.size w W)
        case first =>
          obtain ⟨c0, c1, c2, c3, c4, c5, c6, c7, c8, c9, c10, c11, d0, d1, d2, d3, d4, d5, d6, d7, d8, d9, d10, d11⟩ := TS.out wr hbl
          go_region_held3 (fun w' => (w'.cell? ((ad.add (k * 12))) = some (.int .i64 y.k) ∧ w'.cell? ⟨((ad.add (k * 12))).block, ((ad.add (k * 12))).off + 1, none⟩ = some (.string y.nm) ∧ w'.cell? ⟨((ad.add (k * 12))).block, ((ad.add (k * 12))).off + 2, none⟩ = some (.int .i64 y.t) ∧ w'.cell? ⟨((ad.add (k * 12))).block, ((ad.add (k * 12))).off + 3, none⟩ = some (.int .i64 y.r.k) ∧ w'.cell? ⟨((ad.add (k * 12))).block, ((ad.add (k * 12))).off + 4, none⟩ = some (.int .i64 y.r.op) ∧ w'.cell? ⟨((ad.add (k * 12))).block, ((ad.add (k * 12))).off + 5, none⟩ = some (.int .i64 y.r.t) ∧ w'.cell? ⟨((ad.add (k * 12))).block, ((ad.add (k * 12))).off + 6, none⟩ = some (.int .i64 y.r.v) ∧ w'.cell? ⟨((ad.add (k * 12))).block, ((ad.add (k * 12))).off + 7, none⟩ = some (.string y.r.nm) ∧ w'.cell? ⟨((ad.add (k * 12))).block, ((ad.add (k * 12))).off + 8, none⟩ = some (.slice y.r.A y.r.ar.length y.r.c) ∧ w'.cell? ⟨((ad.add (k * 12))).block, ((ad.add (k * 12))).off + 9, none⟩ = some (.slice y.ou.A y.ou.l.length y.ou.c) ∧ w'.cell? ⟨((ad.add (k * 12))).block, ((ad.add (k * 12))).off + 10, none⟩ = some (.slice y.ar.A y.ar.l.length y.ar.c) ∧ w'.cell? ⟨((ad.add (k * 12))).block, ((ad.add (k * 12))).off + 11, none⟩ = some (.slice y.br.A y.br.l.length y.br.c) ∧ w'.cell? ((ad'.add (k * 12))) = some (.int .i64 z.k) ∧ w'.cell? ⟨((ad'.add (k * 12))).block, ((ad'.add (k * 12))).off + 1, none⟩ = some (.string z.nm) ∧ w'.cell? ⟨((ad'.add (k * 12))).block, ((ad'.add (k * 12))).off + 2, none⟩ = some (.int .i64 z.t) ∧ w'.cell? ⟨((ad'.add (k * 12))).block, ((ad'.add (k * 12))).off + 3, none⟩ = some (.int .i64 z.r.k) ∧ w'.cell? ⟨((ad'.add (k * 12))).block, ((ad'.add (k * 12))).off + 4, none⟩ = some (.int .i64 z.r.op) ∧ w'.cell? ⟨((ad'.add (k * 12))).block, ((ad'.add (k * 12))).off + 5, none⟩ = some (.int .i64 z.r.t) ∧ w'.cell? ⟨((ad'.add (k * 12))).block, ((ad'.add (k * 12))).off + 6, none⟩ = some (.int .i64 z.r.v) ∧ w'.cell? ⟨((ad'.add (k * 12))).block, ((ad'.add (k * 12))).off + 7, none⟩ = some (.string z.r.nm) ∧ w'.cell? ⟨((ad'.add (k * 12))).block, ((ad'.add (k * 12))).off + 8, none⟩ = some (.slice z.r.A z.r.ar.length z.r.c) ∧ w'.cell? ⟨((ad'.add (k * 12))).block, ((ad'.add (k * 12))).off + 9, none⟩ = some (.slice z.ou.A z.ou.l.length z.ou.c) ∧ w'.cell? ⟨((ad'.add (k * 12))).block, ((ad'.add (k * 12))).off + 10, none⟩ = some (.slice z.ar.A z.ar.l.length z.ar.c) ∧ w'.cell? ⟨((ad'.add (k * 12))).block, ((ad'.add (k * 12))).off + 11, none⟩ = some (.slice z.br.A z.br.l.length z.br.c)))
            ((refine TS.out _ ?_; (focus ((repeat (first | (with_reducible exact Below.refl _ _) | (with_reducible assumption) | (with_reducible exact bel_box _) | (with_reducible refine bel_step ?_ (by with_reducible assumption)) | (with_reducible refine Below.drew ?_) | (with_reducible refine below_drewN ?_ _) | (with_reducible refine bel_alloc ?_ _))); done))))
            (fail)
          all_goals
            go_wp2_with fail
            go_meet
            clear TS KR SY SZ RY RZ HM HD c0 c1 c2 c3 c4 c5 c6 c7 c8 c9 c10 c11 d0 d1 d2 d3 d4 d5 d6 d7 d8 d9 d10 d11
            exact ⟨_, _, rfl, rfl, by first | exact (boxZ_one wr y).keep (by repeat (first | (with_reducible exact Below.refl _ _) | (with_reducible assumption) | (with_reducible exact bel_box _) | (with_reducible refine bel_step ?_ (by with_reducible assumption)) | (with_reducible refine Below.drew ?_) | (with_reducible refine below_drewN ?_ _) | (with_reducible refine bel_alloc ?_ _))) | exact (boxZ_two wr (zB z) y).keep (by repeat (first | (with_reducible exact Below.refl _ _) | (with_reducible assumption) | (with_reducible exact bel_box _) | (with_reducible refine bel_step ?_ (by with_reducible assumption)) | (with_reducible refine Below.drew ?_) | (with_reducible refine below_drewN ?_ _) | (with_reducible refine bel_alloc ?_ _))), by first | exact (boxZ_one wr z).keep (by repeat (first | (with_reducible exact Below.refl _ _) | (with_reducible assumption) | (with_reducible exact bel_box _) | (with_reducible refine bel_step ?_ (by with_reducible assumption)) | (with_reducible refine Below.drew ?_) | (with_reducible refine below_drewN ?_ _) | (with_reducible refine bel_alloc ?_ _))) | exact (boxZ_two wr (zB y) z).keep (by repeat (first | (with_reducible exact Below.refl _ _) | (with_reducible assumption) | (with_reducible exact bel_box _) | (with_reducible refine bel_step ?_ (by with_reducible assumption)) | (with_reducible refine Below.drew ?_) | (with_reducible refine below_drewN ?_ _) | (with_reducible refine bel_alloc ?_ _))), (by repeat (first | (with_reducible exact Below.refl _ _) | (with_reducible assumption) | (with_reducible exact bel_box _) | (with_reducible refine bel_step ?_ (by with_reducible assumption)) | (with_reducible refine Below.drew ?_) | (with_reducible refine below_drewN ?_ _) | (with_reducible refine bel_alloc ?_ _)))⟩
        case rest =>
          obtain ⟨p, q, rfl, rfl, hby, hbz, hbW⟩ := hcut
          have KX := Lib.hid (fun W (h : Below w.heap.size w W) => rsameX_all y.r z.r W (RY.out.of.1.1.blw h h.size) (RZ.out.of.1.1.blw h h.size))
          have KN := Lib.hid (fun W (h : Below w.heap.size w W) => rsame_any y.ou.A z.ou.A y.ou.c z.ou.c y.ou.l z.ou.l W (RsB.rdN (RY.out.of.2.1.blw oneB_B h h.size)) (RsB.rdN (RZ.out.of.2.1.blw oneB_B h h.size)) SY.out.of.1 SZ.out.of.1)
          obtain ⟨m0, m1, m2, m3, m4, m5, m6, m7, m8, m9, m10, m11⟩ := hby
          obtain ⟨n0, n1, n2, n3, n4, n5, n6, n7, n8, n9, n10, n11⟩ := hbz
          have hby : BoxZ wc p y := ⟨m0, m1, m2, m3, m4, m5, m6, m7, m8, m9, m10, m11⟩
          have hbz : BoxZ wc q z := ⟨n0, n1, n2, n3, n4, n5, n6, n7, n8, n9, n10, n11⟩
          have HBY : Hid (BoxZ wc p y ∧ BoxZ wc q z) := Lib.hid ⟨hby, hbz⟩
          clear hby hbz
          simp only [xV] at KX
          cases q1 : (y.k != z.k)
          case true =>
            have hv : V = false := HD.out (by rw [ct_iff]; intro h; simp [h.1] at q1)
            clear HM HD KR TS RY RZ SY SZ
            go_wp2
            go_ret
            exact ⟨by rw [hv]; rfl, by (repeat (first | (with_reducible exact Below.refl _ _) | (with_reducible assumption) | (with_reducible exact bel_box _) | (with_reducible refine bel_step ?_ (by with_reducible assumption)) | (with_reducible refine Below.drew ?_) | (with_reducible refine below_drewN ?_ _) | (with_reducible refine bel_alloc ?_ _)))⟩
          cases q2 : (y.nm.toList == z.nm.toList)
          case false =>
            have hv : V = false := HD.out (by rw [ct_iff]; intro h; simp [h.2.1] at q2)
            clear HM HD KR TS RY RZ SY SZ
            go_wp2
            go_ret
            exact ⟨by rw [hv]; rfl, by (repeat (first | (with_reducible exact Below.refl _ _) | (with_reducible assumption) | (with_reducible exact bel_box _) | (with_reducible refine bel_step ?_ (by with_reducible assumption)) | (with_reducible refine Below.drew ?_) | (with_reducible refine below_drewN ?_ _) | (with_reducible refine bel_alloc ?_ _)))⟩
          cases q3 : (y.t != z.t)
          case true =>
            have hv : V = false := HD.out (by rw [ct_iff]; intro h; simp [h.2.2.1] at q3)
            clear HM HD KR TS RY RZ SY SZ
            go_wp2
            go_ret
            exact ⟨by rw [hv]; rfl, by (repeat (first | (with_reducible exact Below.refl _ _) | (with_reducible assumption) | (with_reducible exact bel_box _) | (with_reducible refine bel_step ?_ (by with_reducible assumption)) | (with_reducible refine Below.drew ?_) | (with_reducible refine below_drewN ?_ _) | (with_reducible refine bel_alloc ?_ _)))⟩
          obtain ⟨v4, hv4⟩ : ∃ v, sameX y.r z.r = v := ⟨_, rfl⟩
          rw [hv4] at KX
          have HV4 := Lib.hid hv4
          clear hv4
          cases v4
          case false =>
            have hv : V = false := HD.out (by rw [ct_iff]; intro h; have := HV4.out; rw [sameX_yes h.2.2.2.1] at this; cases this)
            clear HM HD KR TS RY RZ SY SZ
            go_wp2_with (first | (go_at_call 19; (with_reducible refine (KX.out _ ?_).mono ?_); (focus ((repeat (first | (with_reducible exact Below.refl _ _) | (with_reducible assumption) | (with_reducible exact bel_box _) | (with_reducible refine bel_step ?_ (by with_reducible assumption)) | (with_reducible refine Below.drew ?_) | (with_reducible refine below_drewN ?_ _) | (with_reducible refine bel_alloc ?_ _))); done)); rintro e w4 ⟨rfl, hb4⟩; obtain ⟨m0, m1, m2, m3, m4, m5, m6, m7, m8, m9, m10, m11⟩ := HBY.out.1.keep (W' := w4) (by repeat (first | (with_reducible exact Below.refl _ _) | (with_reducible assumption) | (with_reducible exact bel_box _) | (with_reducible refine bel_step ?_ (by with_reducible assumption)) | (with_reducible refine Below.drew ?_) | (with_reducible refine below_drewN ?_ _) | (with_reducible refine bel_alloc ?_ _))); obtain ⟨n0, n1, n2, n3, n4, n5, n6, n7, n8, n9, n10, n11⟩ := HBY.out.2.keep (W' := w4) (by repeat (first | (with_reducible exact Below.refl _ _) | (with_reducible assumption) | (with_reducible exact bel_box _) | (with_reducible refine bel_step ?_ (by with_reducible assumption)) | (with_reducible refine Below.drew ?_) | (with_reducible refine below_drewN ?_ _) | (with_reducible refine bel_alloc ?_ _)))))
            go_ret
            exact ⟨by rw [hv]; rfl, by (repeat (first | (with_reducible exact Below.refl _ _) | (with_reducible assumption) | (with_reducible exact bel_box _) | (with_reducible refine bel_step ?_ (by with_reducible assumption)) | (with_reducible refine Below.drew ?_) | (with_reducible refine below_drewN ?_ _) | (with_reducible refine bel_alloc ?_ _)))⟩
          obtain ⟨v5, hv5⟩ : ∃ v, sameN y.ou.l z.ou.l = v := ⟨_, rfl⟩
          rw [hv5] at KN
          have HV5 := Lib.hid hv5
          clear hv5
          cases v5
          case false =>
            have hv : V = false := HD.out (by rw [ct_iff]; intro h; have := HV5.out; rw [sameN, beq_eq_false_iff_ne] at this; exact this h.2.2.2.2.1)
            clear HM HD KR TS RY RZ SY SZ
            go_wp2_with (first | (go_at_call 19; (with_reducible refine (KX.out _ ?_).mono ?_); (focus ((repeat (first | (with_reducible exact Below.refl _ _) | (with_reducible assumption) | (with_reducible exact bel_box _) | (with_reducible refine bel_step ?_ (by with_reducible assumption)) | (with_reducible refine Below.drew ?_) | (with_reducible refine below_drewN ?_ _) | (with_reducible refine bel_alloc ?_ _))); done)); rintro e w4 ⟨rfl, hb4⟩; obtain ⟨m0, m1, m2, m3, m4, m5, m6, m7, m8, m9, m10, m11⟩ := HBY.out.1.keep (W' := w4) (by repeat (first | (with_reducible exact Below.refl _ _) | (with_reducible assumption) | (with_reducible exact bel_box _) | (with_reducible refine bel_step ?_ (by with_reducible assumption)) | (with_reducible refine Below.drew ?_) | (with_reducible refine below_drewN ?_ _) | (with_reducible refine bel_alloc ?_ _))); obtain ⟨n0, n1, n2, n3, n4, n5, n6, n7, n8, n9, n10, n11⟩ := HBY.out.2.keep (W' := w4) (by repeat (first | (with_reducible exact Below.refl _ _) | (with_reducible assumption) | (with_reducible exact bel_box _) | (with_reducible refine bel_step ?_ (by with_reducible assumption)) | (with_reducible refine Below.drew ?_) | (with_reducible refine below_drewN ?_ _) | (with_reducible refine bel_alloc ?_ _)))) | (go_at_call 20; (with_reducible refine (KN.out _ ?_).mono ?_); (focus ((repeat (first | (with_reducible exact Below.refl _ _) | (with_reducible assumption) | (with_reducible exact bel_box _) | (with_reducible refine bel_step ?_ (by with_reducible assumption)) | (with_reducible refine Below.drew ?_) | (with_reducible refine below_drewN ?_ _) | (with_reducible refine bel_alloc ?_ _))); done)); rintro e w5 ⟨rfl, hb5⟩; obtain ⟨m0, m1, m2, m3, m4, m5, m6, m7, m8, m9, m10, m11⟩ := HBY.out.1.keep (W' := w5) (by repeat (first | (with_reducible exact Below.refl _ _) | (with_reducible assumption) | (with_reducible exact bel_box _) | (with_reducible refine bel_step ?_ (by with_reducible assumption)) | (with_reducible refine Below.drew ?_) | (with_reducible refine below_drewN ?_ _) | (with_reducible refine bel_alloc ?_ _))); obtain ⟨n0, n1, n2, n3, n4, n5, n6, n7, n8, n9, n10, n11⟩ := HBY.out.2.keep (W' := w5) (by repeat (first | (with_reducible exact Below.refl _ _) | (with_reducible assumption) | (with_reducible exact bel_box _) | (with_reducible refine bel_step ?_ (by with_reducible assumption)) | (with_reducible refine Below.drew ?_) | (with_reducible refine below_drewN ?_ _) | (with_reducible refine bel_alloc ?_ _)))))
            go_ret
            exact ⟨by rw [hv]; rfl, by (repeat (first | (with_reducible exact Below.refl _ _) | (with_reducible assumption) | (with_reducible exact bel_box _) | (with_reducible refine bel_step ?_ (by with_reducible assumption)) | (with_reducible refine Below.drew ?_) | (with_reducible refine below_drewN ?_ _) | (with_reducible refine bel_alloc ?_ _)))⟩
          cases q6 : (((y.ar.l.length : Nat) : Int) != ((z.ar.l.length : Nat) : Int))
          case true =>
            have hv : V = false := HD.out (by rw [ct_iff]; intro h; have := congrArg List.length h.2.2.2.2.2.1; simp only [List.length_map] at this; simp [this] at q6)
            clear HM HD KR TS RY RZ SY SZ
            go_wp2_with (first | (go_at_call 19; (with_reducible refine (KX.out _ ?_).mono ?_); (focus ((repeat (first | (with_reducible exact Below.refl _ _) | (with_reducible assumption) | (with_reducible exact bel_box _) | (with_reducible refine bel_step ?_ (by with_reducible assumption)) | (with_reducible refine Below.drew ?_) | (with_reducible refine below_drewN ?_ _) | (with_reducible refine bel_alloc ?_ _))); done)); rintro e w4 ⟨rfl, hb4⟩; obtain ⟨m0, m1, m2, m3, m4, m5, m6, m7, m8, m9, m10, m11⟩ := HBY.out.1.keep (W' := w4) (by repeat (first | (with_reducible exact Below.refl _ _) | (with_reducible assumption) | (with_reducible exact bel_box _) | (with_reducible refine bel_step ?_ (by with_reducible assumption)) | (with_reducible refine Below.drew ?_) | (with_reducible refine below_drewN ?_ _) | (with_reducible refine bel_alloc ?_ _))); obtain ⟨n0, n1, n2, n3, n4, n5, n6, n7, n8, n9, n10, n11⟩ := HBY.out.2.keep (W' := w4) (by repeat (first | (with_reducible exact Below.refl _ _) | (with_reducible assumption) | (with_reducible exact bel_box _) | (with_reducible refine bel_step ?_ (by with_reducible assumption)) | (with_reducible refine Below.drew ?_) | (with_reducible refine below_drewN ?_ _) | (with_reducible refine bel_alloc ?_ _)))) | (go_at_call 20; (with_reducible refine (KN.out _ ?_).mono ?_); (focus ((repeat (first | (with_reducible exact Below.refl _ _) | (with_reducible assumption) | (with_reducible exact bel_box _) | (with_reducible refine bel_step ?_ (by with_reducible assumption)) | (with_reducible refine Below.drew ?_) | (with_reducible refine below_drewN ?_ _) | (with_reducible refine bel_alloc ?_ _))); done)); rintro e w5 ⟨rfl, hb5⟩; obtain ⟨m0, m1, m2, m3, m4, m5, m6, m7, m8, m9, m10, m11⟩ := HBY.out.1.keep (W' := w5) (by repeat (first | (with_reducible exact Below.refl _ _) | (with_reducible assumption) | (with_reducible exact bel_box _) | (with_reducible refine bel_step ?_ (by with_reducible assumption)) | (with_reducible refine Below.drew ?_) | (with_reducible refine below_drewN ?_ _) | (with_reducible refine bel_alloc ?_ _))); obtain ⟨n0, n1, n2, n3, n4, n5, n6, n7, n8, n9, n10, n11⟩ := HBY.out.2.keep (W' := w5) (by repeat (first | (with_reducible exact Below.refl _ _) | (with_reducible assumption) | (with_reducible exact bel_box _) | (with_reducible refine bel_step ?_ (by with_reducible assumption)) | (with_reducible refine Below.drew ?_) | (with_reducible refine below_drewN ?_ _) | (with_reducible refine bel_alloc ?_ _)))))
            go_ret
            exact ⟨by rw [hv]; rfl, by (repeat (first | (with_reducible exact Below.refl _ _) | (with_reducible assumption) | (with_reducible exact bel_box _) | (with_reducible refine bel_step ?_ (by with_reducible assumption)) | (with_reducible refine Below.drew ?_) | (with_reducible refine below_drewN ?_ _) | (with_reducible refine bel_alloc ?_ _)))⟩
          cases q7 : (((y.br.l.length : Nat) : Int) != ((z.br.l.length : Nat) : Int))
          case true =>
            have hv : V = false := HD.out (by rw [ct_iff]; intro h; have := congrArg List.length h.2.2.2.2.2.2; simp only [List.length_map] at this; simp [this] at q7)
            clear HM HD KR TS RY RZ SY SZ
            go_wp2_with (first | (go_at_call 19; (with_reducible refine (KX.out _ ?_).mono ?_); (focus ((repeat (first | (with_reducible exact Below.refl _ _) | (with_reducible assumption) | (with_reducible exact bel_box _) | (with_reducible refine bel_step ?_ (by with_reducible assumption)) | (with_reducible refine Below.drew ?_) | (with_reducible refine below_drewN ?_ _) | (with_reducible refine bel_alloc ?_ _))); done)); rintro e w4 ⟨rfl, hb4⟩; obtain ⟨m0, m1, m2, m3, m4, m5, m6, m7, m8, m9, m10, m11⟩ := HBY.out.1.keep (W' := w4) (by repeat (first | (with_reducible exact Below.refl _ _) | (with_reducible assumption) | (with_reducible exact bel_box _) | (with_reducible refine bel_step ?_ (by with_reducible assumption)) | (with_reducible refine Below.drew ?_) | (with_reducible refine below_drewN ?_ _) | (with_reducible refine bel_alloc ?_ _))); obtain ⟨n0, n1, n2, n3, n4, n5, n6, n7, n8, n9, n10, n11⟩ := HBY.out.2.keep (W' := w4) (by repeat (first | (with_reducible exact Below.refl _ _) | (with_reducible assumption) | (with_reducible exact bel_box _) | (with_reducible refine bel_step ?_ (by with_reducible assumption)) | (with_reducible refine Below.drew ?_) | (with_reducible refine below_drewN ?_ _) | (with_reducible refine bel_alloc ?_ _)))) | (go_at_call 20; (with_reducible refine (KN.out _ ?_).mono ?_); (focus ((repeat (first | (with_reducible exact Below.refl _ _) | (with_reducible assumption) | (with_reducible exact bel_box _) | (with_reducible refine bel_step ?_ (by with_reducible assumption)) | (with_reducible refine Below.drew ?_) | (with_reducible refine below_drewN ?_ _) | (with_reducible refine bel_alloc ?_ _))); done)); rintro e w5 ⟨rfl, hb5⟩; obtain ⟨m0, m1, m2, m3, m4, m5, m6, m7, m8, m9, m10, m11⟩ := HBY.out.1.keep (W' := w5) (by repeat (first | (with_reducible exact Below.refl _ _) | (with_reducible assumption) | (with_reducible exact bel_box _) | (with_reducible refine bel_step ?_ (by with_reducible assumption)) | (with_reducible refine Below.drew ?_) | (with_reducible refine below_drewN ?_ _) | (with_reducible refine bel_alloc ?_ _))); obtain ⟨n0, n1, n2, n3, n4, n5, n6, n7, n8, n9, n10, n11⟩ := HBY.out.2.keep (W' := w5) (by repeat (first | (with_reducible exact Below.refl _ _) | (with_reducible assumption) | (with_reducible exact bel_box _) | (with_reducible refine bel_step ?_ (by with_reducible assumption)) | (with_reducible refine Below.drew ?_) | (with_reducible refine below_drewN ?_ _) | (with_reducible refine bel_alloc ?_ _)))))
            go_ret
            exact ⟨by rw [hv]; rfl, by (repeat (first | (with_reducible exact Below.refl _ _) | (with_reducible assumption) | (with_reducible exact bel_box _) | (with_reducible refine bel_step ?_ (by with_reducible assumption)) | (with_reducible refine Below.drew ?_) | (with_reducible refine below_drewN ?_ _) | (with_reducible refine bel_alloc ?_ _)))⟩
          have hla : y.ar.l.length = z.ar.l.length := by
            have h : ((y.ar.l.length : Nat) : Int) = ((z.ar.l.length : Nat) : Int) := by simpa using q6
            omega
          have hlb : y.br.l.length = z.br.l.length := by
            have h : ((y.br.l.length : Nat) : Int) = ((z.br.l.length : Nat) : Int) := by simpa using q7
            omega
          have HP : Hid (y.k = z.k ∧ y.nm.toList = z.nm.toList ∧ y.t = z.t ∧ y.r.ct = z.r.ct ∧ y.ou.l.map ByteArray.toList = z.ou.l.map ByteArray.toList) := Lib.hid ⟨by simpa using q1, by simpa using q2, by simpa using q3, sameX_iff.1 HV4.out, by have := HV5.out; rw [sameN] at this; exact eq_of_beq this⟩
          have HLA := Lib.hid hla
          have HLB := Lib.hid hlb
          have hya := SY.out.of.2.1
          have hyb := SY.out.of.2.2.1
          clear hla hlb HV4 HV5
          go_wp2_with (first | (go_at_call 19; (with_reducible refine (KX.out _ ?_).mono ?_); (focus ((repeat (first | (with_reducible exact Below.refl _ _) | (with_reducible assumption) | (with_reducible exact bel_box _) | (with_reducible refine bel_step ?_ (by with_reducible assumption)) | (with_reducible refine Below.drew ?_) | (with_reducible refine below_drewN ?_ _) | (with_reducible refine bel_alloc ?_ _))); done)); rintro e w4 ⟨rfl, hb4⟩; obtain ⟨m0, m1, m2, m3, m4, m5, m6, m7, m8, m9, m10, m11⟩ := HBY.out.1.keep (W' := w4) (by repeat (first | (with_reducible exact Below.refl _ _) | (with_reducible assumption) | (with_reducible exact bel_box _) | (with_reducible refine bel_step ?_ (by with_reducible assumption)) | (with_reducible refine Below.drew ?_) | (with_reducible refine below_drewN ?_ _) | (with_reducible refine bel_alloc ?_ _))); obtain ⟨n0, n1, n2, n3, n4, n5, n6, n7, n8, n9, n10, n11⟩ := HBY.out.2.keep (W' := w4) (by repeat (first | (with_reducible exact Below.refl _ _) | (with_reducible assumption) | (with_reducible exact bel_box _) | (with_reducible refine bel_step ?_ (by with_reducible assumption)) | (with_reducible refine Below.drew ?_) | (with_reducible refine below_drewN ?_ _) | (with_reducible refine bel_alloc ?_ _)))) | (go_at_call 20; (with_reducible refine (KN.out _ ?_).mono ?_); (focus ((repeat (first | (with_reducible exact Below.refl _ _) | (with_reducible assumption) | (with_reducible exact bel_box _) | (with_reducible refine bel_step ?_ (by with_reducible assumption)) | (with_reducible refine Below.drew ?_) | (with_reducible refine below_drewN ?_ _) | (with_reducible refine bel_alloc ?_ _))); done)); rintro e w5 ⟨rfl, hb5⟩; obtain ⟨m0, m1, m2, m3, m4, m5, m6, m7, m8, m9, m10, m11⟩ := HBY.out.1.keep (W' := w5) (by repeat (first | (with_reducible exact Below.refl _ _) | (with_reducible assumption) | (with_reducible exact bel_box _) | (with_reducible refine bel_step ?_ (by with_reducible assumption)) | (with_reducible refine Below.drew ?_) | (with_reducible refine below_drewN ?_ _) | (with_reducible refine bel_alloc ?_ _))); obtain ⟨n0, n1, n2, n3, n4, n5, n6, n7, n8, n9, n10, n11⟩ := HBY.out.2.keep (W' := w5) (by repeat (first | (with_reducible exact Below.refl _ _) | (with_reducible assumption) | (with_reducible exact bel_box _) | (with_reducible refine bel_step ?_ (by with_reducible assumption)) | (with_reducible refine Below.drew ?_) | (with_reducible refine below_drewN ?_ _) | (with_reducible refine bel_alloc ?_ _)))))
          clear m0 m1 m2 m3 m4 m5 m6 m7 m8 m9 m10 m11 n0 n1 n2 n3 n4 n5 n6 n7 n8 n9 n10 n11
          clear q1 q2 q3 q6 q7
          have hbW5 : Below wc.heap.size wc w5 := (by repeat (first | (with_reducible exact Below.refl _ _) | (with_reducible assumption) | (with_reducible exact bel_box _) | (with_reducible refine bel_step ?_ (by with_reducible assumption)) | (with_reducible refine Below.drew ?_) | (with_reducible refine below_drewN ?_ _) | (with_reducible refine bel_alloc ?_ _)))
          go_loopw [8] (fun j W => ∃ i : Nat, i ≤ y.ar.l.length ∧ j = .int .i64 (i : Int) ∧ Below wc.heap.size wc W ∧ Hid ((y.ar.l.take i).map Xt.ct = (z.ar.l.take i).map Xt.ct)) (fun j _ => y.ar.l.length - (intOf j).toNat)
          case atStart => exact ⟨0, by omega, rfl, hbW5, Lib.hid rfl⟩
          case round =>
            obtain ⟨i, hi, rfl, hb6, hn6⟩ := hrel
            clear hb4 hb5 hbW5
            have hb7 : Below w.heap.size w wr := hbW.trans (hb6.mono hbW.size)
            obtain ⟨m0, m1, m2, m3, m4, m5, m6, m7, m8, m9, m10, m11⟩ := HBY.out.1.keep hb6
            obtain ⟨n0, n1, n2, n3, n4, n5, n6, n7, n8, n9, n10, n11⟩ := HBY.out.2.keep hb6
            by_cases hlt6 : i < y.ar.l.length
            · obtain ⟨ae, x1, hA1, hae, hx1, hm1, ⟨c0, c1, c2, c3, c4, c5⟩⟩ := (RY.out.of.2.2.1.1.blw oneB_X hb7 (Nat.le_refl _)).at_ hlt6
              have hlt6' : i < z.ar.l.length := by have := HLA.out; omega
              obtain ⟨ae', x2, hA2, hae', hx2, hm2, ⟨e0, e1, e2, e3, e4, e5⟩⟩ := (RZ.out.of.2.2.1.1.blw oneB_X hb7 (Nat.le_refl _)).at_ hlt6'
              have T1 := fun h => ct_take hx1 hx2 hn6.out h
              have T2 := fun h => ct_differ hx1 hx2 h
              have KS := fun W (h : Below w.heap.size w W) => rsameX_all x1 x2 W ((RY.out.of.2.2.1.2 x1 hm1).1.blw h h.size) ((RZ.out.of.2.2.1.2 x2 hm2).1.blw h h.size)
              simp only [xV] at KS
              generalize sameX x1 x2 = r at T1 T2 KS
              have c1' := fun dd os => Calls.regrown_of (KS (grow (redrawn wr dd) os) (hb7.trans ((below_regrown wr dd os).mono hb7.size)))
              rw [hA1] at m10
              rw [hA2] at n10
              clear hA1 hA2 hx1 hx2 hm1 hm2 KS
              have f0 := cell_regrown m10
              have g0 := cell_regrown n10
              have f6 := cell_regrown c0
              have f7 := cell_regrown c1
              have f8 := cell_regrown c2
              have f9 := cell_regrown c3
              have f10 := cell_regrown c4
              have f11 := cell_regrown c5
              have g6 := cell_regrown e0
              have g7 := cell_regrown e1
              have g8 := cell_regrown e2
              have g9 := cell_regrown e3
              have g10 := cell_regrown e4
              have g11 := cell_regrown e5
              clear c0 c1 c2 c3 c4 c5 e0 e1 e2 e3 e4 e5
              cases r
              · have hv : V = false := HD.out (by rw [ct_iff]; intro h; exact T2 rfl h.2.2.2.2.2.1)
                have HVV := Lib.hid hv
                clear hv T1 T2 HM HD KR TS RY RZ SY SZ hn6 HP
                go_wp2
                refine wp_region_quiet_below (by kernel_rfl) (by kernel_rfl) ?_
                repeat (quiet_step (with_reducible exact c1' _ _))
                refine wpQuiet_nil ?_
                intro _ hw'
                obtain ⟨⟨dq, osq⟩, hw''⟩ := hw'
                subst hw''
                go_wp2
                go_ret
                exact ⟨by rw [HVV.out]; rfl, hb7.trans ((below_regrown wr dq osq).mono hb7.size)⟩
              · have H := Lib.hid (T1 rfl)
                have HW : Hid (∀ dq osq, Below wc.heap.size wc (grow (redrawn wr dq) osq)) := Lib.hid fun dq osq => hb6.trans ((below_regrown wr dq osq).mono hb6.size)
                clear T1 T2 HM HD KR TS RY RZ SY SZ hn6 HP
                go_wp2
                refine wp_region_quiet_below (by kernel_rfl) (by kernel_rfl) ?_
                repeat (quiet_step (with_reducible exact c1' _ _))
                refine wpQuiet_nil ?_
                intro _ hw'
                obtain ⟨⟨dq, osq⟩, hw''⟩ := hw'
                subst hw''
                go_wp2
                go_roundw
                case rel => exact ⟨i + 1, by omega, by go_num, HW.out dq osq, H⟩
                case measure => simp [intOf]; omega
            · obtain rfl : i = y.ar.l.length := by omega
              have h1 := hn6.out
              rw [List.take_length, HLA.out, List.take_length] at h1
              have HAR := Lib.hid h1
              clear h1 hn6
              go_wp2
              clear m0 m1 m2 m3 m4 m5 m6 m7 m8 m9 m10 m11 n0 n1 n2 n3 n4 n5 n6 n7 n8 n9 n10 n11
              go_loopw [9] (fun j W => ∃ i : Nat, i ≤ y.br.l.length ∧ j = .int .i64 (i : Int) ∧ Below wc.heap.size wc W ∧ Hid ((y.br.l.take i).map (fun b => cts b.l) = (z.br.l.take i).map fun b => cts b.l)) (fun j _ => y.br.l.length - (intOf j).toNat)
              case atStart => exact ⟨0, by omega, rfl, hb6, Lib.hid rfl⟩
              case round =>
                obtain ⟨i, hi, rfl, hb8, hn8⟩ := hrel
                have hb9 : Below w.heap.size w wr := hbW.trans (hb8.mono hbW.size)
                obtain ⟨m0, m1, m2, m3, m4, m5, m6, m7, m8, m9, m10, m11⟩ := HBY.out.1.keep hb8
                obtain ⟨n0, n1, n2, n3, n4, n5, n6, n7, n8, n9, n10, n11⟩ := HBY.out.2.keep hb8
                by_cases hlt8 : i < y.br.l.length
                · obtain ⟨ae, x1, hA1, hae, hx1, hm1, c0⟩ := (RY.out.of.2.2.2.1.blw oneB_A hb9 (Nat.le_refl _)).at_ hlt8
                  have hlt8' : i < z.br.l.length := by have := HLB.out; omega
                  obtain ⟨ae', x2, hA2, hae', hx2, hm2, e0⟩ := (RZ.out.of.2.2.2.1.blw oneB_A hb9 (Nat.le_refl _)).at_ hlt8'
                  have c0 : wr.cell? (ae.add (i * 1)) = some (.slice x1.A x1.l.length x1.c) := c0
                  have e0 : wr.cell? (ae'.add (i * 1)) = some (.slice x2.A x2.l.length x2.c) := e0
                  rw [Nat.mul_one] at c0 e0
                  have T1 : sameZ x1.l x2.l = true → (y.br.l.take (i + 1)).map (fun b => cts b.l) = (z.br.l.take (i + 1)).map fun b => cts b.l := fun h => map_more hx1 hx2 hn8.out (sameZ_iff.1 h)
                  have T2 : sameZ x1.l x2.l = false → ¬ (y.br.l.map fun b => cts b.l) = z.br.l.map fun b => cts b.l := fun h e => by
                    have := map_at hx1 hx2 e
                    rw [sameZ_yes this] at h
                    cases h
                  have KS := fun W (h : Below w.heap.size w W) => KR.out x1 hm1 x2 hm2 W h
                  generalize sameZ x1.l x2.l = r at T1 T2 KS
                  have c1' := fun dd os => Calls.regrown_of (KS (grow (redrawn wr dd) os) (hb9.trans ((below_regrown wr dd os).mono hb9.size)))
                  rw [hA1] at m11
                  rw [hA2] at n11
                  clear hA1 hA2 hx1 hx2 hm1 hm2 KS
                  have f0 := cell_regrown m11
                  have g0 := cell_regrown n11
                  have f6 := cell_regrown c0
                  have g6 := cell_regrown e0
                  clear c0 e0
                  cases r
                  · have hv : V = false := HD.out (by rw [ct_iff]; intro h; exact T2 rfl h.2.2.2.2.2.2)
                    have HVV := Lib.hid hv
                    clear hv T1 T2 HM HD KR TS RY RZ SY SZ hn8 HP
                    go_wp2
                    refine wp_region_quiet_below (by kernel_rfl) (by kernel_rfl) ?_
                    repeat (quiet_step (with_reducible exact c1' _ _))
                    refine wpQuiet_nil ?_
                    intro _ hw'
                    obtain ⟨⟨dq, osq⟩, hw''⟩ := hw'
                    subst hw''
                    go_wp2
                    go_ret
                    exact ⟨by rw [HVV.out]; rfl, hb9.trans ((below_regrown wr dq osq).mono hb9.size)⟩
                  · have H := Lib.hid (T1 rfl)
                    have HW : Hid (∀ dq osq, Below wc.heap.size wc (grow (redrawn wr dq) osq)) := Lib.hid fun dq osq => hb8.trans ((below_regrown wr dq osq).mono hb8.size)
                    clear T1 T2 HM HD KR TS RY RZ SY SZ hn8 HP
                    go_wp2
                    refine wp_region_quiet_below (by kernel_rfl) (by kernel_rfl) ?_
                    repeat (quiet_step (with_reducible exact c1' _ _))
                    refine wpQuiet_nil ?_
                    intro _ hw'
                    obtain ⟨⟨dq, osq⟩, hw''⟩ := hw'
                    subst hw''
                    go_wp2
                    go_roundw
                    case rel => exact ⟨i + 1, by omega, by go_num, HW.out dq osq, H⟩
                    case measure => simp [intOf]; omega
                · obtain rfl : i = y.br.l.length := by omega
                  have h1 := hn8.out
                  rw [List.take_length, HLB.out, List.take_length] at h1
                  have H := Lib.hid (HM.out (ct_iff.2 ⟨HP.out.1, HP.out.2.1, HP.out.2.2.1, HP.out.2.2.2.1, HP.out.2.2.2.2, HAR.out, h1⟩))
                  clear h1 hn8 HM HD KR TS RY RZ SY SZ HP HAR
                  go_wp2
                  go_roundw
                  case rel => exact ⟨k + 1, by omega, by go_num, hb9, H⟩
                  case measure => simp [intOf]; omega
      · obtain rfl : k = l.length := by omega
        have h1 := hno.out
        rw [List.take_length, HLL.out, List.take_length] at h1
        have h2 := HY.out h1
        clear h1 hno HN HY IH HA HB HSA HSB
        go_wp2
        go_ret
        exact ⟨by rw [h2]; rfl, hbl⟩
end fu
end Go.Proofs.Ytjodffbekipnlaa
/- What a list assigns, by the reference. -/
namespace Go.Proofs.Ytjodffbekipnlaa
set_option linter.unusedVariables false
set_option linter.unusedSimpArgs false
open Go.RowKit Go.Sort
namespace fu
theorem asg_k3 {z : Zt} (d : Hd) (h : z.k = 3) : asg1 HK d z.ct = z.br.l.any fun b => asgL HK d (cts b.l) := by
  rw [asg1_eq, Zt.ct_h, Zt.ct_br]
  have : HK.c z.hd = true := by
    show decide (z.k = 3) = true
    simpa using h
  rw [this, if_pos rfl, List.any_map]
  rfl
theorem asg_no3 {z : Zt} (d : Hd) (h : ¬ z.k = 3) : asg1 HK d z.ct = HK.asg z.hd d := by
  rw [asg1_eq, Zt.ct_h]
  have : HK.c z.hd = false := by
    show decide (z.k = 3) = false
    simpa using h
  rw [this]
  rfl
theorem asg_k1 {z : Zt} {d : Hd} {s : ByteArray} (hd : d.nm = s.toList) (h : z.k = 1) : asg1 HK d z.ct = (z.nm.toList == s.toList) := by
  rw [asg_no3 d (by omega)]
  show ((decide (z.k = 1) && decide (z.nm.toList = d.nm)) || (decide (z.k = 4) && decide (d.nm ∈ z.ou.l.map ByteArray.toList))) = _
  rw [h, hd]
  simp [Bool.beq_eq_decide_eq]
theorem asg_k4 {z : Zt} {d : Hd} {s : ByteArray} (hd : d.nm = s.toList) (h : z.k = 4) : asg1 HK d z.ct = hasN z.ou.l s := by
  rw [asg_no3 d (by omega)]
  show ((decide (z.k = 1) && decide (z.nm.toList = d.nm)) || (decide (z.k = 4) && decide (d.nm ∈ z.ou.l.map ByteArray.toList))) = _
  rw [h, hd, Bool.eq_iff_iff]
  simp [hasN, List.any_eq_true]
theorem asg_no {z : Zt} (d : Hd) (h : ¬ z.k = 3) (h1 : ¬ z.k = 1) (h4 : ¬ z.k = 4) : asg1 HK d z.ct = false := by
  rw [asg_no3 d h]
  show ((decide (z.k = 1) && decide (z.nm.toList = d.nm)) || (decide (z.k = 4) && decide (d.nm ∈ z.ou.l.map ByteArray.toList))) = _
  simp [h1, h4]
theorem asg_take {l : List Zt} {k : Nat} {z : Zt} (d : Hd) (h : l[k]? = some z) (h0 : asgL HK d (cts (l.take k)) = false) : asgL HK d (cts (l.take (k + 1))) = asg1 HK d z.ct := by
  rw [cts_take h, asgL_append, h0]
  simp [asgL]
theorem asg_hit {l : List Zt} {z : Zt} (d : Hd) (h : z ∈ l) (h0 : asg1 HK d z.ct = true) : asgL HK d (cts l) = true := List.any_eq_true.2 ⟨z.ct, List.mem_map.2 ⟨z, h, rfl⟩, h0⟩
theorem anyB_take {l : List (Rw Zt)} {p : Rw Zt → Bool} {k : Nat} {y : Rw Zt} (h : l[k]? = some y) : (l.take (k + 1)).any p = ((l.take k).any p || p y) := by
  rw [take_succ_of h, List.any_append]; simp
set_option maxRecDepth 100000 in
set_option maxHeartbeats 4000000 in
theorem rasg_all : ∀ (n : Nat) (a : Rw Zt) (s : ByteArray) (d : Hd) (w : World), SizeOf.sizeOf a.l ≤ n → d.nm = s.toList → RsL w w.heap.size a → SmL 200000 a.l → Calls Try.prog 28 #[.slice a.A a.l.length a.c, .string s] w (Bel (.bool (asgL HK d (cts a.l))) w) := by
  intro n
  induction n with
  | zero => intro a s d w h; cases ha : a.l <;> rw [ha] at h <;> simp at h
  | succ n ih =>
    intro a s d w hn hd hR hS
    have IH : Hid (∀ z ∈ a.l, ∀ b ∈ z.br.l, ∀ W, Below w.heap.size w W → Calls Try.prog 28 #[.slice b.A b.l.length b.c, .string s] W (Bel (.bool (asgL HK d (cts b.l))) W)) := Lib.hid fun z hz b hb W hbl => ih b s d W (by
        have h1 := List.sizeOf_lt_of_mem hz
        have h2 := Zt.lt_row hb
        omega) hd (((hR.2 z hz).br hb).blw hbl hbl.size) ((hS.2 z hz).br hb)
    have HR := Lib.hid hR
    have HS := Lib.hid hS.2
    have hlen := hS.1
    have HD := Lib.hid hd
    clear ih hR hn hS hd
    obtain ⟨A, c, l⟩ := a
    simp only at IH HR HS hlen ⊢
    obtain ⟨V, hV⟩ : ∃ V, asgL HK d (cts l) = V := ⟨_, rfl⟩
    have HV := Lib.hid hV
    rw [hV]
    clear hV
    go_enter Try.func28, Try.ntmps28
    go_wp2
    go_loopw [5] (fun i wr => ∃ k : Nat, k ≤ l.length ∧ i = .int .i64 (k : Int) ∧ Below w.heap.size w wr ∧ Hid (asgL HK d (cts (l.take k)) = false)) (fun i _ => l.length - (intOf i).toNat)
    case atStart => exact ⟨0, by omega, rfl, Below.refl _ _, Lib.hid rfl⟩
    case round =>
      obtain ⟨k, hk, rfl, hbl, hno⟩ := hrel
      by_cases hlt : k < l.length
      · obtain ⟨ad, z, hA, had, hz, hm, c0, c1, c2, c3, c4, c5, c6, c7, c8, c9, c10, c11⟩ := (HR.out.1.blw oneB_Z hbl (Nat.le_refl _)).at_ hlt
        simp only at hA
        subst hA
        simp only at hz hm
        have HT : Hid (asgL HK d (cts (l.take (k + 1))) = asg1 HK d z.ct) := Lib.hid (asg_take d hz hno.out)
        have HH : Hid (asg1 HK d z.ct = true → V = true) := Lib.hid fun h => HV.out ▸ asg_hit d hm h
        have d1 : (k : Int) < (l.length : Int) := by omega
        have hbz := boxZ_one wr z
        have hb0 : Below w.heap.size w (wr.alloc (zB z)) := (by repeat (first | (with_reducible exact Below.refl _ _) | (with_reducible assumption) | (with_reducible exact bel_box _) | (with_reducible refine bel_step ?_ (by with_reducible assumption)) | (with_reducible refine Below.drew ?_) | (with_reducible refine below_drewN ?_ _) | (with_reducible refine bel_alloc ?_ _)))
        by_cases hk1 : z.k = 1
        · have hv := asg_k1 (z := z) HD.out hk1
          rw [hv] at HT HH
          rw [hk1] at c0
          clear hbz hb0 hz hm hno HV IH HR HS hv
          cases q : (z.nm.toList == s.toList)
          · rw [q] at HT
            clear HH
            go_wp2
            go_roundw
            case rel => exact ⟨k + 1, by omega, by go_num, (by repeat (first | (with_reducible exact Below.refl _ _) | (with_reducible assumption) | (with_reducible exact bel_box _) | (with_reducible refine bel_step ?_ (by with_reducible assumption)) | (with_reducible refine Below.drew ?_) | (with_reducible refine below_drewN ?_ _) | (with_reducible refine bel_alloc ?_ _))), HT⟩
            case measure => simp [intOf]; omega
          · have h1 := HH.out q
            clear HT HH
            go_wp2
            go_ret
            exact ⟨by rw [h1]; rfl, (by repeat (first | (with_reducible exact Below.refl _ _) | (with_reducible assumption) | (with_reducible exact bel_box _) | (with_reducible refine bel_step ?_ (by with_reducible assumption)) | (with_reducible refine Below.drew ?_) | (with_reducible refine below_drewN ?_ _) | (with_reducible refine bel_alloc ?_ _)))⟩
        by_cases hk4 : z.k = 4
        · have hv := asg_k4 (z := z) HD.out hk4
          rw [hv] at HT HH
          rw [hk4] at c0
          have KH := Lib.hid (fun W (h : Below w.heap.size w W) => rhas_any z.ou.A z.ou.c z.ou.l s W (RsB.rdN ((HR.out.2 z hm).of.2.1.blw oneB_B h h.size)) (by have := (HS.out z hm).of.1; omega))
          clear hbz hb0 hz hm hno HV IH HR HS hv
          generalize hasN z.ou.l s = b at *
          cases b
          · clear HH
            go_wp2_with (go_at_call 32; (with_reducible refine (KH.out _ ?_).mono ?_); (focus ((repeat (first | (with_reducible exact Below.refl _ _) | (with_reducible assumption) | (with_reducible exact bel_box _) | (with_reducible refine bel_step ?_ (by with_reducible assumption)) | (with_reducible refine Below.drew ?_) | (with_reducible refine below_drewN ?_ _) | (with_reducible refine bel_alloc ?_ _))); done)); rintro e w5 ⟨rfl, hb5⟩)
            go_roundw
            case rel => exact ⟨k + 1, by omega, by go_num, (by repeat (first | (with_reducible exact Below.refl _ _) | (with_reducible assumption) | (with_reducible exact bel_box _) | (with_reducible refine bel_step ?_ (by with_reducible assumption)) | (with_reducible refine Below.drew ?_) | (with_reducible refine below_drewN ?_ _) | (with_reducible refine bel_alloc ?_ _))), HT⟩
            case measure => simp [intOf]; omega
          · have h1 := HH.out rfl
            clear HT HH
            go_wp2_with (go_at_call 32; (with_reducible refine (KH.out _ ?_).mono ?_); (focus ((repeat (first | (with_reducible exact Below.refl _ _) | (with_reducible assumption) | (with_reducible exact bel_box _) | (with_reducible refine bel_step ?_ (by with_reducible assumption)) | (with_reducible refine Below.drew ?_) | (with_reducible refine below_drewN ?_ _) | (with_reducible refine bel_alloc ?_ _))); done)); rintro e w5 ⟨rfl, hb5⟩)
            go_ret
            exact ⟨by rw [h1]; rfl, (by repeat (first | (with_reducible exact Below.refl _ _) | (with_reducible assumption) | (with_reducible exact bel_box _) | (with_reducible refine bel_step ?_ (by with_reducible assumption)) | (with_reducible refine Below.drew ?_) | (with_reducible refine below_drewN ?_ _) | (with_reducible refine bel_alloc ?_ _)))⟩
        by_cases hk3 : z.k = 3
        · have hv := asg_k3 (z := z) d hk3
          rw [hv] at HT HH
          rw [hk3] at c0
          have IHz := Lib.hid (IH.out z hm)
          have HB := Lib.hid (fun W (hb : Below w.heap.size w W) => ((HR.out.2 z hm).brs).blw hb hb.size)
          have hMl := (HS.out z hm).of.2.2.1
          have HBZ := Lib.hid hbz
          have HB0 := Lib.hid hb0
          clear hbz hb0 hz hm hno HV IH HR HS hv hk1 hk4
          go_wp2
          go_loopw [7] (fun j W => ∃ m : Nat, m ≤ z.br.l.length ∧ j = .int .i64 (m : Int) ∧ Below (wr.alloc (zB z)).heap.size (wr.alloc (zB z)) W ∧ Hid ((z.br.l.take m).any (fun b => asgL HK d (cts b.l)) = false)) (fun j _ => z.br.l.length - (intOf j).toNat)
          case atStart => exact ⟨0, by omega, rfl, by rw [← hk3]; exact Below.refl _ _, Lib.hid rfl⟩
          case round =>
            obtain ⟨m, hm, rfl, hbW, hno⟩ := hrel
            have hb9 := HB0.out.trans (hbW.mono HB0.out.size)
            clear c0 c1 c2 c3 c4 c5 c6 c7 c8 c9 c10 c11
            obtain ⟨m0, m1, m2, m3, m4, m5, m6, m7, m8, m9, m10, m11⟩ := HBZ.out.keep hbW
            by_cases hlt2 : m < z.br.l.length
            · obtain ⟨ad2, b, hA2, had2, hb, hbm, c2⟩ := (HB.out _ hb9).1.at_ hlt2
              have HTB : Hid ((z.br.l.take (m + 1)).any (fun b => asgL HK d (cts b.l)) = (false || asgL HK d (cts b.l))) := Lib.hid (by rw [anyB_take hb, hno.out])
              have HHB : Hid (asgL HK d (cts b.l) = true → V = true) := Lib.hid fun h => HH.out (List.any_eq_true.2 ⟨b, hbm, h⟩)
              have KB := Lib.hid (IHz.out b hbm)
              rw [hA2] at m11
              clear hb hbm hA2 HH HT hno
              generalize asgL HK d (cts b.l) = v at *
              have d2 : (m : Int) < (z.br.l.length : Int) := by omega
              have c2 : _ = some (Value.slice b.A b.l.length b.c) := c2
              rw [Nat.mul_one] at c2
              cases v
              · clear HHB
                go_wp2_with (go_at_call 28; (with_reducible refine (KB.out _ ?_).mono ?_); (focus ((repeat (first | (with_reducible exact Below.refl _ _) | (with_reducible assumption) | (with_reducible exact bel_box _) | (with_reducible refine bel_step ?_ (by with_reducible assumption)) | (with_reducible refine Below.drew ?_) | (with_reducible refine below_drewN ?_ _) | (with_reducible refine bel_alloc ?_ _))); done)); rintro e w5 ⟨rfl, hb5⟩)
                go_roundw
                case rel => exact ⟨m + 1, by omega, by go_num, (by repeat (first | (with_reducible exact Below.refl _ _) | (with_reducible assumption) | (with_reducible exact bel_box _) | (with_reducible refine bel_step ?_ (by with_reducible assumption)) | (with_reducible refine Below.drew ?_) | (with_reducible refine below_drewN ?_ _) | (with_reducible refine bel_alloc ?_ _))), HTB⟩
                case measure => simp [intOf]; omega
              · have h1 := HHB.out rfl
                clear HTB HHB
                go_wp2_with (go_at_call 28; (with_reducible refine (KB.out _ ?_).mono ?_); (focus ((repeat (first | (with_reducible exact Below.refl _ _) | (with_reducible assumption) | (with_reducible exact bel_box _) | (with_reducible refine bel_step ?_ (by with_reducible assumption)) | (with_reducible refine Below.drew ?_) | (with_reducible refine below_drewN ?_ _) | (with_reducible refine bel_alloc ?_ _))); done)); rintro e w5 ⟨rfl, hb5⟩)
                go_ret
                exact ⟨by rw [h1]; rfl, (by repeat (first | (with_reducible exact Below.refl _ _) | (with_reducible assumption) | (with_reducible exact bel_box _) | (with_reducible refine bel_step ?_ (by with_reducible assumption)) | (with_reducible refine Below.drew ?_) | (with_reducible refine below_drewN ?_ _) | (with_reducible refine bel_alloc ?_ _)))⟩
            · obtain rfl : m = z.br.l.length := by omega
              have h1 := hno.out
              rw [List.take_length] at h1
              rw [h1] at HT
              clear h1 hno HH
              go_wp2
              go_roundw
              case rel => exact ⟨k + 1, by omega, by go_num, hb9, HT⟩
              case measure => simp [intOf]; omega
        · have hv := asg_no (z := z) d hk3 hk1 hk4
          rw [hv] at HT
          clear hbz hb0 hz hm hno HV IH HR HS hv HH
          go_wp2
          go_roundw
          case rel => exact ⟨k + 1, by omega, by go_num, (by repeat (first | (with_reducible exact Below.refl _ _) | (with_reducible assumption) | (with_reducible exact bel_box _) | (with_reducible refine bel_step ?_ (by with_reducible assumption)) | (with_reducible refine Below.drew ?_) | (with_reducible refine below_drewN ?_ _) | (with_reducible refine bel_alloc ?_ _))), HT⟩
          case measure => simp [intOf]; omega
      · obtain rfl : k = l.length := by omega
        have h1 := hno.out
        rw [List.take_length] at h1
        have h2 := HV.out
        rw [h1] at h2
        have H2 := Lib.hid h2
        clear h1 h2 hno HV IH HR HS
        go_wp2
        go_ret
        exact ⟨by rw [← H2.out]; rfl, hbl⟩
end fu
end Go.Proofs.Ytjodffbekipnlaa
