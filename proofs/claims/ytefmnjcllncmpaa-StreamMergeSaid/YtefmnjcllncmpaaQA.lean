/- Texts of one chain, in one file. -/
import Derived.Test.YtefmnjcllncmpaaRows
import Derived.WalkKit
import Derived.WalkLawsBesides
import Derived.Lib.Hide
import Derived.Deep.Draws
import Derived.Deep.QuietTactic
import Derived.BigQuiet
import Derived.Maps.AppendAt
import Derived.Deep.AppendLies
import Derived.Deep.OwnRows
import Derived.Laws.StructEq
import Derived.Laws.MakeOwn
import Derived.Deep.RegionHeld3
import Derived.Deep.RegionLaw
/- Words for memory: a slice header whose cells read as a list of values, kept over what leaves the old blocks alone. -/
namespace Go.Proofs.Ytefmnjcllncmpaa
set_option linter.unusedVariables false
set_option linter.unusedSimpArgs false
open Go.RowKit

theorem add_block (a : Addr) (n : Nat) : (a.add n).block = a.block := by unfold Addr.add; split <;> rfl
theorem add_zero' (a : Addr) : a.add 0 = a := by simp [Addr.add]

/-- A and the length of xs are a slice whose elements (one cell each) are xs, in a block below B -/
def Rd (w : World) (B : Nat) (A : Option Addr) (xs : List Value) : Prop :=
  xs ≠ [] → ∃ ad, A = some ad ∧ ad.block < B ∧ ∀ j u, xs[j]? = some u → w.cell? (ad.add j) = some u

theorem Rd.nil (w : World) (B : Nat) (A : Option Addr) : Rd w B A [] := fun h => absurd rfl h
theorem Rd.keep {w w' : World} {B : Nat} {A : Option Addr} {xs : List Value} (h : Rd w B A xs) (hk : ∀ p : Addr, p.block < B → w'.cell? p = w.cell? p) : Rd w' B A xs := fun hn => by
  obtain ⟨ad, e, hb, hc⟩ := h hn
  exact ⟨ad, e, hb, fun j u hu => (hk _ (by rw [add_block]; exact hb)).trans (hc j u hu)⟩
theorem Rd.more {w : World} {B B' : Nat} {A : Option Addr} {xs : List Value} (h : Rd w B A xs) (hB : B ≤ B') : Rd w B' A xs := fun hn => by
  obtain ⟨ad, e, hb, hc⟩ := h hn
  exact ⟨ad, e, by omega, hc⟩
theorem Rd.below {w w' : World} {B : Nat} {A : Option Addr} {xs : List Value} (h : Rd w B A xs) (hb : Below B w w') : Rd w' B A xs := h.keep fun _ hp => hb.cell hp
theorem Rd.drewN {w : World} {B : Nat} {A : Option Addr} {xs : List Value} (h : Rd w B A xs) (k : Nat) : Rd (w.drewN k) B A xs := h
theorem below_drewN {B : Nat} {a w : World} (h : Below B a w) (n : Nat) : Below B a (w.drewN n) := ⟨h.os, h.tape, h.output, h.size, h.block⟩
def bls (l : List Bool) : List Value := l.map Value.bool
theorem bls_length (l : List Bool) : (bls l).length = l.length := by simp [bls]
theorem bls_get {l : List Bool} {k : Nat} {b : Bool} (h : l[k]? = some b) : (bls l)[k]? = some (.bool b) := by simp [bls, h]
/-- the cell at a place within a slice of bools -/
theorem Rd.bool_at {w : World} {B : Nat} {A : Option Addr} {l : List Bool} (h : Rd w B A (bls l)) {k : Nat} (hk : k < l.length) :
    ∃ ad b, A = some ad ∧ ad.block < B ∧ l[k]? = some b ∧ w.cell? (ad.add k) = some (.bool b) := by
  obtain ⟨ad, e, hb, hc⟩ := h (by intro e; have := congrArg List.length e; simp [bls] at this; rw [this] at hk; simp at hk)
  exact ⟨ad, l[k], e, hb, List.getElem?_eq_getElem hk, hc k _ (bls_get (List.getElem?_eq_getElem hk))⟩
theorem take_succ_of {α : Type} {l : List α} {k : Nat} {b : α} (h : l[k]? = some b) : l.take (k + 1) = l.take k ++ [b] := by
  rw [List.take_add_one, h]; rfl
theorem Rd.of_own {w : World} {base : Nat} {e : TypeId} {A : Option Addr} {n c : Nat} {xs : List Value} (h : w.ownsRow base e 1 (.slice A n c) n xs) : Rd w w.heap.size A xs := fun hn => by
  have hl : xs.length = n := by simpa using h.1
  have hn' : 0 < n := by
    rcases Nat.eq_zero_or_pos n with h0 | h0
    · exact absurd (List.eq_nil_of_length_eq_zero (hl.trans h0)) hn
    · exact h0
  obtain ⟨g, cap, hv, _, hlt⟩ := h.form hn'
  have hA : A = some ⟨g, 0, none⟩ := by injection hv
  subst hA
  exact ⟨_, rfl, hlt, fun j u hu => h.cells (g := g) rfl j u hu⟩
/-- an owned value is a slice header -/
theorem own_form {w : World} {base n : Nat} {e : TypeId} {v : Value} {xs : List Value} (h : w.ownsRow base e 1 v n xs) : ∃ A c, v = .slice A n c := by
  rcases h.2 with ⟨rfl, rfl⟩ | ⟨g, cap, cur, rfl, _⟩
  · exact ⟨_, _, rfl⟩
  · exact ⟨_, _, rfl⟩
theorem bel_box {w : World} (o : Obj) : Below w.heap.size w (w.alloc o) := (Below.refl _ _).alloc (Nat.le_refl _) _
theorem bel_step {w W w' : World} (h : Below w.heap.size w W) (hb : Below W.heap.size W w') : Below w.heap.size w w' := h.trans (hb.mono h.size)
theorem bel_alloc {w W : World} (h : Below w.heap.size w W) (o : Obj) : Below w.heap.size w (W.alloc o) := h.alloc h.size o
theorem bcell {W w1 : World} (hb : Below W.heap.size W w1) : (∀ b o, b < W.heap.size → w1.cell? ⟨b, o, none⟩ = W.cell? ⟨b, o, none⟩) ∧ (∀ b o, b < W.heap.size → w1.frozen? ⟨b, o, none⟩ = W.frozen? ⟨b, o, none⟩) ∧ W.heap.size ≤ w1.heap.size :=
  ⟨fun b o h => hb.cell (p := ⟨b, o, none⟩) h, fun b o h => hb.frozen (p := ⟨b, o, none⟩) h, hb.size⟩
/-- a reading at the start is one later -/
theorem Rd.to {w W : World} {A : Option Addr} {xs : List Value} (h : Rd w w.heap.size A xs) (hb : Below w.heap.size w W) : Rd W W.heap.size A xs := (h.below hb).more hb.size
theorem Rd.cut {w : World} {B : Nat} {A : Option Addr} {l : List Bool} (h : Rd w B A (bls l)) (n : Nat) : Rd w B A (bls (l.take n)) := fun hn => by
  obtain ⟨ad, e, hb, hc⟩ := h (by intro e; apply hn; simp [bls] at e; simp [bls, e])
  refine ⟨ad, e, hb, fun j u hu => hc j u ?_⟩
  have hj : j < (l.take n).length := by have := (List.getElem?_eq_some_iff.1 hu).1; simpa [bls] using this
  rw [List.length_take] at hj
  have e2 : (l.take n)[j]? = l[j]? := List.getElem?_take_of_lt (by omega)
  rw [bls, List.getElem?_map, e2] at hu
  rw [bls, List.getElem?_map]
  exact hu
theorem add_add' (a : Addr) (i j : Nat) : (a.add i).add j = a.add (i + j) := by
  unfold Addr.add
  by_cases hi : i = 0 <;> by_cases hj : j = 0 <;> simp [hi, hj, Nat.add_assoc]
theorem Rd.drop {w : World} {B : Nat} {A : Option Addr} {l : List Bool} (h : Rd w B A (bls l)) (k : Nat) : Rd w B (A.map (·.add k)) (bls (l.drop k)) := fun hn => by
  obtain ⟨ad, e, hb, hc⟩ := h (by intro e; apply hn; simp [bls] at e; simp [bls, e])
  refine ⟨ad.add k, by rw [e]; rfl, by rw [add_block]; exact hb, fun j u hu => ?_⟩
  rw [add_add']
  apply hc
  rw [bls, List.getElem?_map, List.getElem?_drop] at hu
  rw [bls, List.getElem?_map]
  exact hu
theorem set2_cells {W : World} {b : Nat} {u v : Value} (h0 : W.cell? ⟨b, 0, none⟩ = some u) (h1 : W.cell? ⟨b, 1, none⟩ = some v) (x y : Value) :
    ((W.setCell ⟨b, 0, none⟩ x).setCell ⟨b, 1, none⟩ y).cell? ⟨b, 0, none⟩ = some x ∧ ((W.setCell ⟨b, 0, none⟩ x).setCell ⟨b, 1, none⟩ y).cell? ⟨b, 1, none⟩ = some y := by
  have e1 : (W.setCell ⟨b, 0, none⟩ x).cell? ⟨b, 1, none⟩ = some v := (World.cell?_setCell_other W _ _ _ (by simp)).trans h1
  refine ⟨?_, World.cell?_setCell_same _ _ _ e1⟩
  rw [World.cell?_setCell_other _ _ _ _ (by simp)]
  exact World.cell?_setCell_same _ _ _ h0
theorem bel_set2 {w W : World} (h : Below w.heap.size w W) {b : Nat} (hb : w.heap.size ≤ b) (x y : Value) : Below w.heap.size w ((W.setCell ⟨b, 0, none⟩ x).setCell ⟨b, 1, none⟩ y) :=
  (h.setCell (p := ⟨b, 0, none⟩) hb x).setCell (p := ⟨b, 1, none⟩) hb y
/-- where there is something, it lies in a block from N on -/
def Nw (N : Nat) (A : Option Addr) (xs : List Value) : Prop := ∀ ad, A = some ad → xs ≠ [] → N ≤ ad.block
theorem Nw.nil (N : Nat) (A : Option Addr) : Nw N A [] := fun _ _ h => absurd rfl h
theorem Nw.mono {N N' : Nat} {A : Option Addr} {xs : List Value} (h : Nw N A xs) (hN : N' ≤ N) : Nw N' A xs := fun ad e hx => Nat.le_trans hN (h ad e hx)
/-- what a cell holds, whatever it is -/
def rc (w : World) (b i : Nat) : Value := (w.cell? ⟨b, i, none⟩).getD undef
attribute [irreducible] rc
end Go.Proofs.Ytefmnjcllncmpaa
/- What the functions of package word, and their references, return for every argument (the world is left as it is): plain numbers. -/
namespace Go.Proofs.Ytefmnjcllncmpaa
set_option linter.unusedVariables false
set_option linter.unusedSimpArgs false
open Go.RowKit

def w16 (n : Int) : Int := (n + 32768) % 65536 - 32768
theorem w16_lo (n : Int) : -32768 ≤ w16 n := by unfold w16; omega
theorem w16_hi (n : Int) : w16 n ≤ 32767 := by unfold w16; omega
theorem ret_int {k : IntKind} {a b : Int} (h : a = b) : Ending.returned (.int k a) = .returned (.int k b) := by rw [h]
theorem ret_bool {a b : Bool} (h : a = b) : Ending.returned (.bool a) = .returned (.bool b) := by rw [h]
theorem wrap_i16 (n : Int) : wrap64 (IntKind.i16.wrap n) = w16 n := by
  simp only [wrap64, w16, IntKind.wrap, IntKind.signed, IntKind.bits]
  simp
  omega
theorem tdiv_bd (x y : Int) (hx : -32768 ≤ x) (hx' : x ≤ 32767) : -32768 ≤ x.tdiv y ∧ x.tdiv y ≤ 32768 := by
  have h := Int.natAbs_tdiv_le_natAbs x y
  omega

theorem wrap_any (n : Int) (w : World) : Calls Try.prog 100 #[.int .i64 n] w fun e w' => e = .returned (.int .i64 (w16 n)) ∧ w = w' := by
  go_enter Try.func100, Try.ntmps100
  go_wp2
  go_ret
  exact ⟨ret_int (wrap_i16 n), rfl⟩

theorem in_any (n : Int) (w : World) : Calls Try.prog 82 #[.int .i64 n] w fun e w' => e = .returned (.bool (decide (-32768 ≤ n) && decide (n ≤ 32767))) ∧ w = w' := by
  go_enter Try.func82, Try.ntmps82
  go_wp2
  all_goals go_ret
  · exact ⟨ret_bool (by simp [*]), rfl⟩
  · exact ⟨ret_bool (by simp; omega), rfl⟩
theorem neg_any (n : Int) (w : World) : Calls Try.prog 84 #[.int .i64 n] w fun e w' => e = .returned (.int .i64 (w16 (-n))) ∧ w = w' := by
  have h1 := w16_lo n
  have h2 := w16_hi n
  go_enter Try.func84, Try.ntmps84
  go_wp2_with (go_at_call 100; refine (wrap_any _ _).mono ?_; rintro e w' ⟨rfl, rfl⟩)
  go_ret
  exact ⟨ret_int (by unfold w16; omega), rfl⟩
theorem add_any (a b : Int) (w : World) : Calls Try.prog 85 #[.int .i64 a, .int .i64 b] w fun e w' => e = .returned (.int .i64 (w16 (a + b))) ∧ w = w' := by
  have h1 := w16_lo a
  have h2 := w16_hi a
  have h3 := w16_lo b
  have h4 := w16_hi b
  go_enter Try.func85, Try.ntmps85
  go_wp2_with (go_at_call 100; refine (wrap_any _ _).mono ?_; rintro e w' ⟨rfl, rfl⟩)
  go_ret
  exact ⟨ret_int (by unfold w16; omega), rfl⟩
theorem sub_any (a b : Int) (w : World) : Calls Try.prog 86 #[.int .i64 a, .int .i64 b] w fun e w' => e = .returned (.int .i64 (w16 (a - b))) ∧ w = w' := by
  have h1 := w16_lo a
  have h2 := w16_hi a
  have h3 := w16_lo b
  have h4 := w16_hi b
  go_enter Try.func86, Try.ntmps86
  go_wp2_with (go_at_call 100; refine (wrap_any _ _).mono ?_; rintro e w' ⟨rfl, rfl⟩)
  go_ret
  exact ⟨ret_int (by unfold w16; omega), rfl⟩
theorem mul_bd {x y : Int} (h1 : -32768 ≤ x) (h2 : x ≤ 32767) (h3 : -32768 ≤ y) (h4 : y ≤ 32767) : -1073741824 ≤ x * y ∧ x * y ≤ 1073741824 := by
  have a : (x * y).natAbs ≤ 32768 * 32768 := by rw [Int.natAbs_mul]; exact Nat.mul_le_mul (by omega) (by omega)
  omega
theorem w16_mul (a b : Int) : w16 (w16 a * w16 b) = w16 (a * b) := by
  have ha : w16 a = a - 65536 * ((a + 32768) / 65536) := by unfold w16; omega
  have hb : w16 b = b - 65536 * ((b + 32768) / 65536) := by unfold w16; omega
  generalize (a + 32768) / 65536 = p at ha
  generalize (b + 32768) / 65536 = q at hb
  rw [ha, hb]
  have e : (a - 65536 * p) * (b - 65536 * q) = a * b + 65536 * (65536 * (p * q) - p * b - a * q) := by
    simp only [Int.sub_mul, Int.mul_sub, Int.mul_assoc, Int.mul_left_comm a 65536 q, Int.mul_left_comm p 65536 q]
    omega
  rw [e]
  unfold w16
  omega
theorem mul_any (a b : Int) (w : World) : Calls Try.prog 87 #[.int .i64 a, .int .i64 b] w fun e w' => e = .returned (.int .i64 (w16 (a * b))) ∧ w = w' := by
  obtain ⟨h1, h2⟩ := mul_bd (w16_lo a) (w16_hi a) (w16_lo b) (w16_hi b)
  go_enter Try.func87, Try.ntmps87
  go_wp2_with (go_at_call 100; refine (wrap_any _ _).mono ?_; rintro e w' ⟨rfl, rfl⟩)
  go_ret
  exact ⟨ret_int (w16_mul a b), rfl⟩
def wdiv (a b : Int) : Int := if w16 b = 0 then 0 else w16 ((w16 a).tdiv (w16 b))
def wmod (a b : Int) : Int := if w16 b = 0 then w16 a else (w16 a).tmod (w16 b)
theorem div_any (a b : Int) (w : World) : Calls Try.prog 88 #[.int .i64 a, .int .i64 b] w fun e w' => e = .returned (.int .i64 (wdiv a b)) ∧ w = w' := by
  have h1 := w16_lo a
  have h2 := w16_hi a
  have h3 := w16_lo b
  have h4 := w16_hi b
  have h5 := tdiv_bd (w16 a) (w16 b) h1 h2
  by_cases hb : w16 b = 0
  · have hb1 : (w16 b == 0) = true := by simp [hb]
    have H := Lib.hid hb
    clear hb
    go_enter Try.func88, Try.ntmps88
    go_wp2_with (go_at_call 100; refine (wrap_any _ _).mono ?_; rintro e w' ⟨rfl, rfl⟩)
    go_ret
    exact ⟨ret_int (by rw [wdiv, if_pos H.out]), rfl⟩
  · have hb1 : (w16 b == 0) = false := by simp [hb]
    go_enter Try.func88, Try.ntmps88
    go_wp2_with (go_at_call 100; refine (wrap_any _ _).mono ?_; rintro e w' ⟨rfl, rfl⟩)
    go_ret
    refine ⟨ret_int ?_, rfl⟩
    rw [wdiv, if_neg hb]
    try rfl
theorem mod_any (a b : Int) (w : World) : Calls Try.prog 89 #[.int .i64 a, .int .i64 b] w fun e w' => e = .returned (.int .i64 (wmod a b)) ∧ w = w' := by
  have h1 := w16_lo a
  have h2 := w16_hi a
  have h3 := w16_lo b
  have h4 := w16_hi b
  have h5 := tdiv_bd (w16 a) (w16 b) h1 h2
  by_cases hb : w16 b = 0
  · have hb1 : (w16 b == 0) = true := by simp [hb]
    have H := Lib.hid hb
    clear hb
    go_enter Try.func89, Try.ntmps89
    go_wp2_with (go_at_call 100; refine (wrap_any _ _).mono ?_; rintro e w' ⟨rfl, rfl⟩)
    go_ret
    exact ⟨ret_int (by rw [wmod, if_pos H.out]), rfl⟩
  · have hb1 : (w16 b == 0) = false := by simp [hb]
    go_enter Try.func89, Try.ntmps89
    go_wp2_with (go_at_call 100; refine (wrap_any _ _).mono ?_; rintro e w' ⟨rfl, rfl⟩)
    go_ret
    refine ⟨ret_int ?_, rfl⟩
    rw [wmod, if_neg hb]
    try rfl
end Go.Proofs.Ytefmnjcllncmpaa
/- Words for the value layer: strings in memory, enumerations in memory, the numbers of operators; what the listed variables give. -/
namespace Go.Proofs.Ytefmnjcllncmpaa
set_option linter.unusedVariables false
set_option linter.unusedSimpArgs false
open Go.RowKit
def Bel (v : Value) (w : World) (e : Ending) (w' : World) : Prop := e = .returned v ∧ Below w.heap.size w w'
/-- strings as values -/
def ss (l : List ByteArray) : List Value := l.map Value.string
/-- numbers as values -/
def is_ (l : List Int) : List Value := l.map (Value.int .i64)
theorem is_get {l : List Int} {k : Nat} {b : Int} (h : l[k]? = some b) : (is_ l)[k]? = some (.int .i64 b) := by simp [is_, h]
theorem Rd.int_at {w : World} {B : Nat} {A : Option Addr} {l : List Int} (h : Rd w B A (is_ l)) {k : Nat} (hk : k < l.length) :
    ∃ ad b, A = some ad ∧ ad.block < B ∧ l[k]? = some b ∧ w.cell? (ad.add k) = some (.int .i64 b) := by
  obtain ⟨ad, e, hb, hc⟩ := h (by intro e; have := congrArg List.length e; simp [is_] at this; rw [this] at hk; simp at hk)
  exact ⟨ad, l[k], e, hb, List.getElem?_eq_getElem hk, hc k _ (is_get (List.getElem?_eq_getElem hk))⟩
/-- an enumeration, and where its tags lie -/
structure En where
  name : ByteArray
  A : Option Addr
  c : Nat
  tags : List ByteArray
/-- A reads as the enumerations es, two cells each, below B -/
def RdE (w : World) (B : Nat) (A : Option Addr) (es : List En) : Prop :=
  (es ≠ [] → ∃ ad, A = some ad ∧ ad.block < B ∧ ∀ (i : Nat) (e : En), es[i]? = some e → w.cell? (ad.add (i * 2)) = some (.string e.name) ∧ w.cell? (ad.add (i * 2 + 1)) = some (.slice e.A e.tags.length e.c)) ∧
  ∀ (i : Nat) (e : En), es[i]? = some e → Rd w B e.A (ss e.tags)
theorem RdE.nil (w : World) (B : Nat) (A : Option Addr) : RdE w B A [] := ⟨fun h => absurd rfl h, fun i e h => by simp at h⟩
theorem RdE.keep {w w' : World} {B : Nat} {A : Option Addr} {es : List En} (h : RdE w B A es) (hk : ∀ p : Addr, p.block < B → w'.cell? p = w.cell? p) : RdE w' B A es := by
  refine ⟨fun hn => ?_, fun i e he => (h.2 i e he).keep hk⟩
  obtain ⟨ad, e, hb, hc⟩ := h.1 hn
  exact ⟨ad, e, hb, fun i x hx => ⟨(hk _ (by rw [add_block]; exact hb)).trans (hc i x hx).1, (hk _ (by rw [add_block]; exact hb)).trans (hc i x hx).2⟩⟩
theorem RdE.more {w : World} {B B' : Nat} {A : Option Addr} {es : List En} (h : RdE w B A es) (hB : B ≤ B') : RdE w B' A es := by
  refine ⟨fun hn => ?_, fun i e he => (h.2 i e he).more hB⟩
  obtain ⟨ad, e, hb, hc⟩ := h.1 hn
  exact ⟨ad, e, by omega, hc⟩
theorem RdE.to {w W : World} {A : Option Addr} {es : List En} (h : RdE w w.heap.size A es) (hb : Below w.heap.size w W) : RdE W W.heap.size A es := (h.keep fun _ hp => hb.cell hp).more hb.size
theorem add_fld (ad : Addr) (n : Nat) : ad.add (n + 1) = ⟨(ad.add n).block, (ad.add n).off + 1, none⟩ := by
  unfold Addr.add
  by_cases h : n = 0
  · subst h; simp
  · simp [h, Nat.add_assoc]
theorem RdE.at_ {w : World} {B : Nat} {A : Option Addr} {es : List En} (h : RdE w B A es) {k : Nat} (hk : k < es.length) :
    ∃ ad e, A = some ad ∧ ad.block < B ∧ es[k]? = some e ∧ w.cell? (ad.add (k * 2)) = some (.string e.name) ∧ w.cell? ⟨(ad.add (k * 2)).block, (ad.add (k * 2)).off + 1, none⟩ = some (.slice e.A e.tags.length e.c) ∧ Rd w B e.A (ss e.tags) := by
  have he : es[k]? = some es[k] := List.getElem?_eq_getElem hk
  obtain ⟨ad, e, hb, hc⟩ := h.1 (by rintro rfl; simp at hk)
  exact ⟨ad, _, e, hb, he, (hc k _ he).1, by rw [← add_fld]; exact (hc k _ he).2, h.2 k _ he⟩
end Go.Proofs.Ytefmnjcllncmpaa
/- The rules of operators: rulesOf, arity; truth, compare, applyToOne, applyToTwo of the program. -/
namespace Go.Proofs.Ytefmnjcllncmpaa
set_option linter.unusedVariables false
set_option linter.unusedSimpArgs false
open Go.RowKit
/-- how many operands; of which type (0: of any one); the type of the result -/
def nOp (op : Int) : Int := if op = 1 ∨ op = 2 then 1 else if 3 ≤ op ∧ op ≤ 16 then 2 else 0
def kOp (op : Int) : Int := if op = 1 ∨ op = 3 ∨ op = 4 ∨ op = 5 then 1 else if op = 11 ∨ op = 12 then 0 else if 2 ≤ op ∧ op ≤ 16 then 2 else 0
def tOp (op : Int) : Int := if op = 2 ∨ (6 ≤ op ∧ op ≤ 10) then 2 else if 1 ≤ op ∧ op ≤ 16 then 1 else 0
def rul (op : Int) : Value := .agg #[.int .i64 (nOp op), .int .i64 (kOp op), .int .i64 (tOp op)]
theorem op_cases (op : Int) : op = 1 ∨ op = 2 ∨ op = 3 ∨ op = 4 ∨ op = 5 ∨ op = 6 ∨ op = 7 ∨ op = 8 ∨ op = 9 ∨ op = 10 ∨ op = 11 ∨ op = 12 ∨ op = 13 ∨ op = 14 ∨ op = 15 ∨ op = 16 ∨ (op < 1 ∨ 16 < op) := by omega
set_option maxHeartbeats 4000000 in
theorem rules_any (op : Int) (w : World) : Calls Try.prog 70 #[.int .i64 op] w (Bel (rul op) w) := by
  have hcase := op_cases op
  rcases hcase with rfl | rfl | rfl | rfl | rfl | rfl | rfl | rfl | rfl | rfl | rfl | rfl | rfl | rfl | rfl | rfl | hx
  case inr.inr.inr.inr.inr.inr.inr.inr.inr.inr.inr.inr.inr.inr.inr.inr =>
    have e1 : (op == 1) = false := by rw [beq_eq_false_iff_ne]; omega
    have e2 : (op == 2) = false := by rw [beq_eq_false_iff_ne]; omega
    have e3 : (op == 3) = false := by rw [beq_eq_false_iff_ne]; omega
    have e4 : (op == 4) = false := by rw [beq_eq_false_iff_ne]; omega
    have e5 : (op == 5) = false := by rw [beq_eq_false_iff_ne]; omega
    have e6 : (op == 6) = false := by rw [beq_eq_false_iff_ne]; omega
    have e7 : (op == 7) = false := by rw [beq_eq_false_iff_ne]; omega
    have e8 : (op == 8) = false := by rw [beq_eq_false_iff_ne]; omega
    have e9 : (op == 9) = false := by rw [beq_eq_false_iff_ne]; omega
    have e10 : (op == 10) = false := by rw [beq_eq_false_iff_ne]; omega
    have e11 : (op == 11) = false := by rw [beq_eq_false_iff_ne]; omega
    have e12 : (op == 12) = false := by rw [beq_eq_false_iff_ne]; omega
    have e13 : (op == 13) = false := by rw [beq_eq_false_iff_ne]; omega
    have e14 : (op == 14) = false := by rw [beq_eq_false_iff_ne]; omega
    have e15 : (op == 15) = false := by rw [beq_eq_false_iff_ne]; omega
    have e16 : (op == 16) = false := by rw [beq_eq_false_iff_ne]; omega
    have hr : rul op = .agg #[.int .i64 0, .int .i64 0, .int .i64 0] := by
      rw [rul, nOp, kOp, tOp, if_neg (by omega), if_neg (by omega), if_neg (by omega), if_neg (by omega), if_neg (by omega), if_neg (by omega), if_neg (by omega)]
    rw [hr]
    go_enter Try.func70, Try.ntmps70
    go_wp2
    refine bodyPost_ret (v := .agg #[.int .i64 0, .int .i64 0, .int .i64 0]) (by simp [results, Try.results70, go_sem]) rfl ⟨rfl, ?_⟩
    repeat (first | exact Below.refl _ _ | refine Below.setCell ?_ (by simp) _ | refine Below.alloc ?_ (by simp) _)
  all_goals
    go_enter Try.func70, Try.ntmps70
    go_wp2
    refine bodyPost_ret (v := rul _) (by simp [results, Try.results70, go_sem, rul, nOp, kOp, tOp]) rfl ⟨rfl, ?_⟩
    repeat (first | exact Below.refl _ _ | refine Below.setCell ?_ (by simp) _ | refine Below.alloc ?_ (by simp) _)
theorem arity_any (op n : Int) (w : World) : Calls Try.prog 71 #[rul op, .int .i64 n] w (Bel (.int .i64 (if nOp op = 0 then 2 else if nOp op = n then 0 else 9)) w) := by
  unfold rul
  generalize nOp op = p
  generalize kOp op = q
  generalize tOp op = r
  by_cases h0 : p = 0
  · subst h0
    go_enter Try.func71, Try.ntmps71
    go_wp2
    go_ret
    exact ⟨rfl, bel_box _⟩
  · by_cases h1 : p = n
    · have e0 : (p == 0) = false := by simp [h0]
      have e1 : (p == n) = true := by simp [h1]
      rw [if_neg h0, if_pos h1]
      clear h0 h1
      go_enter Try.func71, Try.ntmps71
      go_wp2
      go_ret
      exact ⟨rfl, bel_box _⟩
    · have e0 : (p == 0) = false := by simp [h0]
      have e1 : (p == n) = false := by simp [h1]
      rw [if_neg h0, if_neg h1]
      clear h0 h1
      go_enter Try.func71, Try.ntmps71
      go_wp2
      go_ret
      exact ⟨rfl, bel_box _⟩
def b01 (b : Bool) : Int := if b then 1 else 0
theorem truth_any (b : Bool) (w : World) : Calls Try.prog 90 #[.bool b] w fun e w' => e = .returned (.int .i64 (b01 b)) ∧ w = w' := by
  cases b
  all_goals
    go_enter Try.func90, Try.ntmps90
    go_wp2
    go_ret
    exact ⟨rfl, rfl⟩
def cmpB (op a b : Int) : Bool := if op = 11 then a == b else if op = 12 then a != b else if op = 13 then decide (a < b) else if op = 14 then decide (a ≤ b) else if op = 15 then decide (b < a) else decide (b ≤ a)
theorem compare_any (op a b : Int) (w : World) (h : op = 11 ∨ op = 12 ∨ op = 13 ∨ op = 14 ∨ op = 15 ∨ op = 16) : Calls Try.prog 91 #[.int .i64 op, .int .i64 a, .int .i64 b] w fun e w' => e = .returned (.bool (cmpB op a b)) ∧ w = w' := by
  rcases h with rfl | rfl | rfl | rfl | rfl | rfl
  all_goals
    go_enter Try.func91, Try.ntmps91
    go_wp2
    go_ret
    exact ⟨by simp [cmpB], rfl⟩
end Go.Proofs.Ytefmnjcllncmpaa
/- enumerated, valid, tags, Size, Has, Name of the program; known, Size, Has, Name of the reference. -/
namespace Go.Proofs.Ytefmnjcllncmpaa
set_option linter.unusedVariables false
set_option linter.unusedSimpArgs false
open Go.RowKit
theorem add_off (b j : Nat) : (Addr.mk b 0 none).add j = ⟨b, j, none⟩ := by
  unfold Addr.add
  split
  · rename_i h; rw [h]
  · simp
/-- a row just made reads as what was laid -/
theorem rd_alloc (w : World) (cs : Array Value) (t : TypeId) : Rd (w.alloc (.cells cs t)) (w.alloc (.cells cs t)).heap.size (some ⟨w.heap.size, 0, none⟩) cs.toList := by
  intro _
  refine ⟨_, rfl, by simp, fun j u hu => ?_⟩
  rw [add_off, cell_of_row _ _ j cs t (0, 0) (heap_alloc_new w _), ← hu]
  simp
def enuB (es : List En) (t : Int) : Bool := decide (3 ≤ t) && decide (t - 3 < es.length)
abbrev sFalse : ByteArray := ⟨#[102, 97, 108, 115, 101]⟩
abbrev sTrue : ByteArray := ⟨#[116, 114, 117, 101]⟩
def tagsOf (es : List En) (t : Int) : List ByteArray := if t = 1 then [sFalse, sTrue] else if enuB es t then ((es[(t - 3).toNat]?).map (·.tags)).getD [] else []
def sizeT (es : List En) (t : Int) : Int := if t = 2 then 65536 else (tagsOf es t).length
def hasB (es : List En) (t v : Int) : Bool := if t = 2 then decide (-32768 ≤ v) && decide (v ≤ 32767) else decide (0 ≤ v) && decide (v < sizeT es t)
def NewS (l : List ByteArray) (w : World) (e : Ending) (w' : World) : Prop := ∃ A c, e = .returned (.slice A l.length c) ∧ Rd w' w'.heap.size A (ss l) ∧ Below w.heap.size w w'
theorem enum_any (A : Option Addr) (c : Nat) (es : List En) (t : Int) (w : World) (hl : es.length ≤ 9223372036854775807) (hti : t ≤ 9223372036854775807) :
    Calls Try.prog 101 #[.slice A es.length c, .int .i64 t] w fun e w' => e = .returned (.bool (enuB es t)) ∧ w = w' := by
  by_cases h3 : 3 ≤ t
  · by_cases hl : t - 3 < es.length
    all_goals
      go_enter Try.func101, Try.ntmps101
      go_wp2
      go_ret
      exact ⟨ret_bool (by simp [enuB, *]; try omega), rfl⟩
  · have e3 : decide (3 ≤ t) = false := by simpa using h3
    go_enter Try.func101, Try.ntmps101
    go_wp2
    go_ret
    exact ⟨ret_bool (by simp [enuB, *]; try omega), rfl⟩
theorem tagsOf_enu {es : List En} {k : Nat} {e : En} (he : es[k]? = some e) : tagsOf es ((k : Int) + 3) = e.tags := by
  have hk : k < es.length := (List.getElem?_eq_some_iff.1 he).1
  rw [tagsOf, if_neg (by omega), if_pos (by simp [enuB]; omega), show ((k : Int) + 3 - 3).toNat = k by omega, he]
  rfl
theorem tags_any (A : Option Addr) (c : Nat) (es : List En) (t : Int) (w : World) (hA : RdE w w.heap.size A es) (hl : es.length ≤ 9223372036854775807) (hti : t ≤ 9223372036854775807) :
    Calls Try.prog 99 #[.slice A es.length c, .int .i64 t] w (NewS (tagsOf es t) w) := by
  by_cases h1 : t = 1
  · subst h1
    go_enter Try.func99, Try.ntmps99
    go_wp2
    go_ret
    exact ⟨_, _, rfl, rd_alloc w #[.string sFalse, .string sTrue] _, bel_box _⟩
  have e1 : (t == 1) = false := by simp [h1]
  by_cases h3 : enuB es t = true
  · obtain ⟨k, rfl⟩ : ∃ k : Nat, t = k + 3 := ⟨(t - 3).toNat, by simp [enuB] at h3; omega⟩
    have hk : k < es.length := by simp [enuB] at h3; omega
    obtain ⟨ad, e, rfl, hb, he, hn, ht, hr⟩ := hA.at_ hk
    have HT := Lib.hid (tagsOf_enu he)
    have KE := Lib.hid (fun A c w => enum_any A c es ((k : Int) + 3) w hl hti)
    clear h1 hti
    go_enter Try.func99, Try.ntmps99
    go_wp2_with (go_at_call 101; refine (KE.out _ _ _).mono ?_; rintro e w' ⟨rfl, rfl⟩; rw [h3])
    go_ret
    refine ⟨e.A, e.c, ?_, ?_, Below.refl _ _⟩
    · rw [HT.out]; rfl
    · rw [HT.out]; exact hr
  · rw [Bool.not_eq_true] at h3
    have ht : tagsOf es t = [] := by rw [tagsOf, if_neg h1, if_neg (by simp [h3])]
    rw [ht]
    clear h1 ht
    go_enter Try.func99, Try.ntmps99
    go_wp2_with (go_at_call 101; refine (enum_any _ _ es _ _ hl hti).mono ?_; rintro e w' ⟨rfl, rfl⟩; rw [h3])
    go_ret
    exact ⟨none, 0, rfl, Rd.nil _ _ _, Below.refl _ _⟩
theorem size_any (A : Option Addr) (c : Nat) (es : List En) (t : Int) (w : World) (hA : RdE w w.heap.size A es) (hl : es.length ≤ 9223372036854775807) (hti : t ≤ 9223372036854775807) :
    Calls Try.prog 83 #[.slice A es.length c, .int .i64 t] w (Bel (.int .i64 (sizeT es t)) w) := by
  by_cases h1 : t = 2
  · subst h1
    go_enter Try.func83, Try.ntmps83
    go_wp2
    go_ret
    exact ⟨rfl, Below.refl _ _⟩
  · have e1 : (t == 2) = false := by simp [h1]
    have KT := Lib.hid (tags_any A c es t w hA hl hti)
    have KS : sizeT es t = (tagsOf es t).length := by rw [sizeT, if_neg h1]
    rw [KS]
    clear h1 KS hA hti
    go_enter Try.func83, Try.ntmps83
    go_wp2_with (go_at_call 99; refine KT.out.mono ?_; rintro e w' ⟨A', c', rfl, hr, hb⟩)
    go_ret
    exact ⟨rfl, hb⟩
theorem has_any (A : Option Addr) (c : Nat) (es : List En) (t v : Int) (w : World) (hA : RdE w w.heap.size A es) (hl : es.length ≤ 9223372036854775807) (hti : t ≤ 9223372036854775807) :
    Calls Try.prog 72 #[.slice A es.length c, .int .i64 t, .int .i64 v] w (Bel (.bool (hasB es t v)) w) := by
  by_cases h1 : t = 2
  · subst h1
    have hs : hasB es 2 v = (decide (-32768 ≤ v) && decide (v ≤ 32767)) := rfl
    rw [hs]
    clear hs
    go_enter Try.func72, Try.ntmps72
    go_wp2_with (go_at_call 82; refine (in_any _ _).mono ?_; rintro e w' ⟨rfl, rfl⟩)
    go_ret
    exact ⟨rfl, Below.refl _ _⟩
  · have e1 : (t == 2) = false := by simp [h1]
    have KT := Lib.hid (size_any A c es t w hA hl hti)
    have KS : hasB es t v = (decide (0 ≤ v) && decide (v < sizeT es t)) := by rw [hasB, if_neg h1]
    rw [KS]
    clear h1 KS hA hti
    by_cases h0 : 0 ≤ v
    · go_enter Try.func72, Try.ntmps72
      go_wp2_with (go_at_call 83; refine KT.out.mono ?_; rintro e w' ⟨rfl, hb⟩)
      go_ret
      exact ⟨ret_bool (by simp [h0]), hb⟩
    · have e0 : decide (0 ≤ v) = false := by simpa using h0
      go_enter Try.func72, Try.ntmps72
      go_wp2
      go_ret
      exact ⟨ret_bool (by simp [h0]), Below.refl _ _⟩
end Go.Proofs.Ytefmnjcllncmpaa
/- The operators on numbers: applyToOne, applyToTwo, compute; Apply and Result of both sides. -/
namespace Go.Proofs.Ytefmnjcllncmpaa
set_option linter.unusedVariables false
set_option linter.unusedSimpArgs false
open Go.RowKit
def okB (op x : Int) : Bool := if kOp op = 1 then x == 0 || x == 1 else if kOp op = 2 then decide (-32768 ≤ x) && decide (x ≤ 32767) else true
theorem ok01 {op x : Int} (h : okB op x = true) (hk : kOp op = 1) : x = 0 ∨ x = 1 := by
  rw [okB, if_pos hk] at h
  simpa using h
theorem ok16 {op x : Int} (h : okB op x = true) (hk : kOp op = 2) : -32768 ≤ x ∧ x ≤ 32767 := by
  rw [okB, if_neg (by omega), if_pos hk] at h
  simpa using h
def ap1 (op a : Int) : Int := if op = 1 then 1 - a else w16 (-a)
def ap2 (op a b : Int) : Int := if op = 3 then a * b else if op = 4 then b01 (decide (0 < a + b)) else if op = 5 then b01 (a != b) else if op = 6 then w16 (a + b) else if op = 7 then w16 (a - b) else if op = 8 then w16 (a * b) else if op = 9 then wdiv a b else if op = 10 then wmod a b else b01 (cmpB op a b)
theorem ap1_any (op a : Int) (w : World) (h : op = 1 ∨ op = 2) (ha : okB op a = true) : Calls Try.prog 73 #[.int .i64 op, .int .i64 a] w fun e w' => e = .returned (.int .i64 (ap1 op a)) ∧ w = w' := by
  rcases h with rfl | rfl
  · rcases ok01 ha (by decide) with rfl | rfl
    all_goals
      clear ha
      go_enter Try.func73, Try.ntmps73
      go_wp2
      go_ret
      exact ⟨rfl, rfl⟩
  · obtain ⟨h1, h2⟩ := ok16 ha (by decide)
    clear ha
    go_enter Try.func73, Try.ntmps73
    go_wp2_with (go_at_call 84; refine (neg_any _ _).mono ?_; rintro e w' ⟨rfl, rfl⟩)
    go_ret
    exact ⟨rfl, rfl⟩
theorem op2_cases {op : Int} (h : nOp op = 2) : op = 3 ∨ op = 4 ∨ op = 5 ∨ op = 6 ∨ op = 7 ∨ op = 8 ∨ op = 9 ∨ op = 10 ∨ op = 11 ∨ op = 12 ∨ op = 13 ∨ op = 14 ∨ op = 15 ∨ op = 16 := by
  unfold nOp at h
  split at h
  · omega
  · split at h <;> omega
theorem op1_cases {op : Int} (h : nOp op = 1) : op = 1 ∨ op = 2 := by
  unfold nOp at h
  split at h
  · assumption
  · split at h <;> omega
set_option maxHeartbeats 2000000 in
theorem ap2_any (op a b : Int) (w : World) (h : nOp op = 2) (ha : okB op a = true) (hb : okB op b = true) : Calls Try.prog 74 #[.int .i64 op, .int .i64 a, .int .i64 b] w fun e w' => e = .returned (.int .i64 (ap2 op a b)) ∧ w = w' := by
  have hc := op2_cases h
  clear h
  rcases hc with rfl | rfl | rfl | hc
  iterate 3
    focus
      rcases ok01 ha (by decide) with rfl | rfl
      all_goals
        rcases ok01 hb (by decide) with rfl | rfl
      all_goals
        clear ha hb
        go_enter Try.func74, Try.ntmps74
        go_wp2
        go_ret
        exact ⟨rfl, rfl⟩
  rcases hc with rfl | rfl | rfl | rfl | rfl | hc
  iterate 5
    focus
      clear ha hb
      go_enter Try.func74, Try.ntmps74
      go_wp2_with (first
        | (go_at_call 85; refine (add_any _ _ _).mono ?_; rintro e w' ⟨rfl, rfl⟩)
        | (go_at_call 86; refine (sub_any _ _ _).mono ?_; rintro e w' ⟨rfl, rfl⟩)
        | (go_at_call 87; refine (mul_any _ _ _).mono ?_; rintro e w' ⟨rfl, rfl⟩)
        | (go_at_call 88; refine (div_any _ _ _).mono ?_; rintro e w' ⟨rfl, rfl⟩)
        | (go_at_call 89; refine (mod_any _ _ _).mono ?_; rintro e w' ⟨rfl, rfl⟩))
      go_ret
      exact ⟨rfl, rfl⟩
  clear ha hb
  rcases hc with rfl | rfl | rfl | rfl | rfl | rfl
  all_goals
    go_enter Try.func74, Try.ntmps74
    go_wp2_with (first
      | (go_at_call 91; refine (compare_any _ _ _ _ (by decide)).mono ?_; rintro e w' ⟨rfl, rfl⟩)
      | (go_at_call 90; refine (truth_any _ _).mono ?_; rintro e w' ⟨rfl, rfl⟩))
    go_ret
    exact ⟨rfl, rfl⟩
end Go.Proofs.Ytefmnjcllncmpaa
/- Apply of the program. -/
namespace Go.Proofs.Ytefmnjcllncmpaa
set_option linter.unusedVariables false
set_option linter.unusedSimpArgs false
open Go.RowKit
def apE (op : Int) (xs : List Int) : Int := if nOp op = 0 then 2 else if nOp op = xs.length then (if xs.all (okB op) then 0 else 14) else 9
def apV (op : Int) (xs : List Int) : Int := if apE op xs = 0 then (if nOp op = 1 then ap1 op (xs.getD 0 0) else ap2 op (xs.getD 0 0) (xs.getD 1 0)) else 0
theorem nOp_cases (op : Int) : nOp op = 0 ∨ nOp op = 1 ∨ nOp op = 2 := by
  unfold nOp
  split
  · omega
  · split <;> omega
theorem kOp_cases (op : Int) : kOp op = 0 ∨ kOp op = 1 ∨ kOp op = 2 := by
  unfold kOp
  split
  · omega
  · split
    · omega
    · split <;> omega
theorem has_ok (op x : Int) (h : kOp op ≠ 0) : hasB [] (kOp op) x = okB op x := by
  rcases kOp_cases op with e | e | e
  · exact absurd e h
  · rw [okB, if_pos e, hasB, if_neg (by omega), e, sizeT, if_neg (by omega), tagsOf, if_pos rfl]
    by_cases h0 : x = 0
    · subst h0; rfl
    · by_cases h1 : x = 1
      · subst h1; rfl
      · have a : (x == 0) = false := by simp [h0]
        have b : (x == 1) = false := by simp [h1]
        rw [a, b]
        simp
        omega
  · rw [okB, if_neg (by omega), if_pos e, hasB, if_pos e]
theorem ok_free (op x : Int) (h : kOp op = 0) : okB op x = true := by
  rw [okB, if_neg (by omega), if_neg (by omega)]
theorem box3 {w W : World} {x y z : Value} {t : TypeId} (hb : Below (w.alloc (.cells #[x, y, z] t)).heap.size (w.alloc (.cells #[x, y, z] t)) W) : W.cell? ⟨w.heap.size, 0, none⟩ = some x ∧ W.cell? ⟨w.heap.size, 1, none⟩ = some y ∧ W.cell? ⟨w.heap.size, 2, none⟩ = some z := by
  have h := fun i => cell_of_row (w.alloc (.cells #[x, y, z] t)) w.heap.size i #[x, y, z] t (0, 0) (heap_alloc_new w _)
  exact ⟨(hb.cell (p := ⟨w.heap.size, 0, none⟩) (by simp)).trans (h 0), (hb.cell (p := ⟨w.heap.size, 1, none⟩) (by simp)).trans (h 1), (hb.cell (p := ⟨w.heap.size, 2, none⟩) (by simp)).trans (h 2)⟩
theorem arity_at (op n v : Int) (h : (if nOp op = 0 then 2 else if nOp op = n then 0 else 9) = v) (w : World) : Calls Try.prog 71 #[.agg #[.int .i64 (nOp op), .int .i64 (kOp op), .int .i64 (tOp op)], .int .i64 n] w (Bel (.int .i64 v) w) := by
  rw [← h]
  exact arity_any op n w
theorem rules_at (op : Int) (w : World) : Calls Try.prog 70 #[.int .i64 op] w (Bel (.agg #[.int .i64 (nOp op), .int .i64 (kOp op), .int .i64 (tOp op)]) w) := rules_any op w
theorem apply_bad (A : Option Addr) (c : Nat) (op : Int) (xs : List Int) (w : World) (hl : xs.length ≤ 9223372036854775807) (h : nOp op = 0 ∨ nOp op ≠ xs.length) :
    Calls Try.prog 63 #[.int .i64 op, .slice A xs.length c] w (Bel (.tuple #[.int .i64 (apV op xs), .int .i64 (apE op xs)]) w) := by
  obtain ⟨v, hv, hv2⟩ : ∃ v : Int, (if nOp op = 0 then 2 else if nOp op = xs.length then 0 else 9) = v ∧ (v = 2 ∨ v = 9) := by
    by_cases h0 : nOp op = 0
    · exact ⟨2, by rw [if_pos h0], .inl rfl⟩
    · exact ⟨9, by rw [if_neg h0, if_neg (by omega)], .inr rfl⟩
  have he : apE op xs = v := by
    rw [apE, ← hv]
    by_cases h0 : nOp op = 0
    · rw [if_pos h0, if_pos h0]
    · rw [if_neg h0, if_neg h0, if_neg (by omega), if_neg (by omega)]
  have ha : apV op xs = 0 := by rw [apV, he, if_neg (by omega)]
  rw [he, ha]
  have KA := Lib.hid (arity_at op xs.length v hv)
  have KR := Lib.hid (rules_at op)
  clear hv he ha h
  rcases hv2 with rfl | rfl
  all_goals
    go_enter Try.func63, Try.ntmps63
    go_wp2_with (first
      | (go_at_call 70; refine (KR.out _).mono ?_; rintro e w1 ⟨rfl, hb1⟩)
      | (go_at_call 71; refine (KA.out _).mono ?_; rintro e w2 ⟨rfl, hb2⟩))
    go_ret2
    exact ⟨rfl, (by repeat (first | (with_reducible exact Below.refl _ _) | (with_reducible assumption) | (with_reducible exact bel_box _) | (with_reducible refine bel_step ?_ (by with_reducible assumption)) | (with_reducible refine Below.drew ?_) | (with_reducible refine below_drewN ?_ _) | (with_reducible refine bel_alloc ?_ _)))⟩
theorem all_take_succ {α : Type} {p : α → Bool} {l : List α} {k : Nat} {x : α} (h : l[k]? = some x) : (l.take (k + 1)).all p = ((l.take k).all p && p x) := by
  rw [take_succ_of h]; simp
theorem all_bad {α : Type} {p : α → Bool} {l : List α} {k : Nat} {x : α} (h : l[k]? = some x) (hx : p x = false) : l.all p = false := by
  rw [List.all_eq_false]
  exact ⟨x, List.mem_of_getElem? h, by simp [hx]⟩
theorem add_one' (ad : Addr) : ad.add 1 = ⟨ad.block, ad.off + 1, none⟩ := by simp [Addr.add]
theorem len2 {α : Type} : ∀ {l : List α}, l.length = 2 → ∃ x y, l = [x, y]
  | [x, y], _ => ⟨x, y, rfl⟩
set_option maxHeartbeats 2000000 in
theorem apply_good (A : Option Addr) (c : Nat) (op : Int) (xs : List Int) (w : World) (hA : Rd w w.heap.size A (is_ xs)) (h0 : nOp op ≠ 0) (h : nOp op = xs.length) :
    Calls Try.prog 63 #[.int .i64 op, .slice A xs.length c] w (Bel (.tuple #[.int .i64 (apV op xs), .int .i64 (apE op xs)]) w) := by
  have he : apE op xs = if xs.all (okB op) then 0 else 14 := by rw [apE, if_neg h0, if_pos h]
  have hc := nOp_cases op
  have hl2 : xs.length = 1 ∨ xs.length = 2 := by omega
  have KA := Lib.hid (arity_at op xs.length 0 (by rw [if_neg h0, if_pos h]))
  have KR := Lib.hid (rules_at op)
  have KH := Lib.hid (fun t v w (ht : t ≤ 9223372036854775807) => (show Calls Try.prog 72 #[.slice none 0 0, .int .i64 t, .int .i64 v] w (Bel (.bool (hasB [] t v)) w) from has_any none 0 [] t v w (RdE.nil _ _ _) (by decide) ht))
  have HA := Lib.hid hA
  have HN := Lib.hid h
  have HE := Lib.hid he
  have H0 := Lib.hid h0
  have HC := Lib.hid hc
  clear hA h he h0 hc
  go_enter Try.func63, Try.ntmps63
  go_wp2_with (first
    | (go_at_call 70; refine (KR.out _).mono ?_; rintro e w1 ⟨rfl, hb1⟩)
    | (go_at_call 71; refine (KA.out _).mono ?_; rintro e w2 ⟨rfl, hb2⟩))
  go_loopw [21] (fun i wr => ∃ k : Nat, k ≤ xs.length ∧ i = .int .i64 k ∧ Hid ((xs.take k).all (okB op) = true) ∧ Below (w1.alloc (.cells #[.int .i64 (nOp op), .int .i64 (kOp op), .int .i64 (tOp op)] 84)).heap.size (w1.alloc (.cells #[.int .i64 (nOp op), .int .i64 (kOp op), .int .i64 (tOp op)] 84)) wr) (fun i _ => xs.length - (intOf i).toNat)
  case atStart => exact ⟨0, by omega, rfl, Lib.hid (by simp), hb2⟩
  case round =>
    obtain ⟨k, hk, rfl, hall, hbl⟩ := hrel
    obtain ⟨s1, s2, s3⟩ := box3 hbl
    have hbw : Below w.heap.size w wr := (by repeat (first | (with_reducible exact Below.refl _ _) | (with_reducible assumption) | (with_reducible exact bel_box _) | (with_reducible refine bel_step ?_ (by with_reducible assumption)) | (with_reducible refine Below.drew ?_) | (with_reducible refine below_drewN ?_ _) | (with_reducible refine bel_alloc ?_ _)))
    by_cases hlt : k < xs.length
    · obtain ⟨ad, x, rfl, hadb, hx, hcx⟩ := (HA.out.to hbw).int_at hlt
      by_cases hk0 : kOp op = 0
      · have ek : (kOp op != 0) = false := by simp [hk0]
        have HX := Lib.hid (ok_free op x hk0)
        clear hk0
        go_wp2
        go_roundw
        case rel => exact ⟨k + 1, by omega, by go_num, Lib.hid (by rw [all_take_succ hx, hall.out, HX.out]; rfl), hbl⟩
        case measure => simp [intOf]; omega
      · have ek : (kOp op != 0) = true := by simp [hk0]
        have kb : kOp op ≤ 9223372036854775807 := by have := kOp_cases op; omega
        have KHk := Lib.hid (fun w => KH.out (kOp op) x w kb)
        have hok := has_ok op x hk0
        clear hk0 kb
        rw [hok] at KHk
        clear hok
        by_cases hxo : okB op x = true
        · have HX := Lib.hid hxo
          rw [hxo] at KHk
          clear hxo
          go_wp2_with (go_at_call 72; refine (KHk.out _).mono ?_; rintro e w3 ⟨rfl, hb3⟩)
          go_roundw
          case rel => exact ⟨k + 1, by omega, by go_num, Lib.hid (by rw [all_take_succ hx, hall.out, HX.out]; rfl), hbl.trans (hb3.mono hbl.size)⟩
          case measure => simp [intOf]; omega
        · rw [Bool.not_eq_true] at hxo
          have HX := Lib.hid (all_bad hx hxo)
          rw [hxo] at KHk
          clear hxo
          go_wp2_with (go_at_call 72; refine (KHk.out _).mono ?_; rintro e w3 ⟨rfl, hb3⟩)
          have e2 : apE op xs = 14 := by rw [HE.out, HX.out]; rfl
          have e3 : apV op xs = 0 := by rw [apV, e2, if_neg (by omega)]
          rw [e2, e3]
          go_ret2
          exact ⟨rfl, (by repeat (first | (with_reducible exact Below.refl _ _) | (with_reducible assumption) | (with_reducible exact bel_box _) | (with_reducible refine bel_step ?_ (by with_reducible assumption)) | (with_reducible refine Below.drew ?_) | (with_reducible refine below_drewN ?_ _) | (with_reducible refine bel_alloc ?_ _)))⟩
    · have hall2 : xs.all (okB op) = true := by have := hall.out; rwa [List.take_of_length_le (by omega)] at this
      have e2 : apE op xs = 0 := by rw [HE.out, hall2]; rfl
      rcases hl2 with h1 | h2
      · obtain ⟨x, rfl⟩ : ∃ x, xs = [x] := List.length_eq_one_iff.1 h1
        have hn1 : nOp op = 1 := HN.out
        have e3 : apV op [x] = ap1 op x := by rw [apV, e2, if_pos rfl, if_pos hn1]; rfl
        obtain ⟨ad, y, rfl, hadb, hx, hcx⟩ := (HA.out.to hbw).int_at (k := 0) (by simp)
        obtain rfl : x = y := by simpa using hx
        have K1 := Lib.hid (fun w => ap1_any op x w (op1_cases hn1) (by simpa using hall2))
        have EE := Lib.hid (And.intro e2 e3)
        rw [add_zero'] at hcx
        have hn1b : (nOp op == 1) = true := by simp [hn1]
        obtain rfl : k = 1 := by simp at hlt hk; omega
        clear hn1 e2 e3 hall2 hx h1 hall hk hlt
        go_wp2_with (go_at_call 73; refine (K1.out _).mono ?_; rintro e w3 ⟨rfl, rfl⟩)
        go_ret2
        exact ⟨by rw [EE.out.1, EE.out.2]; rfl, hbw⟩
      · obtain ⟨x, y, rfl⟩ : ∃ x y, xs = [x, y] := len2 h2
        have hn1 : nOp op = 2 := HN.out
        have e3 : apV op [x, y] = ap2 op x y := by rw [apV, e2, if_pos rfl, if_neg (by omega)]; rfl
        obtain ⟨ad, x', rfl, hadb, hx, hcx⟩ := (HA.out.to hbw).int_at (k := 0) (by simp)
        obtain rfl : x = x' := by simpa using hx
        obtain ⟨ad', y', e4, _, hy, hcy⟩ := (HA.out.to hbw).int_at (k := 1) (by simp)
        obtain rfl : ad = ad' := by injection e4
        obtain rfl : y = y' := by simpa using hy
        have K1 := Lib.hid (fun w => ap2_any op x y w hn1 (by simp at hall2; exact hall2.1) (by simp at hall2; exact hall2.2))
        have EE := Lib.hid (And.intro e2 e3)
        rw [add_zero'] at hcx
        have hcy2 := hcy
        rw [add_one'] at hcy2
        have hn1b : (nOp op == 1) = false := by simp [hn1]
        obtain rfl : k = 2 := by simp at hlt hk; omega
        clear hn1 e2 e3 hall2 hx hy e4 h2 hall hk hlt
        go_wp2
        go_quiet ((go_at_call 74; exact Calls.quiet_of_same ((K1.out _).mono fun _ _ h => ⟨h.1, h.2.symm⟩)))
        go_wp2
        go_ret2
        exact ⟨by rw [EE.out.1, EE.out.2]; rfl, (by repeat (first | (with_reducible exact Below.refl _ _) | (with_reducible assumption) | (with_reducible exact bel_box _) | (with_reducible refine bel_step ?_ (by with_reducible assumption)) | (with_reducible refine Below.drew ?_) | (with_reducible refine below_drewN ?_ _) | (with_reducible refine bel_alloc ?_ _)))⟩
theorem apply_any (A : Option Addr) (c : Nat) (op : Int) (xs : List Int) (w : World) (hA : Rd w w.heap.size A (is_ xs)) (hl : xs.length ≤ 9223372036854775807) :
    Calls Try.prog 63 #[.int .i64 op, .slice A xs.length c] w (Bel (.tuple #[.int .i64 (apV op xs), .int .i64 (apE op xs)]) w) := by
  by_cases h0 : nOp op = 0
  · exact apply_bad A c op xs w hl (.inl h0)
  · by_cases h : nOp op = xs.length
    · exact apply_good A c op xs w hA h0 h
    · exact apply_bad A c op xs w hl (.inr h)
end Go.Proofs.Ytefmnjcllncmpaa
/- Lift of the program. -/
namespace Go.Proofs.Ytefmnjcllncmpaa
set_option linter.unusedVariables false
set_option linter.unusedSimpArgs false
open Go.RowKit
/-- A reads as cells (kind, value), two memory cells each, below B -/
def RdC (w : World) (B : Nat) (A : Option Addr) (l : List (Int × Int)) : Prop :=
  l ≠ [] → ∃ ad, A = some ad ∧ ad.block < B ∧ ∀ (i : Nat) (c : Int × Int), l[i]? = some c → w.cell? (ad.add (i * 2)) = some (.int .i64 c.1) ∧ w.cell? (ad.add (i * 2 + 1)) = some (.int .i64 c.2)
theorem RdC.keep {w w' : World} {B : Nat} {A : Option Addr} {l : List (Int × Int)} (h : RdC w B A l) (hk : ∀ p : Addr, p.block < B → w'.cell? p = w.cell? p) : RdC w' B A l := fun hn => by
  obtain ⟨ad, e, hb, hc⟩ := h hn
  exact ⟨ad, e, hb, fun i x hx => ⟨(hk _ (by rw [add_block]; exact hb)).trans (hc i x hx).1, (hk _ (by rw [add_block]; exact hb)).trans (hc i x hx).2⟩⟩
theorem RdC.more {w : World} {B B' : Nat} {A : Option Addr} {l : List (Int × Int)} (h : RdC w B A l) (hB : B ≤ B') : RdC w B' A l := fun hn => by
  obtain ⟨ad, e, hb, hc⟩ := h hn
  exact ⟨ad, e, by omega, hc⟩
theorem RdC.to {w W : World} {A : Option Addr} {l : List (Int × Int)} (h : RdC w w.heap.size A l) (hb : Below w.heap.size w W) : RdC W W.heap.size A l := (h.keep fun _ hp => hb.cell hp).more hb.size
theorem RdC.at_ {w : World} {B : Nat} {A : Option Addr} {l : List (Int × Int)} (h : RdC w B A l) {k : Nat} (hk : k < l.length) :
    ∃ ad e, A = some ad ∧ ad.block < B ∧ l[k]? = some e ∧ w.cell? (ad.add (k * 2)) = some (.int .i64 e.1) ∧ w.cell? ⟨(ad.add (k * 2)).block, (ad.add (k * 2)).off + 1, none⟩ = some (.int .i64 e.2) := by
  have he : l[k]? = some l[k] := List.getElem?_eq_getElem hk
  obtain ⟨ad, e, hb, hc⟩ := h (by rintro rfl; simp at hk)
  exact ⟨ad, _, e, hb, he, (hc k _ he).1, by rw [← add_fld]; exact (hc k _ he).2⟩
def badK (l : List (Int × Int)) : Bool := l.any fun c => c.1 != 1 && c.1 != 2
def undK (l : List (Int × Int)) : Bool := l.any fun c => c.1 == 2
def lifK (op : Int) (l : List (Int × Int)) : Int := if badK l then 0 else if undK l || apE op (l.map (·.2)) != 0 then 2 else 1
def lifV (op : Int) (l : List (Int × Int)) : Int := if badK l then 0 else if undK l || apE op (l.map (·.2)) != 0 then 0 else apV op (l.map (·.2))
/-- block g is just this row of cells, and can be written -/
def Bk (w : World) (g : Nat) (t : TypeId) (cs : Array Value) : Prop := w.heap[g]? = some (.cells cs t (0, 0))
section
variable {w w' : World} {g : Nat} {t : TypeId} {cs : Array Value}
theorem Bk.lt (h : Bk w g t cs) : g < w.heap.size := (Array.getElem?_eq_some_iff.1 h).1
theorem Bk.cell (h : Bk w g t cs) (i : Nat) : w.cell? ⟨g, i, none⟩ = cs[i]? := cell_of_row w g i cs t (0, 0) h
theorem Bk.frozen (h : Bk w g t cs) (i : Nat) : w.frozen? ⟨g, i, none⟩ = false := by
  have e : w.heap[g]? = some (.cells cs t (0, 0)) := h
  simp only [World.frozen?, e]
  simp
theorem Bk.new (w : World) (t : TypeId) (cs : Array Value) : Bk (w.alloc (.cells cs t)) w.heap.size t cs := heap_alloc_new w _
theorem Bk.alloc (h : Bk w g t cs) (o : Obj) : Bk (w.alloc o) g t cs := (Below.heap_alloc w o g h.lt).trans h
theorem Bk.set_ (h : Bk w g t cs) (i : Nat) (u : Value) : Bk (w.setCell ⟨g, i, none⟩ u) g t (cs.setIfInBounds i u) := by
  have e : w.heap[g]? = some (.cells cs t (0, 0)) := h
  show (w.setCell ⟨g, i, none⟩ u).heap[g]? = _
  simp only [World.setCell, Array.getElem?_modify, e]
  simp
theorem Bk.far (h : Bk w g t cs) {p : Addr} (hp : g ≠ p.block) (u : Value) : Bk (w.setCell p u) g t cs := (Below.heap_setCell w p u g hp).trans h
theorem Bk.below {B : Nat} (h : Bk w g t cs) (hb : Below B w w') (hg : g < B) : Bk w' g t cs := (hb.block g hg).trans h
end
def vals (l : List (Int × Int)) (k : Nat) : List Int := l.mapIdx fun j c => if j < k then (if c.1 = 1 then c.2 else 0) else 0
theorem vals_length (l : List (Int × Int)) (k : Nat) : (vals l k).length = l.length := by simp [vals]
theorem vals_get (l : List (Int × Int)) (k j : Nat) : (vals l k)[j]? = l[j]?.map fun c => if j < k then (if c.1 = 1 then c.2 else 0) else 0 := by simp [vals, List.getElem?_mapIdx]
theorem vals_zero (l : List (Int × Int)) : (is_ (vals l 0)).toArray = madeCells #[.int .i64 0] l.length := by
  apply Array.ext_getElem?
  intro j
  rw [List.getElem?_toArray, is_, List.getElem?_map, vals_get]
  by_cases h : j < l.length
  · simp [madeCells, h, List.getElem?_eq_getElem h, Nat.mod_one]
  · simp [madeCells, h, List.getElem?_eq_none (Nat.le_of_not_lt h)]
theorem vals_end (l : List (Int × Int)) : vals l l.length = l.map fun c => if c.1 = 1 then c.2 else 0 := by
  apply List.ext_getElem?
  intro j
  rw [vals_get, List.getElem?_map]
  by_cases h : j < l.length
  · simp [h]
  · rw [List.getElem?_eq_none (Nat.le_of_not_lt h)]; rfl
theorem vals_keep {l : List (Int × Int)} {k : Nat} {e : Int × Int} (he : l[k]? = some e) (h1 : e.1 ≠ 1) : vals l (k + 1) = vals l k := by
  apply List.ext_getElem?
  intro j
  rw [vals_get, vals_get]
  rcases Nat.lt_trichotomy j k with h | h | h
  · simp [h, Nat.lt_succ_of_lt h]
  · subst h; rw [he]; simp [h1]
  · have a1 : ¬ j < k + 1 := by omega
    have a2 : ¬ j < k := by omega
    simp [a1, a2]
theorem vals_set {l : List (Int × Int)} {k : Nat} {e : Int × Int} (he : l[k]? = some e) (h1 : e.1 = 1) : ((is_ (vals l k)).toArray.setIfInBounds k (.int .i64 e.2)) = (is_ (vals l (k + 1))).toArray := by
  have hk : k < l.length := (List.getElem?_eq_some_iff.1 he).1
  apply Array.ext_getElem?
  intro j
  rw [Array.getElem?_setIfInBounds, List.getElem?_toArray, List.getElem?_toArray, is_, List.getElem?_map, is_, List.getElem?_map, vals_get, vals_get]
  by_cases h : k = j
  · subst h
    rw [he]
    simp [h1, vals_length, hk]
  · rw [if_neg h]
    rcases Nat.lt_or_gt_of_ne h with h2 | h2
    · have a1 : ¬ j < k + 1 := by omega
      have a2 : ¬ j < k := by omega
      simp [a1, a2]
    · simp [h2, Nat.lt_succ_of_lt h2]
theorem intInfo : (Try.prog.info? 3).map (fun i => (i.zero, i.size, i.bytes)) = some (some (.int .i64 0), 1, 8) := by kernel_rfl
set_option maxHeartbeats 2000000 in
theorem lift_any (A : Option Addr) (c : Nat) (op : Int) (l : List (Int × Int)) (w : World) (hA : RdC w w.heap.size A l) (hl : l.length ≤ 100) :
    Calls Try.prog 36 #[.int .i64 op, .slice A l.length c] w (Bel (.agg #[.int .i64 (lifK op l), .int .i64 (lifV op l)]) w) := by
  have HA := Lib.hid hA
  clear hA
  have hmk := run_make_row' (P := Try.prog) 40 3 (.int .i64 0) 8 Try.underlying40 intInfo rfl .i64 .i64 l.length (by omega) (by omega)
  go_enter Try.func36, Try.ntmps36
  go_wp2
  go_loopw [6, 16] (fun d i wr => ∃ k : Nat, k ≤ l.length ∧ i = .int .i64 k ∧ d = .bool (!undK (l.take k)) ∧ Hid (badK (l.take k) = false) ∧ Hid (Bk wr w.heap.size 46 #[.int .i64 0, .int .i64 0] ∧ Bk wr (w.heap.size + 1) 3 (is_ (vals l k)).toArray) ∧ Below w.heap.size w wr) (fun _ i _ => l.length - (intOf i).toNat)
  case atStart =>
    refine ⟨0, by omega, rfl, rfl, Lib.hid rfl, Lib.hid ⟨?_, ?_⟩, (by repeat (first | (with_reducible exact Below.refl _ _) | (with_reducible assumption) | (with_reducible exact bel_box _) | (with_reducible refine bel_step ?_ (by with_reducible assumption)) | (with_reducible refine Below.drew ?_) | (with_reducible refine below_drewN ?_ _) | (with_reducible refine bel_alloc ?_ _)))⟩
    · exact (Bk.new _ _ _).alloc _
    · rw [vals_zero]
      have h := Bk.new (w.alloc (.cells #[.int .i64 0, .int .i64 0] 46)) 3 (madeCells #[.int .i64 0] l.length)
      rwa [World.size_alloc] at h
  case round =>
    obtain ⟨k, hk, rfl, rfl, hbad, hblk, hbl⟩ := hrel
    by_cases hlt : k < l.length
    · obtain ⟨ad, e, rfl, hadb, he, hc1, hc2⟩ := (HA.out.to hbl).at_ hlt
      have hbk := hblk.out.2.alloc (.cells #[.int .i64 e.1, .int .i64 e.2] 46)
      have sf := hbk.frozen k
      have sc : (wr.alloc (.cells #[.int .i64 e.1, .int .i64 e.2] 46)).cell? ⟨w.heap.size + 1, k, none⟩ = some (.int .i64 ((vals l k)[k]'(by rw [vals_length]; exact hlt))) := by
        rw [hbk.cell k, List.getElem?_toArray]; exact is_get (List.getElem?_eq_getElem _)
      have hbx := hblk.out.1.alloc (.cells #[.int .i64 e.1, .int .i64 e.2] 46)
      have HBX := Lib.hid hbx
      have HBK := Lib.hid hbk
      have hbad2 : badK (l.take (k + 1)) = (badK (l.take k) || (e.1 != 1 && e.1 != 2)) := by rw [badK, take_succ_of he, List.any_append]; simp [badK]
      have hund2 : undK (l.take (k + 1)) = (undK (l.take k) || (e.1 == 2)) := by rw [undK, take_succ_of he, List.any_append]; simp [undK]
      have HB2 := Lib.hid hbad2
      have HU2 := Lib.hid hund2
      clear hbk hbx hbad2 hund2
      by_cases e1 : e.1 = 1
      · have VS := Lib.hid (vals_set he e1)
        have e1b : (e.1 == 1) = true := by simp [e1]
        have E1 := Lib.hid e1
        clear e1
        go_wp2
        go_roundw
        case rel =>
          refine ⟨k + 1, by omega, by go_num, ?_, Lib.hid ?_, Lib.hid ⟨?_, ?_⟩, ?_⟩
          · rw [HU2.out, E1.out]; simp
          · rw [HB2.out, hbad.out, E1.out]; rfl
          · exact HBX.out.far (p := ⟨w.heap.size + 1, k, none⟩) (by simp) _
          · rw [← VS.out]; exact HBK.out.set_ k _
          · exact (hbl.alloc hbl.size _).setCell (p := ⟨w.heap.size + 1, k, none⟩) (by simp) _
        case measure => simp [intOf]; omega
      · have VS := Lib.hid (vals_keep he e1)
        have e1b : (e.1 == 1) = false := by simp [e1]
        have E1 := Lib.hid e1
        clear e1
        by_cases e2 : e.1 = 2
        · have e2b : (e.1 == 2) = true := by simp [e2]
          have E2 := Lib.hid e2
          clear e2
          go_wp2
          go_roundw
          case rel =>
            refine ⟨k + 1, by omega, by go_num, ?_, Lib.hid ?_, Lib.hid ⟨?_, ?_⟩, ?_⟩
            · rw [HU2.out, E2.out]; simp
            · rw [HB2.out, hbad.out, E2.out]; rfl
            · exact HBX.out
            · rw [VS.out]; exact HBK.out
            · exact hbl.alloc hbl.size _
          case measure => simp [intOf]; omega
        · have e2b : (e.1 == 2) = false := by simp [e2]
          have E2 := Lib.hid e2
          have hbb : badK l = true := by
            rw [badK, List.any_eq_true]
            exact ⟨e, List.mem_of_getElem? he, by simp [E1.out, e2]⟩
          have HK : Hid (lifK op l = 0 ∧ lifV op l = 0) := Lib.hid ⟨by rw [lifK, if_pos hbb], by rw [lifV, if_pos hbb]⟩
          have r0 : (wr.alloc (.cells #[.int .i64 e.1, .int .i64 e.2] 46)).cell? ⟨w.heap.size, 0, none⟩ = some (.int .i64 0) := HBX.out.cell 0
          have r1 : (wr.alloc (.cells #[.int .i64 e.1, .int .i64 e.2] 46)).cell? ⟨w.heap.size, 1, none⟩ = some (.int .i64 0) := HBX.out.cell 1
          have f0 := HBX.out.frozen 0
          have f1 := HBX.out.frozen 1
          clear e2 hbb
          go_wp2
          obtain ⟨t1, t2⟩ := set2_cells r0 r1 (.int .i64 0) (.int .i64 0)
          refine bodyPost_ret (v := .agg #[.int .i64 0, .int .i64 0]) (by simp [results, Try.results36, go_sem, t1, t2]) rfl ⟨by rw [HK.out.1, HK.out.2], bel_set2 (hbl.alloc hbl.size _) (Nat.le_refl _) _ _⟩
    · have hkl : k = l.length := by omega
      subst hkl
      have hbad2 : badK l = false := by have := hbad.out; rwa [List.take_length] at this
      have hb0 := hblk.out.1
      have hb1 : Rd wr wr.heap.size (some ⟨w.heap.size + 1, 0, none⟩) (is_ (vals l l.length)) := fun _ => ⟨_, rfl, hblk.out.2.lt, fun j u hu => by
        rw [add_off, hblk.out.2.cell j, List.getElem?_toArray]; exact hu⟩
      have KA := Lib.hid (apply_any (some ⟨w.heap.size + 1, 0, none⟩) l.length op (vals l l.length) wr hb1 (by rw [vals_length]; omega))
      rw [vals_length] at KA
      have HB0 := Lib.hid hb0
      have hw := hb0.lt
      have HBad := Lib.hid hbad2
      rw [List.take_length]
      clear hbad hblk hb0 hb1 hbad2 hk hlt hmk
      have hall : badK l = false → undK l = false → vals l l.length = l.map (·.2) := fun hb hu => by
        rw [vals_end]
        apply List.map_congr_left
        intro c hc
        have h1 := (List.any_eq_false.1 hb) c hc
        have h2 := (List.any_eq_false.1 hu) c hc
        have : c.1 = 1 := by simp at h1 h2; omega
        rw [if_pos this]
      cases hu : undK l
      · have hv := hall HBad.out hu
        rw [hv] at KA
        by_cases ha : apE op (l.map (·.2)) = 0
        · have HK : Hid (lifK op l = 1 ∧ lifV op l = apV op (l.map (·.2))) := Lib.hid ⟨by rw [lifK, HBad.out, hu, ha]; rfl, by rw [lifV, HBad.out, hu, ha]; rfl⟩
          rw [ha] at KA
          clear hu hall hv ha
          go_wp2_with (go_at_call 63; refine KA.out.mono ?_; rintro e w2 ⟨rfl, hb2⟩; have r0 := (hb2.cell (p := ⟨w.heap.size, 0, none⟩) hw).trans (HB0.out.cell 0); have r1 := (hb2.cell (p := ⟨w.heap.size, 1, none⟩) hw).trans (HB0.out.cell 1); have f0 := (hb2.frozen (p := ⟨w.heap.size, 0, none⟩) hw).trans (HB0.out.frozen 0); have f1 := (hb2.frozen (p := ⟨w.heap.size, 1, none⟩) hw).trans (HB0.out.frozen 1); simp at r0 r1)
          obtain ⟨t1, t2⟩ := set2_cells r0 r1 (.int .i64 1) (.int .i64 (apV op (l.map (·.2))))
          refine bodyPost_ret (v := .agg #[.int .i64 1, .int .i64 (apV op (l.map (·.2)))]) (by simp [results, Try.results36, go_sem, t1, t2]) rfl ⟨by rw [HK.out.1, HK.out.2], bel_set2 (by repeat (first | (with_reducible exact Below.refl _ _) | (with_reducible assumption) | (with_reducible exact bel_box _) | (with_reducible refine bel_step ?_ (by with_reducible assumption)) | (with_reducible refine Below.drew ?_) | (with_reducible refine below_drewN ?_ _) | (with_reducible refine bel_alloc ?_ _))) (Nat.le_refl _) _ _⟩
        · have HK : Hid (lifK op l = 2 ∧ lifV op l = 0) := Lib.hid ⟨by rw [lifK, HBad.out, hu]; simp [ha], by rw [lifV, HBad.out, hu]; simp [ha]⟩
          have hab : (apE op (l.map (·.2)) != 0) = true := by simpa using ha
          clear hu hall hv ha
          go_wp2_with (go_at_call 63; refine KA.out.mono ?_; rintro e w2 ⟨rfl, hb2⟩; have r0 := (hb2.cell (p := ⟨w.heap.size, 0, none⟩) hw).trans (HB0.out.cell 0); have r1 := (hb2.cell (p := ⟨w.heap.size, 1, none⟩) hw).trans (HB0.out.cell 1); have f0 := (hb2.frozen (p := ⟨w.heap.size, 0, none⟩) hw).trans (HB0.out.frozen 0); have f1 := (hb2.frozen (p := ⟨w.heap.size, 1, none⟩) hw).trans (HB0.out.frozen 1); simp at r0 r1)
          obtain ⟨t1, t2⟩ := set2_cells r0 r1 (.int .i64 2) (.int .i64 0)
          refine bodyPost_ret (v := .agg #[.int .i64 2, .int .i64 0]) (by simp [results, Try.results36, go_sem, t1, t2]) rfl ⟨by rw [HK.out.1, HK.out.2], bel_set2 (by repeat (first | (with_reducible exact Below.refl _ _) | (with_reducible assumption) | (with_reducible exact bel_box _) | (with_reducible refine bel_step ?_ (by with_reducible assumption)) | (with_reducible refine Below.drew ?_) | (with_reducible refine below_drewN ?_ _) | (with_reducible refine bel_alloc ?_ _))) (Nat.le_refl _) _ _⟩
      · have HK : Hid (lifK op l = 2 ∧ lifV op l = 0) := Lib.hid ⟨by rw [lifK, HBad.out, hu]; rfl, by rw [lifV, HBad.out, hu]; rfl⟩
        clear hu hall
        go_wp2_with (go_at_call 63; refine KA.out.mono ?_; rintro e w2 ⟨rfl, hb2⟩; have r0 := (hb2.cell (p := ⟨w.heap.size, 0, none⟩) hw).trans (HB0.out.cell 0); have r1 := (hb2.cell (p := ⟨w.heap.size, 1, none⟩) hw).trans (HB0.out.cell 1); have f0 := (hb2.frozen (p := ⟨w.heap.size, 0, none⟩) hw).trans (HB0.out.frozen 0); have f1 := (hb2.frozen (p := ⟨w.heap.size, 1, none⟩) hw).trans (HB0.out.frozen 1); simp at r0 r1)
        obtain ⟨t1, t2⟩ := set2_cells r0 r1 (.int .i64 2) (.int .i64 0)
        refine bodyPost_ret (v := .agg #[.int .i64 2, .int .i64 0]) (by simp [results, Try.results36, go_sem, t1, t2]) rfl ⟨by rw [HK.out.1, HK.out.2], bel_set2 (by repeat (first | (with_reducible exact Below.refl _ _) | (with_reducible assumption) | (with_reducible exact bel_box _) | (with_reducible refine bel_step ?_ (by with_reducible assumption)) | (with_reducible refine Below.drew ?_) | (with_reducible refine below_drewN ?_ _) | (with_reducible refine bel_alloc ?_ _))) (Nat.le_refl _) _ _⟩
end Go.Proofs.Ytefmnjcllncmpaa
/- Lift of the reference. -/
namespace Go.Proofs.Ytefmnjcllncmpaa
set_option linter.unusedVariables false
set_option linter.unusedSimpArgs false
open Go.RowKit
theorem cell_one_new' (w : World) (u : Value) (t : TypeId) : ∀ j v, [u][j]? = some v → (w.alloc (.cells #[u] t)).cell? ((⟨w.heap.size, 0, none⟩ : Addr).add j) = some v := by
  intro j v hj
  rw [add_off, cell_of_row _ _ j #[u] t (0, 0) (heap_alloc_new w _), ← hj]
  simp
end Go.Proofs.Ytefmnjcllncmpaa
/- Cells: what they count as, whether they are there; the small functions of both sides. -/
namespace Go.Proofs.Ytefmnjcllncmpaa
set_option linter.unusedVariables false
set_option linter.unusedSimpArgs false
open Go.RowKit
def cV (c : Int × Int) : Value := .agg #[.int .i64 c.1, .int .i64 c.2]
def thB (c : Int × Int) : Bool := c.1 == 1 || c.1 == 2
def pl (c : Int × Int) : Int × Int := if c.1 = 1 then c else if c.1 = 2 then (2, 0) else (0, 0)
theorem box2 {w W : World} {x y : Value} {t : TypeId} (hb : Below (w.alloc (.cells #[x, y] t)).heap.size (w.alloc (.cells #[x, y] t)) W) : W.cell? ⟨w.heap.size, 0, none⟩ = some x ∧ W.cell? ⟨w.heap.size, 1, none⟩ = some y ∧ W.frozen? ⟨w.heap.size, 0, none⟩ = false ∧ W.frozen? ⟨w.heap.size, 1, none⟩ = false := by
  have h := (Bk.new w t #[x, y]).below hb (by simp)
  exact ⟨h.cell 0, h.cell 1, h.frozen 0, h.frozen 1⟩
theorem there_any (c : Int × Int) (w : World) : Calls Try.prog 51 #[cV c] w (Bel (.bool (thB c)) w) := by
  obtain ⟨k, v⟩ := c
  simp only [cV, thB]
  by_cases h1 : k = 1
  · subst h1
    go_enter Try.func51, Try.ntmps51
    go_wp2
    go_ret
    exact ⟨rfl, (by repeat (first | (with_reducible exact Below.refl _ _) | (with_reducible assumption) | (with_reducible exact bel_box _) | (with_reducible refine bel_step ?_ (by with_reducible assumption)) | (with_reducible refine Below.drew ?_) | (with_reducible refine below_drewN ?_ _) | (with_reducible refine bel_alloc ?_ _)))⟩
  · have e1 : (k == 1) = false := by simpa using h1
    simp only [e1]
    clear h1
    go_enter Try.func51, Try.ntmps51
    go_wp2
    go_ret
    exact ⟨rfl, (by repeat (first | (with_reducible exact Below.refl _ _) | (with_reducible assumption) | (with_reducible exact bel_box _) | (with_reducible refine bel_step ?_ (by with_reducible assumption)) | (with_reducible refine Below.drew ?_) | (with_reducible refine below_drewN ?_ _) | (with_reducible refine bel_alloc ?_ _)))⟩
theorem rthere_any (c : Int × Int) (w : World) : Calls Try.prog 32 #[cV c] w (Bel (.bool (thB c)) w) := by
  obtain ⟨k, v⟩ := c
  simp only [cV, thB]
  by_cases h1 : k = 1
  · subst h1
    go_enter Try.func32, Try.ntmps32
    go_wp2
    go_ret
    exact ⟨rfl, (by repeat (first | (with_reducible exact Below.refl _ _) | (with_reducible assumption) | (with_reducible exact bel_box _) | (with_reducible refine bel_step ?_ (by with_reducible assumption)) | (with_reducible refine Below.drew ?_) | (with_reducible refine below_drewN ?_ _) | (with_reducible refine bel_alloc ?_ _)))⟩
  · have e1 : (k == 1) = false := by simpa using h1
    simp only [e1]
    clear h1
    go_enter Try.func32, Try.ntmps32
    go_wp2
    go_ret
    exact ⟨rfl, (by repeat (first | (with_reducible exact Below.refl _ _) | (with_reducible assumption) | (with_reducible exact bel_box _) | (with_reducible refine bel_step ?_ (by with_reducible assumption)) | (with_reducible refine Below.drew ?_) | (with_reducible refine below_drewN ?_ _) | (with_reducible refine bel_alloc ?_ _)))⟩
theorem present_any (v : Int) (w : World) : Calls Try.prog 42 #[.int .i64 v] w (Bel (cV (1, v)) w) := by
  go_enter Try.func42, Try.ntmps42
  go_wp2
  skip
  refine bodyPost_ret (v := cV (1, v)) (by simp [results, Try.results42, go_sem, cV]) rfl ⟨rfl, ?_⟩
  exact (by repeat (first | (with_reducible exact Below.refl _ _) | (with_reducible assumption) | (with_reducible exact bel_box _) | (with_reducible refine bel_step ?_ (by with_reducible assumption)) | (with_reducible refine Below.drew ?_) | (with_reducible refine below_drewN ?_ _) | (with_reducible refine bel_alloc ?_ _)))
theorem undefined_any (w : World) : Calls Try.prog 45 #[] w (Bel (cV (2, 0)) w) := by
  go_enter Try.func45, Try.ntmps45
  go_wp2
  skip
  refine bodyPost_ret (v := cV (2, 0)) (by simp [results, Try.results45, go_sem, cV]) rfl ⟨rfl, ?_⟩
  exact (by repeat (first | (with_reducible exact Below.refl _ _) | (with_reducible assumption) | (with_reducible exact bel_box _) | (with_reducible refine bel_step ?_ (by with_reducible assumption)) | (with_reducible refine Below.drew ?_) | (with_reducible refine below_drewN ?_ _) | (with_reducible refine bel_alloc ?_ _)))
theorem plain_any (c : Int × Int) (w : World) : Calls Try.prog 66 #[cV c] w (Bel (cV (pl c)) w) := by
  obtain ⟨k, v⟩ := c
  have KU := Lib.hid undefined_any
  simp only [cV, pl] at KU ⊢
  by_cases h1 : k = 1
  · subst h1
    go_enter Try.func66, Try.ntmps66
    go_wp2
    skip
    refine bodyPost_ret (v := _) (by simp [results, Try.results66, go_sem, cV]) rfl ⟨rfl, ?_⟩
    exact (by repeat (first | (with_reducible exact Below.refl _ _) | (with_reducible assumption) | (with_reducible exact bel_box _) | (with_reducible refine bel_step ?_ (by with_reducible assumption)) | (with_reducible refine Below.drew ?_) | (with_reducible refine below_drewN ?_ _) | (with_reducible refine bel_alloc ?_ _)))
  · have e1 : (k == 1) = false := by simpa using h1
    by_cases h2 : k = 2
    · subst h2
      go_enter Try.func66, Try.ntmps66
      go_wp2_with (go_at_call 45; (with_reducible refine (KU.out _).mono ?_); rintro e w1 ⟨rfl, hb1⟩; obtain ⟨q0, q1, q2, q3⟩ := box2 hb1; rw [World.size_alloc] at q0 q1 q2 q3)
      obtain ⟨t1, t2⟩ := set2_cells q0 q1 (.int .i64 2) (.int .i64 0)
      refine bodyPost_ret (v := cV (2, 0)) (by simp [results, Try.results66, go_sem, t1, t2, cV]) rfl ⟨rfl, ?_⟩
      exact bel_set2 (by repeat (first | (with_reducible exact Below.refl _ _) | (with_reducible assumption) | (with_reducible exact bel_box _) | (with_reducible refine bel_step ?_ (by with_reducible assumption)) | (with_reducible refine Below.drew ?_) | (with_reducible refine below_drewN ?_ _) | (with_reducible refine bel_alloc ?_ _))) (by omega) _ _
    · have e2 : (k == 2) = false := by simpa using h2
      rw [if_neg h1, if_neg h2]
      clear h1 h2
      go_enter Try.func66, Try.ntmps66
      go_wp2
      skip
      refine bodyPost_ret (v := _) (by simp [results, Try.results66, go_sem, cV]) rfl ⟨rfl, ?_⟩
      exact (by repeat (first | (with_reducible exact Below.refl _ _) | (with_reducible assumption) | (with_reducible exact bel_box _) | (with_reducible refine bel_step ?_ (by with_reducible assumption)) | (with_reducible refine Below.drew ?_) | (with_reducible refine below_drewN ?_ _) | (with_reducible refine bel_alloc ?_ _)))
end Go.Proofs.Ytefmnjcllncmpaa
/- Rows of streams in memory; together and joint of both sides. -/
namespace Go.Proofs.Ytefmnjcllncmpaa
set_option linter.unusedVariables false
set_option linter.unusedSimpArgs false
open Go.RowKit
structure St where
  A : Option Addr
  c : Nat
  l : List (Int × Int)
def stV (s : St) : Value := .slice s.A s.l.length s.c
def RdS (w : World) (B : Nat) (A : Option Addr) (ls : List St) : Prop := Rd w B A (ls.map stV) ∧ ∀ s ∈ ls, RdC w B s.A s.l
theorem RdS.to {w W : World} {A : Option Addr} {ls : List St} (h : RdS w w.heap.size A ls) (hb : Below w.heap.size w W) : RdS W W.heap.size A ls := ⟨Rd.to h.1 hb, fun s hs => (h.2 s hs).to hb⟩
theorem RdS.at_ {w : World} {B : Nat} {A : Option Addr} {ls : List St} (h : RdS w B A ls) {k : Nat} (hk : k < ls.length) :
    ∃ ad s, A = some ad ∧ ad.block < B ∧ ls[k]? = some s ∧ w.cell? (ad.add k) = some (.slice s.A s.l.length s.c) ∧ RdC w B s.A s.l := by
  obtain ⟨ad, e, hb, hc⟩ := h.1 (by intro e; have := congrArg List.length e; simp at this; rw [this] at hk; simp at hk)
  have hs : ls[k]? = some ls[k] := List.getElem?_eq_getElem hk
  exact ⟨ad, ls[k], e, hb, hs, hc k _ (by rw [List.getElem?_map, hs]; rfl), h.2 _ (List.getElem_mem hk)⟩
def togF (n : Nat) (ls : List St) : Nat := ls.foldl (fun n s => min n s.l.length) n
def tog (ls : List St) : Nat := match ls with | [] => 0 | s :: r => togF s.l.length (s :: r)
theorem togF_le (ls : List St) : ∀ n, togF n ls ≤ n ∧ ∀ s ∈ ls, togF n ls ≤ s.l.length := by
  induction ls with
  | nil => intro n; exact ⟨Nat.le_refl _, fun s h => by simp at h⟩
  | cons a r ih =>
    intro n
    obtain ⟨h1, h2⟩ := ih (min n a.l.length)
    have e : togF n (a :: r) = togF (min n a.l.length) r := rfl
    rw [e]
    refine ⟨by omega, fun s hs => ?_⟩
    rcases List.mem_cons.1 hs with rfl | hs
    · omega
    · exact h2 s hs
theorem togF_take {ls : List St} {k n : Nat} {s : St} (h : ls[k]? = some s) : togF n (ls.take (k + 1)) = min (togF n (ls.take k)) s.l.length := by
  rw [take_succ_of h, togF, List.foldl_append]; rfl
/-- the cells of all streams at an instant, as they count -/
def rowAt (ls : List St) (t : Nat) : List (Int × Int) := ls.map fun s => pl (s.l.getD t (0, 0))
def jnt (l : List (Int × Int)) : Bool := l.all thB
theorem rowAt_length (ls : List St) (t : Nat) : (rowAt ls t).length = ls.length := by simp [rowAt]
theorem thB_pl (c : Int × Int) : thB (pl c) = thB c := by
  obtain ⟨k, v⟩ := c
  unfold pl thB
  by_cases h1 : k = 1
  · subst h1; rfl
  · by_cases h2 : k = 2
    · subst h2; rfl
    · simp [h1, h2]
theorem rowAt_get {ls : List St} {k : Nat} {s : St} (t : Nat) (h : ls[k]? = some s) : (rowAt ls t)[k]? = some (pl (s.l.getD t (0, 0))) := by simp [rowAt, h]
theorem jnt_take {l : List (Int × Int)} {k : Nat} {c : Int × Int} (h : l[k]? = some c) : jnt (l.take (k + 1)) = (jnt (l.take k) && thB c) := by
  rw [jnt, take_succ_of h, List.all_append]; simp [jnt]
theorem jnt_false {l : List (Int × Int)} {k : Nat} {c : Int × Int} (h : l[k]? = some c) (hc : thB c = false) : jnt l = false := by
  rw [jnt, List.all_eq_false]; exact ⟨c, List.mem_of_getElem? h, by simp [hc]⟩
theorem tog_head {ls : List St} {a : St} (h : ls[0]? = some a) : tog ls = togF a.l.length ls := by
  cases ls with
  | nil => simp at h
  | cons b r => obtain rfl : b = a := by simpa using h
                rfl
/-- joint of the program: a row of cells -/
theorem joint_any (A : Option Addr) (c : Nat) (l : List (Int × Int)) (w : World) (hA : RdC w w.heap.size A l) (hl : l.length ≤ 100) :
    Calls Try.prog 44 #[.slice A l.length c] w (Bel (.bool (jnt l)) w) := by
  have HA := Lib.hid hA
  have KT := Lib.hid there_any
  clear hA
  go_enter Try.func44, Try.ntmps44
  go_wp2
  go_loopw [7] (fun i wr => ∃ k : Nat, k ≤ l.length ∧ i = .int .i64 (k : Int) ∧ Hid (jnt (l.take k) = true) ∧ Below w.heap.size w wr) (fun i _ => l.length - (intOf i).toNat)
  case atStart => exact ⟨0, by omega, rfl, Lib.hid rfl, (by repeat (first | (with_reducible exact Below.refl _ _) | (with_reducible assumption) | (with_reducible exact bel_box _) | (with_reducible refine bel_step ?_ (by with_reducible assumption)) | (with_reducible refine Below.drew ?_) | (with_reducible refine below_drewN ?_ _) | (with_reducible refine bel_alloc ?_ _)))⟩
  case round =>
    obtain ⟨k, hk, rfl, hj, hbl⟩ := hrel
    by_cases hlt : k < l.length
    · obtain ⟨ad, e, rfl, hadb, he, hc1, hc2⟩ := (HA.out.to hbl).at_ hlt
      have HN := Lib.hid (jnt_take he)
      have HF := Lib.hid (fun h => jnt_false (c := e) he h)
      clear he
      have KE := Lib.hid (KT.out e)
      simp only [cV] at KE
      cases hth : thB e
      · have HX := Lib.hid (HF.out hth)
        rw [hth] at KE
        rw [HX.out]
        clear hth HF HN HX
        go_wp2_with (go_at_call 51; (with_reducible refine (KE.out _).mono ?_); rintro e w1 ⟨rfl, hb1⟩)
        go_ret
        exact ⟨rfl, (by repeat (first | (with_reducible exact Below.refl _ _) | (with_reducible assumption) | (with_reducible exact bel_box _) | (with_reducible refine bel_step ?_ (by with_reducible assumption)) | (with_reducible refine Below.drew ?_) | (with_reducible refine below_drewN ?_ _) | (with_reducible refine bel_alloc ?_ _)))⟩
      · have HX : Hid (jnt (l.take (k + 1)) = true) := Lib.hid (by rw [HN.out, hj.out, hth]; rfl)
        rw [hth] at KE
        clear hth HF HN
        go_wp2_with (go_at_call 51; (with_reducible refine (KE.out _).mono ?_); rintro e w1 ⟨rfl, hb1⟩)
        go_roundw
        case rel => exact ⟨k + 1, by omega, by go_num, HX, (by repeat (first | (with_reducible exact Below.refl _ _) | (with_reducible assumption) | (with_reducible exact bel_box _) | (with_reducible refine bel_step ?_ (by with_reducible assumption)) | (with_reducible refine Below.drew ?_) | (with_reducible refine below_drewN ?_ _) | (with_reducible refine bel_alloc ?_ _)))⟩
        case measure => simp [intOf]; omega
    · obtain rfl : k = l.length := by omega
      have hj2 := hj.out
      rw [List.take_length] at hj2
      have HJ := Lib.hid hj2
      clear hj hj2 HA
      go_wp2
      go_ret
      exact ⟨by rw [HJ.out]; rfl, hbl⟩
/-- '==' on two cells -/
theorem cell_under : Try.prog.underlying 46 = some (.struct (Try.prog.fieldsOf 46)) := by kernel_rfl
end Go.Proofs.Ytefmnjcllncmpaa
/- What combine makes, and rows of cells in a block. -/
namespace Go.Proofs.Ytefmnjcllncmpaa
set_option linter.unusedVariables false
set_option linter.unusedSimpArgs false
open Go.RowKit
section
variable {S : Type}
def runS (stp : S → List (Int × Int) → S × (Int × Int)) : S → List (List (Int × Int)) → List (Int × Int)
  | _, [] => []
  | s, r :: rs => (stp s r).2 :: runS stp (stp s r).1 rs
def stS (stp : S → List (Int × Int) → S × (Int × Int)) (s : S) (rs : List (List (Int × Int))) : S := rs.foldl (fun s r => (stp s r).1) s
theorem runS_snoc (stp : S → List (Int × Int) → S × (Int × Int)) (r : List (Int × Int)) : ∀ (rs : List (List (Int × Int))) (s : S), runS stp s (rs ++ [r]) = runS stp s rs ++ [(stp (stS stp s rs) r).2]
  | [], s => rfl
  | a :: rs, s => by
    show (stp s a).2 :: runS stp (stp s a).1 (rs ++ [r]) = _
    rw [runS_snoc stp r rs]; rfl
theorem runS_length (stp : S → List (Int × Int) → S × (Int × Int)) : ∀ (rs : List (List (Int × Int))) (s : S), (runS stp s rs).length = rs.length
  | [], s => rfl
  | a :: rs, s => by show (runS stp (stp s a).1 rs).length + 1 = _; rw [runS_length stp rs]; rfl
def rowsTo (ls : List St) (t : Nat) : List (List (Int × Int)) := (List.range t).map (rowAt ls)
theorem rowsTo_succ (ls : List St) (t : Nat) : rowsTo ls (t + 1) = rowsTo ls t ++ [rowAt ls t] := by simp [rowsTo, List.range_succ]
def outT (stp : S → List (Int × Int) → S × (Int × Int)) (s : S) (ls : List St) (t : Nat) : List (Int × Int) := runS stp s (rowsTo ls t)
def stT (stp : S → List (Int × Int) → S × (Int × Int)) (s : S) (ls : List St) (t : Nat) : S := stS stp s (rowsTo ls t)
theorem outT_succ (stp : S → List (Int × Int) → S × (Int × Int)) (s : S) (ls : List St) (t : Nat) : outT stp s ls (t + 1) = outT stp s ls t ++ [(stp (stT stp s ls t) (rowAt ls t)).2] := by
  rw [outT, rowsTo_succ, runS_snoc]; rfl
theorem stT_succ (stp : S → List (Int × Int) → S × (Int × Int)) (s : S) (ls : List St) (t : Nat) : stT stp s ls (t + 1) = (stp (stT stp s ls t) (rowAt ls t)).1 := by
  rw [stT, stS, rowsTo_succ, List.foldl_append]; rfl
theorem outT_length (stp : S → List (Int × Int) → S × (Int × Int)) (s : S) (ls : List St) (t : Nat) : (outT stp s ls t).length = t := by rw [outT, runS_length]; simp [rowsTo]
end
/-- cells, laid flat -/
def fl (l : List (Int × Int)) : List Value := l.flatMap fun c => [.int .i64 c.1, .int .i64 c.2]
theorem fl_cons (a : Int × Int) (l : List (Int × Int)) : fl (a :: l) = .int .i64 a.1 :: .int .i64 a.2 :: fl l := rfl
theorem fl_length : ∀ l : List (Int × Int), (fl l).length = l.length * 2
  | [] => rfl
  | a :: l => by rw [fl_cons]; simp only [List.length_cons, fl_length l]; omega
theorem fl_get : ∀ (l : List (Int × Int)) (k : Nat) (c : Int × Int), l[k]? = some c → (fl l)[k * 2]? = some (.int .i64 c.1) ∧ (fl l)[k * 2 + 1]? = some (.int .i64 c.2)
  | [], k, c, h => by simp at h
  | a :: l, 0, c, h => by obtain rfl : a = c := by simpa using h
                          exact ⟨rfl, rfl⟩
  | a :: l, k + 1, c, h => by
    have := fl_get l k c (by simpa using h)
    rw [fl_cons, show (k + 1) * 2 = k * 2 + 1 + 1 from by omega]
    simpa using this
theorem fl_set : ∀ (l : List (Int × Int)) (k : Nat) (c : Int × Int), ((fl l).set (k * 2) (.int .i64 c.1)).set (k * 2 + 1) (.int .i64 c.2) = fl (l.set k c)
  | [], k, c => by simp [fl]
  | a :: l, 0, c => rfl
  | a :: l, k + 1, c => by
    rw [fl_cons, show (k + 1) * 2 = k * 2 + 1 + 1 from by omega, List.set_cons_succ, List.set_cons_succ, List.set_cons_succ, List.set_cons_succ, fl_set l k c, List.set_cons_succ, fl_cons]
theorem fl_zero (n : Nat) : madeCells #[.int .i64 0, .int .i64 0] (n * 2) = (fl (List.replicate n (0, 0))).toArray := by
  have h : ∀ n : Nat, fl (List.replicate n (0, 0)) = List.replicate (n * 2) (.int .i64 0) := fun n => by
    induction n with
    | zero => rfl
    | succ n ih => rw [List.replicate_succ, fl_cons, ih, show (n + 1) * 2 = n * 2 + 1 + 1 from by omega, List.replicate_succ, List.replicate_succ]
  rw [h]
  apply Array.ext_getElem?
  intro j
  by_cases hj : j < n * 2
  · have : j % 2 = 0 ∨ j % 2 = 1 := by omega
    rcases this with e | e <;> simp [madeCells, hj, e]
  · simp [madeCells, hj]
/-- the block g is a row of cells that can be written -/
def Bc (w : World) (g : Nat) (l : List (Int × Int)) : Prop := Bk w g 46 (fl l).toArray
theorem Bc.rd {w : World} {g : Nat} {l : List (Int × Int)} (h : Bc w g l) : RdC w w.heap.size (some ⟨g, 0, none⟩) l := fun _ =>
  ⟨_, rfl, Bk.lt h, fun i c hc => by
    obtain ⟨h1, h2⟩ := fl_get l i c hc
    rw [add_off, add_off]
    exact ⟨(Bk.cell h _).trans (by rw [List.getElem?_toArray]; exact h1), (Bk.cell h _).trans (by rw [List.getElem?_toArray]; exact h2)⟩⟩
theorem Bc.cells {w : World} {g : Nat} {l : List (Int × Int)} (h : Bc w g l) {k : Nat} {c : Int × Int} (hc : l[k]? = some c) :
    w.cell? ⟨g, k * 2, none⟩ = some (.int .i64 c.1) ∧ w.cell? ⟨g, k * 2 + 1, none⟩ = some (.int .i64 c.2) ∧ w.frozen? ⟨g, k * 2, none⟩ = false ∧ w.frozen? ⟨g, k * 2 + 1, none⟩ = false := by
  obtain ⟨h1, h2⟩ := fl_get l k c hc
  exact ⟨(Bk.cell h _).trans (by rw [List.getElem?_toArray]; exact h1), (Bk.cell h _).trans (by rw [List.getElem?_toArray]; exact h2), Bk.frozen h _, Bk.frozen h _⟩
theorem Bc.put {w : World} {g : Nat} {l : List (Int × Int)} (h : Bc w g l) (k : Nat) (c : Int × Int) : Bc ((w.setCell ⟨g, k * 2, none⟩ (.int .i64 c.1)).setCell ⟨g, k * 2 + 1, none⟩ (.int .i64 c.2)) g (l.set k c) := by
  have := (Bk.set_ h (k * 2) (.int .i64 c.1)).set_ (k * 2 + 1) (.int .i64 c.2)
  rw [List.setIfInBounds_toArray, List.setIfInBounds_toArray, fl_set] at this
  exact this
theorem Bc.far2 {w : World} {g g' i j : Nat} {l : List (Int × Int)} (h : Bc w g l) (hg : g ≠ g') (u v : Value) : Bc ((w.setCell ⟨g', i, none⟩ u).setCell ⟨g', j, none⟩ v) g l :=
  (Bk.far h (p := ⟨g', i, none⟩) hg u).far (p := ⟨g', j, none⟩) hg v
theorem Bc.alloc {w : World} {g : Nat} {l : List (Int × Int)} (h : Bc w g l) (o : Obj) : Bc (w.alloc o) g l := Bk.alloc h o
theorem Bc.below {w w' : World} {g B : Nat} {l : List (Int × Int)} (h : Bc w g l) (hb : Below B w w') (hg : g < B) : Bc w' g l := Bk.below h hb hg
theorem bel_two {w W : World} {B g i j : Nat} (h : Below B w W) (hg : B ≤ g) (u v : Value) : Below B w ((W.setCell ⟨g, i, none⟩ u).setCell ⟨g, j, none⟩ v) :=
  (h.setCell (p := ⟨g, i, none⟩) hg _).setCell (p := ⟨g, j, none⟩) hg _
theorem cellInfo : (Try.prog.info? 46).map (fun i => (i.zero.map Value.cells, i.size, i.bytes)) = some (some #[.int .i64 0, .int .i64 0], 2, 16) := by kernel_rfl
theorem mk_cells (n : Nat) (hn : n ≤ 1000000) (w : World) : (Instr.makeSlice 26 (.int .i64 (n : Int)) (.int .i64 (n : Int))).run Try.prog w = .ok (.slice (some ⟨w.heap.size, 0, none⟩) n n) (w.alloc (.cells (fl (List.replicate n (0, 0))).toArray 46)) := by
  obtain ⟨i, hi, hz⟩ := Option.map_eq_some_iff.1 cellInfo
  simp only [Prod.mk.injEq] at hz
  obtain ⟨hz0, hs, hb⟩ := hz
  obtain ⟨z, hz1, hz2⟩ := Option.map_eq_some_iff.1 hz0
  have hr := run_make (P := Try.prog) w 26 46 i z Try.underlying26 hi hz1 .i64 .i64 n n (by omega) (Int.le_refl _) (by rw [hb]; omega) (by omega)
  simp only [Int.toNat_natCast, hs, hz2] at hr
  rw [fl_zero] at hr
  exact hr
/-- what a call that makes a row of cells leaves -/
def NewC (xs : List (Int × Int)) (w : World) (e : Ending) (w' : World) : Prop := ∃ A c, e = .returned (.slice A xs.length c) ∧ RdC w' w'.heap.size A xs ∧ Below w.heap.size w w'
theorem set_mid {α : Type} {l m : List α} {k : Nat} {c : α} (h : l[k]? = some c) (hm : l.length = m.length) : (l.take k ++ m.drop k).set k c = l.take (k + 1) ++ m.drop (k + 1) := by
  have hk := (List.getElem?_eq_some_iff.1 h).1
  have hd : m.drop k = m[k] :: m.drop (k + 1) := List.drop_eq_getElem_cons (by omega)
  rw [take_succ_of h, List.set_append_right _ _ (by simp; omega)]
  simp [List.length_take, Nat.min_eq_left (Nat.le_of_lt hk)]
  rw [hd]; rfl
theorem mid_get {α : Type} {l m : List α} {k : Nat} {c : α} (h : l[k]? = some c) (hm : l.length = m.length) : ∃ d, (l.take k ++ m.drop k)[k]? = some d := by
  have hk := (List.getElem?_eq_some_iff.1 h).1
  exact ⟨m[k], by rw [List.getElem?_append_right (by simp; omega)]; simp [List.length_take, Nat.min_eq_left (Nat.le_of_lt hk), List.getElem?_eq_getElem (show k < m.length by omega)]⟩
end Go.Proofs.Ytefmnjcllncmpaa
/- What the small functions of package bword, and their references, return for every word: Check, letter, At, count, huge. -/
namespace Go.Proofs.Ytefmnjcllncmpaa.bw
set_option linter.unusedVariables false
set_option linter.unusedSimpArgs false
open Go.RowKit
theorem ret_int {k : IntKind} {a b : Int} (h : a = b) : Ending.returned (.int k a) = .returned (.int k b) := by rw [h]
theorem ret_bool {a b : Bool} (h : a = b) : Ending.returned (.bool a) = .returned (.bool b) := by rw [h]
/-- the error of a word -/
def ck (h l : List Bool) : Int := if l.length = 0 then 5 else if h.length + l.length > 64 then 3 else 0
/-- letter i -/
def lt (h l : List Bool) (i : Nat) : Bool := if i < h.length then h[i]?.getD false else l[(i - h.length) % l.length]?.getD false
theorem lens {h l : List Bool} (hc : ck h l = 0) : 0 < l.length ∧ h.length + l.length ≤ 64 := by
  unfold ck at hc
  split at hc
  · omega
  · split at hc <;> omega
def Bel (v : Value) (w : World) (e : Ending) (w' : World) : Prop := e = .returned v ∧ Below w.heap.size w w'
theorem check_any (A B : Option Addr) (c d : Nat) (h l : List Bool) (w : World) (hh : h.length ≤ 140737488355328) (hl : l.length ≤ 140737488355328) :
    Calls Try.prog 54 #[.agg #[.slice A h.length c, .slice B l.length d]] w (Bel (.int .i64 (ck h l)) w) := by
  go_enter Try.func54, Try.ntmps54
  go_wp2
  all_goals go_ret
  all_goals refine ⟨ret_int ?_, bel_box _⟩
  all_goals unfold ck
  · rw [if_pos (by simp_all)]
  · rw [if_neg (by simp_all), if_pos (by omega)]
  · rw [if_neg (by simp_all), if_neg (by omega)]
theorem letter_any (A B : Option Addr) (c d i : Nat) (h l : List Bool) (w : World) (hA : Rd w w.heap.size A (bls h)) (hB : Rd w w.heap.size B (bls l)) (h0 : 0 < l.length)
    (hh : h.length ≤ 140737488355328) (hl : l.length ≤ 140737488355328) (hi : i ≤ 9223372036854775807) :
    Calls Try.prog 68 #[.agg #[.slice A h.length c, .slice B l.length d], .int .i64 i] w (Bel (.bool (lt h l i)) w) := by
  by_cases hlt : i < h.length
  · obtain ⟨ad, b, rfl, hb, hx, hc⟩ := hA.bool_at hlt
    have e : lt h l i = b := by rw [lt, if_pos hlt, hx]; rfl
    rw [e]
    have hc2 : (w.alloc (.cells #[.slice (some ad) h.length c, .slice B l.length d] 36)).cell? (ad.add i) = some (.bool b) := by
      rw [World.cell?_alloc_lt _ _ _ (by rw [add_block]; omega)]; exact hc
    clear hA hB hx hc e
    go_enter Try.func68, Try.ntmps68
    go_wp2
    go_ret
    exact ⟨rfl, bel_box _⟩
  · obtain ⟨ad, b, rfl, hb, hx, hc⟩ := hB.bool_at (k := (i - h.length) % l.length) (Nat.mod_lt _ h0)
    have e : lt h l i = b := by rw [lt, if_neg hlt, hx]; rfl
    rw [e]
    have hc2 : (w.alloc (.cells #[.slice A h.length c, .slice (some ad) l.length d] 36)).cell? (ad.add ((i - h.length) % l.length)) = some (.bool b) := by
      rw [World.cell?_alloc_lt _ _ _ (by rw [add_block]; omega)]; exact hc
    clear hA hB hx hc e
    have hm : (i - h.length) % l.length < l.length := Nat.mod_lt _ h0
    go_enter Try.func68, Try.ntmps68
    go_wp2
    have e1 : IntKind.i64.wrap ((i : Int) - (h.length : Int)) = ((i - h.length : Nat) : Int) := by rw [IntWalk.i64_in _ (by omega)]; omega
    have e2 : ((i - h.length : Nat) : Int).tmod (l.length : Int) = (((i - h.length) % l.length : Nat) : Int) := rfl
    have e3 : ¬ ((l.length : Int) = 0) := by omega
    have e4 : (0 : Int) ≤ (((i - h.length) % l.length : Nat) : Int) := by omega
    have e5 : (((i - h.length) % l.length : Nat) : Int) < (l.length : Int) := by omega
    generalize (i - h.length) % l.length = r at *
    go_quiet (fail)
    clear e1 e2
    go_wp2
    go_ret
    exact ⟨rfl, below_drewN (bel_box _) _⟩
def att (h l : List Bool) (i : Int) : Bool := if ck h l = 0 ∧ 0 ≤ i then lt h l i.toNat else false
theorem att_yes {h l : List Bool} {k : Nat} (h1 : ck h l = 0) : att h l k = lt h l k := by rw [att, if_pos ⟨h1, by omega⟩, Int.toNat_natCast]
theorem att_no {h l : List Bool} {i : Int} (h1 : ¬ (ck h l = 0 ∧ 0 ≤ i)) : att h l i = false := by rw [att, if_neg h1]
set_option maxHeartbeats 400000 in
theorem at_any (A B : Option Addr) (c d : Nat) (i : Int) (h l : List Bool) (w : World) (hA : Rd w w.heap.size A (bls h)) (hB : Rd w w.heap.size B (bls l))
    (hh : h.length ≤ 140737488355328) (hl : l.length ≤ 140737488355328) (hi : i ≤ 9223372036854775807) :
    Calls Try.prog 57 #[.agg #[.slice A h.length c, .slice B l.length d], .int .i64 i] w (Bel (.bool (att h l i)) w) := by
  have HA := Lib.hid hA
  have HB := Lib.hid hB
  clear hA hB
  have chk := Lib.hid (check_any A B c d h l)
  have let_ := Lib.hid (letter_any A B c d)
  by_cases h1 : ck h l = 0
  · have hk := lens h1
    by_cases h2 : 0 ≤ i
    · obtain ⟨k, rfl⟩ := Int.eq_ofNat_of_zero_le h2
      rw [att_yes h1]
      have hd : (ck h l == 0) = true := by simp [h1]
      clear h1
      go_enter Try.func57, Try.ntmps57
      go_wp2_with (first
        | (go_at_call 54; refine (chk.out _ hh hl).mono ?_; rintro e w1 ⟨rfl, hb1⟩; obtain ⟨hc1, hf1, hz1⟩ := bcell hb1; try simp at hz1)
        | (go_at_call 68; refine (let_.out _ _ _ _ (HA.out.to (by repeat (first | (with_reducible exact Below.refl _ _) | (with_reducible assumption) | (with_reducible exact bel_box _) | (with_reducible refine bel_step ?_ (by with_reducible assumption)) | (with_reducible refine Below.drew ?_) | (with_reducible refine below_drewN ?_ _) | (with_reducible refine bel_alloc ?_ _)))) (HB.out.to (by repeat (first | (with_reducible exact Below.refl _ _) | (with_reducible assumption) | (with_reducible exact bel_box _) | (with_reducible refine bel_step ?_ (by with_reducible assumption)) | (with_reducible refine Below.drew ?_) | (with_reducible refine below_drewN ?_ _) | (with_reducible refine bel_alloc ?_ _)))) hk.1 hh hl (by omega)).mono ?_; rintro e w2 ⟨rfl, hb2⟩; obtain ⟨hc2, hf2, hz2⟩ := bcell hb2; try simp at hz2))
      go_ret
      exact ⟨rfl, (by repeat (first | (with_reducible exact Below.refl _ _) | (with_reducible assumption) | (with_reducible exact bel_box _) | (with_reducible refine bel_step ?_ (by with_reducible assumption)) | (with_reducible refine Below.drew ?_) | (with_reducible refine below_drewN ?_ _) | (with_reducible refine bel_alloc ?_ _)))⟩
    · rw [att_no (by omega)]
      have hd : (ck h l == 0) = true := by simp [h1]
      clear h1
      go_enter Try.func57, Try.ntmps57
      go_wp2_with (first
        | (go_at_call 54; refine (chk.out _ hh hl).mono ?_; rintro e w1 ⟨rfl, hb1⟩; obtain ⟨hc1, hf1, hz1⟩ := bcell hb1; try simp at hz1))
      go_ret
      exact ⟨rfl, (by repeat (first | (with_reducible exact Below.refl _ _) | (with_reducible assumption) | (with_reducible exact bel_box _) | (with_reducible refine bel_step ?_ (by with_reducible assumption)) | (with_reducible refine Below.drew ?_) | (with_reducible refine below_drewN ?_ _) | (with_reducible refine bel_alloc ?_ _)))⟩
  · rw [att_no (by omega)]
    have hd : (ck h l == 0) = false := by simp [h1]
    clear h1
    go_enter Try.func57, Try.ntmps57
    go_wp2_with (first
      | (go_at_call 54; refine (chk.out _ hh hl).mono ?_; rintro e w1 ⟨rfl, hb1⟩; obtain ⟨hc1, hf1, hz1⟩ := bcell hb1; try simp at hz1))
    go_ret
    exact ⟨rfl, (by repeat (first | (with_reducible exact Below.refl _ _) | (with_reducible assumption) | (with_reducible exact bel_box _) | (with_reducible refine bel_step ?_ (by with_reducible assumption)) | (with_reducible refine Below.drew ?_) | (with_reducible refine below_drewN ?_ _) | (with_reducible refine bel_alloc ?_ _)))⟩
end Go.Proofs.Ytefmnjcllncmpaa.bw
/- The steps of Pre, Arrow, Fby and Word. -/
namespace Go.Proofs.Ytefmnjcllncmpaa
set_option linter.unusedVariables false
set_option linter.unusedSimpArgs false
open Go.RowKit
theorem RdC.ck {w : World} {B g k : Nat} {l : List (Int × Int)} {c : Int × Int} (h : RdC w B (some ⟨g, 0, none⟩) l) (hk : l[k]? = some c) : w.cell? ⟨g, k * 2, none⟩ = some (.int .i64 c.1) ∧ w.cell? ⟨g, k * 2 + 1, none⟩ = some (.int .i64 c.2) := by
  obtain ⟨ad, e, _, h2⟩ := h (by rintro rfl; simp at hk)
  obtain rfl : (⟨g, 0, none⟩ : Addr) = ad := by simpa using e
  have := h2 k c hk
  rwa [add_off, add_off] at this
def preS (last : Int × Int) (r : List (Int × Int)) : (Int × Int) × (Int × Int) := if jnt r then (r.getD 0 (0, 0), last) else (last, (0, 0))
def fbyS (last : Int × Int) (r : List (Int × Int)) : (Int × Int) × (Int × Int) := if jnt r then (if thB last then (r.getD 1 (0, 0), last) else (r.getD 1 (0, 0), r.getD 0 (0, 0))) else (last, (0, 0))
theorem len1 {α : Type} {r : List α} (h : r.length = 1) : ∃ a, r = [a] := by
  match r, h with | [a], _ => exact ⟨a, rfl⟩
theorem two_of {α : Type} {r : List α} (h : r.length = 2) : ∃ a b, r = [a, b] := by
  match r, h with | [a, b], _ => exact ⟨a, b, rfl⟩
theorem three_boxes {w W : World} {x0 y0 x1 y1 x2 y2 : Value} {t0 t1 t2 : TypeId} (hb : Below (((w.alloc (.cells #[x0, y0] t0)).alloc (.cells #[x1, y1] t1)).alloc (.cells #[x2, y2] t2)).heap.size (((w.alloc (.cells #[x0, y0] t0)).alloc (.cells #[x1, y1] t1)).alloc (.cells #[x2, y2] t2)) W) :
    W.cell? ⟨w.heap.size, 0, none⟩ = some x0 ∧ W.cell? ⟨w.heap.size, 1, none⟩ = some y0 ∧ W.frozen? ⟨w.heap.size, 0, none⟩ = false ∧ W.frozen? ⟨w.heap.size, 1, none⟩ = false ∧
    W.cell? ⟨w.heap.size + 1, 0, none⟩ = some x1 ∧ W.cell? ⟨w.heap.size + 1, 1, none⟩ = some y1 ∧ W.frozen? ⟨w.heap.size + 1, 0, none⟩ = false ∧ W.frozen? ⟨w.heap.size + 1, 1, none⟩ = false ∧
    W.cell? ⟨w.heap.size + 2, 0, none⟩ = some x2 ∧ W.cell? ⟨w.heap.size + 2, 1, none⟩ = some y2 ∧ W.frozen? ⟨w.heap.size + 2, 0, none⟩ = false ∧ W.frozen? ⟨w.heap.size + 2, 1, none⟩ = false ∧ Bk W (w.heap.size + 1) t1 #[x1, y1] ∧ Bk W (w.heap.size + 2) t2 #[x2, y2] := by
  have b0 := (((Bk.new w t0 #[x0, y0]).alloc (.cells #[x1, y1] t1)).alloc (.cells #[x2, y2] t2)).below hb (by simp; omega)
  have b1 := ((Bk.new (w.alloc (.cells #[x0, y0] t0)) t1 #[x1, y1]).alloc (.cells #[x2, y2] t2)).below hb (by simp)
  have b2 := (Bk.new ((w.alloc (.cells #[x0, y0] t0)).alloc (.cells #[x1, y1] t1)) t2 #[x2, y2]).below hb (by simp)
  rw [World.size_alloc] at b1
  rw [World.size_alloc, World.size_alloc] at b2
  exact ⟨b0.cell 0, b0.cell 1, b0.frozen 0, b0.frozen 1, b1.cell 0, b1.cell 1, b1.frozen 0, b1.frozen 1, b2.cell 0, b2.cell 1, b2.frozen 0, b2.frozen 1, b1, b2⟩
theorem four_set {W : World} {b c : Nat} {x0 y0 x1 y1 : Value} {t t' : TypeId} (hne : b ≠ c) (h1 : Bk W b t #[x0, y0]) (h2 : Bk W c t' #[x1, y1]) (x y z u : Value) :
    ((((W.setCell ⟨b, 0, none⟩ x).setCell ⟨b, 1, none⟩ y).setCell ⟨c, 0, none⟩ z).setCell ⟨c, 1, none⟩ u).cell? ⟨b, 0, none⟩ = some x ∧
    ((((W.setCell ⟨b, 0, none⟩ x).setCell ⟨b, 1, none⟩ y).setCell ⟨c, 0, none⟩ z).setCell ⟨c, 1, none⟩ u).cell? ⟨b, 1, none⟩ = some y ∧
    ((((W.setCell ⟨b, 0, none⟩ x).setCell ⟨b, 1, none⟩ y).setCell ⟨c, 0, none⟩ z).setCell ⟨c, 1, none⟩ u).cell? ⟨c, 0, none⟩ = some z ∧
    ((((W.setCell ⟨b, 0, none⟩ x).setCell ⟨b, 1, none⟩ y).setCell ⟨c, 0, none⟩ z).setCell ⟨c, 1, none⟩ u).cell? ⟨c, 1, none⟩ = some u := by
  have r1 := ((((h1.set_ 0 x).set_ 1 y).far (p := ⟨c, 0, none⟩) hne z).far (p := ⟨c, 1, none⟩) hne u)
  have r2 := ((((h2.far (p := ⟨b, 0, none⟩) (Ne.symm hne) x).far (p := ⟨b, 1, none⟩) (Ne.symm hne) y).set_ 0 z).set_ 1 u)
  exact ⟨r1.cell 0, r1.cell 1, r2.cell 0, r2.cell 1⟩
set_option maxHeartbeats 2000000 in
theorem pre1_any (s : Int × Int) (r : List (Int × Int)) (g : Nat) (w : World) (hr : r.length = 1) (hR : RdC w w.heap.size (some ⟨g, 0, none⟩) r) :
    Calls Try.prog 47 #[cV s, .slice (some ⟨g, 0, none⟩) r.length r.length] w (Bel (.tuple #[cV (preS s r).1, cV (preS s r).2]) w) := by
  obtain ⟨⟨x0, y0⟩, rfl⟩ := len1 hr
  obtain ⟨u, v⟩ := s
  have KJ : Hid (∀ W, RdC W W.heap.size (some ⟨g, 0, none⟩) [(x0, y0)] → Calls Try.prog 44 #[.slice (some ⟨g, 0, none⟩) 1 1] W (Bel (.bool (jnt [(x0, y0)])) W)) := Lib.hid fun W h => joint_any (some ⟨g, 0, none⟩) 1 [(x0, y0)] W h (by simp)
  have HR := Lib.hid hR
  simp only [List.length_cons, List.length_nil, cV, preS]
  generalize hj : jnt [(x0, y0)] = j at *
  clear hR hr hj
  cases j
  · go_enter Try.func47, Try.ntmps47
    go_wp2_with (go_at_call 44; (with_reducible refine (KJ.out _ (HR.out.to ?_)).mono ?_); (focus ((repeat (first | (with_reducible exact Below.refl _ _) | (with_reducible assumption) | (with_reducible exact bel_box _) | (with_reducible refine bel_step ?_ (by with_reducible assumption)) | (with_reducible refine Below.drew ?_) | (with_reducible refine below_drewN ?_ _) | (with_reducible refine bel_alloc ?_ _))); done)); rintro e w1 ⟨rfl, hb1⟩; have q := three_boxes hb1; obtain ⟨q0, q1, q2, q3, q4, q5, q6, q7, q8, q9, q10, q11, B1, B2⟩ := q; have a0 : w1.cell? ⟨g, 0, none⟩ = some (.int .i64 x0) := ((HR.out.to (by repeat (first | (with_reducible exact Below.refl _ _) | (with_reducible assumption) | (with_reducible exact bel_box _) | (with_reducible refine bel_step ?_ (by with_reducible assumption)) | (with_reducible refine Below.drew ?_) | (with_reducible refine below_drewN ?_ _) | (with_reducible refine bel_alloc ?_ _)))).ck (k := 0) rfl).1; have a1 : w1.cell? ⟨g, 1, none⟩ = some (.int .i64 y0) := ((HR.out.to (by repeat (first | (with_reducible exact Below.refl _ _) | (with_reducible assumption) | (with_reducible exact bel_box _) | (with_reducible refine bel_step ?_ (by with_reducible assumption)) | (with_reducible refine Below.drew ?_) | (with_reducible refine below_drewN ?_ _) | (with_reducible refine bel_alloc ?_ _)))).ck (k := 0) rfl).2)
    obtain ⟨t1, t2, t3, t4⟩ := four_set (by omega) B1 B2 (.int .i64 u) (.int .i64 v) (.int .i64 0) (.int .i64 0)
    refine bodyPost_ret (v := .tuple #[cV (u, v), cV (0, 0)]) (by simp [results, Try.results47, go_sem, t1, t2, t3, t4, cV]) rfl ⟨rfl, ?_⟩
    first | exact bel_two (bel_two (by repeat (first | (with_reducible exact Below.refl _ _) | (with_reducible assumption) | (with_reducible exact bel_box _) | (with_reducible refine bel_step ?_ (by with_reducible assumption)) | (with_reducible refine Below.drew ?_) | (with_reducible refine below_drewN ?_ _) | (with_reducible refine bel_alloc ?_ _))) (by omega) _ _) (by omega) _ _ | exact Below.drew (bel_two (bel_two (by repeat (first | (with_reducible exact Below.refl _ _) | (with_reducible assumption) | (with_reducible exact bel_box _) | (with_reducible refine bel_step ?_ (by with_reducible assumption)) | (with_reducible refine Below.drew ?_) | (with_reducible refine below_drewN ?_ _) | (with_reducible refine bel_alloc ?_ _))) (by omega) _ _) (by omega) _ _)
  · go_enter Try.func47, Try.ntmps47
    go_wp2_with (go_at_call 44; (with_reducible refine (KJ.out _ (HR.out.to ?_)).mono ?_); (focus ((repeat (first | (with_reducible exact Below.refl _ _) | (with_reducible assumption) | (with_reducible exact bel_box _) | (with_reducible refine bel_step ?_ (by with_reducible assumption)) | (with_reducible refine Below.drew ?_) | (with_reducible refine below_drewN ?_ _) | (with_reducible refine bel_alloc ?_ _))); done)); rintro e w1 ⟨rfl, hb1⟩; have q := three_boxes hb1; obtain ⟨q0, q1, q2, q3, q4, q5, q6, q7, q8, q9, q10, q11, B1, B2⟩ := q; have a0 : w1.cell? ⟨g, 0, none⟩ = some (.int .i64 x0) := ((HR.out.to (by repeat (first | (with_reducible exact Below.refl _ _) | (with_reducible assumption) | (with_reducible exact bel_box _) | (with_reducible refine bel_step ?_ (by with_reducible assumption)) | (with_reducible refine Below.drew ?_) | (with_reducible refine below_drewN ?_ _) | (with_reducible refine bel_alloc ?_ _)))).ck (k := 0) rfl).1; have a1 : w1.cell? ⟨g, 1, none⟩ = some (.int .i64 y0) := ((HR.out.to (by repeat (first | (with_reducible exact Below.refl _ _) | (with_reducible assumption) | (with_reducible exact bel_box _) | (with_reducible refine bel_step ?_ (by with_reducible assumption)) | (with_reducible refine Below.drew ?_) | (with_reducible refine below_drewN ?_ _) | (with_reducible refine bel_alloc ?_ _)))).ck (k := 0) rfl).2)
    go_region_with (fail)
    all_goals go_wp2
    all_goals
      obtain ⟨t1, t2, t3, t4⟩ := four_set (by omega) B1 B2 (.int .i64 x0) (.int .i64 y0) (.int .i64 u) (.int .i64 v)
      refine bodyPost_ret (v := .tuple #[cV (x0, y0), cV (u, v)]) (by simp [results, Try.results47, go_sem, t1, t2, t3, t4, cV]) rfl ⟨rfl, ?_⟩
      first | exact bel_two (bel_two (by repeat (first | (with_reducible exact Below.refl _ _) | (with_reducible assumption) | (with_reducible exact bel_box _) | (with_reducible refine bel_step ?_ (by with_reducible assumption)) | (with_reducible refine Below.drew ?_) | (with_reducible refine below_drewN ?_ _) | (with_reducible refine bel_alloc ?_ _))) (by omega) _ _) (by omega) _ _ | exact Below.drew (bel_two (bel_two (by repeat (first | (with_reducible exact Below.refl _ _) | (with_reducible assumption) | (with_reducible exact bel_box _) | (with_reducible refine bel_step ?_ (by with_reducible assumption)) | (with_reducible refine Below.drew ?_) | (with_reducible refine below_drewN ?_ _) | (with_reducible refine bel_alloc ?_ _))) (by omega) _ _) (by omega) _ _)
set_option maxHeartbeats 4000000 in
theorem fby1_any (s : Int × Int) (r : List (Int × Int)) (g : Nat) (w : World) (hr : r.length = 2) (hR : RdC w w.heap.size (some ⟨g, 0, none⟩) r) :
    Calls Try.prog 50 #[cV s, .slice (some ⟨g, 0, none⟩) r.length r.length] w (Bel (.tuple #[cV (fbyS s r).1, cV (fbyS s r).2]) w) := by
  obtain ⟨⟨x0, y0⟩, ⟨x1, y1⟩, rfl⟩ := two_of hr
  obtain ⟨u, v⟩ := s
  have KJ : Hid (∀ W, RdC W W.heap.size (some ⟨g, 0, none⟩) [(x0, y0), (x1, y1)] → Calls Try.prog 44 #[.slice (some ⟨g, 0, none⟩) 2 2] W (Bel (.bool (jnt [(x0, y0), (x1, y1)])) W)) := Lib.hid fun W h => joint_any (some ⟨g, 0, none⟩) 2 [(x0, y0), (x1, y1)] W h (by simp)
  have HR := Lib.hid hR
  have KT := Lib.hid (there_any (u, v))
  simp only [List.length_cons, List.length_nil, cV, fbyS] at KT ⊢
  generalize hj : jnt [(x0, y0), (x1, y1)] = j at *
  generalize ht : thB (u, v) = th at *
  have hgb : g < w.heap.size := by
    obtain ⟨ad, e, hb, _⟩ := hR (by simp)
    obtain rfl : (⟨g, 0, none⟩ : Addr) = ad := by simpa using e
    exact hb
  have n1 : ¬ w.heap.size + 1 = g := by omega
  have n2 : ¬ g = w.heap.size + 1 := by omega
  have n3 : ¬ w.heap.size + 1 + 1 = g := by omega
  have n4 : ¬ g = w.heap.size + 1 + 1 := by omega
  clear hR hr hj ht
  cases j
  · go_enter Try.func50, Try.ntmps50
    go_wp2_with (go_at_call 44; (with_reducible refine (KJ.out _ (HR.out.to ?_)).mono ?_); (focus ((repeat (first | (with_reducible exact Below.refl _ _) | (with_reducible assumption) | (with_reducible exact bel_box _) | (with_reducible refine bel_step ?_ (by with_reducible assumption)) | (with_reducible refine Below.drew ?_) | (with_reducible refine below_drewN ?_ _) | (with_reducible refine bel_alloc ?_ _))); done)); rintro e w1 ⟨rfl, hb1⟩; have q := three_boxes hb1; obtain ⟨q0, q1, q2, q3, q4, q5, q6, q7, q8, q9, q10, q11, B1, B2⟩ := q; have a0 : w1.cell? ⟨g, 0, none⟩ = some (.int .i64 x0) := ((HR.out.to (by repeat (first | (with_reducible exact Below.refl _ _) | (with_reducible assumption) | (with_reducible exact bel_box _) | (with_reducible refine bel_step ?_ (by with_reducible assumption)) | (with_reducible refine Below.drew ?_) | (with_reducible refine below_drewN ?_ _) | (with_reducible refine bel_alloc ?_ _)))).ck (k := 0) rfl).1; have a1 : w1.cell? ⟨g, 1, none⟩ = some (.int .i64 y0) := ((HR.out.to (by repeat (first | (with_reducible exact Below.refl _ _) | (with_reducible assumption) | (with_reducible exact bel_box _) | (with_reducible refine bel_step ?_ (by with_reducible assumption)) | (with_reducible refine Below.drew ?_) | (with_reducible refine below_drewN ?_ _) | (with_reducible refine bel_alloc ?_ _)))).ck (k := 0) rfl).2; have a2 : w1.cell? ⟨g, 2, none⟩ = some (.int .i64 x1) := ((HR.out.to (by repeat (first | (with_reducible exact Below.refl _ _) | (with_reducible assumption) | (with_reducible exact bel_box _) | (with_reducible refine bel_step ?_ (by with_reducible assumption)) | (with_reducible refine Below.drew ?_) | (with_reducible refine below_drewN ?_ _) | (with_reducible refine bel_alloc ?_ _)))).ck (k := 1) rfl).1; have a3 : w1.cell? ⟨g, 3, none⟩ = some (.int .i64 y1) := ((HR.out.to (by repeat (first | (with_reducible exact Below.refl _ _) | (with_reducible assumption) | (with_reducible exact bel_box _) | (with_reducible refine bel_step ?_ (by with_reducible assumption)) | (with_reducible refine Below.drew ?_) | (with_reducible refine below_drewN ?_ _) | (with_reducible refine bel_alloc ?_ _)))).ck (k := 1) rfl).2)
    obtain ⟨t1, t2, t3, t4⟩ := four_set (by omega) B1 B2 (.int .i64 u) (.int .i64 v) (.int .i64 0) (.int .i64 0)
    refine bodyPost_ret (v := .tuple #[cV (u, v), cV (0, 0)]) (by simp [results, Try.results50, go_sem, t1, t2, t3, t4, cV]) rfl ⟨rfl, ?_⟩
    first | exact bel_two (bel_two (by repeat (first | (with_reducible exact Below.refl _ _) | (with_reducible assumption) | (with_reducible exact bel_box _) | (with_reducible refine bel_step ?_ (by with_reducible assumption)) | (with_reducible refine Below.drew ?_) | (with_reducible refine below_drewN ?_ _) | (with_reducible refine bel_alloc ?_ _))) (by omega) _ _) (by omega) _ _ | exact Below.drew (bel_two (bel_two (by repeat (first | (with_reducible exact Below.refl _ _) | (with_reducible assumption) | (with_reducible exact bel_box _) | (with_reducible refine bel_step ?_ (by with_reducible assumption)) | (with_reducible refine Below.drew ?_) | (with_reducible refine below_drewN ?_ _) | (with_reducible refine bel_alloc ?_ _))) (by omega) _ _) (by omega) _ _)
  · cases th
    · go_enter Try.func50, Try.ntmps50
      go_wp2_with (first | (go_at_call 44; (with_reducible refine (KJ.out _ (HR.out.to ?_)).mono ?_); (focus ((repeat (first | (with_reducible exact Below.refl _ _) | (with_reducible assumption) | (with_reducible exact bel_box _) | (with_reducible refine bel_step ?_ (by with_reducible assumption)) | (with_reducible refine Below.drew ?_) | (with_reducible refine below_drewN ?_ _) | (with_reducible refine bel_alloc ?_ _))); done)); rintro e w1 ⟨rfl, hb1⟩; have q := three_boxes hb1; obtain ⟨z0, z1, z2, z3, z4, z5, z6, z7, z8, z9, z10, z11, C1, C2⟩ := q) | (go_at_call 51; (with_reducible refine (KT.out _).mono ?_); rintro e w2 ⟨rfl, hb2⟩; have q := three_boxes (w := w) (W := w2) (by repeat (first | (with_reducible exact Below.refl _ _) | (with_reducible assumption) | (with_reducible exact bel_box _) | (with_reducible refine bel_step ?_ (by with_reducible assumption)) | (with_reducible refine Below.drew ?_) | (with_reducible refine below_drewN ?_ _) | (with_reducible refine bel_alloc ?_ _))); obtain ⟨q0, q1, q2, q3, q4, q5, q6, q7, q8, q9, q10, q11, B1, B2⟩ := q; have a0 : w2.cell? ⟨g, 0, none⟩ = some (.int .i64 x0) := ((HR.out.to (by repeat (first | (with_reducible exact Below.refl _ _) | (with_reducible assumption) | (with_reducible exact bel_box _) | (with_reducible refine bel_step ?_ (by with_reducible assumption)) | (with_reducible refine Below.drew ?_) | (with_reducible refine below_drewN ?_ _) | (with_reducible refine bel_alloc ?_ _)))).ck (k := 0) rfl).1; have a1 : w2.cell? ⟨g, 1, none⟩ = some (.int .i64 y0) := ((HR.out.to (by repeat (first | (with_reducible exact Below.refl _ _) | (with_reducible assumption) | (with_reducible exact bel_box _) | (with_reducible refine bel_step ?_ (by with_reducible assumption)) | (with_reducible refine Below.drew ?_) | (with_reducible refine below_drewN ?_ _) | (with_reducible refine bel_alloc ?_ _)))).ck (k := 0) rfl).2; have a2 : w2.cell? ⟨g, 2, none⟩ = some (.int .i64 x1) := ((HR.out.to (by repeat (first | (with_reducible exact Below.refl _ _) | (with_reducible assumption) | (with_reducible exact bel_box _) | (with_reducible refine bel_step ?_ (by with_reducible assumption)) | (with_reducible refine Below.drew ?_) | (with_reducible refine below_drewN ?_ _) | (with_reducible refine bel_alloc ?_ _)))).ck (k := 1) rfl).1; have a3 : w2.cell? ⟨g, 3, none⟩ = some (.int .i64 y1) := ((HR.out.to (by repeat (first | (with_reducible exact Below.refl _ _) | (with_reducible assumption) | (with_reducible exact bel_box _) | (with_reducible refine bel_step ?_ (by with_reducible assumption)) | (with_reducible refine Below.drew ?_) | (with_reducible refine below_drewN ?_ _) | (with_reducible refine bel_alloc ?_ _)))).ck (k := 1) rfl).2))
      clear z0 z1 z2 z3 z4 z5 z6 z7 z8 z9 z10 z11 C1 C2
      go_region_with (fail)
      all_goals go_wp2
      all_goals
        obtain ⟨t1, t2, t3, t4⟩ := four_set (by omega) B1 B2 (.int .i64 x1) (.int .i64 y1) (.int .i64 x0) (.int .i64 y0)
        refine bodyPost_ret (v := .tuple #[cV (x1, y1), cV (x0, y0)]) (by simp [results, Try.results50, go_sem, t1, t2, t3, t4, cV]) rfl ⟨rfl, ?_⟩
        first | exact bel_two (bel_two (by repeat (first | (with_reducible exact Below.refl _ _) | (with_reducible assumption) | (with_reducible exact bel_box _) | (with_reducible refine bel_step ?_ (by with_reducible assumption)) | (with_reducible refine Below.drew ?_) | (with_reducible refine below_drewN ?_ _) | (with_reducible refine bel_alloc ?_ _))) (by omega) _ _) (by omega) _ _ | exact Below.drew (bel_two (bel_two (by repeat (first | (with_reducible exact Below.refl _ _) | (with_reducible assumption) | (with_reducible exact bel_box _) | (with_reducible refine bel_step ?_ (by with_reducible assumption)) | (with_reducible refine Below.drew ?_) | (with_reducible refine below_drewN ?_ _) | (with_reducible refine bel_alloc ?_ _))) (by omega) _ _) (by omega) _ _)
    · go_enter Try.func50, Try.ntmps50
      go_wp2_with (first | (go_at_call 44; (with_reducible refine (KJ.out _ (HR.out.to ?_)).mono ?_); (focus ((repeat (first | (with_reducible exact Below.refl _ _) | (with_reducible assumption) | (with_reducible exact bel_box _) | (with_reducible refine bel_step ?_ (by with_reducible assumption)) | (with_reducible refine Below.drew ?_) | (with_reducible refine below_drewN ?_ _) | (with_reducible refine bel_alloc ?_ _))); done)); rintro e w1 ⟨rfl, hb1⟩; have q := three_boxes hb1; obtain ⟨z0, z1, z2, z3, z4, z5, z6, z7, z8, z9, z10, z11, C1, C2⟩ := q) | (go_at_call 51; (with_reducible refine (KT.out _).mono ?_); rintro e w2 ⟨rfl, hb2⟩; have q := three_boxes (w := w) (W := w2) (by repeat (first | (with_reducible exact Below.refl _ _) | (with_reducible assumption) | (with_reducible exact bel_box _) | (with_reducible refine bel_step ?_ (by with_reducible assumption)) | (with_reducible refine Below.drew ?_) | (with_reducible refine below_drewN ?_ _) | (with_reducible refine bel_alloc ?_ _))); obtain ⟨q0, q1, q2, q3, q4, q5, q6, q7, q8, q9, q10, q11, B1, B2⟩ := q; have a0 : w2.cell? ⟨g, 0, none⟩ = some (.int .i64 x0) := ((HR.out.to (by repeat (first | (with_reducible exact Below.refl _ _) | (with_reducible assumption) | (with_reducible exact bel_box _) | (with_reducible refine bel_step ?_ (by with_reducible assumption)) | (with_reducible refine Below.drew ?_) | (with_reducible refine below_drewN ?_ _) | (with_reducible refine bel_alloc ?_ _)))).ck (k := 0) rfl).1; have a1 : w2.cell? ⟨g, 1, none⟩ = some (.int .i64 y0) := ((HR.out.to (by repeat (first | (with_reducible exact Below.refl _ _) | (with_reducible assumption) | (with_reducible exact bel_box _) | (with_reducible refine bel_step ?_ (by with_reducible assumption)) | (with_reducible refine Below.drew ?_) | (with_reducible refine below_drewN ?_ _) | (with_reducible refine bel_alloc ?_ _)))).ck (k := 0) rfl).2; have a2 : w2.cell? ⟨g, 2, none⟩ = some (.int .i64 x1) := ((HR.out.to (by repeat (first | (with_reducible exact Below.refl _ _) | (with_reducible assumption) | (with_reducible exact bel_box _) | (with_reducible refine bel_step ?_ (by with_reducible assumption)) | (with_reducible refine Below.drew ?_) | (with_reducible refine below_drewN ?_ _) | (with_reducible refine bel_alloc ?_ _)))).ck (k := 1) rfl).1; have a3 : w2.cell? ⟨g, 3, none⟩ = some (.int .i64 y1) := ((HR.out.to (by repeat (first | (with_reducible exact Below.refl _ _) | (with_reducible assumption) | (with_reducible exact bel_box _) | (with_reducible refine bel_step ?_ (by with_reducible assumption)) | (with_reducible refine Below.drew ?_) | (with_reducible refine below_drewN ?_ _) | (with_reducible refine bel_alloc ?_ _)))).ck (k := 1) rfl).2))
      clear z0 z1 z2 z3 z4 z5 z6 z7 z8 z9 z10 z11 C1 C2
      go_region_with (fail)
      all_goals go_wp2
      all_goals
        obtain ⟨t1, t2, t3, t4⟩ := four_set (by omega) B1 B2 (.int .i64 x1) (.int .i64 y1) (.int .i64 u) (.int .i64 v)
        refine bodyPost_ret (v := .tuple #[cV (x1, y1), cV (u, v)]) (by simp [results, Try.results50, go_sem, t1, t2, t3, t4, cV]) rfl ⟨rfl, ?_⟩
        first | exact bel_two (bel_two (by repeat (first | (with_reducible exact Below.refl _ _) | (with_reducible assumption) | (with_reducible exact bel_box _) | (with_reducible refine bel_step ?_ (by with_reducible assumption)) | (with_reducible refine Below.drew ?_) | (with_reducible refine below_drewN ?_ _) | (with_reducible refine bel_alloc ?_ _))) (by omega) _ _) (by omega) _ _ | exact Below.drew (bel_two (bel_two (by repeat (first | (with_reducible exact Below.refl _ _) | (with_reducible assumption) | (with_reducible exact bel_box _) | (with_reducible refine bel_step ?_ (by with_reducible assumption)) | (with_reducible refine Below.drew ?_) | (with_reducible refine below_drewN ?_ _) | (with_reducible refine bel_alloc ?_ _))) (by omega) _ _) (by omega) _ _)
end Go.Proofs.Ytefmnjcllncmpaa
/- combine of stream.combine[synchrony/api.Cell] with stream.Pre$1. -/
namespace Go.Proofs.Ytefmnjcllncmpaa
set_option linter.unusedVariables false
set_option linter.unusedSimpArgs false
open Go.RowKit
set_option maxHeartbeats 8000000 in
set_option maxRecDepth 20000 in
theorem combine_p (A : Option Addr) (c : Nat) (ls : List St) (s0 : Int × Int) (stp : Int × Int → List (Int × Int) → (Int × Int) × (Int × Int)) (w : World) (hA : RdS w w.heap.size A ls) (hl : ls.length ≤ 100) (h0 : 0 < ls.length) (h3 : ∀ s ∈ ls, s.l.length ≤ 1000000)
    (K : Hid (∀ (s : Int × Int) (r : List (Int × Int)) (g : Nat) (W : World), r.length = ls.length → RdC W W.heap.size (some ⟨g, 0, none⟩) r → Below w.heap.size w W → Calls Try.prog 47 #[cV s, .slice (some ⟨g, 0, none⟩) r.length r.length] W (Bel (.tuple #[cV (stp s r).1, cV (stp s r).2]) W))) :
    Calls Try.prog 46 #[cV s0, .func (.func 47) #[] #[], .slice A ls.length c] w (NewC (outT stp s0 ls (tog ls)) w) := by
  obtain ⟨ad0, a, rfl, had0, ha, hc0, _⟩ := hA.at_ (k := 0) (by omega)
  rw [add_zero'] at hc0
  rw [tog_head ha]
  have ha3 := h3 a (List.mem_of_getElem? ha)
  have HA := Lib.hid hA
  have H3 := Lib.hid h3
  have KP := Lib.hid plain_any
  simp only [cV] at K KP ⊢
  have g0 : ((ls.length : Int) == 0) = false := beq_eq_false_iff_ne.2 (by omega)
  have hz := add_zero' ad0
  clear hA h3 ha
  go_enter Try.func46, Try.ntmps46
  go_wp2
  go_loopw [7, 24] (fun n i wr => ∃ k : Nat, k ≤ ls.length ∧ i = .int .i64 (k : Int) ∧ n = .int .i64 ((togF a.l.length (ls.take k) : Nat) : Int) ∧ Hid (Bk wr w.heap.size 46 #[.int .i64 s0.1, .int .i64 s0.2]) ∧ Below w.heap.size w wr) (fun _ i _ => ls.length - (intOf i).toNat)
  case atStart => exact ⟨0, by omega, rfl, rfl, Lib.hid (Bk.new _ _ _), (by repeat (first | (with_reducible exact Below.refl _ _) | (with_reducible assumption) | (with_reducible exact bel_box _) | (with_reducible refine bel_step ?_ (by with_reducible assumption)) | (with_reducible refine Below.drew ?_) | (with_reducible refine below_drewN ?_ _) | (with_reducible refine bel_alloc ?_ _)))⟩
  case round =>
    obtain ⟨k, hk, rfl, rfl, hSB, hbl⟩ := hrel
    by_cases hlt : k < ls.length
    · obtain ⟨ad, s, hA, had, hs, hc, _⟩ := (HA.out.to hbl).at_ hlt
      obtain rfl : ad0 = ad := by simpa using hA
      have hm := H3.out s (List.mem_of_getElem? hs)
      have HT := Lib.hid (togF_take (n := a.l.length) hs)
      have hn := (togF_le (ls.take k) a.l.length).1
      clear hs hA K
      generalize togF a.l.length (ls.take k) = n at *
      generalize hsl : s.l.length = m at *
      clear hsl
      go_wp2
      go_roundw
      case rel => exact ⟨k + 1, by omega, by go_num, by rw [HT.out]; exact congrArg _ (by split <;> omega), hSB, (by repeat (first | (with_reducible exact Below.refl _ _) | (with_reducible assumption) | (with_reducible exact bel_box _) | (with_reducible refine bel_step ?_ (by with_reducible assumption)) | (with_reducible refine Below.drew ?_) | (with_reducible refine below_drewN ?_ _) | (with_reducible refine bel_alloc ?_ _)))⟩
      case measure => simp [intOf]; omega
    · obtain rfl : k = ls.length := by omega
      rw [List.take_length]
      have hn := (togF_le ls a.l.length).1
      have HTOG := Lib.hid (togF_le ls a.l.length).2
      generalize togF a.l.length ls = n at *
      have m1 := mk_cells n (by omega) wr
      have m2 := mk_cells ls.length (by omega) (wr.alloc (.cells (fl (List.replicate n (0, 0))).toArray 46))
      clear hc0 hz
      go_wp2
      clear m1 m2
      have hws := Bk.lt hSB.out
      have hB10 : Bc ((wr.alloc (.cells (fl (List.replicate n (0, 0))).toArray 46)).alloc (.cells (fl (List.replicate ls.length (0, 0))).toArray 46)) wr.heap.size (List.replicate n (0, 0)) := (Bk.new wr 46 _).alloc _
      have hB20 : Bc ((wr.alloc (.cells (fl (List.replicate n (0, 0))).toArray 46)).alloc (.cells (fl (List.replicate ls.length (0, 0))).toArray 46)) (wr.heap.size + 1) (List.replicate ls.length (0, 0)) := by
        have h := Bk.new (wr.alloc (.cells (fl (List.replicate n (0, 0))).toArray 46)) 46 (fl (List.replicate ls.length (0, 0))).toArray
        rwa [World.size_alloc] at h
      have hSB0 := (hSB.out.alloc (.cells (fl (List.replicate n (0, 0))).toArray 46)).alloc (.cells (fl (List.replicate ls.length (0, 0))).toArray 46)
      generalize wr.heap.size = G at *
      have hne : ¬ w.heap.size = G := by omega
      have hne2 : ¬ G = w.heap.size := by omega
      have hne3 : ¬ w.heap.size = G + 1 := by omega
      go_loopw [39] (fun i W => ∃ (t : Nat) (cs : List (Int × Int)), t ≤ n ∧ i = .int .i64 (t : Int) ∧ Hid (Bk W w.heap.size 46 #[.int .i64 (stT stp s0 ls t).1, .int .i64 (stT stp s0 ls t).2]) ∧ cs.length = ls.length ∧ Hid (Bc W G (outT stp s0 ls t ++ List.replicate (n - t) (0, 0))) ∧ Hid (Bc W (G + 1) cs) ∧ Below w.heap.size w W) (fun i _ => n - (intOf i).toNat)
      case atStart => exact ⟨0, List.replicate ls.length (0, 0), by omega, rfl, Lib.hid hSB0, by simp, Lib.hid hB10, Lib.hid hB20, (by repeat (first | (with_reducible exact Below.refl _ _) | (with_reducible assumption) | (with_reducible exact bel_box _) | (with_reducible refine bel_step ?_ (by with_reducible assumption)) | (with_reducible refine Below.drew ?_) | (with_reducible refine below_drewN ?_ _) | (with_reducible refine bel_alloc ?_ _)))⟩
      case round =>
        obtain ⟨t, cs, ht, rfl, hST, hcs, hB1, hB2, hbW⟩ := hrel
        by_cases htn : t < n
        · go_wp2
          go_loopw [44] (fun i W => ∃ k : Nat, k ≤ ls.length ∧ i = .int .i64 (k : Int) ∧ Hid (Bk W w.heap.size 46 #[.int .i64 (stT stp s0 ls t).1, .int .i64 (stT stp s0 ls t).2]) ∧ Hid (Bc W G (outT stp s0 ls t ++ List.replicate (n - t) (0, 0))) ∧ Hid (Bc W (G + 1) ((rowAt ls t).take k ++ cs.drop k)) ∧ Below w.heap.size w W) (fun i _ => ls.length - (intOf i).toNat)
          case atStart => exact ⟨0, by omega, rfl, hST, hB1, Lib.hid (by simpa using hB2.out), hbW⟩
          case round =>
            obtain ⟨k, hk, rfl, hSX, hD1, hD2, hbX⟩ := hrel
            by_cases hkl : k < ls.length
            · obtain ⟨ad, s, hA, had, hs, hc, hR⟩ := (HA.out.to hbX).at_ hkl
              obtain rfl : ad0 = ad := by simpa using hA
              have hm := H3.out s (List.mem_of_getElem? hs)
              have htl : t < s.l.length := by have := HTOG.out s (List.mem_of_getElem? hs); omega
              obtain ⟨ad2, e, hA2, hadb2, he, hc1, hc2⟩ := hR.at_ htl
              rw [hA2] at hc
              have hg : s.l.getD t (0, 0) = e := by rw [List.getD, he]; rfl
              have hrow := rowAt_get t hs
              rw [hg] at hrow
              have hmid := mid_get (m := cs) hrow (by rw [rowAt_length, hcs])
              have HSET := Lib.hid (set_mid hrow (show (rowAt ls t).length = cs.length by rw [rowAt_length, hcs]))
              obtain ⟨d, hd⟩ := hmid
              obtain ⟨d0, d1, d2, d3⟩ := hD2.out.cells hd
              have hlt2 := Bk.lt hD2.out
              have hlt1 := Bk.lt hD1.out
              have KE := Lib.hid (KP.out e)
              generalize pl e = pe at *
              generalize s.l.length = m at *
              clear hs hA2 he hg hrow hR hA K hd
              go_wp2_with (go_at_call 66; (with_reducible refine (KE.out _).mono ?_); rintro ev w1 ⟨rfl, hb1⟩; have q0 := (hb1.cell (p := ⟨G + 1, k * 2, none⟩) hlt2).trans d0; have q1 := (hb1.cell (p := ⟨G + 1, k * 2 + 1, none⟩) hlt2).trans d1; have q2 := (hb1.frozen (p := ⟨G + 1, k * 2, none⟩) hlt2).trans d2; have q3 := (hb1.frozen (p := ⟨G + 1, k * 2 + 1, none⟩) hlt2).trans d3)
              go_roundw
              case rel => exact ⟨k + 1, by omega, by go_num, Lib.hid (((hSX.out.below hb1 (Bk.lt hSX.out)).far (p := ⟨G + 1, _, none⟩) (by simpa using hne3) _).far (p := ⟨G + 1, _, none⟩) (by simpa using hne3) _), Lib.hid ((hD1.out.below hb1 hlt1).far2 (by omega) _ _), Lib.hid (by rw [← HSET.out]; exact (hD2.out.below hb1 hlt2).put k pe), bel_two (by repeat (first | (with_reducible exact Below.refl _ _) | (with_reducible assumption) | (with_reducible exact bel_box _) | (with_reducible refine bel_step ?_ (by with_reducible assumption)) | (with_reducible refine Below.drew ?_) | (with_reducible refine below_drewN ?_ _) | (with_reducible refine bel_alloc ?_ _))) (by omega) _ _⟩
              case measure => simp [intOf]; omega
            · obtain rfl : k = ls.length := by omega
              have hD2' := hD2.out
              rw [← rowAt_length ls t, List.take_length, rowAt_length, ← hcs, List.drop_length, List.append_nil] at hD2'
              have HD2 := Lib.hid hD2'
              have KS := Lib.hid (K.out (stT stp s0 ls t) (rowAt ls t) (G + 1))
              have HO := Lib.hid (outT_succ stp s0 ls t)
              have HS := Lib.hid (stT_succ stp s0 ls t)
              rw [rowAt_length] at KS
              generalize stp (stT stp s0 ls t) (rowAt ls t) = q at *
              obtain ⟨⟨qs, qt⟩, q1, q2⟩ := q
              simp only at KS HO HS
              have hget : (outT stp s0 ls t ++ List.replicate (n - t) (0, 0))[t]? = some (0, 0) := by
                rw [List.getElem?_append_right (by rw [outT_length]; omega), outT_length, Nat.sub_self, List.getElem?_replicate, if_pos (by omega)]
              obtain ⟨d0, d1, d2, d3⟩ := hD1.out.cells hget
              have hlt1 := Bk.lt hD1.out
              have hlt2 := Bk.lt hD2.out
              have hlt0 := Bk.lt hSX.out
              have s0' := hSX.out.cell 0
              have s1' := hSX.out.cell 1
              have s2' := hSX.out.frozen 0
              have s3' := hSX.out.frozen 1
              simp only [List.getElem?_toArray, List.getElem?_cons_zero, List.getElem?_cons_succ] at s0' s1'
              have HSET : Hid ((outT stp s0 ls t ++ List.replicate (n - t) (0, 0)).set t (q1, q2) = outT stp s0 ls (t + 1) ++ List.replicate (n - (t + 1)) (0, 0)) := Lib.hid (by
                rw [HO.out, List.set_append_right _ _ (by rw [outT_length]; omega), outT_length, show n - t = n - (t + 1) + 1 from by omega]
                simp [List.replicate_succ])
              have H31 := Lib.hid (K.out)
              clear hD2 hD2' hget K
              have KX := Lib.hid (KS.out)
              clear KS
              go_wp2_with (go_at_call 47; (with_reducible refine (KX.out _ (by simp [rowAt]) HD2.out.rd hbX).mono ?_); rintro ev w1 ⟨rfl, hb1⟩; have q0 := (hb1.cell (p := ⟨G, t * 2, none⟩) hlt1).trans d0; have q1' := (hb1.cell (p := ⟨G, t * 2 + 1, none⟩) hlt1).trans d1; have q2' := (hb1.frozen (p := ⟨G, t * 2, none⟩) hlt1).trans d2; have q3 := (hb1.frozen (p := ⟨G, t * 2 + 1, none⟩) hlt1).trans d3; have p0 := (hb1.cell (p := ⟨w.heap.size, 0, none⟩) hlt0).trans s0'; have p1 := (hb1.cell (p := ⟨w.heap.size, 1, none⟩) hlt0).trans s1'; have p2 := (hb1.frozen (p := ⟨w.heap.size, 0, none⟩) hlt0).trans s2'; have p3 := (hb1.frozen (p := ⟨w.heap.size, 1, none⟩) hlt0).trans s3')
              go_roundw
              case rel => exact ⟨t + 1, rowAt ls t, by omega, by go_num, Lib.hid (by rw [HS.out]; exact ((((hSX.out.below hb1 hlt0).set_ 0 (.int .i64 qs)).set_ 1 (.int .i64 qt)).far (p := ⟨G, _, none⟩) (by simpa using hne) _).far (p := ⟨G, _, none⟩) (by simpa using hne) _), by rw [rowAt_length], Lib.hid (by rw [← HSET.out]; exact ((hD1.out.below hb1 hlt1).far2 (by omega) _ _).put t (q1, q2)), Lib.hid (((HD2.out.below hb1 hlt2).far2 (by omega) _ _).far2 (by omega) _ _), bel_two (bel_two (by repeat (first | (with_reducible exact Below.refl _ _) | (with_reducible assumption) | (with_reducible exact bel_box _) | (with_reducible refine bel_step ?_ (by with_reducible assumption)) | (with_reducible refine Below.drew ?_) | (with_reducible refine below_drewN ?_ _) | (with_reducible refine bel_alloc ?_ _))) (by omega) _ _) (by omega) _ _⟩
              case measure => simp [intOf]; omega
        · obtain rfl : t = n := by omega
          have hB1' := hB1.out
          rw [Nat.sub_self, List.replicate_zero, List.append_nil] at hB1'
          have HR := Lib.hid hB1'.rd
          have HL := Lib.hid (outT_length stp s0 ls t)
          clear hB1 hB2 hB1' K
          go_wp2
          go_ret
          exact ⟨_, _, by rw [HL.out]; rfl, HR.out, hbW⟩
end Go.Proofs.Ytefmnjcllncmpaa
/- combine of stream.combine[synchrony/api.Cell] with stream.Fby$1. -/
namespace Go.Proofs.Ytefmnjcllncmpaa
set_option linter.unusedVariables false
set_option linter.unusedSimpArgs false
open Go.RowKit
set_option maxHeartbeats 8000000 in
set_option maxRecDepth 20000 in
theorem combine_f (A : Option Addr) (c : Nat) (ls : List St) (s0 : Int × Int) (stp : Int × Int → List (Int × Int) → (Int × Int) × (Int × Int)) (w : World) (hA : RdS w w.heap.size A ls) (hl : ls.length ≤ 100) (h0 : 0 < ls.length) (h3 : ∀ s ∈ ls, s.l.length ≤ 1000000)
    (K : Hid (∀ (s : Int × Int) (r : List (Int × Int)) (g : Nat) (W : World), r.length = ls.length → RdC W W.heap.size (some ⟨g, 0, none⟩) r → Below w.heap.size w W → Calls Try.prog 50 #[cV s, .slice (some ⟨g, 0, none⟩) r.length r.length] W (Bel (.tuple #[cV (stp s r).1, cV (stp s r).2]) W))) :
    Calls Try.prog 46 #[cV s0, .func (.func 50) #[] #[], .slice A ls.length c] w (NewC (outT stp s0 ls (tog ls)) w) := by
  obtain ⟨ad0, a, rfl, had0, ha, hc0, _⟩ := hA.at_ (k := 0) (by omega)
  rw [add_zero'] at hc0
  rw [tog_head ha]
  have ha3 := h3 a (List.mem_of_getElem? ha)
  have HA := Lib.hid hA
  have H3 := Lib.hid h3
  have KP := Lib.hid plain_any
  simp only [cV] at K KP ⊢
  have g0 : ((ls.length : Int) == 0) = false := beq_eq_false_iff_ne.2 (by omega)
  have hz := add_zero' ad0
  clear hA h3 ha
  go_enter Try.func46, Try.ntmps46
  go_wp2
  go_loopw [7, 24] (fun n i wr => ∃ k : Nat, k ≤ ls.length ∧ i = .int .i64 (k : Int) ∧ n = .int .i64 ((togF a.l.length (ls.take k) : Nat) : Int) ∧ Hid (Bk wr w.heap.size 46 #[.int .i64 s0.1, .int .i64 s0.2]) ∧ Below w.heap.size w wr) (fun _ i _ => ls.length - (intOf i).toNat)
  case atStart => exact ⟨0, by omega, rfl, rfl, Lib.hid (Bk.new _ _ _), (by repeat (first | (with_reducible exact Below.refl _ _) | (with_reducible assumption) | (with_reducible exact bel_box _) | (with_reducible refine bel_step ?_ (by with_reducible assumption)) | (with_reducible refine Below.drew ?_) | (with_reducible refine below_drewN ?_ _) | (with_reducible refine bel_alloc ?_ _)))⟩
  case round =>
    obtain ⟨k, hk, rfl, rfl, hSB, hbl⟩ := hrel
    by_cases hlt : k < ls.length
    · obtain ⟨ad, s, hA, had, hs, hc, _⟩ := (HA.out.to hbl).at_ hlt
      obtain rfl : ad0 = ad := by simpa using hA
      have hm := H3.out s (List.mem_of_getElem? hs)
      have HT := Lib.hid (togF_take (n := a.l.length) hs)
      have hn := (togF_le (ls.take k) a.l.length).1
      clear hs hA K
      generalize togF a.l.length (ls.take k) = n at *
      generalize hsl : s.l.length = m at *
      clear hsl
      go_wp2
      go_roundw
      case rel => exact ⟨k + 1, by omega, by go_num, by rw [HT.out]; exact congrArg _ (by split <;> omega), hSB, (by repeat (first | (with_reducible exact Below.refl _ _) | (with_reducible assumption) | (with_reducible exact bel_box _) | (with_reducible refine bel_step ?_ (by with_reducible assumption)) | (with_reducible refine Below.drew ?_) | (with_reducible refine below_drewN ?_ _) | (with_reducible refine bel_alloc ?_ _)))⟩
      case measure => simp [intOf]; omega
    · obtain rfl : k = ls.length := by omega
      rw [List.take_length]
      have hn := (togF_le ls a.l.length).1
      have HTOG := Lib.hid (togF_le ls a.l.length).2
      generalize togF a.l.length ls = n at *
      have m1 := mk_cells n (by omega) wr
      have m2 := mk_cells ls.length (by omega) (wr.alloc (.cells (fl (List.replicate n (0, 0))).toArray 46))
      clear hc0 hz
      go_wp2
      clear m1 m2
      have hws := Bk.lt hSB.out
      have hB10 : Bc ((wr.alloc (.cells (fl (List.replicate n (0, 0))).toArray 46)).alloc (.cells (fl (List.replicate ls.length (0, 0))).toArray 46)) wr.heap.size (List.replicate n (0, 0)) := (Bk.new wr 46 _).alloc _
      have hB20 : Bc ((wr.alloc (.cells (fl (List.replicate n (0, 0))).toArray 46)).alloc (.cells (fl (List.replicate ls.length (0, 0))).toArray 46)) (wr.heap.size + 1) (List.replicate ls.length (0, 0)) := by
        have h := Bk.new (wr.alloc (.cells (fl (List.replicate n (0, 0))).toArray 46)) 46 (fl (List.replicate ls.length (0, 0))).toArray
        rwa [World.size_alloc] at h
      have hSB0 := (hSB.out.alloc (.cells (fl (List.replicate n (0, 0))).toArray 46)).alloc (.cells (fl (List.replicate ls.length (0, 0))).toArray 46)
      generalize wr.heap.size = G at *
      have hne : ¬ w.heap.size = G := by omega
      have hne2 : ¬ G = w.heap.size := by omega
      have hne3 : ¬ w.heap.size = G + 1 := by omega
      go_loopw [39] (fun i W => ∃ (t : Nat) (cs : List (Int × Int)), t ≤ n ∧ i = .int .i64 (t : Int) ∧ Hid (Bk W w.heap.size 46 #[.int .i64 (stT stp s0 ls t).1, .int .i64 (stT stp s0 ls t).2]) ∧ cs.length = ls.length ∧ Hid (Bc W G (outT stp s0 ls t ++ List.replicate (n - t) (0, 0))) ∧ Hid (Bc W (G + 1) cs) ∧ Below w.heap.size w W) (fun i _ => n - (intOf i).toNat)
      case atStart => exact ⟨0, List.replicate ls.length (0, 0), by omega, rfl, Lib.hid hSB0, by simp, Lib.hid hB10, Lib.hid hB20, (by repeat (first | (with_reducible exact Below.refl _ _) | (with_reducible assumption) | (with_reducible exact bel_box _) | (with_reducible refine bel_step ?_ (by with_reducible assumption)) | (with_reducible refine Below.drew ?_) | (with_reducible refine below_drewN ?_ _) | (with_reducible refine bel_alloc ?_ _)))⟩
      case round =>
        obtain ⟨t, cs, ht, rfl, hST, hcs, hB1, hB2, hbW⟩ := hrel
        by_cases htn : t < n
        · go_wp2
          go_loopw [44] (fun i W => ∃ k : Nat, k ≤ ls.length ∧ i = .int .i64 (k : Int) ∧ Hid (Bk W w.heap.size 46 #[.int .i64 (stT stp s0 ls t).1, .int .i64 (stT stp s0 ls t).2]) ∧ Hid (Bc W G (outT stp s0 ls t ++ List.replicate (n - t) (0, 0))) ∧ Hid (Bc W (G + 1) ((rowAt ls t).take k ++ cs.drop k)) ∧ Below w.heap.size w W) (fun i _ => ls.length - (intOf i).toNat)
          case atStart => exact ⟨0, by omega, rfl, hST, hB1, Lib.hid (by simpa using hB2.out), hbW⟩
          case round =>
            obtain ⟨k, hk, rfl, hSX, hD1, hD2, hbX⟩ := hrel
            by_cases hkl : k < ls.length
            · obtain ⟨ad, s, hA, had, hs, hc, hR⟩ := (HA.out.to hbX).at_ hkl
              obtain rfl : ad0 = ad := by simpa using hA
              have hm := H3.out s (List.mem_of_getElem? hs)
              have htl : t < s.l.length := by have := HTOG.out s (List.mem_of_getElem? hs); omega
              obtain ⟨ad2, e, hA2, hadb2, he, hc1, hc2⟩ := hR.at_ htl
              rw [hA2] at hc
              have hg : s.l.getD t (0, 0) = e := by rw [List.getD, he]; rfl
              have hrow := rowAt_get t hs
              rw [hg] at hrow
              have hmid := mid_get (m := cs) hrow (by rw [rowAt_length, hcs])
              have HSET := Lib.hid (set_mid hrow (show (rowAt ls t).length = cs.length by rw [rowAt_length, hcs]))
              obtain ⟨d, hd⟩ := hmid
              obtain ⟨d0, d1, d2, d3⟩ := hD2.out.cells hd
              have hlt2 := Bk.lt hD2.out
              have hlt1 := Bk.lt hD1.out
              have KE := Lib.hid (KP.out e)
              generalize pl e = pe at *
              generalize s.l.length = m at *
              clear hs hA2 he hg hrow hR hA K hd
              go_wp2_with (go_at_call 66; (with_reducible refine (KE.out _).mono ?_); rintro ev w1 ⟨rfl, hb1⟩; have q0 := (hb1.cell (p := ⟨G + 1, k * 2, none⟩) hlt2).trans d0; have q1 := (hb1.cell (p := ⟨G + 1, k * 2 + 1, none⟩) hlt2).trans d1; have q2 := (hb1.frozen (p := ⟨G + 1, k * 2, none⟩) hlt2).trans d2; have q3 := (hb1.frozen (p := ⟨G + 1, k * 2 + 1, none⟩) hlt2).trans d3)
              go_roundw
              case rel => exact ⟨k + 1, by omega, by go_num, Lib.hid (((hSX.out.below hb1 (Bk.lt hSX.out)).far (p := ⟨G + 1, _, none⟩) (by simpa using hne3) _).far (p := ⟨G + 1, _, none⟩) (by simpa using hne3) _), Lib.hid ((hD1.out.below hb1 hlt1).far2 (by omega) _ _), Lib.hid (by rw [← HSET.out]; exact (hD2.out.below hb1 hlt2).put k pe), bel_two (by repeat (first | (with_reducible exact Below.refl _ _) | (with_reducible assumption) | (with_reducible exact bel_box _) | (with_reducible refine bel_step ?_ (by with_reducible assumption)) | (with_reducible refine Below.drew ?_) | (with_reducible refine below_drewN ?_ _) | (with_reducible refine bel_alloc ?_ _))) (by omega) _ _⟩
              case measure => simp [intOf]; omega
            · obtain rfl : k = ls.length := by omega
              have hD2' := hD2.out
              rw [← rowAt_length ls t, List.take_length, rowAt_length, ← hcs, List.drop_length, List.append_nil] at hD2'
              have HD2 := Lib.hid hD2'
              have KS := Lib.hid (K.out (stT stp s0 ls t) (rowAt ls t) (G + 1))
              have HO := Lib.hid (outT_succ stp s0 ls t)
              have HS := Lib.hid (stT_succ stp s0 ls t)
              rw [rowAt_length] at KS
              generalize stp (stT stp s0 ls t) (rowAt ls t) = q at *
              obtain ⟨⟨qs, qt⟩, q1, q2⟩ := q
              simp only at KS HO HS
              have hget : (outT stp s0 ls t ++ List.replicate (n - t) (0, 0))[t]? = some (0, 0) := by
                rw [List.getElem?_append_right (by rw [outT_length]; omega), outT_length, Nat.sub_self, List.getElem?_replicate, if_pos (by omega)]
              obtain ⟨d0, d1, d2, d3⟩ := hD1.out.cells hget
              have hlt1 := Bk.lt hD1.out
              have hlt2 := Bk.lt hD2.out
              have hlt0 := Bk.lt hSX.out
              have s0' := hSX.out.cell 0
              have s1' := hSX.out.cell 1
              have s2' := hSX.out.frozen 0
              have s3' := hSX.out.frozen 1
              simp only [List.getElem?_toArray, List.getElem?_cons_zero, List.getElem?_cons_succ] at s0' s1'
              have HSET : Hid ((outT stp s0 ls t ++ List.replicate (n - t) (0, 0)).set t (q1, q2) = outT stp s0 ls (t + 1) ++ List.replicate (n - (t + 1)) (0, 0)) := Lib.hid (by
                rw [HO.out, List.set_append_right _ _ (by rw [outT_length]; omega), outT_length, show n - t = n - (t + 1) + 1 from by omega]
                simp [List.replicate_succ])
              have H31 := Lib.hid (K.out)
              clear hD2 hD2' hget K
              have KX := Lib.hid (KS.out)
              clear KS
              go_wp2_with (go_at_call 50; (with_reducible refine (KX.out _ (by simp [rowAt]) HD2.out.rd hbX).mono ?_); rintro ev w1 ⟨rfl, hb1⟩; have q0 := (hb1.cell (p := ⟨G, t * 2, none⟩) hlt1).trans d0; have q1' := (hb1.cell (p := ⟨G, t * 2 + 1, none⟩) hlt1).trans d1; have q2' := (hb1.frozen (p := ⟨G, t * 2, none⟩) hlt1).trans d2; have q3 := (hb1.frozen (p := ⟨G, t * 2 + 1, none⟩) hlt1).trans d3; have p0 := (hb1.cell (p := ⟨w.heap.size, 0, none⟩) hlt0).trans s0'; have p1 := (hb1.cell (p := ⟨w.heap.size, 1, none⟩) hlt0).trans s1'; have p2 := (hb1.frozen (p := ⟨w.heap.size, 0, none⟩) hlt0).trans s2'; have p3 := (hb1.frozen (p := ⟨w.heap.size, 1, none⟩) hlt0).trans s3')
              go_roundw
              case rel => exact ⟨t + 1, rowAt ls t, by omega, by go_num, Lib.hid (by rw [HS.out]; exact ((((hSX.out.below hb1 hlt0).set_ 0 (.int .i64 qs)).set_ 1 (.int .i64 qt)).far (p := ⟨G, _, none⟩) (by simpa using hne) _).far (p := ⟨G, _, none⟩) (by simpa using hne) _), by rw [rowAt_length], Lib.hid (by rw [← HSET.out]; exact ((hD1.out.below hb1 hlt1).far2 (by omega) _ _).put t (q1, q2)), Lib.hid (((HD2.out.below hb1 hlt2).far2 (by omega) _ _).far2 (by omega) _ _), bel_two (bel_two (by repeat (first | (with_reducible exact Below.refl _ _) | (with_reducible assumption) | (with_reducible exact bel_box _) | (with_reducible refine bel_step ?_ (by with_reducible assumption)) | (with_reducible refine Below.drew ?_) | (with_reducible refine below_drewN ?_ _) | (with_reducible refine bel_alloc ?_ _))) (by omega) _ _) (by omega) _ _⟩
              case measure => simp [intOf]; omega
        · obtain rfl : t = n := by omega
          have hB1' := hB1.out
          rw [Nat.sub_self, List.replicate_zero, List.append_nil] at hB1'
          have HR := Lib.hid hB1'.rd
          have HL := Lib.hid (outT_length stp s0 ls t)
          clear hB1 hB2 hB1' K
          go_wp2
          go_ret
          exact ⟨_, _, by rw [HL.out]; rfl, HR.out, hbW⟩
end Go.Proofs.Ytefmnjcllncmpaa
/- combine of stream.combine[int] with stream.Word$1. -/
namespace Go.Proofs.Ytefmnjcllncmpaa
set_option linter.unusedVariables false
set_option linter.unusedSimpArgs false
open Go.RowKit
set_option maxHeartbeats 8000000 in
set_option maxRecDepth 20000 in
theorem combine_w (p0 : Value) (p1 : Value) (A : Option Addr) (c : Nat) (ls : List St) (s0 : Int) (stp : Int → List (Int × Int) → (Int) × (Int × Int)) (w : World) (hA : RdS w w.heap.size A ls) (hl : ls.length ≤ 100) (h0 : 0 < ls.length) (h3 : ∀ s ∈ ls, s.l.length ≤ 1000000)
    (K : Hid (∀ (m : Nat) (s : Int) (r : List (Int × Int)) (g : Nat) (W : World), m ≤ 1000000 → s = stT stp s0 ls m → r.length = ls.length → RdC W W.heap.size (some ⟨g, 0, none⟩) r → Below w.heap.size w W → Calls Try.prog 56 #[.int .i64 s, .slice (some ⟨g, 0, none⟩) r.length r.length, p0, p1] W (Bel (.tuple #[.int .i64 (stp s r).1, cV (stp s r).2]) W))) :
    Calls Try.prog 55 #[.int .i64 s0, .func (.func 56) #[] #[p0, p1], .slice A ls.length c] w (NewC (outT stp s0 ls (tog ls)) w) := by
  obtain ⟨ad0, a, rfl, had0, ha, hc0, _⟩ := hA.at_ (k := 0) (by omega)
  rw [add_zero'] at hc0
  rw [tog_head ha]
  have ha3 := h3 a (List.mem_of_getElem? ha)
  have HA := Lib.hid hA
  have H3 := Lib.hid h3
  have KP := Lib.hid plain_any
  simp only [cV] at K KP
  have g0 : ((ls.length : Int) == 0) = false := beq_eq_false_iff_ne.2 (by omega)
  have hz := add_zero' ad0
  clear hA h3 ha
  go_enter Try.func55, Try.ntmps55
  go_wp2
  go_loopw [7, 24] (fun n i wr => ∃ k : Nat, k ≤ ls.length ∧ i = .int .i64 (k : Int) ∧ n = .int .i64 ((togF a.l.length (ls.take k) : Nat) : Int) ∧ Below w.heap.size w wr) (fun _ i _ => ls.length - (intOf i).toNat)
  case atStart => exact ⟨0, by omega, rfl, rfl, (by repeat (first | (with_reducible exact Below.refl _ _) | (with_reducible assumption) | (with_reducible exact bel_box _) | (with_reducible refine bel_step ?_ (by with_reducible assumption)) | (with_reducible refine Below.drew ?_) | (with_reducible refine below_drewN ?_ _) | (with_reducible refine bel_alloc ?_ _)))⟩
  case round =>
    obtain ⟨k, hk, rfl, rfl, hbl⟩ := hrel
    by_cases hlt : k < ls.length
    · obtain ⟨ad, s, hA, had, hs, hc, _⟩ := (HA.out.to hbl).at_ hlt
      obtain rfl : ad0 = ad := by simpa using hA
      have hm := H3.out s (List.mem_of_getElem? hs)
      have HT := Lib.hid (togF_take (n := a.l.length) hs)
      have hn := (togF_le (ls.take k) a.l.length).1
      clear hs hA K
      generalize togF a.l.length (ls.take k) = n at *
      generalize hsl : s.l.length = m at *
      clear hsl
      go_wp2
      go_roundw
      case rel => exact ⟨k + 1, by omega, by go_num, by rw [HT.out]; exact congrArg _ (by split <;> omega), (by repeat (first | (with_reducible exact Below.refl _ _) | (with_reducible assumption) | (with_reducible exact bel_box _) | (with_reducible refine bel_step ?_ (by with_reducible assumption)) | (with_reducible refine Below.drew ?_) | (with_reducible refine below_drewN ?_ _) | (with_reducible refine bel_alloc ?_ _)))⟩
      case measure => simp [intOf]; omega
    · obtain rfl : k = ls.length := by omega
      rw [List.take_length]
      have hn := (togF_le ls a.l.length).1
      have HTOG := Lib.hid (togF_le ls a.l.length).2
      generalize togF a.l.length ls = n at *
      have m1 := mk_cells n (by omega) wr
      have m2 := mk_cells ls.length (by omega) (wr.alloc (.cells (fl (List.replicate n (0, 0))).toArray 46))
      clear hc0 hz
      go_wp2
      clear m1 m2
      have hws := hbl.size
      have hB10 : Bc ((wr.alloc (.cells (fl (List.replicate n (0, 0))).toArray 46)).alloc (.cells (fl (List.replicate ls.length (0, 0))).toArray 46)) wr.heap.size (List.replicate n (0, 0)) := (Bk.new wr 46 _).alloc _
      have hB20 : Bc ((wr.alloc (.cells (fl (List.replicate n (0, 0))).toArray 46)).alloc (.cells (fl (List.replicate ls.length (0, 0))).toArray 46)) (wr.heap.size + 1) (List.replicate ls.length (0, 0)) := by
        have h := Bk.new (wr.alloc (.cells (fl (List.replicate n (0, 0))).toArray 46)) 46 (fl (List.replicate ls.length (0, 0))).toArray
        rwa [World.size_alloc] at h
      generalize wr.heap.size = G at *
      go_loopw [0, 39] (fun sv i W => ∃ (t : Nat) (cs : List (Int × Int)), t ≤ n ∧ i = .int .i64 (t : Int) ∧ sv = .int .i64 (stT stp s0 ls t) ∧ cs.length = ls.length ∧ Hid (Bc W G (outT stp s0 ls t ++ List.replicate (n - t) (0, 0))) ∧ Hid (Bc W (G + 1) cs) ∧ Below w.heap.size w W) (fun _ i _ => n - (intOf i).toNat)
      case atStart => exact ⟨0, List.replicate ls.length (0, 0), by omega, rfl, rfl, by simp, Lib.hid hB10, Lib.hid hB20, (by repeat (first | (with_reducible exact Below.refl _ _) | (with_reducible assumption) | (with_reducible exact bel_box _) | (with_reducible refine bel_step ?_ (by with_reducible assumption)) | (with_reducible refine Below.drew ?_) | (with_reducible refine below_drewN ?_ _) | (with_reducible refine bel_alloc ?_ _)))⟩
      case round =>
        obtain ⟨t, cs, ht, rfl, rfl, hcs, hB1, hB2, hbW⟩ := hrel
        by_cases htn : t < n
        · go_wp2
          go_loopw [44] (fun i W => ∃ k : Nat, k ≤ ls.length ∧ i = .int .i64 (k : Int) ∧ Hid (Bc W G (outT stp s0 ls t ++ List.replicate (n - t) (0, 0))) ∧ Hid (Bc W (G + 1) ((rowAt ls t).take k ++ cs.drop k)) ∧ Below w.heap.size w W) (fun i _ => ls.length - (intOf i).toNat)
          case atStart => exact ⟨0, by omega, rfl, hB1, Lib.hid (by simpa using hB2.out), hbW⟩
          case round =>
            obtain ⟨k, hk, rfl, hD1, hD2, hbX⟩ := hrel
            by_cases hkl : k < ls.length
            · obtain ⟨ad, s, hA, had, hs, hc, hR⟩ := (HA.out.to hbX).at_ hkl
              obtain rfl : ad0 = ad := by simpa using hA
              have hm := H3.out s (List.mem_of_getElem? hs)
              have htl : t < s.l.length := by have := HTOG.out s (List.mem_of_getElem? hs); omega
              obtain ⟨ad2, e, hA2, hadb2, he, hc1, hc2⟩ := hR.at_ htl
              rw [hA2] at hc
              have hg : s.l.getD t (0, 0) = e := by rw [List.getD, he]; rfl
              have hrow := rowAt_get t hs
              rw [hg] at hrow
              have hmid := mid_get (m := cs) hrow (by rw [rowAt_length, hcs])
              have HSET := Lib.hid (set_mid hrow (show (rowAt ls t).length = cs.length by rw [rowAt_length, hcs]))
              obtain ⟨d, hd⟩ := hmid
              obtain ⟨d0, d1, d2, d3⟩ := hD2.out.cells hd
              have hlt2 := Bk.lt hD2.out
              have hlt1 := Bk.lt hD1.out
              have KE := Lib.hid (KP.out e)
              generalize pl e = pe at *
              generalize s.l.length = m at *
              clear hs hA2 he hg hrow hR hA K hd
              go_wp2_with (go_at_call 66; (with_reducible refine (KE.out _).mono ?_); rintro ev w1 ⟨rfl, hb1⟩; have q0 := (hb1.cell (p := ⟨G + 1, k * 2, none⟩) hlt2).trans d0; have q1 := (hb1.cell (p := ⟨G + 1, k * 2 + 1, none⟩) hlt2).trans d1; have q2 := (hb1.frozen (p := ⟨G + 1, k * 2, none⟩) hlt2).trans d2; have q3 := (hb1.frozen (p := ⟨G + 1, k * 2 + 1, none⟩) hlt2).trans d3)
              go_roundw
              case rel => exact ⟨k + 1, by omega, by go_num, Lib.hid ((hD1.out.below hb1 hlt1).far2 (by omega) _ _), Lib.hid (by rw [← HSET.out]; exact (hD2.out.below hb1 hlt2).put k pe), bel_two (by repeat (first | (with_reducible exact Below.refl _ _) | (with_reducible assumption) | (with_reducible exact bel_box _) | (with_reducible refine bel_step ?_ (by with_reducible assumption)) | (with_reducible refine Below.drew ?_) | (with_reducible refine below_drewN ?_ _) | (with_reducible refine bel_alloc ?_ _))) (by omega) _ _⟩
              case measure => simp [intOf]; omega
            · obtain rfl : k = ls.length := by omega
              have hD2' := hD2.out
              rw [← rowAt_length ls t, List.take_length, rowAt_length, ← hcs, List.drop_length, List.append_nil] at hD2'
              have HD2 := Lib.hid hD2'
              have KS := Lib.hid (fun W => K.out t (stT stp s0 ls t) (rowAt ls t) (G + 1) W (by omega) rfl)
              have HO := Lib.hid (outT_succ stp s0 ls t)
              have HS := Lib.hid (stT_succ stp s0 ls t)
              rw [rowAt_length] at KS
              generalize stp (stT stp s0 ls t) (rowAt ls t) = q at *
              obtain ⟨qs, q1, q2⟩ := q
              simp only at KS HO HS
              have hget : (outT stp s0 ls t ++ List.replicate (n - t) (0, 0))[t]? = some (0, 0) := by
                rw [List.getElem?_append_right (by rw [outT_length]; omega), outT_length, Nat.sub_self, List.getElem?_replicate, if_pos (by omega)]
              obtain ⟨d0, d1, d2, d3⟩ := hD1.out.cells hget
              have hlt1 := Bk.lt hD1.out
              have hlt2 := Bk.lt hD2.out
              have HSET : Hid ((outT stp s0 ls t ++ List.replicate (n - t) (0, 0)).set t (q1, q2) = outT stp s0 ls (t + 1) ++ List.replicate (n - (t + 1)) (0, 0)) := Lib.hid (by
                rw [HO.out, List.set_append_right _ _ (by rw [outT_length]; omega), outT_length, show n - t = n - (t + 1) + 1 from by omega]
                simp [List.replicate_succ])
              have H31 := Lib.hid (K.out)
              clear hD2 hD2' hget K
              have KX := Lib.hid (KS.out)
              clear KS
              go_wp2_with (go_at_call 56; (with_reducible refine (KX.out _ (by simp [rowAt]) HD2.out.rd hbX).mono ?_); rintro ev w1 ⟨rfl, hb1⟩; have q0 := (hb1.cell (p := ⟨G, t * 2, none⟩) hlt1).trans d0; have q1' := (hb1.cell (p := ⟨G, t * 2 + 1, none⟩) hlt1).trans d1; have q2' := (hb1.frozen (p := ⟨G, t * 2, none⟩) hlt1).trans d2; have q3 := (hb1.frozen (p := ⟨G, t * 2 + 1, none⟩) hlt1).trans d3)
              go_roundw
              case rel => exact ⟨t + 1, rowAt ls t, by omega, by go_num, by rw [HS.out], by rw [rowAt_length], Lib.hid (by rw [← HSET.out]; exact (hD1.out.below hb1 hlt1).put t (q1, q2)), Lib.hid ((HD2.out.below hb1 hlt2).far2 (by omega) _ _), bel_two (by repeat (first | (with_reducible exact Below.refl _ _) | (with_reducible assumption) | (with_reducible exact bel_box _) | (with_reducible refine bel_step ?_ (by with_reducible assumption)) | (with_reducible refine Below.drew ?_) | (with_reducible refine below_drewN ?_ _) | (with_reducible refine bel_alloc ?_ _))) (by omega) _ _⟩
              case measure => simp [intOf]; omega
        · obtain rfl : t = n := by omega
          have hB1' := hB1.out
          rw [Nat.sub_self, List.replicate_zero, List.append_nil] at hB1'
          have HR := Lib.hid hB1'.rd
          have HL := Lib.hid (outT_length stp s0 ls t)
          clear hB1 hB2 hB1' K
          go_wp2
          go_ret
          exact ⟨_, _, by rw [HL.out]; rfl, HR.out, hbW⟩
end Go.Proofs.Ytefmnjcllncmpaa
