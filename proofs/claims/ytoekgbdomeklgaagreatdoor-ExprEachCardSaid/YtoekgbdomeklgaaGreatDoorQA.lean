/- Texts of one chain, in one file. -/
import Derived.Test.YtoekgbdomeklgaaGreatDoorRows
import Derived.WalkKit
import Derived.WalkLawsBesides
import Derived.Lib.Hide
import Derived.Deep.Draws
import Derived.Deep.QuietTactic
import Derived.BigQuiet
import Derived.Maps.AppendAt
import Derived.Deep.AppendLies
/- Words for memory: a slice header whose cells read as a list of values, kept over what leaves the old blocks alone. -/
namespace Go.Proofs.YtoekgbdomeklgaaGreatDoor
set_option linter.unusedVariables false
set_option linter.unusedSimpArgs false
open Go.RowKit

theorem add_block (a : Addr) (n : Nat) : (a.add n).block = a.block := by unfold Addr.add; split <;> rfl
/-- A and the length of xs are a slice whose elements (one cell each) are xs, in a block below B -/
def Rd (w : World) (B : Nat) (A : Option Addr) (xs : List Value) : Prop :=
  xs ≠ [] → ∃ ad, A = some ad ∧ ad.block < B ∧ ∀ j u, xs[j]? = some u → w.cell? (ad.add j) = some u

theorem Rd.nil (w : World) (B : Nat) (A : Option Addr) : Rd w B A [] := fun h => absurd rfl h
theorem Rd.keep {w w' : World} {B : Nat} {A : Option Addr} {xs : List Value} (h : Rd w B A xs) (hk : ∀ p : Addr, p.block < B → w'.cell? p = w.cell? p) : Rd w' B A xs := fun hn => by
  obtain ⟨ad, e, hb, hc⟩ := h hn
  exact ⟨ad, e, hb, fun j u hu => (hk _ (by rw [add_block]; exact hb)).trans (hc j u hu)⟩
theorem Rd.more {w : World} {B B' : Nat} {A : Option Addr} {xs : List Value} (h : Rd w B A xs) (hB : B ≤ B') : Rd w B' A xs := fun hn => by
  obtain ⟨ad, e, hb, hc⟩ := h hn
  exact ⟨ad, e, by omega, hc⟩
theorem Rd.below {w w' : World} {B : Nat} {A : Option Addr} {xs : List Value} (h : Rd w B A xs) (hb : Below B w w') : Rd w' B A xs := h.keep fun _ hp => hb.cell hp
theorem Rd.drewN {w : World} {B : Nat} {A : Option Addr} {xs : List Value} (h : Rd w B A xs) (k : Nat) : Rd (w.drewN k) B A xs := h
theorem below_drewN {B : Nat} {a w : World} (h : Below B a w) (n : Nat) : Below B a (w.drewN n) := ⟨h.os, h.tape, h.output, h.size, h.block⟩
def bls (l : List Bool) : List Value := l.map Value.bool
theorem take_succ_of {α : Type} {l : List α} {k : Nat} {b : α} (h : l[k]? = some b) : l.take (k + 1) = l.take k ++ [b] := by
  rw [List.take_add_one, h]; rfl
theorem Rd.of_own {w : World} {base : Nat} {e : TypeId} {A : Option Addr} {n c : Nat} {xs : List Value} (h : w.ownsRow base e 1 (.slice A n c) n xs) : Rd w w.heap.size A xs := fun hn => by
  have hl : xs.length = n := by simpa using h.1
  have hn' : 0 < n := by
    rcases Nat.eq_zero_or_pos n with h0 | h0
    · exact absurd (List.eq_nil_of_length_eq_zero (hl.trans h0)) hn
    · exact h0
  obtain ⟨g, cap, hv, _, hlt⟩ := h.form hn'
  have hA : A = some ⟨g, 0, none⟩ := by injection hv
  subst hA
  exact ⟨_, rfl, hlt, fun j u hu => h.cells (g := g) rfl j u hu⟩
theorem bel_box {w : World} (o : Obj) : Below w.heap.size w (w.alloc o) := (Below.refl _ _).alloc (Nat.le_refl _) _
theorem bel_step {w W w' : World} (h : Below w.heap.size w W) (hb : Below W.heap.size W w') : Below w.heap.size w w' := h.trans (hb.mono h.size)
theorem bel_alloc {w W : World} (h : Below w.heap.size w W) (o : Obj) : Below w.heap.size w (W.alloc o) := h.alloc h.size o
theorem bcell {W w1 : World} (hb : Below W.heap.size W w1) : (∀ b o, b < W.heap.size → w1.cell? ⟨b, o, none⟩ = W.cell? ⟨b, o, none⟩) ∧ (∀ b o, b < W.heap.size → w1.frozen? ⟨b, o, none⟩ = W.frozen? ⟨b, o, none⟩) ∧ W.heap.size ≤ w1.heap.size :=
  ⟨fun b o h => hb.cell (p := ⟨b, o, none⟩) h, fun b o h => hb.frozen (p := ⟨b, o, none⟩) h, hb.size⟩
/-- a reading at the start is one later -/
theorem Rd.to {w W : World} {A : Option Addr} {xs : List Value} (h : Rd w w.heap.size A xs) (hb : Below w.heap.size w W) : Rd W W.heap.size A xs := (h.below hb).more hb.size
theorem add_add' (a : Addr) (i j : Nat) : (a.add i).add j = a.add (i + j) := by
  unfold Addr.add
  by_cases hi : i = 0 <;> by_cases hj : j = 0 <;> simp [hi, hj, Nat.add_assoc]
theorem Rd.drop {w : World} {B : Nat} {A : Option Addr} {l : List Bool} (h : Rd w B A (bls l)) (k : Nat) : Rd w B (A.map (·.add k)) (bls (l.drop k)) := fun hn => by
  obtain ⟨ad, e, hb, hc⟩ := h (by intro e; apply hn; simp [bls] at e; simp [bls, e])
  refine ⟨ad.add k, by rw [e]; rfl, by rw [add_block]; exact hb, fun j u hu => ?_⟩
  rw [add_add']
  apply hc
  rw [bls, List.getElem?_map, List.getElem?_drop] at hu
  rw [bls, List.getElem?_map]
  exact hu
/-- where there is something, it lies in a block from N on -/
def Nw (N : Nat) (A : Option Addr) (xs : List Value) : Prop := ∀ ad, A = some ad → xs ≠ [] → N ≤ ad.block
theorem Nw.nil (N : Nat) (A : Option Addr) : Nw N A [] := fun _ _ h => absurd rfl h
theorem Nw.mono {N N' : Nat} {A : Option Addr} {xs : List Value} (h : Nw N A xs) (hN : N' ≤ N) : Nw N' A xs := fun ad e hx => Nat.le_trans hN (h ad e hx)
/-- what a cell holds, whatever it is -/
def rc (w : World) (b i : Nat) : Value := (w.cell? ⟨b, i, none⟩).getD undef
attribute [irreducible] rc
end Go.Proofs.YtoekgbdomeklgaaGreatDoor
/- Tests of a byte, of both sides. -/
namespace Go.Proofs.YtoekgbdomeklgaaGreatDoor
set_option linter.unusedVariables false
set_option linter.unusedSimpArgs false
open Go.RowKit
def Bel (v : Value) (w : World) (e : Ending) (w' : World) : Prop := e = .returned v ∧ Below w.heap.size w w'
theorem ret_bool {a b : Bool} (h : a = b) : Ending.returned (.bool a) = .returned (.bool b) := by rw [h]
/-- tests of a byte, as a number -/
def pL (n : Int) : Bool := decide (97 ≤ n ∧ n ≤ 122 ∨ 65 ≤ n ∧ n ≤ 90)
def pG (n : Int) : Bool := decide (48 ≤ n ∧ n ≤ 57)
def pI (n : Int) : Bool := pL n || pG n || n == 95
def pW (n : Int) : Bool := n == 48 || n == 49 || n == 40 || n == 41
theorem letter_any (n : Int) (w : World) : Calls Tryz.prog 48 #[.int .u8 n] w (Bel (.bool (pL n)) w) := by
  go_enter Tryz.func48, Tryz.ntmps48
  go_wp2
  all_goals go_ret
  all_goals refine ⟨ret_bool ?_, (by repeat (first | (with_reducible exact Below.refl _ _) | (with_reducible assumption) | (with_reducible exact bel_box _) | (with_reducible refine bel_step ?_ (by with_reducible assumption)) | (with_reducible refine Below.drew ?_) | (with_reducible refine below_drewN ?_ _) | (with_reducible refine bel_alloc ?_ _)))⟩
  all_goals (first | (rw [eq_comm, pL, decide_eq_true_eq]; omega) | (rw [eq_comm, pL, decide_eq_false_iff_not]; omega) | (rw [Bool.eq_iff_iff]; simp [pL]; omega))
theorem digit_any (n : Int) (w : World) : Calls Tryz.prog 52 #[.int .u8 n] w (Bel (.bool (pG n)) w) := by
  go_enter Tryz.func52, Tryz.ntmps52
  go_wp2
  all_goals go_ret
  all_goals refine ⟨ret_bool ?_, (by repeat (first | (with_reducible exact Below.refl _ _) | (with_reducible assumption) | (with_reducible exact bel_box _) | (with_reducible refine bel_step ?_ (by with_reducible assumption)) | (with_reducible refine Below.drew ?_) | (with_reducible refine below_drewN ?_ _) | (with_reducible refine bel_alloc ?_ _)))⟩
  all_goals (first | (rw [eq_comm, pG, decide_eq_true_eq]; omega) | (rw [eq_comm, pG, decide_eq_false_iff_not]; omega) | (rw [Bool.eq_iff_iff]; simp [pG]; omega))
end Go.Proofs.YtoekgbdomeklgaaGreatDoor
/- span, by whatever test; the tests that among and either make. -/

namespace Go.Proofs.YtoekgbdomeklgaaGreatDoor
set_option linter.unusedVariables false
set_option linter.unusedSimpArgs false
open Go.RowKit
/-- how many bytes in front pass a test -/
def sp (p : Int → Bool) (l : List UInt8) : Nat := (l.takeWhile fun c => p ((c.toNat : Nat) : Int)).length
theorem len_toList (s : ByteArray) : s.data.toList.length = s.size := Array.length_toList
theorem byte_get (s : ByteArray) (k : Nat) (h : k < s.size) : s.data.toList[k]? = some s[k] := by
  rw [List.getElem?_eq_getElem (by rw [len_toList]; exact h)]
  rfl
theorem tw_at {α : Type} (p : α → Bool) (l : List α) (i : Nat) (h : i < (l.takeWhile p).length) : ∃ b, l[i]? = some b ∧ p b = true ∧ (l.takeWhile p)[i]? = some b := by
  induction l generalizing i with
  | nil => simp at h
  | cons a r ih =>
    rw [List.takeWhile_cons] at h ⊢
    by_cases ha : p a = true
    · rw [if_pos ha] at h ⊢
      rcases i with _ | i
      · exact ⟨a, rfl, ha, rfl⟩
      · exact ih i (by simpa using h)
    · rw [if_neg ha] at h
      simp at h
theorem tw_end {α : Type} (p : α → Bool) (l : List α) (b : α) (h : l[(l.takeWhile p).length]? = some b) : p b = false := by
  induction l with
  | nil => simp at h
  | cons a r ih =>
    rw [List.takeWhile_cons] at h
    by_cases ha : p a = true
    · rw [if_pos ha] at h
      exact ih (by simpa using h)
    · rw [if_neg ha] at h
      simp at h
      rw [← h]
      simpa using ha
theorem tw_le {α : Type} (p : α → Bool) (l : List α) : (l.takeWhile p).length ≤ l.length := (List.takeWhile_sublist p).length_le
theorem sp_le (p : Int → Bool) (s : ByteArray) : sp p s.data.toList ≤ s.size := by rw [← len_toList]; exact tw_le _ _
theorem sp_at {p : Int → Bool} {s : ByteArray} {k : Nat} (h : k < sp p s.data.toList) (hk : k < s.size) : p ((s[k].toNat : Nat) : Int) = true := by
  obtain ⟨b, h1, h2, _⟩ := tw_at _ _ _ h
  rw [byte_get s k hk] at h1
  obtain rfl : s[k] = b := by simpa using h1
  exact h2
theorem sp_end {p : Int → Bool} {s : ByteArray} (hk : sp p s.data.toList < s.size) : p ((s[sp p s.data.toList].toNat : Nat) : Int) = false :=
  tw_end (fun c : UInt8 => p ((c.toNat : Nat) : Int)) s.data.toList _ (byte_get s _ hk)
set_option maxHeartbeats 400000 in
theorem span_dg (p : Int → Bool) (s : ByteArray) (w : World) (hs : s.size ≤ 9223372036854775807)
    (hc : Hid (∀ W, Below w.heap.size w W → ∀ c : UInt8, Calls Tryz.prog 52 #[.int .u8 ((c.toNat : Nat) : Int)] W (Bel (.bool (p ((c.toNat : Nat) : Int))) W))) :
    Calls Tryz.prog 50 #[.string s, .func (.func 52) #[] #[]] w (Bel (.int .i64 (sp p s.data.toList)) w) := by
  have HA := Lib.hid (fun k => @sp_at p s k)
  have HE := Lib.hid (@sp_end p s)
  have hle := sp_le p s
  generalize sp p s.data.toList = m at *
  go_enter Tryz.func50, Tryz.ntmps50
  go_wp2
  go_loopw [5, 8] (fun u i wr => ∃ k : Nat, k ≤ m ∧ i = .int .i64 k ∧ Below w.heap.size w wr) (fun _ i _ => m - (intOf i).toNat)
  case atStart => exact ⟨0, by omega, rfl, Below.refl _ _⟩
  case round =>
    obtain ⟨k, hk, rfl, hbl⟩ := hrel
    by_cases hlt : k < m
    · have hks : k < s.size := by omega
      have e1 := HA.out k hlt hks
      go_wp2_with (go_at_call 52; refine (hc.out _ hbl _).mono ?_; rintro e w1 ⟨rfl, hb1⟩; rw [e1])
      go_roundw
      case rel => exact ⟨k + 1, by omega, by go_num, (by repeat (first | (with_reducible exact Below.refl _ _) | (with_reducible assumption) | (with_reducible exact bel_box _) | (with_reducible refine bel_step ?_ (by with_reducible assumption)) | (with_reducible refine Below.drew ?_) | (with_reducible refine below_drewN ?_ _) | (with_reducible refine bel_alloc ?_ _)))⟩
      case measure => simp [intOf]; omega
    · obtain rfl : k = m := by omega
      by_cases hks : k < s.size
      · have e1 := HE.out hks
        go_wp2_with (go_at_call 52; refine (hc.out _ hbl _).mono ?_; rintro e w1 ⟨rfl, hb1⟩; rw [e1])
        go_ret
        exact ⟨rfl, (by repeat (first | (with_reducible exact Below.refl _ _) | (with_reducible assumption) | (with_reducible exact bel_box _) | (with_reducible refine bel_step ?_ (by with_reducible assumption)) | (with_reducible refine Below.drew ?_) | (with_reducible refine below_drewN ?_ _) | (with_reducible refine bel_alloc ?_ _)))⟩
      · obtain rfl : k = s.size := by omega
        go_wp2
        go_ret
        exact ⟨rfl, hbl⟩
set_option maxHeartbeats 400000 in
theorem span_am (q : Addr) (p : Int → Bool) (s : ByteArray) (w : World) (hs : s.size ≤ 9223372036854775807)
    (hc : Hid (∀ W, Below w.heap.size w W → ∀ c : UInt8, Calls Tryz.prog 61 #[.int .u8 ((c.toNat : Nat) : Int), .pointer (some q)] W (Bel (.bool (p ((c.toNat : Nat) : Int))) W))) :
    Calls Tryz.prog 50 #[.string s, .func (.func 61) #[] #[.pointer (some q)]] w (Bel (.int .i64 (sp p s.data.toList)) w) := by
  have HA := Lib.hid (fun k => @sp_at p s k)
  have HE := Lib.hid (@sp_end p s)
  have hle := sp_le p s
  generalize sp p s.data.toList = m at *
  go_enter Tryz.func50, Tryz.ntmps50
  go_wp2
  go_loopw [5, 8] (fun u i wr => ∃ k : Nat, k ≤ m ∧ i = .int .i64 k ∧ Below w.heap.size w wr) (fun _ i _ => m - (intOf i).toNat)
  case atStart => exact ⟨0, by omega, rfl, Below.refl _ _⟩
  case round =>
    obtain ⟨k, hk, rfl, hbl⟩ := hrel
    by_cases hlt : k < m
    · have hks : k < s.size := by omega
      have e1 := HA.out k hlt hks
      go_wp2_with (go_at_call 61; refine (hc.out _ hbl _).mono ?_; rintro e w1 ⟨rfl, hb1⟩; rw [e1])
      go_roundw
      case rel => exact ⟨k + 1, by omega, by go_num, (by repeat (first | (with_reducible exact Below.refl _ _) | (with_reducible assumption) | (with_reducible exact bel_box _) | (with_reducible refine bel_step ?_ (by with_reducible assumption)) | (with_reducible refine Below.drew ?_) | (with_reducible refine below_drewN ?_ _) | (with_reducible refine bel_alloc ?_ _)))⟩
      case measure => simp [intOf]; omega
    · obtain rfl : k = m := by omega
      by_cases hks : k < s.size
      · have e1 := HE.out hks
        go_wp2_with (go_at_call 61; refine (hc.out _ hbl _).mono ?_; rintro e w1 ⟨rfl, hb1⟩; rw [e1])
        go_ret
        exact ⟨rfl, (by repeat (first | (with_reducible exact Below.refl _ _) | (with_reducible assumption) | (with_reducible exact bel_box _) | (with_reducible refine bel_step ?_ (by with_reducible assumption)) | (with_reducible refine Below.drew ?_) | (with_reducible refine below_drewN ?_ _) | (with_reducible refine bel_alloc ?_ _)))⟩
      · obtain rfl : k = s.size := by omega
        go_wp2
        go_ret
        exact ⟨rfl, hbl⟩
set_option maxHeartbeats 400000 in
theorem span_ei (q : Addr) (p : Int → Bool) (s : ByteArray) (w : World) (hs : s.size ≤ 9223372036854775807)
    (hc : Hid (∀ W, Below w.heap.size w W → ∀ c : UInt8, Calls Tryz.prog 60 #[.int .u8 ((c.toNat : Nat) : Int), .pointer (some q)] W (Bel (.bool (p ((c.toNat : Nat) : Int))) W))) :
    Calls Tryz.prog 50 #[.string s, .func (.func 60) #[] #[.pointer (some q)]] w (Bel (.int .i64 (sp p s.data.toList)) w) := by
  have HA := Lib.hid (fun k => @sp_at p s k)
  have HE := Lib.hid (@sp_end p s)
  have hle := sp_le p s
  generalize sp p s.data.toList = m at *
  go_enter Tryz.func50, Tryz.ntmps50
  go_wp2
  go_loopw [5, 8] (fun u i wr => ∃ k : Nat, k ≤ m ∧ i = .int .i64 k ∧ Below w.heap.size w wr) (fun _ i _ => m - (intOf i).toNat)
  case atStart => exact ⟨0, by omega, rfl, Below.refl _ _⟩
  case round =>
    obtain ⟨k, hk, rfl, hbl⟩ := hrel
    by_cases hlt : k < m
    · have hks : k < s.size := by omega
      have e1 := HA.out k hlt hks
      go_wp2_with (go_at_call 60; refine (hc.out _ hbl _).mono ?_; rintro e w1 ⟨rfl, hb1⟩; rw [e1])
      go_roundw
      case rel => exact ⟨k + 1, by omega, by go_num, (by repeat (first | (with_reducible exact Below.refl _ _) | (with_reducible assumption) | (with_reducible exact bel_box _) | (with_reducible refine bel_step ?_ (by with_reducible assumption)) | (with_reducible refine Below.drew ?_) | (with_reducible refine below_drewN ?_ _) | (with_reducible refine bel_alloc ?_ _)))⟩
      case measure => simp [intOf]; omega
    · obtain rfl : k = m := by omega
      by_cases hks : k < s.size
      · have e1 := HE.out hks
        go_wp2_with (go_at_call 60; refine (hc.out _ hbl _).mono ?_; rintro e w1 ⟨rfl, hb1⟩; rw [e1])
        go_ret
        exact ⟨rfl, (by repeat (first | (with_reducible exact Below.refl _ _) | (with_reducible assumption) | (with_reducible exact bel_box _) | (with_reducible refine bel_step ?_ (by with_reducible assumption)) | (with_reducible refine Below.drew ?_) | (with_reducible refine below_drewN ?_ _) | (with_reducible refine bel_alloc ?_ _)))⟩
      · obtain rfl : k = s.size := by omega
        go_wp2
        go_ret
        exact ⟨rfl, hbl⟩
end Go.Proofs.YtoekgbdomeklgaaGreatDoor
