import Derived.Test.YtoimjcfdiljkjaaGreatDoorRows
import Derived.WalkKit
import Derived.WalkLawsBesides
import Derived.Lib.Hide
import Derived.Deep.Draws
import Derived.Deep.QuietTactic
import Derived.BigQuiet
import Derived.Maps.AppendAt
import Derived.Deep.AppendLies
set_option linter.unusedVariables false
set_option linter.unusedSimpArgs false
namespace Go.Proofs.YtoimjcfdiljkjaaGreatDoor
open Go.RowKit
theorem add_block (a : Addr) (n : Nat) : (a.add n).block = a.block := by unfold Addr.add; split <;> rfl
theorem add_zero' (a : Addr) : a.add 0 = a := by simp [Addr.add]
def Rd (w : World) (B : Nat) (A : Option Addr) (xs : List Value) : Prop :=
  xs ≠ [] → ∃ ad, A = some ad ∧ ad.block < B ∧ ∀ j u, xs[j]? = some u → w.cell? (ad.add j) = some u
theorem Rd.nil (w : World) (B : Nat) (A : Option Addr) : Rd w B A [] := fun h => absurd rfl h
theorem Rd.keep {w w' : World} {B : Nat} {A : Option Addr} {xs : List Value} (h : Rd w B A xs) (hk : ∀ p : Addr, p.block < B → w'.cell? p = w.cell? p) : Rd w' B A xs := fun hn => by
  obtain ⟨ad, e, hb, hc⟩ := h hn
  exact ⟨ad, e, hb, fun j u hu => (hk _ (by rw [add_block]; exact hb)).trans (hc j u hu)⟩
theorem Rd.more {w : World} {B B' : Nat} {A : Option Addr} {xs : List Value} (h : Rd w B A xs) (hB : B ≤ B') : Rd w B' A xs := fun hn => by
  obtain ⟨ad, e, hb, hc⟩ := h hn
  exact ⟨ad, e, by omega, hc⟩
theorem Rd.below {w w' : World} {B : Nat} {A : Option Addr} {xs : List Value} (h : Rd w B A xs) (hb : Below B w w') : Rd w' B A xs := h.keep fun _ hp => hb.cell hp
theorem Rd.drewN {w : World} {B : Nat} {A : Option Addr} {xs : List Value} (h : Rd w B A xs) (k : Nat) : Rd (w.drewN k) B A xs := h
theorem below_drewN {B : Nat} {a w : World} (h : Below B a w) (n : Nat) : Below B a (w.drewN n) := ⟨h.os, h.tape, h.output, h.size, h.block⟩
def bls (l : List Bool) : List Value := l.map Value.bool
theorem take_succ_of {α : Type} {l : List α} {k : Nat} {b : α} (h : l[k]? = some b) : l.take (k + 1) = l.take k ++ [b] := by
  rw [List.take_add_one, h]; rfl
theorem Rd.of_own {w : World} {base : Nat} {e : TypeId} {A : Option Addr} {n c : Nat} {xs : List Value} (h : w.ownsRow base e 1 (.slice A n c) n xs) : Rd w w.heap.size A xs := fun hn => by
  have hl : xs.length = n := by simpa using h.1
  have hn' : 0 < n := by
    rcases Nat.eq_zero_or_pos n with h0 | h0
    · exact absurd (List.eq_nil_of_length_eq_zero (hl.trans h0)) hn
    · exact h0
  obtain ⟨g, cap, hv, _, hlt⟩ := h.form hn'
  have hA : A = some ⟨g, 0, none⟩ := by injection hv
  subst hA
  exact ⟨_, rfl, hlt, fun j u hu => h.cells (g := g) rfl j u hu⟩
theorem own_form {w : World} {base n : Nat} {e : TypeId} {v : Value} {xs : List Value} (h : w.ownsRow base e 1 v n xs) : ∃ A c, v = .slice A n c := by
  rcases h.2 with ⟨rfl, rfl⟩ | ⟨g, cap, cur, rfl, _⟩
  · exact ⟨_, _, rfl⟩
  · exact ⟨_, _, rfl⟩
theorem one_cell_bool (b : Bool) : ∀ u ∈ [Value.bool b], u.oneCell' = true := by
  intro u hu
  simp at hu
  subst hu
  rfl
theorem bel_box {w : World} (o : Obj) : Below w.heap.size w (w.alloc o) := (Below.refl _ _).alloc (Nat.le_refl _) _
theorem bel_step {w W w' : World} (h : Below w.heap.size w W) (hb : Below W.heap.size W w') : Below w.heap.size w w' := h.trans (hb.mono h.size)
theorem bel_alloc {w W : World} (h : Below w.heap.size w W) (o : Obj) : Below w.heap.size w (W.alloc o) := h.alloc h.size o
theorem bl {B : Nat} {w W : World} (h : Below B w W := by repeat (first | (with_reducible exact Go.RowKit.Below.refl _ _) | (with_reducible assumption) | (with_reducible exact Go.Proofs.YtoimjcfdiljkjaaGreatDoor.bel_box _) | (with_reducible refine Go.Proofs.YtoimjcfdiljkjaaGreatDoor.bel_step ?_ (by with_reducible assumption)) | (with_reducible refine Go.RowKit.Below.drew ?_) | (with_reducible refine Go.Proofs.YtoimjcfdiljkjaaGreatDoor.below_drewN ?_ _) | (with_reducible refine Go.Proofs.YtoimjcfdiljkjaaGreatDoor.bel_alloc ?_ _))) : Below B w W := h
theorem bcell {W w1 : World} (hb : Below W.heap.size W w1) : (∀ b o, b < W.heap.size → w1.cell? ⟨b, o, none⟩ = W.cell? ⟨b, o, none⟩) ∧ (∀ b o, b < W.heap.size → w1.frozen? ⟨b, o, none⟩ = W.frozen? ⟨b, o, none⟩) ∧ W.heap.size ≤ w1.heap.size :=
  ⟨fun b o h => hb.cell (p := ⟨b, o, none⟩) h, fun b o h => hb.frozen (p := ⟨b, o, none⟩) h, hb.size⟩
theorem Rd.to {w W : World} {A : Option Addr} {xs : List Value} (h : Rd w w.heap.size A xs) (hb : Below w.heap.size w W) : Rd W W.heap.size A xs := (h.below hb).more hb.size
theorem add_add' (a : Addr) (i j : Nat) : (a.add i).add j = a.add (i + j) := by
  unfold Addr.add
  by_cases hi : i = 0 <;> by_cases hj : j = 0 <;> simp [hi, hj, Nat.add_assoc]
theorem Rd.drop {w : World} {B : Nat} {A : Option Addr} {l : List Bool} (h : Rd w B A (bls l)) (k : Nat) : Rd w B (A.map (·.add k)) (bls (l.drop k)) := fun hn => by
  obtain ⟨ad, e, hb, hc⟩ := h (by intro e; apply hn; simp [bls] at e; simp [bls, e])
  refine ⟨ad.add k, by rw [e]; rfl, by rw [add_block]; exact hb, fun j u hu => ?_⟩
  rw [add_add']
  apply hc
  rw [bls, List.getElem?_map, List.getElem?_drop] at hu
  rw [bls, List.getElem?_map]
  exact hu
theorem own_cap {w : World} {base n c : Nat} {e : TypeId} {A : Option Addr} {xs : List Value} (h : w.ownsRow base e 1 (.slice A n c) n xs) : n ≤ c := by
  rcases h.2 with ⟨hv, hn⟩ | ⟨g, cap, cur, hv, _, _, hnc, _⟩
  · omega
  · injection hv with _ _ hc; omega
theorem set2_cells {W : World} {b : Nat} {u v : Value} (h0 : W.cell? ⟨b, 0, none⟩ = some u) (h1 : W.cell? ⟨b, 1, none⟩ = some v) (x y : Value) :
    ((W.setCell ⟨b, 0, none⟩ x).setCell ⟨b, 1, none⟩ y).cell? ⟨b, 0, none⟩ = some x ∧ ((W.setCell ⟨b, 0, none⟩ x).setCell ⟨b, 1, none⟩ y).cell? ⟨b, 1, none⟩ = some y := by
  have e1 : (W.setCell ⟨b, 0, none⟩ x).cell? ⟨b, 1, none⟩ = some v := (World.cell?_setCell_other W _ _ _ (by simp)).trans h1
  refine ⟨?_, World.cell?_setCell_same _ _ _ e1⟩
  rw [World.cell?_setCell_other _ _ _ _ (by simp)]
  exact World.cell?_setCell_same _ _ _ h0
theorem bel_set2 {w W : World} (h : Below w.heap.size w W) {b : Nat} (hb : w.heap.size ≤ b) (x y : Value) : Below w.heap.size w ((W.setCell ⟨b, 0, none⟩ x).setCell ⟨b, 1, none⟩ y) :=
  (h.setCell (p := ⟨b, 0, none⟩) hb x).setCell (p := ⟨b, 1, none⟩) hb y
def Nw (N : Nat) (A : Option Addr) (xs : List Value) : Prop := ∀ ad, A = some ad → xs ≠ [] → N ≤ ad.block
theorem Nw.nil (N : Nat) (A : Option Addr) : Nw N A [] := fun _ _ h => absurd rfl h
theorem Nw.mono {N N' : Nat} {A : Option Addr} {xs : List Value} (h : Nw N A xs) (hN : N' ≤ N) : Nw N' A xs := fun ad e hx => Nat.le_trans hN (h ad e hx)
theorem own_new {w : World} {base n c : Nat} {e : TypeId} {A : Option Addr} {xs : List Value} (h : w.ownsRow base e 1 (.slice A n c) n xs) : Nw base A xs := fun ad ha hx => by
  rcases h.2 with ⟨hv, hn⟩ | ⟨g, cap, cur, hv, hb, _⟩
  · have : xs = [] := List.eq_nil_of_length_eq_zero (by have := h.1; omega)
    exact absurd this hx
  · subst ha
    injection hv with h1
    injection h1 with h1
    rw [h1]
    exact hb
theorem Rd.set_lo {w : World} {A : Option Addr} {N : Nat} {xs : List Value} (h : Rd w w.heap.size A xs) (hn : Nw N A xs) {p : Addr} (hp : p.block < N) (u : Value) : Rd (w.setCell p u) (w.setCell p u).heap.size A xs := fun hx => by
  obtain ⟨ad, e, hb, hc⟩ := h hx
  have hN := hn ad e hx
  refine ⟨ad, e, by simpa [World.setCell] using hb, fun j v hv => ?_⟩
  rw [World.cell?_setCell_other _ _ _ _ (fun e2 => by have := congrArg Addr.block e2; rw [add_block] at this; omega)]
  exact hc j v hv
theorem Rd.set2_lo {w : World} {A : Option Addr} {N b : Nat} {xs : List Value} (h : Rd w w.heap.size A xs) (hn : Nw N A xs) (hb : b < N) (x y : Value) :
    Rd ((w.setCell ⟨b, 0, none⟩ x).setCell ⟨b, 1, none⟩ y) ((w.setCell ⟨b, 0, none⟩ x).setCell ⟨b, 1, none⟩ y).heap.size A xs :=
  (h.set_lo hn (p := ⟨b, 0, none⟩) hb x).set_lo hn (p := ⟨b, 1, none⟩) hb y
def rc (w : World) (b i : Nat) : Value := (w.cell? ⟨b, i, none⟩).getD undef
attribute [irreducible] rc
end Go.Proofs.YtoimjcfdiljkjaaGreatDoor
namespace Go.Proofs.YtoimjcfdiljkjaaGreatDoor
open Go.RowKit
def Bel (v : Value) (w : World) (e : Ending) (w' : World) : Prop := e = .returned v ∧ Below w.heap.size w w'
theorem ret_bool {a b : Bool} (h : a = b) : Ending.returned (.bool a) = .returned (.bool b) := by rw [h]
def pL (n : Int) : Bool := decide (97 ≤ n ∧ n ≤ 122 ∨ 65 ≤ n ∧ n ≤ 90)
def pG (n : Int) : Bool := decide (48 ≤ n ∧ n ≤ 57)
def pI (n : Int) : Bool := pL n || pG n || n == 95
def pW (n : Int) : Bool := n == 48 || n == 49 || n == 40 || n == 41
theorem letter_any (n : Int) (w : World) : Calls Tryz.prog 147 #[.int .u8 n] w (Bel (.bool (pL n)) w) := by
  go_enter Tryz.func147, Tryz.ntmps147
  go_wp2
  all_goals go_ret
  all_goals refine ⟨ret_bool ?_, bl⟩
  all_goals (first | (rw [eq_comm, pL, decide_eq_true_eq]; omega) | (rw [eq_comm, pL, decide_eq_false_iff_not]; omega) | (rw [Bool.eq_iff_iff]; simp [pL]; omega))
theorem digit_any (n : Int) (w : World) : Calls Tryz.prog 151 #[.int .u8 n] w (Bel (.bool (pG n)) w) := by
  go_enter Tryz.func151, Tryz.ntmps151
  go_wp2
  all_goals go_ret
  all_goals refine ⟨ret_bool ?_, bl⟩
  all_goals (first | (rw [eq_comm, pG, decide_eq_true_eq]; omega) | (rw [eq_comm, pG, decide_eq_false_iff_not]; omega) | (rw [Bool.eq_iff_iff]; simp [pG]; omega))
theorem rletter_any (n : Int) (w : World) : Calls Tryz.prog 128 #[.int .u8 n] w (Bel (.bool (pL n)) w) := by
  go_enter Tryz.func128, Tryz.ntmps128
  go_wp2
  all_goals go_ret
  all_goals refine ⟨ret_bool ?_, bl⟩
  all_goals (first | (rw [eq_comm, pL, decide_eq_true_eq]; omega) | (rw [eq_comm, pL, decide_eq_false_iff_not]; omega) | (rw [Bool.eq_iff_iff]; simp [pL]; omega))
theorem rdigit_any (n : Int) (w : World) : Calls Tryz.prog 167 #[.int .u8 n] w (Bel (.bool (pG n)) w) := by
  go_enter Tryz.func167, Tryz.ntmps167
  go_wp2
  all_goals go_ret
  all_goals refine ⟨ret_bool ?_, bl⟩
  all_goals (first | (rw [eq_comm, pG, decide_eq_true_eq]; omega) | (rw [eq_comm, pG, decide_eq_false_iff_not]; omega) | (rw [Bool.eq_iff_iff]; simp [pG]; omega))
theorem inner_any (n : Int) (w : World) : Calls Tryz.prog 129 #[.int .u8 n] w (Bel (.bool (pI n)) w) := by
  have k1 := Lib.hid (rletter_any n)
  have k2 := Lib.hid (rdigit_any n)
  have e : pI n = (pL n || pG n || n == 95) := rfl
  rw [e]
  clear e
  generalize pL n = a at *
  generalize pG n = b at *
  cases a <;> cases b
  all_goals
    go_enter Tryz.func129, Tryz.ntmps129
    go_wp2_with (first
      | (go_at_call 128; refine (k1.out _).mono ?_; rintro e w1 ⟨rfl, hb1⟩)
      | (go_at_call 167; refine (k2.out _).mono ?_; rintro e w2 ⟨rfl, hb2⟩))
  all_goals go_ret
  all_goals exact ⟨ret_bool (by simp), bl⟩
end Go.Proofs.YtoimjcfdiljkjaaGreatDoor
namespace Go.Proofs.YtoimjcfdiljkjaaGreatDoor
open Go.RowKit
def sp (p : Int → Bool) (l : List UInt8) : Nat := (l.takeWhile fun c => p ((c.toNat : Nat) : Int)).length
theorem len_toList (s : ByteArray) : s.data.toList.length = s.size := Array.length_toList
theorem byte_get (s : ByteArray) (k : Nat) (h : k < s.size) : s.data.toList[k]? = some s[k] := by
  rw [List.getElem?_eq_getElem (by rw [len_toList]; exact h)]
  rfl
theorem tw_at {α : Type} (p : α → Bool) (l : List α) (i : Nat) (h : i < (l.takeWhile p).length) : ∃ b, l[i]? = some b ∧ p b = true ∧ (l.takeWhile p)[i]? = some b := by
  induction l generalizing i with
  | nil => simp at h
  | cons a r ih =>
    rw [List.takeWhile_cons] at h ⊢
    by_cases ha : p a = true
    · rw [if_pos ha] at h ⊢
      rcases i with _ | i
      · exact ⟨a, rfl, ha, rfl⟩
      · exact ih i (by simpa using h)
    · rw [if_neg ha] at h
      simp at h
theorem tw_end {α : Type} (p : α → Bool) (l : List α) (b : α) (h : l[(l.takeWhile p).length]? = some b) : p b = false := by
  induction l with
  | nil => simp at h
  | cons a r ih =>
    rw [List.takeWhile_cons] at h
    by_cases ha : p a = true
    · rw [if_pos ha] at h
      exact ih (by simpa using h)
    · rw [if_neg ha] at h
      simp at h
      rw [← h]
      simpa using ha
theorem tw_le {α : Type} (p : α → Bool) (l : List α) : (l.takeWhile p).length ≤ l.length := (List.takeWhile_sublist p).length_le
theorem sp_le (p : Int → Bool) (s : ByteArray) : sp p s.data.toList ≤ s.size := by rw [← len_toList]; exact tw_le _ _
theorem sp_at {p : Int → Bool} {s : ByteArray} {k : Nat} (h : k < sp p s.data.toList) (hk : k < s.size) : p ((s[k].toNat : Nat) : Int) = true := by
  obtain ⟨b, h1, h2, _⟩ := tw_at _ _ _ h
  rw [byte_get s k hk] at h1
  obtain rfl : s[k] = b := by simpa using h1
  exact h2
theorem sp_end {p : Int → Bool} {s : ByteArray} (hk : sp p s.data.toList < s.size) : p ((s[sp p s.data.toList].toNat : Nat) : Int) = false :=
  tw_end (fun c : UInt8 => p ((c.toNat : Nat) : Int)) s.data.toList _ (byte_get s _ hk)
set_option maxHeartbeats 400000 in
theorem span_dg (p : Int → Bool) (s : ByteArray) (w : World) (hs : s.size ≤ 9223372036854775807)
    (hc : Hid (∀ W, Below w.heap.size w W → ∀ c : UInt8, Calls Tryz.prog 151 #[.int .u8 ((c.toNat : Nat) : Int)] W (Bel (.bool (p ((c.toNat : Nat) : Int))) W))) :
    Calls Tryz.prog 149 #[.string s, .func (.func 151) #[] #[]] w (Bel (.int .i64 (sp p s.data.toList)) w) := by
  have HA := Lib.hid (fun k => @sp_at p s k)
  have HE := Lib.hid (@sp_end p s)
  have hle := sp_le p s
  generalize sp p s.data.toList = m at *
  go_enter Tryz.func149, Tryz.ntmps149
  go_wp2
  go_loopw [5, 8] (fun u i wr => ∃ k : Nat, k ≤ m ∧ i = .int .i64 k ∧ Below w.heap.size w wr) (fun _ i _ => m - (intOf i).toNat)
  case atStart => exact ⟨0, by omega, rfl, Below.refl _ _⟩
  case round =>
    obtain ⟨k, hk, rfl, hbl⟩ := hrel
    by_cases hlt : k < m
    · have hks : k < s.size := by omega
      have e1 := HA.out k hlt hks
      go_wp2_with (go_at_call 151; refine (hc.out _ hbl _).mono ?_; rintro e w1 ⟨rfl, hb1⟩; rw [e1])
      go_roundw
      case rel => exact ⟨k + 1, by omega, by go_num, bl⟩
      case measure => simp [intOf]; omega
    · obtain rfl : k = m := by omega
      by_cases hks : k < s.size
      · have e1 := HE.out hks
        go_wp2_with (go_at_call 151; refine (hc.out _ hbl _).mono ?_; rintro e w1 ⟨rfl, hb1⟩; rw [e1])
        go_ret
        exact ⟨rfl, bl⟩
      · obtain rfl : k = s.size := by omega
        go_wp2
        go_ret
        exact ⟨rfl, hbl⟩
set_option maxHeartbeats 400000 in
theorem span_am (q : Addr) (p : Int → Bool) (s : ByteArray) (w : World) (hs : s.size ≤ 9223372036854775807)
    (hc : Hid (∀ W, Below w.heap.size w W → ∀ c : UInt8, Calls Tryz.prog 180 #[.int .u8 ((c.toNat : Nat) : Int), .pointer (some q)] W (Bel (.bool (p ((c.toNat : Nat) : Int))) W))) :
    Calls Tryz.prog 149 #[.string s, .func (.func 180) #[] #[.pointer (some q)]] w (Bel (.int .i64 (sp p s.data.toList)) w) := by
  have HA := Lib.hid (fun k => @sp_at p s k)
  have HE := Lib.hid (@sp_end p s)
  have hle := sp_le p s
  generalize sp p s.data.toList = m at *
  go_enter Tryz.func149, Tryz.ntmps149
  go_wp2
  go_loopw [5, 8] (fun u i wr => ∃ k : Nat, k ≤ m ∧ i = .int .i64 k ∧ Below w.heap.size w wr) (fun _ i _ => m - (intOf i).toNat)
  case atStart => exact ⟨0, by omega, rfl, Below.refl _ _⟩
  case round =>
    obtain ⟨k, hk, rfl, hbl⟩ := hrel
    by_cases hlt : k < m
    · have hks : k < s.size := by omega
      have e1 := HA.out k hlt hks
      go_wp2_with (go_at_call 180; refine (hc.out _ hbl _).mono ?_; rintro e w1 ⟨rfl, hb1⟩; rw [e1])
      go_roundw
      case rel => exact ⟨k + 1, by omega, by go_num, bl⟩
      case measure => simp [intOf]; omega
    · obtain rfl : k = m := by omega
      by_cases hks : k < s.size
      · have e1 := HE.out hks
        go_wp2_with (go_at_call 180; refine (hc.out _ hbl _).mono ?_; rintro e w1 ⟨rfl, hb1⟩; rw [e1])
        go_ret
        exact ⟨rfl, bl⟩
      · obtain rfl : k = s.size := by omega
        go_wp2
        go_ret
        exact ⟨rfl, hbl⟩
set_option maxHeartbeats 400000 in
theorem span_ei (q : Addr) (p : Int → Bool) (s : ByteArray) (w : World) (hs : s.size ≤ 9223372036854775807)
    (hc : Hid (∀ W, Below w.heap.size w W → ∀ c : UInt8, Calls Tryz.prog 179 #[.int .u8 ((c.toNat : Nat) : Int), .pointer (some q)] W (Bel (.bool (p ((c.toNat : Nat) : Int))) W))) :
    Calls Tryz.prog 149 #[.string s, .func (.func 179) #[] #[.pointer (some q)]] w (Bel (.int .i64 (sp p s.data.toList)) w) := by
  have HA := Lib.hid (fun k => @sp_at p s k)
  have HE := Lib.hid (@sp_end p s)
  have hle := sp_le p s
  generalize sp p s.data.toList = m at *
  go_enter Tryz.func149, Tryz.ntmps149
  go_wp2
  go_loopw [5, 8] (fun u i wr => ∃ k : Nat, k ≤ m ∧ i = .int .i64 k ∧ Below w.heap.size w wr) (fun _ i _ => m - (intOf i).toNat)
  case atStart => exact ⟨0, by omega, rfl, Below.refl _ _⟩
  case round =>
    obtain ⟨k, hk, rfl, hbl⟩ := hrel
    by_cases hlt : k < m
    · have hks : k < s.size := by omega
      have e1 := HA.out k hlt hks
      go_wp2_with (go_at_call 179; refine (hc.out _ hbl _).mono ?_; rintro e w1 ⟨rfl, hb1⟩; rw [e1])
      go_roundw
      case rel => exact ⟨k + 1, by omega, by go_num, bl⟩
      case measure => simp [intOf]; omega
    · obtain rfl : k = m := by omega
      by_cases hks : k < s.size
      · have e1 := HE.out hks
        go_wp2_with (go_at_call 179; refine (hc.out _ hbl _).mono ?_; rintro e w1 ⟨rfl, hb1⟩; rw [e1])
        go_ret
        exact ⟨rfl, bl⟩
      · obtain rfl : k = s.size := by omega
        go_wp2
        go_ret
        exact ⟨rfl, hbl⟩
end Go.Proofs.YtoimjcfdiljkjaaGreatDoor
namespace Go.Proofs.YtoimjcfdiljkjaaGreatDoor
open Go.RowKit
inductive Xt where
  | mk (k op t v : Int) (nm : ByteArray) (A : Option Addr) (c : Nat) (ar : List Xt)
def Xt.k : Xt → Int | .mk k _ _ _ _ _ _ _ => k
def Xt.op : Xt → Int | .mk _ op _ _ _ _ _ _ => op
def Xt.t : Xt → Int | .mk _ _ t _ _ _ _ _ => t
def Xt.v : Xt → Int | .mk _ _ _ v _ _ _ _ => v
def Xt.nm : Xt → ByteArray | .mk _ _ _ _ nm _ _ _ => nm
def Xt.A : Xt → Option Addr | .mk _ _ _ _ _ A _ _ => A
def Xt.c : Xt → Nat | .mk _ _ _ _ _ _ c _ => c
def Xt.ar : Xt → List Xt | .mk _ _ _ _ _ _ _ ar => ar
theorem Xt.lt_of_mem {a x : Xt} (h : a ∈ x.ar) : SizeOf.sizeOf a < SizeOf.sizeOf x := by
  cases x with
  | mk k op t v nm A c ar =>
    have := List.sizeOf_lt_of_mem (show a ∈ ar from h)
    simp
    omega
theorem Xt.ind {P : Xt → Prop} (h : ∀ x : Xt, (∀ a ∈ x.ar, P a) → P x) (x : Xt) : P x := by
  generalize hN : SizeOf.sizeOf x = N
  induction N using Nat.strongRecOn generalizing x with
  | ind N ih =>
    subst hN
    exact h x fun a ha => ih _ (Xt.lt_of_mem ha) a rfl
def xV (x : Xt) : Value := .agg #[.int .i64 x.k, .int .i64 x.op, .int .i64 x.t, .int .i64 x.v, .string x.nm, .slice x.A x.ar.length x.c]
def XC (w : World) (a : Addr) (x : Xt) : Prop := w.cell? a = some (.int .i64 x.k) ∧ w.cell? ⟨a.block, a.off + 1, none⟩ = some (.int .i64 x.op) ∧ w.cell? ⟨a.block, a.off + 2, none⟩ = some (.int .i64 x.t) ∧ w.cell? ⟨a.block, a.off + 3, none⟩ = some (.int .i64 x.v) ∧ w.cell? ⟨a.block, a.off + 4, none⟩ = some (.string x.nm) ∧ w.cell? ⟨a.block, a.off + 5, none⟩ = some (.slice x.A x.ar.length x.c)
theorem XC.keep {w W : World} {a : Addr} {x : Xt} (h : XC w a x) (hk : ∀ p : Addr, p.block = a.block → W.cell? p = w.cell? p) : XC W a x :=
  ⟨(hk a rfl).trans h.1, (hk ⟨a.block, a.off + 1, none⟩ rfl).trans h.2.1, (hk ⟨a.block, a.off + 2, none⟩ rfl).trans h.2.2.1, (hk ⟨a.block, a.off + 3, none⟩ rfl).trans h.2.2.2.1, (hk ⟨a.block, a.off + 4, none⟩ rfl).trans h.2.2.2.2.1, (hk ⟨a.block, a.off + 5, none⟩ rfl).trans h.2.2.2.2.2⟩
inductive RdX (w : World) (B : Nat) : Xt → Prop
  | mk (x : Xt) (h0 : x.ar ≠ [] → ∃ ad, x.A = some ad ∧ ad.block < B) (h1 : ∀ (ad : Addr) (i : Nat) (y : Xt), x.A = some ad → x.ar[i]? = some y → XC w (ad.add (i * 6)) y) (h2 : ∀ y ∈ x.ar, RdX w B y) (h3 : (x.ar.length ≤ maxLen ∧ x.nm.size ≤ maxLen) ∧ x.ar.length ≤ x.c) : RdX w B x
theorem RdX.blw {w W : World} {B B' : Nat} {x : Xt} (h : RdX w B x) (hb : Below B w W) (hB : B ≤ B') : RdX W B' x := by
  induction h with
  | mk x h0 h1 h2 h3 ih =>
    refine .mk x (fun hn => ?_) (fun ad i y ha hy => ?_) ih h3
    · obtain ⟨ad, e, h⟩ := h0 hn
      exact ⟨ad, e, by omega⟩
    · obtain ⟨ad', e, h⟩ := h0 (by intro e; rw [e] at hy; simp at hy)
      obtain rfl : ad = ad' := Option.some.inj (ha.symm.trans e)
      exact (h1 ad i y ha hy).keep fun p hp => hb.cell (by rw [hp, add_block]; exact h)
theorem RdX.to {w W : World} {x : Xt} (h : RdX w w.heap.size x) (hb : Below w.heap.size w W) : RdX W W.heap.size x := h.blw hb hb.size
theorem RdX.kid {w : World} {B : Nat} {x y : Xt} (h : RdX w B x) (hy : y ∈ x.ar) : RdX w B y := by
  cases h with
  | mk x h0 h1 h2 h3 => exact h2 y hy
theorem RdX.len {w : World} {B : Nat} {x : Xt} (h : RdX w B x) : x.ar.length ≤ maxLen ∧ x.nm.size ≤ maxLen := by
  cases h with
  | mk x h0 h1 h2 h3 => exact h3.1
theorem RdX.cap {w : World} {B : Nat} {x : Xt} (h : RdX w B x) : x.ar.length ≤ x.c := by
  cases h with
  | mk x h0 h1 h2 h3 => exact h3.2
theorem RdX.at_ {w : World} {B : Nat} {x : Xt} (h : RdX w B x) {i : Nat} (hi : i < x.ar.length) : ∃ ad y, x.A = some ad ∧ ad.block < B ∧ x.ar[i]? = some y ∧ y ∈ x.ar ∧ XC w (ad.add (i * 6)) y ∧ RdX w B y := by
  cases h with
  | mk x h0 h1 h2 h3 =>
    obtain ⟨ad, e, hb⟩ := h0 (by intro e; rw [e] at hi; simp at hi)
    have hy : x.ar[i]? = some x.ar[i] := List.getElem?_eq_getElem hi
    exact ⟨ad, _, e, hb, hy, List.mem_of_getElem? hy, h1 ad i _ e hy, h2 _ (List.mem_of_getElem? hy)⟩
def Xt.size (x : Xt) : Nat := 1 + (x.ar.attach.map fun a => Xt.size a.1).sum
termination_by SizeOf.sizeOf x
decreasing_by exact Xt.lt_of_mem a.2
theorem Xt.size_eq (x : Xt) : x.size = 1 + (x.ar.map Xt.size).sum := by
  rw [Xt.size]
  congr 2
  simp
def Xt.depth (x : Xt) : Nat := 1 + (x.ar.attach.map fun a => Xt.depth a.1).foldl max 0
termination_by SizeOf.sizeOf x
decreasing_by exact Xt.lt_of_mem a.2
theorem Xt.depth_eq (x : Xt) : x.depth = 1 + (x.ar.map Xt.depth).foldl max 0 := by
  rw [Xt.depth]
  congr 2
  simp
def Xt.list (x : Xt) : List Xt := x :: (x.ar.attach.map fun a => Xt.list a.1).flatten
termination_by SizeOf.sizeOf x
decreasing_by exact Xt.lt_of_mem a.2
theorem Xt.list_eq (x : Xt) : x.list = x :: (x.ar.map Xt.list).flatten := by
  rw [Xt.list]
  congr 2
  simp
theorem Xt.size_pos (x : Xt) : 1 ≤ x.size := by rw [Xt.size_eq]; omega
theorem sum_take_succ {l : List Xt} {f : Xt → Nat} {k : Nat} {y : Xt} (h : l[k]? = some y) : ((l.take (k + 1)).map f).sum = ((l.take k).map f).sum + f y := by
  rw [take_succ_of h, List.map_append, List.sum_append]; simp
theorem sum_take_le (l : List Xt) (f : Xt → Nat) (k : Nat) : ((l.take k).map f).sum ≤ (l.map f).sum := by
  conv => rhs; rw [← List.take_append_drop k l, List.map_append, List.sum_append]
  omega
theorem list_length (x : Xt) : x.list.length = x.size := by
  induction x using Xt.ind with
  | h x ih =>
    rw [Xt.list_eq, Xt.size_eq, List.length_cons, List.length_flatten, List.map_map, Nat.add_comm]
    congr 2
    exact List.map_congr_left fun a ha => ih a ha
end Go.Proofs.YtoimjcfdiljkjaaGreatDoor
namespace Go.Proofs.YtoimjcfdiljkjaaGreatDoor
open Go.RowKit
abbrev bxW (w : World) (x : Xt) : World := w.alloc (.cells #[.int .i64 x.k, .int .i64 x.op, .int .i64 x.t, .int .i64 x.v, .string x.nm, .slice x.A x.ar.length x.c] 33)
theorem bxW_size (w : World) (x : Xt) : (bxW w x).heap.size = w.heap.size + 1 := World.size_alloc _ _
theorem bxW_below {w W : World} {x : Xt} (h : Below (bxW w x).heap.size (bxW w x) W) : Below w.heap.size w W := (bel_box _).trans (h.mono (by rw [bxW_size]; omega))
theorem bxW_cells {w W : World} {x : Xt} (h : Below (bxW w x).heap.size (bxW w x) W) :
    W.cell? ⟨w.heap.size, 0, none⟩ = some (.int .i64 x.k) ∧ W.cell? ⟨w.heap.size, 1, none⟩ = some (.int .i64 x.op) ∧ W.cell? ⟨w.heap.size, 2, none⟩ = some (.int .i64 x.t) ∧ W.cell? ⟨w.heap.size, 3, none⟩ = some (.int .i64 x.v) ∧ W.cell? ⟨w.heap.size, 4, none⟩ = some (.string x.nm) ∧ W.cell? ⟨w.heap.size, 5, none⟩ = some (.slice x.A x.ar.length x.c) ∧ w.heap.size < W.heap.size := by
  have hz := h.size
  rw [bxW_size] at hz
  obtain ⟨hc, _, _⟩ := bcell h
  rw [hc _ _ (by rw [bxW_size]; simp), hc _ _ (by rw [bxW_size]; simp), hc _ _ (by rw [bxW_size]; simp), hc _ _ (by rw [bxW_size]; simp), hc _ _ (by rw [bxW_size]; simp), hc _ _ (by rw [bxW_size]; simp)]
  refine ⟨?_, ?_, ?_, ?_, ?_, ?_, by omega⟩ <;> simp [go_sem]
set_option maxHeartbeats 1000000 in
set_option maxRecDepth 20000 in
theorem rsize_any (x : Xt) : ∀ w, RdX w w.heap.size x → x.size ≤ 1048576 → Calls Tryz.prog 108 #[xV x] w (Bel (.int .i64 (x.size : Nat)) w) := by
  induction x using Xt.ind with
  | h x ih =>
    intro w hX hS
    have HX := Lib.hid hX
    have IH := Lib.hid ih
    clear hX ih
    rw [Xt.size_eq] at hS ⊢
    have hts := fun k => sum_take_le x.ar Xt.size k
    have hal : (x.ar.map Xt.size).sum = ((x.ar.take x.ar.length).map Xt.size).sum := by rw [List.take_length]
    have hcl : x.ar.length ≤ (x.ar.map Xt.size).sum := by
      generalize x.ar = l
      induction l with
      | nil => simp
      | cons a l ih => have := Xt.size_pos a; simp; omega
    rw [hal] at hS hcl ⊢
    clear hal
    generalize hF : (fun k => ((x.ar.take k).map Xt.size).sum) = F at *
    have hFk : ∀ k, ((x.ar.take k).map Xt.size).sum = F k := fun k => by rw [← hF]
    have HN : Hid (∀ (k : Nat) (y : Xt), x.ar[k]? = some y → F (k + 1) = F k + y.size) := Lib.hid fun k y hy => by rw [← hFk, ← hFk]; exact sum_take_succ hy
    have hle : ∀ k, F k ≤ F x.ar.length := fun k => by
      rw [← hFk, ← hFk, List.take_length]; exact sum_take_le x.ar Xt.size k
    have hF0 : F 0 = 0 := by rw [← hFk]; rfl
    simp only [hFk] at hS hcl ⊢
    clear hF hFk hts
    simp only [xV] at IH ⊢
    have HL := Lib.hid hle
    go_enter Tryz.func108, Tryz.ntmps108
    go_wp2
    go_loopw [3, 4] (fun n i wr => ∃ k : Nat, k ≤ x.ar.length ∧ i = .int .i64 (k : Int) ∧ n = .int .i64 ((1 + F k : Nat) : Int) ∧ Below (bxW w x).heap.size (bxW w x) wr) (fun _ i _ => x.ar.length - (intOf i).toNat)
    case atStart => exact ⟨0, by omega, rfl, by rw [hF0]; rfl, Below.refl _ _⟩
    case round =>
      obtain ⟨k, hk, rfl, rfl, hbl⟩ := hrel
      obtain ⟨b0, b1, b2, b3, b4, b5, b6⟩ := bxW_cells hbl
      have hBW := bxW_below hbl
      by_cases hlt : k < x.ar.length
      · obtain ⟨ad, y, hA, had, hy, hm, ⟨c0, c1, c2, c3, c4, c5⟩, hr⟩ := (HX.out.to hBW).at_ hlt
        rw [hA] at b5
        clear hA
        have hn1 := HN.out k y hy
        have hn2 := HL.out (k + 1)
        have hcells := Lib.hid hy
        clear hy
        have u1 : IntKind.i64.wrap (((1 + F k : Nat) : Int) + (y.size : Int)) = ((1 + F (k + 1) : Nat) : Int) := by rw [Go.IntWalk.i64_in _ ⟨by omega, by omega⟩]; omega
        go_wp2_with (go_at_call 108; (with_reducible refine (IH.out y hm _ (hr.to ?_) (by omega)).mono ?_); (exact bl); rintro e w1 ⟨rfl, hb1⟩)
        exact ⟨⟨k + 1, by omega, by congr 1, by congr 1; omega, bl⟩, by simp [intOf]; omega⟩
      · obtain rfl : k = x.ar.length := by omega
        go_wp2
        go_ret
        exact ⟨rfl, hBW⟩
theorem parts_sum (x : Xt) : ∃ F : Nat → Nat, x.size = 1 + F x.ar.length ∧ F 0 = 0 ∧ x.ar.length ≤ F x.ar.length ∧ Hid (∀ (k : Nat) (y : Xt), x.ar[k]? = some y → F (k + 1) = F k + y.size) ∧ Hid (∀ k, F k ≤ F x.ar.length) := by
  refine ⟨fun k => ((x.ar.take k).map Xt.size).sum, ?_, rfl, ?_, Lib.hid fun k y hy => sum_take_succ hy, Lib.hid fun k => ?_⟩
  · simp only [List.take_length]
    exact Xt.size_eq x
  · simp only [List.take_length]
    generalize x.ar = l
    induction l with
    | nil => simp
    | cons a l ih => have := Xt.size_pos a; simp; omega
  · simp only [List.take_length]
    exact sum_take_le x.ar Xt.size k
set_option maxHeartbeats 1000000 in
set_option maxRecDepth 20000 in
theorem weigh_any (x : Xt) : ∀ (m : Nat) w, RdX w w.heap.size x → 1 ≤ m → m ≤ 1048576 → Calls Tryz.prog 12 #[xV x, .int .i64 (m : Int)] w (Bel (.int .i64 ((min x.size m : Nat) : Int)) w) := by
  induction x using Xt.ind with
  | h x ih =>
    intro m w hX h1 h2
    have h9 := hX.len.1
    unfold maxLen at h9
    have HX := Lib.hid hX
    have IH := Lib.hid ih
    clear hX ih
    obtain ⟨F, hFx, hF0, _, HN, HL⟩ := parts_sum x
    rw [hFx]
    clear hFx
    obtain ⟨V, hV⟩ : ∃ V, min (1 + F x.ar.length) m = V := ⟨_, rfl⟩
    have HV := Lib.hid hV
    rw [hV]
    clear hV
    simp only [xV] at IH ⊢
    go_enter Tryz.func12, Tryz.ntmps12
    go_wp2
    go_loopw [5, 6] (fun n i wr => ∃ k N : Nat, k ≤ x.ar.length ∧ i = .int .i64 (k : Int) ∧ n = .int .i64 (N : Int) ∧ Hid (N = min (1 + F k) m) ∧ N ≤ m ∧ Below (bxW w x).heap.size (bxW w x) wr) (fun _ i _ => x.ar.length - (intOf i).toNat)
    case atStart => exact ⟨0, 1, by omega, rfl, rfl, Lib.hid (by rw [hF0]; omega), by omega, Below.refl _ _⟩
    case round =>
      obtain ⟨k, N, hk, rfl, rfl, hN, hNle, hbl⟩ := hrel
      obtain ⟨b0, b1, b2, b3, b4, b5, b6⟩ := bxW_cells hbl
      have hBW := bxW_below hbl
      by_cases hlt : k < x.ar.length
      · by_cases hNm : N < m
        · obtain ⟨ad, y, hA, had, hy, hm, ⟨c0, c1, c2, c3, c4, c5⟩, hr⟩ := (HX.out.to hBW).at_ hlt
          rw [hA] at b5
          clear hA
          have hn1 := HN.out k y hy
          have hy1 := Xt.size_pos y
          clear hy
          have hNe : N = 1 + F k := by have := hN.out; omega
          obtain ⟨d, hd⟩ : ∃ d, m - N = d := ⟨_, rfl⟩
          obtain ⟨r, hr2⟩ : ∃ r, min y.size d = r := ⟨_, rfl⟩
          have K1 : Hid (∀ W, Below wr.heap.size wr W → Calls Tryz.prog 12 #[.agg #[.int .i64 y.k, .int .i64 y.op, .int .i64 y.t, .int .i64 y.v, .string y.nm, .slice y.A y.ar.length y.c], .int .i64 (d : Int)] W (Bel (.int .i64 (r : Nat)) W)) := Lib.hid fun W hb => by
            have := IH.out y hm d W (hr.to hb) (by omega) (by omega)
            rwa [hr2] at this
          have HN2 : Hid (N + r = min (1 + F (k + 1)) m) := Lib.hid (by omega)
          have g1 : N + r ≤ m := by omega
          have u1 : (m : Int) - (N : Int) = (d : Int) := by omega
          have u2 : IntKind.i64.wrap (d : Int) = (d : Int) := Go.IntWalk.i64_in _ ⟨by omega, by omega⟩
          have u3 : (N : Int) < (m : Int) := by omega
          clear hN hn1 hNe hd hr2 hy1
          go_wp2_with (go_at_call 12; (with_reducible refine (K1.out _ ?_).mono ?_); (exact bl); rintro e w1 ⟨rfl, hb1⟩)
          exact ⟨⟨k + 1, N + r, by omega, by congr 1, by congr 1, HN2, g1, bl⟩, by simp [intOf]; omega⟩
        · have hv : N = V := by
            have h1 := hN.out
            have h2 := HV.out
            have h3 := HL.out k
            omega
          subst hv
          have u3 : (m : Int) ≤ (N : Int) := by omega
          have u4 : (N : Int) ≤ (m : Int) := by omega
          clear hN HV
          go_wp2
          go_ret
          refine ⟨?_, hBW⟩
          congr 2
      · obtain rfl : k = x.ar.length := by omega
        obtain rfl : N = V := hN.out.trans HV.out
        have u4 : (N : Int) ≤ (m : Int) := by omega
        clear hN HV
        go_wp2
        go_ret
        refine ⟨?_, hBW⟩
        congr 2
end Go.Proofs.YtoimjcfdiljkjaaGreatDoor
