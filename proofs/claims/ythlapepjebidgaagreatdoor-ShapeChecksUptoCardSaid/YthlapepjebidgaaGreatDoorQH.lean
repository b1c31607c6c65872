/- Texts of one chain, in one file. -/
import Derived.ArgAppend
import Derived.Test.YthlapepjebidgaaGreatDoorRows
import Derived.Stop.LaidErr
import Derived.Lib.LaidTab
import Derived.LaidMore
import Derived.Lay
import Derived.LaidOnce
import Derived.ChangeSlices
import Derived.ChangeSame
import Derived.ChangeMaps
import Derived.Stop.Joined
import Derived.Test.YthlapepjebidgaaGreatDoorQG
/- Find and Plain of the program. -/
namespace Go.Proofs.YthlapepjebidgaaGreatDoor
set_option linter.unusedVariables false
set_option linter.unusedSimpArgs false
open Go.RowKit
def idxF {α : Type} (P : α → Bool) : List α → Nat → Int
  | [], _ => -1
  | a :: l, k => if P a = true then (k : Int) else idxF P l (k + 1)
theorem idxF_steps {α : Type} (P : α → Bool) (l : List α) : ∃ F : Nat → Int, F 0 = idxF P l 0 ∧ F l.length = -1 ∧ Hid (∀ (k : Nat) (y : α), l[k]? = some y → F k = if P y = true then (k : Int) else F (k + 1)) := by
  refine ⟨fun k => idxF P (l.drop k) k, by simp, by simp [idxF], Lib.hid fun k y hy => ?_⟩
  obtain ⟨hk, rfl⟩ := List.getElem?_eq_some_iff.1 hy
  show idxF P (l.drop k) k = _
  rw [List.drop_eq_getElem_cons hk, idxF]
theorem idxF_bd {α : Type} (P : α → Bool) (l : List α) (k : Nat) : idxF P l k = -1 ∨ ((k : Int) ≤ idxF P l k ∧ idxF P l k < k + l.length) := by
  induction l generalizing k with
  | nil => exact .inl rfl
  | cons a l ih =>
    rw [idxF]
    split
    · right; simp; omega
    · rcases ih (k + 1) with h | h
      · exact .inl h
      · right; simp at h ⊢; omega
theorem idxF_any {α : Type} (P : α → Bool) (l : List α) (k : Nat) : decide (0 ≤ idxF P l k) = l.any P := by
  induction l generalizing k with
  | nil => simp [idxF]
  | cons a l ih =>
    rw [idxF, List.any_cons]
    cases h : P a
    · simpa using ih (k + 1)
    · simp
set_option maxHeartbeats 1000000 in
set_option maxRecDepth 20000 in
theorem idx_Plain  (r : Rw Nt) (P : Nt → Bool) (w : World) (hR : RdR w w.heap.size 8 NC r)
    (K : Hid (∀ y ∈ r.l, ∀ W, Below w.heap.size w W → Calls Tryz.prog 51 #[nV y] W (Bel (.bool (P y)) W))) :
    Calls Tryz.prog 52 #[.slice r.A r.l.length r.c, .func (.func 51) #[] #[]] w (Bel (.int .i64 (idxF P r.l 0)) w) := by
  have h9 := hR.len
  unfold maxLen at h9
  have HR := Lib.hid hR
  obtain ⟨F, hF0, hFl, HF⟩ := idxF_steps P r.l
  rw [← hF0]
  obtain ⟨V, hV⟩ : ∃ V, F 0 = V := ⟨_, rfl⟩
  have HV := Lib.hid hV
  have HL := Lib.hid hFl
  rw [hV]
  clear hR hF0 hFl hV
  go_enter Tryz.func52, Tryz.ntmps52
  go_wp2
  go_loopw [8] (fun i wr => ∃ k : Nat, k ≤ r.l.length ∧ i = .int .i64 (k : Int) ∧ Hid (F k = V) ∧ Below w.heap.size w wr) (fun i _ => r.l.length - (intOf i).toNat)
  case atStart => exact ⟨0, by omega, rfl, HV, Below.refl _ _⟩
  case round =>
    obtain ⟨k, hk, rfl, hE, hbl⟩ := hrel
    by_cases hlt : k < r.l.length
    · obtain ⟨ad, y, hA, had, hy, hm, ⟨c0, c1, c2, c3, c4, c5, c6, c7⟩⟩ := (HR.out.blw oneB_N hbl hbl.size).at_ hlt
      rw [hA]
      clear hA
      have hst := HF.out k y hy
      have KY := Lib.hid (K.out y hm)
      clear hy hm HF
      generalize P y = v at *
      cases v
      · rw [if_neg (by simp)] at hst
        have hn : Hid (F (k + 1) = V) := Lib.hid (hst.symm.trans hE.out)
        clear hst hE
        go_wp2_with (go_at_call 51; (with_reducible refine (KY.out _ ?_).mono ?_); (focus ((repeat (first | (with_reducible exact Below.refl _ _) | (with_reducible assumption) | (with_reducible exact bel_box _) | (with_reducible refine bel_step ?_ (by with_reducible assumption)) | (with_reducible refine Below.drew ?_) | (with_reducible refine below_drewN ?_ _) | (with_reducible refine bel_alloc ?_ _))); done)); rintro e w1 ⟨rfl, hb1⟩)
        exact ⟨⟨k + 1, by omega, by congr 1, hn, (by repeat (first | (with_reducible exact Below.refl _ _) | (with_reducible assumption) | (with_reducible exact bel_box _) | (with_reducible refine bel_step ?_ (by with_reducible assumption)) | (with_reducible refine Below.drew ?_) | (with_reducible refine below_drewN ?_ _) | (with_reducible refine bel_alloc ?_ _)))⟩, by simp [intOf]; omega⟩
      · rw [if_pos rfl] at hst
        obtain rfl : (k : Int) = V := hst.symm.trans hE.out
        clear hst hE
        go_wp2_with (go_at_call 51; (with_reducible refine (KY.out _ ?_).mono ?_); (focus ((repeat (first | (with_reducible exact Below.refl _ _) | (with_reducible assumption) | (with_reducible exact bel_box _) | (with_reducible refine bel_step ?_ (by with_reducible assumption)) | (with_reducible refine Below.drew ?_) | (with_reducible refine below_drewN ?_ _) | (with_reducible refine bel_alloc ?_ _))); done)); rintro e w1 ⟨rfl, hb1⟩)
        go_ret
        exact ⟨rfl, (by repeat (first | (with_reducible exact Below.refl _ _) | (with_reducible assumption) | (with_reducible exact bel_box _) | (with_reducible refine bel_step ?_ (by with_reducible assumption)) | (with_reducible refine Below.drew ?_) | (with_reducible refine below_drewN ?_ _) | (with_reducible refine bel_alloc ?_ _)))⟩
    · obtain rfl : k = r.l.length := by omega
      obtain rfl : (-1 : Int) = V := HL.out.symm.trans hE.out
      clear hE HF HV HL
      go_wp2
      go_ret
      exact ⟨rfl, hbl⟩
set_option maxHeartbeats 1000000 in
set_option maxRecDepth 20000 in
theorem idx_Find (f0 : Value) (r : Rw Nt) (P : Nt → Bool) (w : World) (hR : RdR w w.heap.size 8 NC r)
    (K : Hid (∀ y ∈ r.l, ∀ W, Below w.heap.size w W → Calls Tryz.prog 53 #[nV y, f0] W (Bel (.bool (P y)) W))) :
    Calls Tryz.prog 52 #[.slice r.A r.l.length r.c, .func (.func 53) #[] #[f0]] w (Bel (.int .i64 (idxF P r.l 0)) w) := by
  have h9 := hR.len
  unfold maxLen at h9
  have HR := Lib.hid hR
  obtain ⟨F, hF0, hFl, HF⟩ := idxF_steps P r.l
  rw [← hF0]
  obtain ⟨V, hV⟩ : ∃ V, F 0 = V := ⟨_, rfl⟩
  have HV := Lib.hid hV
  have HL := Lib.hid hFl
  rw [hV]
  clear hR hF0 hFl hV
  go_enter Tryz.func52, Tryz.ntmps52
  go_wp2
  go_loopw [8] (fun i wr => ∃ k : Nat, k ≤ r.l.length ∧ i = .int .i64 (k : Int) ∧ Hid (F k = V) ∧ Below w.heap.size w wr) (fun i _ => r.l.length - (intOf i).toNat)
  case atStart => exact ⟨0, by omega, rfl, HV, Below.refl _ _⟩
  case round =>
    obtain ⟨k, hk, rfl, hE, hbl⟩ := hrel
    by_cases hlt : k < r.l.length
    · obtain ⟨ad, y, hA, had, hy, hm, ⟨c0, c1, c2, c3, c4, c5, c6, c7⟩⟩ := (HR.out.blw oneB_N hbl hbl.size).at_ hlt
      rw [hA]
      clear hA
      have hst := HF.out k y hy
      have KY := Lib.hid (K.out y hm)
      clear hy hm HF
      generalize P y = v at *
      cases v
      · rw [if_neg (by simp)] at hst
        have hn : Hid (F (k + 1) = V) := Lib.hid (hst.symm.trans hE.out)
        clear hst hE
        go_wp2_with (go_at_call 53; (with_reducible refine (KY.out _ ?_).mono ?_); (focus ((repeat (first | (with_reducible exact Below.refl _ _) | (with_reducible assumption) | (with_reducible exact bel_box _) | (with_reducible refine bel_step ?_ (by with_reducible assumption)) | (with_reducible refine Below.drew ?_) | (with_reducible refine below_drewN ?_ _) | (with_reducible refine bel_alloc ?_ _))); done)); rintro e w1 ⟨rfl, hb1⟩)
        exact ⟨⟨k + 1, by omega, by congr 1, hn, (by repeat (first | (with_reducible exact Below.refl _ _) | (with_reducible assumption) | (with_reducible exact bel_box _) | (with_reducible refine bel_step ?_ (by with_reducible assumption)) | (with_reducible refine Below.drew ?_) | (with_reducible refine below_drewN ?_ _) | (with_reducible refine bel_alloc ?_ _)))⟩, by simp [intOf]; omega⟩
      · rw [if_pos rfl] at hst
        obtain rfl : (k : Int) = V := hst.symm.trans hE.out
        clear hst hE
        go_wp2_with (go_at_call 53; (with_reducible refine (KY.out _ ?_).mono ?_); (focus ((repeat (first | (with_reducible exact Below.refl _ _) | (with_reducible assumption) | (with_reducible exact bel_box _) | (with_reducible refine bel_step ?_ (by with_reducible assumption)) | (with_reducible refine Below.drew ?_) | (with_reducible refine below_drewN ?_ _) | (with_reducible refine bel_alloc ?_ _))); done)); rintro e w1 ⟨rfl, hb1⟩)
        go_ret
        exact ⟨rfl, (by repeat (first | (with_reducible exact Below.refl _ _) | (with_reducible assumption) | (with_reducible exact bel_box _) | (with_reducible refine bel_step ?_ (by with_reducible assumption)) | (with_reducible refine Below.drew ?_) | (with_reducible refine below_drewN ?_ _) | (with_reducible refine bel_alloc ?_ _)))⟩
    · obtain rfl : k = r.l.length := by omega
      obtain rfl : (-1 : Int) = V := HL.out.symm.trans hE.out
      clear hE HF HV HL
      go_wp2
      go_ret
      exact ⟨rfl, hbl⟩
set_option maxHeartbeats 1000000 in
set_option maxRecDepth 20000 in
theorem sh_contains (r : Rw Nt) (P : Nt → Bool) (w : World) (hR : RdR w w.heap.size 8 NC r)
    (K : Hid (∀ y ∈ r.l, ∀ W, Below w.heap.size w W → Calls Tryz.prog 51 #[nV y] W (Bel (.bool (P y)) W))) :
    Calls Tryz.prog 50 #[.slice r.A r.l.length r.c, .func (.func 51) #[] #[]] w (Bel (.bool (r.l.any P)) w) := by
  have KI := Lib.hid (fun W (h : Below w.heap.size w W) => idx_Plain r P W (hR.blw oneB_N h h.size) (Lib.hid fun y hy W' h' => K.out y hy W' (h.trans (h'.mono h.size))))
  rw [← idxF_any P r.l 0]
  have hb := idxF_bd P r.l 0
  generalize idxF P r.l 0 = v at *
  clear hR K
  by_cases h : 0 ≤ v
  · have q : decide ((0 : Int) ≤ v) = true := decide_eq_true h
    rw [decide_eq_true h]
    clear hb
    go_enter Tryz.func50, Tryz.ntmps50
    go_wp2_with (go_at_call 52; (with_reducible refine (KI.out _ ?_).mono ?_); (focus ((repeat (first | (with_reducible exact Below.refl _ _) | (with_reducible assumption) | (with_reducible exact bel_box _) | (with_reducible refine bel_step ?_ (by with_reducible assumption)) | (with_reducible refine Below.drew ?_) | (with_reducible refine below_drewN ?_ _) | (with_reducible refine bel_alloc ?_ _))); done)); rintro e w1 ⟨rfl, hb1⟩)
    go_ret
    exact ⟨(by first | rfl | simp [h]), (by repeat (first | (with_reducible exact Below.refl _ _) | (with_reducible assumption) | (with_reducible exact bel_box _) | (with_reducible refine bel_step ?_ (by with_reducible assumption)) | (with_reducible refine Below.drew ?_) | (with_reducible refine below_drewN ?_ _) | (with_reducible refine bel_alloc ?_ _)))⟩
  · rw [decide_eq_false h]
    have h2 : decide ((0 : Int) ≤ v) = false := decide_eq_false h
    clear hb h
    go_enter Tryz.func50, Tryz.ntmps50
    go_wp2_with (go_at_call 52; (with_reducible refine (KI.out _ ?_).mono ?_); (focus ((repeat (first | (with_reducible exact Below.refl _ _) | (with_reducible assumption) | (with_reducible exact bel_box _) | (with_reducible refine bel_step ?_ (by with_reducible assumption)) | (with_reducible refine Below.drew ?_) | (with_reducible refine below_drewN ?_ _) | (with_reducible refine bel_alloc ?_ _))); done)); rintro e w1 ⟨rfl, hb1⟩)
    go_ret
    exact ⟨(by first | rfl | (simp; done) | (simp; done)), (by repeat (first | (with_reducible exact Below.refl _ _) | (with_reducible assumption) | (with_reducible exact bel_box _) | (with_reducible refine bel_step ?_ (by with_reducible assumption)) | (with_reducible refine Below.drew ?_) | (with_reducible refine below_drewN ?_ _) | (with_reducible refine bel_alloc ?_ _)))⟩
set_option maxHeartbeats 1000000 in
theorem sh_plain1 (n : Nt) (w : World) : Calls Tryz.prog 51 #[nV n] w (Bel (.bool (decide (0 < n.au.l.length))) w) := by
  by_cases h : 0 < n.au.l.length
  · have q : decide ((0 : Int) < (n.au.l.length : Int)) = true := decide_eq_true (by omega)
    have H := Lib.hid (decide_eq_true h)
    rw [decide_eq_true h]
    clear h
    go_enter Tryz.func51, Tryz.ntmps51
    go_wp2
    go_ret
    exact ⟨congrArg (fun z => Ending.returned (Value.bool z)) H.out, (by repeat (first | (with_reducible exact Below.refl _ _) | (with_reducible assumption) | (with_reducible exact bel_box _) | (with_reducible refine bel_step ?_ (by with_reducible assumption)) | (with_reducible refine Below.drew ?_) | (with_reducible refine below_drewN ?_ _) | (with_reducible refine bel_alloc ?_ _)))⟩
  · have q : decide ((0 : Int) < (n.au.l.length : Int)) = false := decide_eq_false (by omega)
    have H := Lib.hid (decide_eq_false h)
    rw [decide_eq_false h]
    clear h
    go_enter Tryz.func51, Tryz.ntmps51
    go_wp2
    go_ret
    exact ⟨congrArg (fun z => Ending.returned (Value.bool z)) H.out, (by repeat (first | (with_reducible exact Below.refl _ _) | (with_reducible assumption) | (with_reducible exact bel_box _) | (with_reducible refine bel_step ?_ (by with_reducible assumption)) | (with_reducible refine Below.drew ?_) | (with_reducible refine below_drewN ?_ _) | (with_reducible refine bel_alloc ?_ _)))⟩
set_option maxHeartbeats 1000000 in
theorem sh_find1 (n : Nt) (s : ByteArray) (p : Addr) (w : World) (hp : Cap w p (.string s)) : Calls Tryz.prog 53 #[nV n, .pointer (some p)] w (Bel (.bool (n.nm.toList == s.toList)) w) := by
  have h0 := hp.1
  have h1 := hp.al
  clear hp
  go_enter Tryz.func53, Tryz.ntmps53
  go_wp2
  go_ret
  exact ⟨(by first | rfl | simp), (by repeat (first | (with_reducible exact Below.refl _ _) | (with_reducible assumption) | (with_reducible exact bel_box _) | (with_reducible refine bel_step ?_ (by with_reducible assumption)) | (with_reducible refine Below.drew ?_) | (with_reducible refine below_drewN ?_ _) | (with_reducible refine bel_alloc ?_ _)))⟩
/-- no automaton -/
def plnB (p : Pt) : Bool := !(p.ns.l.any fun n => decide (0 < n.au.l.length))
set_option maxHeartbeats 1000000 in
theorem sh_plain (p : Pt) (w : World) (hR : RdR w w.heap.size 8 NC p.ns) : Calls Tryz.prog 17 #[pV p] w (Bel (.bool (plnB p)) w) := by
  have KC := Lib.hid (fun W (h : Below w.heap.size w W) => sh_contains p.ns (fun n => decide (0 < n.au.l.length)) W (hR.blw oneB_N h h.size) (Lib.hid fun y _ W' _ => sh_plain1 y W'))
  unfold plnB
  generalize (p.ns.l.any fun n => decide (0 < n.au.l.length)) = b at *
  clear hR
  go_enter Tryz.func17, Tryz.ntmps17
  go_wp2_with (go_at_call 50; (with_reducible refine (KC.out _ ?_).mono ?_); (focus ((repeat (first | (with_reducible exact Below.refl _ _) | (with_reducible assumption) | (with_reducible exact bel_box _) | (with_reducible refine bel_step ?_ (by with_reducible assumption)) | (with_reducible refine Below.drew ?_) | (with_reducible refine below_drewN ?_ _) | (with_reducible refine bel_alloc ?_ _))); done)); rintro e w1 ⟨rfl, hb1⟩)
  go_ret
  exact ⟨rfl, (by repeat (first | (with_reducible exact Below.refl _ _) | (with_reducible assumption) | (with_reducible exact bel_box _) | (with_reducible refine bel_step ?_ (by with_reducible assumption)) | (with_reducible refine Below.drew ?_) | (with_reducible refine below_drewN ?_ _) | (with_reducible refine bel_alloc ?_ _)))⟩
/-- where a node stands -/
def fndI (p : Pt) (s : ByteArray) : Int := idxF (fun n : Nt => n.nm.toList == s.toList) p.ns.l 0
set_option maxHeartbeats 1000000 in
theorem sh_find (p : Pt) (s : ByteArray) (w : World) (hR : RdR w w.heap.size 8 NC p.ns) : Calls Tryz.prog 19 #[pV p, .string s] w (Bel (.tuple #[.int .i64 (max (fndI p s) 0), .bool (decide (0 ≤ fndI p s))]) w) := by
  have KC : Hid (∀ W q, Below w.heap.size w W → Cap W q (.string s) → Calls Tryz.prog 52 #[.slice p.ns.A p.ns.l.length p.ns.c, .func (.func 53) #[] #[.pointer (some q)]] W (Bel (.int .i64 (fndI p s)) W)) := Lib.hid fun W q h hq =>
    idx_Find _ p.ns (fun n : Nt => n.nm.toList == s.toList) W (hR.blw oneB_N h h.size) (Lib.hid fun y _ W' h' => sh_find1 y s q W' (hq.to h'))
  have hb := idxF_bd (fun n : Nt => n.nm.toList == s.toList) p.ns.l 0
  have hl := hR.len
  unfold maxLen at hl
  change fndI p s = -1 ∨ (_ ≤ fndI p s ∧ fndI p s < _) at hb
  generalize fndI p s = v at *
  clear hR
  by_cases h : 0 ≤ v
  · rw [decide_eq_true h, show max v 0 = v by omega]
    clear hb
    go_enter Tryz.func19, Tryz.ntmps19
    go_wp2_with (go_at_call 52; (with_reducible refine (KC.out _ _ ?_ ?_).mono ?_); (focus ((repeat (first | (with_reducible exact Below.refl _ _) | (with_reducible assumption) | (with_reducible exact bel_box _) | (with_reducible refine bel_step ?_ (by with_reducible assumption)) | (with_reducible refine Below.drew ?_) | (with_reducible refine below_drewN ?_ _) | (with_reducible refine bel_alloc ?_ _))); done)); (focus (constructor <;> (simp [go_sem]; done))); rintro e w1 ⟨rfl, hb1⟩)
    refine bodyPost_ret (v := .tuple #[.int .i64 v, .bool true]) (by simp [results, Tryz.results19, go_sem, h]; try omega) rfl ?_
    exact ⟨rfl, (by repeat (first | (with_reducible exact Below.refl _ _) | (with_reducible assumption) | (with_reducible exact bel_box _) | (with_reducible refine bel_step ?_ (by with_reducible assumption)) | (with_reducible refine Below.drew ?_) | (with_reducible refine below_drewN ?_ _) | (with_reducible refine bel_alloc ?_ _)))⟩
  · rw [decide_eq_false h, show max v 0 = 0 by omega]
    have h2 : v < 0 := by omega
    clear hb h
    go_enter Tryz.func19, Tryz.ntmps19
    go_wp2_with (go_at_call 52; (with_reducible refine (KC.out _ _ ?_ ?_).mono ?_); (focus ((repeat (first | (with_reducible exact Below.refl _ _) | (with_reducible assumption) | (with_reducible exact bel_box _) | (with_reducible refine bel_step ?_ (by with_reducible assumption)) | (with_reducible refine Below.drew ?_) | (with_reducible refine below_drewN ?_ _) | (with_reducible refine bel_alloc ?_ _))); done)); (focus (constructor <;> (simp [go_sem]; done))); rintro e w1 ⟨rfl, hb1⟩)
    refine bodyPost_ret (v := .tuple #[.int .i64 0, .bool false]) (by simp [results, Tryz.results19, go_sem]; try omega) rfl ?_
    exact ⟨rfl, (by repeat (first | (with_reducible exact Below.refl _ _) | (with_reducible assumption) | (with_reducible exact bel_box _) | (with_reducible refine bel_step ?_ (by with_reducible assumption)) | (with_reducible refine Below.drew ?_) | (with_reducible refine below_drewN ?_ _) | (with_reducible refine bel_alloc ?_ _)))⟩
end Go.Proofs.YthlapepjebidgaaGreatDoor
/- The law's example, in memory. -/
namespace Go.Proofs.YthlapepjebidgaaGreatDoor
set_option linter.unusedVariables false
set_option linter.unusedSimpArgs false
open Go.RowKit
theorem rdr_one {α : Type} {w : World} {B sz : Nat} {C : World → Addr → α → Prop} {ad : Addr} {y : α} (hb : ad.block < B) (hc : C w ad y) (c : Nat) (h1 : 1 ≤ c) : RdR w B sz C ⟨some ad, c, [y]⟩ := by
  refine ⟨fun _ => ⟨ad, rfl, hb⟩, fun a i z hA hz => ?_, by simp [maxLen], h1⟩
  obtain rfl : ad = a := Option.some.inj hA
  cases i with
  | zero =>
    obtain rfl : y = z := by simpa using hz
    rw [Nat.zero_mul, add_zero']
    exact hc
  | succ i => simp at hz
/-- the constant of the example -/
abbrev redX : Xt := .mk 1 0 3 0 ⟨#[]⟩ none 0 []
abbrev sX : ByteArray := ⟨#[120]⟩
abbrev sF : ByteArray := ⟨#[102]⟩
abbrev sLi : ByteArray := ⟨#[76, 105, 103, 104, 116]⟩
abbrev sRe : ByteArray := ⟨#[82, 101, 100]⟩
abbrev sGr : ByteArray := ⟨#[71, 114, 101, 101, 110]⟩
abbrev liE (h : Nat) : va.En := ⟨sLi, some ⟨h + 1 + 1 + 1 + 1 + 1 + 1, 0, none⟩, 2, [sRe, sGr]⟩
abbrev liN (h : Nat) : Nt := ⟨sF, ⟨none, 0, []⟩, ⟨some ⟨h + 1 + 1, 0, none⟩, 1, [⟨sX, 3, ⟨none, 0, []⟩⟩]⟩, ⟨none, 0, []⟩, ⟨some ⟨h + 1 + 1 + 1 + 1, 0, none⟩, 1, [⟨⟨some ⟨h + 1 + 1 + 1, 0, none⟩, 1, [sX]⟩, redX⟩]⟩, ⟨none, 0, []⟩, ⟨none, 0, []⟩, ⟨none, 0, []⟩⟩
abbrev liP (h : Nat) : Pt := ⟨⟨some ⟨h + 1 + 1 + 1 + 1 + 1 + 1 + 1, 0, none⟩, 1, [liE h]⟩, ⟨some ⟨h + 1 + 1 + 1 + 1 + 1 + 1 + 1 + 1, 0, none⟩, 1, [liN h]⟩⟩
theorem red_rd (w : World) (B : Nat) : RsX w B redX := by
  refine ⟨.mk _ (fun h => absurd rfl h) (fun ad i y h => by cases h) (fun y h => by cases h) ⟨⟨Nat.zero_le _, Nat.zero_le _⟩, Nat.le_refl _⟩, fun y hy => ?_⟩
  rw [Xt.list_eq] at hy
  obtain rfl : y = redX := by simpa [Xt.ar] using hy
  exact ⟨Nat.zero_le _, by decide⟩
theorem rsn_nil {w : World} {B : Nat} : RsDs w B ⟨none, 0, []⟩ := ⟨RdR.nil _ _ _ _ _, fun d h => by cases h⟩
theorem heap_at {w : World} {o : Obj} {g : Nat} (h : g = w.heap.size) : (w.alloc o).heap[g]? = some o := by rw [h]; exact heap_alloc_new w o
/-- a node's cells -/
def nCs (n : Nt) : List Value := [.string n.nm, .slice n.ins.A n.ins.l.length n.ins.c, .slice n.outs.A n.outs.l.length n.outs.c, .slice n.locs.A n.locs.l.length n.locs.c, .slice n.qs.A n.qs.l.length n.qs.c, .slice n.au.A n.au.l.length n.au.c, .slice n.asm.A n.asm.l.length n.asm.c, .slice n.ens.A n.ens.l.length n.ens.c]
def NewLi (w : World) (e : Ending) (w' : World) : Prop := ∃ h, e = .returned (pV (liP h)) ∧ RsP w' w'.heap.size (liP h) ∧ Below w.heap.size w w' ∧ w'.ownsRow w.heap.size 56 8 (.slice (some ⟨h + 1 + 1 + 1 + 1 + 1 + 1 + 1 + 1, 0, none⟩) 1 1) 1 (nCs (liN h))
set_option maxHeartbeats 1000000 in
set_option maxRecDepth 20000 in
theorem light_any (w : World) : Calls Tryz.prog 54 #[] w (NewLi w) := by
  go_enter Tryz.func54, Tryz.ntmps54
  go_wp2
  refine bodyPost_ret (v := pV (liP w.heap.size)) (by simp [results, Tryz.f54, go_sem]) rfl ⟨w.heap.size, rfl, ?_, (by repeat (first | (with_reducible exact Below.refl _ _) | (with_reducible assumption) | (with_reducible exact bel_box _) | (with_reducible refine bel_step ?_ (by with_reducible assumption)) | (with_reducible refine Below.drew ?_) | (with_reducible refine below_drewN ?_ _) | (with_reducible refine bel_alloc ?_ _))), ?_⟩
  rotate_left
  · refine ⟨rfl, .inr ⟨_, 1, #[.string sF, .slice none 0 0, .slice (some ⟨w.heap.size + 1 + 1, 0, none⟩) 1 1, .slice none 0 0, .slice (some ⟨w.heap.size + 1 + 1 + 1 + 1, 0, none⟩) 1 1, .slice none 0 0, .slice none 0 0, .slice none 0 0], rfl, by omega, ?_, Nat.le_refl _, by simp [maxLen], rfl, rfl⟩⟩
    exact heap_at (by simp only [World.size_alloc])
  obtain ⟨W, hW⟩ : ∃ W, (((((((((w.alloc (.cells #[.slice (some ⟨w.heap.size + 1 + 1 + 1 + 1 + 1 + 1 + 1, 0, none⟩) 1 1, .slice (some ⟨w.heap.size + 1 + 1 + 1 + 1 + 1 + 1 + 1 + 1, 0, none⟩) 1 1] 36)).alloc (.cells #[.int .i64 1, .int .i64 0, .int .i64 3, .int .i64 0, .string ⟨#[]⟩, .slice none 0 0] 24)).alloc (.cells #[.string sX, .int .i64 3, .slice none 0 0] 98)).alloc (.cells #[.string sX] 9)).alloc (.cells #[.slice (some ⟨w.heap.size + 1 + 1 + 1, 0, none⟩) 1 1, .int .i64 1, .int .i64 0, .int .i64 3, .int .i64 0, .string ⟨#[]⟩, .slice none 0 0] 59)).alloc (.cells #[.string sF, .slice none 0 0, .slice (some ⟨w.heap.size + 1 + 1, 0, none⟩) 1 1, .slice none 0 0, .slice (some ⟨w.heap.size + 1 + 1 + 1 + 1, 0, none⟩) 1 1, .slice none 0 0, .slice none 0 0, .slice none 0 0] 56)).alloc (.cells #[.string sRe, .string sGr] 9)).alloc (.cells #[.string sLi, .slice (some ⟨w.heap.size + 1 + 1 + 1 + 1 + 1 + 1, 0, none⟩) 2 2] 72)).alloc (.cells #[.string sF, .slice none 0 0, .slice (some ⟨w.heap.size + 1 + 1, 0, none⟩) 1 1, .slice none 0 0, .slice (some ⟨w.heap.size + 1 + 1 + 1 + 1, 0, none⟩) 1 1, .slice none 0 0, .slice none 0 0, .slice none 0 0] 56)) = W := ⟨_, rfl⟩
  have hz : W.heap.size = w.heap.size + 9 := by rw [← hW]; simp only [World.size_alloc]
  have hd : DC W ⟨w.heap.size + 1 + 1, 0, none⟩ ⟨sX, 3, ⟨none, 0, []⟩⟩ := by
    rw [← hW]
    refine ⟨?_, ?_, ?_⟩ <;> simp [go_sem]
  have hl : BC W ⟨w.heap.size + 1 + 1 + 1, 0, none⟩ sX := by
    rw [← hW]
    unfold BC
    simp [go_sem]
  have hq : QC W ⟨w.heap.size + 1 + 1 + 1 + 1, 0, none⟩ ⟨⟨some ⟨w.heap.size + 1 + 1 + 1, 0, none⟩, 1, [sX]⟩, redX⟩ := by
    rw [← hW]
    refine ⟨?_, ?_, ?_, ?_, ?_, ?_, ?_⟩ <;> simp [go_sem, Xt.k, Xt.op, Xt.t, Xt.v, Xt.nm, Xt.A, Xt.ar, Xt.c]
  have ht : Rd W W.heap.size (some ⟨w.heap.size + 1 + 1 + 1 + 1 + 1 + 1, 0, none⟩) (va.ss [sRe, sGr]) := by
    intro _
    refine ⟨_, rfl, by simp only; omega, fun j u hu => ?_⟩
    rw [va.add_off, ← hW]
    rcases j with _ | _ | j
    · obtain rfl : Value.string sRe = u := by simpa [va.ss] using hu
      simp [go_sem]
    · obtain rfl : Value.string sGr = u := by simpa [va.ss] using hu
      simp [go_sem]
    · simp [va.ss] at hu
  have hn : NC W ⟨w.heap.size + 1 + 1 + 1 + 1 + 1 + 1 + 1 + 1, 0, none⟩ (liN w.heap.size) := by
    rw [← hW]
    refine ⟨?_, ?_, ?_, ?_, ?_, ?_, ?_, ?_⟩ <;> simp [go_sem]
  have he : W.cell? ⟨w.heap.size + 1 + 1 + 1 + 1 + 1 + 1 + 1, 0, none⟩ = some (.string sLi) ∧ W.cell? ⟨w.heap.size + 1 + 1 + 1 + 1 + 1 + 1 + 1, 1, none⟩ = some (.slice (some ⟨w.heap.size + 1 + 1 + 1 + 1 + 1 + 1, 0, none⟩) 2 2) := by
    rw [← hW]
    refine ⟨?_, ?_⟩ <;> simp [go_sem]
  show RsP _ _ _
  rw [show (((((((((w.alloc (.cells #[.slice (some ⟨w.heap.size + 1 + 1 + 1 + 1 + 1 + 1 + 1, 0, none⟩) 1 1, .slice (some ⟨w.heap.size + 1 + 1 + 1 + 1 + 1 + 1 + 1 + 1, 0, none⟩) 1 1] 36)).alloc (.cells #[.int .i64 1, .int .i64 0, .int .i64 3, .int .i64 0, .string ⟨#[]⟩, .slice none 0 0] 24)).alloc (.cells #[.string sX, .int .i64 3, .slice none 0 0] 98)).alloc (.cells #[.string sX] 9)).alloc (.cells #[.slice (some ⟨w.heap.size + 1 + 1 + 1, 0, none⟩) 1 1, .int .i64 1, .int .i64 0, .int .i64 3, .int .i64 0, .string ⟨#[]⟩, .slice none 0 0] 59)).alloc (.cells #[.string sF, .slice none 0 0, .slice (some ⟨w.heap.size + 1 + 1, 0, none⟩) 1 1, .slice none 0 0, .slice (some ⟨w.heap.size + 1 + 1 + 1 + 1, 0, none⟩) 1 1, .slice none 0 0, .slice none 0 0, .slice none 0 0] 56)).alloc (.cells #[.string sRe, .string sGr] 9)).alloc (.cells #[.string sLi, .slice (some ⟨w.heap.size + 1 + 1 + 1 + 1 + 1 + 1, 0, none⟩) 2 2] 72)).alloc (.cells #[.string sF, .slice none 0 0, .slice (some ⟨w.heap.size + 1 + 1, 0, none⟩) 1 1, .slice none 0 0, .slice (some ⟨w.heap.size + 1 + 1 + 1 + 1, 0, none⟩) 1 1, .slice none 0 0, .slice none 0 0, .slice none 0 0] 56)) = W from hW]
  clear hW
  refine ⟨⟨⟨fun _ => ⟨_, rfl, by simp only; omega, fun i e hi => ?_⟩, fun i e hi => ?_⟩, ⟨by simp [maxLen], Nat.le_refl _⟩, fun e he => ?_⟩, rdr_one (by simp only; omega) hn 1 (Nat.le_refl _), fun n hn => ?_⟩
  · rcases i with _ | i
    · obtain rfl : liE w.heap.size = e := by simpa using hi
      refine ⟨?_, ?_⟩
      · rw [Nat.zero_mul, add_zero']; exact he.1
      · rw [Nat.zero_mul, va.add_off]; exact he.2
    · simp at hi
  · rcases i with _ | i
    · obtain rfl : liE w.heap.size = e := by simpa using hi
      exact ht
    · simp at hi
  · obtain rfl : e = liE w.heap.size := by simpa using he
    exact ⟨show sLi.size ≤ 140737488351232 by decide, ⟨by simp [maxLen], Nat.le_refl _⟩, show ∀ b ∈ [sRe, sGr], b.size ≤ 140737488351232 by decide⟩
  · obtain rfl : n = liN w.heap.size := by simpa using hn
    refine ⟨show sF.size ≤ 140737488351232 by decide, rsn_nil, ⟨rdr_one (by simp only; omega) hd 1 (Nat.le_refl _), fun d hd => ?_⟩, rsn_nil, ⟨rdr_one (by simp only; omega) hq 1 (Nat.le_refl _), fun q hq => ?_⟩, ⟨RdR.nil _ _ _ _ _, fun d h => by cases h⟩, ⟨RdR.nil _ _ _ _ _, fun d h => by cases h⟩, ⟨RdR.nil _ _ _ _ _, fun d h => by cases h⟩⟩
    · obtain rfl : d = ⟨sX, 3, ⟨none, 0, []⟩⟩ := by simpa using hd
      exact ⟨⟨by decide, by decide⟩, RdR.nil _ _ _ _ _, fun d h => by cases h⟩
    · obtain rfl : q = ⟨⟨some ⟨w.heap.size + 1 + 1 + 1, 0, none⟩, 1, [sX]⟩, redX⟩ := by simpa using hq
      exact ⟨⟨rdr_one (by simp only; omega) hl 1 (Nat.le_refl _), show ∀ b ∈ [sX], b.size ≤ 140737488351232 by decide⟩, red_rd _ _⟩
end Go.Proofs.YthlapepjebidgaaGreatDoor
/- A leaf. -/
namespace Go.Proofs.YthlapepjebidgaaGreatDoor
set_option linter.unusedVariables false
set_option linter.unusedSimpArgs false
open Go.RowKit
theorem leaf_list (k op t v : Int) (nm : ByteArray) : (Xt.mk k op t v nm none 0 []).list = [.mk k op t v nm none 0 []] := by rw [Xt.list_eq]; rfl
theorem leaf_size (k op t v : Int) (nm : ByteArray) : (Xt.mk k op t v nm none 0 []).size = 1 := by rw [Xt.size_eq]; rfl
theorem leaf_depth (k op t v : Int) (nm : ByteArray) : (Xt.mk k op t v nm none 0 []).depth = 1 := by rw [Xt.depth_eq]; rfl
end Go.Proofs.YthlapepjebidgaaGreatDoor
/- The law's example: what is said of it. -/
namespace Go.Proofs.YthlapepjebidgaaGreatDoor
set_option linter.unusedVariables false
set_option linter.unusedSimpArgs false
open Go.RowKit
abbrev sG : ByteArray := ⟨#[103]⟩
theorem id_x : idP sX = true := by decide +kernel
theorem id_f : idP sF = true := by decide +kernel
theorem id_g : idP sG = true := by decide +kernel
theorem id_li : idP sLi = true := by decide +kernel
theorem id_re : idP sRe = true := by decide +kernel
theorem id_gr : idP sGr = true := by decide +kernel
/-- the constant with the value v -/
abbrev cX (v : Int) : Xt := .mk 1 0 3 v ⟨#[]⟩ none 0 []
theorem chk_cX (v : Int) (h0 : 0 ≤ v) (h1 : v < 16) : chkAll wokP (cX v) = 0 := by
  unfold chkAll
  rw [leaf_size, leaf_depth, leaf_list, if_neg (by omega), firstE, if_pos]
  · rfl
  · unfold chk1
    simp [Xt.k, Xt.op, Xt.t, Xt.v, Xt.nm, Xt.ar, formedP, onlyP, hasVal, hasIdn, hasVar, h0, h1]
theorem tags_li (h : Nat) : va.tagsOf [liE h] 3 = [sRe, sGr] := va.tagsOf_enu (es := [liE h]) (k := 0) rfl
theorem size_li (h : Nat) : va.sizeT [liE h] 3 = 2 := by
  unfold va.sizeT
  rw [if_neg (by decide), tags_li]
  rfl
theorem has_li (h : Nat) (v : Int) : va.hasB [liE h] 3 v = (decide (0 ≤ v) && decide (v < 2)) := by
  unfold va.hasB
  rw [if_neg (by decide), size_li]
theorem ins_cX (h : Nat) (v : Int) (h0 : 0 ≤ v) : insE [liE h] (cX v) = if v < 2 then 0 else 14 := by
  rw [insE_eq]
  have h1 : typE [liE h] (cX v) = if v < 2 then 0 else 14 := by
    by_cases hv : v < 2
    · simp [typE, Xt.k, Xt.t, Xt.v, Xt.ar, size_li, has_li, h0, hv]
    · simp [typE, Xt.k, Xt.t, Xt.v, Xt.ar, size_li, has_li, h0, hv]
  rw [h1]
  show orE _ (errs ([].map _)) = _
  by_cases hv : v < 2
  · rw [if_pos hv]; rfl
  · rw [if_neg hv]; rfl
theorem exp_cX (h : Nat) (v : Int) (h0 : 0 ≤ v) (h1 : v < 16) : expE [liE h] (cX v) = if v < 2 then 0 else 14 := by
  unfold expE
  rw [chk_cX v h0 h1, orE0, ins_cX h v h0]
theorem enum_li (h : Nat) : enumE (liE h) = 0 := by
  unfold enumE
  rw [show (liE h).name = sLi from rfl, id_li, if_pos rfl, if_neg (show ¬ ([sRe, sGr].length = 0) by decide), if_neg (show ¬ (16 < [sRe, sGr].length) by decide)]
  show errs [idE sRe, idE sGr] = 0
  unfold idE
  rw [id_re, id_gr]
  rfl
theorem node_li (h k : Nat) : nodE [liE h] (liN k) = (-1, 0) := by
  have hh : hedE [liE h] (liN k) = 0 := by
    unfold hedE
    rw [show (liN k).nm = sF from rfl, id_f, if_pos rfl, if_neg (by simp), if_neg (by simp)]
    show orE 0 (orE (errs [portE [liE h] ⟨sX, 3, ⟨none, 0, []⟩⟩]) 0) = 0
    have hp : portE [liE h] ⟨sX, 3, ⟨none, 0, []⟩⟩ = 0 := by
      unfold portE dclE
      simp only
      rw [id_x, if_pos rfl]
      rfl
    rw [hp]
    rfl
  rw [nodE_eq, hh, if_pos rfl]
  have hq : eqsE [liE h] (liN k).qs.l = none := by
    show eqsE [liE h] [⟨⟨some _, 1, [sX]⟩, redX⟩] = none
    have hx : eqnE [liE h] ⟨⟨some ⟨k + 1 + 1 + 1, 0, none⟩, 1, [sX]⟩, redX⟩ = 0 := by
      unfold eqnE
      simp only
      rw [if_neg (by simp), if_neg (by simp), exp_cX h 0 (by decide) (by decide), if_pos (by decide)]
      show orE (errs [idE sX]) (orE 0 (if 1 < 1 ∧ redX.k ≠ 10 then 5 else 0)) = 0
      rw [if_neg (show ¬ (1 < 1 ∧ redX.k ≠ 10) by omega), show idE sX = 0 by unfold idE; rw [id_x]; rfl]
      rfl
    rw [eqsE, hx, if_pos rfl]
    rfl
  rw [hq]
  rfl
theorem chk_li (h : Nat) : chkE (liP h) = ((0, 0), 0) := by
  unfold chkE
  rw [if_neg (by simp)]
  show (if errs [enumE (liE h)] = 0 then _ else _) = _
  rw [enum_li, if_pos (show errs [0] = 0 from rfl)]
  show wheR (ndsE [liE h] [liN h]) = _
  rw [ndsE, node_li, if_pos rfl]
  rfl
/-- the node that is added -/
abbrev gN : Nt := ⟨sG, ⟨none, 0, []⟩, ⟨none, 0, []⟩, ⟨none, 0, []⟩, ⟨none, 0, []⟩, ⟨none, 0, []⟩, ⟨none, 0, []⟩, ⟨none, 0, []⟩⟩
abbrev liQ (h g c : Nat) : Pt := ⟨(liP h).es, ⟨some ⟨g, 0, none⟩, c, [liN h, gN]⟩⟩
theorem node_g (h : Nat) : nodE [liE h] gN = (-1, 8) := by
  have hh : hedE [liE h] gN = 8 := by
    unfold hedE
    rw [show gN.nm = sG from rfl, id_g, if_pos rfl, if_neg (by simp), if_pos (show gN.outs.l.length = 0 from rfl)]
  rw [nodE_eq, hh, if_neg (by decide)]
theorem chk_liQ (h g c : Nat) : chkE (liQ h g c) = ((1, -1), 8) := by
  unfold chkE
  rw [if_neg (by simp)]
  show (if errs [enumE (liE h)] = 0 then _ else _) = _
  rw [enum_li, if_pos (show errs [0] = 0 from rfl)]
  show wheR (ndsE [liE h] [liN h, gN]) = _
  rw [ndsE, node_li, if_pos rfl, ndsE, node_g, if_neg (by decide)]
  rfl
theorem find_liQ (h g c : Nat) : fndI (liQ h g c) sG = 1 := by
  unfold fndI
  show idxF _ [liN h, gN] 0 = 1
  rw [idxF, if_neg (show ¬ (sF.toList == sG.toList) = true by decide +kernel), idxF, if_pos (show (sG.toList == sG.toList) = true by decide +kernel)]
  rfl
theorem same_red : sameX redX redX = true := sameX_yes rfl
theorem same_liN (h k : Nat) : samN (liN h) (liN k) = true := by
  unfold samN
  have h1 : all2 samD (liN h).outs.l (liN k).outs.l = true := by
    show all2 samD [⟨sX, 3, ⟨none, 0, []⟩⟩] [⟨sX, 3, ⟨none, 0, []⟩⟩] = true
    decide +kernel
  have h2 : all2 samQ (liN h).qs.l (liN k).qs.l = true := by
    show (samQ _ _ && true) = true
    unfold samQ
    rw [show sameX redX redX = true from same_red, Bool.and_true, Bool.and_true]
    show all2 samB [sX] [sX] = true
    decide +kernel
  rw [h1, h2]
  show (sF.toList == sF.toList && _) = true
  rw [show (sF.toList == sF.toList) = true by decide +kernel]
  rfl
theorem same_li (h k : Nat) : samP (liP h) (liP k) = true := by
  unfold samP
  show (all2 samE [liE h] [liE k] && all2 samN [liN h] [liN k]) = true
  rw [all2, all2, all2, all2, same_liN]
  unfold samE
  show ((sLi.toList == sLi.toList && all2 samB [sRe, sGr] [sRe, sGr]) && true && (true && true)) = true
  decide +kernel
theorem same_liQ (h k g c : Nat) : samP (liP h) (liQ k g c) = false := by
  unfold samP
  rw [all2_len (show (liP h).ns.l.length ≠ (liQ k g c).ns.l.length by show 1 ≠ 2; decide), Bool.and_false]
theorem sm_liN (h : Nat) : SmN 1048576 (liN h) := by
  refine ⟨fun q hq => ?_, (fun a ha => by cases ha), (fun x hx => by cases hx), (fun x hx => by cases hx)⟩
  obtain rfl : q = ⟨⟨some ⟨h + 1 + 1 + 1, 0, none⟩, 1, [sX]⟩, redX⟩ := by simpa using hq
  show redX.size ≤ _
  rw [leaf_size]
  decide
end Go.Proofs.YthlapepjebidgaaGreatDoor
/- awake: the walk. -/
namespace Go.Proofs.YthlapepjebidgaaGreatDoor
set_option linter.unusedVariables false
set_option linter.unusedSimpArgs false
open Go.RowKit
abbrev esV (h : Nat) : Value := .slice (some ⟨h + 1 + 1 + 1 + 1 + 1 + 1 + 1, 0, none⟩) 1 1
abbrev nsV (h : Nat) : Value := .slice (some ⟨h + 1 + 1 + 1 + 1 + 1 + 1 + 1 + 1, 0, none⟩) 1 1
theorem ndInfo : (Tryz.prog.info? 56).map (fun i => (i.zero, i.size, i.bytes)) = some (some (.agg #[.string ⟨#[]⟩, .slice none 0 0, .slice none 0 0, .slice none 0 0, .slice none 0 0, .slice none 0 0, .slice none 0 0, .slice none 0 0]), 8, 184) := by kernel_rfl
theorem nCs_one (n : Nt) : ∀ u ∈ nCs n, u.oneCell' = true := by
  intro u hu
  simp [nCs] at hu
  rcases hu with rfl | rfl | rfl | rfl | rfl | rfl | rfl | rfl <;> rfl
theorem nc_cells {w : World} {a : Addr} {n : Nt} (h : NC w a n) : ∀ j u, (nCs n)[j]? = some u → w.cell? (a.add j) = some u := by
  obtain ⟨h0, h1, h2, h3, h4, h5, h6, h7⟩ := h
  have ad : ∀ k, a.add (k + 1) = ⟨a.block, a.off + (k + 1), none⟩ := fun k => by simp [Addr.add]
  intro j u hu
  rcases j with _ | _ | _ | _ | _ | _ | _ | _ | j
  · obtain rfl := Option.some.inj hu; rw [add_zero']; exact h0
  · obtain rfl := Option.some.inj hu; rw [ad]; exact h1
  · obtain rfl := Option.some.inj hu; rw [ad]; exact h2
  · obtain rfl := Option.some.inj hu; rw [ad]; exact h3
  · obtain rfl := Option.some.inj hu; rw [ad]; exact h4
  · obtain rfl := Option.some.inj hu; rw [ad]; exact h5
  · obtain rfl := Option.some.inj hu; rw [ad]; exact h6
  · obtain rfl := Option.some.inj hu; rw [ad]; exact h7
  · simp [nCs] at hu
theorem gN_cells (w : World) (T : TypeId) : ∀ j u, (nCs gN)[j]? = some u → (w.alloc (.cells #[.string sG, .slice none 0 0, .slice none 0 0, .slice none 0 0, .slice none 0 0, .slice none 0 0, .slice none 0 0, .slice none 0 0] T)).cell? ((⟨w.heap.size, 0, none⟩ : Addr).add j) = some u := by
  intro j u hu
  rw [va.add_off]
  rcases j with _ | _ | _ | _ | _ | _ | _ | _ | j
  all_goals (first | (obtain rfl := Option.some.inj hu; simp [go_sem]; done) | (simp [nCs] at hu))
theorem own_nodes {w : World} {base : Nat} {v : Value} {a b : Nt} (h : w.ownsRow base 56 8 v 2 (nCs a ++ nCs b)) : ∃ g c, v = .slice (some ⟨g, 0, none⟩) 2 c ∧ 2 ≤ c ∧ base ≤ g ∧ g < w.heap.size ∧ NC w ⟨g, 0, none⟩ a ∧ NC w ⟨g, 8, none⟩ b := by
  rcases h.2 with ⟨_, h2⟩ | ⟨g, cap, cur, rfl, hb, hg, hn, _, _, ht⟩
  · cases h2
  · have key : ∀ j u, j < 16 → (nCs a ++ nCs b)[j]? = some u → w.cell? ⟨g, j, none⟩ = some u := fun j u hj hu => by
      rw [cell_of_row w g j cur _ (0, 0) hg]
      rw [← ht, List.getElem?_take_of_lt (by omega)] at hu
      rw [← Array.getElem?_toList]; exact hu
    exact ⟨g, cap, rfl, hn, hb, (Array.getElem?_eq_some_iff.1 hg).1, ⟨key 0 _ (by omega) rfl, key 1 _ (by omega) rfl, key 2 _ (by omega) rfl, key 3 _ (by omega) rfl, key 4 _ (by omega) rfl, key 5 _ (by omega) rfl, key 6 _ (by omega) rfl, key 7 _ (by omega) rfl⟩,
      ⟨key 8 _ (by omega) rfl, key 9 _ (by omega) rfl, key 10 _ (by omega) rfl, key 11 _ (by omega) rfl, key 12 _ (by omega) rfl, key 13 _ (by omega) rfl, key 14 _ (by omega) rfl, key 15 _ (by omega) rfl⟩⟩
theorem gN_rs (w : World) (B : Nat) : RsN w B gN :=
  ⟨show sG.size ≤ 140737488351232 by decide, rsn_nil, rsn_nil, rsn_nil, ⟨RdR.nil _ _ _ _ _, fun d h => by cases h⟩, ⟨RdR.nil _ _ _ _ _, fun d h => by cases h⟩, ⟨RdR.nil _ _ _ _ _, fun d h => by cases h⟩, ⟨RdR.nil _ _ _ _ _, fun d h => by cases h⟩⟩
theorem liQ_rs {w W : World} {h g c : Nat} (hR : RsP w w.heap.size (liP h)) (hb : Below w.heap.size w W) (hg : g < W.heap.size) (hc : 2 ≤ c) (h1 : NC W ⟨g, 0, none⟩ (liN h)) (h2 : NC W ⟨g, 8, none⟩ gN) : RsP W W.heap.size (liQ h g c) := by
  refine ⟨hR.1.blw hb hb.size, ⟨fun _ => ⟨_, rfl, hg⟩, fun a i y hA hy => ?_, by simp [maxLen], hc⟩, fun n hn => ?_⟩
  · obtain rfl := Option.some.inj hA
    rcases i with _ | _ | i
    · obtain rfl : liN h = y := by simpa using hy
      rw [Nat.zero_mul, add_zero']
      exact h1
    · obtain rfl : gN = y := by simpa using hy
      rw [va.add_off]
      exact h2
    · simp at hy
  · rcases List.mem_cons.1 hn with rfl | hn
    · exact (hR.2.2 (liN h) (by simp)).blw hb hb.size
    · obtain rfl := List.mem_singleton.1 hn
      exact gN_rs _ _
theorem grown_below {w w' : World} (h : w.grownBy w' none) : Below w.heap.size w w' := ⟨h.os, h.tape, h.output, h.size, fun k hk => h.block k hk (by intro e; cases e)⟩
/-- a box of two cells in any later world -/
theorem bx2' {w W : World} {x y : Value} {T : TypeId} (h : Below (w.alloc (.cells #[x, y] T)).heap.size (w.alloc (.cells #[x, y] T)) W) : W.cell? ⟨w.heap.size, 0, none⟩ = some x ∧ W.cell? ⟨w.heap.size, 1, none⟩ = some y ∧ w.heap.size < W.heap.size := by
  have hs := h.size
  rw [World.size_alloc] at hs
  have hc : ∀ q : Addr, q.block < w.heap.size + 1 → W.cell? q = _ := fun q hq => h.cell (by rw [World.size_alloc]; exact hq)
  refine ⟨?_, ?_, hs⟩
  all_goals (rw [hc _ (by simp)]; simp [go_sem])
def LiW (w : World) (e : Ending) (w' : World) : Prop := ∃ h, e = .returned (.agg #[esV h, nsV h]) ∧ RsP w' w'.heap.size (liP h) ∧ Below w.heap.size w w'
structure AwK (w : World) : Prop where
  L : Hid (∀ W, Below w.heap.size w W → Calls Tryz.prog 54 #[] W (LiW W))
  C1 : Hid (∀ h W, RsP W W.heap.size (liP h) → Below w.heap.size w W → Calls Tryz.prog 15 #[.agg #[esV h, nsV h]] W (Bel (.tuple #[.agg #[.int .i64 0, .int .i64 0], .int .i64 0]) W))
  C2 : Hid (∀ h g c W, RsP W W.heap.size (liQ h g c) → Below w.heap.size w W → Calls Tryz.prog 15 #[.agg #[esV h, .slice (some ⟨g, 0, none⟩) 2 c]] W (Bel (.tuple #[.agg #[.int .i64 1, .int .i64 (-1)], .int .i64 8]) W))
  F : Hid (∀ h g c W, RsP W W.heap.size (liQ h g c) → Below w.heap.size w W → Calls Tryz.prog 19 #[.agg #[esV h, .slice (some ⟨g, 0, none⟩) 2 c], .string sG] W (Bel (.tuple #[.int .i64 1, .bool true]) W))
  P : Hid (∀ h W, RsP W W.heap.size (liP h) → Below w.heap.size w W → Calls Tryz.prog 17 #[.agg #[esV h, nsV h]] W (Bel (.bool true) W))
  S1 : Hid (∀ h k W, RsP W W.heap.size (liP h) → RsP W W.heap.size (liP k) → Below w.heap.size w W → Calls Tryz.prog 24 #[.agg #[esV h, nsV h], .agg #[esV k, nsV k]] W (Bel (.bool true) W))
  S2 : Hid (∀ h k g c W, RsP W W.heap.size (liP h) → RsP W W.heap.size (liQ k g c) → Below w.heap.size w W → Calls Tryz.prog 24 #[.agg #[esV h, nsV h], .agg #[esV k, .slice (some ⟨g, 0, none⟩) 2 c]] W (Bel (.bool false) W))
  E : Hid (∀ h W, RsP W W.heap.size (liP h) → Below w.heap.size w W → Calls Tryz.prog 22 #[esV h, .agg #[.int .i64 1, .int .i64 0, .int .i64 3, .int .i64 2, .string ⟨#[]⟩, .slice none 0 0]] W (Bel (.int .i64 14) W))
theorem cX_rs (v : Int) (w : World) (B : Nat) : RsX w B (cX v) := by
  refine ⟨.mk _ (fun h => absurd rfl h) (fun ad i y h => by cases h) (fun y h => by cases h) ⟨⟨Nat.zero_le _, Nat.zero_le _⟩, Nat.le_refl _⟩, fun y hy => ?_⟩
  rw [Xt.list_eq] at hy
  obtain rfl : y = cX v := by simpa [Xt.ar] using hy
  exact ⟨Nat.zero_le _, show (3 : Int) ≤ 9223372036854775807 by decide⟩
theorem awk (w : World) (hs : Std w) : AwK w where
  L := Lib.hid fun W _ => (light_any W).mono fun e w' ⟨h, he, hR, hb, _⟩ => ⟨h, he, hR, hb⟩
  C1 := Lib.hid fun h W hR hb => by
    have := sh_check (liP h) W (hs.to hb) hR
    rw [chk_li] at this
    exact this
  C2 := Lib.hid fun h g c W hR hb => by
    have := sh_check (liQ h g c) W (hs.to hb) hR
    rw [chk_liQ] at this
    exact this
  F := Lib.hid fun h g c W hR hb => by
    have := sh_find (liQ h g c) sG W hR.2.1
    rw [find_liQ] at this
    exact this
  P := Lib.hid fun h W hR hb => sh_plain (liP h) W hR.2.1
  S1 := Lib.hid fun h k W hR hK hb => by
    have := sh_same (liP h) (liP k) W hR hK (fun n hn => by obtain rfl := List.mem_singleton.1 hn; exact sm_liN h)
    rw [same_li] at this
    exact this
  S2 := Lib.hid fun h k g c W hR hK hb => by
    have := sh_same (liP h) (liQ k g c) W hR hK (fun n hn => by obtain rfl := List.mem_singleton.1 hn; exact sm_liN h)
    rw [same_liQ] at this
    exact this
  E := Lib.hid fun h W hR hb => by
    have := sh_Expr (liP h).es (cX 2) W (hs.to hb) hR.1 (cX_rs 2 _ _)
    rw [show (liP h).es.l = [liE h] from rfl, exp_cX h 2 (by decide) (by decide), if_neg (by decide)] at this
    exact this
end Go.Proofs.YthlapepjebidgaaGreatDoor
/- awake: the walk. -/
namespace Go.Proofs.YthlapepjebidgaaGreatDoor
set_option linter.unusedVariables false
set_option linter.unusedSimpArgs false
open Go.RowKit
theorem RsP.to {w W : World} {p : Pt} (h : RsP w w.heap.size p) (hb : Below w.heap.size w W) : RsP W W.heap.size p := h.blw hb hb.size
theorem li_olds {w W : World} {h : Nat} (hR : RsP w w.heap.size (liP h)) (hb : Below w.heap.size w W) : ∀ b, some (⟨h + 1 + 1 + 1 + 1 + 1 + 1 + 1 + 1, 0, none⟩ : Addr) = some b → ∀ j u, (nCs (liN h))[j]? = some u → W.cell? (b.add j) = some u := by
  intro b hb' j u hu
  obtain rfl := Option.some.inj hb'
  have := (hR.to hb).2.1.2.1 ⟨h + 1 + 1 + 1 + 1 + 1 + 1 + 1 + 1, 0, none⟩ 0 (liN h) rfl rfl
  rw [Nat.zero_mul, add_zero'] at this
  exact nc_cells this j u hu
theorem gN_cells2 (w : World) (o : Obj) (T : TypeId) : ∀ j u, (nCs gN)[j]? = some u → ((w.alloc o).alloc (.cells #[.string sG, .slice none 0 0, .slice none 0 0, .slice none 0 0, .slice none 0 0, .slice none 0 0, .slice none 0 0, .slice none 0 0] T)).cell? ((⟨w.heap.size + 1, 0, none⟩ : Addr).add j) = some u := by
  have e : w.heap.size + 1 = (w.alloc o).heap.size := (World.size_alloc _ _).symm
  rw [e]
  exact gN_cells _ _
/-- behind the append and the store into q -/
theorem li_after {w3 w4 : World} {h base : Nat} {v4 : Value} {T : TypeId} (hR : RsP w3 w3.heap.size (liP h)) (hb : Below (w3.alloc (.cells #[esV h, nsV h] T)).heap.size (w3.alloc (.cells #[esV h, nsV h] T)) w4) (hB : w3.heap.size < base) (hown : w4.ownsRow base 56 8 v4 2 (nCs (liN h) ++ nCs gN)) :
    ∃ g c, v4 = .slice (some ⟨g, 0, none⟩) 2 c ∧ w4.cell? ⟨w3.heap.size, 0, none⟩ = some (esV h) ∧ w4.cell? ⟨w3.heap.size, 1, none⟩ = some (nsV h) ∧ w4.frozen? ⟨w3.heap.size, 1, none⟩ = false ∧
      Hid (RsP (w4.setCell ⟨w3.heap.size, 1, none⟩ (.slice (some ⟨g, 0, none⟩) 2 c)) (w4.setCell ⟨w3.heap.size, 1, none⟩ (.slice (some ⟨g, 0, none⟩) 2 c)).heap.size (liQ h g c)) ∧ Hid (Below w3.heap.size w3 (w4.setCell ⟨w3.heap.size, 1, none⟩ (.slice (some ⟨g, 0, none⟩) 2 c))) ∧
      Cap (w4.setCell ⟨w3.heap.size, 1, none⟩ (.slice (some ⟨g, 0, none⟩) 2 c)) ⟨w3.heap.size, 0, none⟩ (esV h) ∧ Cap (w4.setCell ⟨w3.heap.size, 1, none⟩ (.slice (some ⟨g, 0, none⟩) 2 c)) ⟨w3.heap.size, 1, none⟩ (.slice (some ⟨g, 0, none⟩) 2 c) := by
  obtain ⟨g, c, rfl, hc, hg, hg2, n1, n2⟩ := own_nodes hown
  obtain ⟨b0, b1, b2⟩ := bx2' hb
  have hf : w4.frozen? ⟨w3.heap.size, 1, none⟩ = false := by
    rw [hb.frozen (p := ⟨w3.heap.size, 1, none⟩) (by rw [World.size_alloc]; exact Nat.lt_succ_self _)]
    simp [go_sem]
  have hz : (w4.setCell ⟨w3.heap.size, 1, none⟩ (.slice (some ⟨g, 0, none⟩) 2 c)).heap.size = w4.heap.size := by simp [World.setCell]
  have hbq : Below w3.heap.size w3 (w4.setCell ⟨w3.heap.size, 1, none⟩ (.slice (some ⟨g, 0, none⟩) 2 c)) := ((bel_box _).trans (hb.mono (by rw [World.size_alloc]; omega))).setCell (p := ⟨w3.heap.size, 1, none⟩) (Nat.le_refl _) _
  have hne : ∀ p : Addr, p.block = g → (w4.setCell ⟨w3.heap.size, 1, none⟩ (.slice (some ⟨g, 0, none⟩) 2 c)).cell? p = w4.cell? p := fun p hp => World.cell?_setCell_other _ _ _ _ (by intro e; rw [← e] at hp; simp at hp; omega)
  refine ⟨g, c, rfl, b0, b1, hf, Lib.hid (liQ_rs hR hbq (by rw [hz]; exact hg2) hc (oneB_N _ _ _ _ n1 hne) (oneB_N _ _ _ _ n2 hne)), Lib.hid hbq, ⟨?_, by rw [hz]; exact b2⟩, ⟨World.cell?_setCell_same' _ _ _ (by rw [b1]; rfl), by rw [hz]; exact b2⟩⟩
  rw [World.cell?_setCell_other _ _ _ _ (by simp)]
  exact b0
set_option maxHeartbeats 4000000 in
set_option maxRecDepth 20000 in
theorem awake_any (w : World) (hs : Std w) : Calls Tryz.prog 21 #[] w (Bel (.bool true) w) := by
  obtain ⟨KL, KC1, KC2, KF, KP, KS1, KS2, KE⟩ := awk w hs
  obtain ⟨i0, hi, iz, is, ib⟩ := info_parts ndInfo
  clear hs
  go_enter Tryz.func21, Tryz.ntmps21
  go_wp2_with (first
    | (have tag := hR1; go_at_call 54; (with_reducible refine (KL.out _ ?_).mono ?_); (focus ((repeat (first | (with_reducible exact Below.refl _ _) | (with_reducible assumption) | (with_reducible exact bel_box _) | (with_reducible refine bel_step ?_ (by with_reducible assumption)) | (with_reducible refine Below.drew ?_) | (with_reducible refine below_drewN ?_ _) | (with_reducible refine bel_alloc ?_ _))); done)); rintro e w3 ⟨h3, rfl, hR3, hb3⟩)
    | (go_at_call 54; (with_reducible refine (KL.out _ ?_).mono ?_); (focus ((repeat (first | (with_reducible exact Below.refl _ _) | (with_reducible assumption) | (with_reducible exact bel_box _) | (with_reducible refine bel_step ?_ (by with_reducible assumption)) | (with_reducible refine Below.drew ?_) | (with_reducible refine below_drewN ?_ _) | (with_reducible refine bel_alloc ?_ _))); done)); rintro e w1 ⟨h1, rfl, hR1, hb1⟩)
    | (go_at_call 15; (with_reducible refine (KC1.out h1 _ ?_ ?_).mono ?_); (focus (exact hR1.to (bel_box _); done)); (focus ((repeat (first | (with_reducible exact Below.refl _ _) | (with_reducible assumption) | (with_reducible exact bel_box _) | (with_reducible refine bel_step ?_ (by with_reducible assumption)) | (with_reducible refine Below.drew ?_) | (with_reducible refine below_drewN ?_ _) | (with_reducible refine bel_alloc ?_ _))); done)); rintro e w2 ⟨rfl, hb2⟩)
    | (at_builtin; (refine wpList_append_grows _ rfl _ _ 34 rfl 56 i0 (.agg #[.string ⟨#[]⟩, .slice none 0 0, .slice none 0 0, .slice none 0 0, .slice none 0 0, .slice none 0 0, .slice none 0 0, .slice none 0 0]) 8 184 Tryz.underlying34 hi iz is ib rfl (by decide) (some ⟨h3 + 1 + 1 + 1 + 1 + 1 + 1 + 1 + 1, 0, none⟩) 1 1 (nCs (liN h3)) rfl (by intro e; cases e) rfl ?_ ⟨w3.heap.size + 1, 0, none⟩ 1 1 (nCs gN) rfl rfl (gN_cells2 _ _ _) (nCs_one _) (by decide) (by decide) (by decide) ?_; (focus (refine li_olds hR3 ?_; (repeat (first | (with_reducible exact Below.refl _ _) | (with_reducible assumption) | (with_reducible exact bel_box _) | (with_reducible refine bel_step ?_ (by with_reducible assumption)) | (with_reducible refine Below.drew ?_) | (with_reducible refine below_drewN ?_ _) | (with_reducible refine bel_alloc ?_ _))); done)); intro v4 w4 hown4 hgrow4; have hb4 := grown_below hgrow4; obtain ⟨g, c, rfl, q0, q1, qf, HQ, HB, Cq0, Cq1⟩ := li_after (T := 36) hR3 (by repeat (first | (with_reducible exact Below.refl _ _) | (with_reducible assumption) | (with_reducible exact bel_box _) | (with_reducible refine bel_step ?_ (by with_reducible assumption)) | (with_reducible refine Below.drew ?_) | (with_reducible refine below_drewN ?_ _) | (with_reducible refine bel_alloc ?_ _))) (by simp only [World.size_alloc]; omega) hown4; have hB5 : Below w.heap.size w (w4.setCell ⟨w3.heap.size, 1, none⟩ (.slice (some ⟨g, 0, none⟩) 2 c)) := (show Below w.heap.size w w3 from (by repeat (first | (with_reducible exact Below.refl _ _) | (with_reducible assumption) | (with_reducible exact bel_box _) | (with_reducible refine bel_step ?_ (by with_reducible assumption)) | (with_reducible refine Below.drew ?_) | (with_reducible refine below_drewN ?_ _) | (with_reducible refine bel_alloc ?_ _)))).trans (HB.out.mono (show Below w.heap.size w w3 from (by repeat (first | (with_reducible exact Below.refl _ _) | (with_reducible assumption) | (with_reducible exact bel_box _) | (with_reducible refine bel_step ?_ (by with_reducible assumption)) | (with_reducible refine Below.drew ?_) | (with_reducible refine below_drewN ?_ _) | (with_reducible refine bel_alloc ?_ _)))).size); have hB6 : Below (w1.alloc (.cells #[esV h1, nsV h1] 36)).heap.size (w1.alloc (.cells #[esV h1, nsV h1] 36)) (w4.setCell ⟨w3.heap.size, 1, none⟩ (.slice (some ⟨g, 0, none⟩) 2 c)) := (show Below (w1.alloc (.cells #[esV h1, nsV h1] 36)).heap.size (w1.alloc (.cells #[esV h1, nsV h1] 36)) w3 from (by repeat (first | (with_reducible exact Below.refl _ _) | (with_reducible assumption) | (with_reducible exact bel_box _) | (with_reducible refine bel_step ?_ (by with_reducible assumption)) | (with_reducible refine Below.drew ?_) | (with_reducible refine below_drewN ?_ _) | (with_reducible refine bel_alloc ?_ _)))).trans (HB.out.mono (show Below (w1.alloc (.cells #[esV h1, nsV h1] 36)).heap.size (w1.alloc (.cells #[esV h1, nsV h1] 36)) w3 from (by repeat (first | (with_reducible exact Below.refl _ _) | (with_reducible assumption) | (with_reducible exact bel_box _) | (with_reducible refine bel_step ?_ (by with_reducible assumption)) | (with_reducible refine Below.drew ?_) | (with_reducible refine below_drewN ?_ _) | (with_reducible refine bel_alloc ?_ _)))).size); have Cp0 : Cap (w4.setCell ⟨w3.heap.size, 1, none⟩ (.slice (some ⟨g, 0, none⟩) 2 c)) ⟨w1.heap.size, 0, none⟩ (esV h1) := ⟨(bx2' hB6).1, (bx2' hB6).2.2⟩; have Cp1 : Cap (w4.setCell ⟨w3.heap.size, 1, none⟩ (.slice (some ⟨g, 0, none⟩) 2 c)) ⟨w1.heap.size, 1, none⟩ (nsV h1) := ⟨(bx2' hB6).2.1, (bx2' hB6).2.2⟩; have HR1 := Lib.hid ((show RsP (w4.setCell ⟨w3.heap.size, 1, none⟩ (.slice (some ⟨g, 0, none⟩) 2 c)) (w4.setCell ⟨w3.heap.size, 1, none⟩ (.slice (some ⟨g, 0, none⟩) 2 c)).heap.size (liP h1) from hR1.to ((bel_box _).trans (hB6.mono (by rw [World.size_alloc]; omega))))); clear hown4 hgrow4 hR3 hb1 hb2 hb3 hb4 hB6 HB hR1))
    | (go_at_call 15; (with_reducible refine (KC2.out _ _ _ _ HQ.out ?_).mono ?_); (focus ((repeat (first | (with_reducible exact Below.refl _ _) | (with_reducible assumption) | (with_reducible exact bel_box _) | (with_reducible refine bel_step ?_ (by with_reducible assumption)) | (with_reducible refine Below.drew ?_) | (with_reducible refine below_drewN ?_ _) | (with_reducible refine bel_alloc ?_ _))); done)); rintro e w5 ⟨rfl, hb5⟩; have p0 := (Cp0.to (w := (w4.setCell ⟨w3.heap.size, 1, none⟩ (.slice (some ⟨g, 0, none⟩) 2 c))) (W := w5) (by repeat (first | (with_reducible exact Below.refl _ _) | (with_reducible assumption) | (with_reducible exact bel_box _) | (with_reducible refine bel_step ?_ (by with_reducible assumption)) | (with_reducible refine Below.drew ?_) | (with_reducible refine below_drewN ?_ _) | (with_reducible refine bel_alloc ?_ _)))).1; have p1 := (Cp1.to (w := (w4.setCell ⟨w3.heap.size, 1, none⟩ (.slice (some ⟨g, 0, none⟩) 2 c))) (W := w5) (by repeat (first | (with_reducible exact Below.refl _ _) | (with_reducible assumption) | (with_reducible exact bel_box _) | (with_reducible refine bel_step ?_ (by with_reducible assumption)) | (with_reducible refine Below.drew ?_) | (with_reducible refine below_drewN ?_ _) | (with_reducible refine bel_alloc ?_ _)))).1; have q0 := (Cq0.to (w := (w4.setCell ⟨w3.heap.size, 1, none⟩ (.slice (some ⟨g, 0, none⟩) 2 c))) (W := w5) (by repeat (first | (with_reducible exact Below.refl _ _) | (with_reducible assumption) | (with_reducible exact bel_box _) | (with_reducible refine bel_step ?_ (by with_reducible assumption)) | (with_reducible refine Below.drew ?_) | (with_reducible refine below_drewN ?_ _) | (with_reducible refine bel_alloc ?_ _)))).1; have q1 := (Cq1.to (w := (w4.setCell ⟨w3.heap.size, 1, none⟩ (.slice (some ⟨g, 0, none⟩) 2 c))) (W := w5) (by repeat (first | (with_reducible exact Below.refl _ _) | (with_reducible assumption) | (with_reducible exact bel_box _) | (with_reducible refine bel_step ?_ (by with_reducible assumption)) | (with_reducible refine Below.drew ?_) | (with_reducible refine below_drewN ?_ _) | (with_reducible refine bel_alloc ?_ _)))).1; have p0a := fun o => cell_al o p0; have p1a := fun o => cell_al o p1; have q0a := fun o => cell_al o q0; have q1a := fun o => cell_al o q1)
    | (go_at_call 19; (with_reducible refine (KF.out _ _ _ _ (HQ.out.to ?_) ?_).mono ?_); (focus ((repeat (first | (with_reducible exact Below.refl _ _) | (with_reducible assumption) | (with_reducible exact bel_box _) | (with_reducible refine bel_step ?_ (by with_reducible assumption)) | (with_reducible refine Below.drew ?_) | (with_reducible refine below_drewN ?_ _) | (with_reducible refine bel_alloc ?_ _))); done)); (focus ((repeat (first | (with_reducible exact Below.refl _ _) | (with_reducible assumption) | (with_reducible exact bel_box _) | (with_reducible refine bel_step ?_ (by with_reducible assumption)) | (with_reducible refine Below.drew ?_) | (with_reducible refine below_drewN ?_ _) | (with_reducible refine bel_alloc ?_ _))); done)); rintro e w6 ⟨rfl, hb6⟩; have p0 := (Cp0.to (w := (w4.setCell ⟨w3.heap.size, 1, none⟩ (.slice (some ⟨g, 0, none⟩) 2 c))) (W := w6) (by repeat (first | (with_reducible exact Below.refl _ _) | (with_reducible assumption) | (with_reducible exact bel_box _) | (with_reducible refine bel_step ?_ (by with_reducible assumption)) | (with_reducible refine Below.drew ?_) | (with_reducible refine below_drewN ?_ _) | (with_reducible refine bel_alloc ?_ _)))).1; have p1 := (Cp1.to (w := (w4.setCell ⟨w3.heap.size, 1, none⟩ (.slice (some ⟨g, 0, none⟩) 2 c))) (W := w6) (by repeat (first | (with_reducible exact Below.refl _ _) | (with_reducible assumption) | (with_reducible exact bel_box _) | (with_reducible refine bel_step ?_ (by with_reducible assumption)) | (with_reducible refine Below.drew ?_) | (with_reducible refine below_drewN ?_ _) | (with_reducible refine bel_alloc ?_ _)))).1; have q0 := (Cq0.to (w := (w4.setCell ⟨w3.heap.size, 1, none⟩ (.slice (some ⟨g, 0, none⟩) 2 c))) (W := w6) (by repeat (first | (with_reducible exact Below.refl _ _) | (with_reducible assumption) | (with_reducible exact bel_box _) | (with_reducible refine bel_step ?_ (by with_reducible assumption)) | (with_reducible refine Below.drew ?_) | (with_reducible refine below_drewN ?_ _) | (with_reducible refine bel_alloc ?_ _)))).1; have q1 := (Cq1.to (w := (w4.setCell ⟨w3.heap.size, 1, none⟩ (.slice (some ⟨g, 0, none⟩) 2 c))) (W := w6) (by repeat (first | (with_reducible exact Below.refl _ _) | (with_reducible assumption) | (with_reducible exact bel_box _) | (with_reducible refine bel_step ?_ (by with_reducible assumption)) | (with_reducible refine Below.drew ?_) | (with_reducible refine below_drewN ?_ _) | (with_reducible refine bel_alloc ?_ _)))).1; have p0a := fun o => cell_al o p0; have p1a := fun o => cell_al o p1; have q0a := fun o => cell_al o q0; have q1a := fun o => cell_al o q1)
    )
  have hw := bx2' (w := w5) (W := w6) hb6
  have r0 := hw.1
  have r1 := hw.2.1
  have TB : Hid (∀ W, Below (w6.alloc (.cells #[.int .i64 1, .int .i64 0, .int .i64 3, .int .i64 2, .string ⟨#[]⟩, .slice none 0 0] 24)).heap.size (w6.alloc (.cells #[.int .i64 1, .int .i64 0, .int .i64 3, .int .i64 2, .string ⟨#[]⟩, .slice none 0 0] 24)) W → (W.cell? ⟨w1.heap.size, 0, none⟩ = some (esV h1) ∧ W.cell? ⟨w1.heap.size, 1, none⟩ = some (nsV h1) ∧ W.cell? ⟨w3.heap.size, 0, none⟩ = some (esV h3) ∧ W.cell? ⟨w3.heap.size, 1, none⟩ = some (.slice (some ⟨g, 0, none⟩) 2 c) ∧ W.cell? ⟨w5.heap.size, 0, none⟩ = some (.int .i64 1) ∧ W.cell? ⟨w5.heap.size, 1, none⟩ = some (.int .i64 (-1)) ∧ W.cell? ⟨w6.heap.size, 0, none⟩ = some (.int .i64 1) ∧ W.cell? ⟨w6.heap.size, 1, none⟩ = some (.int .i64 0) ∧ W.cell? ⟨w6.heap.size, 2, none⟩ = some (.int .i64 3) ∧ W.cell? ⟨w6.heap.size, 3, none⟩ = some (.int .i64 2) ∧ W.cell? ⟨w6.heap.size, 4, none⟩ = some (.string ⟨#[]⟩) ∧ W.cell? ⟨w6.heap.size, 5, none⟩ = some (.slice none 0 0))) := Lib.hid fun W h => by
    have h6 : Below w6.heap.size w6 W := (bel_box _).trans (h.mono (by rw [World.size_alloc]; omega))
    have hc : ∀ q : Addr, q.block < w6.heap.size + 1 → W.cell? q = _ := fun q hq => h.cell (by rw [World.size_alloc]; exact hq)
    refine ⟨(h6.cell (World.block_lt_of_cell? w6 _ p0)).trans p0, (h6.cell (World.block_lt_of_cell? w6 _ p1)).trans p1, (h6.cell (World.block_lt_of_cell? w6 _ q0)).trans q0, (h6.cell (World.block_lt_of_cell? w6 _ q1)).trans q1, (h6.cell (World.block_lt_of_cell? w6 _ r0)).trans r0, (h6.cell (World.block_lt_of_cell? w6 _ r1)).trans r1, ?_, ?_, ?_, ?_, ?_, ?_⟩
    all_goals (rw [hc _ (by simp)]; simp [go_sem])
  clear hw p0a p1a q0a q1a
  go_region_held3 (fun w' => (w'.cell? ⟨w1.heap.size, 0, none⟩ = some (esV h1) ∧ w'.cell? ⟨w1.heap.size, 1, none⟩ = some (nsV h1) ∧ w'.cell? ⟨w3.heap.size, 0, none⟩ = some (esV h3) ∧ w'.cell? ⟨w3.heap.size, 1, none⟩ = some (.slice (some ⟨g, 0, none⟩) 2 c) ∧ w'.cell? ⟨w5.heap.size, 0, none⟩ = some (.int .i64 1) ∧ w'.cell? ⟨w5.heap.size, 1, none⟩ = some (.int .i64 (-1)) ∧ w'.cell? ⟨w6.heap.size, 0, none⟩ = some (.int .i64 1) ∧ w'.cell? ⟨w6.heap.size, 1, none⟩ = some (.int .i64 0) ∧ w'.cell? ⟨w6.heap.size, 2, none⟩ = some (.int .i64 3) ∧ w'.cell? ⟨w6.heap.size, 3, none⟩ = some (.int .i64 2) ∧ w'.cell? ⟨w6.heap.size, 4, none⟩ = some (.string ⟨#[]⟩) ∧ w'.cell? ⟨w6.heap.size, 5, none⟩ = some (.slice none 0 0)))
    ((refine TB.out _ ?_; (focus ((repeat (first | (with_reducible exact Below.refl _ _) | (with_reducible assumption) | (with_reducible exact bel_box _) | (with_reducible refine bel_step ?_ (by with_reducible assumption)) | (with_reducible refine Below.drew ?_) | (with_reducible refine below_drewN ?_ _) | (with_reducible refine bel_alloc ?_ _))); done))))
    (first
      | (go_at_call 54; (with_reducible refine (KL.out _ ?_).mono ?_); (focus ((repeat (first | (with_reducible exact Below.refl _ _) | (with_reducible assumption) | (with_reducible exact bel_box _) | (with_reducible refine bel_step ?_ (by with_reducible assumption)) | (with_reducible refine Below.drew ?_) | (with_reducible refine below_drewN ?_ _) | (with_reducible refine bel_alloc ?_ _))); done)); rintro e w8 ⟨h8, rfl, hR8, hb8⟩)
      | (go_at_call 17; (with_reducible refine (KP.out _ _ (HR1.out.to ?_) ?_).mono ?_); (focus ((repeat (first | (with_reducible exact Below.refl _ _) | (with_reducible assumption) | (with_reducible exact bel_box _) | (with_reducible refine bel_step ?_ (by with_reducible assumption)) | (with_reducible refine Below.drew ?_) | (with_reducible refine below_drewN ?_ _) | (with_reducible refine bel_alloc ?_ _))); done)); (focus ((repeat (first | (with_reducible exact Below.refl _ _) | (with_reducible assumption) | (with_reducible exact bel_box _) | (with_reducible refine bel_step ?_ (by with_reducible assumption)) | (with_reducible refine Below.drew ?_) | (with_reducible refine below_drewN ?_ _) | (with_reducible refine bel_alloc ?_ _))); done)); rintro e w7 ⟨rfl, hb7⟩)
      | (go_at_call 24; (with_reducible refine (KS1.out _ _ _ (HR1.out.to ?_) (hR8.to ?_) ?_).mono ?_); (focus ((repeat (first | (with_reducible exact Below.refl _ _) | (with_reducible assumption) | (with_reducible exact bel_box _) | (with_reducible refine bel_step ?_ (by with_reducible assumption)) | (with_reducible refine Below.drew ?_) | (with_reducible refine below_drewN ?_ _) | (with_reducible refine bel_alloc ?_ _))); done)); (focus ((repeat (first | (with_reducible exact Below.refl _ _) | (with_reducible assumption) | (with_reducible exact bel_box _) | (with_reducible refine bel_step ?_ (by with_reducible assumption)) | (with_reducible refine Below.drew ?_) | (with_reducible refine below_drewN ?_ _) | (with_reducible refine bel_alloc ?_ _))); done)); (focus ((repeat (first | (with_reducible exact Below.refl _ _) | (with_reducible assumption) | (with_reducible exact bel_box _) | (with_reducible refine bel_step ?_ (by with_reducible assumption)) | (with_reducible refine Below.drew ?_) | (with_reducible refine below_drewN ?_ _) | (with_reducible refine bel_alloc ?_ _))); done)); rintro e w9 ⟨rfl, hb9⟩)
      | (go_at_call 24; (with_reducible refine (KS2.out _ _ _ _ _ (HR1.out.to ?_) (HQ.out.to ?_) ?_).mono ?_); (focus ((repeat (first | (with_reducible exact Below.refl _ _) | (with_reducible assumption) | (with_reducible exact bel_box _) | (with_reducible refine bel_step ?_ (by with_reducible assumption)) | (with_reducible refine Below.drew ?_) | (with_reducible refine below_drewN ?_ _) | (with_reducible refine bel_alloc ?_ _))); done)); (focus ((repeat (first | (with_reducible exact Below.refl _ _) | (with_reducible assumption) | (with_reducible exact bel_box _) | (with_reducible refine bel_step ?_ (by with_reducible assumption)) | (with_reducible refine Below.drew ?_) | (with_reducible refine below_drewN ?_ _) | (with_reducible refine bel_alloc ?_ _))); done)); (focus ((repeat (first | (with_reducible exact Below.refl _ _) | (with_reducible assumption) | (with_reducible exact bel_box _) | (with_reducible refine bel_step ?_ (by with_reducible assumption)) | (with_reducible refine Below.drew ?_) | (with_reducible refine below_drewN ?_ _) | (with_reducible refine bel_alloc ?_ _))); done)); rintro e w10 ⟨rfl, hb10⟩)
      | (go_at_call 22; (with_reducible refine (KE.out _ _ (HR1.out.to ?_) ?_).mono ?_); (focus ((repeat (first | (with_reducible exact Below.refl _ _) | (with_reducible assumption) | (with_reducible exact bel_box _) | (with_reducible refine bel_step ?_ (by with_reducible assumption)) | (with_reducible refine Below.drew ?_) | (with_reducible refine below_drewN ?_ _) | (with_reducible refine bel_alloc ?_ _))); done)); (focus ((repeat (first | (with_reducible exact Below.refl _ _) | (with_reducible assumption) | (with_reducible exact bel_box _) | (with_reducible refine bel_step ?_ (by with_reducible assumption)) | (with_reducible refine Below.drew ?_) | (with_reducible refine below_drewN ?_ _) | (with_reducible refine bel_alloc ?_ _))); done)); rintro e w11 ⟨rfl, hb11⟩)
    )
  all_goals
    go_wp2
    go_ret
    exact ⟨rfl, (by repeat (first | (with_reducible exact Below.refl _ _) | (with_reducible assumption) | (with_reducible exact bel_box _) | (with_reducible refine bel_step ?_ (by with_reducible assumption)) | (with_reducible refine Below.drew ?_) | (with_reducible refine below_drewN ?_ _) | (with_reducible refine bel_alloc ?_ _)))⟩
end Go.Proofs.YthlapepjebidgaaGreatDoor
/- The frame of the rows of layer 6: what the listed variables give; an argument that is an expression. -/
namespace Go.Proofs.YthlapepjebidgaaGreatDoor
set_option linter.unusedVariables false
set_option linter.unusedSimpArgs false
open Go.ChangeShapes Go.WideShapes Go.ChangeAt Go.RowKit Go.Deep Go.WideElems
def laidL : List (String × DataW Unit) := [("math/bits.deBruijn32tab", Rows.laid_math_bits_deBruijn32tab), ("math/bits.deBruijn64tab", Rows.laid_math_bits_deBruijn64tab), ("internal/strconv.uint64pow10", Rows.laid_internal_strconv_uint64pow10), ("unicode/utf8.acceptRanges", Rows.laid_unicode_utf8_acceptRanges), ("strconv.ErrRange", Rows.laid_strconv_ErrRange), ("strconv.ErrSyntax", Rows.laid_strconv_ErrSyntax), ("unicode/utf8.first", Rows.laid_unicode_utf8_first)]
theorem tyTab : (Tryz.prog.globals[5]?).map (·.type) = some 236 := by kernel_rfl
theorem tySyn : (Tryz.prog.globals[1]?).map (·.type) = some 178 := by kernel_rfl
theorem tyRng : (Tryz.prog.globals[2]?).map (·.type) = some 178 := by kernel_rfl
theorem star : "*" ++ "errors.errorString" = "*errors.errorString" := by decide
theorem rowES (u : TypeId) (h : Tryz.prog.typeName? 3 u = some "*errors.errorString") : u = 221 :=
  typeName_ptr_named (nm := "errors.errorString") (by rw [star]; kernel_rfl) (by kernel_rfl) (by decide) u (by rw [star]; exact h)
theorem std_of_laid {W : World} (h : laidMetH Tryz.prog laidL W) : Std W := by
  rw [MakeChecks.laidMetH_plain _ _ _ (by kernel_rfl)] at h
  have h3 : laidMet Tryz.prog (("internal/strconv.uint64pow10", Lib.tabData .u64 Lib.pow10Tab) :: [("unicode/utf8.acceptRanges", Rows.laid_unicode_utf8_acceptRanges), ("strconv.ErrRange", Rows.laid_strconv_ErrRange), ("strconv.ErrSyntax", Rows.laid_strconv_ErrSyntax), ("unicode/utf8.first", Rows.laid_unicode_utf8_first)]) W := h.tail.tail
  have h4 := h3.tail.tail
  have h5 := h4.tail
  refine ⟨Lib.tabIs_of_head gTab tyTab Tryz.underlying236 Tryz.underlying207 (by kernel_rfl) (by kernel_rfl) h3, ?_, ?_⟩
  · obtain ⟨a, s, hv, _⟩ := laid_sentinel h5 gSyn tySyn Tryz.underlying178 rowES Tryz.underlying221 Tryz.underlying223 rfl rfl Tryz.underlying9 (by kernel_rfl) (by kernel_rfl)
    exact ⟨_, _, hv⟩
  · obtain ⟨a, s, hv, _⟩ := laid_sentinel h4 gRng tyRng Tryz.underlying178 rowES Tryz.underlying221 Tryz.underlying223 rfl rfl Tryz.underlying9 (by kernel_rfl) (by kernel_rfl)
    exact ⟨_, _, hv⟩
theorem int_le {n : Int} (h : (Lit.int .i64 n).wf = true) : n ≤ 9223372036854775807 := by
  have h2 : n ≤ IntKind.i64.max := by simp only [Lit.wf, Bool.and_eq_true, decide_eq_true_eq] at h; exact h.2
  exact h2
section
variable {H : Type} {enc : TypeId × Value → H} {w : World} {held : Bool}
end
end Go.Proofs.YthlapepjebidgaaGreatDoor
/- An expression and enumerations that come in, opened, with what the bound on their bulk gives. -/
namespace Go.Proofs.YthlapepjebidgaaGreatDoor
set_option linter.unusedVariables false
set_option linter.unusedSimpArgs false
open Go.ChangeShapes Go.WideShapes Go.ChangeAt Go.RowKit Go.Deep Go.WideElems
/-- names no longer than what a machine holds; types that are numbers of Go's -/
def NmT (x : Xt) : Prop := ∀ y ∈ x.list, y.nm.size ≤ 140737488351232 ∧ y.t ≤ 9223372036854775807
theorem sum_bulk {α H : Type} {l : List α} {f : α → Nat} {es : List (DataW H)} (hl : l.length = es.length) (h : ∀ (i : Nat) (y : α) (z : DataW H), l[i]? = some y → es[i]? = some z → f y ≤ Rows.uptoBulk z) : (l.map f).sum ≤ Rows.uptoBulkAll es := by
  induction l generalizing es with
  | nil => cases es with
    | nil => simp [Rows.uptoBulkAll]
    | cons e es => simp at hl
  | cons a l ih => cases es with
    | nil => simp at hl
    | cons e es =>
      have h1 := h 0 a e rfl rfl
      have h2 := ih (es := es) (by simpa using hl) fun i y z hy hz => h (i + 1) y z (by simpa using hy) (by simpa using hz)
      simp only [List.map_cons, List.sum_cons, Rows.uptoBulkAll]
      omega
section
variable {H : Type} {enc : TypeId × Value → H} {P : Program} {w : World} {held : Bool}
theorem rd_exprU {T : TypeId} {f0 f1 f2 f3 f4 f5 : Field} (hT : P.underlying T = some (.struct #[f0, f1, f2, f3, f4, f5])) (ce : P.cellsOf T = 6)
    (o0 : f0.offset = 0) (o1 : f1.offset = 1) (o2 : f2.offset = 2) (o3 : f3.offset = 3) (o4 : f4.offset = 4) (o5 : f5.offset = 5)
    (c0 : P.cellsOf f0.type = 1) (c1 : P.cellsOf f1.type = 1) (c2 : P.cellsOf f2.type = 1) (c3 : P.cellsOf f3.type = 1) (c4 : P.cellsOf f4.type = 1) (c5 : P.cellsOf f5.type = 1)
    (i0 : P.underlying f0.type = some (.int .i64)) (i1 : P.underlying f1.type = some (.int .i64)) (i2 : P.underlying f2.type = some (.int .i64)) (i3 : P.underlying f3.type = some (.int .i64)) (i4 : P.underlying f4.type = some .string) (i5 : P.underlying f5.type = some (.slice T)) :
    ∀ (fuel : Nat) (cs : List Value) (x : DataW H × List MemPlace), DataW.trod enc P w 0 (fun _ => true) held fuel T cs = some x → (∀ n ∈ x.1.weights P T, n ≤ reachBytes) →
      ∃ e : Xt, cs = [.int .i64 e.k, .int .i64 e.op, .int .i64 e.t, .int .i64 e.v, .string e.nm, .slice e.A e.ar.length e.c] ∧ RdX w w.heap.size e ∧ NmT e ∧ e.size ≤ Rows.uptoBulk x.1 := by
  intro fuel
  induction fuel using Nat.strongRecOn with
  | ind fuel ih =>
    intro cs x h hw
    obtain ⟨xs, k, hk, hxy, hlen, hxl, hf⟩ := DataW.trod_struct hT h
    rw [ce] at hlen
    match xs, hxl, cs, hlen with
    | [y0, y1, y2, y3, y4, y5], _, [v0, v1, v2, v3, v4, v5], _ =>
      have g0 := hf 0 f0 rfl
      have g1 := hf 1 f1 rfl
      have g2 := hf 2 f2 rfl
      have g3 := hf 3 f3 rfl
      have g4 := hf 4 f4 rfl
      have g5 := hf 5 f5 rfl
      simp [o0, o1, o2, o3, o4, o5, c0, c1, c2, c3, c4, c5] at g0 g1 g2 g3 g4 g5
      obtain ⟨n0, z0, _⟩ := DataW.trod_int i0 g0
      obtain ⟨n1, z1, _⟩ := DataW.trod_int i1 g1
      obtain ⟨n2, z2, _, wf2⟩ := DataW.trod_int i2 g2
      have hn2 : n2 ≤ 9223372036854775807 := int_le wf2
      obtain ⟨n3, z3, _⟩ := DataW.trod_int i3 g3
      obtain ⟨s, z4, zy4, hs⟩ := DataW.trod_string i4 g4
      simp only [List.cons.injEq, and_true] at z0 z1 z2 z3 z4
      subst z0; subst z1; subst z2; subst z3; subst z4
      subst hxy
      have hwe : DataW.weights P T (.agg [y0.1, y1.1, y2.1, y3.1, y4.1, y5.1]) = y0.1.weights P f0.type ++ (y1.1.weights P f1.type ++ (y2.1.weights P f2.type ++ (y3.1.weights P f3.type ++ (y4.1.weights P f4.type ++ (y5.1.weights P f5.type ++ []))))) := by
        simp [DataW.weights, DataW.weightsEach, hT]
      have hw4 : ∀ n ∈ y4.1.weights P f4.type, n ≤ reachBytes := fun n hn => hw n (by simp only [List.map_cons, List.map_nil]; rw [hwe]; simp [hn])
      have hw5 : ∀ n ∈ y5.1.weights P f5.type, n ≤ reachBytes := fun n hn => hw n (by simp only [List.map_cons, List.map_nil]; rw [hwe]; simp [hn])
      have hs2 : s.size ≤ 140737488351232 := by
        have := hw4 s.data.toList.length (by rw [zy4]; simp [DataW.weights])
        rw [Array.length_toList] at this
        exact this
      rcases DataW.trod_slice i5 g5 with ⟨hv, _⟩ | ⟨a, len, cap, elems, rest, n, hkn, hv, hx0, _, hl, hm, hel, hx, _, _⟩
      · simp only [List.cons.injEq, and_true] at hv
        subst hv
        refine ⟨.mk n0 n1 n2 n3 s none 0 [], rfl, .mk _ (fun h => absurd rfl h) (fun ad i y h => by cases h) (fun y h => by cases h) ⟨⟨by simp [Xt.ar], hs⟩, Nat.le_refl _⟩, fun y hy => ?_, ?_⟩
        · rw [Xt.list_eq] at hy
          obtain rfl := List.mem_singleton.1 (show y ∈ [Xt.mk n0 n1 n2 n3 s none 0 []] from hy)
          exact ⟨hs2, hn2⟩
        · rw [Xt.size_eq]
          simp only [List.map_cons, List.map_nil, Rows.uptoBulk, Rows.uptoBulkAll]
          show 1 + 0 ≤ _
          omega
      · simp only [List.cons.injEq, and_true] at hv
        subst hv
        have key : ∀ i, i < len → ∃ e : Xt, XC w (a.add (i * 6)) e ∧ RdX w w.heap.size e ∧ NmT e ∧ ∀ z, (elems.map (·.1))[i]? = some z → e.size ≤ Rows.uptoBulk z := by
          intro i hi
          have h1 := hx i hi
          rw [ce, List.getElem?_eq_getElem (by omega)] at h1
          obtain ⟨cs', h2, h3⟩ := Option.bind_eq_some_iff.1 h1
          obtain ⟨_, hlen', hcell⟩ := World.cells?_some h2
          obtain ⟨e, he, hR, hN, hSz⟩ := ih n (by omega) cs' _ h3 fun m hm => hw5 m (by
            rw [hx0]
            simp only [DataW.weights, i5, List.mem_cons, List.mem_append]
            exact .inr (.inl (mem_wAll (List.mem_map_of_mem (List.getElem_mem (by omega))) m hm)))
          subst he
          refine ⟨e, ⟨?_, ?_, ?_, ?_, ?_, ?_⟩, hR, hN, fun z hz => ?_⟩
          · have := hcell 0 (by decide); rw [add_add] at this; simpa using this
          · have := hcell 1 (by decide); generalize a.add (i * 6) = b at this ⊢; simpa [Addr.add] using this
          · have := hcell 2 (by decide); generalize a.add (i * 6) = b at this ⊢; simpa [Addr.add] using this
          · have := hcell 3 (by decide); generalize a.add (i * 6) = b at this ⊢; simpa [Addr.add] using this
          · have := hcell 4 (by decide); generalize a.add (i * 6) = b at this ⊢; simpa [Addr.add] using this
          · have := hcell 5 (by decide); generalize a.add (i * 6) = b at this ⊢; simpa [Addr.add] using this
          · rw [List.getElem?_map, List.getElem?_eq_getElem (by omega)] at hz
            obtain rfl := Option.some.inj hz
            exact hSz
        obtain ⟨l, hll, hp⟩ := choose_list len key
        refine ⟨.mk n0 n1 n2 n3 s (some a) cap l, by rw [show (Xt.mk n0 n1 n2 n3 s (some a) cap l).ar.length = len from hll]; rfl, .mk _ (fun hne => ⟨a, rfl, ?_⟩) (fun ad i y hA hy => ?_) (fun y hy => ?_) ⟨⟨?_, hs⟩, ?_⟩, fun y hy => ?_, ?_⟩
        · have hne2 : l ≠ [] := hne
          have h0 : 0 < l.length := List.length_pos_iff.2 hne2
          have := World.block_lt_of_cell? w _ (hp 0 _ (List.getElem?_eq_getElem h0)).1.1
          rwa [add_block] at this
        · obtain rfl : a = ad := Option.some.inj hA
          exact (hp i y hy).1
        · obtain ⟨j, hj⟩ := List.getElem?_of_mem (show y ∈ l from hy)
          exact (hp j y hj).2.1
        · show l.length ≤ maxLen
          omega
        · show l.length ≤ cap
          omega
        · rw [Xt.list_eq] at hy
          rcases List.mem_cons.1 hy with rfl | hy
          · exact ⟨hs2, hn2⟩
          · obtain ⟨q, hq, hyq⟩ := List.mem_flatten.1 hy
            obtain ⟨z, hz, rfl⟩ := List.mem_map.1 hq
            obtain ⟨j, hj⟩ := List.getElem?_of_mem (show z ∈ l from hz)
            exact (hp j z hj).2.2.1 y hyq
        · rw [Xt.size_eq]
          have hb5 : (l.map Xt.size).sum ≤ Rows.uptoBulkAll (elems.map (·.1)) := sum_bulk (by rw [List.length_map, hll, hel]) fun i y z hy hz => (hp i y hy).2.2.2 z hz
          have hb6 : Rows.uptoBulkAll (elems.map (·.1)) ≤ Rows.uptoBulk y5.1 := by
            rw [hx0]
            simp only [Rows.uptoBulk]
            omega
          simp only [List.map_cons, List.map_nil, Rows.uptoBulk, Rows.uptoBulkAll]
          show 1 + (l.map Xt.size).sum ≤ _
          omega
end
end Go.Proofs.YthlapepjebidgaaGreatDoor
/- Rows that come in, opened; enumerations. -/
namespace Go.Proofs.YthlapepjebidgaaGreatDoor
set_option linter.unusedVariables false
set_option linter.unusedSimpArgs false
open Go.ChangeShapes Go.WideShapes Go.ChangeAt Go.RowKit Go.Deep Go.WideElems
section
variable {H : Type} {enc : TypeId × Value → H} {P : Program} {w : World} {held : Bool}
/-- a row, its elements opened by elem -/
theorem rd_rowU {α : Type} {T e : TypeId} {sz : Nat} {C : World → Addr → α → Prop} {R : α → Prop} {bk : α → Nat} (ht : P.underlying T = some (.slice e)) (ce : P.cellsOf e = sz) (hbl : ∀ a y, C w a y → a.block < w.heap.size)
    (fuel : Nat) (cs : List Value) (x : DataW H × List MemPlace) (h : DataW.trod enc P w 0 (fun _ => true) held fuel T cs = some x) (hw : ∀ n ∈ x.1.weights P T, n ≤ reachBytes)
    (elem : ∀ (n : Nat) (cs' : List Value) (x' : DataW H × List MemPlace), n < fuel → DataW.trod enc P w 0 (fun _ => true) held n e cs' = some x' → (∀ m ∈ x'.1.weights P e, m ≤ reachBytes) →
      ∃ y : α, (∀ a : Addr, (∀ j u, cs'[j]? = some u → w.cell? (a.add j) = some u) → C w a y) ∧ R y ∧ bk y ≤ Rows.uptoBulk x'.1) :
    ∃ r : Rw α, cs = [.slice r.A r.l.length r.c] ∧ RdR w w.heap.size sz C r ∧ (∀ y ∈ r.l, R y) ∧ (r.l.map bk).sum ≤ Rows.uptoBulk x.1 := by
  rcases DataW.trod_slice ht h with ⟨hv, hx⟩ | ⟨a, len, cap, elems, rest, n, hkn, hv, hx0, _, hl, hm, hel, hx, _, _⟩
  · exact ⟨⟨none, 0, []⟩, hv, RdR.nil _ _ _ _ _, (fun y h => by cases h), by simp⟩
  · have key : ∀ i, i < len → ∃ y : α, C w (a.add (i * sz)) y ∧ R y ∧ ∀ z, (elems.map (·.1))[i]? = some z → bk y ≤ Rows.uptoBulk z := by
      intro i hi
      have h1 := hx i hi
      rw [ce, List.getElem?_eq_getElem (by omega)] at h1
      obtain ⟨cs', h2, h3⟩ := Option.bind_eq_some_iff.1 h1
      obtain ⟨_, hlen', hcell⟩ := World.cells?_some h2
      obtain ⟨y, hC, hR, hB⟩ := elem n cs' _ (by omega) h3 fun m hm => hw m (by
        rw [hx0]
        simp only [DataW.weights, ht, List.mem_cons, List.mem_append]
        exact .inr (.inl (mem_wAll (List.mem_map_of_mem (List.getElem_mem (by omega))) m hm)))
      refine ⟨y, hC _ fun j u hu => ?_, hR, fun z hz => ?_⟩
      · have hj := (List.getElem?_eq_some_iff.1 hu).1
        rw [hcell j (by omega)]
        exact hu
      · rw [List.getElem?_map, List.getElem?_eq_getElem (by omega)] at hz
        obtain rfl := Option.some.inj hz
        exact hB
    obtain ⟨l, hll, hp⟩ := choose_list len key
    refine ⟨⟨some a, cap, l⟩, by rw [hll]; exact hv, ⟨fun hne => ⟨a, rfl, ?_⟩, fun ad i y hA hy => ?_, by simp only; omega, by simp only; omega⟩, fun y hy => ?_, ?_⟩
    · have h0 : 0 < l.length := List.length_pos_iff.2 hne
      have := hbl _ _ (hp 0 _ (List.getElem?_eq_getElem h0)).1
      rwa [add_block] at this
    · obtain rfl : a = ad := Option.some.inj hA
      exact (hp i y hy).1
    · obtain ⟨j, hj⟩ := List.getElem?_of_mem hy
      exact (hp j y hj).2.1
    · have hb : (l.map bk).sum ≤ Rows.uptoBulkAll (elems.map (·.1)) := sum_bulk (by rw [List.length_map, hll, hel]) fun i y z hy hz => (hp i y hy).2.2 z hz
      rw [hx0]
      simp only [Rows.uptoBulk]
      omega
theorem rd_strU {t : TypeId} (ht : P.underlying t = some .string) {fuel : Nat} {cs : List Value} {x : DataW H × List MemPlace} (h : DataW.trod enc P w 0 (fun _ => true) held fuel t cs = some x) (hw : ∀ n ∈ x.1.weights P t, n ≤ reachBytes) :
    ∃ s : ByteArray, cs = [.string s] ∧ s.size ≤ 140737488351232 := by
  obtain ⟨s, hc, hx, _⟩ := DataW.trod_string ht h
  refine ⟨s, hc, ?_⟩
  have := hw s.data.toList.length (by rw [hx]; simp [DataW.weights])
  rw [Array.length_toList] at this
  exact this
/-- a row of texts -/
theorem rd_textsU {T e : TypeId} (ht : P.underlying T = some (.slice e)) (he : P.underlying e = some .string) (ce : P.cellsOf e = 1) (fuel : Nat) (cs : List Value) (x : DataW H × List MemPlace)
    (h : DataW.trod enc P w 0 (fun _ => true) held fuel T cs = some x) (hw : ∀ n ∈ x.1.weights P T, n ≤ reachBytes) :
    ∃ r : Rw ByteArray, cs = [.slice r.A r.l.length r.c] ∧ RsB w w.heap.size r := by
  obtain ⟨r, h1, h2, h3, _⟩ := rd_rowU (C := BC) (R := fun b => b.size ≤ 140737488351232) (bk := fun _ => 0) ht ce (fun a y hy => World.block_lt_of_cell? w _ hy) fuel cs x h hw fun n cs' x' _ h' hw' => by
    obtain ⟨s, hc, hs⟩ := rd_strU he h' hw'
    refine ⟨s, fun a ha => ?_, hs, Nat.zero_le _⟩
    have := ha 0 (.string s) (by rw [hc]; rfl)
    rwa [add_zero'] at this
  exact ⟨r, h1, h2, h3⟩
theorem rd_of_rdr {B : Nat} {r : Rw ByteArray} (h : RdR w B 1 BC r) : Rd w B r.A (va.ss r.l) := by
  intro hn
  obtain ⟨ad, hA, hb⟩ := h.1 (by intro e; rw [e] at hn; exact hn rfl)
  refine ⟨ad, hA, hb, fun j u hu => ?_⟩
  rw [va.ss, List.getElem?_map] at hu
  obtain ⟨b, hb2, rfl⟩ := Option.map_eq_some_iff.1 hu
  have := h.2.1 ad j b hA hb2
  unfold BC at this
  rwa [Nat.mul_one] at this
/-- an enumeration's cells -/
def EC (w : World) (a : Addr) (e : va.En) : Prop := w.cell? a = some (.string e.name) ∧ w.cell? ⟨a.block, a.off + 1, none⟩ = some (.slice e.A e.tags.length e.c)
/-- enumerations -/
theorem rd_enumsU {T e tt : TypeId} {f0 f1 : Field} (ht : P.underlying T = some (.slice e)) (he : P.underlying e = some (.struct #[f0, f1])) (ce : P.cellsOf e = 2) (o0 : f0.offset = 0) (o1 : f1.offset = 1) (c0 : P.cellsOf f0.type = 1) (c1 : P.cellsOf f1.type = 1)
    (i0 : P.underlying f0.type = some .string) (i1 : P.underlying f1.type = some (.slice tt)) (it : P.underlying tt = some .string) (ct : P.cellsOf tt = 1) (fuel : Nat) (cs : List Value) (x : DataW H × List MemPlace)
    (h : DataW.trod enc P w 0 (fun _ => true) held fuel T cs = some x) (hw : ∀ n ∈ x.1.weights P T, n ≤ reachBytes) :
    ∃ r : Rw va.En, cs = [.slice r.A r.l.length r.c] ∧ RsE w w.heap.size r := by
  obtain ⟨r, h1, h2, h3, _⟩ := rd_rowU (C := EC) (R := fun y : va.En => (Rd w w.heap.size y.A (va.ss y.tags)) ∧ y.name.size ≤ 140737488351232 ∧ (y.tags.length ≤ maxLen ∧ y.tags.length ≤ y.c) ∧ ∀ b ∈ y.tags, b.size ≤ 140737488351232) (bk := fun _ => 0) ht ce (fun a y hy => World.block_lt_of_cell? w _ hy.1) fuel cs x h hw fun n cs' x' _ h' hw' => by
    obtain ⟨xs, k, hk, hxy, hlen, hxl, hf⟩ := DataW.trod_struct he h'
    rw [ce] at hlen
    match xs, hxl, cs', hlen with
    | [y0, y1], _, [v0, v1], _ =>
      have g0 := hf 0 f0 rfl
      have g1 := hf 1 f1 rfl
      simp [o0, o1, c0, c1] at g0 g1
      subst hxy
      have hwe : DataW.weights P e (.agg [y0.1, y1.1]) = y0.1.weights P f0.type ++ (y1.1.weights P f1.type ++ []) := by
        simp [DataW.weights, DataW.weightsEach, he]
      obtain ⟨s, z0, hs⟩ := rd_strU i0 g0 fun n hn => hw' n (by simp only [List.map_cons, List.map_nil]; rw [hwe]; simp [hn])
      obtain ⟨t, z1, hR, hB⟩ := rd_textsU i1 it ct _ _ _ g1 fun n hn => hw' n (by simp only [List.map_cons, List.map_nil]; rw [hwe]; simp [hn])
      simp only [List.cons.injEq, and_true] at z0 z1
      subst z0
      subst z1
      refine ⟨⟨s, t.A, t.c, t.l⟩, fun a ha => ⟨?_, ?_⟩, ⟨rd_of_rdr hR, hs, ⟨hR.2.2.1, hR.2.2.2⟩, hB⟩, Nat.zero_le _⟩
      · have := ha 0 _ rfl
        rwa [add_zero'] at this
      · have := ha 1 _ rfl
        simpa [Addr.add] using this
  refine ⟨r, h1, ⟨⟨fun hn => ?_, fun i e he => (h3 e (List.mem_of_getElem? he)).1⟩, ⟨h2.2.2.1, h2.2.2.2⟩, fun e he => (h3 e he).2⟩⟩
  obtain ⟨ad, hA, hb⟩ := h2.1 hn
  refine ⟨ad, hA, hb, fun i e he => ?_⟩
  have := h2.2.1 ad i e hA he
  exact ⟨this.1, by rw [va.add_fld]; exact this.2⟩
end
section
variable {H : Type} {enc : TypeId × Value → H} {w : World} {held : Bool}
end
end Go.Proofs.YthlapepjebidgaaGreatDoor
/- A program that comes in, opened, with what the bound on its bulk gives. -/
namespace Go.Proofs.YthlapepjebidgaaGreatDoor
set_option linter.unusedVariables false
set_option linter.unusedSimpArgs false
open Go.ChangeShapes Go.WideShapes Go.ChangeAt Go.RowKit Go.Deep Go.WideElems
theorem mem_bulk {H : Type} {es : List (DataW H)} {z : DataW H} (h : z ∈ es) : Rows.uptoBulk z ≤ Rows.uptoBulkAll es := by
  induction es with
  | nil => cases h
  | cons a l ih =>
    simp only [Rows.uptoBulkAll]
    rcases List.mem_cons.1 h with rfl | h
    · omega
    · have := ih h
      omega
/-- whatever comes in at type T is the cells L of a y with R, R speaking of its bulk -/
def Opn {H : Type} (enc : TypeId × Value → H) (P : Program) (w : World) (held : Bool) {α : Type} (N : Nat) (T : TypeId) (L : α → List Value) (R : Nat → α → Prop) : Prop :=
  ∀ fuel, fuel < N → ∀ (cs : List Value) (x : DataW H × List MemPlace), DataW.trod enc P w 0 (fun _ => true) held fuel T cs = some x → (∀ n ∈ x.1.weights P T, n ≤ reachBytes) → ∃ y : α, cs = L y ∧ R (Rows.uptoBulk x.1) y
def Mono {α : Type} (R : Nat → α → Prop) : Prop := ∀ a b y, a ≤ b → R a y → R b y
abbrev rowL {α : Type} (r : Rw α) : List Value := [.slice r.A r.l.length r.c]
section
variable {H : Type} {enc : TypeId × Value → H} {P : Program} {w : World} {held : Bool}
theorem Opn.mono {α : Type} {N M : Nat} {T : TypeId} {L : α → List Value} {R : Nat → α → Prop} (h : Opn enc P w held N T L R) (hM : M ≤ N) : Opn enc P w held M T L R := fun fuel hf => h fuel (by omega)
theorem Opn.imp {α : Type} {N : Nat} {T : TypeId} {L : α → List Value} {R S : Nat → α → Prop} (h : Opn enc P w held N T L R) (hM : ∀ b y, R b y → S b y) : Opn enc P w held N T L S := fun fuel hf cs x h1 h2 => by
  obtain ⟨y, hy, hr⟩ := h fuel hf cs x h1 h2
  exact ⟨y, hy, hM _ _ hr⟩
theorem opn_str {N : Nat} {t : TypeId} (ht : P.underlying t = some .string) : Opn enc P w held N t (fun s : ByteArray => [.string s]) (fun _ s => s.size ≤ 140737488351232) := fun _ _ _ _ h hw => rd_strU ht h hw
theorem opn_int {N : Nat} {t : TypeId} (ht : P.underlying t = some (.int .i64)) : Opn enc P w held N t (fun n : Int => [.int .i64 n]) (fun _ n => n ≤ 9223372036854775807) := fun _ _ _ _ h _ => by
  obtain ⟨n, z, _, wf⟩ := DataW.trod_int ht h
  exact ⟨n, z, int_le wf⟩
theorem opn_bool {N : Nat} {t : TypeId} (ht : P.underlying t = some .bool) : Opn enc P w held N t (fun b : Bool => [.bool b]) (fun _ _ => True) := fun _ _ _ _ h _ => by
  obtain ⟨n, z, _⟩ := DataW.trod_bool ht h
  exact ⟨n, z, trivial⟩
/-- a row -/
theorem opn_row {α : Type} {N : Nat} {T e : TypeId} {sz : Nat} {C : World → Addr → α → Prop} {L : α → List Value} {R : Nat → α → Prop} (ht : P.underlying T = some (.slice e)) (ce : P.cellsOf e = sz) (hbl : ∀ a y, C w a y → a.block < w.heap.size)
    (hC : ∀ (a : Addr) y, (∀ j u, (L y)[j]? = some u → w.cell? (a.add j) = some u) → C w a y) (hm : Mono R) (he : Opn enc P w held N e L R) :
    Opn enc P w held (N + 1) T rowL (fun b (r : Rw α) => RdR w w.heap.size sz C r ∧ ∀ y ∈ r.l, R b y) := by
  intro fuel hN cs x h hw
  rcases DataW.trod_slice ht h with ⟨hv, hx⟩ | ⟨a, len, cap, elems, rest, n, hkn, hv, hx0, _, hl, hm2, hel, hx, _, _⟩
  · exact ⟨⟨none, 0, []⟩, hv, RdR.nil _ _ _ _ _, (fun y h => by cases h)⟩
  · have key : ∀ i, i < len → ∃ y : α, C w (a.add (i * sz)) y ∧ R (Rows.uptoBulk x.1) y := by
      intro i hi
      have h1 := hx i hi
      rw [ce, List.getElem?_eq_getElem (by omega)] at h1
      obtain ⟨cs', h2, h3⟩ := Option.bind_eq_some_iff.1 h1
      obtain ⟨_, hlen', hcell⟩ := World.cells?_some h2
      obtain ⟨y, hL, hR⟩ := he n (by omega) cs' _ h3 fun m hm => hw m (by
        rw [hx0]
        simp only [DataW.weights, ht, List.mem_cons, List.mem_append]
        exact .inr (.inl (mem_wAll (List.mem_map_of_mem (List.getElem_mem (by omega))) m hm)))
      refine ⟨y, hC _ _ fun j u hu => ?_, hm _ _ _ ?_ hR⟩
      · rw [← hL] at hu
        have hj := (List.getElem?_eq_some_iff.1 hu).1
        rw [hcell j (by omega)]
        exact hu
      · have hb : Rows.uptoBulk elems[i].1 ≤ Rows.uptoBulkAll (elems.map (·.1)) := mem_bulk (List.mem_map_of_mem (List.getElem_mem (by omega)))
        rw [hx0]
        simp only [Rows.uptoBulk]
        omega
    obtain ⟨l, hll, hp⟩ := choose_list len key
    refine ⟨⟨some a, cap, l⟩, by rw [rowL, hll]; exact hv, ⟨fun hne => ⟨a, rfl, ?_⟩, fun ad i y hA hy => ?_, by simp only; omega, by simp only; omega⟩, fun y hy => ?_⟩
    · have h0 : 0 < l.length := List.length_pos_iff.2 hne
      have := hbl _ _ (hp 0 _ (List.getElem?_eq_getElem h0)).1
      rwa [add_block] at this
    · obtain rfl : a = ad := Option.some.inj hA
      exact (hp i y hy).1
    · obtain ⟨j, hj⟩ := List.getElem?_of_mem hy
      exact (hp j y hj).2
theorem opn_two {α0 α1 : Type} {N : Nat} {T : TypeId} {f0 f1 : Field} {L0 : α0 → List Value} {R0 : Nat → α0 → Prop} {L1 : α1 → List Value} {R1 : Nat → α1 → Prop} (hT : P.underlying T = some (.struct #[f0, f1])) (ce : P.cellsOf T = 7) (o0 : f0.offset = 0) (c0 : P.cellsOf f0.type = 1) (o1 : f1.offset = 1) (c1 : P.cellsOf f1.type = 6) (m0 : Mono R0) (p0 : Opn enc P w held N f0.type L0 R0) (m1 : Mono R1) (p1 : Opn enc P w held N f1.type L1 R1) :
    Opn enc P w held (N + 1) T (fun y : α0 × α1 => L0 y.1 ++ L1 y.2) (fun b y => R0 b y.1 ∧ R1 b y.2) := by
  intro fuel hN cs x h hw
  obtain ⟨xs, k, hk, hxy, hlen, hxl, hf⟩ := DataW.trod_struct hT h
  rw [ce] at hlen
  match xs, hxl, cs, hlen with
  | [y0, y1], _, [v0, v1, v2, v3, v4, v5, v6], _ =>
    have g0 := hf 0 f0 rfl
    have g1 := hf 1 f1 rfl
    simp [o0, o1, c0, c1] at g0 g1
    have hwe : DataW.weights P T (.agg [y0.1, y1.1]) = y0.1.weights P f0.type ++ (y1.1.weights P f1.type ++ []) := by simp [DataW.weights, DataW.weightsEach, hT]
    obtain ⟨a0, z0, r0⟩ := p0 k (by omega) _ _ g0 fun n hn => hw n (by subst hxy; simp only [List.map_cons, List.map_nil]; rw [hwe]; simp [hn])
    obtain ⟨a1, z1, r1⟩ := p1 k (by omega) _ _ g1 fun n hn => hw n (by subst hxy; simp only [List.map_cons, List.map_nil]; rw [hwe]; simp [hn])
    refine ⟨⟨a0, a1⟩, ?_, ⟨m0 _ _ _ ?_ r0, m1 _ _ _ ?_ r1⟩⟩
    · show [v0, v1, v2, v3, v4, v5, v6] = L0 a0 ++ L1 a1
      rw [← z0, ← z1]
      rfl
    all_goals
      subst hxy
      simp only [List.map_cons, List.map_nil, Rows.uptoBulk, Rows.uptoBulkAll]
      omega
theorem opn_three {α0 α1 α2 : Type} {N : Nat} {T : TypeId} {f0 f1 f2 : Field} {L0 : α0 → List Value} {R0 : Nat → α0 → Prop} {L1 : α1 → List Value} {R1 : Nat → α1 → Prop} {L2 : α2 → List Value} {R2 : Nat → α2 → Prop} (hT : P.underlying T = some (.struct #[f0, f1, f2])) (ce : P.cellsOf T = 3) (o0 : f0.offset = 0) (c0 : P.cellsOf f0.type = 1) (o1 : f1.offset = 1) (c1 : P.cellsOf f1.type = 1) (o2 : f2.offset = 2) (c2 : P.cellsOf f2.type = 1) (m0 : Mono R0) (p0 : Opn enc P w held N f0.type L0 R0) (m1 : Mono R1) (p1 : Opn enc P w held N f1.type L1 R1) (m2 : Mono R2) (p2 : Opn enc P w held N f2.type L2 R2) :
    Opn enc P w held (N + 1) T (fun y : α0 × α1 × α2 => L0 y.1 ++ L1 y.2.1 ++ L2 y.2.2) (fun b y => R0 b y.1 ∧ R1 b y.2.1 ∧ R2 b y.2.2) := by
  intro fuel hN cs x h hw
  obtain ⟨xs, k, hk, hxy, hlen, hxl, hf⟩ := DataW.trod_struct hT h
  rw [ce] at hlen
  match xs, hxl, cs, hlen with
  | [y0, y1, y2], _, [v0, v1, v2], _ =>
    have g0 := hf 0 f0 rfl
    have g1 := hf 1 f1 rfl
    have g2 := hf 2 f2 rfl
    simp [o0, o1, o2, c0, c1, c2] at g0 g1 g2
    have hwe : DataW.weights P T (.agg [y0.1, y1.1, y2.1]) = y0.1.weights P f0.type ++ (y1.1.weights P f1.type ++ (y2.1.weights P f2.type ++ [])) := by simp [DataW.weights, DataW.weightsEach, hT]
    obtain ⟨a0, z0, r0⟩ := p0 k (by omega) _ _ g0 fun n hn => hw n (by subst hxy; simp only [List.map_cons, List.map_nil]; rw [hwe]; simp [hn])
    obtain ⟨a1, z1, r1⟩ := p1 k (by omega) _ _ g1 fun n hn => hw n (by subst hxy; simp only [List.map_cons, List.map_nil]; rw [hwe]; simp [hn])
    obtain ⟨a2, z2, r2⟩ := p2 k (by omega) _ _ g2 fun n hn => hw n (by subst hxy; simp only [List.map_cons, List.map_nil]; rw [hwe]; simp [hn])
    refine ⟨⟨a0, a1, a2⟩, ?_, ⟨m0 _ _ _ ?_ r0, m1 _ _ _ ?_ r1, m2 _ _ _ ?_ r2⟩⟩
    · show [v0, v1, v2] = L0 a0 ++ L1 a1 ++ L2 a2
      rw [← z0, ← z1, ← z2]
      rfl
    all_goals
      subst hxy
      simp only [List.map_cons, List.map_nil, Rows.uptoBulk, Rows.uptoBulkAll]
      omega
theorem opn_trans {α0 α1 α2 : Type} {N : Nat} {T : TypeId} {f0 f1 f2 : Field} {L0 : α0 → List Value} {R0 : Nat → α0 → Prop} {L1 : α1 → List Value} {R1 : Nat → α1 → Prop} {L2 : α2 → List Value} {R2 : Nat → α2 → Prop} (hT : P.underlying T = some (.struct #[f0, f1, f2])) (ce : P.cellsOf T = 8) (o0 : f0.offset = 0) (c0 : P.cellsOf f0.type = 6) (o1 : f1.offset = 6) (c1 : P.cellsOf f1.type = 1) (o2 : f2.offset = 7) (c2 : P.cellsOf f2.type = 1) (m0 : Mono R0) (p0 : Opn enc P w held N f0.type L0 R0) (m1 : Mono R1) (p1 : Opn enc P w held N f1.type L1 R1) (m2 : Mono R2) (p2 : Opn enc P w held N f2.type L2 R2) :
    Opn enc P w held (N + 1) T (fun y : α0 × α1 × α2 => L0 y.1 ++ L1 y.2.1 ++ L2 y.2.2) (fun b y => R0 b y.1 ∧ R1 b y.2.1 ∧ R2 b y.2.2) := by
  intro fuel hN cs x h hw
  obtain ⟨xs, k, hk, hxy, hlen, hxl, hf⟩ := DataW.trod_struct hT h
  rw [ce] at hlen
  match xs, hxl, cs, hlen with
  | [y0, y1, y2], _, [v0, v1, v2, v3, v4, v5, v6, v7], _ =>
    have g0 := hf 0 f0 rfl
    have g1 := hf 1 f1 rfl
    have g2 := hf 2 f2 rfl
    simp [o0, o1, o2, c0, c1, c2] at g0 g1 g2
    have hwe : DataW.weights P T (.agg [y0.1, y1.1, y2.1]) = y0.1.weights P f0.type ++ (y1.1.weights P f1.type ++ (y2.1.weights P f2.type ++ [])) := by simp [DataW.weights, DataW.weightsEach, hT]
    obtain ⟨a0, z0, r0⟩ := p0 k (by omega) _ _ g0 fun n hn => hw n (by subst hxy; simp only [List.map_cons, List.map_nil]; rw [hwe]; simp [hn])
    obtain ⟨a1, z1, r1⟩ := p1 k (by omega) _ _ g1 fun n hn => hw n (by subst hxy; simp only [List.map_cons, List.map_nil]; rw [hwe]; simp [hn])
    obtain ⟨a2, z2, r2⟩ := p2 k (by omega) _ _ g2 fun n hn => hw n (by subst hxy; simp only [List.map_cons, List.map_nil]; rw [hwe]; simp [hn])
    refine ⟨⟨a0, a1, a2⟩, ?_, ⟨m0 _ _ _ ?_ r0, m1 _ _ _ ?_ r1, m2 _ _ _ ?_ r2⟩⟩
    · show [v0, v1, v2, v3, v4, v5, v6, v7] = L0 a0 ++ L1 a1 ++ L2 a2
      rw [← z0, ← z1, ← z2]
      rfl
    all_goals
      subst hxy
      simp only [List.map_cons, List.map_nil, Rows.uptoBulk, Rows.uptoBulkAll]
      omega
theorem opn_six {α0 α1 α2 α3 α4 α5 : Type} {N : Nat} {T : TypeId} {f0 f1 f2 f3 f4 f5 : Field} {L0 : α0 → List Value} {R0 : Nat → α0 → Prop} {L1 : α1 → List Value} {R1 : Nat → α1 → Prop} {L2 : α2 → List Value} {R2 : Nat → α2 → Prop} {L3 : α3 → List Value} {R3 : Nat → α3 → Prop} {L4 : α4 → List Value} {R4 : Nat → α4 → Prop} {L5 : α5 → List Value} {R5 : Nat → α5 → Prop} (hT : P.underlying T = some (.struct #[f0, f1, f2, f3, f4, f5])) (ce : P.cellsOf T = 6) (o0 : f0.offset = 0) (c0 : P.cellsOf f0.type = 1) (o1 : f1.offset = 1) (c1 : P.cellsOf f1.type = 1) (o2 : f2.offset = 2) (c2 : P.cellsOf f2.type = 1) (o3 : f3.offset = 3) (c3 : P.cellsOf f3.type = 1) (o4 : f4.offset = 4) (c4 : P.cellsOf f4.type = 1) (o5 : f5.offset = 5) (c5 : P.cellsOf f5.type = 1) (m0 : Mono R0) (p0 : Opn enc P w held N f0.type L0 R0) (m1 : Mono R1) (p1 : Opn enc P w held N f1.type L1 R1) (m2 : Mono R2) (p2 : Opn enc P w held N f2.type L2 R2) (m3 : Mono R3) (p3 : Opn enc P w held N f3.type L3 R3) (m4 : Mono R4) (p4 : Opn enc P w held N f4.type L4 R4) (m5 : Mono R5) (p5 : Opn enc P w held N f5.type L5 R5) :
    Opn enc P w held (N + 1) T (fun y : α0 × α1 × α2 × α3 × α4 × α5 => L0 y.1 ++ L1 y.2.1 ++ L2 y.2.2.1 ++ L3 y.2.2.2.1 ++ L4 y.2.2.2.2.1 ++ L5 y.2.2.2.2.2) (fun b y => R0 b y.1 ∧ R1 b y.2.1 ∧ R2 b y.2.2.1 ∧ R3 b y.2.2.2.1 ∧ R4 b y.2.2.2.2.1 ∧ R5 b y.2.2.2.2.2) := by
  intro fuel hN cs x h hw
  obtain ⟨xs, k, hk, hxy, hlen, hxl, hf⟩ := DataW.trod_struct hT h
  rw [ce] at hlen
  match xs, hxl, cs, hlen with
  | [y0, y1, y2, y3, y4, y5], _, [v0, v1, v2, v3, v4, v5], _ =>
    have g0 := hf 0 f0 rfl
    have g1 := hf 1 f1 rfl
    have g2 := hf 2 f2 rfl
    have g3 := hf 3 f3 rfl
    have g4 := hf 4 f4 rfl
    have g5 := hf 5 f5 rfl
    simp [o0, o1, o2, o3, o4, o5, c0, c1, c2, c3, c4, c5] at g0 g1 g2 g3 g4 g5
    have hwe : DataW.weights P T (.agg [y0.1, y1.1, y2.1, y3.1, y4.1, y5.1]) = y0.1.weights P f0.type ++ (y1.1.weights P f1.type ++ (y2.1.weights P f2.type ++ (y3.1.weights P f3.type ++ (y4.1.weights P f4.type ++ (y5.1.weights P f5.type ++ []))))) := by simp [DataW.weights, DataW.weightsEach, hT]
    obtain ⟨a0, z0, r0⟩ := p0 k (by omega) _ _ g0 fun n hn => hw n (by subst hxy; simp only [List.map_cons, List.map_nil]; rw [hwe]; simp [hn])
    obtain ⟨a1, z1, r1⟩ := p1 k (by omega) _ _ g1 fun n hn => hw n (by subst hxy; simp only [List.map_cons, List.map_nil]; rw [hwe]; simp [hn])
    obtain ⟨a2, z2, r2⟩ := p2 k (by omega) _ _ g2 fun n hn => hw n (by subst hxy; simp only [List.map_cons, List.map_nil]; rw [hwe]; simp [hn])
    obtain ⟨a3, z3, r3⟩ := p3 k (by omega) _ _ g3 fun n hn => hw n (by subst hxy; simp only [List.map_cons, List.map_nil]; rw [hwe]; simp [hn])
    obtain ⟨a4, z4, r4⟩ := p4 k (by omega) _ _ g4 fun n hn => hw n (by subst hxy; simp only [List.map_cons, List.map_nil]; rw [hwe]; simp [hn])
    obtain ⟨a5, z5, r5⟩ := p5 k (by omega) _ _ g5 fun n hn => hw n (by subst hxy; simp only [List.map_cons, List.map_nil]; rw [hwe]; simp [hn])
    refine ⟨⟨a0, a1, a2, a3, a4, a5⟩, ?_, ⟨m0 _ _ _ ?_ r0, m1 _ _ _ ?_ r1, m2 _ _ _ ?_ r2, m3 _ _ _ ?_ r3, m4 _ _ _ ?_ r4, m5 _ _ _ ?_ r5⟩⟩
    · show [v0, v1, v2, v3, v4, v5] = L0 a0 ++ L1 a1 ++ L2 a2 ++ L3 a3 ++ L4 a4 ++ L5 a5
      rw [← z0, ← z1, ← z2, ← z3, ← z4, ← z5]
      rfl
    all_goals
      subst hxy
      simp only [List.map_cons, List.map_nil, Rows.uptoBulk, Rows.uptoBulkAll]
      omega
theorem opn_one {α0 : Type} {N : Nat} {T : TypeId} {f0 : Field} {L0 : α0 → List Value} {R0 : Nat → α0 → Prop} (hT : P.underlying T = some (.struct #[f0])) (ce : P.cellsOf T = 1) (o0 : f0.offset = 0) (c0 : P.cellsOf f0.type = 1) (m0 : Mono R0) (p0 : Opn enc P w held N f0.type L0 R0) :
    Opn enc P w held (N + 1) T (fun y : α0 => L0 y) (fun b y => R0 b y) := by
  intro fuel hN cs x h hw
  obtain ⟨xs, k, hk, hxy, hlen, hxl, hf⟩ := DataW.trod_struct hT h
  rw [ce] at hlen
  match xs, hxl, cs, hlen with
  | [y0], _, [v0], _ =>
    have g0 := hf 0 f0 rfl
    simp [o0, c0] at g0
    have hwe : DataW.weights P T (.agg [y0.1]) = y0.1.weights P f0.type ++ [] := by simp [DataW.weights, DataW.weightsEach, hT]
    obtain ⟨a0, z0, r0⟩ := p0 k (by omega) _ _ g0 fun n hn => hw n (by subst hxy; simp only [List.map_cons, List.map_nil]; rw [hwe]; simp [hn])
    refine ⟨a0, ?_, m0 _ _ _ ?_ r0⟩
    · show [v0] = L0 a0
      rw [← z0]
    all_goals
      subst hxy
      simp only [List.map_cons, List.map_nil, Rows.uptoBulk, Rows.uptoBulkAll]
      omega
theorem opn_eight {α0 α1 α2 α3 α4 α5 α6 α7 : Type} {N : Nat} {T : TypeId} {f0 f1 f2 f3 f4 f5 f6 f7 : Field} {L0 : α0 → List Value} {R0 : Nat → α0 → Prop} {L1 : α1 → List Value} {R1 : Nat → α1 → Prop} {L2 : α2 → List Value} {R2 : Nat → α2 → Prop} {L3 : α3 → List Value} {R3 : Nat → α3 → Prop} {L4 : α4 → List Value} {R4 : Nat → α4 → Prop} {L5 : α5 → List Value} {R5 : Nat → α5 → Prop} {L6 : α6 → List Value} {R6 : Nat → α6 → Prop} {L7 : α7 → List Value} {R7 : Nat → α7 → Prop} (hT : P.underlying T = some (.struct #[f0, f1, f2, f3, f4, f5, f6, f7])) (ce : P.cellsOf T = 8) (o0 : f0.offset = 0) (c0 : P.cellsOf f0.type = 1) (o1 : f1.offset = 1) (c1 : P.cellsOf f1.type = 1) (o2 : f2.offset = 2) (c2 : P.cellsOf f2.type = 1) (o3 : f3.offset = 3) (c3 : P.cellsOf f3.type = 1) (o4 : f4.offset = 4) (c4 : P.cellsOf f4.type = 1) (o5 : f5.offset = 5) (c5 : P.cellsOf f5.type = 1) (o6 : f6.offset = 6) (c6 : P.cellsOf f6.type = 1) (o7 : f7.offset = 7) (c7 : P.cellsOf f7.type = 1) (m0 : Mono R0) (p0 : Opn enc P w held N f0.type L0 R0) (m1 : Mono R1) (p1 : Opn enc P w held N f1.type L1 R1) (m2 : Mono R2) (p2 : Opn enc P w held N f2.type L2 R2) (m3 : Mono R3) (p3 : Opn enc P w held N f3.type L3 R3) (m4 : Mono R4) (p4 : Opn enc P w held N f4.type L4 R4) (m5 : Mono R5) (p5 : Opn enc P w held N f5.type L5 R5) (m6 : Mono R6) (p6 : Opn enc P w held N f6.type L6 R6) (m7 : Mono R7) (p7 : Opn enc P w held N f7.type L7 R7) :
    Opn enc P w held (N + 1) T (fun y : α0 × α1 × α2 × α3 × α4 × α5 × α6 × α7 => L0 y.1 ++ L1 y.2.1 ++ L2 y.2.2.1 ++ L3 y.2.2.2.1 ++ L4 y.2.2.2.2.1 ++ L5 y.2.2.2.2.2.1 ++ L6 y.2.2.2.2.2.2.1 ++ L7 y.2.2.2.2.2.2.2) (fun b y => R0 b y.1 ∧ R1 b y.2.1 ∧ R2 b y.2.2.1 ∧ R3 b y.2.2.2.1 ∧ R4 b y.2.2.2.2.1 ∧ R5 b y.2.2.2.2.2.1 ∧ R6 b y.2.2.2.2.2.2.1 ∧ R7 b y.2.2.2.2.2.2.2) := by
  intro fuel hN cs x h hw
  obtain ⟨xs, k, hk, hxy, hlen, hxl, hf⟩ := DataW.trod_struct hT h
  rw [ce] at hlen
  match xs, hxl, cs, hlen with
  | [y0, y1, y2, y3, y4, y5, y6, y7], _, [v0, v1, v2, v3, v4, v5, v6, v7], _ =>
    have g0 := hf 0 f0 rfl
    have g1 := hf 1 f1 rfl
    have g2 := hf 2 f2 rfl
    have g3 := hf 3 f3 rfl
    have g4 := hf 4 f4 rfl
    have g5 := hf 5 f5 rfl
    have g6 := hf 6 f6 rfl
    have g7 := hf 7 f7 rfl
    simp [o0, o1, o2, o3, o4, o5, o6, o7, c0, c1, c2, c3, c4, c5, c6, c7] at g0 g1 g2 g3 g4 g5 g6 g7
    have hwe : DataW.weights P T (.agg [y0.1, y1.1, y2.1, y3.1, y4.1, y5.1, y6.1, y7.1]) = y0.1.weights P f0.type ++ (y1.1.weights P f1.type ++ (y2.1.weights P f2.type ++ (y3.1.weights P f3.type ++ (y4.1.weights P f4.type ++ (y5.1.weights P f5.type ++ (y6.1.weights P f6.type ++ (y7.1.weights P f7.type ++ []))))))) := by simp [DataW.weights, DataW.weightsEach, hT]
    obtain ⟨a0, z0, r0⟩ := p0 k (by omega) _ _ g0 fun n hn => hw n (by subst hxy; simp only [List.map_cons, List.map_nil]; rw [hwe]; simp [hn])
    obtain ⟨a1, z1, r1⟩ := p1 k (by omega) _ _ g1 fun n hn => hw n (by subst hxy; simp only [List.map_cons, List.map_nil]; rw [hwe]; simp [hn])
    obtain ⟨a2, z2, r2⟩ := p2 k (by omega) _ _ g2 fun n hn => hw n (by subst hxy; simp only [List.map_cons, List.map_nil]; rw [hwe]; simp [hn])
    obtain ⟨a3, z3, r3⟩ := p3 k (by omega) _ _ g3 fun n hn => hw n (by subst hxy; simp only [List.map_cons, List.map_nil]; rw [hwe]; simp [hn])
    obtain ⟨a4, z4, r4⟩ := p4 k (by omega) _ _ g4 fun n hn => hw n (by subst hxy; simp only [List.map_cons, List.map_nil]; rw [hwe]; simp [hn])
    obtain ⟨a5, z5, r5⟩ := p5 k (by omega) _ _ g5 fun n hn => hw n (by subst hxy; simp only [List.map_cons, List.map_nil]; rw [hwe]; simp [hn])
    obtain ⟨a6, z6, r6⟩ := p6 k (by omega) _ _ g6 fun n hn => hw n (by subst hxy; simp only [List.map_cons, List.map_nil]; rw [hwe]; simp [hn])
    obtain ⟨a7, z7, r7⟩ := p7 k (by omega) _ _ g7 fun n hn => hw n (by subst hxy; simp only [List.map_cons, List.map_nil]; rw [hwe]; simp [hn])
    refine ⟨⟨a0, a1, a2, a3, a4, a5, a6, a7⟩, ?_, ⟨m0 _ _ _ ?_ r0, m1 _ _ _ ?_ r1, m2 _ _ _ ?_ r2, m3 _ _ _ ?_ r3, m4 _ _ _ ?_ r4, m5 _ _ _ ?_ r5, m6 _ _ _ ?_ r6, m7 _ _ _ ?_ r7⟩⟩
    · show [v0, v1, v2, v3, v4, v5, v6, v7] = L0 a0 ++ L1 a1 ++ L2 a2 ++ L3 a3 ++ L4 a4 ++ L5 a5 ++ L6 a6 ++ L7 a7
      rw [← z0, ← z1, ← z2, ← z3, ← z4, ← z5, ← z6, ← z7]
      rfl
    all_goals
      subst hxy
      simp only [List.map_cons, List.map_nil, Rows.uptoBulk, Rows.uptoBulkAll]
      omega
theorem opn_pair {α0 α1 : Type} {N : Nat} {T : TypeId} {f0 f1 : Field} {L0 : α0 → List Value} {R0 : Nat → α0 → Prop} {L1 : α1 → List Value} {R1 : Nat → α1 → Prop} (hT : P.underlying T = some (.struct #[f0, f1])) (ce : P.cellsOf T = 2) (o0 : f0.offset = 0) (c0 : P.cellsOf f0.type = 1) (o1 : f1.offset = 1) (c1 : P.cellsOf f1.type = 1) (m0 : Mono R0) (p0 : Opn enc P w held N f0.type L0 R0) (m1 : Mono R1) (p1 : Opn enc P w held N f1.type L1 R1) :
    Opn enc P w held (N + 1) T (fun y : α0 × α1 => L0 y.1 ++ L1 y.2) (fun b y => R0 b y.1 ∧ R1 b y.2) := by
  intro fuel hN cs x h hw
  obtain ⟨xs, k, hk, hxy, hlen, hxl, hf⟩ := DataW.trod_struct hT h
  rw [ce] at hlen
  match xs, hxl, cs, hlen with
  | [y0, y1], _, [v0, v1], _ =>
    have g0 := hf 0 f0 rfl
    have g1 := hf 1 f1 rfl
    simp [o0, o1, c0, c1] at g0 g1
    have hwe : DataW.weights P T (.agg [y0.1, y1.1]) = y0.1.weights P f0.type ++ (y1.1.weights P f1.type ++ []) := by simp [DataW.weights, DataW.weightsEach, hT]
    obtain ⟨a0, z0, r0⟩ := p0 k (by omega) _ _ g0 fun n hn => hw n (by subst hxy; simp only [List.map_cons, List.map_nil]; rw [hwe]; simp [hn])
    obtain ⟨a1, z1, r1⟩ := p1 k (by omega) _ _ g1 fun n hn => hw n (by subst hxy; simp only [List.map_cons, List.map_nil]; rw [hwe]; simp [hn])
    refine ⟨⟨a0, a1⟩, ?_, ⟨m0 _ _ _ ?_ r0, m1 _ _ _ ?_ r1⟩⟩
    · show [v0, v1] = L0 a0 ++ L1 a1
      rw [← z0, ← z1]
      rfl
    all_goals
      subst hxy
      simp only [List.map_cons, List.map_nil, Rows.uptoBulk, Rows.uptoBulkAll]
      omega
theorem Opn.map {α β : Type} {N : Nat} {T : TypeId} {L : α → List Value} {R : Nat → α → Prop} {L' : β → List Value} {R' : Nat → β → Prop} (h : Opn enc P w held N T L R) (g : α → β) (hL : ∀ y, L' (g y) = L y) (hR : ∀ b y, R b y → R' b (g y)) : Opn enc P w held N T L' R' := fun fuel hf cs x h1 h2 => by
  obtain ⟨y, hy, hr⟩ := h fuel hf cs x h1 h2
  exact ⟨g y, hy.trans (hL y).symm, hR _ _ hr⟩
end
theorem mono_k {α : Type} (p : α → Prop) : Mono (fun _ => p) := fun _ _ _ _ h => h
section
variable {H : Type} {enc : TypeId × Value → H} {w : World} {held : Bool}
abbrev xL (e : Xt) : List Value := [.int .i64 e.k, .int .i64 e.op, .int .i64 e.t, .int .i64 e.v, .string e.nm, .slice e.A e.ar.length e.c]
def ROx (w : World) (b : Nat) (e : Xt) : Prop := RsX w w.heap.size e ∧ e.size ≤ b
theorem mono_X : Mono (ROx w) := fun _ _ _ h k => ⟨k.1, Nat.le_trans k.2 h⟩
set_option maxRecDepth 100000 in
theorem opn_expr (N : Nat) : Opn enc Tryz.prog w held N 24 xL (ROx w) := fun fuel _ cs x h hw => by
  obtain ⟨e, he, hR, hN, hZ⟩ := rd_exprU Tryz.underlying24 (by kernel_rfl) rfl rfl rfl rfl rfl rfl (by kernel_rfl) (by kernel_rfl) (by kernel_rfl) (by kernel_rfl) (by kernel_rfl) (by kernel_rfl) Tryz.underlying3 Tryz.underlying3 Tryz.underlying3 Tryz.underlying3 Tryz.underlying9 Tryz.underlying22 fuel _ _ h hw
  exact ⟨e, he, ⟨hR, hN⟩, hZ⟩
theorem ofcX (a : Addr) (y : Xt) (h : ∀ j u, (xL y)[j]? = some u → w.cell? (a.add j) = some u) : XC w a y :=
  ⟨by have := h 0 _ rfl; rwa [add_zero'] at this, by have := h 1 _ rfl; simpa [Addr.add] using this, by have := h 2 _ rfl; simpa [Addr.add] using this, by have := h 3 _ rfl; simpa [Addr.add] using this, by have := h 4 _ rfl; simpa [Addr.add] using this, by have := h 5 _ rfl; simpa [Addr.add] using this⟩
set_option maxRecDepth 100000 in
theorem opn_exprs (N : Nat) : Opn enc Tryz.prog w held N 22 rowL (fun b r => RsXs w w.heap.size r ∧ ∀ x ∈ r.l, x.size ≤ b) :=
  ((opn_row (C := XC) Tryz.underlying22 (by kernel_rfl) (fun _ _ h => World.block_lt_of_cell? w _ h.1) ofcX mono_X (opn_expr N)).mono (Nat.le_succ _)).imp fun b r h => ⟨⟨h.1, fun x hx => (h.2 x hx).1⟩, fun x hx => (h.2 x hx).2⟩
abbrev oL (o : Ot) : List Value := [.string o.nm, .int .i64 o.t, .int .i64 o.tag]
set_option maxRecDepth 100000 in
theorem opn_on (N : Nat) : Opn enc Tryz.prog w held N 153 oL (fun _ o => o.nm.size ≤ 140737488351232 ∧ o.t ≤ 9223372036854775807) :=
  ((opn_three Tryz.underlying153 (by kernel_rfl) rfl (by kernel_rfl) rfl (by kernel_rfl) rfl (by kernel_rfl) (mono_k _) (opn_str (N := N) Tryz.underlying9) (mono_k _) (opn_int Tryz.underlying3) (mono_k _) (opn_int Tryz.underlying3)).mono (Nat.le_succ _)).map (fun y => ⟨y.1, y.2.1, y.2.2⟩) (fun _ => rfl) fun b y h => ⟨h.1, h.2.1⟩
theorem ofcO (a : Addr) (y : Ot) (h : ∀ j u, (oL y)[j]? = some u → w.cell? (a.add j) = some u) : OC w a y :=
  ⟨by have := h 0 _ rfl; rwa [add_zero'] at this, by have := h 1 _ rfl; simpa [Addr.add] using this, by have := h 2 _ rfl; simpa [Addr.add] using this⟩
set_option maxRecDepth 100000 in
theorem opn_ons (N : Nat) : Opn enc Tryz.prog w held N 96 rowL (fun _ r => RsO w w.heap.size r) :=
  ((opn_row (C := OC) Tryz.underlying96 (by kernel_rfl) (fun _ _ h => World.block_lt_of_cell? w _ h.1) ofcO (mono_k _) (opn_on N)).mono (Nat.le_succ _)).imp fun b r h => ⟨h.1, h.2⟩
abbrev dL (o : Dt) : List Value := [.string o.nm, .int .i64 o.ty, .slice o.ck.A o.ck.l.length o.ck.c]
set_option maxRecDepth 100000 in
theorem opn_decl (N : Nat) : Opn enc Tryz.prog w held N 98 dL (fun _ o => RsD w w.heap.size o) :=
  ((opn_three Tryz.underlying98 (by kernel_rfl) rfl (by kernel_rfl) rfl (by kernel_rfl) rfl (by kernel_rfl) (mono_k _) (opn_str (N := N) Tryz.underlying9) (mono_k _) (opn_int Tryz.underlying3) (mono_k _) (opn_ons N)).mono (Nat.le_succ _)).map (fun y => ⟨y.1, y.2.1, y.2.2⟩) (fun _ => rfl) fun b y h => ⟨⟨h.1, h.2.1⟩, h.2.2⟩
theorem ofcD (a : Addr) (y : Dt) (h : ∀ j u, (dL y)[j]? = some u → w.cell? (a.add j) = some u) : DC w a y :=
  ⟨by have := h 0 _ rfl; rwa [add_zero'] at this, by have := h 1 _ rfl; simpa [Addr.add] using this, by have := h 2 _ rfl; simpa [Addr.add] using this⟩
set_option maxRecDepth 100000 in
theorem opn_decls (N : Nat) : Opn enc Tryz.prog w held N 52 rowL (fun _ r => RsDs w w.heap.size r) :=
  ((opn_row (C := DC) Tryz.underlying52 (by kernel_rfl) (fun _ _ h => World.block_lt_of_cell? w _ h.1) ofcD (mono_k _) (opn_decl N)).mono (Nat.le_succ _)).imp fun b r h => ⟨h.1, h.2⟩
theorem ofcB (a : Addr) (y : ByteArray) (h : ∀ j u, [Value.string y][j]? = some u → w.cell? (a.add j) = some u) : BC w a y := by have := h 0 _ rfl; rwa [add_zero'] at this
set_option maxRecDepth 100000 in
theorem opn_texts (N : Nat) : Opn enc Tryz.prog w held N 57 rowL (fun _ r => RsB w w.heap.size r) :=
  ((opn_row (C := BC) Tryz.underlying57 (by kernel_rfl) (fun _ _ h => World.block_lt_of_cell? w _ h) ofcB (mono_k _) (opn_str (N := N) Tryz.underlying9)).mono (Nat.le_succ _)).imp fun b r h => ⟨h.1, h.2⟩
abbrev qL (q : Qt) : List Value := [.slice q.lf.A q.lf.l.length q.lf.c, .int .i64 q.r.k, .int .i64 q.r.op, .int .i64 q.r.t, .int .i64 q.r.v, .string q.r.nm, .slice q.r.A q.r.ar.length q.r.c]
def ROq (w : World) (b : Nat) (q : Qt) : Prop := RsQ w w.heap.size q ∧ q.r.size ≤ b
theorem mono_Q : Mono (ROq w) := fun _ _ _ h k => ⟨k.1, Nat.le_trans k.2 h⟩
set_option maxRecDepth 100000 in
theorem opn_eq (N : Nat) : Opn enc Tryz.prog w held N 59 qL (ROq w) :=
  ((opn_two Tryz.underlying59 (by kernel_rfl) rfl (by kernel_rfl) rfl (by kernel_rfl) (mono_k _) (opn_texts N) mono_X (opn_expr N)).mono (Nat.le_succ _)).map (fun y => ⟨y.1, y.2⟩) (fun _ => rfl) fun b y h => ⟨⟨h.1, h.2.1⟩, h.2.2⟩
theorem ofcQ (a : Addr) (y : Qt) (h : ∀ j u, (qL y)[j]? = some u → w.cell? (a.add j) = some u) : QC w a y :=
  ⟨by have := h 0 _ rfl; rwa [add_zero'] at this, by have := h 1 _ rfl; simpa [Addr.add] using this, by have := h 2 _ rfl; simpa [Addr.add] using this, by have := h 3 _ rfl; simpa [Addr.add] using this, by have := h 4 _ rfl; simpa [Addr.add] using this, by have := h 5 _ rfl; simpa [Addr.add] using this, by have := h 6 _ rfl; simpa [Addr.add] using this⟩
set_option maxRecDepth 100000 in
theorem opn_eqs (N : Nat) : Opn enc Tryz.prog w held N 53 rowL (fun b r => RsQs w w.heap.size r ∧ ∀ q ∈ r.l, q.r.size ≤ b) :=
  ((opn_row (C := QC) Tryz.underlying53 (by kernel_rfl) (fun _ _ h => World.block_lt_of_cell? w _ h.1) ofcQ mono_Q (opn_eq N)).mono (Nat.le_succ _)).imp fun b r h => ⟨⟨h.1, fun x hx => (h.2 x hx).1⟩, fun x hx => (h.2 x hx).2⟩
abbrev tL (t : Tt) : List Value := [.int .i64 t.cd.k, .int .i64 t.cd.op, .int .i64 t.cd.t, .int .i64 t.cd.v, .string t.cd.nm, .slice t.cd.A t.cd.ar.length t.cd.c, .int .i64 t.to, .bool t.re]
def ROt (w : World) (b : Nat) (t : Tt) : Prop := RsX w w.heap.size t.cd ∧ t.cd.size ≤ b
theorem mono_T : Mono (ROt w) := fun _ _ _ h k => ⟨k.1, Nat.le_trans k.2 h⟩
set_option maxRecDepth 100000 in
theorem opn_tr (N : Nat) : Opn enc Tryz.prog w held N 103 tL (ROt w) :=
  ((opn_trans Tryz.underlying103 (by kernel_rfl) rfl (by kernel_rfl) rfl (by kernel_rfl) rfl (by kernel_rfl) mono_X (opn_expr N) (mono_k _) (opn_int Tryz.underlying3) (mono_k _) (opn_bool Tryz.underlying4)).mono (Nat.le_succ _)).map (fun y => ⟨y.1, y.2.1, y.2.2⟩) (fun _ => rfl) fun b y h => h.1
theorem ofcT (a : Addr) (y : Tt) (h : ∀ j u, (tL y)[j]? = some u → w.cell? (a.add j) = some u) : TC w a y :=
  ⟨⟨by have := h 0 _ rfl; rwa [add_zero'] at this, by have := h 1 _ rfl; simpa [Addr.add] using this, by have := h 2 _ rfl; simpa [Addr.add] using this, by have := h 3 _ rfl; simpa [Addr.add] using this, by have := h 4 _ rfl; simpa [Addr.add] using this, by have := h 5 _ rfl; simpa [Addr.add] using this⟩, by have := h 6 _ rfl; simpa [Addr.add] using this, by have := h 7 _ rfl; simpa [Addr.add] using this⟩
set_option maxRecDepth 100000 in
theorem opn_trs (N : Nat) : Opn enc Tryz.prog w held N 93 rowL (fun b r => RsTs w w.heap.size r ∧ ∀ t ∈ r.l, t.cd.size ≤ b) :=
  ((opn_row (C := TC) Tryz.underlying93 (by kernel_rfl) (fun _ _ h => World.block_lt_of_cell? w _ h.1.1) ofcT mono_T (opn_tr N)).mono (Nat.le_succ _)).imp fun b r h => ⟨⟨h.1, fun x hx => (h.2 x hx).1⟩, fun x hx => (h.2 x hx).2⟩
abbrev sL (s : St) : List Value := [.string s.nm, .slice s.lc.A s.lc.l.length s.lc.c, .slice s.qs.A s.qs.l.length s.qs.c, .slice s.au.A s.au.l.length s.au.c, .slice s.un.A s.un.l.length s.un.c, .slice s.ut.A s.ut.l.length s.ut.c]
def ROs (w : World) (b : Nat) (s : St) : Prop := RsS w w.heap.size s ∧ SmS b s
theorem SmS.mono {a b : Nat} {s : St} (h : SmS a s) (hab : a ≤ b) : SmS b s := by
  induction h with
  | mk s h1 h2 h3 h4 ih => exact .mk s (fun q hq => Nat.le_trans (h1 q hq) hab) (fun q hq => Nat.le_trans (h2 q hq) hab) (fun q hq => Nat.le_trans (h3 q hq) hab) ih
theorem mono_S : Mono (ROs w) := fun _ _ _ h k => ⟨k.1, k.2.mono h⟩
theorem ofcS (a : Addr) (y : St) (h : ∀ j u, (sL y)[j]? = some u → w.cell? (a.add j) = some u) : SC w a y :=
  ⟨by have := h 0 _ rfl; rwa [add_zero'] at this, by have := h 1 _ rfl; simpa [Addr.add] using this, by have := h 2 _ rfl; simpa [Addr.add] using this, by have := h 3 _ rfl; simpa [Addr.add] using this, by have := h 4 _ rfl; simpa [Addr.add] using this, by have := h 5 _ rfl; simpa [Addr.add] using this⟩
def ROa (w : World) (b : Nat) (a : Rw St) : Prop := RsA w w.heap.size a ∧ ∀ t ∈ a.l, SmS b t
theorem mono_A : Mono (ROa w) := fun _ _ _ h k => ⟨k.1, fun t ht => (k.2 t ht).mono h⟩
theorem ofcA (a : Addr) (y : Rw St) (h : ∀ j u, (rowL y)[j]? = some u → w.cell? (a.add j) = some u) : AC w a y := by have := h 0 _ rfl; rwa [add_zero'] at this
set_option maxRecDepth 100000 in
theorem opn_autos_of {N : Nat} (h : Opn enc Tryz.prog w held N 95 sL (ROs w)) : Opn enc Tryz.prog w held N 54 rowL (fun b r => RsAs w w.heap.size r ∧ ∀ a ∈ r.l, ∀ t ∈ a.l, SmS b t) := by
  have h1 : Opn enc Tryz.prog w held N 99 rowL (ROa w) := ((opn_row (C := SC) Tryz.underlying99 (by kernel_rfl) (fun _ _ h => World.block_lt_of_cell? w _ h.1) ofcS mono_S h).mono (Nat.le_succ _)).imp fun b r h => ⟨⟨h.1, fun x hx => (h.2 x hx).1⟩, fun x hx => (h.2 x hx).2⟩
  have h2 : Opn enc Tryz.prog w held N 101 rowL (ROa w) := (opn_one Tryz.underlying101 (by kernel_rfl) rfl (by kernel_rfl) mono_A h1).mono (Nat.le_succ _)
  exact ((opn_row (C := AC) Tryz.underlying54 (by kernel_rfl) (fun _ _ h => World.block_lt_of_cell? w _ h) ofcA mono_A h2).mono (Nat.le_succ _)).imp fun b r h => ⟨⟨h.1, fun x hx => (h.2 x hx).1⟩, fun x hx => (h.2 x hx).2⟩
theorem mono_Qs : Mono (fun b (r : Rw Qt) => RsQs w w.heap.size r ∧ ∀ q ∈ r.l, q.r.size ≤ b) := fun _ _ _ h k => ⟨k.1, fun q hq => Nat.le_trans (k.2 q hq) h⟩
theorem mono_Ts : Mono (fun b (r : Rw Tt) => RsTs w w.heap.size r ∧ ∀ q ∈ r.l, q.cd.size ≤ b) := fun _ _ _ h k => ⟨k.1, fun q hq => Nat.le_trans (k.2 q hq) h⟩
theorem mono_Xs : Mono (fun b (r : Rw Xt) => RsXs w w.heap.size r ∧ ∀ q ∈ r.l, q.size ≤ b) := fun _ _ _ h k => ⟨k.1, fun q hq => Nat.le_trans (k.2 q hq) h⟩
theorem mono_As : Mono (fun b (r : Rw (Rw St)) => RsAs w w.heap.size r ∧ ∀ a ∈ r.l, ∀ t ∈ a.l, SmS b t) := fun _ _ _ h k => ⟨k.1, fun q hq t ht => (k.2 q hq t ht).mono h⟩
set_option maxRecDepth 100000 in
theorem opn_state (N : Nat) : Opn enc Tryz.prog w held N 95 sL (ROs w) := by
  induction N with
  | zero => exact fun _ h => absurd h (Nat.not_lt_zero _)
  | succ N ih =>
    exact (opn_six Tryz.underlying95 (by kernel_rfl) rfl (by kernel_rfl) rfl (by kernel_rfl) rfl (by kernel_rfl) rfl (by kernel_rfl) rfl (by kernel_rfl) rfl (by kernel_rfl) (mono_k _) (opn_str (N := N) Tryz.underlying9) (mono_k _) (opn_decls N) mono_Qs (opn_eqs N) mono_As (opn_autos_of ih) mono_Ts (opn_trs N) mono_Ts (opn_trs N)).map (fun y => .mk y.1 y.2.1 y.2.2.1 y.2.2.2.1 y.2.2.2.2.1 y.2.2.2.2.2) (fun _ => rfl) fun b y h =>
      ⟨.mk _ h.1 h.2.1 h.2.2.1.1 h.2.2.2.1.1.1 (fun a ha => (h.2.2.2.1.1.2 a ha).1) (fun a ha => (h.2.2.2.1.1.2 a ha).2) h.2.2.2.2.1.1 h.2.2.2.2.2.1, .mk _ h.2.2.1.2 h.2.2.2.2.1.2 h.2.2.2.2.2.2 h.2.2.2.1.2⟩
abbrev nL (n : Nt) : List Value := [.string n.nm, .slice n.ins.A n.ins.l.length n.ins.c, .slice n.outs.A n.outs.l.length n.outs.c, .slice n.locs.A n.locs.l.length n.locs.c, .slice n.qs.A n.qs.l.length n.qs.c, .slice n.au.A n.au.l.length n.au.c, .slice n.asm.A n.asm.l.length n.asm.c, .slice n.ens.A n.ens.l.length n.ens.c]
def ROn (w : World) (b : Nat) (n : Nt) : Prop := RsN w w.heap.size n ∧ SmN b n
theorem mono_N : Mono (ROn w) := fun _ _ _ h k => ⟨k.1, fun q hq => Nat.le_trans (k.2.qs q hq) h, fun q hq t ht => (k.2.au q hq t ht).mono h, fun q hq => Nat.le_trans (k.2.asm q hq) h, fun q hq => Nat.le_trans (k.2.ens q hq) h⟩
set_option maxRecDepth 100000 in
theorem opn_node (N : Nat) : Opn enc Tryz.prog w held N 56 nL (ROn w) :=
  ((opn_eight Tryz.underlying56 (by kernel_rfl) rfl (by kernel_rfl) rfl (by kernel_rfl) rfl (by kernel_rfl) rfl (by kernel_rfl) rfl (by kernel_rfl) rfl (by kernel_rfl) rfl (by kernel_rfl) rfl (by kernel_rfl) (mono_k _) (opn_str (N := N) Tryz.underlying9) (mono_k _) (opn_decls N) (mono_k _) (opn_decls N) (mono_k _) (opn_decls N) mono_Qs (opn_eqs N) mono_As (opn_autos_of (opn_state N)) mono_Xs (opn_exprs N) mono_Xs (opn_exprs N)).mono (Nat.le_succ _)).map (fun y => ⟨y.1, y.2.1, y.2.2.1, y.2.2.2.1, y.2.2.2.2.1, y.2.2.2.2.2.1, y.2.2.2.2.2.2.1, y.2.2.2.2.2.2.2⟩) (fun _ => rfl) fun b y h =>
    ⟨⟨h.1, h.2.1, h.2.2.1, h.2.2.2.1, h.2.2.2.2.1.1, h.2.2.2.2.2.1.1, h.2.2.2.2.2.2.1.1, h.2.2.2.2.2.2.2.1⟩, ⟨h.2.2.2.2.1.2, h.2.2.2.2.2.1.2, h.2.2.2.2.2.2.1.2, h.2.2.2.2.2.2.2.2⟩⟩
theorem ofcN (a : Addr) (y : Nt) (h : ∀ j u, (nL y)[j]? = some u → w.cell? (a.add j) = some u) : NC w a y :=
  ⟨by have := h 0 _ rfl; rwa [add_zero'] at this, by have := h 1 _ rfl; simpa [Addr.add] using this, by have := h 2 _ rfl; simpa [Addr.add] using this, by have := h 3 _ rfl; simpa [Addr.add] using this, by have := h 4 _ rfl; simpa [Addr.add] using this, by have := h 5 _ rfl; simpa [Addr.add] using this, by have := h 6 _ rfl; simpa [Addr.add] using this, by have := h 7 _ rfl; simpa [Addr.add] using this⟩
set_option maxRecDepth 100000 in
theorem opn_nodes (N : Nat) : Opn enc Tryz.prog w held N 34 rowL (fun b r => (RdR w w.heap.size 8 NC r ∧ ∀ n ∈ r.l, RsN w w.heap.size n) ∧ ∀ n ∈ r.l, SmN b n) :=
  ((opn_row (C := NC) Tryz.underlying34 (by kernel_rfl) (fun _ _ h => World.block_lt_of_cell? w _ h.1) ofcN mono_N (opn_node N)).mono (Nat.le_succ _)).imp fun b r h => ⟨⟨h.1, fun x hx => (h.2 x hx).1⟩, fun x hx => (h.2 x hx).2⟩
set_option maxRecDepth 100000 in
theorem opn_enums (N : Nat) : Opn enc Tryz.prog w held N 33 rowL (fun _ r => RsE w w.heap.size r) := fun fuel _ cs x h hw =>
  rd_enumsU Tryz.underlying33 Tryz.underlying72 (by kernel_rfl) rfl rfl (by kernel_rfl) (by kernel_rfl) Tryz.underlying9 Tryz.underlying57 Tryz.underlying9 (by kernel_rfl) fuel _ _ h hw
abbrev prL (p : Pt) : List Value := [.slice p.es.A p.es.l.length p.es.c, .slice p.ns.A p.ns.l.length p.ns.c]
def ROp (w : World) (b : Nat) (p : Pt) : Prop := RsP w w.heap.size p ∧ ∀ n ∈ p.ns.l, SmN b n
set_option maxRecDepth 100000 in
theorem opn_prog (N : Nat) : Opn enc Tryz.prog w held N 36 prL (ROp w) :=
  ((opn_pair Tryz.underlying36 (by kernel_rfl) rfl (by kernel_rfl) rfl (by kernel_rfl) (mono_k _) (opn_enums N) (fun _ _ _ h k => ⟨k.1, fun n hn => (mono_N (w := w) _ _ _ h ⟨k.1.2 n hn, k.2 n hn⟩).2⟩) (opn_nodes N)).mono (Nat.le_succ _)).map (fun y => ⟨y.1, y.2⟩) (fun _ => rfl) fun b y h => ⟨⟨h.1, h.2.1.1, h.2.1.2⟩, h.2.2⟩
set_option maxRecDepth 100000 in
/-- a program, opened, with its bulk -/
theorem open_progU {b0 : Nat} {r : Reach} {v : Value} {d : DataW H} {p : List MemPlace} (hv : Value.okWide Tryz.prog w r b0 36 v) (h : DataW.Trod enc Tryz.prog w 0 (fun _ => true) held 36 v d p) (hsz : ∀ n ∈ d.weights Tryz.prog 36, n ≤ reachBytes) :
    ∃ x : Pt, v = pV x ∧ RsP w w.heap.size x ∧ ∀ n ∈ x.ns.l, SmN (Rows.uptoBulk d) n := by
  obtain ⟨cs, rfl, hs⟩ := okWide_struct Tryz.underlying36 hv
  obtain ⟨fuel, hf⟩ := h
  obtain ⟨x, hx, hR, hN⟩ := opn_prog (fuel + 1) fuel (Nat.lt_succ_self _) _ _ hf hsz
  refine ⟨x, ?_, hR, hN⟩
  have : cs.toList = _ := hx
  congr 1
  exact Array.toList_inj.1 this
end
end Go.Proofs.YthlapepjebidgaaGreatDoor
