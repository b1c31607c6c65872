/- Texts of one chain, in one file. -/
import Derived.Lib.QuietBelow
import Derived.Maps.Range
import Derived.Maps.RangeWalk
import Derived.Lib.SliceRun
import Derived.Deep.Slices
import Derived.Laws.OwnMore
import Derived.Deep.RegionWith
import Derived.ProofKit
import Derived.OpenShut
import Derived.Test.YtoekgbdomeklgaaGreatDoorQC
/- Ident of both. -/
namespace Go.Proofs.YtoekgbdomeklgaaGreatDoor
set_option linter.unusedVariables false
set_option linter.unusedSimpArgs false
open Go.RowKit
def idP (s : ByteArray) : Bool := decide (0 < s.size) && ((fst s).1 == 1 && ((((fst s).2.2.1 : Nat) : Int) == (s.size : Int)))
theorem empty_of {s : ByteArray} (h : s.size = 0) : s = ⟨#[]⟩ := by
  apply ByteArray.ext
  exact Array.eq_empty_of_size_eq_zero h
theorem ne_facts {s : ByteArray} (h : 0 < s.size) : (s.toList == []) = false ∧ s.toList.isEmpty = false ∧ ¬ s.toList = [] := by
  have hn : s.toList ≠ [] := by
    intro e
    have := congrArg List.length e
    rw [ByteArray.toList_eq, len_toList] at this
    have h2 : s.size = 0 := this
    omega
  exact ⟨by simpa using hn, by simpa using hn, hn⟩
set_option maxHeartbeats 800000 in
theorem ident_any (s : ByteArray) (w : World) (hstd : Std w) (h9 : s.size ≤ 140737488351232) : Calls Tryz.prog 37 #[.string s] w (Bel (.bool (idP s)) w) := by
  by_cases h0 : 0 < s.size
  · obtain ⟨e1, e2, e3⟩ := ne_facts h0
    have F1 := Lib.hid (first_any s w hstd h0 h9)
    have e : idP s = ((fst s).1 == 1 && ((((fst s).2.2.1 : Nat) : Int) == (s.size : Int))) := by rw [idP, decide_eq_true h0, Bool.true_and]
    rw [e]
    clear e
    obtain ⟨⟨a, tx, n, er⟩, hf⟩ : ∃ f, fst s = f := ⟨_, rfl⟩
    rw [hf] at F1 ⊢
    have F2 : Hid (Calls Tryz.prog 43 #[.string s] w (Bel (.tuple #[.agg #[.int .i64 a, .string tx, .int .i64 0], .int .i64 n, .int .i64 er]) w)) := F1
    show Calls _ _ _ _ (Bel (.bool (a == 1 && ((n : Int) == (s.size : Int)))) w)
    clear F1 hf h0 hstd h9
    cases ha : (a == 1)
    · rw [Bool.false_and]
      go_enter Tryz.func37, Tryz.ntmps37
      go_wp2_with (go_at_call 43; refine F2.out.mono ?_; rintro e w1 ⟨rfl, hb1⟩)
      go_ret
      exact ⟨rfl, (by repeat (first | (with_reducible exact Below.refl _ _) | (with_reducible assumption) | (with_reducible exact bel_box _) | (with_reducible refine bel_step ?_ (by with_reducible assumption)) | (with_reducible refine Below.drew ?_) | (with_reducible refine below_drewN ?_ _) | (with_reducible refine bel_alloc ?_ _)))⟩
    · rw [Bool.true_and]
      go_enter Tryz.func37, Tryz.ntmps37
      go_wp2_with (go_at_call 43; refine F2.out.mono ?_; rintro e w1 ⟨rfl, hb1⟩)
      go_ret
      exact ⟨rfl, (by repeat (first | (with_reducible exact Below.refl _ _) | (with_reducible assumption) | (with_reducible exact bel_box _) | (with_reducible refine bel_step ?_ (by with_reducible assumption)) | (with_reducible refine Below.drew ?_) | (with_reducible refine below_drewN ?_ _) | (with_reducible refine bel_alloc ?_ _)))⟩
  · obtain rfl := empty_of (by omega : s.size = 0)
    rw [idP, decide_eq_false h0, Bool.false_and]
    clear hstd h9 h0
    go_enter Tryz.func37, Tryz.ntmps37
    go_wp2
    go_ret
    exact ⟨rfl, (by repeat (first | (with_reducible exact Below.refl _ _) | (with_reducible assumption) | (with_reducible exact bel_box _) | (with_reducible refine bel_step ?_ (by with_reducible assumption)) | (with_reducible refine Below.drew ?_) | (with_reducible refine below_drewN ?_ _) | (with_reducible refine bel_alloc ?_ _)))⟩
end Go.Proofs.YtoekgbdomeklgaaGreatDoor
/- The checks of one expression, of the program. -/
namespace Go.Proofs.YtoekgbdomeklgaaGreatDoor
set_option linter.unusedVariables false
set_option linter.unusedSimpArgs false
open Go.RowKit
def hasVar (n : Int) : Bool := n == 2 || n == 8 || n == 9
def hasIdn (n : Int) : Bool := hasVar n || n == 10
def hasVal (t v : Int) : Bool := decide (t = 1 ∧ (v = 0 ∨ v = 1) ∨ t = 2 ∧ -32768 ≤ v ∧ v ≤ 32767 ∨ 3 ≤ t ∧ 0 ≤ v ∧ v < 16)
def opnds (op : Int) : Int := if op = 1 ∨ op = 2 then 1 else 2
def hasBr (t n : Int) : Bool := decide (t = 1 ∧ n = 2 ∨ 3 ≤ t ∧ 1 ≤ n ∧ n ≤ 16)
theorem hasvar_any (n : Int) (w : World) : Calls Tryz.prog 38 #[.int .i64 n] w (Bel (.bool (hasVar n)) w) := by
  go_enter Tryz.func38, Tryz.ntmps38
  go_wp2
  all_goals go_ret
  all_goals exact ⟨ret_bool (by simp_all [hasVar]), (by repeat (first | (with_reducible exact Below.refl _ _) | (with_reducible assumption) | (with_reducible exact bel_box _) | (with_reducible refine bel_step ?_ (by with_reducible assumption)) | (with_reducible refine Below.drew ?_) | (with_reducible refine below_drewN ?_ _) | (with_reducible refine bel_alloc ?_ _)))⟩
theorem hasident_any (n : Int) (w : World) : Calls Tryz.prog 36 #[.int .i64 n] w (Bel (.bool (hasIdn n)) w) := by
  have k1 := Lib.hid (hasvar_any n)
  have e : hasIdn n = (hasVar n || n == 10) := rfl
  rw [e]
  clear e
  generalize hasVar n = b at *
  cases b
  all_goals
    go_enter Tryz.func36, Tryz.ntmps36
    go_wp2_with (go_at_call 38; refine (k1.out _).mono ?_; rintro e w1 ⟨rfl, hb1⟩)
  all_goals go_ret
  all_goals exact ⟨ret_bool (by simp), (by repeat (first | (with_reducible exact Below.refl _ _) | (with_reducible assumption) | (with_reducible exact bel_box _) | (with_reducible refine bel_step ?_ (by with_reducible assumption)) | (with_reducible refine Below.drew ?_) | (with_reducible refine below_drewN ?_ _) | (with_reducible refine bel_alloc ?_ _)))⟩
theorem operands_any (n : Int) (w : World) : Calls Tryz.prog 40 #[.int .i64 n] w (Bel (.int .i64 (opnds n)) w) := by
  by_cases h1 : n = 1
  · subst h1
    go_enter Tryz.func40, Tryz.ntmps40
    go_wp2
    go_ret
    exact ⟨rfl, (by repeat (first | (with_reducible exact Below.refl _ _) | (with_reducible assumption) | (with_reducible exact bel_box _) | (with_reducible refine bel_step ?_ (by with_reducible assumption)) | (with_reducible refine Below.drew ?_) | (with_reducible refine below_drewN ?_ _) | (with_reducible refine bel_alloc ?_ _)))⟩
  by_cases h2 : n = 2
  · subst h2
    go_enter Tryz.func40, Tryz.ntmps40
    go_wp2
    go_ret
    exact ⟨rfl, (by repeat (first | (with_reducible exact Below.refl _ _) | (with_reducible assumption) | (with_reducible exact bel_box _) | (with_reducible refine bel_step ?_ (by with_reducible assumption)) | (with_reducible refine Below.drew ?_) | (with_reducible refine below_drewN ?_ _) | (with_reducible refine bel_alloc ?_ _)))⟩
  have e : opnds n = 2 := by rw [opnds, if_neg (by omega)]
  rw [e]
  have q1 : (n == 1) = false := by simpa using h1
  have q2 : (n == 2) = false := by simpa using h2
  go_enter Tryz.func40, Tryz.ntmps40
  go_wp2
  go_ret
  exact ⟨rfl, (by repeat (first | (with_reducible exact Below.refl _ _) | (with_reducible assumption) | (with_reducible exact bel_box _) | (with_reducible refine bel_step ?_ (by with_reducible assumption)) | (with_reducible refine Below.drew ?_) | (with_reducible refine below_drewN ?_ _) | (with_reducible refine bel_alloc ?_ _)))⟩
theorem hasvalue_any (t v : Int) (w : World) : Calls Tryz.prog 39 #[.int .i64 t, .int .i64 v] w (Bel (.bool (hasVal t v)) w) := by
  by_cases h1 : t = 1
  · subst h1
    go_enter Tryz.func39, Tryz.ntmps39
    go_wp2
    all_goals go_ret
    all_goals refine ⟨ret_bool ?_, (by repeat (first | (with_reducible exact Below.refl _ _) | (with_reducible assumption) | (with_reducible exact bel_box _) | (with_reducible refine bel_step ?_ (by with_reducible assumption)) | (with_reducible refine Below.drew ?_) | (with_reducible refine below_drewN ?_ _) | (with_reducible refine bel_alloc ?_ _)))⟩
    all_goals (rw [Bool.eq_iff_iff]; simp_all [hasVal])
  by_cases h2 : t = 2
  · subst h2
    go_enter Tryz.func39, Tryz.ntmps39
    go_wp2
    all_goals go_ret
    all_goals refine ⟨ret_bool ?_, (by repeat (first | (with_reducible exact Below.refl _ _) | (with_reducible assumption) | (with_reducible exact bel_box _) | (with_reducible refine bel_step ?_ (by with_reducible assumption)) | (with_reducible refine Below.drew ?_) | (with_reducible refine below_drewN ?_ _) | (with_reducible refine bel_alloc ?_ _)))⟩
    all_goals (rw [Bool.eq_iff_iff]; simp [hasVal]; omega)
  have q1 : (t == 1) = false := by simpa using h1
  have q2 : (t == 2) = false := by simpa using h2
  go_enter Tryz.func39, Tryz.ntmps39
  go_wp2
  all_goals go_ret
  all_goals refine ⟨ret_bool ?_, (by repeat (first | (with_reducible exact Below.refl _ _) | (with_reducible assumption) | (with_reducible exact bel_box _) | (with_reducible refine bel_step ?_ (by with_reducible assumption)) | (with_reducible refine Below.drew ?_) | (with_reducible refine below_drewN ?_ _) | (with_reducible refine bel_alloc ?_ _)))⟩
  all_goals (rw [Bool.eq_iff_iff]; simp [hasVal]; omega)
theorem hasbranches_any (t n : Int) (w : World) : Calls Tryz.prog 41 #[.int .i64 t, .int .i64 n] w (Bel (.bool (hasBr t n)) w) := by
  by_cases h1 : t = 1
  · subst h1
    go_enter Tryz.func41, Tryz.ntmps41
    go_wp2
    all_goals go_ret
    all_goals refine ⟨ret_bool ?_, (by repeat (first | (with_reducible exact Below.refl _ _) | (with_reducible assumption) | (with_reducible exact bel_box _) | (with_reducible refine bel_step ?_ (by with_reducible assumption)) | (with_reducible refine Below.drew ?_) | (with_reducible refine below_drewN ?_ _) | (with_reducible refine bel_alloc ?_ _)))⟩
    all_goals (rw [Bool.eq_iff_iff]; simp_all [hasBr])
  have q1 : (t == 1) = false := by simpa using h1
  go_enter Tryz.func41, Tryz.ntmps41
  go_wp2
  all_goals go_ret
  all_goals refine ⟨ret_bool ?_, (by repeat (first | (with_reducible exact Below.refl _ _) | (with_reducible assumption) | (with_reducible exact bel_box _) | (with_reducible refine bel_step ?_ (by with_reducible assumption)) | (with_reducible refine Below.drew ?_) | (with_reducible refine below_drewN ?_ _) | (with_reducible refine bel_alloc ?_ _)))⟩
  all_goals (rw [Bool.eq_iff_iff]; simp [hasBr]; omega)
end Go.Proofs.YtoekgbdomeklgaaGreatDoor
/- formed, hasOnly of the program. -/
namespace Go.Proofs.YtoekgbdomeklgaaGreatDoor
set_option linter.unusedVariables false
set_option linter.unusedSimpArgs false
open Go.RowKit
def formedP (k op t v n : Int) (wok : Bool) : Bool :=
  if k = 1 then n == 0 && hasVal t v else if k = 2 then n == 0 else if k = 3 then decide (1 ≤ op ∧ op ≤ 16) && n == opnds op else if k = 4 then n == 3 else if k = 5 then n == 1 else if k = 6 ∨ k = 7 then n == 2
  else if k = 8 then n == 1 && (t != 2 && hasVal t v) else if k = 9 then hasBr t n else if k = 10 then v == 0 || (v == 1 && decide (0 < n)) else if k = 11 then n == 0 && wok else false
def onlyP (k op t v : Int) (ne : Bool) : Bool :=
  if k ≠ 3 ∧ op ≠ 0 then false else if k = 1 then ne else if k = 8 then true else if k = 9 then v == 0 else if k = 10 then t == 0 else if k = 2 ∨ k = 11 then t == 0 && v == 0 else t == 0 && (v == 0 && ne)
set_option maxHeartbeats 2000000 in
set_option maxRecDepth 20000 in
theorem formed_any (x : Xt) (wok : Bool) (w : World) (KP : x.k = 11 → Hid (∀ W, Below w.heap.size w W → Calls Tryz.prog 42 #[.string x.nm] W (fun e w' => ∃ (A1 A2 : Option Addr) (n1 c1 n2 c2 : Nat) (er : Int), e = .returned (.tuple #[.agg #[.slice A1 n1 c1, .slice A2 n2 c2], .int .i64 er]) ∧ (er == 0) = wok ∧ Below W.heap.size W w'))) :
    Calls Tryz.prog 34 #[xV x] w (Bel (.bool (formedP x.k x.op x.t x.v x.ar.length wok)) w) := by
  have HV := Lib.hid (hasvalue_any x.t x.v)
  have HO := Lib.hid (operands_any x.op)
  have HB := Lib.hid (hasbranches_any x.t x.ar.length)
  obtain ⟨k, op, t, v, nm, A, c, ar⟩ := x
  simp only [xV, Xt.k, Xt.op, Xt.t, Xt.v, Xt.nm, Xt.A, Xt.c, Xt.ar] at *
  obtain ⟨n, hn⟩ : ∃ n : Nat, ar.length = n := ⟨_, rfl⟩
  rw [hn] at HB ⊢
  clear hn
  by_cases h1 : k = 1
  · subst h1
    rw [formedP, if_pos rfl]
    generalize hasVal t v = b at *
    cases b
    all_goals
      go_enter Tryz.func34, Tryz.ntmps34
      go_wp2_with (go_at_call 39; refine (HV.out _).mono ?_; rintro e w1 ⟨rfl, hb1⟩)
    all_goals go_ret
    all_goals exact ⟨ret_bool (by simp_all), (by repeat (first | (with_reducible exact Below.refl _ _) | (with_reducible assumption) | (with_reducible exact bel_box _) | (with_reducible refine bel_step ?_ (by with_reducible assumption)) | (with_reducible refine Below.drew ?_) | (with_reducible refine below_drewN ?_ _) | (with_reducible refine bel_alloc ?_ _)))⟩
  by_cases h2 : k = 2
  · subst h2
    go_enter Tryz.func34, Tryz.ntmps34
    go_wp2
    all_goals go_ret
    all_goals exact ⟨ret_bool (by simp_all [formedP]), (by repeat (first | (with_reducible exact Below.refl _ _) | (with_reducible assumption) | (with_reducible exact bel_box _) | (with_reducible refine bel_step ?_ (by with_reducible assumption)) | (with_reducible refine Below.drew ?_) | (with_reducible refine below_drewN ?_ _) | (with_reducible refine bel_alloc ?_ _)))⟩
  by_cases h3 : k = 3
  · subst h3
    rw [formedP, if_neg (by decide), if_neg (by decide), if_pos rfl]
    generalize opnds op = q at *
    go_enter Tryz.func34, Tryz.ntmps34
    go_wp2_with (go_at_call 40; refine (HO.out _).mono ?_; rintro e w1 ⟨rfl, hb1⟩)
    all_goals go_ret
    all_goals refine ⟨ret_bool ?_, (by repeat (first | (with_reducible exact Below.refl _ _) | (with_reducible assumption) | (with_reducible exact bel_box _) | (with_reducible refine bel_step ?_ (by with_reducible assumption)) | (with_reducible refine Below.drew ?_) | (with_reducible refine below_drewN ?_ _) | (with_reducible refine bel_alloc ?_ _)))⟩
    all_goals (rw [Bool.eq_iff_iff]; simp; omega)
  by_cases h4 : k = 4
  · subst h4
    go_enter Tryz.func34, Tryz.ntmps34
    go_wp2
    all_goals go_ret
    all_goals exact ⟨ret_bool (by simp_all [formedP]), (by repeat (first | (with_reducible exact Below.refl _ _) | (with_reducible assumption) | (with_reducible exact bel_box _) | (with_reducible refine bel_step ?_ (by with_reducible assumption)) | (with_reducible refine Below.drew ?_) | (with_reducible refine below_drewN ?_ _) | (with_reducible refine bel_alloc ?_ _)))⟩
  by_cases h5 : k = 5
  · subst h5
    go_enter Tryz.func34, Tryz.ntmps34
    go_wp2
    all_goals go_ret
    all_goals exact ⟨ret_bool (by simp_all [formedP]), (by repeat (first | (with_reducible exact Below.refl _ _) | (with_reducible assumption) | (with_reducible exact bel_box _) | (with_reducible refine bel_step ?_ (by with_reducible assumption)) | (with_reducible refine Below.drew ?_) | (with_reducible refine below_drewN ?_ _) | (with_reducible refine bel_alloc ?_ _)))⟩
  by_cases h6 : k = 6
  · subst h6
    go_enter Tryz.func34, Tryz.ntmps34
    go_wp2
    all_goals go_ret
    all_goals exact ⟨ret_bool (by simp_all [formedP]), (by repeat (first | (with_reducible exact Below.refl _ _) | (with_reducible assumption) | (with_reducible exact bel_box _) | (with_reducible refine bel_step ?_ (by with_reducible assumption)) | (with_reducible refine Below.drew ?_) | (with_reducible refine below_drewN ?_ _) | (with_reducible refine bel_alloc ?_ _)))⟩
  by_cases h7 : k = 7
  · subst h7
    go_enter Tryz.func34, Tryz.ntmps34
    go_wp2
    all_goals go_ret
    all_goals exact ⟨ret_bool (by simp_all [formedP]), (by repeat (first | (with_reducible exact Below.refl _ _) | (with_reducible assumption) | (with_reducible exact bel_box _) | (with_reducible refine bel_step ?_ (by with_reducible assumption)) | (with_reducible refine Below.drew ?_) | (with_reducible refine below_drewN ?_ _) | (with_reducible refine bel_alloc ?_ _)))⟩
  by_cases h8 : k = 8
  · subst h8
    rw [formedP, if_neg (by decide), if_neg (by decide), if_neg (by decide), if_neg (by decide), if_neg (by decide), if_neg (by decide), if_pos rfl]
    generalize hasVal t v = b at *
    cases b
    all_goals
      go_enter Tryz.func34, Tryz.ntmps34
      go_wp2_with (go_at_call 39; refine (HV.out _).mono ?_; rintro e w1 ⟨rfl, hb1⟩)
    all_goals go_ret
    all_goals exact ⟨ret_bool (by simp_all), (by repeat (first | (with_reducible exact Below.refl _ _) | (with_reducible assumption) | (with_reducible exact bel_box _) | (with_reducible refine bel_step ?_ (by with_reducible assumption)) | (with_reducible refine Below.drew ?_) | (with_reducible refine below_drewN ?_ _) | (with_reducible refine bel_alloc ?_ _)))⟩
  by_cases h9 : k = 9
  · subst h9
    rw [formedP, if_neg (by decide), if_neg (by decide), if_neg (by decide), if_neg (by decide), if_neg (by decide), if_neg (by decide), if_neg (by decide), if_pos rfl]
    generalize hasBr t n = b at *
    go_enter Tryz.func34, Tryz.ntmps34
    go_wp2_with (go_at_call 41; refine (HB.out _).mono ?_; rintro e w1 ⟨rfl, hb1⟩)
    all_goals go_ret
    all_goals exact ⟨rfl, (by repeat (first | (with_reducible exact Below.refl _ _) | (with_reducible assumption) | (with_reducible exact bel_box _) | (with_reducible refine bel_step ?_ (by with_reducible assumption)) | (with_reducible refine Below.drew ?_) | (with_reducible refine below_drewN ?_ _) | (with_reducible refine bel_alloc ?_ _)))⟩
  by_cases h10 : k = 10
  · subst h10
    rw [formedP, if_neg (by decide), if_neg (by decide), if_neg (by decide), if_neg (by decide), if_neg (by decide), if_neg (by decide), if_neg (by decide), if_neg (by decide), if_pos rfl]
    go_enter Tryz.func34, Tryz.ntmps34
    go_wp2
    all_goals go_ret
    all_goals refine ⟨ret_bool ?_, (by repeat (first | (with_reducible exact Below.refl _ _) | (with_reducible assumption) | (with_reducible exact bel_box _) | (with_reducible refine bel_step ?_ (by with_reducible assumption)) | (with_reducible refine Below.drew ?_) | (with_reducible refine below_drewN ?_ _) | (with_reducible refine bel_alloc ?_ _)))⟩
    all_goals (rw [Bool.eq_iff_iff]; simp_all)
  by_cases h11 : k = 11
  · subst h11
    have KQ := KP rfl
    rw [formedP, if_neg (by decide), if_neg (by decide), if_neg (by decide), if_neg (by decide), if_neg (by decide), if_neg (by decide), if_neg (by decide), if_neg (by decide), if_neg (by decide), if_pos rfl]
    clear KP
    cases wok
    all_goals
      go_enter Tryz.func34, Tryz.ntmps34
      go_wp2_with (go_at_call 42; refine (KQ.out _ ?_).mono ?_; (focus ((repeat (first | (with_reducible exact Below.refl _ _) | (with_reducible assumption) | (with_reducible exact bel_box _) | (with_reducible refine bel_step ?_ (by with_reducible assumption)) | (with_reducible refine Below.drew ?_) | (with_reducible refine below_drewN ?_ _) | (with_reducible refine bel_alloc ?_ _))); done)); rintro e w1 ⟨A1, A2, n1, c1, n2, c2, er, rfl, her, hb1⟩)
    all_goals go_ret
    all_goals exact ⟨ret_bool (by simp_all), (by repeat (first | (with_reducible exact Below.refl _ _) | (with_reducible assumption) | (with_reducible exact bel_box _) | (with_reducible refine bel_step ?_ (by with_reducible assumption)) | (with_reducible refine Below.drew ?_) | (with_reducible refine below_drewN ?_ _) | (with_reducible refine bel_alloc ?_ _)))⟩
  have e : formedP k op t v n wok = false := by
    rw [formedP, if_neg h1, if_neg h2, if_neg h3, if_neg h4, if_neg h5, if_neg (by omega), if_neg h8, if_neg h9, if_neg h10, if_neg h11]
  rw [e]
  have q1 : (k == 1) = false := by simpa using h1
  have q2 : (k == 2) = false := by simpa using h2
  have q3 : (k == 3) = false := by simpa using h3
  have q4 : (k == 4) = false := by simpa using h4
  have q5 : (k == 5) = false := by simpa using h5
  have q6 : (k == 6) = false := by simpa using h6
  have q7 : (k == 7) = false := by simpa using h7
  have q8 : (k == 8) = false := by simpa using h8
  have q9 : (k == 9) = false := by simpa using h9
  have q10 : (k == 10) = false := by simpa using h10
  have q11 : (k == 11) = false := by simpa using h11
  go_enter Tryz.func34, Tryz.ntmps34
  go_wp2
  go_ret
  exact ⟨rfl, (by repeat (first | (with_reducible exact Below.refl _ _) | (with_reducible assumption) | (with_reducible exact bel_box _) | (with_reducible refine bel_step ?_ (by with_reducible assumption)) | (with_reducible refine Below.drew ?_) | (with_reducible refine below_drewN ?_ _) | (with_reducible refine bel_alloc ?_ _)))⟩
set_option maxHeartbeats 2000000 in
set_option maxRecDepth 20000 in
theorem hasonly_any (x : Xt) (w : World) : Calls Tryz.prog 35 #[xV x] w (Bel (.bool (onlyP x.k x.op x.t x.v (x.nm.toList == []))) w) := by
  obtain ⟨k, op, t, v, nm, A, c, ar⟩ := x
  simp only [xV, Xt.k, Xt.op, Xt.t, Xt.v, Xt.nm, Xt.A, Xt.c, Xt.ar] at *
  have hne : (nm.toList == []) = nm.toList.isEmpty := by cases nm.toList <;> rfl
  by_cases h0 : k ≠ 3 ∧ op ≠ 0
  · rw [onlyP, if_pos h0]
    have q1 : (k != 3) = true := by simpa using h0.1
    have q2 : (op != 0) = true := by simpa using h0.2
    go_enter Tryz.func35, Tryz.ntmps35
    go_wp2
    all_goals go_ret
    all_goals exact ⟨rfl, (by repeat (first | (with_reducible exact Below.refl _ _) | (with_reducible assumption) | (with_reducible exact bel_box _) | (with_reducible refine bel_step ?_ (by with_reducible assumption)) | (with_reducible refine Below.drew ?_) | (with_reducible refine below_drewN ?_ _) | (with_reducible refine bel_alloc ?_ _)))⟩
  rw [onlyP, if_neg h0]
  have hq : (k != 3) = false ∨ (k != 3) = true ∧ (op != 0) = false := by
    by_cases h : k = 3
    · exact .inl (by simp [h])
    · exact .inr ⟨by simpa using h, by simpa using fun e => h0 ⟨h, e⟩⟩
  clear h0
  by_cases h1 : k = 1
  · subst h1
    rw [if_pos rfl]
    rcases hq with hq | ⟨_, hq⟩
    · cases hq
    go_enter Tryz.func35, Tryz.ntmps35
    go_wp2
    all_goals go_ret
    all_goals exact ⟨ret_bool (by simp_all), (by repeat (first | (with_reducible exact Below.refl _ _) | (with_reducible assumption) | (with_reducible exact bel_box _) | (with_reducible refine bel_step ?_ (by with_reducible assumption)) | (with_reducible refine Below.drew ?_) | (with_reducible refine below_drewN ?_ _) | (with_reducible refine bel_alloc ?_ _)))⟩
  by_cases h8 : k = 8
  · subst h8
    rw [if_neg (by decide), if_pos rfl]
    rcases hq with hq | ⟨_, hq⟩
    · cases hq
    go_enter Tryz.func35, Tryz.ntmps35
    go_wp2
    all_goals go_ret
    all_goals exact ⟨rfl, (by repeat (first | (with_reducible exact Below.refl _ _) | (with_reducible assumption) | (with_reducible exact bel_box _) | (with_reducible refine bel_step ?_ (by with_reducible assumption)) | (with_reducible refine Below.drew ?_) | (with_reducible refine below_drewN ?_ _) | (with_reducible refine bel_alloc ?_ _)))⟩
  by_cases h9 : k = 9
  · subst h9
    rw [if_neg (by decide), if_neg (by decide), if_pos rfl]
    rcases hq with hq | ⟨_, hq⟩
    · cases hq
    go_enter Tryz.func35, Tryz.ntmps35
    go_wp2
    all_goals go_ret
    all_goals exact ⟨rfl, (by repeat (first | (with_reducible exact Below.refl _ _) | (with_reducible assumption) | (with_reducible exact bel_box _) | (with_reducible refine bel_step ?_ (by with_reducible assumption)) | (with_reducible refine Below.drew ?_) | (with_reducible refine below_drewN ?_ _) | (with_reducible refine bel_alloc ?_ _)))⟩
  by_cases h10 : k = 10
  · subst h10
    rw [if_neg (by decide), if_neg (by decide), if_neg (by decide), if_pos rfl]
    rcases hq with hq | ⟨_, hq⟩
    · cases hq
    go_enter Tryz.func35, Tryz.ntmps35
    go_wp2
    all_goals go_ret
    all_goals exact ⟨rfl, (by repeat (first | (with_reducible exact Below.refl _ _) | (with_reducible assumption) | (with_reducible exact bel_box _) | (with_reducible refine bel_step ?_ (by with_reducible assumption)) | (with_reducible refine Below.drew ?_) | (with_reducible refine below_drewN ?_ _) | (with_reducible refine bel_alloc ?_ _)))⟩
  have q1 : (k == 1) = false := by simpa using h1
  have q8 : (k == 8) = false := by simpa using h8
  have q9 : (k == 9) = false := by simpa using h9
  have q10 : (k == 10) = false := by simpa using h10
  rw [if_neg h1, if_neg h8, if_neg h9, if_neg h10]
  by_cases h2 : k = 2
  · subst h2
    rw [if_pos (.inl rfl)]
    rcases hq with hq | ⟨_, hq⟩
    · cases hq
    go_enter Tryz.func35, Tryz.ntmps35
    go_wp2
    all_goals go_ret
    all_goals exact ⟨ret_bool (by simp_all), (by repeat (first | (with_reducible exact Below.refl _ _) | (with_reducible assumption) | (with_reducible exact bel_box _) | (with_reducible refine bel_step ?_ (by with_reducible assumption)) | (with_reducible refine Below.drew ?_) | (with_reducible refine below_drewN ?_ _) | (with_reducible refine bel_alloc ?_ _)))⟩
  by_cases h11 : k = 11
  · subst h11
    rw [if_pos (.inr rfl)]
    rcases hq with hq | ⟨_, hq⟩
    · cases hq
    go_enter Tryz.func35, Tryz.ntmps35
    go_wp2
    all_goals go_ret
    all_goals exact ⟨ret_bool (by simp_all), (by repeat (first | (with_reducible exact Below.refl _ _) | (with_reducible assumption) | (with_reducible exact bel_box _) | (with_reducible refine bel_step ?_ (by with_reducible assumption)) | (with_reducible refine Below.drew ?_) | (with_reducible refine below_drewN ?_ _) | (with_reducible refine bel_alloc ?_ _)))⟩
  have q2 : (k == 2) = false := by simpa using h2
  have q11 : (k == 11) = false := by simpa using h11
  rw [if_neg (by omega)]
  rcases hq with hq | ⟨hk3, hq⟩
  all_goals
    go_enter Tryz.func35, Tryz.ntmps35
    go_wp2
  all_goals go_ret
  all_goals exact ⟨ret_bool (by simp_all), (by repeat (first | (with_reducible exact Below.refl _ _) | (with_reducible assumption) | (with_reducible exact bel_box _) | (with_reducible refine bel_step ?_ (by with_reducible assumption)) | (with_reducible refine Below.drew ?_) | (with_reducible refine below_drewN ?_ _) | (with_reducible refine bel_alloc ?_ _)))⟩
end Go.Proofs.YtoekgbdomeklgaaGreatDoor
/- checkOne of the program. -/
namespace Go.Proofs.YtoekgbdomeklgaaGreatDoor
set_option linter.unusedVariables false
set_option linter.unusedSimpArgs false
open Go.RowKit
/-- the error of one expression -/
def chk1 (wok : ByteArray → Bool) (x : Xt) : Int := if 64 < x.ar.length then 3 else if (formedP x.k x.op x.t x.v x.ar.length (wok x.nm) && onlyP x.k x.op x.t x.v (x.nm.toList == [])) = false then 5 else if (hasIdn x.k && !idP x.nm) = true then 6 else 0
/-- what is asked of the callees that read the Name -/
def NmOk (wok : ByteArray → Bool) (w : World) (x : Xt) : Prop := (x.k = 11 → Hid (∀ W, Below w.heap.size w W → Calls Tryz.prog 42 #[.string x.nm] W (fun e w' => ∃ (A1 A2 : Option Addr) (n1 c1 n2 c2 : Nat) (er : Int), e = .returned (.tuple #[.agg #[.slice A1 n1 c1, .slice A2 n2 c2], .int .i64 er]) ∧ (er == 0) = wok x.nm ∧ Below W.heap.size W w'))) ∧ (hasIdn x.k = true → Hid (∀ W, Below w.heap.size w W → Calls Tryz.prog 37 #[.string x.nm] W (Bel (.bool (idP x.nm)) W)))
theorem NmOk.to {wok : ByteArray → Bool} {w W : World} {x : Xt} (h : NmOk wok w x) (hb : Below w.heap.size w W) : NmOk wok W x :=
  ⟨fun e => Lib.hid fun W' hb' => (h.1 e).out W' (bel_step hb hb'), fun e => Lib.hid fun W' hb' => (h.2 e).out W' (bel_step hb hb')⟩
set_option maxHeartbeats 2000000 in
set_option maxRecDepth 20000 in
theorem checkone_any (wok : ByteArray → Bool) (x : Xt) (w : World) (h9 : x.ar.length ≤ maxLen) (hN : NmOk wok w x) : Calls Tryz.prog 30 #[xV x] w (Bel (.int .i64 (chk1 wok x)) w) := by
  have KF : Hid (∀ W, Below w.heap.size w W → Calls Tryz.prog 34 #[xV x] W (Bel (.bool (formedP x.k x.op x.t x.v x.ar.length (wok x.nm))) W)) := Lib.hid fun W hb => formed_any x _ W (hN.to hb).1
  have KO := Lib.hid (fun W => hasonly_any x W)
  have KH := Lib.hid (fun W => hasident_any x.k W)
  have KI := hN.2
  unfold maxLen at h9
  unfold chk1
  clear hN
  simp only [xV] at KF KO ⊢
  by_cases h64 : 64 < x.ar.length
  · rw [if_pos h64]
    have q : (64 : Int) < (x.ar.length : Int) := by omega
    go_enter Tryz.func30, Tryz.ntmps30
    go_wp2
    go_ret
    exact ⟨rfl, (by repeat (first | (with_reducible exact Below.refl _ _) | (with_reducible assumption) | (with_reducible exact bel_box _) | (with_reducible refine bel_step ?_ (by with_reducible assumption)) | (with_reducible refine Below.drew ?_) | (with_reducible refine below_drewN ?_ _) | (with_reducible refine bel_alloc ?_ _)))⟩
  rw [if_neg h64]
  have q : (x.ar.length : Int) ≤ 64 := by omega
  generalize formedP x.k x.op x.t x.v x.ar.length (wok x.nm) = bf at *
  generalize onlyP x.k x.op x.t x.v (x.nm.toList == []) = bo at *
  clear h64 h9
  cases bf
  · rw [Bool.false_and, if_pos rfl]
    go_enter Tryz.func30, Tryz.ntmps30
    go_wp2_with (go_at_call 34; refine (KF.out _ ?_).mono ?_; (focus ((repeat (first | (with_reducible exact Below.refl _ _) | (with_reducible assumption) | (with_reducible exact bel_box _) | (with_reducible refine bel_step ?_ (by with_reducible assumption)) | (with_reducible refine Below.drew ?_) | (with_reducible refine below_drewN ?_ _) | (with_reducible refine bel_alloc ?_ _))); done)); rintro e w1 ⟨rfl, hb1⟩)
    go_ret
    exact ⟨rfl, (by repeat (first | (with_reducible exact Below.refl _ _) | (with_reducible assumption) | (with_reducible exact bel_box _) | (with_reducible refine bel_step ?_ (by with_reducible assumption)) | (with_reducible refine Below.drew ?_) | (with_reducible refine below_drewN ?_ _) | (with_reducible refine bel_alloc ?_ _)))⟩
  cases bo
  · rw [Bool.true_and, if_pos rfl]
    go_enter Tryz.func30, Tryz.ntmps30
    go_wp2_with (first
      | (go_at_call 34; refine (KF.out _ ?_).mono ?_; (focus ((repeat (first | (with_reducible exact Below.refl _ _) | (with_reducible assumption) | (with_reducible exact bel_box _) | (with_reducible refine bel_step ?_ (by with_reducible assumption)) | (with_reducible refine Below.drew ?_) | (with_reducible refine below_drewN ?_ _) | (with_reducible refine bel_alloc ?_ _))); done)); rintro e w1 ⟨rfl, hb1⟩; obtain ⟨b0, b1, b2, b3, b4, b5, b6⟩ := bxW_cells (w := w) (x := x) hb1)
      | (go_at_call 35; refine (KO.out _).mono ?_; rintro e w2 ⟨rfl, hb2⟩))
    go_ret
    exact ⟨rfl, (by repeat (first | (with_reducible exact Below.refl _ _) | (with_reducible assumption) | (with_reducible exact bel_box _) | (with_reducible refine bel_step ?_ (by with_reducible assumption)) | (with_reducible refine Below.drew ?_) | (with_reducible refine below_drewN ?_ _) | (with_reducible refine bel_alloc ?_ _)))⟩
  rw [Bool.true_and, if_neg (by simp)]
  cases hi : hasIdn x.k
  · rw [hi] at KH
    rw [Bool.false_and, if_neg (by simp)]
    clear hi KI
    go_enter Tryz.func30, Tryz.ntmps30
    go_wp2_with (first
      | (go_at_call 34; refine (KF.out _ ?_).mono ?_; (focus ((repeat (first | (with_reducible exact Below.refl _ _) | (with_reducible assumption) | (with_reducible exact bel_box _) | (with_reducible refine bel_step ?_ (by with_reducible assumption)) | (with_reducible refine Below.drew ?_) | (with_reducible refine below_drewN ?_ _) | (with_reducible refine bel_alloc ?_ _))); done)); rintro e w1 ⟨rfl, hb1⟩; obtain ⟨b0, b1, b2, b3, b4, b5, b6⟩ := bxW_cells (w := w) (x := x) hb1)
      | (go_at_call 35; refine (KO.out _).mono ?_; rintro e w2 ⟨rfl, hb2⟩; obtain ⟨d0, d1, d2, d3, d4, d5, d6⟩ := bxW_cells (w := w) (x := x) (W := w2) (by repeat (first | (with_reducible exact Below.refl _ _) | (with_reducible assumption) | (with_reducible exact bel_box _) | (with_reducible refine bel_step ?_ (by with_reducible assumption)) | (with_reducible refine Below.drew ?_) | (with_reducible refine below_drewN ?_ _) | (with_reducible refine bel_alloc ?_ _))))
      | (go_at_call 36; refine (KH.out _).mono ?_; rintro e w3 ⟨rfl, hb3⟩))
    go_ret
    exact ⟨rfl, (by repeat (first | (with_reducible exact Below.refl _ _) | (with_reducible assumption) | (with_reducible exact bel_box _) | (with_reducible refine bel_step ?_ (by with_reducible assumption)) | (with_reducible refine Below.drew ?_) | (with_reducible refine below_drewN ?_ _) | (with_reducible refine bel_alloc ?_ _)))⟩
  have KI2 := KI hi
  rw [hi] at KH
  rw [Bool.true_and]
  clear hi KI
  generalize idP x.nm = bi at *
  cases bi
  all_goals
    go_enter Tryz.func30, Tryz.ntmps30
    go_wp2_with (first
      | (go_at_call 34; refine (KF.out _ ?_).mono ?_; (focus ((repeat (first | (with_reducible exact Below.refl _ _) | (with_reducible assumption) | (with_reducible exact bel_box _) | (with_reducible refine bel_step ?_ (by with_reducible assumption)) | (with_reducible refine Below.drew ?_) | (with_reducible refine below_drewN ?_ _) | (with_reducible refine bel_alloc ?_ _))); done)); rintro e w1 ⟨rfl, hb1⟩; obtain ⟨b0, b1, b2, b3, b4, b5, b6⟩ := bxW_cells (w := w) (x := x) hb1)
      | (go_at_call 35; refine (KO.out _).mono ?_; rintro e w2 ⟨rfl, hb2⟩; obtain ⟨d0, d1, d2, d3, d4, d5, d6⟩ := bxW_cells (w := w) (x := x) (W := w2) (by repeat (first | (with_reducible exact Below.refl _ _) | (with_reducible assumption) | (with_reducible exact bel_box _) | (with_reducible refine bel_step ?_ (by with_reducible assumption)) | (with_reducible refine Below.drew ?_) | (with_reducible refine below_drewN ?_ _) | (with_reducible refine bel_alloc ?_ _))))
      | (go_at_call 36; refine (KH.out _).mono ?_; rintro e w3 ⟨rfl, hb3⟩; obtain ⟨g0, g1, g2, g3, g4, g5, g6⟩ := bxW_cells (w := w) (x := x) (W := w3) (by repeat (first | (with_reducible exact Below.refl _ _) | (with_reducible assumption) | (with_reducible exact bel_box _) | (with_reducible refine bel_step ?_ (by with_reducible assumption)) | (with_reducible refine Below.drew ?_) | (with_reducible refine below_drewN ?_ _) | (with_reducible refine bel_alloc ?_ _))))
      | (go_at_call 37; refine (KI2.out _ ?_).mono ?_; (focus ((repeat (first | (with_reducible exact Below.refl _ _) | (with_reducible assumption) | (with_reducible exact bel_box _) | (with_reducible refine bel_step ?_ (by with_reducible assumption)) | (with_reducible refine Below.drew ?_) | (with_reducible refine below_drewN ?_ _) | (with_reducible refine bel_alloc ?_ _))); done)); rintro e w4 ⟨rfl, hb4⟩))
    go_ret
    exact ⟨rfl, (by repeat (first | (with_reducible exact Below.refl _ _) | (with_reducible assumption) | (with_reducible exact bel_box _) | (with_reducible refine bel_step ?_ (by with_reducible assumption)) | (with_reducible refine Below.drew ?_) | (with_reducible refine below_drewN ?_ _) | (with_reducible refine bel_alloc ?_ _)))⟩
end Go.Proofs.YtoekgbdomeklgaaGreatDoor
/- What within hands back, each expression with what is known of it; Check of the program. -/
namespace Go.Proofs.YtoekgbdomeklgaaGreatDoor
set_option linter.unusedVariables false
set_option linter.unusedSimpArgs false
open Go.RowKit Go.Shelf
attribute [local go_sem] Oper.semAt_some
/-- J over lists of expressions of which P is known, said of the expressions -/
def upJ {P : Xt → Prop} (J : List {y : Xt // P y} → World → Prop) (pre : List Xt) (W : World) : Prop := ∃ q, q.map (·.1) = pre ∧ J q W
set_option maxHeartbeats 1000000 in
set_option maxRecDepth 100000 in
theorem within_stopsP (P : Xt → Prop) (n be bp n₀ : Nat) (S : Nat → Prop) (x : Xt) (w : World) (hP : ∀ y ∈ x.list, P y) (hS : ∀ k, S k → n₀ ≤ k ∧ k < w.heap.size) (hn₀ : n₀ ≤ w.heap.size) (hbe : be < w.heap.size) (hbp : bp < w.heap.size) (hX : RdX w n₀ x)
    (c0 : w.cell? ⟨be, 0, none⟩ = some (.int .i64 x.k)) (c1 : w.cell? ⟨be, 1, none⟩ = some (.int .i64 x.op)) (c2 : w.cell? ⟨be, 2, none⟩ = some (.int .i64 x.t)) (c3 : w.cell? ⟨be, 3, none⟩ = some (.int .i64 x.v)) (c4 : w.cell? ⟨be, 4, none⟩ = some (.string x.nm)) (c5 : w.cell? ⟨be, 5, none⟩ = some (.slice x.A x.ar.length x.c)) (cp : w.cell? ⟨bp, 0, none⟩ = some (.func (.func 11) #[] #[])) :
    SeqStopsK Fence.wide n Tryz.prog 25 #[.pointer (some ⟨be, 0, none⟩), .pointer (some ⟨bp, 0, none⟩)] (fun y : {y : Xt // P y} => #[xV y.1]) (KX S) (fun ys => ys.map (·.1) = x.list) (fun pre => pre.map (·.1) <+: x.list) x.size w := by
  intro l J Jx W hW hJ _ hY h0
  have hdd : ∀ k : Nat, (Fence.wide.depth.isSome = true → 1 ≤ k) := fun k h => by cases h
  have hWs := hW.size
  have d0 := (hW.cell (p := ⟨be, 0, none⟩) hbe).trans c0
  have d1 := (hW.cell (p := ⟨be, 1, none⟩) hbe).trans c1
  have d2 := (hW.cell (p := ⟨be, 2, none⟩) hbe).trans c2
  have d3 := (hW.cell (p := ⟨be, 3, none⟩) hbe).trans c3
  have d4 := (hW.cell (p := ⟨be, 4, none⟩) hbe).trans c4
  have d5 := (hW.cell (p := ⟨be, 5, none⟩) hbe).trans c5
  have dp := (hW.cell (p := ⟨bp, 0, none⟩) hbp).trans cp
  have hp := walk_each_in l n₀ W.heap.size x.size S (fun k hs => ⟨(hS k hs).1, by have := (hS k hs).2; omega⟩) (upJ J) (upJ Jx) (fun s A B row ⟨q, hq, hs⟩ hg hr => ⟨q, hq, hJ q A B row hs hg hr⟩) P
    (fun m pre y W1 hPy ⟨q, hq, hj⟩ hl => yield_any rfl m (YieldAt.mono (hY q ⟨y, hPy⟩ W1 hj (by rw [← hq, List.length_map] at hl; exact hl)) fun e W' h => h.elim
      (fun ⟨he, hj2, hk⟩ => .inl ⟨he, ⟨q ++ [⟨y, hPy⟩], by rw [List.map_append, hq]; rfl, hj2⟩, hk⟩) (fun ⟨he, hx⟩ => .inr ⟨he, q ++ [⟨y, hPy⟩], by rw [List.map_append, hq]; rfl, hx⟩))) x (n - 1) [] W hP (hX.blw (hW.mono hn₀) (Nat.le_refl _)) (Nat.le_refl _) ⟨[], rfl, h0⟩ (by simp)
  simp only [List.nil_append, xV] at hp
  clear hY c0 c1 c2 c3 c4 c5 cp
  simp only [List.append_toArray, List.cons_append, List.nil_append, Array.append_eq_append] at *
  refine callsIn_of_wp Tryz.func25 rfl trivial ?_ rfl
  simp only [Tryz.ntmps25, List.size_toArray, List.length_cons, List.length_nil, Nat.reduceAdd, Nat.reduceSub, Array.replicate_succ, Array.replicate_zero, List.push_toArray, List.append_toArray, List.nil_append, List.cons_append]
  gi_wp2_with (refine ⟨trivial, hdd _, ?_⟩; gi_at_call 26; refine hp.mono ?_; clear hp; rintro e W1 (⟨rfl, ⟨ys, hys, hJ1⟩, _⟩ | ⟨rfl, q, hq, ys, hys, hx⟩))
  · go_end0
    exact ⟨⟨_, rfl⟩, .inl ⟨ys, hys, hJ1⟩⟩
  · go_end0
    exact ⟨⟨_, rfl⟩, .inr ⟨ys, by rw [hys]; exact hq, hx⟩⟩
theorem within_atP (P : Xt → Prop) (n n₀ : Nat) (S : Nat → Prop) (x : Xt) (w : World) (hP : ∀ y ∈ x.list, P y) (hS : ∀ k, S k → n₀ ≤ k ∧ k < w.heap.size) (hn₀ : n₀ ≤ w.heap.size) (hX : RdX w n₀ x) :
    SeqStopsK Fence.wide n Tryz.prog 25 #[.pointer (some ⟨w.heap.size, 0, none⟩), .pointer (some ⟨w.heap.size + 1, 0, none⟩)] (fun y : {y : Xt // P y} => #[xV y.1]) (KX S) (fun ys => ys.map (·.1) = x.list) (fun pre => pre.map (·.1) <+: x.list) x.size (inW w x 11) := by
  obtain ⟨b0, b1, b2, b3, b4, b5, _⟩ := bxW_cells (w := w) (x := x) (W := inW w x 11) (bel_box _)
  exact within_stopsP P n w.heap.size (w.heap.size + 1) n₀ S x _ hP (fun k hs => ⟨(hS k hs).1, by rw [inW_size]; have := (hS k hs).2; omega⟩) (by rw [inW_size]; omega) (by rw [inW_size]; omega) (by rw [inW_size]; omega) (hX.blw ((inW_below w x _).mono hn₀) (Nat.le_refl _)) b0 b1 b2 b3 b4 b5 (by simp [go_sem])
theorem RdX.all {w : World} {B : Nat} {x : Xt} (h : RdX w B x) : ∀ y ∈ x.list, y.ar.length ≤ maxLen := by
  induction x using Xt.ind with
  | h x ih =>
    intro y hy
    rw [Xt.list_eq] at hy
    rcases List.mem_cons.1 hy with rfl | hy
    · exact h.len.1
    · obtain ⟨l, hl, hyl⟩ := List.mem_flatten.1 hy
      obtain ⟨z, hz, rfl⟩ := List.mem_map.1 hl
      exact ih z hz (h.kid hz) y hyl
/-- the first error -/
def firstE (f : Xt → Int) : List Xt → Int
  | [] => 0
  | y :: r => if f y = 0 then firstE f r else f y
theorem firstE_ok {f : Xt → Int} {l : List Xt} (h : ∀ y ∈ l, f y = 0) : firstE f l = 0 := by
  induction l with
  | nil => rfl
  | cons y r ih => rw [firstE, if_pos (h y (by simp))]; exact ih fun z hz => h z (by simp [hz])
theorem firstE_at {f : Xt → Int} {l r : List Xt} {y : Xt} (h : ∀ z ∈ l, f z = 0) (hy : f y ≠ 0) : firstE f (l ++ y :: r) = f y := by
  induction l with
  | nil => rw [List.nil_append, firstE, if_neg hy]
  | cons z l ih => rw [List.cons_append, firstE, if_pos (h z (by simp))]; exact ih fun u hu => h u (by simp [hu])
theorem bx2 {w W : World} {x : Xt} {v : Value} {t : TypeId} (h : Below ((bxW w x).alloc (.cells #[v] t)).heap.size ((bxW w x).alloc (.cells #[v] t)) W) :
    (W.cell? ⟨w.heap.size, 0, none⟩ = some (.int .i64 x.k) ∧ W.cell? ⟨w.heap.size, 1, none⟩ = some (.int .i64 x.op) ∧ W.cell? ⟨w.heap.size, 2, none⟩ = some (.int .i64 x.t) ∧ W.cell? ⟨w.heap.size, 3, none⟩ = some (.int .i64 x.v) ∧ W.cell? ⟨w.heap.size, 4, none⟩ = some (.string x.nm) ∧ W.cell? ⟨w.heap.size, 5, none⟩ = some (.slice x.A x.ar.length x.c)) ∧ (W.cell? ⟨w.heap.size + 1, 0, none⟩ = some v ∧ W.frozen? ⟨w.heap.size + 1, 0, none⟩ = false) ∧ w.heap.size + 1 < W.heap.size ∧ Below w.heap.size w W := by
  have hz := h.size
  have hz2 : ((bxW w x).alloc (.cells #[v] t)).heap.size = w.heap.size + 2 := by simp only [World.size_alloc]
  rw [hz2] at hz
  have hb : Below (bxW w x).heap.size (bxW w x) W := (bel_box _).trans (h.mono (by rw [World.size_alloc]; omega))
  obtain ⟨b0, b1, b2, b3, b4, b5, _⟩ := bxW_cells hb
  refine ⟨⟨b0, b1, b2, b3, b4, b5⟩, ⟨?_, ?_⟩, by omega, bxW_below hb⟩
  · exact (h.cell (p := ⟨w.heap.size + 1, 0, none⟩) (by rw [hz2]; simp)).trans (by simp [go_sem])
  · exact (h.frozen (p := ⟨w.heap.size + 1, 0, none⟩) (by rw [hz2]; simp)).trans (by simp [go_sem])
def chkAll (wok : ByteArray → Bool) (x : Xt) : Int := if 400 < x.size ∨ 32 < x.depth then 3 else firstE (chk1 wok) x.list
set_option maxHeartbeats 2000000 in
set_option maxRecDepth 100000 in
theorem check_any (wok : ByteArray → Bool) (x : Xt) (w : World) (hX : RdX w w.heap.size x) (hN : ∀ y ∈ x.list, NmOk wok w y) : Calls Tryz.prog 16 #[xV x] w (Bel (.int .i64 (chkAll wok x)) w) := by
  have hdd : ∀ k : Nat, (Fence.wide.depth.isSome = true → 1 ≤ k) := fun k h => by cases h
  have KW := Lib.hid (fun W => within_any x 11 W)
  have KE : Hid (∀ W, Below w.heap.size w W → Calls Tryz.prog 29 #[xV x, .int .i64 400] W (Bel (.bool (decide (400 < x.size))) W)) := Lib.hid fun W hb => exceeds_any x 400 W (hX.to hb) (by omega)
  have HX := Lib.hid hX
  have hal := hX.all
  have hsz : x.size ≤ 400 → Hid (∀ W, Below w.heap.size w W → Calls Tryz.prog 18 #[xV x] W (Bel (.int .i64 (x.depth : Nat)) W)) := fun h => Lib.hid fun W hb => depth_any x W (hX.to hb) (by omega)
  clear hX
  simp only [xV] at KW KE hsz ⊢
  refine (callsIn_wide (n := 3)).1 ?_
  by_cases h400 : 400 < x.size
  · rw [chkAll, if_pos (.inl h400)]
    rw [decide_eq_true h400] at KE
    refine callsIn_of_wp_marks Tryz.func16 rfl trivial ?_ rfl
    simp only [Tryz.ntmps16, List.size_toArray, List.length_cons, List.length_nil, Nat.reduceAdd, Nat.reduceSub, Array.replicate_succ, Array.replicate_zero, List.push_toArray, List.append_toArray, List.nil_append, List.cons_append]
    gi_wp2_with (refine ⟨trivial, ?_⟩; gi_at_call 29; refine (callsIn_wide.2 (KE.out _ ?_)).mono ?_; (focus ((repeat (first | (with_reducible exact Below.refl _ _) | (with_reducible assumption) | (with_reducible exact bel_box _) | (with_reducible refine bel_step ?_ (by with_reducible assumption)) | (with_reducible refine Below.drew ?_) | (with_reducible refine below_drewN ?_ _) | (with_reducible refine bel_alloc ?_ _))); done)); rintro e W1 ⟨rfl, hb1⟩; obtain ⟨⟨a0, a1, a2, a3, a4, a5⟩, ⟨r0, r1⟩, hzz, hBB⟩ := bx2 hb1; clear hb1)
    refine ⟨trivial, ?_⟩
    gi_wp2
    refine ⟨.int .i64 3, ?_, rfl, hBB.setCell (p := ⟨w.heap.size + 1, 0, none⟩) (by simp) _⟩
    have hc5 := World.cell?_setCell_same' W1 ⟨w.heap.size + 1, 0, none⟩ (.int .i64 3) (by rw [r0]; rfl)
    simp [results, Tryz.f16, go_sem, hc5]
  rw [decide_eq_false h400] at KE
  have KD := hsz (by omega)
  clear hsz
  have hdl := depth_le x
  by_cases h32 : 32 < x.depth
  · rw [chkAll, if_pos (.inr h32)]
    have u1 : (32 : Int) < (x.depth : Int) := by omega
    refine callsIn_of_wp_marks Tryz.func16 rfl trivial ?_ rfl
    simp only [Tryz.ntmps16, List.size_toArray, List.length_cons, List.length_nil, Nat.reduceAdd, Nat.reduceSub, Array.replicate_succ, Array.replicate_zero, List.push_toArray, List.append_toArray, List.nil_append, List.cons_append]
    gi_wp2_with (first
      | (refine ⟨trivial, ?_⟩; gi_at_call 29; refine (callsIn_wide.2 (KE.out _ ?_)).mono ?_; (focus ((repeat (first | (with_reducible exact Below.refl _ _) | (with_reducible assumption) | (with_reducible exact bel_box _) | (with_reducible refine bel_step ?_ (by with_reducible assumption)) | (with_reducible refine Below.drew ?_) | (with_reducible refine below_drewN ?_ _) | (with_reducible refine bel_alloc ?_ _))); done)); rintro e W1 ⟨rfl, hb1⟩; obtain ⟨⟨a0, a1, a2, a3, a4, a5⟩, ⟨r0, r1⟩, hzz, hBB⟩ := bx2 hb1)
      | (refine ⟨trivial, ?_⟩; gi_at_call 18; refine (callsIn_wide.2 (KD.out _ ?_)).mono ?_; (focus (exact hBB; done)); rintro e W2 ⟨rfl, hb2⟩; obtain ⟨_, ⟨s0, s1⟩, hzy, hBC⟩ := bx2 (hb1.trans (hb2.mono hb1.size))))
    refine ⟨.int .i64 3, ?_, rfl, hBC.setCell (p := ⟨w.heap.size + 1, 0, none⟩) (by simp) _⟩
    have hc5 := World.cell?_setCell_same' W2 ⟨w.heap.size + 1, 0, none⟩ (.int .i64 3) (by rw [s0]; rfl)
    simp [results, Tryz.f16, go_sem, hc5]
  rw [chkAll, if_neg (by omega)]
  have u1 : (x.depth : Int) ≤ 32 := by omega
  refine callsIn_of_wp_marks Tryz.func16 rfl trivial ?_ rfl
  simp only [Tryz.ntmps16, List.size_toArray, List.length_cons, List.length_nil, Nat.reduceAdd, Nat.reduceSub, Array.replicate_succ, Array.replicate_zero, List.push_toArray, List.append_toArray, List.nil_append, List.cons_append]
  gi_wp2_with (first
    | (refine ⟨trivial, ?_⟩; gi_at_call 29; refine (callsIn_wide.2 (KE.out _ ?_)).mono ?_; (focus ((repeat (first | (with_reducible exact Below.refl _ _) | (with_reducible assumption) | (with_reducible exact bel_box _) | (with_reducible refine bel_step ?_ (by with_reducible assumption)) | (with_reducible refine Below.drew ?_) | (with_reducible refine below_drewN ?_ _) | (with_reducible refine bel_alloc ?_ _))); done)); rintro e W1 ⟨rfl, hb1⟩; obtain ⟨⟨a0, a1, a2, a3, a4, a5⟩, ⟨r0, r1⟩, hzz, hBB⟩ := bx2 hb1)
    | (refine ⟨trivial, ?_⟩; gi_at_call 18; refine (callsIn_wide.2 (KD.out _ ?_)).mono ?_; (focus (exact hBB; done)); rintro e W2 ⟨rfl, hb2⟩; obtain ⟨⟨e0, e1, e2, e3, e4, e5⟩, ⟨s0, s1⟩, hzy, hBC⟩ := bx2 (hb1.trans (hb2.mono hb1.size)))
    | (refine ⟨trivial, ?_⟩; gi_at_call 10; refine (callsIn_wide.2 (KW.out _)).mono ?_; rintro e W3 ⟨rfl, rfl⟩))
  have hst := within_atP (fun y => y ∈ x.list) (3 - 1) w.heap.size (fun k => k = w.heap.size + 1) x W2 (fun y h => h) (fun k hk => by subst hk; omega) (by omega) (HX.out.blw hBC (Nat.le_refl _))
  obtain ⟨W0, hW0⟩ : ∃ W0, inW W2 x 11 = W0 := ⟨_, rfl⟩
  have hz0 : W0.heap.size = W2.heap.size + 2 := by rw [← hW0, inW_size]
  have hB0 : Below w.heap.size w W0 := by rw [← hW0]; exact hBC.trans ((inW_below W2 x _).mono (by omega))
  have f2 : W0.cell? ⟨w.heap.size + 1, 0, none⟩ = some (.int .i64 0) := by rw [← hW0]; exact (inW_old (by omega)).1.trans s0
  have f3 : W0.frozen? ⟨w.heap.size + 1, 0, none⟩ = false := by rw [← hW0]; exact (inW_old (by omega)).2.trans s1
  rw [hW0] at hst
  rw [show (bxW W2 x).alloc (.cells #[.func (.func 11) #[] #[]] 30) = W0 from hW0]
  have HN := Lib.hid hN
  have HAL := Lib.hid hal
  clear hW0 KW KE KD HX hN hal a0 a1 a2 a3 a4 a5 r0 r1 e0 e1 e2 e3 e4 e5 s0 s1 hb1 hb2 hBB hBC hzz
  refine wpIn_rangeFunc_ownH rfl (by decide) (gf := 25) (lb := #[.pointer (some ⟨W2.heap.size, 0, none⟩), .pointer (some ⟨W2.heap.size + 1, 0, none⟩)]) rfl trivial (enters_of Tryz.func25 (by kernel_rfl) rfl)
    hst KX_t KX_b (Below.refl _ _) (fun _ => rfl)
    (fun pre W => ((∀ y ∈ pre, chk1 wok y.1 = 0) ∧ W.cell? ⟨w.heap.size + 1, 0, none⟩ = some (.int .i64 0) ∧ W.frozen? ⟨w.heap.size + 1, 0, none⟩ = false) ∧ Below w.heap.size w W)
    (fun c pre W => (c = .ret ∧ ∃ q y, pre = q ++ [y] ∧ (∀ z ∈ q, chk1 wok z.1 = 0) ∧ chk1 wok y.1 ≠ 0 ∧ W.cell? ⟨w.heap.size + 1, 0, none⟩ = some (.int .i64 (chk1 wok y.1))) ∧ Below w.heap.size w W)
    (OwnFrom.and (Own.from (fun s A B row hs hg hr => ⟨hs.1, cell_kept hs.2.1 hg hr, (frozen_kept hs.2.1 hg hr).trans hs.2.2⟩) _) (ownFrom_below (Nat.le_refl _) (by omega)))
    (fun c => OwnFrom.and (Own.from (fun s A B row hs hg hr => by
      obtain ⟨h1, q, y, h2, h3, h4, h5⟩ := hs
      exact ⟨h1, q, y, h2, h3, h4, cell_kept h5 hg hr⟩) _) (ownFrom_below (Nat.le_refl _) (by omega)))
    ⟨⟨by simp, f2, f3⟩, hB0⟩
    (fun y a' W => ∃ Bx, (w.heap.size + 2 ≤ Bx ∧ W.cell? ⟨Bx, 0, none⟩ = some (.int .i64 y.1.k) ∧ W.cell? ⟨Bx, 1, none⟩ = some (.int .i64 y.1.op) ∧ W.cell? ⟨Bx, 2, none⟩ = some (.int .i64 y.1.t) ∧ W.cell? ⟨Bx, 3, none⟩ = some (.int .i64 y.1.v) ∧ W.cell? ⟨Bx, 4, none⟩ = some (.string y.1.nm) ∧ W.cell? ⟨Bx, 5, none⟩ = some (.slice y.1.A y.1.ar.length y.1.c)) ∧ a' = { tmps := #[.agg #[.int .i64 x.k, .int .i64 x.op, .int .i64 x.t, .int .i64 x.v, .string x.nm, .slice x.A x.ar.length x.c], .pointer (some ⟨w.heap.size, 0, none⟩), .pointer (some ⟨w.heap.size + 1, 0, none⟩), .pointer (some ⟨Bx, 0, none⟩), undef, .agg #[.int .i64 x.k, .int .i64 x.op, .int .i64 x.t, .int .i64 x.v, .string x.nm, .slice x.A x.ar.length x.c], .bool false, .bool false, .agg #[.int .i64 x.k, .int .i64 x.op, .int .i64 x.t, .int .i64 x.v, .string x.nm, .slice x.A x.ar.length x.c], .int .i64 (x.depth : Int), .bool (decide ((32 : Int) < (x.depth : Int))), .bool (decide ((32 : Int) < (x.depth : Int))), .agg #[.int .i64 x.k, .int .i64 x.op, .int .i64 x.t, .int .i64 x.v, .string x.nm, .slice x.A x.ar.length x.c], .func (.func 25) #[] #[.pointer (some ⟨W2.heap.size, 0, none⟩), .pointer (some ⟨W2.heap.size + 1, 0, none⟩)], xV y.1, undef, undef, undef, undef, undef], defers := [] })
    (fun y a' s A B row hs hg hr => by
      obtain ⟨Bx, ⟨h1, h2, h3, h4, h5, h6, h7⟩, h8⟩ := hs
      exact ⟨Bx, ⟨h1, cell_kept h2 hg (fun r e => (hr r e).2), cell_kept h3 hg (fun r e => (hr r e).2), cell_kept h4 hg (fun r e => (hr r e).2), cell_kept h5 hg (fun r e => (hr r e).2), cell_kept h6 hg (fun r e => (hr r e).2), cell_kept h7 hg (fun r e => (hr r e).2)⟩, h8⟩) ?assign ?body ?done ?stop
  case assign =>
    rintro l pre y W K ⟨⟨i1, i2, i3⟩, hB⟩ hK
    rw [fold1]
    simp only [xV] at hK ⊢
    gi_wp2
    obtain ⟨d0, d1, d2, d3, d4, d5⟩ := bx_box W y.1
    exact hK _ _ ((KeepsOthers.alloc _ _).from _) (KX.of_below (bel_box _)) ⟨⟨i1, cell_al _ i2, frozen_al _ i2 i3⟩, bel_alloc hB _⟩ ⟨W.heap.size, ⟨by have := World.block_lt_of_cell? W _ i2; simp only at this; omega, d0, d1, d2, d3, d4, d5⟩, rfl⟩
  case body =>
    rintro l pre y a' W hl ⟨r, hr⟩ ⟨⟨i1, i2, i3⟩, hB⟩ ⟨Bx, ⟨hBx, d0, d1, d2, d3, d4, d5⟩, rfl⟩ hlt
    have hbk := World.block_lt_of_cell? W _ i2
    have KC : Hid (Calls Tryz.prog 30 #[xV y.1] W (Bel (.int .i64 (chk1 wok y.1)) W)) := Lib.hid (checkone_any wok y.1 W (HAL.out _ y.2) ((HN.out _ y.2).to hB))
    simp only [xV] at KC
    by_cases hc : chk1 wok y.1 = 0
    · gi_wp2_with (refine ⟨trivial, ?_⟩; gi_at_call 30; refine (CallsIn.inRound l (callsIn_wide.2 KC.out)).mono ?_; rintro e W5 ⟨rfl, hb5⟩)
      exact ⟨(KeepsOthers.of_grownBy (below_grown hb5) (fun j o e => by cases e)).from _, KX.of_below hb5, ⟨fun z hz => (List.mem_append.1 hz).elim (i1 z) (fun h => by rw [List.mem_singleton.1 h]; exact hc), (hb5.cell (p := ⟨w.heap.size + 1, 0, none⟩) hbk).trans i2, (hb5.frozen (p := ⟨w.heap.size + 1, 0, none⟩) hbk).trans i3⟩, hB.trans (hb5.mono hB.size)⟩
    · gi_wp2_with (refine ⟨trivial, ?_⟩; gi_at_call 30; refine (CallsIn.inRound l (callsIn_wide.2 KC.out)).mono ?_; rintro e W5 ⟨rfl, hb5⟩; have j2 := (hb5.cell (p := ⟨w.heap.size + 1, 0, none⟩) hbk).trans i2; have j3 := (hb5.frozen (p := ⟨w.heap.size + 1, 0, none⟩) hbk).trans i3)
      exact ⟨((KeepsOthers.of_grownBy (below_grown hb5) (fun j o e => by cases e)).trans (KeepsOthers.setCell _ _ _)).from _, ⟨rfl, pre, y, rfl, i1, hc, World.cell?_setCell_same' _ _ _ (by rw [j2]; rfl)⟩, (hB.trans (hb5.mono hB.size)).setCell (p := ⟨w.heap.size + 1, 0, none⟩) (by simp) _⟩
  case done =>
    rintro D ys W hD hys ⟨⟨hn, hc, hf⟩, hB⟩ hK
    have hv : firstE (chk1 wok) x.list = 0 := firstE_ok fun y hy => by
      rw [← hys] at hy
      obtain ⟨z, hz, rfl⟩ := List.mem_map.1 hy
      exact hn z hz
    gi_wp2
    have hK' := (KeepsOthers.setCell W ⟨w.heap.size + 1, 0, none⟩ (.int .i64 0)).same D _ hK rfl
    refine ⟨by simp, .inl ⟨_, _, rfl, run_takeDeferred hK', ?_⟩⟩
    have hc5 := cell_kept (World.cell?_setCell_same' W ⟨w.heap.size + 1, 0, none⟩ (.int .i64 0) (by rw [hc]; rfl)) (grownBy_putObj' _ D (.deferred none)) (fun r e => by cases e; exact ⟨_, hK', rfl⟩)
    refine ⟨.int .i64 0, ?_, rfl, (hB.setCell (p := ⟨w.heap.size + 1, 0, none⟩) (by simp) _).trans (belowK_b (w := w) (Nat.le_refl _) _ D _ _ (by omega) hK' rfl rfl)⟩
    simp [results, Tryz.f16, go_sem, hc5]
  case stop =>
    rintro D c pre W hD ⟨t, ht⟩ ⟨⟨rfl, q, y, rfl, hq, hy, hc⟩, hB⟩ hK
    have hv : firstE (chk1 wok) x.list = chk1 wok y.1 := by
      have hl : x.list = q.map (·.1) ++ y.1 :: t := ht.symm.trans (by rw [List.map_append, List.append_assoc]; rfl)
      exact (congrArg _ hl).trans (firstE_at (fun z hz => by obtain ⟨u, hu, rfl⟩ := List.mem_map.1 hz; exact hq u hu) hy)
    gi_wp2
    refine ⟨by simp, .inl ⟨_, _, rfl, run_takeDeferred hK, ?_⟩⟩
    have hc5 := cell_kept hc (grownBy_putObj' _ D (.deferred none)) (fun r e => by cases e; exact ⟨_, hK, rfl⟩)
    refine ⟨.int .i64 (chk1 wok y.1), ?_, rfl, hB.trans (belowK_b (w := w) (Nat.le_refl _) W D _ _ (by omega) hK rfl rfl)⟩
    simp [results, Tryz.f16, go_sem, hc5]
end Go.Proofs.YtoekgbdomeklgaaGreatDoor
/- Same of both, by the content of a tree. -/
namespace Go.Proofs.YtoekgbdomeklgaaGreatDoor
set_option linter.unusedVariables false
set_option linter.unusedSimpArgs false
open Go.RowKit Go.Sort
/-- what a tree says, without its addresses -/
inductive Xc where
  | mk (k op t v : Int) (nm : List UInt8) (ar : List Xc)
def Xt.ct (x : Xt) : Xc := .mk x.k x.op x.t x.v x.nm.toList (x.ar.attach.map fun a => Xt.ct a.1)
termination_by SizeOf.sizeOf x
decreasing_by exact Xt.lt_of_mem a.2
theorem Xt.ct_eq (x : Xt) : x.ct = .mk x.k x.op x.t x.v x.nm.toList (x.ar.map Xt.ct) := by
  rw [Xt.ct]
  congr 1
  simp
open Classical in
noncomputable def sameX (a b : Xt) : Bool := decide (a.ct = b.ct)
open Classical in
theorem sameX_iff {a b : Xt} : sameX a b = true ↔ a.ct = b.ct := by
  unfold sameX; exact decide_eq_true_iff
theorem sameX_yes {a b : Xt} (h : a.ct = b.ct) : sameX a b = true := sameX_iff.2 h
theorem sameX_no {a b : Xt} (h : ¬ a.ct = b.ct) : sameX a b = false := by
  cases q : sameX a b
  · rfl
  · exact absurd (sameX_iff.1 q) h
theorem ct_parts {a b : Xt} (h : a.ct = b.ct) : a.k = b.k ∧ a.op = b.op ∧ a.t = b.t ∧ a.v = b.v ∧ a.nm.toList = b.nm.toList ∧ a.ar.map Xt.ct = b.ar.map Xt.ct ∧ a.ar.length = b.ar.length := by
  rw [Xt.ct_eq, Xt.ct_eq] at h
  injection h with h1 h2 h3 h4 h5 h6
  exact ⟨h1, h2, h3, h4, h5, h6, by have := congrArg List.length h6; simpa using this⟩
theorem ct_of {a b : Xt} (h1 : a.k = b.k) (h2 : a.op = b.op) (h3 : a.t = b.t) (h4 : a.v = b.v) (h5 : a.nm.toList = b.nm.toList) (h6 : a.ar.map Xt.ct = b.ar.map Xt.ct) : a.ct = b.ct := by
  rw [Xt.ct_eq, Xt.ct_eq, h1, h2, h3, h4, h5, h6]
theorem ct_take {a b : List Xt} {k : Nat} {y z : Xt} (ha : a[k]? = some y) (hb : b[k]? = some z) (h : (a.take k).map Xt.ct = (b.take k).map Xt.ct) (hy : sameX y z = true) : (a.take (k + 1)).map Xt.ct = (b.take (k + 1)).map Xt.ct := by
  rw [take_succ_of ha, take_succ_of hb, List.map_append, List.map_append, h, List.map_singleton, List.map_singleton, sameX_iff.1 hy]
theorem ct_differ {a b : List Xt} {k : Nat} {y z : Xt} (ha : a[k]? = some y) (hb : b[k]? = some z) (hy : sameX y z = false) : ¬ a.map Xt.ct = b.map Xt.ct := by
  intro e
  have h := congrArg (fun l => l[k]?) e
  simp only [List.getElem?_map, ha, hb, Option.map_some] at h
  rw [sameX_yes (Option.some.inj h)] at hy
  cases hy
set_option maxHeartbeats 2000000 in
set_option maxRecDepth 20000 in
theorem rsameX_all (a : Xt) : ∀ (b : Xt) w, RdX w w.heap.size a → RdX w w.heap.size b → Calls Tryz.prog 8 #[xV a, xV b] w (Bel (.bool (sameX a b)) w) := by
  induction a using Xt.ind with
  | h a ih =>
    intro b w hA hB
    have h9 := hA.len.1
    have h9b := hB.len.1
    unfold maxLen at h9 h9b
    have IH : Hid (∀ (k : Nat) (y : Xt), a.ar[k]? = some y → ∀ (z : Xt) W, RdX W W.heap.size y → RdX W W.heap.size z → Calls Tryz.prog 8 #[xV y, xV z] W (Bel (.bool (sameX y z)) W)) := Lib.hid fun k y hy z W h1 h2 => ih y (List.mem_of_getElem? hy) z W h1 h2
    clear ih
    simp only [xV] at IH ⊢
    have HA := Lib.hid hA
    have HB := Lib.hid hB
    clear hA hB
    obtain ⟨b0, b1, b2, b3, b4, b5, b6⟩ := bxW_cells (w := w) (x := a) (W := bxW (bxW w a) b) (bel_box _)
    obtain ⟨d0, d1, d2, d3, d4, d5, d6⟩ := bxW_cells (w := bxW w a) (x := b) (W := bxW (bxW w a) b) (Below.refl _ _)
    rw [bxW_size] at d0 d1 d2 d3 d4 d5 d6
    have hBW : Below w.heap.size w (bxW (bxW w a) b) := bel_alloc (bel_box _) _
    obtain ⟨V, hV⟩ : ∃ V, sameX a b = V := ⟨_, rfl⟩
    have HN : Hid (¬ a.ct = b.ct → V = false) := Lib.hid fun h => hV ▸ sameX_no h
    have HY : Hid (a.ct = b.ct → V = true) := Lib.hid fun h => hV ▸ sameX_yes h
    rw [hV]
    clear hV
    cases q1 : (a.k != b.k)
    case true =>
      have hv : V = false := HN.out fun e => by
        obtain ⟨g1, g2, g3, g4, g5, g6, g7⟩ := ct_parts e
        simp [g1] at q1
      clear HN HY IH HA HB
      go_enter Tryz.func8, Tryz.ntmps8
      go_wp2
      go_ret
      exact ⟨by rw [hv]; rfl, hBW⟩
    cases q2 : (a.op != b.op)
    case true =>
      have hv : V = false := HN.out fun e => by
        obtain ⟨g1, g2, g3, g4, g5, g6, g7⟩ := ct_parts e
        simp [g2] at q2
      clear HN HY IH HA HB
      go_enter Tryz.func8, Tryz.ntmps8
      go_wp2
      go_ret
      exact ⟨by rw [hv]; rfl, hBW⟩
    cases q3 : (a.t != b.t)
    case true =>
      have hv : V = false := HN.out fun e => by
        obtain ⟨g1, g2, g3, g4, g5, g6, g7⟩ := ct_parts e
        simp [g3] at q3
      clear HN HY IH HA HB
      go_enter Tryz.func8, Tryz.ntmps8
      go_wp2
      go_ret
      exact ⟨by rw [hv]; rfl, hBW⟩
    cases q4 : (a.v != b.v)
    case true =>
      have hv : V = false := HN.out fun e => by
        obtain ⟨g1, g2, g3, g4, g5, g6, g7⟩ := ct_parts e
        simp [g4] at q4
      clear HN HY IH HA HB
      go_enter Tryz.func8, Tryz.ntmps8
      go_wp2
      go_ret
      exact ⟨by rw [hv]; rfl, hBW⟩
    cases q5 : (a.nm.toList == b.nm.toList)
    case false =>
      have hv : V = false := HN.out fun e => by
        obtain ⟨g1, g2, g3, g4, g5, g6, g7⟩ := ct_parts e
        simp [g5] at q5
      clear HN HY IH HA HB
      go_enter Tryz.func8, Tryz.ntmps8
      go_wp2
      go_ret
      exact ⟨by rw [hv]; rfl, hBW⟩
    cases q6 : (((a.ar.length : Nat) : Int) != ((b.ar.length : Nat) : Int))
    case true =>
      have hv : V = false := HN.out fun e => by
        obtain ⟨g1, g2, g3, g4, g5, g6, g7⟩ := ct_parts e
        simp [g7] at q6
      clear HN HY IH HA HB
      go_enter Tryz.func8, Tryz.ntmps8
      go_wp2
      go_ret
      exact ⟨by rw [hv]; rfl, hBW⟩
    have p1 : a.k = b.k := by simpa using q1
    have p2 : a.op = b.op := by simpa using q2
    have p3 : a.t = b.t := by simpa using q3
    have p4 : a.v = b.v := by simpa using q4
    have p5 : a.nm.toList = b.nm.toList := by simpa using q5
    have HP := Lib.hid (And.intro p1 (And.intro p2 (And.intro p3 (And.intro p4 p5))))
    clear p1 p2 p3 p4 p5
    go_enter Tryz.func8, Tryz.ntmps8
    go_wp2
    have hll : a.ar.length = b.ar.length := by
      have h : ((a.ar.length : Nat) : Int) = ((b.ar.length : Nat) : Int) := by simpa using q6
      omega
    have HLL := Lib.hid hll
    clear hll
    clear q1 q2 q3 q4 q5 q6 b0 b1 b2 b3 b4 b5 b6 d0 d1 d2 d3 d4 d5 d6
    go_loopw [5] (fun i wr => ∃ k : Nat, k ≤ a.ar.length ∧ i = .int .i64 (k : Int) ∧ Below (bxW (bxW w a) b).heap.size (bxW (bxW w a) b) wr ∧ Hid ((a.ar.take k).map Xt.ct = (b.ar.take k).map Xt.ct)) (fun i _ => a.ar.length - (intOf i).toNat)
    case atStart => exact ⟨0, by omega, rfl, Below.refl _ _, Lib.hid rfl⟩
    case round =>
      obtain ⟨k, hk, rfl, hbl, hno⟩ := hrel
      have hb0 : Below (bxW w a).heap.size (bxW w a) wr := (bel_box _).trans (hbl.mono (by rw [bxW_size (bxW w a)]; omega))
      obtain ⟨b0, b1, b2, b3, b4, b5, b6⟩ := bxW_cells hb0
      obtain ⟨d0, d1, d2, d3, d4, d5, d6⟩ := bxW_cells (w := bxW w a) (x := b) hbl
      rw [bxW_size] at d0 d1 d2 d3 d4 d5 d6
      have hbw := bxW_below hb0
      by_cases hlt : k < a.ar.length
      · obtain ⟨ad, y, hA, had, hy, hm, ⟨c0, c1, c2, c3, c4, c5⟩, hr⟩ := (HA.out.to hbw).at_ hlt
        have hlt2 : k < b.ar.length := by have := HLL.out; omega
        obtain ⟨ad', z, hA', had', hz, hm', ⟨e0, e1, e2, e3, e4, e5⟩, hr'⟩ := (HB.out.to hbw).at_ (i := k) hlt2
        have H1 := fun h => ct_take hy hz hno.out h
        have H2 := fun h => ct_differ hy hz h
        have KS := IH.out k y hy z
        generalize sameX y z = r at H1 H2 KS
        have c1' := fun dd os => Calls.regrown_of (KS (grow (redrawn wr dd) os) (hr.to (below_regrown wr dd os)) (hr'.to (below_regrown wr dd os)))
        rw [hA] at b5
        rw [hA'] at d5
        clear hA hA' hy hz hm hm' KS hr hr'
        have f5 := cell_regrown b5
        have g5 := cell_regrown d5
        have f6 := cell_regrown c0
        have f7 := cell_regrown c1
        have f8 := cell_regrown c2
        have f9 := cell_regrown c3
        have f10 := cell_regrown c4
        have f11 := cell_regrown c5
        have g6 := cell_regrown e0
        have g7 := cell_regrown e1
        have g8 := cell_regrown e2
        have g9 := cell_regrown e3
        have g10 := cell_regrown e4
        have g11 := cell_regrown e5
        clear b0 b1 b2 b3 b4 d0 d1 d2 d3 d4 c0 c1 c2 c3 c4 c5 e0 e1 e2 e3 e4 e5
        cases r
        · have H := Lib.hid (HN.out fun e => H2 rfl (ct_parts e).2.2.2.2.2.1)
          clear H1 H2 HN HY HP IH hno
          go_wp2
          refine wp_region_quiet_below (by kernel_rfl) (by kernel_rfl) ?_
          repeat (quiet_step (with_reducible exact c1' _ _))
          refine wpQuiet_nil ?_
          intro _ hw'
          obtain ⟨⟨dq, osq⟩, hw''⟩ := hw'
          subst hw''
          go_wp2
          go_ret
          exact ⟨by rw [H.out]; rfl, hbw.trans ((below_regrown wr dq osq).mono hbw.size)⟩
        · have H := Lib.hid (H1 rfl)
          clear H1 H2 HN HY HP IH hno
          go_wp2
          refine wp_region_quiet_below (by kernel_rfl) (by kernel_rfl) ?_
          repeat (quiet_step (with_reducible exact c1' _ _))
          refine wpQuiet_nil ?_
          intro _ hw'
          obtain ⟨⟨dq, osq⟩, hw''⟩ := hw'
          subst hw''
          go_wp2
          go_roundw
          case rel => exact ⟨k + 1, by omega, by go_num, hbl.trans ((below_regrown wr dq osq).mono hbl.size), H⟩
          case measure => simp [intOf]; omega
      · obtain rfl : k = a.ar.length := by omega
        have h1 := hno.out
        rw [List.take_length, HLL.out, List.take_length] at h1
        have h2 := HY.out (ct_of HP.out.1 HP.out.2.1 HP.out.2.2.1 HP.out.2.2.2.1 HP.out.2.2.2.2 h1)
        clear h1 hno HP HN HY IH
        go_wp2
        go_ret
        exact ⟨by rw [h2]; rfl, hbw⟩
end Go.Proofs.YtoekgbdomeklgaaGreatDoor
/- The list of expressions, of the reference. -/
namespace Go.Proofs.YtoekgbdomeklgaaGreatDoor
set_option linter.unusedVariables false
set_option linter.unusedSimpArgs false
open Go.RowKit
def xCs (x : Xt) : List Value := [.int .i64 x.k, .int .i64 x.op, .int .i64 x.t, .int .i64 x.v, .string x.nm, .slice x.A x.ar.length x.c]
def xsC (l : List Xt) : List Value := l.flatMap xCs
theorem xsC_length (l : List Xt) : (xsC l).length = l.length * 6 := by
  induction l with
  | nil => rfl
  | cons a r ih => simp [xsC, xCs] at ih ⊢; omega
theorem xsC_app (l r : List Xt) : xsC (l ++ r) = xsC l ++ xsC r := by simp [xsC]
theorem xpInfo : (Tryz.prog.info? 24).map (fun i => (i.zero, i.size, i.bytes)) = some (some (.agg #[.int .i64 0, .int .i64 0, .int .i64 0, .int .i64 0, .string ⟨#[]⟩, .slice none 0 0]), 6, 72) := by kernel_rfl
theorem own_keep6 {w W : World} {base n size : Nat} {e : TypeId} {v : Value} {xs : List Value} (h : w.ownsRow base e size v n xs) (hb : Below w.heap.size w W) : W.ownsRow base e size v n xs := by
  refine ⟨h.1, h.2.imp id fun ⟨g, cap, cur, e1, h1, h2, r⟩ => ⟨g, cap, cur, e1, h1, ?_, r⟩⟩
  rw [hb.block g (Array.getElem?_eq_some_iff.1 h2).1]
  exact h2
theorem own_form6 {w : World} {base n size : Nat} {e : TypeId} {v : Value} {xs : List Value} (h : w.ownsRow base e size v n xs) : ∃ A c, v = .slice A n c := by
  rcases h.2 with ⟨rfl, rfl⟩ | ⟨g, cap, cur, rfl, _⟩
  · exact ⟨_, _, rfl⟩
  · exact ⟨_, _, rfl⟩
theorem x_one (x : Xt) : ∀ u ∈ xCs x, u.oneCell' = true := by
  intro u hu
  simp [xCs] at hu
  rcases hu with rfl | rfl | rfl | rfl | rfl | rfl <;> rfl
theorem row6 (w : World) (o : Obj) (x : Xt) (t : TypeId) : ∀ j u, (xCs x)[j]? = some u → ((w.alloc o).alloc (.cells #[.int .i64 x.k, .int .i64 x.op, .int .i64 x.t, .int .i64 x.v, .string x.nm, .slice x.A x.ar.length x.c] t)).cell? ((⟨w.heap.size + 1, 0, none⟩ : Addr).add j) = some u := by
  intro j u hu
  have e : w.heap.size + 1 = (w.alloc o).heap.size := (World.size_alloc _ _).symm
  rw [e]
  have hz : ∀ k : Nat, ((w.alloc o).alloc (.cells #[.int .i64 x.k, .int .i64 x.op, .int .i64 x.t, .int .i64 x.v, .string x.nm, .slice x.A x.ar.length x.c] t)).cell? ((⟨(w.alloc o).heap.size, 0, none⟩ : Addr).add k) = (xCs x)[k]? := by
    intro k
    rcases k with _ | _ | _ | _ | _ | _ | k <;> simp [go_sem, Addr.add, xCs]
  rw [hz]; exact hu
/-- the row l behind list, from the row v -/
def LsR (w : World) (B : Nat) (v : Value) (n : Nat) (xs : List Value) (w' : World) (v' : Value) : Prop := w'.ownsRow B 24 6 v' n xs ∧ w.grownBy w' v.ownBlock ∧ (v'.ownBlock = v.ownBlock ∨ ∃ j, v'.ownBlock = some j ∧ w.heap.size ≤ j)
/-- the row l while list is under way -/
def LsI (w : World) (x : Xt) (B : Nat) (ob : Option Nat) (n : Nat) (xs : List Value) (v : Value) (wr : World) : Prop := wr.ownsRow B 24 6 v n xs ∧ (bxW w x).grownBy wr ob ∧ (v.ownBlock = ob ∨ ∃ j, v.ownBlock = some j ∧ (bxW w x).heap.size ≤ j)
theorem LsI.open_ {w wr : World} {x : Xt} {B n : Nat} {ob : Option Nat} {xs : List Value} {v : Value} (h : LsI w x B ob n xs v wr) (hB : B ≤ w.heap.size) (hl : ∀ j, ob = some j → B ≤ j ∧ j < w.heap.size) :
    Below B w wr ∧ (wr.cell? ⟨w.heap.size, 0, none⟩ = some (.int .i64 x.k) ∧ wr.cell? ⟨w.heap.size, 1, none⟩ = some (.int .i64 x.op) ∧ wr.cell? ⟨w.heap.size, 2, none⟩ = some (.int .i64 x.t) ∧ wr.cell? ⟨w.heap.size, 3, none⟩ = some (.int .i64 x.v) ∧ wr.cell? ⟨w.heap.size, 4, none⟩ = some (.string x.nm) ∧ wr.cell? ⟨w.heap.size, 5, none⟩ = some (.slice x.A x.ar.length x.c)) ∧ w.heap.size < wr.heap.size := by
  obtain ⟨_, hg, _⟩ := h
  have hz := hg.size
  rw [bxW_size] at hz
  have hne : some w.heap.size ≠ ob := fun e => by have := (hl _ e.symm).2; omega
  refine ⟨Below.grown ((bel_box _).mono hB) hg (by rw [bxW_size]; omega) (fun j hj => (hl j hj).1), ⟨?_, ?_, ?_, ?_, ?_, ?_⟩, by omega⟩ <;> exact hg.cell (by simp [go_sem]) hne
theorem LsI.next {w wr w1 : World} {x : Xt} {B n m : Nat} {ob : Option Nat} {xs ys : List Value} {v v' : Value} (h : LsI w x B ob n xs v wr) (k : LsR wr B v m ys w1 v') : LsI w x B ob m ys v' w1 := by
  obtain ⟨_, hg, ha⟩ := h
  obtain ⟨k1, k2, k3⟩ := k
  have hz := hg.size
  refine ⟨k1, hg.andThen k2 fun j hj => ?_, ?_⟩
  · rcases ha with ha | ⟨j', e, hj'⟩
    · exact .inr (ha.symm.trans hj)
    · rw [e] at hj
      exact .inl (by have := Option.some.inj hj; omega)
  · rcases k3 with k3 | ⟨j, e, hj⟩
    · rw [k3]; exact ha
    · exact .inr ⟨j, e, by omega⟩
theorem LsI.first {w W w3 : World} {x : Xt} {B m : Nat} {ob : Option Nat} {ys : List Value} {v' : Value} (hW : Below (bxW w x).heap.size (bxW w x) W) (h1 : w3.ownsRow B 24 6 v' m ys) (h2 : W.grownBy w3 ob) (h3 : v'.ownBlock = ob ∨ v'.ownBlock = some W.heap.size) : LsI w x B ob m ys v' w3 := by
  refine ⟨h1, ?_, h3.imp id fun e => ⟨_, e, hW.size⟩⟩
  exact ((below_grown hW).but ob).andThen h2 fun j hj => .inr hj
theorem LsI.last {w wr : World} {x : Xt} {B n : Nat} {v0 : Value} {xs : List Value} {v : Value} (h : LsI w x B v0.ownBlock n xs v wr) : LsR w B v0 n xs wr v := by
  obtain ⟨h1, h2, h3⟩ := h
  refine ⟨h1, (World.grownBy_alloc w _ _).trans h2, h3.imp id fun ⟨j, e, hj⟩ => ⟨j, e, by rw [bxW_size] at hj; omega⟩⟩
set_option maxHeartbeats 1000000 in
set_option maxRecDepth 20000 in
theorem rlist_any (x : Xt) : ∀ w B v n xs, B ≤ w.heap.size → RdX w B x → w.ownsRow B 24 6 v n xs → n + x.size ≤ 1048576 → Calls Tryz.prog 24 #[xV x, v] w (fun e w' => ∃ v', e = .returned v' ∧ LsR w B v (n + x.size) (xs ++ xsC x.list) w' v') := by
  obtain ⟨i0, hi, iz, is, ib⟩ := info_parts xpInfo
  induction x using Xt.ind with
  | h x ih =>
    intro w B v n xs hB hX hown hS
    obtain ⟨V, cv, rfl⟩ := own_form6 hown
    have h9 := hX.len.1
    unfold maxLen at h9
    have HX := Lib.hid hX
    have IH := Lib.hid ih
    have HO := Lib.hid hown
    clear hX ih hown
    obtain ⟨F, hF, hF0, hFl, HF, HFl⟩ := parts_sum x
    rw [hF] at hS ⊢
    simp only [xV] at IH ⊢
    go_enter Tryz.func24, Tryz.ntmps24
    go_wp2_with (at_builtin; (refine wpList_append_own_at _ rfl _ _ 22 rfl B 24 i0 (.agg #[.int .i64 0, .int .i64 0, .int .i64 0, .int .i64 0, .string ⟨#[]⟩, .slice none 0 0]) 6 72 Tryz.underlying22 hi iz is ib rfl (by decide) _ n xs rfl (own_keep6 HO.out ?_) ⟨w.heap.size + 1, 0, none⟩ 1 1 (xCs x) rfl rfl (row6 _ _ _ _) (x_one x) (by unfold maxLen; omega) (by omega) ?_ ?_; (focus ((repeat (first | (with_reducible exact Below.refl _ _) | (with_reducible assumption) | (with_reducible exact bel_box _) | (with_reducible refine bel_step ?_ (by with_reducible assumption)) | (with_reducible refine Below.drew ?_) | (with_reducible refine below_drewN ?_ _) | (with_reducible refine bel_alloc ?_ _))); done)); (focus (simp; omega)); intro v3 w3 hown3 hgrow3 _ hat3; have HI := LsI.first (w := w) (x := x) (by repeat (first | (with_reducible exact Below.refl _ _) | (with_reducible assumption) | (with_reducible exact bel_box _) | (with_reducible refine bel_step ?_ (by with_reducible assumption)) | (with_reducible refine Below.drew ?_) | (with_reducible refine below_drewN ?_ _) | (with_reducible refine bel_alloc ?_ _))) hown3 (ob := (Value.slice V n cv).ownBlock) hgrow3 hat3; clear hown3 hgrow3 hat3))
    have hlt := Lib.hid (fun j (h : (Value.slice V n cv).ownBlock = some j) => HO.out.lt j h)
    obtain ⟨v0, hv0⟩ : ∃ v0, Value.slice V n cv = v0 := ⟨_, rfl⟩
    rw [hv0] at HI hlt
    go_loopw [1, 5] (fun v i wr => ∃ k : Nat, k ≤ x.ar.length ∧ i = .int .i64 (k : Int) ∧ LsI w x B v0.ownBlock (n + 1 + F k) (xs ++ xsC (x :: ((x.ar.take k).map Xt.list).flatten)) v wr) (fun _ i _ => x.ar.length - (intOf i).toNat)
    case atStart => exact ⟨0, by omega, rfl, by rw [hF0]; simpa [xsC] using HI⟩
    case round =>
      obtain ⟨k, hk, rfl, hI⟩ := hrel
      obtain ⟨hBB, ⟨b0, b1, b2, b3, b4, b5⟩, b6⟩ := hI.open_ hB hlt.out
      by_cases hlk : k < x.ar.length
      · obtain ⟨ad, y, hA, had, hy, hm, ⟨c0, c1, c2, c3, c4, c5⟩, hr⟩ := (HX.out.blw hBB (Nat.le_refl _)).at_ hlk
        rw [hA] at b5
        clear hA
        have hn1 := HF.out k y hy
        have hn2 := HFl.out (k + 1)
        have HT : Hid ((x.ar.take (k + 1)).map Xt.list = (x.ar.take k).map Xt.list ++ [y.list]) := Lib.hid (by rw [take_succ_of hy, List.map_append]; rfl)
        have HII := Lib.hid hI
        have HIo := Lib.hid hI.1
        clear hy hI HI hv0
        go_wp2_with (go_at_call 24; (with_reducible refine (IH.out y hm _ B _ _ _ (by omega) hr HIo.out (by omega)).mono ?_); rintro e w1 ⟨v', rfl, hl⟩)
        have hJ := HII.out.next hl
        refine ⟨⟨k + 1, by omega, by congr 1, ?_⟩, by simp [intOf]; omega⟩
        rw [HT.out, show n + 1 + F (k + 1) = n + 1 + F k + y.size by omega]
        rwa [List.append_assoc, ← xsC_app, List.cons_append, show (List.map Xt.list (List.take k x.ar)).flatten ++ y.list = (List.map Xt.list (List.take k x.ar) ++ [y.list]).flatten by simp] at hJ
      · obtain rfl : k = x.ar.length := by omega
        go_wp2
        go_ret
        refine ⟨_, rfl, ?_⟩
        have hJ := hI.last
        rw [List.take_length, ← Xt.list_eq] at hJ
        rwa [hv0, show n + (1 + F x.ar.length) = n + 1 + F x.ar.length by omega]
end Go.Proofs.YtoekgbdomeklgaaGreatDoor
/- List, Count, Stateless of the reference. -/
namespace Go.Proofs.YtoekgbdomeklgaaGreatDoor
set_option linter.unusedVariables false
set_option linter.unusedSimpArgs false
open Go.RowKit Go.Sort
/-- A reads as these expressions, below block B -/
def RdXs (w : World) (B : Nat) (A : Option Addr) (l : List Xt) : Prop := l ≠ [] → ∃ ad, A = some ad ∧ ad.block < B ∧ ∀ (i : Nat) (y : Xt), l[i]? = some y → XC w (ad.add (i * 6)) y
theorem RdXs.to {w W : World} {A : Option Addr} {l : List Xt} (h : RdXs w w.heap.size A l) (hb : Below w.heap.size w W) : RdXs W W.heap.size A l := fun hn => by
  obtain ⟨ad, e, hB, hc⟩ := h hn
  have hs := hb.size
  exact ⟨ad, e, by omega, fun i t ht => (hc i t ht).keep fun p hp => hb.cell (by rw [hp, add_block]; exact hB)⟩
theorem RdXs.at_ {w : World} {B : Nat} {A : Option Addr} {l : List Xt} (h : RdXs w B A l) {k : Nat} (hk : k < l.length) : ∃ ad y, A = some ad ∧ ad.block < B ∧ l[k]? = some y ∧ y ∈ l ∧ XC w (ad.add (k * 6)) y := by
  have he : l[k]? = some l[k] := List.getElem?_eq_getElem hk
  obtain ⟨ad, e, hb, hc⟩ := h (by rintro rfl; simp at hk)
  exact ⟨ad, _, e, hb, he, List.mem_of_getElem? he, hc k _ he⟩
theorem xsC_get (l : List Xt) (i : Nat) (y : Xt) (h : l[i]? = some y) (j : Nat) (hj : j < 6) : (xsC l)[i * 6 + j]? = (xCs y)[j]? := by
  induction l generalizing i with
  | nil => simp at h
  | cons a r ih =>
    have e : xsC (a :: r) = xCs a ++ xsC r := rfl
    have hl : (xCs a).length = 6 := rfl
    rw [e]
    rcases i with _ | i
    · obtain rfl : a = y := by simpa using h
      rw [Nat.zero_mul, Nat.zero_add, List.getElem?_append_left (by rw [hl]; exact hj)]
    · rw [List.getElem?_append_right (by rw [hl]; omega), hl, show (i + 1) * 6 + j - 6 = i * 6 + j by omega]
      exact ih i (by simpa using h)
theorem add_add6 (g n j : Nat) : ((⟨g, 0, none⟩ : Addr).add n).off + j = n + j ∧ ((⟨g, 0, none⟩ : Addr).add n).block = g ∧ (⟨g, 0, none⟩ : Addr).add n = ⟨g, n, none⟩ := by
  unfold Addr.add
  by_cases h : n = 0
  · subst h; simp
  · simp [h]
theorem RdXs.of_own {w : World} {base : Nat} {e : TypeId} {A : Option Addr} {c : Nat} {l : List Xt} (h : w.ownsRow base e 6 (.slice A l.length c) l.length (xsC l)) : RdXs w w.heap.size A l := fun hn => by
  rcases h.2 with ⟨h1, h2⟩ | ⟨g, cap, cur, h1, h2, h3, h4, h5, h6, h7⟩
  · exact absurd (List.length_eq_zero_iff.1 h2) hn
  · have hA : A = some ⟨g, 0, none⟩ := by injection h1
    subst hA
    refine ⟨_, rfl, (Array.getElem?_eq_some_iff.1 h3).1, fun i y hy => ?_⟩
    have key : ∀ j u, j < 6 → (xCs y)[j]? = some u → w.cell? ⟨g, i * 6 + j, none⟩ = some u := fun j u hj6 hj => by
      rw [← xsC_get l i y hy j hj6] at hj
      rw [cell_of_row w g (i * 6 + j) cur _ (0, 0) h3]
      rw [← h7, List.getElem?_take] at hj
      split at hj
      · rw [← Array.getElem?_toList]; exact hj
      · cases hj
    unfold XC
    rw [(add_add6 g (i * 6) 1).1, (add_add6 g (i * 6) 2).1, (add_add6 g (i * 6) 3).1, (add_add6 g (i * 6) 4).1, (add_add6 g (i * 6) 5).1, (add_add6 g (i * 6) 1).2.1, (add_add6 g (i * 6) 1).2.2]
    exact ⟨key 0 _ (by omega) rfl, key 1 _ (by omega) rfl, key 2 _ (by omega) rfl, key 3 _ (by omega) rfl, key 4 _ (by omega) rfl, key 5 _ (by omega) rfl⟩
/-- a list of expressions, new -/
def NewX (l : List Xt) (w : World) (e : Ending) (w' : World) : Prop := ∃ A c, e = .returned (.slice A l.length c) ∧ RdXs w' w'.heap.size A l ∧ Below w.heap.size w w'
set_option maxHeartbeats 1000000 in
set_option maxRecDepth 20000 in
theorem rList_any (x : Xt) (w : World) (hX : RdX w w.heap.size x) (hs : x.size ≤ 1048576) : Calls Tryz.prog 7 #[xV x] w (NewX x.list w) := by
  have K : Hid (∀ W, Below w.heap.size w W → Calls Tryz.prog 24 #[xV x, .slice none 0 0] W (NewX x.list W)) := Lib.hid fun W hb => by
    have := rlist_any x W W.heap.size (.slice none 0 0) 0 [] (Nat.le_refl _) (hX.to hb) (World.ownsRow_nil _ _ _ _) (by omega)
    rw [Nat.zero_add, List.nil_append, ← list_length x] at this
    refine this.mono fun e w1 ⟨v', he, h1, h2, h3⟩ => ?_
    obtain ⟨A, c, rfl⟩ := own_form6 h1
    exact ⟨A, c, he, RdXs.of_own h1, ⟨h2.os, h2.tape, h2.output, h2.size, fun k hk => h2.block k hk (by intro e; cases e)⟩⟩
  simp only [xV] at K ⊢
  go_enter Tryz.func7, Tryz.ntmps7
  go_wp2_with (go_at_call 24; (with_reducible refine (K.out _ ?_).mono ?_); (focus ((repeat (first | (with_reducible exact Below.refl _ _) | (with_reducible assumption) | (with_reducible exact bel_box _) | (with_reducible refine bel_step ?_ (by with_reducible assumption)) | (with_reducible refine Below.drew ?_) | (with_reducible refine below_drewN ?_ _) | (with_reducible refine bel_alloc ?_ _))); done)); rintro e w1 ⟨A, c, rfl, hR, hb1⟩)
  go_ret
  exact ⟨A, c, rfl, hR, (by repeat (first | (with_reducible exact Below.refl _ _) | (with_reducible assumption) | (with_reducible exact bel_box _) | (with_reducible refine bel_step ?_ (by with_reducible assumption)) | (with_reducible refine Below.drew ?_) | (with_reducible refine below_drewN ?_ _) | (with_reducible refine bel_alloc ?_ _)))⟩
end Go.Proofs.YtoekgbdomeklgaaGreatDoor
/- changed, clone of the program. -/
namespace Go.Proofs.YtoekgbdomeklgaaGreatDoor
set_option linter.unusedVariables false
set_option linter.unusedSimpArgs false
open Go.RowKit Go.Sort Go.Deep
/-- what it lies in: the arguments' blocks are those of Q -/
inductive RdP (w : World) (Q : Nat → Prop) : Xt → Prop
  | mk (x : Xt) (h0 : x.ar ≠ [] → ∃ ad, x.A = some ad ∧ Q ad.block) (h1 : ∀ (ad : Addr) (i : Nat) (y : Xt), x.A = some ad → x.ar[i]? = some y → XC w (ad.add (i * 6)) y) (h2 : ∀ y ∈ x.ar, RdP w Q y) (h3 : (x.ar.length ≤ maxLen ∧ x.nm.size ≤ maxLen) ∧ x.ar.length ≤ x.c) : RdP w Q x
theorem RdP.rd {w : World} {Q : Nat → Prop} {B : Nat} {x : Xt} (h : RdP w Q x) (hQ : ∀ b, Q b → b < B) : RdX w B x := by
  induction h with
  | mk x h0 h1 h2 h3 ih => exact .mk x (fun hn => by obtain ⟨ad, e, h⟩ := h0 hn; exact ⟨ad, e, hQ _ h⟩) h1 ih h3
theorem RdP.keep {w W : World} {Q Q' : Nat → Prop} {x : Xt} (h : RdP w Q x) (hQ : ∀ b, Q b → Q' b) (hk : ∀ p : Addr, Q p.block → W.cell? p = w.cell? p) : RdP W Q' x := by
  induction h with
  | mk x h0 h1 h2 h3 ih =>
    refine .mk x (fun hn => by obtain ⟨ad, e, h⟩ := h0 hn; exact ⟨ad, e, hQ _ h⟩) (fun ad i y ha hy => ?_) ih h3
    obtain ⟨ad', e, h⟩ := h0 (by intro e; rw [e] at hy; simp at hy)
    obtain rfl : ad = ad' := Option.some.inj (ha.symm.trans e)
    exact (h1 ad i y ha hy).keep fun p hp => hk p (by rw [hp, add_block]; exact h)
/-- the content, with names changed -/
def Xt.rc (ρ : Int → ByteArray → ByteArray) (x : Xt) : Xc := .mk x.k x.op x.t x.v (ρ x.k x.nm).toList (x.ar.attach.map fun a => Xt.rc ρ a.1)
termination_by SizeOf.sizeOf x
decreasing_by exact Xt.lt_of_mem a.2
theorem Xt.rc_eq (ρ : Int → ByteArray → ByteArray) (x : Xt) : x.rc ρ = .mk x.k x.op x.t x.v (ρ x.k x.nm).toList (x.ar.map (Xt.rc ρ)) := by
  rw [Xt.rc]
  congr 1
  simp
theorem rc_id (x : Xt) : x.rc (fun _ s => s) = x.ct := by
  induction x using Xt.ind with
  | h x ih =>
    rw [Xt.rc_eq, Xt.ct_eq]
    congr 1
    exact List.map_congr_left ih
def NewE (c : Xc) (w : World) (e : Ending) (w' : World) : Prop := ∃ x : Xt, e = .returned (xV x) ∧ x.ct = c ∧ RdP w' (fun b => w.heap.size ≤ b ∧ b < w'.heap.size) x ∧ Below w.heap.size w w'
/-- the world behind a struct stored into a box -/
abbrev st6 (W : World) (b : Nat) (k op t v : Int) (nm : ByteArray) (s : Value) : World := (((((W.setCell ⟨b, 0, none⟩ (.int .i64 k)).setCell ⟨b, 1, none⟩ (.int .i64 op)).setCell ⟨b, 2, none⟩ (.int .i64 t)).setCell ⟨b, 3, none⟩ (.int .i64 v)).setCell ⟨b, 4, none⟩ (.string nm)).setCell ⟨b, 5, none⟩ s
theorem st6_cells {W : World} {b : Nat} {v0 v1 v2 v3 v4 v5 : Value} (h0 : W.cell? ⟨b, 0, none⟩ = some v0) (h1 : W.cell? ⟨b, 1, none⟩ = some v1) (h2 : W.cell? ⟨b, 2, none⟩ = some v2) (h3 : W.cell? ⟨b, 3, none⟩ = some v3) (h4 : W.cell? ⟨b, 4, none⟩ = some v4) (h5 : W.cell? ⟨b, 5, none⟩ = some v5) (k op t v : Int) (nm : ByteArray) (s : Value) :
    ((st6 W b k op t v nm s).cell? ⟨b, 0, none⟩ = some (.int .i64 k) ∧ (st6 W b k op t v nm s).cell? ⟨b, 1, none⟩ = some (.int .i64 op) ∧ (st6 W b k op t v nm s).cell? ⟨b, 2, none⟩ = some (.int .i64 t) ∧ (st6 W b k op t v nm s).cell? ⟨b, 3, none⟩ = some (.int .i64 v) ∧ (st6 W b k op t v nm s).cell? ⟨b, 4, none⟩ = some (.string nm) ∧ (st6 W b k op t v nm s).cell? ⟨b, 5, none⟩ = some s) ∧ (∀ p, (st6 W b k op t v nm s).frozen? p = W.frozen? p) ∧ (∀ p : Addr, p.block ≠ b → (st6 W b k op t v nm s).cell? p = W.cell? p) ∧ (st6 W b k op t v nm s).heap.size = W.heap.size := by
  have z : ∀ {p q : Addr} {W : World} {x : Value}, p ≠ q → (W.setCell q x).cell? p = W.cell? p := fun h => World.cell?_setCell_other _ _ _ _ h.symm
  have n : ∀ (i j : Nat), i ≠ j → (⟨b, i, none⟩ : Addr) ≠ ⟨b, j, none⟩ := fun i j h e => h (by injection e)
  refine ⟨⟨?_, ?_, ?_, ?_, ?_, ?_⟩, fun p => by simp only [World.frozen?_setCell], fun p hp => ?_, by simp [World.setCell]⟩
  · rw [z (n 0 5 (by decide)), z (n 0 4 (by decide)), z (n 0 3 (by decide)), z (n 0 2 (by decide)), z (n 0 1 (by decide))]; exact World.cell?_setCell_same' _ _ _ (by rw [h0]; rfl)
  · rw [z (n 1 5 (by decide)), z (n 1 4 (by decide)), z (n 1 3 (by decide)), z (n 1 2 (by decide))]; exact World.cell?_setCell_same' _ _ _ (by rw [z (n 1 0 (by decide)), h1]; rfl)
  · rw [z (n 2 5 (by decide)), z (n 2 4 (by decide)), z (n 2 3 (by decide))]; exact World.cell?_setCell_same' _ _ _ (by rw [z (n 2 1 (by decide)), z (n 2 0 (by decide)), h2]; rfl)
  · rw [z (n 3 5 (by decide)), z (n 3 4 (by decide))]; exact World.cell?_setCell_same' _ _ _ (by rw [z (n 3 2 (by decide)), z (n 3 1 (by decide)), z (n 3 0 (by decide)), h3]; rfl)
  · rw [z (n 4 5 (by decide))]; exact World.cell?_setCell_same' _ _ _ (by rw [z (n 4 3 (by decide)), z (n 4 2 (by decide)), z (n 4 1 (by decide)), z (n 4 0 (by decide)), h4]; rfl)
  · exact World.cell?_setCell_same' _ _ _ (by rw [z (n 5 4 (by decide)), z (n 5 3 (by decide)), z (n 5 2 (by decide)), z (n 5 1 (by decide)), z (n 5 0 (by decide)), h5]; rfl)
  · have m : ∀ i, p ≠ ⟨b, i, none⟩ := fun i e => hp (by rw [e])
    rw [z (m 5), z (m 4), z (m 3), z (m 2), z (m 1), z (m 0)]
theorem st6_below {B : Nat} {w W : World} {b : Nat} (h : Below B w W) (hb : B ≤ b) (k op t v : Int) (nm : ByteArray) (s : Value) : Below B w (st6 W b k op t v nm s) :=
  (((((h.setCell (p := ⟨b, 0, none⟩) hb _).setCell (p := ⟨b, 1, none⟩) hb _).setCell (p := ⟨b, 2, none⟩) hb _).setCell (p := ⟨b, 3, none⟩) hb _).setCell (p := ⟨b, 4, none⟩) hb _).setCell (p := ⟨b, 5, none⟩) hb _
set_option maxHeartbeats 400000 in
theorem clone1_any (x : Xt) (w : World) : Calls Tryz.prog 28 #[xV x] w (Bel (xV x) w) := by
  simp only [xV]
  go_enter Tryz.func28, Tryz.ntmps28
  go_wp2
  refine bodyPost_ret (v := xV x) (by simp [results, Tryz.f28, go_sem, xV]) rfl ?_
  exact ⟨rfl, (by repeat (first | (with_reducible exact Below.refl _ _) | (with_reducible assumption) | (with_reducible exact bel_box _) | (with_reducible refine bel_step ?_ (by with_reducible assumption)) | (with_reducible refine Below.drew ?_) | (with_reducible refine below_drewN ?_ _) | (with_reducible refine bel_alloc ?_ _)))⟩
theorem rdxs_cells {w : World} {B : Nat} {ad : Addr} {l : List Xt} (h : RdXs w B (some ad) l) : ∀ j u, (xsC l)[j]? = some u → w.cell? (ad.add j) = some u := by
  intro j u hu
  have hj := (List.getElem?_eq_some_iff.1 hu).1
  rw [xsC_length] at hj
  obtain ⟨i, r, hr, rfl⟩ : ∃ i r, r < 6 ∧ j = i * 6 + r := ⟨j / 6, j % 6, Nat.mod_lt _ (by decide), by omega⟩
  have hi : i < l.length := by omega
  obtain ⟨ad', y, e, _, hy, _, hc⟩ := h.at_ hi
  obtain rfl := Option.some.inj e
  rw [xsC_get l i y hy r hr] at hu
  rw [← add_add]
  obtain ⟨c0, c1, c2, c3, c4, c5⟩ := hc
  generalize ad.add (i * 6) = a at *
  rcases r with _ | _ | _ | _ | _ | _ | r
  · obtain rfl := Option.some.inj hu; exact c0
  · obtain rfl := Option.some.inj hu; exact c1
  · obtain rfl := Option.some.inj hu; exact c2
  · obtain rfl := Option.some.inj hu; exact c3
  · obtain rfl := Option.some.inj hu; exact c4
  · obtain rfl := Option.some.inj hu; exact c5
  · omega
theorem xs_one (l : List Xt) : ∀ u ∈ xsC l, u.oneCell' = true := by
  intro u hu
  obtain ⟨x, _, hx⟩ := List.mem_flatMap.1 hu
  exact x_one x u hx
set_option maxHeartbeats 2000000 in
set_option maxRecDepth 20000 in
theorem sliceclone_any (A : Option Addr) (c : Nat) (l : List Xt) (w : World) (hA : RdXs w w.heap.size A l) (hl : l.length ≤ 33554432) : Calls Tryz.prog 33 #[.slice A l.length c] w (fun e w' => ∃ v', e = .returned v' ∧ w'.ownsRow w.heap.size 24 6 v' l.length (xsC l) ∧ Below w.heap.size w w') := by
  obtain ⟨i0, hi, iz, is, ib⟩ := info_parts xpInfo
  have q22 : ∀ (w : World) (a : Option Addr) (n c n' c' : Nat), (binOp .eql 22 (.slice a n c) (.slice none n' c')).run Tryz.prog w = .ok (.bool a.isNone) w := fun w a n c n' c' => Lib.run_eql_slice_nil w _ _ a n c n' c' Tryz.underlying22
  cases A with
  | none =>
    have h0 : l = [] := by
      by_cases hn : l = []
      · exact hn
      · obtain ⟨ad, e, _⟩ := hA hn
        cases e
    subst h0
    go_enter Tryz.func33, Tryz.ntmps33
    go_wp2
    go_ret
    exact ⟨_, rfl, World.ownsRow_nil _ _ _ _, (by repeat (first | (with_reducible exact Below.refl _ _) | (with_reducible assumption) | (with_reducible exact bel_box _) | (with_reducible refine bel_step ?_ (by with_reducible assumption)) | (with_reducible refine Below.drew ?_) | (with_reducible refine below_drewN ?_ _) | (with_reducible refine bel_alloc ?_ _)))⟩
  | some ad =>
    go_enter Tryz.func33, Tryz.ntmps33
    go_wp2_with (at_builtin; refine wpList_append_own _ rfl _ _ 22 rfl w.heap.size 24 i0 (.agg #[.int .i64 0, .int .i64 0, .int .i64 0, .int .i64 0, .string ⟨#[]⟩, .slice none 0 0]) 6 72 Tryz.underlying22 hi iz is ib rfl (by decide) _ _ _ rfl (World.ownsRow_made w #[] 0 (Nat.le_refl _) (Nat.zero_le _) (by simp)) ad l.length c (xsC l) rfl ?qc1 ?qc2 ?qc3 ?qc4 ?qc5 ?qc6 ?_)
    case qc1 => exact xsC_length l
    case qc2 =>
      intro j u hj
      exact cell_al _ (rdxs_cells hA j u hj)
    case qc3 => exact xs_one l
    case qc4 => rw [Nat.zero_add]; unfold maxLen; omega
    case qc5 => rw [Nat.zero_add]; omega
    case qc6 => simp
    intro v' w1 hown hgrow _
    go_wp2
    go_ret
    refine ⟨v', rfl, by simpa using hown, ?_⟩
    exact ((Below.refl _ w).alloc (Nat.le_refl _) _).grown hgrow (by simp) (by intro k hk; simp [Value.ownBlock] at hk; omega)
/-- the boxes of the argument and of the result, in any later world -/
theorem chg_box {w W : World} {x : Xt} {T : TypeId} (h : Below ((bxW w x).alloc (.cells #[.int .i64 0, .int .i64 0, .int .i64 0, .int .i64 0, .string ⟨#[]⟩, .slice none 0 0] T)).heap.size ((bxW w x).alloc (.cells #[.int .i64 0, .int .i64 0, .int .i64 0, .int .i64 0, .string ⟨#[]⟩, .slice none 0 0] T)) W) :
    W.frozen? ⟨w.heap.size, 0, none⟩ = false ∧ W.frozen? ⟨w.heap.size, 1, none⟩ = false ∧ W.frozen? ⟨w.heap.size, 2, none⟩ = false ∧ W.frozen? ⟨w.heap.size, 3, none⟩ = false ∧ W.frozen? ⟨w.heap.size, 4, none⟩ = false ∧ W.frozen? ⟨w.heap.size, 5, none⟩ = false ∧
    (W.cell? ⟨w.heap.size + 1, 0, none⟩ = some (.int .i64 0) ∧ W.cell? ⟨w.heap.size + 1, 1, none⟩ = some (.int .i64 0) ∧ W.cell? ⟨w.heap.size + 1, 2, none⟩ = some (.int .i64 0) ∧ W.cell? ⟨w.heap.size + 1, 3, none⟩ = some (.int .i64 0) ∧ W.cell? ⟨w.heap.size + 1, 4, none⟩ = some (.string ⟨#[]⟩) ∧ W.cell? ⟨w.heap.size + 1, 5, none⟩ = some (.slice none 0 0)) ∧
    (∀ i, i < 6 → W.frozen? ⟨w.heap.size + 1, i, none⟩ = false) ∧ w.heap.size + 2 ≤ W.heap.size ∧ Below w.heap.size w W := by
  have hz : ((bxW w x).alloc (.cells #[.int .i64 0, .int .i64 0, .int .i64 0, .int .i64 0, .string ⟨#[]⟩, .slice none 0 0] T)).heap.size = w.heap.size + 2 := by simp only [World.size_alloc]
  have hsz := h.size
  rw [hz] at hsz
  have hf : ∀ i, W.frozen? ⟨w.heap.size, i, none⟩ = _ := fun i => h.frozen (p := ⟨w.heap.size, i, none⟩) (by rw [hz]; exact Nat.lt_add_of_pos_right (by decide))
  have hf1 : ∀ i, W.frozen? ⟨w.heap.size + 1, i, none⟩ = _ := fun i => h.frozen (p := ⟨w.heap.size + 1, i, none⟩) (by rw [hz]; exact Nat.lt_succ_self _)
  have hc1 : ∀ i, W.cell? ⟨w.heap.size + 1, i, none⟩ = _ := fun i => h.cell (p := ⟨w.heap.size + 1, i, none⟩) (by rw [hz]; exact Nat.lt_succ_self _)
  refine ⟨?_, ?_, ?_, ?_, ?_, ?_, ⟨?_, ?_, ?_, ?_, ?_, ?_⟩, fun i _ => ?_, hsz, bxW_below ((bel_box _).trans (h.mono (by rw [hz, bxW_size]; omega)))⟩
  · rw [hf]; simp [go_sem]
  · rw [hf]; simp [go_sem]
  · rw [hf]; simp [go_sem]
  · rw [hf]; simp [go_sem]
  · rw [hf]; simp [go_sem]
  · rw [hf]; simp [go_sem]
  · rw [hc1]; simp [go_sem]
  · rw [hc1]; simp [go_sem]
  · rw [hc1]; simp [go_sem]
  · rw [hc1]; simp [go_sem]
  · rw [hc1]; simp [go_sem]
  · rw [hc1]; simp [go_sem]
  · rw [hf1]; simp [go_sem]
theorem kids_read {w : World} {x : Xt} (h : RdX w w.heap.size x) : RdXs w w.heap.size x.A x.ar := by
  cases h with
  | mk x h0 h1 h2 h3 =>
    intro hn
    obtain ⟨ad, e, hb⟩ := h0 hn
    exact ⟨ad, e, hb, fun i y hy => h1 ad i y e hy⟩
end Go.Proofs.YtoekgbdomeklgaaGreatDoor
/- A struct stored into an owned row of expressions. -/
namespace Go.Proofs.YtoekgbdomeklgaaGreatDoor
set_option linter.unusedVariables false
set_option linter.unusedSimpArgs false
open Go.RowKit Go.Sort Go.Deep
/-- what stays: all cells of old blocks but those of g -/
def KW (g : Option Nat) (W W' : World) : Prop := W.heap.size ≤ W'.heap.size ∧ ∀ p : Addr, p.block < W.heap.size → some p.block ≠ g → W'.cell? p = W.cell? p ∧ W'.frozen? p = W.frozen? p
theorem KW.of_below {g : Option Nat} {W W' : World} (h : Below W.heap.size W W') : KW g W W' := ⟨h.size, fun p hp _ => ⟨h.cell hp, h.frozen hp⟩⟩
theorem KW.trans {g : Option Nat} {A B C : World} (h : KW g A B) (k : KW g B C) : KW g A C := ⟨Nat.le_trans h.1 k.1, fun p hp hg => by
  obtain ⟨h1, h2⟩ := h.2 p hp hg
  obtain ⟨k1, k2⟩ := k.2 p (Nat.lt_of_lt_of_le hp h.1) hg
  exact ⟨k1.trans h1, k2.trans h2⟩⟩
theorem set6_list (P S : List Value) (m : Nat) (hP : P.length = m) (c0 c1 c2 c3 c4 c5 v0 v1 v2 v3 v4 v5 : Value) :
    ((((((P ++ ([c0, c1, c2, c3, c4, c5] ++ S)).set m v0).set (m + 1) v1).set (m + 2) v2).set (m + 3) v3).set (m + 4) v4).set (m + 5) v5 = P ++ ([v0, v1, v2, v3, v4, v5] ++ S) := by
  subst hP
  simp [List.set_append]
/-- the world behind a struct stored at an address -/
abbrev sa6 (W : World) (a : Addr) (y : Xt) : World := (((((W.setCell a (.int .i64 y.k)).setCell ⟨a.block, a.off + 1, none⟩ (.int .i64 y.op)).setCell ⟨a.block, a.off + 2, none⟩ (.int .i64 y.t)).setCell ⟨a.block, a.off + 3, none⟩ (.int .i64 y.v)).setCell ⟨a.block, a.off + 4, none⟩ (.string y.nm)).setCell ⟨a.block, a.off + 5, none⟩ (.slice y.A y.ar.length y.c)
theorem row_store {W : World} {base n k g c : Nat} {T : TypeId} {L R : List Xt} {y y' : Xt} (h : W.ownsRow base T 6 (.slice (some ⟨g, 0, none⟩) n c) n (xsC (L ++ y :: R))) (hL : L.length = k) :
    (sa6 W ((⟨g, 0, none⟩ : Addr).add (k * 6)) y').ownsRow base T 6 (.slice (some ⟨g, 0, none⟩) n c) n (xsC (L ++ y' :: R)) ∧ KW (some g) W (sa6 W ((⟨g, 0, none⟩ : Addr).add (k * 6)) y') ∧ (sa6 W ((⟨g, 0, none⟩ : Addr).add (k * 6)) y').heap.size = W.heap.size := by
  have e : (⟨g, 0, none⟩ : Addr).add (k * 6) = ⟨g, k * 6, none⟩ := (add_add6 g (k * 6) 0).2.2
  rw [e]
  refine ⟨?_, ⟨by simp [World.setCell], fun p hp hg => ?_⟩, by simp [World.setCell]⟩
  · have h1 := ((((((h.stored (k * 6) (.int .i64 y'.k)).1.stored (k * 6 + 1) (.int .i64 y'.op)).1.stored (k * 6 + 2) (.int .i64 y'.t)).1.stored (k * 6 + 3) (.int .i64 y'.v)).1.stored (k * 6 + 4) (.string y'.nm)).1.stored (k * 6 + 5) (.slice y'.A y'.ar.length y'.c)).1
    rw [xsC_app, show xsC (y :: R) = xCs y ++ xsC R from rfl, show xCs y = [.int .i64 y.k, .int .i64 y.op, .int .i64 y.t, .int .i64 y.v, .string y.nm, .slice y.A y.ar.length y.c] from rfl, set6_list _ _ _ (by rw [xsC_length, hL])] at h1
    rw [xsC_app, show xsC (y' :: R) = xCs y' ++ xsC R from rfl]
    exact h1
  · have z : ∀ {q : Addr} {W : World} {x : Value}, p ≠ q → (W.setCell q x).cell? p = W.cell? p := fun h => World.cell?_setCell_other _ _ _ _ h.symm
    have m : ∀ i, p ≠ ⟨g, i, none⟩ := fun i e => hg (by rw [e])
    refine ⟨?_, by simp only [World.frozen?_setCell]⟩
    rw [z (m _), z (m _), z (m _), z (m _), z (m _), z (m _)]
theorem sa6_below {B : Nat} {w W : World} {a : Addr} (h : Below B w W) (hb : B ≤ a.block) (y : Xt) : Below B w (sa6 W a y) :=
  (((((h.setCell (p := a) hb _).setCell (p := ⟨a.block, a.off + 1, none⟩) hb _).setCell (p := ⟨a.block, a.off + 2, none⟩) hb _).setCell (p := ⟨a.block, a.off + 3, none⟩) hb _).setCell (p := ⟨a.block, a.off + 4, none⟩) hb _).setCell (p := ⟨a.block, a.off + 5, none⟩) hb _
/-- the boxes of changed: the argument's, with the row, and the result's -/
structure CB (w : World) (x : Xt) (nm : ByteArray) (s : Value) (W : World) : Prop where
  c0 : W.cell? ⟨w.heap.size, 0, none⟩ = some (.int .i64 x.k)
  c1 : W.cell? ⟨w.heap.size, 1, none⟩ = some (.int .i64 x.op)
  c2 : W.cell? ⟨w.heap.size, 2, none⟩ = some (.int .i64 x.t)
  c3 : W.cell? ⟨w.heap.size, 3, none⟩ = some (.int .i64 x.v)
  c4 : W.cell? ⟨w.heap.size, 4, none⟩ = some (.string nm)
  c5 : W.cell? ⟨w.heap.size, 5, none⟩ = some s
  r0 : W.cell? ⟨w.heap.size + 1, 0, none⟩ = some (.int .i64 0)
  r1 : W.cell? ⟨w.heap.size + 1, 1, none⟩ = some (.int .i64 0)
  r2 : W.cell? ⟨w.heap.size + 1, 2, none⟩ = some (.int .i64 0)
  r3 : W.cell? ⟨w.heap.size + 1, 3, none⟩ = some (.int .i64 0)
  r4 : W.cell? ⟨w.heap.size + 1, 4, none⟩ = some (.string ⟨#[]⟩)
  r5 : W.cell? ⟨w.heap.size + 1, 5, none⟩ = some (.slice none 0 0)
  rf : ∀ i, i < 6 → W.frozen? ⟨w.heap.size + 1, i, none⟩ = false
  lt : w.heap.size + 2 ≤ W.heap.size
theorem CB.keep {w W W' : World} {x : Xt} {nm : ByteArray} {s : Value} {g : Option Nat} (h : CB w x nm s W) (hk : KW g W W') (h0 : some w.heap.size ≠ g) (h1 : some (w.heap.size + 1) ≠ g) : CB w x nm s W' := by
  have hlt := h.lt
  have e0 : ∀ i, W'.cell? ⟨w.heap.size, i, none⟩ = W.cell? ⟨w.heap.size, i, none⟩ := fun i => (hk.2 ⟨w.heap.size, i, none⟩ (show w.heap.size < W.heap.size by omega) h0).1
  have e1 : ∀ i, W'.cell? ⟨w.heap.size + 1, i, none⟩ = W.cell? ⟨w.heap.size + 1, i, none⟩ := fun i => (hk.2 ⟨w.heap.size + 1, i, none⟩ (show w.heap.size + 1 < W.heap.size by omega) h1).1
  have e2 : ∀ i, W'.frozen? ⟨w.heap.size + 1, i, none⟩ = W.frozen? ⟨w.heap.size + 1, i, none⟩ := fun i => (hk.2 ⟨w.heap.size + 1, i, none⟩ (show w.heap.size + 1 < W.heap.size by omega) h1).2
  exact ⟨(e0 0).trans h.c0, (e0 1).trans h.c1, (e0 2).trans h.c2, (e0 3).trans h.c3, (e0 4).trans h.c4, (e0 5).trans h.c5, (e1 0).trans h.r0, (e1 1).trans h.r1, (e1 2).trans h.r2, (e1 3).trans h.r3, (e1 4).trans h.r4, (e1 5).trans h.r5, fun i hi => (e2 i).trans (h.rf i hi), Nat.le_trans hlt hk.1⟩
/-- the row under way: the first ones are done -/
structure CR (ρ : Int → ByteArray → ByteArray) (x : Xt) (B g c k : Nat) (T : TypeId) (L : List Xt) (W : World) : Prop where
  len : L.length = k
  ct : L.map Xt.ct = (x.ar.take k).map (Xt.rc ρ)
  rd : ∀ y ∈ L, RdP W (fun b => B ≤ b ∧ b ≠ g ∧ b < W.heap.size) y
  own : W.ownsRow B T 6 (.slice (some ⟨g, 0, none⟩) x.ar.length c) x.ar.length (xsC (L ++ x.ar.drop k))
theorem CR.step {ρ : Int → ByteArray → ByteArray} {x y y' : Xt} {B g c k : Nat} {T : TypeId} {L : List Xt} {W W5 : World} (h : CR ρ x B g c k T L W) (hB : B ≤ W.heap.size) (hy : x.ar[k]? = some y) (hk : Below W.heap.size W W5) (hc : y'.ct = y.rc ρ) (hr : RdP W5 (fun b => W.heap.size ≤ b ∧ b < W5.heap.size) y') :
    CR ρ x B g c (k + 1) T (L ++ [y']) (sa6 W5 ((⟨g, 0, none⟩ : Addr).add (k * 6)) y') ∧ KW (some g) W (sa6 W5 ((⟨g, 0, none⟩ : Addr).add (k * 6)) y') := by
  have hd : x.ar.drop k = y :: x.ar.drop (k + 1) := by
    have h1 := (List.getElem?_eq_some_iff.1 hy).1
    rw [List.drop_eq_getElem_cons h1]
    congr 1
    exact (List.getElem?_eq_some_iff.1 hy).2
  have hown := h.own
  rw [hd] at hown
  have hgl : g < W.heap.size := by
    rcases hown.2 with ⟨e, _⟩ | ⟨g', cap, cur, e, _, hg, _⟩
    · cases e
    · obtain rfl : g = g' := by injection e with e1; injection e1 with e2; injection e2
      exact (Array.getElem?_eq_some_iff.1 hg).1
  obtain ⟨s1, s2, s3⟩ := row_store (y' := y') (own_keep6 hown hk) h.len
  refine ⟨⟨by rw [List.length_append, h.len]; rfl, ?_, fun z hz => ?_, ?_⟩, (KW.of_below hk).trans s2⟩
  · rw [List.map_append, h.ct, take_succ_of hy, List.map_append]
    simp [hc]
  · rcases List.mem_append.1 hz with hz | hz
    · refine (h.rd z hz).keep (fun b ⟨h1, h2, h3⟩ => ⟨h1, h2, by rw [s3]; exact Nat.lt_of_lt_of_le h3 hk.size⟩) (fun p ⟨_, h2, h3⟩ => ?_)
      exact ((s2.2 p (Nat.lt_of_lt_of_le h3 hk.size) (fun e => h2 (Option.some.inj e))).1).trans (hk.cell h3)
    · obtain rfl := List.mem_singleton.1 hz
      refine hr.keep (fun b ⟨h1, h2⟩ => ⟨Nat.le_trans hB h1, by omega, by rw [s3]; exact h2⟩) (fun p ⟨h1, h2⟩ => ?_)
      exact (s2.2 p h2 (fun e => by have := Option.some.inj e; omega)).1
  · rw [List.append_assoc]
    exact s1
theorem CR.node {ρ : Int → ByteArray → ByteArray} {x : Xt} {B g c : Nat} {T : TypeId} {L : List Xt} {W : World} {nm : ByteArray} (h : CR ρ x B g c x.ar.length T L W) (hn : nm.size ≤ maxLen) (hm : ρ x.k x.nm = nm) :
    (Xt.mk x.k x.op x.t x.v nm (some ⟨g, 0, none⟩) c L).ct = x.rc ρ ∧ RdP W (fun b => B ≤ b ∧ b < W.heap.size) (.mk x.k x.op x.t x.v nm (some ⟨g, 0, none⟩) c L) ∧ L.length = x.ar.length := by
  have hl := h.len
  have hown := h.own
  rw [List.drop_length, List.append_nil] at hown
  refine ⟨?_, ?_, hl⟩
  · rw [Xt.ct_eq, Xt.rc_eq, hm]
    show Xc.mk _ _ _ _ _ (L.map Xt.ct) = _
    rw [h.ct, List.take_length]
    rfl
  · rw [← hl] at hown
    have hX := RdXs.of_own hown
    rcases hown.2 with ⟨e, _⟩ | ⟨g', cap, cur, e, hb, hg, hnc, hcm, _⟩
    · cases e
    · obtain ⟨rfl, rfl⟩ : g = g' ∧ c = cap := by injection e with e1 e2 e3; injection e1 with e4; injection e4; exact ⟨by assumption, e3⟩
      refine .mk _ (fun _ => ⟨_, rfl, hb, (Array.getElem?_eq_some_iff.1 hg).1⟩) (fun ad i y hA hy => ?_) (fun y hy => (h.rd y hy).keep (fun b ⟨h1, _, h3⟩ => ⟨h1, h3⟩) (fun _ _ => rfl)) ⟨⟨Nat.le_trans hnc hcm, hn⟩, hnc⟩
      obtain rfl := Option.some.inj hA
      obtain ⟨ad', e', _, hc⟩ := hX (by intro e0; rw [show L = [] from e0] at hy; cases hy)
      obtain rfl := Option.some.inj e'
      exact hc i y hy
end Go.Proofs.YtoekgbdomeklgaaGreatDoor
/- changed of the program, at the identity. -/
namespace Go.Proofs.YtoekgbdomeklgaaGreatDoor
set_option linter.unusedVariables false
set_option linter.unusedSimpArgs false
open Go.RowKit Go.Sort Go.Deep
set_option maxHeartbeats 4000000 in
set_option maxRecDepth 20000 in
theorem changed_id (ρ : Int → ByteArray → ByteArray) (hρ : ∀ k s, s.size ≤ maxLen → (ρ k s).size ≤ maxLen) (w₀ : World)
    (HC : Hid (∀ (y : Xt) W, Below w₀.heap.size w₀ W → Calls Tryz.prog 28 #[xV y] W (Bel (.agg #[.int .i64 y.k, .int .i64 y.op, .int .i64 y.t, .int .i64 y.v, .string (ρ y.k y.nm), .slice y.A y.ar.length y.c]) W))) (x : Xt) :
    ∀ w, Below w₀.heap.size w₀ w → RdX w w.heap.size x → x.size ≤ 33554432 → Calls Tryz.prog 27 #[xV x, .func (.func 28) #[] #[]] w (NewE (x.rc ρ) w) := by
  induction x using Xt.ind with
  | h x ih =>
    intro w hw0 hX hs
    have hcl : x.ar.length ≤ 33554432 := by
      obtain ⟨F, hF, _, hFl, _, _⟩ := parts_sum x
      omega
    obtain ⟨nm, hnm⟩ : ∃ nm, ρ x.k x.nm = nm := ⟨_, rfl⟩
    have KC : Hid (∀ W, Below w.heap.size w W → Calls Tryz.prog 28 #[xV x] W (Bel (.agg #[.int .i64 x.k, .int .i64 x.op, .int .i64 x.t, .int .i64 x.v, .string nm, .slice x.A x.ar.length x.c]) W)) := Lib.hid fun W hb => hnm ▸ HC.out x W (bel_step hw0 hb)
    have KL : Hid (∀ W, Below w.heap.size w W → Calls Tryz.prog 33 #[.slice x.A x.ar.length x.c] W (fun e w' => ∃ (A : Option Addr) (c : Nat), e = .returned (.slice A x.ar.length c) ∧ w'.ownsRow W.heap.size 24 6 (.slice A x.ar.length c) x.ar.length (xsC x.ar) ∧ Below W.heap.size W w')) := Lib.hid fun W hb => (sliceclone_any x.A x.c x.ar W (kids_read (hX.to hb)) hcl).mono fun e w' ⟨v', h1, h2, h3⟩ => by
      obtain ⟨A, c, rfl⟩ := own_form6 h2
      exact ⟨A, c, h1, h2, h3⟩
    have IH : Hid (∀ (k : Nat) (y : Xt), x.ar[k]? = some y → ∀ W, Below w.heap.size w W → RdX W W.heap.size y → Calls Tryz.prog 27 #[xV y, .func (.func 28) #[] #[]] W (NewE (y.rc ρ) W)) := Lib.hid fun k y hy W hb hR => ih y (List.mem_of_getElem? hy) W (bel_step hw0 hb) hR (by
        obtain ⟨F, hF, _, _, HN, HL⟩ := parts_sum x
        have := HN.out k y hy
        have := HL.out (k + 1)
        omega)
    have HX := Lib.hid hX
    have HNM := Lib.hid hnm
    have hsn : nm.size ≤ maxLen := hnm ▸ hρ _ _ hX.len.2
    have HSN := Lib.hid hsn
    clear hX ih hs hnm hsn
    simp only [xV] at KC IH ⊢
    go_enter Tryz.func27, Tryz.ntmps27
    go_wp2_with (go_at_call 28; (with_reducible refine (KC.out _ ?_).mono ?_); (focus ((repeat (first | (with_reducible exact Below.refl _ _) | (with_reducible assumption) | (with_reducible exact bel_box _) | (with_reducible refine bel_step ?_ (by with_reducible assumption)) | (with_reducible refine Below.drew ?_) | (with_reducible refine below_drewN ?_ _) | (with_reducible refine bel_alloc ?_ _))); done)); rintro e w1 ⟨rfl, hb1⟩; obtain ⟨b0, b1, b2, b3, b4, b5, _⟩ := bxW_cells (w := w) (x := x) (W := w1) (by repeat (first | (with_reducible exact Below.refl _ _) | (with_reducible assumption) | (with_reducible exact bel_box _) | (with_reducible refine bel_step ?_ (by with_reducible assumption)) | (with_reducible refine Below.drew ?_) | (with_reducible refine below_drewN ?_ _) | (with_reducible refine bel_alloc ?_ _))); obtain ⟨f0, f1, f2, f3, f4, f5, ⟨r0, r1, r2, r3, r4, r5⟩, rf, rz, hw1⟩ := chg_box (w := w) (x := x) (W := w1) (T := 24) hb1)
    obtain ⟨W1, hW1⟩ : ∃ W1, (((((w1.setCell ⟨w.heap.size, 0, none⟩ (.int .i64 x.k)).setCell ⟨w.heap.size, 1, none⟩ (.int .i64 x.op)).setCell ⟨w.heap.size, 2, none⟩ (.int .i64 x.t)).setCell ⟨w.heap.size, 3, none⟩ (.int .i64 x.v)).setCell ⟨w.heap.size, 4, none⟩ (.string nm)).setCell ⟨w.heap.size, 5, none⟩ (.slice x.A x.ar.length x.c) = W1 := ⟨_, rfl⟩
    rw [hW1]
    have hst : st6 w1 w.heap.size x.k x.op x.t x.v nm (.slice x.A x.ar.length x.c) = W1 := hW1
    clear hW1
    obtain ⟨⟨g0, g1, g2, g3, g4, g5⟩, gf, gc, gz⟩ := st6_cells b0 b1 b2 b3 b4 b5 x.k x.op x.t x.v nm (.slice x.A x.ar.length x.c)
    have hB1 := st6_below hw1 (Nat.le_refl _) x.k x.op x.t x.v nm (.slice x.A x.ar.length x.c)
    rw [hst] at g0 g1 g2 g3 g4 g5 gf gc gz hB1
    have q5 : W1.frozen? ⟨w.heap.size, 5, none⟩ = false := (gf _).trans f5
    have qr : ∀ i, W1.cell? ⟨w.heap.size + 1, i, none⟩ = w1.cell? ⟨w.heap.size + 1, i, none⟩ := fun i => gc ⟨w.heap.size + 1, i, none⟩ (Nat.succ_ne_self _)
    have s0 := (qr 0).trans r0
    have s1 := (qr 1).trans r1
    have s2 := (qr 2).trans r2
    have s3 := (qr 3).trans r3
    have s4 := (qr 4).trans r4
    have s5 := (qr 5).trans r5
    have sf : ∀ i, i < 6 → W1.frozen? ⟨w.heap.size + 1, i, none⟩ = false := fun i hi => (gf _).trans (rf i hi)
    have hWz : w.heap.size + 2 ≤ W1.heap.size := by rw [gz]; exact rz
    clear hst b0 b1 b2 b3 b4 b5 r0 r1 r2 r3 r4 r5 rf rz gf gc gz f0 f1 f2 f3 f4 f5 hw1 hb1 qr KC
    refine (KL.out W1 hB1).mono ?_
    rintro e w2 ⟨A2, c2, rfl, hown, hb2⟩
    have hz2 := hb2.size
    have up : ∀ (i : Nat), w2.cell? ⟨w.heap.size, i, none⟩ = W1.cell? ⟨w.heap.size, i, none⟩ := fun i => hb2.cell (p := ⟨w.heap.size, i, none⟩) (show w.heap.size < W1.heap.size by omega)
    have up1 : ∀ (i : Nat), w2.cell? ⟨w.heap.size + 1, i, none⟩ = W1.cell? ⟨w.heap.size + 1, i, none⟩ := fun i => hb2.cell (p := ⟨w.heap.size + 1, i, none⟩) (show w.heap.size + 1 < W1.heap.size by omega)
    have uf : w2.frozen? ⟨w.heap.size, 5, none⟩ = false := (hb2.frozen (p := ⟨w.heap.size, 5, none⟩) (show w.heap.size < W1.heap.size by omega)).trans q5
    have uf1 : ∀ i, i < 6 → w2.frozen? ⟨w.heap.size + 1, i, none⟩ = false := fun i hi => (hb2.frozen (p := ⟨w.heap.size + 1, i, none⟩) (show w.heap.size + 1 < W1.heap.size by omega)).trans (sf i hi)
    have h0 := (up 0).trans g0
    have h1 := (up 1).trans g1
    have h2 := (up 2).trans g2
    have h3 := (up 3).trans g3
    have h4 := (up 4).trans g4
    have h5 := (up 5).trans g5
    have t0 := (up1 0).trans s0
    have t1 := (up1 1).trans s1
    have t2 := (up1 2).trans s2
    have t3 := (up1 3).trans s3
    have t4 := (up1 4).trans s4
    have t5 := (up1 5).trans s5
    clear g0 g1 g2 g3 g4 g5 s0 s1 s2 s3 s4 s5 q5 sf up up1
    have HCB : Hid (CB w x nm (.slice A2 x.ar.length c2) (w2.setCell ⟨w.heap.size, 5, none⟩ (.slice A2 x.ar.length c2))) := Lib.hid (by
      have z : ∀ {p : Addr}, p ≠ ⟨w.heap.size, 5, none⟩ → (w2.setCell ⟨w.heap.size, 5, none⟩ (.slice A2 x.ar.length c2)).cell? p = w2.cell? p := fun h => World.cell?_setCell_other _ _ _ _ h.symm
      have n0 : ∀ i, i ≠ 5 → (⟨w.heap.size, i, none⟩ : Addr) ≠ ⟨w.heap.size, 5, none⟩ := fun i h e => h (by injection e)
      have n1 : ∀ i, (⟨w.heap.size + 1, i, none⟩ : Addr) ≠ ⟨w.heap.size, 5, none⟩ := fun i e => by injection e with e; omega
      exact ⟨(z (n0 0 (by decide))).trans h0, (z (n0 1 (by decide))).trans h1, (z (n0 2 (by decide))).trans h2, (z (n0 3 (by decide))).trans h3, (z (n0 4 (by decide))).trans h4, World.cell?_setCell_same' _ _ _ (by rw [h5]; rfl), (z (n1 0)).trans t0, (z (n1 1)).trans t1, (z (n1 2)).trans t2, (z (n1 3)).trans t3, (z (n1 4)).trans t4, (z (n1 5)).trans t5, fun i hi => (World.frozen?_setCell _ _ _ _).trans (uf1 i hi), by simp [World.setCell]; omega⟩)
    have HO2 : Hid ((w2.setCell ⟨w.heap.size, 5, none⟩ (.slice A2 x.ar.length c2)).ownsRow W1.heap.size 24 6 (.slice A2 x.ar.length c2) x.ar.length (xsC x.ar)) := Lib.hid (ownsRow_setCell_below hown (show w.heap.size < W1.heap.size by omega) _)
    have HB2 : Hid (Below w.heap.size w (w2.setCell ⟨w.heap.size, 5, none⟩ (.slice A2 x.ar.length c2))) := Lib.hid ((hB1.trans (hb2.mono (by omega))).setCell (p := ⟨w.heap.size, 5, none⟩) (Nat.le_refl _) _)
    have HZ := Lib.hid hWz
    have HS : Hid ((w2.setCell ⟨w.heap.size, 5, none⟩ (.slice A2 x.ar.length c2)).heap.size = w2.heap.size) := Lib.hid (by simp [World.setCell])
    clear hB1 hb2 hown KL uf1 t0 t1 t2 t3 t4 t5 h0 h1 h2 h3 h4 hWz
    go_wp2
    obtain ⟨W3, hW3⟩ : ∃ W3, w2.setCell ⟨w.heap.size, 5, none⟩ (.slice A2 x.ar.length c2) = W3 := ⟨_, rfl⟩
    rw [hW3] at HCB HO2 HB2 HS
    rw [hW3]
    clear hW3 h5 uf
    obtain ⟨B, hB⟩ : ∃ B, W1.heap.size = B := ⟨_, rfl⟩
    rw [hB] at HO2 HZ hz2
    have HZ2 := Lib.hid hz2
    clear hB hz2
    rcases HO2.out.2 with ⟨hA, hn⟩ | ⟨g, cap, cur, hA, hgB, _⟩
    · obtain rfl : A2 = none := by injection hA
      obtain rfl : c2 = 0 := by injection hA
      clear hA HO2
      have HN0 : Hid (x.ar = []) := Lib.hid (List.length_eq_zero_iff.1 hn)
      go_loopw [17] (fun i wr => ∃ k : Nat, k ≤ x.ar.length ∧ i = .int .i64 (k : Int) ∧ wr = W3) (fun i _ => x.ar.length - (intOf i).toNat)
      case atStart => exact ⟨0, by omega, rfl, rfl⟩
      case round =>
        obtain ⟨k, hk, rfl, rfl⟩ := hrel
        obtain rfl : k = x.ar.length := by omega
        clear hn hk
        obtain ⟨c0, c1, c2, c3, c4, c5, r0, r1, r2, r3, r4, r5, rf, rlt⟩ := HCB.out
        have q0 := rf 0 (by decide)
        have q1 := rf 1 (by decide)
        have q2 := rf 2 (by decide)
        have q3 := rf 3 (by decide)
        have q4 := rf 4 (by decide)
        have q5 := rf 5 (by decide)
        obtain ⟨⟨g0, g1, g2, g3, g4, g5⟩, gf, gc, gz⟩ := st6_cells r0 r1 r2 r3 r4 r5 x.k x.op x.t x.v nm (.slice none x.ar.length 0)
        have hfin := st6_below HB2.out (Nat.le_succ _) x.k x.op x.t x.v nm (.slice none x.ar.length 0)
        have HF := Lib.hid hfin
        dsimp only [st6] at g0 g1 g2 g3 g4 g5
        clear rf gf gc gz hfin
        go_wp2
        refine bodyPost_ret (v := .agg #[.int .i64 x.k, .int .i64 x.op, .int .i64 x.t, .int .i64 x.v, .string nm, .slice none x.ar.length 0]) (by simp [results, Tryz.f27, go_sem, g0, g1, g2, g3, g4, g5]) rfl ?_
        refine ⟨.mk x.k x.op x.t x.v nm none 0 [], by rw [HN0.out]; rfl, ?_, .mk _ (fun h => absurd rfl h) (fun _ _ _ h => by cases h) (fun _ h => by cases h) ⟨⟨Nat.zero_le _, HSN.out⟩, Nat.le_refl _⟩, HF.out⟩
        rw [Xt.ct_eq, Xt.rc_eq, HNM.out, HN0.out]
        rfl
    · obtain ⟨ad, had⟩ : ∃ ad, (⟨g, 0, none⟩ : Addr) = ad := ⟨_, rfl⟩
      obtain rfl : A2 = some ad := by rw [← had]; injection hA
      obtain rfl : c2 = cap := by injection hA
      have HAD := Lib.hid had
      have HG : Hid (B ≤ g) := Lib.hid hgB
      have HR : Hid (CR ρ x B g c2 0 24 [] W3) := Lib.hid (by
        have h := HO2.out
        rw [← had] at h
        exact ⟨rfl, rfl, (fun y h => absurd h (by simp)), by simpa using h⟩)
      clear hA had HO2 hgB
      go_loopw [17] (fun i wr => ∃ k : Nat, k ≤ x.ar.length ∧ i = .int .i64 (k : Int) ∧ Hid (CB w x nm (.slice (some ad) x.ar.length c2) wr) ∧ Hid (Below w.heap.size w wr) ∧ ∃ L, Hid (CR ρ x B g c2 k 24 L wr)) (fun i _ => x.ar.length - (intOf i).toNat)
      case atStart => exact ⟨0, by omega, rfl, HCB, HB2, [], HR⟩
      case round =>
        obtain ⟨k, hk, rfl, hcb, hbl, L, hcr⟩ := hrel
        have hBw : B ≤ wr.heap.size := by
          have h := hcr.out.own
          rcases h.2 with ⟨e, _⟩ | ⟨g', cap', cur, e, hb, hg, _⟩
          · cases e
          · exact Nat.le_of_lt (Nat.lt_of_le_of_lt hb (Array.getElem?_eq_some_iff.1 hg).1)
        have HBW := Lib.hid hBw
        clear hBw
        by_cases hlt : k < x.ar.length
        · obtain ⟨ad', y, hA', _, hy, hm, _, hr⟩ := (HX.out.to hbl.out).at_ hlt
          clear hA'
          have KR : Hid (∀ W, Below wr.heap.size wr W → Calls Tryz.prog 27 #[.agg #[.int .i64 y.k, .int .i64 y.op, .int .i64 y.t, .int .i64 y.v, .string y.nm, .slice y.A y.ar.length y.c], .func (.func 28) #[] #[]] W (fun e w' => ∃ y' : Xt, e = .returned (.agg #[.int .i64 y'.k, .int .i64 y'.op, .int .i64 y'.t, .int .i64 y'.v, .string y'.nm, .slice y'.A y'.ar.length y'.c]) ∧ y'.ct = y.rc ρ ∧ RdP w' (fun b => W.heap.size ≤ b ∧ b < w'.heap.size) y' ∧ Below W.heap.size W w')) := Lib.hid fun W hb => IH.out k y hy W (hbl.out.trans (hb.mono hbl.out.size)) (hr.to hb)
          have hlen : (L ++ x.ar.drop k).length = x.ar.length := by rw [List.length_append, hcr.out.len, List.length_drop]; omega
          have hget : (L ++ x.ar.drop k)[k]? = some y := by rw [List.getElem?_append_right (by rw [hcr.out.len]; exact Nat.le_refl _), hcr.out.len, Nat.sub_self, List.getElem?_drop]; simpa using hy
          have hown := hcr.out.own
          have hfr := fun j => hown.frozenAt j
          rw [← hlen] at hown
          obtain ⟨ad2, e2, had2, hcells⟩ := RdXs.of_own hown (by intro e; rw [e] at hget; cases hget)
          obtain rfl : ad2 = ad := Option.some.inj (e2.symm.trans (congrArg some HAD.out))
          obtain ⟨m, hmk⟩ : ∃ m, k * 6 = m := ⟨_, rfl⟩
          have hal : ad2.add (k * 6) = ⟨g, m, none⟩ := by rw [← HAD.out, ← hmk]; exact (add_add6 g (k * 6) 0).2.2
          have hgl : g < wr.heap.size := by rw [← HAD.out] at had2; exact had2
          have hxc := hcells k y hget
          rw [hal] at hxc
          obtain ⟨c0, c1, c3', c4', c5', c6'⟩ := hxc
          have KEEP : Hid (∀ W, Below wr.heap.size wr W → XC W ⟨g, m, none⟩ y ∧ (W.frozen? ⟨g, m, none⟩ = false ∧ W.frozen? ⟨g, m + 1, none⟩ = false ∧ W.frozen? ⟨g, m + 2, none⟩ = false ∧ W.frozen? ⟨g, m + 3, none⟩ = false ∧ W.frozen? ⟨g, m + 4, none⟩ = false ∧ W.frozen? ⟨g, m + 5, none⟩ = false) ∧ W.cell? ⟨w.heap.size, 5, none⟩ = some (.slice (some ad2) x.ar.length c2)) := Lib.hid fun W hb => by
            have hfz : ∀ j, W.frozen? ⟨g, j, none⟩ = false := fun j => (hb.frozen (p := ⟨g, j, none⟩) hgl).trans (hfr j)
            have hxc := hcells k y hget
            rw [hal] at hxc
            exact ⟨hxc.keep fun p hp => hb.cell (by rw [hp]; exact hgl), ⟨hfz _, hfz _, hfz _, hfz _, hfz _, hfz _⟩, (hb.cell (p := ⟨w.heap.size, 5, none⟩) (show w.heap.size < wr.heap.size by have := hcb.out.lt; omega)).trans hcb.out.c5⟩
          have HMK := Lib.hid hmk
          have hc5 := fun o => cell_al o hcb.out.c5
          have HY := Lib.hid hy
          clear hown hfr hlen hget e2 had2 hcells hr hm hy HR HCB HB2 hmk hgl
          go_wp2
          go_region_with (go_at_call 27; (with_reducible refine (KR.out _ ?_).mono ?_); (focus ((repeat (first | (with_reducible exact Below.refl _ _) | (with_reducible assumption) | (with_reducible exact bel_box _) | (with_reducible refine bel_step ?_ (by with_reducible assumption)) | (with_reducible refine Below.drew ?_) | (with_reducible refine below_drewN ?_ _) | (with_reducible refine bel_alloc ?_ _))); done)); rintro e w5 ⟨y', rfl, hct, hrd, hb5⟩; obtain ⟨⟨d0, d1, d2, d3, d4, d5⟩, ⟨z0, z1, z2, z3, z4, z5⟩, hd5⟩ := KEEP.out w5 (by repeat (first | (with_reducible exact Below.refl _ _) | (with_reducible assumption) | (with_reducible exact bel_box _) | (with_reducible refine bel_step ?_ (by with_reducible assumption)) | (with_reducible refine Below.drew ?_) | (with_reducible refine below_drewN ?_ _) | (with_reducible refine bel_alloc ?_ _))))
          all_goals
            have hb5' : Below wr.heap.size wr w5 := (by repeat (first | (with_reducible exact Below.refl _ _) | (with_reducible assumption) | (with_reducible exact bel_box _) | (with_reducible refine bel_step ?_ (by with_reducible assumption)) | (with_reducible refine Below.drew ?_) | (with_reducible refine below_drewN ?_ _) | (with_reducible refine bel_alloc ?_ _)))
            have hrd' : RdP w5 (fun b => wr.heap.size ≤ b ∧ b < w5.heap.size) y' := by
              refine hrd.keep (fun b h => ⟨Nat.le_trans ?_ h.1, h.2⟩) (fun _ _ => rfl)
              show wr.heap.size ≤ (wr.alloc _).heap.size
              rw [World.size_alloc]
              exact Nat.le_succ _
            obtain ⟨S1, S2⟩ := hcr.out.step HBW.out HY.out hb5' hct hrd'
            rw [(add_add6 g (k * 6) 0).2.2, HMK.out] at S1 S2
            have G1 := HG.out
            have G2 := HZ.out
            have N1 := Lib.hid (hcb.out.keep S2 (fun e => by have := Option.some.inj e; omega) (fun e => by have := Option.some.inj e; omega))
            have N2 := Lib.hid (sa6_below (a := ⟨g, m, none⟩) (hbl.out.trans (hb5'.mono hbl.out.size)) (show w.heap.size ≤ g by omega) y')
            have N3 := Lib.hid S1
            clear S1 S2 G1 G2 hrd' hct hrd d0 d1 d2 d3 d4 d5 z0 z1 z2 z3 z4 z5 hd5 hc5 c0 c1 c3' c4' c5' c6' hb5' hb5 hal
            go_wp2
            go_roundw
            case rel => exact ⟨k + 1, by omega, by go_num, N1, N2, _, N3⟩
            case measure => simp [intOf]; omega
        · obtain rfl : k = x.ar.length := by omega
          obtain ⟨c0, c1, c2', c3, c4, c5, r0, r1, r2, r3, r4, r5, rf, rlt⟩ := hcb.out
          have q0 := rf 0 (by decide)
          have q1 := rf 1 (by decide)
          have q2 := rf 2 (by decide)
          have q3 := rf 3 (by decide)
          have q4 := rf 4 (by decide)
          have q5 := rf 5 (by decide)
          obtain ⟨⟨g0, g1, g2, g3, g4, g5⟩, gf, gc, gz⟩ := st6_cells r0 r1 r2 r3 r4 r5 x.k x.op x.t x.v nm (.slice (some ad) x.ar.length c2)
          have HF := Lib.hid (st6_below hbl.out (Nat.le_succ _) x.k x.op x.t x.v nm (.slice (some ad) x.ar.length c2))
          have HND := Lib.hid (hcr.out.node HSN.out HNM.out)
          have HGC := Lib.hid (And.intro gc gz)
          dsimp only [st6] at g0 g1 g2 g3 g4 g5
          clear rf gf gc gz
          go_wp2
          refine bodyPost_ret (v := .agg #[.int .i64 x.k, .int .i64 x.op, .int .i64 x.t, .int .i64 x.v, .string nm, .slice (some ad) x.ar.length c2]) (by simp [results, Tryz.f27, go_sem, g0, g1, g2, g3, g4, g5]) rfl ?_
          obtain ⟨n1, n2, n3⟩ := HND.out
          refine ⟨.mk x.k x.op x.t x.v nm (some ⟨g, 0, none⟩) c2 L, ?_, n1, n2.keep (fun b ⟨h1, h2⟩ => ⟨?_, ?_⟩) (fun p ⟨h1, _⟩ => HGC.out.1 p ?_), HF.out⟩
          · rw [HAD.out, ← n3]; rfl
          · have := HZ.out; omega
          · rw [HGC.out.2]; exact h2
          · have := HZ.out; omega
end Go.Proofs.YtoekgbdomeklgaaGreatDoor
/- clone and Rename of the program. -/
namespace Go.Proofs.YtoekgbdomeklgaaGreatDoor
set_option linter.unusedVariables false
set_option linter.unusedSimpArgs false
open Go.RowKit Go.Sort Go.Deep
set_option maxHeartbeats 1000000 in
set_option maxRecDepth 20000 in
theorem clone_any (x : Xt) (w : World) (hX : RdX w w.heap.size x) (hs : x.size ≤ 33554432) : Calls Tryz.prog 12 #[xV x] w (NewE x.ct w) := by
  have K : Hid (∀ W, Below w.heap.size w W → Calls Tryz.prog 27 #[xV x, .func (.func 28) #[] #[]] W (NewE x.ct W)) := Lib.hid fun W hb => by
    have := changed_id (fun _ s => s) (fun _ _ h => h) w (Lib.hid fun y W _ => clone1_any y W) x W hb (hX.to hb) hs
    rwa [rc_id] at this
  simp only [xV] at K ⊢
  go_enter Tryz.func12, Tryz.ntmps12
  go_wp2_with (go_at_call 27; (with_reducible refine (K.out _ ?_).mono ?_); (focus ((repeat (first | (with_reducible exact Below.refl _ _) | (with_reducible assumption) | (with_reducible exact bel_box _) | (with_reducible refine bel_step ?_ (by with_reducible assumption)) | (with_reducible refine Below.drew ?_) | (with_reducible refine below_drewN ?_ _) | (with_reducible refine bel_alloc ?_ _))); done)); rintro e w1 ⟨x', rfl, hc, hr, hb1⟩; simp only [xV]; obtain ⟨_, _, _, _, _, _, ⟨r0, r1, r2, r3, r4, r5⟩, rf, rz, hw1⟩ := chg_box (w := w) (x := x) (W := w1) (T := 24) hb1; have q0 := rf 0 (by decide); have q1 := rf 1 (by decide); have q2 := rf 2 (by decide); have q3 := rf 3 (by decide); have q4 := rf 4 (by decide); have q5 := rf 5 (by decide); obtain ⟨⟨g0, g1, g2, g3, g4, g5⟩, gf, gc, gz⟩ := st6_cells r0 r1 r2 r3 r4 r5 x'.k x'.op x'.t x'.v x'.nm (.slice x'.A x'.ar.length x'.c); have HF := Lib.hid (st6_below hw1 (Nat.le_succ _) x'.k x'.op x'.t x'.v x'.nm (.slice x'.A x'.ar.length x'.c)); have HG := Lib.hid (And.intro gc gz); dsimp only [st6] at g0 g1 g2 g3 g4 g5; clear gf gc gz)
  refine bodyPost_ret (v := .agg #[.int .i64 x'.k, .int .i64 x'.op, .int .i64 x'.t, .int .i64 x'.v, .string x'.nm, .slice x'.A x'.ar.length x'.c]) (by simp [results, Tryz.f12, go_sem, g0, g1, g2, g3, g4, g5]) rfl ?_
  refine ⟨x', rfl, hc, hr.keep (fun b h => ⟨?_, ?_⟩) (fun p h => HG.out.1 p ?_), HF.out⟩
  · refine Nat.le_trans ?_ h.1
    simp only [World.size_alloc]; omega
  · rw [HG.out.2]; exact h.2
  · have := h.1
    simp only [World.size_alloc] at this
    omega
end Go.Proofs.YtoekgbdomeklgaaGreatDoor
/- Each$1 of the program: copies of the expressions, one after another, are handed to its round. -/
namespace Go.Proofs.YtoekgbdomeklgaaGreatDoor
set_option linter.unusedVariables false
set_option linter.unusedSimpArgs false
open Go.RowKit Go.Shelf
attribute [local go_sem] Oper.semAt_some
theorem RdX.mem {w : World} {B : Nat} {x : Xt} (h : RdX w B x) : ∀ y ∈ x.list, RdX w B y := by
  induction x using Xt.ind with
  | h x ih =>
    intro y hy
    rw [Xt.list_eq] at hy
    rcases List.mem_cons.1 hy with rfl | hy
    · exact h
    · obtain ⟨l, hl, hyl⟩ := List.mem_flatten.1 hy
      obtain ⟨z, hz, rfl⟩ := List.mem_map.1 hl
      exact ih z hz (h.kid hz) y hyl
theorem size_mem (x : Xt) : ∀ y ∈ x.list, y.size ≤ x.size := by
  induction x using Xt.ind with
  | h x ih =>
    intro y hy
    rw [Xt.list_eq] at hy
    rcases List.mem_cons.1 hy with rfl | hy
    · exact Nat.le_refl _
    · obtain ⟨l, hl, hyl⟩ := List.mem_flatten.1 hy
      obtain ⟨z, hz, rfl⟩ := List.mem_map.1 hl
      have h1 := ih z hz y hyl
      obtain ⟨i, hi⟩ := List.getElem?_of_mem hz
      obtain ⟨F, e1, _, _, h4, h5⟩ := parts_sum x
      have := h4.out i z hi
      have := h5.out (i + 1)
      omega
theorem KX.grown {S : Nat → Prop} {W W' : World} {row : Option Nat} (hg : W.grownBy W' row) (hr : ∀ r, row = some r → ∃ o : Obj, W.heap[r]? = some o ∧ o.isCells = false) : KX S W W' :=
  ⟨hg.size, fun k o _ ho hc => (hg.block k (Array.getElem?_eq_some_iff.1 ho).1 (fun e => by
    obtain ⟨o', h1, h2⟩ := hr k e.symm
    rw [ho] at h1
    cases h1
    rw [hc] at h2
    cases h2)).trans ho⟩
theorem own_kx {β : Type} {S : Nat → Prop} {W : World} (B : Nat) : OwnFrom B (fun (_ : β) X => KX S W X) := fun _ X Y row hs hg hr => hs.trans (KX.grown hg fun r e => (hr r e).2)
/-- what was handed on has the contents of what came -/
def SameCt {x : Xt} (ys : List Xt) (pre : List {y : Xt // y ∈ x.list}) : Prop := ys.map Xt.ct = pre.map (fun y => y.1.ct)
theorem SameCt.snoc {x : Xt} {ys : List Xt} {pre : List {y : Xt // y ∈ x.list}} (h : SameCt ys pre) {x' : Xt} {y : {y : Xt // y ∈ x.list}} (hc : x'.ct = y.1.ct) : SameCt (ys ++ [x']) (pre ++ [y]) := by
  unfold SameCt at *
  rw [List.map_append, List.map_append, h, List.map_singleton, List.map_singleton, hc]
set_option maxHeartbeats 2000000 in
set_option maxRecDepth 100000 in
theorem each1_yields (n be n₀ : Nat) (S : Nat → Prop) (x : Xt) (w : World) (hS : ∀ k, S k → n₀ ≤ k ∧ k < w.heap.size) (hn₀ : n₀ ≤ w.heap.size) (hbe : be < n₀) (hX : RdX w n₀ x) (hs : x.size ≤ 33554432)
    (c0 : w.cell? ⟨be, 0, none⟩ = some (.int .i64 x.k)) (c1 : w.cell? ⟨be, 1, none⟩ = some (.int .i64 x.op)) (c2 : w.cell? ⟨be, 2, none⟩ = some (.int .i64 x.t)) (c3 : w.cell? ⟨be, 3, none⟩ = some (.int .i64 x.v)) (c4 : w.cell? ⟨be, 4, none⟩ = some (.string x.nm)) (c5 : w.cell? ⟨be, 5, none⟩ = some (.slice x.A x.ar.length x.c)) :
    Yields n 13 #[.pointer (some ⟨be, 0, none⟩)] (fun y : Xt => #[xV y]) (fun y W => RdX W W.heap.size y) S (fun ys => ys.map Xt.ct = x.list.map Xt.ct) (fun pre => pre.map Xt.ct <+: x.list.map Xt.ct) w := by
  intro l J Jx W hW hJ hJx hY h0
  refine (callsIn_wide (n := n)).2 ((callsIn_wide (n := 5)).1 ?_)
  have hdd : ∀ k : Nat, (Fence.wide.depth.isSome = true → 1 ≤ k) := fun k h => by cases h
  have hWs := hW.size
  have hbw : be < w.heap.size := Nat.lt_of_lt_of_le hbe hn₀
  have d0 := fun o => cell_al o ((hW.cell (p := ⟨be, 0, none⟩) hbw).trans c0)
  have d1 := fun o => cell_al o ((hW.cell (p := ⟨be, 1, none⟩) hbw).trans c1)
  have d2 := fun o => cell_al o ((hW.cell (p := ⟨be, 2, none⟩) hbw).trans c2)
  have d3 := fun o => cell_al o ((hW.cell (p := ⟨be, 3, none⟩) hbw).trans c3)
  have d4 := fun o => cell_al o ((hW.cell (p := ⟨be, 4, none⟩) hbw).trans c4)
  have d5 := fun o => cell_al o ((hW.cell (p := ⟨be, 5, none⟩) hbw).trans c5)
  have hXW : RdX W n₀ x := hX.blw (hW.mono hn₀) (Nat.le_refl _)
  have KW := Lib.hid (fun W => within_any x 11 W)
  have HY := Lib.hid hY
  have HX := Lib.hid hXW
  have HS := Lib.hid hS
  clear hY c0 c1 c2 c3 c4 c5 hX hXW hS hW
  simp only [xV] at KW
  simp only [List.append_toArray, List.cons_append, List.nil_append, Array.append_eq_append] at *
  refine callsIn_of_wp_marks Tryz.func13 rfl trivial ?_ rfl
  simp only [Tryz.ntmps13, List.size_toArray, List.length_cons, List.length_nil, Nat.reduceAdd, Nat.reduceSub, Array.replicate_succ, Array.replicate_zero, List.push_toArray, List.append_toArray, List.nil_append, List.cons_append]
  gi_wp2_with (first
    | (refine ⟨trivial, ?_⟩; gi_at_call 10; refine (callsIn_wide.2 (KW.out _)).mono ?_; rintro e W3 ⟨rfl, rfl⟩))
  obtain ⟨V, hV⟩ : ∃ V, W.alloc (.cells #[.func (.yield l) #[] #[]] 28) = V := ⟨_, rfl⟩
  have hVz : V.heap.size = W.heap.size + 1 := by rw [← hV, World.size_alloc]
  have hVB : Below W.heap.size W V := by rw [← hV]; exact bel_box _
  have hVc : V.cell? ⟨W.heap.size, 0, none⟩ = some (.func (.yield l) #[] #[]) := by rw [← hV]; simp [go_sem]
  have hst := within_atP (fun y => y ∈ x.list) (5 - 1) n₀ S x V (fun y h => h) (fun k hk => ⟨(HS.out k hk).1, by have := (HS.out k hk).2; omega⟩) (by omega) (HX.out.blw (hVB.mono (by omega)) (Nat.le_refl _))
  rw [hV]
  obtain ⟨V0, hV0⟩ : ∃ V0, inW V x 11 = V0 := ⟨_, rfl⟩
  rw [show (bxW V x).alloc (.cells #[.func (.func 11) #[] #[]] 30) = V0 from hV0]
  have hz0 : V0.heap.size = W.heap.size + 3 := by rw [← hV0, inW_size, hVz]
  have hB1 : Below V.heap.size V V0 := by rw [← hV0]; exact inW_below V x _
  have hB0 : Below W.heap.size W V0 := hVB.trans (hB1.mono (by omega))
  have hk0 : KX S V V0 := KX.of_below hB1
  have hJ0 : J [] V0 := by rw [← hV0, ← hV]; exact hJ.alloc _ (hJ.alloc _ (hJ.alloc _ h0))
  rw [hV0, hVz] at hst
  clear hV0 hV KW d0 d1 d2 d3 d4 d5
  have hll := list_length x
  refine wpIn_rangeFunc_ownH (α := {y : Xt // y ∈ x.list}) rfl (by decide) (gf := 25) (lb := #[.pointer (some ⟨W.heap.size + 1, 0, none⟩), .pointer (some ⟨W.heap.size + 1 + 1, 0, none⟩)]) rfl trivial (enters_of Tryz.func25 (by kernel_rfl) rfl)
    hst KX_t KX_b (Below.refl _ _) (fun _ => rfl)
    (fun pre X => ∃ ys : List Xt, SameCt ys pre ∧ J ys X ∧ KX S V X)
    (fun c pre X => c = .ret ∧ ∃ ys : List Xt, SameCt ys pre ∧ Jx ys X)
    (fun pre X Y row hs hg hr => by
      obtain ⟨ys, h1, h2, h3⟩ := hs
      exact ⟨ys, h1, hJ ys X Y row h2 hg (fun r e => ⟨by have := (hr r e).1; omega, (hr r e).2⟩), own_kx (β := Unit) V0.heap.size () X Y row h3 hg hr⟩)
    (fun c pre X Y row hs hg hr => by
      obtain ⟨h0, ys, h1, h2⟩ := hs
      exact ⟨h0, ys, h1, hJx ys X Y row h2 hg (fun r e => ⟨by have := (hr r e).1; omega, (hr r e).2⟩)⟩)
    ⟨[], rfl, hJ0, hk0⟩
    (fun y a' X => ∃ Bx, (X.cell? ⟨Bx, 0, none⟩ = some (.int .i64 y.1.k) ∧ X.cell? ⟨Bx, 1, none⟩ = some (.int .i64 y.1.op) ∧ X.cell? ⟨Bx, 2, none⟩ = some (.int .i64 y.1.t) ∧ X.cell? ⟨Bx, 3, none⟩ = some (.int .i64 y.1.v) ∧ X.cell? ⟨Bx, 4, none⟩ = some (.string y.1.nm) ∧ X.cell? ⟨Bx, 5, none⟩ = some (.slice y.1.A y.1.ar.length y.1.c)) ∧ a' = { tmps := #[.func (.yield l) #[] #[], .pointer (some ⟨be, 0, none⟩), .pointer (some ⟨W.heap.size, 0, none⟩), .pointer (some ⟨Bx, 0, none⟩), .agg #[.int .i64 x.k, .int .i64 x.op, .int .i64 x.t, .int .i64 x.v, .string x.nm, .slice x.A x.ar.length x.c], .func (.func 25) #[] #[.pointer (some ⟨W.heap.size + 1, 0, none⟩), .pointer (some ⟨W.heap.size + 1 + 1, 0, none⟩)], xV y.1, undef, undef, undef, undef, undef], defers := [] })
    (fun y a' s A B row hs hg hr => by
      obtain ⟨Bx, ⟨h2, h3, h4, h5, h6, h7⟩, h8⟩ := hs
      exact ⟨Bx, ⟨cell_kept h2 hg (fun r e => (hr r e).2), cell_kept h3 hg (fun r e => (hr r e).2), cell_kept h4 hg (fun r e => (hr r e).2), cell_kept h5 hg (fun r e => (hr r e).2), cell_kept h6 hg (fun r e => (hr r e).2), cell_kept h7 hg (fun r e => (hr r e).2)⟩, h8⟩) ?assign ?body ?done ?stop
  case assign =>
    rintro l2 pre y X K ⟨ys, i1, i2, i3⟩ hK
    rw [fold1]
    simp only [xV] at hK ⊢
    gi_wp2
    obtain ⟨d0, d1, d2, d3, d4, d5⟩ := bx_box X y.1
    exact hK _ _ ((KeepsOthers.alloc _ _).from _) (KX.of_below (bel_box _)) ⟨ys, i1, hJ.alloc _ i2, i3.trans (KX.of_below (bel_box _))⟩ ⟨X.heap.size, ⟨d0, d1, d2, d3, d4, d5⟩, rfl⟩
  case body =>
    rintro l2 pre y a' X hl2 _ ⟨ys, i1, i2, i3⟩ ⟨Bx, ⟨d0, d1, d2, d3, d4, d5⟩, rfl⟩ hlt
    have hv : X.cell? ⟨W.heap.size, 0, none⟩ = some (.func (.yield l) #[] #[]) := i3.cell (a := ⟨_, _, none⟩) (fun hs => by have := (HS.out _ hs).2; simp only at this; omega) hVc
    have hXX : RdX X n₀ x := (HX.out.blw (hVB.mono (by omega)) (Nat.le_refl _)).kx i3 (fun k hk => (HS.out k hk).1)
    have hXz : n₀ ≤ X.heap.size := by have := i3.1; omega
    have hys := size_mem x y.1 y.2
    have hyr := hXX.mem y.1 y.2
    have KC : Hid (∀ Y, Below X.heap.size X Y → Calls Tryz.prog 12 #[xV y.1] Y (NewE y.1.ct Y)) := Lib.hid fun Y hb => clone_any y.1 Y (hyr.blw (hb.mono hXz) (Nat.le_trans hXz hb.size)) (by omega)
    simp only [xV] at KC
    have HI := Lib.hid (And.intro i1 i2)
    have HK := Lib.hid i3
    have hvb : W.heap.size < X.heap.size := by have := i3.1; omega
    have mixed : Tryz.prog.follows .mixedOrders = true := by kernel_rfl
    clear hXX hXz hys hyr i1 i2 i3 hlt hl2 hll hk0 hJ0 hB0 hB1 hst hVc
    gi_wp2
    gi_region_with_o (first
      | (refine ⟨trivial, ?_⟩; gi_at_call 12; refine (CallsIn.inRound l2 (callsIn_wide.2 (KC.out _ ?_))).mono ?_; (focus ((repeat (first | (with_reducible exact Below.refl _ _) | (with_reducible assumption) | (with_reducible exact bel_box _) | (with_reducible refine bel_step ?_ (by with_reducible assumption)) | (with_reducible refine Below.drew ?_) | (with_reducible refine below_drewN ?_ _) | (with_reducible refine bel_alloc ?_ _))); done)); rintro e w4 ⟨x', rfl, hct, hrd, hb4⟩; have hB4 : Below X.heap.size X w4 := (by repeat (first | (with_reducible exact Below.refl _ _) | (with_reducible assumption) | (with_reducible exact bel_box _) | (with_reducible refine bel_step ?_ (by with_reducible assumption)) | (with_reducible refine Below.drew ?_) | (with_reducible refine below_drewN ?_ _) | (with_reducible refine bel_alloc ?_ _))); have hv4 := (hB4.cell (p := ⟨W.heap.size, 0, none⟩) hvb).trans hv; have hj4 : J ys w4 := hJ ys X w4 none HI.out.2 (below_grown hB4) (fun r e => by cases e); have hq4 : RdX w4 w4.heap.size x' := hrd.rd (fun b hb => hb.2); obtain ⟨fn, tmps, assign, body, hy, hR⟩ := yield_any rfl 2 (HY.out ys x' w4 hj4 hq4); have hR := (show RoundIn (Fence.wide.inRound l2) 2 Tryz.prog l fn tmps assign body w4 _ from hR); have HB4 := Lib.hid hB4; have HCT := Lib.hid hct; clear hj4 hq4 hrd hct hb4 hB4; simp only [xV] at hy ⊢)
      | (refine hR.mono ?_; rintro e W2 hp; obtain ⟨b, rfl, hP⟩ : ∃ b : Bool, e = .returned (.bool b) ∧ ((b = true ∧ J (ys ++ [x']) W2 ∧ KR S W.heap.size w4 W2) ∨ (b = false ∧ Jx (ys ++ [x']) W2 ∧ KeepsFrom W.heap.size w4 W2)) := (by rcases hp with ⟨rfl, h⟩ | ⟨rfl, h⟩; exact ⟨true, rfl, .inl ⟨rfl, h⟩⟩; exact ⟨false, rfl, .inr ⟨rfl, h⟩⟩); have HP := Lib.hid hP; clear hP hp))
    all_goals
      clear hR hy
      have hko : KeepsFrom V0.heap.size X w4 := (KeepsOthers.of_grownBy (below_grown HB4.out) (fun j o e => by cases e)).from _
      rw [hz0] at hko
      cases b
      · have nb : (!false) = true := rfl
        rcases HP.out with ⟨h, _⟩ | ⟨_, hx2, hk2⟩
        · cases h
        clear HP
        gi_wp2
        exact ⟨hko.trans (KeepsFrom_up hk2 (by omega)), rfl, ys ++ [x'], HI.out.1.snoc HCT.out, hx2⟩
      · have nb : (!true) = false := rfl
        rcases HP.out with ⟨_, hj2, hk2⟩ | ⟨h, _⟩
        · clear HP
          gi_wp2
          exact ⟨hko.trans (KeepsFrom_up hk2.2 (by omega)), (KX.of_below HB4.out).trans hk2.1, ys ++ [x'], HI.out.1.snoc HCT.out, hj2, (HK.out.trans (KX.of_below HB4.out)).trans hk2.1⟩
        · cases h
  case done =>
    rintro D zs X hD hz ⟨ys, h1, h2, h3⟩ hK
    gi_wp2
    refine ⟨by simp, .inl ⟨_, _, rfl, run_takeDeferred hK, ?_⟩⟩
    refine ⟨_, results_none rfl _ _ _, ⟨_, rfl⟩, .inl ⟨ys, ?_, hJ.putObj _ h2 (by omega) hK rfl⟩⟩
    refine h1.trans ?_
    have := congrArg (List.map Xt.ct) hz
    rwa [List.map_map] at this
  case stop =>
    rintro D c zs X hD hz ⟨rfl, ys, h1, h2⟩ hK
    gi_wp2
    refine ⟨by simp, .inl ⟨_, _, rfl, run_takeDeferred hK, ?_⟩⟩
    refine ⟨_, results_none rfl _ _ _, ⟨_, rfl⟩, .inr ⟨ys, ?_, hJx.putObj _ h2 (by omega) hK rfl⟩⟩
    rw [h1]
    have := hz.map Xt.ct
    rwa [List.map_map] at this
end Go.Proofs.YtoekgbdomeklgaaGreatDoor
/- Each of the program. -/
namespace Go.Proofs.YtoekgbdomeklgaaGreatDoor
set_option linter.unusedVariables false
set_option linter.unusedSimpArgs false
open Go.RowKit Go.Sort Go.Deep
/-- what Each hands back: the iterator over a copy in a box, or, of too great an expression, some function -/
def EachR (x : Xt) (w : World) (e : Ending) (w' : World) : Prop := Below w.heap.size w w' ∧ ((x.sp 1 29826161 < 0 ∧ ∃ f c, e = .returned (.func (.func f) #[] c)) ∨
  (0 ≤ x.sp 1 29826161 ∧ ∃ (x' : Xt) (be : Nat), e = .returned (.func (.func 13) #[] #[.pointer (some ⟨be, 0, none⟩)]) ∧ x'.ct = x.ct ∧ RdX w' w'.heap.size x' ∧ be < w'.heap.size ∧
    (w'.cell? ⟨be, 0, none⟩ = some (.int .i64 x'.k) ∧ w'.cell? ⟨be, 1, none⟩ = some (.int .i64 x'.op) ∧ w'.cell? ⟨be, 2, none⟩ = some (.int .i64 x'.t) ∧ w'.cell? ⟨be, 3, none⟩ = some (.int .i64 x'.v) ∧ w'.cell? ⟨be, 4, none⟩ = some (.string x'.nm) ∧ w'.cell? ⟨be, 5, none⟩ = some (.slice x'.A x'.ar.length x'.c))))
set_option maxHeartbeats 2000000 in
set_option maxRecDepth 20000 in
theorem each_any (x : Xt) (w : World) (hX : RdX w w.heap.size x) : Calls Tryz.prog 4 #[xV x] w (EachR x w) := by
  have KS := Lib.hid (fun W (h : Below w.heap.size w W) => spare_any x 1 29826161 W (hX.to h) (by omega) (by omega) (by omega))
  have KW := Lib.hid (fun W => within_any x 11 W)
  have KC : x.size ≤ 33554432 → Hid (∀ W, Below w.heap.size w W → Calls Tryz.prog 12 #[xV x] W (NewE x.ct W)) := fun h => Lib.hid fun W hb => clone_any x W (hX.to hb) h
  have hss := spare_size x 1 29826161 (by omega)
  clear hX
  obtain ⟨q, hq⟩ : ∃ q, x.sp 1 29826161 = q := ⟨_, rfl⟩
  unfold EachR
  rw [hq] at hss KS ⊢
  clear hq
  by_cases z : q < 0
  · simp only [xV] at KS KW ⊢
    clear KC hss
    go_enter Tryz.func4, Tryz.ntmps4
    go_wp2_with (first
      | (go_at_call 9; (with_reducible refine (KS.out _ ?_).mono ?_); (focus ((repeat (first | (with_reducible exact Below.refl _ _) | (with_reducible assumption) | (with_reducible exact bel_box _) | (with_reducible refine bel_step ?_ (by with_reducible assumption)) | (with_reducible refine Below.drew ?_) | (with_reducible refine below_drewN ?_ _) | (with_reducible refine bel_alloc ?_ _))); done)); rintro e w1 ⟨rfl, hb1⟩; obtain ⟨b0, b1, b2, b3, b4, b5, _⟩ := bxW_cells (w := w) (x := x) (W := w1) (by repeat (first | (with_reducible exact Below.refl _ _) | (with_reducible assumption) | (with_reducible exact bel_box _) | (with_reducible refine bel_step ?_ (by with_reducible assumption)) | (with_reducible refine Below.drew ?_) | (with_reducible refine below_drewN ?_ _) | (with_reducible refine bel_alloc ?_ _))))
      | (go_at_call 10; (with_reducible refine (KW.out _).mono ?_); rintro e w2 ⟨rfl, rfl⟩))
    go_ret
    exact ⟨(by repeat (first | (with_reducible exact Below.refl _ _) | (with_reducible assumption) | (with_reducible exact bel_box _) | (with_reducible refine bel_step ?_ (by with_reducible assumption)) | (with_reducible refine Below.drew ?_) | (with_reducible refine below_drewN ?_ _) | (with_reducible refine bel_alloc ?_ _))), .inl ⟨z, _, _, rfl⟩⟩
  · have hq0 : 0 ≤ q := by omega
    have KC := KC (by have := hss hq0; omega)
    have HQ := Lib.hid hq0
    simp only [xV] at KS KC ⊢
    clear z KW hss
    go_enter Tryz.func4, Tryz.ntmps4
    go_wp2_with (first
      | (go_at_call 9; (with_reducible refine (KS.out _ ?_).mono ?_); (focus ((repeat (first | (with_reducible exact Below.refl _ _) | (with_reducible assumption) | (with_reducible exact bel_box _) | (with_reducible refine bel_step ?_ (by with_reducible assumption)) | (with_reducible refine Below.drew ?_) | (with_reducible refine below_drewN ?_ _) | (with_reducible refine bel_alloc ?_ _))); done)); rintro e w1 ⟨rfl, hb1⟩; obtain ⟨b0, b1, b2, b3, b4, b5, _⟩ := bxW_cells (w := w) (x := x) (W := w1) (by repeat (first | (with_reducible exact Below.refl _ _) | (with_reducible assumption) | (with_reducible exact bel_box _) | (with_reducible refine bel_step ?_ (by with_reducible assumption)) | (with_reducible refine Below.drew ?_) | (with_reducible refine below_drewN ?_ _) | (with_reducible refine bel_alloc ?_ _))))
      | (go_at_call 12; (with_reducible refine (KC.out _ ?_).mono ?_); (focus ((repeat (first | (with_reducible exact Below.refl _ _) | (with_reducible assumption) | (with_reducible exact bel_box _) | (with_reducible refine bel_step ?_ (by with_reducible assumption)) | (with_reducible refine Below.drew ?_) | (with_reducible refine below_drewN ?_ _) | (with_reducible refine bel_alloc ?_ _))); done)); rintro e w2 ⟨x', rfl, hc, hr, hb2⟩; simp only [xV]; obtain ⟨b0, b1, b2, b3, b4, b5, hw2⟩ := bxW_cells (w := w) (x := x) (W := w2) (by repeat (first | (with_reducible exact Below.refl _ _) | (with_reducible assumption) | (with_reducible exact bel_box _) | (with_reducible refine bel_step ?_ (by with_reducible assumption)) | (with_reducible refine Below.drew ?_) | (with_reducible refine below_drewN ?_ _) | (with_reducible refine bel_alloc ?_ _))); have hf : ∀ i, w2.frozen? ⟨w.heap.size, i, none⟩ = false := (fun i => ((show Below (bxW w x).heap.size (bxW w x) w2 from (by repeat (first | (with_reducible exact Below.refl _ _) | (with_reducible assumption) | (with_reducible exact bel_box _) | (with_reducible refine bel_step ?_ (by with_reducible assumption)) | (with_reducible refine Below.drew ?_) | (with_reducible refine below_drewN ?_ _) | (with_reducible refine bel_alloc ?_ _)))).frozen (p := ⟨w.heap.size, i, none⟩) (by rw [bxW_size]; exact Nat.lt_succ_self _)).trans (by simp [go_sem])); have q0 := hf 0; have q1 := hf 1; have q2 := hf 2; have q3 := hf 3; have q4 := hf 4; have q5 := hf 5; obtain ⟨⟨g0, g1, g2, g3, g4, g5⟩, gf, gc, gz⟩ := st6_cells b0 b1 b2 b3 b4 b5 x'.k x'.op x'.t x'.v x'.nm (.slice x'.A x'.ar.length x'.c); have HF := Lib.hid (st6_below (show Below w.heap.size w w2 from (by repeat (first | (with_reducible exact Below.refl _ _) | (with_reducible assumption) | (with_reducible exact bel_box _) | (with_reducible refine bel_step ?_ (by with_reducible assumption)) | (with_reducible refine Below.drew ?_) | (with_reducible refine below_drewN ?_ _) | (with_reducible refine bel_alloc ?_ _)))) (Nat.le_refl _) x'.k x'.op x'.t x'.v x'.nm (.slice x'.A x'.ar.length x'.c)); have HG := Lib.hid (And.intro gc gz); have HH := Lib.hid (And.intro g0 (And.intro g1 (And.intro g2 (And.intro g3 (And.intro g4 g5))))); have HR := Lib.hid (And.intro hr hw2); clear gf gc gz hf g0 g1 g2 g3 g4 g5 hr hw2))
    go_ret
    refine ⟨HF.out, .inr ⟨HQ.out, x', w.heap.size, rfl, hc, ?_, ?_, HH.out⟩⟩
    · have h2 := HR.out.1.keep (W := st6 w2 w.heap.size x'.k x'.op x'.t x'.v x'.nm (.slice x'.A x'.ar.length x'.c)) (Q' := fun b => b < w2.heap.size) (fun b h => h.2) (fun p h => HG.out.1 p ?_)
      · refine h2.rd fun b hb => ?_
        show b < (st6 w2 w.heap.size x'.k x'.op x'.t x'.v x'.nm (.slice x'.A x'.ar.length x'.c)).heap.size
        rw [HG.out.2]; exact hb
      · have h3 := h.1
        have h4 := hb1.size
        simp only [World.size_alloc] at h4
        omega
    · show w.heap.size < (st6 w2 w.heap.size x'.k x'.op x'.t x'.v x'.nm (.slice x'.A x'.ar.length x'.c)).heap.size
      rw [HG.out.2]; exact HR.out.2
end Go.Proofs.YtoekgbdomeklgaaGreatDoor
/- The frame of a law's row: a call that returns true and leaves the old blocks alone meets the row; arguments that are slices of bools are opened. -/
namespace Go.Proofs.YtoekgbdomeklgaaGreatDoor
set_option linter.unusedVariables false
set_option linter.unusedSimpArgs false
open Go.ChangeShapes Go.WideShapes Go.ChangeAt Go.RowKit Go.Deep
section
variable {H : Type} {enc : TypeId × Value → H} {P : Program}
theorem trodAll_below (hl : laidOutB P = true) {W W' : World} (hb : Below W.heap.size W W') : ∀ {ts : List TypeId} {vs : List Value} {ds : List (DataW H)} {ps : List MemPlace},
    (∀ t ∈ ts, P.readableRec t = true ∧ t < P.types.size) → DataW.TrodAll enc P W 0 (fun _ => true) true ts vs ds ps → (∀ x ∈ ps, x.block < W.heap.size) →
    DataW.TrodAll enc P W' 0 (fun b => decide (b < W.heap.size)) true ts vs ds ps := by
  intro ts
  induction ts with
  | nil => intro vs ds ps _ h _; cases vs <;> cases ds <;> simp_all [DataW.TrodAll]
  | cons t ts ih =>
    intro vs ds ps ht h hlt
    match vs, ds, h with
    | v :: vs, d :: ds, ⟨p, q, h1, h2, e⟩ =>
      subst e
      obtain ⟨hr, hs⟩ := ht t (by simp)
      exact ⟨p, q, Below.trod hl hr hs h1 hb (fun x hx => hlt x (by simp [hx])), ih (fun u hu => ht u (by simp [hu])) h2 (fun x hx => hlt x (by simp [hx])), rfl⟩
theorem law_post {f : Func} {s : ChangeSpec} {W W' : World} {args : Array Value} {ds gs : List (DataW H)} {before : List MemPlace} {tb : TypeId}
    (hW : DataW.Whole enc P f.params.toList s.vars false W args.toList ds gs before) (hv : s.vars = [])
    (hs : (s.fn H (ds ++ gs)).results = [.lit (.bool true)] ∧ (s.fn H (ds ++ gs)).args = ds ∧ (s.fn H (ds ++ gs)).vars = [])
    (hf : f.resultTypes = #[tb]) (htb : P.underlying tb = some .bool) (hl : laidOutB P = true) (hts : ∀ t ∈ f.params.toList, P.readableRec t = true ∧ t < P.types.size)
    (hb : Below W.heap.size W W') : s.post enc P f false true false false W args (.bool true) W' := by
  have hW' := hW
  obtain ⟨p, q, hA, hV, rfl, _, _⟩ := hW
  rw [hv] at hV
  obtain ⟨rfl, rfl⟩ := trodVars_none hV
  refine ⟨ds, [], p ++ [], [], p, [], hW', ?_, ?_, ?_, hb.frame _, fun h => by cases h⟩
  · rw [hs.1, hf]
    exact trodAll_mk1 (shut_bool htb true)
  · rw [hs.2.1]
    exact trodAll_below hl hb hts hA (fun x hx => hW'.lt x (by simp [hx]))
  · rw [hv, hs.2.2]
    rfl
end
end Go.Proofs.YtoekgbdomeklgaaGreatDoor
