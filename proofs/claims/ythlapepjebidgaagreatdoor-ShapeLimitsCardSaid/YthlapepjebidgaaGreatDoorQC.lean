/- Texts of one chain, in one file. -/
import Derived.ProofKit
import Derived.OpenShut
import Derived.Deep.Slices
import Derived.SizedLaws
import Derived.Lib.AppendZeros
import Derived.Deep.RegionHeld3
import Derived.Deep.RegionLaw
import Derived.Laws.IdiomStrings
import Derived.Laws.Concat
import Derived.Lib.IndexLaws
import Derived.Deep.OwnRows
import Derived.IntWalk
import Derived.Test.YthlapepjebidgaaGreatDoorQB
/- The checks of one expression, of the program. -/
namespace Go.Proofs.YthlapepjebidgaaGreatDoor
set_option linter.unusedVariables false
set_option linter.unusedSimpArgs false
open Go.RowKit
def hasVar (n : Int) : Bool := n == 2 || n == 8 || n == 9
def hasIdn (n : Int) : Bool := hasVar n || n == 10
def hasVal (t v : Int) : Bool := decide (t = 1 ∧ (v = 0 ∨ v = 1) ∨ t = 2 ∧ -32768 ≤ v ∧ v ≤ 32767 ∨ 3 ≤ t ∧ 0 ≤ v ∧ v < 16)
def opnds (op : Int) : Int := if op = 1 ∨ op = 2 then 1 else 2
def hasBr (t n : Int) : Bool := decide (t = 1 ∧ n = 2 ∨ 3 ≤ t ∧ 1 ≤ n ∧ n ≤ 16)
theorem hasvar_any (n : Int) (w : World) : Calls Tryz.prog 109 #[.int .i64 n] w (Bel (.bool (hasVar n)) w) := by
  go_enter Tryz.func109, Tryz.ntmps109
  go_wp2
  all_goals go_ret
  all_goals exact ⟨ret_bool (by simp_all [hasVar]), (by repeat (first | (with_reducible exact Below.refl _ _) | (with_reducible assumption) | (with_reducible exact bel_box _) | (with_reducible refine bel_step ?_ (by with_reducible assumption)) | (with_reducible refine Below.drew ?_) | (with_reducible refine below_drewN ?_ _) | (with_reducible refine bel_alloc ?_ _)))⟩
theorem hasident_any (n : Int) (w : World) : Calls Tryz.prog 108 #[.int .i64 n] w (Bel (.bool (hasIdn n)) w) := by
  have k1 := Lib.hid (hasvar_any n)
  have e : hasIdn n = (hasVar n || n == 10) := rfl
  rw [e]
  clear e
  generalize hasVar n = b at *
  cases b
  all_goals
    go_enter Tryz.func108, Tryz.ntmps108
    go_wp2_with (go_at_call 109; refine (k1.out _).mono ?_; rintro e w1 ⟨rfl, hb1⟩)
  all_goals go_ret
  all_goals exact ⟨ret_bool (by simp), (by repeat (first | (with_reducible exact Below.refl _ _) | (with_reducible assumption) | (with_reducible exact bel_box _) | (with_reducible refine bel_step ?_ (by with_reducible assumption)) | (with_reducible refine Below.drew ?_) | (with_reducible refine below_drewN ?_ _) | (with_reducible refine bel_alloc ?_ _)))⟩
theorem operands_any (n : Int) (w : World) : Calls Tryz.prog 130 #[.int .i64 n] w (Bel (.int .i64 (opnds n)) w) := by
  by_cases h1 : n = 1
  · subst h1
    go_enter Tryz.func130, Tryz.ntmps130
    go_wp2
    go_ret
    exact ⟨rfl, (by repeat (first | (with_reducible exact Below.refl _ _) | (with_reducible assumption) | (with_reducible exact bel_box _) | (with_reducible refine bel_step ?_ (by with_reducible assumption)) | (with_reducible refine Below.drew ?_) | (with_reducible refine below_drewN ?_ _) | (with_reducible refine bel_alloc ?_ _)))⟩
  by_cases h2 : n = 2
  · subst h2
    go_enter Tryz.func130, Tryz.ntmps130
    go_wp2
    go_ret
    exact ⟨rfl, (by repeat (first | (with_reducible exact Below.refl _ _) | (with_reducible assumption) | (with_reducible exact bel_box _) | (with_reducible refine bel_step ?_ (by with_reducible assumption)) | (with_reducible refine Below.drew ?_) | (with_reducible refine below_drewN ?_ _) | (with_reducible refine bel_alloc ?_ _)))⟩
  have e : opnds n = 2 := by rw [opnds, if_neg (by omega)]
  rw [e]
  have q1 : (n == 1) = false := by simpa using h1
  have q2 : (n == 2) = false := by simpa using h2
  go_enter Tryz.func130, Tryz.ntmps130
  go_wp2
  go_ret
  exact ⟨rfl, (by repeat (first | (with_reducible exact Below.refl _ _) | (with_reducible assumption) | (with_reducible exact bel_box _) | (with_reducible refine bel_step ?_ (by with_reducible assumption)) | (with_reducible refine Below.drew ?_) | (with_reducible refine below_drewN ?_ _) | (with_reducible refine bel_alloc ?_ _)))⟩
theorem hasvalue_any (t v : Int) (w : World) : Calls Tryz.prog 129 #[.int .i64 t, .int .i64 v] w (Bel (.bool (hasVal t v)) w) := by
  by_cases h1 : t = 1
  · subst h1
    go_enter Tryz.func129, Tryz.ntmps129
    go_wp2
    all_goals go_ret
    all_goals refine ⟨ret_bool ?_, (by repeat (first | (with_reducible exact Below.refl _ _) | (with_reducible assumption) | (with_reducible exact bel_box _) | (with_reducible refine bel_step ?_ (by with_reducible assumption)) | (with_reducible refine Below.drew ?_) | (with_reducible refine below_drewN ?_ _) | (with_reducible refine bel_alloc ?_ _)))⟩
    all_goals (rw [Bool.eq_iff_iff]; simp_all [hasVal])
  by_cases h2 : t = 2
  · subst h2
    go_enter Tryz.func129, Tryz.ntmps129
    go_wp2
    all_goals go_ret
    all_goals refine ⟨ret_bool ?_, (by repeat (first | (with_reducible exact Below.refl _ _) | (with_reducible assumption) | (with_reducible exact bel_box _) | (with_reducible refine bel_step ?_ (by with_reducible assumption)) | (with_reducible refine Below.drew ?_) | (with_reducible refine below_drewN ?_ _) | (with_reducible refine bel_alloc ?_ _)))⟩
    all_goals (rw [Bool.eq_iff_iff]; simp [hasVal]; omega)
  have q1 : (t == 1) = false := by simpa using h1
  have q2 : (t == 2) = false := by simpa using h2
  go_enter Tryz.func129, Tryz.ntmps129
  go_wp2
  all_goals go_ret
  all_goals refine ⟨ret_bool ?_, (by repeat (first | (with_reducible exact Below.refl _ _) | (with_reducible assumption) | (with_reducible exact bel_box _) | (with_reducible refine bel_step ?_ (by with_reducible assumption)) | (with_reducible refine Below.drew ?_) | (with_reducible refine below_drewN ?_ _) | (with_reducible refine bel_alloc ?_ _)))⟩
  all_goals (rw [Bool.eq_iff_iff]; simp [hasVal]; omega)
theorem hasbranches_any (t n : Int) (w : World) : Calls Tryz.prog 131 #[.int .i64 t, .int .i64 n] w (Bel (.bool (hasBr t n)) w) := by
  by_cases h1 : t = 1
  · subst h1
    go_enter Tryz.func131, Tryz.ntmps131
    go_wp2
    all_goals go_ret
    all_goals refine ⟨ret_bool ?_, (by repeat (first | (with_reducible exact Below.refl _ _) | (with_reducible assumption) | (with_reducible exact bel_box _) | (with_reducible refine bel_step ?_ (by with_reducible assumption)) | (with_reducible refine Below.drew ?_) | (with_reducible refine below_drewN ?_ _) | (with_reducible refine bel_alloc ?_ _)))⟩
    all_goals (rw [Bool.eq_iff_iff]; simp_all [hasBr])
  have q1 : (t == 1) = false := by simpa using h1
  go_enter Tryz.func131, Tryz.ntmps131
  go_wp2
  all_goals go_ret
  all_goals refine ⟨ret_bool ?_, (by repeat (first | (with_reducible exact Below.refl _ _) | (with_reducible assumption) | (with_reducible exact bel_box _) | (with_reducible refine bel_step ?_ (by with_reducible assumption)) | (with_reducible refine Below.drew ?_) | (with_reducible refine below_drewN ?_ _) | (with_reducible refine bel_alloc ?_ _)))⟩
  all_goals (rw [Bool.eq_iff_iff]; simp [hasBr]; omega)
end Go.Proofs.YthlapepjebidgaaGreatDoor
/- formed, hasOnly of the program. -/
namespace Go.Proofs.YthlapepjebidgaaGreatDoor
set_option linter.unusedVariables false
set_option linter.unusedSimpArgs false
open Go.RowKit
def formedP (k op t v n : Int) (wok : Bool) : Bool :=
  if k = 1 then n == 0 && hasVal t v else if k = 2 then n == 0 else if k = 3 then decide (1 ≤ op ∧ op ≤ 16) && n == opnds op else if k = 4 then n == 3 else if k = 5 then n == 1 else if k = 6 ∨ k = 7 then n == 2
  else if k = 8 then n == 1 && (t != 2 && hasVal t v) else if k = 9 then hasBr t n else if k = 10 then v == 0 || (v == 1 && decide (0 < n)) else if k = 11 then n == 0 && wok else false
def onlyP (k op t v : Int) (ne : Bool) : Bool :=
  if k ≠ 3 ∧ op ≠ 0 then false else if k = 1 then ne else if k = 8 then true else if k = 9 then v == 0 else if k = 10 then t == 0 else if k = 2 ∨ k = 11 then t == 0 && v == 0 else t == 0 && (v == 0 && ne)
set_option maxHeartbeats 2000000 in
set_option maxRecDepth 20000 in
theorem formed_any (x : Xt) (wok : Bool) (w : World) (KP : x.k = 11 → Hid (∀ W, Below w.heap.size w W → Calls Tryz.prog 132 #[.string x.nm] W (fun e w' => ∃ (A1 A2 : Option Addr) (n1 c1 n2 c2 : Nat) (er : Int), e = .returned (.tuple #[.agg #[.slice A1 n1 c1, .slice A2 n2 c2], .int .i64 er]) ∧ (er == 0) = wok ∧ Below W.heap.size W w'))) :
    Calls Tryz.prog 106 #[xV x] w (Bel (.bool (formedP x.k x.op x.t x.v x.ar.length wok)) w) := by
  have HV := Lib.hid (hasvalue_any x.t x.v)
  have HO := Lib.hid (operands_any x.op)
  have HB := Lib.hid (hasbranches_any x.t x.ar.length)
  obtain ⟨k, op, t, v, nm, A, c, ar⟩ := x
  simp only [xV, Xt.k, Xt.op, Xt.t, Xt.v, Xt.nm, Xt.A, Xt.c, Xt.ar] at *
  obtain ⟨n, hn⟩ : ∃ n : Nat, ar.length = n := ⟨_, rfl⟩
  rw [hn] at HB ⊢
  clear hn
  by_cases h1 : k = 1
  · subst h1
    rw [formedP, if_pos rfl]
    generalize hasVal t v = b at *
    cases b
    all_goals
      go_enter Tryz.func106, Tryz.ntmps106
      go_wp2_with (go_at_call 129; refine (HV.out _).mono ?_; rintro e w1 ⟨rfl, hb1⟩)
    all_goals go_ret
    all_goals exact ⟨ret_bool (by simp_all), (by repeat (first | (with_reducible exact Below.refl _ _) | (with_reducible assumption) | (with_reducible exact bel_box _) | (with_reducible refine bel_step ?_ (by with_reducible assumption)) | (with_reducible refine Below.drew ?_) | (with_reducible refine below_drewN ?_ _) | (with_reducible refine bel_alloc ?_ _)))⟩
  by_cases h2 : k = 2
  · subst h2
    go_enter Tryz.func106, Tryz.ntmps106
    go_wp2
    all_goals go_ret
    all_goals exact ⟨ret_bool (by simp_all [formedP]), (by repeat (first | (with_reducible exact Below.refl _ _) | (with_reducible assumption) | (with_reducible exact bel_box _) | (with_reducible refine bel_step ?_ (by with_reducible assumption)) | (with_reducible refine Below.drew ?_) | (with_reducible refine below_drewN ?_ _) | (with_reducible refine bel_alloc ?_ _)))⟩
  by_cases h3 : k = 3
  · subst h3
    rw [formedP, if_neg (by decide), if_neg (by decide), if_pos rfl]
    generalize opnds op = q at *
    go_enter Tryz.func106, Tryz.ntmps106
    go_wp2_with (go_at_call 130; refine (HO.out _).mono ?_; rintro e w1 ⟨rfl, hb1⟩)
    all_goals go_ret
    all_goals refine ⟨ret_bool ?_, (by repeat (first | (with_reducible exact Below.refl _ _) | (with_reducible assumption) | (with_reducible exact bel_box _) | (with_reducible refine bel_step ?_ (by with_reducible assumption)) | (with_reducible refine Below.drew ?_) | (with_reducible refine below_drewN ?_ _) | (with_reducible refine bel_alloc ?_ _)))⟩
    all_goals (rw [Bool.eq_iff_iff]; simp; omega)
  by_cases h4 : k = 4
  · subst h4
    go_enter Tryz.func106, Tryz.ntmps106
    go_wp2
    all_goals go_ret
    all_goals exact ⟨ret_bool (by simp_all [formedP]), (by repeat (first | (with_reducible exact Below.refl _ _) | (with_reducible assumption) | (with_reducible exact bel_box _) | (with_reducible refine bel_step ?_ (by with_reducible assumption)) | (with_reducible refine Below.drew ?_) | (with_reducible refine below_drewN ?_ _) | (with_reducible refine bel_alloc ?_ _)))⟩
  by_cases h5 : k = 5
  · subst h5
    go_enter Tryz.func106, Tryz.ntmps106
    go_wp2
    all_goals go_ret
    all_goals exact ⟨ret_bool (by simp_all [formedP]), (by repeat (first | (with_reducible exact Below.refl _ _) | (with_reducible assumption) | (with_reducible exact bel_box _) | (with_reducible refine bel_step ?_ (by with_reducible assumption)) | (with_reducible refine Below.drew ?_) | (with_reducible refine below_drewN ?_ _) | (with_reducible refine bel_alloc ?_ _)))⟩
  by_cases h6 : k = 6
  · subst h6
    go_enter Tryz.func106, Tryz.ntmps106
    go_wp2
    all_goals go_ret
    all_goals exact ⟨ret_bool (by simp_all [formedP]), (by repeat (first | (with_reducible exact Below.refl _ _) | (with_reducible assumption) | (with_reducible exact bel_box _) | (with_reducible refine bel_step ?_ (by with_reducible assumption)) | (with_reducible refine Below.drew ?_) | (with_reducible refine below_drewN ?_ _) | (with_reducible refine bel_alloc ?_ _)))⟩
  by_cases h7 : k = 7
  · subst h7
    go_enter Tryz.func106, Tryz.ntmps106
    go_wp2
    all_goals go_ret
    all_goals exact ⟨ret_bool (by simp_all [formedP]), (by repeat (first | (with_reducible exact Below.refl _ _) | (with_reducible assumption) | (with_reducible exact bel_box _) | (with_reducible refine bel_step ?_ (by with_reducible assumption)) | (with_reducible refine Below.drew ?_) | (with_reducible refine below_drewN ?_ _) | (with_reducible refine bel_alloc ?_ _)))⟩
  by_cases h8 : k = 8
  · subst h8
    rw [formedP, if_neg (by decide), if_neg (by decide), if_neg (by decide), if_neg (by decide), if_neg (by decide), if_neg (by decide), if_pos rfl]
    generalize hasVal t v = b at *
    cases b
    all_goals
      go_enter Tryz.func106, Tryz.ntmps106
      go_wp2_with (go_at_call 129; refine (HV.out _).mono ?_; rintro e w1 ⟨rfl, hb1⟩)
    all_goals go_ret
    all_goals exact ⟨ret_bool (by simp_all), (by repeat (first | (with_reducible exact Below.refl _ _) | (with_reducible assumption) | (with_reducible exact bel_box _) | (with_reducible refine bel_step ?_ (by with_reducible assumption)) | (with_reducible refine Below.drew ?_) | (with_reducible refine below_drewN ?_ _) | (with_reducible refine bel_alloc ?_ _)))⟩
  by_cases h9 : k = 9
  · subst h9
    rw [formedP, if_neg (by decide), if_neg (by decide), if_neg (by decide), if_neg (by decide), if_neg (by decide), if_neg (by decide), if_neg (by decide), if_pos rfl]
    generalize hasBr t n = b at *
    go_enter Tryz.func106, Tryz.ntmps106
    go_wp2_with (go_at_call 131; refine (HB.out _).mono ?_; rintro e w1 ⟨rfl, hb1⟩)
    all_goals go_ret
    all_goals exact ⟨rfl, (by repeat (first | (with_reducible exact Below.refl _ _) | (with_reducible assumption) | (with_reducible exact bel_box _) | (with_reducible refine bel_step ?_ (by with_reducible assumption)) | (with_reducible refine Below.drew ?_) | (with_reducible refine below_drewN ?_ _) | (with_reducible refine bel_alloc ?_ _)))⟩
  by_cases h10 : k = 10
  · subst h10
    rw [formedP, if_neg (by decide), if_neg (by decide), if_neg (by decide), if_neg (by decide), if_neg (by decide), if_neg (by decide), if_neg (by decide), if_neg (by decide), if_pos rfl]
    go_enter Tryz.func106, Tryz.ntmps106
    go_wp2
    all_goals go_ret
    all_goals refine ⟨ret_bool ?_, (by repeat (first | (with_reducible exact Below.refl _ _) | (with_reducible assumption) | (with_reducible exact bel_box _) | (with_reducible refine bel_step ?_ (by with_reducible assumption)) | (with_reducible refine Below.drew ?_) | (with_reducible refine below_drewN ?_ _) | (with_reducible refine bel_alloc ?_ _)))⟩
    all_goals (rw [Bool.eq_iff_iff]; simp_all)
  by_cases h11 : k = 11
  · subst h11
    have KQ := KP rfl
    rw [formedP, if_neg (by decide), if_neg (by decide), if_neg (by decide), if_neg (by decide), if_neg (by decide), if_neg (by decide), if_neg (by decide), if_neg (by decide), if_neg (by decide), if_pos rfl]
    clear KP
    cases wok
    all_goals
      go_enter Tryz.func106, Tryz.ntmps106
      go_wp2_with (go_at_call 132; refine (KQ.out _ ?_).mono ?_; (focus ((repeat (first | (with_reducible exact Below.refl _ _) | (with_reducible assumption) | (with_reducible exact bel_box _) | (with_reducible refine bel_step ?_ (by with_reducible assumption)) | (with_reducible refine Below.drew ?_) | (with_reducible refine below_drewN ?_ _) | (with_reducible refine bel_alloc ?_ _))); done)); rintro e w1 ⟨A1, A2, n1, c1, n2, c2, er, rfl, her, hb1⟩)
    all_goals go_ret
    all_goals exact ⟨ret_bool (by simp_all), (by repeat (first | (with_reducible exact Below.refl _ _) | (with_reducible assumption) | (with_reducible exact bel_box _) | (with_reducible refine bel_step ?_ (by with_reducible assumption)) | (with_reducible refine Below.drew ?_) | (with_reducible refine below_drewN ?_ _) | (with_reducible refine bel_alloc ?_ _)))⟩
  have e : formedP k op t v n wok = false := by
    rw [formedP, if_neg h1, if_neg h2, if_neg h3, if_neg h4, if_neg h5, if_neg (by omega), if_neg h8, if_neg h9, if_neg h10, if_neg h11]
  rw [e]
  have q1 : (k == 1) = false := by simpa using h1
  have q2 : (k == 2) = false := by simpa using h2
  have q3 : (k == 3) = false := by simpa using h3
  have q4 : (k == 4) = false := by simpa using h4
  have q5 : (k == 5) = false := by simpa using h5
  have q6 : (k == 6) = false := by simpa using h6
  have q7 : (k == 7) = false := by simpa using h7
  have q8 : (k == 8) = false := by simpa using h8
  have q9 : (k == 9) = false := by simpa using h9
  have q10 : (k == 10) = false := by simpa using h10
  have q11 : (k == 11) = false := by simpa using h11
  go_enter Tryz.func106, Tryz.ntmps106
  go_wp2
  go_ret
  exact ⟨rfl, (by repeat (first | (with_reducible exact Below.refl _ _) | (with_reducible assumption) | (with_reducible exact bel_box _) | (with_reducible refine bel_step ?_ (by with_reducible assumption)) | (with_reducible refine Below.drew ?_) | (with_reducible refine below_drewN ?_ _) | (with_reducible refine bel_alloc ?_ _)))⟩
set_option maxHeartbeats 2000000 in
set_option maxRecDepth 20000 in
theorem hasonly_any (x : Xt) (w : World) : Calls Tryz.prog 107 #[xV x] w (Bel (.bool (onlyP x.k x.op x.t x.v (x.nm.toList == []))) w) := by
  obtain ⟨k, op, t, v, nm, A, c, ar⟩ := x
  simp only [xV, Xt.k, Xt.op, Xt.t, Xt.v, Xt.nm, Xt.A, Xt.c, Xt.ar] at *
  have hne : (nm.toList == []) = nm.toList.isEmpty := by cases nm.toList <;> rfl
  by_cases h0 : k ≠ 3 ∧ op ≠ 0
  · rw [onlyP, if_pos h0]
    have q1 : (k != 3) = true := by simpa using h0.1
    have q2 : (op != 0) = true := by simpa using h0.2
    go_enter Tryz.func107, Tryz.ntmps107
    go_wp2
    all_goals go_ret
    all_goals exact ⟨rfl, (by repeat (first | (with_reducible exact Below.refl _ _) | (with_reducible assumption) | (with_reducible exact bel_box _) | (with_reducible refine bel_step ?_ (by with_reducible assumption)) | (with_reducible refine Below.drew ?_) | (with_reducible refine below_drewN ?_ _) | (with_reducible refine bel_alloc ?_ _)))⟩
  rw [onlyP, if_neg h0]
  have hq : (k != 3) = false ∨ (k != 3) = true ∧ (op != 0) = false := by
    by_cases h : k = 3
    · exact .inl (by simp [h])
    · exact .inr ⟨by simpa using h, by simpa using fun e => h0 ⟨h, e⟩⟩
  clear h0
  by_cases h1 : k = 1
  · subst h1
    rw [if_pos rfl]
    rcases hq with hq | ⟨_, hq⟩
    · cases hq
    go_enter Tryz.func107, Tryz.ntmps107
    go_wp2
    all_goals go_ret
    all_goals exact ⟨ret_bool (by simp_all), (by repeat (first | (with_reducible exact Below.refl _ _) | (with_reducible assumption) | (with_reducible exact bel_box _) | (with_reducible refine bel_step ?_ (by with_reducible assumption)) | (with_reducible refine Below.drew ?_) | (with_reducible refine below_drewN ?_ _) | (with_reducible refine bel_alloc ?_ _)))⟩
  by_cases h8 : k = 8
  · subst h8
    rw [if_neg (by decide), if_pos rfl]
    rcases hq with hq | ⟨_, hq⟩
    · cases hq
    go_enter Tryz.func107, Tryz.ntmps107
    go_wp2
    all_goals go_ret
    all_goals exact ⟨rfl, (by repeat (first | (with_reducible exact Below.refl _ _) | (with_reducible assumption) | (with_reducible exact bel_box _) | (with_reducible refine bel_step ?_ (by with_reducible assumption)) | (with_reducible refine Below.drew ?_) | (with_reducible refine below_drewN ?_ _) | (with_reducible refine bel_alloc ?_ _)))⟩
  by_cases h9 : k = 9
  · subst h9
    rw [if_neg (by decide), if_neg (by decide), if_pos rfl]
    rcases hq with hq | ⟨_, hq⟩
    · cases hq
    go_enter Tryz.func107, Tryz.ntmps107
    go_wp2
    all_goals go_ret
    all_goals exact ⟨rfl, (by repeat (first | (with_reducible exact Below.refl _ _) | (with_reducible assumption) | (with_reducible exact bel_box _) | (with_reducible refine bel_step ?_ (by with_reducible assumption)) | (with_reducible refine Below.drew ?_) | (with_reducible refine below_drewN ?_ _) | (with_reducible refine bel_alloc ?_ _)))⟩
  by_cases h10 : k = 10
  · subst h10
    rw [if_neg (by decide), if_neg (by decide), if_neg (by decide), if_pos rfl]
    rcases hq with hq | ⟨_, hq⟩
    · cases hq
    go_enter Tryz.func107, Tryz.ntmps107
    go_wp2
    all_goals go_ret
    all_goals exact ⟨rfl, (by repeat (first | (with_reducible exact Below.refl _ _) | (with_reducible assumption) | (with_reducible exact bel_box _) | (with_reducible refine bel_step ?_ (by with_reducible assumption)) | (with_reducible refine Below.drew ?_) | (with_reducible refine below_drewN ?_ _) | (with_reducible refine bel_alloc ?_ _)))⟩
  have q1 : (k == 1) = false := by simpa using h1
  have q8 : (k == 8) = false := by simpa using h8
  have q9 : (k == 9) = false := by simpa using h9
  have q10 : (k == 10) = false := by simpa using h10
  rw [if_neg h1, if_neg h8, if_neg h9, if_neg h10]
  by_cases h2 : k = 2
  · subst h2
    rw [if_pos (.inl rfl)]
    rcases hq with hq | ⟨_, hq⟩
    · cases hq
    go_enter Tryz.func107, Tryz.ntmps107
    go_wp2
    all_goals go_ret
    all_goals exact ⟨ret_bool (by simp_all), (by repeat (first | (with_reducible exact Below.refl _ _) | (with_reducible assumption) | (with_reducible exact bel_box _) | (with_reducible refine bel_step ?_ (by with_reducible assumption)) | (with_reducible refine Below.drew ?_) | (with_reducible refine below_drewN ?_ _) | (with_reducible refine bel_alloc ?_ _)))⟩
  by_cases h11 : k = 11
  · subst h11
    rw [if_pos (.inr rfl)]
    rcases hq with hq | ⟨_, hq⟩
    · cases hq
    go_enter Tryz.func107, Tryz.ntmps107
    go_wp2
    all_goals go_ret
    all_goals exact ⟨ret_bool (by simp_all), (by repeat (first | (with_reducible exact Below.refl _ _) | (with_reducible assumption) | (with_reducible exact bel_box _) | (with_reducible refine bel_step ?_ (by with_reducible assumption)) | (with_reducible refine Below.drew ?_) | (with_reducible refine below_drewN ?_ _) | (with_reducible refine bel_alloc ?_ _)))⟩
  have q2 : (k == 2) = false := by simpa using h2
  have q11 : (k == 11) = false := by simpa using h11
  rw [if_neg (by omega)]
  rcases hq with hq | ⟨hk3, hq⟩
  all_goals
    go_enter Tryz.func107, Tryz.ntmps107
    go_wp2
  all_goals go_ret
  all_goals exact ⟨ret_bool (by simp_all), (by repeat (first | (with_reducible exact Below.refl _ _) | (with_reducible assumption) | (with_reducible exact bel_box _) | (with_reducible refine bel_step ?_ (by with_reducible assumption)) | (with_reducible refine Below.drew ?_) | (with_reducible refine below_drewN ?_ _) | (with_reducible refine bel_alloc ?_ _)))⟩
end Go.Proofs.YthlapepjebidgaaGreatDoor
/- exceeds of the program. -/
namespace Go.Proofs.YthlapepjebidgaaGreatDoor
set_option linter.unusedVariables false
set_option linter.unusedSimpArgs false
open Go.RowKit Go.Shelf
attribute [local go_sem] Oper.semAt_some
set_option maxHeartbeats 2000000 in
set_option maxRecDepth 100000 in
theorem exceeds_any (x : Xt) (N : Nat) (w : World) (hX : RdX w w.heap.size x) (hN : N ≤ 1048576) : Calls Tryz.prog 71 #[xV x, .int .i64 (N : Int)] w (Bel (.bool (decide (N < x.size))) w) := by
  have hdd : ∀ k : Nat, (Fence.wide.depth.isSome = true → 1 ≤ k) := fun k h => by cases h
  have KW := Lib.hid (fun W => within_any x 29 W)
  have HX := Lib.hid hX
  clear hX
  simp only [xV] at KW ⊢
  refine (callsIn_wide (n := 3)).1 ?_
  refine callsIn_of_wp_marks Tryz.func71 rfl trivial ?_ rfl
  simp only [Tryz.ntmps71, List.size_toArray, List.length_cons, List.length_nil, Nat.reduceAdd, Nat.reduceSub, Array.replicate_succ, Array.replicate_zero, List.push_toArray, List.append_toArray, List.nil_append, List.cons_append]
  gi_wp2_with (refine ⟨trivial, ?_⟩; gi_at_call 28; refine (callsIn_wide.2 (KW.out _)).mono ?_; rintro e W1 ⟨rfl, rfl⟩)
  obtain ⟨Wc, hWc⟩ : ∃ Wc, (((bxW w x).alloc (.cells #[.int .i64 (N : Int)] 3)).alloc (.cells #[.bool false] 4)) = Wc := ⟨_, rfl⟩
  have hz : Wc.heap.size = w.heap.size + 3 := by rw [← hWc]; simp only [World.size_alloc]
  have hBc : Below w.heap.size w Wc := by rw [← hWc]; exact bel_alloc (bel_alloc (bel_box _) _) _
  have g0 : Wc.cell? ⟨w.heap.size+1, 0, none⟩ = some (.int .i64 (N : Int)) := by rw [← hWc]; simp [go_sem]
  have g1 : Wc.frozen? ⟨w.heap.size+1, 0, none⟩ = false := by rw [← hWc]; simp [go_sem]
  have g2 : Wc.cell? ⟨w.heap.size + 2, 0, none⟩ = some (.bool false) := by rw [← hWc]; simp [go_sem]
  have g3 : Wc.frozen? ⟨w.heap.size + 2, 0, none⟩ = false := by rw [← hWc]; simp [go_sem]
  have hst := within_at (3 - 1) w.heap.size (fun k => k = w.heap.size+1 ∨ k = w.heap.size + 2) x Wc (fun k hk => by rcases hk with rfl | rfl <;> omega) (by omega) (HX.out.blw hBc (Nat.le_refl _))
  obtain ⟨W0, hW0⟩ : ∃ W0, inW Wc x 29 = W0 := ⟨_, rfl⟩
  have hz0 : W0.heap.size = w.heap.size + 5 := by rw [← hW0, inW_size]; omega
  have hB0 : Below w.heap.size w W0 := by rw [← hW0]; exact hBc.trans ((inW_below Wc x _).mono (by omega))
  have f0 : W0.cell? ⟨w.heap.size+1, 0, none⟩ = some (.int .i64 (N : Int)) := by rw [← hW0]; exact (inW_old (by omega)).1.trans g0
  have f1 : W0.frozen? ⟨w.heap.size+1, 0, none⟩ = false := by rw [← hW0]; exact (inW_old (by omega)).2.trans g1
  have f2 : W0.cell? ⟨w.heap.size + 2, 0, none⟩ = some (.bool false) := by rw [← hW0]; exact (inW_old (by omega)).1.trans g2
  have f3 : W0.frozen? ⟨w.heap.size + 2, 0, none⟩ = false := by rw [← hW0]; exact (inW_old (by omega)).2.trans g3
  rw [hz, hW0] at hst
  rw [show (bxW (((w.alloc (Obj.cells #[.int .i64 x.k, .int .i64 x.op, .int .i64 x.t, .int .i64 x.v, .string x.nm, .slice x.A x.ar.length x.c] 24)).alloc (.cells #[.int .i64 (N : Int)] 3)).alloc (.cells #[.bool false] 4)) x).alloc (.cells #[.func (.func 29) #[] #[]] 30) = W0 by rw [← hW0, ← hWc]]
  clear hW0 hWc g0 g1 g2 g3 KW HX
  have hll := list_length x
  refine wpIn_rangeFunc_ownF rfl (by decide) (gf := 67) (lb := #[.pointer (some ⟨w.heap.size + 3, 0, none⟩), .pointer (some ⟨w.heap.size + 3+1, 0, none⟩)]) rfl trivial (enters_of Tryz.func67 (by kernel_rfl) rfl)
    hst KX_t KX_b (Below.refl _ _) (fun _ => rfl)
    (fun pre W => (pre.length ≤ N ∧ W.cell? ⟨w.heap.size+1, 0, none⟩ = some (.int .i64 ((N - pre.length : Nat) : Int)) ∧ W.frozen? ⟨w.heap.size+1, 0, none⟩ = false ∧ W.cell? ⟨w.heap.size + 2, 0, none⟩ = some (.bool false) ∧ W.frozen? ⟨w.heap.size + 2, 0, none⟩ = false) ∧ Below w.heap.size w W)
    (fun c pre W => (c = .ret ∧ N < pre.length ∧ W.cell? ⟨w.heap.size + 2, 0, none⟩ = some (.bool true)) ∧ Below w.heap.size w W)
    (OwnFrom.and (Own.from (fun s A B row hs hg hr => ⟨hs.1, cell_kept hs.2.1 hg hr, (frozen_kept hs.2.1 hg hr).trans hs.2.2.1, cell_kept hs.2.2.2.1 hg hr, (frozen_kept hs.2.2.2.1 hg hr).trans hs.2.2.2.2⟩) _) (ownFrom_below (Nat.le_refl _) (by omega)))
    (fun c => OwnFrom.and (Own.from (fun s A B row hs hg hr => ⟨hs.1, hs.2.1, cell_kept hs.2.2 hg hr⟩) _) (ownFrom_below (Nat.le_refl _) (by omega)))
    ⟨⟨by simp, by simpa using f0, f1, f2, f3⟩, hB0⟩
    (fun y => { tmps := #[.agg #[.int .i64 x.k, .int .i64 x.op, .int .i64 x.t, .int .i64 x.v, .string x.nm, .slice x.A x.ar.length x.c], .int .i64 (N : Int), .pointer (some ⟨w.heap.size, 0, none⟩), .pointer (some ⟨w.heap.size+1, 0, none⟩), .pointer (some ⟨w.heap.size+1+1, 0, none⟩), .agg #[.int .i64 x.k, .int .i64 x.op, .int .i64 x.t, .int .i64 x.v, .string x.nm, .slice x.A x.ar.length x.c], .func (.func 67) #[] #[.pointer (some ⟨w.heap.size + 3, 0, none⟩), .pointer (some ⟨w.heap.size + 3+1, 0, none⟩)], xV y, undef, undef, undef, undef], defers := [] }) ?assign ?body ?done ?stop
  case assign =>
    intro l y W K hK
    gi_wp2
    simpa using hK
  case body =>
    rintro l pre y W ⟨⟨i0, i1, i2, i3, i4⟩, hB⟩ hlt
    by_cases hq : pre.length < N
    · obtain ⟨m, hm⟩ : ∃ m, N - pre.length = m+1 := ⟨N - pre.length - 1, by omega⟩
      have hm2 : N - (pre.length+1) = m := by omega
      rw [hm] at i1
      have u1 : ((m+1 : Nat) : Int) - 1 = (m : Int) := by omega
      have u2 : (0 : Int) ≤ (m : Int) := by omega
      gi_wp2
      exact ⟨KeepsOthers.setCell _ _ _, KX.set (S := fun k => k = w.heap.size+1 ∨ k = w.heap.size + 2) (a := ⟨w.heap.size+1, 0, none⟩) (.inl rfl) _, ⟨by rw [List.length_append, List.length_singleton]; omega, by rw [List.length_append, List.length_singleton, hm2]; exact World.cell?_setCell_same' _ _ _ (by rw [i1]; rfl), by rw [World.frozen?_setCell]; exact i2, (World.cell?_setCell_other _ _ _ _ (by simp)).trans i3, by rw [World.frozen?_setCell]; exact i4⟩, hB.setCell (p := ⟨w.heap.size+1, 0, none⟩) (by simp) _⟩
    · have hm : N - pre.length = 0 := by omega
      rw [hm] at i1
      gi_wp2
      exact ⟨(KeepsOthers.setCell _ _ _).trans (KeepsOthers.setCell _ _ _), ⟨rfl, by rw [List.length_append, List.length_singleton]; omega, World.cell?_setCell_same' _ _ _ (by rw [World.cell?_setCell_other _ _ _ _ (by simp), i3]; rfl)⟩, (hB.setCell (p := ⟨w.heap.size+1, 0, none⟩) (by simp) _).setCell (p := ⟨w.heap.size + 2, 0, none⟩) (by simp) _⟩
  case done =>
    rintro D ys W hD rfl ⟨⟨hn, _, _, hc, hf⟩, hB⟩ hK
    have hdec : decide (N < x.size) = false := decide_eq_false (by omega)
    gi_wp2
    have hK' := (KeepsOthers.setCell W ⟨w.heap.size + 2, 0, none⟩ (.bool false)).same D _ hK rfl
    refine ⟨by simp, .inl ⟨_, _, rfl, run_takeDeferred hK', ?_⟩⟩
    have hc5 := cell_kept (World.cell?_setCell_same' W ⟨w.heap.size + 2, 0, none⟩ (.bool false) (by rw [hc]; rfl)) (grownBy_putObj' _ D (.deferred none)) (fun r e => by cases e; exact ⟨_, hK', rfl⟩)
    refine ⟨.bool false, ?_, by rw [hdec], (hB.setCell (p := ⟨w.heap.size + 2, 0, none⟩) (by simp) _).trans (belowK_b (w := w) (Nat.le_refl _) _ D _ _ (by omega) hK' rfl rfl)⟩
    simp [results, Tryz.f71, go_sem, hc5]
  case stop =>
    rintro D c pre W hD ⟨t, ht⟩ ⟨⟨rfl, hin, hc⟩, hB⟩ hK
    have hdec : decide (N < x.size) = true := decide_eq_true (by rw [← hll, ← ht, List.length_append]; omega)
    gi_wp2
    refine ⟨by simp, .inl ⟨_, _, rfl, run_takeDeferred hK, ?_⟩⟩
    have hc5 := cell_kept hc (grownBy_putObj' _ D (.deferred none)) (fun r e => by cases e; exact ⟨_, hK, rfl⟩)
    refine ⟨.bool true, ?_, by rw [hdec], hB.trans (belowK_b (w := w) (Nat.le_refl _) W D _ _ (by omega) hK rfl rfl)⟩
    simp [results, Tryz.f71, go_sem, hc5]
end Go.Proofs.YthlapepjebidgaaGreatDoor
/- checkOne of the program. -/
namespace Go.Proofs.YthlapepjebidgaaGreatDoor
set_option linter.unusedVariables false
set_option linter.unusedSimpArgs false
open Go.RowKit
/-- the error of one expression -/
def chk1 (wok : ByteArray → Bool) (x : Xt) : Int := if 64 < x.ar.length then 3 else if (formedP x.k x.op x.t x.v x.ar.length (wok x.nm) && onlyP x.k x.op x.t x.v (x.nm.toList == [])) = false then 5 else if (hasIdn x.k && !idP x.nm) = true then 6 else 0
/-- what is asked of the callees that read the Name -/
def NmOk (wok : ByteArray → Bool) (w : World) (x : Xt) : Prop := (x.k = 11 → Hid (∀ W, Below w.heap.size w W → Calls Tryz.prog 132 #[.string x.nm] W (fun e w' => ∃ (A1 A2 : Option Addr) (n1 c1 n2 c2 : Nat) (er : Int), e = .returned (.tuple #[.agg #[.slice A1 n1 c1, .slice A2 n2 c2], .int .i64 er]) ∧ (er == 0) = wok x.nm ∧ Below W.heap.size W w'))) ∧ (hasIdn x.k = true → Hid (∀ W, Below w.heap.size w W → Calls Tryz.prog 75 #[.string x.nm] W (Bel (.bool (idP x.nm)) W)))
theorem NmOk.to {wok : ByteArray → Bool} {w W : World} {x : Xt} (h : NmOk wok w x) (hb : Below w.heap.size w W) : NmOk wok W x :=
  ⟨fun e => Lib.hid fun W' hb' => (h.1 e).out W' (bel_step hb hb'), fun e => Lib.hid fun W' hb' => (h.2 e).out W' (bel_step hb hb')⟩
set_option maxHeartbeats 2000000 in
set_option maxRecDepth 20000 in
theorem checkone_any (wok : ByteArray → Bool) (x : Xt) (w : World) (h9 : x.ar.length ≤ maxLen) (hN : NmOk wok w x) : Calls Tryz.prog 72 #[xV x] w (Bel (.int .i64 (chk1 wok x)) w) := by
  have KF : Hid (∀ W, Below w.heap.size w W → Calls Tryz.prog 106 #[xV x] W (Bel (.bool (formedP x.k x.op x.t x.v x.ar.length (wok x.nm))) W)) := Lib.hid fun W hb => formed_any x _ W (hN.to hb).1
  have KO := Lib.hid (fun W => hasonly_any x W)
  have KH := Lib.hid (fun W => hasident_any x.k W)
  have KI := hN.2
  unfold maxLen at h9
  unfold chk1
  clear hN
  simp only [xV] at KF KO ⊢
  by_cases h64 : 64 < x.ar.length
  · rw [if_pos h64]
    have q : (64 : Int) < (x.ar.length : Int) := by omega
    go_enter Tryz.func72, Tryz.ntmps72
    go_wp2
    go_ret
    exact ⟨rfl, (by repeat (first | (with_reducible exact Below.refl _ _) | (with_reducible assumption) | (with_reducible exact bel_box _) | (with_reducible refine bel_step ?_ (by with_reducible assumption)) | (with_reducible refine Below.drew ?_) | (with_reducible refine below_drewN ?_ _) | (with_reducible refine bel_alloc ?_ _)))⟩
  rw [if_neg h64]
  have q : (x.ar.length : Int) ≤ 64 := by omega
  generalize formedP x.k x.op x.t x.v x.ar.length (wok x.nm) = bf at *
  generalize onlyP x.k x.op x.t x.v (x.nm.toList == []) = bo at *
  clear h64 h9
  cases bf
  · rw [Bool.false_and, if_pos rfl]
    go_enter Tryz.func72, Tryz.ntmps72
    go_wp2_with (go_at_call 106; refine (KF.out _ ?_).mono ?_; (focus ((repeat (first | (with_reducible exact Below.refl _ _) | (with_reducible assumption) | (with_reducible exact bel_box _) | (with_reducible refine bel_step ?_ (by with_reducible assumption)) | (with_reducible refine Below.drew ?_) | (with_reducible refine below_drewN ?_ _) | (with_reducible refine bel_alloc ?_ _))); done)); rintro e w1 ⟨rfl, hb1⟩)
    go_ret
    exact ⟨rfl, (by repeat (first | (with_reducible exact Below.refl _ _) | (with_reducible assumption) | (with_reducible exact bel_box _) | (with_reducible refine bel_step ?_ (by with_reducible assumption)) | (with_reducible refine Below.drew ?_) | (with_reducible refine below_drewN ?_ _) | (with_reducible refine bel_alloc ?_ _)))⟩
  cases bo
  · rw [Bool.true_and, if_pos rfl]
    go_enter Tryz.func72, Tryz.ntmps72
    go_wp2_with (first
      | (go_at_call 106; refine (KF.out _ ?_).mono ?_; (focus ((repeat (first | (with_reducible exact Below.refl _ _) | (with_reducible assumption) | (with_reducible exact bel_box _) | (with_reducible refine bel_step ?_ (by with_reducible assumption)) | (with_reducible refine Below.drew ?_) | (with_reducible refine below_drewN ?_ _) | (with_reducible refine bel_alloc ?_ _))); done)); rintro e w1 ⟨rfl, hb1⟩; obtain ⟨b0, b1, b2, b3, b4, b5, b6⟩ := bxW_cells (w := w) (x := x) hb1)
      | (go_at_call 107; refine (KO.out _).mono ?_; rintro e w2 ⟨rfl, hb2⟩))
    go_ret
    exact ⟨rfl, (by repeat (first | (with_reducible exact Below.refl _ _) | (with_reducible assumption) | (with_reducible exact bel_box _) | (with_reducible refine bel_step ?_ (by with_reducible assumption)) | (with_reducible refine Below.drew ?_) | (with_reducible refine below_drewN ?_ _) | (with_reducible refine bel_alloc ?_ _)))⟩
  rw [Bool.true_and, if_neg (by simp)]
  cases hi : hasIdn x.k
  · rw [hi] at KH
    rw [Bool.false_and, if_neg (by simp)]
    clear hi KI
    go_enter Tryz.func72, Tryz.ntmps72
    go_wp2_with (first
      | (go_at_call 106; refine (KF.out _ ?_).mono ?_; (focus ((repeat (first | (with_reducible exact Below.refl _ _) | (with_reducible assumption) | (with_reducible exact bel_box _) | (with_reducible refine bel_step ?_ (by with_reducible assumption)) | (with_reducible refine Below.drew ?_) | (with_reducible refine below_drewN ?_ _) | (with_reducible refine bel_alloc ?_ _))); done)); rintro e w1 ⟨rfl, hb1⟩; obtain ⟨b0, b1, b2, b3, b4, b5, b6⟩ := bxW_cells (w := w) (x := x) hb1)
      | (go_at_call 107; refine (KO.out _).mono ?_; rintro e w2 ⟨rfl, hb2⟩; obtain ⟨d0, d1, d2, d3, d4, d5, d6⟩ := bxW_cells (w := w) (x := x) (W := w2) (by repeat (first | (with_reducible exact Below.refl _ _) | (with_reducible assumption) | (with_reducible exact bel_box _) | (with_reducible refine bel_step ?_ (by with_reducible assumption)) | (with_reducible refine Below.drew ?_) | (with_reducible refine below_drewN ?_ _) | (with_reducible refine bel_alloc ?_ _))))
      | (go_at_call 108; refine (KH.out _).mono ?_; rintro e w3 ⟨rfl, hb3⟩))
    go_ret
    exact ⟨rfl, (by repeat (first | (with_reducible exact Below.refl _ _) | (with_reducible assumption) | (with_reducible exact bel_box _) | (with_reducible refine bel_step ?_ (by with_reducible assumption)) | (with_reducible refine Below.drew ?_) | (with_reducible refine below_drewN ?_ _) | (with_reducible refine bel_alloc ?_ _)))⟩
  have KI2 := KI hi
  rw [hi] at KH
  rw [Bool.true_and]
  clear hi KI
  generalize idP x.nm = bi at *
  cases bi
  all_goals
    go_enter Tryz.func72, Tryz.ntmps72
    go_wp2_with (first
      | (go_at_call 106; refine (KF.out _ ?_).mono ?_; (focus ((repeat (first | (with_reducible exact Below.refl _ _) | (with_reducible assumption) | (with_reducible exact bel_box _) | (with_reducible refine bel_step ?_ (by with_reducible assumption)) | (with_reducible refine Below.drew ?_) | (with_reducible refine below_drewN ?_ _) | (with_reducible refine bel_alloc ?_ _))); done)); rintro e w1 ⟨rfl, hb1⟩; obtain ⟨b0, b1, b2, b3, b4, b5, b6⟩ := bxW_cells (w := w) (x := x) hb1)
      | (go_at_call 107; refine (KO.out _).mono ?_; rintro e w2 ⟨rfl, hb2⟩; obtain ⟨d0, d1, d2, d3, d4, d5, d6⟩ := bxW_cells (w := w) (x := x) (W := w2) (by repeat (first | (with_reducible exact Below.refl _ _) | (with_reducible assumption) | (with_reducible exact bel_box _) | (with_reducible refine bel_step ?_ (by with_reducible assumption)) | (with_reducible refine Below.drew ?_) | (with_reducible refine below_drewN ?_ _) | (with_reducible refine bel_alloc ?_ _))))
      | (go_at_call 108; refine (KH.out _).mono ?_; rintro e w3 ⟨rfl, hb3⟩; obtain ⟨g0, g1, g2, g3, g4, g5, g6⟩ := bxW_cells (w := w) (x := x) (W := w3) (by repeat (first | (with_reducible exact Below.refl _ _) | (with_reducible assumption) | (with_reducible exact bel_box _) | (with_reducible refine bel_step ?_ (by with_reducible assumption)) | (with_reducible refine Below.drew ?_) | (with_reducible refine below_drewN ?_ _) | (with_reducible refine bel_alloc ?_ _))))
      | (go_at_call 75; refine (KI2.out _ ?_).mono ?_; (focus ((repeat (first | (with_reducible exact Below.refl _ _) | (with_reducible assumption) | (with_reducible exact bel_box _) | (with_reducible refine bel_step ?_ (by with_reducible assumption)) | (with_reducible refine Below.drew ?_) | (with_reducible refine below_drewN ?_ _) | (with_reducible refine bel_alloc ?_ _))); done)); rintro e w4 ⟨rfl, hb4⟩))
    go_ret
    exact ⟨rfl, (by repeat (first | (with_reducible exact Below.refl _ _) | (with_reducible assumption) | (with_reducible exact bel_box _) | (with_reducible refine bel_step ?_ (by with_reducible assumption)) | (with_reducible refine Below.drew ?_) | (with_reducible refine below_drewN ?_ _) | (with_reducible refine bel_alloc ?_ _)))⟩
end Go.Proofs.YthlapepjebidgaaGreatDoor
/- What within hands back, each expression with what is known of it; Check of the program. -/
namespace Go.Proofs.YthlapepjebidgaaGreatDoor
set_option linter.unusedVariables false
set_option linter.unusedSimpArgs false
open Go.RowKit Go.Shelf
attribute [local go_sem] Oper.semAt_some
/-- J over lists of expressions of which P is known, said of the expressions -/
def upJ {P : Xt → Prop} (J : List {y : Xt // P y} → World → Prop) (pre : List Xt) (W : World) : Prop := ∃ q, q.map (·.1) = pre ∧ J q W
set_option maxHeartbeats 1000000 in
set_option maxRecDepth 100000 in
theorem within_stopsP (P : Xt → Prop) (n be bp n₀ : Nat) (S : Nat → Prop) (x : Xt) (w : World) (hP : ∀ y ∈ x.list, P y) (hS : ∀ k, S k → n₀ ≤ k ∧ k < w.heap.size) (hn₀ : n₀ ≤ w.heap.size) (hbe : be < w.heap.size) (hbp : bp < w.heap.size) (hX : RdX w n₀ x)
    (c0 : w.cell? ⟨be, 0, none⟩ = some (.int .i64 x.k)) (c1 : w.cell? ⟨be, 1, none⟩ = some (.int .i64 x.op)) (c2 : w.cell? ⟨be, 2, none⟩ = some (.int .i64 x.t)) (c3 : w.cell? ⟨be, 3, none⟩ = some (.int .i64 x.v)) (c4 : w.cell? ⟨be, 4, none⟩ = some (.string x.nm)) (c5 : w.cell? ⟨be, 5, none⟩ = some (.slice x.A x.ar.length x.c)) (cp : w.cell? ⟨bp, 0, none⟩ = some (.func (.func 29) #[] #[])) :
    SeqStopsK Fence.wide n Tryz.prog 67 #[.pointer (some ⟨be, 0, none⟩), .pointer (some ⟨bp, 0, none⟩)] (fun y : {y : Xt // P y} => #[xV y.1]) (KX S) (fun ys => ys.map (·.1) = x.list) (fun pre => pre.map (·.1) <+: x.list) x.size w := by
  intro l J Jx W hW hJ _ hY h0
  have hdd : ∀ k : Nat, (Fence.wide.depth.isSome = true → 1 ≤ k) := fun k h => by cases h
  have hWs := hW.size
  have d0 := (hW.cell (p := ⟨be, 0, none⟩) hbe).trans c0
  have d1 := (hW.cell (p := ⟨be, 1, none⟩) hbe).trans c1
  have d2 := (hW.cell (p := ⟨be, 2, none⟩) hbe).trans c2
  have d3 := (hW.cell (p := ⟨be, 3, none⟩) hbe).trans c3
  have d4 := (hW.cell (p := ⟨be, 4, none⟩) hbe).trans c4
  have d5 := (hW.cell (p := ⟨be, 5, none⟩) hbe).trans c5
  have dp := (hW.cell (p := ⟨bp, 0, none⟩) hbp).trans cp
  have hp := walk_each_in l n₀ W.heap.size x.size S (fun k hs => ⟨(hS k hs).1, by have := (hS k hs).2; omega⟩) (upJ J) (upJ Jx) (fun s A B row ⟨q, hq, hs⟩ hg hr => ⟨q, hq, hJ q A B row hs hg hr⟩) P
    (fun m pre y W1 hPy ⟨q, hq, hj⟩ hl => yield_any rfl m (YieldAt.mono (hY q ⟨y, hPy⟩ W1 hj (by rw [← hq, List.length_map] at hl; exact hl)) fun e W' h => h.elim
      (fun ⟨he, hj2, hk⟩ => .inl ⟨he, ⟨q ++ [⟨y, hPy⟩], by rw [List.map_append, hq]; rfl, hj2⟩, hk⟩) (fun ⟨he, hx⟩ => .inr ⟨he, q ++ [⟨y, hPy⟩], by rw [List.map_append, hq]; rfl, hx⟩))) x (n - 1) [] W hP (hX.blw (hW.mono hn₀) (Nat.le_refl _)) (Nat.le_refl _) ⟨[], rfl, h0⟩ (by simp)
  simp only [List.nil_append, xV] at hp
  clear hY c0 c1 c2 c3 c4 c5 cp
  simp only [List.append_toArray, List.cons_append, List.nil_append, Array.append_eq_append] at *
  refine callsIn_of_wp Tryz.func67 rfl trivial ?_ rfl
  simp only [Tryz.ntmps67, List.size_toArray, List.length_cons, List.length_nil, Nat.reduceAdd, Nat.reduceSub, Array.replicate_succ, Array.replicate_zero, List.push_toArray, List.append_toArray, List.nil_append, List.cons_append]
  gi_wp2_with (refine ⟨trivial, hdd _, ?_⟩; gi_at_call 68; refine hp.mono ?_; clear hp; rintro e W1 (⟨rfl, ⟨ys, hys, hJ1⟩, _⟩ | ⟨rfl, q, hq, ys, hys, hx⟩))
  · go_end0
    exact ⟨⟨_, rfl⟩, .inl ⟨ys, hys, hJ1⟩⟩
  · go_end0
    exact ⟨⟨_, rfl⟩, .inr ⟨ys, by rw [hys]; exact hq, hx⟩⟩
theorem within_atP (P : Xt → Prop) (n n₀ : Nat) (S : Nat → Prop) (x : Xt) (w : World) (hP : ∀ y ∈ x.list, P y) (hS : ∀ k, S k → n₀ ≤ k ∧ k < w.heap.size) (hn₀ : n₀ ≤ w.heap.size) (hX : RdX w n₀ x) :
    SeqStopsK Fence.wide n Tryz.prog 67 #[.pointer (some ⟨w.heap.size, 0, none⟩), .pointer (some ⟨w.heap.size+1, 0, none⟩)] (fun y : {y : Xt // P y} => #[xV y.1]) (KX S) (fun ys => ys.map (·.1) = x.list) (fun pre => pre.map (·.1) <+: x.list) x.size (inW w x 29) := by
  obtain ⟨b0, b1, b2, b3, b4, b5, _⟩ := bxW_cells (w := w) (x := x) (W := inW w x 29) (bel_box _)
  exact within_stopsP P n w.heap.size (w.heap.size+1) n₀ S x _ hP (fun k hs => ⟨(hS k hs).1, by rw [inW_size]; have := (hS k hs).2; omega⟩) (by rw [inW_size]; omega) (by rw [inW_size]; omega) (by rw [inW_size]; omega) (hX.blw ((inW_below w x _).mono hn₀) (Nat.le_refl _)) b0 b1 b2 b3 b4 b5 (by simp [go_sem])
theorem RdX.all {w : World} {B : Nat} {x : Xt} (h : RdX w B x) : ∀ y ∈ x.list, y.ar.length ≤ maxLen := by
  induction x using Xt.ind with
  | h x ih =>
    intro y hy
    rw [Xt.list_eq] at hy
    rcases List.mem_cons.1 hy with rfl | hy
    · exact h.len.1
    · obtain ⟨l, hl, hyl⟩ := List.mem_flatten.1 hy
      obtain ⟨z, hz, rfl⟩ := List.mem_map.1 hl
      exact ih z hz (h.kid hz) y hyl
/-- the first error -/
def firstE (f : Xt → Int) : List Xt → Int
  | [] => 0
  | y :: r => if f y = 0 then firstE f r else f y
theorem firstE_ok {f : Xt → Int} {l : List Xt} (h : ∀ y ∈ l, f y = 0) : firstE f l = 0 := by
  induction l with
  | nil => rfl
  | cons y r ih => rw [firstE, if_pos (h y (by simp))]; exact ih fun z hz => h z (by simp [hz])
theorem firstE_at {f : Xt → Int} {l r : List Xt} {y : Xt} (h : ∀ z ∈ l, f z = 0) (hy : f y ≠ 0) : firstE f (l ++ y :: r) = f y := by
  induction l with
  | nil => rw [List.nil_append, firstE, if_neg hy]
  | cons z l ih => rw [List.cons_append, firstE, if_pos (h z (by simp))]; exact ih fun u hu => h u (by simp [hu])
theorem bx2 {w W : World} {x : Xt} {v : Value} {t : TypeId} (h : Below ((bxW w x).alloc (.cells #[v] t)).heap.size ((bxW w x).alloc (.cells #[v] t)) W) :
    (W.cell? ⟨w.heap.size, 0, none⟩ = some (.int .i64 x.k) ∧ W.cell? ⟨w.heap.size, 1, none⟩ = some (.int .i64 x.op) ∧ W.cell? ⟨w.heap.size, 2, none⟩ = some (.int .i64 x.t) ∧ W.cell? ⟨w.heap.size, 3, none⟩ = some (.int .i64 x.v) ∧ W.cell? ⟨w.heap.size, 4, none⟩ = some (.string x.nm) ∧ W.cell? ⟨w.heap.size, 5, none⟩ = some (.slice x.A x.ar.length x.c)) ∧ (W.cell? ⟨w.heap.size+1, 0, none⟩ = some v ∧ W.frozen? ⟨w.heap.size+1, 0, none⟩ = false) ∧ w.heap.size+1 < W.heap.size ∧ Below w.heap.size w W := by
  have hz := h.size
  have hz2 : ((bxW w x).alloc (.cells #[v] t)).heap.size = w.heap.size + 2 := by simp only [World.size_alloc]
  rw [hz2] at hz
  have hb : Below (bxW w x).heap.size (bxW w x) W := (bel_box _).trans (h.mono (by rw [World.size_alloc]; omega))
  obtain ⟨b0, b1, b2, b3, b4, b5, _⟩ := bxW_cells hb
  refine ⟨⟨b0, b1, b2, b3, b4, b5⟩, ⟨?_, ?_⟩, by omega, bxW_below hb⟩
  · exact (h.cell (p := ⟨w.heap.size+1, 0, none⟩) (by rw [hz2]; simp)).trans (by simp [go_sem])
  · exact (h.frozen (p := ⟨w.heap.size+1, 0, none⟩) (by rw [hz2]; simp)).trans (by simp [go_sem])
def chkAll (wok : ByteArray → Bool) (x : Xt) : Int := if 400 < x.size ∨ 32 < x.depth then 3 else firstE (chk1 wok) x.list
set_option maxHeartbeats 2000000 in
set_option maxRecDepth 100000 in
theorem check_any (wok : ByteArray → Bool) (x : Xt) (w : World) (hX : RdX w w.heap.size x) (hN : ∀ y ∈ x.list, NmOk wok w y) : Calls Tryz.prog 34 #[xV x] w (Bel (.int .i64 (chkAll wok x)) w) := by
  have hdd : ∀ k : Nat, (Fence.wide.depth.isSome = true → 1 ≤ k) := fun k h => by cases h
  have KW := Lib.hid (fun W => within_any x 29 W)
  have KE : Hid (∀ W, Below w.heap.size w W → Calls Tryz.prog 71 #[xV x, .int .i64 400] W (Bel (.bool (decide (400 < x.size))) W)) := Lib.hid fun W hb => exceeds_any x 400 W (hX.to hb) (by omega)
  have HX := Lib.hid hX
  have hal := hX.all
  have hsz : x.size ≤ 400 → Hid (∀ W, Below w.heap.size w W → Calls Tryz.prog 36 #[xV x] W (Bel (.int .i64 (x.depth : Nat)) W)) := fun h => Lib.hid fun W hb => depth_any x W (hX.to hb) (by omega)
  clear hX
  simp only [xV] at KW KE hsz ⊢
  refine (callsIn_wide (n := 3)).1 ?_
  by_cases h400 : 400 < x.size
  · rw [chkAll, if_pos (.inl h400)]
    rw [decide_eq_true h400] at KE
    refine callsIn_of_wp_marks Tryz.func34 rfl trivial ?_ rfl
    simp only [Tryz.ntmps34, List.size_toArray, List.length_cons, List.length_nil, Nat.reduceAdd, Nat.reduceSub, Array.replicate_succ, Array.replicate_zero, List.push_toArray, List.append_toArray, List.nil_append, List.cons_append]
    gi_wp2_with (refine ⟨trivial, ?_⟩; gi_at_call 71; refine (callsIn_wide.2 (KE.out _ ?_)).mono ?_; (focus ((repeat (first | (with_reducible exact Below.refl _ _) | (with_reducible assumption) | (with_reducible exact bel_box _) | (with_reducible refine bel_step ?_ (by with_reducible assumption)) | (with_reducible refine Below.drew ?_) | (with_reducible refine below_drewN ?_ _) | (with_reducible refine bel_alloc ?_ _))); done)); rintro e W1 ⟨rfl, hb1⟩; obtain ⟨⟨a0, a1, a2, a3, a4, a5⟩, ⟨r0, r1⟩, hzz, hBB⟩ := bx2 hb1; clear hb1)
    refine ⟨trivial, ?_⟩
    gi_wp2
    refine ⟨.int .i64 3, ?_, rfl, hBB.setCell (p := ⟨w.heap.size+1, 0, none⟩) (by simp) _⟩
    have hc5 := World.cell?_setCell_same' W1 ⟨w.heap.size+1, 0, none⟩ (.int .i64 3) (by rw [r0]; rfl)
    simp [results, Tryz.f34, go_sem, hc5]
  rw [decide_eq_false h400] at KE
  have KD := hsz (by omega)
  clear hsz
  have hdl := depth_le x
  by_cases h32 : 32 < x.depth
  · rw [chkAll, if_pos (.inr h32)]
    have u1 : (32 : Int) < (x.depth : Int) := by omega
    refine callsIn_of_wp_marks Tryz.func34 rfl trivial ?_ rfl
    simp only [Tryz.ntmps34, List.size_toArray, List.length_cons, List.length_nil, Nat.reduceAdd, Nat.reduceSub, Array.replicate_succ, Array.replicate_zero, List.push_toArray, List.append_toArray, List.nil_append, List.cons_append]
    gi_wp2_with (first
      | (refine ⟨trivial, ?_⟩; gi_at_call 71; refine (callsIn_wide.2 (KE.out _ ?_)).mono ?_; (focus ((repeat (first | (with_reducible exact Below.refl _ _) | (with_reducible assumption) | (with_reducible exact bel_box _) | (with_reducible refine bel_step ?_ (by with_reducible assumption)) | (with_reducible refine Below.drew ?_) | (with_reducible refine below_drewN ?_ _) | (with_reducible refine bel_alloc ?_ _))); done)); rintro e W1 ⟨rfl, hb1⟩; obtain ⟨⟨a0, a1, a2, a3, a4, a5⟩, ⟨r0, r1⟩, hzz, hBB⟩ := bx2 hb1)
      | (refine ⟨trivial, ?_⟩; gi_at_call 36; refine (callsIn_wide.2 (KD.out _ ?_)).mono ?_; (focus (exact hBB; done)); rintro e W2 ⟨rfl, hb2⟩; obtain ⟨_, ⟨s0, s1⟩, hzy, hBC⟩ := bx2 (hb1.trans (hb2.mono hb1.size))))
    refine ⟨.int .i64 3, ?_, rfl, hBC.setCell (p := ⟨w.heap.size+1, 0, none⟩) (by simp) _⟩
    have hc5 := World.cell?_setCell_same' W2 ⟨w.heap.size+1, 0, none⟩ (.int .i64 3) (by rw [s0]; rfl)
    simp [results, Tryz.f34, go_sem, hc5]
  rw [chkAll, if_neg (by omega)]
  have u1 : (x.depth : Int) ≤ 32 := by omega
  refine callsIn_of_wp_marks Tryz.func34 rfl trivial ?_ rfl
  simp only [Tryz.ntmps34, List.size_toArray, List.length_cons, List.length_nil, Nat.reduceAdd, Nat.reduceSub, Array.replicate_succ, Array.replicate_zero, List.push_toArray, List.append_toArray, List.nil_append, List.cons_append]
  gi_wp2_with (first
    | (refine ⟨trivial, ?_⟩; gi_at_call 71; refine (callsIn_wide.2 (KE.out _ ?_)).mono ?_; (focus ((repeat (first | (with_reducible exact Below.refl _ _) | (with_reducible assumption) | (with_reducible exact bel_box _) | (with_reducible refine bel_step ?_ (by with_reducible assumption)) | (with_reducible refine Below.drew ?_) | (with_reducible refine below_drewN ?_ _) | (with_reducible refine bel_alloc ?_ _))); done)); rintro e W1 ⟨rfl, hb1⟩; obtain ⟨⟨a0, a1, a2, a3, a4, a5⟩, ⟨r0, r1⟩, hzz, hBB⟩ := bx2 hb1)
    | (refine ⟨trivial, ?_⟩; gi_at_call 36; refine (callsIn_wide.2 (KD.out _ ?_)).mono ?_; (focus (exact hBB; done)); rintro e W2 ⟨rfl, hb2⟩; obtain ⟨⟨e0, e1, e2, e3, e4, e5⟩, ⟨s0, s1⟩, hzy, hBC⟩ := bx2 (hb1.trans (hb2.mono hb1.size)))
    | (refine ⟨trivial, ?_⟩; gi_at_call 28; refine (callsIn_wide.2 (KW.out _)).mono ?_; rintro e W3 ⟨rfl, rfl⟩))
  have hst := within_atP (fun y => y ∈ x.list) (3 - 1) w.heap.size (fun k => k = w.heap.size+1) x W2 (fun y h => h) (fun k hk => by subst hk; omega) (by omega) (HX.out.blw hBC (Nat.le_refl _))
  obtain ⟨W0, hW0⟩ : ∃ W0, inW W2 x 29 = W0 := ⟨_, rfl⟩
  have hz0 : W0.heap.size = W2.heap.size + 2 := by rw [← hW0, inW_size]
  have hB0 : Below w.heap.size w W0 := by rw [← hW0]; exact hBC.trans ((inW_below W2 x _).mono (by omega))
  have f2 : W0.cell? ⟨w.heap.size+1, 0, none⟩ = some (.int .i64 0) := by rw [← hW0]; exact (inW_old (by omega)).1.trans s0
  have f3 : W0.frozen? ⟨w.heap.size+1, 0, none⟩ = false := by rw [← hW0]; exact (inW_old (by omega)).2.trans s1
  rw [hW0] at hst
  rw [show (bxW W2 x).alloc (.cells #[.func (.func 29) #[] #[]] 30) = W0 from hW0]
  have HN := Lib.hid hN
  have HAL := Lib.hid hal
  clear hW0 KW KE KD HX hN hal a0 a1 a2 a3 a4 a5 r0 r1 e0 e1 e2 e3 e4 e5 s0 s1 hb1 hb2 hBB hBC hzz
  refine wpIn_rangeFunc_ownH rfl (by decide) (gf := 67) (lb := #[.pointer (some ⟨W2.heap.size, 0, none⟩), .pointer (some ⟨W2.heap.size+1, 0, none⟩)]) rfl trivial (enters_of Tryz.func67 (by kernel_rfl) rfl)
    hst KX_t KX_b (Below.refl _ _) (fun _ => rfl)
    (fun pre W => ((∀ y ∈ pre, chk1 wok y.1 = 0) ∧ W.cell? ⟨w.heap.size+1, 0, none⟩ = some (.int .i64 0) ∧ W.frozen? ⟨w.heap.size+1, 0, none⟩ = false) ∧ Below w.heap.size w W)
    (fun c pre W => (c = .ret ∧ ∃ q y, pre = q ++ [y] ∧ (∀ z ∈ q, chk1 wok z.1 = 0) ∧ chk1 wok y.1 ≠ 0 ∧ W.cell? ⟨w.heap.size+1, 0, none⟩ = some (.int .i64 (chk1 wok y.1))) ∧ Below w.heap.size w W)
    (OwnFrom.and (Own.from (fun s A B row hs hg hr => ⟨hs.1, cell_kept hs.2.1 hg hr, (frozen_kept hs.2.1 hg hr).trans hs.2.2⟩) _) (ownFrom_below (Nat.le_refl _) (by omega)))
    (fun c => OwnFrom.and (Own.from (fun s A B row hs hg hr => by
      obtain ⟨h1, q, y, h2, h3, h4, h5⟩ := hs
      exact ⟨h1, q, y, h2, h3, h4, cell_kept h5 hg hr⟩) _) (ownFrom_below (Nat.le_refl _) (by omega)))
    ⟨⟨by simp, f2, f3⟩, hB0⟩
    (fun y a' W => ∃ Bx, (w.heap.size + 2 ≤ Bx ∧ W.cell? ⟨Bx, 0, none⟩ = some (.int .i64 y.1.k) ∧ W.cell? ⟨Bx, 1, none⟩ = some (.int .i64 y.1.op) ∧ W.cell? ⟨Bx, 2, none⟩ = some (.int .i64 y.1.t) ∧ W.cell? ⟨Bx, 3, none⟩ = some (.int .i64 y.1.v) ∧ W.cell? ⟨Bx, 4, none⟩ = some (.string y.1.nm) ∧ W.cell? ⟨Bx, 5, none⟩ = some (.slice y.1.A y.1.ar.length y.1.c)) ∧ a' = { tmps := #[.agg #[.int .i64 x.k, .int .i64 x.op, .int .i64 x.t, .int .i64 x.v, .string x.nm, .slice x.A x.ar.length x.c], .pointer (some ⟨w.heap.size, 0, none⟩), .pointer (some ⟨w.heap.size+1, 0, none⟩), .pointer (some ⟨Bx, 0, none⟩), undef, .agg #[.int .i64 x.k, .int .i64 x.op, .int .i64 x.t, .int .i64 x.v, .string x.nm, .slice x.A x.ar.length x.c], .bool false, .bool false, .agg #[.int .i64 x.k, .int .i64 x.op, .int .i64 x.t, .int .i64 x.v, .string x.nm, .slice x.A x.ar.length x.c], .int .i64 (x.depth : Int), .bool (decide ((32 : Int) < (x.depth : Int))), .bool (decide ((32 : Int) < (x.depth : Int))), .agg #[.int .i64 x.k, .int .i64 x.op, .int .i64 x.t, .int .i64 x.v, .string x.nm, .slice x.A x.ar.length x.c], .func (.func 67) #[] #[.pointer (some ⟨W2.heap.size, 0, none⟩), .pointer (some ⟨W2.heap.size+1, 0, none⟩)], xV y.1, undef, undef, undef, undef, undef], defers := [] })
    (fun y a' s A B row hs hg hr => by
      obtain ⟨Bx, ⟨h1, h2, h3, h4, h5, h6, h7⟩, h8⟩ := hs
      exact ⟨Bx, ⟨h1, cell_kept h2 hg (fun r e => (hr r e).2), cell_kept h3 hg (fun r e => (hr r e).2), cell_kept h4 hg (fun r e => (hr r e).2), cell_kept h5 hg (fun r e => (hr r e).2), cell_kept h6 hg (fun r e => (hr r e).2), cell_kept h7 hg (fun r e => (hr r e).2)⟩, h8⟩) ?assign ?body ?done ?stop
  case assign =>
    rintro l pre y W K ⟨⟨i1, i2, i3⟩, hB⟩ hK
    rw [fold1]
    simp only [xV] at hK ⊢
    gi_wp2
    obtain ⟨d0, d1, d2, d3, d4, d5⟩ := bx_box W y.1
    exact hK _ _ ((KeepsOthers.alloc _ _).from _) (KX.of_below (bel_box _)) ⟨⟨i1, cell_al _ i2, frozen_al _ i2 i3⟩, bel_alloc hB _⟩ ⟨W.heap.size, ⟨by have := World.block_lt_of_cell? W _ i2; simp only at this; omega, d0, d1, d2, d3, d4, d5⟩, rfl⟩
  case body =>
    rintro l pre y a' W hl ⟨r, hr⟩ ⟨⟨i1, i2, i3⟩, hB⟩ ⟨Bx, ⟨hBx, d0, d1, d2, d3, d4, d5⟩, rfl⟩ hlt
    have hbk := World.block_lt_of_cell? W _ i2
    have KC : Hid (Calls Tryz.prog 72 #[xV y.1] W (Bel (.int .i64 (chk1 wok y.1)) W)) := Lib.hid (checkone_any wok y.1 W (HAL.out _ y.2) ((HN.out _ y.2).to hB))
    simp only [xV] at KC
    by_cases hc : chk1 wok y.1 = 0
    · gi_wp2_with (refine ⟨trivial, ?_⟩; gi_at_call 72; refine (CallsIn.inRound l (callsIn_wide.2 KC.out)).mono ?_; rintro e W5 ⟨rfl, hb5⟩)
      exact ⟨(KeepsOthers.of_grownBy (below_grown hb5) (fun j o e => by cases e)).from _, KX.of_below hb5, ⟨fun z hz => (List.mem_append.1 hz).elim (i1 z) (fun h => by rw [List.mem_singleton.1 h]; exact hc), (hb5.cell (p := ⟨w.heap.size+1, 0, none⟩) hbk).trans i2, (hb5.frozen (p := ⟨w.heap.size+1, 0, none⟩) hbk).trans i3⟩, hB.trans (hb5.mono hB.size)⟩
    · gi_wp2_with (refine ⟨trivial, ?_⟩; gi_at_call 72; refine (CallsIn.inRound l (callsIn_wide.2 KC.out)).mono ?_; rintro e W5 ⟨rfl, hb5⟩; have j2 := (hb5.cell (p := ⟨w.heap.size+1, 0, none⟩) hbk).trans i2; have j3 := (hb5.frozen (p := ⟨w.heap.size+1, 0, none⟩) hbk).trans i3)
      exact ⟨((KeepsOthers.of_grownBy (below_grown hb5) (fun j o e => by cases e)).trans (KeepsOthers.setCell _ _ _)).from _, ⟨rfl, pre, y, rfl, i1, hc, World.cell?_setCell_same' _ _ _ (by rw [j2]; rfl)⟩, (hB.trans (hb5.mono hB.size)).setCell (p := ⟨w.heap.size+1, 0, none⟩) (by simp) _⟩
  case done =>
    rintro D ys W hD hys ⟨⟨hn, hc, hf⟩, hB⟩ hK
    have hv : firstE (chk1 wok) x.list = 0 := firstE_ok fun y hy => by
      rw [← hys] at hy
      obtain ⟨z, hz, rfl⟩ := List.mem_map.1 hy
      exact hn z hz
    gi_wp2
    have hK' := (KeepsOthers.setCell W ⟨w.heap.size+1, 0, none⟩ (.int .i64 0)).same D _ hK rfl
    refine ⟨by simp, .inl ⟨_, _, rfl, run_takeDeferred hK', ?_⟩⟩
    have hc5 := cell_kept (World.cell?_setCell_same' W ⟨w.heap.size+1, 0, none⟩ (.int .i64 0) (by rw [hc]; rfl)) (grownBy_putObj' _ D (.deferred none)) (fun r e => by cases e; exact ⟨_, hK', rfl⟩)
    refine ⟨.int .i64 0, ?_, rfl, (hB.setCell (p := ⟨w.heap.size+1, 0, none⟩) (by simp) _).trans (belowK_b (w := w) (Nat.le_refl _) _ D _ _ (by omega) hK' rfl rfl)⟩
    simp [results, Tryz.f34, go_sem, hc5]
  case stop =>
    rintro D c pre W hD ⟨t, ht⟩ ⟨⟨rfl, q, y, rfl, hq, hy, hc⟩, hB⟩ hK
    have hv : firstE (chk1 wok) x.list = chk1 wok y.1 := by
      have hl : x.list = q.map (·.1) ++ y.1 :: t := ht.symm.trans (by rw [List.map_append, List.append_assoc]; rfl)
      exact (congrArg _ hl).trans (firstE_at (fun z hz => by obtain ⟨u, hu, rfl⟩ := List.mem_map.1 hz; exact hq u hu) hy)
    gi_wp2
    refine ⟨by simp, .inl ⟨_, _, rfl, run_takeDeferred hK, ?_⟩⟩
    have hc5 := cell_kept hc (grownBy_putObj' _ D (.deferred none)) (fun r e => by cases e; exact ⟨_, hK, rfl⟩)
    refine ⟨.int .i64 (chk1 wok y.1), ?_, rfl, hB.trans (belowK_b (w := w) (Nat.le_refl _) W D _ _ (by omega) hK rfl rfl)⟩
    simp [results, Tryz.f34, go_sem, hc5]
end Go.Proofs.YthlapepjebidgaaGreatDoor
/- The frame of a law's row: a call that returns true and leaves the old blocks alone meets the row; arguments that are slices of bools are opened. -/
namespace Go.Proofs.YthlapepjebidgaaGreatDoor
set_option linter.unusedVariables false
set_option linter.unusedSimpArgs false
open Go.ChangeShapes Go.WideShapes Go.ChangeAt Go.RowKit Go.Deep
section
variable {H : Type} {enc : TypeId × Value → H} {P : Program}
theorem trodAll_below (hl : laidOutB P = true) {W W' : World} (hb : Below W.heap.size W W') : ∀ {ts : List TypeId} {vs : List Value} {ds : List (DataW H)} {ps : List MemPlace},
    (∀ t ∈ ts, P.readableRec t = true ∧ t < P.types.size) → DataW.TrodAll enc P W 0 (fun _ => true) true ts vs ds ps → (∀ x ∈ ps, x.block < W.heap.size) →
    DataW.TrodAll enc P W' 0 (fun b => decide (b < W.heap.size)) true ts vs ds ps := by
  intro ts
  induction ts with
  | nil => intro vs ds ps _ h _; cases vs <;> cases ds <;> simp_all [DataW.TrodAll]
  | cons t ts ih =>
    intro vs ds ps ht h hlt
    match vs, ds, h with
    | v :: vs, d :: ds, ⟨p, q, h1, h2, e⟩ =>
      subst e
      obtain ⟨hr, hs⟩ := ht t (by simp)
      exact ⟨p, q, Below.trod hl hr hs h1 hb (fun x hx => hlt x (by simp [hx])), ih (fun u hu => ht u (by simp [hu])) h2 (fun x hx => hlt x (by simp [hx])), rfl⟩
theorem law_post {f : Func} {s : ChangeSpec} {W W' : World} {args : Array Value} {ds gs : List (DataW H)} {before : List MemPlace} {tb : TypeId}
    (hW : DataW.Whole enc P f.params.toList s.vars false W args.toList ds gs before) (hv : s.vars = [])
    (hs : (s.fn H (ds ++ gs)).results = [.lit (.bool true)] ∧ (s.fn H (ds ++ gs)).args = ds ∧ (s.fn H (ds ++ gs)).vars = [])
    (hf : f.resultTypes = #[tb]) (htb : P.underlying tb = some .bool) (hl : laidOutB P = true) (hts : ∀ t ∈ f.params.toList, P.readableRec t = true ∧ t < P.types.size)
    (hb : Below W.heap.size W W') : s.post enc P f false true false false W args (.bool true) W' := by
  have hW' := hW
  obtain ⟨p, q, hA, hV, rfl, _, _⟩ := hW
  rw [hv] at hV
  obtain ⟨rfl, rfl⟩ := trodVars_none hV
  refine ⟨ds, [], p ++ [], [], p, [], hW', ?_, ?_, ?_, hb.frame _, fun h => by cases h⟩
  · rw [hs.1, hf]
    exact trodAll_mk1 (shut_bool htb true)
  · rw [hs.2.1]
    exact trodAll_below hl hb hts hA (fun x hx => hW'.lt x (by simp [hx]))
  · rw [hv, hs.2.2]
    rfl
end
end Go.Proofs.YthlapepjebidgaaGreatDoor
/- An argument that is an expression, opened: a tree that lies in memory. -/
namespace Go.Proofs.YthlapepjebidgaaGreatDoor
set_option linter.unusedVariables false
set_option linter.unusedSimpArgs false
open Go.ChangeShapes Go.WideShapes Go.ChangeAt Go.RowKit Go.Deep Go.WideElems
/-- names are no longer than what a machine holds -/
def NmB (x : Xt) : Prop := ∀ y ∈ x.list, y.nm.size ≤ 140737488351232
theorem NmB.kid {x y : Xt} (h : NmB x) (hy : y ∈ x.ar) : NmB y := fun z hz => h z (by rw [Xt.list_eq]; exact List.mem_cons.2 (.inr (List.mem_flatten.2 ⟨_, List.mem_map_of_mem hy, hz⟩)))
section
variable {H : Type} {enc : TypeId × Value → H} {P : Program} {w : World} {held : Bool}
end
end Go.Proofs.YthlapepjebidgaaGreatDoor
/- What the small functions of package bword, and their references, return for every word: Check, letter, At, count, huge. -/
namespace Go.Proofs.YthlapepjebidgaaGreatDoor.bw
set_option linter.unusedVariables false
set_option linter.unusedSimpArgs false
open Go.RowKit
theorem ret_int {k : IntKind} {a b : Int} (h : a = b) : Ending.returned (.int k a) = .returned (.int k b) := by rw [h]
theorem ret_bool {a b : Bool} (h : a = b) : Ending.returned (.bool a) = .returned (.bool b) := by rw [h]
/-- the error of a word -/
def ck (h l : List Bool) : Int := if l.length = 0 then 5 else if h.length + l.length > 64 then 3 else 0
/-- letter i -/
def lt (h l : List Bool) (i : Nat) : Bool := if i < h.length then h[i]?.getD false else l[(i - h.length) % l.length]?.getD false
theorem lens {h l : List Bool} (hc : ck h l = 0) : 0 < l.length ∧ h.length + l.length ≤ 64 := by
  unfold ck at hc
  split at hc
  · omega
  · split at hc <;> omega
def Bel (v : Value) (w : World) (e : Ending) (w' : World) : Prop := e = .returned v ∧ Below w.heap.size w w'
theorem check_any (A B : Option Addr) (c d : Nat) (h l : List Bool) (w : World) (hh : h.length ≤ 140737488355328) (hl : l.length ≤ 140737488355328) :
    Calls Tryz.prog 162 #[.agg #[.slice A h.length c, .slice B l.length d]] w (Bel (.int .i64 (ck h l)) w) := by
  go_enter Tryz.func162, Tryz.ntmps162
  go_wp2
  all_goals go_ret
  all_goals refine ⟨ret_int ?_, bel_box _⟩
  all_goals unfold ck
  · rw [if_pos (by simp_all)]
  · rw [if_neg (by simp_all), if_pos (by omega)]
  · rw [if_neg (by simp_all), if_neg (by omega)]
end Go.Proofs.YthlapepjebidgaaGreatDoor.bw
/- repeats and period of package bword, and repeats of the reference. -/
namespace Go.Proofs.YthlapepjebidgaaGreatDoor.bw
set_option linter.unusedVariables false
set_option linter.unusedSimpArgs false
open Go.RowKit
def gb (l : List Bool) (i : Nat) : Bool := l[i]?.getD false
theorem gb_of {l : List Bool} {i : Nat} {b : Bool} (h : l[i]? = some b) : gb l i = b := by rw [gb, h]; rfl
end Go.Proofs.YthlapepjebidgaaGreatDoor.bw
/- slices.Grow of the nil slice, slices.Concat of two slices of bools, and append onto an owned slice. -/
namespace Go.Proofs.YthlapepjebidgaaGreatDoor.bw
set_option linter.unusedVariables false
set_option linter.unusedSimpArgs false
open Go.RowKit
theorem Tryz.boolInfo : (Tryz.prog.info? 4).map (fun i => (i.zero, i.size, i.bytes)) = some (some (.bool false), 1, 1) := by kernel_rfl
section
variable {P : Program} (w : World)
end
/-- a new slice with these bools, owned; the old blocks are left alone -/
def NewOwn (l : List Bool) (w : World) (e : Ending) (w' : World) : Prop := ∃ A c, e = .returned (.slice A l.length c) ∧ w'.ownsRow w.heap.size 4 1 (.slice A l.length c) l.length (bls l) ∧ Below w.heap.size w w'
theorem cell_new2 (w : World) (x y : Value) (t : TypeId) : (w.alloc (.cells #[x, y] t)).cell? ⟨w.heap.size, 0, none⟩ = some x ∧ (w.alloc (.cells #[x, y] t)).cell? ⟨w.heap.size, 1, none⟩ = some y := by
  constructor
  · rw [cell_of_row _ _ _ _ _ _ (heap_alloc_new w _)]; rfl
  · rw [cell_of_row _ _ _ _ _ _ (heap_alloc_new w _)]; rfl
end Go.Proofs.YthlapepjebidgaaGreatDoor.bw
/- Norm and fitted of package bword. -/
namespace Go.Proofs.YthlapepjebidgaaGreatDoor.bw
set_option linter.unusedVariables false
set_option linter.unusedSimpArgs false
open Go.RowKit
theorem ck_bad {h l : List Bool} (hc : ¬ ck h l = 0) : (ck h l != 0) = true := by simpa using hc
end Go.Proofs.YthlapepjebidgaaGreatDoor.bw
/- checkBoth and And of package bword. -/
namespace Go.Proofs.YthlapepjebidgaaGreatDoor.bw
set_option linter.unusedVariables false
set_option linter.unusedSimpArgs false
open Go.RowKit
/-- the letters of a conjunction, the first k of n -/
def andK (f : Nat → Bool) (n k : Nat) : List Bool := (List.range n).map fun i => decide (i < k) && f i
theorem andK_zero (f : Nat → Bool) (n : Nat) : (madeCells (Value.bool false).cells (n * 1)).toList = bls (andK f n 0) := by
  simp [andK, bls, madeCells, Value.cells, Nat.mod_one]
theorem andK_set (f : Nat → Bool) (n k : Nat) (hk : k < n) : (bls (andK f n k)).set k (.bool (f k)) = bls (andK f n (k+1)) := by
  apply List.ext_getElem
  · simp [bls, andK]
  · intro i h1 h2
    have hi : i < n := by simpa [bls, andK] using h2
    rw [List.getElem_set]
    by_cases e : k = i
    · subst e
      simp [bls, andK]
    · have ht : decide (i < k) = decide (i < k+1) := by rw [decide_eq_decide]; omega
      simp [bls, andK, e, ht]
theorem andK_get (f : Nat → Bool) (n k j : Nat) (hj : j < n) : (bls (andK f n k))[j]? = some (.bool (decide (j < k) && f j)) := by simp [bls, andK, hj]
theorem add_off (b n : Nat) : (⟨b, 0, none⟩ : Addr).add n = ⟨b, n, none⟩ := by simp only [Addr.add]; split <;> simp_all
end Go.Proofs.YthlapepjebidgaaGreatDoor.bw
/- word of the laws of layer 2: a word from the texts of its lists. -/
namespace Go.Proofs.YthlapepjebidgaaGreatDoor.bw
set_option linter.unusedVariables false
set_option linter.unusedSimpArgs false
open Go.RowKit
/-- the letters of a text -/
def lts (s : ByteArray) : List Bool := s.data.toList.map fun b => ((b.toNat : Nat) : Int) == 49
theorem lts_length (s : ByteArray) : (lts s).length = s.size := by simp only [lts, List.length_map, Array.length_toList]; rfl
def Fw (g : Nat) (W : World) (u v : Value) : Prop := (W.cell? ⟨g, 0, none⟩ = some (.slice none 0 0) ∧ W.cell? ⟨g, 1, none⟩ = some (.slice none 0 0) ∧ W.cell? ⟨g+1, 0, none⟩ = some u ∧ W.cell? ⟨g+1, 1, none⟩ = some v) ∧
  (W.frozen? ⟨g, 0, none⟩ = false ∧ W.frozen? ⟨g, 1, none⟩ = false ∧ W.frozen? ⟨g+1, 0, none⟩ = false ∧ W.frozen? ⟨g+1, 1, none⟩ = false) ∧ g + 2 ≤ W.heap.size
theorem Fw.below {g : Nat} {W W' : World} {u v : Value} (h : Fw g W u v) (hb : Below (g + 2) W W') : Fw g W' u v := by
  obtain ⟨⟨h1, h2, h3, h4⟩, ⟨h5, h6, h7, h8⟩, h9⟩ := h
  refine ⟨⟨(hb.cell (p := ⟨g, 0, none⟩) (by simp)).trans h1, (hb.cell (p := ⟨g, 1, none⟩) (by simp)).trans h2, (hb.cell (p := ⟨g+1, 0, none⟩) (by simp)).trans h3, (hb.cell (p := ⟨g+1, 1, none⟩) (by simp)).trans h4⟩,
    ⟨(hb.frozen (p := ⟨g, 0, none⟩) (by simp)).trans h5, (hb.frozen (p := ⟨g, 1, none⟩) (by simp)).trans h6, (hb.frozen (p := ⟨g+1, 0, none⟩) (by simp)).trans h7, (hb.frozen (p := ⟨g+1, 1, none⟩) (by simp)).trans h8⟩, ?_⟩
  rcases Nat.lt_or_ge (g+1) W'.heap.size with h | h
  · omega
  · have e := (hb.cell (p := ⟨g+1, 0, none⟩) (by simp)).trans h3
    have := World.block_lt_of_cell? W' _ e
    simp at this
    omega
end Go.Proofs.YthlapepjebidgaaGreatDoor.bw
/- digits and Text of package bword. -/
namespace Go.Proofs.YthlapepjebidgaaGreatDoor.bw
set_option linter.unusedVariables false
set_option linter.unusedSimpArgs false
open Go.RowKit
def dig (b : Bool) : UInt8 := if b then 49 else 48
def digs (l : List Bool) : List UInt8 := l.map dig
def dgs (l : List Bool) : ByteArray := ⟨(digs l).toArray⟩
theorem digs_length (l : List Bool) : (digs l).length = l.length := by simp [digs]
end Go.Proofs.YthlapepjebidgaaGreatDoor.bw
/- Ones of package bword and of the reference, for every word and number. -/
namespace Go.Proofs.YthlapepjebidgaaGreatDoor.bw
set_option linter.unusedVariables false
set_option linter.unusedSimpArgs false
open Go.RowKit
theorem q1 {P : Program} {f : FuncId} {args : Array Value} {w : World} {n : Nat} {v : Value} (h : Calls P f args (w.drewN n) fun e w' => e = .returned v ∧ w.drewN n = w') : Calls P f args (w.drewN n) fun e w'' => e = .returned v ∧ ∃ m, w'' = w.drewN m :=
  h.mono fun _ _ ⟨he, hm⟩ => ⟨he, n, hm.symm⟩
theorem q2 {P : Program} {f : FuncId} {args : Array Value} {w : World} {a n : Nat} {v : Value} (h : Calls P f args (w.drewN (a + n)) fun e w' => e = .returned v ∧ w.drewN (a + n) = w') : Calls P f args (w.drewN (a + n)) fun e w'' => e = .returned v ∧ ∃ m, w'' = w.drewN (a + m) :=
  h.mono fun _ _ ⟨he, hm⟩ => ⟨he, n, hm.symm⟩
end Go.Proofs.YthlapepjebidgaaGreatDoor.bw
/- awake of the laws of layer 2: the examples of the page. -/
namespace Go.Proofs.YthlapepjebidgaaGreatDoor.bw
set_option linter.unusedVariables false
set_option linter.unusedSimpArgs false
open Go.RowKit
def NewWX (x y : List Bool) (er : Int) (w : World) (e : Ending) (w' : World) : Prop := ∃ A B c d, e = .returned (.tuple #[.agg #[.slice A x.length c, .slice B y.length d], .int .i64 er]) ∧ Rd w' w'.heap.size A (bls x) ∧ Rd w' w'.heap.size B (bls y) ∧ x.length ≤ c ∧ y.length ≤ d ∧ Below w.heap.size w w' ∧ Nw w.heap.size A (bls x) ∧ Nw w.heap.size B (bls y)
theorem box2 {w W : World} {x y : Value} {t : TypeId} (hb : Below (w.alloc (.cells #[x, y] t)).heap.size (w.alloc (.cells #[x, y] t)) W) : W.cell? ⟨w.heap.size, 0, none⟩ = some x ∧ W.cell? ⟨w.heap.size, 1, none⟩ = some y :=
  ⟨(hb.cell (p := ⟨w.heap.size, 0, none⟩) (by simp)).trans (cell_new2 w x y t).1, (hb.cell (p := ⟨w.heap.size, 1, none⟩) (by simp)).trans (cell_new2 w x y t).2⟩
end Go.Proofs.YthlapepjebidgaaGreatDoor.bw
/- strings.Cut at one byte, isDigits, read of the program; digits and run of the reference. -/
namespace Go.Proofs.YthlapepjebidgaaGreatDoor.bw
set_option linter.unusedVariables false
set_option linter.unusedSimpArgs false
open Go.RowKit
theorem len_toList (s : ByteArray) : s.data.toList.length = s.size := Array.length_toList
theorem byte_get (s : ByteArray) (k : Nat) (h : k < s.size) : s.data.toList[k]? = some s[k] := by
  rw [List.getElem?_eq_getElem (by rw [len_toList]; exact h)]
  rfl
/-- before the first c, behind it, and whether there is one -/
def cutA (l : List UInt8) (c : UInt8) : List UInt8 := if c ∈ l then l.takeWhile (· != c) else l
def cutZ (l : List UInt8) (c : UInt8) : List UInt8 := if c ∈ l then (l.dropWhile (· != c)).drop 1 else []
theorem idx_facts (l : List UInt8) (c : UInt8) : (c ∉ l ∧ Lib.indexByte l c = -1) ∨ (∃ k : Nat, c ∈ l ∧ Lib.indexByte l c = (k : Int) ∧ k < l.length ∧ l.takeWhile (· != c) = l.take k ∧ l.dropWhile (· != c) = l.drop k) := by
  induction l with
  | nil => exact .inl ⟨by simp, rfl⟩
  | cons b r ih =>
    by_cases hb : b = c
    · subst hb
      exact .inr ⟨0, by simp, by simp [Lib.indexByte], by simp, by simp, by simp⟩
    · have hb2 : (b == c) = false := by simpa using hb
      have hb3 : (b != c) = true := by simpa using hb
      rcases ih with ⟨h1, h2⟩ | ⟨k, h1, h2, h3, h4, h5⟩
      · left
        refine ⟨by simp [h1, Ne.symm hb], ?_⟩
        rw [Lib.indexByte, hb2, h2]
        rfl
      · right
        refine ⟨k+1, by simp [h1], ?_, by simp; omega, ?_, ?_⟩
        · rw [Lib.indexByte, hb2, h2, if_neg (by simp), if_neg (by simp)]
          rfl
        · rw [List.takeWhile_cons, if_pos hb3, List.take_succ_cons, h4]
        · rw [List.dropWhile_cons, if_pos hb3, List.drop_succ_cons, h5]
theorem cut_any (s : ByteArray) (c : UInt8) (w : World) (hs : s.size ≤ 9223372036854775807) : Calls Tryz.prog 175 #[.string s, .string ⟨#[c]⟩] w
    (fun e w' => e = .returned (.tuple #[.string ⟨(cutA s.data.toList c).toArray⟩, .string ⟨(cutZ s.data.toList c).toArray⟩, .bool (decide (c ∈ s.data.toList))]) ∧ Below w.heap.size w w') := by
  have KI := Lib.hid (fun w => Tryz.stringslite_Index_one s c w)
  rcases idx_facts s.data.toList c with ⟨h1, h2⟩ | ⟨k, h1, h2, h3, h4, h5⟩
  · rw [h2] at KI
    have e1 : cutA s.data.toList c = s.data.toList := by rw [cutA, if_neg h1]
    have e2 : cutZ s.data.toList c = [] := by rw [cutZ, if_neg h1]
    rw [e1, e2, decide_eq_false h1]
    clear h1 h2 e1 e2
    go_enter Tryz.func175, Tryz.ntmps175
    go_wp2_with (go_at_call 183; refine (KI.out _).mono ?_; rintro e w1 ⟨rfl, rfl⟩)
    go_ret3
    exact ⟨rfl, Below.refl _ _⟩
  · rw [h2] at KI
    have e1 : cutA s.data.toList c = s.data.toList.take k := by rw [cutA, if_pos h1, h4]
    have e2 : cutZ s.data.toList c = s.data.toList.drop (k+1) := by rw [cutZ, if_pos h1, h5, List.drop_drop]
    rw [e1, e2, decide_eq_true h1]
    have hk : k < s.size := by rw [← len_toList]; exact h3
    have f1 : (0 : Int) ≤ (k : Int) := by omega
    have f2 : (k : Int) ≤ (s.size : Int) := by omega
    have f3 : (k : Int)+1 ≤ (s.size : Int) := by omega
    have f4 : IntKind.i64.wrap ((k : Int)+1) = (k : Int)+1 := Go.IntWalk.i64_in _ ⟨by omega, by omega⟩
    clear h1 h2 h3 h4 h5 e1 e2
    go_enter Tryz.func175, Tryz.ntmps175
    go_wp2_with (go_at_call 183; refine (KI.out _).mono ?_; rintro e w1 ⟨rfl, rfl⟩)
    go_quiet (fail)
    go_wp2
    go_ret3
    have x1 : s.extract 0 k = ⟨(s.data.toList.take k).toArray⟩ := by
      apply ByteArray.ext
      rw [ByteArray.data_extract]
      apply Array.toList_inj.mp
      simp
    have x2 : s.extract (k+1) s.size = ⟨(s.data.toList.drop (k+1)).toArray⟩ := by
      apply ByteArray.ext
      rw [ByteArray.data_extract]
      apply Array.toList_inj.mp
      simp
      exact List.take_of_length_le (by simp [len_toList])
    exact ⟨by rw [← x1, ← x2]; rfl, below_drewN (Below.refl _ _) _⟩
theorem cuts_any (s : ByteArray) (c : UInt8) (w : World) (hs : s.size ≤ 9223372036854775807) : Calls Tryz.prog 159 #[.string s, .string ⟨#[c]⟩] w
    (fun e w' => e = .returned (.tuple #[.string ⟨(cutA s.data.toList c).toArray⟩, .string ⟨(cutZ s.data.toList c).toArray⟩, .bool (decide (c ∈ s.data.toList))]) ∧ Below w.heap.size w w') := by
  have K := Lib.hid (cut_any s c w hs)
  generalize decide (c ∈ s.data.toList) = b at *
  generalize cutA s.data.toList c = x at *
  generalize cutZ s.data.toList c = y at *
  clear hs
  go_enter Tryz.func159, Tryz.ntmps159
  go_wp2_with (go_at_call 175; refine K.out.mono ?_; rintro e w1 ⟨rfl, hb1⟩)
  go_ret3
  exact ⟨rfl, (by repeat (first | (with_reducible exact Below.refl _ _) | (with_reducible assumption) | (with_reducible exact bel_box _) | (with_reducible refine bel_step ?_ (by with_reducible assumption)) | (with_reducible refine Below.drew ?_) | (with_reducible refine below_drewN ?_ _) | (with_reducible refine bel_alloc ?_ _)))⟩
def isD (c : UInt8) : Bool := c == 48 || c == 49
theorem drop_nil {α : Type} {p : α → Bool} {l : List α} (h : (l.dropWhile p).all p = true) : l.all p = true := by
  induction l with
  | nil => rfl
  | cons a r ih =>
    rw [List.dropWhile_cons] at h
    split at h
    · rename_i ha
      rw [List.all_cons, ha, ih h]
      rfl
    · exact h
theorem drop_all {α : Type} {p : α → Bool} {l : List α} (h : l.all p = true) : l.dropWhile p = [] := by
  induction l with
  | nil => rfl
  | cons a r ih =>
    rw [List.all_cons, Bool.and_eq_true] at h
    rw [List.dropWhile_cons, if_pos h.1, ih h.2]
theorem trim_nil (l : List UInt8) : Lib.trimS l [48, 49] = [] ↔ l.all isD = true := by
  have hp : (fun b => List.contains [48, 49] b) = isD := by funext c; rw [show List.contains [48, 49] c = (c == 48 || (c == 49 || false)) from rfl, Bool.or_false]; rfl
  unfold Lib.trimS Lib.trimLeftS Lib.trimRightS
  rw [hp]
  constructor
  · intro h
    have h1 : ((l.reverse.dropWhile isD).reverse.dropWhile isD).all isD = true := by rw [h]; rfl
    have h2 := drop_nil h1
    rw [List.all_reverse] at h2
    have h3 := drop_nil h2
    rwa [List.all_reverse] at h3
  · intro h
    have h1 : l.reverse.all isD = true := by rwa [List.all_reverse]
    rw [drop_all h1]
    rfl
theorem isdig_any (s : ByteArray) (w : World) (hs : s.size ≤ 9223372036854775807) : Calls Tryz.prog 160 #[.string s] w (Bel (.bool (s.data.toList.all isD)) w) := by
  have K := Lib.hid (Tryz.strings_Trim_laid s ⟨#[48, 49]⟩ w hs (by decide) (Go.Proofs.ascii_of_all (by decide)))
  by_cases h : s.data.toList.all isD = true
  · have ht := (trim_nil _).2 h
    rw [show (ByteArray.mk #[48, 49]).data.toList = [48, 49] from rfl, ht] at K
    rw [h]
    clear h ht hs
    go_enter Tryz.func160, Tryz.ntmps160
    go_wp2_with (go_at_call 176; refine K.out.mono ?_; rintro e w1 ⟨rfl, hb1⟩)
    go_ret
    exact ⟨rfl, (by repeat (first | (with_reducible exact Below.refl _ _) | (with_reducible assumption) | (with_reducible exact bel_box _) | (with_reducible refine bel_step ?_ (by with_reducible assumption)) | (with_reducible refine Below.drew ?_) | (with_reducible refine below_drewN ?_ _) | (with_reducible refine bel_alloc ?_ _)))⟩
  · have ht : Lib.trimS s.data.toList [48, 49] ≠ [] := fun e => h ((trim_nil _).1 e)
    rw [show (ByteArray.mk #[48, 49]).data.toList = [48, 49] from rfl] at K
    rw [Bool.not_eq_true] at h
    rw [h]
    generalize Lib.trimS s.data.toList [48, 49] = l at *
    have e1 : l.isEmpty = false := by rcases l with _ | ⟨a, r⟩ <;> simp at ht ⊢
    have e2 : (l == []) = false := by rcases l with _ | ⟨a, r⟩ <;> simp at ht ⊢
    clear h hs ht
    go_enter Tryz.func160, Tryz.ntmps160
    go_wp2_with (go_at_call 176; refine K.out.mono ?_; rintro e w1 ⟨rfl, hb1⟩)
    go_ret
    exact ⟨rfl, (by repeat (first | (with_reducible exact Below.refl _ _) | (with_reducible assumption) | (with_reducible exact bel_box _) | (with_reducible refine bel_step ?_ (by with_reducible assumption)) | (with_reducible refine Below.drew ?_) | (with_reducible refine below_drewN ?_ _) | (with_reducible refine bel_alloc ?_ _)))⟩
end Go.Proofs.YthlapepjebidgaaGreatDoor.bw
/- read of the program; digits and run of the reference. -/
namespace Go.Proofs.YthlapepjebidgaaGreatDoor.bw
set_option linter.unusedVariables false
set_option linter.unusedSimpArgs false
open Go.RowKit
theorem lts_get {s : ByteArray} {k : Nat} (hk : k < s.size) : (lts s)[k]? = some (((s[k].toNat : Nat) : Int) == 49) := by
  rw [lts, List.getElem?_map, byte_get s k hk]
  rfl
theorem lts_all (s : ByteArray) : andK (fun i => gb (lts s) i) s.size s.size = lts s := by
  apply List.ext_getElem
  · simp [andK, lts_length]
  · intro i h1 h2
    have hi : i < s.size := by rw [← lts_length]; exact h2
    have := lts_get hi
    rw [List.getElem?_eq_getElem h2] at this
    simp [andK, gb, h2, hi]
set_option maxHeartbeats 400000 in
theorem read_any (s : ByteArray) (w : World) (hs : s.size ≤ 65536) : Calls Tryz.prog 161 #[.string s] w (NewOwn (lts s) w) := by
  obtain ⟨i0, hi, iz, is, ib⟩ := info_parts Tryz.boolInfo
  go_enter Tryz.func161, Tryz.ntmps161
  go_wp2_with (at_make; refine wpList_make_full _ rfl _ _ 147 rfl w.heap.size 4 i0 (.bool false) 1 Tryz.underlying147 hi iz is _ _ _ _ s.size rfl rfl rfl rfl (by rw [ib]; omega) (by unfold maxLen; omega) (Nat.le_refl _) ?_; intro w2 hown2 hgrow2)
  have hb2 : Below w.heap.size w w2 := (Below.refl _ _).grown hgrow2 (Nat.le_refl _) (fun k hk => by cases hk)
  rw [andK_zero (fun i => gb (lts s) i) s.size] at hown2
  have HO2 := Lib.hid hown2
  clear hown2 hgrow2
  go_loopw [4, 10] (fun u i wr => ∃ k : Nat, k ≤ s.size ∧ i = .int .i64 k ∧ wr.ownsRow w.heap.size 4 1 (.slice (some ⟨w.heap.size, 0, none⟩) s.size s.size) s.size (bls (andK (fun i => gb (lts s) i) s.size k)) ∧ Below w.heap.size w wr) (fun _ i _ => s.size - (intOf i).toNat)
  case atStart => exact ⟨0, by omega, rfl, HO2.out, hb2⟩
  case round =>
    obtain ⟨k, hk, rfl, hown, hbl⟩ := hrel
    by_cases hlt : k < s.size
    · have hset := andK_set (fun i => gb (lts s) i) s.size k hlt
      simp only [gb_of (lts_get hlt)] at hset
      have hc3 := (hown.cellAt k (by omega)).trans (andK_get _ s.size k k hlt)
      have hf3 := hown.frozenAt k
      have hst := (hown.stored k (.bool (((s[k].toNat : Nat) : Int) == 49))).1
      rw [hset] at hst
      have HST := Lib.hid hst
      have hb3 : Below w.heap.size w (wr.setCell ⟨w.heap.size, k, none⟩ (.bool (((s[k].toNat : Nat) : Int) == 49))) := hbl.setCell (p := ⟨w.heap.size, k, none⟩) (Nat.le_refl _) _
      clear hst hset hown
      go_wp2
      go_roundw
      case rel => exact ⟨k+1, by omega, by go_num, HST.out, hb3⟩
      case measure => simp [intOf]; omega
    · obtain rfl : k = s.size := by omega
      rw [lts_all] at hown
      go_wp2
      go_ret
      exact ⟨_, _, by rw [lts_length]; rfl, by rw [lts_length]; exact hown, hbl⟩
end Go.Proofs.YthlapepjebidgaaGreatDoor.bw
/- Text and run of the reference. -/
namespace Go.Proofs.YthlapepjebidgaaGreatDoor.bw
set_option linter.unusedVariables false
set_option linter.unusedSimpArgs false
open Go.RowKit
theorem tw_at {α : Type} (p : α → Bool) (l : List α) (i : Nat) (h : i < (l.takeWhile p).length) : ∃ b, l[i]? = some b ∧ p b = true ∧ (l.takeWhile p)[i]? = some b := by
  induction l generalizing i with
  | nil => simp at h
  | cons a r ih =>
    rw [List.takeWhile_cons] at h ⊢
    by_cases ha : p a = true
    · rw [if_pos ha] at h ⊢
      rcases i with _ | i
      · exact ⟨a, rfl, ha, rfl⟩
      · exact ih i (by simpa using h)
    · rw [if_neg ha] at h
      simp at h
theorem tw_end {α : Type} (p : α → Bool) (l : List α) (b : α) (h : l[(l.takeWhile p).length]? = some b) : p b = false := by
  induction l with
  | nil => simp at h
  | cons a r ih =>
    rw [List.takeWhile_cons] at h
    by_cases ha : p a = true
    · rw [if_pos ha] at h
      exact ih (by simpa using h)
    · rw [if_neg ha] at h
      simp at h
      rw [← h]
      simpa using ha
theorem tw_le {α : Type} (p : α → Bool) (l : List α) : (l.takeWhile p).length ≤ l.length := (List.takeWhile_sublist p).length_le
end Go.Proofs.YthlapepjebidgaaGreatDoor.bw
/- Parse of the program. -/
namespace Go.Proofs.YthlapepjebidgaaGreatDoor.bw
set_option linter.unusedVariables false
set_option linter.unusedSimpArgs false
open Go.RowKit
def sa (x : List UInt8) : ByteArray := ⟨x.toArray⟩
theorem sa_list (x : List UInt8) : (sa x).data.toList = x := by simp [sa]
theorem sa_size (x : List UInt8) : (sa x).size = x.length := by rw [← len_toList, sa_list]
def CutK (s : ByteArray) (c : UInt8) (x y : List UInt8) (o : Bool) : Prop := ∀ W, Calls Tryz.prog 159 #[.string s, .string ⟨#[c]⟩] W (fun e w' => e = .returned (.tuple #[.string ⟨x.toArray⟩, .string ⟨y.toArray⟩, .bool o]) ∧ Below W.heap.size W w')
theorem isd_k (x : List UInt8) (b : Bool) (hx : x.length ≤ 66) (hb : x.all isD = b) : ∀ W, Calls Tryz.prog 160 #[.string ⟨x.toArray⟩] W (Bel (.bool b) W) := fun W => by
  have h := isdig_any (sa x) W (by rw [sa_size]; omega)
  rw [sa_list, hb] at h
  exact h
theorem read_n {P : Program} {f : FuncId} {a : List Value} {l : List Bool} {w : World} (h : Calls P f a.toArray w (NewOwn l w)) :
    Calls P f a.toArray w (fun e w' => ∃ V cv, e = .returned (.slice V l.length cv) ∧ Rd w' w'.heap.size V (bls l) ∧ l.length ≤ cv ∧ Nw w.heap.size V (bls l) ∧ Below w.heap.size w w') := by
  refine h.mono ?_
  rintro e w' ⟨V, cv, rfl, hown, hb⟩
  exact ⟨V, cv, rfl, Rd.of_own hown, own_cap hown, own_new hown, hb⟩
theorem read_k (x : List UInt8) (hx : x.length ≤ 66) : ∀ W, Calls Tryz.prog 161 #[.string ⟨x.toArray⟩] W (fun e w' => ∃ V cv, e = .returned (.slice V (lts (sa x)).length cv) ∧ Rd w' w'.heap.size V (bls (lts (sa x))) ∧ (lts (sa x)).length ≤ cv ∧ Nw W.heap.size V (bls (lts (sa x))) ∧ Below W.heap.size W w') := fun W =>
  read_n (a := [.string ⟨x.toArray⟩]) (read_any (sa x) W (by rw [sa_size]; omega))
theorem resb {w W : World} {t : TypeId} (h : Below (w.alloc (.cells #[.slice none 0 0, .slice none 0 0] t)).heap.size (w.alloc (.cells #[.slice none 0 0, .slice none 0 0] t)) W) :
    W.cell? ⟨w.heap.size, 0, none⟩ = some (.slice none 0 0) ∧ W.cell? ⟨w.heap.size, 1, none⟩ = some (.slice none 0 0) ∧ W.frozen? ⟨w.heap.size, 0, none⟩ = false ∧ W.frozen? ⟨w.heap.size, 1, none⟩ = false ∧ w.heap.size < W.heap.size := by
  obtain ⟨hc, hf, hz⟩ := bcell h
  rw [hc _ _ (by simp), hc _ _ (by simp), hf _ _ (by simp), hf _ _ (by simp)]
  simp at hz
  refine ⟨?_, ?_, ?_, ?_, by omega⟩ <;> simp [go_sem]
set_option maxHeartbeats 1000000 in
theorem parse_bad (s : ByteArray) (w : World) (x y u v : List UInt8) (o p : Bool) (hs : s.size ≤ 66) (hx : x.length ≤ 66) (hu : u.length ≤ 66) (K1 : Hid (CutK s 40 x y o)) (K2 : Hid (CutK (sa y) 41 u v p))
    (hbad : ¬ (o = true ∧ p = true ∧ v = [] ∧ x.all isD = true ∧ u.all isD = true ∧ ck (lts (sa x)) (lts (sa u)) = 0)) :
    Calls Tryz.prog 132 #[.string s] w (NewWX [] [] 5 w) := by
  obtain ⟨b, hb⟩ : ∃ b, x.all isD = b := ⟨_, rfl⟩
  obtain ⟨b', hb'⟩ : ∃ b, u.all isD = b := ⟨_, rfl⟩
  have D1 := Lib.hid (isd_k x b hx hb)
  have D2 := Lib.hid (isd_k u b' hu hb')
  rw [hb, hb'] at hbad
  have R1 := Lib.hid (read_k x hx)
  have R2 := Lib.hid (read_k u hu)
  have HL1 : (lts (sa x)).length ≤ 66 := by rw [lts_length, sa_size]; exact hx
  have HL2 : (lts (sa u)).length ≤ 66 := by rw [lts_length, sa_size]; exact hu
  generalize lts (sa x) = h at *
  generalize lts (sa u) = l at *
  clear hb hb'
  cases o
  · clear hbad hx hu
    go_enter Tryz.func132, Tryz.ntmps132
    go_wp2_with (first | (go_at_call_of 159 (Value.string s); refine (K1.out _).mono ?_; rintro e w1 ⟨rfl, hb1⟩) | (go_at_call 159; refine (K2.out _).mono ?_; rintro e w2 ⟨rfl, hb2⟩; obtain ⟨qa2, qb2, qc2, qd2, qe2⟩ := resb (w := w) (W := w2) (t := 149) (by repeat (first | (with_reducible exact Below.refl _ _) | (with_reducible assumption) | (with_reducible exact bel_box _) | (with_reducible refine bel_step ?_ (by with_reducible assumption)) | (with_reducible refine Below.drew ?_) | (with_reducible refine below_drewN ?_ _) | (with_reducible refine bel_alloc ?_ _)))))
    obtain ⟨k0, k1⟩ := set2_cells qa2 qb2 (.slice none 0 0) (.slice none 0 0)
    refine bodyPost_ret (v := .tuple #[.agg #[.slice none 0 0, .slice none 0 0], .int .i64 5]) (by simp [results, Tryz.results132, go_sem, k0, k1]) rfl ?_
    exact ⟨none, none, 0, 0, rfl, Rd.nil _ _ _, Rd.nil _ _ _, Nat.zero_le _, Nat.zero_le _, bel_set2 (by repeat (first | (with_reducible exact Below.refl _ _) | (with_reducible assumption) | (with_reducible exact bel_box _) | (with_reducible refine bel_step ?_ (by with_reducible assumption)) | (with_reducible refine Below.drew ?_) | (with_reducible refine below_drewN ?_ _) | (with_reducible refine bel_alloc ?_ _))) (Nat.le_refl _) _ _, Nw.nil _ _, Nw.nil _ _⟩
  · cases p
    · clear hbad hx hu
      go_enter Tryz.func132, Tryz.ntmps132
      go_wp2_with (first | (go_at_call_of 159 (Value.string s); refine (K1.out _).mono ?_; rintro e w1 ⟨rfl, hb1⟩) | (go_at_call 159; refine (K2.out _).mono ?_; rintro e w2 ⟨rfl, hb2⟩; obtain ⟨qa2, qb2, qc2, qd2, qe2⟩ := resb (w := w) (W := w2) (t := 149) (by repeat (first | (with_reducible exact Below.refl _ _) | (with_reducible assumption) | (with_reducible exact bel_box _) | (with_reducible refine bel_step ?_ (by with_reducible assumption)) | (with_reducible refine Below.drew ?_) | (with_reducible refine below_drewN ?_ _) | (with_reducible refine bel_alloc ?_ _)))))
      obtain ⟨k0, k1⟩ := set2_cells qa2 qb2 (.slice none 0 0) (.slice none 0 0)
      refine bodyPost_ret (v := .tuple #[.agg #[.slice none 0 0, .slice none 0 0], .int .i64 5]) (by simp [results, Tryz.results132, go_sem, k0, k1]) rfl ?_
      exact ⟨none, none, 0, 0, rfl, Rd.nil _ _ _, Rd.nil _ _ _, Nat.zero_le _, Nat.zero_le _, bel_set2 (by repeat (first | (with_reducible exact Below.refl _ _) | (with_reducible assumption) | (with_reducible exact bel_box _) | (with_reducible refine bel_step ?_ (by with_reducible assumption)) | (with_reducible refine Below.drew ?_) | (with_reducible refine below_drewN ?_ _) | (with_reducible refine bel_alloc ?_ _))) (Nat.le_refl _) _ _, Nw.nil _ _, Nw.nil _ _⟩
    · by_cases hv : v = []
      · subst hv
        cases b
        · clear hbad hx hu
          go_enter Tryz.func132, Tryz.ntmps132
          go_wp2_with (first | (go_at_call_of 159 (Value.string s); refine (K1.out _).mono ?_; rintro e w1 ⟨rfl, hb1⟩) | (go_at_call 159; refine (K2.out _).mono ?_; rintro e w2 ⟨rfl, hb2⟩) | (go_at_call_of 160 (Value.string ⟨x.toArray⟩); refine (D1.out _).mono ?_; rintro e w3 ⟨rfl, hb3⟩; obtain ⟨qa3, qb3, qc3, qd3, qe3⟩ := resb (w := w) (W := w3) (t := 149) (by repeat (first | (with_reducible exact Below.refl _ _) | (with_reducible assumption) | (with_reducible exact bel_box _) | (with_reducible refine bel_step ?_ (by with_reducible assumption)) | (with_reducible refine Below.drew ?_) | (with_reducible refine below_drewN ?_ _) | (with_reducible refine bel_alloc ?_ _)))))
          obtain ⟨k0, k1⟩ := set2_cells qa3 qb3 (.slice none 0 0) (.slice none 0 0)
          refine bodyPost_ret (v := .tuple #[.agg #[.slice none 0 0, .slice none 0 0], .int .i64 5]) (by simp [results, Tryz.results132, go_sem, k0, k1]) rfl ?_
          exact ⟨none, none, 0, 0, rfl, Rd.nil _ _ _, Rd.nil _ _ _, Nat.zero_le _, Nat.zero_le _, bel_set2 (by repeat (first | (with_reducible exact Below.refl _ _) | (with_reducible assumption) | (with_reducible exact bel_box _) | (with_reducible refine bel_step ?_ (by with_reducible assumption)) | (with_reducible refine Below.drew ?_) | (with_reducible refine below_drewN ?_ _) | (with_reducible refine bel_alloc ?_ _))) (Nat.le_refl _) _ _, Nw.nil _ _, Nw.nil _ _⟩
        · cases b'
          · clear hbad hx hu
            go_enter Tryz.func132, Tryz.ntmps132
            go_wp2_with (first | (go_at_call_of 159 (Value.string s); refine (K1.out _).mono ?_; rintro e w1 ⟨rfl, hb1⟩) | (go_at_call 159; refine (K2.out _).mono ?_; rintro e w2 ⟨rfl, hb2⟩) | (go_at_call_of 160 (Value.string ⟨x.toArray⟩); refine (D1.out _).mono ?_; rintro e w3 ⟨rfl, hb3⟩) | (go_at_call 160; refine (D2.out _).mono ?_; rintro e w4 ⟨rfl, hb4⟩; obtain ⟨qa4, qb4, qc4, qd4, qe4⟩ := resb (w := w) (W := w4) (t := 149) (by repeat (first | (with_reducible exact Below.refl _ _) | (with_reducible assumption) | (with_reducible exact bel_box _) | (with_reducible refine bel_step ?_ (by with_reducible assumption)) | (with_reducible refine Below.drew ?_) | (with_reducible refine below_drewN ?_ _) | (with_reducible refine bel_alloc ?_ _)))))
            obtain ⟨k0, k1⟩ := set2_cells qa4 qb4 (.slice none 0 0) (.slice none 0 0)
            refine bodyPost_ret (v := .tuple #[.agg #[.slice none 0 0, .slice none 0 0], .int .i64 5]) (by simp [results, Tryz.results132, go_sem, k0, k1]) rfl ?_
            exact ⟨none, none, 0, 0, rfl, Rd.nil _ _ _, Rd.nil _ _ _, Nat.zero_le _, Nat.zero_le _, bel_set2 (by repeat (first | (with_reducible exact Below.refl _ _) | (with_reducible assumption) | (with_reducible exact bel_box _) | (with_reducible refine bel_step ?_ (by with_reducible assumption)) | (with_reducible refine Below.drew ?_) | (with_reducible refine below_drewN ?_ _) | (with_reducible refine bel_alloc ?_ _))) (Nat.le_refl _) _ _, Nw.nil _ _, Nw.nil _ _⟩
          · have hck : ¬ ck h l = 0 := fun e => hbad ⟨rfl, rfl, rfl, rfl, rfl, e⟩
            have hd1 := ck_bad hck
            clear hbad hx hu hck
            go_enter Tryz.func132, Tryz.ntmps132
            go_wp2_with (first | (go_at_call_of 159 (Value.string s); refine (K1.out _).mono ?_; rintro e w1 ⟨rfl, hb1⟩) | (go_at_call 159; refine (K2.out _).mono ?_; rintro e w2 ⟨rfl, hb2⟩) | (go_at_call_of 160 (Value.string ⟨x.toArray⟩); refine (D1.out _).mono ?_; rintro e w3 ⟨rfl, hb3⟩) | (go_at_call 160; refine (D2.out _).mono ?_; rintro e w4 ⟨rfl, hb4⟩) | (go_at_call_of 161 (Value.string ⟨x.toArray⟩); refine (R1.out _).mono ?_; rintro e w5 ⟨V1, c1, rfl, hR1, hc1, hN1, hb5⟩; have HR1 := Lib.hid hR1; have HN1 := Lib.hid hN1; clear hR1 hN1) | (go_at_call 161; refine (R2.out _).mono ?_; rintro e w6 ⟨V2, c2, rfl, hR2, hc2, hN2, hb6⟩; have HR2 := Lib.hid hR2; have HN2 := Lib.hid hN2; clear hR2 hN2) | (go_at_call 162; refine (check_any _ _ _ _ h l _ (by omega) (by omega)).mono ?_; rintro e w7 ⟨rfl, hb7⟩; obtain ⟨qa7, qb7, qc7, qd7, qe7⟩ := resb (w := w) (W := w7) (t := 149) (by repeat (first | (with_reducible exact Below.refl _ _) | (with_reducible assumption) | (with_reducible exact bel_box _) | (with_reducible refine bel_step ?_ (by with_reducible assumption)) | (with_reducible refine Below.drew ?_) | (with_reducible refine below_drewN ?_ _) | (with_reducible refine bel_alloc ?_ _)))))
            obtain ⟨k0, k1⟩ := set2_cells qa7 qb7 (.slice none 0 0) (.slice none 0 0)
            refine bodyPost_ret (v := .tuple #[.agg #[.slice none 0 0, .slice none 0 0], .int .i64 5]) (by simp [results, Tryz.results132, go_sem, k0, k1]) rfl ?_
            exact ⟨none, none, 0, 0, rfl, Rd.nil _ _ _, Rd.nil _ _ _, Nat.zero_le _, Nat.zero_le _, bel_set2 (by repeat (first | (with_reducible exact Below.refl _ _) | (with_reducible assumption) | (with_reducible exact bel_box _) | (with_reducible refine bel_step ?_ (by with_reducible assumption)) | (with_reducible refine Below.drew ?_) | (with_reducible refine below_drewN ?_ _) | (with_reducible refine bel_alloc ?_ _))) (Nat.le_refl _) _ _, Nw.nil _ _, Nw.nil _ _⟩
      · have v1 : v.isEmpty = false := by rcases v with _ | ⟨a, r⟩ <;> simp at hv ⊢
        have v2 : (v == []) = false := by rcases v with _ | ⟨a, r⟩ <;> simp at hv ⊢
        clear hbad hx hu hv
        go_enter Tryz.func132, Tryz.ntmps132
        go_wp2_with (first | (go_at_call_of 159 (Value.string s); refine (K1.out _).mono ?_; rintro e w1 ⟨rfl, hb1⟩) | (go_at_call 159; refine (K2.out _).mono ?_; rintro e w2 ⟨rfl, hb2⟩; obtain ⟨qa2, qb2, qc2, qd2, qe2⟩ := resb (w := w) (W := w2) (t := 149) (by repeat (first | (with_reducible exact Below.refl _ _) | (with_reducible assumption) | (with_reducible exact bel_box _) | (with_reducible refine bel_step ?_ (by with_reducible assumption)) | (with_reducible refine Below.drew ?_) | (with_reducible refine below_drewN ?_ _) | (with_reducible refine bel_alloc ?_ _)))))
        obtain ⟨k0, k1⟩ := set2_cells qa2 qb2 (.slice none 0 0) (.slice none 0 0)
        refine bodyPost_ret (v := .tuple #[.agg #[.slice none 0 0, .slice none 0 0], .int .i64 5]) (by simp [results, Tryz.results132, go_sem, k0, k1]) rfl ?_
        exact ⟨none, none, 0, 0, rfl, Rd.nil _ _ _, Rd.nil _ _ _, Nat.zero_le _, Nat.zero_le _, bel_set2 (by repeat (first | (with_reducible exact Below.refl _ _) | (with_reducible assumption) | (with_reducible exact bel_box _) | (with_reducible refine bel_step ?_ (by with_reducible assumption)) | (with_reducible refine Below.drew ?_) | (with_reducible refine below_drewN ?_ _) | (with_reducible refine bel_alloc ?_ _))) (Nat.le_refl _) _ _, Nw.nil _ _, Nw.nil _ _⟩
set_option maxHeartbeats 1000000 in
theorem parse_good (s : ByteArray) (w : World) (x y u : List UInt8) (hs : s.size ≤ 66) (hx : x.length ≤ 66) (hu : u.length ≤ 66) (K1 : Hid (CutK s 40 x y true)) (K2 : Hid (CutK (sa y) 41 u [] true))
    (hb : x.all isD = true) (hb' : u.all isD = true) (hck : ck (lts (sa x)) (lts (sa u)) = 0) :
    Calls Tryz.prog 132 #[.string s] w (NewWX (lts (sa x)) (lts (sa u)) 0 w) := by
  have D1 := Lib.hid (isd_k x true hx hb)
  have D2 := Lib.hid (isd_k u true hu hb')
  have R1 := Lib.hid (read_k x hx)
  have R2 := Lib.hid (read_k u hu)
  have HL1 : (lts (sa x)).length ≤ 66 := by rw [lts_length, sa_size]; exact hx
  have HL2 : (lts (sa u)).length ≤ 66 := by rw [lts_length, sa_size]; exact hu
  generalize lts (sa x) = h at *
  generalize lts (sa u) = l at *
  have hd1 : (ck h l != 0) = false := by simp [hck]
  clear hb hb' hx hu hck
  go_enter Tryz.func132, Tryz.ntmps132
  go_wp2_with (first | (go_at_call_of 159 (Value.string s); refine (K1.out _).mono ?_; rintro e w1 ⟨rfl, hb1⟩) | (go_at_call 159; refine (K2.out _).mono ?_; rintro e w2 ⟨rfl, hb2⟩) | (go_at_call_of 160 (Value.string ⟨x.toArray⟩); refine (D1.out _).mono ?_; rintro e w3 ⟨rfl, hb3⟩) | (go_at_call 160; refine (D2.out _).mono ?_; rintro e w4 ⟨rfl, hb4⟩) | (go_at_call_of 161 (Value.string ⟨x.toArray⟩); refine (R1.out _).mono ?_; rintro e w5 ⟨V1, c1, rfl, hR1, hc1, hN1, hb5⟩; have HR1 := Lib.hid hR1; have HN1 := Lib.hid hN1; clear hR1 hN1) | (go_at_call 161; refine (R2.out _).mono ?_; rintro e w6 ⟨V2, c2, rfl, hR2, hc2, hN2, hb6⟩; have HR2 := Lib.hid hR2; have HN2 := Lib.hid hN2; clear hR2 hN2) | (go_at_call 162; refine (check_any _ _ _ _ h l _ (by omega) (by omega)).mono ?_; rintro e w7 ⟨rfl, hb7⟩; obtain ⟨qa7, qb7, qc7, qd7, qe7⟩ := resb (w := w) (W := w7) (t := 149) (by repeat (first | (with_reducible exact Below.refl _ _) | (with_reducible assumption) | (with_reducible exact bel_box _) | (with_reducible refine bel_step ?_ (by with_reducible assumption)) | (with_reducible refine Below.drew ?_) | (with_reducible refine below_drewN ?_ _) | (with_reducible refine bel_alloc ?_ _))); obtain ⟨b0, b1⟩ := box2 (w := w6) (x := .slice V1 h.length c1) (y := .slice V2 l.length c2) (t := 149) (W := w7) (by repeat (first | (with_reducible exact Below.refl _ _) | (with_reducible assumption) | (with_reducible exact bel_box _) | (with_reducible refine bel_step ?_ (by with_reducible assumption)) | (with_reducible refine Below.drew ?_) | (with_reducible refine below_drewN ?_ _) | (with_reducible refine bel_alloc ?_ _)))))
  obtain ⟨k0, k1⟩ := set2_cells qa7 qb7 (.slice V1 h.length c1) (.slice V2 l.length c2)
  refine bodyPost_ret (v := .tuple #[.agg #[.slice V1 h.length c1, .slice V2 l.length c2], .int .i64 0]) (by simp [results, Tryz.results132, go_sem, k0, k1]) rfl ?_
  have z1 := hb5.size
  have z2 : w.heap.size < w4.heap.size := by
    have := Below.size (B := (w.alloc (.cells #[.slice none 0 0, .slice none 0 0] 149)).heap.size) (w := (w.alloc (.cells #[.slice none 0 0, .slice none 0 0] 149))) (w' := w4) (by repeat (first | (with_reducible exact Below.refl _ _) | (with_reducible assumption) | (with_reducible exact bel_box _) | (with_reducible refine bel_step ?_ (by with_reducible assumption)) | (with_reducible refine Below.drew ?_) | (with_reducible refine below_drewN ?_ _) | (with_reducible refine bel_alloc ?_ _)))
    simp at this
    omega
  exact ⟨V1, V2, c1, c2, rfl, (HR1.out.to (by repeat (first | (with_reducible exact Below.refl _ _) | (with_reducible assumption) | (with_reducible exact bel_box _) | (with_reducible refine bel_step ?_ (by with_reducible assumption)) | (with_reducible refine Below.drew ?_) | (with_reducible refine below_drewN ?_ _) | (with_reducible refine bel_alloc ?_ _)))).set2_lo (HN1.out.mono (Nat.succ_le_of_lt z2)) (Nat.lt_succ_self _) _ _, (HR2.out.to (by repeat (first | (with_reducible exact Below.refl _ _) | (with_reducible assumption) | (with_reducible exact bel_box _) | (with_reducible refine bel_step ?_ (by with_reducible assumption)) | (with_reducible refine Below.drew ?_) | (with_reducible refine below_drewN ?_ _) | (with_reducible refine bel_alloc ?_ _)))).set2_lo (HN2.out.mono (Nat.succ_le_of_lt (Nat.lt_of_lt_of_le z2 z1))) (Nat.lt_succ_self _) _ _, hc1, hc2, bel_set2 (by repeat (first | (with_reducible exact Below.refl _ _) | (with_reducible assumption) | (with_reducible exact bel_box _) | (with_reducible refine bel_step ?_ (by with_reducible assumption)) | (with_reducible refine Below.drew ?_) | (with_reducible refine below_drewN ?_ _) | (with_reducible refine bel_alloc ?_ _))) (Nat.le_refl _) _ _, HN1.out.mono (Nat.le_of_lt z2), HN2.out.mono (Nat.le_of_lt (Nat.lt_of_lt_of_le z2 z1))⟩
end Go.Proofs.YthlapepjebidgaaGreatDoor.bw
/- Parse of both, for every text. -/
namespace Go.Proofs.YthlapepjebidgaaGreatDoor.bw
set_option linter.unusedVariables false
set_option linter.unusedSimpArgs false
open Go.RowKit
def wtx (h l : List Bool) : ByteArray := dgs h ++ ⟨#[40]⟩ ++ dgs l ++ ⟨#[41]⟩
theorem wtx_list (h l : List Bool) : (wtx h l).data.toList = digs h ++ 40 :: (digs l ++ [41]) := by simp [wtx, dgs]
theorem wtx_size (h l : List Bool) : (wtx h l).size = h.length + l.length + 2 := by
  rw [← len_toList, wtx_list]
  simp [digs_length]
  omega
theorem by_list {s t : ByteArray} (h : s.data.toList = t.data.toList) : s = t := ByteArray.ext (Array.toList_inj.mp h)
theorem digs_all (l : List Bool) : (digs l).all isD = true := by
  rw [List.all_eq_true]
  intro c hc
  obtain ⟨b, _, rfl⟩ := List.mem_map.1 hc
  cases b <;> rfl
theorem dig_back {c : UInt8} (h : isD c = true) : dig (((c.toNat : Nat) : Int) == 49) = c := by
  unfold isD at h
  rw [Bool.or_eq_true, beq_iff_eq, beq_iff_eq] at h
  rcases h with rfl | rfl <;> rfl
theorem lts_digs (l : List Bool) : lts (sa (digs l)) = l := by
  rw [lts, sa_list, digs, List.map_map]
  conv => rhs; rw [← List.map_id l]
  apply List.map_congr_left
  intro b _
  cases b <;> rfl
theorem digs_lts {x : List UInt8} (h : x.all isD = true) : digs (lts (sa x)) = x := by
  rw [lts, sa_list, digs, List.map_map]
  conv => rhs; rw [← List.map_id x]
  apply List.map_congr_left
  intro c hc
  exact dig_back (List.all_eq_true.1 h c hc)
theorem tw_app {p : UInt8 → Bool} (a b : List UInt8) (c : UInt8) (ha : a.all p = true) (hc : p c = false) : (a ++ c :: b).takeWhile p = a ∧ (a ++ c :: b).dropWhile p = c :: b := by
  induction a with
  | nil => simp [hc]
  | cons d r ih =>
    rw [List.all_cons, Bool.and_eq_true] at ha
    obtain ⟨i1, i2⟩ := ih ha.2
    simp [ha.1, i1, i2]
theorem all_ne {x : List UInt8} (h : x.all isD = true) {c : UInt8} (hc : isD c = false) : x.all (· != c) = true := by
  rw [List.all_eq_true] at h ⊢
  intro d hd
  have := h d hd
  rw [bne_iff_ne]
  rintro rfl
  rw [this] at hc
  cases hc
theorem cut_app (x b : List UInt8) (c : UInt8) (hx : x.all (· != c) = true) : cutA (x ++ c :: b) c = x ∧ cutZ (x ++ c :: b) c = b := by
  obtain ⟨i1, i2⟩ := tw_app (p := (· != c)) x b c hx (by simp)
  have hm : c ∈ x ++ c :: b := by simp
  rw [cutA, cutZ, if_pos hm, if_pos hm, i1, i2]
  exact ⟨rfl, rfl⟩
theorem cut_glue (x : List UInt8) (c : UInt8) (h : c ∈ x) : x = cutA x c ++ c :: cutZ x c := by
  rw [cutA, cutZ, if_pos h, if_pos h]
  conv => lhs; rw [← List.takeWhile_append_dropWhile (p := (· != c)) (l := x)]
  congr 1
  have hne : x.dropWhile (· != c) ≠ [] := by
    intro e
    have h2 : x.takeWhile (· != c) = x := by
      have := List.takeWhile_append_dropWhile (p := (· != c)) (l := x)
      rwa [e, List.append_nil] at this
    have h3 := List.all_takeWhile (l := x) (p := (· != c))
    rw [h2, List.all_eq_true] at h3
    simpa using h3 c h
  rcases hd : x.dropWhile (· != c) with _ | ⟨a, r⟩
  · exact absurd hd hne
  · have ha := List.head?_dropWhile_not (p := (· != c)) (l := x)
    rw [hd] at ha
    simp at ha
    rw [ha]
    rfl
theorem cutA_le (x : List UInt8) (c : UInt8) : (cutA x c).length ≤ x.length := by
  unfold cutA
  split
  · exact tw_le _ _
  · exact Nat.le_refl _
theorem cutZ_le (x : List UInt8) (c : UInt8) : (cutZ x c).length ≤ x.length := by
  unfold cutZ
  split
  · have := (List.dropWhile_sublist (l := x) (p := (· != c))).length_le
    rw [List.length_drop]
    omega
  · simp
theorem cutk (s : ByteArray) (c : UInt8) (hs : s.size ≤ 66) : CutK s c (cutA s.data.toList c) (cutZ s.data.toList c) (decide (c ∈ s.data.toList)) := fun W => cuts_any s c W (by omega)
theorem pparse_ok (h l : List Bool) (w : World) (hck : ck h l = 0) : Calls Tryz.prog 132 #[.string (wtx h l)] w (NewWX h l 0 w) := by
  have hk := lens hck
  have hs : (wtx h l).size ≤ 66 := by rw [wtx_size]; omega
  have c1 := cutk (wtx h l) 40 hs
  have hs2 : (sa (digs l ++ [41])).size ≤ 66 := by rw [sa_size]; simp [digs_length]; omega
  have c2 := cutk (sa (digs l ++ [41])) 41 hs2
  obtain ⟨i1, i2⟩ := cut_app (digs h) (digs l ++ [41]) 40 (all_ne (digs_all h) rfl)
  obtain ⟨j1, j2⟩ := cut_app (digs l) [] 41 (all_ne (digs_all l) rfl)
  rw [wtx_list, i1, i2, decide_eq_true (by simp)] at c1
  rw [sa_list, j1, j2, decide_eq_true (by simp)] at c2
  have := parse_good (wtx h l) w (digs h) (digs l ++ [41]) (digs l) hs (by rw [digs_length]; omega) (by rw [digs_length]; omega) (Lib.hid c1) (Lib.hid c2) (digs_all h) (digs_all l) (by rw [lts_digs, lts_digs]; exact hck)
  rwa [lts_digs, lts_digs] at this
theorem pparse_no (s : ByteArray) (w : World) (hs : s.size ≤ 66) (hno : ¬ ∃ h l, s = wtx h l ∧ ck h l = 0) : Calls Tryz.prog 132 #[.string s] w (NewWX [] [] 5 w) := by
  have l1 := cutA_le s.data.toList 40
  have l2 := cutZ_le s.data.toList 40
  have l3 := cutA_le (cutZ s.data.toList 40) 41
  rw [len_toList] at l1 l2
  have c2 := cutk (sa (cutZ s.data.toList 40)) 41 (by rw [sa_size]; omega)
  rw [sa_list] at c2
  refine parse_bad s w _ _ _ _ _ _ hs (by omega) (by omega) (Lib.hid (cutk s 40 hs)) (Lib.hid c2) ?_
  rintro ⟨g1, g2, g3, g4, g5, g6⟩
  refine hno ⟨_, _, ?_, g6⟩
  apply by_list
  rw [wtx_list, digs_lts g4, digs_lts g5]
  have e1 := cut_glue s.data.toList 40 (by simpa using g1)
  have e2 := cut_glue (cutZ s.data.toList 40) 41 (by simpa using g2)
  rw [g3] at e2
  rw [← e2]
  exact e1
end Go.Proofs.YthlapepjebidgaaGreatDoor.bw
/- Long texts; the walks of BwordTexts and BwordParses. -/
namespace Go.Proofs.YthlapepjebidgaaGreatDoor.bw
set_option linter.unusedVariables false
set_option linter.unusedSimpArgs false
open Go.RowKit
theorem resc {w : World} {t : TypeId} : (w.alloc (.cells #[.slice none 0 0, .slice none 0 0] t)).cell? ⟨w.heap.size, 0, none⟩ = some (.slice none 0 0) ∧ (w.alloc (.cells #[.slice none 0 0, .slice none 0 0] t)).cell? ⟨w.heap.size, 1, none⟩ = some (.slice none 0 0) := by
  constructor <;> simp [go_sem]
theorem plong (s : ByteArray) (w : World) (hs : 66 < s.size) (h9 : s.size ≤ 9223372036854775807) : Calls Tryz.prog 132 #[.string s] w (NewWX [] [] 3 w) := by
  go_enter Tryz.func132, Tryz.ntmps132
  go_wp2
  obtain ⟨q0, q1⟩ := resc (w := w) (t := 149)
  obtain ⟨k0, k1⟩ := set2_cells q0 q1 (.slice none 0 0) (.slice none 0 0)
  refine bodyPost_ret (v := .tuple #[.agg #[.slice none 0 0, .slice none 0 0], .int .i64 3]) (by simp [results, Tryz.results132, go_sem, k0, k1]) rfl ?_
  exact ⟨none, none, 0, 0, rfl, Rd.nil _ _ _, Rd.nil _ _ _, Nat.zero_le _, Nat.zero_le _, bel_box _, Nw.nil _ _, Nw.nil _ _⟩
end Go.Proofs.YthlapepjebidgaaGreatDoor.bw
/- The words of both; names of both. -/
namespace Go.Proofs.YthlapepjebidgaaGreatDoor
set_option linter.unusedVariables false
set_option linter.unusedSimpArgs false
open Go.RowKit Go.Sort
open Classical in
/-- whether a text is that of a word -/
noncomputable def wokP (s : ByteArray) : Bool := decide (s.size ≤ 66 ∧ ∃ h l, s = bw.wtx h l ∧ bw.ck h l = 0)
open Classical in
theorem wokP_yes {s : ByteArray} (h : s.size ≤ 66 ∧ ∃ h l, s = bw.wtx h l ∧ bw.ck h l = 0) : wokP s = true := by
  unfold wokP; exact decide_eq_true_iff.2 h
open Classical in
theorem wokP_no {s : ByteArray} (h : ¬ (s.size ≤ 66 ∧ ∃ h l, s = bw.wtx h l ∧ bw.ck h l = 0)) : wokP s = false := by
  unfold wokP; exact decide_eq_false_iff_not.2 h
theorem wx_form {x y : List Bool} {er : Int} {w w' : World} {e : Ending} {b : Bool} (h : bw.NewWX x y er w e w') (hb : (er == 0) = b) : ∃ (A1 A2 : Option Addr) (n1 c1 n2 c2 : Nat) (er : Int), e = .returned (.tuple #[.agg #[.slice A1 n1 c1, .slice A2 n2 c2], .int .i64 er]) ∧ (er == 0) = b ∧ Below w.heap.size w w' := by
  obtain ⟨A, B, c, d, h1, _, _, _, _, h2, _, _⟩ := h
  exact ⟨A, B, _, c, _, d, er, h1, hb, h2⟩
theorem parse_ok (s : ByteArray) (w : World) (hs : s.size ≤ 140737488351232) : Calls Tryz.prog 132 #[.string s] w (fun e w' => ∃ (A1 A2 : Option Addr) (n1 c1 n2 c2 : Nat) (er : Int), e = .returned (.tuple #[.agg #[.slice A1 n1 c1, .slice A2 n2 c2], .int .i64 er]) ∧ (er == 0) = wokP s ∧ Below w.heap.size w w') := by
  by_cases h66 : s.size ≤ 66
  · by_cases hw : ∃ h l, s = bw.wtx h l ∧ bw.ck h l = 0
    · have h1 := wokP_yes ⟨h66, hw⟩
      obtain ⟨h, l, rfl, hc⟩ := hw
      exact (bw.pparse_ok h l w hc).mono fun e w' hn => wx_form hn h1.symm
    · exact (bw.pparse_no s w h66 hw).mono fun e w' hn => wx_form hn (wokP_no fun h => hw h.2).symm
  · exact (bw.plong s w (by omega) (by omega)).mono fun e w' hn => wx_form hn (wokP_no fun h => h66 h.1).symm
theorem nm_prog {x : Xt} {w : World} (hs : Std w) (hN : NmB x) : ∀ y ∈ x.list, NmOk wokP w y := fun y hy =>
  ⟨fun _ => Lib.hid fun W _ => parse_ok y.nm W (hN y hy), fun _ => Lib.hid fun W hb => ident_any y.nm W (hs.to hb) (hN y hy)⟩
end Go.Proofs.YthlapepjebidgaaGreatDoor
/- What the chapter says of the form of a program, further. -/
namespace Go.Proofs.YthlapepjebidgaaGreatDoor
set_option linter.unusedVariables false
set_option linter.unusedSimpArgs false
open Go.RowKit
noncomputable def expE (es : List va.En) (x : Xt) : Int := orE (chkAll wokP x) (insE es x)
noncomputable def eqnE (es : List va.En) (q : Qt) : Int :=
  if q.lf.l.length = 0 then 8 else if 64 < q.lf.l.length then 3 else orE (errs (q.lf.l.map idE)) (orE (expE es q.r) (if 1 < q.lf.l.length ∧ q.r.k ≠ 10 then 5 else 0))
/-- a transition among n states; b: it is strong -/
noncomputable def trnE (es : List va.En) (n : Int) (b : Bool) (t : Tt) : Int := if t.to < 0 ∨ n ≤ t.to then 14 else orE (expE es t.cd) (if b = true ∧ (t.cd.list.any fun y => stK y.k) = true then 5 else 0)
/-- an automaton that may be nested r - 1 times more -/
noncomputable def staE (es : List va.En) (au : Rw St → Int) (n : Int) (s : St) : Int :=
  if idP s.nm = true then (if 256 < s.lc.l.length ∨ 256 < s.qs.l.length ∨ 8 < s.au.l.length ∨ 4 < s.un.l.length ∨ 4 < s.ut.l.length then 3 else
    orE (errs (s.lc.l.map (locE es))) (orE (errs (s.qs.l.map (eqnE es))) (orE (errs (s.au.l.map au)) (orE (errs (s.un.l.map (trnE es n true))) (errs (s.ut.l.map (trnE es n false))))))) else 6
noncomputable def autE (es : List va.En) : Nat → Rw St → Int
  | 0, _ => 3
  | r+1, a => if a.l.length = 0 then 8 else if 8 < a.l.length then 3 else errs (a.l.map (staE es (autE es r) a.l.length))
noncomputable def hedE (es : List va.En) (n : Nt) : Int :=
  if idP n.nm = true then (if 64 < n.ins.l.length ∨ 64 < n.outs.l.length ∨ 256 < n.locs.l.length ∨ 256 < n.qs.l.length ∨ 8 < n.au.l.length ∨ 8 < n.asm.l.length ∨ 8 < n.ens.l.length then 3 else if n.outs.l.length = 0 then 8 else
    orE (errs (n.ins.l.map (portE es))) (orE (errs (n.outs.l.map (portE es))) (errs (n.locs.l.map (locE es))))) else 6
noncomputable def talE (es : List va.En) (n : Nt) : Int := orE (errs (n.au.l.map (autE es 3))) (orE (errs (n.asm.l.map (expE es))) (errs (n.ens.l.map (expE es))))
/-- the first equation with an error, and the error -/
noncomputable def eqsE (es : List va.En) : List Qt → Option (Nat × Int)
  | [] => none
  | q :: l => if eqnE es q = 0 then (eqsE es l).map (fun p => (p.1+1, p.2)) else some (0, eqnE es q)
/-- a node: the index of the equation, or -1, and the error -/
noncomputable def nodE (es : List va.En) (n : Nt) : Int × Int :=
  if hedE es n = 0 then (match eqsE es n.qs.l with | some p => ((p.1 : Int), p.2) | none => (-1, talE es n)) else (-1, hedE es n)
end Go.Proofs.YthlapepjebidgaaGreatDoor
/- typed, within, expr, transition, unless, equation of the program. -/
namespace Go.Proofs.YthlapepjebidgaaGreatDoor
set_option linter.unusedVariables false
set_option linter.unusedSimpArgs false
open Go.RowKit
theorem RdX.rdr {w : World} {B : Nat} {x : Xt} (h : RdX w B x) : RdR w B 6 XC ⟨x.A, x.c, x.ar⟩ := by
  cases h with
  | mk x h0 h1 h2 h3 => exact ⟨h0, h1, h3.1.1, h3.2⟩
theorem mem_list_self (x : Xt) : x ∈ x.list := by rw [Xt.list_eq]; exact List.mem_cons_self
theorem RsX.kid {w : World} {B : Nat} {x y : Xt} (h : RsX w B x) (hy : y ∈ x.ar) : RsX w B y :=
  ⟨h.1.kid hy, fun z hz => h.2 z (by rw [Xt.list_eq]; exact List.mem_cons.2 (.inr (List.mem_flatten.2 ⟨_, List.mem_map_of_mem hy, hz⟩)))⟩
theorem RsX.nmb {w : World} {B : Nat} {x : Xt} (h : RsX w B x) : NmB x := fun y hy => (h.2 y hy).1
set_option maxHeartbeats 2000000 in
set_option maxRecDepth 20000 in
theorem sh_typed (E : Rw va.En) (x : Xt) (w : World) (hE : RsE w w.heap.size E) (hX : RsX w w.heap.size x) :
    Calls Tryz.prog 122 #[ckV E, xV x] w (Bel (.int .i64 (typE E.l x)) w) := by
  have ht := (hX.2 x (mem_list_self x)).2
  have KS := Lib.hid (fun W (h : Below w.heap.size w W) => va.size_any E.A E.c E.l x.t W (hE.blw h h.size).1 hE.len ht)
  have KH := Lib.hid (fun W (h : Below w.heap.size w W) => va.has_any E.A E.c E.l x.t x.v W (hE.blw h h.size).1 hE.len ht)
  have h9 := hX.1.len.1
  unfold maxLen at h9
  unfold typE
  generalize va.hasB E.l x.t x.v = hb at *
  generalize va.sizeT E.l x.t = sz at *
  clear ht hE hX
  simp only [xV]
  by_cases k0 : x.k = 1 ∨ x.k = 8 ∨ x.k = 9
  · rw [if_pos k0]
    have kk : ((x.k == 1) = true ∧ (x.k == 9) = false ∧ (x.k != 9) = true ∧ x.k ≠ 9) ∨ ((x.k == 1) = false ∧ (x.k == 8) = true ∧ (x.k == 9) = false ∧ (x.k != 9) = true ∧ x.k ≠ 9) ∨ ((x.k == 1) = false ∧ (x.k == 8) = false ∧ (x.k == 9) = true ∧ (x.k != 9) = false ∧ x.k = 9) := by
      rcases k0 with k | k | k <;> rw [k] <;> simp
    clear k0
    by_cases z0 : sz = 0
    · subst z0
      rw [if_pos rfl]
      rcases kk with ⟨k1, k3, k5, k4⟩ | ⟨k1, k2, k3, k5, k4⟩ | ⟨k1, k2, k3, k5, k4⟩
      all_goals
        clear k4
        go_enter Tryz.func122, Tryz.ntmps122
        go_wp2_with (go_at_call 153; (with_reducible refine (KS.out _ ?_).mono ?_); (focus ((repeat (first | (with_reducible exact Below.refl _ _) | (with_reducible assumption) | (with_reducible exact bel_box _) | (with_reducible refine bel_step ?_ (by with_reducible assumption)) | (with_reducible refine Below.drew ?_) | (with_reducible refine below_drewN ?_ _) | (with_reducible refine bel_alloc ?_ _))); done)); rintro e w1 ⟨rfl, hb1⟩; obtain ⟨g0, g1, g2, g3, g4, g5, g6, g7⟩ := B2X (w := w) (W := w1) E x (by repeat (first | (with_reducible exact Below.refl _ _) | (with_reducible assumption) | (with_reducible exact bel_box _) | (with_reducible refine bel_step ?_ (by with_reducible assumption)) | (with_reducible refine Below.drew ?_) | (with_reducible refine below_drewN ?_ _) | (with_reducible refine bel_alloc ?_ _))))
        go_ret
        exact ⟨rfl, (by repeat (first | (with_reducible exact Below.refl _ _) | (with_reducible assumption) | (with_reducible exact bel_box _) | (with_reducible refine bel_step ?_ (by with_reducible assumption)) | (with_reducible refine Below.drew ?_) | (with_reducible refine below_drewN ?_ _) | (with_reducible refine bel_alloc ?_ _)))⟩
    · rw [if_neg z0]
      have q0 : (sz == 0) = false := by simp [z0]
      rcases kk with ⟨k1, k3, k5, k4⟩ | ⟨k1, k2, k3, k5, k4⟩ | ⟨k1, k2, k3, k5, k4⟩
      · rw [if_neg (by intro h; exact k4 h.1)]
        cases hb
        · rw [if_pos ⟨k4, rfl⟩]
          clear k4 z0
          go_enter Tryz.func122, Tryz.ntmps122
          go_wp2_with (first | (go_at_call 153; (with_reducible refine (KS.out _ ?_).mono ?_); (focus ((repeat (first | (with_reducible exact Below.refl _ _) | (with_reducible assumption) | (with_reducible exact bel_box _) | (with_reducible refine bel_step ?_ (by with_reducible assumption)) | (with_reducible refine Below.drew ?_) | (with_reducible refine below_drewN ?_ _) | (with_reducible refine bel_alloc ?_ _))); done)); rintro e w1 ⟨rfl, hb1⟩; obtain ⟨g0, g1, g2, g3, g4, g5, g6, g7⟩ := B2X (w := w) (W := w1) E x (by repeat (first | (with_reducible exact Below.refl _ _) | (with_reducible assumption) | (with_reducible exact bel_box _) | (with_reducible refine bel_step ?_ (by with_reducible assumption)) | (with_reducible refine Below.drew ?_) | (with_reducible refine below_drewN ?_ _) | (with_reducible refine bel_alloc ?_ _)))) | (go_at_call 154; (with_reducible refine (KH.out _ ?_).mono ?_); (focus ((repeat (first | (with_reducible exact Below.refl _ _) | (with_reducible assumption) | (with_reducible exact bel_box _) | (with_reducible refine bel_step ?_ (by with_reducible assumption)) | (with_reducible refine Below.drew ?_) | (with_reducible refine below_drewN ?_ _) | (with_reducible refine bel_alloc ?_ _))); done)); rintro e w2 ⟨rfl, hb2⟩))
          go_ret
          exact ⟨rfl, (by repeat (first | (with_reducible exact Below.refl _ _) | (with_reducible assumption) | (with_reducible exact bel_box _) | (with_reducible refine bel_step ?_ (by with_reducible assumption)) | (with_reducible refine Below.drew ?_) | (with_reducible refine below_drewN ?_ _) | (with_reducible refine bel_alloc ?_ _)))⟩
        · rw [if_neg (by simp)]
          clear k4 z0
          go_enter Tryz.func122, Tryz.ntmps122
          go_wp2_with (first | (go_at_call 153; (with_reducible refine (KS.out _ ?_).mono ?_); (focus ((repeat (first | (with_reducible exact Below.refl _ _) | (with_reducible assumption) | (with_reducible exact bel_box _) | (with_reducible refine bel_step ?_ (by with_reducible assumption)) | (with_reducible refine Below.drew ?_) | (with_reducible refine below_drewN ?_ _) | (with_reducible refine bel_alloc ?_ _))); done)); rintro e w1 ⟨rfl, hb1⟩; obtain ⟨g0, g1, g2, g3, g4, g5, g6, g7⟩ := B2X (w := w) (W := w1) E x (by repeat (first | (with_reducible exact Below.refl _ _) | (with_reducible assumption) | (with_reducible exact bel_box _) | (with_reducible refine bel_step ?_ (by with_reducible assumption)) | (with_reducible refine Below.drew ?_) | (with_reducible refine below_drewN ?_ _) | (with_reducible refine bel_alloc ?_ _)))) | (go_at_call 154; (with_reducible refine (KH.out _ ?_).mono ?_); (focus ((repeat (first | (with_reducible exact Below.refl _ _) | (with_reducible assumption) | (with_reducible exact bel_box _) | (with_reducible refine bel_step ?_ (by with_reducible assumption)) | (with_reducible refine Below.drew ?_) | (with_reducible refine below_drewN ?_ _) | (with_reducible refine bel_alloc ?_ _))); done)); rintro e w2 ⟨rfl, hb2⟩))
          go_ret
          exact ⟨rfl, (by repeat (first | (with_reducible exact Below.refl _ _) | (with_reducible assumption) | (with_reducible exact bel_box _) | (with_reducible refine bel_step ?_ (by with_reducible assumption)) | (with_reducible refine Below.drew ?_) | (with_reducible refine below_drewN ?_ _) | (with_reducible refine bel_alloc ?_ _)))⟩
      · rw [if_neg (by intro h; exact k4 h.1)]
        cases hb
        · rw [if_pos ⟨k4, rfl⟩]
          clear k4 z0
          go_enter Tryz.func122, Tryz.ntmps122
          go_wp2_with (first | (go_at_call 153; (with_reducible refine (KS.out _ ?_).mono ?_); (focus ((repeat (first | (with_reducible exact Below.refl _ _) | (with_reducible assumption) | (with_reducible exact bel_box _) | (with_reducible refine bel_step ?_ (by with_reducible assumption)) | (with_reducible refine Below.drew ?_) | (with_reducible refine below_drewN ?_ _) | (with_reducible refine bel_alloc ?_ _))); done)); rintro e w1 ⟨rfl, hb1⟩; obtain ⟨g0, g1, g2, g3, g4, g5, g6, g7⟩ := B2X (w := w) (W := w1) E x (by repeat (first | (with_reducible exact Below.refl _ _) | (with_reducible assumption) | (with_reducible exact bel_box _) | (with_reducible refine bel_step ?_ (by with_reducible assumption)) | (with_reducible refine Below.drew ?_) | (with_reducible refine below_drewN ?_ _) | (with_reducible refine bel_alloc ?_ _)))) | (go_at_call 154; (with_reducible refine (KH.out _ ?_).mono ?_); (focus ((repeat (first | (with_reducible exact Below.refl _ _) | (with_reducible assumption) | (with_reducible exact bel_box _) | (with_reducible refine bel_step ?_ (by with_reducible assumption)) | (with_reducible refine Below.drew ?_) | (with_reducible refine below_drewN ?_ _) | (with_reducible refine bel_alloc ?_ _))); done)); rintro e w2 ⟨rfl, hb2⟩))
          go_ret
          exact ⟨rfl, (by repeat (first | (with_reducible exact Below.refl _ _) | (with_reducible assumption) | (with_reducible exact bel_box _) | (with_reducible refine bel_step ?_ (by with_reducible assumption)) | (with_reducible refine Below.drew ?_) | (with_reducible refine below_drewN ?_ _) | (with_reducible refine bel_alloc ?_ _)))⟩
        · rw [if_neg (by simp)]
          clear k4 z0
          go_enter Tryz.func122, Tryz.ntmps122
          go_wp2_with (first | (go_at_call 153; (with_reducible refine (KS.out _ ?_).mono ?_); (focus ((repeat (first | (with_reducible exact Below.refl _ _) | (with_reducible assumption) | (with_reducible exact bel_box _) | (with_reducible refine bel_step ?_ (by with_reducible assumption)) | (with_reducible refine Below.drew ?_) | (with_reducible refine below_drewN ?_ _) | (with_reducible refine bel_alloc ?_ _))); done)); rintro e w1 ⟨rfl, hb1⟩; obtain ⟨g0, g1, g2, g3, g4, g5, g6, g7⟩ := B2X (w := w) (W := w1) E x (by repeat (first | (with_reducible exact Below.refl _ _) | (with_reducible assumption) | (with_reducible exact bel_box _) | (with_reducible refine bel_step ?_ (by with_reducible assumption)) | (with_reducible refine Below.drew ?_) | (with_reducible refine below_drewN ?_ _) | (with_reducible refine bel_alloc ?_ _)))) | (go_at_call 154; (with_reducible refine (KH.out _ ?_).mono ?_); (focus ((repeat (first | (with_reducible exact Below.refl _ _) | (with_reducible assumption) | (with_reducible exact bel_box _) | (with_reducible refine bel_step ?_ (by with_reducible assumption)) | (with_reducible refine Below.drew ?_) | (with_reducible refine below_drewN ?_ _) | (with_reducible refine bel_alloc ?_ _))); done)); rintro e w2 ⟨rfl, hb2⟩))
          go_ret
          exact ⟨rfl, (by repeat (first | (with_reducible exact Below.refl _ _) | (with_reducible assumption) | (with_reducible exact bel_box _) | (with_reducible refine bel_step ?_ (by with_reducible assumption)) | (with_reducible refine Below.drew ?_) | (with_reducible refine below_drewN ?_ _) | (with_reducible refine bel_alloc ?_ _)))⟩
      · by_cases z1 : (x.ar.length : Int) = sz
        · rw [if_neg (by intro h; exact h.2 z1), if_neg (by intro h; exact h.1 k4)]
          have q1 : ((x.ar.length : Int) == sz) = true := by simp [z1]
          clear k4 z0 z1
          go_enter Tryz.func122, Tryz.ntmps122
          go_wp2_with (first | (go_at_call 153; (with_reducible refine (KS.out _ ?_).mono ?_); (focus ((repeat (first | (with_reducible exact Below.refl _ _) | (with_reducible assumption) | (with_reducible exact bel_box _) | (with_reducible refine bel_step ?_ (by with_reducible assumption)) | (with_reducible refine Below.drew ?_) | (with_reducible refine below_drewN ?_ _) | (with_reducible refine bel_alloc ?_ _))); done)); rintro e w1 ⟨rfl, hb1⟩; obtain ⟨g0, g1, g2, g3, g4, g5, g6, g7⟩ := B2X (w := w) (W := w1) E x (by repeat (first | (with_reducible exact Below.refl _ _) | (with_reducible assumption) | (with_reducible exact bel_box _) | (with_reducible refine bel_step ?_ (by with_reducible assumption)) | (with_reducible refine Below.drew ?_) | (with_reducible refine below_drewN ?_ _) | (with_reducible refine bel_alloc ?_ _)))) | (go_at_call 154; (with_reducible refine (KH.out _ ?_).mono ?_); (focus ((repeat (first | (with_reducible exact Below.refl _ _) | (with_reducible assumption) | (with_reducible exact bel_box _) | (with_reducible refine bel_step ?_ (by with_reducible assumption)) | (with_reducible refine Below.drew ?_) | (with_reducible refine below_drewN ?_ _) | (with_reducible refine bel_alloc ?_ _))); done)); rintro e w2 ⟨rfl, hb2⟩))
          go_ret
          exact ⟨rfl, (by repeat (first | (with_reducible exact Below.refl _ _) | (with_reducible assumption) | (with_reducible exact bel_box _) | (with_reducible refine bel_step ?_ (by with_reducible assumption)) | (with_reducible refine Below.drew ?_) | (with_reducible refine below_drewN ?_ _) | (with_reducible refine bel_alloc ?_ _)))⟩
        · rw [if_pos ⟨k4, z1⟩]
          have q1 : ((x.ar.length : Int) == sz) = false := by simp [z1]
          clear k4 z0 z1
          go_enter Tryz.func122, Tryz.ntmps122
          go_wp2_with (first | (go_at_call 153; (with_reducible refine (KS.out _ ?_).mono ?_); (focus ((repeat (first | (with_reducible exact Below.refl _ _) | (with_reducible assumption) | (with_reducible exact bel_box _) | (with_reducible refine bel_step ?_ (by with_reducible assumption)) | (with_reducible refine Below.drew ?_) | (with_reducible refine below_drewN ?_ _) | (with_reducible refine bel_alloc ?_ _))); done)); rintro e w1 ⟨rfl, hb1⟩; obtain ⟨g0, g1, g2, g3, g4, g5, g6, g7⟩ := B2X (w := w) (W := w1) E x (by repeat (first | (with_reducible exact Below.refl _ _) | (with_reducible assumption) | (with_reducible exact bel_box _) | (with_reducible refine bel_step ?_ (by with_reducible assumption)) | (with_reducible refine Below.drew ?_) | (with_reducible refine below_drewN ?_ _) | (with_reducible refine bel_alloc ?_ _)))) | (go_at_call 154; (with_reducible refine (KH.out _ ?_).mono ?_); (focus ((repeat (first | (with_reducible exact Below.refl _ _) | (with_reducible assumption) | (with_reducible exact bel_box _) | (with_reducible refine bel_step ?_ (by with_reducible assumption)) | (with_reducible refine Below.drew ?_) | (with_reducible refine below_drewN ?_ _) | (with_reducible refine bel_alloc ?_ _))); done)); rintro e w2 ⟨rfl, hb2⟩))
          go_ret
          exact ⟨rfl, (by repeat (first | (with_reducible exact Below.refl _ _) | (with_reducible assumption) | (with_reducible exact bel_box _) | (with_reducible refine bel_step ?_ (by with_reducible assumption)) | (with_reducible refine Below.drew ?_) | (with_reducible refine below_drewN ?_ _) | (with_reducible refine bel_alloc ?_ _)))⟩
  · rw [if_neg k0]
    have k1 : (x.k == 1) = false := by rw [beq_eq_false_iff_ne]; omega
    have k2 : (x.k == 8) = false := by rw [beq_eq_false_iff_ne]; omega
    have k3 : (x.k == 9) = false := by rw [beq_eq_false_iff_ne]; omega
    clear k0
    go_enter Tryz.func122, Tryz.ntmps122
    go_wp2
    go_ret
    exact ⟨rfl, (by repeat (first | (with_reducible exact Below.refl _ _) | (with_reducible assumption) | (with_reducible exact bel_box _) | (with_reducible refine bel_step ?_ (by with_reducible assumption)) | (with_reducible refine Below.drew ?_) | (with_reducible refine below_drewN ?_ _) | (with_reducible refine bel_alloc ?_ _)))⟩
set_option maxHeartbeats 2000000 in
set_option maxRecDepth 20000 in
theorem sh_within (E : Rw va.En) (x : Xt) : ∀ w, RsE w w.heap.size E → RsX w w.heap.size x →
    Calls Tryz.prog 86 #[ckV E, xV x] w (Bel (.int .i64 (insE E.l x)) w) := by
  induction x using Xt.ind with
  | h x ih =>
    intro w hE hX
    have KT := Lib.hid (fun W (h : Below w.heap.size w W) => sh_typed E x W (hE.blw h h.size) (hX.blw h h.size))
    have KF : Hid (∀ W, Below w.heap.size w W → Calls Tryz.prog 82 #[.slice x.A x.ar.length x.c, .func (.func 86) #[ckV E] #[]] W (Bel (.int .i64 (errs (x.ar.map (insE E.l)))) W)) := Lib.hid fun W h =>
      first_Expr_within (ckV E) ⟨x.A, x.c, x.ar⟩ (insE E.l) W ((hX.1.rdr).blw oneB_X h h.size) (Lib.hid fun y hy W' h' => ih y hy W' (hE.blw (h.trans (h'.mono h.size)) (Nat.le_trans h.size h'.size)) ((hX.kid hy).blw (h.trans (h'.mono h.size)) (Nat.le_trans h.size h'.size)))
    have h9 := hX.1.len.1
    unfold maxLen at h9
    rw [insE_eq]
    generalize errs (x.ar.map (insE E.l)) = u at *
    generalize typE E.l x = v at *
    clear hE hX ih
    simp only [xV] at KT KF ⊢
    by_cases hv : v = 0
    · subst hv
      rw [orE0]
      go_enter Tryz.func86, Tryz.ntmps86
      go_wp2_with (first | (go_at_call 122; (with_reducible refine (KT.out _ ?_).mono ?_); (focus ((repeat (first | (with_reducible exact Below.refl _ _) | (with_reducible assumption) | (with_reducible exact bel_box _) | (with_reducible refine bel_step ?_ (by with_reducible assumption)) | (with_reducible refine Below.drew ?_) | (with_reducible refine below_drewN ?_ _) | (with_reducible refine bel_alloc ?_ _))); done)); rintro e w1 ⟨rfl, hb1⟩; obtain ⟨g0, g1, g2, g3, g4, g5, g6, g7⟩ := B2X (w := w) (W := w1) E x (by repeat (first | (with_reducible exact Below.refl _ _) | (with_reducible assumption) | (with_reducible exact bel_box _) | (with_reducible refine bel_step ?_ (by with_reducible assumption)) | (with_reducible refine Below.drew ?_) | (with_reducible refine below_drewN ?_ _) | (with_reducible refine bel_alloc ?_ _)))) | (go_at_call 82; (with_reducible refine (KF.out _ ?_).mono ?_); (focus ((repeat (first | (with_reducible exact Below.refl _ _) | (with_reducible assumption) | (with_reducible exact bel_box _) | (with_reducible refine bel_step ?_ (by with_reducible assumption)) | (with_reducible refine Below.drew ?_) | (with_reducible refine below_drewN ?_ _) | (with_reducible refine bel_alloc ?_ _))); done)); rintro e w2 ⟨rfl, hb2⟩))
      go_ret
      exact ⟨rfl, (by repeat (first | (with_reducible exact Below.refl _ _) | (with_reducible assumption) | (with_reducible exact bel_box _) | (with_reducible refine bel_step ?_ (by with_reducible assumption)) | (with_reducible refine Below.drew ?_) | (with_reducible refine below_drewN ?_ _) | (with_reducible refine bel_alloc ?_ _)))⟩
    · have q : (v == 0) = false := by simp [hv]
      rw [orEn hv]
      clear hv
      go_enter Tryz.func86, Tryz.ntmps86
      go_wp2_with (first | (go_at_call 122; (with_reducible refine (KT.out _ ?_).mono ?_); (focus ((repeat (first | (with_reducible exact Below.refl _ _) | (with_reducible assumption) | (with_reducible exact bel_box _) | (with_reducible refine bel_step ?_ (by with_reducible assumption)) | (with_reducible refine Below.drew ?_) | (with_reducible refine below_drewN ?_ _) | (with_reducible refine bel_alloc ?_ _))); done)); rintro e w1 ⟨rfl, hb1⟩; obtain ⟨g0, g1, g2, g3, g4, g5, g6, g7⟩ := B2X (w := w) (W := w1) E x (by repeat (first | (with_reducible exact Below.refl _ _) | (with_reducible assumption) | (with_reducible exact bel_box _) | (with_reducible refine bel_step ?_ (by with_reducible assumption)) | (with_reducible refine Below.drew ?_) | (with_reducible refine below_drewN ?_ _) | (with_reducible refine bel_alloc ?_ _)))) | (go_at_call 82; (with_reducible refine (KF.out _ ?_).mono ?_); (focus ((repeat (first | (with_reducible exact Below.refl _ _) | (with_reducible assumption) | (with_reducible exact bel_box _) | (with_reducible refine bel_step ?_ (by with_reducible assumption)) | (with_reducible refine Below.drew ?_) | (with_reducible refine below_drewN ?_ _) | (with_reducible refine bel_alloc ?_ _))); done)); rintro e w2 ⟨rfl, hb2⟩))
      go_ret
      exact ⟨rfl, (by repeat (first | (with_reducible exact Below.refl _ _) | (with_reducible assumption) | (with_reducible exact bel_box _) | (with_reducible refine bel_step ?_ (by with_reducible assumption)) | (with_reducible refine Below.drew ?_) | (with_reducible refine below_drewN ?_ _) | (with_reducible refine bel_alloc ?_ _)))⟩
set_option maxHeartbeats 1000000 in
set_option maxRecDepth 20000 in
theorem sh_expr (E : Rw va.En) (x : Xt) (w : World) (hs : Std w) (hE : RsE w w.heap.size E) (hX : RsX w w.heap.size x) :
    Calls Tryz.prog 55 #[ckV E, xV x] w (Bel (.int .i64 (expE E.l x)) w) := by
  have KT := Lib.hid (fun W (h : Below w.heap.size w W) => sh_within E x W (hE.blw h h.size) (hX.blw h h.size))
  have KC := Lib.hid (fun W (h : Below w.heap.size w W) => check_any wokP x W (hX.blw h h.size).1 (nm_prog (hs.to h) hX.nmb))
  have h9 := hX.1.len.1
  unfold maxLen at h9
  unfold expE
  generalize insE E.l x = u at *
  generalize chkAll wokP x = v at *
  clear hs hE hX
  simp only [xV] at KT KC ⊢
  by_cases hv : v = 0
  · subst hv
    rw [orE0]
    go_enter Tryz.func55, Tryz.ntmps55
    go_wp2_with (first | (go_at_call 34; (with_reducible refine (KC.out _ ?_).mono ?_); (focus ((repeat (first | (with_reducible exact Below.refl _ _) | (with_reducible assumption) | (with_reducible exact bel_box _) | (with_reducible refine bel_step ?_ (by with_reducible assumption)) | (with_reducible refine Below.drew ?_) | (with_reducible refine below_drewN ?_ _) | (with_reducible refine bel_alloc ?_ _))); done)); rintro e w1 ⟨rfl, hb1⟩; obtain ⟨g0, g1, g2, g3, g4, g5, g6, g7⟩ := B2X (w := w) (W := w1) E x (by repeat (first | (with_reducible exact Below.refl _ _) | (with_reducible assumption) | (with_reducible exact bel_box _) | (with_reducible refine bel_step ?_ (by with_reducible assumption)) | (with_reducible refine Below.drew ?_) | (with_reducible refine below_drewN ?_ _) | (with_reducible refine bel_alloc ?_ _)))) | (go_at_call 86; (with_reducible refine (KT.out _ ?_).mono ?_); (focus ((repeat (first | (with_reducible exact Below.refl _ _) | (with_reducible assumption) | (with_reducible exact bel_box _) | (with_reducible refine bel_step ?_ (by with_reducible assumption)) | (with_reducible refine Below.drew ?_) | (with_reducible refine below_drewN ?_ _) | (with_reducible refine bel_alloc ?_ _))); done)); rintro e w2 ⟨rfl, hb2⟩))
    go_ret
    exact ⟨rfl, (by repeat (first | (with_reducible exact Below.refl _ _) | (with_reducible assumption) | (with_reducible exact bel_box _) | (with_reducible refine bel_step ?_ (by with_reducible assumption)) | (with_reducible refine Below.drew ?_) | (with_reducible refine below_drewN ?_ _) | (with_reducible refine bel_alloc ?_ _)))⟩
  · have q : (v == 0) = false := by simp [hv]
    rw [orEn hv]
    clear hv
    go_enter Tryz.func55, Tryz.ntmps55
    go_wp2_with (go_at_call 34; (with_reducible refine (KC.out _ ?_).mono ?_); (focus ((repeat (first | (with_reducible exact Below.refl _ _) | (with_reducible assumption) | (with_reducible exact bel_box _) | (with_reducible refine bel_step ?_ (by with_reducible assumption)) | (with_reducible refine Below.drew ?_) | (with_reducible refine below_drewN ?_ _) | (with_reducible refine bel_alloc ?_ _))); done)); rintro e w1 ⟨rfl, hb1⟩; obtain ⟨g0, g1, g2, g3, g4, g5, g6, g7⟩ := B2X (w := w) (W := w1) E x (by repeat (first | (with_reducible exact Below.refl _ _) | (with_reducible assumption) | (with_reducible exact bel_box _) | (with_reducible refine bel_step ?_ (by with_reducible assumption)) | (with_reducible refine Below.drew ?_) | (with_reducible refine below_drewN ?_ _) | (with_reducible refine bel_alloc ?_ _))))
    go_ret
    exact ⟨rfl, (by repeat (first | (with_reducible exact Below.refl _ _) | (with_reducible assumption) | (with_reducible exact bel_box _) | (with_reducible refine bel_step ?_ (by with_reducible assumption)) | (with_reducible refine Below.drew ?_) | (with_reducible refine below_drewN ?_ _) | (with_reducible refine bel_alloc ?_ _)))⟩
set_option maxHeartbeats 1000000 in
set_option maxRecDepth 20000 in
theorem sh_equation (E : Rw va.En) (q : Qt) (w : World) (hs : Std w) (hE : RsE w w.heap.size E) (hq : RsQ w w.heap.size q) :
    Calls Tryz.prog 79 #[ckV E, qV q] w (Bel (.int .i64 (eqnE E.l q)) w) := by
  have KF : Hid (∀ W, Below w.heap.size w W → Calls Tryz.prog 76 #[.slice q.lf.A q.lf.l.length q.lf.c, .func (.func 77) #[] #[]] W (Bel (.int .i64 (errs (q.lf.l.map idE))) W)) := Lib.hid fun W h =>
    first_string_checkIdent q.lf idE W ((hq.1.blw h h.size).1) (Lib.hid fun y hy W' h' => sh_ident y W' (hs.to (h.trans (h'.mono h.size))) (hq.1.2 y hy))
  have KE := Lib.hid (fun W (h : Below w.heap.size w W) => sh_expr E q.r W (hs.to h) (hE.blw h h.size) (hq.2.blw h h.size))
  have h9 := hq.1.1.len
  unfold maxLen at h9
  unfold eqnE
  generalize errs (q.lf.l.map idE) = u at *
  generalize expE E.l q.r = v at *
  simp only [xV] at KE
  clear hs hE hq
  by_cases z0 : q.lf.l.length = 0
  · have q0 : ((q.lf.l.length : Int) == 0) = true := by simp [z0]
    rw [if_pos z0]
    clear z0
    go_enter Tryz.func79, Tryz.ntmps79
    go_wp2
    go_ret
    exact ⟨rfl, (by repeat (first | (with_reducible exact Below.refl _ _) | (with_reducible assumption) | (with_reducible exact bel_box _) | (with_reducible refine bel_step ?_ (by with_reducible assumption)) | (with_reducible refine Below.drew ?_) | (with_reducible refine below_drewN ?_ _) | (with_reducible refine bel_alloc ?_ _)))⟩
  have q0 : ((q.lf.l.length : Int) == 0) = false := by simp [z0]
  rw [if_neg z0]
  by_cases z1 : 64 < q.lf.l.length
  · have q1 : (64 : Int) < (q.lf.l.length : Int) := by omega
    rw [if_pos z1]
    clear z0 z1
    go_enter Tryz.func79, Tryz.ntmps79
    go_wp2
    go_ret
    exact ⟨rfl, (by repeat (first | (with_reducible exact Below.refl _ _) | (with_reducible assumption) | (with_reducible exact bel_box _) | (with_reducible refine bel_step ?_ (by with_reducible assumption)) | (with_reducible refine Below.drew ?_) | (with_reducible refine below_drewN ?_ _) | (with_reducible refine bel_alloc ?_ _)))⟩
  have q1 : (q.lf.l.length : Int) ≤ (64 : Int) := by omega
  rw [if_neg z1]
  by_cases hu : u = 0
  · subst hu
    rw [orE0]
    by_cases hv : v = 0
    · subst hv
      rw [orE0]
      by_cases z2 : 1 < q.lf.l.length
      · have q2 : (1 : Int) < (q.lf.l.length : Int) := by omega
        by_cases z3 : q.r.k = 10
        · have q3 : (q.r.k == 10) = true := by simp [z3]
          have q4 : (q.r.k != 10) = false := by simp [z3]
          rw [if_neg (by omega)]
          clear z0 z1 z2 z3
          go_enter Tryz.func79, Tryz.ntmps79
          go_wp2_with (first | (go_at_call 76; (with_reducible refine (KF.out _ ?_).mono ?_); (focus ((repeat (first | (with_reducible exact Below.refl _ _) | (with_reducible assumption) | (with_reducible exact bel_box _) | (with_reducible refine bel_step ?_ (by with_reducible assumption)) | (with_reducible refine Below.drew ?_) | (with_reducible refine below_drewN ?_ _) | (with_reducible refine bel_alloc ?_ _))); done)); rintro e w1 ⟨rfl, hb1⟩; obtain ⟨g0, g1, g2, g3, g4, g5, g6, g7, g8⟩ := B2Q (w := w) (W := w1) E q (by repeat (first | (with_reducible exact Below.refl _ _) | (with_reducible assumption) | (with_reducible exact bel_box _) | (with_reducible refine bel_step ?_ (by with_reducible assumption)) | (with_reducible refine Below.drew ?_) | (with_reducible refine below_drewN ?_ _) | (with_reducible refine bel_alloc ?_ _)))) | (go_at_call 55; (with_reducible refine (KE.out _ ?_).mono ?_); (focus ((repeat (first | (with_reducible exact Below.refl _ _) | (with_reducible assumption) | (with_reducible exact bel_box _) | (with_reducible refine bel_step ?_ (by with_reducible assumption)) | (with_reducible refine Below.drew ?_) | (with_reducible refine below_drewN ?_ _) | (with_reducible refine bel_alloc ?_ _))); done)); rintro e w2 ⟨rfl, hb2⟩; obtain ⟨g0, g1, g2, g3, g4, g5, g6, g7, g8⟩ := B2Q (w := w) (W := w2) E q (by repeat (first | (with_reducible exact Below.refl _ _) | (with_reducible assumption) | (with_reducible exact bel_box _) | (with_reducible refine bel_step ?_ (by with_reducible assumption)) | (with_reducible refine Below.drew ?_) | (with_reducible refine below_drewN ?_ _) | (with_reducible refine bel_alloc ?_ _)))))
          go_ret
          exact ⟨rfl, (by repeat (first | (with_reducible exact Below.refl _ _) | (with_reducible assumption) | (with_reducible exact bel_box _) | (with_reducible refine bel_step ?_ (by with_reducible assumption)) | (with_reducible refine Below.drew ?_) | (with_reducible refine below_drewN ?_ _) | (with_reducible refine bel_alloc ?_ _)))⟩
        · have q3 : (q.r.k == 10) = false := by simp [z3]
          have q4 : (q.r.k != 10) = true := by simp [z3]
          rw [if_pos ⟨z2, z3⟩]
          clear z0 z1 z2 z3
          go_enter Tryz.func79, Tryz.ntmps79
          go_wp2_with (first | (go_at_call 76; (with_reducible refine (KF.out _ ?_).mono ?_); (focus ((repeat (first | (with_reducible exact Below.refl _ _) | (with_reducible assumption) | (with_reducible exact bel_box _) | (with_reducible refine bel_step ?_ (by with_reducible assumption)) | (with_reducible refine Below.drew ?_) | (with_reducible refine below_drewN ?_ _) | (with_reducible refine bel_alloc ?_ _))); done)); rintro e w1 ⟨rfl, hb1⟩; obtain ⟨g0, g1, g2, g3, g4, g5, g6, g7, g8⟩ := B2Q (w := w) (W := w1) E q (by repeat (first | (with_reducible exact Below.refl _ _) | (with_reducible assumption) | (with_reducible exact bel_box _) | (with_reducible refine bel_step ?_ (by with_reducible assumption)) | (with_reducible refine Below.drew ?_) | (with_reducible refine below_drewN ?_ _) | (with_reducible refine bel_alloc ?_ _)))) | (go_at_call 55; (with_reducible refine (KE.out _ ?_).mono ?_); (focus ((repeat (first | (with_reducible exact Below.refl _ _) | (with_reducible assumption) | (with_reducible exact bel_box _) | (with_reducible refine bel_step ?_ (by with_reducible assumption)) | (with_reducible refine Below.drew ?_) | (with_reducible refine below_drewN ?_ _) | (with_reducible refine bel_alloc ?_ _))); done)); rintro e w2 ⟨rfl, hb2⟩; obtain ⟨g0, g1, g2, g3, g4, g5, g6, g7, g8⟩ := B2Q (w := w) (W := w2) E q (by repeat (first | (with_reducible exact Below.refl _ _) | (with_reducible assumption) | (with_reducible exact bel_box _) | (with_reducible refine bel_step ?_ (by with_reducible assumption)) | (with_reducible refine Below.drew ?_) | (with_reducible refine below_drewN ?_ _) | (with_reducible refine bel_alloc ?_ _)))))
          go_ret
          exact ⟨rfl, (by repeat (first | (with_reducible exact Below.refl _ _) | (with_reducible assumption) | (with_reducible exact bel_box _) | (with_reducible refine bel_step ?_ (by with_reducible assumption)) | (with_reducible refine Below.drew ?_) | (with_reducible refine below_drewN ?_ _) | (with_reducible refine bel_alloc ?_ _)))⟩
      · have q2 : (q.lf.l.length : Int) ≤ (1 : Int) := by omega
        rw [if_neg (by omega)]
        clear z0 z1 z2
        go_enter Tryz.func79, Tryz.ntmps79
        go_wp2_with (first | (go_at_call 76; (with_reducible refine (KF.out _ ?_).mono ?_); (focus ((repeat (first | (with_reducible exact Below.refl _ _) | (with_reducible assumption) | (with_reducible exact bel_box _) | (with_reducible refine bel_step ?_ (by with_reducible assumption)) | (with_reducible refine Below.drew ?_) | (with_reducible refine below_drewN ?_ _) | (with_reducible refine bel_alloc ?_ _))); done)); rintro e w1 ⟨rfl, hb1⟩; obtain ⟨g0, g1, g2, g3, g4, g5, g6, g7, g8⟩ := B2Q (w := w) (W := w1) E q (by repeat (first | (with_reducible exact Below.refl _ _) | (with_reducible assumption) | (with_reducible exact bel_box _) | (with_reducible refine bel_step ?_ (by with_reducible assumption)) | (with_reducible refine Below.drew ?_) | (with_reducible refine below_drewN ?_ _) | (with_reducible refine bel_alloc ?_ _)))) | (go_at_call 55; (with_reducible refine (KE.out _ ?_).mono ?_); (focus ((repeat (first | (with_reducible exact Below.refl _ _) | (with_reducible assumption) | (with_reducible exact bel_box _) | (with_reducible refine bel_step ?_ (by with_reducible assumption)) | (with_reducible refine Below.drew ?_) | (with_reducible refine below_drewN ?_ _) | (with_reducible refine bel_alloc ?_ _))); done)); rintro e w2 ⟨rfl, hb2⟩; obtain ⟨g0, g1, g2, g3, g4, g5, g6, g7, g8⟩ := B2Q (w := w) (W := w2) E q (by repeat (first | (with_reducible exact Below.refl _ _) | (with_reducible assumption) | (with_reducible exact bel_box _) | (with_reducible refine bel_step ?_ (by with_reducible assumption)) | (with_reducible refine Below.drew ?_) | (with_reducible refine below_drewN ?_ _) | (with_reducible refine bel_alloc ?_ _)))))
        go_ret
        exact ⟨rfl, (by repeat (first | (with_reducible exact Below.refl _ _) | (with_reducible assumption) | (with_reducible exact bel_box _) | (with_reducible refine bel_step ?_ (by with_reducible assumption)) | (with_reducible refine Below.drew ?_) | (with_reducible refine below_drewN ?_ _) | (with_reducible refine bel_alloc ?_ _)))⟩
    · have q2 : (v == 0) = false := by simp [hv]
      rw [orEn hv]
      clear z0 z1 hv
      go_enter Tryz.func79, Tryz.ntmps79
      go_wp2_with (first | (go_at_call 76; (with_reducible refine (KF.out _ ?_).mono ?_); (focus ((repeat (first | (with_reducible exact Below.refl _ _) | (with_reducible assumption) | (with_reducible exact bel_box _) | (with_reducible refine bel_step ?_ (by with_reducible assumption)) | (with_reducible refine Below.drew ?_) | (with_reducible refine below_drewN ?_ _) | (with_reducible refine bel_alloc ?_ _))); done)); rintro e w1 ⟨rfl, hb1⟩; obtain ⟨g0, g1, g2, g3, g4, g5, g6, g7, g8⟩ := B2Q (w := w) (W := w1) E q (by repeat (first | (with_reducible exact Below.refl _ _) | (with_reducible assumption) | (with_reducible exact bel_box _) | (with_reducible refine bel_step ?_ (by with_reducible assumption)) | (with_reducible refine Below.drew ?_) | (with_reducible refine below_drewN ?_ _) | (with_reducible refine bel_alloc ?_ _)))) | (go_at_call 55; (with_reducible refine (KE.out _ ?_).mono ?_); (focus ((repeat (first | (with_reducible exact Below.refl _ _) | (with_reducible assumption) | (with_reducible exact bel_box _) | (with_reducible refine bel_step ?_ (by with_reducible assumption)) | (with_reducible refine Below.drew ?_) | (with_reducible refine below_drewN ?_ _) | (with_reducible refine bel_alloc ?_ _))); done)); rintro e w2 ⟨rfl, hb2⟩; obtain ⟨g0, g1, g2, g3, g4, g5, g6, g7, g8⟩ := B2Q (w := w) (W := w2) E q (by repeat (first | (with_reducible exact Below.refl _ _) | (with_reducible assumption) | (with_reducible exact bel_box _) | (with_reducible refine bel_step ?_ (by with_reducible assumption)) | (with_reducible refine Below.drew ?_) | (with_reducible refine below_drewN ?_ _) | (with_reducible refine bel_alloc ?_ _)))))
      go_ret
      exact ⟨rfl, (by repeat (first | (with_reducible exact Below.refl _ _) | (with_reducible assumption) | (with_reducible exact bel_box _) | (with_reducible refine bel_step ?_ (by with_reducible assumption)) | (with_reducible refine Below.drew ?_) | (with_reducible refine below_drewN ?_ _) | (with_reducible refine bel_alloc ?_ _)))⟩
  · have q2 : (u == 0) = false := by simp [hu]
    rw [orEn hu]
    clear z0 z1 hu
    go_enter Tryz.func79, Tryz.ntmps79
    go_wp2_with (first | (go_at_call 76; (with_reducible refine (KF.out _ ?_).mono ?_); (focus ((repeat (first | (with_reducible exact Below.refl _ _) | (with_reducible assumption) | (with_reducible exact bel_box _) | (with_reducible refine bel_step ?_ (by with_reducible assumption)) | (with_reducible refine Below.drew ?_) | (with_reducible refine below_drewN ?_ _) | (with_reducible refine bel_alloc ?_ _))); done)); rintro e w1 ⟨rfl, hb1⟩; obtain ⟨g0, g1, g2, g3, g4, g5, g6, g7, g8⟩ := B2Q (w := w) (W := w1) E q (by repeat (first | (with_reducible exact Below.refl _ _) | (with_reducible assumption) | (with_reducible exact bel_box _) | (with_reducible refine bel_step ?_ (by with_reducible assumption)) | (with_reducible refine Below.drew ?_) | (with_reducible refine below_drewN ?_ _) | (with_reducible refine bel_alloc ?_ _)))) | (go_at_call 55; (with_reducible refine (KE.out _ ?_).mono ?_); (focus ((repeat (first | (with_reducible exact Below.refl _ _) | (with_reducible assumption) | (with_reducible exact bel_box _) | (with_reducible refine bel_step ?_ (by with_reducible assumption)) | (with_reducible refine Below.drew ?_) | (with_reducible refine below_drewN ?_ _) | (with_reducible refine bel_alloc ?_ _))); done)); rintro e w2 ⟨rfl, hb2⟩; obtain ⟨g0, g1, g2, g3, g4, g5, g6, g7, g8⟩ := B2Q (w := w) (W := w2) E q (by repeat (first | (with_reducible exact Below.refl _ _) | (with_reducible assumption) | (with_reducible exact bel_box _) | (with_reducible refine bel_step ?_ (by with_reducible assumption)) | (with_reducible refine Below.drew ?_) | (with_reducible refine below_drewN ?_ _) | (with_reducible refine bel_alloc ?_ _)))))
    go_ret
    exact ⟨rfl, (by repeat (first | (with_reducible exact Below.refl _ _) | (with_reducible assumption) | (with_reducible exact bel_box _) | (with_reducible refine bel_step ?_ (by with_reducible assumption)) | (with_reducible refine Below.drew ?_) | (with_reducible refine below_drewN ?_ _) | (with_reducible refine bel_alloc ?_ _)))⟩
end Go.Proofs.YthlapepjebidgaaGreatDoor
