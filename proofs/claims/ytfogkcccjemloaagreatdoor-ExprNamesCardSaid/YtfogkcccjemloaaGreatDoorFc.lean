/- The checks of one expression, of the program. -/
import Derived.Test.YtfogkcccjemloaaGreatDoorEb
import Derived.Test.YtfogkcccjemloaaGreatDoorLr
namespace Go.Proofs.YtfogkcccjemloaaGreatDoor
set_option linter.unusedVariables false
set_option linter.unusedSimpArgs false
open Go.RowKit
def hasVar (n : Int) : Bool := n == 2 || n == 8 || n == 9
def hasIdn (n : Int) : Bool := hasVar n || n == 10
def hasVal (t v : Int) : Bool := decide (t = 1 ∧ (v = 0 ∨ v = 1) ∨ t = 2 ∧ -32768 ≤ v ∧ v ≤ 32767 ∨ 3 ≤ t ∧ 0 ≤ v ∧ v < 16)
def opnds (op : Int) : Int := if op = 1 ∨ op = 2 then 1 else 2
def hasBr (t n : Int) : Bool := decide (t = 1 ∧ n = 2 ∨ 3 ≤ t ∧ 1 ≤ n ∧ n ≤ 16)
theorem hasvar_any (n : Int) (w : World) : Calls Tryz.prog 51 #[.int .i64 n] w (Bel (.bool (hasVar n)) w) := by
  go_enter Tryz.func51, Tryz.ntmps51
  go_wp2
  all_goals go_ret
  all_goals exact ⟨ret_bool (by simp_all [hasVar]), (by repeat (first | (with_reducible exact Below.refl _ _) | (with_reducible assumption) | (with_reducible exact bel_box _) | (with_reducible refine bel_step ?_ (by with_reducible assumption)) | (with_reducible refine Below.drew ?_) | (with_reducible refine below_drewN ?_ _) | (with_reducible refine bel_alloc ?_ _)))⟩
theorem hasident_any (n : Int) (w : World) : Calls Tryz.prog 66 #[.int .i64 n] w (Bel (.bool (hasIdn n)) w) := by
  have k1 := Lib.hid (hasvar_any n)
  have e : hasIdn n = (hasVar n || n == 10) := rfl
  rw [e]
  clear e
  generalize hasVar n = b at *
  cases b
  all_goals
    go_enter Tryz.func66, Tryz.ntmps66
    go_wp2_with (go_at_call 51; refine (k1.out _).mono ?_; rintro e w1 ⟨rfl, hb1⟩)
  all_goals go_ret
  all_goals exact ⟨ret_bool (by simp), (by repeat (first | (with_reducible exact Below.refl _ _) | (with_reducible assumption) | (with_reducible exact bel_box _) | (with_reducible refine bel_step ?_ (by with_reducible assumption)) | (with_reducible refine Below.drew ?_) | (with_reducible refine below_drewN ?_ _) | (with_reducible refine bel_alloc ?_ _)))⟩
theorem operands_any (n : Int) (w : World) : Calls Tryz.prog 87 #[.int .i64 n] w (Bel (.int .i64 (opnds n)) w) := by
  by_cases h1 : n = 1
  · subst h1
    go_enter Tryz.func87, Tryz.ntmps87
    go_wp2
    go_ret
    exact ⟨rfl, (by repeat (first | (with_reducible exact Below.refl _ _) | (with_reducible assumption) | (with_reducible exact bel_box _) | (with_reducible refine bel_step ?_ (by with_reducible assumption)) | (with_reducible refine Below.drew ?_) | (with_reducible refine below_drewN ?_ _) | (with_reducible refine bel_alloc ?_ _)))⟩
  by_cases h2 : n = 2
  · subst h2
    go_enter Tryz.func87, Tryz.ntmps87
    go_wp2
    go_ret
    exact ⟨rfl, (by repeat (first | (with_reducible exact Below.refl _ _) | (with_reducible assumption) | (with_reducible exact bel_box _) | (with_reducible refine bel_step ?_ (by with_reducible assumption)) | (with_reducible refine Below.drew ?_) | (with_reducible refine below_drewN ?_ _) | (with_reducible refine bel_alloc ?_ _)))⟩
  have e : opnds n = 2 := by rw [opnds, if_neg (by omega)]
  rw [e]
  have q1 : (n == 1) = false := by simpa using h1
  have q2 : (n == 2) = false := by simpa using h2
  go_enter Tryz.func87, Tryz.ntmps87
  go_wp2
  go_ret
  exact ⟨rfl, (by repeat (first | (with_reducible exact Below.refl _ _) | (with_reducible assumption) | (with_reducible exact bel_box _) | (with_reducible refine bel_step ?_ (by with_reducible assumption)) | (with_reducible refine Below.drew ?_) | (with_reducible refine below_drewN ?_ _) | (with_reducible refine bel_alloc ?_ _)))⟩
theorem hasvalue_any (t v : Int) (w : World) : Calls Tryz.prog 86 #[.int .i64 t, .int .i64 v] w (Bel (.bool (hasVal t v)) w) := by
  by_cases h1 : t = 1
  · subst h1
    go_enter Tryz.func86, Tryz.ntmps86
    go_wp2
    all_goals go_ret
    all_goals refine ⟨ret_bool ?_, (by repeat (first | (with_reducible exact Below.refl _ _) | (with_reducible assumption) | (with_reducible exact bel_box _) | (with_reducible refine bel_step ?_ (by with_reducible assumption)) | (with_reducible refine Below.drew ?_) | (with_reducible refine below_drewN ?_ _) | (with_reducible refine bel_alloc ?_ _)))⟩
    all_goals (rw [Bool.eq_iff_iff]; simp_all [hasVal])
  by_cases h2 : t = 2
  · subst h2
    go_enter Tryz.func86, Tryz.ntmps86
    go_wp2
    all_goals go_ret
    all_goals refine ⟨ret_bool ?_, (by repeat (first | (with_reducible exact Below.refl _ _) | (with_reducible assumption) | (with_reducible exact bel_box _) | (with_reducible refine bel_step ?_ (by with_reducible assumption)) | (with_reducible refine Below.drew ?_) | (with_reducible refine below_drewN ?_ _) | (with_reducible refine bel_alloc ?_ _)))⟩
    all_goals (rw [Bool.eq_iff_iff]; simp [hasVal]; omega)
  have q1 : (t == 1) = false := by simpa using h1
  have q2 : (t == 2) = false := by simpa using h2
  go_enter Tryz.func86, Tryz.ntmps86
  go_wp2
  all_goals go_ret
  all_goals refine ⟨ret_bool ?_, (by repeat (first | (with_reducible exact Below.refl _ _) | (with_reducible assumption) | (with_reducible exact bel_box _) | (with_reducible refine bel_step ?_ (by with_reducible assumption)) | (with_reducible refine Below.drew ?_) | (with_reducible refine below_drewN ?_ _) | (with_reducible refine bel_alloc ?_ _)))⟩
  all_goals (rw [Bool.eq_iff_iff]; simp [hasVal]; omega)
theorem hasbranches_any (t n : Int) (w : World) : Calls Tryz.prog 88 #[.int .i64 t, .int .i64 n] w (Bel (.bool (hasBr t n)) w) := by
  by_cases h1 : t = 1
  · subst h1
    go_enter Tryz.func88, Tryz.ntmps88
    go_wp2
    all_goals go_ret
    all_goals refine ⟨ret_bool ?_, (by repeat (first | (with_reducible exact Below.refl _ _) | (with_reducible assumption) | (with_reducible exact bel_box _) | (with_reducible refine bel_step ?_ (by with_reducible assumption)) | (with_reducible refine Below.drew ?_) | (with_reducible refine below_drewN ?_ _) | (with_reducible refine bel_alloc ?_ _)))⟩
    all_goals (rw [Bool.eq_iff_iff]; simp_all [hasBr])
  have q1 : (t == 1) = false := by simpa using h1
  go_enter Tryz.func88, Tryz.ntmps88
  go_wp2
  all_goals go_ret
  all_goals refine ⟨ret_bool ?_, (by repeat (first | (with_reducible exact Below.refl _ _) | (with_reducible assumption) | (with_reducible exact bel_box _) | (with_reducible refine bel_step ?_ (by with_reducible assumption)) | (with_reducible refine Below.drew ?_) | (with_reducible refine below_drewN ?_ _) | (with_reducible refine bel_alloc ?_ _)))⟩
  all_goals (rw [Bool.eq_iff_iff]; simp [hasBr]; omega)
end Go.Proofs.YtfogkcccjemloaaGreatDoor
