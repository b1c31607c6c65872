/- The rules of operators: rulesOf, arity; truth, compare, applyToOne, applyToTwo of the program. -/
import Derived.Test.YtjlkgejkgpnnkaaDoorVm
namespace Go.Proofs.YtjlkgejkgpnnkaaDoor
set_option linter.unusedVariables false
set_option linter.unusedSimpArgs false
open Go.RowKit
/-- how many operands; of which type (0: of any one); the type of the result -/
def nOp (op : Int) : Int := if op = 1 ∨ op = 2 then 1 else if 3 ≤ op ∧ op ≤ 16 then 2 else 0
def kOp (op : Int) : Int := if op = 1 ∨ op = 3 ∨ op = 4 ∨ op = 5 then 1 else if op = 11 ∨ op = 12 then 0 else if 2 ≤ op ∧ op ≤ 16 then 2 else 0
def tOp (op : Int) : Int := if op = 2 ∨ (6 ≤ op ∧ op ≤ 10) then 2 else if 1 ≤ op ∧ op ≤ 16 then 1 else 0
def rul (op : Int) : Value := .agg #[.int .i64 (nOp op), .int .i64 (kOp op), .int .i64 (tOp op)]
theorem op_cases (op : Int) : op = 1 ∨ op = 2 ∨ op = 3 ∨ op = 4 ∨ op = 5 ∨ op = 6 ∨ op = 7 ∨ op = 8 ∨ op = 9 ∨ op = 10 ∨ op = 11 ∨ op = 12 ∨ op = 13 ∨ op = 14 ∨ op = 15 ∨ op = 16 ∨ (op < 1 ∨ 16 < op) := by omega
set_option maxHeartbeats 4000000 in
theorem rules_any (op : Int) (w : World) : Calls Tryd.prog 50 #[.int .i64 op] w (Bel (rul op) w) := by
  have hcase := op_cases op
  rcases hcase with rfl | rfl | rfl | rfl | rfl | rfl | rfl | rfl | rfl | rfl | rfl | rfl | rfl | rfl | rfl | rfl | hx
  case inr.inr.inr.inr.inr.inr.inr.inr.inr.inr.inr.inr.inr.inr.inr.inr =>
    have e1 : (op == 1) = false := by rw [beq_eq_false_iff_ne]; omega
    have e2 : (op == 2) = false := by rw [beq_eq_false_iff_ne]; omega
    have e3 : (op == 3) = false := by rw [beq_eq_false_iff_ne]; omega
    have e4 : (op == 4) = false := by rw [beq_eq_false_iff_ne]; omega
    have e5 : (op == 5) = false := by rw [beq_eq_false_iff_ne]; omega
    have e6 : (op == 6) = false := by rw [beq_eq_false_iff_ne]; omega
    have e7 : (op == 7) = false := by rw [beq_eq_false_iff_ne]; omega
    have e8 : (op == 8) = false := by rw [beq_eq_false_iff_ne]; omega
    have e9 : (op == 9) = false := by rw [beq_eq_false_iff_ne]; omega
    have e10 : (op == 10) = false := by rw [beq_eq_false_iff_ne]; omega
    have e11 : (op == 11) = false := by rw [beq_eq_false_iff_ne]; omega
    have e12 : (op == 12) = false := by rw [beq_eq_false_iff_ne]; omega
    have e13 : (op == 13) = false := by rw [beq_eq_false_iff_ne]; omega
    have e14 : (op == 14) = false := by rw [beq_eq_false_iff_ne]; omega
    have e15 : (op == 15) = false := by rw [beq_eq_false_iff_ne]; omega
    have e16 : (op == 16) = false := by rw [beq_eq_false_iff_ne]; omega
    have hr : rul op = .agg #[.int .i64 0, .int .i64 0, .int .i64 0] := by
      rw [rul, nOp, kOp, tOp, if_neg (by omega), if_neg (by omega), if_neg (by omega), if_neg (by omega), if_neg (by omega), if_neg (by omega), if_neg (by omega)]
    rw [hr]
    go_enter Tryd.func50, Tryd.ntmps50
    go_wp2
    refine bodyPost_ret (v := .agg #[.int .i64 0, .int .i64 0, .int .i64 0]) (by simp [results, Tryd.results50, go_sem]) rfl ⟨rfl, ?_⟩
    repeat (first | exact Below.refl _ _ | refine Below.setCell ?_ (by simp) _ | refine Below.alloc ?_ (by simp) _)
  all_goals
    go_enter Tryd.func50, Tryd.ntmps50
    go_wp2
    refine bodyPost_ret (v := rul _) (by simp [results, Tryd.results50, go_sem, rul, nOp, kOp, tOp]) rfl ⟨rfl, ?_⟩
    repeat (first | exact Below.refl _ _ | refine Below.setCell ?_ (by simp) _ | refine Below.alloc ?_ (by simp) _)
theorem arity_any (op n : Int) (w : World) : Calls Tryd.prog 51 #[rul op, .int .i64 n] w (Bel (.int .i64 (if nOp op = 0 then 2 else if nOp op = n then 0 else 9)) w) := by
  unfold rul
  generalize nOp op = p
  generalize kOp op = q
  generalize tOp op = r
  by_cases h0 : p = 0
  · subst h0
    go_enter Tryd.func51, Tryd.ntmps51
    go_wp2
    go_ret
    exact ⟨rfl, bel_box _⟩
  · by_cases h1 : p = n
    · have e0 : (p == 0) = false := by simp [h0]
      have e1 : (p == n) = true := by simp [h1]
      rw [if_neg h0, if_pos h1]
      clear h0 h1
      go_enter Tryd.func51, Tryd.ntmps51
      go_wp2
      go_ret
      exact ⟨rfl, bel_box _⟩
    · have e0 : (p == 0) = false := by simp [h0]
      have e1 : (p == n) = false := by simp [h1]
      rw [if_neg h0, if_neg h1]
      clear h0 h1
      go_enter Tryd.func51, Tryd.ntmps51
      go_wp2
      go_ret
      exact ⟨rfl, bel_box _⟩
def b01 (b : Bool) : Int := if b then 1 else 0
theorem truth_any (b : Bool) (w : World) : Calls Tryd.prog 62 #[.bool b] w fun e w' => e = .returned (.int .i64 (b01 b)) ∧ w = w' := by
  cases b
  all_goals
    go_enter Tryd.func62, Tryd.ntmps62
    go_wp2
    go_ret
    exact ⟨rfl, rfl⟩
theorem one_any (b : Bool) (w : World) : Calls Tryd.prog 65 #[.bool b] w fun e w' => e = .returned (.int .i64 (b01 b)) ∧ w = w' := by
  cases b
  all_goals
    go_enter Tryd.func65, Tryd.ntmps65
    go_wp2
    go_ret
    exact ⟨rfl, rfl⟩
def cmpB (op a b : Int) : Bool := if op = 11 then a == b else if op = 12 then a != b else if op = 13 then decide (a < b) else if op = 14 then decide (a ≤ b) else if op = 15 then decide (b < a) else decide (b ≤ a)
theorem compare_any (op a b : Int) (w : World) (h : op = 11 ∨ op = 12 ∨ op = 13 ∨ op = 14 ∨ op = 15 ∨ op = 16) : Calls Tryd.prog 63 #[.int .i64 op, .int .i64 a, .int .i64 b] w fun e w' => e = .returned (.bool (cmpB op a b)) ∧ w = w' := by
  rcases h with rfl | rfl | rfl | rfl | rfl | rfl
  all_goals
    go_enter Tryd.func63, Tryd.ntmps63
    go_wp2
    go_ret
    exact ⟨by simp [cmpB], rfl⟩
end Go.Proofs.YtjlkgejkgpnnkaaDoor
