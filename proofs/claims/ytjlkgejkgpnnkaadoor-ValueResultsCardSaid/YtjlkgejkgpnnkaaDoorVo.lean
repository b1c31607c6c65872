/- The operators on numbers: applyToOne, applyToTwo, compute; Apply and Result of both sides. -/
import Derived.Test.YtjlkgejkgpnnkaaDoorVt
namespace Go.Proofs.YtjlkgejkgpnnkaaDoor
set_option linter.unusedVariables false
set_option linter.unusedSimpArgs false
open Go.RowKit
def okB (op x : Int) : Bool := if kOp op = 1 then x == 0 || x == 1 else if kOp op = 2 then decide (-32768 ≤ x) && decide (x ≤ 32767) else true
theorem ok01 {op x : Int} (h : okB op x = true) (hk : kOp op = 1) : x = 0 ∨ x = 1 := by
  rw [okB, if_pos hk] at h
  simpa using h
theorem ok16 {op x : Int} (h : okB op x = true) (hk : kOp op = 2) : -32768 ≤ x ∧ x ≤ 32767 := by
  rw [okB, if_neg (by omega), if_pos hk] at h
  simpa using h
def ap1 (op a : Int) : Int := if op = 1 then 1 - a else w16 (-a)
def ap2 (op a b : Int) : Int := if op = 3 then a * b else if op = 4 then b01 (decide (0 < a + b)) else if op = 5 then b01 (a != b) else if op = 6 then w16 (a + b) else if op = 7 then w16 (a - b) else if op = 8 then w16 (a * b) else if op = 9 then wdiv a b else if op = 10 then wmod a b else b01 (cmpB op a b)
theorem ap1_any (op a : Int) (w : World) (h : op = 1 ∨ op = 2) (ha : okB op a = true) : Calls Tryd.prog 56 #[.int .i64 op, .int .i64 a] w fun e w' => e = .returned (.int .i64 (ap1 op a)) ∧ w = w' := by
  rcases h with rfl | rfl
  · rcases ok01 ha (by decide) with rfl | rfl
    all_goals
      clear ha
      go_enter Tryd.func56, Tryd.ntmps56
      go_wp2
      go_ret
      exact ⟨rfl, rfl⟩
  · obtain ⟨h1, h2⟩ := ok16 ha (by decide)
    clear ha
    go_enter Tryd.func56, Tryd.ntmps56
    go_wp2_with (go_at_call 39; refine (neg_any _ _).mono ?_; rintro e w' ⟨rfl, rfl⟩)
    go_ret
    exact ⟨rfl, rfl⟩
theorem op2_cases {op : Int} (h : nOp op = 2) : op = 3 ∨ op = 4 ∨ op = 5 ∨ op = 6 ∨ op = 7 ∨ op = 8 ∨ op = 9 ∨ op = 10 ∨ op = 11 ∨ op = 12 ∨ op = 13 ∨ op = 14 ∨ op = 15 ∨ op = 16 := by
  unfold nOp at h
  split at h
  · omega
  · split at h <;> omega
theorem op1_cases {op : Int} (h : nOp op = 1) : op = 1 ∨ op = 2 := by
  unfold nOp at h
  split at h
  · assumption
  · split at h <;> omega
set_option maxHeartbeats 2000000 in
theorem ap2_any (op a b : Int) (w : World) (h : nOp op = 2) (ha : okB op a = true) (hb : okB op b = true) : Calls Tryd.prog 57 #[.int .i64 op, .int .i64 a, .int .i64 b] w fun e w' => e = .returned (.int .i64 (ap2 op a b)) ∧ w = w' := by
  have hc := op2_cases h
  clear h
  rcases hc with rfl | rfl | rfl | hc
  iterate 3
    focus
      rcases ok01 ha (by decide) with rfl | rfl
      all_goals
        rcases ok01 hb (by decide) with rfl | rfl
      all_goals
        clear ha hb
        go_enter Tryd.func57, Tryd.ntmps57
        go_wp2
        go_ret
        exact ⟨rfl, rfl⟩
  rcases hc with rfl | rfl | rfl | rfl | rfl | hc
  iterate 5
    focus
      clear ha hb
      go_enter Tryd.func57, Tryd.ntmps57
      go_wp2_with (first
        | (go_at_call 34; refine (add_any _ _ _).mono ?_; rintro e w' ⟨rfl, rfl⟩)
        | (go_at_call 35; refine (sub_any _ _ _).mono ?_; rintro e w' ⟨rfl, rfl⟩)
        | (go_at_call 36; refine (mul_any _ _ _).mono ?_; rintro e w' ⟨rfl, rfl⟩)
        | (go_at_call 37; refine (div_any _ _ _).mono ?_; rintro e w' ⟨rfl, rfl⟩)
        | (go_at_call 38; refine (mod_any _ _ _).mono ?_; rintro e w' ⟨rfl, rfl⟩))
      go_ret
      exact ⟨rfl, rfl⟩
  clear ha hb
  rcases hc with rfl | rfl | rfl | rfl | rfl | rfl
  all_goals
    go_enter Tryd.func57, Tryd.ntmps57
    go_wp2_with (first
      | (go_at_call 63; refine (compare_any _ _ _ _ (by decide)).mono ?_; rintro e w' ⟨rfl, rfl⟩)
      | (go_at_call 62; refine (truth_any _ _).mono ?_; rintro e w' ⟨rfl, rfl⟩))
    go_ret
    exact ⟨rfl, rfl⟩
set_option maxHeartbeats 2000000 in
theorem compute_any (op a b : Int) (w : World) (h : nOp op = 2) (ha : okB op a = true) (hb : okB op b = true) : Calls Tryd.prog 59 #[.int .i64 op, .int .i64 a, .int .i64 b] w fun e w' => e = .returned (.int .i64 (ap2 op a b)) ∧ w = w' := by
  have hc := op2_cases h
  clear h
  rcases hc with rfl | rfl | rfl | hc
  iterate 3
    focus
      rcases ok01 ha (by decide) with rfl | rfl
      all_goals
        rcases ok01 hb (by decide) with rfl | rfl
      all_goals
        clear ha hb
        go_enter Tryd.func59, Tryd.ntmps59
        go_wp2_with (go_at_call 65; refine (one_any _ _).mono ?_; rintro e w' ⟨rfl, rfl⟩)
        go_ret
        exact ⟨rfl, rfl⟩
  rcases hc with rfl | rfl | rfl | rfl | rfl | hc
  iterate 5
    focus
      clear ha hb
      go_enter Tryd.func59, Tryd.ntmps59
      go_wp2_with (first
        | (go_at_call 66; refine (refadd_any _ _ _).mono ?_; rintro e w' ⟨rfl, rfl⟩)
        | (go_at_call 67; refine (refsub_any _ _ _).mono ?_; rintro e w' ⟨rfl, rfl⟩)
        | (go_at_call 68; refine (refmul_any _ _ _).mono ?_; rintro e w' ⟨rfl, rfl⟩)
        | (go_at_call 69; refine (refdiv_any _ _ _).mono ?_; rintro e w' ⟨rfl, rfl⟩)
        | (go_at_call 70; refine (refmod_any _ _ _).mono ?_; rintro e w' ⟨rfl, rfl⟩))
      go_ret
      exact ⟨rfl, rfl⟩
  clear ha hb
  rcases hc with rfl | rfl | rfl | rfl | rfl | rfl
  all_goals
    go_enter Tryd.func59, Tryd.ntmps59
    go_wp2_with (go_at_call 65; refine (one_any _ _).mono ?_; rintro e w' ⟨rfl, rfl⟩)
    go_ret
    exact ⟨rfl, rfl⟩
theorem operands_any (op : Int) (w : World) : Calls Tryd.prog 52 #[.int .i64 op] w fun e w' => e = .returned (.int .i64 (nOp op)) ∧ w = w' := by
  by_cases h1 : op = 1
  · subst h1
    go_enter Tryd.func52, Tryd.ntmps52
    go_wp2
    go_ret
    exact ⟨rfl, rfl⟩
  by_cases h2 : op = 2
  · subst h2
    go_enter Tryd.func52, Tryd.ntmps52
    go_wp2
    go_ret
    exact ⟨rfl, rfl⟩
  have e1 : (op == 1) = false := by simp [h1]
  have e2 : (op == 2) = false := by simp [h2]
  have hn : nOp op = if 3 ≤ op ∧ op ≤ 16 then 2 else 0 := by rw [nOp, if_neg (by omega)]
  rw [hn]
  clear hn
  by_cases h3 : 2 < op
  · by_cases h4 : op ≤ 16
    · rw [if_pos (by omega)]
      go_enter Tryd.func52, Tryd.ntmps52
      go_wp2
      go_ret
      exact ⟨rfl, rfl⟩
    · rw [if_neg (by omega)]
      have e4 : decide (op ≤ 16) = false := by simpa using h4
      go_enter Tryd.func52, Tryd.ntmps52
      go_wp2
      go_ret
      exact ⟨rfl, rfl⟩
  · rw [if_neg (by omega)]
    have e4 : decide (2 < op) = false := by simpa using h3
    go_enter Tryd.func52, Tryd.ntmps52
    go_wp2
    go_ret
    exact ⟨rfl, rfl⟩
end Go.Proofs.YtjlkgejkgpnnkaaDoor
