/- What the functions of package word, and their references, return for every argument (the world is left as it is): plain numbers. -/
import Derived.Test.YtjlkgejkgpnnkaaDoorRows
import Derived.WalkKit
import Derived.WalkLawsBesides
import Derived.Lib.Hide
namespace Go.Proofs.YtjlkgejkgpnnkaaDoor
set_option linter.unusedVariables false
set_option linter.unusedSimpArgs false
open Go.RowKit

def w16 (n : Int) : Int := (n + 32768) % 65536 - 32768
theorem w16_lo (n : Int) : -32768 ≤ w16 n := by unfold w16; omega
theorem w16_hi (n : Int) : w16 n ≤ 32767 := by unfold w16; omega
theorem w16_in {n : Int} (h : -32768 ≤ n) (h' : n ≤ 32767) : w16 n = n := by unfold w16; omega
theorem ret_int {k : IntKind} {a b : Int} (h : a = b) : Ending.returned (.int k a) = .returned (.int k b) := by rw [h]
theorem ret_bool {a b : Bool} (h : a = b) : Ending.returned (.bool a) = .returned (.bool b) := by rw [h]
theorem wrap_i16 (n : Int) : wrap64 (IntKind.i16.wrap n) = w16 n := by
  simp only [wrap64, w16, IntKind.wrap, IntKind.signed, IntKind.bits]
  simp
  omega
theorem tmod_facts (x m : Int) (hm : 0 < m) : ∃ q, m * q + x.tmod m = x ∧ -m < x.tmod m ∧ x.tmod m < m ∧ (0 ≤ x → 0 ≤ x.tmod m) ∧ (x ≤ 0 → x.tmod m ≤ 0) := by
  refine ⟨x.tdiv m, Int.mul_tdiv_add_tmod x m, ?_, Int.tmod_lt_of_pos x hm, fun h => Int.tmod_nonneg m h, fun h => ?_⟩
  · have h := Int.tmod_lt_of_pos (-x) hm
    rw [Int.neg_tmod] at h
    omega
  · have h2 := Int.tmod_nonneg (a := -x) m (by omega)
    rw [Int.neg_tmod] at h2
    omega
/-- truncated division by any number that is not 0 -/
theorem tdiv_facts (x y : Int) (hy : y ≠ 0) : y * x.tdiv y + x.tmod y = x ∧ x.tmod y < max y (-y) ∧ -(x.tmod y) < max y (-y) ∧ (0 ≤ x → 0 ≤ x.tmod y) ∧ (x ≤ 0 → x.tmod y ≤ 0) := by
  have e := Int.mul_tdiv_add_tmod x y
  rcases Int.lt_or_gt_of_ne hy with h | h
  · have h1 : x.tmod y = x.tmod (-y) := by rw [Int.tmod_neg]
    obtain ⟨_, _, a, b, c, d⟩ := tmod_facts x (-y) (by omega)
    rw [← h1] at a b c d
    exact ⟨e, by omega, by omega, c, d⟩
  · obtain ⟨_, _, a, b, c, d⟩ := tmod_facts x y h
    exact ⟨e, by omega, by omega, c, d⟩
theorem tdiv_bd (x y : Int) (hx : -32768 ≤ x) (hx' : x ≤ 32767) : -32768 ≤ x.tdiv y ∧ x.tdiv y ≤ 32768 := by
  have h := Int.natAbs_tdiv_le_natAbs x y
  omega

theorem wrap_any (n : Int) (w : World) : Calls Tryd.prog 32 #[.int .i64 n] w fun e w' => e = .returned (.int .i64 (w16 n)) ∧ w = w' := by
  go_enter Tryd.func32, Tryd.ntmps32
  go_wp2
  go_ret
  exact ⟨ret_int (wrap_i16 n), rfl⟩

theorem refwrap_any (n : Int) (w : World) : Calls Tryd.prog 64 #[.int .i64 n] w fun e w' => e = .returned (.int .i64 (w16 n)) ∧ w = w' := by
  obtain ⟨q, h1, h2, h3, h4, h5⟩ := tmod_facts n 65536 (by decide)
  have H := Lib.hid h1
  clear h1
  go_enter Tryd.func64, Tryd.ntmps64
  go_wp2
  all_goals have h1 := H.out
  all_goals go_ret
  · exact ⟨ret_int (by unfold w16; omega), rfl⟩
  · exact ⟨ret_int (by unfold w16; omega), rfl⟩
  · exact ⟨ret_int (by unfold w16; omega), rfl⟩

theorem in_any (n : Int) (w : World) : Calls Tryd.prog 41 #[.int .i64 n] w fun e w' => e = .returned (.bool (decide (-32768 ≤ n) && decide (n ≤ 32767))) ∧ w = w' := by
  go_enter Tryd.func41, Tryd.ntmps41
  go_wp2
  all_goals go_ret
  · exact ⟨ret_bool (by simp [*]), rfl⟩
  · exact ⟨ret_bool (by simp; omega), rfl⟩
theorem neg_any (n : Int) (w : World) : Calls Tryd.prog 39 #[.int .i64 n] w fun e w' => e = .returned (.int .i64 (w16 (-n))) ∧ w = w' := by
  have h1 := w16_lo n
  have h2 := w16_hi n
  go_enter Tryd.func39, Tryd.ntmps39
  go_wp2_with (go_at_call 32; refine (wrap_any _ _).mono ?_; rintro e w' ⟨rfl, rfl⟩)
  go_ret
  exact ⟨ret_int (by unfold w16; omega), rfl⟩
theorem refneg_any (n : Int) (w : World) : Calls Tryd.prog 58 #[.int .i64 n] w fun e w' => e = .returned (.int .i64 (w16 (-n))) ∧ w = w' := by
  have h1 := w16_lo n
  have h2 := w16_hi n
  go_enter Tryd.func58, Tryd.ntmps58
  go_wp2_with (go_at_call 64; refine (refwrap_any _ _).mono ?_; rintro e w' ⟨rfl, rfl⟩)
  go_ret
  exact ⟨ret_int (by unfold w16; omega), rfl⟩

theorem add_any (a b : Int) (w : World) : Calls Tryd.prog 34 #[.int .i64 a, .int .i64 b] w fun e w' => e = .returned (.int .i64 (w16 (a + b))) ∧ w = w' := by
  have h1 := w16_lo a
  have h2 := w16_hi a
  have h3 := w16_lo b
  have h4 := w16_hi b
  go_enter Tryd.func34, Tryd.ntmps34
  go_wp2_with (go_at_call 32; refine (wrap_any _ _).mono ?_; rintro e w' ⟨rfl, rfl⟩)
  go_ret
  exact ⟨ret_int (by unfold w16; omega), rfl⟩
theorem refadd_any (a b : Int) (w : World) : Calls Tryd.prog 66 #[.int .i64 a, .int .i64 b] w fun e w' => e = .returned (.int .i64 (w16 (a + b))) ∧ w = w' := by
  have h1 := w16_lo a
  have h2 := w16_hi a
  have h3 := w16_lo b
  have h4 := w16_hi b
  go_enter Tryd.func66, Tryd.ntmps66
  go_wp2_with (go_at_call 64; refine (refwrap_any _ _).mono ?_; rintro e w' ⟨rfl, rfl⟩)
  go_ret
  exact ⟨ret_int (by unfold w16; omega), rfl⟩
theorem sub_any (a b : Int) (w : World) : Calls Tryd.prog 35 #[.int .i64 a, .int .i64 b] w fun e w' => e = .returned (.int .i64 (w16 (a - b))) ∧ w = w' := by
  have h1 := w16_lo a
  have h2 := w16_hi a
  have h3 := w16_lo b
  have h4 := w16_hi b
  go_enter Tryd.func35, Tryd.ntmps35
  go_wp2_with (go_at_call 32; refine (wrap_any _ _).mono ?_; rintro e w' ⟨rfl, rfl⟩)
  go_ret
  exact ⟨ret_int (by unfold w16; omega), rfl⟩
theorem refsub_any (a b : Int) (w : World) : Calls Tryd.prog 67 #[.int .i64 a, .int .i64 b] w fun e w' => e = .returned (.int .i64 (w16 (a - b))) ∧ w = w' := by
  have h1 := w16_lo a
  have h2 := w16_hi a
  have h3 := w16_lo b
  have h4 := w16_hi b
  go_enter Tryd.func67, Tryd.ntmps67
  go_wp2_with (go_at_call 64; refine (refwrap_any _ _).mono ?_; rintro e w' ⟨rfl, rfl⟩)
  go_ret
  exact ⟨ret_int (by unfold w16; omega), rfl⟩
theorem mul_bd {x y : Int} (h1 : -32768 ≤ x) (h2 : x ≤ 32767) (h3 : -32768 ≤ y) (h4 : y ≤ 32767) : -1073741824 ≤ x * y ∧ x * y ≤ 1073741824 := by
  have a : (x * y).natAbs ≤ 32768 * 32768 := by rw [Int.natAbs_mul]; exact Nat.mul_le_mul (by omega) (by omega)
  omega
theorem w16_mul (a b : Int) : w16 (w16 a * w16 b) = w16 (a * b) := by
  have ha : w16 a = a - 65536 * ((a + 32768) / 65536) := by unfold w16; omega
  have hb : w16 b = b - 65536 * ((b + 32768) / 65536) := by unfold w16; omega
  generalize (a + 32768) / 65536 = p at ha
  generalize (b + 32768) / 65536 = q at hb
  rw [ha, hb]
  have e : (a - 65536 * p) * (b - 65536 * q) = a * b + 65536 * (65536 * (p * q) - p * b - a * q) := by
    simp only [Int.sub_mul, Int.mul_sub, Int.mul_assoc, Int.mul_left_comm a 65536 q, Int.mul_left_comm p 65536 q]
    omega
  rw [e]
  unfold w16
  omega
theorem mul_any (a b : Int) (w : World) : Calls Tryd.prog 36 #[.int .i64 a, .int .i64 b] w fun e w' => e = .returned (.int .i64 (w16 (a * b))) ∧ w = w' := by
  obtain ⟨h1, h2⟩ := mul_bd (w16_lo a) (w16_hi a) (w16_lo b) (w16_hi b)
  go_enter Tryd.func36, Tryd.ntmps36
  go_wp2_with (go_at_call 32; refine (wrap_any _ _).mono ?_; rintro e w' ⟨rfl, rfl⟩)
  go_ret
  exact ⟨ret_int (w16_mul a b), rfl⟩
theorem refmul_any (a b : Int) (w : World) : Calls Tryd.prog 68 #[.int .i64 a, .int .i64 b] w fun e w' => e = .returned (.int .i64 (w16 (a * b))) ∧ w = w' := by
  obtain ⟨h1, h2⟩ := mul_bd (w16_lo a) (w16_hi a) (w16_lo b) (w16_hi b)
  go_enter Tryd.func68, Tryd.ntmps68
  go_wp2_with (go_at_call 64; refine (refwrap_any _ _).mono ?_; rintro e w' ⟨rfl, rfl⟩)
  go_ret
  exact ⟨ret_int (w16_mul a b), rfl⟩

def wdiv (a b : Int) : Int := if w16 b = 0 then 0 else w16 ((w16 a).tdiv (w16 b))
def wmod (a b : Int) : Int := if w16 b = 0 then w16 a else (w16 a).tmod (w16 b)
theorem div_any (a b : Int) (w : World) : Calls Tryd.prog 37 #[.int .i64 a, .int .i64 b] w fun e w' => e = .returned (.int .i64 (wdiv a b)) ∧ w = w' := by
  have h1 := w16_lo a
  have h2 := w16_hi a
  have h3 := w16_lo b
  have h4 := w16_hi b
  have h5 := tdiv_bd (w16 a) (w16 b) h1 h2
  by_cases hb : w16 b = 0
  · have hb1 : (w16 b == 0) = true := by simp [hb]
    have H := Lib.hid hb
    clear hb
    go_enter Tryd.func37, Tryd.ntmps37
    go_wp2_with (go_at_call 32; refine (wrap_any _ _).mono ?_; rintro e w' ⟨rfl, rfl⟩)
    go_ret
    exact ⟨ret_int (by rw [wdiv, if_pos H.out]), rfl⟩
  · have hb1 : (w16 b == 0) = false := by simp [hb]
    go_enter Tryd.func37, Tryd.ntmps37
    go_wp2_with (go_at_call 32; refine (wrap_any _ _).mono ?_; rintro e w' ⟨rfl, rfl⟩)
    go_ret
    refine ⟨ret_int ?_, rfl⟩
    rw [wdiv, if_neg hb]
    try rfl
theorem refdiv_any (a b : Int) (w : World) : Calls Tryd.prog 69 #[.int .i64 a, .int .i64 b] w fun e w' => e = .returned (.int .i64 (wdiv a b)) ∧ w = w' := by
  have h1 := w16_lo a
  have h2 := w16_hi a
  have h3 := w16_lo b
  have h4 := w16_hi b
  have h5 := tdiv_bd (w16 a) (w16 b) h1 h2
  by_cases hb : w16 b = 0
  · have hb1 : (w16 b == 0) = true := by simp [hb]
    have H := Lib.hid hb
    clear hb
    go_enter Tryd.func69, Tryd.ntmps69
    go_wp2_with (go_at_call 64; refine (refwrap_any _ _).mono ?_; rintro e w' ⟨rfl, rfl⟩)
    go_ret
    exact ⟨ret_int (by rw [wdiv, if_pos H.out]), rfl⟩
  · have hb1 : (w16 b == 0) = false := by simp [hb]
    go_enter Tryd.func69, Tryd.ntmps69
    go_wp2_with (go_at_call 64; refine (refwrap_any _ _).mono ?_; rintro e w' ⟨rfl, rfl⟩)
    go_ret
    refine ⟨ret_int ?_, rfl⟩
    rw [wdiv, if_neg hb]
    try rfl
theorem mod_any (a b : Int) (w : World) : Calls Tryd.prog 38 #[.int .i64 a, .int .i64 b] w fun e w' => e = .returned (.int .i64 (wmod a b)) ∧ w = w' := by
  have h1 := w16_lo a
  have h2 := w16_hi a
  have h3 := w16_lo b
  have h4 := w16_hi b
  have h5 := tdiv_bd (w16 a) (w16 b) h1 h2
  by_cases hb : w16 b = 0
  · have hb1 : (w16 b == 0) = true := by simp [hb]
    have H := Lib.hid hb
    clear hb
    go_enter Tryd.func38, Tryd.ntmps38
    go_wp2_with (go_at_call 32; refine (wrap_any _ _).mono ?_; rintro e w' ⟨rfl, rfl⟩)
    go_ret
    exact ⟨ret_int (by rw [wmod, if_pos H.out]), rfl⟩
  · have hb1 : (w16 b == 0) = false := by simp [hb]
    go_enter Tryd.func38, Tryd.ntmps38
    go_wp2_with (go_at_call 32; refine (wrap_any _ _).mono ?_; rintro e w' ⟨rfl, rfl⟩)
    go_ret
    refine ⟨ret_int ?_, rfl⟩
    rw [wmod, if_neg hb]
    try rfl
theorem refmod_any (a b : Int) (w : World) : Calls Tryd.prog 70 #[.int .i64 a, .int .i64 b] w fun e w' => e = .returned (.int .i64 (wmod a b)) ∧ w = w' := by
  have h1 := w16_lo a
  have h2 := w16_hi a
  have h3 := w16_lo b
  have h4 := w16_hi b
  have h5 := tdiv_bd (w16 a) (w16 b) h1 h2
  by_cases hb : w16 b = 0
  · have hb1 : (w16 b == 0) = true := by simp [hb]
    have H := Lib.hid hb
    clear hb
    go_enter Tryd.func70, Tryd.ntmps70
    go_wp2_with (go_at_call 64; refine (refwrap_any _ _).mono ?_; rintro e w' ⟨rfl, rfl⟩)
    go_ret
    exact ⟨ret_int (by rw [wmod, if_pos H.out]), rfl⟩
  · have hb1 : (w16 b == 0) = false := by simp [hb]
    go_enter Tryd.func70, Tryd.ntmps70
    go_wp2_with (go_at_call 64; refine (refwrap_any _ _).mono ?_; rintro e w' ⟨rfl, rfl⟩)
    go_ret
    refine ⟨ret_int ?_, rfl⟩
    rw [wmod, if_neg hb]
    try rfl
end Go.Proofs.YtjlkgejkgpnnkaaDoor
