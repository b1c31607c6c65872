/- The laws of layer 1 return true for every argument; the old blocks are left alone. -/
import Derived.Test.YthnpgigcnmogiaaLaws
namespace Go.Proofs.Ythnpgigcnmogiaa
set_option linter.unusedVariables false
set_option linter.unusedSimpArgs false
open Go.RowKit
theorem u64w (x : Int) : IntKind.u64.wrap x = x % 18446744073709551616 := by
  simp only [IntKind.wrap, IntKind.signed, IntKind.bits]
  simp
theorem tm (x : Int) (h : x % 65536 = 0) : (IntKind.u64.wrap x).tmod 65536 = 0 := by
  rw [u64w, Int.tmod_eq_emod_of_nonneg (by omega)]
  omega
theorem mul_mod (a b : Int) : (IntKind.u64.wrap a * IntKind.u64.wrap b) % 65536 = (a * b) % 65536 := by
  rw [Int.mul_emod, u64w, u64w, show a % 18446744073709551616 % 65536 = a % 65536 by omega, show b % 18446744073709551616 % 65536 = b % 65536 by omega, ← Int.mul_emod]
theorem wdiv_bd (a b : Int) : -32768 ≤ wdiv a b ∧ wdiv a b ≤ 32767 := by
  unfold wdiv
  split
  · omega
  · exact ⟨w16_lo _, w16_hi _⟩
theorem wmod_bd (a b : Int) : -32768 ≤ wmod a b ∧ wmod a b ≤ 32767 := by
  unfold wmod
  have h1 := w16_lo a
  have h2 := w16_hi a
  split
  · omega
  · have h := tdiv_facts (w16 a) (w16 b) (by assumption)
    have h3 := w16_lo b
    have h4 := w16_hi b
    omega
set_option maxHeartbeats 1000000 in
theorem cong_any (a b : Int) (w : World) : Calls Try.prog 6 #[.int .i64 a, .int .i64 b] w (Tru w) := by
  have l1 := w16_lo (a + b)
  have l2 := w16_hi (a + b)
  have l3 := w16_lo (a - b)
  have l4 := w16_hi (a - b)
  have l5 := w16_lo (a * b)
  have l6 := w16_hi (a * b)
  have l7 := w16_lo (-a)
  have l8 := w16_hi (-a)
  obtain ⟨l9, l10⟩ := wdiv_bd a b
  obtain ⟨l11, l12⟩ := wmod_bd a b
  have t1 : (IntKind.u64.wrap (IntKind.u64.wrap (IntKind.u64.wrap (w16 (a + b)) - IntKind.u64.wrap a) - IntKind.u64.wrap b)).tmod 65536 = 0 := tm _ (by simp only [u64w, w16]; omega)
  have t2 : (IntKind.u64.wrap (IntKind.u64.wrap (IntKind.u64.wrap (w16 (a - b)) - IntKind.u64.wrap a) + IntKind.u64.wrap b)).tmod 65536 = 0 := tm _ (by simp only [u64w, w16]; omega)
  have t3 : (IntKind.u64.wrap (IntKind.u64.wrap (w16 (a * b)) - IntKind.u64.wrap (IntKind.u64.wrap a * IntKind.u64.wrap b))).tmod 65536 = 0 := tm _ (by
    have h := mul_mod a b
    generalize IntKind.u64.wrap a * IntKind.u64.wrap b = x at *
    simp only [u64w, w16]
    omega)
  have t4 : (IntKind.u64.wrap (IntKind.u64.wrap (w16 (-a)) + IntKind.u64.wrap a)).tmod 65536 = 0 := tm _ (by simp only [u64w, w16]; omega)
  have t5 : (IntKind.u64.wrap (IntKind.u64.wrap (w16 a) - IntKind.u64.wrap a)).tmod 65536 = 0 := tm _ (by simp only [u64w, w16]; omega)
  go_enter Try.func6, Try.ntmps6
  go_wp2_with (first
    | (go_at_call 19; refine (add_any _ _ _).mono ?_; rintro e w' ⟨rfl, rfl⟩)
    | (go_at_call 21; refine (sub_any _ _ _).mono ?_; rintro e w' ⟨rfl, rfl⟩)
    | (go_at_call 23; refine (mul_any _ _ _).mono ?_; rintro e w' ⟨rfl, rfl⟩)
    | (go_at_call 13; refine (neg_any _ _).mono ?_; rintro e w' ⟨rfl, rfl⟩)
    | (go_at_call 25; refine (div_any _ _ _).mono ?_; rintro e w' ⟨rfl, rfl⟩)
    | (go_at_call 27; refine (mod_any _ _ _).mono ?_; rintro e w' ⟨rfl, rfl⟩)
    | (go_at_call 11; refine (wrap_any _ _).mono ?_; rintro e w' ⟨rfl, rfl⟩)
    | (go_at_call 9; refine (in_any _ _).mono ?_; rintro e w' ⟨rfl, rfl⟩)
    | (go_at_call 18; refine (awake_any _).mono ?_; rintro e w' ⟨rfl, hb⟩))
  go_ret
  exact ⟨rfl, hb⟩
theorem wdivides (a b : Int) (hb : w16 b ≠ 0) : w16 (w16 (wdiv a b * w16 b) + wmod a b) = w16 a := by
  rw [wdiv, if_neg hb, wmod, if_neg hb]
  have h := (tdiv_facts (w16 a) (w16 b) hb).1
  have hm := w16_mul ((w16 a).tdiv (w16 b)) (w16 b)
  have e2 : w16 (w16 b) = w16 b := w16_in (w16_lo _) (w16_hi _)
  rw [e2] at hm
  rw [hm, Int.mul_comm]
  generalize w16 b * (w16 a).tdiv (w16 b) = x at *
  generalize (w16 a).tmod (w16 b) = y at *
  have h1 := w16_lo a
  have h2 := w16_hi a
  generalize w16 a = z at *
  unfold w16
  omega
set_option maxHeartbeats 1000000 in
theorem divides_any (a b : Int) (w : World) : Calls Try.prog 7 #[.int .i64 a, .int .i64 b] w (Tru w) := by
  have i1 := w16_lo a
  have i2 := w16_hi a
  have i3 := w16_lo b
  have i4 := w16_hi b
  obtain ⟨l9, l10⟩ := wdiv_bd a b
  obtain ⟨l11, l12⟩ := wmod_bd a b
  by_cases hb : w16 b = 0
  · have hb1 : (w16 b == 0) = true := by simp [hb]
    have e1 : wdiv a b = 0 := by rw [wdiv, if_pos hb]
    have e2 : wmod a b = w16 a := by rw [wmod, if_pos hb]
    clear hb
    go_enter Try.func7, Try.ntmps7
    go_wp2_with (first
      | (go_at_call 25; refine (div_any _ _ _).mono ?_; rintro e w' ⟨rfl, rfl⟩)
      | (go_at_call 27; refine (mod_any _ _ _).mono ?_; rintro e w' ⟨rfl, rfl⟩)
      | (go_at_call 11; refine (wrap_any _ _).mono ?_; rintro e w' ⟨rfl, rfl⟩)
      | (go_at_call 18; refine (awake_any _).mono ?_; rintro e w' ⟨rfl, hb⟩))
    go_ret
    exact ⟨rfl, hb⟩
  · have hb1 : (w16 b == 0) = false := by simp [hb]
    have e1 : w16 (w16 (wdiv a b * w16 b) + wmod a b) = w16 a := wdivides a b hb
    have e2 : ¬ (wmod a b > 0 ∧ w16 a < 0) ∧ ¬ (wmod a b < 0 ∧ w16 a > 0) ∧ max (wmod a b) (-(wmod a b)) < max (w16 b) (-(w16 b)) := by
      rw [wmod, if_neg hb]
      have h := tdiv_facts (w16 a) (w16 b) hb
      omega
    have E := Lib.hid e2
    clear e2 hb
    go_enter Try.func7, Try.ntmps7
    go_wp2_with (first
      | (go_at_call 25; refine (div_any _ _ _).mono ?_; rintro e w' ⟨rfl, rfl⟩)
      | (go_at_call 27; refine (mod_any _ _ _).mono ?_; rintro e w' ⟨rfl, rfl⟩)
      | (go_at_call 19; refine (add_any _ _ _).mono ?_; rintro e w' ⟨rfl, rfl⟩)
      | (go_at_call 23; refine (mul_any _ _ _).mono ?_; rintro e w' ⟨rfl, rfl⟩)
      | (go_at_call 11; refine (wrap_any _ _).mono ?_; rintro e w' ⟨rfl, rfl⟩)
      | (go_at_call 18; refine (awake_any _).mono ?_; rintro e w' ⟨rfl, hb⟩))
    all_goals first | (exfalso; have := E.out; omega) | (go_ret; exact ⟨rfl, by assumption⟩)
end Go.Proofs.Ythnpgigcnmogiaa
