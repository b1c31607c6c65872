/- Apply of the reference; Result of both sides. -/
import Derived.Test.YtjlkgejkgpnnkaaDoorVp
namespace Go.Proofs.YtjlkgejkgpnnkaaDoor
set_option linter.unusedVariables false
set_option linter.unusedSimpArgs false
open Go.RowKit
theorem opv_cases {op : Int} (h : nOp op ≠ 0) : op = 1 ∨ op = 2 ∨ op = 3 ∨ op = 4 ∨ op = 5 ∨ op = 6 ∨ op = 7 ∨ op = 8 ∨ op = 9 ∨ op = 10 ∨ op = 11 ∨ op = 12 ∨ op = 13 ∨ op = 14 ∨ op = 15 ∨ op = 16 := by
  unfold nOp at h
  split at h
  · omega
  · split at h <;> omega
theorem boolean_at (op : Int) (h : nOp op ≠ 0) (w : World) : Calls Tryd.prog 53 #[.int .i64 op] w fun e w' => e = .returned (.bool (kOp op == 1)) ∧ w = w' := by
  have hc := opv_cases h
  clear h
  rcases hc with rfl | rfl | rfl | rfl | rfl | rfl | rfl | rfl | rfl | rfl | rfl | rfl | rfl | rfl | rfl | rfl
  all_goals
    go_enter Tryd.func53, Tryd.ntmps53
    go_wp2
    go_ret
    exact ⟨rfl, rfl⟩
theorem equality_at (op : Int) (h : nOp op ≠ 0) (w : World) : Calls Tryd.prog 54 #[.int .i64 op] w fun e w' => e = .returned (.bool (kOp op == 0)) ∧ w = w' := by
  have hc := opv_cases h
  clear h
  rcases hc with rfl | rfl | rfl | rfl | rfl | rfl | rfl | rfl | rfl | rfl | rfl | rfl | rfl | rfl | rfl | rfl
  all_goals
    go_enter Tryd.func54, Tryd.ntmps54
    go_wp2
    go_ret
    exact ⟨rfl, rfl⟩
theorem arith_at (op : Int) (h : nOp op ≠ 0) (w : World) : Calls Tryd.prog 55 #[.int .i64 op] w fun e w' => e = .returned (.bool (tOp op == 2)) ∧ w = w' := by
  have hc := opv_cases h
  clear h
  rcases hc with rfl | rfl | rfl | rfl | rfl | rfl | rfl | rfl | rfl | rfl | rfl | rfl | rfl | rfl | rfl | rfl
  all_goals
    go_enter Tryd.func55, Tryd.ntmps55
    go_wp2
    go_ret
    exact ⟨rfl, rfl⟩
theorem tOp_cases {op : Int} (h : nOp op ≠ 0) : tOp op = 1 ∨ tOp op = 2 := by
  have hc := opv_cases h
  unfold tOp
  split
  · exact .inr rfl
  · rw [if_pos (by omega)]; exact .inl rfl
theorem rapply_bad (A : Option Addr) (c : Nat) (op : Int) (xs : List Int) (w : World) (hl : xs.length ≤ 9223372036854775807) (h : nOp op = 0 ∨ nOp op ≠ xs.length) :
    Calls Tryd.prog 28 #[.int .i64 op, .slice A xs.length c] w (Bel (.tuple #[.int .i64 (apV op xs), .int .i64 (apE op xs)]) w) := by
  by_cases h0 : nOp op = 0
  · have he : apE op xs = 2 := by rw [apE, if_pos h0]
    have ha : apV op xs = 0 := by rw [apV, he, if_neg (by omega)]
    rw [he, ha]
    have KO := Lib.hid (operands_any op)
    rw [h0] at KO
    clear he ha h h0
    go_enter Tryd.func28, Tryd.ntmps28
    go_wp2_with (go_at_call 52; refine (KO.out _).mono ?_; rintro e w1 ⟨rfl, rfl⟩)
    go_ret2
    exact ⟨rfl, Below.refl _ _⟩
  · have hn : nOp op ≠ xs.length := by omega
    have he : apE op xs = 9 := by rw [apE, if_neg h0, if_neg hn]
    have ha : apV op xs = 0 := by rw [apV, he, if_neg (by omega)]
    rw [he, ha]
    have KO := Lib.hid (operands_any op)
    have b1 : (nOp op == 0) = false := by simp [h0]
    have b2 : ((xs.length : Int) != nOp op) = true := by simp; omega
    clear he ha h h0 hn
    go_enter Tryd.func28, Tryd.ntmps28
    go_wp2_with (go_at_call 52; refine (KO.out _).mono ?_; rintro e w1 ⟨rfl, rfl⟩)
    go_ret2
    exact ⟨rfl, Below.refl _ _⟩
set_option maxHeartbeats 2000000 in
theorem rapply_good (A : Option Addr) (c : Nat) (op : Int) (xs : List Int) (w : World) (hA : Rd w w.heap.size A (is_ xs)) (h0 : nOp op ≠ 0) (h : nOp op = xs.length) :
    Calls Tryd.prog 28 #[.int .i64 op, .slice A xs.length c] w (Bel (.tuple #[.int .i64 (apV op xs), .int .i64 (apE op xs)]) w) := by
  have he : apE op xs = if xs.all (okB op) then 0 else 14 := by rw [apE, if_neg h0, if_pos h]
  have hc := nOp_cases op
  have hl2 : xs.length = 1 ∨ xs.length = 2 := by omega
  have KO := Lib.hid (operands_any op)
  have KB := Lib.hid (boolean_at op h0)
  have KE := Lib.hid (equality_at op h0)
  have b1 : (nOp op == 0) = false := by simp [h0]
  have b2 : ((xs.length : Int) != nOp op) = false := by simp; omega
  have HA := Lib.hid hA
  have HN := Lib.hid h
  have HE := Lib.hid he
  have H0 := Lib.hid h0
  have HC := Lib.hid hc
  clear hA h he h0 hc
  go_enter Tryd.func28, Tryd.ntmps28
  go_wp2_with (go_at_call 52; refine (KO.out _).mono ?_; rintro e w1 ⟨rfl, rfl⟩)
  go_loop [6] (fun i => ∃ k : Nat, k ≤ xs.length ∧ i = .int .i64 k ∧ Hid ((xs.take k).all (okB op) = true)) (fun i => xs.length - (intOf i).toNat)
  case atStart => exact ⟨0, by omega, rfl, Lib.hid (by simp)⟩
  case round =>
    obtain ⟨k, hk, rfl, hall⟩ := hrel
    by_cases hlt : k < xs.length
    · obtain ⟨ad, x, rfl, hadb, hx, hcx⟩ := HA.out.int_at hlt
      have hkk := kOp_cases op
      have hbad : okB op x = false → apE op xs = 14 ∧ apV op xs = 0 := fun hxo => by
        have e2 : apE op xs = 14 := by rw [HE.out, all_bad hx hxo]; rfl
        exact ⟨e2, by rw [apV, e2, if_neg (by omega)]⟩
      have HB := Lib.hid hbad
      have hgo : okB op x = true → ((xs.take (k + 1)).all (okB op)) = true := fun hxo => by rw [all_take_succ hx, hall.out, hxo]; rfl
      have HG := Lib.hid hgo
      clear hbad hgo
      rcases hkk with k0 | k1 | k2
      · have HX := Lib.hid (ok_free op x k0)
        rw [k0] at KB KE
        clear k0
        go_wp2_with (first
          | (go_at_call 53; refine (KB.out _).mono ?_; rintro e w1 ⟨rfl, rfl⟩)
          | (go_at_call 54; refine (KE.out _).mono ?_; rintro e w1 ⟨rfl, rfl⟩))
        go_round
        case rel => exact ⟨k + 1, by omega, by go_num, Lib.hid (HG.out HX.out)⟩
        case measure => simp [intOf]; omega
      · rw [k1] at KB KE
        by_cases x0 : x = 0
        · subst x0
          have HX : Hid (okB op 0 = true) := Lib.hid (by rw [okB, if_pos k1]; rfl)
          clear k1
          go_wp2_with (first
            | (go_at_call 53; refine (KB.out _).mono ?_; rintro e w1 ⟨rfl, rfl⟩)
            | (go_at_call 54; refine (KE.out _).mono ?_; rintro e w1 ⟨rfl, rfl⟩))
          go_round
          case rel => exact ⟨k + 1, by omega, by go_num, Lib.hid (HG.out HX.out)⟩
          case measure => simp [intOf]; omega
        · by_cases x1 : x = 1
          · subst x1
            have HX : Hid (okB op 1 = true) := Lib.hid (by rw [okB, if_pos k1]; rfl)
            clear k1
            go_wp2_with (first
              | (go_at_call 53; refine (KB.out _).mono ?_; rintro e w1 ⟨rfl, rfl⟩)
              | (go_at_call 54; refine (KE.out _).mono ?_; rintro e w1 ⟨rfl, rfl⟩))
            go_round
            case rel => exact ⟨k + 1, by omega, by go_num, Lib.hid (HG.out HX.out)⟩
            case measure => simp [intOf]; omega
          · have HX : Hid (okB op x = false) := Lib.hid (by rw [okB, if_pos k1]; simp [x0, x1])
            have c0 : (x != 0) = true := by simp [x0]
            have c1 : (x != 1) = true := by simp [x1]
            clear k1 x0 x1
            go_wp2_with (first
              | (go_at_call 53; refine (KB.out _).mono ?_; rintro e w1 ⟨rfl, rfl⟩)
              | (go_at_call 54; refine (KE.out _).mono ?_; rintro e w1 ⟨rfl, rfl⟩))
            go_ret2
            exact ⟨by rw [(HB.out HX.out).1, (HB.out HX.out).2]; rfl, Below.refl _ _⟩
      · rw [k2] at KB KE
        by_cases x0 : -32768 ≤ x
        · by_cases x1 : x ≤ 32767
          · have HX : Hid (okB op x = true) := Lib.hid (by rw [okB, if_neg (by omega), if_pos k2]; simp [x0, x1])
            clear k2
            go_wp2_with (first
              | (go_at_call 53; refine (KB.out _).mono ?_; rintro e w1 ⟨rfl, rfl⟩)
              | (go_at_call 54; refine (KE.out _).mono ?_; rintro e w1 ⟨rfl, rfl⟩))
            go_round
            case rel => exact ⟨k + 1, by omega, by go_num, Lib.hid (HG.out HX.out)⟩
            case measure => simp [intOf]; omega
          · have HX : Hid (okB op x = false) := Lib.hid (by rw [okB, if_neg (by omega), if_pos k2]; simp; omega)
            clear k2
            have c0 : decide (x < -32768) = false := by simpa using x0
            go_wp2_with (first
              | (go_at_call 53; refine (KB.out _).mono ?_; rintro e w1 ⟨rfl, rfl⟩)
              | (go_at_call 54; refine (KE.out _).mono ?_; rintro e w1 ⟨rfl, rfl⟩))
            go_ret2
            exact ⟨by rw [(HB.out HX.out).1, (HB.out HX.out).2]; rfl, Below.refl _ _⟩
        · have HX : Hid (okB op x = false) := Lib.hid (by rw [okB, if_neg (by omega), if_pos k2]; simp; omega)
          have c0 : decide (x < -32768) = true := by simpa using x0
          clear k2
          go_wp2_with (first
            | (go_at_call 53; refine (KB.out _).mono ?_; rintro e w1 ⟨rfl, rfl⟩)
            | (go_at_call 54; refine (KE.out _).mono ?_; rintro e w1 ⟨rfl, rfl⟩))
          go_ret2
          exact ⟨by rw [(HB.out HX.out).1, (HB.out HX.out).2]; rfl, Below.refl _ _⟩
    · have hall2 : xs.all (okB op) = true := by have := hall.out; rwa [List.take_of_length_le (by omega)] at this
      have e2 : apE op xs = 0 := by rw [HE.out, hall2]; rfl
      rcases hl2 with h1 | h2
      · obtain ⟨x, rfl⟩ : ∃ x, xs = [x] := List.length_eq_one_iff.1 h1
        have hn1 : nOp op = 1 := HN.out
        have e3 : apV op [x] = ap1 op x := by rw [apV, e2, if_pos rfl, if_pos hn1]; rfl
        obtain ⟨ad, y, rfl, hadb, hx, hcx⟩ := HA.out.int_at (k := 0) (by simp)
        obtain rfl : x = y := by simpa using hx
        have EE := Lib.hid (And.intro e2 e3)
        rw [add_zero'] at hcx
        obtain rfl : k = 1 := by simp at hlt hk; omega
        have hok : okB op x = true := by simpa using hall2
        rcases op1_cases hn1 with rfl | rfl
        · rcases ok01 hok (by decide) with rfl | rfl
          all_goals
            clear hn1 e2 e3 hall2 hx h1 hall hk hlt hok b2 b1
            go_wp2
            go_ret2
            exact ⟨by rw [EE.out.1, EE.out.2]; rfl, Below.refl _ _⟩
        · clear hn1 e2 e3 hall2 hx h1 hall hk hlt hok b2 b1
          go_wp2_with (go_at_call 58; refine (refneg_any _ _).mono ?_; rintro e w3 ⟨rfl, rfl⟩)
          go_ret2
          exact ⟨by rw [EE.out.1, EE.out.2]; rfl, Below.refl _ _⟩
      · obtain ⟨x, y, rfl⟩ : ∃ x y, xs = [x, y] := len2 h2
        have hn1 : nOp op = 2 := HN.out
        have e3 : apV op [x, y] = ap2 op x y := by rw [apV, e2, if_pos rfl, if_neg (by omega)]; rfl
        obtain ⟨ad, x', rfl, hadb, hx, hcx⟩ := HA.out.int_at (k := 0) (by simp)
        obtain rfl : x = x' := by simpa using hx
        obtain ⟨ad', y', e4, _, hy, hcy⟩ := HA.out.int_at (k := 1) (by simp)
        obtain rfl : ad = ad' := by injection e4
        obtain rfl : y = y' := by simpa using hy
        have K1 := Lib.hid (fun w => compute_any op x y w hn1 (by simp at hall2; exact hall2.1) (by simp at hall2; exact hall2.2))
        have EE := Lib.hid (And.intro e2 e3)
        rw [add_zero'] at hcx
        have hcy2 := hcy
        rw [add_one'] at hcy2
        have o2 := op2_cases hn1
        have o3 : (op == 1) = false := by rw [beq_eq_false_iff_ne]; omega
        have o4 : (op == 2) = false := by rw [beq_eq_false_iff_ne]; omega
        obtain rfl : k = 2 := by simp at hlt hk; omega
        clear hn1 e2 e3 hall2 hx hy e4 h2 hall hk hlt o2 b1 b2
        go_wp2
        go_quiet ((go_at_call 59; exact Calls.quiet_of_same ((K1.out _).mono fun _ _ h => ⟨h.1, h.2.symm⟩)))
        go_wp2
        go_ret2
        exact ⟨by rw [EE.out.1, EE.out.2]; rfl, (by repeat (first | (with_reducible exact Below.refl _ _) | (with_reducible assumption) | (with_reducible exact bel_box _) | (with_reducible refine bel_step ?_ (by with_reducible assumption)) | (with_reducible refine Below.drew ?_) | (with_reducible refine below_drewN ?_ _) | (with_reducible refine bel_alloc ?_ _)))⟩
theorem rapply_any (A : Option Addr) (c : Nat) (op : Int) (xs : List Int) (w : World) (hA : Rd w w.heap.size A (is_ xs)) (hl : xs.length ≤ 9223372036854775807) :
    Calls Tryd.prog 28 #[.int .i64 op, .slice A xs.length c] w (Bel (.tuple #[.int .i64 (apV op xs), .int .i64 (apE op xs)]) w) := by
  by_cases h0 : nOp op = 0
  · exact rapply_bad A c op xs w hl (.inl h0)
  · by_cases h : nOp op = xs.length
    · exact rapply_good A c op xs w hA h0 h
    · exact rapply_bad A c op xs w hl (.inr h)
end Go.Proofs.YtjlkgejkgpnnkaaDoor
