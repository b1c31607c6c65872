/- Result of both sides. -/
import Derived.Test.YtjlkgejkgpnnkaaDoorVq
namespace Go.Proofs.YtjlkgejkgpnnkaaDoor
set_option linter.unusedVariables false
set_option linter.unusedSimpArgs false
open Go.RowKit
def wantT (op : Int) (ts : List Int) : Int := if kOp op = 0 then ts.getD 0 0 else kOp op
def okT (op : Int) (ts : List Int) (t : Int) : Bool := decide (1 ≤ t) && t == wantT op ts
def resE (op : Int) (ts : List Int) : Int := if nOp op = 0 then 2 else if nOp op = ts.length then (if ts.all (okT op ts) then 0 else 10) else 9
def resT (op : Int) (ts : List Int) : Int := if resE op ts = 0 then tOp op else 0
theorem result_bad (A : Option Addr) (c : Nat) (op : Int) (xs : List Int) (w : World) (hl : xs.length ≤ 9223372036854775807) (h : nOp op = 0 ∨ nOp op ≠ xs.length) :
    Calls Tryd.prog 25 #[.int .i64 op, .slice A xs.length c] w (Bel (.tuple #[.int .i64 (resT op xs), .int .i64 (resE op xs)]) w) := by
  obtain ⟨v, hv, hv2⟩ : ∃ v : Int, (if nOp op = 0 then 2 else if nOp op = xs.length then 0 else 9) = v ∧ (v = 2 ∨ v = 9) := by
    by_cases h0 : nOp op = 0
    · exact ⟨2, by rw [if_pos h0], .inl rfl⟩
    · exact ⟨9, by rw [if_neg h0, if_neg (by omega)], .inr rfl⟩
  have he : resE op xs = v := by
    rw [resE, ← hv]
    by_cases h0 : nOp op = 0
    · rw [if_pos h0, if_pos h0]
    · rw [if_neg h0, if_neg h0, if_neg (by omega), if_neg (by omega)]
  have ha : resT op xs = 0 := by rw [resT, he, if_neg (by omega)]
  rw [he, ha]
  have KA := Lib.hid (arity_at op xs.length v hv)
  have KR := Lib.hid (rules_at op)
  clear hv he ha h
  rcases hv2 with rfl | rfl
  all_goals
    go_enter Tryd.func25, Tryd.ntmps25
    go_wp2_with (first
      | (go_at_call 50; refine (KR.out _).mono ?_; rintro e w1 ⟨rfl, hb1⟩)
      | (go_at_call 51; refine (KA.out _).mono ?_; rintro e w2 ⟨rfl, hb2⟩))
    go_ret2
    exact ⟨rfl, (by repeat (first | (with_reducible exact Below.refl _ _) | (with_reducible assumption) | (with_reducible exact bel_box _) | (with_reducible refine bel_step ?_ (by with_reducible assumption)) | (with_reducible refine Below.drew ?_) | (with_reducible refine below_drewN ?_ _) | (with_reducible refine bel_alloc ?_ _)))⟩
set_option maxHeartbeats 2000000 in
theorem result_good (A : Option Addr) (c : Nat) (op : Int) (xs : List Int) (w : World) (hA : Rd w w.heap.size A (is_ xs)) (h0 : nOp op ≠ 0) (h : nOp op = xs.length) :
    Calls Tryd.prog 25 #[.int .i64 op, .slice A xs.length c] w (Bel (.tuple #[.int .i64 (resT op xs), .int .i64 (resE op xs)]) w) := by
  have he : resE op xs = if xs.all (okT op xs) then 0 else 10 := by rw [resE, if_neg h0, if_pos h]
  have hc := nOp_cases op
  have hl1 : 0 < xs.length := by omega
  have hl2 : xs.length ≤ 2 := by omega
  have KA := Lib.hid (arity_at op xs.length 0 (by rw [if_neg h0, if_pos h]))
  have KR := Lib.hid (rules_at op)
  obtain ⟨ad, x0, rfl, hadb, hx0, hcx0⟩ := hA.int_at hl1
  have HA := Lib.hid hA
  have HE := Lib.hid he
  have hw0 : kOp op = 0 → wantT op xs = x0 := fun h => by rw [wantT, if_pos h, List.getD, hx0]; rfl
  have hw1 : kOp op ≠ 0 → wantT op xs = kOp op := fun h => by rw [wantT, if_neg h]
  clear hA h he h0 hc
  by_cases hk0 : kOp op = 0
  all_goals
    first
      | (have hk1 : (kOp op == 0) = true := by simp [hk0]
         have HW := Lib.hid (hw0 hk0))
      | (have hk1 : (kOp op == 0) = false := by simp [hk0]
         have HW := Lib.hid (hw1 hk0))
    have hx0' := hx0
    clear hw0 hw1 hk0 hx0
    go_enter Tryd.func25, Tryd.ntmps25
    go_wp2_with (first
      | (go_at_call 50; refine (KR.out _).mono ?_; rintro e w1 ⟨rfl, hb1⟩)
      | (go_at_call 51; refine (KA.out _).mono ?_; rintro e w2 ⟨rfl, hb2⟩; obtain ⟨s1, s2, s3⟩ := box3 hb2; obtain ⟨ad', x', e4, _, hx, hcx⟩ := (HA.out.to (W := w2) (by repeat (first | (with_reducible exact Below.refl _ _) | (with_reducible assumption) | (with_reducible exact bel_box _) | (with_reducible refine bel_step ?_ (by with_reducible assumption)) | (with_reducible refine Below.drew ?_) | (with_reducible refine below_drewN ?_ _) | (with_reducible refine bel_alloc ?_ _)))).int_at hl1; obtain rfl : ad = ad' := (by injection e4); obtain rfl : x0 = x' := Option.some.inj (hx0'.symm.trans hx); rw [add_zero'] at hcx; clear hx e4))
    go_loop [29] (fun i => ∃ k : Nat, k ≤ xs.length ∧ i = .int .i64 k ∧ Hid ((xs.take k).all (okT op xs) = true)) (fun i => xs.length - (intOf i).toNat)
    case atStart => exact ⟨0, by omega, rfl, Lib.hid (by simp)⟩
    case round =>
      obtain ⟨k, hk, rfl, hall⟩ := hrel
      by_cases hlt : k < xs.length
      · obtain ⟨ad', x, e4, _, hx, hcx⟩ := (HA.out.to (W := w2) (by repeat (first | (with_reducible exact Below.refl _ _) | (with_reducible assumption) | (with_reducible exact bel_box _) | (with_reducible refine bel_step ?_ (by with_reducible assumption)) | (with_reducible refine Below.drew ?_) | (with_reducible refine below_drewN ?_ _) | (with_reducible refine bel_alloc ?_ _)))).int_at hlt
        obtain rfl : ad = ad' := by injection e4
        clear e4
        have hbad : okT op xs x = false → resE op xs = 10 ∧ resT op xs = 0 := fun hxo => by
          have e2 : resE op xs = 10 := by rw [HE.out, all_bad hx hxo]; rfl
          exact ⟨e2, by rw [resT, e2, if_neg (by omega)]⟩
        have HB := Lib.hid hbad
        have hgo : okT op xs x = true → ((xs.take (k + 1)).all (okT op xs)) = true := fun hxo => by rw [all_take_succ hx, hall.out, hxo]; rfl
        have HG := Lib.hid hgo
        clear hbad hgo
        by_cases hx1 : 1 ≤ x
        · have c1 : decide (x < 1) = false := by simpa using hx1
          by_cases hxe : x = wantT op xs
          · have HX : Hid (okT op xs x = true) := Lib.hid (by rw [okT, ← hxe]; simp [hx1])
            first
              | (have c2 : (x != x0) = false := by rw [← HW.out, ← hxe]; simp)
              | (have c2 : (x != kOp op) = false := by rw [← HW.out, ← hxe]; simp)
            clear hxe hx1
            go_wp2
            go_round
            case rel => exact ⟨k + 1, by omega, by go_num, Lib.hid (HG.out HX.out)⟩
            case measure => simp [intOf]; omega
          · have HX : Hid (okT op xs x = false) := Lib.hid (by rw [okT, beq_eq_false_iff_ne.2 hxe]; simp)
            first
              | (have c2 : (x != x0) = true := by rw [← HW.out]; simpa using hxe)
              | (have c2 : (x != kOp op) = true := by rw [← HW.out]; simpa using hxe)
            clear hxe hx1
            go_wp2
            go_ret2
            exact ⟨by rw [(HB.out HX.out).1, (HB.out HX.out).2]; rfl, (by repeat (first | (with_reducible exact Below.refl _ _) | (with_reducible assumption) | (with_reducible exact bel_box _) | (with_reducible refine bel_step ?_ (by with_reducible assumption)) | (with_reducible refine Below.drew ?_) | (with_reducible refine below_drewN ?_ _) | (with_reducible refine bel_alloc ?_ _)))⟩
        · have c1 : decide (x < 1) = true := by simpa using hx1
          have HX : Hid (okT op xs x = false) := Lib.hid (by rw [okT]; simp; omega)
          clear hx1
          go_wp2
          go_ret2
          exact ⟨by rw [(HB.out HX.out).1, (HB.out HX.out).2]; rfl, (by repeat (first | (with_reducible exact Below.refl _ _) | (with_reducible assumption) | (with_reducible exact bel_box _) | (with_reducible refine bel_step ?_ (by with_reducible assumption)) | (with_reducible refine Below.drew ?_) | (with_reducible refine below_drewN ?_ _) | (with_reducible refine bel_alloc ?_ _)))⟩
      · have hall2 : xs.all (okT op xs) = true := by have := hall.out; rwa [List.take_of_length_le (by omega)] at this
        have e2 : resE op xs = 0 := by rw [HE.out, hall2]; rfl
        have e3 : resT op xs = tOp op := by rw [resT, if_pos e2]
        have EE := Lib.hid (And.intro e2 e3)
        clear e2 e3 hall2 hall
        go_wp2
        go_ret2
        exact ⟨by rw [EE.out.1, EE.out.2]; rfl, (by repeat (first | (with_reducible exact Below.refl _ _) | (with_reducible assumption) | (with_reducible exact bel_box _) | (with_reducible refine bel_step ?_ (by with_reducible assumption)) | (with_reducible refine Below.drew ?_) | (with_reducible refine below_drewN ?_ _) | (with_reducible refine bel_alloc ?_ _)))⟩
theorem result_any (A : Option Addr) (c : Nat) (op : Int) (xs : List Int) (w : World) (hA : Rd w w.heap.size A (is_ xs)) (hl : xs.length ≤ 9223372036854775807) :
    Calls Tryd.prog 25 #[.int .i64 op, .slice A xs.length c] w (Bel (.tuple #[.int .i64 (resT op xs), .int .i64 (resE op xs)]) w) := by
  by_cases h0 : nOp op = 0
  · exact result_bad A c op xs w hl (.inl h0)
  · by_cases h : nOp op = xs.length
    · exact result_good A c op xs w hA h0 h
    · exact result_bad A c op xs w hl (.inr h)
theorem rresult_bad (A : Option Addr) (c : Nat) (op : Int) (xs : List Int) (w : World) (hl : xs.length ≤ 9223372036854775807) (h : nOp op = 0 ∨ nOp op ≠ xs.length) :
    Calls Tryd.prog 26 #[.int .i64 op, .slice A xs.length c] w (Bel (.tuple #[.int .i64 (resT op xs), .int .i64 (resE op xs)]) w) := by
  by_cases h0 : nOp op = 0
  · have he : resE op xs = 2 := by rw [resE, if_pos h0]
    have ha : resT op xs = 0 := by rw [resT, he, if_neg (by omega)]
    rw [he, ha]
    have KO := Lib.hid (operands_any op)
    rw [h0] at KO
    clear he ha h h0
    go_enter Tryd.func26, Tryd.ntmps26
    go_wp2_with (go_at_call 52; refine (KO.out _).mono ?_; rintro e w1 ⟨rfl, rfl⟩)
    go_ret2
    exact ⟨rfl, Below.refl _ _⟩
  · have hn : nOp op ≠ xs.length := by omega
    have he : resE op xs = 9 := by rw [resE, if_neg h0, if_neg hn]
    have ha : resT op xs = 0 := by rw [resT, he, if_neg (by omega)]
    rw [he, ha]
    have KO := Lib.hid (operands_any op)
    have b1 : (nOp op == 0) = false := by simp [h0]
    have b2 : ((xs.length : Int) != nOp op) = true := by simp; omega
    clear he ha h h0 hn
    go_enter Tryd.func26, Tryd.ntmps26
    go_wp2_with (go_at_call 52; refine (KO.out _).mono ?_; rintro e w1 ⟨rfl, rfl⟩)
    go_ret2
    exact ⟨rfl, Below.refl _ _⟩
set_option maxHeartbeats 2000000 in
theorem rresult_good (A : Option Addr) (c : Nat) (op : Int) (xs : List Int) (w : World) (hA : Rd w w.heap.size A (is_ xs)) (h0 : nOp op ≠ 0) (h : nOp op = xs.length) :
    Calls Tryd.prog 26 #[.int .i64 op, .slice A xs.length c] w (Bel (.tuple #[.int .i64 (resT op xs), .int .i64 (resE op xs)]) w) := by
  have he : resE op xs = if xs.all (okT op xs) then 0 else 10 := by rw [resE, if_neg h0, if_pos h]
  have hc := nOp_cases op
  have hl1 : 0 < xs.length := by omega
  have hl2 : xs.length ≤ 2 := by omega
  have KO := Lib.hid (operands_any op)
  have KB := Lib.hid (boolean_at op h0)
  have KE := Lib.hid (equality_at op h0)
  have KAr := Lib.hid (arith_at op h0)
  have KT := tOp_cases h0
  have b1 : (nOp op == 0) = false := by simp [h0]
  have b2 : ((xs.length : Int) != nOp op) = false := by simp; omega
  obtain ⟨ad, x0, rfl, hadb, hx0, hcx0⟩ := hA.int_at hl1
  rw [add_zero'] at hcx0
  have HA := Lib.hid hA
  have HE := Lib.hid he
  have hkk := kOp_cases op
  have hw0 : kOp op = 0 → wantT op xs = x0 := fun h => by rw [wantT, if_pos h, List.getD, hx0]; rfl
  have hw1 : kOp op ≠ 0 → wantT op xs = kOp op := fun h => by rw [wantT, if_neg h]
  clear hA h he h0 hc
  obtain ⟨O, hO, hOc⟩ : ∃ O : Int, wantT op xs = O ∧ ((kOp op = 0 ∧ O = x0) ∨ (kOp op = 1 ∧ O = 1) ∨ (kOp op = 2 ∧ O = 2)) := by
    rcases hkk with k0 | k0 | k0
    · exact ⟨x0, hw0 k0, .inl ⟨k0, rfl⟩⟩
    · exact ⟨1, by rw [hw1 (by omega), k0], .inr (.inl ⟨k0, rfl⟩)⟩
    · exact ⟨2, by rw [hw1 (by omega), k0], .inr (.inr ⟨k0, rfl⟩)⟩
  have HW := Lib.hid hO
  clear hw0 hw1 hkk hO
  have hlow : O < 1 → resE op xs = 10 ∧ resT op xs = 0 := fun hO => by
    have hxo : okT op xs x0 = false := by
      rw [okT, HW.out]
      by_cases h1 : 1 ≤ x0
      · rw [show (x0 == O) = false from beq_eq_false_iff_ne.2 (by omega)]; simp
      · rw [show decide (1 ≤ x0) = false by simpa using h1]; rfl
    have e2 : resE op xs = 10 := by rw [HE.out, all_bad hx0 hxo]; rfl
    exact ⟨e2, by rw [resT, e2, if_neg (by omega)]⟩
  have HL := Lib.hid hlow
  clear hlow
  by_cases hO1 : O < 1
  · have hx0' := Lib.hid hx0
    clear hx0
    rcases hOc with ⟨k0, rfl⟩ | ⟨k0, rfl⟩ | ⟨k0, rfl⟩
    · rw [k0] at KB KE
      clear k0
      have LL := Lib.hid (HL.out hO1)
      go_enter Tryd.func26, Tryd.ntmps26
      go_wp2_with (first
        | (go_at_call 52; refine (KO.out _).mono ?_; rintro e w1 ⟨rfl, rfl⟩)
        | (go_at_call 53; refine (KB.out _).mono ?_; rintro e w1 ⟨rfl, rfl⟩)
        | (go_at_call 54; refine (KE.out _).mono ?_; rintro e w1 ⟨rfl, rfl⟩))
      go_ret2
      exact ⟨by rw [LL.out.1, LL.out.2]; rfl, Below.refl _ _⟩
    · omega
    · omega
  · have hO2 : decide (O < 1) = false := by simpa using hO1
    have hx0' := Lib.hid hx0
    clear hx0
    rcases hOc with ⟨k0, rfl⟩ | ⟨k0, rfl⟩ | ⟨k0, rfl⟩
    all_goals
      rw [k0] at KB KE
      clear k0
      go_enter Tryd.func26, Tryd.ntmps26
      go_wp2_with (first
        | (go_at_call 52; refine (KO.out _).mono ?_; rintro e w1 ⟨rfl, rfl⟩)
        | (go_at_call 53; refine (KB.out _).mono ?_; rintro e w1 ⟨rfl, rfl⟩)
        | (go_at_call 54; refine (KE.out _).mono ?_; rintro e w1 ⟨rfl, rfl⟩))
      go_loop [7] (fun i => ∃ k : Nat, k ≤ xs.length ∧ i = .int .i64 k ∧ Hid ((xs.take k).all (okT op xs) = true)) (fun i => xs.length - (intOf i).toNat)
      case atStart => exact ⟨0, by omega, rfl, Lib.hid (by simp)⟩
      case round =>
        obtain ⟨k, hk, rfl, hall⟩ := hrel
        by_cases hlt : k < xs.length
        · obtain ⟨ad', x, e4, _, hx, hcx⟩ := HA.out.int_at hlt
          obtain rfl : ad = ad' := by injection e4
          clear e4
          have hbad : okT op xs x = false → resE op xs = 10 ∧ resT op xs = 0 := fun hxo => by
            have e2 : resE op xs = 10 := by rw [HE.out, all_bad hx hxo]; rfl
            exact ⟨e2, by rw [resT, e2, if_neg (by omega)]⟩
          have HB := Lib.hid hbad
          have hgo : okT op xs x = true → ((xs.take (k + 1)).all (okT op xs)) = true := fun hxo => by rw [all_take_succ hx, hall.out, hxo]; rfl
          have HG := Lib.hid hgo
          have hxc : (x = wantT op xs → okT op xs x = true) ∧ (x ≠ wantT op xs → okT op xs x = false) :=
            ⟨fun h => by rw [okT, ← h]; have := HW.out; simp; omega, fun h => by rw [okT, beq_eq_false_iff_ne.2 h]; simp⟩
          have HXC := Lib.hid hxc
          clear hbad hgo hxc
          by_cases hxe : x = wantT op xs
          · have HX := Lib.hid (HG.out (HXC.out.1 hxe))
            first
              | (have c2 : (x != O) = false := by rw [hxe, HW.out]; simp)
              | (have c2 : (x != 1) = false := by rw [hxe, HW.out]; rfl)
              | (have c2 : (x != 2) = false := by rw [hxe, HW.out]; rfl)
            clear hxe
            go_wp2
            go_round
            case rel => exact ⟨k + 1, by omega, by go_num, Lib.hid HX.out⟩
            case measure => simp [intOf]; omega
          · have HX := Lib.hid (HB.out (HXC.out.2 hxe))
            rw [HW.out] at hxe
            first
              | (have c2 : (x != O) = true := by simpa using hxe)
              | (have c2 : (x != 1) = true := by simpa using hxe)
              | (have c2 : (x != 2) = true := by simpa using hxe)
            clear hxe
            go_wp2
            go_ret2
            exact ⟨by rw [HX.out.1, HX.out.2]; rfl, Below.refl _ _⟩
        · have hall2 : xs.all (okT op xs) = true := by have := hall.out; rwa [List.take_of_length_le (by omega)] at this
          have e2 : resE op xs = 0 := by rw [HE.out, hall2]; rfl
          have e3 : resT op xs = tOp op := by rw [resT, if_pos e2]
          have EE := Lib.hid (And.intro e2 e3)
          clear e2 e3 hall2 hall
          rcases KT with t1 | t1
          all_goals
            have HT := Lib.hid t1
            rw [t1] at KAr
            clear t1
            go_wp2_with (go_at_call 55; refine (KAr.out _).mono ?_; rintro e w1 ⟨rfl, rfl⟩)
            go_ret2
            exact ⟨by rw [EE.out.1, EE.out.2, HT.out]; rfl, Below.refl _ _⟩
theorem rresult_any (A : Option Addr) (c : Nat) (op : Int) (xs : List Int) (w : World) (hA : Rd w w.heap.size A (is_ xs)) (hl : xs.length ≤ 9223372036854775807) :
    Calls Tryd.prog 26 #[.int .i64 op, .slice A xs.length c] w (Bel (.tuple #[.int .i64 (resT op xs), .int .i64 (resE op xs)]) w) := by
  by_cases h0 : nOp op = 0
  · exact rresult_bad A c op xs w hl (.inl h0)
  · by_cases h : nOp op = xs.length
    · exact rresult_good A c op xs w hA h0 h
    · exact rresult_bad A c op xs w hl (.inr h)
end Go.Proofs.YtjlkgejkgpnnkaaDoor
