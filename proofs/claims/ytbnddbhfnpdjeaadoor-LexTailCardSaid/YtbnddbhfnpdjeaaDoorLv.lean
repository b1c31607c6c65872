/- one of the reference: a number. -/
import Derived.Test.YtbnddbhfnpdjeaaDoorLu
import Derived.Test.YtbnddbhfnpdjeaaDoorMd
namespace Go.Proofs.YtbnddbhfnpdjeaaDoor
set_option linter.unusedVariables false
set_option linter.unusedSimpArgs false
open Go.RowKit
set_option maxHeartbeats 2000000 in
set_option maxRecDepth 20000 in
theorem rone_nu (s : ByteArray) (k m : Nat) (w : World) (hk : k < s.size) (h9 : s.size ≤ 65536) (hL : pL ((s[k].toNat : Nat) : Int) = false) (hG : pG ((s[k].toNat : Nat) : Int) = true) (hm : sp pG (s.data.toList.drop k) = m) (h2 : ¬ (2 ≤ m ∧ ((s[k].toNat : Nat) : Int) = 48)) :
    Calls Tryd.prog 22 #[.string s, .int .i64 k] w (Bel (if numOk ((s.data.toList.drop k).take m) = true then .tuple #[tok 2 (s.extract k (k + m)) k, .int .i64 ((k + m : Nat) : Int), .int .i64 0] else .tuple #[tok 0 ⟨#[]⟩ 0, .int .i64 0, .int .i64 14]) w) := by
  have kl := Lib.hid (rletter_any ((s[k].toNat : Nat) : Int))
  rw [hL] at kl
  have kd := Lib.hid (rdigit_any ((s[k].toNat : Nat) : Int))
  rw [hG] at kd
  have hle := spd_le pG s k (by omega)
  rw [hm] at hle
  have hm0 : 0 < m := by
    rw [← hm, drop_cons_at hk, sp_yes hG]; omega
  have hln : ((s.data.toList.drop k).take m).length = m := by rw [List.length_take, List.length_drop, len_toList]; omega
  have hok : numOk ((s.data.toList.drop k).take m) = decide (dv 0 ((s.data.toList.drop k).take m) ≤ 32768) := numOk_dv (fun e => by rw [e] at hln; simp at hln; omega) (by rw [← hm]; exact sp_take pG _)
  have HC : Hid (∀ j, j < m → ∃ h : k + j < s.size, 48 ≤ ((s[k + j].toNat : Nat) : Int) ∧ ((s[k + j].toNat : Nat) : Int) ≤ 57 ∧ dv 0 ((s.data.toList.drop k).take (j + 1)) = 10 * dv 0 ((s.data.toList.drop k).take j) + (s[k + j].toNat - 48)) := Lib.hid fun j hj => by
    obtain ⟨h, hp⟩ := spd_at (p := pG) (s := s) (a := k) (j := k + j) (by omega) (by rw [hm]; omega)
    rw [pG, decide_eq_true_eq] at hp
    refine ⟨h, hp.1, hp.2, ?_⟩
    have : (s.data.toList.drop k)[j]? = some s[k + j] := by rw [List.getElem?_drop, byte_get s _ h]
    rw [take_succ_of this, dv_snoc]
  have HD : Hid (∀ j, j ≤ m → dv 0 ((s.data.toList.drop k).take j) ≤ dv 0 ((s.data.toList.drop k).take m)) := Lib.hid fun j hj => by
    have := dv_take_le ((s.data.toList.drop k).take m) j 0
    rwa [List.take_take, Nat.min_eq_left hj] at this
  obtain ⟨D, hD⟩ : ∃ D : Nat → Nat, (fun j => dv 0 ((s.data.toList.drop k).take j)) = D := ⟨_, rfl⟩
  have hDj : ∀ j, dv 0 ((s.data.toList.drop k).take j) = D j := fun j => by rw [← hD]
  have hD0 : D 0 = 0 := by rw [← hDj]; rfl
  simp only [hDj] at HC HD hok
  rw [hok]
  clear hok hln hD hDj
  obtain ⟨z, hz⟩ : ∃ z, k + m = z := ⟨_, rfl⟩
  have KW : Hid (∀ W, Calls Tryd.prog 40 #[.string s, .int .i64 k] W (Bel (.int .i64 (z : Nat)) W)) := Lib.hid fun W => by
    have := rnumber_any s k W (by omega) h9
    rwa [hm, hz] at this
  rw [hz]
  have f1 : (0 : Int) ≤ (k : Int) := by omega
  have f2 : (k : Int) < (s.size : Int) := by omega
  have f3 : (k : Int) ≤ (z : Int) := by omega
  have f4 : (z : Int) ≤ (s.size : Int) := by omega
  have f5 : (z : Int) - (k : Int) = (m : Int) := by omega
  have f6 : IntKind.i64.wrap (m : Int) = (m : Int) := Go.IntWalk.i64_in _ ⟨by omega, by omega⟩
  have hz' : (((s[k].toNat : Nat) : Int) == 48) = false ∨ (((s[k].toNat : Nat) : Int) == 48) = true ∧ (m : Int) ≤ 1 := by
    by_cases e : ((s[k].toNat : Nat) : Int) = 48
    · exact .inr ⟨by rw [e]; rfl, by omega⟩
    · exact .inl (by simpa using e)
  clear hm hL hG h2
  obtain ⟨V, hV⟩ : ∃ V : Value, (if decide (D m ≤ 32768) = true then .tuple #[tok 2 (s.extract k z) k, .int .i64 (z : Nat), .int .i64 0] else .tuple #[tok 0 ⟨#[]⟩ 0, .int .i64 0, .int .i64 14]) = V := ⟨_, rfl⟩
  have HV := Lib.hid hV
  rw [hV]
  clear hV
  rcases hz' with g0 | ⟨g0, g1⟩
  all_goals
    go_enter Tryd.func22, Tryd.ntmps22
    go_wp2_with (first
      | (go_at_call 24; (with_reducible refine (kl.out _).mono ?_); rintro e w1 ⟨rfl, hb1⟩)
      | (go_at_call 39; (with_reducible refine (kd.out _).mono ?_); rintro e w2 ⟨rfl, hb2⟩)
      | (go_at_call 40; (with_reducible refine (KW.out _).mono ?_); rintro e w3 ⟨rfl, hb3⟩; obtain ⟨q0, q1, q2, q3, q4, q5, q6⟩ := rest (w := w) (W := w3) (t := 30) (s0 := ⟨#[]⟩) (by repeat (first | (with_reducible exact Below.refl _ _) | (with_reducible assumption) | (with_reducible exact bel_box _) | (with_reducible refine bel_step ?_ (by with_reducible assumption)) | (with_reducible refine Below.drew ?_) | (with_reducible refine below_drewN ?_ _) | (with_reducible refine bel_alloc ?_ _))); have HB : Hid (Below w.heap.size w w3) := Lib.hid (by repeat (first | (with_reducible exact Below.refl _ _) | (with_reducible assumption) | (with_reducible exact bel_box _) | (with_reducible refine bel_step ?_ (by with_reducible assumption)) | (with_reducible refine Below.drew ?_) | (with_reducible refine below_drewN ?_ _) | (with_reducible refine bel_alloc ?_ _))); clear hb1 hb2 hb3))
    clear g0
    go_loopw [11, 12] (fun v i wr => ∃ j : Nat, j ≤ m ∧ i = .int .i64 ((k + j : Nat) : Int) ∧ v = .int .i64 (D j) ∧ D j ≤ 400000 ∧ wr = w3) (fun _ i _ => k + m - (intOf i).toNat)
    case atStart => exact ⟨0, by omega, by simp, by rw [hD0]; rfl, by omega, rfl⟩
    case round =>
      obtain ⟨j, hj, rfl, rfl, hDb, rfl⟩ := hrel
      by_cases hlt : j < m
      · obtain ⟨h, c1, c2, c3⟩ := HC.out j hlt
        have u1 : ((k + j : Nat) : Int) < (z : Int) := by omega
        have u3 : ((k + j : Nat) : Int) < (s.size : Int) := by omega
        have u4 : (0 : Int) ≤ ((k + j : Nat) : Int) := by omega
        by_cases hbig : D j ≤ 32768
        · have u2 : (D j : Int) ≤ 32768 := by omega
          have u5 : IntKind.i64.wrap (10 * (D j : Int)) = 10 * (D j : Int) := Go.IntWalk.i64_in _ ⟨by omega, by omega⟩
          have u6 : IntKind.i64.wrap (10 * (D j : Int) + ((s[k + j].toNat : Nat) : Int)) = 10 * (D j : Int) + ((s[k + j].toNat : Nat) : Int) := Go.IntWalk.i64_in _ ⟨by omega, by omega⟩
          have u7 : 10 * (D j : Int) + ((s[k + j].toNat : Nat) : Int) - 48 = (D (j + 1) : Int) := by omega
          have u8 : IntKind.i64.wrap (D (j + 1) : Int) = (D (j + 1) : Int) := Go.IntWalk.i64_in _ ⟨by omega, by omega⟩
          go_wp2
          exact ⟨⟨j + 1, by omega, by congr 1, by congr 1; omega, by omega, trivial⟩, by simp [intOf]; omega⟩
        · have hm2 := HD.out j hj
          obtain rfl : V = .tuple #[tok 0 ⟨#[]⟩ 0, .int .i64 0, .int .i64 14] := by rw [← HV.out, if_neg (by simp; omega)]
          have u2 : (32768 : Int) < (D j : Int) := by omega
          clear HV HC HD
          go_wp2
          obtain ⟨k0, k1, k2⟩ := set3_cells q0 q1 q2 (.int .i64 0) (.string ⟨#[]⟩) (.int .i64 0)
          refine bodyPost_ret (v := .tuple #[tok 0 ⟨#[]⟩ 0, .int .i64 0, .int .i64 14]) (by simp [results, Tryd.results22, go_sem, tok, k0, k1, k2]) rfl ?_
          exact ⟨rfl, bel_set3 HB.out (Nat.le_refl _) _ _ _⟩
      · obtain rfl : j = m := by omega
        have u1 : (z : Int) ≤ ((k + j : Nat) : Int) := by omega
        by_cases hbig : D j ≤ 32768
        · obtain rfl : V = .tuple #[tok 2 (s.extract k z) k, .int .i64 (z : Nat), .int .i64 0] := by rw [← HV.out, if_pos (by simpa using hbig)]
          have u2 : (D j : Int) ≤ 32768 := by omega
          clear HV HC HD
          go_wp2
          obtain ⟨k0, k1, k2⟩ := set3_cells q0 q1 q2 (.int .i64 2) (.string (s.extract k z)) (.int .i64 k)
          refine bodyPost_ret (v := .tuple #[tok 2 (s.extract k z) k, .int .i64 z, .int .i64 0]) (by simp [results, Tryd.results22, go_sem, tok, k0, k1, k2]) rfl ?_
          exact ⟨rfl, bel_set3 HB.out (Nat.le_refl _) _ _ _⟩
        · obtain rfl : V = .tuple #[tok 0 ⟨#[]⟩ 0, .int .i64 0, .int .i64 14] := by rw [← HV.out, if_neg (by simp; omega)]
          have u2 : (32768 : Int) < (D j : Int) := by omega
          clear HV HC HD
          go_wp2
          obtain ⟨k0, k1, k2⟩ := set3_cells q0 q1 q2 (.int .i64 0) (.string ⟨#[]⟩) (.int .i64 0)
          refine bodyPost_ret (v := .tuple #[tok 0 ⟨#[]⟩ 0, .int .i64 0, .int .i64 14]) (by simp [results, Tryd.results22, go_sem, tok, k0, k1, k2]) rfl ?_
          exact ⟨rfl, bel_set3 HB.out (Nat.le_refl _) _ _ _⟩
end Go.Proofs.YtbnddbhfnpdjeaaDoor
