/- one of the reference: a word, a symbol; one at every place. -/
import Derived.Test.YtbnddbhfnpdjeaaDoorLv
namespace Go.Proofs.YtbnddbhfnpdjeaaDoor
set_option linter.unusedVariables false
set_option linter.unusedSimpArgs false
open Go.RowKit
theorem pW_yes {n : Int} (h : pW n = true) : (n == 48) = true ∨ (n == 48) = false ∧ (n == 49) = true ∨ (n == 48) = false ∧ (n == 49) = false ∧ (n == 40) = true ∨ (n == 48) = false ∧ (n == 49) = false ∧ (n == 40) = false ∧ (n == 41) = true := by
  simp only [pW] at h
  cases h1 : (n == 48) <;> cases h2 : (n == 49) <;> cases h3 : (n == 40) <;> cases h4 : (n == 41) <;> simp_all
theorem pW_not {n : Int} (h : pW n = false) : (n == 48) = false ∧ (n == 49) = false ∧ (n == 40) = false ∧ (n == 41) = false := by
  simp only [pW, Bool.or_eq_false_iff] at h
  exact ⟨h.1.1.1, h.1.1.2, h.1.2, h.2⟩
set_option maxHeartbeats 4000000 in
set_option maxRecDepth 20000 in
theorem rone_wo (s : ByteArray) (k m : Nat) (w : World) (hk : k < s.size) (h9 : s.size ≤ 65536) (hQ : ((s[k].toNat : Nat) : Int) = 39) (hm : sp pW (s.data.toList.drop (k + 1)) = m) :
    Calls Tryd.prog 22 #[.string s, .int .i64 k] w (Bel (if (s.data.toList.drop (k + 1 + m)).head? = some 39 then .tuple #[tok 5 (s.extract (k + 1) (k + 1 + m)) k, .int .i64 ((k + 1 + m + 1 : Nat) : Int), .int .i64 0] else .tuple #[tok 0 ⟨#[]⟩ 0, .int .i64 0, .int .i64 5]) w) := by
  have kl := Lib.hid (rletter_any ((s[k].toNat : Nat) : Int))
  have kd := Lib.hid (rdigit_any ((s[k].toNat : Nat) : Int))
  rw [hQ] at kl kd
  have kl2 : Hid (∀ W, Calls Tryd.prog 24 #[.int .u8 39] W (Bel (.bool false) W)) := kl
  have kd2 : Hid (∀ W, Calls Tryd.prog 39 #[.int .u8 39] W (Bel (.bool false) W)) := kd
  clear kl kd
  have HC := Lib.hid (fun j => @spd_at pW s (k + 1) j)
  have HE := Lib.hid (fun j => @spd_end pW s (k + 1) j)
  rw [hm] at HC HE
  have hle := spd_le pW s (k + 1) (by omega)
  rw [hm] at hle
  obtain ⟨V, hV⟩ : ∃ V : Value, (if (s.data.toList.drop (k + 1 + m)).head? = some 39 then .tuple #[tok 5 (s.extract (k + 1) (k + 1 + m)) k, .int .i64 ((k + 1 + m + 1 : Nat) : Int), .int .i64 0] else .tuple #[tok 0 ⟨#[]⟩ 0, .int .i64 0, .int .i64 5]) = V := ⟨_, rfl⟩
  rw [hV]
  obtain ⟨a, ha⟩ : ∃ a, k + 1 = a := ⟨_, rfl⟩
  rw [ha] at hV hle hm HC HE
  have VN : Hid (¬ a + m < s.size → V = .tuple #[tok 0 ⟨#[]⟩ 0, .int .i64 0, .int .i64 5]) := Lib.hid fun h => by
    rw [← hV, drop_end h]; rfl
  have VX : Hid (∀ h : a + m < s.size, (((s[a + m].toNat : Nat) : Int) == 39) = false → V = .tuple #[tok 0 ⟨#[]⟩ 0, .int .i64 0, .int .i64 5]) := Lib.hid fun h hx => by
    rw [← hV, drop_cons_at h, List.head?_cons, if_neg]
    intro e
    have e2 : s[a + m] = 39 := by simpa using e
    rw [e2] at hx
    cases hx
  have VY : Hid (∀ h : a + m < s.size, (((s[a + m].toNat : Nat) : Int) == 39) = true → V = .tuple #[tok 5 (s.extract a (a + m)) k, .int .i64 ((a + m + 1 : Nat) : Int), .int .i64 0]) := Lib.hid fun h hx => by
    have e2 : s[a + m] = 39 := by
      apply UInt8.toNat_inj.1
      show s[a + m].toNat = 39
      have := beq_iff_eq.1 hx
      omega
    rw [← hV, drop_cons_at h, List.head?_cons, if_pos (by rw [e2])]
  clear hV
  have f1 : (0 : Int) ≤ (k : Int) := by omega
  have f2 : (k : Int) < (s.size : Int) := by omega
  have f3 : (k : Int) + 1 = (a : Int) := by omega
  have f4 : IntKind.i64.wrap (a : Int) = (a : Int) := Go.IntWalk.i64_in _ ⟨by omega, by omega⟩
  clear hm
  go_enter Tryd.func22, Tryd.ntmps22
  go_wp2_with (first
    | (go_at_call 24; (with_reducible refine (kl2.out _).mono ?_); rintro e w1 ⟨rfl, hb1⟩)
    | (go_at_call 39; (with_reducible refine (kd2.out _).mono ?_); rintro e w2 ⟨rfl, hb2⟩; obtain ⟨q0, q1, q2, q3, q4, q5, q6⟩ := rest (w := w) (W := w2) (t := 30) (s0 := ⟨#[]⟩) (by repeat (first | (with_reducible exact Below.refl _ _) | (with_reducible assumption) | (with_reducible exact bel_box _) | (with_reducible refine bel_step ?_ (by with_reducible assumption)) | (with_reducible refine Below.drew ?_) | (with_reducible refine below_drewN ?_ _) | (with_reducible refine bel_alloc ?_ _))); have HB : Hid (Below w.heap.size w w2) := Lib.hid (by repeat (first | (with_reducible exact Below.refl _ _) | (with_reducible assumption) | (with_reducible exact bel_box _) | (with_reducible refine bel_step ?_ (by with_reducible assumption)) | (with_reducible refine Below.drew ?_) | (with_reducible refine below_drewN ?_ _) | (with_reducible refine bel_alloc ?_ _))); clear hb1 hb2))
  go_loopw [13] (fun i wr => ∃ j : Nat, j ≤ m ∧ i = .int .i64 ((a + j : Nat) : Int) ∧ wr = w2) (fun i _ => a + m - (intOf i).toNat)
  case atStart => exact ⟨0, by omega, by simp, rfl⟩
  case round =>
    obtain ⟨j, hj, rfl, rfl⟩ := hrel
    by_cases hlt : j < m
    · obtain ⟨h, e1⟩ := HC.out (a + j) (by omega) (by omega)
      have u3 : ((a + j : Nat) : Int) < (s.size : Int) := by omega
      have u4 : (0 : Int) ≤ ((a + j : Nat) : Int) := by omega
      rcases pW_yes e1 with e2 | ⟨e2, e3⟩ | ⟨e2, e3, e4⟩ | ⟨e2, e3, e4, e5⟩
      all_goals
        clear e1 HC HE VN VX VY
        go_wp2
        exact ⟨⟨j + 1, by omega, by congr 1, trivial⟩, by simp [intOf]; omega⟩
    · obtain rfl : j = m := by omega
      by_cases h : a + j < s.size
      · have e1 := HE.out (a + j) (by omega) (by omega) h
        obtain ⟨e2, e3, e4, e5⟩ := pW_not e1
        have u3 : ((a + j : Nat) : Int) < (s.size : Int) := by omega
        have u4 : (0 : Int) ≤ ((a + j : Nat) : Int) := by omega
        have u5 : (((a + j : Nat) : Int) == (s.size : Int)) = false := by rw [beq_eq_false_iff_ne]; omega
        cases e6 : (((s[a + j].toNat : Nat) : Int) == 39)
        · obtain rfl := VX.out h e6
          have e7 : (((s[a + j].toNat : Nat) : Int) != 39) = true := by rw [bne, e6]; rfl
          clear VX VY VN HC HE e1
          go_wp2
          obtain ⟨k0, k1, k2⟩ := set3_cells q0 q1 q2 (.int .i64 0) (.string ⟨#[]⟩) (.int .i64 0)
          refine bodyPost_ret (v := .tuple #[tok 0 ⟨#[]⟩ 0, .int .i64 0, .int .i64 5]) (by simp [results, Tryd.results22, go_sem, tok, k0, k1, k2]) rfl ?_
          exact ⟨rfl, bel_set3 HB.out (Nat.le_refl _) _ _ _⟩
        · obtain rfl := VY.out h e6
          have e7 : (((s[a + j].toNat : Nat) : Int) != 39) = false := by rw [bne, e6]; rfl
          clear VX VY VN HC HE e1
          obtain ⟨z, hz⟩ : ∃ z, a + j = z := ⟨_, rfl⟩
          have u6 : (a : Int) ≤ (z : Int) := by omega
          have u7 : (0 : Int) ≤ (a : Int) := by omega
          have u10 : (z : Int) ≤ (s.size : Int) := by omega
          have u9 : IntKind.i64.wrap ((z : Int) + 1) = (z : Int) + 1 := Go.IntWalk.i64_in _ ⟨by omega, by omega⟩
          simp only [hz] at h u3 u4 u5 e2 e3 e4 e5 e6 e7 ⊢
          go_wp2
          obtain ⟨k0, k1, k2⟩ := set3_cells q0 q1 q2 (.int .i64 5) (.string (s.extract a z)) (.int .i64 k)
          refine bodyPost_ret (v := .tuple #[tok 5 (s.extract a z) k, .int .i64 ((z : Int) + 1), .int .i64 0]) (by simp [results, Tryd.results22, go_sem, tok, k0, k1, k2]) rfl ?_
          exact ⟨by rw [hz]; rfl, bel_set3 HB.out (Nat.le_refl _) _ _ _⟩
      · obtain rfl := VN.out h
        have u5 : (((a + j : Nat) : Int) == (s.size : Int)) = true := by rw [beq_iff_eq]; omega
        have u6 : (s.size : Int) ≤ ((a + j : Nat) : Int) := by omega
        clear VX VY VN HC HE
        go_wp2
        obtain ⟨k0, k1, k2⟩ := set3_cells q0 q1 q2 (.int .i64 0) (.string ⟨#[]⟩) (.int .i64 0)
        refine bodyPost_ret (v := .tuple #[tok 0 ⟨#[]⟩ 0, .int .i64 0, .int .i64 5]) (by simp [results, Tryd.results22, go_sem, tok, k0, k1, k2]) rfl ?_
        exact ⟨rfl, bel_set3 HB.out (Nat.le_refl _) _ _ _⟩
end Go.Proofs.YtbnddbhfnpdjeaaDoor
