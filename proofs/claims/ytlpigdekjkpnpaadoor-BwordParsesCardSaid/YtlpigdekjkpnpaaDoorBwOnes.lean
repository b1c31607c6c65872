/- Ones of package bword and of the reference, for every word and number. -/
import Derived.Test.YtlpigdekjkpnpaaDoorBwA
import Derived.Deep.RegionHeld3
namespace Go.Proofs.YtlpigdekjkpnpaaDoor
set_option linter.unusedVariables false
set_option linter.unusedSimpArgs false
open Go.RowKit
theorem q1 {P : Program} {f : FuncId} {args : Array Value} {w : World} {n : Nat} {v : Value} (h : Calls P f args (w.drewN n) fun e w' => e = .returned v ∧ w.drewN n = w') : Calls P f args (w.drewN n) fun e w'' => e = .returned v ∧ ∃ m, w'' = w.drewN m :=
  h.mono fun _ _ ⟨he, hm⟩ => ⟨he, n, hm.symm⟩
theorem q2 {P : Program} {f : FuncId} {args : Array Value} {w : World} {a n : Nat} {v : Value} (h : Calls P f args (w.drewN (a + n)) fun e w' => e = .returned v ∧ w.drewN (a + n) = w') : Calls P f args (w.drewN (a + n)) fun e w'' => e = .returned v ∧ ∃ m, w'' = w.drewN (a + m) :=
  h.mono fun _ _ ⟨he, hm⟩ => ⟨he, n, hm.symm⟩
def onesN (h l : List Bool) (n : Nat) : Nat := if n ≤ h.length then cnt (h.take n) else cnt h + (n - h.length) / l.length * cnt l + cnt (l.take ((n - h.length) % l.length))
def ones (h l : List Bool) (n : Int) : Int := if ck h l = 0 ∧ 1 ≤ n then onesN h l n.toNat else 0
theorem ones_yes {h l : List Bool} {k : Nat} (h1 : ck h l = 0) (h2 : 1 ≤ k) : ones h l k = onesN h l k := by rw [ones, if_pos ⟨h1, by omega⟩, Int.toNat_natCast]
theorem ones_no {h l : List Bool} {i : Int} (h1 : ¬ (ck h l = 0 ∧ 1 ≤ i)) : ones h l i = 0 := by rw [ones, if_neg h1]
theorem cnt_le (l : List Bool) : cnt l ≤ l.length := List.count_le_length
theorem turns_le (l : List Bool) (r : Nat) : r / l.length * cnt l ≤ r := Nat.le_trans (Nat.mul_le_mul_left _ (cnt_le l)) (Nat.div_mul_le_self _ _)
theorem count_n (A : Option Addr) (c n : Nat) (l : List Bool) (w : World) (hn : l.length = n) (hA : Rd w w.heap.size A (bls l)) (hl : l.length ≤ 140737488355328) :
    Calls Tryd.prog 30 #[.slice A n c] w fun e w' => e = .returned (.int .i64 (cnt l : Nat)) ∧ w = w' := by subst hn; exact count_any A c l w hA hl
set_option maxHeartbeats 1000000 in
theorem ones_any (A B : Option Addr) (c d : Nat) (i : Int) (h l : List Bool) (w : World) (hA : Rd w w.heap.size A (bls h)) (hB : Rd w w.heap.size B (bls l))
    (hh : h.length ≤ 140737488355328) (hl : l.length ≤ 140737488355328) (hc : h.length ≤ c) (hd : l.length ≤ d) (hi : i ≤ 9223372036854775807) :
    Calls Tryd.prog 16 #[.agg #[.slice A h.length c, .slice B l.length d], .int .i64 i] w (Bel (.int .i64 (ones h l i)) w) := by
  have HA := Lib.hid hA
  have HB := Lib.hid hB
  clear hA hB
  have chk := Lib.hid (check_any A B c d h l)
  by_cases h1 : ck h l = 0
  · have hk := lens h1
    have hd1 : (ck h l != 0) = false := by simp [h1]
    by_cases h2 : 1 ≤ i
    · obtain ⟨k, rfl⟩ := Int.eq_ofNat_of_zero_le (show 0 ≤ i by omega)
      rw [ones_yes h1 (by omega)]
      clear h1
      by_cases h3 : k ≤ h.length
      · rw [onesN, if_pos h3]
        have hlen : (h.take k).length = k := by simp; omega
        have HL := Lib.hid hlen
        clear hlen
        go_enter Tryd.func16, Tryd.ntmps16
        go_wp2_with (first
          | (go_at_call 17; refine (chk.out _ hh hl).mono ?_; rintro e w1 ⟨rfl, hb1⟩; obtain ⟨hc1, hf1, hz1⟩ := bcell hb1; try simp at hz1)
          | (go_at_call 30; refine (count_n _ _ _ (h.take k) _ HL.out ((HA.out.to (by repeat (first | (with_reducible exact Below.refl _ _) | (with_reducible assumption) | (with_reducible exact bel_box _) | (with_reducible refine bel_step ?_ (by with_reducible assumption)) | (with_reducible refine Below.drew ?_) | (with_reducible refine below_drewN ?_ _) | (with_reducible refine bel_alloc ?_ _)))).cut k) (by rw [HL.out]; omega)).mono ?_; rintro e w2 ⟨rfl, rfl⟩))
        go_ret
        exact ⟨rfl, (by repeat (first | (with_reducible exact Below.refl _ _) | (with_reducible assumption) | (with_reducible exact bel_box _) | (with_reducible refine bel_step ?_ (by with_reducible assumption)) | (with_reducible refine Below.drew ?_) | (with_reducible refine below_drewN ?_ _) | (with_reducible refine bel_alloc ?_ _)))⟩
      · rw [onesN, if_neg h3]
        obtain ⟨x, rfl⟩ : ∃ x, k = h.length + x := ⟨k - h.length, by omega⟩
        rw [Nat.add_sub_cancel_left]
        obtain ⟨t, ht⟩ : ∃ t, t = x / l.length := ⟨_, rfl⟩
        obtain ⟨r, hr⟩ : ∃ r, r = x % l.length := ⟨_, rfl⟩
        rw [← ht, ← hr]
        have hr2 : r < l.length := by rw [hr]; exact Nat.mod_lt _ hk.1
        have htx : t ≤ x := by rw [ht]; exact Nat.div_le_self _ _
        have htC : t * cnt l + r ≤ x := by
          have e := Nat.div_add_mod x l.length
          have e2 : t * cnt l ≤ l.length * t := by rw [Nat.mul_comm]; exact Nat.mul_le_mul_right _ (cnt_le l)
          rw [← ht, ← hr] at e
          omega
        have hlen : (l.take r).length = r := by simp; omega
        have HL := Lib.hid hlen
        have e0 : (h.length : Int) + (x : Int) - (h.length : Int) = (x : Int) := by omega
        have e1 : (x : Int) / (l.length : Int) = (t : Int) := by rw [ht]; rfl
        have e2 : (x : Int) % (l.length : Int) = (r : Int) := by rw [hr]; rfl
        have hne : ¬ ((l.length : Int) = 0) := by omega
        clear hlen ht hr
        obtain ⟨C, hC⟩ : ∃ C, C = cnt l := ⟨_, rfl⟩
        obtain ⟨X, hX⟩ : ∃ X, X = t * cnt l := ⟨_, rfl⟩
        rw [← hX] at htC ⊢
        have e3 : (t : Int) * (cnt l : Int) = (X : Int) := by rw [← Int.natCast_mul, ← hX]
        clear hX
        have c1 := cnt_le h
        have c2 : cnt (l.take r) ≤ r := by have := cnt_le (l.take r); rw [HL.out] at this; exact this
        go_enter Tryd.func16, Tryd.ntmps16
        go_wp2_with (first
          | (go_at_call 17; refine (chk.out _ hh hl).mono ?_; rintro e w1 ⟨rfl, hb1⟩; obtain ⟨hc1, hf1, hz1⟩ := bcell hb1; try simp at hz1))
        go_quiet (fail)
        go_wp2
        have e4 : (r : Int) ≤ (d : Int) := by omega
        have e5 : (0 : Int) ≤ (r : Int) := by omega
        go_quiet (first
          | (go_at_call_of 30 (Value.slice A h.length c); exact q2 (count_n _ _ _ h _ rfl (HA.out.to (by repeat (first | (with_reducible exact Below.refl _ _) | (with_reducible assumption) | (with_reducible exact bel_box _) | (with_reducible refine bel_step ?_ (by with_reducible assumption)) | (with_reducible refine Below.drew ?_) | (with_reducible refine below_drewN ?_ _) | (with_reducible refine bel_alloc ?_ _)))) hh))
          | (go_at_call_of 30 (Value.slice B l.length d); exact q2 (count_n _ _ _ l _ rfl (HB.out.to (by repeat (first | (with_reducible exact Below.refl _ _) | (with_reducible assumption) | (with_reducible exact bel_box _) | (with_reducible refine bel_step ?_ (by with_reducible assumption)) | (with_reducible refine Below.drew ?_) | (with_reducible refine below_drewN ?_ _) | (with_reducible refine bel_alloc ?_ _)))) hl))
          | (go_at_call 30; exact q2 (count_n _ _ _ (l.take r) _ HL.out ((HB.out.to (by repeat (first | (with_reducible exact Below.refl _ _) | (with_reducible assumption) | (with_reducible exact bel_box _) | (with_reducible refine bel_step ?_ (by with_reducible assumption)) | (with_reducible refine Below.drew ?_) | (with_reducible refine below_drewN ?_ _) | (with_reducible refine bel_alloc ?_ _)))).cut r) (by rw [HL.out]; omega))))
        go_wp2
        go_ret
        exact ⟨ret_int (by simp), (by repeat (first | (with_reducible exact Below.refl _ _) | (with_reducible assumption) | (with_reducible exact bel_box _) | (with_reducible refine bel_step ?_ (by with_reducible assumption)) | (with_reducible refine Below.drew ?_) | (with_reducible refine below_drewN ?_ _) | (with_reducible refine bel_alloc ?_ _)))⟩
    · rw [ones_no (by omega)]
      clear h1
      go_enter Tryd.func16, Tryd.ntmps16
      go_wp2_with (first
        | (go_at_call 17; refine (chk.out _ hh hl).mono ?_; rintro e w1 ⟨rfl, hb1⟩; obtain ⟨hc1, hf1, hz1⟩ := bcell hb1; try simp at hz1))
      go_ret
      exact ⟨rfl, (by repeat (first | (with_reducible exact Below.refl _ _) | (with_reducible assumption) | (with_reducible exact bel_box _) | (with_reducible refine bel_step ?_ (by with_reducible assumption)) | (with_reducible refine Below.drew ?_) | (with_reducible refine below_drewN ?_ _) | (with_reducible refine bel_alloc ?_ _)))⟩
  · rw [ones_no (by omega)]
    have hd1 : (ck h l != 0) = true := by simp [h1]
    clear h1
    go_enter Tryd.func16, Tryd.ntmps16
    go_wp2_with (first
      | (go_at_call 17; refine (chk.out _ hh hl).mono ?_; rintro e w1 ⟨rfl, hb1⟩; obtain ⟨hc1, hf1, hz1⟩ := bcell hb1; try simp at hz1))
    go_ret
    exact ⟨rfl, (by repeat (first | (with_reducible exact Below.refl _ _) | (with_reducible assumption) | (with_reducible exact bel_box _) | (with_reducible refine bel_step ?_ (by with_reducible assumption)) | (with_reducible refine Below.drew ?_) | (with_reducible refine below_drewN ?_ _) | (with_reducible refine bel_alloc ?_ _)))⟩
end Go.Proofs.YtlpigdekjkpnpaaDoor
