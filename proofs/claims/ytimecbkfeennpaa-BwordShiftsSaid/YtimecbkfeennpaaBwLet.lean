/- BwordLetters: the walk. -/
import Derived.Test.YtimecbkfeennpaaBwAwake
namespace Go.Proofs.Ytimecbkfeennpaa
set_option linter.unusedVariables false
set_option linter.unusedSimpArgs false
open Go.RowKit
theorem oc_head (h l : List Bool) : ∀ k, k ≤ h.length → oc h l k = cntTo h k := by
  intro k
  induction k with
  | zero => intro _; simp [oc, cntTo, cnt]
  | succ k ih =>
    intro hk
    have e : h[k]? = some (h[k]'hk) := List.getElem?_eq_getElem hk
    rw [oc, ih (by omega), cntTo_succ e, lt_lo l (show k < h.length by omega), gb_of e]
theorem oc_loop (h l : List Bool) : ∀ j, j ≤ l.length → oc h l (h.length + j) = cnt h + cntTo l j := by
  intro j
  induction j with
  | zero =>
    intro _
    rw [Nat.add_zero, oc_head h l _ (Nat.le_refl _), cntTo, List.take_length]
    simp [cntTo, cnt]
  | succ j ih =>
    intro hj
    have e : l[j]? = some (l[j]'hj) := List.getElem?_eq_getElem hj
    rw [← Nat.add_assoc, oc, ih (by omega), cntTo_succ e, lt_hi, Nat.mod_eq_of_lt hj, gb_of e]
    omega
theorem onesN_oc (h l : List Bool) (k : Nat) (h0 : 0 < l.length) : onesN h l k = oc h l k := by
  unfold onesN
  split
  · rename_i hk
    rw [oc_head h l k hk, cntTo]
  · rename_i hk
    have hd := Nat.div_add_mod (k - h.length) l.length
    have hm := Nat.mod_lt (k - h.length) h0
    have e : k = h.length + (k - h.length) % l.length + (k - h.length) / l.length * l.length := by
      rw [Nat.mul_comm] at hd
      omega
    have t := oc_turn h l ((k - h.length) / l.length) (h.length + (k - h.length) % l.length) (by omega)
    rw [← e] at t
    rw [t, oc_loop h l _ (by omega), oc_loop h l _ (Nat.le_refl _), oc_head h l _ (Nat.le_refl _)]
    simp only [cntTo, List.take_length, Nat.add_sub_cancel_left]
    omega
/-- the ones that the law counts -/
def cc (h l : List Bool) (k : Nat) : Nat := if ck h l = 0 then oc h l k else 0
theorem ones_cc (h l : List Bool) (k : Nat) : ones h l (k : Int) = (cc h l k : Int) := by
  by_cases h1 : ck h l = 0
  · rw [cc, if_pos h1]
    rcases Nat.eq_zero_or_pos k with h0 | h0
    · subst h0
      rw [ones_no (by omega)]
      rfl
    · rw [ones_yes h1 h0, onesN_oc h l k (lens h1).1]
  · rw [cc, if_neg h1, ones_no (fun h => h1 h.1)]
    rfl
theorem cc_succ (h l : List Bool) (k : Nat) : cc h l (k + 1) = cc h l k + if att h l (k : Int) then 1 else 0 := by
  by_cases h1 : ck h l = 0
  · rw [cc, cc, if_pos h1, if_pos h1, oc, att_yes h1]
  · rw [cc, cc, if_neg h1, if_neg h1, att_no (fun h => h1 h.1)]
    rfl
theorem cc_le (h l : List Bool) (k : Nat) : cc h l k ≤ k := by
  unfold cc
  split
  · exact oc_le h l k
  · exact Nat.zero_le _
set_option maxHeartbeats 2000000 in
set_option maxRecDepth 100000 in
theorem letters_any (A B : Option Addr) (c d : Nat) (i n : Int) (h l : List Bool) (w : World) (hA : Rd w w.heap.size A (bls h)) (hB : Rd w w.heap.size B (bls l))
    (hh : h.length ≤ 140737488355328) (hl : l.length ≤ 140737488355328) (hc : h.length ≤ c) (hd : l.length ≤ d) (hi : i ≤ 9223372036854775807) (hn : n ≤ 9223372036854775807) :
    Calls Try.prog 3 #[.agg #[.slice A h.length c, .slice B l.length d], .int .i64 i, .int .i64 n] w (Bel (.bool true) w) := by
  have HA := Lib.hid hA
  have HB := Lib.hid hB
  clear hA hB
  have hug := Lib.hid (huge_any A B c d h l)
  have aw := Lib.hid awake_any
  by_cases hg : decide (h.length + l.length > 300) = true
  · go_enter Try.func3, Try.ntmps3
    go_wp2_with (first
      | (go_at_call 10; refine (hug.out _ hh hl).mono ?_; rintro e w1 ⟨rfl, hb1⟩; rw [hg])
      | (go_at_call 11; refine (aw.out _).mono ?_; rintro e w2 ⟨rfl, hb2⟩))
    go_ret
    exact ⟨rfl, (by repeat (first | (with_reducible exact Below.refl _ _) | (with_reducible assumption) | (with_reducible exact bel_box _) | (with_reducible refine bel_step ?_ (by with_reducible assumption)) | (with_reducible refine Below.drew ?_) | (with_reducible refine below_drewN ?_ _) | (with_reducible refine bel_alloc ?_ _)))⟩
  · rw [Bool.not_eq_true] at hg
    have k1 := Lib.hid (check_any A B c d h l)
    have k2 := Lib.hid (rcheck_any A B c d h l)
    have k3 := Lib.hid (fun i => at_any A B c d i h l)
    have k4 := Lib.hid (fun i => rat_any A B c d i h l)
    have k5 := Lib.hid (fun i => ones_any A B c d i h l)
    have k6 := Lib.hid (fun i => rones_any A B c d i h l)
    go_enter Try.func3, Try.ntmps3
    go_wp2_with (first
      | (go_at_call 10; refine (hug.out _ hh hl).mono ?_; rintro e w1 ⟨rfl, hb1⟩; rw [hg]))
    obtain ⟨s1, s2⟩ := box2 hb1
    go_region_held3 (fun w' => w'.cell? ⟨w.heap.size, 0, none⟩ = some (.slice A h.length c) ∧ w'.cell? ⟨w.heap.size, 1, none⟩ = some (.slice B l.length d))
      ((refine box2 (t := 24) ?_; (repeat (first | (with_reducible exact Below.refl _ _) | (with_reducible assumption) | (with_reducible exact bel_box _) | (with_reducible refine bel_step ?_ (by with_reducible assumption)) | (with_reducible refine Below.drew ?_) | (with_reducible refine below_drewN ?_ _) | (with_reducible refine bel_alloc ?_ _))); done))
      (first
        | (go_at_call 12; refine (k1.out _ hh hl).mono ?_; rintro e w2 ⟨rfl, hb2⟩)
        | (go_at_call 13; refine (k2.out _ hh hl).mono ?_; rintro e w3 ⟨rfl, hb3⟩)
        | (go_at_call 14; refine (k3.out _ _ (HA.out.to ?_) (HB.out.to ?_) hh hl hi).mono ?_; (focus ((repeat (first | (with_reducible exact Below.refl _ _) | (with_reducible assumption) | (with_reducible exact bel_box _) | (with_reducible refine bel_step ?_ (by with_reducible assumption)) | (with_reducible refine Below.drew ?_) | (with_reducible refine below_drewN ?_ _) | (with_reducible refine bel_alloc ?_ _))); done)); (focus ((repeat (first | (with_reducible exact Below.refl _ _) | (with_reducible assumption) | (with_reducible exact bel_box _) | (with_reducible refine bel_step ?_ (by with_reducible assumption)) | (with_reducible refine Below.drew ?_) | (with_reducible refine below_drewN ?_ _) | (with_reducible refine bel_alloc ?_ _))); done)); rintro e w4 ⟨rfl, hb4⟩)
        | (go_at_call 15; refine (k4.out _ _ (HA.out.to ?_) (HB.out.to ?_) hh hl hi).mono ?_; (focus ((repeat (first | (with_reducible exact Below.refl _ _) | (with_reducible assumption) | (with_reducible exact bel_box _) | (with_reducible refine bel_step ?_ (by with_reducible assumption)) | (with_reducible refine Below.drew ?_) | (with_reducible refine below_drewN ?_ _) | (with_reducible refine bel_alloc ?_ _))); done)); (focus ((repeat (first | (with_reducible exact Below.refl _ _) | (with_reducible assumption) | (with_reducible exact bel_box _) | (with_reducible refine bel_step ?_ (by with_reducible assumption)) | (with_reducible refine Below.drew ?_) | (with_reducible refine below_drewN ?_ _) | (with_reducible refine bel_alloc ?_ _))); done)); rintro e w5 ⟨rfl, hb5⟩)
        | (go_at_call 16; refine (k5.out _ _ (HA.out.to ?_) (HB.out.to ?_) hh hl hc hd hn).mono ?_; (focus ((repeat (first | (with_reducible exact Below.refl _ _) | (with_reducible assumption) | (with_reducible exact bel_box _) | (with_reducible refine bel_step ?_ (by with_reducible assumption)) | (with_reducible refine Below.drew ?_) | (with_reducible refine below_drewN ?_ _) | (with_reducible refine bel_alloc ?_ _))); done)); (focus ((repeat (first | (with_reducible exact Below.refl _ _) | (with_reducible assumption) | (with_reducible exact bel_box _) | (with_reducible refine bel_step ?_ (by with_reducible assumption)) | (with_reducible refine Below.drew ?_) | (with_reducible refine below_drewN ?_ _) | (with_reducible refine bel_alloc ?_ _))); done)); rintro e w6 ⟨rfl, hb6⟩)
        | (go_at_call 17; refine (k6.out _ _ (HA.out.to ?_) (HB.out.to ?_) hh hl hc hd hn).mono ?_; (focus ((repeat (first | (with_reducible exact Below.refl _ _) | (with_reducible assumption) | (with_reducible exact bel_box _) | (with_reducible refine bel_step ?_ (by with_reducible assumption)) | (with_reducible refine Below.drew ?_) | (with_reducible refine below_drewN ?_ _) | (with_reducible refine bel_alloc ?_ _))); done)); (focus ((repeat (first | (with_reducible exact Below.refl _ _) | (with_reducible assumption) | (with_reducible exact bel_box _) | (with_reducible refine bel_step ?_ (by with_reducible assumption)) | (with_reducible refine Below.drew ?_) | (with_reducible refine below_drewN ?_ _) | (with_reducible refine bel_alloc ?_ _))); done)); rintro e w7 ⟨rfl, hb7⟩))
    have hbw : Below (w.alloc (.cells #[.slice A h.length c, .slice B l.length d] 24)).heap.size (w.alloc (.cells #[.slice A h.length c, .slice B l.length d] 24)) w7 := (by repeat (first | (with_reducible exact Below.refl _ _) | (with_reducible assumption) | (with_reducible exact bel_box _) | (with_reducible refine bel_step ?_ (by with_reducible assumption)) | (with_reducible refine Below.drew ?_) | (with_reducible refine below_drewN ?_ _) | (with_reducible refine bel_alloc ?_ _)))
    clear hb1 hb2 hb3 hb4 hb5 hb6 hb7 s1 s2
    go_wp2
    go_loopw [7, 8] (fun n i wr => ∃ k : Nat, k ≤ 150 ∧ i = .int .i64 k ∧ n = .int .i64 (cc h l k : Nat) ∧ Below (w.alloc (.cells #[.slice A h.length c, .slice B l.length d] 24)).heap.size (w.alloc (.cells #[.slice A h.length c, .slice B l.length d] 24)) wr) (fun _ i _ => 150 - (intOf i).toNat)
    case atStart => exact ⟨0, by omega, rfl, by rw [show cc h l 0 = 0 by have := cc_le h l 0; omega]; rfl, hbw⟩
    case round =>
      obtain ⟨k, hk, rfl, rfl, hbl⟩ := hrel
      have hcl := cc_le h l k
      by_cases hlt : k < 150
      · have hcs := cc_succ h l k
        have hn1 : (k : Int) ≤ 9223372036854775807 := by omega
        obtain ⟨x, hx⟩ : ∃ x, att h l (k : Int) = x := ⟨_, rfl⟩
        rw [hx] at hcs
        have HCS := Lib.hid hcs
        have HX := Lib.hid hx
        clear hcs hx
        obtain ⟨s1, s2⟩ := box2 hbl
        cases x
        all_goals
          go_wp2_with (first
            | (go_at_call 16; refine (k5.out _ _ (HA.out.to ?_) (HB.out.to ?_) hh hl hc hd hn1).mono ?_; (focus ((repeat (first | (with_reducible exact Below.refl _ _) | (with_reducible assumption) | (with_reducible exact bel_box _) | (with_reducible refine bel_step ?_ (by with_reducible assumption)) | (with_reducible refine Below.drew ?_) | (with_reducible refine below_drewN ?_ _) | (with_reducible refine bel_alloc ?_ _))); done)); (focus ((repeat (first | (with_reducible exact Below.refl _ _) | (with_reducible assumption) | (with_reducible exact bel_box _) | (with_reducible refine bel_step ?_ (by with_reducible assumption)) | (with_reducible refine Below.drew ?_) | (with_reducible refine below_drewN ?_ _) | (with_reducible refine bel_alloc ?_ _))); done)); rintro e w8 ⟨rfl, hb8⟩; rw [ones_cc]; obtain ⟨t1, t2⟩ := box2 (bel_step hbl hb8))
            | (go_at_call 14; refine (k3.out _ _ (HA.out.to ?_) (HB.out.to ?_) hh hl hn1).mono ?_; (focus ((repeat (first | (with_reducible exact Below.refl _ _) | (with_reducible assumption) | (with_reducible exact bel_box _) | (with_reducible refine bel_step ?_ (by with_reducible assumption)) | (with_reducible refine Below.drew ?_) | (with_reducible refine below_drewN ?_ _) | (with_reducible refine bel_alloc ?_ _))); done)); (focus ((repeat (first | (with_reducible exact Below.refl _ _) | (with_reducible assumption) | (with_reducible exact bel_box _) | (with_reducible refine bel_step ?_ (by with_reducible assumption)) | (with_reducible refine Below.drew ?_) | (with_reducible refine below_drewN ?_ _) | (with_reducible refine bel_alloc ?_ _))); done)); rintro e w9 ⟨rfl, hb9⟩; rw [HX.out]))
          go_roundw
          case rel => exact ⟨k + 1, by omega, by go_num, by rw [HCS.out]; simp, bel_step (bel_step hbl hb8) hb9⟩
          case measure => simp [intOf]; omega
      · go_wp2_with (go_at_call 11; refine (aw.out _).mono ?_; rintro e w8 ⟨rfl, hb8⟩)
        go_ret
        exact ⟨rfl, (by repeat (first | (with_reducible exact Below.refl _ _) | (with_reducible assumption) | (with_reducible exact bel_box _) | (with_reducible refine bel_step ?_ (by with_reducible assumption)) | (with_reducible refine Below.drew ?_) | (with_reducible refine below_drewN ?_ _) | (with_reducible refine bel_alloc ?_ _)))⟩
end Go.Proofs.Ytimecbkfeennpaa
