/- What the small functions of package bword, and their references, return for every word: Check, letter, At, count, huge. -/
import Derived.Test.YtimecbkfeennpaaMem
namespace Go.Proofs.Ytimecbkfeennpaa
set_option linter.unusedVariables false
set_option linter.unusedSimpArgs false
open Go.RowKit
theorem ret_int {k : IntKind} {a b : Int} (h : a = b) : Ending.returned (.int k a) = .returned (.int k b) := by rw [h]
theorem ret_bool {a b : Bool} (h : a = b) : Ending.returned (.bool a) = .returned (.bool b) := by rw [h]
/-- the error of a word -/
def ck (h l : List Bool) : Int := if l.length = 0 then 5 else if h.length + l.length > 64 then 3 else 0
/-- letter i -/
def lt (h l : List Bool) (i : Nat) : Bool := if i < h.length then h[i]?.getD false else l[(i - h.length) % l.length]?.getD false
def cnt (l : List Bool) : Nat := l.count true
theorem lens {h l : List Bool} (hc : ck h l = 0) : 0 < l.length ∧ h.length + l.length ≤ 64 := by
  unfold ck at hc
  split at hc
  · omega
  · split at hc <;> omega
def Bel (v : Value) (w : World) (e : Ending) (w' : World) : Prop := e = .returned v ∧ Below w.heap.size w w'
theorem bel_drew {w : World} (k : Nat) : Below w.heap.size w (w.drewN k) := below_drewN (Below.refl _ _) k
theorem check_any (A B : Option Addr) (c d : Nat) (h l : List Bool) (w : World) (hh : h.length ≤ 140737488355328) (hl : l.length ≤ 140737488355328) :
    Calls Try.prog 12 #[.agg #[.slice A h.length c, .slice B l.length d]] w (Bel (.int .i64 (ck h l)) w) := by
  go_enter Try.func12, Try.ntmps12
  go_wp2
  all_goals go_ret
  all_goals refine ⟨ret_int ?_, bel_box _⟩
  all_goals unfold ck
  · rw [if_pos (by simp_all)]
  · rw [if_neg (by simp_all), if_pos (by omega)]
  · rw [if_neg (by simp_all), if_neg (by omega)]
theorem rcheck_any (A B : Option Addr) (c d : Nat) (h l : List Bool) (w : World) (hh : h.length ≤ 140737488355328) (hl : l.length ≤ 140737488355328) :
    Calls Try.prog 13 #[.agg #[.slice A h.length c, .slice B l.length d]] w (Bel (.int .i64 (ck h l)) w) := by
  go_enter Try.func13, Try.ntmps13
  go_wp2
  all_goals go_ret
  all_goals refine ⟨ret_int ?_, bel_box _⟩
  all_goals unfold ck
  · rw [if_pos (by simp_all)]
  · rw [if_neg (by simp_all), if_pos (by omega)]
  · rw [if_neg (by simp_all), if_neg (by omega)]
theorem huge_any (A B : Option Addr) (c d : Nat) (h l : List Bool) (w : World) (hh : h.length ≤ 140737488355328) (hl : l.length ≤ 140737488355328) :
    Calls Try.prog 10 #[.agg #[.slice A h.length c, .slice B l.length d]] w (Bel (.bool (decide (h.length + l.length > 300))) w) := by
  go_enter Try.func10, Try.ntmps10
  go_wp2
  go_ret
  refine ⟨ret_bool ?_, bel_box _⟩
  rw [decide_eq_decide]
  omega
theorem letter_any (A B : Option Addr) (c d i : Nat) (h l : List Bool) (w : World) (hA : Rd w w.heap.size A (bls h)) (hB : Rd w w.heap.size B (bls l)) (h0 : 0 < l.length)
    (hh : h.length ≤ 140737488355328) (hl : l.length ≤ 140737488355328) (hi : i ≤ 9223372036854775807) :
    Calls Try.prog 34 #[.agg #[.slice A h.length c, .slice B l.length d], .int .i64 i] w (Bel (.bool (lt h l i)) w) := by
  by_cases hlt : i < h.length
  · obtain ⟨ad, b, rfl, hb, hx, hc⟩ := hA.bool_at hlt
    have e : lt h l i = b := by rw [lt, if_pos hlt, hx]; rfl
    rw [e]
    have hc2 : (w.alloc (.cells #[.slice (some ad) h.length c, .slice B l.length d] 24)).cell? (ad.add i) = some (.bool b) := by
      rw [World.cell?_alloc_lt _ _ _ (by rw [add_block]; omega)]; exact hc
    clear hA hB hx hc e
    go_enter Try.func34, Try.ntmps34
    go_wp2
    go_ret
    exact ⟨rfl, bel_box _⟩
  · obtain ⟨ad, b, rfl, hb, hx, hc⟩ := hB.bool_at (k := (i - h.length) % l.length) (Nat.mod_lt _ h0)
    have e : lt h l i = b := by rw [lt, if_neg hlt, hx]; rfl
    rw [e]
    have hc2 : (w.alloc (.cells #[.slice A h.length c, .slice (some ad) l.length d] 24)).cell? (ad.add ((i - h.length) % l.length)) = some (.bool b) := by
      rw [World.cell?_alloc_lt _ _ _ (by rw [add_block]; omega)]; exact hc
    clear hA hB hx hc e
    have hm : (i - h.length) % l.length < l.length := Nat.mod_lt _ h0
    go_enter Try.func34, Try.ntmps34
    go_wp2
    have e1 : IntKind.i64.wrap ((i : Int) - (h.length : Int)) = ((i - h.length : Nat) : Int) := by rw [IntWalk.i64_in _ (by omega)]; omega
    have e2 : ((i - h.length : Nat) : Int).tmod (l.length : Int) = (((i - h.length) % l.length : Nat) : Int) := rfl
    have e3 : ¬ ((l.length : Int) = 0) := by omega
    have e4 : (0 : Int) ≤ (((i - h.length) % l.length : Nat) : Int) := by omega
    have e5 : (((i - h.length) % l.length : Nat) : Int) < (l.length : Int) := by omega
    generalize (i - h.length) % l.length = r at *
    go_quiet (fail)
    clear e1 e2
    go_wp2
    go_ret
    exact ⟨rfl, below_drewN (bel_box _) _⟩
theorem rletter_any (A B : Option Addr) (c d i : Nat) (h l : List Bool) (w : World) (hA : Rd w w.heap.size A (bls h)) (hB : Rd w w.heap.size B (bls l)) (h0 : 0 < l.length)
    (hh : h.length ≤ 140737488355328) (hl : l.length ≤ 140737488355328) (hi : i ≤ 9223372036854775807) :
    Calls Try.prog 35 #[.agg #[.slice A h.length c, .slice B l.length d], .int .i64 i] w (Bel (.bool (lt h l i)) w) := by
  by_cases hlt : i < h.length
  · obtain ⟨ad, b, rfl, hb, hx, hc⟩ := hA.bool_at hlt
    have e : lt h l i = b := by rw [lt, if_pos hlt, hx]; rfl
    rw [e]
    have hc2 : (w.alloc (.cells #[.slice (some ad) h.length c, .slice B l.length d] 24)).cell? (ad.add i) = some (.bool b) := by
      rw [World.cell?_alloc_lt _ _ _ (by rw [add_block]; omega)]; exact hc
    clear hA hB hx hc e
    go_enter Try.func35, Try.ntmps35
    go_wp2
    go_ret
    exact ⟨rfl, bel_box _⟩
  · obtain ⟨ad, b, rfl, hb, hx, hc⟩ := hB.bool_at (k := (i - h.length) % l.length) (Nat.mod_lt _ h0)
    have e : lt h l i = b := by rw [lt, if_neg hlt, hx]; rfl
    rw [e]
    have hc2 : (w.alloc (.cells #[.slice A h.length c, .slice (some ad) l.length d] 24)).cell? (ad.add ((i - h.length) % l.length)) = some (.bool b) := by
      rw [World.cell?_alloc_lt _ _ _ (by rw [add_block]; omega)]; exact hc
    clear hA hB hx hc e
    have hm : (i - h.length) % l.length < l.length := Nat.mod_lt _ h0
    go_enter Try.func35, Try.ntmps35
    go_wp2
    have e1 : IntKind.i64.wrap ((i : Int) - (h.length : Int)) = ((i - h.length : Nat) : Int) := by rw [IntWalk.i64_in _ (by omega)]; omega
    have e2 : ((i - h.length : Nat) : Int).tmod (l.length : Int) = (((i - h.length) % l.length : Nat) : Int) := rfl
    have e3 : ¬ ((l.length : Int) = 0) := by omega
    have e4 : (0 : Int) ≤ (((i - h.length) % l.length : Nat) : Int) := by omega
    have e5 : (((i - h.length) % l.length : Nat) : Int) < (l.length : Int) := by omega
    generalize (i - h.length) % l.length = r at *
    go_quiet (fail)
    clear e1 e2
    go_wp2
    go_ret
    exact ⟨rfl, below_drewN (bel_box _) _⟩
def att (h l : List Bool) (i : Int) : Bool := if ck h l = 0 ∧ 0 ≤ i then lt h l i.toNat else false
theorem att_yes {h l : List Bool} {k : Nat} (h1 : ck h l = 0) : att h l k = lt h l k := by rw [att, if_pos ⟨h1, by omega⟩, Int.toNat_natCast]
theorem att_no {h l : List Bool} {i : Int} (h1 : ¬ (ck h l = 0 ∧ 0 ≤ i)) : att h l i = false := by rw [att, if_neg h1]
set_option maxHeartbeats 400000 in
theorem at_any (A B : Option Addr) (c d : Nat) (i : Int) (h l : List Bool) (w : World) (hA : Rd w w.heap.size A (bls h)) (hB : Rd w w.heap.size B (bls l))
    (hh : h.length ≤ 140737488355328) (hl : l.length ≤ 140737488355328) (hi : i ≤ 9223372036854775807) :
    Calls Try.prog 14 #[.agg #[.slice A h.length c, .slice B l.length d], .int .i64 i] w (Bel (.bool (att h l i)) w) := by
  have HA := Lib.hid hA
  have HB := Lib.hid hB
  clear hA hB
  have chk := Lib.hid (check_any A B c d h l)
  have let_ := Lib.hid (letter_any A B c d)
  by_cases h1 : ck h l = 0
  · have hk := lens h1
    by_cases h2 : 0 ≤ i
    · obtain ⟨k, rfl⟩ := Int.eq_ofNat_of_zero_le h2
      rw [att_yes h1]
      have hd : (ck h l == 0) = true := by simp [h1]
      clear h1
      go_enter Try.func14, Try.ntmps14
      go_wp2_with (first
        | (go_at_call 12; refine (chk.out _ hh hl).mono ?_; rintro e w1 ⟨rfl, hb1⟩; obtain ⟨hc1, hf1, hz1⟩ := bcell hb1; try simp at hz1)
        | (go_at_call 34; refine (let_.out _ _ _ _ (HA.out.to (by repeat (first | (with_reducible exact Below.refl _ _) | (with_reducible assumption) | (with_reducible exact bel_box _) | (with_reducible refine bel_step ?_ (by with_reducible assumption)) | (with_reducible refine Below.drew ?_) | (with_reducible refine below_drewN ?_ _) | (with_reducible refine bel_alloc ?_ _)))) (HB.out.to (by repeat (first | (with_reducible exact Below.refl _ _) | (with_reducible assumption) | (with_reducible exact bel_box _) | (with_reducible refine bel_step ?_ (by with_reducible assumption)) | (with_reducible refine Below.drew ?_) | (with_reducible refine below_drewN ?_ _) | (with_reducible refine bel_alloc ?_ _)))) hk.1 hh hl (by omega)).mono ?_; rintro e w2 ⟨rfl, hb2⟩; obtain ⟨hc2, hf2, hz2⟩ := bcell hb2; try simp at hz2))
      go_ret
      exact ⟨rfl, (by repeat (first | (with_reducible exact Below.refl _ _) | (with_reducible assumption) | (with_reducible exact bel_box _) | (with_reducible refine bel_step ?_ (by with_reducible assumption)) | (with_reducible refine Below.drew ?_) | (with_reducible refine below_drewN ?_ _) | (with_reducible refine bel_alloc ?_ _)))⟩
    · rw [att_no (by omega)]
      have hd : (ck h l == 0) = true := by simp [h1]
      clear h1
      go_enter Try.func14, Try.ntmps14
      go_wp2_with (first
        | (go_at_call 12; refine (chk.out _ hh hl).mono ?_; rintro e w1 ⟨rfl, hb1⟩; obtain ⟨hc1, hf1, hz1⟩ := bcell hb1; try simp at hz1))
      go_ret
      exact ⟨rfl, (by repeat (first | (with_reducible exact Below.refl _ _) | (with_reducible assumption) | (with_reducible exact bel_box _) | (with_reducible refine bel_step ?_ (by with_reducible assumption)) | (with_reducible refine Below.drew ?_) | (with_reducible refine below_drewN ?_ _) | (with_reducible refine bel_alloc ?_ _)))⟩
  · rw [att_no (by omega)]
    have hd : (ck h l == 0) = false := by simp [h1]
    clear h1
    go_enter Try.func14, Try.ntmps14
    go_wp2_with (first
      | (go_at_call 12; refine (chk.out _ hh hl).mono ?_; rintro e w1 ⟨rfl, hb1⟩; obtain ⟨hc1, hf1, hz1⟩ := bcell hb1; try simp at hz1))
    go_ret
    exact ⟨rfl, (by repeat (first | (with_reducible exact Below.refl _ _) | (with_reducible assumption) | (with_reducible exact bel_box _) | (with_reducible refine bel_step ?_ (by with_reducible assumption)) | (with_reducible refine Below.drew ?_) | (with_reducible refine below_drewN ?_ _) | (with_reducible refine bel_alloc ?_ _)))⟩
set_option maxHeartbeats 400000 in
theorem rat_any (A B : Option Addr) (c d : Nat) (i : Int) (h l : List Bool) (w : World) (hA : Rd w w.heap.size A (bls h)) (hB : Rd w w.heap.size B (bls l))
    (hh : h.length ≤ 140737488355328) (hl : l.length ≤ 140737488355328) (hi : i ≤ 9223372036854775807) :
    Calls Try.prog 15 #[.agg #[.slice A h.length c, .slice B l.length d], .int .i64 i] w (Bel (.bool (att h l i)) w) := by
  have HA := Lib.hid hA
  have HB := Lib.hid hB
  clear hA hB
  have chk := Lib.hid (rcheck_any A B c d h l)
  have let_ := Lib.hid (rletter_any A B c d)
  by_cases h1 : ck h l = 0
  · have hk := lens h1
    by_cases h2 : 0 ≤ i
    · obtain ⟨k, rfl⟩ := Int.eq_ofNat_of_zero_le h2
      rw [att_yes h1]
      have hd : (ck h l != 0) = false := by simp [h1]
      clear h1
      go_enter Try.func15, Try.ntmps15
      go_wp2_with (first
        | (go_at_call 13; refine (chk.out _ hh hl).mono ?_; rintro e w1 ⟨rfl, hb1⟩; obtain ⟨hc1, hf1, hz1⟩ := bcell hb1; try simp at hz1)
        | (go_at_call 35; refine (let_.out _ _ _ _ (HA.out.to (by repeat (first | (with_reducible exact Below.refl _ _) | (with_reducible assumption) | (with_reducible exact bel_box _) | (with_reducible refine bel_step ?_ (by with_reducible assumption)) | (with_reducible refine Below.drew ?_) | (with_reducible refine below_drewN ?_ _) | (with_reducible refine bel_alloc ?_ _)))) (HB.out.to (by repeat (first | (with_reducible exact Below.refl _ _) | (with_reducible assumption) | (with_reducible exact bel_box _) | (with_reducible refine bel_step ?_ (by with_reducible assumption)) | (with_reducible refine Below.drew ?_) | (with_reducible refine below_drewN ?_ _) | (with_reducible refine bel_alloc ?_ _)))) hk.1 hh hl (by omega)).mono ?_; rintro e w2 ⟨rfl, hb2⟩; obtain ⟨hc2, hf2, hz2⟩ := bcell hb2; try simp at hz2))
      go_ret
      exact ⟨rfl, (by repeat (first | (with_reducible exact Below.refl _ _) | (with_reducible assumption) | (with_reducible exact bel_box _) | (with_reducible refine bel_step ?_ (by with_reducible assumption)) | (with_reducible refine Below.drew ?_) | (with_reducible refine below_drewN ?_ _) | (with_reducible refine bel_alloc ?_ _)))⟩
    · rw [att_no (by omega)]
      have hd : (ck h l != 0) = false := by simp [h1]
      clear h1
      go_enter Try.func15, Try.ntmps15
      go_wp2_with (first
        | (go_at_call 13; refine (chk.out _ hh hl).mono ?_; rintro e w1 ⟨rfl, hb1⟩; obtain ⟨hc1, hf1, hz1⟩ := bcell hb1; try simp at hz1))
      go_ret
      exact ⟨rfl, (by repeat (first | (with_reducible exact Below.refl _ _) | (with_reducible assumption) | (with_reducible exact bel_box _) | (with_reducible refine bel_step ?_ (by with_reducible assumption)) | (with_reducible refine Below.drew ?_) | (with_reducible refine below_drewN ?_ _) | (with_reducible refine bel_alloc ?_ _)))⟩
  · rw [att_no (by omega)]
    have hd : (ck h l != 0) = true := by simp [h1]
    clear h1
    go_enter Try.func15, Try.ntmps15
    go_wp2_with (first
      | (go_at_call 13; refine (chk.out _ hh hl).mono ?_; rintro e w1 ⟨rfl, hb1⟩; obtain ⟨hc1, hf1, hz1⟩ := bcell hb1; try simp at hz1))
    go_ret
    exact ⟨rfl, (by repeat (first | (with_reducible exact Below.refl _ _) | (with_reducible assumption) | (with_reducible exact bel_box _) | (with_reducible refine bel_step ?_ (by with_reducible assumption)) | (with_reducible refine Below.drew ?_) | (with_reducible refine below_drewN ?_ _) | (with_reducible refine bel_alloc ?_ _)))⟩

def cntTo (l : List Bool) (k : Nat) : Nat := cnt (l.take k)
theorem cntTo_succ {l : List Bool} {k : Nat} {b : Bool} (h : l[k]? = some b) : cntTo l (k + 1) = cntTo l k + if b then 1 else 0 := by
  rw [cntTo, take_succ_of h, cnt, List.count_append, cntTo, cnt]
  cases b <;> simp
theorem cntTo_le (l : List Bool) (k : Nat) : cntTo l k ≤ k := by
  rw [cntTo, cnt]
  exact Nat.le_trans List.count_le_length (by simp; omega)
set_option maxHeartbeats 400000 in
theorem count_any (A : Option Addr) (c : Nat) (l : List Bool) (w : World) (hA : Rd w w.heap.size A (bls l)) (hl : l.length ≤ 140737488355328) :
    Calls Try.prog 36 #[.slice A l.length c] w fun e w' => e = .returned (.int .i64 (cnt l : Nat)) ∧ w = w' := by
  have HA := Lib.hid hA
  clear hA
  go_enter Try.func36, Try.ntmps36
  go_wp2
  go_loop [3, 8] (fun n i => ∃ k : Nat, k ≤ l.length ∧ i = .int .i64 k ∧ n = .int .i64 (cntTo l k : Nat)) (fun _ i => l.length - (intOf i).toNat)
  case atStart => exact ⟨0, by omega, rfl, rfl⟩
  case round =>
    obtain ⟨k, hk, rfl, rfl⟩ := hrel
    have hb := cntTo_le l k
    by_cases hlt : k < l.length
    · obtain ⟨ad, b, rfl, _, hx, hc⟩ := HA.out.bool_at hlt
      have HX := Lib.hid (cntTo_succ hx)
      clear hx
      cases b
      all_goals
        go_wp2
        go_round
        case rel => exact ⟨k + 1, by omega, by go_num, by rw [HX.out]; simp⟩
        case measure => simp [intOf]; omega
    · go_wp2
      go_ret
      exact ⟨ret_int (by rw [cntTo, show k = l.length by omega, List.take_length]), rfl⟩
set_option maxHeartbeats 400000 in
theorem rcount_any (A : Option Addr) (c : Nat) (l : List Bool) (w : World) (hA : Rd w w.heap.size A (bls l)) (hl : l.length ≤ 140737488355328) :
    Calls Try.prog 37 #[.slice A l.length c] w fun e w' => e = .returned (.int .i64 (cnt l : Nat)) ∧ w = w' := by
  have HA := Lib.hid hA
  clear hA
  go_enter Try.func37, Try.ntmps37
  go_wp2
  go_loop [3, 4] (fun n i => ∃ k : Nat, k ≤ l.length ∧ i = .int .i64 k ∧ n = .int .i64 (cntTo l k : Nat)) (fun _ i => l.length - (intOf i).toNat)
  case atStart => exact ⟨0, by omega, rfl, rfl⟩
  case round =>
    obtain ⟨k, hk, rfl, rfl⟩ := hrel
    have hb := cntTo_le l k
    by_cases hlt : k < l.length
    · obtain ⟨ad, b, rfl, _, hx, hc⟩ := HA.out.bool_at hlt
      have HX := Lib.hid (cntTo_succ hx)
      clear hx
      cases b
      all_goals
        go_wp2
        go_round
        case rel => exact ⟨k + 1, by omega, by go_num, by rw [HX.out]; simp⟩
        case measure => simp [intOf]; omega
    · go_wp2
      go_ret
      exact ⟨ret_int (by rw [cntTo, show k = l.length by omega, List.take_length]), rfl⟩
end Go.Proofs.Ytimecbkfeennpaa
