/- What the small functions of package bword, and their references, return for every word: Check, letter, At, count, huge. -/
import Derived.Test.YtlpigdekjkpnpaaDoorMem
namespace Go.Proofs.YtlpigdekjkpnpaaDoor
set_option linter.unusedVariables false
set_option linter.unusedSimpArgs false
open Go.RowKit
theorem ret_int {k : IntKind} {a b : Int} (h : a = b) : Ending.returned (.int k a) = .returned (.int k b) := by rw [h]
theorem ret_bool {a b : Bool} (h : a = b) : Ending.returned (.bool a) = .returned (.bool b) := by rw [h]
/-- the error of a word -/
def ck (h l : List Bool) : Int := if l.length = 0 then 5 else if h.length + l.length > 64 then 3 else 0
/-- letter i -/
def lt (h l : List Bool) (i : Nat) : Bool := if i < h.length then h[i]?.getD false else l[(i - h.length) % l.length]?.getD false
def cnt (l : List Bool) : Nat := l.count true
theorem lens {h l : List Bool} (hc : ck h l = 0) : 0 < l.length ∧ h.length + l.length ≤ 64 := by
  unfold ck at hc
  split at hc
  · omega
  · split at hc <;> omega
def Bel (v : Value) (w : World) (e : Ending) (w' : World) : Prop := e = .returned v ∧ Below w.heap.size w w'
theorem bel_drew {w : World} (k : Nat) : Below w.heap.size w (w.drewN k) := below_drewN (Below.refl _ _) k
theorem check_any (A B : Option Addr) (c d : Nat) (h l : List Bool) (w : World) (hh : h.length ≤ 140737488355328) (hl : l.length ≤ 140737488355328) :
    Calls Tryd.prog 17 #[.agg #[.slice A h.length c, .slice B l.length d]] w (Bel (.int .i64 (ck h l)) w) := by
  go_enter Tryd.func17, Tryd.ntmps17
  go_wp2
  all_goals go_ret
  all_goals refine ⟨ret_int ?_, bel_box _⟩
  all_goals unfold ck
  · rw [if_pos (by simp_all)]
  · rw [if_neg (by simp_all), if_pos (by omega)]
  · rw [if_neg (by simp_all), if_neg (by omega)]
theorem rcheck_any (A B : Option Addr) (c d : Nat) (h l : List Bool) (w : World) (hh : h.length ≤ 140737488355328) (hl : l.length ≤ 140737488355328) :
    Calls Tryd.prog 19 #[.agg #[.slice A h.length c, .slice B l.length d]] w (Bel (.int .i64 (ck h l)) w) := by
  go_enter Tryd.func19, Tryd.ntmps19
  go_wp2
  all_goals go_ret
  all_goals refine ⟨ret_int ?_, bel_box _⟩
  all_goals unfold ck
  · rw [if_pos (by simp_all)]
  · rw [if_neg (by simp_all), if_pos (by omega)]
  · rw [if_neg (by simp_all), if_neg (by omega)]
theorem huge_any (A B : Option Addr) (c d : Nat) (h l : List Bool) (w : World) (hh : h.length ≤ 140737488355328) (hl : l.length ≤ 140737488355328) :
    Calls Tryd.prog 5 #[.agg #[.slice A h.length c, .slice B l.length d]] w (Bel (.bool (decide (h.length + l.length > 300))) w) := by
  go_enter Tryd.func5, Tryd.ntmps5
  go_wp2
  go_ret
  refine ⟨ret_bool ?_, bel_box _⟩
  rw [decide_eq_decide]
  omega
theorem letter_any (A B : Option Addr) (c d i : Nat) (h l : List Bool) (w : World) (hA : Rd w w.heap.size A (bls h)) (hB : Rd w w.heap.size B (bls l)) (h0 : 0 < l.length)
    (hh : h.length ≤ 140737488355328) (hl : l.length ≤ 140737488355328) (hi : i ≤ 9223372036854775807) :
    Calls Tryd.prog 27 #[.agg #[.slice A h.length c, .slice B l.length d], .int .i64 i] w (Bel (.bool (lt h l i)) w) := by
  by_cases hlt : i < h.length
  · obtain ⟨ad, b, rfl, hb, hx, hc⟩ := hA.bool_at hlt
    have e : lt h l i = b := by rw [lt, if_pos hlt, hx]; rfl
    rw [e]
    have hc2 : (w.alloc (.cells #[.slice (some ad) h.length c, .slice B l.length d] 24)).cell? (ad.add i) = some (.bool b) := by
      rw [World.cell?_alloc_lt _ _ _ (by rw [add_block]; omega)]; exact hc
    clear hA hB hx hc e
    go_enter Tryd.func27, Tryd.ntmps27
    go_wp2
    go_ret
    exact ⟨rfl, bel_box _⟩
  · obtain ⟨ad, b, rfl, hb, hx, hc⟩ := hB.bool_at (k := (i - h.length) % l.length) (Nat.mod_lt _ h0)
    have e : lt h l i = b := by rw [lt, if_neg hlt, hx]; rfl
    rw [e]
    have hc2 : (w.alloc (.cells #[.slice A h.length c, .slice (some ad) l.length d] 24)).cell? (ad.add ((i - h.length) % l.length)) = some (.bool b) := by
      rw [World.cell?_alloc_lt _ _ _ (by rw [add_block]; omega)]; exact hc
    clear hA hB hx hc e
    have hm : (i - h.length) % l.length < l.length := Nat.mod_lt _ h0
    go_enter Tryd.func27, Tryd.ntmps27
    go_wp2
    have e1 : IntKind.i64.wrap ((i : Int) - (h.length : Int)) = ((i - h.length : Nat) : Int) := by rw [IntWalk.i64_in _ (by omega)]; omega
    have e2 : ((i - h.length : Nat) : Int).tmod (l.length : Int) = (((i - h.length) % l.length : Nat) : Int) := rfl
    have e3 : ¬ ((l.length : Int) = 0) := by omega
    have e4 : (0 : Int) ≤ (((i - h.length) % l.length : Nat) : Int) := by omega
    have e5 : (((i - h.length) % l.length : Nat) : Int) < (l.length : Int) := by omega
    generalize (i - h.length) % l.length = r at *
    go_quiet (fail)
    clear e1 e2
    go_wp2
    go_ret
    exact ⟨rfl, below_drewN (bel_box _) _⟩
def att (h l : List Bool) (i : Int) : Bool := if ck h l = 0 ∧ 0 ≤ i then lt h l i.toNat else false
theorem att_yes {h l : List Bool} {k : Nat} (h1 : ck h l = 0) : att h l k = lt h l k := by rw [att, if_pos ⟨h1, by omega⟩, Int.toNat_natCast]
theorem att_no {h l : List Bool} {i : Int} (h1 : ¬ (ck h l = 0 ∧ 0 ≤ i)) : att h l i = false := by rw [att, if_neg h1]
def cntTo (l : List Bool) (k : Nat) : Nat := cnt (l.take k)
theorem cntTo_succ {l : List Bool} {k : Nat} {b : Bool} (h : l[k]? = some b) : cntTo l (k + 1) = cntTo l k + if b then 1 else 0 := by
  rw [cntTo, take_succ_of h, cnt, List.count_append, cntTo, cnt]
  cases b <;> simp
theorem cntTo_le (l : List Bool) (k : Nat) : cntTo l k ≤ k := by
  rw [cntTo, cnt]
  exact Nat.le_trans List.count_le_length (by simp; omega)
set_option maxHeartbeats 400000 in
theorem count_any (A : Option Addr) (c : Nat) (l : List Bool) (w : World) (hA : Rd w w.heap.size A (bls l)) (hl : l.length ≤ 140737488355328) :
    Calls Tryd.prog 30 #[.slice A l.length c] w fun e w' => e = .returned (.int .i64 (cnt l : Nat)) ∧ w = w' := by
  have HA := Lib.hid hA
  clear hA
  go_enter Tryd.func30, Tryd.ntmps30
  go_wp2
  go_loop [3, 8] (fun n i => ∃ k : Nat, k ≤ l.length ∧ i = .int .i64 k ∧ n = .int .i64 (cntTo l k : Nat)) (fun _ i => l.length - (intOf i).toNat)
  case atStart => exact ⟨0, by omega, rfl, rfl⟩
  case round =>
    obtain ⟨k, hk, rfl, rfl⟩ := hrel
    have hb := cntTo_le l k
    by_cases hlt : k < l.length
    · obtain ⟨ad, b, rfl, _, hx, hc⟩ := HA.out.bool_at hlt
      have HX := Lib.hid (cntTo_succ hx)
      clear hx
      cases b
      all_goals
        go_wp2
        go_round
        case rel => exact ⟨k + 1, by omega, by go_num, by rw [HX.out]; simp⟩
        case measure => simp [intOf]; omega
    · go_wp2
      go_ret
      exact ⟨ret_int (by rw [cntTo, show k = l.length by omega, List.take_length]), rfl⟩
end Go.Proofs.YtlpigdekjkpnpaaDoor
