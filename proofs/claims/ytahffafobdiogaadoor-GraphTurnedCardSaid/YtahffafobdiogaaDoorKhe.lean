/- Same and lists. -/
import Derived.Test.YtahffafobdiogaaDoorKhd
namespace Go.Proofs.YtahffafobdiogaaDoor
set_option linter.unusedVariables false
set_option linter.unusedSimpArgs false
open Go.RowKit
namespace gr
theorem rd_at {W : World} {B : Nat} {A : Option Addr} {l : List Nat} (h : Rd W B A (vV l)) {k : Nat} (hk : k < l.length) : ∃ ad, A = some ad ∧ ad.block < B ∧ W.cell? (ad.add k) = some (.int .i64 ((l.getD k 0 : Nat) : Int)) := by
  obtain ⟨ad, h1, h2, h3⟩ := h (fun e => by have := congrArg List.length e; simp [vV] at this; subst this; simp at hk)
  refine ⟨ad, h1, h2, h3 k _ ?_⟩
  unfold vV
  rw [List.getElem?_map, List.getElem?_eq_getElem hk, List.getD, List.getElem?_eq_getElem hk]
  rfl
theorem take_more {l m : List Nat} {k : Nat} (h1 : k < l.length) (h2 : k < m.length) (h : l.take k = m.take k) : l.take (k + 1) = m.take (k + 1) ↔ l.getD k 0 = m.getD k 0 := by
  have e1 := List.take_succ_eq_append_getElem h1
  have e2 := List.take_succ_eq_append_getElem h2
  rw [e1, e2, h, List.getD, List.getD, List.getElem?_eq_getElem h1, List.getElem?_eq_getElem h2, List.append_cancel_left_eq]
  simp
theorem take_ne {l m : List Nat} {k : Nat} (h : l.take k ≠ m.take k) : (decide (l = m)) = false := by
  rw [decide_eq_false_iff_not]
  exact fun e => h (by rw [e])
set_option maxRecDepth 100000 in
set_option maxHeartbeats 1000000 in
theorem same_any (A B : Option Addr) (c d : Nat) (l m : List Nat) (w : World) (hA : Rd w w.heap.size A (vV l)) (hB : Rd w w.heap.size B (vV m)) (hl : l.length ≤ 1048576) (hm : m.length ≤ 1048576) :
    Calls Tryd.prog 12 #[.slice A l.length c, .slice B m.length d] w fun e w' => e = .returned (.bool (decide (l = m))) ∧ ∃ q, w' = w.drewN q := by
  have HA := Lib.hid hA
  have HB := Lib.hid hB
  clear hA hB
  by_cases hlm : l.length = m.length
  · have Hlm := Lib.hid hlm
    obtain ⟨n, hn⟩ : ∃ n, m.length = n := ⟨_, rfl⟩
    rw [hlm, hn]
    rw [hn] at hm hlm
    have HN := Lib.hid hn
    have HL := Lib.hid hlm
    clear hn hl hlm
    go_enter Tryd.func12, Tryd.ntmps12
    go_wp2
    go_loopw [5] (fun i wr => ∃ k j : Nat, k ≤ n ∧ i = .int .i64 k ∧ wr = w.drewN j ∧ Hid (l.take k = m.take k)) (fun i _ => n - (intOf i).toNat)
    case atStart => exact ⟨0, 0, by omega, rfl, rfl, rfl⟩
    case round =>
      obtain ⟨k, j, hk, rfl, rfl, HT⟩ := hrel
      by_cases hlt : k < n
      · obtain ⟨ad, rfl, _, hc⟩ := rd_at HA.out (show k < l.length by rw [HL.out]; exact hlt)
        obtain ⟨ad', rfl, _, hc'⟩ := rd_at HB.out (show k < m.length by rw [HN.out]; exact hlt)
        have HX := Lib.hid (take_more (show k < l.length by rw [HL.out]; exact hlt) (show k < m.length by rw [HN.out]; exact hlt) HT.out)
        generalize l.getD k 0 = x at *
        generalize m.getD k 0 = y at *
        have e3 : (k : Int) < (n : Int) := by omega
        go_wp2
        go_quiet (fail)
        go_wp2
        · go_ret
          refine ⟨congrArg (fun b => Ending.returned (.bool b)) (Eq.symm (take_ne (k := k + 1) fun e => ?_)), _, World.drewN_drewN _ _ _⟩
          have hxy := HX.out.1 e
          subst hxy
          simp at *
        · go_roundw
          case rel => exact ⟨k + 1, _, by omega, by go_num, rfl, HX.out.2 (by simp at *; omega)⟩
          case measure => simp [intOf]; omega
      · go_wp2
        go_ret
        have hkn : k = n := by omega
        refine ⟨congrArg (fun b => Ending.returned (.bool b)) (Eq.symm (decide_eq_true ?_)), _, rfl⟩
        have h1 := HT.out
        rw [hkn, List.take_of_length_le (by rw [HL.out]; omega), List.take_of_length_le (by rw [HN.out]; omega)] at h1
        exact h1
  · have hne : ¬ l = m := fun e => hlm (by rw [e])
    rw [decide_eq_false hne]
    have h1 : ¬ ((l.length : Int) = (m.length : Int)) := by omega
    clear HA HB hne
    generalize l.length = x at *
    generalize m.length = y at *
    have h2 : ((x : Int) == (y : Int)) = false := by simpa using h1
    go_enter Tryd.func12, Tryd.ntmps12
    go_wp2
    go_ret
    exact ⟨rfl, 0, rfl⟩
end gr
end Go.Proofs.YtahffafobdiogaaDoor
