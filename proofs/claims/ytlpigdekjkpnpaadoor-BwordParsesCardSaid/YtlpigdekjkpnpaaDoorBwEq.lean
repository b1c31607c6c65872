/- bools and Equal of the reference. -/
import Derived.Test.YtlpigdekjkpnpaaDoorBwFit
namespace Go.Proofs.YtlpigdekjkpnpaaDoor
set_option linter.unusedVariables false
set_option linter.unusedSimpArgs false
open Go.RowKit
def eqTo (x y : List Bool) (k : Nat) : Bool := (List.range k).all fun i => gb x i == gb y i
theorem eqTo_succ (x y : List Bool) (k : Nat) : eqTo x y (k + 1) = (eqTo x y k && (gb x k == gb y k)) := by simp [eqTo, List.range_succ]
theorem eqTo_all {x y : List Bool} (hl : x.length = y.length) (h : eqTo x y x.length = true) : (x == y) = true := by
  rw [beq_iff_eq]
  apply List.ext_getElem hl
  intro i h1 h2
  rw [eqTo, List.all_eq_true] at h
  have := h i (List.mem_range.2 h1)
  rw [gb, gb, List.getElem?_eq_getElem h1, List.getElem?_eq_getElem h2] at this
  simpa using this
theorem eq_no {x y : List Bool} {k : Nat} (h : (gb x k == gb y k) = false) : (x == y) = false := by
  rw [beq_eq_false_iff_ne]
  intro e
  subst e
  simp at h
set_option maxHeartbeats 400000 in
theorem bools_any (A B : Option Addr) (c d : Nat) (x y : List Bool) (w : World) (hA : Rd w w.heap.size A (bls x)) (hB : Rd w w.heap.size B (bls y)) (hx : x.length ≤ 140737488355328) (hy : y.length ≤ 140737488355328) :
    Calls Tryd.prog 24 #[.slice A x.length c, .slice B y.length d] w (Drw (.bool (x == y)) w) := by
  have HA := Lib.hid hA
  have HB := Lib.hid hB
  clear hA hB
  by_cases hl : x.length = y.length
  · have HL := Lib.hid hl
    have e0 : ((x.length : Int) != (y.length : Int)) = false := by simp [hl]
    go_enter Tryd.func24, Tryd.ntmps24
    go_wp2
    go_loopw [5] (fun i wr => ∃ k j : Nat, k ≤ x.length ∧ i = .int .i64 k ∧ wr = w.drewN j ∧ Hid (eqTo x y k = true)) (fun i _ => x.length - (intOf i).toNat)
    case atStart => exact ⟨0, 0, by omega, rfl, rfl, rfl⟩
    case round =>
      obtain ⟨k, j, hk, rfl, rfl, HT⟩ := hrel
      by_cases hlt : k < x.length
      · obtain ⟨ad, b, rfl, _, hx1, hc⟩ := HA.out.bool_at hlt
        obtain ⟨ad', b', rfl, _, hy1, hc'⟩ := HB.out.bool_at (show k < y.length by omega)
        have HX := Lib.hid (gb_of hx1)
        have HY := Lib.hid (gb_of hy1)
        clear hx1 hy1
        go_wp2
        go_quiet (fail)
        go_wp2
        · go_ret
          refine ⟨ret_bool ?_, _, World.drewN_drewN _ _ _⟩
          symm
          apply eq_no (k := k)
          rw [HX.out, HY.out]
          simpa using (by assumption : (!b == b') = true)
        · go_roundw
          case rel => exact ⟨k + 1, _, by omega, by go_num, rfl, by show _ = _; rw [eqTo_succ, HT.out, HX.out, HY.out]; simpa using (by assumption : (!b == b') = false)⟩
          case measure => simp [intOf]; omega
      · go_wp2
        go_ret
        exact ⟨ret_bool (by rw [eqTo_all HL.out (by rw [show x.length = k by omega]; exact HT.out)]), _, rfl⟩
  · have e0 : ((x.length : Int) != (y.length : Int)) = true := by simp; omega
    have e1 : (x == y) = false := by rw [beq_eq_false_iff_ne]; intro e; exact hl (by rw [e])
    rw [e1]
    go_enter Tryd.func24, Tryd.ntmps24
    go_wp2
    go_ret
    exact ⟨rfl, 0, rfl⟩
theorem drw_bel {w w' : World} {W : World} (h : Below w.heap.size w W) (k : Nat) (e : w' = W.drewN k) : Below w.heap.size w w' := by subst e; exact below_drewN h k
set_option maxHeartbeats 800000 in
theorem equal_any (A B A' B' : Option Addr) (c d c' d' : Nat) (h l h' l' : List Bool) (w : World) (hA : Rd w w.heap.size A (bls h)) (hB : Rd w w.heap.size B (bls l)) (hA' : Rd w w.heap.size A' (bls h')) (hB' : Rd w w.heap.size B' (bls l'))
    (hh : h.length ≤ 140737488355328) (hl : l.length ≤ 140737488355328) (hh' : h'.length ≤ 140737488355328) (hl' : l'.length ≤ 140737488355328) :
    Calls Tryd.prog 10 #[.agg #[.slice A h.length c, .slice B l.length d], .agg #[.slice A' h'.length c', .slice B' l'.length d']] w (Bel (.bool (h == h' && l == l')) w) := by
  have HA := Lib.hid hA
  have HB := Lib.hid hB
  have HA' := Lib.hid hA'
  have HB' := Lib.hid hB'
  clear hA hB hA' hB'
  have k1 := Lib.hid (bools_any A A' c c' h h')
  have k2 := Lib.hid (bools_any B B' d d' l l')
  by_cases h1 : (h == h') = true
  · rw [h1, Bool.true_and]
    go_enter Tryd.func10, Tryd.ntmps10
    go_wp2_with (first
      | (go_at_call_of 24 (Value.slice A h.length c); refine (k1.out _ (HA.out.to ?_) (HA'.out.to ?_) hh hh').mono ?_; (focus ((repeat (first | (with_reducible exact Below.refl _ _) | (with_reducible assumption) | (with_reducible exact bel_box _) | (with_reducible refine bel_step ?_ (by with_reducible assumption)) | (with_reducible refine Below.drew ?_) | (with_reducible refine below_drewN ?_ _) | (with_reducible refine bel_alloc ?_ _))); done)); (focus ((repeat (first | (with_reducible exact Below.refl _ _) | (with_reducible assumption) | (with_reducible exact bel_box _) | (with_reducible refine bel_step ?_ (by with_reducible assumption)) | (with_reducible refine Below.drew ?_) | (with_reducible refine below_drewN ?_ _) | (with_reducible refine bel_alloc ?_ _))); done)); rintro e w1 ⟨rfl, j, rfl⟩; rw [h1])
      | (go_at_call 24; refine (k2.out _ (HB.out.to ?_) (HB'.out.to ?_) hl hl').mono ?_; (focus ((repeat (first | (with_reducible exact Below.refl _ _) | (with_reducible assumption) | (with_reducible exact bel_box _) | (with_reducible refine bel_step ?_ (by with_reducible assumption)) | (with_reducible refine Below.drew ?_) | (with_reducible refine below_drewN ?_ _) | (with_reducible refine bel_alloc ?_ _))); done)); (focus ((repeat (first | (with_reducible exact Below.refl _ _) | (with_reducible assumption) | (with_reducible exact bel_box _) | (with_reducible refine bel_step ?_ (by with_reducible assumption)) | (with_reducible refine Below.drew ?_) | (with_reducible refine below_drewN ?_ _) | (with_reducible refine bel_alloc ?_ _))); done)); rintro e w2 ⟨rfl, j2, rfl⟩))
    go_ret
    exact ⟨rfl, (by repeat (first | (with_reducible exact Below.refl _ _) | (with_reducible assumption) | (with_reducible exact bel_box _) | (with_reducible refine bel_step ?_ (by with_reducible assumption)) | (with_reducible refine Below.drew ?_) | (with_reducible refine below_drewN ?_ _) | (with_reducible refine bel_alloc ?_ _)))⟩
  · rw [Bool.not_eq_true] at h1
    rw [h1, Bool.false_and]
    go_enter Tryd.func10, Tryd.ntmps10
    go_wp2_with (go_at_call 24; refine (k1.out _ (HA.out.to ?_) (HA'.out.to ?_) hh hh').mono ?_; (focus ((repeat (first | (with_reducible exact Below.refl _ _) | (with_reducible assumption) | (with_reducible exact bel_box _) | (with_reducible refine bel_step ?_ (by with_reducible assumption)) | (with_reducible refine Below.drew ?_) | (with_reducible refine below_drewN ?_ _) | (with_reducible refine bel_alloc ?_ _))); done)); (focus ((repeat (first | (with_reducible exact Below.refl _ _) | (with_reducible assumption) | (with_reducible exact bel_box _) | (with_reducible refine bel_step ?_ (by with_reducible assumption)) | (with_reducible refine Below.drew ?_) | (with_reducible refine below_drewN ?_ _) | (with_reducible refine bel_alloc ?_ _))); done)); rintro e w1 ⟨rfl, j, rfl⟩; rw [h1])
    go_ret
    exact ⟨rfl, (by repeat (first | (with_reducible exact Below.refl _ _) | (with_reducible assumption) | (with_reducible exact bel_box _) | (with_reducible refine bel_step ?_ (by with_reducible assumption)) | (with_reducible refine Below.drew ?_) | (with_reducible refine below_drewN ?_ _) | (with_reducible refine bel_alloc ?_ _)))⟩
end Go.Proofs.YtlpigdekjkpnpaaDoor
