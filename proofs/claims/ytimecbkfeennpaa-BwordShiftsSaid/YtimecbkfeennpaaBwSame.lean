/- Same of both sides. -/
import Derived.Test.YtimecbkfeennpaaBwNot
import Derived.Test.YtimecbkfeennpaaBwNorms
import Derived.Deep.RegionLaw
namespace Go.Proofs.Ytimecbkfeennpaa
set_option linter.unusedVariables false
set_option linter.unusedSimpArgs false
open Go.RowKit
set_option maxHeartbeats 400000 in
theorem sliceq_any (A B : Option Addr) (c d : Nat) (x y : List Bool) (w : World) (hA : Rd w w.heap.size A (bls x)) (hB : Rd w w.heap.size B (bls y)) (hx : x.length ≤ 140737488355328) (hy : y.length ≤ 140737488355328) :
    Calls Try.prog 43 #[.slice A x.length c, .slice B y.length d] w (Drw (.bool (x == y)) w) := by
  have HA := Lib.hid hA
  have HB := Lib.hid hB
  clear hA hB
  by_cases hl : x.length = y.length
  · have HL := Lib.hid hl
    have e0 : ((x.length : Int) != (y.length : Int)) = false := by simp [hl]
    go_enter Try.func43, Try.ntmps43
    go_wp2
    go_loopw [5, 13] (fun _ i wr => ∃ k j : Nat, k ≤ x.length ∧ i = .int .i64 k ∧ wr = w.drewN j ∧ Hid (eqTo x y k = true)) (fun _ i _ => x.length - (intOf i).toNat)
    case atStart => exact ⟨0, 0, by omega, rfl, rfl, rfl⟩
    case round =>
      obtain ⟨k, j, hk, rfl, rfl, HT⟩ := hrel
      by_cases hlt : k < x.length
      · obtain ⟨ad, b, rfl, _, hx1, hc⟩ := HA.out.bool_at hlt
        obtain ⟨ad', b', rfl, _, hy1, hc'⟩ := HB.out.bool_at (show k < y.length by omega)
        have HX := Lib.hid (gb_of hx1)
        have HY := Lib.hid (gb_of hy1)
        clear hx1 hy1
        go_wp2
        go_quiet (fail)
        go_wp2
        · go_ret
          refine ⟨ret_bool ?_, _, World.drewN_drewN _ _ _⟩
          symm
          apply eq_no (k := k)
          rw [HX.out, HY.out]
          simpa using (by assumption : (!b == b') = true)
        · go_roundw
          case rel => exact ⟨k + 1, _, by omega, by go_num, rfl, by show _ = _; rw [eqTo_succ, HT.out, HX.out, HY.out]; simpa using (by assumption : (!b == b') = false)⟩
          case measure => simp [intOf]; omega
      · go_wp2
        go_ret
        exact ⟨ret_bool (by rw [eqTo_all HL.out (by rw [show x.length = k by omega]; exact HT.out)]), _, rfl⟩
  · have e0 : ((x.length : Int) != (y.length : Int)) = true := by simp; omega
    have e1 : (x == y) = false := by rw [beq_eq_false_iff_ne]; intro e; exact hl (by rw [e])
    rw [e1]
    go_enter Try.func43, Try.ntmps43
    go_wp2
    go_ret
    exact ⟨rfl, 0, rfl⟩
def sameB (h l h' l' : List Bool) : Bool := decide (ck2 h l h' l' = 0) && ((nfw h l).1 == (nfw h' l').1 && (nfw h l).2 == (nfw h' l').2)
theorem box22s {w W : World} {x y x' y' : Value} {t t' : TypeId} (hb : Below ((w.alloc (.cells #[x, y] t)).alloc (.cells #[x', y'] t')).heap.size ((w.alloc (.cells #[x, y] t)).alloc (.cells #[x', y'] t')) W) :
    (W.frozen? ⟨w.heap.size, 0, none⟩ = false ∧ W.frozen? ⟨w.heap.size, 1, none⟩ = false) ∧ W.frozen? ⟨w.heap.size + 1, 0, none⟩ = false ∧ W.frozen? ⟨w.heap.size + 1, 1, none⟩ = false := by
  refine ⟨⟨(hb.frozen (p := ⟨w.heap.size, 0, none⟩) (by simp; omega)).trans ?_, (hb.frozen (p := ⟨w.heap.size, 1, none⟩) (by simp; omega)).trans ?_⟩, (hb.frozen (p := ⟨w.heap.size + 1, 0, none⟩) (by simp)).trans ?_, (hb.frozen (p := ⟨w.heap.size + 1, 1, none⟩) (by simp)).trans ?_⟩ <;> simp [go_sem]
theorem set4_cells {W : World} {g : Nat} {a b c d : Value} (s1 : W.cell? ⟨g, 0, none⟩ = some a) (s2 : W.cell? ⟨g, 1, none⟩ = some b) (s3 : W.cell? ⟨g + 1, 0, none⟩ = some c) (s4 : W.cell? ⟨g + 1, 1, none⟩ = some d) (p q r t : Value) :
    ((((W.setCell ⟨g, 0, none⟩ p).setCell ⟨g, 1, none⟩ q).setCell ⟨g + 1, 0, none⟩ r).setCell ⟨g + 1, 1, none⟩ t).cell? ⟨g, 0, none⟩ = some p ∧ ((((W.setCell ⟨g, 0, none⟩ p).setCell ⟨g, 1, none⟩ q).setCell ⟨g + 1, 0, none⟩ r).setCell ⟨g + 1, 1, none⟩ t).cell? ⟨g, 1, none⟩ = some q ∧
    ((((W.setCell ⟨g, 0, none⟩ p).setCell ⟨g, 1, none⟩ q).setCell ⟨g + 1, 0, none⟩ r).setCell ⟨g + 1, 1, none⟩ t).cell? ⟨g + 1, 0, none⟩ = some r ∧ ((((W.setCell ⟨g, 0, none⟩ p).setCell ⟨g, 1, none⟩ q).setCell ⟨g + 1, 0, none⟩ r).setCell ⟨g + 1, 1, none⟩ t).cell? ⟨g + 1, 1, none⟩ = some t := by
  obtain ⟨k0, k1⟩ := set2_cells s1 s2 p q
  have e3 : ((W.setCell ⟨g, 0, none⟩ p).setCell ⟨g, 1, none⟩ q).cell? ⟨g + 1, 0, none⟩ = some c := by
    rw [World.cell?_setCell_other _ _ _ _ (by simp), World.cell?_setCell_other _ _ _ _ (by simp)]; exact s3
  have e4 : ((W.setCell ⟨g, 0, none⟩ p).setCell ⟨g, 1, none⟩ q).cell? ⟨g + 1, 1, none⟩ = some d := by
    rw [World.cell?_setCell_other _ _ _ _ (by simp), World.cell?_setCell_other _ _ _ _ (by simp)]; exact s4
  obtain ⟨k2, k3⟩ := set2_cells e3 e4 r t
  refine ⟨?_, ?_, k2, k3⟩
  · rw [World.cell?_setCell_other _ _ _ _ (by simp), World.cell?_setCell_other _ _ _ _ (by simp)]; exact k0
  · rw [World.cell?_setCell_other _ _ _ _ (by simp), World.cell?_setCell_other _ _ _ _ (by simp)]; exact k1
set_option maxHeartbeats 2000000 in
theorem psame_any (A B A' B' : Option Addr) (c d c' d' : Nat) (h l h' l' : List Bool) (w : World) (hA : Rd w w.heap.size A (bls h)) (hB : Rd w w.heap.size B (bls l)) (hA' : Rd w w.heap.size A' (bls h')) (hB' : Rd w w.heap.size B' (bls l'))
    (hh : h.length ≤ 140737488355328) (hl : l.length ≤ 140737488355328) (hh' : h'.length ≤ 140737488355328) (hl' : l'.length ≤ 140737488355328) (hc : h.length ≤ c) (hd : l.length ≤ d) (hc' : h'.length ≤ c') (hd' : l'.length ≤ d') :
    Calls Try.prog 22 #[.agg #[.slice A h.length c, .slice B l.length d], .agg #[.slice A' h'.length c', .slice B' l'.length d']] w (Bel (.bool (sameB h l h' l')) w) := by
  have HA := Lib.hid hA
  have HB := Lib.hid hB
  have HA' := Lib.hid hA'
  have HB' := Lib.hid hB'
  clear hA hB hA' hB'
  have bo := Lib.hid (both_any A B A' B' c d c' d' h l h' l')
  by_cases h1 : ck2 h l h' l' = 0
  · have hk1 : ck h l = 0 := by unfold ck2 at h1; split at h1 <;> assumption
    have hk2 : ck h' l' = 0 := by unfold ck2 at h1; rw [if_pos hk1] at h1; exact h1
    have g1 := lens hk1
    have g2 := lens hk2
    have hd1 : (ck2 h l h' l' != 0) = false := by simp [h1]
    have m1 := nfw_lens (h := h) g1.1
    have m2 := nfw_lens (h := h') g2.1
    have n1 := Lib.hid (norm_any A B c d h l)
    have n2 := Lib.hid (norm_any A' B' c' d' h' l')
    rw [normL, if_pos hk1] at n1
    rw [normL, if_pos hk2] at n2
    obtain ⟨x, hx⟩ : ∃ x, (nfw h l).1 = x := ⟨_, rfl⟩
    obtain ⟨y, hy⟩ : ∃ y, (nfw h l).2 = y := ⟨_, rfl⟩
    obtain ⟨x', hx'⟩ : ∃ x, (nfw h' l').1 = x := ⟨_, rfl⟩
    obtain ⟨y', hy'⟩ : ∃ y, (nfw h' l').2 = y := ⟨_, rfl⟩
    rw [hx, hy] at m1 n1
    rw [hx', hy'] at m2 n2
    have hres : sameB h l h' l' = (x == x' && y == y') := by rw [sameB, hx, hy, hx', hy', h1]; rfl
    rw [hres]
    have HCK := Lib.hid h1
    clear hx hy hx' hy' hres hk1 hk2
    obtain ⟨bx, hbx⟩ : ∃ b, (x == x') = b := ⟨_, rfl⟩
    have q1 := Lib.hid (fun V V' cv cv' => sliceq_any V V' cv cv' x x')
    have q2 := Lib.hid (fun V V' cv cv' => sliceq_any V V' cv cv' y y')
    rw [hbx] at q1 ⊢
    clear hbx
    go_enter Try.func22, Try.ntmps22
    go_wp2_with (first
      | (go_at_call 42; refine (bo.out _ hh hl hh' hl').mono ?_; rintro e w1 ⟨rfl, hb1⟩; obtain ⟨s1, s2, s3, s4⟩ := box22 hb1; obtain ⟨⟨f1, f2⟩, f3, f4⟩ := box22s hb1))
    go_region_with (first
      | (go_at_call_of 18 (Value.agg #[Value.slice A h.length c, Value.slice B l.length d]); refine (n1.out _ (HA.out.to ?_) (HB.out.to ?_) hh hl hc hd).mono ?_; (focus ((repeat (first | (with_reducible exact Below.refl _ _) | (with_reducible assumption) | (with_reducible exact bel_box _) | (with_reducible refine bel_step ?_ (by with_reducible assumption)) | (with_reducible refine Below.drew ?_) | (with_reducible refine below_drewN ?_ _) | (with_reducible refine bel_alloc ?_ _))); done)); (focus ((repeat (first | (with_reducible exact Below.refl _ _) | (with_reducible assumption) | (with_reducible exact bel_box _) | (with_reducible refine bel_step ?_ (by with_reducible assumption)) | (with_reducible refine Below.drew ?_) | (with_reducible refine below_drewN ?_ _) | (with_reducible refine bel_alloc ?_ _))); done)); rintro e w2 ⟨V, U, cv, cu, rfl, hR, hS, hcv, hcu, hb2, hn1, hn2⟩; have HV := Lib.hid hR; have HU := Lib.hid hS; clear hR hS; have hb12 : Below ((w.alloc (.cells #[.slice A h.length c, .slice B l.length d] 24)).alloc (.cells #[.slice A' h'.length c', .slice B' l'.length d'] 24)).heap.size ((w.alloc (.cells #[.slice A h.length c, .slice B l.length d] 24)).alloc (.cells #[.slice A' h'.length c', .slice B' l'.length d'] 24)) w2 := (by repeat (first | (with_reducible exact Below.refl _ _) | (with_reducible assumption) | (with_reducible exact bel_box _) | (with_reducible refine bel_step ?_ (by with_reducible assumption)) | (with_reducible refine Below.drew ?_) | (with_reducible refine below_drewN ?_ _) | (with_reducible refine bel_alloc ?_ _))); obtain ⟨s1, s2, s3, s4⟩ := box22 hb12; obtain ⟨⟨f1, f2⟩, f3, f4⟩ := box22s hb12)
      | (go_at_call 18; refine (n2.out _ (HA'.out.to ?_) (HB'.out.to ?_) hh' hl' hc' hd').mono ?_; (focus ((repeat (first | (with_reducible exact Below.refl _ _) | (with_reducible assumption) | (with_reducible exact bel_box _) | (with_reducible refine bel_step ?_ (by with_reducible assumption)) | (with_reducible refine Below.drew ?_) | (with_reducible refine below_drewN ?_ _) | (with_reducible refine bel_alloc ?_ _))); done)); (focus ((repeat (first | (with_reducible exact Below.refl _ _) | (with_reducible assumption) | (with_reducible exact bel_box _) | (with_reducible refine bel_step ?_ (by with_reducible assumption)) | (with_reducible refine Below.drew ?_) | (with_reducible refine below_drewN ?_ _) | (with_reducible refine bel_alloc ?_ _))); done)); rintro e w3 ⟨V', U', cv', cu', rfl, hR, hS, hcv', hcu', hb3, hn1', hn2'⟩; have HV' := Lib.hid hR; have HU' := Lib.hid hS; clear hR hS; have hb123 : Below ((w.alloc (.cells #[.slice A h.length c, .slice B l.length d] 24)).alloc (.cells #[.slice A' h'.length c', .slice B' l'.length d'] 24)).heap.size ((w.alloc (.cells #[.slice A h.length c, .slice B l.length d] 24)).alloc (.cells #[.slice A' h'.length c', .slice B' l'.length d'] 24)) w3 := (by repeat (first | (with_reducible exact Below.refl _ _) | (with_reducible assumption) | (with_reducible exact bel_box _) | (with_reducible refine bel_step ?_ (by with_reducible assumption)) | (with_reducible refine Below.drew ?_) | (with_reducible refine below_drewN ?_ _) | (with_reducible refine bel_alloc ?_ _))); obtain ⟨s1, s2, s3, s4⟩ := box22 hb123; obtain ⟨⟨f1, f2⟩, f3, f4⟩ := box22s hb123))
    all_goals
      have z1 : w.heap.size + 2 ≤ w1.heap.size := by have := hb1.size; simp at this; omega
      have z2 : w1.heap.size ≤ w2.heap.size := by have := hb2.size; simpa using this
      have z3 : w.heap.size < w1.drew.heap.size := by simp; omega
      have z4 : w.heap.size + 1 < w1.drew.heap.size := by simp; omega
      obtain ⟨t1, t2, t3, t4⟩ := set4_cells s1 s2 s3 s4 (.slice V x.length cv) (.slice U y.length cu) (.slice V' x'.length cv') (.slice U' y'.length cu')
      have R1 := Lib.hid (((hto HV (W := w3) (by repeat (first | (with_reducible exact Below.refl _ _) | (with_reducible assumption) | (with_reducible exact bel_box _) | (with_reducible refine bel_step ?_ (by with_reducible assumption)) | (with_reducible refine Below.drew ?_) | (with_reducible refine below_drewN ?_ _) | (with_reducible refine bel_alloc ?_ _)))).set2_lo hn1 (b := w.heap.size) (by omega) (.slice V x.length cv) (.slice U y.length cu)).set2_lo hn1 (b := w.heap.size + 1) (by omega) (.slice V' x'.length cv') (.slice U' y'.length cu'))
      have R2 := Lib.hid (((hto HU (W := w3) (by repeat (first | (with_reducible exact Below.refl _ _) | (with_reducible assumption) | (with_reducible exact bel_box _) | (with_reducible refine bel_step ?_ (by with_reducible assumption)) | (with_reducible refine Below.drew ?_) | (with_reducible refine below_drewN ?_ _) | (with_reducible refine bel_alloc ?_ _)))).set2_lo hn2 (b := w.heap.size) (by omega) (.slice V x.length cv) (.slice U y.length cu)).set2_lo hn2 (b := w.heap.size + 1) (by omega) (.slice V' x'.length cv') (.slice U' y'.length cu'))
      have R3 := Lib.hid (((hto HV' (W := w3) (by repeat (first | (with_reducible exact Below.refl _ _) | (with_reducible assumption) | (with_reducible exact bel_box _) | (with_reducible refine bel_step ?_ (by with_reducible assumption)) | (with_reducible refine Below.drew ?_) | (with_reducible refine below_drewN ?_ _) | (with_reducible refine bel_alloc ?_ _)))).set2_lo hn1' (b := w.heap.size) (by omega) (.slice V x.length cv) (.slice U y.length cu)).set2_lo hn1' (b := w.heap.size + 1) (by omega) (.slice V' x'.length cv') (.slice U' y'.length cu'))
      have R4 := Lib.hid (((hto HU' (W := w3) (by repeat (first | (with_reducible exact Below.refl _ _) | (with_reducible assumption) | (with_reducible exact bel_box _) | (with_reducible refine bel_step ?_ (by with_reducible assumption)) | (with_reducible refine Below.drew ?_) | (with_reducible refine below_drewN ?_ _) | (with_reducible refine bel_alloc ?_ _)))).set2_lo hn2' (b := w.heap.size) (by omega) (.slice V x.length cv) (.slice U y.length cu)).set2_lo hn2' (b := w.heap.size + 1) (by omega) (.slice V' x'.length cv') (.slice U' y'.length cu'))
      have BF : Below w.heap.size w ((((w3.setCell ⟨w.heap.size, 0, none⟩ (.slice V x.length cv)).setCell ⟨w.heap.size, 1, none⟩ (.slice U y.length cu)).setCell ⟨w.heap.size + 1, 0, none⟩ (.slice V' x'.length cv')).setCell ⟨w.heap.size + 1, 1, none⟩ (.slice U' y'.length cu')) := bel_set2 (bel_set2 (bel_step (bel_step (bel_box _) (bel_box _)) hb123) (Nat.le_refl _) _ _) (Nat.le_succ _) _ _
      generalize ((((w3.setCell ⟨w.heap.size, 0, none⟩ (.slice V x.length cv)).setCell ⟨w.heap.size, 1, none⟩ (.slice U y.length cu)).setCell ⟨w.heap.size + 1, 0, none⟩ (.slice V' x'.length cv')).setCell ⟨w.heap.size + 1, 1, none⟩ (.slice U' y'.length cu')) = WF at *
      clear s1 s2 s3 s4 f1 f2 f3 f4 hb1 hb2 hb3 hb12 hb123 HV HU HV' HU' hn1 hn2 hn1' hn2'
    all_goals
      cases bx
      · go_wp2_with (go_at_call 43; refine (q1.out _ _ _ _ _ (hto R1 ?_) (hto R3 ?_) (by omega) (by omega)).mono ?_; (focus ((repeat (first | (with_reducible exact Below.refl _ _) | (with_reducible assumption) | (with_reducible exact bel_box _) | (with_reducible refine bel_step ?_ (by with_reducible assumption)) | (with_reducible refine Below.drew ?_) | (with_reducible refine below_drewN ?_ _) | (with_reducible refine bel_alloc ?_ _))); done)); (focus ((repeat (first | (with_reducible exact Below.refl _ _) | (with_reducible assumption) | (with_reducible exact bel_box _) | (with_reducible refine bel_step ?_ (by with_reducible assumption)) | (with_reducible refine Below.drew ?_) | (with_reducible refine below_drewN ?_ _) | (with_reducible refine bel_alloc ?_ _))); done)); rintro e w4 ⟨rfl, j4, rfl⟩)
        go_ret
        exact ⟨rfl, below_drewN BF _⟩
      · go_wp2_with (first
          | (go_at_call_of 43 (Value.slice V x.length cv); refine (q1.out _ _ _ _ _ (hto R1 ?_) (hto R3 ?_) (by omega) (by omega)).mono ?_; (focus ((repeat (first | (with_reducible exact Below.refl _ _) | (with_reducible assumption) | (with_reducible exact bel_box _) | (with_reducible refine bel_step ?_ (by with_reducible assumption)) | (with_reducible refine Below.drew ?_) | (with_reducible refine below_drewN ?_ _) | (with_reducible refine bel_alloc ?_ _))); done)); (focus ((repeat (first | (with_reducible exact Below.refl _ _) | (with_reducible assumption) | (with_reducible exact bel_box _) | (with_reducible refine bel_step ?_ (by with_reducible assumption)) | (with_reducible refine Below.drew ?_) | (with_reducible refine below_drewN ?_ _) | (with_reducible refine bel_alloc ?_ _))); done)); rintro e w4 ⟨rfl, j4, rfl⟩)
          | (go_at_call 43; refine (q2.out _ _ _ _ _ (hto R2 ?_) (hto R4 ?_) (by omega) (by omega)).mono ?_; (focus ((repeat (first | (with_reducible exact Below.refl _ _) | (with_reducible assumption) | (with_reducible exact bel_box _) | (with_reducible refine bel_step ?_ (by with_reducible assumption)) | (with_reducible refine Below.drew ?_) | (with_reducible refine below_drewN ?_ _) | (with_reducible refine bel_alloc ?_ _))); done)); (focus ((repeat (first | (with_reducible exact Below.refl _ _) | (with_reducible assumption) | (with_reducible exact bel_box _) | (with_reducible refine bel_step ?_ (by with_reducible assumption)) | (with_reducible refine Below.drew ?_) | (with_reducible refine below_drewN ?_ _) | (with_reducible refine bel_alloc ?_ _))); done)); rintro e w5 ⟨rfl, j5, rfl⟩))
        go_ret
        exact ⟨rfl, below_drewN BF _⟩
  · have hd1 : (ck2 h l h' l' != 0) = true := by simpa using h1
    rw [sameB, decide_eq_false h1, Bool.false_and]
    clear h1
    go_enter Try.func22, Try.ntmps22
    go_wp2_with (first
      | (go_at_call 42; refine (bo.out _ hh hl hh' hl').mono ?_; rintro e w1 ⟨rfl, hb1⟩))
    go_ret
    exact ⟨rfl, (by repeat (first | (with_reducible exact Below.refl _ _) | (with_reducible assumption) | (with_reducible exact bel_box _) | (with_reducible refine bel_step ?_ (by with_reducible assumption)) | (with_reducible refine Below.drew ?_) | (with_reducible refine below_drewN ?_ _) | (with_reducible refine bel_alloc ?_ _)))⟩
end Go.Proofs.Ytimecbkfeennpaa
