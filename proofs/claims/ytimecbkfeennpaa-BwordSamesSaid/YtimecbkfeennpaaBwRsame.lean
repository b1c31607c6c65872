/- Same of the reference. -/
import Derived.Test.YtimecbkfeennpaaBwSame
namespace Go.Proofs.Ytimecbkfeennpaa
set_option linter.unusedVariables false
set_option linter.unusedSimpArgs false
open Go.RowKit
theorem ck_two {h l : List Bool} (e : ¬ ck h l = 0) : ck h l = 5 ∨ ck h l = 3 := by
  unfold ck at *
  split
  · exact Or.inl rfl
  · rename_i h1
    rw [if_neg h1] at e
    split
    · exact Or.inr rfl
    · rename_i h2
      rw [if_neg h2] at e
      exact absurd rfl e
set_option maxHeartbeats 2000000 in
theorem rsame_any (A B A' B' : Option Addr) (c d c' d' : Nat) (h l h' l' : List Bool) (w : World) (hA : Rd w w.heap.size A (bls h)) (hB : Rd w w.heap.size B (bls l)) (hA' : Rd w w.heap.size A' (bls h')) (hB' : Rd w w.heap.size B' (bls l'))
    (hh : h.length ≤ 140737488355328) (hl : l.length ≤ 140737488355328) (hh' : h'.length ≤ 140737488355328) (hl' : l'.length ≤ 140737488355328) (hc : h.length ≤ c) (hd : l.length ≤ d) (hc' : h'.length ≤ c') (hd' : l'.length ≤ d') :
    Calls Try.prog 23 #[.agg #[.slice A h.length c, .slice B l.length d], .agg #[.slice A' h'.length c', .slice B' l'.length d']] w (Bel (.bool (sameB h l h' l')) w) := by
  have HA := Lib.hid hA
  have HB := Lib.hid hB
  have HA' := Lib.hid hA'
  have HB' := Lib.hid hB'
  clear hA hB hA' hB'
  have k1 := Lib.hid (rcheck_any A B c d h l)
  have k2 := Lib.hid (rcheck_any A' B' c' d' h' l')
  by_cases e1 : ck h l = 0
  · by_cases e2 : ck h' l' = 0
    · have g1 := lens e1
      have g2 := lens e2
      have m1 := nfw_lens (h := h) g1.1
      have m2 := nfw_lens (h := h') g2.1
      have n1 := Lib.hid (rnorm_any A B c d h l)
      have n2 := Lib.hid (rnorm_any A' B' c' d' h' l')
      rw [normL, if_pos e1] at n1
      rw [normL, if_pos e2] at n2
      have h1 : ck2 h l h' l' = 0 := by rw [ck2, if_pos e1, e2]
      obtain ⟨x, hx⟩ : ∃ x, (nfw h l).1 = x := ⟨_, rfl⟩
      obtain ⟨y, hy⟩ : ∃ y, (nfw h l).2 = y := ⟨_, rfl⟩
      obtain ⟨x', hx'⟩ : ∃ x, (nfw h' l').1 = x := ⟨_, rfl⟩
      obtain ⟨y', hy'⟩ : ∃ y, (nfw h' l').2 = y := ⟨_, rfl⟩
      rw [hx, hy] at m1 n1
      rw [hx', hy'] at m2 n2
      have hres : sameB h l h' l' = (x == x' && y == y') := by rw [sameB, hx, hy, hx', hy', h1]; rfl
      rw [hres]
      have q := Lib.hid (fun V U V' U' cv cu cv' cu' => equal_any V U V' U' cv cu cv' cu' x y x' y')
      generalize (x == x' && y == y') = bx at *
      clear hx hy hx' hy' hres h1
      go_enter Try.func23, Try.ntmps23
      go_wp2
      have s := box22 (w := w) (x := .slice A h.length c) (y := .slice B l.length d) (x' := .slice A' h'.length c') (y' := .slice B' l'.length d') (t := 24) (t' := 24) (Below.refl _ _)
      obtain ⟨s1, s2, s3, s4⟩ := s
      go_region_held3 (fun w' => w'.cell? ⟨w.heap.size, 0, none⟩ = some (.slice A h.length c) ∧ w'.cell? ⟨w.heap.size, 1, none⟩ = some (.slice B l.length d) ∧ w'.cell? ⟨w.heap.size + 1, 0, none⟩ = some (.slice A' h'.length c') ∧ w'.cell? ⟨w.heap.size + 1, 1, none⟩ = some (.slice B' l'.length d'))
        ((refine box22 (t := 24) (t' := 24) ?_; (repeat (first | (with_reducible exact Below.refl _ _) | (with_reducible assumption) | (with_reducible exact bel_box _) | (with_reducible refine bel_step ?_ (by with_reducible assumption)) | (with_reducible refine Below.drew ?_) | (with_reducible refine below_drewN ?_ _) | (with_reducible refine bel_alloc ?_ _))); done))
        (first
          | (go_at_call_of 13 (Value.agg #[Value.slice A h.length c, Value.slice B l.length d]); refine (k1.out _ hh hl).mono ?_; rintro e w2 ⟨rfl, hb2⟩; rw [e1])
          | (go_at_call 13; refine (k2.out _ hh' hl').mono ?_; rintro e w3 ⟨rfl, hb3⟩; rw [e2])
          | (go_at_call_of 20 (Value.agg #[Value.slice A h.length c, Value.slice B l.length d]); refine (n1.out _ (HA.out.to ?_) (HB.out.to ?_) hh hl hc hd).mono ?_; (focus ((repeat (first | (with_reducible exact Below.refl _ _) | (with_reducible assumption) | (with_reducible exact bel_box _) | (with_reducible refine bel_step ?_ (by with_reducible assumption)) | (with_reducible refine Below.drew ?_) | (with_reducible refine below_drewN ?_ _) | (with_reducible refine bel_alloc ?_ _))); done)); (focus ((repeat (first | (with_reducible exact Below.refl _ _) | (with_reducible assumption) | (with_reducible exact bel_box _) | (with_reducible refine bel_step ?_ (by with_reducible assumption)) | (with_reducible refine Below.drew ?_) | (with_reducible refine below_drewN ?_ _) | (with_reducible refine bel_alloc ?_ _))); done)); rintro e w4 ⟨V, U, cv, cu, rfl, hR, hS, hcv, hcu, hb4, hn1, hn2⟩; have HV := Lib.hid hR; have HU := Lib.hid hS; clear hR hS)
          | (go_at_call 20; refine (n2.out _ (HA'.out.to ?_) (HB'.out.to ?_) hh' hl' hc' hd').mono ?_; (focus ((repeat (first | (with_reducible exact Below.refl _ _) | (with_reducible assumption) | (with_reducible exact bel_box _) | (with_reducible refine bel_step ?_ (by with_reducible assumption)) | (with_reducible refine Below.drew ?_) | (with_reducible refine below_drewN ?_ _) | (with_reducible refine bel_alloc ?_ _))); done)); (focus ((repeat (first | (with_reducible exact Below.refl _ _) | (with_reducible assumption) | (with_reducible exact bel_box _) | (with_reducible refine bel_step ?_ (by with_reducible assumption)) | (with_reducible refine Below.drew ?_) | (with_reducible refine below_drewN ?_ _) | (with_reducible refine bel_alloc ?_ _))); done)); rintro e w5 ⟨V', U', cv', cu', rfl, hR, hS, hcv', hcu', hb5, hn1', hn2'⟩; have HV' := Lib.hid hR; have HU' := Lib.hid hS; clear hR hS)
          | (go_at_call 19; refine (q.out _ _ _ _ _ _ _ _ _ (hto HV ?_) (hto HU ?_) (hto HV' ?_) (hto HU' ?_) (by omega) (by omega) (by omega) (by omega)).mono ?_; (focus ((repeat (first | (with_reducible exact Below.refl _ _) | (with_reducible assumption) | (with_reducible exact bel_box _) | (with_reducible refine bel_step ?_ (by with_reducible assumption)) | (with_reducible refine Below.drew ?_) | (with_reducible refine below_drewN ?_ _) | (with_reducible refine bel_alloc ?_ _))); done)); (focus ((repeat (first | (with_reducible exact Below.refl _ _) | (with_reducible assumption) | (with_reducible exact bel_box _) | (with_reducible refine bel_step ?_ (by with_reducible assumption)) | (with_reducible refine Below.drew ?_) | (with_reducible refine below_drewN ?_ _) | (with_reducible refine bel_alloc ?_ _))); done)); (focus ((repeat (first | (with_reducible exact Below.refl _ _) | (with_reducible assumption) | (with_reducible exact bel_box _) | (with_reducible refine bel_step ?_ (by with_reducible assumption)) | (with_reducible refine Below.drew ?_) | (with_reducible refine below_drewN ?_ _) | (with_reducible refine bel_alloc ?_ _))); done)); (focus ((repeat (first | (with_reducible exact Below.refl _ _) | (with_reducible assumption) | (with_reducible exact bel_box _) | (with_reducible refine bel_step ?_ (by with_reducible assumption)) | (with_reducible refine Below.drew ?_) | (with_reducible refine below_drewN ?_ _) | (with_reducible refine bel_alloc ?_ _))); done)); rintro e w6 ⟨rfl, hb6⟩))
      all_goals go_wp2
      all_goals go_ret
      all_goals exact ⟨rfl, (by repeat (first | (with_reducible exact Below.refl _ _) | (with_reducible assumption) | (with_reducible exact bel_box _) | (with_reducible refine bel_step ?_ (by with_reducible assumption)) | (with_reducible refine Below.drew ?_) | (with_reducible refine below_drewN ?_ _) | (with_reducible refine bel_alloc ?_ _)))⟩
    · have h1 : sameB h l h' l' = false := by rw [sameB, ck2, if_pos e1, decide_eq_false e2, Bool.false_and]
      rw [h1]
      clear h1
      rcases ck_two e2 with e4 | e4
      all_goals
        rw [e1] at k1
        rw [e4] at k2
        clear e1 e2 e4
        go_enter Try.func23, Try.ntmps23
        go_wp2
        have s := box22 (w := w) (x := .slice A h.length c) (y := .slice B l.length d) (x' := .slice A' h'.length c') (y' := .slice B' l'.length d') (t := 24) (t' := 24) (Below.refl _ _)
        obtain ⟨s1, s2, s3, s4⟩ := s
        go_region_with (first
          | (go_at_call_of 13 (Value.agg #[Value.slice A h.length c, Value.slice B l.length d]); refine (k1.out _ hh hl).mono ?_; rintro e w2 ⟨rfl, hb2⟩; have hb12 : Below ((w.alloc (.cells #[.slice A h.length c, .slice B l.length d] 24)).alloc (.cells #[.slice A' h'.length c', .slice B' l'.length d'] 24)).heap.size ((w.alloc (.cells #[.slice A h.length c, .slice B l.length d] 24)).alloc (.cells #[.slice A' h'.length c', .slice B' l'.length d'] 24)) w2 := (by repeat (first | (with_reducible exact Below.refl _ _) | (with_reducible assumption) | (with_reducible exact bel_box _) | (with_reducible refine bel_step ?_ (by with_reducible assumption)) | (with_reducible refine Below.drew ?_) | (with_reducible refine below_drewN ?_ _) | (with_reducible refine bel_alloc ?_ _))); obtain ⟨s1, s2, s3, s4⟩ := box22 hb12)
          | (go_at_call 13; refine (k2.out _ hh' hl').mono ?_; rintro e w3 ⟨rfl, hb3⟩))
        all_goals go_wp2
        all_goals go_ret
        all_goals exact ⟨rfl, (by repeat (first | (with_reducible exact Below.refl _ _) | (with_reducible assumption) | (with_reducible exact bel_box _) | (with_reducible refine bel_step ?_ (by with_reducible assumption)) | (with_reducible refine Below.drew ?_) | (with_reducible refine below_drewN ?_ _) | (with_reducible refine bel_alloc ?_ _)))⟩
  · have h1 : sameB h l h' l' = false := by rw [sameB, ck2, if_neg e1, decide_eq_false e1, Bool.false_and]
    rw [h1]
    clear h1
    rcases ck_two e1 with e4 | e4
    all_goals
      rw [e4] at k1
      clear e1 e4
      go_enter Try.func23, Try.ntmps23
      go_wp2
      have s := box22 (w := w) (x := .slice A h.length c) (y := .slice B l.length d) (x' := .slice A' h'.length c') (y' := .slice B' l'.length d') (t := 24) (t' := 24) (Below.refl _ _)
      obtain ⟨s1, s2, s3, s4⟩ := s
      go_region_with ((go_at_call 13; refine (k1.out _ hh hl).mono ?_; rintro e w2 ⟨rfl, hb2⟩))
      all_goals go_wp2
      all_goals go_ret
      all_goals exact ⟨rfl, (by repeat (first | (with_reducible exact Below.refl _ _) | (with_reducible assumption) | (with_reducible exact bel_box _) | (with_reducible refine bel_step ?_ (by with_reducible assumption)) | (with_reducible refine Below.drew ?_) | (with_reducible refine below_drewN ?_ _) | (with_reducible refine bel_alloc ?_ _)))⟩
end Go.Proofs.Ytimecbkfeennpaa
