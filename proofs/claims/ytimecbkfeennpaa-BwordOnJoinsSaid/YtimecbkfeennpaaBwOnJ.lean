/- BwordOnJoins: the walk. -/
import Derived.Test.YtimecbkfeennpaaBwOj1
import Derived.Test.YtimecbkfeennpaaBwOj2
import Derived.Test.YtimecbkfeennpaaBwOj3
import Derived.Test.YtimecbkfeennpaaBwOj4
import Derived.Test.YtimecbkfeennpaaBwOj5
import Derived.Test.YtimecbkfeennpaaBwOj6
import Derived.Test.YtimecbkfeennpaaBwOj7
import Derived.Test.YtimecbkfeennpaaBwRsame
namespace Go.Proofs.Ytimecbkfeennpaa
set_option linter.unusedVariables false
set_option linter.unusedSimpArgs false
open Go.RowKit
set_option maxHeartbeats 4000000 in
set_option maxRecDepth 100000 in
theorem onjoins_any (A B A' B' A3 B3 : Option Addr) (c d c' d' c3 d3 : Nat) (h l h' l' h3 l3 : List Bool) (w : World) (hA0 : Rd w w.heap.size A (bls h)) (hB0 : Rd w w.heap.size B (bls l)) (hh0 : h.length ≤ 140737488355328) (hl0 : l.length ≤ 140737488355328) (hc0 : h.length ≤ c) (hd0 : l.length ≤ d) (hA1 : Rd w w.heap.size A' (bls h')) (hB1 : Rd w w.heap.size B' (bls l')) (hh1 : h'.length ≤ 140737488355328) (hl1 : l'.length ≤ 140737488355328) (hc1 : h'.length ≤ c') (hd1 : l'.length ≤ d') (hA2 : Rd w w.heap.size A3 (bls h3)) (hB2 : Rd w w.heap.size B3 (bls l3)) (hh2 : h3.length ≤ 140737488355328) (hl2 : l3.length ≤ 140737488355328) (hc2 : h3.length ≤ c3) (hd2 : l3.length ≤ d3)  :
    Calls Try.prog 8 #[.agg #[.slice A h.length c, .slice B l.length d], .agg #[.slice A' h'.length c', .slice B' l'.length d'], .agg #[.slice A3 h3.length c3, .slice B3 l3.length d3]] w (Bel (.bool true) w) := by
  have aw : Hid (∀ W, Below w.heap.size w W → Calls Try.prog 11 #[] W (Bel (.bool true) W)) := fun W _ => awake_any W
  have hug0 : Hid (∀ W, Below w.heap.size w W → Calls Try.prog 10 #[.agg #[.slice A h.length c, .slice B l.length d]] W (Bel (.bool (decide (h.length + l.length > 300))) W)) := fun W _ => huge_any A B c d h l W hh0 hl0
  have hug1 : Hid (∀ W, Below w.heap.size w W → Calls Try.prog 10 #[.agg #[.slice A' h'.length c', .slice B' l'.length d']] W (Bel (.bool (decide (h'.length + l'.length > 300))) W)) := fun W _ => huge_any A' B' c' d' h' l' W hh1 hl1
  have hug2 : Hid (∀ W, Below w.heap.size w W → Calls Try.prog 10 #[.agg #[.slice A3 h3.length c3, .slice B3 l3.length d3]] W (Bel (.bool (decide (h3.length + l3.length > 300))) W)) := fun W _ => huge_any A3 B3 c3 d3 h3 l3 W hh2 hl2
  by_cases g0 : decide (h.length + l.length > 300) = true
  · rw [g0] at hug0
    clear g0
    go_enter Try.func8, Try.ntmps8
    go_wp2_with (first | (go_at_call 10; (with_reducible refine (hug0.out _ ?_).mono ?_); (focus ((repeat (first | (with_reducible exact Below.refl _ _) | (with_reducible assumption) | (with_reducible exact bel_box _) | (with_reducible refine bel_step ?_ (by with_reducible assumption)) | (with_reducible refine Below.drew ?_) | (with_reducible refine below_drewN ?_ _) | (with_reducible refine bel_alloc ?_ _))); done)); rintro e w1 ⟨rfl, hb1⟩) | (go_at_call 11; (with_reducible refine (aw.out _ ?_).mono ?_); (focus ((repeat (first | (with_reducible exact Below.refl _ _) | (with_reducible assumption) | (with_reducible exact bel_box _) | (with_reducible refine bel_step ?_ (by with_reducible assumption)) | (with_reducible refine Below.drew ?_) | (with_reducible refine below_drewN ?_ _) | (with_reducible refine bel_alloc ?_ _))); done)); rintro e w20 ⟨rfl, hb20⟩))
    go_ret
    exact ⟨rfl, (by repeat (first | (with_reducible exact Below.refl _ _) | (with_reducible assumption) | (with_reducible exact bel_box _) | (with_reducible refine bel_step ?_ (by with_reducible assumption)) | (with_reducible refine Below.drew ?_) | (with_reducible refine below_drewN ?_ _) | (with_reducible refine bel_alloc ?_ _)))⟩
  · rw [Bool.not_eq_true] at g0
    by_cases g1 : decide (h'.length + l'.length > 300) = true
    · rw [g0] at hug0
      rw [g1] at hug1
      clear g0 g1
      go_enter Try.func8, Try.ntmps8
      go_wp2_with (first | (go_at_call 10; (with_reducible refine (hug0.out _ ?_).mono ?_); (focus ((repeat (first | (with_reducible exact Below.refl _ _) | (with_reducible assumption) | (with_reducible exact bel_box _) | (with_reducible refine bel_step ?_ (by with_reducible assumption)) | (with_reducible refine Below.drew ?_) | (with_reducible refine below_drewN ?_ _) | (with_reducible refine bel_alloc ?_ _))); done)); rintro e w1 ⟨rfl, hb1⟩; obtain ⟨s1, s2, s3, s4, s5, s6⟩ := box222 (w := w) (x := .slice A h.length c) (y := .slice B l.length d) (x' := .slice A' h'.length c') (y' := .slice B' l'.length d') (x2 := .slice A3 h3.length c3) (y2 := .slice B3 l3.length d3) (t := 24) (t' := 24) (t2 := 24) (W := w1) (by repeat (first | (with_reducible exact Below.refl _ _) | (with_reducible assumption) | (with_reducible exact bel_box _) | (with_reducible refine bel_step ?_ (by with_reducible assumption)) | (with_reducible refine Below.drew ?_) | (with_reducible refine below_drewN ?_ _) | (with_reducible refine bel_alloc ?_ _)))) | (go_at_call 10; (with_reducible refine (hug1.out _ ?_).mono ?_); (focus ((repeat (first | (with_reducible exact Below.refl _ _) | (with_reducible assumption) | (with_reducible exact bel_box _) | (with_reducible refine bel_step ?_ (by with_reducible assumption)) | (with_reducible refine Below.drew ?_) | (with_reducible refine below_drewN ?_ _) | (with_reducible refine bel_alloc ?_ _))); done)); rintro e w2 ⟨rfl, hb2⟩) | (go_at_call 11; (with_reducible refine (aw.out _ ?_).mono ?_); (focus ((repeat (first | (with_reducible exact Below.refl _ _) | (with_reducible assumption) | (with_reducible exact bel_box _) | (with_reducible refine bel_step ?_ (by with_reducible assumption)) | (with_reducible refine Below.drew ?_) | (with_reducible refine below_drewN ?_ _) | (with_reducible refine bel_alloc ?_ _))); done)); rintro e w20 ⟨rfl, hb20⟩))
      go_ret
      exact ⟨rfl, (by repeat (first | (with_reducible exact Below.refl _ _) | (with_reducible assumption) | (with_reducible exact bel_box _) | (with_reducible refine bel_step ?_ (by with_reducible assumption)) | (with_reducible refine Below.drew ?_) | (with_reducible refine below_drewN ?_ _) | (with_reducible refine bel_alloc ?_ _)))⟩
    · rw [Bool.not_eq_true] at g1
      by_cases g2 : decide (h3.length + l3.length > 300) = true
      · rw [g0] at hug0
        rw [g1] at hug1
        rw [g2] at hug2
        clear g0 g1 g2
        go_enter Try.func8, Try.ntmps8
        go_wp2_with (first | (go_at_call 10; (with_reducible refine (hug0.out _ ?_).mono ?_); (focus ((repeat (first | (with_reducible exact Below.refl _ _) | (with_reducible assumption) | (with_reducible exact bel_box _) | (with_reducible refine bel_step ?_ (by with_reducible assumption)) | (with_reducible refine Below.drew ?_) | (with_reducible refine below_drewN ?_ _) | (with_reducible refine bel_alloc ?_ _))); done)); rintro e w1 ⟨rfl, hb1⟩; obtain ⟨s1, s2, s3, s4, s5, s6⟩ := box222 (w := w) (x := .slice A h.length c) (y := .slice B l.length d) (x' := .slice A' h'.length c') (y' := .slice B' l'.length d') (x2 := .slice A3 h3.length c3) (y2 := .slice B3 l3.length d3) (t := 24) (t' := 24) (t2 := 24) (W := w1) (by repeat (first | (with_reducible exact Below.refl _ _) | (with_reducible assumption) | (with_reducible exact bel_box _) | (with_reducible refine bel_step ?_ (by with_reducible assumption)) | (with_reducible refine Below.drew ?_) | (with_reducible refine below_drewN ?_ _) | (with_reducible refine bel_alloc ?_ _)))) | (go_at_call 10; (with_reducible refine (hug1.out _ ?_).mono ?_); (focus ((repeat (first | (with_reducible exact Below.refl _ _) | (with_reducible assumption) | (with_reducible exact bel_box _) | (with_reducible refine bel_step ?_ (by with_reducible assumption)) | (with_reducible refine Below.drew ?_) | (with_reducible refine below_drewN ?_ _) | (with_reducible refine bel_alloc ?_ _))); done)); rintro e w2 ⟨rfl, hb2⟩; obtain ⟨s1, s2, s3, s4, s5, s6⟩ := box222 (w := w) (x := .slice A h.length c) (y := .slice B l.length d) (x' := .slice A' h'.length c') (y' := .slice B' l'.length d') (x2 := .slice A3 h3.length c3) (y2 := .slice B3 l3.length d3) (t := 24) (t' := 24) (t2 := 24) (W := w2) (by repeat (first | (with_reducible exact Below.refl _ _) | (with_reducible assumption) | (with_reducible exact bel_box _) | (with_reducible refine bel_step ?_ (by with_reducible assumption)) | (with_reducible refine Below.drew ?_) | (with_reducible refine below_drewN ?_ _) | (with_reducible refine bel_alloc ?_ _)))) | (go_at_call 10; (with_reducible refine (hug2.out _ ?_).mono ?_); (focus ((repeat (first | (with_reducible exact Below.refl _ _) | (with_reducible assumption) | (with_reducible exact bel_box _) | (with_reducible refine bel_step ?_ (by with_reducible assumption)) | (with_reducible refine Below.drew ?_) | (with_reducible refine below_drewN ?_ _) | (with_reducible refine bel_alloc ?_ _))); done)); rintro e w3 ⟨rfl, hb3⟩) | (go_at_call 11; (with_reducible refine (aw.out _ ?_).mono ?_); (focus ((repeat (first | (with_reducible exact Below.refl _ _) | (with_reducible assumption) | (with_reducible exact bel_box _) | (with_reducible refine bel_step ?_ (by with_reducible assumption)) | (with_reducible refine Below.drew ?_) | (with_reducible refine below_drewN ?_ _) | (with_reducible refine bel_alloc ?_ _))); done)); rintro e w20 ⟨rfl, hb20⟩))
        go_ret
        exact ⟨rfl, (by repeat (first | (with_reducible exact Below.refl _ _) | (with_reducible assumption) | (with_reducible exact bel_box _) | (with_reducible refine bel_step ?_ (by with_reducible assumption)) | (with_reducible refine Below.drew ?_) | (with_reducible refine below_drewN ?_ _) | (with_reducible refine bel_alloc ?_ _)))⟩
      · rw [Bool.not_eq_true] at g2
        clear hug0 hug1 hug2 aw
        by_cases f1 : ck h l = 0
        · by_cases f2 : onE h l h' l' = 0
          · by_cases f3 : onE h' l' h3 l3 = 0
            · by_cases f4 : onE (onR h l h' l').1 (onR h l h' l').2 h3 l3 = 0
              · by_cases f5 : onE h l (onR h' l' h3 l3).1 (onR h' l' h3 l3).2 = 0
                · exact oj_7 A B A' B' A3 B3 c d c' d' c3 d3 h l h' l' h3 l3 w hA0 hB0 hh0 hl0 hc0 hd0 hA1 hB1 hh1 hl1 hc1 hd1 hA2 hB2 hh2 hl2 hc2 hd2 g0 g1 g2 f1 f2 f3 f4 f5
                · exact oj_6 A B A' B' A3 B3 c d c' d' c3 d3 h l h' l' h3 l3 w hA0 hB0 hh0 hl0 hc0 hd0 hA1 hB1 hh1 hl1 hc1 hd1 hA2 hB2 hh2 hl2 hc2 hd2 g0 g1 g2 f1 f2 f3 f4 f5
              · exact oj_5 A B A' B' A3 B3 c d c' d' c3 d3 h l h' l' h3 l3 w hA0 hB0 hh0 hl0 hc0 hd0 hA1 hB1 hh1 hl1 hc1 hd1 hA2 hB2 hh2 hl2 hc2 hd2 g0 g1 g2 f1 f2 f3 f4
            · exact oj_4 A B A' B' A3 B3 c d c' d' c3 d3 h l h' l' h3 l3 w hA0 hB0 hh0 hl0 hc0 hd0 hA1 hB1 hh1 hl1 hc1 hd1 hA2 hB2 hh2 hl2 hc2 hd2 g0 g1 g2 f1 f2 f3
          · exact oj_3 A B A' B' A3 B3 c d c' d' c3 d3 h l h' l' h3 l3 w hA0 hB0 hh0 hl0 hc0 hd0 hA1 hB1 hh1 hl1 hc1 hd1 hA2 hB2 hh2 hl2 hc2 hd2 g0 g1 g2 f1 f2
        · rcases ck_two f1 with f2 | f2
          · exact oj_1 A B A' B' A3 B3 c d c' d' c3 d3 h l h' l' h3 l3 w hA0 hB0 hh0 hl0 hc0 hd0 hA1 hB1 hh1 hl1 hc1 hd1 hA2 hB2 hh2 hl2 hc2 hd2 g0 g1 g2 f2
          · exact oj_2 A B A' B' A3 B3 c d c' d' c3 d3 h l h' l' h3 l3 w hA0 hB0 hh0 hl0 hc0 hd0 hA1 hB1 hh1 hl1 hc1 hd1 hA2 hB2 hh2 hl2 hc2 hd2 g0 g1 g2 f2
end Go.Proofs.Ytimecbkfeennpaa
