/- BwordAnds: the walk. -/
import Derived.Test.YtimecbkfeennpaaBwAd1
import Derived.Test.YtimecbkfeennpaaBwAd2
import Derived.Test.YtimecbkfeennpaaBwAd3
namespace Go.Proofs.Ytimecbkfeennpaa
set_option linter.unusedVariables false
set_option linter.unusedSimpArgs false
open Go.RowKit
set_option maxHeartbeats 4000000 in
set_option maxRecDepth 100000 in
theorem ands_any (A B A' B' : Option Addr) (c d c' d' : Nat) (h l h' l' : List Bool) (w : World) (hA : Rd w w.heap.size A (bls h)) (hB : Rd w w.heap.size B (bls l)) (hA' : Rd w w.heap.size A' (bls h')) (hB' : Rd w w.heap.size B' (bls l'))
    (hh : h.length ≤ 140737488355328) (hl : l.length ≤ 140737488355328) (hh' : h'.length ≤ 140737488355328) (hl' : l'.length ≤ 140737488355328) (hc : h.length ≤ c) (hd : l.length ≤ d) (hc' : h'.length ≤ c') (hd' : l'.length ≤ d')  :
    Calls Try.prog 6 #[.agg #[.slice A h.length c, .slice B l.length d], .agg #[.slice A' h'.length c', .slice B' l'.length d']] w (Bel (.bool true) w) := by
  have hug1 : Hid (∀ W, Below w.heap.size w W → Calls Try.prog 10 #[.agg #[.slice A h.length c, .slice B l.length d]] W (Bel (.bool (decide (h.length + l.length > 300))) W)) := fun W _ => huge_any A B c d h l W hh hl
  have hug2 : Hid (∀ W, Below w.heap.size w W → Calls Try.prog 10 #[.agg #[.slice A' h'.length c', .slice B' l'.length d']] W (Bel (.bool (decide (h'.length + l'.length > 300))) W)) := fun W _ => huge_any A' B' c' d' h' l' W hh' hl'
  have aw : Hid (∀ W, Below w.heap.size w W → Calls Try.prog 11 #[] W (Bel (.bool true) W)) := fun W _ => awake_any W
  by_cases g1 : decide (h.length + l.length > 300) = true
  · rw [g1] at hug1
    clear g1
    go_enter Try.func6, Try.ntmps6
    go_wp2_with (first | (go_at_call 10; (with_reducible refine (hug1.out _ ?_).mono ?_); (focus ((repeat (first | (with_reducible exact Below.refl _ _) | (with_reducible assumption) | (with_reducible exact bel_box _) | (with_reducible refine bel_step ?_ (by with_reducible assumption)) | (with_reducible refine Below.drew ?_) | (with_reducible refine below_drewN ?_ _) | (with_reducible refine bel_alloc ?_ _))); done)); rintro e w1 ⟨rfl, hb1⟩) | (go_at_call 11; (with_reducible refine (aw.out _ ?_).mono ?_); (focus ((repeat (first | (with_reducible exact Below.refl _ _) | (with_reducible assumption) | (with_reducible exact bel_box _) | (with_reducible refine bel_step ?_ (by with_reducible assumption)) | (with_reducible refine Below.drew ?_) | (with_reducible refine below_drewN ?_ _) | (with_reducible refine bel_alloc ?_ _))); done)); rintro e w3 ⟨rfl, hb3⟩))
    go_ret
    exact ⟨rfl, (by repeat (first | (with_reducible exact Below.refl _ _) | (with_reducible assumption) | (with_reducible exact bel_box _) | (with_reducible refine bel_step ?_ (by with_reducible assumption)) | (with_reducible refine Below.drew ?_) | (with_reducible refine below_drewN ?_ _) | (with_reducible refine bel_alloc ?_ _)))⟩
  · rw [Bool.not_eq_true] at g1
    by_cases g2 : decide (h'.length + l'.length > 300) = true
    · rw [g1] at hug1
      rw [g2] at hug2
      clear g1 g2
      go_enter Try.func6, Try.ntmps6
      go_wp2_with (first | (go_at_call 10; (with_reducible refine (hug1.out _ ?_).mono ?_); (focus ((repeat (first | (with_reducible exact Below.refl _ _) | (with_reducible assumption) | (with_reducible exact bel_box _) | (with_reducible refine bel_step ?_ (by with_reducible assumption)) | (with_reducible refine Below.drew ?_) | (with_reducible refine below_drewN ?_ _) | (with_reducible refine bel_alloc ?_ _))); done)); rintro e w1 ⟨rfl, hb1⟩; obtain ⟨s1, s2, s3, s4⟩ := box22 (w := w) (x := .slice A h.length c) (y := .slice B l.length d) (x' := .slice A' h'.length c') (y' := .slice B' l'.length d') (t := 24) (t' := 24) (W := w1) (by repeat (first | (with_reducible exact Below.refl _ _) | (with_reducible assumption) | (with_reducible exact bel_box _) | (with_reducible refine bel_step ?_ (by with_reducible assumption)) | (with_reducible refine Below.drew ?_) | (with_reducible refine below_drewN ?_ _) | (with_reducible refine bel_alloc ?_ _)))) | (go_at_call 10; (with_reducible refine (hug2.out _ ?_).mono ?_); (focus ((repeat (first | (with_reducible exact Below.refl _ _) | (with_reducible assumption) | (with_reducible exact bel_box _) | (with_reducible refine bel_step ?_ (by with_reducible assumption)) | (with_reducible refine Below.drew ?_) | (with_reducible refine below_drewN ?_ _) | (with_reducible refine bel_alloc ?_ _))); done)); rintro e w2 ⟨rfl, hb2⟩) | (go_at_call 11; (with_reducible refine (aw.out _ ?_).mono ?_); (focus ((repeat (first | (with_reducible exact Below.refl _ _) | (with_reducible assumption) | (with_reducible exact bel_box _) | (with_reducible refine bel_step ?_ (by with_reducible assumption)) | (with_reducible refine Below.drew ?_) | (with_reducible refine below_drewN ?_ _) | (with_reducible refine bel_alloc ?_ _))); done)); rintro e w3 ⟨rfl, hb3⟩))
      go_ret
      exact ⟨rfl, (by repeat (first | (with_reducible exact Below.refl _ _) | (with_reducible assumption) | (with_reducible exact bel_box _) | (with_reducible refine bel_step ?_ (by with_reducible assumption)) | (with_reducible refine Below.drew ?_) | (with_reducible refine below_drewN ?_ _) | (with_reducible refine bel_alloc ?_ _)))⟩
    · rw [Bool.not_eq_true] at g2
      clear hug1 hug2 aw
      by_cases f2 : andE h l h' l' = 0
      · exact ands_1 A B A' B' c d c' d' h l h' l' w hA hB hA' hB' hh hl hh' hl' hc hd hc' hd' g1 g2 (andE_ok f2).1 f2
      · by_cases f1 : ck h l = 0
        · exact ands_2 A B A' B' c d c' d' h l h' l' w hA hB hA' hB' hh hl hh' hl' hc hd hc' hd' g1 g2 f1 f2
        · exact ands_3 A B A' B' c d c' d' h l h' l' w hA hB hA' hB' hh hl hh' hl' hc hd hc' hd' g1 g2 f1 f2
end Go.Proofs.Ytimecbkfeennpaa
