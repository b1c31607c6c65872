/- BwordNorms: the walk. -/
import Derived.Test.YtimecbkfeennpaaBwAlike
namespace Go.Proofs.Ytimecbkfeennpaa
set_option linter.unusedVariables false
set_option linter.unusedSimpArgs false
open Go.RowKit
theorem norm_len (h l : List Bool) : (normL h l).1.length ≤ h.length ∧ (normL h l).2.length ≤ l.length := by
  unfold normL
  split
  · rename_i h1
    have := nfw_lens (h := h) (lens h1).1
    exact ⟨this.1, this.2.2⟩
  · exact ⟨Nat.zero_le _, Nat.zero_le _⟩
theorem norm_ck {h l : List Bool} (h1 : ck h l = 0) : ck (nfw h l).1 (nfw h l).2 = 0 := by
  have k := lens h1
  have := nfw_lens (h := h) k.1
  unfold ck
  rw [if_neg (by omega), if_neg (by omega)]
theorem norm_lt {h l : List Bool} (h1 : ck h l = 0) (i : Nat) : lt (nfw h l).1 (nfw h l).2 i = lt h l i := lt_nf (per_lt h l) (lens h1).1 i
theorem norm_idem (h l : List Bool) : normL (normL h l).1 (normL h l).2 = normL h l := by
  by_cases h1 : ck h l = 0
  · have e : normL h l = nfw h l := by rw [normL, if_pos h1]
    have k := lens (norm_ck h1)
    rw [e, normL, if_pos (norm_ck h1)]
    exact nf_eq (per_lt _ _) k.1 (per_lt h l) (lens h1).1 (norm_lt h1)
  · have e : normL h l = ([], []) := by rw [normL, if_neg h1]
    rw [e]
    rfl
theorem norm_al (h l : List Bool) (n : Nat) : alB (normL h l).1 (normL h l).2 h l n = true := by
  rw [alB, List.all_eq_true]
  intro i _
  rw [beq_iff_eq]
  by_cases h1 : ck h l = 0
  · have e : normL h l = nfw h l := by rw [normL, if_pos h1]
    rw [e, att_yes (norm_ck h1), att_yes h1, norm_lt h1]
  · have e : normL h l = ([], []) := by rw [normL, if_neg h1]
    rw [e, att_no (fun k => h1 k.1), att_no (fun k => absurd k.1 (by decide))]
theorem and4' {a b c d : Prop} (h : a ∧ b) (k : c ∧ d) : a ∧ b ∧ c ∧ d := ⟨h.1, h.2, k.1, k.2⟩
set_option maxHeartbeats 2000000 in
set_option maxRecDepth 100000 in
theorem norms_any (A B : Option Addr) (c d : Nat) (h l : List Bool) (w : World) (hA : Rd w w.heap.size A (bls h)) (hB : Rd w w.heap.size B (bls l))
    (hh : h.length ≤ 140737488355328) (hl : l.length ≤ 140737488355328) (hc : h.length ≤ c) (hd : l.length ≤ d) :
    Calls Try.prog 4 #[.agg #[.slice A h.length c, .slice B l.length d]] w (Bel (.bool true) w) := by
  have HA := Lib.hid hA
  have HB := Lib.hid hB
  clear hA hB
  have hug := Lib.hid (huge_any A B c d h l)
  have aw := Lib.hid awake_any
  by_cases hg : decide (h.length + l.length > 300) = true
  · go_enter Try.func4, Try.ntmps4
    go_wp2_with (first
      | (go_at_call 10; refine (hug.out _ hh hl).mono ?_; rintro e w1 ⟨rfl, hb1⟩; rw [hg])
      | (go_at_call 11; refine (aw.out _).mono ?_; rintro e w2 ⟨rfl, hb2⟩))
    go_ret
    exact ⟨rfl, (by repeat (first | (with_reducible exact Below.refl _ _) | (with_reducible assumption) | (with_reducible exact bel_box _) | (with_reducible refine bel_step ?_ (by with_reducible assumption)) | (with_reducible refine Below.drew ?_) | (with_reducible refine below_drewN ?_ _) | (with_reducible refine bel_alloc ?_ _)))⟩
  · rw [Bool.not_eq_true] at hg
    obtain ⟨x, y, hxy⟩ : ∃ x y, normL h l = (x, y) := ⟨_, _, rfl⟩
    have hlen := norm_len h l
    have hid2 := norm_idem h l
    have hal := norm_al h l 200
    have n1 := Lib.hid (norm_any A B c d h l)
    have n2 := Lib.hid (rnorm_any A B c d h l)
    have n3 := Lib.hid (fun V U cv cu => norm_any V U cv cu x y)
    have n4 := Lib.hid (fun V U cv cu => alike_any V U A B cv cu c d 200 x y h l)
    rw [hxy] at hlen hid2 hal n1 n2
    rw [hid2] at n3
    rw [hal] at n4
    simp only at hlen n1 n2 n3
    have hx : x.length ≤ 140737488355328 := by omega
    have hy : y.length ≤ 140737488355328 := by omega
    have hyl : (y.length : Int) ≤ (l.length : Int) := by omega
    clear hid2 hal hlen hxy
    go_enter Try.func4, Try.ntmps4
    go_wp2_with (first
      | (go_at_call 10; refine (hug.out _ hh hl).mono ?_; rintro e w1 ⟨rfl, hb1⟩; rw [hg]; obtain ⟨s1, s2⟩ := box2 hb1)
      | (go_at_call 18; refine (n1.out _ (HA.out.to ?_) (HB.out.to ?_) hh hl hc hd).mono ?_; (focus ((repeat (first | (with_reducible exact Below.refl _ _) | (with_reducible assumption) | (with_reducible exact bel_box _) | (with_reducible refine bel_step ?_ (by with_reducible assumption)) | (with_reducible refine Below.drew ?_) | (with_reducible refine below_drewN ?_ _) | (with_reducible refine bel_alloc ?_ _))); done)); (focus ((repeat (first | (with_reducible exact Below.refl _ _) | (with_reducible assumption) | (with_reducible exact bel_box _) | (with_reducible refine bel_step ?_ (by with_reducible assumption)) | (with_reducible refine Below.drew ?_) | (with_reducible refine below_drewN ?_ _) | (with_reducible refine bel_alloc ?_ _))); done)); rintro e w2 ⟨V, U, cv, cu, rfl, hR, hS, hcv, hcu, hb2, hn1, hn2⟩; have HV := Lib.hid hR; have HU := Lib.hid hS; clear hR hS hn1 hn2))
    have hbx : Below (w.alloc (.cells #[.slice A h.length c, .slice B l.length d] 24)).heap.size (w.alloc (.cells #[.slice A h.length c, .slice B l.length d] 24)) (w2.alloc (.cells #[.slice V x.length cv, .slice U y.length cu] 24)) := (by repeat (first | (with_reducible exact Below.refl _ _) | (with_reducible assumption) | (with_reducible exact bel_box _) | (with_reducible refine bel_step ?_ (by with_reducible assumption)) | (with_reducible refine Below.drew ?_) | (with_reducible refine below_drewN ?_ _) | (with_reducible refine bel_alloc ?_ _)))
    clear s1 s2
    have hs := and4' (box2 hbx) (box2 (Below.refl (w2.alloc (.cells #[.slice V x.length cv, .slice U y.length cu] 24)).heap.size (w2.alloc (.cells #[.slice V x.length cv, .slice U y.length cu] 24))))
    obtain ⟨s1, s2, s3, s4⟩ := hs
    go_region_held3 (fun w' => w'.cell? ⟨w.heap.size, 0, none⟩ = some (.slice A h.length c) ∧ w'.cell? ⟨w.heap.size, 1, none⟩ = some (.slice B l.length d) ∧ w'.cell? ⟨w2.heap.size, 0, none⟩ = some (.slice V x.length cv) ∧ w'.cell? ⟨w2.heap.size, 1, none⟩ = some (.slice U y.length cu))
      ((refine and4' (box2 (w := w) (t := 24) ?_) (box2 (w := w2) (t := 24) ?_); (focus ((repeat (first | (with_reducible exact Below.refl _ _) | (with_reducible assumption) | (with_reducible exact bel_box _) | (with_reducible refine bel_step ?_ (by with_reducible assumption)) | (with_reducible refine Below.drew ?_) | (with_reducible refine below_drewN ?_ _) | (with_reducible refine bel_alloc ?_ _))); done)); (focus ((repeat (first | (with_reducible exact Below.refl _ _) | (with_reducible assumption) | (with_reducible exact bel_box _) | (with_reducible refine bel_step ?_ (by with_reducible assumption)) | (with_reducible refine Below.drew ?_) | (with_reducible refine below_drewN ?_ _) | (with_reducible refine bel_alloc ?_ _))); done))))
      (first
        | (go_at_call 20; refine (n2.out _ (HA.out.to ?_) (HB.out.to ?_) hh hl hc hd).mono ?_; (focus ((repeat (first | (with_reducible exact Below.refl _ _) | (with_reducible assumption) | (with_reducible exact bel_box _) | (with_reducible refine bel_step ?_ (by with_reducible assumption)) | (with_reducible refine Below.drew ?_) | (with_reducible refine below_drewN ?_ _) | (with_reducible refine bel_alloc ?_ _))); done)); (focus ((repeat (first | (with_reducible exact Below.refl _ _) | (with_reducible assumption) | (with_reducible exact bel_box _) | (with_reducible refine bel_step ?_ (by with_reducible assumption)) | (with_reducible refine Below.drew ?_) | (with_reducible refine below_drewN ?_ _) | (with_reducible refine bel_alloc ?_ _))); done)); rintro e w3 ⟨V3, U3, cv3, cu3, rfl, hR, hS, hcv3, hcu3, hb3, _, _⟩; have HV3 := Lib.hid hR; have HU3 := Lib.hid hS; clear hR hS)
        | (go_at_call 18; refine (n3.out _ _ _ _ _ (hto (by assumption) ?_) (hto (by assumption) ?_) hx hy hcv hcu).mono ?_; (focus ((repeat (first | (with_reducible exact Below.refl _ _) | (with_reducible assumption) | (with_reducible exact bel_box _) | (with_reducible refine bel_step ?_ (by with_reducible assumption)) | (with_reducible refine Below.drew ?_) | (with_reducible refine below_drewN ?_ _) | (with_reducible refine bel_alloc ?_ _))); done)); (focus ((repeat (first | (with_reducible exact Below.refl _ _) | (with_reducible assumption) | (with_reducible exact bel_box _) | (with_reducible refine bel_step ?_ (by with_reducible assumption)) | (with_reducible refine Below.drew ?_) | (with_reducible refine below_drewN ?_ _) | (with_reducible refine bel_alloc ?_ _))); done)); rintro e w4 ⟨V4, U4, cv4, cu4, rfl, hR, hS, hcv4, hcu4, hb4, _, _⟩; have HV4 := Lib.hid hR; have HU4 := Lib.hid hS; clear hR hS)
        | (go_at_call 19; refine (x_equal _ _ _ _ _ _ _ _ x y _ (hto (by assumption) ?_) (hto (by assumption) ?_) (hto (by assumption) ?_) (hto (by assumption) ?_) hx hy).mono ?_; (focus ((repeat (first | (with_reducible exact Below.refl _ _) | (with_reducible assumption) | (with_reducible exact bel_box _) | (with_reducible refine bel_step ?_ (by with_reducible assumption)) | (with_reducible refine Below.drew ?_) | (with_reducible refine below_drewN ?_ _) | (with_reducible refine bel_alloc ?_ _))); done)); (focus ((repeat (first | (with_reducible exact Below.refl _ _) | (with_reducible assumption) | (with_reducible exact bel_box _) | (with_reducible refine bel_step ?_ (by with_reducible assumption)) | (with_reducible refine Below.drew ?_) | (with_reducible refine below_drewN ?_ _) | (with_reducible refine bel_alloc ?_ _))); done)); (focus ((repeat (first | (with_reducible exact Below.refl _ _) | (with_reducible assumption) | (with_reducible exact bel_box _) | (with_reducible refine bel_step ?_ (by with_reducible assumption)) | (with_reducible refine Below.drew ?_) | (with_reducible refine below_drewN ?_ _) | (with_reducible refine bel_alloc ?_ _))); done)); (focus ((repeat (first | (with_reducible exact Below.refl _ _) | (with_reducible assumption) | (with_reducible exact bel_box _) | (with_reducible refine bel_step ?_ (by with_reducible assumption)) | (with_reducible refine Below.drew ?_) | (with_reducible refine below_drewN ?_ _) | (with_reducible refine bel_alloc ?_ _))); done)); rintro e w5 ⟨rfl, hb5⟩))
    all_goals go_wp2_with (first
      | (go_at_call 21; refine (n4.out _ _ _ _ _ (hto (by assumption) ?_) (hto (by assumption) ?_) (HA.out.to ?_) (HB.out.to ?_) hx hy hh hl (by decide)).mono ?_; (focus ((repeat (first | (with_reducible exact Below.refl _ _) | (with_reducible assumption) | (with_reducible exact bel_box _) | (with_reducible refine bel_step ?_ (by with_reducible assumption)) | (with_reducible refine Below.drew ?_) | (with_reducible refine below_drewN ?_ _) | (with_reducible refine bel_alloc ?_ _))); done)); (focus ((repeat (first | (with_reducible exact Below.refl _ _) | (with_reducible assumption) | (with_reducible exact bel_box _) | (with_reducible refine bel_step ?_ (by with_reducible assumption)) | (with_reducible refine Below.drew ?_) | (with_reducible refine below_drewN ?_ _) | (with_reducible refine bel_alloc ?_ _))); done)); (focus ((repeat (first | (with_reducible exact Below.refl _ _) | (with_reducible assumption) | (with_reducible exact bel_box _) | (with_reducible refine bel_step ?_ (by with_reducible assumption)) | (with_reducible refine Below.drew ?_) | (with_reducible refine below_drewN ?_ _) | (with_reducible refine bel_alloc ?_ _))); done)); (focus ((repeat (first | (with_reducible exact Below.refl _ _) | (with_reducible assumption) | (with_reducible exact bel_box _) | (with_reducible refine bel_step ?_ (by with_reducible assumption)) | (with_reducible refine Below.drew ?_) | (with_reducible refine below_drewN ?_ _) | (with_reducible refine bel_alloc ?_ _))); done)); rintro e w6 ⟨rfl, hb6⟩)
      | (go_at_call 11; refine (aw.out _).mono ?_; rintro e w7 ⟨rfl, hb7⟩))
    all_goals go_ret
    all_goals exact ⟨rfl, (by repeat (first | (with_reducible exact Below.refl _ _) | (with_reducible assumption) | (with_reducible exact bel_box _) | (with_reducible refine bel_step ?_ (by with_reducible assumption)) | (with_reducible refine Below.drew ?_) | (with_reducible refine below_drewN ?_ _) | (with_reducible refine bel_alloc ?_ _)))⟩
end Go.Proofs.Ytimecbkfeennpaa
