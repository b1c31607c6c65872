/- Texts of one chain, in one file. -/
import Derived.Test.YthlapepjebidgaaGreatDoorQD
import Derived.Test.YthlapepjebidgaaGreatDoorQA
import Derived.ProofKit
import Derived.OpenShut
import Derived.Deep.Slices
import Derived.SizedLaws
import Derived.Lib.AppendZeros
import Derived.Deep.RegionHeld3
import Derived.Deep.RegionLaw
/- form of the reference. -/
namespace Go.Proofs.YthlapepjebidgaaGreatDoor
set_option linter.unusedVariables false
set_option linter.unusedSimpArgs false
open Go.RowKit
theorem bx6 {w W : World} {v0 v1 v2 v3 v4 v5 : Value} {T : TypeId} (h : Below (w.alloc (.cells #[v0, v1, v2, v3, v4, v5] T)).heap.size (w.alloc (.cells #[v0, v1, v2, v3, v4, v5] T)) W) :
    W.cell? ⟨w.heap.size, 0, none⟩ = some v0 ∧ W.cell? ⟨w.heap.size, 1, none⟩ = some v1 ∧ W.cell? ⟨w.heap.size, 2, none⟩ = some v2 ∧ W.cell? ⟨w.heap.size, 3, none⟩ = some v3 ∧ W.cell? ⟨w.heap.size, 4, none⟩ = some v4 ∧ W.cell? ⟨w.heap.size, 5, none⟩ = some v5 := by
  obtain ⟨hc, _, _⟩ := bcell h
  rw [hc _ _ (by simp), hc _ _ (by simp), hc _ _ (by simp), hc _ _ (by simp), hc _ _ (by simp), hc _ _ (by simp)]
  refine ⟨?_, ?_, ?_, ?_, ?_, ?_⟩ <;> simp [go_sem]
def formRP (k op t v : Int) (ba tg ne wok : Bool) : Bool :=
  if k < 1 ∨ 11 < k ∨ ba = false then false
  else if (k == 3) != (op != 0) || (op != 0 && decide (op < 1 ∨ 16 < op)) then false
  else if (!hasIdn k && (k != 11 && !ne)) = true then false
  else if k = 1 then (if t = 2 then decide (-32768 ≤ v ∧ v ≤ 32767) else tg)
  else if k = 8 then tg
  else if k = 9 then (t == 1 || decide (2 < t)) && v == 0
  else if k = 10 then t == 0 && (v == 0 || v == 1)
  else if k = 11 then t == 0 && v == 0 && wok
  else t == 0 && v == 0
set_option maxHeartbeats 4000000 in
set_option maxRecDepth 20000 in
theorem rform_any (x : Xt) (wok : Bool) (w : World) (KP : x.k = 11 → Hid (∀ W, Below w.heap.size w W → Calls Tryz.prog 125 #[.string x.nm] W (fun e w' => ∃ (A1 A2 : Option Addr) (n1 c1 n2 c2 : Nat) (er : Int), e = .returned (.tuple #[.agg #[.slice A1 n1 c1, .slice A2 n2 c2], .int .i64 er]) ∧ (er == 0) = wok ∧ Below W.heap.size W w'))) :
    Calls Tryz.prog 89 #[xV x] w (Bel (.bool (formRP x.k x.op x.t x.v (argP x.k x.op x.t x.v x.ar.length) (tagP x.t x.v) (x.nm.toList == []) wok)) w) := by
  have KA := Lib.hid (fun W => args_any x W)
  have KN := Lib.hid (fun W => named_any x.k W)
  have KT := Lib.hid (fun W => tagged_any x.t x.v W)
  generalize argP x.k x.op x.t x.v x.ar.length = ba at *
  generalize tagP x.t x.v = tg at *
  obtain ⟨ne, hne⟩ : ∃ ne, (x.nm.toList == []) = ne := ⟨_, rfl⟩
  rw [hne]
  cases x with
  | mk k op t v nm A c ar =>
    simp only [xV, Xt.k, Xt.op, Xt.t, Xt.v, Xt.nm, Xt.A, Xt.c, Xt.ar] at *
    by_cases h1 : k = 1
    · subst h1
      have hi : hasIdn 1 = false := rfl
      rw [hi] at KN
      clear KP
      go_enter Tryz.func89, Tryz.ntmps89
      go_wp2_with (first
        | (go_at_call 123; (with_reducible refine (KA.out _).mono ?_); rintro e w1 ⟨rfl, hb1⟩; obtain ⟨b0, b1, b2, b3, b4, b5⟩ := bx6 (w := w) (W := w1) (v0 := .int .i64 1) (v1 := .int .i64 op) (v2 := .int .i64 t) (v3 := .int .i64 v) (v4 := .string nm) (v5 := .slice A ar.length c) (T := 24) (by repeat (first | (with_reducible exact Below.refl _ _) | (with_reducible assumption) | (with_reducible exact bel_box _) | (with_reducible refine bel_step ?_ (by with_reducible assumption)) | (with_reducible refine Below.drew ?_) | (with_reducible refine below_drewN ?_ _) | (with_reducible refine bel_alloc ?_ _))))
        | (go_at_call 90; (with_reducible refine (KN.out _).mono ?_); rintro e w2 ⟨rfl, hb2⟩; obtain ⟨d0, d1, d2, d3, d4, d5⟩ := bx6 (w := w) (W := w2) (v0 := .int .i64 1) (v1 := .int .i64 op) (v2 := .int .i64 t) (v3 := .int .i64 v) (v4 := .string nm) (v5 := .slice A ar.length c) (T := 24) (by repeat (first | (with_reducible exact Below.refl _ _) | (with_reducible assumption) | (with_reducible exact bel_box _) | (with_reducible refine bel_step ?_ (by with_reducible assumption)) | (with_reducible refine Below.drew ?_) | (with_reducible refine below_drewN ?_ _) | (with_reducible refine bel_alloc ?_ _))))
        | (go_at_call 124; (with_reducible refine (KT.out _).mono ?_); rintro e w3 ⟨rfl, hb3⟩))
      all_goals go_ret
      all_goals refine ⟨ret_bool ?_, (by repeat (first | (with_reducible exact Below.refl _ _) | (with_reducible assumption) | (with_reducible exact bel_box _) | (with_reducible refine bel_step ?_ (by with_reducible assumption)) | (with_reducible refine Below.drew ?_) | (with_reducible refine below_drewN ?_ _) | (with_reducible refine bel_alloc ?_ _)))⟩
      all_goals (first | rfl | (simp_all [formRP]; done) | (rw [Bool.eq_iff_iff]; simp_all [formRP]; omega) | (simp [formRP]; omega))
    by_cases h2 : k = 2
    · subst h2
      have hi : hasIdn 2 = true := rfl
      rw [hi] at KN
      clear KP
      go_enter Tryz.func89, Tryz.ntmps89
      go_wp2_with (first
        | (go_at_call 123; (with_reducible refine (KA.out _).mono ?_); rintro e w1 ⟨rfl, hb1⟩; obtain ⟨b0, b1, b2, b3, b4, b5⟩ := bx6 (w := w) (W := w1) (v0 := .int .i64 2) (v1 := .int .i64 op) (v2 := .int .i64 t) (v3 := .int .i64 v) (v4 := .string nm) (v5 := .slice A ar.length c) (T := 24) (by repeat (first | (with_reducible exact Below.refl _ _) | (with_reducible assumption) | (with_reducible exact bel_box _) | (with_reducible refine bel_step ?_ (by with_reducible assumption)) | (with_reducible refine Below.drew ?_) | (with_reducible refine below_drewN ?_ _) | (with_reducible refine bel_alloc ?_ _))))
        | (go_at_call 90; (with_reducible refine (KN.out _).mono ?_); rintro e w2 ⟨rfl, hb2⟩; obtain ⟨d0, d1, d2, d3, d4, d5⟩ := bx6 (w := w) (W := w2) (v0 := .int .i64 2) (v1 := .int .i64 op) (v2 := .int .i64 t) (v3 := .int .i64 v) (v4 := .string nm) (v5 := .slice A ar.length c) (T := 24) (by repeat (first | (with_reducible exact Below.refl _ _) | (with_reducible assumption) | (with_reducible exact bel_box _) | (with_reducible refine bel_step ?_ (by with_reducible assumption)) | (with_reducible refine Below.drew ?_) | (with_reducible refine below_drewN ?_ _) | (with_reducible refine bel_alloc ?_ _))))
        | (go_at_call 124; (with_reducible refine (KT.out _).mono ?_); rintro e w3 ⟨rfl, hb3⟩))
      all_goals go_ret
      all_goals refine ⟨ret_bool ?_, (by repeat (first | (with_reducible exact Below.refl _ _) | (with_reducible assumption) | (with_reducible exact bel_box _) | (with_reducible refine bel_step ?_ (by with_reducible assumption)) | (with_reducible refine Below.drew ?_) | (with_reducible refine below_drewN ?_ _) | (with_reducible refine bel_alloc ?_ _)))⟩
      all_goals (first | rfl | (simp_all [formRP]; done) | (rw [Bool.eq_iff_iff]; simp_all [formRP]; omega) | (simp [formRP]; omega))
    by_cases h3 : k = 3
    · subst h3
      have hi : hasIdn 3 = false := rfl
      rw [hi] at KN
      clear KP
      go_enter Tryz.func89, Tryz.ntmps89
      go_wp2_with (first
        | (go_at_call 123; (with_reducible refine (KA.out _).mono ?_); rintro e w1 ⟨rfl, hb1⟩; obtain ⟨b0, b1, b2, b3, b4, b5⟩ := bx6 (w := w) (W := w1) (v0 := .int .i64 3) (v1 := .int .i64 op) (v2 := .int .i64 t) (v3 := .int .i64 v) (v4 := .string nm) (v5 := .slice A ar.length c) (T := 24) (by repeat (first | (with_reducible exact Below.refl _ _) | (with_reducible assumption) | (with_reducible exact bel_box _) | (with_reducible refine bel_step ?_ (by with_reducible assumption)) | (with_reducible refine Below.drew ?_) | (with_reducible refine below_drewN ?_ _) | (with_reducible refine bel_alloc ?_ _))))
        | (go_at_call 90; (with_reducible refine (KN.out _).mono ?_); rintro e w2 ⟨rfl, hb2⟩; obtain ⟨d0, d1, d2, d3, d4, d5⟩ := bx6 (w := w) (W := w2) (v0 := .int .i64 3) (v1 := .int .i64 op) (v2 := .int .i64 t) (v3 := .int .i64 v) (v4 := .string nm) (v5 := .slice A ar.length c) (T := 24) (by repeat (first | (with_reducible exact Below.refl _ _) | (with_reducible assumption) | (with_reducible exact bel_box _) | (with_reducible refine bel_step ?_ (by with_reducible assumption)) | (with_reducible refine Below.drew ?_) | (with_reducible refine below_drewN ?_ _) | (with_reducible refine bel_alloc ?_ _))))
        | (go_at_call 124; (with_reducible refine (KT.out _).mono ?_); rintro e w3 ⟨rfl, hb3⟩))
      all_goals go_ret
      all_goals refine ⟨ret_bool ?_, (by repeat (first | (with_reducible exact Below.refl _ _) | (with_reducible assumption) | (with_reducible exact bel_box _) | (with_reducible refine bel_step ?_ (by with_reducible assumption)) | (with_reducible refine Below.drew ?_) | (with_reducible refine below_drewN ?_ _) | (with_reducible refine bel_alloc ?_ _)))⟩
      all_goals (first | rfl | (simp_all [formRP]; done) | (rw [Bool.eq_iff_iff]; simp_all [formRP]; omega) | (simp [formRP]; omega))
    by_cases h4 : k = 4
    · subst h4
      have hi : hasIdn 4 = false := rfl
      rw [hi] at KN
      clear KP
      go_enter Tryz.func89, Tryz.ntmps89
      go_wp2_with (first
        | (go_at_call 123; (with_reducible refine (KA.out _).mono ?_); rintro e w1 ⟨rfl, hb1⟩; obtain ⟨b0, b1, b2, b3, b4, b5⟩ := bx6 (w := w) (W := w1) (v0 := .int .i64 4) (v1 := .int .i64 op) (v2 := .int .i64 t) (v3 := .int .i64 v) (v4 := .string nm) (v5 := .slice A ar.length c) (T := 24) (by repeat (first | (with_reducible exact Below.refl _ _) | (with_reducible assumption) | (with_reducible exact bel_box _) | (with_reducible refine bel_step ?_ (by with_reducible assumption)) | (with_reducible refine Below.drew ?_) | (with_reducible refine below_drewN ?_ _) | (with_reducible refine bel_alloc ?_ _))))
        | (go_at_call 90; (with_reducible refine (KN.out _).mono ?_); rintro e w2 ⟨rfl, hb2⟩; obtain ⟨d0, d1, d2, d3, d4, d5⟩ := bx6 (w := w) (W := w2) (v0 := .int .i64 4) (v1 := .int .i64 op) (v2 := .int .i64 t) (v3 := .int .i64 v) (v4 := .string nm) (v5 := .slice A ar.length c) (T := 24) (by repeat (first | (with_reducible exact Below.refl _ _) | (with_reducible assumption) | (with_reducible exact bel_box _) | (with_reducible refine bel_step ?_ (by with_reducible assumption)) | (with_reducible refine Below.drew ?_) | (with_reducible refine below_drewN ?_ _) | (with_reducible refine bel_alloc ?_ _))))
        | (go_at_call 124; (with_reducible refine (KT.out _).mono ?_); rintro e w3 ⟨rfl, hb3⟩))
      all_goals go_ret
      all_goals refine ⟨ret_bool ?_, (by repeat (first | (with_reducible exact Below.refl _ _) | (with_reducible assumption) | (with_reducible exact bel_box _) | (with_reducible refine bel_step ?_ (by with_reducible assumption)) | (with_reducible refine Below.drew ?_) | (with_reducible refine below_drewN ?_ _) | (with_reducible refine bel_alloc ?_ _)))⟩
      all_goals (first | rfl | (simp_all [formRP]; done) | (rw [Bool.eq_iff_iff]; simp_all [formRP]; omega) | (simp [formRP]; omega))
    by_cases h5 : k = 5
    · subst h5
      have hi : hasIdn 5 = false := rfl
      rw [hi] at KN
      clear KP
      go_enter Tryz.func89, Tryz.ntmps89
      go_wp2_with (first
        | (go_at_call 123; (with_reducible refine (KA.out _).mono ?_); rintro e w1 ⟨rfl, hb1⟩; obtain ⟨b0, b1, b2, b3, b4, b5⟩ := bx6 (w := w) (W := w1) (v0 := .int .i64 5) (v1 := .int .i64 op) (v2 := .int .i64 t) (v3 := .int .i64 v) (v4 := .string nm) (v5 := .slice A ar.length c) (T := 24) (by repeat (first | (with_reducible exact Below.refl _ _) | (with_reducible assumption) | (with_reducible exact bel_box _) | (with_reducible refine bel_step ?_ (by with_reducible assumption)) | (with_reducible refine Below.drew ?_) | (with_reducible refine below_drewN ?_ _) | (with_reducible refine bel_alloc ?_ _))))
        | (go_at_call 90; (with_reducible refine (KN.out _).mono ?_); rintro e w2 ⟨rfl, hb2⟩; obtain ⟨d0, d1, d2, d3, d4, d5⟩ := bx6 (w := w) (W := w2) (v0 := .int .i64 5) (v1 := .int .i64 op) (v2 := .int .i64 t) (v3 := .int .i64 v) (v4 := .string nm) (v5 := .slice A ar.length c) (T := 24) (by repeat (first | (with_reducible exact Below.refl _ _) | (with_reducible assumption) | (with_reducible exact bel_box _) | (with_reducible refine bel_step ?_ (by with_reducible assumption)) | (with_reducible refine Below.drew ?_) | (with_reducible refine below_drewN ?_ _) | (with_reducible refine bel_alloc ?_ _))))
        | (go_at_call 124; (with_reducible refine (KT.out _).mono ?_); rintro e w3 ⟨rfl, hb3⟩))
      all_goals go_ret
      all_goals refine ⟨ret_bool ?_, (by repeat (first | (with_reducible exact Below.refl _ _) | (with_reducible assumption) | (with_reducible exact bel_box _) | (with_reducible refine bel_step ?_ (by with_reducible assumption)) | (with_reducible refine Below.drew ?_) | (with_reducible refine below_drewN ?_ _) | (with_reducible refine bel_alloc ?_ _)))⟩
      all_goals (first | rfl | (simp_all [formRP]; done) | (rw [Bool.eq_iff_iff]; simp_all [formRP]; omega) | (simp [formRP]; omega))
    by_cases h6 : k = 6
    · subst h6
      have hi : hasIdn 6 = false := rfl
      rw [hi] at KN
      clear KP
      go_enter Tryz.func89, Tryz.ntmps89
      go_wp2_with (first
        | (go_at_call 123; (with_reducible refine (KA.out _).mono ?_); rintro e w1 ⟨rfl, hb1⟩; obtain ⟨b0, b1, b2, b3, b4, b5⟩ := bx6 (w := w) (W := w1) (v0 := .int .i64 6) (v1 := .int .i64 op) (v2 := .int .i64 t) (v3 := .int .i64 v) (v4 := .string nm) (v5 := .slice A ar.length c) (T := 24) (by repeat (first | (with_reducible exact Below.refl _ _) | (with_reducible assumption) | (with_reducible exact bel_box _) | (with_reducible refine bel_step ?_ (by with_reducible assumption)) | (with_reducible refine Below.drew ?_) | (with_reducible refine below_drewN ?_ _) | (with_reducible refine bel_alloc ?_ _))))
        | (go_at_call 90; (with_reducible refine (KN.out _).mono ?_); rintro e w2 ⟨rfl, hb2⟩; obtain ⟨d0, d1, d2, d3, d4, d5⟩ := bx6 (w := w) (W := w2) (v0 := .int .i64 6) (v1 := .int .i64 op) (v2 := .int .i64 t) (v3 := .int .i64 v) (v4 := .string nm) (v5 := .slice A ar.length c) (T := 24) (by repeat (first | (with_reducible exact Below.refl _ _) | (with_reducible assumption) | (with_reducible exact bel_box _) | (with_reducible refine bel_step ?_ (by with_reducible assumption)) | (with_reducible refine Below.drew ?_) | (with_reducible refine below_drewN ?_ _) | (with_reducible refine bel_alloc ?_ _))))
        | (go_at_call 124; (with_reducible refine (KT.out _).mono ?_); rintro e w3 ⟨rfl, hb3⟩))
      all_goals go_ret
      all_goals refine ⟨ret_bool ?_, (by repeat (first | (with_reducible exact Below.refl _ _) | (with_reducible assumption) | (with_reducible exact bel_box _) | (with_reducible refine bel_step ?_ (by with_reducible assumption)) | (with_reducible refine Below.drew ?_) | (with_reducible refine below_drewN ?_ _) | (with_reducible refine bel_alloc ?_ _)))⟩
      all_goals (first | rfl | (simp_all [formRP]; done) | (rw [Bool.eq_iff_iff]; simp_all [formRP]; omega) | (simp [formRP]; omega))
    by_cases h7 : k = 7
    · subst h7
      have hi : hasIdn 7 = false := rfl
      rw [hi] at KN
      clear KP
      go_enter Tryz.func89, Tryz.ntmps89
      go_wp2_with (first
        | (go_at_call 123; (with_reducible refine (KA.out _).mono ?_); rintro e w1 ⟨rfl, hb1⟩; obtain ⟨b0, b1, b2, b3, b4, b5⟩ := bx6 (w := w) (W := w1) (v0 := .int .i64 7) (v1 := .int .i64 op) (v2 := .int .i64 t) (v3 := .int .i64 v) (v4 := .string nm) (v5 := .slice A ar.length c) (T := 24) (by repeat (first | (with_reducible exact Below.refl _ _) | (with_reducible assumption) | (with_reducible exact bel_box _) | (with_reducible refine bel_step ?_ (by with_reducible assumption)) | (with_reducible refine Below.drew ?_) | (with_reducible refine below_drewN ?_ _) | (with_reducible refine bel_alloc ?_ _))))
        | (go_at_call 90; (with_reducible refine (KN.out _).mono ?_); rintro e w2 ⟨rfl, hb2⟩; obtain ⟨d0, d1, d2, d3, d4, d5⟩ := bx6 (w := w) (W := w2) (v0 := .int .i64 7) (v1 := .int .i64 op) (v2 := .int .i64 t) (v3 := .int .i64 v) (v4 := .string nm) (v5 := .slice A ar.length c) (T := 24) (by repeat (first | (with_reducible exact Below.refl _ _) | (with_reducible assumption) | (with_reducible exact bel_box _) | (with_reducible refine bel_step ?_ (by with_reducible assumption)) | (with_reducible refine Below.drew ?_) | (with_reducible refine below_drewN ?_ _) | (with_reducible refine bel_alloc ?_ _))))
        | (go_at_call 124; (with_reducible refine (KT.out _).mono ?_); rintro e w3 ⟨rfl, hb3⟩))
      all_goals go_ret
      all_goals refine ⟨ret_bool ?_, (by repeat (first | (with_reducible exact Below.refl _ _) | (with_reducible assumption) | (with_reducible exact bel_box _) | (with_reducible refine bel_step ?_ (by with_reducible assumption)) | (with_reducible refine Below.drew ?_) | (with_reducible refine below_drewN ?_ _) | (with_reducible refine bel_alloc ?_ _)))⟩
      all_goals (first | rfl | (simp_all [formRP]; done) | (rw [Bool.eq_iff_iff]; simp_all [formRP]; omega) | (simp [formRP]; omega))
    by_cases h8 : k = 8
    · subst h8
      have hi : hasIdn 8 = true := rfl
      rw [hi] at KN
      clear KP
      go_enter Tryz.func89, Tryz.ntmps89
      go_wp2_with (first
        | (go_at_call 123; (with_reducible refine (KA.out _).mono ?_); rintro e w1 ⟨rfl, hb1⟩; obtain ⟨b0, b1, b2, b3, b4, b5⟩ := bx6 (w := w) (W := w1) (v0 := .int .i64 8) (v1 := .int .i64 op) (v2 := .int .i64 t) (v3 := .int .i64 v) (v4 := .string nm) (v5 := .slice A ar.length c) (T := 24) (by repeat (first | (with_reducible exact Below.refl _ _) | (with_reducible assumption) | (with_reducible exact bel_box _) | (with_reducible refine bel_step ?_ (by with_reducible assumption)) | (with_reducible refine Below.drew ?_) | (with_reducible refine below_drewN ?_ _) | (with_reducible refine bel_alloc ?_ _))))
        | (go_at_call 90; (with_reducible refine (KN.out _).mono ?_); rintro e w2 ⟨rfl, hb2⟩; obtain ⟨d0, d1, d2, d3, d4, d5⟩ := bx6 (w := w) (W := w2) (v0 := .int .i64 8) (v1 := .int .i64 op) (v2 := .int .i64 t) (v3 := .int .i64 v) (v4 := .string nm) (v5 := .slice A ar.length c) (T := 24) (by repeat (first | (with_reducible exact Below.refl _ _) | (with_reducible assumption) | (with_reducible exact bel_box _) | (with_reducible refine bel_step ?_ (by with_reducible assumption)) | (with_reducible refine Below.drew ?_) | (with_reducible refine below_drewN ?_ _) | (with_reducible refine bel_alloc ?_ _))))
        | (go_at_call 124; (with_reducible refine (KT.out _).mono ?_); rintro e w3 ⟨rfl, hb3⟩))
      all_goals go_ret
      all_goals refine ⟨ret_bool ?_, (by repeat (first | (with_reducible exact Below.refl _ _) | (with_reducible assumption) | (with_reducible exact bel_box _) | (with_reducible refine bel_step ?_ (by with_reducible assumption)) | (with_reducible refine Below.drew ?_) | (with_reducible refine below_drewN ?_ _) | (with_reducible refine bel_alloc ?_ _)))⟩
      all_goals (first | rfl | (simp_all [formRP]; done) | (rw [Bool.eq_iff_iff]; simp_all [formRP]; omega) | (simp [formRP]; omega))
    by_cases h9 : k = 9
    · subst h9
      have hi : hasIdn 9 = true := rfl
      rw [hi] at KN
      clear KP
      go_enter Tryz.func89, Tryz.ntmps89
      go_wp2_with (first
        | (go_at_call 123; (with_reducible refine (KA.out _).mono ?_); rintro e w1 ⟨rfl, hb1⟩; obtain ⟨b0, b1, b2, b3, b4, b5⟩ := bx6 (w := w) (W := w1) (v0 := .int .i64 9) (v1 := .int .i64 op) (v2 := .int .i64 t) (v3 := .int .i64 v) (v4 := .string nm) (v5 := .slice A ar.length c) (T := 24) (by repeat (first | (with_reducible exact Below.refl _ _) | (with_reducible assumption) | (with_reducible exact bel_box _) | (with_reducible refine bel_step ?_ (by with_reducible assumption)) | (with_reducible refine Below.drew ?_) | (with_reducible refine below_drewN ?_ _) | (with_reducible refine bel_alloc ?_ _))))
        | (go_at_call 90; (with_reducible refine (KN.out _).mono ?_); rintro e w2 ⟨rfl, hb2⟩; obtain ⟨d0, d1, d2, d3, d4, d5⟩ := bx6 (w := w) (W := w2) (v0 := .int .i64 9) (v1 := .int .i64 op) (v2 := .int .i64 t) (v3 := .int .i64 v) (v4 := .string nm) (v5 := .slice A ar.length c) (T := 24) (by repeat (first | (with_reducible exact Below.refl _ _) | (with_reducible assumption) | (with_reducible exact bel_box _) | (with_reducible refine bel_step ?_ (by with_reducible assumption)) | (with_reducible refine Below.drew ?_) | (with_reducible refine below_drewN ?_ _) | (with_reducible refine bel_alloc ?_ _))))
        | (go_at_call 124; (with_reducible refine (KT.out _).mono ?_); rintro e w3 ⟨rfl, hb3⟩))
      all_goals go_ret
      all_goals refine ⟨ret_bool ?_, (by repeat (first | (with_reducible exact Below.refl _ _) | (with_reducible assumption) | (with_reducible exact bel_box _) | (with_reducible refine bel_step ?_ (by with_reducible assumption)) | (with_reducible refine Below.drew ?_) | (with_reducible refine below_drewN ?_ _) | (with_reducible refine bel_alloc ?_ _)))⟩
      all_goals (first | rfl | (simp_all [formRP]; done) | (rw [Bool.eq_iff_iff]; simp_all [formRP]; omega) | (simp [formRP]; omega))
    by_cases h10 : k = 10
    · subst h10
      have hi : hasIdn 10 = true := rfl
      rw [hi] at KN
      clear KP
      go_enter Tryz.func89, Tryz.ntmps89
      go_wp2_with (first
        | (go_at_call 123; (with_reducible refine (KA.out _).mono ?_); rintro e w1 ⟨rfl, hb1⟩; obtain ⟨b0, b1, b2, b3, b4, b5⟩ := bx6 (w := w) (W := w1) (v0 := .int .i64 10) (v1 := .int .i64 op) (v2 := .int .i64 t) (v3 := .int .i64 v) (v4 := .string nm) (v5 := .slice A ar.length c) (T := 24) (by repeat (first | (with_reducible exact Below.refl _ _) | (with_reducible assumption) | (with_reducible exact bel_box _) | (with_reducible refine bel_step ?_ (by with_reducible assumption)) | (with_reducible refine Below.drew ?_) | (with_reducible refine below_drewN ?_ _) | (with_reducible refine bel_alloc ?_ _))))
        | (go_at_call 90; (with_reducible refine (KN.out _).mono ?_); rintro e w2 ⟨rfl, hb2⟩; obtain ⟨d0, d1, d2, d3, d4, d5⟩ := bx6 (w := w) (W := w2) (v0 := .int .i64 10) (v1 := .int .i64 op) (v2 := .int .i64 t) (v3 := .int .i64 v) (v4 := .string nm) (v5 := .slice A ar.length c) (T := 24) (by repeat (first | (with_reducible exact Below.refl _ _) | (with_reducible assumption) | (with_reducible exact bel_box _) | (with_reducible refine bel_step ?_ (by with_reducible assumption)) | (with_reducible refine Below.drew ?_) | (with_reducible refine below_drewN ?_ _) | (with_reducible refine bel_alloc ?_ _))))
        | (go_at_call 124; (with_reducible refine (KT.out _).mono ?_); rintro e w3 ⟨rfl, hb3⟩))
      all_goals go_ret
      all_goals refine ⟨ret_bool ?_, (by repeat (first | (with_reducible exact Below.refl _ _) | (with_reducible assumption) | (with_reducible exact bel_box _) | (with_reducible refine bel_step ?_ (by with_reducible assumption)) | (with_reducible refine Below.drew ?_) | (with_reducible refine below_drewN ?_ _) | (with_reducible refine bel_alloc ?_ _)))⟩
      all_goals (first | rfl | (simp_all [formRP]; done) | (rw [Bool.eq_iff_iff]; simp_all [formRP]; omega) | (simp [formRP]; omega))
    by_cases h11 : k = 11
    · subst h11
      have hi : hasIdn 11 = false := rfl
      rw [hi] at KN
      have KP2 := KP rfl
      clear KP
      go_enter Tryz.func89, Tryz.ntmps89
      go_wp2_with (first
        | (go_at_call 123; (with_reducible refine (KA.out _).mono ?_); rintro e w1 ⟨rfl, hb1⟩; obtain ⟨b0, b1, b2, b3, b4, b5⟩ := bx6 (w := w) (W := w1) (v0 := .int .i64 11) (v1 := .int .i64 op) (v2 := .int .i64 t) (v3 := .int .i64 v) (v4 := .string nm) (v5 := .slice A ar.length c) (T := 24) (by repeat (first | (with_reducible exact Below.refl _ _) | (with_reducible assumption) | (with_reducible exact bel_box _) | (with_reducible refine bel_step ?_ (by with_reducible assumption)) | (with_reducible refine Below.drew ?_) | (with_reducible refine below_drewN ?_ _) | (with_reducible refine bel_alloc ?_ _))))
        | (go_at_call 90; (with_reducible refine (KN.out _).mono ?_); rintro e w2 ⟨rfl, hb2⟩; obtain ⟨d0, d1, d2, d3, d4, d5⟩ := bx6 (w := w) (W := w2) (v0 := .int .i64 11) (v1 := .int .i64 op) (v2 := .int .i64 t) (v3 := .int .i64 v) (v4 := .string nm) (v5 := .slice A ar.length c) (T := 24) (by repeat (first | (with_reducible exact Below.refl _ _) | (with_reducible assumption) | (with_reducible exact bel_box _) | (with_reducible refine bel_step ?_ (by with_reducible assumption)) | (with_reducible refine Below.drew ?_) | (with_reducible refine below_drewN ?_ _) | (with_reducible refine bel_alloc ?_ _))))
        | (go_at_call 124; (with_reducible refine (KT.out _).mono ?_); rintro e w3 ⟨rfl, hb3⟩)
        | (go_at_call 125; (with_reducible refine (KP2.out _ ?_).mono ?_); (focus ((repeat (first | (with_reducible exact Below.refl _ _) | (with_reducible assumption) | (with_reducible exact bel_box _) | (with_reducible refine bel_step ?_ (by with_reducible assumption)) | (with_reducible refine Below.drew ?_) | (with_reducible refine below_drewN ?_ _) | (with_reducible refine bel_alloc ?_ _))); done)); rintro e w4 ⟨A1, A2, n1, c1, n2, c2, er, rfl, her, hb4⟩; obtain ⟨g0, g1, g2, g3, g4, g5⟩ := bx6 (w := w) (W := w4) (v0 := .int .i64 11) (v1 := .int .i64 op) (v2 := .int .i64 t) (v3 := .int .i64 v) (v4 := .string nm) (v5 := .slice A ar.length c) (T := 24) (by repeat (first | (with_reducible exact Below.refl _ _) | (with_reducible assumption) | (with_reducible exact bel_box _) | (with_reducible refine bel_step ?_ (by with_reducible assumption)) | (with_reducible refine Below.drew ?_) | (with_reducible refine below_drewN ?_ _) | (with_reducible refine bel_alloc ?_ _))); have g2' := fun o => cell_al o g2; have g3' := fun o => cell_al o g3))
      all_goals go_ret
      all_goals refine ⟨ret_bool ?_, (by repeat (first | (with_reducible exact Below.refl _ _) | (with_reducible assumption) | (with_reducible exact bel_box _) | (with_reducible refine bel_step ?_ (by with_reducible assumption)) | (with_reducible refine Below.drew ?_) | (with_reducible refine below_drewN ?_ _) | (with_reducible refine bel_alloc ?_ _)))⟩
      all_goals (first | rfl | (simp_all [formRP]; done) | (rw [Bool.eq_iff_iff]; simp_all [formRP]; omega) | (simp [formRP]; omega))
    have hout : k < 1 ∨ 11 < k := by omega
    have e : formRP k op t v ba tg ne wok = false := by
      rw [formRP, if_pos]
      rcases hout with h | h
      · exact .inl h
      · exact .inr (.inl h)
    rw [e]
    clear e h1 h2 h3 h4 h5 h6 h7 h8 h9 h10 h11 KP
    rcases hout with h | h
    · go_enter Tryz.func89, Tryz.ntmps89
      go_wp2
      go_ret
      exact ⟨rfl, (by repeat (first | (with_reducible exact Below.refl _ _) | (with_reducible assumption) | (with_reducible exact bel_box _) | (with_reducible refine bel_step ?_ (by with_reducible assumption)) | (with_reducible refine Below.drew ?_) | (with_reducible refine below_drewN ?_ _) | (with_reducible refine bel_alloc ?_ _)))⟩
    · have h' : (1 : Int) ≤ k := by omega
      go_enter Tryz.func89, Tryz.ntmps89
      go_wp2
      go_ret
      exact ⟨rfl, (by repeat (first | (with_reducible exact Below.refl _ _) | (with_reducible assumption) | (with_reducible exact bel_box _) | (with_reducible refine bel_step ?_ (by with_reducible assumption)) | (with_reducible refine Below.drew ?_) | (with_reducible refine below_drewN ?_ _) | (with_reducible refine bel_alloc ?_ _)))⟩
end Go.Proofs.YthlapepjebidgaaGreatDoor
/- exceeds of the program. -/
namespace Go.Proofs.YthlapepjebidgaaGreatDoor
set_option linter.unusedVariables false
set_option linter.unusedSimpArgs false
open Go.RowKit Go.Shelf
attribute [local go_sem] Oper.semAt_some
set_option maxHeartbeats 2000000 in
set_option maxRecDepth 100000 in
theorem exceeds_any (x : Xt) (N : Nat) (w : World) (hX : RdX w w.heap.size x) (hN : N ≤ 1048576) : Calls Tryz.prog 71 #[xV x, .int .i64 (N : Int)] w (Bel (.bool (decide (N < x.size))) w) := by
  have hdd : ∀ k : Nat, (Fence.wide.depth.isSome = true → 1 ≤ k) := fun k h => by cases h
  have KW := Lib.hid (fun W => within_any x 29 W)
  have HX := Lib.hid hX
  clear hX
  simp only [xV] at KW ⊢
  refine (callsIn_wide (n := 3)).1 ?_
  refine callsIn_of_wp_marks Tryz.func71 rfl trivial ?_ rfl
  simp only [Tryz.ntmps71, List.size_toArray, List.length_cons, List.length_nil, Nat.reduceAdd, Nat.reduceSub, Array.replicate_succ, Array.replicate_zero, List.push_toArray, List.append_toArray, List.nil_append, List.cons_append]
  gi_wp2_with (refine ⟨trivial, ?_⟩; gi_at_call 28; refine (callsIn_wide.2 (KW.out _)).mono ?_; rintro e W1 ⟨rfl, rfl⟩)
  obtain ⟨Wc, hWc⟩ : ∃ Wc, (((bxW w x).alloc (.cells #[.int .i64 (N : Int)] 3)).alloc (.cells #[.bool false] 4)) = Wc := ⟨_, rfl⟩
  have hz : Wc.heap.size = w.heap.size + 3 := by rw [← hWc]; simp only [World.size_alloc]
  have hBc : Below w.heap.size w Wc := by rw [← hWc]; exact bel_alloc (bel_alloc (bel_box _) _) _
  have g0 : Wc.cell? ⟨w.heap.size + 1, 0, none⟩ = some (.int .i64 (N : Int)) := by rw [← hWc]; simp [go_sem]
  have g1 : Wc.frozen? ⟨w.heap.size + 1, 0, none⟩ = false := by rw [← hWc]; simp [go_sem]
  have g2 : Wc.cell? ⟨w.heap.size + 2, 0, none⟩ = some (.bool false) := by rw [← hWc]; simp [go_sem]
  have g3 : Wc.frozen? ⟨w.heap.size + 2, 0, none⟩ = false := by rw [← hWc]; simp [go_sem]
  have hst := within_at (3 - 1) w.heap.size (fun k => k = w.heap.size + 1 ∨ k = w.heap.size + 2) x Wc (fun k hk => by rcases hk with rfl | rfl <;> omega) (by omega) (HX.out.blw hBc (Nat.le_refl _))
  obtain ⟨W0, hW0⟩ : ∃ W0, inW Wc x 29 = W0 := ⟨_, rfl⟩
  have hz0 : W0.heap.size = w.heap.size + 5 := by rw [← hW0, inW_size]; omega
  have hB0 : Below w.heap.size w W0 := by rw [← hW0]; exact hBc.trans ((inW_below Wc x _).mono (by omega))
  have f0 : W0.cell? ⟨w.heap.size + 1, 0, none⟩ = some (.int .i64 (N : Int)) := by rw [← hW0]; exact (inW_old (by omega)).1.trans g0
  have f1 : W0.frozen? ⟨w.heap.size + 1, 0, none⟩ = false := by rw [← hW0]; exact (inW_old (by omega)).2.trans g1
  have f2 : W0.cell? ⟨w.heap.size + 2, 0, none⟩ = some (.bool false) := by rw [← hW0]; exact (inW_old (by omega)).1.trans g2
  have f3 : W0.frozen? ⟨w.heap.size + 2, 0, none⟩ = false := by rw [← hW0]; exact (inW_old (by omega)).2.trans g3
  rw [hz, hW0] at hst
  rw [show (bxW (((w.alloc (Obj.cells #[.int .i64 x.k, .int .i64 x.op, .int .i64 x.t, .int .i64 x.v, .string x.nm, .slice x.A x.ar.length x.c] 24)).alloc (.cells #[.int .i64 (N : Int)] 3)).alloc (.cells #[.bool false] 4)) x).alloc (.cells #[.func (.func 29) #[] #[]] 30) = W0 by rw [← hW0, ← hWc]]
  clear hW0 hWc g0 g1 g2 g3 KW HX
  have hll := list_length x
  refine wpIn_rangeFunc_ownF rfl (by decide) (gf := 67) (lb := #[.pointer (some ⟨w.heap.size + 3, 0, none⟩), .pointer (some ⟨w.heap.size + 3 + 1, 0, none⟩)]) rfl trivial (enters_of Tryz.func67 (by kernel_rfl) rfl)
    hst KX_t KX_b (Below.refl _ _) (fun _ => rfl)
    (fun pre W => (pre.length ≤ N ∧ W.cell? ⟨w.heap.size + 1, 0, none⟩ = some (.int .i64 ((N - pre.length : Nat) : Int)) ∧ W.frozen? ⟨w.heap.size + 1, 0, none⟩ = false ∧ W.cell? ⟨w.heap.size + 2, 0, none⟩ = some (.bool false) ∧ W.frozen? ⟨w.heap.size + 2, 0, none⟩ = false) ∧ Below w.heap.size w W)
    (fun c pre W => (c = .ret ∧ N < pre.length ∧ W.cell? ⟨w.heap.size + 2, 0, none⟩ = some (.bool true)) ∧ Below w.heap.size w W)
    (OwnFrom.and (Own.from (fun s A B row hs hg hr => ⟨hs.1, cell_kept hs.2.1 hg hr, (frozen_kept hs.2.1 hg hr).trans hs.2.2.1, cell_kept hs.2.2.2.1 hg hr, (frozen_kept hs.2.2.2.1 hg hr).trans hs.2.2.2.2⟩) _) (ownFrom_below (Nat.le_refl _) (by omega)))
    (fun c => OwnFrom.and (Own.from (fun s A B row hs hg hr => ⟨hs.1, hs.2.1, cell_kept hs.2.2 hg hr⟩) _) (ownFrom_below (Nat.le_refl _) (by omega)))
    ⟨⟨by simp, by simpa using f0, f1, f2, f3⟩, hB0⟩
    (fun y => { tmps := #[.agg #[.int .i64 x.k, .int .i64 x.op, .int .i64 x.t, .int .i64 x.v, .string x.nm, .slice x.A x.ar.length x.c], .int .i64 (N : Int), .pointer (some ⟨w.heap.size, 0, none⟩), .pointer (some ⟨w.heap.size + 1, 0, none⟩), .pointer (some ⟨w.heap.size + 1 + 1, 0, none⟩), .agg #[.int .i64 x.k, .int .i64 x.op, .int .i64 x.t, .int .i64 x.v, .string x.nm, .slice x.A x.ar.length x.c], .func (.func 67) #[] #[.pointer (some ⟨w.heap.size + 3, 0, none⟩), .pointer (some ⟨w.heap.size + 3 + 1, 0, none⟩)], xV y, undef, undef, undef, undef], defers := [] }) ?assign ?body ?done ?stop
  case assign =>
    intro l y W K hK
    gi_wp2
    simpa using hK
  case body =>
    rintro l pre y W ⟨⟨i0, i1, i2, i3, i4⟩, hB⟩ hlt
    by_cases hq : pre.length < N
    · obtain ⟨m, hm⟩ : ∃ m, N - pre.length = m + 1 := ⟨N - pre.length - 1, by omega⟩
      have hm2 : N - (pre.length + 1) = m := by omega
      rw [hm] at i1
      have u1 : ((m + 1 : Nat) : Int) - 1 = (m : Int) := by omega
      have u2 : (0 : Int) ≤ (m : Int) := by omega
      gi_wp2
      exact ⟨KeepsOthers.setCell _ _ _, KX.set (S := fun k => k = w.heap.size + 1 ∨ k = w.heap.size + 2) (a := ⟨w.heap.size + 1, 0, none⟩) (.inl rfl) _, ⟨by rw [List.length_append, List.length_singleton]; omega, by rw [List.length_append, List.length_singleton, hm2]; exact World.cell?_setCell_same' _ _ _ (by rw [i1]; rfl), by rw [World.frozen?_setCell]; exact i2, (World.cell?_setCell_other _ _ _ _ (by simp)).trans i3, by rw [World.frozen?_setCell]; exact i4⟩, hB.setCell (p := ⟨w.heap.size + 1, 0, none⟩) (by simp) _⟩
    · have hm : N - pre.length = 0 := by omega
      rw [hm] at i1
      gi_wp2
      exact ⟨(KeepsOthers.setCell _ _ _).trans (KeepsOthers.setCell _ _ _), ⟨rfl, by rw [List.length_append, List.length_singleton]; omega, World.cell?_setCell_same' _ _ _ (by rw [World.cell?_setCell_other _ _ _ _ (by simp), i3]; rfl)⟩, (hB.setCell (p := ⟨w.heap.size + 1, 0, none⟩) (by simp) _).setCell (p := ⟨w.heap.size + 2, 0, none⟩) (by simp) _⟩
  case done =>
    rintro D ys W hD rfl ⟨⟨hn, _, _, hc, hf⟩, hB⟩ hK
    have hdec : decide (N < x.size) = false := decide_eq_false (by omega)
    gi_wp2
    have hK' := (KeepsOthers.setCell W ⟨w.heap.size + 2, 0, none⟩ (.bool false)).same D _ hK rfl
    refine ⟨by simp, .inl ⟨_, _, rfl, run_takeDeferred hK', ?_⟩⟩
    have hc5 := cell_kept (World.cell?_setCell_same' W ⟨w.heap.size + 2, 0, none⟩ (.bool false) (by rw [hc]; rfl)) (grownBy_putObj' _ D (.deferred none)) (fun r e => by cases e; exact ⟨_, hK', rfl⟩)
    refine ⟨.bool false, ?_, by rw [hdec], (hB.setCell (p := ⟨w.heap.size + 2, 0, none⟩) (by simp) _).trans (belowK_b (w := w) (Nat.le_refl _) _ D _ _ (by omega) hK' rfl rfl)⟩
    simp [results, Tryz.f71, go_sem, hc5]
  case stop =>
    rintro D c pre W hD ⟨t, ht⟩ ⟨⟨rfl, hin, hc⟩, hB⟩ hK
    have hdec : decide (N < x.size) = true := decide_eq_true (by rw [← hll, ← ht, List.length_append]; omega)
    gi_wp2
    refine ⟨by simp, .inl ⟨_, _, rfl, run_takeDeferred hK, ?_⟩⟩
    have hc5 := cell_kept hc (grownBy_putObj' _ D (.deferred none)) (fun r e => by cases e; exact ⟨_, hK, rfl⟩)
    refine ⟨.bool true, ?_, by rw [hdec], hB.trans (belowK_b (w := w) (Nat.le_refl _) W D _ _ (by omega) hK rfl rfl)⟩
    simp [results, Tryz.f71, go_sem, hc5]
end Go.Proofs.YthlapepjebidgaaGreatDoor
/- checkOne of the program. -/
namespace Go.Proofs.YthlapepjebidgaaGreatDoor
set_option linter.unusedVariables false
set_option linter.unusedSimpArgs false
open Go.RowKit
/-- the error of one expression -/
def chk1 (wok : ByteArray → Bool) (x : Xt) : Int := if 64 < x.ar.length then 3 else if (formedP x.k x.op x.t x.v x.ar.length (wok x.nm) && onlyP x.k x.op x.t x.v (x.nm.toList == [])) = false then 5 else if (hasIdn x.k && !idP x.nm) = true then 6 else 0
/-- what is asked of the callees that read the Name -/
def NmOk (wok : ByteArray → Bool) (w : World) (x : Xt) : Prop := (x.k = 11 → Hid (∀ W, Below w.heap.size w W → Calls Tryz.prog 132 #[.string x.nm] W (fun e w' => ∃ (A1 A2 : Option Addr) (n1 c1 n2 c2 : Nat) (er : Int), e = .returned (.tuple #[.agg #[.slice A1 n1 c1, .slice A2 n2 c2], .int .i64 er]) ∧ (er == 0) = wok x.nm ∧ Below W.heap.size W w'))) ∧ (hasIdn x.k = true → Hid (∀ W, Below w.heap.size w W → Calls Tryz.prog 75 #[.string x.nm] W (Bel (.bool (idP x.nm)) W)))
theorem NmOk.to {wok : ByteArray → Bool} {w W : World} {x : Xt} (h : NmOk wok w x) (hb : Below w.heap.size w W) : NmOk wok W x :=
  ⟨fun e => Lib.hid fun W' hb' => (h.1 e).out W' (bel_step hb hb'), fun e => Lib.hid fun W' hb' => (h.2 e).out W' (bel_step hb hb')⟩
set_option maxHeartbeats 2000000 in
set_option maxRecDepth 20000 in
theorem checkone_any (wok : ByteArray → Bool) (x : Xt) (w : World) (h9 : x.ar.length ≤ maxLen) (hN : NmOk wok w x) : Calls Tryz.prog 72 #[xV x] w (Bel (.int .i64 (chk1 wok x)) w) := by
  have KF : Hid (∀ W, Below w.heap.size w W → Calls Tryz.prog 106 #[xV x] W (Bel (.bool (formedP x.k x.op x.t x.v x.ar.length (wok x.nm))) W)) := Lib.hid fun W hb => formed_any x _ W (hN.to hb).1
  have KO := Lib.hid (fun W => hasonly_any x W)
  have KH := Lib.hid (fun W => hasident_any x.k W)
  have KI := hN.2
  unfold maxLen at h9
  unfold chk1
  clear hN
  simp only [xV] at KF KO ⊢
  by_cases h64 : 64 < x.ar.length
  · rw [if_pos h64]
    have q : (64 : Int) < (x.ar.length : Int) := by omega
    go_enter Tryz.func72, Tryz.ntmps72
    go_wp2
    go_ret
    exact ⟨rfl, (by repeat (first | (with_reducible exact Below.refl _ _) | (with_reducible assumption) | (with_reducible exact bel_box _) | (with_reducible refine bel_step ?_ (by with_reducible assumption)) | (with_reducible refine Below.drew ?_) | (with_reducible refine below_drewN ?_ _) | (with_reducible refine bel_alloc ?_ _)))⟩
  rw [if_neg h64]
  have q : (x.ar.length : Int) ≤ 64 := by omega
  generalize formedP x.k x.op x.t x.v x.ar.length (wok x.nm) = bf at *
  generalize onlyP x.k x.op x.t x.v (x.nm.toList == []) = bo at *
  clear h64 h9
  cases bf
  · rw [Bool.false_and, if_pos rfl]
    go_enter Tryz.func72, Tryz.ntmps72
    go_wp2_with (go_at_call 106; refine (KF.out _ ?_).mono ?_; (focus ((repeat (first | (with_reducible exact Below.refl _ _) | (with_reducible assumption) | (with_reducible exact bel_box _) | (with_reducible refine bel_step ?_ (by with_reducible assumption)) | (with_reducible refine Below.drew ?_) | (with_reducible refine below_drewN ?_ _) | (with_reducible refine bel_alloc ?_ _))); done)); rintro e w1 ⟨rfl, hb1⟩)
    go_ret
    exact ⟨rfl, (by repeat (first | (with_reducible exact Below.refl _ _) | (with_reducible assumption) | (with_reducible exact bel_box _) | (with_reducible refine bel_step ?_ (by with_reducible assumption)) | (with_reducible refine Below.drew ?_) | (with_reducible refine below_drewN ?_ _) | (with_reducible refine bel_alloc ?_ _)))⟩
  cases bo
  · rw [Bool.true_and, if_pos rfl]
    go_enter Tryz.func72, Tryz.ntmps72
    go_wp2_with (first
      | (go_at_call 106; refine (KF.out _ ?_).mono ?_; (focus ((repeat (first | (with_reducible exact Below.refl _ _) | (with_reducible assumption) | (with_reducible exact bel_box _) | (with_reducible refine bel_step ?_ (by with_reducible assumption)) | (with_reducible refine Below.drew ?_) | (with_reducible refine below_drewN ?_ _) | (with_reducible refine bel_alloc ?_ _))); done)); rintro e w1 ⟨rfl, hb1⟩; obtain ⟨b0, b1, b2, b3, b4, b5, b6⟩ := bxW_cells (w := w) (x := x) hb1)
      | (go_at_call 107; refine (KO.out _).mono ?_; rintro e w2 ⟨rfl, hb2⟩))
    go_ret
    exact ⟨rfl, (by repeat (first | (with_reducible exact Below.refl _ _) | (with_reducible assumption) | (with_reducible exact bel_box _) | (with_reducible refine bel_step ?_ (by with_reducible assumption)) | (with_reducible refine Below.drew ?_) | (with_reducible refine below_drewN ?_ _) | (with_reducible refine bel_alloc ?_ _)))⟩
  rw [Bool.true_and, if_neg (by simp)]
  cases hi : hasIdn x.k
  · rw [hi] at KH
    rw [Bool.false_and, if_neg (by simp)]
    clear hi KI
    go_enter Tryz.func72, Tryz.ntmps72
    go_wp2_with (first
      | (go_at_call 106; refine (KF.out _ ?_).mono ?_; (focus ((repeat (first | (with_reducible exact Below.refl _ _) | (with_reducible assumption) | (with_reducible exact bel_box _) | (with_reducible refine bel_step ?_ (by with_reducible assumption)) | (with_reducible refine Below.drew ?_) | (with_reducible refine below_drewN ?_ _) | (with_reducible refine bel_alloc ?_ _))); done)); rintro e w1 ⟨rfl, hb1⟩; obtain ⟨b0, b1, b2, b3, b4, b5, b6⟩ := bxW_cells (w := w) (x := x) hb1)
      | (go_at_call 107; refine (KO.out _).mono ?_; rintro e w2 ⟨rfl, hb2⟩; obtain ⟨d0, d1, d2, d3, d4, d5, d6⟩ := bxW_cells (w := w) (x := x) (W := w2) (by repeat (first | (with_reducible exact Below.refl _ _) | (with_reducible assumption) | (with_reducible exact bel_box _) | (with_reducible refine bel_step ?_ (by with_reducible assumption)) | (with_reducible refine Below.drew ?_) | (with_reducible refine below_drewN ?_ _) | (with_reducible refine bel_alloc ?_ _))))
      | (go_at_call 108; refine (KH.out _).mono ?_; rintro e w3 ⟨rfl, hb3⟩))
    go_ret
    exact ⟨rfl, (by repeat (first | (with_reducible exact Below.refl _ _) | (with_reducible assumption) | (with_reducible exact bel_box _) | (with_reducible refine bel_step ?_ (by with_reducible assumption)) | (with_reducible refine Below.drew ?_) | (with_reducible refine below_drewN ?_ _) | (with_reducible refine bel_alloc ?_ _)))⟩
  have KI2 := KI hi
  rw [hi] at KH
  rw [Bool.true_and]
  clear hi KI
  generalize idP x.nm = bi at *
  cases bi
  all_goals
    go_enter Tryz.func72, Tryz.ntmps72
    go_wp2_with (first
      | (go_at_call 106; refine (KF.out _ ?_).mono ?_; (focus ((repeat (first | (with_reducible exact Below.refl _ _) | (with_reducible assumption) | (with_reducible exact bel_box _) | (with_reducible refine bel_step ?_ (by with_reducible assumption)) | (with_reducible refine Below.drew ?_) | (with_reducible refine below_drewN ?_ _) | (with_reducible refine bel_alloc ?_ _))); done)); rintro e w1 ⟨rfl, hb1⟩; obtain ⟨b0, b1, b2, b3, b4, b5, b6⟩ := bxW_cells (w := w) (x := x) hb1)
      | (go_at_call 107; refine (KO.out _).mono ?_; rintro e w2 ⟨rfl, hb2⟩; obtain ⟨d0, d1, d2, d3, d4, d5, d6⟩ := bxW_cells (w := w) (x := x) (W := w2) (by repeat (first | (with_reducible exact Below.refl _ _) | (with_reducible assumption) | (with_reducible exact bel_box _) | (with_reducible refine bel_step ?_ (by with_reducible assumption)) | (with_reducible refine Below.drew ?_) | (with_reducible refine below_drewN ?_ _) | (with_reducible refine bel_alloc ?_ _))))
      | (go_at_call 108; refine (KH.out _).mono ?_; rintro e w3 ⟨rfl, hb3⟩; obtain ⟨g0, g1, g2, g3, g4, g5, g6⟩ := bxW_cells (w := w) (x := x) (W := w3) (by repeat (first | (with_reducible exact Below.refl _ _) | (with_reducible assumption) | (with_reducible exact bel_box _) | (with_reducible refine bel_step ?_ (by with_reducible assumption)) | (with_reducible refine Below.drew ?_) | (with_reducible refine below_drewN ?_ _) | (with_reducible refine bel_alloc ?_ _))))
      | (go_at_call 75; refine (KI2.out _ ?_).mono ?_; (focus ((repeat (first | (with_reducible exact Below.refl _ _) | (with_reducible assumption) | (with_reducible exact bel_box _) | (with_reducible refine bel_step ?_ (by with_reducible assumption)) | (with_reducible refine Below.drew ?_) | (with_reducible refine below_drewN ?_ _) | (with_reducible refine bel_alloc ?_ _))); done)); rintro e w4 ⟨rfl, hb4⟩))
    go_ret
    exact ⟨rfl, (by repeat (first | (with_reducible exact Below.refl _ _) | (with_reducible assumption) | (with_reducible exact bel_box _) | (with_reducible refine bel_step ?_ (by with_reducible assumption)) | (with_reducible refine Below.drew ?_) | (with_reducible refine below_drewN ?_ _) | (with_reducible refine bel_alloc ?_ _)))⟩
end Go.Proofs.YthlapepjebidgaaGreatDoor
/- What within hands back, each expression with what is known of it; Check of the program. -/
namespace Go.Proofs.YthlapepjebidgaaGreatDoor
set_option linter.unusedVariables false
set_option linter.unusedSimpArgs false
open Go.RowKit Go.Shelf
attribute [local go_sem] Oper.semAt_some
/-- J over lists of expressions of which P is known, said of the expressions -/
def upJ {P : Xt → Prop} (J : List {y : Xt // P y} → World → Prop) (pre : List Xt) (W : World) : Prop := ∃ q, q.map (·.1) = pre ∧ J q W
set_option maxHeartbeats 1000000 in
set_option maxRecDepth 100000 in
theorem within_stopsP (P : Xt → Prop) (n be bp n₀ : Nat) (S : Nat → Prop) (x : Xt) (w : World) (hP : ∀ y ∈ x.list, P y) (hS : ∀ k, S k → n₀ ≤ k ∧ k < w.heap.size) (hn₀ : n₀ ≤ w.heap.size) (hbe : be < w.heap.size) (hbp : bp < w.heap.size) (hX : RdX w n₀ x)
    (c0 : w.cell? ⟨be, 0, none⟩ = some (.int .i64 x.k)) (c1 : w.cell? ⟨be, 1, none⟩ = some (.int .i64 x.op)) (c2 : w.cell? ⟨be, 2, none⟩ = some (.int .i64 x.t)) (c3 : w.cell? ⟨be, 3, none⟩ = some (.int .i64 x.v)) (c4 : w.cell? ⟨be, 4, none⟩ = some (.string x.nm)) (c5 : w.cell? ⟨be, 5, none⟩ = some (.slice x.A x.ar.length x.c)) (cp : w.cell? ⟨bp, 0, none⟩ = some (.func (.func 29) #[] #[])) :
    SeqStopsK Fence.wide n Tryz.prog 67 #[.pointer (some ⟨be, 0, none⟩), .pointer (some ⟨bp, 0, none⟩)] (fun y : {y : Xt // P y} => #[xV y.1]) (KX S) (fun ys => ys.map (·.1) = x.list) (fun pre => pre.map (·.1) <+: x.list) x.size w := by
  intro l J Jx W hW hJ _ hY h0
  have hdd : ∀ k : Nat, (Fence.wide.depth.isSome = true → 1 ≤ k) := fun k h => by cases h
  have hWs := hW.size
  have d0 := (hW.cell (p := ⟨be, 0, none⟩) hbe).trans c0
  have d1 := (hW.cell (p := ⟨be, 1, none⟩) hbe).trans c1
  have d2 := (hW.cell (p := ⟨be, 2, none⟩) hbe).trans c2
  have d3 := (hW.cell (p := ⟨be, 3, none⟩) hbe).trans c3
  have d4 := (hW.cell (p := ⟨be, 4, none⟩) hbe).trans c4
  have d5 := (hW.cell (p := ⟨be, 5, none⟩) hbe).trans c5
  have dp := (hW.cell (p := ⟨bp, 0, none⟩) hbp).trans cp
  have hp := walk_each_in l n₀ W.heap.size x.size S (fun k hs => ⟨(hS k hs).1, by have := (hS k hs).2; omega⟩) (upJ J) (upJ Jx) (fun s A B row ⟨q, hq, hs⟩ hg hr => ⟨q, hq, hJ q A B row hs hg hr⟩) P
    (fun m pre y W1 hPy ⟨q, hq, hj⟩ hl => yield_any rfl m (YieldAt.mono (hY q ⟨y, hPy⟩ W1 hj (by rw [← hq, List.length_map] at hl; exact hl)) fun e W' h => h.elim
      (fun ⟨he, hj2, hk⟩ => .inl ⟨he, ⟨q ++ [⟨y, hPy⟩], by rw [List.map_append, hq]; rfl, hj2⟩, hk⟩) (fun ⟨he, hx⟩ => .inr ⟨he, q ++ [⟨y, hPy⟩], by rw [List.map_append, hq]; rfl, hx⟩))) x (n - 1) [] W hP (hX.blw (hW.mono hn₀) (Nat.le_refl _)) (Nat.le_refl _) ⟨[], rfl, h0⟩ (by simp)
  simp only [List.nil_append, xV] at hp
  clear hY c0 c1 c2 c3 c4 c5 cp
  simp only [List.append_toArray, List.cons_append, List.nil_append, Array.append_eq_append] at *
  refine callsIn_of_wp Tryz.func67 rfl trivial ?_ rfl
  simp only [Tryz.ntmps67, List.size_toArray, List.length_cons, List.length_nil, Nat.reduceAdd, Nat.reduceSub, Array.replicate_succ, Array.replicate_zero, List.push_toArray, List.append_toArray, List.nil_append, List.cons_append]
  gi_wp2_with (refine ⟨trivial, hdd _, ?_⟩; gi_at_call 68; refine hp.mono ?_; clear hp; rintro e W1 (⟨rfl, ⟨ys, hys, hJ1⟩, _⟩ | ⟨rfl, q, hq, ys, hys, hx⟩))
  · go_end0
    exact ⟨⟨_, rfl⟩, .inl ⟨ys, hys, hJ1⟩⟩
  · go_end0
    exact ⟨⟨_, rfl⟩, .inr ⟨ys, by rw [hys]; exact hq, hx⟩⟩
theorem within_atP (P : Xt → Prop) (n n₀ : Nat) (S : Nat → Prop) (x : Xt) (w : World) (hP : ∀ y ∈ x.list, P y) (hS : ∀ k, S k → n₀ ≤ k ∧ k < w.heap.size) (hn₀ : n₀ ≤ w.heap.size) (hX : RdX w n₀ x) :
    SeqStopsK Fence.wide n Tryz.prog 67 #[.pointer (some ⟨w.heap.size, 0, none⟩), .pointer (some ⟨w.heap.size + 1, 0, none⟩)] (fun y : {y : Xt // P y} => #[xV y.1]) (KX S) (fun ys => ys.map (·.1) = x.list) (fun pre => pre.map (·.1) <+: x.list) x.size (inW w x 29) := by
  obtain ⟨b0, b1, b2, b3, b4, b5, _⟩ := bxW_cells (w := w) (x := x) (W := inW w x 29) (bel_box _)
  exact within_stopsP P n w.heap.size (w.heap.size + 1) n₀ S x _ hP (fun k hs => ⟨(hS k hs).1, by rw [inW_size]; have := (hS k hs).2; omega⟩) (by rw [inW_size]; omega) (by rw [inW_size]; omega) (by rw [inW_size]; omega) (hX.blw ((inW_below w x _).mono hn₀) (Nat.le_refl _)) b0 b1 b2 b3 b4 b5 (by simp [go_sem])
theorem RdX.all {w : World} {B : Nat} {x : Xt} (h : RdX w B x) : ∀ y ∈ x.list, y.ar.length ≤ maxLen := by
  induction x using Xt.ind with
  | h x ih =>
    intro y hy
    rw [Xt.list_eq] at hy
    rcases List.mem_cons.1 hy with rfl | hy
    · exact h.len.1
    · obtain ⟨l, hl, hyl⟩ := List.mem_flatten.1 hy
      obtain ⟨z, hz, rfl⟩ := List.mem_map.1 hl
      exact ih z hz (h.kid hz) y hyl
/-- the first error -/
def firstE (f : Xt → Int) : List Xt → Int
  | [] => 0
  | y :: r => if f y = 0 then firstE f r else f y
theorem firstE_ok {f : Xt → Int} {l : List Xt} (h : ∀ y ∈ l, f y = 0) : firstE f l = 0 := by
  induction l with
  | nil => rfl
  | cons y r ih => rw [firstE, if_pos (h y (by simp))]; exact ih fun z hz => h z (by simp [hz])
theorem firstE_at {f : Xt → Int} {l r : List Xt} {y : Xt} (h : ∀ z ∈ l, f z = 0) (hy : f y ≠ 0) : firstE f (l ++ y :: r) = f y := by
  induction l with
  | nil => rw [List.nil_append, firstE, if_neg hy]
  | cons z l ih => rw [List.cons_append, firstE, if_pos (h z (by simp))]; exact ih fun u hu => h u (by simp [hu])
theorem bx2 {w W : World} {x : Xt} {v : Value} {t : TypeId} (h : Below ((bxW w x).alloc (.cells #[v] t)).heap.size ((bxW w x).alloc (.cells #[v] t)) W) :
    (W.cell? ⟨w.heap.size, 0, none⟩ = some (.int .i64 x.k) ∧ W.cell? ⟨w.heap.size, 1, none⟩ = some (.int .i64 x.op) ∧ W.cell? ⟨w.heap.size, 2, none⟩ = some (.int .i64 x.t) ∧ W.cell? ⟨w.heap.size, 3, none⟩ = some (.int .i64 x.v) ∧ W.cell? ⟨w.heap.size, 4, none⟩ = some (.string x.nm) ∧ W.cell? ⟨w.heap.size, 5, none⟩ = some (.slice x.A x.ar.length x.c)) ∧ (W.cell? ⟨w.heap.size + 1, 0, none⟩ = some v ∧ W.frozen? ⟨w.heap.size + 1, 0, none⟩ = false) ∧ w.heap.size + 1 < W.heap.size ∧ Below w.heap.size w W := by
  have hz := h.size
  have hz2 : ((bxW w x).alloc (.cells #[v] t)).heap.size = w.heap.size + 2 := by simp only [World.size_alloc]
  rw [hz2] at hz
  have hb : Below (bxW w x).heap.size (bxW w x) W := (bel_box _).trans (h.mono (by rw [World.size_alloc]; omega))
  obtain ⟨b0, b1, b2, b3, b4, b5, _⟩ := bxW_cells hb
  refine ⟨⟨b0, b1, b2, b3, b4, b5⟩, ⟨?_, ?_⟩, by omega, bxW_below hb⟩
  · exact (h.cell (p := ⟨w.heap.size + 1, 0, none⟩) (by rw [hz2]; simp)).trans (by simp [go_sem])
  · exact (h.frozen (p := ⟨w.heap.size + 1, 0, none⟩) (by rw [hz2]; simp)).trans (by simp [go_sem])
def chkAll (wok : ByteArray → Bool) (x : Xt) : Int := if 400 < x.size ∨ 32 < x.depth then 3 else firstE (chk1 wok) x.list
set_option maxHeartbeats 2000000 in
set_option maxRecDepth 100000 in
theorem check_any (wok : ByteArray → Bool) (x : Xt) (w : World) (hX : RdX w w.heap.size x) (hN : ∀ y ∈ x.list, NmOk wok w y) : Calls Tryz.prog 34 #[xV x] w (Bel (.int .i64 (chkAll wok x)) w) := by
  have hdd : ∀ k : Nat, (Fence.wide.depth.isSome = true → 1 ≤ k) := fun k h => by cases h
  have KW := Lib.hid (fun W => within_any x 29 W)
  have KE : Hid (∀ W, Below w.heap.size w W → Calls Tryz.prog 71 #[xV x, .int .i64 400] W (Bel (.bool (decide (400 < x.size))) W)) := Lib.hid fun W hb => exceeds_any x 400 W (hX.to hb) (by omega)
  have HX := Lib.hid hX
  have hal := hX.all
  have hsz : x.size ≤ 400 → Hid (∀ W, Below w.heap.size w W → Calls Tryz.prog 36 #[xV x] W (Bel (.int .i64 (x.depth : Nat)) W)) := fun h => Lib.hid fun W hb => depth_any x W (hX.to hb) (by omega)
  clear hX
  simp only [xV] at KW KE hsz ⊢
  refine (callsIn_wide (n := 3)).1 ?_
  by_cases h400 : 400 < x.size
  · rw [chkAll, if_pos (.inl h400)]
    rw [decide_eq_true h400] at KE
    refine callsIn_of_wp_marks Tryz.func34 rfl trivial ?_ rfl
    simp only [Tryz.ntmps34, List.size_toArray, List.length_cons, List.length_nil, Nat.reduceAdd, Nat.reduceSub, Array.replicate_succ, Array.replicate_zero, List.push_toArray, List.append_toArray, List.nil_append, List.cons_append]
    gi_wp2_with (refine ⟨trivial, ?_⟩; gi_at_call 71; refine (callsIn_wide.2 (KE.out _ ?_)).mono ?_; (focus ((repeat (first | (with_reducible exact Below.refl _ _) | (with_reducible assumption) | (with_reducible exact bel_box _) | (with_reducible refine bel_step ?_ (by with_reducible assumption)) | (with_reducible refine Below.drew ?_) | (with_reducible refine below_drewN ?_ _) | (with_reducible refine bel_alloc ?_ _))); done)); rintro e W1 ⟨rfl, hb1⟩; obtain ⟨⟨a0, a1, a2, a3, a4, a5⟩, ⟨r0, r1⟩, hzz, hBB⟩ := bx2 hb1; clear hb1)
    refine ⟨trivial, ?_⟩
    gi_wp2
    refine ⟨.int .i64 3, ?_, rfl, hBB.setCell (p := ⟨w.heap.size + 1, 0, none⟩) (by simp) _⟩
    have hc5 := World.cell?_setCell_same' W1 ⟨w.heap.size + 1, 0, none⟩ (.int .i64 3) (by rw [r0]; rfl)
    simp [results, Tryz.f34, go_sem, hc5]
  rw [decide_eq_false h400] at KE
  have KD := hsz (by omega)
  clear hsz
  have hdl := depth_le x
  by_cases h32 : 32 < x.depth
  · rw [chkAll, if_pos (.inr h32)]
    have u1 : (32 : Int) < (x.depth : Int) := by omega
    refine callsIn_of_wp_marks Tryz.func34 rfl trivial ?_ rfl
    simp only [Tryz.ntmps34, List.size_toArray, List.length_cons, List.length_nil, Nat.reduceAdd, Nat.reduceSub, Array.replicate_succ, Array.replicate_zero, List.push_toArray, List.append_toArray, List.nil_append, List.cons_append]
    gi_wp2_with (first
      | (refine ⟨trivial, ?_⟩; gi_at_call 71; refine (callsIn_wide.2 (KE.out _ ?_)).mono ?_; (focus ((repeat (first | (with_reducible exact Below.refl _ _) | (with_reducible assumption) | (with_reducible exact bel_box _) | (with_reducible refine bel_step ?_ (by with_reducible assumption)) | (with_reducible refine Below.drew ?_) | (with_reducible refine below_drewN ?_ _) | (with_reducible refine bel_alloc ?_ _))); done)); rintro e W1 ⟨rfl, hb1⟩; obtain ⟨⟨a0, a1, a2, a3, a4, a5⟩, ⟨r0, r1⟩, hzz, hBB⟩ := bx2 hb1)
      | (refine ⟨trivial, ?_⟩; gi_at_call 36; refine (callsIn_wide.2 (KD.out _ ?_)).mono ?_; (focus (exact hBB; done)); rintro e W2 ⟨rfl, hb2⟩; obtain ⟨_, ⟨s0, s1⟩, hzy, hBC⟩ := bx2 (hb1.trans (hb2.mono hb1.size))))
    refine ⟨.int .i64 3, ?_, rfl, hBC.setCell (p := ⟨w.heap.size + 1, 0, none⟩) (by simp) _⟩
    have hc5 := World.cell?_setCell_same' W2 ⟨w.heap.size + 1, 0, none⟩ (.int .i64 3) (by rw [s0]; rfl)
    simp [results, Tryz.f34, go_sem, hc5]
  rw [chkAll, if_neg (by omega)]
  have u1 : (x.depth : Int) ≤ 32 := by omega
  refine callsIn_of_wp_marks Tryz.func34 rfl trivial ?_ rfl
  simp only [Tryz.ntmps34, List.size_toArray, List.length_cons, List.length_nil, Nat.reduceAdd, Nat.reduceSub, Array.replicate_succ, Array.replicate_zero, List.push_toArray, List.append_toArray, List.nil_append, List.cons_append]
  gi_wp2_with (first
    | (refine ⟨trivial, ?_⟩; gi_at_call 71; refine (callsIn_wide.2 (KE.out _ ?_)).mono ?_; (focus ((repeat (first | (with_reducible exact Below.refl _ _) | (with_reducible assumption) | (with_reducible exact bel_box _) | (with_reducible refine bel_step ?_ (by with_reducible assumption)) | (with_reducible refine Below.drew ?_) | (with_reducible refine below_drewN ?_ _) | (with_reducible refine bel_alloc ?_ _))); done)); rintro e W1 ⟨rfl, hb1⟩; obtain ⟨⟨a0, a1, a2, a3, a4, a5⟩, ⟨r0, r1⟩, hzz, hBB⟩ := bx2 hb1)
    | (refine ⟨trivial, ?_⟩; gi_at_call 36; refine (callsIn_wide.2 (KD.out _ ?_)).mono ?_; (focus (exact hBB; done)); rintro e W2 ⟨rfl, hb2⟩; obtain ⟨⟨e0, e1, e2, e3, e4, e5⟩, ⟨s0, s1⟩, hzy, hBC⟩ := bx2 (hb1.trans (hb2.mono hb1.size)))
    | (refine ⟨trivial, ?_⟩; gi_at_call 28; refine (callsIn_wide.2 (KW.out _)).mono ?_; rintro e W3 ⟨rfl, rfl⟩))
  have hst := within_atP (fun y => y ∈ x.list) (3 - 1) w.heap.size (fun k => k = w.heap.size + 1) x W2 (fun y h => h) (fun k hk => by subst hk; omega) (by omega) (HX.out.blw hBC (Nat.le_refl _))
  obtain ⟨W0, hW0⟩ : ∃ W0, inW W2 x 29 = W0 := ⟨_, rfl⟩
  have hz0 : W0.heap.size = W2.heap.size + 2 := by rw [← hW0, inW_size]
  have hB0 : Below w.heap.size w W0 := by rw [← hW0]; exact hBC.trans ((inW_below W2 x _).mono (by omega))
  have f2 : W0.cell? ⟨w.heap.size + 1, 0, none⟩ = some (.int .i64 0) := by rw [← hW0]; exact (inW_old (by omega)).1.trans s0
  have f3 : W0.frozen? ⟨w.heap.size + 1, 0, none⟩ = false := by rw [← hW0]; exact (inW_old (by omega)).2.trans s1
  rw [hW0] at hst
  rw [show (bxW W2 x).alloc (.cells #[.func (.func 29) #[] #[]] 30) = W0 from hW0]
  have HN := Lib.hid hN
  have HAL := Lib.hid hal
  clear hW0 KW KE KD HX hN hal a0 a1 a2 a3 a4 a5 r0 r1 e0 e1 e2 e3 e4 e5 s0 s1 hb1 hb2 hBB hBC hzz
  refine wpIn_rangeFunc_ownH rfl (by decide) (gf := 67) (lb := #[.pointer (some ⟨W2.heap.size, 0, none⟩), .pointer (some ⟨W2.heap.size + 1, 0, none⟩)]) rfl trivial (enters_of Tryz.func67 (by kernel_rfl) rfl)
    hst KX_t KX_b (Below.refl _ _) (fun _ => rfl)
    (fun pre W => ((∀ y ∈ pre, chk1 wok y.1 = 0) ∧ W.cell? ⟨w.heap.size + 1, 0, none⟩ = some (.int .i64 0) ∧ W.frozen? ⟨w.heap.size + 1, 0, none⟩ = false) ∧ Below w.heap.size w W)
    (fun c pre W => (c = .ret ∧ ∃ q y, pre = q ++ [y] ∧ (∀ z ∈ q, chk1 wok z.1 = 0) ∧ chk1 wok y.1 ≠ 0 ∧ W.cell? ⟨w.heap.size + 1, 0, none⟩ = some (.int .i64 (chk1 wok y.1))) ∧ Below w.heap.size w W)
    (OwnFrom.and (Own.from (fun s A B row hs hg hr => ⟨hs.1, cell_kept hs.2.1 hg hr, (frozen_kept hs.2.1 hg hr).trans hs.2.2⟩) _) (ownFrom_below (Nat.le_refl _) (by omega)))
    (fun c => OwnFrom.and (Own.from (fun s A B row hs hg hr => by
      obtain ⟨h1, q, y, h2, h3, h4, h5⟩ := hs
      exact ⟨h1, q, y, h2, h3, h4, cell_kept h5 hg hr⟩) _) (ownFrom_below (Nat.le_refl _) (by omega)))
    ⟨⟨by simp, f2, f3⟩, hB0⟩
    (fun y a' W => ∃ Bx, (w.heap.size + 2 ≤ Bx ∧ W.cell? ⟨Bx, 0, none⟩ = some (.int .i64 y.1.k) ∧ W.cell? ⟨Bx, 1, none⟩ = some (.int .i64 y.1.op) ∧ W.cell? ⟨Bx, 2, none⟩ = some (.int .i64 y.1.t) ∧ W.cell? ⟨Bx, 3, none⟩ = some (.int .i64 y.1.v) ∧ W.cell? ⟨Bx, 4, none⟩ = some (.string y.1.nm) ∧ W.cell? ⟨Bx, 5, none⟩ = some (.slice y.1.A y.1.ar.length y.1.c)) ∧ a' = { tmps := #[.agg #[.int .i64 x.k, .int .i64 x.op, .int .i64 x.t, .int .i64 x.v, .string x.nm, .slice x.A x.ar.length x.c], .pointer (some ⟨w.heap.size, 0, none⟩), .pointer (some ⟨w.heap.size + 1, 0, none⟩), .pointer (some ⟨Bx, 0, none⟩), undef, .agg #[.int .i64 x.k, .int .i64 x.op, .int .i64 x.t, .int .i64 x.v, .string x.nm, .slice x.A x.ar.length x.c], .bool false, .bool false, .agg #[.int .i64 x.k, .int .i64 x.op, .int .i64 x.t, .int .i64 x.v, .string x.nm, .slice x.A x.ar.length x.c], .int .i64 (x.depth : Int), .bool (decide ((32 : Int) < (x.depth : Int))), .bool (decide ((32 : Int) < (x.depth : Int))), .agg #[.int .i64 x.k, .int .i64 x.op, .int .i64 x.t, .int .i64 x.v, .string x.nm, .slice x.A x.ar.length x.c], .func (.func 67) #[] #[.pointer (some ⟨W2.heap.size, 0, none⟩), .pointer (some ⟨W2.heap.size + 1, 0, none⟩)], xV y.1, undef, undef, undef, undef, undef], defers := [] })
    (fun y a' s A B row hs hg hr => by
      obtain ⟨Bx, ⟨h1, h2, h3, h4, h5, h6, h7⟩, h8⟩ := hs
      exact ⟨Bx, ⟨h1, cell_kept h2 hg (fun r e => (hr r e).2), cell_kept h3 hg (fun r e => (hr r e).2), cell_kept h4 hg (fun r e => (hr r e).2), cell_kept h5 hg (fun r e => (hr r e).2), cell_kept h6 hg (fun r e => (hr r e).2), cell_kept h7 hg (fun r e => (hr r e).2)⟩, h8⟩) ?assign ?body ?done ?stop
  case assign =>
    rintro l pre y W K ⟨⟨i1, i2, i3⟩, hB⟩ hK
    rw [fold1]
    simp only [xV] at hK ⊢
    gi_wp2
    obtain ⟨d0, d1, d2, d3, d4, d5⟩ := bx_box W y.1
    exact hK _ _ ((KeepsOthers.alloc _ _).from _) (KX.of_below (bel_box _)) ⟨⟨i1, cell_al _ i2, frozen_al _ i2 i3⟩, bel_alloc hB _⟩ ⟨W.heap.size, ⟨by have := World.block_lt_of_cell? W _ i2; simp only at this; omega, d0, d1, d2, d3, d4, d5⟩, rfl⟩
  case body =>
    rintro l pre y a' W hl ⟨r, hr⟩ ⟨⟨i1, i2, i3⟩, hB⟩ ⟨Bx, ⟨hBx, d0, d1, d2, d3, d4, d5⟩, rfl⟩ hlt
    have hbk := World.block_lt_of_cell? W _ i2
    have KC : Hid (Calls Tryz.prog 72 #[xV y.1] W (Bel (.int .i64 (chk1 wok y.1)) W)) := Lib.hid (checkone_any wok y.1 W (HAL.out _ y.2) ((HN.out _ y.2).to hB))
    simp only [xV] at KC
    by_cases hc : chk1 wok y.1 = 0
    · gi_wp2_with (refine ⟨trivial, ?_⟩; gi_at_call 72; refine (CallsIn.inRound l (callsIn_wide.2 KC.out)).mono ?_; rintro e W5 ⟨rfl, hb5⟩)
      exact ⟨(KeepsOthers.of_grownBy (below_grown hb5) (fun j o e => by cases e)).from _, KX.of_below hb5, ⟨fun z hz => (List.mem_append.1 hz).elim (i1 z) (fun h => by rw [List.mem_singleton.1 h]; exact hc), (hb5.cell (p := ⟨w.heap.size + 1, 0, none⟩) hbk).trans i2, (hb5.frozen (p := ⟨w.heap.size + 1, 0, none⟩) hbk).trans i3⟩, hB.trans (hb5.mono hB.size)⟩
    · gi_wp2_with (refine ⟨trivial, ?_⟩; gi_at_call 72; refine (CallsIn.inRound l (callsIn_wide.2 KC.out)).mono ?_; rintro e W5 ⟨rfl, hb5⟩; have j2 := (hb5.cell (p := ⟨w.heap.size + 1, 0, none⟩) hbk).trans i2; have j3 := (hb5.frozen (p := ⟨w.heap.size + 1, 0, none⟩) hbk).trans i3)
      exact ⟨((KeepsOthers.of_grownBy (below_grown hb5) (fun j o e => by cases e)).trans (KeepsOthers.setCell _ _ _)).from _, ⟨rfl, pre, y, rfl, i1, hc, World.cell?_setCell_same' _ _ _ (by rw [j2]; rfl)⟩, (hB.trans (hb5.mono hB.size)).setCell (p := ⟨w.heap.size + 1, 0, none⟩) (by simp) _⟩
  case done =>
    rintro D ys W hD hys ⟨⟨hn, hc, hf⟩, hB⟩ hK
    have hv : firstE (chk1 wok) x.list = 0 := firstE_ok fun y hy => by
      rw [← hys] at hy
      obtain ⟨z, hz, rfl⟩ := List.mem_map.1 hy
      exact hn z hz
    gi_wp2
    have hK' := (KeepsOthers.setCell W ⟨w.heap.size + 1, 0, none⟩ (.int .i64 0)).same D _ hK rfl
    refine ⟨by simp, .inl ⟨_, _, rfl, run_takeDeferred hK', ?_⟩⟩
    have hc5 := cell_kept (World.cell?_setCell_same' W ⟨w.heap.size + 1, 0, none⟩ (.int .i64 0) (by rw [hc]; rfl)) (grownBy_putObj' _ D (.deferred none)) (fun r e => by cases e; exact ⟨_, hK', rfl⟩)
    refine ⟨.int .i64 0, ?_, rfl, (hB.setCell (p := ⟨w.heap.size + 1, 0, none⟩) (by simp) _).trans (belowK_b (w := w) (Nat.le_refl _) _ D _ _ (by omega) hK' rfl rfl)⟩
    simp [results, Tryz.f34, go_sem, hc5]
  case stop =>
    rintro D c pre W hD ⟨t, ht⟩ ⟨⟨rfl, q, y, rfl, hq, hy, hc⟩, hB⟩ hK
    have hv : firstE (chk1 wok) x.list = chk1 wok y.1 := by
      have hl : x.list = q.map (·.1) ++ y.1 :: t := ht.symm.trans (by rw [List.map_append, List.append_assoc]; rfl)
      exact (congrArg _ hl).trans (firstE_at (fun z hz => by obtain ⟨u, hu, rfl⟩ := List.mem_map.1 hz; exact hq u hu) hy)
    gi_wp2
    refine ⟨by simp, .inl ⟨_, _, rfl, run_takeDeferred hK, ?_⟩⟩
    have hc5 := cell_kept hc (grownBy_putObj' _ D (.deferred none)) (fun r e => by cases e; exact ⟨_, hK, rfl⟩)
    refine ⟨.int .i64 (chk1 wok y.1), ?_, rfl, hB.trans (belowK_b (w := w) (Nat.le_refl _) W D _ _ (by omega) hK rfl rfl)⟩
    simp [results, Tryz.f34, go_sem, hc5]
end Go.Proofs.YthlapepjebidgaaGreatDoor
/- The form of both is one; Check of the reference. -/
namespace Go.Proofs.YthlapepjebidgaaGreatDoor
set_option linter.unusedVariables false
set_option linter.unusedSimpArgs false
open Go.RowKit Go.Sort
set_option maxHeartbeats 2000000 in
theorem form_one (k op t v : Int) (n : Nat) (ne wok : Bool) : formRP k op t v (argP k op t v n) (tagP t v) ne wok = (formedP k op t v n wok && onlyP k op t v ne) := by
  by_cases h1 : k = 1
  · subst h1; by_cases h2t : t = 2 <;> by_cases h3t : 3 ≤ t <;> by_cases h0v : 0 ≤ v <;> by_cases ho : op = 0 <;> by_cases ht : t = 1 <;> by_cases hv : v = 0 <;> cases ne <;> cases wok <;> (first | (rw [Bool.eq_iff_iff]; simp [formRP, argP, tagP, formedP, onlyP, hasVal, hasBr, opnds, hasIdn, hasVar, *]; done) | (rw [Bool.eq_iff_iff]; simp [formRP, argP, tagP, formedP, onlyP, hasVal, hasBr, opnds, hasIdn, hasVar, *]; omega) | (rw [Bool.eq_iff_iff]; simp_all [formRP, argP, tagP, formedP, onlyP, hasVal, hasBr, opnds, hasIdn, hasVar]; omega))
  by_cases h2 : k = 2
  · subst h2; by_cases ho : op = 0 <;> by_cases ht : t = 1 <;> by_cases hv : v = 0 <;> cases ne <;> cases wok <;> (first | (rw [Bool.eq_iff_iff]; simp [formRP, argP, tagP, formedP, onlyP, hasVal, hasBr, opnds, hasIdn, hasVar, *]; done) | (rw [Bool.eq_iff_iff]; simp [formRP, argP, tagP, formedP, onlyP, hasVal, hasBr, opnds, hasIdn, hasVar, *]; omega) | (rw [Bool.eq_iff_iff]; simp_all [formRP, argP, tagP, formedP, onlyP, hasVal, hasBr, opnds, hasIdn, hasVar]; omega))
  by_cases h3 : k = 3
  · subst h3; by_cases ho : op = 0 <;> by_cases ht : t = 1 <;> by_cases hv : v = 0 <;> cases ne <;> cases wok <;> (first | (rw [Bool.eq_iff_iff]; simp [formRP, argP, tagP, formedP, onlyP, hasVal, hasBr, opnds, hasIdn, hasVar, *]; done) | (rw [Bool.eq_iff_iff]; simp [formRP, argP, tagP, formedP, onlyP, hasVal, hasBr, opnds, hasIdn, hasVar, *]; omega) | (rw [Bool.eq_iff_iff]; simp_all [formRP, argP, tagP, formedP, onlyP, hasVal, hasBr, opnds, hasIdn, hasVar]; omega))
  by_cases h4 : k = 4
  · subst h4; by_cases ho : op = 0 <;> by_cases ht : t = 1 <;> by_cases hv : v = 0 <;> cases ne <;> cases wok <;> (first | (rw [Bool.eq_iff_iff]; simp [formRP, argP, tagP, formedP, onlyP, hasVal, hasBr, opnds, hasIdn, hasVar, *]; done) | (rw [Bool.eq_iff_iff]; simp [formRP, argP, tagP, formedP, onlyP, hasVal, hasBr, opnds, hasIdn, hasVar, *]; omega) | (rw [Bool.eq_iff_iff]; simp_all [formRP, argP, tagP, formedP, onlyP, hasVal, hasBr, opnds, hasIdn, hasVar]; omega))
  by_cases h5 : k = 5
  · subst h5; by_cases ho : op = 0 <;> by_cases ht : t = 1 <;> by_cases hv : v = 0 <;> cases ne <;> cases wok <;> (first | (rw [Bool.eq_iff_iff]; simp [formRP, argP, tagP, formedP, onlyP, hasVal, hasBr, opnds, hasIdn, hasVar, *]; done) | (rw [Bool.eq_iff_iff]; simp [formRP, argP, tagP, formedP, onlyP, hasVal, hasBr, opnds, hasIdn, hasVar, *]; omega) | (rw [Bool.eq_iff_iff]; simp_all [formRP, argP, tagP, formedP, onlyP, hasVal, hasBr, opnds, hasIdn, hasVar]; omega))
  by_cases h6 : k = 6
  · subst h6; by_cases ho : op = 0 <;> by_cases ht : t = 1 <;> by_cases hv : v = 0 <;> cases ne <;> cases wok <;> (first | (rw [Bool.eq_iff_iff]; simp [formRP, argP, tagP, formedP, onlyP, hasVal, hasBr, opnds, hasIdn, hasVar, *]; done) | (rw [Bool.eq_iff_iff]; simp [formRP, argP, tagP, formedP, onlyP, hasVal, hasBr, opnds, hasIdn, hasVar, *]; omega) | (rw [Bool.eq_iff_iff]; simp_all [formRP, argP, tagP, formedP, onlyP, hasVal, hasBr, opnds, hasIdn, hasVar]; omega))
  by_cases h7 : k = 7
  · subst h7; by_cases ho : op = 0 <;> by_cases ht : t = 1 <;> by_cases hv : v = 0 <;> cases ne <;> cases wok <;> (first | (rw [Bool.eq_iff_iff]; simp [formRP, argP, tagP, formedP, onlyP, hasVal, hasBr, opnds, hasIdn, hasVar, *]; done) | (rw [Bool.eq_iff_iff]; simp [formRP, argP, tagP, formedP, onlyP, hasVal, hasBr, opnds, hasIdn, hasVar, *]; omega) | (rw [Bool.eq_iff_iff]; simp_all [formRP, argP, tagP, formedP, onlyP, hasVal, hasBr, opnds, hasIdn, hasVar]; omega))
  by_cases h8 : k = 8
  · subst h8; by_cases ho : op = 0 <;> by_cases ht : t = 1 <;> by_cases hv : v = 0 <;> cases ne <;> cases wok <;> (first | (rw [Bool.eq_iff_iff]; simp [formRP, argP, tagP, formedP, onlyP, hasVal, hasBr, opnds, hasIdn, hasVar, *]; done) | (rw [Bool.eq_iff_iff]; simp [formRP, argP, tagP, formedP, onlyP, hasVal, hasBr, opnds, hasIdn, hasVar, *]; omega) | (rw [Bool.eq_iff_iff]; simp_all [formRP, argP, tagP, formedP, onlyP, hasVal, hasBr, opnds, hasIdn, hasVar]; omega))
  by_cases h9 : k = 9
  · subst h9; by_cases ho : op = 0 <;> by_cases ht : t = 1 <;> by_cases hv : v = 0 <;> cases ne <;> cases wok <;> (first | (rw [Bool.eq_iff_iff]; simp [formRP, argP, tagP, formedP, onlyP, hasVal, hasBr, opnds, hasIdn, hasVar, *]; done) | (rw [Bool.eq_iff_iff]; simp [formRP, argP, tagP, formedP, onlyP, hasVal, hasBr, opnds, hasIdn, hasVar, *]; omega) | (rw [Bool.eq_iff_iff]; simp_all [formRP, argP, tagP, formedP, onlyP, hasVal, hasBr, opnds, hasIdn, hasVar]; omega))
  by_cases h10 : k = 10
  · subst h10; by_cases ho : op = 0 <;> by_cases ht : t = 1 <;> by_cases hv : v = 0 <;> cases ne <;> cases wok <;> (first | (rw [Bool.eq_iff_iff]; simp [formRP, argP, tagP, formedP, onlyP, hasVal, hasBr, opnds, hasIdn, hasVar, *]; done) | (rw [Bool.eq_iff_iff]; simp [formRP, argP, tagP, formedP, onlyP, hasVal, hasBr, opnds, hasIdn, hasVar, *]; omega) | (rw [Bool.eq_iff_iff]; simp_all [formRP, argP, tagP, formedP, onlyP, hasVal, hasBr, opnds, hasIdn, hasVar]; omega))
  by_cases h11 : k = 11
  · subst h11; by_cases ho : op = 0 <;> by_cases ht : t = 1 <;> by_cases hv : v = 0 <;> cases ne <;> cases wok <;> (first | (rw [Bool.eq_iff_iff]; simp [formRP, argP, tagP, formedP, onlyP, hasVal, hasBr, opnds, hasIdn, hasVar, *]; done) | (rw [Bool.eq_iff_iff]; simp [formRP, argP, tagP, formedP, onlyP, hasVal, hasBr, opnds, hasIdn, hasVar, *]; omega) | (rw [Bool.eq_iff_iff]; simp_all [formRP, argP, tagP, formedP, onlyP, hasVal, hasBr, opnds, hasIdn, hasVar]; omega))
  have e1 : formRP k op t v (argP k op t v n) (tagP t v) ne wok = false := by
    rw [formRP, if_pos]
    omega
  have e2 : formedP k op t v n wok = false := by
    rw [formedP, if_neg h1, if_neg h2, if_neg h3, if_neg h4, if_neg h5, if_neg (by omega), if_neg h8, if_neg h9, if_neg h10, if_neg h11]
  rw [e1, e2]
  rfl
end Go.Proofs.YthlapepjebidgaaGreatDoor
/- Check of the reference. -/
namespace Go.Proofs.YthlapepjebidgaaGreatDoor
set_option linter.unusedVariables false
set_option linter.unusedSimpArgs false
open Go.RowKit Go.Sort
/-- what is asked of the reference's callees that read the Name -/
def NmR (wok : ByteArray → Bool) (w : World) (x : Xt) : Prop := (x.k = 11 → Hid (∀ W, Below w.heap.size w W → Calls Tryz.prog 125 #[.string x.nm] W (fun e w' => ∃ (A1 A2 : Option Addr) (n1 c1 n2 c2 : Nat) (er : Int), e = .returned (.tuple #[.agg #[.slice A1 n1 c1, .slice A2 n2 c2], .int .i64 er]) ∧ (er == 0) = wok x.nm ∧ Below W.heap.size W w'))) ∧ (hasIdn x.k = true → Hid (∀ W, Below w.heap.size w W → Calls Tryz.prog 83 #[.string x.nm] W (Bel (.bool (idP x.nm)) W)))
theorem firstE_take {f : Xt → Int} {l : List Xt} {k : Nat} {y : Xt} (hy : l[k]? = some y) (h : ∀ z ∈ l.take k, f z = 0) (hf : f y ≠ 0) : firstE f l = f y := by
  have e : l = l.take k ++ y :: l.drop (k + 1) := by
    have h1 := (List.getElem?_eq_some_iff.1 hy).1
    conv => lhs; rw [← List.take_append_drop k l, List.drop_eq_getElem_cons h1, (List.getElem?_eq_some_iff.1 hy).2]
  rw [e]
  exact firstE_at h hf
theorem ok_take {f : Xt → Int} {l : List Xt} {k : Nat} {y : Xt} (hy : l[k]? = some y) (h : ∀ z ∈ l.take k, f z = 0) (hf : f y = 0) : ∀ z ∈ l.take (k + 1), f z = 0 := by
  intro z hz
  rw [take_succ_of hy] at hz
  rcases List.mem_append.1 hz with hz | hz
  · exact h z hz
  · obtain rfl := List.mem_singleton.1 hz
    exact hf
set_option maxHeartbeats 4000000 in
set_option maxRecDepth 20000 in
theorem rcheck_any (wok : ByteArray → Bool) (x : Xt) (w : World) (hX : RdX w w.heap.size x) (hs : x.size ≤ 1048576) (hN : ∀ y ∈ x.list, NmR wok w y) : Calls Tryz.prog 56 #[xV x] w (Bel (.int .i64 (chkAll wok x)) w) := by
  have KS : Hid (∀ W, Below w.heap.size w W → Calls Tryz.prog 87 #[xV x] W (Bel (.int .i64 (x.size : Nat)) W)) := Lib.hid fun W h => rsize_any x W (hX.to h) (by omega)
  have KD : Hid (∀ W, Below w.heap.size w W → Calls Tryz.prog 88 #[xV x] W (Bel (.int .i64 (x.depth : Nat)) W)) := Lib.hid fun W h => rdepth_any x W (hX.to h) (by omega)
  have KL : Hid (∀ W, Below w.heap.size w W → Calls Tryz.prog 13 #[xV x] W (NewX x.list W)) := Lib.hid fun W h => rList_any x W (hX.to h) (by omega)
  have hll := list_length x
  have hal := hX.all
  have hdl := depth_le x
  simp only [xV] at KS KD KL ⊢
  by_cases h1 : 400 < x.size
  · have u1 : (400 : Int) < (x.size : Int) := by omega
    rw [chkAll, if_pos (.inl h1)]
    clear h1 hX hN hll hal hs hdl
    go_enter Tryz.func56, Tryz.ntmps56
    go_wp2_with (go_at_call 87; (with_reducible refine (KS.out _ ?_).mono ?_); (focus ((repeat (first | (with_reducible exact Below.refl _ _) | (with_reducible assumption) | (with_reducible exact bel_box _) | (with_reducible refine bel_step ?_ (by with_reducible assumption)) | (with_reducible refine Below.drew ?_) | (with_reducible refine below_drewN ?_ _) | (with_reducible refine bel_alloc ?_ _))); done)); rintro e w1 ⟨rfl, hb1⟩)
    go_ret
    exact ⟨rfl, (by repeat (first | (with_reducible exact Below.refl _ _) | (with_reducible assumption) | (with_reducible exact bel_box _) | (with_reducible refine bel_step ?_ (by with_reducible assumption)) | (with_reducible refine Below.drew ?_) | (with_reducible refine below_drewN ?_ _) | (with_reducible refine bel_alloc ?_ _)))⟩
  have u1 : (x.size : Int) ≤ 400 := by omega
  by_cases h2 : 32 < x.depth
  · have u2 : (32 : Int) < (x.depth : Int) := by omega
    rw [chkAll, if_pos (.inr h2)]
    clear h1 h2 hX hN hll hal hs hdl
    go_enter Tryz.func56, Tryz.ntmps56
    go_wp2_with (first
      | (go_at_call 87; (with_reducible refine (KS.out _ ?_).mono ?_); (focus ((repeat (first | (with_reducible exact Below.refl _ _) | (with_reducible assumption) | (with_reducible exact bel_box _) | (with_reducible refine bel_step ?_ (by with_reducible assumption)) | (with_reducible refine Below.drew ?_) | (with_reducible refine below_drewN ?_ _) | (with_reducible refine bel_alloc ?_ _))); done)); rintro e w1 ⟨rfl, hb1⟩; obtain ⟨b0, b1, b2, b3, b4, b5, _⟩ := bxW_cells (w := w) (x := x) (W := w1) (by repeat (first | (with_reducible exact Below.refl _ _) | (with_reducible assumption) | (with_reducible exact bel_box _) | (with_reducible refine bel_step ?_ (by with_reducible assumption)) | (with_reducible refine Below.drew ?_) | (with_reducible refine below_drewN ?_ _) | (with_reducible refine bel_alloc ?_ _))))
      | (go_at_call 88; (with_reducible refine (KD.out _ ?_).mono ?_); (focus ((repeat (first | (with_reducible exact Below.refl _ _) | (with_reducible assumption) | (with_reducible exact bel_box _) | (with_reducible refine bel_step ?_ (by with_reducible assumption)) | (with_reducible refine Below.drew ?_) | (with_reducible refine below_drewN ?_ _) | (with_reducible refine bel_alloc ?_ _))); done)); rintro e w2 ⟨rfl, hb2⟩))
    go_ret
    exact ⟨rfl, (by repeat (first | (with_reducible exact Below.refl _ _) | (with_reducible assumption) | (with_reducible exact bel_box _) | (with_reducible refine bel_step ?_ (by with_reducible assumption)) | (with_reducible refine Below.drew ?_) | (with_reducible refine below_drewN ?_ _) | (with_reducible refine bel_alloc ?_ _)))⟩
  have u2 : (x.depth : Int) ≤ 32 := by omega
  rw [chkAll, if_neg (by omega)]
  obtain ⟨l, hl⟩ : ∃ l, x.list = l := ⟨_, rfl⟩
  rw [hl] at KL hll hal hN ⊢
  have hl5 : l.length ≤ 500 := by omega
  have HN := Lib.hid hN
  have HAL := Lib.hid hal
  clear h1 h2 hX hN hal hl hll hdl
  obtain ⟨V, hV⟩ : ∃ V, firstE (chk1 wok) l = V := ⟨_, rfl⟩
  have HV := Lib.hid hV
  rw [hV]
  clear hV
  go_enter Tryz.func56, Tryz.ntmps56
  go_wp2_with (first
    | (go_at_call 87; (with_reducible refine (KS.out _ ?_).mono ?_); (focus ((repeat (first | (with_reducible exact Below.refl _ _) | (with_reducible assumption) | (with_reducible exact bel_box _) | (with_reducible refine bel_step ?_ (by with_reducible assumption)) | (with_reducible refine Below.drew ?_) | (with_reducible refine below_drewN ?_ _) | (with_reducible refine bel_alloc ?_ _))); done)); rintro e w1 ⟨rfl, hb1⟩; obtain ⟨b0, b1, b2, b3, b4, b5, _⟩ := bxW_cells (w := w) (x := x) (W := w1) (by repeat (first | (with_reducible exact Below.refl _ _) | (with_reducible assumption) | (with_reducible exact bel_box _) | (with_reducible refine bel_step ?_ (by with_reducible assumption)) | (with_reducible refine Below.drew ?_) | (with_reducible refine below_drewN ?_ _) | (with_reducible refine bel_alloc ?_ _))))
    | (go_at_call 88; (with_reducible refine (KD.out _ ?_).mono ?_); (focus ((repeat (first | (with_reducible exact Below.refl _ _) | (with_reducible assumption) | (with_reducible exact bel_box _) | (with_reducible refine bel_step ?_ (by with_reducible assumption)) | (with_reducible refine Below.drew ?_) | (with_reducible refine below_drewN ?_ _) | (with_reducible refine bel_alloc ?_ _))); done)); rintro e w2 ⟨rfl, hb2⟩; obtain ⟨d0, d1, d2, d3, d4, d5, _⟩ := bxW_cells (w := w) (x := x) (W := w2) (by repeat (first | (with_reducible exact Below.refl _ _) | (with_reducible assumption) | (with_reducible exact bel_box _) | (with_reducible refine bel_step ?_ (by with_reducible assumption)) | (with_reducible refine Below.drew ?_) | (with_reducible refine below_drewN ?_ _) | (with_reducible refine bel_alloc ?_ _))))
    | (go_at_call 13; (with_reducible refine (KL.out _ ?_).mono ?_); (focus ((repeat (first | (with_reducible exact Below.refl _ _) | (with_reducible assumption) | (with_reducible exact bel_box _) | (with_reducible refine bel_step ?_ (by with_reducible assumption)) | (with_reducible refine Below.drew ?_) | (with_reducible refine below_drewN ?_ _) | (with_reducible refine bel_alloc ?_ _))); done)); rintro e w3 ⟨A, c, rfl, hR, hb3⟩))
  have HB3 : Hid (Below w.heap.size w w3) := Lib.hid (by repeat (first | (with_reducible exact Below.refl _ _) | (with_reducible assumption) | (with_reducible exact bel_box _) | (with_reducible refine bel_step ?_ (by with_reducible assumption)) | (with_reducible refine Below.drew ?_) | (with_reducible refine below_drewN ?_ _) | (with_reducible refine bel_alloc ?_ _)))
  clear b0 b1 b2 b3 b4 b5 d0 d1 d2 d3 d4 d5 hb1 hb2 hb3 KS KD KL
  go_loopw [4] (fun i wr => ∃ k : Nat, k ≤ l.length ∧ i = .int .i64 (k : Int) ∧ Below w3.heap.size w3 wr ∧ Hid (∀ z ∈ l.take k, chk1 wok z = 0)) (fun i _ => l.length - (intOf i).toNat)
  case atStart => exact ⟨0, by omega, rfl, Below.refl _ _, Lib.hid (by simp)⟩
  case round =>
    obtain ⟨k, hk, rfl, hbl, hno⟩ := hrel
    have HBR : Hid (Below w.heap.size w wr) := Lib.hid (HB3.out.trans (hbl.mono HB3.out.size))
    by_cases hlt : k < l.length
    · obtain ⟨ad, y, rfl, had, hy, hm, ⟨c0, c1, c2, c3, c4, c5⟩⟩ := (hR.to hbl).at_ hlt
      have H1 := Lib.hid (fun hf => (firstE_take hy hno.out hf).symm.trans HV.out)
      have H2 := Lib.hid (fun hf => ok_take hy hno.out hf)
      have hyl := HAL.out y hm
      unfold maxLen at hyl
      have KF : Hid (∀ W, Below wr.heap.size wr W → Calls Tryz.prog 89 #[.agg #[.int .i64 y.k, .int .i64 y.op, .int .i64 y.t, .int .i64 y.v, .string y.nm, .slice y.A y.ar.length y.c]] W (Bel (.bool (formedP y.k y.op y.t y.v y.ar.length (wok y.nm) && onlyP y.k y.op y.t y.v (y.nm.toList == []))) W)) := Lib.hid fun W h => by
        have := rform_any y (wok y.nm) W (fun hk => Lib.hid fun W' h' => ((HN.out y hm).1 hk).out W' (bel_step (HBR.out.trans (h.mono HBR.out.size)) h'))
        rwa [form_one] at this
      have KN := Lib.hid (fun W => named_any y.k W)
      have KI : hasIdn y.k = true → Hid (∀ W, Below wr.heap.size wr W → Calls Tryz.prog 83 #[.string y.nm] W (Bel (.bool (idP y.nm)) W)) := fun hi => Lib.hid fun W h => ((HN.out y hm).2 hi).out W (HBR.out.trans (h.mono HBR.out.size))
      have hc1 : chk1 wok y = if 64 < y.ar.length then 3 else if (formedP y.k y.op y.t y.v y.ar.length (wok y.nm) && onlyP y.k y.op y.t y.v (y.nm.toList == [])) = false then 5 else if (hasIdn y.k && !idP y.nm) = true then 6 else 0 := rfl
      generalize (formedP y.k y.op y.t y.v y.ar.length (wok y.nm) && onlyP y.k y.op y.t y.v (y.nm.toList == [])) = bf at KF hc1
      generalize idP y.nm = bi at KI hc1
      generalize hasIdn y.k = bn at KI KN hc1
      have HC : Hid (∀ W, Below wr.heap.size wr W → XC W (ad.add (k * 6)) y) := Lib.hid fun W h => (show XC wr (ad.add (k * 6)) y from ⟨c0, c1, c2, c3, c4, c5⟩).keep fun p hp => h.cell (by rw [hp, add_block]; exact had)
      clear hy hm hno HN HAL HV
      by_cases h64 : 64 < y.ar.length
      · rw [if_pos h64] at hc1
        have u3 : (64 : Int) < (y.ar.length : Int) := by omega
        have hv := H1.out (by rw [hc1]; decide)
        rw [hc1] at hv
        clear hc1 H1 H2
        go_wp2
        go_ret
        exact ⟨by rw [← hv]; rfl, HBR.out⟩
      rw [if_neg h64] at hc1
      have u3 : (y.ar.length : Int) ≤ 64 := by omega
      cases bf
      · rw [if_pos rfl] at hc1
        have hv := H1.out (by rw [hc1]; decide)
        rw [hc1] at hv
        clear hc1 H1 H2
        go_wp2_with (go_at_call 89; (with_reducible refine (KF.out _ ?_).mono ?_); (focus ((repeat (first | (with_reducible exact Below.refl _ _) | (with_reducible assumption) | (with_reducible exact bel_box _) | (with_reducible refine bel_step ?_ (by with_reducible assumption)) | (with_reducible refine Below.drew ?_) | (with_reducible refine below_drewN ?_ _) | (with_reducible refine bel_alloc ?_ _))); done)); rintro e w5 ⟨rfl, hb5⟩)
        go_ret
        exact ⟨by rw [← hv]; rfl, HBR.out.trans (Below.mono (by repeat (first | (with_reducible exact Below.refl _ _) | (with_reducible assumption) | (with_reducible exact bel_box _) | (with_reducible refine bel_step ?_ (by with_reducible assumption)) | (with_reducible refine Below.drew ?_) | (with_reducible refine below_drewN ?_ _) | (with_reducible refine bel_alloc ?_ _))) HBR.out.size)⟩
      rw [if_neg (by simp)] at hc1
      cases bn
      · rw [Bool.false_and, if_neg (by simp)] at hc1
        have N := Lib.hid (H2.out hc1)
        clear hc1 H1 H2 KI
        go_wp2_with (first
          | (go_at_call 89; (with_reducible refine (KF.out _ ?_).mono ?_); (focus ((repeat (first | (with_reducible exact Below.refl _ _) | (with_reducible assumption) | (with_reducible exact bel_box _) | (with_reducible refine bel_step ?_ (by with_reducible assumption)) | (with_reducible refine Below.drew ?_) | (with_reducible refine below_drewN ?_ _) | (with_reducible refine bel_alloc ?_ _))); done)); rintro e w5 ⟨rfl, hb5⟩; obtain ⟨e0, e1, e2, e3, e4, e5⟩ := HC.out w5 (by repeat (first | (with_reducible exact Below.refl _ _) | (with_reducible assumption) | (with_reducible exact bel_box _) | (with_reducible refine bel_step ?_ (by with_reducible assumption)) | (with_reducible refine Below.drew ?_) | (with_reducible refine below_drewN ?_ _) | (with_reducible refine bel_alloc ?_ _))))
          | (go_at_call 90; (with_reducible refine (KN.out _).mono ?_); rintro e w6 ⟨rfl, hb6⟩))
        exact ⟨⟨k + 1, by omega, by congr 1, (by repeat (first | (with_reducible exact Below.refl _ _) | (with_reducible assumption) | (with_reducible exact bel_box _) | (with_reducible refine bel_step ?_ (by with_reducible assumption)) | (with_reducible refine Below.drew ?_) | (with_reducible refine below_drewN ?_ _) | (with_reducible refine bel_alloc ?_ _))), N⟩, by simp [intOf]; omega⟩
      have KI2 := KI rfl
      rw [Bool.true_and] at hc1
      cases bi
      · rw [if_pos (by simp)] at hc1
        have hv := H1.out (by rw [hc1]; decide)
        rw [hc1] at hv
        clear hc1 H1 H2 KI
        go_wp2_with (first
          | (go_at_call 89; (with_reducible refine (KF.out _ ?_).mono ?_); (focus ((repeat (first | (with_reducible exact Below.refl _ _) | (with_reducible assumption) | (with_reducible exact bel_box _) | (with_reducible refine bel_step ?_ (by with_reducible assumption)) | (with_reducible refine Below.drew ?_) | (with_reducible refine below_drewN ?_ _) | (with_reducible refine bel_alloc ?_ _))); done)); rintro e w5 ⟨rfl, hb5⟩; obtain ⟨e0, e1, e2, e3, e4, e5⟩ := HC.out w5 (by repeat (first | (with_reducible exact Below.refl _ _) | (with_reducible assumption) | (with_reducible exact bel_box _) | (with_reducible refine bel_step ?_ (by with_reducible assumption)) | (with_reducible refine Below.drew ?_) | (with_reducible refine below_drewN ?_ _) | (with_reducible refine bel_alloc ?_ _))))
          | (go_at_call 90; (with_reducible refine (KN.out _).mono ?_); rintro e w6 ⟨rfl, hb6⟩; obtain ⟨g0, g1, g2, g3, g4, g5⟩ := HC.out w6 (by repeat (first | (with_reducible exact Below.refl _ _) | (with_reducible assumption) | (with_reducible exact bel_box _) | (with_reducible refine bel_step ?_ (by with_reducible assumption)) | (with_reducible refine Below.drew ?_) | (with_reducible refine below_drewN ?_ _) | (with_reducible refine bel_alloc ?_ _))))
          | (go_at_call 83; (with_reducible refine (KI2.out _ ?_).mono ?_); (focus ((repeat (first | (with_reducible exact Below.refl _ _) | (with_reducible assumption) | (with_reducible exact bel_box _) | (with_reducible refine bel_step ?_ (by with_reducible assumption)) | (with_reducible refine Below.drew ?_) | (with_reducible refine below_drewN ?_ _) | (with_reducible refine bel_alloc ?_ _))); done)); rintro e w7 ⟨rfl, hb7⟩))
        go_ret
        exact ⟨by rw [← hv]; rfl, HBR.out.trans (Below.mono (by repeat (first | (with_reducible exact Below.refl _ _) | (with_reducible assumption) | (with_reducible exact bel_box _) | (with_reducible refine bel_step ?_ (by with_reducible assumption)) | (with_reducible refine Below.drew ?_) | (with_reducible refine below_drewN ?_ _) | (with_reducible refine bel_alloc ?_ _))) HBR.out.size)⟩
      · rw [if_neg (by simp)] at hc1
        have N := Lib.hid (H2.out hc1)
        clear hc1 H1 H2 KI
        go_wp2_with (first
          | (go_at_call 89; (with_reducible refine (KF.out _ ?_).mono ?_); (focus ((repeat (first | (with_reducible exact Below.refl _ _) | (with_reducible assumption) | (with_reducible exact bel_box _) | (with_reducible refine bel_step ?_ (by with_reducible assumption)) | (with_reducible refine Below.drew ?_) | (with_reducible refine below_drewN ?_ _) | (with_reducible refine bel_alloc ?_ _))); done)); rintro e w5 ⟨rfl, hb5⟩; obtain ⟨e0, e1, e2, e3, e4, e5⟩ := HC.out w5 (by repeat (first | (with_reducible exact Below.refl _ _) | (with_reducible assumption) | (with_reducible exact bel_box _) | (with_reducible refine bel_step ?_ (by with_reducible assumption)) | (with_reducible refine Below.drew ?_) | (with_reducible refine below_drewN ?_ _) | (with_reducible refine bel_alloc ?_ _))))
          | (go_at_call 90; (with_reducible refine (KN.out _).mono ?_); rintro e w6 ⟨rfl, hb6⟩; obtain ⟨g0, g1, g2, g3, g4, g5⟩ := HC.out w6 (by repeat (first | (with_reducible exact Below.refl _ _) | (with_reducible assumption) | (with_reducible exact bel_box _) | (with_reducible refine bel_step ?_ (by with_reducible assumption)) | (with_reducible refine Below.drew ?_) | (with_reducible refine below_drewN ?_ _) | (with_reducible refine bel_alloc ?_ _))))
          | (go_at_call 83; (with_reducible refine (KI2.out _ ?_).mono ?_); (focus ((repeat (first | (with_reducible exact Below.refl _ _) | (with_reducible assumption) | (with_reducible exact bel_box _) | (with_reducible refine bel_step ?_ (by with_reducible assumption)) | (with_reducible refine Below.drew ?_) | (with_reducible refine below_drewN ?_ _) | (with_reducible refine bel_alloc ?_ _))); done)); rintro e w7 ⟨rfl, hb7⟩))
        exact ⟨⟨k + 1, by omega, by congr 1, (by repeat (first | (with_reducible exact Below.refl _ _) | (with_reducible assumption) | (with_reducible exact bel_box _) | (with_reducible refine bel_step ?_ (by with_reducible assumption)) | (with_reducible refine Below.drew ?_) | (with_reducible refine below_drewN ?_ _) | (with_reducible refine bel_alloc ?_ _))), N⟩, by simp [intOf]; omega⟩
    · obtain rfl : k = l.length := by omega
      have h1 := hno.out
      rw [List.take_length] at h1
      have hv := (firstE_ok h1).symm.trans HV.out
      clear h1 hno
      go_wp2
      go_ret
      exact ⟨by rw [← hv]; rfl, HBR.out⟩
end Go.Proofs.YthlapepjebidgaaGreatDoor
/- The frame of a law's row: a call that returns true and leaves the old blocks alone meets the row; arguments that are slices of bools are opened. -/
namespace Go.Proofs.YthlapepjebidgaaGreatDoor
set_option linter.unusedVariables false
set_option linter.unusedSimpArgs false
open Go.ChangeShapes Go.WideShapes Go.ChangeAt Go.RowKit Go.Deep
def Tru (w : World) (e : Ending) (w' : World) : Prop := e = .returned (.bool true) ∧ Below w.heap.size w w'
section
variable {H : Type} {enc : TypeId × Value → H} {P : Program}
theorem trodAll_below (hl : laidOutB P = true) {W W' : World} (hb : Below W.heap.size W W') : ∀ {ts : List TypeId} {vs : List Value} {ds : List (DataW H)} {ps : List MemPlace},
    (∀ t ∈ ts, P.readableRec t = true ∧ t < P.types.size) → DataW.TrodAll enc P W 0 (fun _ => true) true ts vs ds ps → (∀ x ∈ ps, x.block < W.heap.size) →
    DataW.TrodAll enc P W' 0 (fun b => decide (b < W.heap.size)) true ts vs ds ps := by
  intro ts
  induction ts with
  | nil => intro vs ds ps _ h _; cases vs <;> cases ds <;> simp_all [DataW.TrodAll]
  | cons t ts ih =>
    intro vs ds ps ht h hlt
    match vs, ds, h with
    | v :: vs, d :: ds, ⟨p, q, h1, h2, e⟩ =>
      subst e
      obtain ⟨hr, hs⟩ := ht t (by simp)
      exact ⟨p, q, Below.trod hl hr hs h1 hb (fun x hx => hlt x (by simp [hx])), ih (fun u hu => ht u (by simp [hu])) h2 (fun x hx => hlt x (by simp [hx])), rfl⟩
theorem law_post {f : Func} {s : ChangeSpec} {W W' : World} {args : Array Value} {ds gs : List (DataW H)} {before : List MemPlace} {tb : TypeId}
    (hW : DataW.Whole enc P f.params.toList s.vars false W args.toList ds gs before) (hv : s.vars = [])
    (hs : (s.fn H (ds ++ gs)).results = [.lit (.bool true)] ∧ (s.fn H (ds ++ gs)).args = ds ∧ (s.fn H (ds ++ gs)).vars = [])
    (hf : f.resultTypes = #[tb]) (htb : P.underlying tb = some .bool) (hl : laidOutB P = true) (hts : ∀ t ∈ f.params.toList, P.readableRec t = true ∧ t < P.types.size)
    (hb : Below W.heap.size W W') : s.post enc P f false true false false W args (.bool true) W' := by
  have hW' := hW
  obtain ⟨p, q, hA, hV, rfl, _, _⟩ := hW
  rw [hv] at hV
  obtain ⟨rfl, rfl⟩ := trodVars_none hV
  refine ⟨ds, [], p ++ [], [], p, [], hW', ?_, ?_, ?_, hb.frame _, fun h => by cases h⟩
  · rw [hs.1, hf]
    exact trodAll_mk1 (shut_bool htb true)
  · rw [hs.2.1]
    exact trodAll_below hl hb hts hA (fun x hx => hW'.lt x (by simp [hx]))
  · rw [hv, hs.2.2]
    rfl
/-- a slice of bools, opened -/
theorem open_bls {w : World} {held : Bool} {base : Nat} {t e : TypeId} {fuel : Nat} {v : Value} {x : DataW H × List MemPlace} (ht : P.underlying t = some (.slice e)) (he : P.underlying e = some .bool) (hc : P.cellsOf e = 1)
    (h : DataW.trod enc P w base (fun _ => true) held fuel t [v] = some x) :
    ∃ (A : Option Addr) (l : List Bool) (c : Nat), v = .slice A l.length c ∧ Rd w w.heap.size A (bls l) ∧ l.length ≤ 9223372036854775807 := by
  rcases open_slice1 ht hc h with ⟨hcs, _⟩ | ⟨a, len, cap, m, n, V, D, Pl, hcs, _, hl, hm, hmm, _, hx⟩
  · simp only [List.cons.injEq, and_true] at hcs
    exact ⟨none, [], 0, hcs, Rd.nil _ _ _, by simp⟩
  · simp only [List.cons.injEq, and_true] at hcs
    have hmc : m = cap := by simpa using hmm
    refine ⟨some a, (List.range len).map fun i => match V i with | .bool b => b | _ => false, cap, by simp [hcs], ?_, by simp only [List.length_map, List.length_range, maxLen] at *; omega⟩
    have key : ∀ i, i < len → w.cell? (a.add i) = some (.bool (match V i with | .bool b => b | _ => false)) := by
      intro i hi
      obtain ⟨h1, h2⟩ := hx i (by omega)
      obtain ⟨b, hb, _⟩ := DataW.trod_bool he h2
      simp only [List.cons.injEq, and_true] at hb
      rw [h1, hb]
    intro hne
    refine ⟨a, rfl, ?_, ?_⟩
    · have h0 : 0 < len := by
        rcases Nat.eq_zero_or_pos len with h | h
        · subst h; simp [bls] at hne
        · exact h
      have := World.block_lt_of_cell? w _ (key 0 h0)
      rwa [add_block] at this
    · intro j u hu
      have hj : j < len := by
        have := (List.getElem?_eq_some_iff.1 hu).1
        simpa [bls] using this
      rw [key j hj]
      simpa [bls, hj] using hu
end
end Go.Proofs.YthlapepjebidgaaGreatDoor
/- An argument that is an expression, opened: a tree that lies in memory. -/
namespace Go.Proofs.YthlapepjebidgaaGreatDoor
set_option linter.unusedVariables false
set_option linter.unusedSimpArgs false
open Go.ChangeShapes Go.WideShapes Go.ChangeAt Go.RowKit Go.Deep Go.WideElems
theorem choose_list {α : Type} {p : Nat → α → Prop} : ∀ n, (∀ i, i < n → ∃ e, p i e) → ∃ l : List α, l.length = n ∧ ∀ i e, l[i]? = some e → p i e := by
  intro n
  induction n with
  | zero => exact fun _ => ⟨[], rfl, fun i e h => by simp at h⟩
  | succ n ih =>
    intro h
    obtain ⟨l, hl, hp⟩ := ih fun i hi => h i (by omega)
    obtain ⟨e, he⟩ := h n (by omega)
    refine ⟨l ++ [e], by simp [hl], fun i x hx => ?_⟩
    rcases Nat.lt_or_ge i n with hi | hi
    · exact hp i x (by rwa [List.getElem?_append_left (by omega)] at hx)
    · rw [List.getElem?_append_right (by omega)] at hx
      have hi2 : i = n := by
        have := (List.getElem?_eq_some_iff.1 hx).1
        simp at this
        omega
      subst hi2
      rw [hl, Nat.sub_self] at hx
      obtain rfl : e = x := by simpa using hx
      exact he
/-- names are no longer than what a machine holds -/
def NmB (x : Xt) : Prop := ∀ y ∈ x.list, y.nm.size ≤ 140737488351232
theorem NmB.kid {x y : Xt} (h : NmB x) (hy : y ∈ x.ar) : NmB y := fun z hz => h z (by rw [Xt.list_eq]; exact List.mem_cons.2 (.inr (List.mem_flatten.2 ⟨_, List.mem_map_of_mem hy, hz⟩)))
section
variable {H : Type} {enc : TypeId × Value → H} {P : Program} {w : World} {held : Bool}
theorem mem_wAll {e : TypeId} {l : List (DataW H)} {d : DataW H} (hd : d ∈ l) : ∀ n ∈ d.weights P e, n ∈ DataW.weightsAll P e l := by
  induction l with
  | nil => cases hd
  | cons a l ih =>
    intro n hn
    rw [DataW.weightsAll]
    rcases List.mem_cons.1 hd with rfl | hd
    · exact List.mem_append_left _ hn
    · exact List.mem_append_right _ (ih hd n hn)
theorem rd_expr {T : TypeId} {f0 f1 f2 f3 f4 f5 : Field} (hT : P.underlying T = some (.struct #[f0, f1, f2, f3, f4, f5])) (ce : P.cellsOf T = 6)
    (o0 : f0.offset = 0) (o1 : f1.offset = 1) (o2 : f2.offset = 2) (o3 : f3.offset = 3) (o4 : f4.offset = 4) (o5 : f5.offset = 5)
    (c0 : P.cellsOf f0.type = 1) (c1 : P.cellsOf f1.type = 1) (c2 : P.cellsOf f2.type = 1) (c3 : P.cellsOf f3.type = 1) (c4 : P.cellsOf f4.type = 1) (c5 : P.cellsOf f5.type = 1)
    (i0 : P.underlying f0.type = some (.int .i64)) (i1 : P.underlying f1.type = some (.int .i64)) (i2 : P.underlying f2.type = some (.int .i64)) (i3 : P.underlying f3.type = some (.int .i64)) (i4 : P.underlying f4.type = some .string) (i5 : P.underlying f5.type = some (.slice T)) :
    ∀ (fuel : Nat) (cs : List Value) (x : DataW H × List MemPlace), DataW.trod enc P w 0 (fun _ => true) held fuel T cs = some x → (∀ n ∈ x.1.weights P T, n ≤ reachBytes) →
      ∃ e : Xt, cs = [.int .i64 e.k, .int .i64 e.op, .int .i64 e.t, .int .i64 e.v, .string e.nm, .slice e.A e.ar.length e.c] ∧ RdX w w.heap.size e ∧ NmB e := by
  intro fuel
  induction fuel using Nat.strongRecOn with
  | ind fuel ih =>
    intro cs x h hw
    obtain ⟨xs, k, hk, hxy, hlen, hxl, hf⟩ := DataW.trod_struct hT h
    rw [ce] at hlen
    match xs, hxl, cs, hlen with
    | [y0, y1, y2, y3, y4, y5], _, [v0, v1, v2, v3, v4, v5], _ =>
      have g0 := hf 0 f0 rfl
      have g1 := hf 1 f1 rfl
      have g2 := hf 2 f2 rfl
      have g3 := hf 3 f3 rfl
      have g4 := hf 4 f4 rfl
      have g5 := hf 5 f5 rfl
      simp [o0, o1, o2, o3, o4, o5, c0, c1, c2, c3, c4, c5] at g0 g1 g2 g3 g4 g5
      obtain ⟨n0, z0, _⟩ := DataW.trod_int i0 g0
      obtain ⟨n1, z1, _⟩ := DataW.trod_int i1 g1
      obtain ⟨n2, z2, _⟩ := DataW.trod_int i2 g2
      obtain ⟨n3, z3, _⟩ := DataW.trod_int i3 g3
      obtain ⟨s, z4, zy4, hs⟩ := DataW.trod_string i4 g4
      simp only [List.cons.injEq, and_true] at z0 z1 z2 z3 z4
      subst z0; subst z1; subst z2; subst z3; subst z4
      subst hxy
      have hwe : DataW.weights P T (.agg [y0.1, y1.1, y2.1, y3.1, y4.1, y5.1]) = y0.1.weights P f0.type ++ (y1.1.weights P f1.type ++ (y2.1.weights P f2.type ++ (y3.1.weights P f3.type ++ (y4.1.weights P f4.type ++ (y5.1.weights P f5.type ++ []))))) := by
        simp [DataW.weights, DataW.weightsEach, hT]
      have hw4 : ∀ n ∈ y4.1.weights P f4.type, n ≤ reachBytes := fun n hn => hw n (by simp only [List.map_cons, List.map_nil]; rw [hwe]; simp [hn])
      have hw5 : ∀ n ∈ y5.1.weights P f5.type, n ≤ reachBytes := fun n hn => hw n (by simp only [List.map_cons, List.map_nil]; rw [hwe]; simp [hn])
      have hs2 : s.size ≤ 140737488351232 := by
        have := hw4 s.data.toList.length (by rw [zy4]; simp [DataW.weights])
        rw [Array.length_toList] at this
        exact this
      rcases DataW.trod_slice i5 g5 with ⟨hv, _⟩ | ⟨a, len, cap, elems, rest, n, hkn, hv, hx0, _, hl, hm, hel, hx, _, _⟩
      · simp only [List.cons.injEq, and_true] at hv
        subst hv
        refine ⟨.mk n0 n1 n2 n3 s none 0 [], rfl, .mk _ (fun h => absurd rfl h) (fun ad i y h => by cases h) (fun y h => by cases h) ⟨⟨by simp [Xt.ar], hs⟩, Nat.le_refl _⟩, fun y hy => ?_⟩
        rw [Xt.list_eq] at hy
        obtain rfl := List.mem_singleton.1 (show y ∈ [Xt.mk n0 n1 n2 n3 s none 0 []] from hy)
        exact hs2
      · simp only [List.cons.injEq, and_true] at hv
        subst hv
        have key : ∀ i, i < len → ∃ e : Xt, XC w (a.add (i * 6)) e ∧ RdX w w.heap.size e ∧ NmB e := by
          intro i hi
          have h1 := hx i hi
          rw [ce, List.getElem?_eq_getElem (by omega)] at h1
          obtain ⟨cs', h2, h3⟩ := Option.bind_eq_some_iff.1 h1
          obtain ⟨_, hlen', hcell⟩ := World.cells?_some h2
          obtain ⟨e, he, hR, hN⟩ := ih n (by omega) cs' _ h3 fun m hm => hw5 m (by
            rw [hx0]
            simp only [DataW.weights, i5, List.mem_cons, List.mem_append]
            exact .inr (.inl (mem_wAll (List.mem_map_of_mem (List.getElem_mem (by omega))) m hm)))
          subst he
          refine ⟨e, ⟨?_, ?_, ?_, ?_, ?_, ?_⟩, hR, hN⟩
          · have := hcell 0 (by decide); rw [add_add] at this; simpa using this
          · have := hcell 1 (by decide); generalize a.add (i * 6) = b at this ⊢; simpa [Addr.add] using this
          · have := hcell 2 (by decide); generalize a.add (i * 6) = b at this ⊢; simpa [Addr.add] using this
          · have := hcell 3 (by decide); generalize a.add (i * 6) = b at this ⊢; simpa [Addr.add] using this
          · have := hcell 4 (by decide); generalize a.add (i * 6) = b at this ⊢; simpa [Addr.add] using this
          · have := hcell 5 (by decide); generalize a.add (i * 6) = b at this ⊢; simpa [Addr.add] using this
        obtain ⟨l, hll, hp⟩ := choose_list len key
        refine ⟨.mk n0 n1 n2 n3 s (some a) cap l, by rw [show (Xt.mk n0 n1 n2 n3 s (some a) cap l).ar.length = len from hll]; rfl, .mk _ (fun hne => ⟨a, rfl, ?_⟩) (fun ad i y hA hy => ?_) (fun y hy => ?_) ⟨⟨?_, hs⟩, ?_⟩, fun y hy => ?_⟩
        · have hne2 : l ≠ [] := hne
          have h0 : 0 < l.length := List.length_pos_iff.2 hne2
          have := World.block_lt_of_cell? w _ (hp 0 _ (List.getElem?_eq_getElem h0)).1.1
          rwa [add_block] at this
        · obtain rfl : a = ad := Option.some.inj hA
          exact (hp i y hy).1
        · obtain ⟨j, hj⟩ := List.getElem?_of_mem (show y ∈ l from hy)
          exact (hp j y hj).2.1
        · show l.length ≤ maxLen
          omega
        · show l.length ≤ cap
          omega
        · rw [Xt.list_eq] at hy
          rcases List.mem_cons.1 hy with rfl | hy
          · exact hs2
          · obtain ⟨q, hq, hyq⟩ := List.mem_flatten.1 hy
            obtain ⟨z, hz, rfl⟩ := List.mem_map.1 hq
            obtain ⟨j, hj⟩ := List.getElem?_of_mem (show z ∈ l from hz)
            exact (hp j z hj).2.2 y hyq
end
end Go.Proofs.YthlapepjebidgaaGreatDoor
/- What the small functions of package bword, and their references, return for every word: Check, letter, At, count, huge. -/
namespace Go.Proofs.YthlapepjebidgaaGreatDoor.bw
set_option linter.unusedVariables false
set_option linter.unusedSimpArgs false
open Go.RowKit
theorem ret_int {k : IntKind} {a b : Int} (h : a = b) : Ending.returned (.int k a) = .returned (.int k b) := by rw [h]
theorem ret_bool {a b : Bool} (h : a = b) : Ending.returned (.bool a) = .returned (.bool b) := by rw [h]
/-- the error of a word -/
def ck (h l : List Bool) : Int := if l.length = 0 then 5 else if h.length + l.length > 64 then 3 else 0
/-- letter i -/
def lt (h l : List Bool) (i : Nat) : Bool := if i < h.length then h[i]?.getD false else l[(i - h.length) % l.length]?.getD false
def cnt (l : List Bool) : Nat := l.count true
theorem lens {h l : List Bool} (hc : ck h l = 0) : 0 < l.length ∧ h.length + l.length ≤ 64 := by
  unfold ck at hc
  split at hc
  · omega
  · split at hc <;> omega
def Bel (v : Value) (w : World) (e : Ending) (w' : World) : Prop := e = .returned v ∧ Below w.heap.size w w'
theorem bel_drew {w : World} (k : Nat) : Below w.heap.size w (w.drewN k) := below_drewN (Below.refl _ _) k
theorem check_any (A B : Option Addr) (c d : Nat) (h l : List Bool) (w : World) (hh : h.length ≤ 140737488355328) (hl : l.length ≤ 140737488355328) :
    Calls Tryz.prog 162 #[.agg #[.slice A h.length c, .slice B l.length d]] w (Bel (.int .i64 (ck h l)) w) := by
  go_enter Tryz.func162, Tryz.ntmps162
  go_wp2
  all_goals go_ret
  all_goals refine ⟨ret_int ?_, bel_box _⟩
  all_goals unfold ck
  · rw [if_pos (by simp_all)]
  · rw [if_neg (by simp_all), if_pos (by omega)]
  · rw [if_neg (by simp_all), if_neg (by omega)]
theorem rcheck_any (A B : Option Addr) (c d : Nat) (h l : List Bool) (w : World) (hh : h.length ≤ 140737488355328) (hl : l.length ≤ 140737488355328) :
    Calls Tryz.prog 156 #[.agg #[.slice A h.length c, .slice B l.length d]] w (Bel (.int .i64 (ck h l)) w) := by
  go_enter Tryz.func156, Tryz.ntmps156
  go_wp2
  all_goals go_ret
  all_goals refine ⟨ret_int ?_, bel_box _⟩
  all_goals unfold ck
  · rw [if_pos (by simp_all)]
  · rw [if_neg (by simp_all), if_pos (by omega)]
  · rw [if_neg (by simp_all), if_neg (by omega)]
def att (h l : List Bool) (i : Int) : Bool := if ck h l = 0 ∧ 0 ≤ i then lt h l i.toNat else false
theorem att_yes {h l : List Bool} {k : Nat} (h1 : ck h l = 0) : att h l k = lt h l k := by rw [att, if_pos ⟨h1, by omega⟩, Int.toNat_natCast]
theorem att_no {h l : List Bool} {i : Int} (h1 : ¬ (ck h l = 0 ∧ 0 ≤ i)) : att h l i = false := by rw [att, if_neg h1]
def cntTo (l : List Bool) (k : Nat) : Nat := cnt (l.take k)
theorem cntTo_succ {l : List Bool} {k : Nat} {b : Bool} (h : l[k]? = some b) : cntTo l (k + 1) = cntTo l k + if b then 1 else 0 := by
  rw [cntTo, take_succ_of h, cnt, List.count_append, cntTo, cnt]
  cases b <;> simp
theorem cntTo_le (l : List Bool) (k : Nat) : cntTo l k ≤ k := by
  rw [cntTo, cnt]
  exact Nat.le_trans List.count_le_length (by simp; omega)
end Go.Proofs.YthlapepjebidgaaGreatDoor.bw
/- Plain mathematics of ultimately periodic words: the normal form by search, and that it hangs on the letters alone. -/
namespace Go.Proofs.YthlapepjebidgaaGreatDoor.bw
set_option linter.unusedVariables false
set_option linter.unusedSimpArgs false
def per (f : Nat → Bool) (h p : Nat) : Prop := ∀ i, h ≤ i → f (i + p) = f i
theorem per_mul {f : Nat → Bool} {h p : Nat} (hp : per f h p) (m : Nat) : per f h (m * p) := by
  intro i hi
  induction m with
  | zero => simp
  | succ m ih => rw [Nat.succ_mul, ← Nat.add_assoc, hp _ (by omega), ih]
theorem per_mono {f : Nat → Bool} {h h' p : Nat} (hp : per f h p) (hh : h ≤ h') : per f h' p := fun i hi => hp i (by omega)
theorem per_mod {f : Nat → Bool} {h p a b : Nat} (hp : per f h p) (ha : h ≤ a) (hb : h ≤ b) (e : a % p = b % p) : f a = f b := by
  rcases Nat.le_total a b with hab | hab
  · obtain ⟨d, rfl⟩ : ∃ d, b = a + d := ⟨b - a, by omega⟩
    have hd : d % p = 0 := by
      have h1 := Nat.sub_mod_eq_zero_of_mod_eq (e.symm)
      rwa [Nat.add_sub_cancel_left] at h1
    have hm := per_mul hp (d / p) a ha
    have e2 : d / p * p = d := by have := Nat.div_add_mod d p; rw [Nat.mul_comm]; omega
    rw [e2] at hm
    exact hm.symm
  · obtain ⟨d, rfl⟩ : ∃ d, a = b + d := ⟨a - b, by omega⟩
    have hd : d % p = 0 := by
      have h1 := Nat.sub_mod_eq_zero_of_mod_eq (e)
      rwa [Nat.add_sub_cancel_left] at h1
    have hm := per_mul hp (d / p) b hb
    have e2 : d / p * p = d := by have := Nat.div_add_mod d p; rw [Nat.mul_comm]; omega
    rw [e2] at hm
    exact hm
/-- a period of the tail is one from where the longer one holds -/
theorem per_back {f : Nat → Bool} {h h0 p L : Nat} (hL : per f h L) (hL0 : 0 < L) (hp : per f h0 p) : per f h p := by
  intro i hi
  have h1 := per_mul hL (h0 + 1) (i + p) (by omega)
  have h2 := per_mul hL (h0 + 1) i hi
  have hge : h0 + 1 ≤ (h0 + 1) * L := Nat.le_mul_of_pos_right _ hL0
  have h3 := hp (i + (h0 + 1) * L) (by omega)
  rw [← h1, ← h2, ← h3]
  congr 1
  omega
/-- below each eventual period there is one that divides L -/
theorem per_dvd {f : Nat → Bool} {h L : Nat} (hL : per f h L) (hL0 : 0 < L) : ∀ (n p h0 : Nat), p ≤ n → 0 < p → per f h0 p → ∃ g, 0 < g ∧ g ≤ p ∧ L % g = 0 ∧ per f h g := by
  intro n
  induction n with
  | zero => intro p h0 h1 h2; omega
  | succ n ih =>
    intro p h0 hn hp0 hp
    have hp' := per_back hL hL0 hp
    rcases Nat.eq_zero_or_pos (L % p) with e | e
    · exact ⟨p, hp0, Nat.le_refl _, e, hp'⟩
    · have hlt := Nat.mod_lt L hp0
      have hg : per f h (L % p) := by
        intro i hi
        have h1 := per_mul hp' (L / p) (i + L % p) (by omega)
        have h2 := hL i hi
        have e2 := Nat.div_add_mod L p
        rw [← h1, ← h2]
        congr 1
        rw [Nat.mul_comm] at e2
        omega
      obtain ⟨g, g1, g2, g3, g4⟩ := ih (L % p) h (by omega) e hg
      exact ⟨g, g1, by omega, g3, g4⟩
def allB (f : Nat → Bool) (a n p : Nat) : Bool := (List.range n).all fun j => f (a + j) == f (a + j + p)
theorem allB_iff {f : Nat → Bool} {a n p : Nat} : allB f a n p = true ↔ ∀ j, j < n → f (a + j) = f (a + j + p) := by simp [allB]
def findP (t : Nat → Bool) : Nat → Nat → Nat
  | 0, p => p
  | n + 1, p => if t p then p else findP t n (p + 1)
theorem findP_spec {t : Nat → Bool} : ∀ (n p q : Nat), p ≤ q → q ≤ p + n → t q = true → t (findP t n p) = true ∧ p ≤ findP t n p ∧ findP t n p ≤ q ∧ ∀ r, p ≤ r → r < findP t n p → t r = false := by
  intro n
  induction n with
  | zero =>
    intro p q h1 h2 h3
    obtain rfl : q = p := by omega
    exact ⟨h3, Nat.le_refl _, Nat.le_refl _, fun r h4 h5 => by simp [findP] at h5; omega⟩
  | succ n ih =>
    intro p q h1 h2 h3
    by_cases ht : t p = true
    · simp only [findP, ht, if_true]
      exact ⟨trivial, Nat.le_refl _, h1, fun r h4 h5 => by omega⟩
    · have hq : p + 1 ≤ q := by
        rcases Nat.lt_or_ge p q with h | h
        · exact h
        · obtain rfl : p = q := by omega
          exact absurd h3 ht
      have hf : t p = false := by simpa using ht
      obtain ⟨a, b, c, d⟩ := ih (p + 1) q hq (by omega) h3
      simp only [findP, hf]
      refine ⟨a, Nat.le_of_succ_le b, c, fun r h4 h5 => ?_⟩
      rcases Nat.lt_or_ge p r with h | h
      · exact d r h h5
      · obtain rfl : r = p := by omega
        exact hf
def tP (f : Nat → Bool) (h L p : Nat) : Bool := L % p == 0 && allB f h L p
def pOf (f : Nat → Bool) (h L : Nat) : Nat := findP (tP f h L) L 1
def down (t : Nat → Bool) : Nat → Nat
  | 0 => 0
  | h + 1 => if t h then down t h else h + 1
def tH (f : Nat → Bool) (p i : Nat) : Bool := f i == f (i + p)
def hOf (f : Nat → Bool) (h p : Nat) : Nat := down (tH f p) h
def nf (f : Nat → Bool) (h L : Nat) : List Bool × List Bool := ((List.range (hOf f h (pOf f h L))).map f, (List.range (pOf f h L)).map fun i => f (hOf f h (pOf f h L) + i))
theorem down_le (t : Nat → Bool) (h : Nat) : down t h ≤ h := by
  induction h with
  | zero => simp [down]
  | succ h ih => simp only [down]; split <;> omega
theorem down_all (t : Nat → Bool) (h : Nat) : ∀ i, down t h ≤ i → i < h → t i = true := by
  induction h with
  | zero => intro i _ h; omega
  | succ h ih =>
    intro i h1 h2
    simp only [down] at h1
    split at h1
    · rename_i ht
      rcases Nat.lt_or_ge i h with h3 | h3
      · exact ih i h1 h3
      · obtain rfl : i = h := by omega
        exact ht
    · omega
theorem down_stop (t : Nat → Bool) (h : Nat) : 0 < down t h → t (down t h - 1) = false := by
  induction h with
  | zero => intro h; simp [down] at h
  | succ h ih =>
    intro h1
    simp only [down] at h1 ⊢
    split
    · rename_i ht
      rw [if_pos ht] at h1
      exact ih h1
    · rename_i ht
      simpa using ht
theorem tP_self {f : Nat → Bool} {h L : Nat} (hL : per f h L) : tP f h L L = true := by
  simp only [tP, Nat.mod_self, Bool.and_eq_true, beq_self_eq_true, true_and, allB_iff]
  exact fun j _ => (hL (h + j) (by omega)).symm
theorem tP_per {f : Nat → Bool} {h L p : Nat} (hL : per f h L) (hL0 : 0 < L) (ht : tP f h L p = true) : L % p = 0 ∧ per f h p := by
  simp only [tP, Bool.and_eq_true, beq_iff_eq, allB_iff] at ht
  refine ⟨ht.1, fun i hi => ?_⟩
  obtain ⟨x, rfl⟩ : ∃ x, i = h + x := ⟨i - h, by omega⟩
  have e := ht.2 (x % L) (Nat.mod_lt _ hL0)
  have h1 : f (h + x % L) = f (h + x) := by
    have := per_mul hL (x / L) (h + x % L) (by omega)
    rw [← this]; congr 1
    have := Nat.div_add_mod x L
    rw [Nat.mul_comm] at this
    omega
  have h2 : f (h + x % L + p) = f (h + x + p) := by
    have := per_mul hL (x / L) (h + x % L + p) (by omega)
    rw [← this]; congr 1
    have := Nat.div_add_mod x L
    rw [Nat.mul_comm] at this
    omega
  rw [← h1, e, h2]
theorem pOf_spec {f : Nat → Bool} {h L : Nat} (hL : per f h L) (hL0 : 0 < L) : 0 < pOf f h L ∧ pOf f h L ≤ L ∧ L % pOf f h L = 0 ∧ per f h (pOf f h L) ∧ ∀ p h0, 0 < p → per f h0 p → pOf f h L ≤ p := by
  obtain ⟨a, b, c, d⟩ := findP_spec (t := tP f h L) L 1 L (by omega) (by omega) (tP_self hL)
  obtain ⟨e1, e2⟩ := tP_per hL hL0 a
  refine ⟨b, c, e1, e2, fun p h0 hp0 hp => ?_⟩
  obtain ⟨g, g1, g2, g3, g4⟩ := per_dvd hL hL0 p p h0 (Nat.le_refl _) hp0 hp
  have ht : tP f h L g = true := by
    simp only [tP, Bool.and_eq_true, beq_iff_eq, allB_iff]
    exact ⟨g3, fun j _ => (g4 (h + j) (by omega)).symm⟩
  rcases Nat.lt_or_ge g (pOf f h L) with h1 | h1
  · have := d g g1 h1
    rw [ht] at this
    cases this
  · exact Nat.le_trans h1 g2
theorem hOf_spec {f : Nat → Bool} {h p : Nat} (hp : per f h p) : hOf f h p ≤ h ∧ per f (hOf f h p) p ∧ ∀ k, per f k p → hOf f h p ≤ k := by
  refine ⟨down_le _ _, fun i hi => ?_, fun k hk => ?_⟩
  · rcases Nat.lt_or_ge i h with h1 | h1
    · have := down_all (tH f p) h i hi h1
      simp only [tH, beq_iff_eq] at this
      exact this.symm
    · exact hp i h1
  · rcases Nat.lt_or_ge k (hOf f h p) with h1 | h1
    · have h2 := down_stop (tH f p) h (by unfold hOf at h1; omega)
      have h3 := hk (hOf f h p - 1) (by omega)
      simp only [tH, beq_eq_false_iff_ne, ne_eq] at h2
      exact absurd h3.symm h2
    · exact h1
/-- the normal form hangs on the letters alone -/
theorem nf_eq {f f' : Nat → Bool} {h L h' L' : Nat} (hL : per f h L) (hL0 : 0 < L) (hL' : per f' h' L') (hL0' : 0 < L') (e : ∀ i, f i = f' i) : nf f h L = nf f' h' L' := by
  obtain rfl : f = f' := funext e
  obtain ⟨a1, a2, a3, a4, a5⟩ := pOf_spec hL hL0
  obtain ⟨b1, b2, b3, b4, b5⟩ := pOf_spec hL' hL0'
  have ep : pOf f h L = pOf f h' L' := Nat.le_antisymm (a5 _ _ b1 b4) (b5 _ _ a1 a4)
  obtain ⟨c1, c2, c3⟩ := hOf_spec a4
  obtain ⟨d1, d2, d3⟩ := hOf_spec b4
  have eh : hOf f h (pOf f h L) = hOf f h' (pOf f h' L') := Nat.le_antisymm (c3 _ (by rw [ep]; exact d2)) (d3 _ (by rw [← ep]; exact c2))
  unfold nf
  rw [eh, ep]
theorem nf_congr {f f' : Nat → Bool} {h L : Nat} (hL0 : 0 < L) (hL : per f h L) (e : ∀ i, i < h + 2 * L → f i = f' i) : nf f h L = nf f' h L := by
  have hall : ∀ p, p ≤ L → allB f h L p = allB f' h L p := by
    intro p hp
    rw [Bool.eq_iff_iff, allB_iff, allB_iff]
    constructor
    · intro hh j hj; rw [← e _ (by omega), ← e _ (by omega)]; exact hh j hj
    · intro hh j hj; rw [e _ (by omega), e _ (by omega)]; exact hh j hj
  have ht : ∀ p, p ≤ L → tP f h L p = tP f' h L p := fun p hp => by rw [tP, tP, hall p hp]
  have hfp : ∀ n p, p + n ≤ L + 1 → findP (tP f h L) n p ≤ L + 1 ∧ findP (tP f h L) n p = findP (tP f' h L) n p := by
    intro n
    induction n with
    | zero => intro p hp; exact ⟨by simp [findP]; omega, rfl⟩
    | succ n ih =>
      intro p hp
      obtain ⟨i1, i2⟩ := ih (p + 1) (by omega)
      simp only [findP, ← ht p (by omega)]
      split
      · exact ⟨by omega, rfl⟩
      · exact ⟨i1, i2⟩
  have ep : pOf f h L = pOf f' h L := (hfp L 1 (by omega)).2
  have hpl := (pOf_spec hL hL0).2.1
  have hd : ∀ k, k ≤ h → down (tH f (pOf f h L)) k = down (tH f' (pOf f h L)) k := by
    intro k
    induction k with
    | zero => intro _; rfl
    | succ k ih =>
      intro hk
      have : tH f (pOf f h L) k = tH f' (pOf f h L) k := by rw [tH, tH, e _ (by omega), e _ (by omega)]
      simp only [down, this, ih (by omega)]
  have eh : hOf f h (pOf f h L) = hOf f' h (pOf f h L) := hd h (Nat.le_refl _)
  have hle : hOf f h (pOf f h L) ≤ h := down_le _ _
  unfold nf
  rw [← ep, ← eh]
  congr 1
  · apply List.map_congr_left; intro i hi; exact e i (by have := List.mem_range.1 hi; omega)
  · apply List.map_congr_left; intro i hi; exact e _ (by have := List.mem_range.1 hi; omega)
/-- the letters of a word repeat -/
theorem per_lt (h l : List Bool) : per (lt h l) h.length l.length := by
  intro i hi
  rw [lt, lt, if_neg (by omega), if_neg (by omega)]
  congr 2
  rw [show i + l.length - h.length = i - h.length + l.length by omega, Nat.add_mod_right]
/-- the normal form has the letters -/
theorem lt_nf {f : Nat → Bool} {h L : Nat} (hL : per f h L) (hL0 : 0 < L) (i : Nat) : lt (nf f h L).1 (nf f h L).2 i = f i := by
  obtain ⟨a1, a2, a3, a4, a5⟩ := pOf_spec hL hL0
  obtain ⟨c1, c2, c3⟩ := hOf_spec a4
  unfold nf
  generalize pOf f h L = p at *
  generalize hOf f h p = k at *
  unfold lt
  simp only [List.length_map, List.length_range]
  split
  · rename_i hi; simp [hi]
  · rename_i hi
    have hm := Nat.mod_lt (i - k) a1
    simp only [List.getElem?_map, List.getElem?_range hm, Option.map_some, Option.getD_some]
    apply per_mod c2 (by omega) (by omega)
    rw [Nat.add_mod_mod]
    congr 1
    omega
theorem nf_len {f : Nat → Bool} {h L : Nat} (hL : per f h L) (hL0 : 0 < L) : (nf f h L).1.length ≤ h ∧ 0 < (nf f h L).2.length ∧ (nf f h L).2.length ≤ L := by
  obtain ⟨a1, a2, a3, a4, a5⟩ := pOf_spec hL hL0
  obtain ⟨c1, c2, c3⟩ := hOf_spec a4
  simp only [nf, List.length_map, List.length_range]
  exact ⟨c1, a1, a2⟩
/-- the normal form of a word -/
def nfw (h l : List Bool) : List Bool × List Bool := nf (lt h l) h.length l.length
end Go.Proofs.YthlapepjebidgaaGreatDoor.bw
/- repeats and period of package bword, and repeats of the reference. -/
namespace Go.Proofs.YthlapepjebidgaaGreatDoor.bw
set_option linter.unusedVariables false
set_option linter.unusedSimpArgs false
open Go.RowKit
def Drw (v : Value) (w : World) (e : Ending) (w' : World) : Prop := e = .returned v ∧ ∃ k, w' = w.drewN k
def gb (l : List Bool) (i : Nat) : Bool := l[i]?.getD false
def repTo (l : List Bool) (n k : Nat) : Bool := (List.range k).all fun i => gb l i == gb l (i + n)
def repB (l : List Bool) (n : Nat) : Bool := repTo l n (l.length - n)
theorem repTo_succ (l : List Bool) (n k : Nat) : repTo l n (k + 1) = (repTo l n k && (gb l k == gb l (k + n))) := by simp [repTo, List.range_succ]
theorem repTo_false {l : List Bool} {n k m : Nat} (hk : k < m) (h : (gb l k == gb l (k + n)) = false) : repTo l n m = false := by
  rw [repTo, List.all_eq_false]
  exact ⟨k, List.mem_range.2 hk, by simpa using h⟩
theorem gb_of {l : List Bool} {i : Nat} {b : Bool} (h : l[i]? = some b) : gb l i = b := by rw [gb, h]; rfl
/-- the period of a loop -/
def pl (l : List Bool) : Nat := pOf (lt [] l) 0 l.length
theorem lt_nil (l : List Bool) (i : Nat) : lt [] l i = gb l (i % l.length) := by simp [lt, gb]
theorem rep_mod {l : List Bool} {n : Nat} (hn : 0 < n) (hr : ∀ j, j < l.length - n → gb l j = gb l (j + n)) : ∀ m j, j ≤ m → j < l.length → gb l j = gb l (j % n) := by
  intro m
  induction m with
  | zero => intro j h1 h2; obtain rfl : j = 0 := by omega
            simp
  | succ m ih =>
    intro j h1 h2
    rcases Nat.lt_or_ge j n with h | h
    · rw [Nat.mod_eq_of_lt h]
    · have h3 := hr (j - n) (by omega)
      rw [show j - n + n = j by omega] at h3
      rw [← h3, ih (j - n) (by omega) (by omega), Nat.mod_eq_sub_mod h]
theorem tP_rep {l : List Bool} {n : Nat} (hn : 0 < n) (hnl : n < l.length) : tP (lt [] l) 0 l.length n = (l.length % n == 0 && repB l n) := by
  rw [tP]
  by_cases hd : l.length % n = 0
  · simp only [hd, beq_self_eq_true, Bool.true_and]
    rw [Bool.eq_iff_iff, allB_iff, repB, repTo, List.all_eq_true]
    simp only [lt_nil, Nat.zero_add, List.mem_range, beq_iff_eq]
    constructor
    · intro hh j hj
      have := hh j (by omega)
      rwa [Nat.mod_eq_of_lt (by omega), Nat.mod_eq_of_lt (by omega)] at this
    · intro hh j hj
      have e1 := rep_mod hn hh (j % l.length) (j % l.length) (Nat.le_refl _) (Nat.mod_lt _ (by omega))
      have e2 := rep_mod hn hh ((j + n) % l.length) ((j + n) % l.length) (Nat.le_refl _) (Nat.mod_lt _ (by omega))
      rw [e1, e2, Nat.mod_mod_of_dvd _ (Nat.dvd_of_mod_eq_zero hd), Nat.mod_mod_of_dvd _ (Nat.dvd_of_mod_eq_zero hd), Nat.add_mod_right]
  · have h2 : (l.length % n == 0) = false := by simpa using hd
    simp only [h2, Bool.false_and]
theorem pl_spec {l : List Bool} (h0 : 0 < l.length) : 0 < pl l ∧ pl l ≤ l.length := by
  have := pOf_spec (per_lt [] l) h0
  exact ⟨this.1, this.2.1⟩
theorem findP_succ (t : Nat → Bool) (n p : Nat) : findP t (n + 1) p = if t p then p else findP t n (p + 1) := rfl
end Go.Proofs.YthlapepjebidgaaGreatDoor.bw
/- slices.Grow of the nil slice, slices.Concat of two slices of bools, and append onto an owned slice. -/
namespace Go.Proofs.YthlapepjebidgaaGreatDoor.bw
set_option linter.unusedVariables false
set_option linter.unusedSimpArgs false
open Go.RowKit
theorem Tryz.boolInfo : (Tryz.prog.info? 4).map (fun i => (i.zero, i.size, i.bytes)) = some (some (.bool false), 1, 1) := by kernel_rfl
section
variable {P : Program} (w : World)
theorem run_append_nothing (base : Nat) (t ty e : TypeId) (i : TypeInfo) (ht : P.underlying t = some (.slice e)) (hi : P.info? e = some i)
    (v : Value) (n : Nat) (xs : List Value) (hown : w.ownsRow base e 1 v n xs) (c : Nat) : (Builtin.append_ #[t, t] ty #[v, .slice none 0 c]).run P w = .ok v w := by
  rcases hown.2 with ⟨rfl, rfl⟩ | ⟨g, cap, cur, rfl, _, _, hnc, _⟩
  · simp [Builtin.append_, run_underlying ht, sizeOf, typeInfo, hi, Builtin.lenOf, Builtin.firstCells]
  · simp [Builtin.append_, run_underlying ht, sizeOf, typeInfo, hi, Builtin.lenOf, Builtin.firstCells, hnc, storeCells]
/-- append of a slice that is read (nil or not) onto a slice that the call owns -/
theorem run_append_rd (base : Nat) (t ty e : TypeId) (i : TypeInfo) (z : Value) (bytes : Nat) (ht : P.underlying t = some (.slice e)) (hi : P.info? e = some i) (hz : i.zero = some z)
    (hsize : i.size = 1) (hby : i.bytes = bytes) (hzs : z.cells.size = 1)
    (v : Value) (n : Nat) (xs : List Value) (hown : w.ownsRow base e 1 v n xs)
    (B : Nat) (A : Option Addr) (m c : Nat) (news : List Value) (hm : news.length = m) (hr : Rd w B A news) (h1 : ∀ u ∈ news, u.oneCell' = true)
    (h63 : n + m ≤ maxLen) (hbytes : (n + m) * bytes ≤ 140737488355328) (hbase : base ≤ w.heap.size) :
    ∃ v' w', (Builtin.append_ #[t, t] ty #[v, .slice A m c]).run P w = .ok v' w' ∧ w'.ownsRow base e 1 v' (n + m) (xs ++ news) ∧ w.grownBy w' v.ownBlock ∧
      (v'.ownBlock = v.ownBlock ∨ v'.ownBlock = some w.heap.size) := by
  subst hm
  rcases A with _ | ad
  · have hn : news = [] := by
      rcases Classical.em (news = []) with h | h
      · exact h
      · obtain ⟨ad, h, _⟩ := hr h
        cases h
    subst hn
    exact ⟨v, w, run_append_nothing w base t ty e i ht hi v n xs hown c, by simpa using hown, World.grownBy.refl w _, .inl rfl⟩
  · have hcells : ∀ j u, news[j]? = some u → w.cell? (ad.add j) = some u := by
      intro j u hu
      obtain ⟨ad', h, _, hc⟩ := hr (by rintro rfl; simp at hu)
      injection h with h
      subst h
      exact hc j u hu
    obtain ⟨v', w', hrun, h2, h3, _, h5⟩ := run_append_own_at (P := P) w base t ty e i z 1 bytes ht hi hz hsize hby hzs (by omega) v n xs hown ad news.length c news (by omega) hcells h1 h63 hbytes hbase
    exact ⟨v', w', hrun, h2, h3, h5⟩
theorem wp_append_rd {o : Oper} {a : Act} {K : Act → World → Prop} {Q : Exit → Act → World → Prop} (s x : Operand) (t : TypeId)
    (ho : o.op = .call { callee := .builtin .append, args := #[s, x], argTypes := #[t, t] })
    (base : Nat) (e : TypeId) (i : TypeInfo) (z : Value) (bytes : Nat) (ht : P.underlying t = some (.slice e)) (hi : P.info? e = some i) (hz : i.zero = some z)
    (hsize : i.size = 1) (hby : i.bytes = bytes) (hzs : z.cells.size = 1)
    (v : Value) (n : Nat) (xs : List Value) (hs : a.eval s = v) (hown : w.ownsRow base e 1 v n xs)
    (B : Nat) (A : Option Addr) (m c : Nat) (news : List Value) (hx : a.eval x = .slice A m c) (hm : news.length = m) (hr : Rd w B A news) (h1 : ∀ u ∈ news, u.oneCell' = true)
    (h63 : n + m ≤ maxLen) (hbytes : (n + m) * bytes ≤ 140737488355328) (hbase : base ≤ w.heap.size)
    (h : ∀ v' w', w'.ownsRow base e 1 v' (n + m) (xs ++ news) → w.grownBy w' v.ownBlock → (v'.ownBlock = v.ownBlock ∨ v'.ownBlock = some w.heap.size) → K (a.put o.dst v') w') : o.wp P a w K Q := by
  obtain ⟨v', w', hrun, h2, h3, h4⟩ := run_append_rd (P := P) w base t o.type e i z bytes ht hi hz hsize hby hzs v n xs hown B A m c news hm hr h1 h63 hbytes hbase
  unfold Oper.wp execOp
  simp only [ho, resolve, invoke, builtin, Sem.run_bind, Sem.run_pure, Result.andThen_ok, List.map_toArray, List.map_cons, List.map_nil, hs, hx, hrun]
  exact h v' w' h2 h3 h4
theorem wpList_append_rd {ops : Array Oper} {rest : List Oper} {o : Oper} {a : Act} {Q : Exit → Act → World → Prop} (hgd : o.guard = none) (s x : Operand) (t : TypeId)
    (ho : o.op = .call { callee := .builtin .append, args := #[s, x], argTypes := #[t, t] })
    (base : Nat) (e : TypeId) (i : TypeInfo) (z : Value) (bytes : Nat) (ht : P.underlying t = some (.slice e)) (hi : P.info? e = some i) (hz : i.zero = some z)
    (hsize : i.size = 1) (hby : i.bytes = bytes) (hzs : z.cells.size = 1)
    (v : Value) (n : Nat) (xs : List Value) (hs : a.eval s = v) (hown : w.ownsRow base e 1 v n xs)
    (B : Nat) (A : Option Addr) (m c : Nat) (news : List Value) (hx : a.eval x = .slice A m c) (hm : news.length = m) (hr : Rd w B A news) (h1 : ∀ u ∈ news, u.oneCell' = true)
    (h63 : n + m ≤ maxLen) (hbytes : (n + m) * bytes ≤ 140737488355328) (hbase : base ≤ w.heap.size)
    (h : ∀ v' w', w'.ownsRow base e 1 v' (n + m) (xs ++ news) → w.grownBy w' v.ownBlock → (v'.ownBlock = v.ownBlock ∨ v'.ownBlock = some w.heap.size) → wpList P ops Q rest (a.put o.dst v') w') : wpList P ops Q (o :: rest) a w :=
  wpList_plain hgd fun _ hK => wp_append_rd w s x t ho base e i z bytes ht hi hz hsize hby hzs v n xs hs hown B A m c news hx hm hr h1 h63 hbytes hbase fun v' w' h2 h3 h4 => hK _ _ (h v' w' h2 h3 h4)
theorem step_append_rd {ops : Array Oper} {o : Oper} {a : Act} {K : Act → World → Prop} {Q : Exit → Act → World → Prop} {E : Prop} (hgd : o.guard = none) (s x : Operand) (t : TypeId)
    (ho : o.op = .call { callee := .builtin .append, args := #[s, x], argTypes := #[t, t] })
    (base : Nat) (e : TypeId) (i : TypeInfo) (z : Value) (bytes : Nat) (ht : P.underlying t = some (.slice e)) (hi : P.info? e = some i) (hz : i.zero = some z)
    (hsize : i.size = 1) (hby : i.bytes = bytes) (hzs : z.cells.size = 1)
    (v : Value) (n : Nat) (xs : List Value) (hs : a.eval s = v) (hown : w.ownsRow base e 1 v n xs)
    (B : Nat) (A : Option Addr) (m c : Nat) (news : List Value) (hx : a.eval x = .slice A m c) (hm : news.length = m) (hr : Rd w B A news) (h1 : ∀ u ∈ news, u.oneCell' = true)
    (h63 : n + m ≤ maxLen) (hbytes : (n + m) * bytes ≤ 140737488355328) (hbase : base ≤ w.heap.size)
    (h : ∀ v' w', w'.ownsRow base e 1 v' (n + m) (xs ++ news) → w.grownBy w' v.ownBlock → (v'.ownBlock = v.ownBlock ∨ v'.ownBlock = some w.heap.size) → K (a.put o.dst v') w') :
    if Region.wanted o (yielded ops a.tmps) = true then Oper.wp P o a w K Q else E := by
  have hw : Region.wanted o (yielded ops a.tmps) = true := by simp [Region.wanted, hgd]
  rw [if_pos hw]
  exact wp_append_rd w s x t ho base e i z bytes ht hi hz hsize hby hzs v n xs hs hown B A m c news hx hm hr h1 h63 hbytes hbase h
end
theorem bls_one (l : List Bool) : ∀ u ∈ bls l, u.oneCell' = true := by
  intro u hu
  simp only [bls, List.mem_map] at hu
  obtain ⟨b, _, rfl⟩ := hu
  rfl
/-- a new slice with these bools, owned; the old blocks are left alone -/
def NewOwn (l : List Bool) (w : World) (e : Ending) (w' : World) : Prop := ∃ A c, e = .returned (.slice A l.length c) ∧ w'.ownsRow w.heap.size 4 1 (.slice A l.length c) l.length (bls l) ∧ Below w.heap.size w w'
def catK (xs ys : List Bool) : Nat → List Bool
  | 0 => []
  | 1 => xs
  | _ => xs ++ ys
theorem cell_new2 (w : World) (x y : Value) (t : TypeId) : (w.alloc (.cells #[x, y] t)).cell? ⟨w.heap.size, 0, none⟩ = some x ∧ (w.alloc (.cells #[x, y] t)).cell? ⟨w.heap.size, 1, none⟩ = some y := by
  constructor
  · rw [cell_of_row _ _ _ _ _ _ (heap_alloc_new w _)]; rfl
  · rw [cell_of_row _ _ _ _ _ _ (heap_alloc_new w _)]; rfl
end Go.Proofs.YthlapepjebidgaaGreatDoor.bw
/- shortest of package bword: the normal form. -/
namespace Go.Proofs.YthlapepjebidgaaGreatDoor.bw
set_option linter.unusedVariables false
set_option linter.unusedSimpArgs false
open Go.RowKit
theorem lt_hi (h l : List Bool) (j : Nat) : lt h l (h.length + j) = gb l (j % l.length) := by
  rw [lt, if_neg (by omega), Nat.add_sub_cancel_left, gb]
theorem lt_lo {h : List Bool} (l : List Bool) {i : Nat} (hi : i < h.length) : lt h l i = gb h i := by rw [lt, if_pos hi, gb]
theorem allB_shift (h l : List Bool) (L p : Nat) : allB (lt h l) h.length L p = allB (lt [] l) 0 L p := by
  unfold allB
  congr 1
  funext j
  rw [Nat.add_assoc, lt_hi, lt_hi, Nat.zero_add, lt_nil, lt_nil]
theorem pl_eq (h l : List Bool) : pOf (lt h l) h.length l.length = pl l := by
  rw [pl, pOf, pOf]
  congr 1
  funext p
  rw [tP, tP, allB_shift]
theorem pl_per (h : List Bool) {l : List Bool} (h0 : 0 < l.length) : per (lt h l) h.length (pl l) := by
  have := (pOf_spec (per_lt h l) h0).2.2.2.1
  rwa [pl_eq] at this
theorem gb_take {l : List Bool} {p j : Nat} (hj : j < p) : gb (l.take p) j = gb l j := by rw [gb, gb, List.getElem?_take_of_lt hj]
/-- what stands p letters behind the next letter of the head -/
theorem back_eq {h l : List Bool} {p b : Nat} (h0 : 0 < l.length) (hp0 : 0 < p) (hpl : p ≤ l.length) (hb : b < h.length) (hp : per (lt h l) (h.length - b) p) :
    lt h l (h.length - 1 - b + p) = gb (l.take p) (p - 1 - b % p) := by
  have hr := Nat.mod_lt b hp0
  rw [gb_take (by omega)]
  have e : lt h l (h.length - 1 - b + p) = lt h l (h.length + (p - 1 - b % p)) := by
    have hm := per_mul hp (b / p) (h.length - 1 - b + p) (by omega)
    rw [← hm]
    congr 1
    have := Nat.div_add_mod b p
    rw [Nat.mul_comm] at this
    omega
  rw [e, lt_hi, Nat.mod_eq_of_lt (by omega)]
theorem tH_back {h l : List Bool} {p b : Nat} {x y : Bool} (h0 : 0 < l.length) (hp0 : 0 < p) (hpl : p ≤ l.length) (hb : b < h.length) (hp : per (lt h l) (h.length - b) p)
    (hx : gb h (h.length - 1 - b) = x) (hy : gb (l.take p) (p - 1 - b % p) = y) : tH (lt h l) p (h.length - b - 1) = (x == y) := by
  rw [show h.length - b - 1 = h.length - 1 - b by omega, tH, back_eq h0 hp0 hpl hb hp, hy, lt_lo l (by omega), hx]
theorem per_step {f : Nat → Bool} {h p : Nat} (hp : per f h p) (h0 : 0 < h) (ht : tH f p (h - 1) = true) : per f (h - 1) p := by
  intro i hi
  rcases Nat.lt_or_ge i h with h1 | h1
  · obtain rfl : i = h - 1 := by omega
    simp only [tH, beq_iff_eq] at ht
    exact ht.symm
  · exact hp i h1
theorem down_step {t : Nat → Bool} {h : Nat} (h0 : 0 < h) : down t h = if t (h - 1) then down t (h - 1) else h := by
  obtain ⟨k, rfl⟩ : ∃ k, h = k + 1 := ⟨h - 1, by omega⟩
  rfl
def rot (l : List Bool) (b : Nat) : List Bool := l.drop (l.length - b % l.length) ++ l.take (l.length - b % l.length)
theorem nf_short {h l : List Bool} {b : Nat} (h0 : 0 < l.length) (hb : b ≤ h.length) (hd : hOf (lt h l) h.length (pl l) = h.length - b) (hp : per (lt h l) (h.length - b) (pl l)) :
    nfw h l = (h.take (h.length - b), rot (l.take (pl l)) b) := by
  obtain ⟨p0, p1⟩ := pl_spec h0
  rw [nfw, nf, pl_eq, hd]
  generalize pl l = p at *
  congr 1
  · apply List.ext_getElem
    · simp
    · intro i h1 h2
      have hi : i < h.length - b := by simpa using h1
      simp only [List.getElem_map, List.getElem_range, List.getElem_take]
      rw [lt_lo l (by omega), gb, List.getElem?_eq_getElem (by omega)]
      rfl
  · have hr := Nat.mod_lt b p0
    have hlen : (l.take p).length = p := by simp; omega
    apply List.ext_getElem
    · simp [rot]; omega
    · intro i h1 h2
      have hi : i < p := by simpa using h1
      simp only [List.getElem_map, List.getElem_range]
      have e1 : lt h l (h.length - b + i) = gb l ((p - b % p + i) % p) := by
        have hm := Nat.mod_lt (p - b % p + i) p0
        rw [show gb l ((p - b % p + i) % p) = lt h l (h.length + (p - b % p + i) % p) by rw [lt_hi, Nat.mod_eq_of_lt (show (p - b % p + i) % p < l.length by omega)]]
        apply per_mod hp (by omega) (by omega)
        have hq := Nat.div_add_mod b p
        have e3 : h.length - b + i + (p * (b / p) + p) = h.length + (p - b % p + i) := by omega
        rw [Nat.add_mod_mod, ← e3, show p * (b / p) + p = p * (b / p + 1) by rw [Nat.mul_add, Nat.mul_one], Nat.add_mul_mod_self_left]
      rw [e1]
      simp only [rot, hlen]
      rw [List.getElem_append]
      split
      · rename_i h3
        have h4 : i < b % p := by simp at h3; omega
        rw [List.getElem_drop, List.getElem_take, gb, Nat.mod_eq_of_lt (by omega), List.getElem?_eq_getElem (by omega)]
        rfl
      · rename_i h3
        have h4 : b % p ≤ i := by simp at h3; omega
        rw [List.getElem_take, List.getElem_take, gb, Nat.mod_eq_sub_mod (by omega), Nat.mod_eq_of_lt (by omega), List.getElem?_eq_getElem (by omega)]
        simp only [Option.getD_some, List.length_drop, hlen]
        congr 1
        omega
/-- a word of new memory; the old blocks are left alone -/
def NewW (x y : List Bool) (w : World) (e : Ending) (w' : World) : Prop := ∃ A B c d, e = .returned (.agg #[.slice A x.length c, .slice B y.length d]) ∧ Rd w' w'.heap.size A (bls x) ∧ Rd w' w'.heap.size B (bls y) ∧ x.length ≤ c ∧ y.length ≤ d ∧ Below w.heap.size w w' ∧ Nw w.heap.size A (bls x) ∧ Nw w.heap.size B (bls y)
theorem bel_nil {W w1 : World} (_h : Below W.heap.size W W) (hg : W.grownBy w1 (Value.slice none 0 0).ownBlock) : Below W.heap.size W w1 := (Below.refl _ _).grown hg (Nat.le_refl _) (fun k hk => by cases hk)
end Go.Proofs.YthlapepjebidgaaGreatDoor.bw
/- Norm and fitted of package bword. -/
namespace Go.Proofs.YthlapepjebidgaaGreatDoor.bw
set_option linter.unusedVariables false
set_option linter.unusedSimpArgs false
open Go.RowKit
def normL (h l : List Bool) : List Bool × List Bool := if ck h l = 0 then nfw h l else ([], [])
/-- the fitting normal form with its error -/
def fit (p : List Bool × List Bool) : List Bool × List Bool := if p.1.length + p.2.length ≤ 64 then p else ([], [])
def fitE (p : List Bool × List Bool) : Int := if p.1.length + p.2.length ≤ 64 then 0 else 3
def NewWE (p : List Bool × List Bool) (er : Int) (w : World) (e : Ending) (w' : World) : Prop := ∃ A B c d, e = .returned (.tuple #[.agg #[.slice A p.1.length c, .slice B p.2.length d], .int .i64 er]) ∧ Rd w' w'.heap.size A (bls p.1) ∧ Rd w' w'.heap.size B (bls p.2) ∧ p.1.length ≤ c ∧ p.2.length ≤ d ∧ Below w.heap.size w w' ∧ Nw w.heap.size A (bls p.1) ∧ Nw w.heap.size B (bls p.2)
theorem ck_bad {h l : List Bool} (hc : ¬ ck h l = 0) : (ck h l != 0) = true := by simpa using hc
theorem nfw_lens {h l : List Bool} (h0 : 0 < l.length) : (nfw h l).1.length ≤ h.length ∧ 0 < (nfw h l).2.length ∧ (nfw h l).2.length ≤ l.length := nf_len (per_lt h l) h0
end Go.Proofs.YthlapepjebidgaaGreatDoor.bw
/- fitted of package bword. -/
namespace Go.Proofs.YthlapepjebidgaaGreatDoor.bw
set_option linter.unusedVariables false
set_option linter.unusedSimpArgs false
open Go.RowKit
theorem ck_fit {h l : List Bool} (h0 : 0 < (nfw h l).2.length) : ck (nfw h l).1 (nfw h l).2 = fitE (nfw h l) := by
  unfold ck fitE
  rw [if_neg (by omega)]
  split <;> split <;> omega
end Go.Proofs.YthlapepjebidgaaGreatDoor.bw
/- checkBoth and And of package bword. -/
namespace Go.Proofs.YthlapepjebidgaaGreatDoor.bw
set_option linter.unusedVariables false
set_option linter.unusedSimpArgs false
open Go.RowKit
/-- the error of two words -/
def ck2 (h l h' l' : List Bool) : Int := if ck h l = 0 then ck h' l' else ck h l
/-- the letters of a conjunction, the first k of n -/
def andK (f : Nat → Bool) (n k : Nat) : List Bool := (List.range n).map fun i => decide (i < k) && f i
theorem andK_length (f : Nat → Bool) (n k : Nat) : (andK f n k).length = n := by simp [andK]
theorem andK_zero (f : Nat → Bool) (n : Nat) : (madeCells (Value.bool false).cells (n * 1)).toList = bls (andK f n 0) := by
  simp [andK, bls, madeCells, Value.cells, Nat.mod_one]
theorem andK_set (f : Nat → Bool) (n k : Nat) (hk : k < n) : (bls (andK f n k)).set k (.bool (f k)) = bls (andK f n (k + 1)) := by
  apply List.ext_getElem
  · simp [bls, andK]
  · intro i h1 h2
    have hi : i < n := by simpa [bls, andK] using h2
    rw [List.getElem_set]
    by_cases e : k = i
    · subst e
      simp [bls, andK]
    · have ht : decide (i < k) = decide (i < k + 1) := by rw [decide_eq_decide]; omega
      simp [bls, andK, e, ht]
theorem andK_get (f : Nat → Bool) (n k j : Nat) (hj : j < n) : (bls (andK f n k))[j]? = some (.bool (decide (j < k) && f j)) := by simp [bls, andK, hj]
theorem add_off (b n : Nat) : (⟨b, 0, none⟩ : Addr).add n = ⟨b, n, none⟩ := by simp only [Addr.add]; split <;> simp_all
/-- the letters of a list, cut in two, are f where f repeats -/
theorem lt_cut {f : Nat → Bool} {H P : Nat} (hp : per f H P) (h0 : 0 < P) (i : Nat) : lt ((andK f (H + P) (H + P)).take H) ((andK f (H + P) (H + P)).drop H) i = f i := by
  have hl1 : ((andK f (H + P) (H + P)).take H).length = H := by rw [List.length_take, andK_length]; omega
  have hl2 : ((andK f (H + P) (H + P)).drop H).length = P := by rw [List.length_drop, andK_length]; omega
  rw [lt, hl1, hl2]
  split
  · rename_i hi
    rw [List.getElem?_take_of_lt hi]
    simp [andK, show i < H + P by omega]
  · rename_i hi
    have hm := Nat.mod_lt (i - H) h0
    rw [List.getElem?_drop]
    have e : (andK f (H + P) (H + P))[H + (i - H) % P]? = some (f (H + (i - H) % P)) := by simp [andK, show H + (i - H) % P < H + P by omega]
    rw [e, Option.getD_some]
    have := per_mul hp ((i - H) / P) (H + (i - H) % P) (by omega)
    rw [← this]
    congr 1
    have := Nat.div_add_mod (i - H) P
    rw [Nat.mul_comm] at this
    omega
theorem nf_cut {f : Nat → Bool} {H P : Nat} (hp : per f H P) (h0 : 0 < P) : nfw ((andK f (H + P) (H + P)).take H) ((andK f (H + P) (H + P)).drop H) = nf f H P := by
  have hl2 : ((andK f (H + P) (H + P)).drop H).length = P := by rw [List.length_drop, andK_length]; omega
  exact nf_eq (per_lt _ _) (by rw [hl2]; exact h0) hp h0 (lt_cut hp h0)
def andW (h l h' l' : List Bool) : List Bool × List Bool := nf (fun i => lt h l i && lt h' l' i) (max h.length h'.length) (l.length * l'.length)
theorem per_and (h l h' l' : List Bool) : per (fun i => lt h l i && lt h' l' i) (max h.length h'.length) (l.length * l'.length) := by
  intro i hi
  have e1 := per_mul (per_lt h l) l'.length i (by omega)
  have e2 := per_mul (per_lt h' l') l.length i (by omega)
  show (lt h l _ && lt h' l' _) = _
  rw [Nat.mul_comm l'.length] at e1
  rw [e1, e2]
end Go.Proofs.YthlapepjebidgaaGreatDoor.bw
/- On of package bword. -/
namespace Go.Proofs.YthlapepjebidgaaGreatDoor.bw
set_option linter.unusedVariables false
set_option linter.unusedSimpArgs false
open Go.RowKit
/-- the number of ones among the first k letters -/
def oc (h l : List Bool) : Nat → Nat
  | 0 => 0
  | k + 1 => oc h l k + if lt h l k then 1 else 0
theorem oc_le (h l : List Bool) (k : Nat) : oc h l k ≤ k := by
  induction k with
  | zero => simp [oc]
  | succ k ih => simp only [oc]; split <;> omega
def onF (h l h' l' : List Bool) (i : Nat) : Bool := lt h l i && lt h' l' (oc h l i)
def onH (h l h' : List Bool) : Nat := h.length + h'.length * l.length
def onW (h l h' l' : List Bool) : List Bool × List Bool := nf (onF h l h' l') (onH h l h') (l.length * l'.length)
/-- ones in whole turns -/
theorem oc_turn (h l : List Bool) (m : Nat) : ∀ i, h.length ≤ i → oc h l (i + m * l.length) = oc h l i + m * (oc h l (h.length + l.length) - oc h l h.length) := by
  have shift : ∀ j, oc h l (h.length + l.length + j) + oc h l h.length = oc h l (h.length + l.length) + oc h l (h.length + j) := by
    intro j
    induction j with
    | zero => simp
    | succ j ih =>
      have e := per_lt h l (h.length + j) (by omega)
      rw [← Nat.add_assoc, ← Nat.add_assoc]
      simp only [oc]
      rw [show h.length + l.length + j = h.length + j + l.length by omega] at ih ⊢
      rw [e]
      omega
  have one : ∀ i, h.length ≤ i → oc h l (i + l.length) = oc h l i + (oc h l (h.length + l.length) - oc h l h.length) := by
    intro i hi
    obtain ⟨j, rfl⟩ : ∃ j, i = h.length + j := ⟨i - h.length, by omega⟩
    have s := shift j
    have s0 : oc h l h.length ≤ oc h l (h.length + l.length) := by
      generalize l.length = n
      induction n with
      | zero => simp
      | succ n ih => rw [← Nat.add_assoc]; simp only [oc]; omega
    rw [show h.length + j + l.length = h.length + l.length + j by omega]
    omega
  induction m with
  | zero => intro i _; simp
  | succ m ih =>
    intro i hi
    rw [Nat.succ_mul, ← Nat.add_assoc, one _ (by omega), ih i hi, Nat.succ_mul]
    omega
theorem per_on (h l h' l' : List Bool) : per (onF h l h' l') (onH h l h') (l.length * l'.length) := by
  intro i hi
  unfold onH at hi
  have hih : h.length ≤ i := by omega
  have e1 : lt h l (i + l.length * l'.length) = lt h l i := by
    have := per_mul (per_lt h l) l'.length i hih
    rwa [Nat.mul_comm l'.length] at this
  have e2 := oc_turn h l l'.length i hih
  show (lt h l _ && lt h' l' _) = (lt h l _ && lt h' l' _)
  rw [e1, show i + l.length * l'.length = i + l'.length * l.length by rw [Nat.mul_comm l.length], e2]
  generalize hq : oc h l (h.length + l.length) - oc h l h.length = q
  rcases Nat.eq_zero_or_pos q with h0 | h0
  · rw [h0]; simp
  · congr 1
    have big : h'.length ≤ oc h l i := by
      have hj := oc_turn h l h'.length h.length (Nat.le_refl _)
      rw [hq] at hj
      have mono : ∀ a b, oc h l a ≤ oc h l (a + b) := by
        intro a b
        induction b with
        | zero => simp
        | succ b ih => rw [← Nat.add_assoc]; simp only [oc]; omega
      have := mono (h.length + h'.length * l.length) (i - (h.length + h'.length * l.length))
      rw [show h.length + h'.length * l.length + (i - (h.length + h'.length * l.length)) = i by omega] at this
      have hm : h'.length ≤ h'.length * q := Nat.le_mul_of_pos_right _ h0
      omega
    have := per_mul (per_lt h' l') q (oc h l i) big
    rwa [Nat.mul_comm q] at this
theorem andK_skip {f : Nat → Bool} {n k : Nat} (hf : f k = false) : andK f n k = andK f n (k + 1) := by
  unfold andK
  apply List.map_congr_left
  intro i _
  by_cases e : i = k
  · subst e; simp [hf]
  · have ht : decide (i < k) = decide (i < k + 1) := by rw [decide_eq_decide]; omega
    rw [ht]
end Go.Proofs.YthlapepjebidgaaGreatDoor.bw
/- bools and Equal of the reference. -/
namespace Go.Proofs.YthlapepjebidgaaGreatDoor.bw
set_option linter.unusedVariables false
set_option linter.unusedSimpArgs false
open Go.RowKit
def eqTo (x y : List Bool) (k : Nat) : Bool := (List.range k).all fun i => gb x i == gb y i
theorem eqTo_succ (x y : List Bool) (k : Nat) : eqTo x y (k + 1) = (eqTo x y k && (gb x k == gb y k)) := by simp [eqTo, List.range_succ]
theorem eqTo_all {x y : List Bool} (hl : x.length = y.length) (h : eqTo x y x.length = true) : (x == y) = true := by
  rw [beq_iff_eq]
  apply List.ext_getElem hl
  intro i h1 h2
  rw [eqTo, List.all_eq_true] at h
  have := h i (List.mem_range.2 h1)
  rw [gb, gb, List.getElem?_eq_getElem h1, List.getElem?_eq_getElem h2] at this
  simpa using this
theorem eq_no {x y : List Bool} {k : Nat} (h : (gb x k == gb y k) = false) : (x == y) = false := by
  rw [beq_eq_false_iff_ne]
  intro e
  subst e
  simp at h
theorem drw_bel {w w' : World} {W : World} (h : Below w.heap.size w W) (k : Nat) (e : w' = W.drewN k) : Below w.heap.size w w' := by subst e; exact below_drewN h k
end Go.Proofs.YthlapepjebidgaaGreatDoor.bw
/- word of the laws of layer 2: a word from the texts of its lists. -/
namespace Go.Proofs.YthlapepjebidgaaGreatDoor.bw
set_option linter.unusedVariables false
set_option linter.unusedSimpArgs false
open Go.RowKit
/-- the letters of a text -/
def lts (s : ByteArray) : List Bool := s.data.toList.map fun b => ((b.toNat : Nat) : Int) == 49
theorem lts_length (s : ByteArray) : (lts s).length = s.size := by simp only [lts, List.length_map, Array.length_toList]; rfl
theorem lts_take {s : ByteArray} {k : Nat} (hk : k < s.size) : (lts s).take (k + 1) = (lts s).take k ++ [((s[k].toNat : Nat) : Int) == 49] := by
  apply take_succ_of
  have hk' : k < s.data.size := hk
  rw [lts, List.getElem?_map, Array.getElem?_toList, Array.getElem?_eq_getElem hk']
  rfl
def Fw (g : Nat) (W : World) (u v : Value) : Prop := (W.cell? ⟨g, 0, none⟩ = some (.slice none 0 0) ∧ W.cell? ⟨g, 1, none⟩ = some (.slice none 0 0) ∧ W.cell? ⟨g + 1, 0, none⟩ = some u ∧ W.cell? ⟨g + 1, 1, none⟩ = some v) ∧
  (W.frozen? ⟨g, 0, none⟩ = false ∧ W.frozen? ⟨g, 1, none⟩ = false ∧ W.frozen? ⟨g + 1, 0, none⟩ = false ∧ W.frozen? ⟨g + 1, 1, none⟩ = false) ∧ g + 2 ≤ W.heap.size
theorem Fw.below {g : Nat} {W W' : World} {u v : Value} (h : Fw g W u v) (hb : Below (g + 2) W W') : Fw g W' u v := by
  obtain ⟨⟨h1, h2, h3, h4⟩, ⟨h5, h6, h7, h8⟩, h9⟩ := h
  refine ⟨⟨(hb.cell (p := ⟨g, 0, none⟩) (by simp)).trans h1, (hb.cell (p := ⟨g, 1, none⟩) (by simp)).trans h2, (hb.cell (p := ⟨g + 1, 0, none⟩) (by simp)).trans h3, (hb.cell (p := ⟨g + 1, 1, none⟩) (by simp)).trans h4⟩,
    ⟨(hb.frozen (p := ⟨g, 0, none⟩) (by simp)).trans h5, (hb.frozen (p := ⟨g, 1, none⟩) (by simp)).trans h6, (hb.frozen (p := ⟨g + 1, 0, none⟩) (by simp)).trans h7, (hb.frozen (p := ⟨g + 1, 1, none⟩) (by simp)).trans h8⟩, ?_⟩
  rcases Nat.lt_or_ge (g + 1) W'.heap.size with h | h
  · omega
  · have e := (hb.cell (p := ⟨g + 1, 0, none⟩) (by simp)).trans h3
    have := World.block_lt_of_cell? W' _ e
    simp at this
    omega
theorem Fw.set0 {g : Nat} {W : World} {u v : Value} (h : Fw g W u v) (x : Value) : Fw g (W.setCell ⟨g + 1, 0, none⟩ x) x v := by
  obtain ⟨⟨h1, h2, h3, h4⟩, ⟨h5, h6, h7, h8⟩, h9⟩ := h
  refine ⟨⟨?_, ?_, World.cell?_setCell_same _ _ _ h3, ?_⟩, ⟨by simpa [go_sem] using h5, by simpa [go_sem] using h6, by simpa [go_sem] using h7, by simpa [go_sem] using h8⟩, by simpa [World.setCell] using h9⟩
  · rw [World.cell?_setCell_other _ _ _ _ (by simp)]; exact h1
  · rw [World.cell?_setCell_other _ _ _ _ (by simp)]; exact h2
  · rw [World.cell?_setCell_other _ _ _ _ (by simp)]; exact h4
theorem Fw.set1 {g : Nat} {W : World} {u v : Value} (h : Fw g W u v) (x : Value) : Fw g (W.setCell ⟨g + 1, 1, none⟩ x) u x := by
  obtain ⟨⟨h1, h2, h3, h4⟩, ⟨h5, h6, h7, h8⟩, h9⟩ := h
  refine ⟨⟨?_, ?_, ?_, World.cell?_setCell_same _ _ _ h4⟩, ⟨by simpa [go_sem] using h5, by simpa [go_sem] using h6, by simpa [go_sem] using h7, by simpa [go_sem] using h8⟩, by simpa [World.setCell] using h9⟩
  · rw [World.cell?_setCell_other _ _ _ _ (by simp)]; exact h1
  · rw [World.cell?_setCell_other _ _ _ _ (by simp)]; exact h2
  · rw [World.cell?_setCell_other _ _ _ _ (by simp)]; exact h3
theorem _root_.Go.Proofs.YthlapepjebidgaaGreatDoor.Rd.set_low {w : World} {A : Option Addr} {N B : Nat} {xs : List Value} (h : Rd w B A xs) (hn : Nw N A xs) {p : Addr} (hp : p.block < N) (u : Value) : Rd (w.setCell p u) B A xs := fun hx => by
  obtain ⟨ad, e, hb, hc⟩ := h hx
  have hN := hn ad e hx
  refine ⟨ad, e, hb, fun j v hv => ?_⟩
  rw [World.cell?_setCell_other _ _ _ _ (fun e2 => by have := congrArg Addr.block e2; rw [add_block] at this; omega)]
  exact hc j v hv
theorem _root_.Go.Proofs.YthlapepjebidgaaGreatDoor.Rd.one_new (w : World) (b : Bool) (t : TypeId) : Rd (w.alloc (.cells #[.bool b] t)) (w.heap.size + 1) (some ⟨w.heap.size, 0, none⟩) [.bool b] := fun _ =>
  ⟨_, rfl, Nat.lt_succ_self _, fun j u hu => cell_one_new w _ _ j u hu⟩
theorem Fw.made (w : World) (t u : TypeId) : Fw w.heap.size ((w.alloc (.cells #[.slice none 0 0, .slice none 0 0] t)).alloc (.cells #[.slice none 0 0, .slice none 0 0] u)) (.slice none 0 0) (.slice none 0 0) := by
  refine ⟨⟨?_, ?_, ?_, ?_⟩, ⟨?_, ?_, ?_, ?_⟩, ?_⟩ <;> simp [go_sem]
theorem size_up {B : Nat} {W : World} (o : Obj) (h : B ≤ W.heap.size) : B ≤ (W.alloc o).drew.heap.size := by simp; omega
theorem grow_up {B n : Nat} {e : TypeId} {v : Value} {xs : List Value} {W w1 : World} {o : Obj} (hB : B ≤ W.heap.size) (hown : W.ownsRow B e 1 v n xs) (hg : ((W.alloc o).drew).grownBy w1 v.ownBlock) : Below B W w1 :=
  (((Below.refl _ _).alloc hB _).drew).grown hg (size_up _ hB) (fun k hk => (hown.lt k hk).1)
end Go.Proofs.YthlapepjebidgaaGreatDoor.bw
