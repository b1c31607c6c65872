/- formed, hasOnly of the program. -/
import Derived.Test.YtfogkcccjemloaaGreatDoorFc
namespace Go.Proofs.YtfogkcccjemloaaGreatDoor
set_option linter.unusedVariables false
set_option linter.unusedSimpArgs false
open Go.RowKit
def formedP (k op t v n : Int) (wok : Bool) : Bool :=
  if k = 1 then n == 0 && hasVal t v else if k = 2 then n == 0 else if k = 3 then decide (1 ≤ op ∧ op ≤ 16) && n == opnds op else if k = 4 then n == 3 else if k = 5 then n == 1 else if k = 6 ∨ k = 7 then n == 2
  else if k = 8 then n == 1 && (t != 2 && hasVal t v) else if k = 9 then hasBr t n else if k = 10 then v == 0 || (v == 1 && decide (0 < n)) else if k = 11 then n == 0 && wok else false
def onlyP (k op t v : Int) (ne : Bool) : Bool :=
  if k ≠ 3 ∧ op ≠ 0 then false else if k = 1 then ne else if k = 8 then true else if k = 9 then v == 0 else if k = 10 then t == 0 else if k = 2 ∨ k = 11 then t == 0 && v == 0 else t == 0 && (v == 0 && ne)
set_option maxHeartbeats 2000000 in
set_option maxRecDepth 20000 in
theorem formed_any (x : Xt) (wok : Bool) (w : World) (KP : x.k = 11 → Hid (∀ W, Below w.heap.size w W → Calls Tryz.prog 36 #[.string x.nm] W (fun e w' => ∃ (A1 A2 : Option Addr) (n1 c1 n2 c2 : Nat) (er : Int), e = .returned (.tuple #[.agg #[.slice A1 n1 c1, .slice A2 n2 c2], .int .i64 er]) ∧ (er == 0) = wok ∧ Below W.heap.size W w'))) :
    Calls Tryz.prog 64 #[xV x] w (Bel (.bool (formedP x.k x.op x.t x.v x.ar.length wok)) w) := by
  have HV := Lib.hid (hasvalue_any x.t x.v)
  have HO := Lib.hid (operands_any x.op)
  have HB := Lib.hid (hasbranches_any x.t x.ar.length)
  obtain ⟨k, op, t, v, nm, A, c, ar⟩ := x
  simp only [xV, Xt.k, Xt.op, Xt.t, Xt.v, Xt.nm, Xt.A, Xt.c, Xt.ar] at *
  obtain ⟨n, hn⟩ : ∃ n : Nat, ar.length = n := ⟨_, rfl⟩
  rw [hn] at HB ⊢
  clear hn
  by_cases h1 : k = 1
  · subst h1
    rw [formedP, if_pos rfl]
    generalize hasVal t v = b at *
    cases b
    all_goals
      go_enter Tryz.func64, Tryz.ntmps64
      go_wp2_with (go_at_call 86; refine (HV.out _).mono ?_; rintro e w1 ⟨rfl, hb1⟩)
    all_goals go_ret
    all_goals exact ⟨ret_bool (by simp_all), (by repeat (first | (with_reducible exact Below.refl _ _) | (with_reducible assumption) | (with_reducible exact bel_box _) | (with_reducible refine bel_step ?_ (by with_reducible assumption)) | (with_reducible refine Below.drew ?_) | (with_reducible refine below_drewN ?_ _) | (with_reducible refine bel_alloc ?_ _)))⟩
  by_cases h2 : k = 2
  · subst h2
    go_enter Tryz.func64, Tryz.ntmps64
    go_wp2
    all_goals go_ret
    all_goals exact ⟨ret_bool (by simp_all [formedP]), (by repeat (first | (with_reducible exact Below.refl _ _) | (with_reducible assumption) | (with_reducible exact bel_box _) | (with_reducible refine bel_step ?_ (by with_reducible assumption)) | (with_reducible refine Below.drew ?_) | (with_reducible refine below_drewN ?_ _) | (with_reducible refine bel_alloc ?_ _)))⟩
  by_cases h3 : k = 3
  · subst h3
    rw [formedP, if_neg (by decide), if_neg (by decide), if_pos rfl]
    generalize opnds op = q at *
    go_enter Tryz.func64, Tryz.ntmps64
    go_wp2_with (go_at_call 87; refine (HO.out _).mono ?_; rintro e w1 ⟨rfl, hb1⟩)
    all_goals go_ret
    all_goals refine ⟨ret_bool ?_, (by repeat (first | (with_reducible exact Below.refl _ _) | (with_reducible assumption) | (with_reducible exact bel_box _) | (with_reducible refine bel_step ?_ (by with_reducible assumption)) | (with_reducible refine Below.drew ?_) | (with_reducible refine below_drewN ?_ _) | (with_reducible refine bel_alloc ?_ _)))⟩
    all_goals (rw [Bool.eq_iff_iff]; simp; omega)
  by_cases h4 : k = 4
  · subst h4
    go_enter Tryz.func64, Tryz.ntmps64
    go_wp2
    all_goals go_ret
    all_goals exact ⟨ret_bool (by simp_all [formedP]), (by repeat (first | (with_reducible exact Below.refl _ _) | (with_reducible assumption) | (with_reducible exact bel_box _) | (with_reducible refine bel_step ?_ (by with_reducible assumption)) | (with_reducible refine Below.drew ?_) | (with_reducible refine below_drewN ?_ _) | (with_reducible refine bel_alloc ?_ _)))⟩
  by_cases h5 : k = 5
  · subst h5
    go_enter Tryz.func64, Tryz.ntmps64
    go_wp2
    all_goals go_ret
    all_goals exact ⟨ret_bool (by simp_all [formedP]), (by repeat (first | (with_reducible exact Below.refl _ _) | (with_reducible assumption) | (with_reducible exact bel_box _) | (with_reducible refine bel_step ?_ (by with_reducible assumption)) | (with_reducible refine Below.drew ?_) | (with_reducible refine below_drewN ?_ _) | (with_reducible refine bel_alloc ?_ _)))⟩
  by_cases h6 : k = 6
  · subst h6
    go_enter Tryz.func64, Tryz.ntmps64
    go_wp2
    all_goals go_ret
    all_goals exact ⟨ret_bool (by simp_all [formedP]), (by repeat (first | (with_reducible exact Below.refl _ _) | (with_reducible assumption) | (with_reducible exact bel_box _) | (with_reducible refine bel_step ?_ (by with_reducible assumption)) | (with_reducible refine Below.drew ?_) | (with_reducible refine below_drewN ?_ _) | (with_reducible refine bel_alloc ?_ _)))⟩
  by_cases h7 : k = 7
  · subst h7
    go_enter Tryz.func64, Tryz.ntmps64
    go_wp2
    all_goals go_ret
    all_goals exact ⟨ret_bool (by simp_all [formedP]), (by repeat (first | (with_reducible exact Below.refl _ _) | (with_reducible assumption) | (with_reducible exact bel_box _) | (with_reducible refine bel_step ?_ (by with_reducible assumption)) | (with_reducible refine Below.drew ?_) | (with_reducible refine below_drewN ?_ _) | (with_reducible refine bel_alloc ?_ _)))⟩
  by_cases h8 : k = 8
  · subst h8
    rw [formedP, if_neg (by decide), if_neg (by decide), if_neg (by decide), if_neg (by decide), if_neg (by decide), if_neg (by decide), if_pos rfl]
    generalize hasVal t v = b at *
    cases b
    all_goals
      go_enter Tryz.func64, Tryz.ntmps64
      go_wp2_with (go_at_call 86; refine (HV.out _).mono ?_; rintro e w1 ⟨rfl, hb1⟩)
    all_goals go_ret
    all_goals exact ⟨ret_bool (by simp_all), (by repeat (first | (with_reducible exact Below.refl _ _) | (with_reducible assumption) | (with_reducible exact bel_box _) | (with_reducible refine bel_step ?_ (by with_reducible assumption)) | (with_reducible refine Below.drew ?_) | (with_reducible refine below_drewN ?_ _) | (with_reducible refine bel_alloc ?_ _)))⟩
  by_cases h9 : k = 9
  · subst h9
    rw [formedP, if_neg (by decide), if_neg (by decide), if_neg (by decide), if_neg (by decide), if_neg (by decide), if_neg (by decide), if_neg (by decide), if_pos rfl]
    generalize hasBr t n = b at *
    go_enter Tryz.func64, Tryz.ntmps64
    go_wp2_with (go_at_call 88; refine (HB.out _).mono ?_; rintro e w1 ⟨rfl, hb1⟩)
    all_goals go_ret
    all_goals exact ⟨rfl, (by repeat (first | (with_reducible exact Below.refl _ _) | (with_reducible assumption) | (with_reducible exact bel_box _) | (with_reducible refine bel_step ?_ (by with_reducible assumption)) | (with_reducible refine Below.drew ?_) | (with_reducible refine below_drewN ?_ _) | (with_reducible refine bel_alloc ?_ _)))⟩
  by_cases h10 : k = 10
  · subst h10
    rw [formedP, if_neg (by decide), if_neg (by decide), if_neg (by decide), if_neg (by decide), if_neg (by decide), if_neg (by decide), if_neg (by decide), if_neg (by decide), if_pos rfl]
    go_enter Tryz.func64, Tryz.ntmps64
    go_wp2
    all_goals go_ret
    all_goals refine ⟨ret_bool ?_, (by repeat (first | (with_reducible exact Below.refl _ _) | (with_reducible assumption) | (with_reducible exact bel_box _) | (with_reducible refine bel_step ?_ (by with_reducible assumption)) | (with_reducible refine Below.drew ?_) | (with_reducible refine below_drewN ?_ _) | (with_reducible refine bel_alloc ?_ _)))⟩
    all_goals (rw [Bool.eq_iff_iff]; simp_all)
  by_cases h11 : k = 11
  · subst h11
    have KQ := KP rfl
    rw [formedP, if_neg (by decide), if_neg (by decide), if_neg (by decide), if_neg (by decide), if_neg (by decide), if_neg (by decide), if_neg (by decide), if_neg (by decide), if_neg (by decide), if_pos rfl]
    clear KP
    cases wok
    all_goals
      go_enter Tryz.func64, Tryz.ntmps64
      go_wp2_with (go_at_call 36; refine (KQ.out _ ?_).mono ?_; (focus ((repeat (first | (with_reducible exact Below.refl _ _) | (with_reducible assumption) | (with_reducible exact bel_box _) | (with_reducible refine bel_step ?_ (by with_reducible assumption)) | (with_reducible refine Below.drew ?_) | (with_reducible refine below_drewN ?_ _) | (with_reducible refine bel_alloc ?_ _))); done)); rintro e w1 ⟨A1, A2, n1, c1, n2, c2, er, rfl, her, hb1⟩)
    all_goals go_ret
    all_goals exact ⟨ret_bool (by simp_all), (by repeat (first | (with_reducible exact Below.refl _ _) | (with_reducible assumption) | (with_reducible exact bel_box _) | (with_reducible refine bel_step ?_ (by with_reducible assumption)) | (with_reducible refine Below.drew ?_) | (with_reducible refine below_drewN ?_ _) | (with_reducible refine bel_alloc ?_ _)))⟩
  have e : formedP k op t v n wok = false := by
    rw [formedP, if_neg h1, if_neg h2, if_neg h3, if_neg h4, if_neg h5, if_neg (by omega), if_neg h8, if_neg h9, if_neg h10, if_neg h11]
  rw [e]
  have q1 : (k == 1) = false := by simpa using h1
  have q2 : (k == 2) = false := by simpa using h2
  have q3 : (k == 3) = false := by simpa using h3
  have q4 : (k == 4) = false := by simpa using h4
  have q5 : (k == 5) = false := by simpa using h5
  have q6 : (k == 6) = false := by simpa using h6
  have q7 : (k == 7) = false := by simpa using h7
  have q8 : (k == 8) = false := by simpa using h8
  have q9 : (k == 9) = false := by simpa using h9
  have q10 : (k == 10) = false := by simpa using h10
  have q11 : (k == 11) = false := by simpa using h11
  go_enter Tryz.func64, Tryz.ntmps64
  go_wp2
  go_ret
  exact ⟨rfl, (by repeat (first | (with_reducible exact Below.refl _ _) | (with_reducible assumption) | (with_reducible exact bel_box _) | (with_reducible refine bel_step ?_ (by with_reducible assumption)) | (with_reducible refine Below.drew ?_) | (with_reducible refine below_drewN ?_ _) | (with_reducible refine bel_alloc ?_ _)))⟩
set_option maxHeartbeats 2000000 in
set_option maxRecDepth 20000 in
theorem hasonly_any (x : Xt) (w : World) : Calls Tryz.prog 65 #[xV x] w (Bel (.bool (onlyP x.k x.op x.t x.v (x.nm.toList == []))) w) := by
  obtain ⟨k, op, t, v, nm, A, c, ar⟩ := x
  simp only [xV, Xt.k, Xt.op, Xt.t, Xt.v, Xt.nm, Xt.A, Xt.c, Xt.ar] at *
  have hne : (nm.toList == []) = nm.toList.isEmpty := by cases nm.toList <;> rfl
  by_cases h0 : k ≠ 3 ∧ op ≠ 0
  · rw [onlyP, if_pos h0]
    have q1 : (k != 3) = true := by simpa using h0.1
    have q2 : (op != 0) = true := by simpa using h0.2
    go_enter Tryz.func65, Tryz.ntmps65
    go_wp2
    all_goals go_ret
    all_goals exact ⟨rfl, (by repeat (first | (with_reducible exact Below.refl _ _) | (with_reducible assumption) | (with_reducible exact bel_box _) | (with_reducible refine bel_step ?_ (by with_reducible assumption)) | (with_reducible refine Below.drew ?_) | (with_reducible refine below_drewN ?_ _) | (with_reducible refine bel_alloc ?_ _)))⟩
  rw [onlyP, if_neg h0]
  have hq : (k != 3) = false ∨ (k != 3) = true ∧ (op != 0) = false := by
    by_cases h : k = 3
    · exact .inl (by simp [h])
    · exact .inr ⟨by simpa using h, by simpa using fun e => h0 ⟨h, e⟩⟩
  clear h0
  by_cases h1 : k = 1
  · subst h1
    rw [if_pos rfl]
    rcases hq with hq | ⟨_, hq⟩
    · cases hq
    go_enter Tryz.func65, Tryz.ntmps65
    go_wp2
    all_goals go_ret
    all_goals exact ⟨ret_bool (by simp_all), (by repeat (first | (with_reducible exact Below.refl _ _) | (with_reducible assumption) | (with_reducible exact bel_box _) | (with_reducible refine bel_step ?_ (by with_reducible assumption)) | (with_reducible refine Below.drew ?_) | (with_reducible refine below_drewN ?_ _) | (with_reducible refine bel_alloc ?_ _)))⟩
  by_cases h8 : k = 8
  · subst h8
    rw [if_neg (by decide), if_pos rfl]
    rcases hq with hq | ⟨_, hq⟩
    · cases hq
    go_enter Tryz.func65, Tryz.ntmps65
    go_wp2
    all_goals go_ret
    all_goals exact ⟨rfl, (by repeat (first | (with_reducible exact Below.refl _ _) | (with_reducible assumption) | (with_reducible exact bel_box _) | (with_reducible refine bel_step ?_ (by with_reducible assumption)) | (with_reducible refine Below.drew ?_) | (with_reducible refine below_drewN ?_ _) | (with_reducible refine bel_alloc ?_ _)))⟩
  by_cases h9 : k = 9
  · subst h9
    rw [if_neg (by decide), if_neg (by decide), if_pos rfl]
    rcases hq with hq | ⟨_, hq⟩
    · cases hq
    go_enter Tryz.func65, Tryz.ntmps65
    go_wp2
    all_goals go_ret
    all_goals exact ⟨rfl, (by repeat (first | (with_reducible exact Below.refl _ _) | (with_reducible assumption) | (with_reducible exact bel_box _) | (with_reducible refine bel_step ?_ (by with_reducible assumption)) | (with_reducible refine Below.drew ?_) | (with_reducible refine below_drewN ?_ _) | (with_reducible refine bel_alloc ?_ _)))⟩
  by_cases h10 : k = 10
  · subst h10
    rw [if_neg (by decide), if_neg (by decide), if_neg (by decide), if_pos rfl]
    rcases hq with hq | ⟨_, hq⟩
    · cases hq
    go_enter Tryz.func65, Tryz.ntmps65
    go_wp2
    all_goals go_ret
    all_goals exact ⟨rfl, (by repeat (first | (with_reducible exact Below.refl _ _) | (with_reducible assumption) | (with_reducible exact bel_box _) | (with_reducible refine bel_step ?_ (by with_reducible assumption)) | (with_reducible refine Below.drew ?_) | (with_reducible refine below_drewN ?_ _) | (with_reducible refine bel_alloc ?_ _)))⟩
  have q1 : (k == 1) = false := by simpa using h1
  have q8 : (k == 8) = false := by simpa using h8
  have q9 : (k == 9) = false := by simpa using h9
  have q10 : (k == 10) = false := by simpa using h10
  rw [if_neg h1, if_neg h8, if_neg h9, if_neg h10]
  by_cases h2 : k = 2
  · subst h2
    rw [if_pos (.inl rfl)]
    rcases hq with hq | ⟨_, hq⟩
    · cases hq
    go_enter Tryz.func65, Tryz.ntmps65
    go_wp2
    all_goals go_ret
    all_goals exact ⟨ret_bool (by simp_all), (by repeat (first | (with_reducible exact Below.refl _ _) | (with_reducible assumption) | (with_reducible exact bel_box _) | (with_reducible refine bel_step ?_ (by with_reducible assumption)) | (with_reducible refine Below.drew ?_) | (with_reducible refine below_drewN ?_ _) | (with_reducible refine bel_alloc ?_ _)))⟩
  by_cases h11 : k = 11
  · subst h11
    rw [if_pos (.inr rfl)]
    rcases hq with hq | ⟨_, hq⟩
    · cases hq
    go_enter Tryz.func65, Tryz.ntmps65
    go_wp2
    all_goals go_ret
    all_goals exact ⟨ret_bool (by simp_all), (by repeat (first | (with_reducible exact Below.refl _ _) | (with_reducible assumption) | (with_reducible exact bel_box _) | (with_reducible refine bel_step ?_ (by with_reducible assumption)) | (with_reducible refine Below.drew ?_) | (with_reducible refine below_drewN ?_ _) | (with_reducible refine bel_alloc ?_ _)))⟩
  have q2 : (k == 2) = false := by simpa using h2
  have q11 : (k == 11) = false := by simpa using h11
  rw [if_neg (by omega)]
  rcases hq with hq | ⟨hk3, hq⟩
  all_goals
    go_enter Tryz.func65, Tryz.ntmps65
    go_wp2
  all_goals go_ret
  all_goals exact ⟨ret_bool (by simp_all), (by repeat (first | (with_reducible exact Below.refl _ _) | (with_reducible assumption) | (with_reducible exact bel_box _) | (with_reducible refine bel_step ?_ (by with_reducible assumption)) | (with_reducible refine Below.drew ?_) | (with_reducible refine below_drewN ?_ _) | (with_reducible refine bel_alloc ?_ _)))⟩
end Go.Proofs.YtfogkcccjemloaaGreatDoor
