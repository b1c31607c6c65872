/- And and On of the program where a word is wrong; both, gcd and fits of the reference. -/
import Derived.Test.YtimecbkfeennpaaBwM3
namespace Go.Proofs.Ytimecbkfeennpaa
set_option linter.unusedVariables false
set_option linter.unusedSimpArgs false
open Go.RowKit
theorem box3r {w W : World} {o1 o2 : Obj} {x y : Value} {t : TypeId} (hb : Below (((w.alloc o1).alloc o2).alloc (.cells #[x, y] t)).heap.size (((w.alloc o1).alloc o2).alloc (.cells #[x, y] t)) W) :
    W.cell? ⟨w.heap.size + 2, 0, none⟩ = some x ∧ W.cell? ⟨w.heap.size + 2, 1, none⟩ = some y ∧ W.frozen? ⟨w.heap.size + 2, 0, none⟩ = false ∧ W.frozen? ⟨w.heap.size + 2, 1, none⟩ = false := by
  have e : ((w.alloc o1).alloc o2).heap.size = w.heap.size + 2 := by simp
  have h := box2 (w := (w.alloc o1).alloc o2) hb
  have f0 := (hb.frozen (p := ⟨w.heap.size + 2, 0, none⟩) (by simp)).trans (by simp [go_sem] : ((((w.alloc o1).alloc o2).alloc (.cells #[x, y] t)).frozen? ⟨w.heap.size + 2, 0, none⟩) = false)
  have f1 := (hb.frozen (p := ⟨w.heap.size + 2, 1, none⟩) (by simp)).trans (by simp [go_sem] : ((((w.alloc o1).alloc o2).alloc (.cells #[x, y] t)).frozen? ⟨w.heap.size + 2, 1, none⟩) = false)
  rw [e] at h
  exact ⟨h.1, h.2, f0, f1⟩
set_option maxHeartbeats 400000 in
theorem rboth_any (A B A' B' : Option Addr) (c d c' d' : Nat) (h l h' l' : List Bool) (w : World) (hh : h.length ≤ 140737488355328) (hl : l.length ≤ 140737488355328) (hh' : h'.length ≤ 140737488355328) (hl' : l'.length ≤ 140737488355328) :
    Calls Try.prog 47 #[.agg #[.slice A h.length c, .slice B l.length d], .agg #[.slice A' h'.length c', .slice B' l'.length d']] w (Bel (.int .i64 (ck2 h l h' l')) w) := by
  have k1 := Lib.hid (rcheck_any A B c d h l)
  have k2 := Lib.hid (rcheck_any A' B' c' d' h' l')
  by_cases h1 : ck h l = 0
  · have hd1 : (ck h l != 0) = false := by simp [h1]
    rw [ck2, if_pos h1]
    clear h1
    go_enter Try.func47, Try.ntmps47
    go_wp2_with (first
      | (go_at_call_of 13 (Value.agg #[Value.slice A h.length c, Value.slice B l.length d]); refine (k1.out _ hh hl).mono ?_; rintro e w1 ⟨rfl, hb1⟩; obtain ⟨hc1, hf1, hz1⟩ := bcell hb1; simp at hz1; have hz1a : w.heap.size < w1.heap.size := (by omega); have hz1b : w.heap.size + 1 < w1.heap.size := (by omega))
      | (go_at_call 13; refine (k2.out _ hh' hl').mono ?_; rintro e w2 ⟨rfl, hb2⟩))
    go_ret
    exact ⟨rfl, (by repeat (first | (with_reducible exact Below.refl _ _) | (with_reducible assumption) | (with_reducible exact bel_box _) | (with_reducible refine bel_step ?_ (by with_reducible assumption)) | (with_reducible refine Below.drew ?_) | (with_reducible refine below_drewN ?_ _) | (with_reducible refine bel_alloc ?_ _)))⟩
  · have hd1 := ck_bad h1
    rw [ck2, if_neg h1]
    clear h1
    go_enter Try.func47, Try.ntmps47
    go_wp2_with (go_at_call 13; refine (k1.out _ hh hl).mono ?_; rintro e w1 ⟨rfl, hb1⟩; obtain ⟨hc1, hf1, hz1⟩ := bcell hb1; simp at hz1; have hz1a : w.heap.size < w1.heap.size := (by omega); have hz1b : w.heap.size + 1 < w1.heap.size := (by omega))
    go_ret
    exact ⟨rfl, (by repeat (first | (with_reducible exact Below.refl _ _) | (with_reducible assumption) | (with_reducible exact bel_box _) | (with_reducible refine bel_step ?_ (by with_reducible assumption)) | (with_reducible refine Below.drew ?_) | (with_reducible refine below_drewN ?_ _) | (with_reducible refine bel_alloc ?_ _)))⟩
set_option maxHeartbeats 1000000 in
theorem and_bad (A B A' B' : Option Addr) (c d c' d' : Nat) (h l h' l' : List Bool) (w : World)
    (hh : h.length ≤ 140737488355328) (hl : l.length ≤ 140737488355328) (hh' : h'.length ≤ 140737488355328) (hl' : l'.length ≤ 140737488355328) (hck : ¬ ck2 h l h' l' = 0) :
    Calls Try.prog 26 #[.agg #[.slice A h.length c, .slice B l.length d], .agg #[.slice A' h'.length c', .slice B' l'.length d']] w (NewWE ([], []) (ck2 h l h' l') w) := by
  have hd : (ck2 h l h' l' != 0) = true := by simpa using hck
  have bo := Lib.hid (both_any A B A' B' c d c' d' h l h' l')
  generalize ck2 h l h' l' = er at *
  clear hck
  go_enter Try.func26, Try.ntmps26
  go_wp2_with (go_at_call 42; refine (bo.out _ hh hl hh' hl').mono ?_; rintro e w1 ⟨rfl, hb1⟩; obtain ⟨hr0, hr1, hr2, hr3⟩ := box3r hb1)
  obtain ⟨k0, k1⟩ := set2_cells hr0 hr1 (.slice none 0 0) (.slice none 0 0)
  refine bodyPost_ret (v := .tuple #[.agg #[.slice none 0 0, .slice none 0 0], .int .i64 er]) (by simp [results, Try.results26, go_sem, k0, k1]) rfl ?_
  exact ⟨none, none, 0, 0, rfl, Rd.nil _ _ _, Rd.nil _ _ _, Nat.zero_le _, Nat.zero_le _, bel_set2 (by repeat (first | (with_reducible exact Below.refl _ _) | (with_reducible assumption) | (with_reducible exact bel_box _) | (with_reducible refine bel_step ?_ (by with_reducible assumption)) | (with_reducible refine Below.drew ?_) | (with_reducible refine below_drewN ?_ _) | (with_reducible refine bel_alloc ?_ _))) (by omega) _ _, Nw.nil _ _, Nw.nil _ _⟩
set_option maxHeartbeats 1000000 in
theorem on_bad (A B A' B' : Option Addr) (c d c' d' : Nat) (h l h' l' : List Bool) (w : World)
    (hh : h.length ≤ 140737488355328) (hl : l.length ≤ 140737488355328) (hh' : h'.length ≤ 140737488355328) (hl' : l'.length ≤ 140737488355328) (hck : ¬ ck2 h l h' l' = 0) :
    Calls Try.prog 28 #[.agg #[.slice A h.length c, .slice B l.length d], .agg #[.slice A' h'.length c', .slice B' l'.length d']] w (NewWE ([], []) (ck2 h l h' l') w) := by
  have hd : (ck2 h l h' l' != 0) = true := by simpa using hck
  have bo := Lib.hid (both_any A B A' B' c d c' d' h l h' l')
  generalize ck2 h l h' l' = er at *
  clear hck
  go_enter Try.func28, Try.ntmps28
  go_wp2_with (go_at_call 42; refine (bo.out _ hh hl hh' hl').mono ?_; rintro e w1 ⟨rfl, hb1⟩; obtain ⟨hr0, hr1, hr2, hr3⟩ := box3r hb1)
  obtain ⟨k0, k1⟩ := set2_cells hr0 hr1 (.slice none 0 0) (.slice none 0 0)
  refine bodyPost_ret (v := .tuple #[.agg #[.slice none 0 0, .slice none 0 0], .int .i64 er]) (by simp [results, Try.results28, go_sem, k0, k1]) rfl ?_
  exact ⟨none, none, 0, 0, rfl, Rd.nil _ _ _, Rd.nil _ _ _, Nat.zero_le _, Nat.zero_le _, bel_set2 (by repeat (first | (with_reducible exact Below.refl _ _) | (with_reducible assumption) | (with_reducible exact bel_box _) | (with_reducible refine bel_step ?_ (by with_reducible assumption)) | (with_reducible refine Below.drew ?_) | (with_reducible refine below_drewN ?_ _) | (with_reducible refine bel_alloc ?_ _))) (by omega) _ _, Nw.nil _ _, Nw.nil _ _⟩
/-- And and On, whatever they are given -/
theorem pand_any (A B A' B' : Option Addr) (c d c' d' : Nat) (h l h' l' : List Bool) (w : World) (hA : Rd w w.heap.size A (bls h)) (hB : Rd w w.heap.size B (bls l)) (hA' : Rd w w.heap.size A' (bls h')) (hB' : Rd w w.heap.size B' (bls l'))
    (hh : h.length ≤ 140737488355328) (hl : l.length ≤ 140737488355328) (hh' : h'.length ≤ 140737488355328) (hl' : l'.length ≤ 140737488355328) :
    Calls Try.prog 26 #[.agg #[.slice A h.length c, .slice B l.length d], .agg #[.slice A' h'.length c', .slice B' l'.length d']] w (NewWE (andR h l h' l') (andE h l h' l') w) := by
  by_cases e : ck2 h l h' l' = 0
  · rw [andR, andE, if_pos e, if_pos e]
    exact and_any A B A' B' c d c' d' h l h' l' w hA hB hA' hB' hh hl hh' hl' e
  · rw [andR, andE, if_neg e, if_neg e]
    exact and_bad A B A' B' c d c' d' h l h' l' w hh hl hh' hl' e
theorem pon_any (A B A' B' : Option Addr) (c d c' d' : Nat) (h l h' l' : List Bool) (w : World) (hA : Rd w w.heap.size A (bls h)) (hB : Rd w w.heap.size B (bls l)) (hA' : Rd w w.heap.size A' (bls h')) (hB' : Rd w w.heap.size B' (bls l'))
    (hh : h.length ≤ 140737488355328) (hl : l.length ≤ 140737488355328) (hh' : h'.length ≤ 140737488355328) (hl' : l'.length ≤ 140737488355328) :
    Calls Try.prog 28 #[.agg #[.slice A h.length c, .slice B l.length d], .agg #[.slice A' h'.length c', .slice B' l'.length d']] w (NewWE (onR h l h' l') (onE h l h' l') w) := by
  by_cases e : ck2 h l h' l' = 0
  · rw [onR, onE, if_pos e, if_pos e]
    exact on_any A B A' B' c d c' d' h l h' l' w hA hB hA' hB' hh hl hh' hl' e
  · rw [onR, onE, if_neg e, if_neg e]
    exact on_bad A B A' B' c d c' d' h l h' l' w hh hl hh' hl' e
end Go.Proofs.Ytimecbkfeennpaa
