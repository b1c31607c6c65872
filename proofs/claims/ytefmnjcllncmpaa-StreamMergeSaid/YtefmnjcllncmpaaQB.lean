/- Texts of one chain, in one file. -/
import Derived.Deep.RegionHeld3
import Derived.Laws.StructEq
import Derived.KernelRfl
import Derived.Laws.EntriesVeiled
import Derived.Lib.AppendZeros
import Derived.Shelf.Bits.Mul64
import Derived.Test.YtefmnjcllncmpaaProg
import Derived.Laws.CopyRow
import Derived.Laws.CopyOwn
import Derived.Test.YtefmnjcllncmpaaQA
/- The step of Word; Pre, Arrow, Fby, Word of the program. -/
namespace Go.Proofs.Ytefmnjcllncmpaa
set_option linter.unusedVariables false
set_option linter.unusedSimpArgs false
open Go.RowKit
def wordS (h l : List Bool) (k : Int) (r : List (Int × Int)) : Int × (Int × Int) := if jnt r then (if bw.ck h l = 0 then (wrap64 (k + 1), (1, if bw.att h l k then 1 else 0)) else (k, (2, 0))) else (k, (0, 0))
set_option maxHeartbeats 4000000 in
theorem word1_any (A B : Option Addr) (c d : Nat) (h l : List Bool) (k : Int) (pv pw : Addr) (r : List (Int × Int)) (g : Nat) (w : World) (hr : r.length = 1) (hR : RdC w w.heap.size (some ⟨g, 0, none⟩) r)
    (hA : Rd w w.heap.size A (bls h)) (hB : Rd w w.heap.size B (bls l)) (hh : h.length ≤ 140737488355328) (hl : l.length ≤ 140737488355328)
    (hpv : pv.block < w.heap.size) (hpw : pw.block < w.heap.size) (hk : k ≤ 9223372036854775807) (hv : w.cell? pv = some (.bool (bw.ck h l == 0))) (hw1 : w.cell? pw = some (.slice A h.length c)) (hw2 : w.cell? ⟨pw.block, pw.off + 1, none⟩ = some (.slice B l.length d)) :
    Calls Try.prog 56 #[.int .i64 k, .slice (some ⟨g, 0, none⟩) r.length r.length, .pointer (some pv), .pointer (some pw)] w (Bel (.tuple #[.int .i64 (wordS h l k r).1, cV (wordS h l k r).2]) w) := by
  obtain ⟨⟨x0, y0⟩, rfl⟩ := len1 hr
  have KJ : Hid (∀ W, RdC W W.heap.size (some ⟨g, 0, none⟩) [(x0, y0)] → Calls Try.prog 44 #[.slice (some ⟨g, 0, none⟩) 1 1] W (Bel (.bool (jnt [(x0, y0)])) W)) := Lib.hid fun W h => joint_any (some ⟨g, 0, none⟩) 1 [(x0, y0)] W h (by simp)
  have HR := Lib.hid hR
  have KA : Hid (∀ W, Below w.heap.size w W → Calls Try.prog 57 #[.agg #[.slice A h.length c, .slice B l.length d], .int .i64 k] W (Bel (.bool (bw.att h l k)) W)) := Lib.hid fun W hb => bw.at_any A B c d k h l W (hA.to hb) (hB.to hb) hh hl hk
  have KU := Lib.hid undefined_any
  have KP := Lib.hid present_any
  simp only [List.length_cons, List.length_nil, cV, wordS] at KU KP ⊢
  generalize hj : jnt [(x0, y0)] = j at *
  generalize hat : bw.att h l k = tt at *
  clear hR hr hj hA hB hat
  cases j
  · go_enter Try.func56, Try.ntmps56
    go_wp2_with (first
      | (go_at_call 44; (with_reducible refine (KJ.out _ (HR.out.to ?_)).mono ?_); (focus ((repeat (first | (with_reducible exact Below.refl _ _) | (with_reducible assumption) | (with_reducible exact bel_box _) | (with_reducible refine bel_step ?_ (by with_reducible assumption)) | (with_reducible refine Below.drew ?_) | (with_reducible refine below_drewN ?_ _) | (with_reducible refine bel_alloc ?_ _))); done)); rintro e w1 ⟨rfl, hb1⟩; obtain ⟨q0, q1, q2, q3⟩ := box2 (w := w) (W := w1) (by repeat (first | (with_reducible exact Below.refl _ _) | (with_reducible assumption) | (with_reducible exact bel_box _) | (with_reducible refine bel_step ?_ (by with_reducible assumption)) | (with_reducible refine Below.drew ?_) | (with_reducible refine below_drewN ?_ _) | (with_reducible refine bel_alloc ?_ _))); have v0 := (((by repeat (first | (with_reducible exact Below.refl _ _) | (with_reducible assumption) | (with_reducible exact bel_box _) | (with_reducible refine bel_step ?_ (by with_reducible assumption)) | (with_reducible refine Below.drew ?_) | (with_reducible refine below_drewN ?_ _) | (with_reducible refine bel_alloc ?_ _))) : Below w.heap.size w w1).cell hpv).trans hv; have v1 := (((by repeat (first | (with_reducible exact Below.refl _ _) | (with_reducible assumption) | (with_reducible exact bel_box _) | (with_reducible refine bel_step ?_ (by with_reducible assumption)) | (with_reducible refine Below.drew ?_) | (with_reducible refine below_drewN ?_ _) | (with_reducible refine bel_alloc ?_ _))) : Below w.heap.size w w1).cell hpw).trans hw1; have v2 := (((by repeat (first | (with_reducible exact Below.refl _ _) | (with_reducible assumption) | (with_reducible exact bel_box _) | (with_reducible refine bel_step ?_ (by with_reducible assumption)) | (with_reducible refine Below.drew ?_) | (with_reducible refine below_drewN ?_ _) | (with_reducible refine bel_alloc ?_ _))) : Below w.heap.size w w1).cell (p := ⟨pw.block, pw.off + 1, none⟩) hpw).trans hw2)
      | (go_at_call 57; (with_reducible refine (KA.out _ ?_).mono ?_); (focus ((repeat (first | (with_reducible exact Below.refl _ _) | (with_reducible assumption) | (with_reducible exact bel_box _) | (with_reducible refine bel_step ?_ (by with_reducible assumption)) | (with_reducible refine Below.drew ?_) | (with_reducible refine below_drewN ?_ _) | (with_reducible refine bel_alloc ?_ _))); done)); rintro e w2 ⟨rfl, hb2⟩; clear q0 q1 q2 q3; obtain ⟨q0, q1, q2, q3⟩ := box2 (w := w) (W := w2) (by repeat (first | (with_reducible exact Below.refl _ _) | (with_reducible assumption) | (with_reducible exact bel_box _) | (with_reducible refine bel_step ?_ (by with_reducible assumption)) | (with_reducible refine Below.drew ?_) | (with_reducible refine below_drewN ?_ _) | (with_reducible refine bel_alloc ?_ _))); have v0 := (((by repeat (first | (with_reducible exact Below.refl _ _) | (with_reducible assumption) | (with_reducible exact bel_box _) | (with_reducible refine bel_step ?_ (by with_reducible assumption)) | (with_reducible refine Below.drew ?_) | (with_reducible refine below_drewN ?_ _) | (with_reducible refine bel_alloc ?_ _))) : Below w.heap.size w w2).cell hpv).trans hv; have v1 := (((by repeat (first | (with_reducible exact Below.refl _ _) | (with_reducible assumption) | (with_reducible exact bel_box _) | (with_reducible refine bel_step ?_ (by with_reducible assumption)) | (with_reducible refine Below.drew ?_) | (with_reducible refine below_drewN ?_ _) | (with_reducible refine bel_alloc ?_ _))) : Below w.heap.size w w2).cell hpw).trans hw1; have v2 := (((by repeat (first | (with_reducible exact Below.refl _ _) | (with_reducible assumption) | (with_reducible exact bel_box _) | (with_reducible refine bel_step ?_ (by with_reducible assumption)) | (with_reducible refine Below.drew ?_) | (with_reducible refine below_drewN ?_ _) | (with_reducible refine bel_alloc ?_ _))) : Below w.heap.size w w2).cell (p := ⟨pw.block, pw.off + 1, none⟩) hpw).trans hw2)
      | (go_at_call 45; (with_reducible refine (KU.out _).mono ?_); rintro e w3 ⟨rfl, hb3⟩; clear q0 q1 q2 q3; obtain ⟨q0, q1, q2, q3⟩ := box2 (w := w) (W := w3) (by repeat (first | (with_reducible exact Below.refl _ _) | (with_reducible assumption) | (with_reducible exact bel_box _) | (with_reducible refine bel_step ?_ (by with_reducible assumption)) | (with_reducible refine Below.drew ?_) | (with_reducible refine below_drewN ?_ _) | (with_reducible refine bel_alloc ?_ _))); have v0 := (((by repeat (first | (with_reducible exact Below.refl _ _) | (with_reducible assumption) | (with_reducible exact bel_box _) | (with_reducible refine bel_step ?_ (by with_reducible assumption)) | (with_reducible refine Below.drew ?_) | (with_reducible refine below_drewN ?_ _) | (with_reducible refine bel_alloc ?_ _))) : Below w.heap.size w w3).cell hpv).trans hv; have v1 := (((by repeat (first | (with_reducible exact Below.refl _ _) | (with_reducible assumption) | (with_reducible exact bel_box _) | (with_reducible refine bel_step ?_ (by with_reducible assumption)) | (with_reducible refine Below.drew ?_) | (with_reducible refine below_drewN ?_ _) | (with_reducible refine bel_alloc ?_ _))) : Below w.heap.size w w3).cell hpw).trans hw1; have v2 := (((by repeat (first | (with_reducible exact Below.refl _ _) | (with_reducible assumption) | (with_reducible exact bel_box _) | (with_reducible refine bel_step ?_ (by with_reducible assumption)) | (with_reducible refine Below.drew ?_) | (with_reducible refine below_drewN ?_ _) | (with_reducible refine bel_alloc ?_ _))) : Below w.heap.size w w3).cell (p := ⟨pw.block, pw.off + 1, none⟩) hpw).trans hw2)
      | (go_at_call 42; (with_reducible refine (KP.out _ _).mono ?_); rintro e w4 ⟨rfl, hb4⟩; clear q0 q1 q2 q3; obtain ⟨q0, q1, q2, q3⟩ := box2 (w := w) (W := w4) (by repeat (first | (with_reducible exact Below.refl _ _) | (with_reducible assumption) | (with_reducible exact bel_box _) | (with_reducible refine bel_step ?_ (by with_reducible assumption)) | (with_reducible refine Below.drew ?_) | (with_reducible refine below_drewN ?_ _) | (with_reducible refine bel_alloc ?_ _))); have v0 := (((by repeat (first | (with_reducible exact Below.refl _ _) | (with_reducible assumption) | (with_reducible exact bel_box _) | (with_reducible refine bel_step ?_ (by with_reducible assumption)) | (with_reducible refine Below.drew ?_) | (with_reducible refine below_drewN ?_ _) | (with_reducible refine bel_alloc ?_ _))) : Below w.heap.size w w4).cell hpv).trans hv; have v1 := (((by repeat (first | (with_reducible exact Below.refl _ _) | (with_reducible assumption) | (with_reducible exact bel_box _) | (with_reducible refine bel_step ?_ (by with_reducible assumption)) | (with_reducible refine Below.drew ?_) | (with_reducible refine below_drewN ?_ _) | (with_reducible refine bel_alloc ?_ _))) : Below w.heap.size w w4).cell hpw).trans hw1; have v2 := (((by repeat (first | (with_reducible exact Below.refl _ _) | (with_reducible assumption) | (with_reducible exact bel_box _) | (with_reducible refine bel_step ?_ (by with_reducible assumption)) | (with_reducible refine Below.drew ?_) | (with_reducible refine below_drewN ?_ _) | (with_reducible refine bel_alloc ?_ _))) : Below w.heap.size w w4).cell (p := ⟨pw.block, pw.off + 1, none⟩) hpw).trans hw2))
    obtain ⟨t1, t2⟩ := set2_cells q0 q1 (.int .i64 0) (.int .i64 0)
    refine bodyPost_ret (v := .tuple #[.int .i64 k, cV (0, 0)]) (by simp [results, Try.results56, go_sem, t1, t2, cV]) rfl ⟨rfl, ?_⟩
    first | exact bel_set2 (by repeat (first | (with_reducible exact Below.refl _ _) | (with_reducible assumption) | (with_reducible exact bel_box _) | (with_reducible refine bel_step ?_ (by with_reducible assumption)) | (with_reducible refine Below.drew ?_) | (with_reducible refine below_drewN ?_ _) | (with_reducible refine bel_alloc ?_ _))) (Nat.le_refl _) _ _ | exact Below.drew (bel_set2 (by repeat (first | (with_reducible exact Below.refl _ _) | (with_reducible assumption) | (with_reducible exact bel_box _) | (with_reducible refine bel_step ?_ (by with_reducible assumption)) | (with_reducible refine Below.drew ?_) | (with_reducible refine below_drewN ?_ _) | (with_reducible refine bel_alloc ?_ _))) (Nat.le_refl _) _ _)
  · by_cases hc : bw.ck h l = 0
    · have hcb : (bw.ck h l == 0) = true := by simp [hc]
      rw [hcb] at hv
      rw [if_pos rfl, if_pos hc]
      clear hc hcb
      cases tt
      · go_enter Try.func56, Try.ntmps56
        go_wp2_with (first
      | (go_at_call 44; (with_reducible refine (KJ.out _ (HR.out.to ?_)).mono ?_); (focus ((repeat (first | (with_reducible exact Below.refl _ _) | (with_reducible assumption) | (with_reducible exact bel_box _) | (with_reducible refine bel_step ?_ (by with_reducible assumption)) | (with_reducible refine Below.drew ?_) | (with_reducible refine below_drewN ?_ _) | (with_reducible refine bel_alloc ?_ _))); done)); rintro e w1 ⟨rfl, hb1⟩; obtain ⟨q0, q1, q2, q3⟩ := box2 (w := w) (W := w1) (by repeat (first | (with_reducible exact Below.refl _ _) | (with_reducible assumption) | (with_reducible exact bel_box _) | (with_reducible refine bel_step ?_ (by with_reducible assumption)) | (with_reducible refine Below.drew ?_) | (with_reducible refine below_drewN ?_ _) | (with_reducible refine bel_alloc ?_ _))); have v0 := (((by repeat (first | (with_reducible exact Below.refl _ _) | (with_reducible assumption) | (with_reducible exact bel_box _) | (with_reducible refine bel_step ?_ (by with_reducible assumption)) | (with_reducible refine Below.drew ?_) | (with_reducible refine below_drewN ?_ _) | (with_reducible refine bel_alloc ?_ _))) : Below w.heap.size w w1).cell hpv).trans hv; have v1 := (((by repeat (first | (with_reducible exact Below.refl _ _) | (with_reducible assumption) | (with_reducible exact bel_box _) | (with_reducible refine bel_step ?_ (by with_reducible assumption)) | (with_reducible refine Below.drew ?_) | (with_reducible refine below_drewN ?_ _) | (with_reducible refine bel_alloc ?_ _))) : Below w.heap.size w w1).cell hpw).trans hw1; have v2 := (((by repeat (first | (with_reducible exact Below.refl _ _) | (with_reducible assumption) | (with_reducible exact bel_box _) | (with_reducible refine bel_step ?_ (by with_reducible assumption)) | (with_reducible refine Below.drew ?_) | (with_reducible refine below_drewN ?_ _) | (with_reducible refine bel_alloc ?_ _))) : Below w.heap.size w w1).cell (p := ⟨pw.block, pw.off + 1, none⟩) hpw).trans hw2)
      | (go_at_call 57; (with_reducible refine (KA.out _ ?_).mono ?_); (focus ((repeat (first | (with_reducible exact Below.refl _ _) | (with_reducible assumption) | (with_reducible exact bel_box _) | (with_reducible refine bel_step ?_ (by with_reducible assumption)) | (with_reducible refine Below.drew ?_) | (with_reducible refine below_drewN ?_ _) | (with_reducible refine bel_alloc ?_ _))); done)); rintro e w2 ⟨rfl, hb2⟩; clear q0 q1 q2 q3; obtain ⟨q0, q1, q2, q3⟩ := box2 (w := w) (W := w2) (by repeat (first | (with_reducible exact Below.refl _ _) | (with_reducible assumption) | (with_reducible exact bel_box _) | (with_reducible refine bel_step ?_ (by with_reducible assumption)) | (with_reducible refine Below.drew ?_) | (with_reducible refine below_drewN ?_ _) | (with_reducible refine bel_alloc ?_ _))); have v0 := (((by repeat (first | (with_reducible exact Below.refl _ _) | (with_reducible assumption) | (with_reducible exact bel_box _) | (with_reducible refine bel_step ?_ (by with_reducible assumption)) | (with_reducible refine Below.drew ?_) | (with_reducible refine below_drewN ?_ _) | (with_reducible refine bel_alloc ?_ _))) : Below w.heap.size w w2).cell hpv).trans hv; have v1 := (((by repeat (first | (with_reducible exact Below.refl _ _) | (with_reducible assumption) | (with_reducible exact bel_box _) | (with_reducible refine bel_step ?_ (by with_reducible assumption)) | (with_reducible refine Below.drew ?_) | (with_reducible refine below_drewN ?_ _) | (with_reducible refine bel_alloc ?_ _))) : Below w.heap.size w w2).cell hpw).trans hw1; have v2 := (((by repeat (first | (with_reducible exact Below.refl _ _) | (with_reducible assumption) | (with_reducible exact bel_box _) | (with_reducible refine bel_step ?_ (by with_reducible assumption)) | (with_reducible refine Below.drew ?_) | (with_reducible refine below_drewN ?_ _) | (with_reducible refine bel_alloc ?_ _))) : Below w.heap.size w w2).cell (p := ⟨pw.block, pw.off + 1, none⟩) hpw).trans hw2)
      | (go_at_call 45; (with_reducible refine (KU.out _).mono ?_); rintro e w3 ⟨rfl, hb3⟩; clear q0 q1 q2 q3; obtain ⟨q0, q1, q2, q3⟩ := box2 (w := w) (W := w3) (by repeat (first | (with_reducible exact Below.refl _ _) | (with_reducible assumption) | (with_reducible exact bel_box _) | (with_reducible refine bel_step ?_ (by with_reducible assumption)) | (with_reducible refine Below.drew ?_) | (with_reducible refine below_drewN ?_ _) | (with_reducible refine bel_alloc ?_ _))); have v0 := (((by repeat (first | (with_reducible exact Below.refl _ _) | (with_reducible assumption) | (with_reducible exact bel_box _) | (with_reducible refine bel_step ?_ (by with_reducible assumption)) | (with_reducible refine Below.drew ?_) | (with_reducible refine below_drewN ?_ _) | (with_reducible refine bel_alloc ?_ _))) : Below w.heap.size w w3).cell hpv).trans hv; have v1 := (((by repeat (first | (with_reducible exact Below.refl _ _) | (with_reducible assumption) | (with_reducible exact bel_box _) | (with_reducible refine bel_step ?_ (by with_reducible assumption)) | (with_reducible refine Below.drew ?_) | (with_reducible refine below_drewN ?_ _) | (with_reducible refine bel_alloc ?_ _))) : Below w.heap.size w w3).cell hpw).trans hw1; have v2 := (((by repeat (first | (with_reducible exact Below.refl _ _) | (with_reducible assumption) | (with_reducible exact bel_box _) | (with_reducible refine bel_step ?_ (by with_reducible assumption)) | (with_reducible refine Below.drew ?_) | (with_reducible refine below_drewN ?_ _) | (with_reducible refine bel_alloc ?_ _))) : Below w.heap.size w w3).cell (p := ⟨pw.block, pw.off + 1, none⟩) hpw).trans hw2)
      | (go_at_call 42; (with_reducible refine (KP.out _ _).mono ?_); rintro e w4 ⟨rfl, hb4⟩; clear q0 q1 q2 q3; obtain ⟨q0, q1, q2, q3⟩ := box2 (w := w) (W := w4) (by repeat (first | (with_reducible exact Below.refl _ _) | (with_reducible assumption) | (with_reducible exact bel_box _) | (with_reducible refine bel_step ?_ (by with_reducible assumption)) | (with_reducible refine Below.drew ?_) | (with_reducible refine below_drewN ?_ _) | (with_reducible refine bel_alloc ?_ _))); have v0 := (((by repeat (first | (with_reducible exact Below.refl _ _) | (with_reducible assumption) | (with_reducible exact bel_box _) | (with_reducible refine bel_step ?_ (by with_reducible assumption)) | (with_reducible refine Below.drew ?_) | (with_reducible refine below_drewN ?_ _) | (with_reducible refine bel_alloc ?_ _))) : Below w.heap.size w w4).cell hpv).trans hv; have v1 := (((by repeat (first | (with_reducible exact Below.refl _ _) | (with_reducible assumption) | (with_reducible exact bel_box _) | (with_reducible refine bel_step ?_ (by with_reducible assumption)) | (with_reducible refine Below.drew ?_) | (with_reducible refine below_drewN ?_ _) | (with_reducible refine bel_alloc ?_ _))) : Below w.heap.size w w4).cell hpw).trans hw1; have v2 := (((by repeat (first | (with_reducible exact Below.refl _ _) | (with_reducible assumption) | (with_reducible exact bel_box _) | (with_reducible refine bel_step ?_ (by with_reducible assumption)) | (with_reducible refine Below.drew ?_) | (with_reducible refine below_drewN ?_ _) | (with_reducible refine bel_alloc ?_ _))) : Below w.heap.size w w4).cell (p := ⟨pw.block, pw.off + 1, none⟩) hpw).trans hw2))
        obtain ⟨t1, t2⟩ := set2_cells q0 q1 (.int .i64 1) (.int .i64 0)
        refine bodyPost_ret (v := .tuple #[.int .i64 (wrap64 (k + 1)), cV (1, 0)]) (by simp [results, Try.results56, go_sem, t1, t2, cV]) rfl ⟨rfl, ?_⟩
        first | exact bel_set2 (by repeat (first | (with_reducible exact Below.refl _ _) | (with_reducible assumption) | (with_reducible exact bel_box _) | (with_reducible refine bel_step ?_ (by with_reducible assumption)) | (with_reducible refine Below.drew ?_) | (with_reducible refine below_drewN ?_ _) | (with_reducible refine bel_alloc ?_ _))) (Nat.le_refl _) _ _ | exact Below.drew (bel_set2 (by repeat (first | (with_reducible exact Below.refl _ _) | (with_reducible assumption) | (with_reducible exact bel_box _) | (with_reducible refine bel_step ?_ (by with_reducible assumption)) | (with_reducible refine Below.drew ?_) | (with_reducible refine below_drewN ?_ _) | (with_reducible refine bel_alloc ?_ _))) (Nat.le_refl _) _ _)
      · go_enter Try.func56, Try.ntmps56
        go_wp2_with (first
      | (go_at_call 44; (with_reducible refine (KJ.out _ (HR.out.to ?_)).mono ?_); (focus ((repeat (first | (with_reducible exact Below.refl _ _) | (with_reducible assumption) | (with_reducible exact bel_box _) | (with_reducible refine bel_step ?_ (by with_reducible assumption)) | (with_reducible refine Below.drew ?_) | (with_reducible refine below_drewN ?_ _) | (with_reducible refine bel_alloc ?_ _))); done)); rintro e w1 ⟨rfl, hb1⟩; obtain ⟨q0, q1, q2, q3⟩ := box2 (w := w) (W := w1) (by repeat (first | (with_reducible exact Below.refl _ _) | (with_reducible assumption) | (with_reducible exact bel_box _) | (with_reducible refine bel_step ?_ (by with_reducible assumption)) | (with_reducible refine Below.drew ?_) | (with_reducible refine below_drewN ?_ _) | (with_reducible refine bel_alloc ?_ _))); have v0 := (((by repeat (first | (with_reducible exact Below.refl _ _) | (with_reducible assumption) | (with_reducible exact bel_box _) | (with_reducible refine bel_step ?_ (by with_reducible assumption)) | (with_reducible refine Below.drew ?_) | (with_reducible refine below_drewN ?_ _) | (with_reducible refine bel_alloc ?_ _))) : Below w.heap.size w w1).cell hpv).trans hv; have v1 := (((by repeat (first | (with_reducible exact Below.refl _ _) | (with_reducible assumption) | (with_reducible exact bel_box _) | (with_reducible refine bel_step ?_ (by with_reducible assumption)) | (with_reducible refine Below.drew ?_) | (with_reducible refine below_drewN ?_ _) | (with_reducible refine bel_alloc ?_ _))) : Below w.heap.size w w1).cell hpw).trans hw1; have v2 := (((by repeat (first | (with_reducible exact Below.refl _ _) | (with_reducible assumption) | (with_reducible exact bel_box _) | (with_reducible refine bel_step ?_ (by with_reducible assumption)) | (with_reducible refine Below.drew ?_) | (with_reducible refine below_drewN ?_ _) | (with_reducible refine bel_alloc ?_ _))) : Below w.heap.size w w1).cell (p := ⟨pw.block, pw.off + 1, none⟩) hpw).trans hw2)
      | (go_at_call 57; (with_reducible refine (KA.out _ ?_).mono ?_); (focus ((repeat (first | (with_reducible exact Below.refl _ _) | (with_reducible assumption) | (with_reducible exact bel_box _) | (with_reducible refine bel_step ?_ (by with_reducible assumption)) | (with_reducible refine Below.drew ?_) | (with_reducible refine below_drewN ?_ _) | (with_reducible refine bel_alloc ?_ _))); done)); rintro e w2 ⟨rfl, hb2⟩; clear q0 q1 q2 q3; obtain ⟨q0, q1, q2, q3⟩ := box2 (w := w) (W := w2) (by repeat (first | (with_reducible exact Below.refl _ _) | (with_reducible assumption) | (with_reducible exact bel_box _) | (with_reducible refine bel_step ?_ (by with_reducible assumption)) | (with_reducible refine Below.drew ?_) | (with_reducible refine below_drewN ?_ _) | (with_reducible refine bel_alloc ?_ _))); have v0 := (((by repeat (first | (with_reducible exact Below.refl _ _) | (with_reducible assumption) | (with_reducible exact bel_box _) | (with_reducible refine bel_step ?_ (by with_reducible assumption)) | (with_reducible refine Below.drew ?_) | (with_reducible refine below_drewN ?_ _) | (with_reducible refine bel_alloc ?_ _))) : Below w.heap.size w w2).cell hpv).trans hv; have v1 := (((by repeat (first | (with_reducible exact Below.refl _ _) | (with_reducible assumption) | (with_reducible exact bel_box _) | (with_reducible refine bel_step ?_ (by with_reducible assumption)) | (with_reducible refine Below.drew ?_) | (with_reducible refine below_drewN ?_ _) | (with_reducible refine bel_alloc ?_ _))) : Below w.heap.size w w2).cell hpw).trans hw1; have v2 := (((by repeat (first | (with_reducible exact Below.refl _ _) | (with_reducible assumption) | (with_reducible exact bel_box _) | (with_reducible refine bel_step ?_ (by with_reducible assumption)) | (with_reducible refine Below.drew ?_) | (with_reducible refine below_drewN ?_ _) | (with_reducible refine bel_alloc ?_ _))) : Below w.heap.size w w2).cell (p := ⟨pw.block, pw.off + 1, none⟩) hpw).trans hw2)
      | (go_at_call 45; (with_reducible refine (KU.out _).mono ?_); rintro e w3 ⟨rfl, hb3⟩; clear q0 q1 q2 q3; obtain ⟨q0, q1, q2, q3⟩ := box2 (w := w) (W := w3) (by repeat (first | (with_reducible exact Below.refl _ _) | (with_reducible assumption) | (with_reducible exact bel_box _) | (with_reducible refine bel_step ?_ (by with_reducible assumption)) | (with_reducible refine Below.drew ?_) | (with_reducible refine below_drewN ?_ _) | (with_reducible refine bel_alloc ?_ _))); have v0 := (((by repeat (first | (with_reducible exact Below.refl _ _) | (with_reducible assumption) | (with_reducible exact bel_box _) | (with_reducible refine bel_step ?_ (by with_reducible assumption)) | (with_reducible refine Below.drew ?_) | (with_reducible refine below_drewN ?_ _) | (with_reducible refine bel_alloc ?_ _))) : Below w.heap.size w w3).cell hpv).trans hv; have v1 := (((by repeat (first | (with_reducible exact Below.refl _ _) | (with_reducible assumption) | (with_reducible exact bel_box _) | (with_reducible refine bel_step ?_ (by with_reducible assumption)) | (with_reducible refine Below.drew ?_) | (with_reducible refine below_drewN ?_ _) | (with_reducible refine bel_alloc ?_ _))) : Below w.heap.size w w3).cell hpw).trans hw1; have v2 := (((by repeat (first | (with_reducible exact Below.refl _ _) | (with_reducible assumption) | (with_reducible exact bel_box _) | (with_reducible refine bel_step ?_ (by with_reducible assumption)) | (with_reducible refine Below.drew ?_) | (with_reducible refine below_drewN ?_ _) | (with_reducible refine bel_alloc ?_ _))) : Below w.heap.size w w3).cell (p := ⟨pw.block, pw.off + 1, none⟩) hpw).trans hw2)
      | (go_at_call 42; (with_reducible refine (KP.out _ _).mono ?_); rintro e w4 ⟨rfl, hb4⟩; clear q0 q1 q2 q3; obtain ⟨q0, q1, q2, q3⟩ := box2 (w := w) (W := w4) (by repeat (first | (with_reducible exact Below.refl _ _) | (with_reducible assumption) | (with_reducible exact bel_box _) | (with_reducible refine bel_step ?_ (by with_reducible assumption)) | (with_reducible refine Below.drew ?_) | (with_reducible refine below_drewN ?_ _) | (with_reducible refine bel_alloc ?_ _))); have v0 := (((by repeat (first | (with_reducible exact Below.refl _ _) | (with_reducible assumption) | (with_reducible exact bel_box _) | (with_reducible refine bel_step ?_ (by with_reducible assumption)) | (with_reducible refine Below.drew ?_) | (with_reducible refine below_drewN ?_ _) | (with_reducible refine bel_alloc ?_ _))) : Below w.heap.size w w4).cell hpv).trans hv; have v1 := (((by repeat (first | (with_reducible exact Below.refl _ _) | (with_reducible assumption) | (with_reducible exact bel_box _) | (with_reducible refine bel_step ?_ (by with_reducible assumption)) | (with_reducible refine Below.drew ?_) | (with_reducible refine below_drewN ?_ _) | (with_reducible refine bel_alloc ?_ _))) : Below w.heap.size w w4).cell hpw).trans hw1; have v2 := (((by repeat (first | (with_reducible exact Below.refl _ _) | (with_reducible assumption) | (with_reducible exact bel_box _) | (with_reducible refine bel_step ?_ (by with_reducible assumption)) | (with_reducible refine Below.drew ?_) | (with_reducible refine below_drewN ?_ _) | (with_reducible refine bel_alloc ?_ _))) : Below w.heap.size w w4).cell (p := ⟨pw.block, pw.off + 1, none⟩) hpw).trans hw2))
        obtain ⟨t1, t2⟩ := set2_cells q0 q1 (.int .i64 1) (.int .i64 1)
        refine bodyPost_ret (v := .tuple #[.int .i64 (wrap64 (k + 1)), cV (1, 1)]) (by simp [results, Try.results56, go_sem, t1, t2, cV]) rfl ⟨rfl, ?_⟩
        first | exact bel_set2 (by repeat (first | (with_reducible exact Below.refl _ _) | (with_reducible assumption) | (with_reducible exact bel_box _) | (with_reducible refine bel_step ?_ (by with_reducible assumption)) | (with_reducible refine Below.drew ?_) | (with_reducible refine below_drewN ?_ _) | (with_reducible refine bel_alloc ?_ _))) (Nat.le_refl _) _ _ | exact Below.drew (bel_set2 (by repeat (first | (with_reducible exact Below.refl _ _) | (with_reducible assumption) | (with_reducible exact bel_box _) | (with_reducible refine bel_step ?_ (by with_reducible assumption)) | (with_reducible refine Below.drew ?_) | (with_reducible refine below_drewN ?_ _) | (with_reducible refine bel_alloc ?_ _))) (Nat.le_refl _) _ _)
    · have hcb : (bw.ck h l == 0) = false := by simp [hc]
      rw [hcb] at hv
      rw [if_pos rfl, if_neg hc]
      clear hc hcb
      go_enter Try.func56, Try.ntmps56
      go_wp2_with (first
      | (go_at_call 44; (with_reducible refine (KJ.out _ (HR.out.to ?_)).mono ?_); (focus ((repeat (first | (with_reducible exact Below.refl _ _) | (with_reducible assumption) | (with_reducible exact bel_box _) | (with_reducible refine bel_step ?_ (by with_reducible assumption)) | (with_reducible refine Below.drew ?_) | (with_reducible refine below_drewN ?_ _) | (with_reducible refine bel_alloc ?_ _))); done)); rintro e w1 ⟨rfl, hb1⟩; obtain ⟨q0, q1, q2, q3⟩ := box2 (w := w) (W := w1) (by repeat (first | (with_reducible exact Below.refl _ _) | (with_reducible assumption) | (with_reducible exact bel_box _) | (with_reducible refine bel_step ?_ (by with_reducible assumption)) | (with_reducible refine Below.drew ?_) | (with_reducible refine below_drewN ?_ _) | (with_reducible refine bel_alloc ?_ _))); have v0 := (((by repeat (first | (with_reducible exact Below.refl _ _) | (with_reducible assumption) | (with_reducible exact bel_box _) | (with_reducible refine bel_step ?_ (by with_reducible assumption)) | (with_reducible refine Below.drew ?_) | (with_reducible refine below_drewN ?_ _) | (with_reducible refine bel_alloc ?_ _))) : Below w.heap.size w w1).cell hpv).trans hv; have v1 := (((by repeat (first | (with_reducible exact Below.refl _ _) | (with_reducible assumption) | (with_reducible exact bel_box _) | (with_reducible refine bel_step ?_ (by with_reducible assumption)) | (with_reducible refine Below.drew ?_) | (with_reducible refine below_drewN ?_ _) | (with_reducible refine bel_alloc ?_ _))) : Below w.heap.size w w1).cell hpw).trans hw1; have v2 := (((by repeat (first | (with_reducible exact Below.refl _ _) | (with_reducible assumption) | (with_reducible exact bel_box _) | (with_reducible refine bel_step ?_ (by with_reducible assumption)) | (with_reducible refine Below.drew ?_) | (with_reducible refine below_drewN ?_ _) | (with_reducible refine bel_alloc ?_ _))) : Below w.heap.size w w1).cell (p := ⟨pw.block, pw.off + 1, none⟩) hpw).trans hw2)
      | (go_at_call 57; (with_reducible refine (KA.out _ ?_).mono ?_); (focus ((repeat (first | (with_reducible exact Below.refl _ _) | (with_reducible assumption) | (with_reducible exact bel_box _) | (with_reducible refine bel_step ?_ (by with_reducible assumption)) | (with_reducible refine Below.drew ?_) | (with_reducible refine below_drewN ?_ _) | (with_reducible refine bel_alloc ?_ _))); done)); rintro e w2 ⟨rfl, hb2⟩; clear q0 q1 q2 q3; obtain ⟨q0, q1, q2, q3⟩ := box2 (w := w) (W := w2) (by repeat (first | (with_reducible exact Below.refl _ _) | (with_reducible assumption) | (with_reducible exact bel_box _) | (with_reducible refine bel_step ?_ (by with_reducible assumption)) | (with_reducible refine Below.drew ?_) | (with_reducible refine below_drewN ?_ _) | (with_reducible refine bel_alloc ?_ _))); have v0 := (((by repeat (first | (with_reducible exact Below.refl _ _) | (with_reducible assumption) | (with_reducible exact bel_box _) | (with_reducible refine bel_step ?_ (by with_reducible assumption)) | (with_reducible refine Below.drew ?_) | (with_reducible refine below_drewN ?_ _) | (with_reducible refine bel_alloc ?_ _))) : Below w.heap.size w w2).cell hpv).trans hv; have v1 := (((by repeat (first | (with_reducible exact Below.refl _ _) | (with_reducible assumption) | (with_reducible exact bel_box _) | (with_reducible refine bel_step ?_ (by with_reducible assumption)) | (with_reducible refine Below.drew ?_) | (with_reducible refine below_drewN ?_ _) | (with_reducible refine bel_alloc ?_ _))) : Below w.heap.size w w2).cell hpw).trans hw1; have v2 := (((by repeat (first | (with_reducible exact Below.refl _ _) | (with_reducible assumption) | (with_reducible exact bel_box _) | (with_reducible refine bel_step ?_ (by with_reducible assumption)) | (with_reducible refine Below.drew ?_) | (with_reducible refine below_drewN ?_ _) | (with_reducible refine bel_alloc ?_ _))) : Below w.heap.size w w2).cell (p := ⟨pw.block, pw.off + 1, none⟩) hpw).trans hw2)
      | (go_at_call 45; (with_reducible refine (KU.out _).mono ?_); rintro e w3 ⟨rfl, hb3⟩; clear q0 q1 q2 q3; obtain ⟨q0, q1, q2, q3⟩ := box2 (w := w) (W := w3) (by repeat (first | (with_reducible exact Below.refl _ _) | (with_reducible assumption) | (with_reducible exact bel_box _) | (with_reducible refine bel_step ?_ (by with_reducible assumption)) | (with_reducible refine Below.drew ?_) | (with_reducible refine below_drewN ?_ _) | (with_reducible refine bel_alloc ?_ _))); have v0 := (((by repeat (first | (with_reducible exact Below.refl _ _) | (with_reducible assumption) | (with_reducible exact bel_box _) | (with_reducible refine bel_step ?_ (by with_reducible assumption)) | (with_reducible refine Below.drew ?_) | (with_reducible refine below_drewN ?_ _) | (with_reducible refine bel_alloc ?_ _))) : Below w.heap.size w w3).cell hpv).trans hv; have v1 := (((by repeat (first | (with_reducible exact Below.refl _ _) | (with_reducible assumption) | (with_reducible exact bel_box _) | (with_reducible refine bel_step ?_ (by with_reducible assumption)) | (with_reducible refine Below.drew ?_) | (with_reducible refine below_drewN ?_ _) | (with_reducible refine bel_alloc ?_ _))) : Below w.heap.size w w3).cell hpw).trans hw1; have v2 := (((by repeat (first | (with_reducible exact Below.refl _ _) | (with_reducible assumption) | (with_reducible exact bel_box _) | (with_reducible refine bel_step ?_ (by with_reducible assumption)) | (with_reducible refine Below.drew ?_) | (with_reducible refine below_drewN ?_ _) | (with_reducible refine bel_alloc ?_ _))) : Below w.heap.size w w3).cell (p := ⟨pw.block, pw.off + 1, none⟩) hpw).trans hw2)
      | (go_at_call 42; (with_reducible refine (KP.out _ _).mono ?_); rintro e w4 ⟨rfl, hb4⟩; clear q0 q1 q2 q3; obtain ⟨q0, q1, q2, q3⟩ := box2 (w := w) (W := w4) (by repeat (first | (with_reducible exact Below.refl _ _) | (with_reducible assumption) | (with_reducible exact bel_box _) | (with_reducible refine bel_step ?_ (by with_reducible assumption)) | (with_reducible refine Below.drew ?_) | (with_reducible refine below_drewN ?_ _) | (with_reducible refine bel_alloc ?_ _))); have v0 := (((by repeat (first | (with_reducible exact Below.refl _ _) | (with_reducible assumption) | (with_reducible exact bel_box _) | (with_reducible refine bel_step ?_ (by with_reducible assumption)) | (with_reducible refine Below.drew ?_) | (with_reducible refine below_drewN ?_ _) | (with_reducible refine bel_alloc ?_ _))) : Below w.heap.size w w4).cell hpv).trans hv; have v1 := (((by repeat (first | (with_reducible exact Below.refl _ _) | (with_reducible assumption) | (with_reducible exact bel_box _) | (with_reducible refine bel_step ?_ (by with_reducible assumption)) | (with_reducible refine Below.drew ?_) | (with_reducible refine below_drewN ?_ _) | (with_reducible refine bel_alloc ?_ _))) : Below w.heap.size w w4).cell hpw).trans hw1; have v2 := (((by repeat (first | (with_reducible exact Below.refl _ _) | (with_reducible assumption) | (with_reducible exact bel_box _) | (with_reducible refine bel_step ?_ (by with_reducible assumption)) | (with_reducible refine Below.drew ?_) | (with_reducible refine below_drewN ?_ _) | (with_reducible refine bel_alloc ?_ _))) : Below w.heap.size w w4).cell (p := ⟨pw.block, pw.off + 1, none⟩) hpw).trans hw2))
      obtain ⟨t1, t2⟩ := set2_cells q0 q1 (.int .i64 2) (.int .i64 0)
      refine bodyPost_ret (v := .tuple #[.int .i64 k, cV (2, 0)]) (by simp [results, Try.results56, go_sem, t1, t2, cV]) rfl ⟨rfl, ?_⟩
      first | exact bel_set2 (by repeat (first | (with_reducible exact Below.refl _ _) | (with_reducible assumption) | (with_reducible exact bel_box _) | (with_reducible refine bel_step ?_ (by with_reducible assumption)) | (with_reducible refine Below.drew ?_) | (with_reducible refine below_drewN ?_ _) | (with_reducible refine bel_alloc ?_ _))) (Nat.le_refl _) _ _ | exact Below.drew (bel_set2 (by repeat (first | (with_reducible exact Below.refl _ _) | (with_reducible assumption) | (with_reducible exact bel_box _) | (with_reducible refine bel_step ?_ (by with_reducible assumption)) | (with_reducible refine Below.drew ?_) | (with_reducible refine below_drewN ?_ _) | (with_reducible refine bel_alloc ?_ _))) (Nat.le_refl _) _ _)
end Go.Proofs.Ytefmnjcllncmpaa
/- combine of stream.combine[struct{}] with stream.each$1. -/
namespace Go.Proofs.Ytefmnjcllncmpaa
set_option linter.unusedVariables false
set_option linter.unusedSimpArgs false
open Go.RowKit
set_option maxHeartbeats 8000000 in
set_option maxRecDepth 20000 in
theorem combine_e (p0 : Value) (A : Option Addr) (c : Nat) (ls : List St) (s0 : Unit) (stp : Unit → List (Int × Int) → (Unit) × (Int × Int)) (w : World) (hA : RdS w w.heap.size A ls) (hl : ls.length ≤ 100) (h0 : 0 < ls.length) (h3 : ∀ s ∈ ls, s.l.length ≤ 1000000)
    (K : Hid (∀ (s : Unit) (r : List (Int × Int)) (g : Nat) (W : World), r.length = ls.length → RdC W W.heap.size (some ⟨g, 0, none⟩) r → Below w.heap.size w W → Calls Try.prog 61 #[.agg #[], .slice (some ⟨g, 0, none⟩) r.length r.length, p0] W (Bel (.tuple #[.agg #[], cV (stp s r).2]) W))) :
    Calls Try.prog 62 #[.agg #[], .func (.func 61) #[] #[p0], .slice A ls.length c] w (NewC (outT stp s0 ls (tog ls)) w) := by
  obtain ⟨ad0, a, rfl, had0, ha, hc0, _⟩ := hA.at_ (k := 0) (by omega)
  rw [add_zero'] at hc0
  rw [tog_head ha]
  have ha3 := h3 a (List.mem_of_getElem? ha)
  have HA := Lib.hid hA
  have H3 := Lib.hid h3
  have KP := Lib.hid plain_any
  simp only [cV] at K KP
  have g0 : ((ls.length : Int) == 0) = false := beq_eq_false_iff_ne.2 (by omega)
  have hz := add_zero' ad0
  clear hA h3 ha
  go_enter Try.func62, Try.ntmps62
  go_wp2
  go_loopw [7, 24] (fun n i wr => ∃ k : Nat, k ≤ ls.length ∧ i = .int .i64 (k : Int) ∧ n = .int .i64 ((togF a.l.length (ls.take k) : Nat) : Int) ∧ Hid (Bk wr w.heap.size 69 #[]) ∧ Below w.heap.size w wr) (fun _ i _ => ls.length - (intOf i).toNat)
  case atStart => exact ⟨0, by omega, rfl, rfl, Lib.hid (Bk.new _ _ _), (by repeat (first | (with_reducible exact Below.refl _ _) | (with_reducible assumption) | (with_reducible exact bel_box _) | (with_reducible refine bel_step ?_ (by with_reducible assumption)) | (with_reducible refine Below.drew ?_) | (with_reducible refine below_drewN ?_ _) | (with_reducible refine bel_alloc ?_ _)))⟩
  case round =>
    obtain ⟨k, hk, rfl, rfl, hSB, hbl⟩ := hrel
    by_cases hlt : k < ls.length
    · obtain ⟨ad, s, hA, had, hs, hc, _⟩ := (HA.out.to hbl).at_ hlt
      obtain rfl : ad0 = ad := by simpa using hA
      have hm := H3.out s (List.mem_of_getElem? hs)
      have HT := Lib.hid (togF_take (n := a.l.length) hs)
      have hn := (togF_le (ls.take k) a.l.length).1
      clear hs hA K
      generalize togF a.l.length (ls.take k) = n at *
      generalize hsl : s.l.length = m at *
      clear hsl
      go_wp2
      go_roundw
      case rel => exact ⟨k + 1, by omega, by go_num, by rw [HT.out]; exact congrArg _ (by split <;> omega), hSB, (by repeat (first | (with_reducible exact Below.refl _ _) | (with_reducible assumption) | (with_reducible exact bel_box _) | (with_reducible refine bel_step ?_ (by with_reducible assumption)) | (with_reducible refine Below.drew ?_) | (with_reducible refine below_drewN ?_ _) | (with_reducible refine bel_alloc ?_ _)))⟩
      case measure => simp [intOf]; omega
    · obtain rfl : k = ls.length := by omega
      rw [List.take_length]
      have hn := (togF_le ls a.l.length).1
      have HTOG := Lib.hid (togF_le ls a.l.length).2
      generalize togF a.l.length ls = n at *
      have m1 := mk_cells n (by omega) wr
      have m2 := mk_cells ls.length (by omega) (wr.alloc (.cells (fl (List.replicate n (0, 0))).toArray 46))
      clear hc0 hz
      go_wp2
      clear m1 m2
      have hws := Bk.lt hSB.out
      have hB10 : Bc ((wr.alloc (.cells (fl (List.replicate n (0, 0))).toArray 46)).alloc (.cells (fl (List.replicate ls.length (0, 0))).toArray 46)) wr.heap.size (List.replicate n (0, 0)) := (Bk.new wr 46 _).alloc _
      have hB20 : Bc ((wr.alloc (.cells (fl (List.replicate n (0, 0))).toArray 46)).alloc (.cells (fl (List.replicate ls.length (0, 0))).toArray 46)) (wr.heap.size + 1) (List.replicate ls.length (0, 0)) := by
        have h := Bk.new (wr.alloc (.cells (fl (List.replicate n (0, 0))).toArray 46)) 46 (fl (List.replicate ls.length (0, 0))).toArray
        rwa [World.size_alloc] at h
      have hSB0 := (hSB.out.alloc (.cells (fl (List.replicate n (0, 0))).toArray 46)).alloc (.cells (fl (List.replicate ls.length (0, 0))).toArray 46)
      generalize wr.heap.size = G at *
      have hne : ¬ w.heap.size = G := by omega
      have hne2 : ¬ G = w.heap.size := by omega
      have hne3 : ¬ w.heap.size = G + 1 := by omega
      go_loopw [39] (fun i W => ∃ (t : Nat) (cs : List (Int × Int)), t ≤ n ∧ i = .int .i64 (t : Int) ∧ Hid (Bk W w.heap.size 69 #[]) ∧ cs.length = ls.length ∧ Hid (Bc W G (outT stp s0 ls t ++ List.replicate (n - t) (0, 0))) ∧ Hid (Bc W (G + 1) cs) ∧ Below w.heap.size w W) (fun i _ => n - (intOf i).toNat)
      case atStart => exact ⟨0, List.replicate ls.length (0, 0), by omega, rfl, Lib.hid hSB0, by simp, Lib.hid hB10, Lib.hid hB20, (by repeat (first | (with_reducible exact Below.refl _ _) | (with_reducible assumption) | (with_reducible exact bel_box _) | (with_reducible refine bel_step ?_ (by with_reducible assumption)) | (with_reducible refine Below.drew ?_) | (with_reducible refine below_drewN ?_ _) | (with_reducible refine bel_alloc ?_ _)))⟩
      case round =>
        obtain ⟨t, cs, ht, rfl, hST, hcs, hB1, hB2, hbW⟩ := hrel
        by_cases htn : t < n
        · go_wp2
          go_loopw [44] (fun i W => ∃ k : Nat, k ≤ ls.length ∧ i = .int .i64 (k : Int) ∧ Hid (Bk W w.heap.size 69 #[]) ∧ Hid (Bc W G (outT stp s0 ls t ++ List.replicate (n - t) (0, 0))) ∧ Hid (Bc W (G + 1) ((rowAt ls t).take k ++ cs.drop k)) ∧ Below w.heap.size w W) (fun i _ => ls.length - (intOf i).toNat)
          case atStart => exact ⟨0, by omega, rfl, hST, hB1, Lib.hid (by simpa using hB2.out), hbW⟩
          case round =>
            obtain ⟨k, hk, rfl, hSX, hD1, hD2, hbX⟩ := hrel
            by_cases hkl : k < ls.length
            · obtain ⟨ad, s, hA, had, hs, hc, hR⟩ := (HA.out.to hbX).at_ hkl
              obtain rfl : ad0 = ad := by simpa using hA
              have hm := H3.out s (List.mem_of_getElem? hs)
              have htl : t < s.l.length := by have := HTOG.out s (List.mem_of_getElem? hs); omega
              obtain ⟨ad2, e, hA2, hadb2, he, hc1, hc2⟩ := hR.at_ htl
              rw [hA2] at hc
              have hg : s.l.getD t (0, 0) = e := by rw [List.getD, he]; rfl
              have hrow := rowAt_get t hs
              rw [hg] at hrow
              have hmid := mid_get (m := cs) hrow (by rw [rowAt_length, hcs])
              have HSET := Lib.hid (set_mid hrow (show (rowAt ls t).length = cs.length by rw [rowAt_length, hcs]))
              obtain ⟨d, hd⟩ := hmid
              obtain ⟨d0, d1, d2, d3⟩ := hD2.out.cells hd
              have hlt2 := Bk.lt hD2.out
              have hlt1 := Bk.lt hD1.out
              have KE := Lib.hid (KP.out e)
              generalize pl e = pe at *
              generalize s.l.length = m at *
              clear hs hA2 he hg hrow hR hA K hd
              go_wp2_with (go_at_call 66; (with_reducible refine (KE.out _).mono ?_); rintro ev w1 ⟨rfl, hb1⟩; have q0 := (hb1.cell (p := ⟨G + 1, k * 2, none⟩) hlt2).trans d0; have q1 := (hb1.cell (p := ⟨G + 1, k * 2 + 1, none⟩) hlt2).trans d1; have q2 := (hb1.frozen (p := ⟨G + 1, k * 2, none⟩) hlt2).trans d2; have q3 := (hb1.frozen (p := ⟨G + 1, k * 2 + 1, none⟩) hlt2).trans d3)
              go_roundw
              case rel => exact ⟨k + 1, by omega, by go_num, Lib.hid (((hSX.out.below hb1 (Bk.lt hSX.out)).far (p := ⟨G + 1, _, none⟩) (by simpa using hne3) _).far (p := ⟨G + 1, _, none⟩) (by simpa using hne3) _), Lib.hid ((hD1.out.below hb1 hlt1).far2 (by omega) _ _), Lib.hid (by rw [← HSET.out]; exact (hD2.out.below hb1 hlt2).put k pe), bel_two (by repeat (first | (with_reducible exact Below.refl _ _) | (with_reducible assumption) | (with_reducible exact bel_box _) | (with_reducible refine bel_step ?_ (by with_reducible assumption)) | (with_reducible refine Below.drew ?_) | (with_reducible refine below_drewN ?_ _) | (with_reducible refine bel_alloc ?_ _))) (by omega) _ _⟩
              case measure => simp [intOf]; omega
            · obtain rfl : k = ls.length := by omega
              have hD2' := hD2.out
              rw [← rowAt_length ls t, List.take_length, rowAt_length, ← hcs, List.drop_length, List.append_nil] at hD2'
              have HD2 := Lib.hid hD2'
              have KS := Lib.hid (K.out (stT stp s0 ls t) (rowAt ls t) (G + 1))
              have HO := Lib.hid (outT_succ stp s0 ls t)
              have HS := Lib.hid (stT_succ stp s0 ls t)
              rw [rowAt_length] at KS
              generalize stp (stT stp s0 ls t) (rowAt ls t) = q at *
              obtain ⟨qs, q1, q2⟩ := q
              simp only at KS HO HS
              have hget : (outT stp s0 ls t ++ List.replicate (n - t) (0, 0))[t]? = some (0, 0) := by
                rw [List.getElem?_append_right (by rw [outT_length]; omega), outT_length, Nat.sub_self, List.getElem?_replicate, if_pos (by omega)]
              obtain ⟨d0, d1, d2, d3⟩ := hD1.out.cells hget
              have hlt1 := Bk.lt hD1.out
              have hlt2 := Bk.lt hD2.out
              have HSET : Hid ((outT stp s0 ls t ++ List.replicate (n - t) (0, 0)).set t (q1, q2) = outT stp s0 ls (t + 1) ++ List.replicate (n - (t + 1)) (0, 0)) := Lib.hid (by
                rw [HO.out, List.set_append_right _ _ (by rw [outT_length]; omega), outT_length, show n - t = n - (t + 1) + 1 from by omega]
                simp [List.replicate_succ])
              have H31 := Lib.hid (K.out)
              clear hD2 hD2' hget K
              have KX := Lib.hid (KS.out)
              clear KS
              go_wp2_with (go_at_call 61; (with_reducible refine (KX.out _ (by simp [rowAt]) HD2.out.rd hbX).mono ?_); rintro ev w1 ⟨rfl, hb1⟩; have q0 := (hb1.cell (p := ⟨G, t * 2, none⟩) hlt1).trans d0; have q1' := (hb1.cell (p := ⟨G, t * 2 + 1, none⟩) hlt1).trans d1; have q2' := (hb1.frozen (p := ⟨G, t * 2, none⟩) hlt1).trans d2; have q3 := (hb1.frozen (p := ⟨G, t * 2 + 1, none⟩) hlt1).trans d3)
              go_roundw
              case rel => exact ⟨t + 1, rowAt ls t, by omega, by go_num, Lib.hid (((hSX.out.below hb1 (Bk.lt hSX.out)).far (p := ⟨G, _, none⟩) (by simpa using hne) _).far (p := ⟨G, _, none⟩) (by simpa using hne) _), by rw [rowAt_length], Lib.hid (by rw [← HSET.out]; exact (hD1.out.below hb1 hlt1).put t (q1, q2)), Lib.hid ((HD2.out.below hb1 hlt2).far2 (by omega) _ _), bel_two (by repeat (first | (with_reducible exact Below.refl _ _) | (with_reducible assumption) | (with_reducible exact bel_box _) | (with_reducible refine bel_step ?_ (by with_reducible assumption)) | (with_reducible refine Below.drew ?_) | (with_reducible refine below_drewN ?_ _) | (with_reducible refine bel_alloc ?_ _))) (by omega) _ _⟩
              case measure => simp [intOf]; omega
        · obtain rfl : t = n := by omega
          have hB1' := hB1.out
          rw [Nat.sub_self, List.replicate_zero, List.append_nil] at hB1'
          have HR := Lib.hid hB1'.rd
          have HL := Lib.hid (outT_length stp s0 ls t)
          clear hB1 hB2 hB1' K
          go_wp2
          go_ret
          exact ⟨_, _, by rw [HL.out]; rfl, HR.out, hbW⟩
end Go.Proofs.Ytefmnjcllncmpaa
/- Pre, Arrow, Fby, Word of the program. -/
namespace Go.Proofs.Ytefmnjcllncmpaa
set_option linter.unusedVariables false
set_option linter.unusedSimpArgs false
open Go.RowKit
theorem RdS.new {W : World} {t : TypeId} (ss : List St) (cs : Array Value) (hcs : cs = (ss.map stV).toArray) (h : ∀ s ∈ ss, RdC W W.heap.size s.A s.l) : RdS (W.alloc (.cells cs t)) (W.alloc (.cells cs t)).heap.size (some ⟨W.heap.size, 0, none⟩) ss := by
  subst hcs
  refine ⟨fun _ => ⟨_, rfl, by simp, fun j v hj => ?_⟩, fun s hs => (h s hs).to ((Below.refl _ _).alloc (Nat.le_refl _) _)⟩
  rw [add_off, cell_of_row _ _ j _ t (0, 0) (heap_alloc_new W _), ← hj]
  simp
theorem tog2 (s u : St) : tog [s, u] = min s.l.length u.l.length := by simp [tog, togF]
theorem rl1 (s : St) (P : St → Prop) (h : P s) : ∀ u ∈ [s], P u := by simpa using h
theorem rl2 (s u : St) (P : St → Prop) (h : P s) (k : P u) : ∀ x ∈ [s, u], P x := by simp; exact ⟨h, k⟩
set_option maxHeartbeats 1000000 in
theorem pre_any (A : Option Addr) (c : Nat) (l : List (Int × Int)) (w : World) (hA : RdC w w.heap.size A l) (hl : l.length ≤ 1000000) :
    Calls Try.prog 18 #[.slice A l.length c] w (NewC (outT preS (2, 0) [⟨A, c, l⟩] (tog [⟨A, c, l⟩])) w) := by
  have HA := Lib.hid hA
  have KU := Lib.hid undefined_any
  have KC : Hid (∀ b W, RdS W W.heap.size (some ⟨b, 0, none⟩) [⟨A, c, l⟩] → Calls Try.prog 46 #[.agg #[.int .i64 2, .int .i64 0], .func (.func 47) #[] #[], .slice (some ⟨b, 0, none⟩) 1 1] W (NewC (outT preS (2, 0) [⟨A, c, l⟩] (tog [⟨A, c, l⟩])) W)) :=
    Lib.hid fun b W h => combine_p (some ⟨b, 0, none⟩) 1 [⟨A, c, l⟩] (2, 0) preS W h (by simp) (by simp) (rl1 _ _ hl) (Lib.hid fun s r g X hr hR _ => pre1_any s r g X hr hR)
  clear hA
  simp only [cV] at KU
  generalize outT preS (2, 0) [⟨A, c, l⟩] (tog [⟨A, c, l⟩]) = out at *
  go_enter Try.func18, Try.ntmps18
  go_wp2_with (first
    | (go_at_call 45; (with_reducible refine (KU.out _).mono ?_); rintro e w1 ⟨rfl, hb1⟩)
    | (go_at_call 46; (refine (KC.out _ _ ?_).mono ?_); (focus (exact RdS.new [⟨A, c, l⟩] _ rfl (rl1 _ _ (HA.out.to (by repeat (first | (with_reducible exact Below.refl _ _) | (with_reducible assumption) | (with_reducible exact bel_box _) | (with_reducible refine bel_step ?_ (by with_reducible assumption)) | (with_reducible refine Below.drew ?_) | (with_reducible refine below_drewN ?_ _) | (with_reducible refine bel_alloc ?_ _))))))); rintro e w2 ⟨A', c', rfl, hR', hb2⟩))
  go_ret
  exact ⟨A', c', rfl, hR', (by repeat (first | (with_reducible exact Below.refl _ _) | (with_reducible assumption) | (with_reducible exact bel_box _) | (with_reducible refine bel_step ?_ (by with_reducible assumption)) | (with_reducible refine Below.drew ?_) | (with_reducible refine below_drewN ?_ _) | (with_reducible refine bel_alloc ?_ _)))⟩
set_option maxHeartbeats 1000000 in
theorem fby_any (A B : Option Addr) (c d : Nat) (l m : List (Int × Int)) (w : World) (hA : RdC w w.heap.size A l) (hB : RdC w w.heap.size B m) (hl : l.length ≤ 1000000) (hm : m.length ≤ 1000000) :
    Calls Try.prog 22 #[.slice A l.length c, .slice B m.length d] w (NewC (outT fbyS (0, 0) [⟨A, c, l⟩, ⟨B, d, m⟩] (tog [⟨A, c, l⟩, ⟨B, d, m⟩])) w) := by
  have HA := Lib.hid hA
  have HB := Lib.hid hB
  have KC : Hid (∀ b W, RdS W W.heap.size (some ⟨b, 0, none⟩) [⟨A, c, l⟩, ⟨B, d, m⟩] → Calls Try.prog 46 #[.agg #[.int .i64 0, .int .i64 0], .func (.func 50) #[] #[], .slice (some ⟨b, 0, none⟩) 2 2] W (NewC (outT fbyS (0, 0) [⟨A, c, l⟩, ⟨B, d, m⟩] (tog [⟨A, c, l⟩, ⟨B, d, m⟩])) W)) :=
    Lib.hid fun b W h => combine_f (some ⟨b, 0, none⟩) 2 [⟨A, c, l⟩, ⟨B, d, m⟩] (0, 0) fbyS W h (by simp) (by simp) (rl2 _ _ _ hl hm) (Lib.hid fun s r g X hr hR _ => fby1_any s r g X hr hR)
  clear hA hB
  generalize outT fbyS (0, 0) [⟨A, c, l⟩, ⟨B, d, m⟩] (tog [⟨A, c, l⟩, ⟨B, d, m⟩]) = out at *
  go_enter Try.func22, Try.ntmps22
  go_wp2_with (go_at_call 46; (refine (KC.out _ _ ?_).mono ?_); (focus (exact RdS.new [⟨A, c, l⟩, ⟨B, d, m⟩] _ rfl (rl2 _ _ _ (HA.out.to (by repeat (first | (with_reducible exact Below.refl _ _) | (with_reducible assumption) | (with_reducible exact bel_box _) | (with_reducible refine bel_step ?_ (by with_reducible assumption)) | (with_reducible refine Below.drew ?_) | (with_reducible refine below_drewN ?_ _) | (with_reducible refine bel_alloc ?_ _)))) (HB.out.to (by repeat (first | (with_reducible exact Below.refl _ _) | (with_reducible assumption) | (with_reducible exact bel_box _) | (with_reducible refine bel_step ?_ (by with_reducible assumption)) | (with_reducible refine Below.drew ?_) | (with_reducible refine below_drewN ?_ _) | (with_reducible refine bel_alloc ?_ _))))))); rintro e w2 ⟨A', c', rfl, hR', hb2⟩)
  go_ret
  exact ⟨A', c', rfl, hR', (by repeat (first | (with_reducible exact Below.refl _ _) | (with_reducible assumption) | (with_reducible exact bel_box _) | (with_reducible refine bel_step ?_ (by with_reducible assumption)) | (with_reducible refine Below.drew ?_) | (with_reducible refine below_drewN ?_ _) | (with_reducible refine bel_alloc ?_ _)))⟩
theorem stT_word (h l : List Bool) (ls : List St) (t : Nat) (ht : t ≤ 1000000) : 0 ≤ stT (wordS h l) 0 ls t ∧ stT (wordS h l) 0 ls t ≤ t := by
  induction t with
  | zero => exact ⟨Int.le_refl _, Int.le_refl _⟩
  | succ t ih =>
    obtain ⟨a, b⟩ := ih (by omega)
    rw [stT_succ]
    generalize stT (wordS h l) 0 ls t = k at *
    have hw : wrap64 (k + 1) = k + 1 := by unfold wrap64; omega
    unfold wordS
    split
    · split
      · simp only [hw]; omega
      · simp only; omega
    · simp only; omega
theorem word_rds {W : World} {t t' : TypeId} (v : Value) (s : St) (cs : Array Value) (h : RdC W W.heap.size s.A s.l) (hcs : cs = #[stV s] := by rfl) : RdS ((W.alloc (.cells #[v] t)).alloc (.cells cs t')) ((W.alloc (.cells #[v] t)).alloc (.cells cs t')).heap.size (some ⟨W.heap.size + 1, 0, none⟩) [s] := by
  have := RdS.new (W := W.alloc (.cells #[v] t)) (t := t') [s] cs hcs (rl1 _ _ (h.to ((Below.refl _ _).alloc (Nat.le_refl _) _)))
  rwa [World.size_alloc (w := W)] at this
theorem word_box {w w1 : World} {t : TypeId} {x y : Value} (hb : Below (w.alloc (.cells #[x, y] t)).heap.size (w.alloc (.cells #[x, y] t)) w1) : Bk w1 w.heap.size t #[x, y] := (Bk.new w t _).below hb (by simp)
set_option maxHeartbeats 1000000 in
theorem word_any (A B C : Option Addr) (c d f : Nat) (h l : List Bool) (x : List (Int × Int)) (w : World) (hA : Rd w w.heap.size A (bls h)) (hB : Rd w w.heap.size B (bls l)) (hC : RdC w w.heap.size C x) (hh : h.length ≤ 140737488355328) (hl : l.length ≤ 140737488355328) (hx : x.length ≤ 1000000) :
    Calls Try.prog 26 #[.agg #[.slice A h.length c, .slice B l.length d], .slice C x.length f] w (NewC (outT (wordS h l) 0 [⟨C, f, x⟩] (tog [⟨C, f, x⟩])) w) := by
  have HC := Lib.hid hC
  have KK := Lib.hid (bw.check_any A B c d h l · hh hl)
  have KC : Hid (∀ pv pw b W, RdS W W.heap.size (some ⟨b, 0, none⟩) [⟨C, f, x⟩] → Below w.heap.size w W → pv.block < W.heap.size → pw.block < W.heap.size → W.cell? pv = some (.bool (bw.ck h l == 0)) → W.cell? pw = some (.slice A h.length c) → W.cell? ⟨pw.block, pw.off + 1, none⟩ = some (.slice B l.length d) → Calls Try.prog 55 #[.int .i64 0, .func (.func 56) #[] #[.pointer (some pv), .pointer (some pw)], .slice (some ⟨b, 0, none⟩) 1 1] W (NewC (outT (wordS h l) 0 [⟨C, f, x⟩] (tog [⟨C, f, x⟩])) W)) :=
    Lib.hid fun pv pw b W hR hb hpv hpw hv hw1 hw2 => combine_w (.pointer (some pv)) (.pointer (some pw)) (some ⟨b, 0, none⟩) 1 [⟨C, f, x⟩] 0 (wordS h l) W hR (by simp) (by simp) (rl1 _ _ hx) (Lib.hid fun m s r g X hm hs hr hRr hX =>
      word1_any A B c d h l s pv pw r g X hr hRr ((hA.to hb).to hX) ((hB.to hb).to hX) hh hl (Nat.lt_of_lt_of_le hpv hX.size) (Nat.lt_of_lt_of_le hpw hX.size) (by have := (stT_word h l [⟨C, f, x⟩] m hm).2; omega) ((hX.cell hpv).trans hv) ((hX.cell hpw).trans hw1) ((hX.cell (p := ⟨pw.block, pw.off + 1, none⟩) hpw).trans hw2))
  generalize outT (wordS h l) 0 [⟨C, f, x⟩] (tog [⟨C, f, x⟩]) = out at *
  generalize bw.ck h l = k at *
  clear hA hB hC
  go_enter Try.func26, Try.ntmps26
  go_wp2_with (first
    | (go_at_call 54; (with_reducible refine (KK.out _).mono ?_); rintro e w1 ⟨rfl, hb1⟩)
    | (go_at_call 55; (refine (KC.out ⟨w1.heap.size, 0, none⟩ ⟨w.heap.size, 0, none⟩ _ _ ?_ ?_ ?_ ?_ ?_ ?_ ?_).mono ?_); (focus (exact word_rds _ _ _ (HC.out.to (by repeat (first | (with_reducible exact Below.refl _ _) | (with_reducible assumption) | (with_reducible exact bel_box _) | (with_reducible refine bel_step ?_ (by with_reducible assumption)) | (with_reducible refine Below.drew ?_) | (with_reducible refine below_drewN ?_ _) | (with_reducible refine bel_alloc ?_ _)))))); (focus ((repeat (first | (with_reducible exact Below.refl _ _) | (with_reducible assumption) | (with_reducible exact bel_box _) | (with_reducible refine bel_step ?_ (by with_reducible assumption)) | (with_reducible refine Below.drew ?_) | (with_reducible refine below_drewN ?_ _) | (with_reducible refine bel_alloc ?_ _))); done)); (focus (simp; omega)); (focus (have := (word_box hb1).lt; simp at this ⊢; omega)); (focus (exact (((Bk.new w1 _ _).alloc _).cell 0))); (focus (exact ((((word_box hb1).alloc _).alloc _).cell 0))); (focus (exact ((((word_box hb1).alloc _).alloc _).cell 1))); rintro e w2 ⟨A', c', rfl, hR', hb2⟩))
  go_ret
  exact ⟨A', c', rfl, hR', (by repeat (first | (with_reducible exact Below.refl _ _) | (with_reducible assumption) | (with_reducible exact bel_box _) | (with_reducible refine bel_step ?_ (by with_reducible assumption)) | (with_reducible refine Below.drew ?_) | (with_reducible refine below_drewN ?_ _) | (with_reducible refine bel_alloc ?_ _)))⟩
end Go.Proofs.Ytefmnjcllncmpaa
/- '==' on cells; the steps of Lift, If, When, Merge. -/
namespace Go.Proofs.Ytefmnjcllncmpaa
set_option linter.unusedVariables false
set_option linter.unusedSimpArgs false
open Go.RowKit
theorem cell_stood : Try.prog.stoodInHeld 46 = false := by kernel_rfl
theorem cell_guard : Try.prog.eqGuardType Try.prog.depth 46 = false := by kernel_rfl
theorem cell_fields : ((Try.prog.fieldsOf 46).toList.map fun f => (f.name == "_", f.type, f.offset)) = [(false, 3, 0), (false, 3, 1)] := by kernel_rfl
theorem int_under : Try.prog.underlying 3 = some (.int .i64) := by kernel_rfl
theorem cell_eqIn (w : World) (d : Nat) (a b x y : Int) : (Op.equalIn (d + 2) 46 (.agg #[.int .i64 a, .int .i64 b]) (.agg #[.int .i64 x, .int .i64 y])).run Try.prog w = .ok (a == x && b == y) w := by
  rw [run_equalIn_agg w (d + 1) _ _ _ cell_under cell_stood]
  have h := cell_fields
  generalize (Try.prog.fieldsOf 46).toList = fs at h ⊢
  rcases fs with _ | ⟨f, _ | ⟨g, _ | ⟨k, r⟩⟩⟩
  · simp at h
  · simp at h
  · simp only [List.map_cons, List.map_nil, List.cons.injEq, Prod.mk.injEq, and_true] at h
    obtain ⟨⟨f1, f2, f3⟩, g1, g2, g3⟩ := h
    have f1' : f.name ≠ "_" := by simpa using f1
    have g1' : g.name ≠ "_" := by simpa using g1
    have e1 := run_equalIn_int (P := Try.prog) w d 3 .i64 .i64 a x int_under
    have e2 := run_equalIn_int (P := Try.prog) w d 3 .i64 .i64 b y int_under
    simp only [Op.eqFields, f1', g1', f2, f3, g2, g3]
    simp [go_sem, e1, e2]
    rw [if_neg f1', if_neg g1']
    by_cases h1 : a = x <;> by_cases h2 : b = y <;> simp [h1, h2]
  · simp at h
theorem cell_eql (w : World) (a b x y : Int) : (binOp .eql 46 (.agg #[.int .i64 a, .int .i64 b]) (.agg #[.int .i64 x, .int .i64 y])).run Try.prog w = .ok (.bool (a == x && b == y)) w := by
  rw [run_eql_struct, cell_eqIn w 9998]; rfl
theorem cell_neq (w : World) (a b x y : Int) : (binOp .neq 46 (.agg #[.int .i64 a, .int .i64 b]) (.agg #[.int .i64 x, .int .i64 y])).run Try.prog w = .ok (.bool (!(a == x && b == y))) w := by
  rw [run_neq_struct, cell_eqIn w 9998]; rfl
theorem cell_eqg (w : World) (op : BinOp) (p q : Operand) (xs ys : Array Value) : (eqGuard op 46 p q (.agg xs) (.agg ys)).run Try.prog w = .ok () w := run_eqGuard_agg w op _ p q xs ys cell_guard
attribute [local go_sem] cell_eql cell_neq cell_eqg
def whenF (tag : Int) (r : List (Int × Int)) : Int × Int := if r.getD 1 (0, 0) = (1, tag) then r.getD 0 (0, 0) else (0, 0)
set_option maxHeartbeats 2000000 in
theorem when1_any (tag : Int) (p : Addr) (r : List (Int × Int)) (g : Nat) (w : World) (hr : r.length = 2) (hR : RdC w w.heap.size (some ⟨g, 0, none⟩) r) (hp : p.block < w.heap.size) (ht : w.cell? p = some (.int .i64 tag)) :
    Calls Try.prog 60 #[.slice (some ⟨g, 0, none⟩) r.length r.length, .pointer (some p)] w (Bel (cV (whenF tag r)) w) := by
  obtain ⟨⟨x0, y0⟩, ⟨x1, y1⟩, rfl⟩ := two_of hr
  have HK : Hid (∀ W, Below w.heap.size w W → W.cell? ⟨g, 0, none⟩ = some (.int .i64 x0) ∧ W.cell? ⟨g, 1, none⟩ = some (.int .i64 y0) ∧ W.cell? ⟨g, 2, none⟩ = some (.int .i64 x1) ∧ W.cell? ⟨g, 3, none⟩ = some (.int .i64 y1) ∧ W.cell? p = some (.int .i64 tag)) := Lib.hid fun W hb =>
    ⟨((hR.to hb).ck (k := 0) rfl).1, ((hR.to hb).ck (k := 0) rfl).2, ((hR.to hb).ck (k := 1) rfl).1, ((hR.to hb).ck (k := 1) rfl).2, (hb.cell hp).trans ht⟩
  have KP := Lib.hid (present_any tag)
  simp only [List.length_cons, List.length_nil, cV] at KP ⊢
  obtain ⟨a0, a1, a2, a3, a4⟩ := HK.out w (Below.refl _ _)
  clear hR hr hp ht
  by_cases hx : x1 = 1 ∧ y1 = tag
  · obtain ⟨rfl, rfl⟩ := hx
    rw [show whenF y1 [(x0, y0), (1, y1)] = (x0, y0) from if_pos rfl]
    go_enter Try.func60, Try.ntmps60
    go_wp2
    go_region_held3 (fun W => W.cell? ⟨g, 0, none⟩ = some (.int .i64 x0) ∧ W.cell? ⟨g, 1, none⟩ = some (.int .i64 y0) ∧ W.cell? ⟨g, 2, none⟩ = some (.int .i64 1) ∧ W.cell? ⟨g, 3, none⟩ = some (.int .i64 y1) ∧ W.cell? p = some (.int .i64 y1))
      ((refine HK.out _ ?_; (focus ((repeat (first | (with_reducible exact Below.refl _ _) | (with_reducible assumption) | (with_reducible exact bel_box _) | (with_reducible refine bel_step ?_ (by with_reducible assumption)) | (with_reducible refine Below.drew ?_) | (with_reducible refine below_drewN ?_ _) | (with_reducible refine bel_alloc ?_ _))); done))))
      (first | (go_at_call 42; (with_reducible refine (KP.out _).mono ?_); rintro e w1 ⟨rfl, hb1⟩; obtain ⟨q0, q1, q2, q3⟩ := box2 (w := w) (W := w1) (by repeat (first | (with_reducible exact Below.refl _ _) | (with_reducible assumption) | (with_reducible exact bel_box _) | (with_reducible refine bel_step ?_ (by with_reducible assumption)) | (with_reducible refine Below.drew ?_) | (with_reducible refine below_drewN ?_ _) | (with_reducible refine bel_alloc ?_ _))); obtain ⟨b0, b1, b2, b3, b4⟩ := HK.out w1 (by repeat (first | (with_reducible exact Below.refl _ _) | (with_reducible assumption) | (with_reducible exact bel_box _) | (with_reducible refine bel_step ?_ (by with_reducible assumption)) | (with_reducible refine Below.drew ?_) | (with_reducible refine below_drewN ?_ _) | (with_reducible refine bel_alloc ?_ _)))))
    all_goals go_wp2
    all_goals
      obtain ⟨t1, t2⟩ := set2_cells q0 q1 (.int .i64 x0) (.int .i64 y0)
      refine bodyPost_ret (v := cV (x0, y0)) (by simp [results, Try.results60, go_sem, t1, t2, cV]) rfl ⟨rfl, ?_⟩
      first | exact bel_set2 (by repeat (first | (with_reducible exact Below.refl _ _) | (with_reducible assumption) | (with_reducible exact bel_box _) | (with_reducible refine bel_step ?_ (by with_reducible assumption)) | (with_reducible refine Below.drew ?_) | (with_reducible refine below_drewN ?_ _) | (with_reducible refine bel_alloc ?_ _))) (Nat.le_refl _) _ _ | exact Below.drew (bel_set2 (by repeat (first | (with_reducible exact Below.refl _ _) | (with_reducible assumption) | (with_reducible exact bel_box _) | (with_reducible refine bel_step ?_ (by with_reducible assumption)) | (with_reducible refine Below.drew ?_) | (with_reducible refine below_drewN ?_ _) | (with_reducible refine bel_alloc ?_ _))) (Nat.le_refl _) _ _)
  · have e1 : ¬ ((x1, y1) = (1, tag)) := by simpa using hx
    rw [show whenF tag [(x0, y0), (x1, y1)] = (0, 0) from if_neg e1]
    clear e1
    rcases (show x1 ≠ 1 ∨ (x1 = 1 ∧ y1 ≠ tag) by omega) with h1 | ⟨rfl, h1⟩
    · have e1 : (x1 == 1) = false := beq_eq_false_iff_ne.2 h1
      clear hx
      go_enter Try.func60, Try.ntmps60
      go_wp2
      go_region_held3 (fun W => W.cell? ⟨g, 0, none⟩ = some (.int .i64 x0) ∧ W.cell? ⟨g, 1, none⟩ = some (.int .i64 y0) ∧ W.cell? ⟨g, 2, none⟩ = some (.int .i64 x1) ∧ W.cell? ⟨g, 3, none⟩ = some (.int .i64 y1) ∧ W.cell? p = some (.int .i64 tag))
        ((refine HK.out _ ?_; (focus ((repeat (first | (with_reducible exact Below.refl _ _) | (with_reducible assumption) | (with_reducible exact bel_box _) | (with_reducible refine bel_step ?_ (by with_reducible assumption)) | (with_reducible refine Below.drew ?_) | (with_reducible refine below_drewN ?_ _) | (with_reducible refine bel_alloc ?_ _))); done))))
        (first | (go_at_call 42; (with_reducible refine (KP.out _).mono ?_); rintro e w1 ⟨rfl, hb1⟩; obtain ⟨q0, q1, q2, q3⟩ := box2 (w := w) (W := w1) (by repeat (first | (with_reducible exact Below.refl _ _) | (with_reducible assumption) | (with_reducible exact bel_box _) | (with_reducible refine bel_step ?_ (by with_reducible assumption)) | (with_reducible refine Below.drew ?_) | (with_reducible refine below_drewN ?_ _) | (with_reducible refine bel_alloc ?_ _))); obtain ⟨b0, b1, b2, b3, b4⟩ := HK.out w1 (by repeat (first | (with_reducible exact Below.refl _ _) | (with_reducible assumption) | (with_reducible exact bel_box _) | (with_reducible refine bel_step ?_ (by with_reducible assumption)) | (with_reducible refine Below.drew ?_) | (with_reducible refine below_drewN ?_ _) | (with_reducible refine bel_alloc ?_ _)))))
      all_goals go_wp2
      all_goals
        obtain ⟨t1, t2⟩ := set2_cells q0 q1 (.int .i64 0) (.int .i64 0)
        refine bodyPost_ret (v := cV (0, 0)) (by simp [results, Try.results60, go_sem, t1, t2, cV]) rfl ⟨rfl, ?_⟩
        first | exact bel_set2 (by repeat (first | (with_reducible exact Below.refl _ _) | (with_reducible assumption) | (with_reducible exact bel_box _) | (with_reducible refine bel_step ?_ (by with_reducible assumption)) | (with_reducible refine Below.drew ?_) | (with_reducible refine below_drewN ?_ _) | (with_reducible refine bel_alloc ?_ _))) (Nat.le_refl _) _ _ | exact Below.drew (bel_set2 (by repeat (first | (with_reducible exact Below.refl _ _) | (with_reducible assumption) | (with_reducible exact bel_box _) | (with_reducible refine bel_step ?_ (by with_reducible assumption)) | (with_reducible refine Below.drew ?_) | (with_reducible refine below_drewN ?_ _) | (with_reducible refine bel_alloc ?_ _))) (Nat.le_refl _) _ _)
    · have e1 : (y1 == tag) = false := beq_eq_false_iff_ne.2 h1
      clear hx
      go_enter Try.func60, Try.ntmps60
      go_wp2
      go_region_held3 (fun W => W.cell? ⟨g, 0, none⟩ = some (.int .i64 x0) ∧ W.cell? ⟨g, 1, none⟩ = some (.int .i64 y0) ∧ W.cell? ⟨g, 2, none⟩ = some (.int .i64 1) ∧ W.cell? ⟨g, 3, none⟩ = some (.int .i64 y1) ∧ W.cell? p = some (.int .i64 tag))
        ((refine HK.out _ ?_; (focus ((repeat (first | (with_reducible exact Below.refl _ _) | (with_reducible assumption) | (with_reducible exact bel_box _) | (with_reducible refine bel_step ?_ (by with_reducible assumption)) | (with_reducible refine Below.drew ?_) | (with_reducible refine below_drewN ?_ _) | (with_reducible refine bel_alloc ?_ _))); done))))
        (first | (go_at_call 42; (with_reducible refine (KP.out _).mono ?_); rintro e w1 ⟨rfl, hb1⟩; obtain ⟨q0, q1, q2, q3⟩ := box2 (w := w) (W := w1) (by repeat (first | (with_reducible exact Below.refl _ _) | (with_reducible assumption) | (with_reducible exact bel_box _) | (with_reducible refine bel_step ?_ (by with_reducible assumption)) | (with_reducible refine Below.drew ?_) | (with_reducible refine below_drewN ?_ _) | (with_reducible refine bel_alloc ?_ _))); obtain ⟨b0, b1, b2, b3, b4⟩ := HK.out w1 (by repeat (first | (with_reducible exact Below.refl _ _) | (with_reducible assumption) | (with_reducible exact bel_box _) | (with_reducible refine bel_step ?_ (by with_reducible assumption)) | (with_reducible refine Below.drew ?_) | (with_reducible refine below_drewN ?_ _) | (with_reducible refine bel_alloc ?_ _)))))
      all_goals go_wp2
      all_goals
        obtain ⟨t1, t2⟩ := set2_cells q0 q1 (.int .i64 0) (.int .i64 0)
        refine bodyPost_ret (v := cV (0, 0)) (by simp [results, Try.results60, go_sem, t1, t2, cV]) rfl ⟨rfl, ?_⟩
        first | exact bel_set2 (by repeat (first | (with_reducible exact Below.refl _ _) | (with_reducible assumption) | (with_reducible exact bel_box _) | (with_reducible refine bel_step ?_ (by with_reducible assumption)) | (with_reducible refine Below.drew ?_) | (with_reducible refine below_drewN ?_ _) | (with_reducible refine bel_alloc ?_ _))) (Nat.le_refl _) _ _ | exact Below.drew (bel_set2 (by repeat (first | (with_reducible exact Below.refl _ _) | (with_reducible assumption) | (with_reducible exact bel_box _) | (with_reducible refine bel_step ?_ (by with_reducible assumption)) | (with_reducible refine Below.drew ?_) | (with_reducible refine below_drewN ?_ _) | (with_reducible refine bel_alloc ?_ _))) (Nat.le_refl _) _ _)
end Go.Proofs.Ytefmnjcllncmpaa
/- The steps of Lift and Merge. -/
namespace Go.Proofs.Ytefmnjcllncmpaa
set_option linter.unusedVariables false
set_option linter.unusedSimpArgs false
open Go.RowKit
attribute [local go_sem] cell_eql cell_neq cell_eqg
def liftF (op : Int) (r : List (Int × Int)) : Int × Int := (lifK op r, lifV op r)
set_option maxHeartbeats 2000000 in
theorem lift1_any (op : Int) (p : Addr) (r : List (Int × Int)) (g : Nat) (w : World) (hr : r.length ≤ 100) (hR : RdC w w.heap.size (some ⟨g, 0, none⟩) r) (hp : p.block < w.heap.size) (ht : w.cell? p = some (.int .i64 op)) :
    Calls Try.prog 35 #[.slice (some ⟨g, 0, none⟩) r.length r.length, .pointer (some p)] w (Bel (cV (liftF op r)) w) := by
  have KL := Lib.hid (fun W h => lift_any (some ⟨g, 0, none⟩) r.length op r W h hr)
  have HR := Lib.hid hR
  simp only [cV, liftF]
  clear hR hr
  go_enter Try.func35, Try.ntmps35
  go_wp2_with (go_at_call 36; (with_reducible refine (KL.out _ (HR.out.to ?_)).mono ?_); (focus ((repeat (first | (with_reducible exact Below.refl _ _) | (with_reducible assumption) | (with_reducible exact bel_box _) | (with_reducible refine bel_step ?_ (by with_reducible assumption)) | (with_reducible refine Below.drew ?_) | (with_reducible refine below_drewN ?_ _) | (with_reducible refine bel_alloc ?_ _))); done)); rintro e w1 ⟨rfl, hb1⟩; obtain ⟨q0, q1, q2, q3⟩ := box2 (w := w) (W := w1) (by repeat (first | (with_reducible exact Below.refl _ _) | (with_reducible assumption) | (with_reducible exact bel_box _) | (with_reducible refine bel_step ?_ (by with_reducible assumption)) | (with_reducible refine Below.drew ?_) | (with_reducible refine below_drewN ?_ _) | (with_reducible refine bel_alloc ?_ _))))
  obtain ⟨t1, t2⟩ := set2_cells q0 q1 (.int .i64 (lifK op r)) (.int .i64 (lifV op r))
  refine bodyPost_ret (v := cV (liftF op r)) (by simp [results, Try.results35, go_sem, t1, t2, cV, liftF]) rfl ⟨rfl, ?_⟩
  first | exact bel_set2 (by repeat (first | (with_reducible exact Below.refl _ _) | (with_reducible assumption) | (with_reducible exact bel_box _) | (with_reducible refine bel_step ?_ (by with_reducible assumption)) | (with_reducible refine Below.drew ?_) | (with_reducible refine below_drewN ?_ _) | (with_reducible refine bel_alloc ?_ _))) (Nat.le_refl _) _ _ | exact Below.drew (bel_set2 (by repeat (first | (with_reducible exact Below.refl _ _) | (with_reducible assumption) | (with_reducible exact bel_box _) | (with_reducible refine bel_step ?_ (by with_reducible assumption)) | (with_reducible refine Below.drew ?_) | (with_reducible refine below_drewN ?_ _) | (with_reducible refine bel_alloc ?_ _))) (Nat.le_refl _) _ _)
def mergeF (r : List (Int × Int)) : Int × Int := match r with
  | [] => (0, 0)
  | b :: rest => if thB b then (if b.1 = 1 ∧ 0 ≤ b.2 ∧ b.2 < rest.length ∧ thB (rest.getD b.2.toNat (0, 0)) = true then rest.getD b.2.toNat (0, 0) else (2, 0)) else (0, 0)
theorem cut_rest (g n : Nat) (hn : n ≤ 1000000) : ∃ RA : Option Addr, (0 < n → RA = some ⟨g, 2, none⟩) ∧ ∀ W, (Instr.slice 26 (.slice (some ⟨g, 0, none⟩) (n + 1) (n + 1)) (some (.int .i64 1)) none none).run Try.prog W = .ok (.slice RA n n) W := by
  refine ⟨if n + 1 = 1 then some ⟨g, 0, none⟩ else some ⟨g, 2, none⟩, fun h => if_neg (by omega), fun W => ?_⟩
  have h1 : (Instr.slice 26 (.slice (some ⟨g, 0, none⟩) (n + 1) (n + 1)) (some (.int .i64 1)) none none).run Try.prog W = _ := run_slice_l W 26 (some ⟨g, 0, none⟩) (n + 1) (n + 1) (by kernel_rfl) .i64 1 (by omega) (by omega)
  rw [h1]
  simp [go_sem, sliced, Addr.add]
theorem by_box {w w1 : World} {x y u v : Value} {t t' : TypeId} (hb : Below (((w.alloc (.cells #[x, y] t)).alloc (.cells #[u, v] t')).drew).heap.size (((w.alloc (.cells #[x, y] t)).alloc (.cells #[u, v] t')).drew) w1) :
    w1.cell? ⟨w.heap.size + 1, 0, none⟩ = some u ∧ w1.cell? ⟨w.heap.size + 1, 1, none⟩ = some v ∧ w1.frozen? ⟨w.heap.size + 1, 0, none⟩ = false ∧ w1.frozen? ⟨w.heap.size + 1, 1, none⟩ = false := by
  have h := Bk.new (w.alloc (.cells #[x, y] t)) t' #[u, v]
  rw [World.size_alloc] at h
  have h2 : Bk w1 (w.heap.size + 1) t' #[u, v] := (hb.block _ (by simp)).trans h
  exact ⟨h2.cell 0, h2.cell 1, h2.frozen 0, h2.frozen 1⟩
set_option maxHeartbeats 4000000 in
set_option maxRecDepth 20000 in
theorem merge1_any (b : Int × Int) (rest : List (Int × Int)) (g : Nat) (w : World) (hr : rest.length ≤ 100) (hR : RdC w w.heap.size (some ⟨g, 0, none⟩) (b :: rest)) :
    Calls Try.prog 52 #[.slice (some ⟨g, 0, none⟩) (rest.length + 1) (rest.length + 1)] w (Bel (cV (mergeF (b :: rest))) w) := by
  obtain ⟨x0, y0⟩ := b
  have HK : Hid (∀ W, Below w.heap.size w W → W.cell? ⟨g, 0, none⟩ = some (.int .i64 x0) ∧ W.cell? ⟨g, 1, none⟩ = some (.int .i64 y0)) := Lib.hid fun W hb =>
    ⟨((hR.to hb).ck (k := 0) rfl).1, ((hR.to hb).ck (k := 0) rfl).2⟩
  have HE : Hid (∀ (k : Nat) (e : Int × Int) W, rest[k]? = some e → Below w.heap.size w W → W.cell? ⟨g, 2 + k * 2, none⟩ = some (.int .i64 e.1) ∧ W.cell? ⟨g, 2 + k * 2 + 1, none⟩ = some (.int .i64 e.2)) := Lib.hid fun k e W he hb => by
    have h := (hR.to hb).ck (k := k + 1) (c := e) (by simpa using he)
    rw [show (k + 1) * 2 = 2 + k * 2 by omega] at h
    exact h
  have KT := Lib.hid there_any
  have KU := Lib.hid undefined_any
  obtain ⟨a0, a1⟩ := HK.out w (Below.refl _ _)
  simp only [cV] at KT KU ⊢
  obtain ⟨RA, hRA, hcut⟩ := cut_rest g rest.length (by omega)
  have HRA := Lib.hid hRA
  have HZ : Hid (mergeF ((x0, y0) :: rest) = if thB (x0, y0) then (if x0 = 1 ∧ 0 ≤ y0 ∧ y0 < rest.length ∧ thB (rest.getD y0.toNat (0, 0)) = true then rest.getD y0.toNat (0, 0) else (2, 0)) else (0, 0)) := Lib.hid rfl
  generalize mergeF ((x0, y0) :: rest) = z at *
  clear hR hRA
  cases hth : thB (x0, y0)
  · have KE := Lib.hid (KT.out (x0, y0))
    rw [hth] at KE
    obtain rfl : z = (0, 0) := by rw [HZ.out, hth]; rfl
    clear hth HZ HE
    go_enter Try.func52, Try.ntmps52
    go_wp2
    go_region_held3 (fun W => W.cell? ⟨g, 0, none⟩ = some (.int .i64 x0) ∧ W.cell? ⟨g, 1, none⟩ = some (.int .i64 y0))
      ((refine HK.out _ ?_; (focus ((repeat (first | (with_reducible exact Below.refl _ _) | (with_reducible assumption) | (with_reducible exact bel_box _) | (with_reducible refine bel_step ?_ (by with_reducible assumption)) | (with_reducible refine Below.drew ?_) | (with_reducible refine below_drewN ?_ _) | (with_reducible refine bel_alloc ?_ _))); done))))
      (first | (fail))
    go_wp2_with (go_at_call 51; (with_reducible refine (KE.out _).mono ?_); rintro e w1 ⟨rfl, hb1⟩; obtain ⟨q0, q1, q2, q3⟩ := box2 (w := w) (W := w1) (by repeat (first | (with_reducible exact Below.refl _ _) | (with_reducible assumption) | (with_reducible exact bel_box _) | (with_reducible refine bel_step ?_ (by with_reducible assumption)) | (with_reducible refine Below.drew ?_) | (with_reducible refine below_drewN ?_ _) | (with_reducible refine bel_alloc ?_ _))); obtain ⟨y0', y1', y2', y3'⟩ := by_box (w1 := w1) (by repeat (first | (with_reducible exact Below.refl _ _) | (with_reducible assumption) | (with_reducible exact bel_box _) | (with_reducible refine bel_step ?_ (by with_reducible assumption)) | (with_reducible refine Below.drew ?_) | (with_reducible refine below_drewN ?_ _) | (with_reducible refine bel_alloc ?_ _))))
    obtain ⟨t1, t2⟩ := set2_cells q0 q1 (.int .i64 0) (.int .i64 0)
    refine bodyPost_ret (v := cV (0, 0)) (by simp [results, Try.results52, go_sem, t1, t2, cV]) rfl ⟨rfl, ?_⟩
    first | exact bel_set2 (by repeat (first | (with_reducible exact Below.refl _ _) | (with_reducible assumption) | (with_reducible exact bel_box _) | (with_reducible refine bel_step ?_ (by with_reducible assumption)) | (with_reducible refine Below.drew ?_) | (with_reducible refine below_drewN ?_ _) | (with_reducible refine bel_alloc ?_ _))) (Nat.le_refl _) _ _ | exact Below.drew (bel_set2 (by repeat (first | (with_reducible exact Below.refl _ _) | (with_reducible assumption) | (with_reducible exact bel_box _) | (with_reducible refine bel_step ?_ (by with_reducible assumption)) | (with_reducible refine Below.drew ?_) | (with_reducible refine below_drewN ?_ _) | (with_reducible refine bel_alloc ?_ _))) (Nat.le_refl _) _ _)
  · have KE := Lib.hid (KT.out (x0, y0))
    rw [hth] at KE
    have hz : z = if x0 = 1 ∧ 0 ≤ y0 ∧ y0 < rest.length ∧ thB (rest.getD y0.toNat (0, 0)) = true then rest.getD y0.toNat (0, 0) else (2, 0) := by rw [HZ.out, hth]; rfl
    clear HZ
    by_cases hx : x0 = 1
    · subst hx
      clear hth
      rcases (show y0 < 0 ∨ (0 ≤ y0 ∧ (rest.length : Int) ≤ y0) ∨ (0 ≤ y0 ∧ y0 < rest.length) by omega) with h1 | ⟨h1, h2⟩ | ⟨h1, h2⟩
      · obtain rfl : z = (2, 0) := by rw [hz, if_neg (by omega)]
        clear hz HE
        go_enter Try.func52, Try.ntmps52
        go_wp2
        go_region_held3 (fun W => W.cell? ⟨g, 0, none⟩ = some (.int .i64 1) ∧ W.cell? ⟨g, 1, none⟩ = some (.int .i64 y0))
          ((refine HK.out _ ?_; (focus ((repeat (first | (with_reducible exact Below.refl _ _) | (with_reducible assumption) | (with_reducible exact bel_box _) | (with_reducible refine bel_step ?_ (by with_reducible assumption)) | (with_reducible refine Below.drew ?_) | (with_reducible refine below_drewN ?_ _) | (with_reducible refine bel_alloc ?_ _))); done))))
          (first | (fail))
        go_wp2_with (first | (go_at_call 51; (with_reducible refine (KE.out _).mono ?_); rintro e w1 ⟨rfl, hb1⟩; obtain ⟨q0, q1, q2, q3⟩ := box2 (w := w) (W := w1) (by repeat (first | (with_reducible exact Below.refl _ _) | (with_reducible assumption) | (with_reducible exact bel_box _) | (with_reducible refine bel_step ?_ (by with_reducible assumption)) | (with_reducible refine Below.drew ?_) | (with_reducible refine below_drewN ?_ _) | (with_reducible refine bel_alloc ?_ _))); obtain ⟨y0', y1', y2', y3'⟩ := by_box (w1 := w1) (by repeat (first | (with_reducible exact Below.refl _ _) | (with_reducible assumption) | (with_reducible exact bel_box _) | (with_reducible refine bel_step ?_ (by with_reducible assumption)) | (with_reducible refine Below.drew ?_) | (with_reducible refine below_drewN ?_ _) | (with_reducible refine bel_alloc ?_ _)))) | (go_at_call 45; (with_reducible refine (KU.out _).mono ?_); rintro e w9 ⟨rfl, hb9⟩; clear q0 q1 q2 q3; obtain ⟨q0, q1, q2, q3⟩ := box2 (w := w) (W := w9) (by repeat (first | (with_reducible exact Below.refl _ _) | (with_reducible assumption) | (with_reducible exact bel_box _) | (with_reducible refine bel_step ?_ (by with_reducible assumption)) | (with_reducible refine Below.drew ?_) | (with_reducible refine below_drewN ?_ _) | (with_reducible refine bel_alloc ?_ _)))))
        obtain ⟨t1, t2⟩ := set2_cells q0 q1 (.int .i64 2) (.int .i64 0)
        refine bodyPost_ret (v := cV (2, 0)) (by simp [results, Try.results52, go_sem, t1, t2, cV]) rfl ⟨rfl, ?_⟩
        first | exact bel_set2 (by repeat (first | (with_reducible exact Below.refl _ _) | (with_reducible assumption) | (with_reducible exact bel_box _) | (with_reducible refine bel_step ?_ (by with_reducible assumption)) | (with_reducible refine Below.drew ?_) | (with_reducible refine below_drewN ?_ _) | (with_reducible refine bel_alloc ?_ _))) (Nat.le_refl _) _ _ | exact Below.drew (bel_set2 (by repeat (first | (with_reducible exact Below.refl _ _) | (with_reducible assumption) | (with_reducible exact bel_box _) | (with_reducible refine bel_step ?_ (by with_reducible assumption)) | (with_reducible refine Below.drew ?_) | (with_reducible refine below_drewN ?_ _) | (with_reducible refine bel_alloc ?_ _))) (Nat.le_refl _) _ _)
      · obtain rfl : z = (2, 0) := by rw [hz, if_neg (by omega)]
        clear hz HE
        have h3 : ¬ y0 < 0 := by omega
        go_enter Try.func52, Try.ntmps52
        go_wp2
        go_region_held3 (fun W => W.cell? ⟨g, 0, none⟩ = some (.int .i64 1) ∧ W.cell? ⟨g, 1, none⟩ = some (.int .i64 y0))
          ((refine HK.out _ ?_; (focus ((repeat (first | (with_reducible exact Below.refl _ _) | (with_reducible assumption) | (with_reducible exact bel_box _) | (with_reducible refine bel_step ?_ (by with_reducible assumption)) | (with_reducible refine Below.drew ?_) | (with_reducible refine below_drewN ?_ _) | (with_reducible refine bel_alloc ?_ _))); done))))
          (first | (fail))
        go_wp2_with (first | (go_at_call 51; (with_reducible refine (KE.out _).mono ?_); rintro e w1 ⟨rfl, hb1⟩; obtain ⟨q0, q1, q2, q3⟩ := box2 (w := w) (W := w1) (by repeat (first | (with_reducible exact Below.refl _ _) | (with_reducible assumption) | (with_reducible exact bel_box _) | (with_reducible refine bel_step ?_ (by with_reducible assumption)) | (with_reducible refine Below.drew ?_) | (with_reducible refine below_drewN ?_ _) | (with_reducible refine bel_alloc ?_ _))); obtain ⟨y0', y1', y2', y3'⟩ := by_box (w1 := w1) (by repeat (first | (with_reducible exact Below.refl _ _) | (with_reducible assumption) | (with_reducible exact bel_box _) | (with_reducible refine bel_step ?_ (by with_reducible assumption)) | (with_reducible refine Below.drew ?_) | (with_reducible refine below_drewN ?_ _) | (with_reducible refine bel_alloc ?_ _)))) | (go_at_call 45; (with_reducible refine (KU.out _).mono ?_); rintro e w9 ⟨rfl, hb9⟩; clear q0 q1 q2 q3; obtain ⟨q0, q1, q2, q3⟩ := box2 (w := w) (W := w9) (by repeat (first | (with_reducible exact Below.refl _ _) | (with_reducible assumption) | (with_reducible exact bel_box _) | (with_reducible refine bel_step ?_ (by with_reducible assumption)) | (with_reducible refine Below.drew ?_) | (with_reducible refine below_drewN ?_ _) | (with_reducible refine bel_alloc ?_ _)))))
        obtain ⟨t1, t2⟩ := set2_cells q0 q1 (.int .i64 2) (.int .i64 0)
        refine bodyPost_ret (v := cV (2, 0)) (by simp [results, Try.results52, go_sem, t1, t2, cV]) rfl ⟨rfl, ?_⟩
        first | exact bel_set2 (by repeat (first | (with_reducible exact Below.refl _ _) | (with_reducible assumption) | (with_reducible exact bel_box _) | (with_reducible refine bel_step ?_ (by with_reducible assumption)) | (with_reducible refine Below.drew ?_) | (with_reducible refine below_drewN ?_ _) | (with_reducible refine bel_alloc ?_ _))) (Nat.le_refl _) _ _ | exact Below.drew (bel_set2 (by repeat (first | (with_reducible exact Below.refl _ _) | (with_reducible assumption) | (with_reducible exact bel_box _) | (with_reducible refine bel_step ?_ (by with_reducible assumption)) | (with_reducible refine Below.drew ?_) | (with_reducible refine below_drewN ?_ _) | (with_reducible refine bel_alloc ?_ _))) (Nat.le_refl _) _ _)
      · obtain ⟨k, rfl⟩ : ∃ k : Nat, y0 = k := ⟨y0.toNat, by omega⟩
        have hk : k < rest.length := by omega
        have he : rest[k]? = some rest[k] := List.getElem?_eq_getElem hk
        generalize rest[k] = e at he
        obtain ⟨ex, ey⟩ := e
        have HE2 := Lib.hid (fun W => HE.out k (ex, ey) W he)
        have hgd : rest.getD ((k : Int)).toNat (0, 0) = (ex, ey) := by rw [Int.toNat_natCast, List.getD, he]; rfl
        rw [hgd] at hz
        obtain rfl : RA = some ⟨g, 2, none⟩ := HRA.out (by omega)
        have KE2 := Lib.hid (KT.out (ex, ey))
        have h3 : ¬ (k : Int) < 0 := by omega
        have h4 : ¬ (rest.length : Int) ≤ (k : Int) := by omega
        cases hte : thB (ex, ey)
        · rw [hte] at KE2
          obtain rfl : z = (2, 0) := by rw [hz, if_neg (by rw [hte]; simp)]
          clear hz HE hgd he HRA hte KT
          go_enter Try.func52, Try.ntmps52
          go_wp2
          go_region_held3 (fun W => W.cell? ⟨g, 0, none⟩ = some (.int .i64 1) ∧ W.cell? ⟨g, 1, none⟩ = some (.int .i64 (k : Int)))
            ((refine HK.out _ ?_; (focus ((repeat (first | (with_reducible exact Below.refl _ _) | (with_reducible assumption) | (with_reducible exact bel_box _) | (with_reducible refine bel_step ?_ (by with_reducible assumption)) | (with_reducible refine Below.drew ?_) | (with_reducible refine below_drewN ?_ _) | (with_reducible refine bel_alloc ?_ _))); done))))
            (first | (fail))
          go_wp2_with (first | (go_at_call 51; (with_reducible refine (KE.out _).mono ?_); rintro e w1 ⟨rfl, hb1⟩; obtain ⟨q0, q1, q2, q3⟩ := box2 (w := w) (W := w1) (by repeat (first | (with_reducible exact Below.refl _ _) | (with_reducible assumption) | (with_reducible exact bel_box _) | (with_reducible refine bel_step ?_ (by with_reducible assumption)) | (with_reducible refine Below.drew ?_) | (with_reducible refine below_drewN ?_ _) | (with_reducible refine bel_alloc ?_ _))); obtain ⟨y0', y1', y2', y3'⟩ := by_box (w1 := w1) (by repeat (first | (with_reducible exact Below.refl _ _) | (with_reducible assumption) | (with_reducible exact bel_box _) | (with_reducible refine bel_step ?_ (by with_reducible assumption)) | (with_reducible refine Below.drew ?_) | (with_reducible refine below_drewN ?_ _) | (with_reducible refine bel_alloc ?_ _))); obtain ⟨c0, c1⟩ := HE2.out w1 (by repeat (first | (with_reducible exact Below.refl _ _) | (with_reducible assumption) | (with_reducible exact bel_box _) | (with_reducible refine bel_step ?_ (by with_reducible assumption)) | (with_reducible refine Below.drew ?_) | (with_reducible refine below_drewN ?_ _) | (with_reducible refine bel_alloc ?_ _)))) | (go_at_call 51; (with_reducible refine (KE2.out _).mono ?_); rintro ev w2 ⟨rfl, hb2⟩; clear q0 q1 q2 q3 y0' y1' y2' y3' c0 c1; obtain ⟨q0, q1, q2, q3⟩ := box2 (w := w) (W := w2) (by repeat (first | (with_reducible exact Below.refl _ _) | (with_reducible assumption) | (with_reducible exact bel_box _) | (with_reducible refine bel_step ?_ (by with_reducible assumption)) | (with_reducible refine Below.drew ?_) | (with_reducible refine below_drewN ?_ _) | (with_reducible refine bel_alloc ?_ _))); obtain ⟨y0', y1', y2', y3'⟩ := by_box (w1 := w2) (by repeat (first | (with_reducible exact Below.refl _ _) | (with_reducible assumption) | (with_reducible exact bel_box _) | (with_reducible refine bel_step ?_ (by with_reducible assumption)) | (with_reducible refine Below.drew ?_) | (with_reducible refine below_drewN ?_ _) | (with_reducible refine bel_alloc ?_ _))); obtain ⟨c0, c1⟩ := HE2.out w2 (by repeat (first | (with_reducible exact Below.refl _ _) | (with_reducible assumption) | (with_reducible exact bel_box _) | (with_reducible refine bel_step ?_ (by with_reducible assumption)) | (with_reducible refine Below.drew ?_) | (with_reducible refine below_drewN ?_ _) | (with_reducible refine bel_alloc ?_ _)))) | (go_at_call 45; (with_reducible refine (KU.out _).mono ?_); rintro e w9 ⟨rfl, hb9⟩; clear q0 q1 q2 q3; obtain ⟨q0, q1, q2, q3⟩ := box2 (w := w) (W := w9) (by repeat (first | (with_reducible exact Below.refl _ _) | (with_reducible assumption) | (with_reducible exact bel_box _) | (with_reducible refine bel_step ?_ (by with_reducible assumption)) | (with_reducible refine Below.drew ?_) | (with_reducible refine below_drewN ?_ _) | (with_reducible refine bel_alloc ?_ _)))))
          obtain ⟨t1, t2⟩ := set2_cells q0 q1 (.int .i64 2) (.int .i64 0)
          refine bodyPost_ret (v := cV (2, 0)) (by simp [results, Try.results52, go_sem, t1, t2, cV]) rfl ⟨rfl, ?_⟩
          first | exact bel_set2 (by repeat (first | (with_reducible exact Below.refl _ _) | (with_reducible assumption) | (with_reducible exact bel_box _) | (with_reducible refine bel_step ?_ (by with_reducible assumption)) | (with_reducible refine Below.drew ?_) | (with_reducible refine below_drewN ?_ _) | (with_reducible refine bel_alloc ?_ _))) (Nat.le_refl _) _ _ | exact Below.drew (bel_set2 (by repeat (first | (with_reducible exact Below.refl _ _) | (with_reducible assumption) | (with_reducible exact bel_box _) | (with_reducible refine bel_step ?_ (by with_reducible assumption)) | (with_reducible refine Below.drew ?_) | (with_reducible refine below_drewN ?_ _) | (with_reducible refine bel_alloc ?_ _))) (Nat.le_refl _) _ _)
        · rw [hte] at KE2
          obtain rfl : z = (ex, ey) := by rw [hz, if_pos ⟨rfl, h1, h2, hte⟩]
          clear hz HE hgd he HRA hte KT
          go_enter Try.func52, Try.ntmps52
          go_wp2
          go_region_held3 (fun W => W.cell? ⟨g, 0, none⟩ = some (.int .i64 1) ∧ W.cell? ⟨g, 1, none⟩ = some (.int .i64 (k : Int)))
            ((refine HK.out _ ?_; (focus ((repeat (first | (with_reducible exact Below.refl _ _) | (with_reducible assumption) | (with_reducible exact bel_box _) | (with_reducible refine bel_step ?_ (by with_reducible assumption)) | (with_reducible refine Below.drew ?_) | (with_reducible refine below_drewN ?_ _) | (with_reducible refine bel_alloc ?_ _))); done))))
            (first | (fail))
          go_wp2_with (first | (go_at_call 51; (with_reducible refine (KE.out _).mono ?_); rintro e w1 ⟨rfl, hb1⟩; obtain ⟨q0, q1, q2, q3⟩ := box2 (w := w) (W := w1) (by repeat (first | (with_reducible exact Below.refl _ _) | (with_reducible assumption) | (with_reducible exact bel_box _) | (with_reducible refine bel_step ?_ (by with_reducible assumption)) | (with_reducible refine Below.drew ?_) | (with_reducible refine below_drewN ?_ _) | (with_reducible refine bel_alloc ?_ _))); obtain ⟨y0', y1', y2', y3'⟩ := by_box (w1 := w1) (by repeat (first | (with_reducible exact Below.refl _ _) | (with_reducible assumption) | (with_reducible exact bel_box _) | (with_reducible refine bel_step ?_ (by with_reducible assumption)) | (with_reducible refine Below.drew ?_) | (with_reducible refine below_drewN ?_ _) | (with_reducible refine bel_alloc ?_ _))); obtain ⟨c0, c1⟩ := HE2.out w1 (by repeat (first | (with_reducible exact Below.refl _ _) | (with_reducible assumption) | (with_reducible exact bel_box _) | (with_reducible refine bel_step ?_ (by with_reducible assumption)) | (with_reducible refine Below.drew ?_) | (with_reducible refine below_drewN ?_ _) | (with_reducible refine bel_alloc ?_ _)))) | (go_at_call 51; (with_reducible refine (KE2.out _).mono ?_); rintro ev w2 ⟨rfl, hb2⟩; clear q0 q1 q2 q3 y0' y1' y2' y3' c0 c1; obtain ⟨q0, q1, q2, q3⟩ := box2 (w := w) (W := w2) (by repeat (first | (with_reducible exact Below.refl _ _) | (with_reducible assumption) | (with_reducible exact bel_box _) | (with_reducible refine bel_step ?_ (by with_reducible assumption)) | (with_reducible refine Below.drew ?_) | (with_reducible refine below_drewN ?_ _) | (with_reducible refine bel_alloc ?_ _))); obtain ⟨y0', y1', y2', y3'⟩ := by_box (w1 := w2) (by repeat (first | (with_reducible exact Below.refl _ _) | (with_reducible assumption) | (with_reducible exact bel_box _) | (with_reducible refine bel_step ?_ (by with_reducible assumption)) | (with_reducible refine Below.drew ?_) | (with_reducible refine below_drewN ?_ _) | (with_reducible refine bel_alloc ?_ _))); obtain ⟨c0, c1⟩ := HE2.out w2 (by repeat (first | (with_reducible exact Below.refl _ _) | (with_reducible assumption) | (with_reducible exact bel_box _) | (with_reducible refine bel_step ?_ (by with_reducible assumption)) | (with_reducible refine Below.drew ?_) | (with_reducible refine below_drewN ?_ _) | (with_reducible refine bel_alloc ?_ _)))) | (go_at_call 45; (with_reducible refine (KU.out _).mono ?_); rintro e w9 ⟨rfl, hb9⟩; clear q0 q1 q2 q3; obtain ⟨q0, q1, q2, q3⟩ := box2 (w := w) (W := w9) (by repeat (first | (with_reducible exact Below.refl _ _) | (with_reducible assumption) | (with_reducible exact bel_box _) | (with_reducible refine bel_step ?_ (by with_reducible assumption)) | (with_reducible refine Below.drew ?_) | (with_reducible refine below_drewN ?_ _) | (with_reducible refine bel_alloc ?_ _)))))
          obtain ⟨t1, t2⟩ := set2_cells q0 q1 (.int .i64 ex) (.int .i64 ey)
          refine bodyPost_ret (v := cV (ex, ey)) (by simp [results, Try.results52, go_sem, t1, t2, cV]) rfl ⟨rfl, ?_⟩
          first | exact bel_set2 (by repeat (first | (with_reducible exact Below.refl _ _) | (with_reducible assumption) | (with_reducible exact bel_box _) | (with_reducible refine bel_step ?_ (by with_reducible assumption)) | (with_reducible refine Below.drew ?_) | (with_reducible refine below_drewN ?_ _) | (with_reducible refine bel_alloc ?_ _))) (Nat.le_refl _) _ _ | exact Below.drew (bel_set2 (by repeat (first | (with_reducible exact Below.refl _ _) | (with_reducible assumption) | (with_reducible exact bel_box _) | (with_reducible refine bel_step ?_ (by with_reducible assumption)) | (with_reducible refine Below.drew ?_) | (with_reducible refine below_drewN ?_ _) | (with_reducible refine bel_alloc ?_ _))) (Nat.le_refl _) _ _)
    · obtain rfl : z = (2, 0) := by rw [hz, if_neg (fun h => hx h.1)]
      have hx2 : x0 = 2 := by
        unfold thB at hth
        simp at hth
        omega
      subst hx2
      clear hz HE hth hx
      go_enter Try.func52, Try.ntmps52
      go_wp2
      go_region_held3 (fun W => W.cell? ⟨g, 0, none⟩ = some (.int .i64 2) ∧ W.cell? ⟨g, 1, none⟩ = some (.int .i64 y0))
        ((refine HK.out _ ?_; (focus ((repeat (first | (with_reducible exact Below.refl _ _) | (with_reducible assumption) | (with_reducible exact bel_box _) | (with_reducible refine bel_step ?_ (by with_reducible assumption)) | (with_reducible refine Below.drew ?_) | (with_reducible refine below_drewN ?_ _) | (with_reducible refine bel_alloc ?_ _))); done))))
        (first | (fail))
      go_wp2_with (first | (go_at_call 51; (with_reducible refine (KE.out _).mono ?_); rintro e w1 ⟨rfl, hb1⟩; obtain ⟨q0, q1, q2, q3⟩ := box2 (w := w) (W := w1) (by repeat (first | (with_reducible exact Below.refl _ _) | (with_reducible assumption) | (with_reducible exact bel_box _) | (with_reducible refine bel_step ?_ (by with_reducible assumption)) | (with_reducible refine Below.drew ?_) | (with_reducible refine below_drewN ?_ _) | (with_reducible refine bel_alloc ?_ _))); obtain ⟨y0', y1', y2', y3'⟩ := by_box (w1 := w1) (by repeat (first | (with_reducible exact Below.refl _ _) | (with_reducible assumption) | (with_reducible exact bel_box _) | (with_reducible refine bel_step ?_ (by with_reducible assumption)) | (with_reducible refine Below.drew ?_) | (with_reducible refine below_drewN ?_ _) | (with_reducible refine bel_alloc ?_ _)))) | (go_at_call 45; (with_reducible refine (KU.out _).mono ?_); rintro e w9 ⟨rfl, hb9⟩; clear q0 q1 q2 q3; obtain ⟨q0, q1, q2, q3⟩ := box2 (w := w) (W := w9) (by repeat (first | (with_reducible exact Below.refl _ _) | (with_reducible assumption) | (with_reducible exact bel_box _) | (with_reducible refine bel_step ?_ (by with_reducible assumption)) | (with_reducible refine Below.drew ?_) | (with_reducible refine below_drewN ?_ _) | (with_reducible refine bel_alloc ?_ _)))))
      obtain ⟨t1, t2⟩ := set2_cells q0 q1 (.int .i64 2) (.int .i64 0)
      refine bodyPost_ret (v := cV (2, 0)) (by simp [results, Try.results52, go_sem, t1, t2, cV]) rfl ⟨rfl, ?_⟩
      first | exact bel_set2 (by repeat (first | (with_reducible exact Below.refl _ _) | (with_reducible assumption) | (with_reducible exact bel_box _) | (with_reducible refine bel_step ?_ (by with_reducible assumption)) | (with_reducible refine Below.drew ?_) | (with_reducible refine below_drewN ?_ _) | (with_reducible refine bel_alloc ?_ _))) (Nat.le_refl _) _ _ | exact Below.drew (bel_set2 (by repeat (first | (with_reducible exact Below.refl _ _) | (with_reducible assumption) | (with_reducible exact bel_box _) | (with_reducible refine bel_step ?_ (by with_reducible assumption)) | (with_reducible refine Below.drew ?_) | (with_reducible refine below_drewN ?_ _) | (with_reducible refine bel_alloc ?_ _))) (Nat.le_refl _) _ _)
end Go.Proofs.Ytefmnjcllncmpaa
/- each at its four steps. -/
namespace Go.Proofs.Ytefmnjcllncmpaa
set_option linter.unusedVariables false
set_option linter.unusedSimpArgs false
open Go.RowKit
def eS (f : List (Int × Int) → Int × Int) (_ : Unit) (r : List (Int × Int)) : Unit × (Int × Int) := ((), f r)
theorem outE (f : List (Int × Int) → Int × Int) (ls : List St) (t : Nat) : outT (eS f) () ls t = (rowsTo ls t).map f := by
  induction t with
  | zero => rfl
  | succ t ih => rw [outT_succ, ih, rowsTo_succ, List.map_append]; rfl
theorem e_box {w w1 : World} {x y : Value} {t0 t1 t2 : TypeId} (hb : Below (((w.alloc (.cells #[] t0)).alloc (.cells #[] t1)).alloc (.cells #[x, y] t2)).heap.size (((w.alloc (.cells #[] t0)).alloc (.cells #[] t1)).alloc (.cells #[x, y] t2)) w1) :
    w1.cell? ⟨w.heap.size + 1 + 1, 0, none⟩ = some x ∧ w1.cell? ⟨w.heap.size + 1 + 1, 1, none⟩ = some y ∧ w1.frozen? ⟨w.heap.size + 1 + 1, 0, none⟩ = false ∧ w1.frozen? ⟨w.heap.size + 1 + 1, 1, none⟩ = false := by
  have h := (Bk.new ((w.alloc (.cells #[] t0)).alloc (.cells #[] t1)) t2 #[x, y]).below hb (by simp)
  rw [World.size_alloc, World.size_alloc] at h
  exact ⟨h.cell 0, h.cell 1, h.frozen 0, h.frozen 1⟩
set_option maxHeartbeats 2000000 in
theorem each1_lift (p0 : Value) (f : List (Int × Int) → Int × Int) (r : List (Int × Int)) (g n : Nat) (pb : Addr) (w : World)
    (K : Hid (∀ W, Below w.heap.size w W → Calls Try.prog 35 #[.slice (some ⟨g, 0, none⟩) n n, p0] W (Bel (cV (f r)) W))) (hpb : pb.block < w.heap.size) (hc : w.cell? pb = some (.func (.func 35) #[] #[p0])) :
    Calls Try.prog 61 #[.agg #[], .slice (some ⟨g, 0, none⟩) n n, .pointer (some pb)] w (Bel (.tuple #[.agg #[], cV (f r)]) w) := by
  simp only [cV] at K ⊢
  generalize f r = z at *
  obtain ⟨z0, z1⟩ := z
  simp only at K ⊢
  have HK : Hid (∀ W, Below w.heap.size w W → W.cell? pb = some (.func (.func 35) #[] #[p0])) := Lib.hid fun W hb => (hb.cell hpb).trans hc
  clear hpb
  go_enter Try.func61, Try.ntmps61
  go_wp2
  go_region_held3 (fun W => W.cell? pb = some (.func (.func 35) #[] #[p0]))
    ((refine HK.out _ ?_; (first | (focus ((repeat (first | (with_reducible exact Below.refl _ _) | (with_reducible assumption) | (with_reducible exact bel_box _) | (with_reducible refine bel_step ?_ (by with_reducible assumption)) | (with_reducible refine Below.drew ?_) | (with_reducible refine below_drewN ?_ _) | (with_reducible refine bel_alloc ?_ _))); done)) | (refine bel_two ?_ (by omega) _ _; (focus ((repeat (first | (with_reducible exact Below.refl _ _) | (with_reducible assumption) | (with_reducible exact bel_box _) | (with_reducible refine bel_step ?_ (by with_reducible assumption)) | (with_reducible refine Below.drew ?_) | (with_reducible refine below_drewN ?_ _) | (with_reducible refine bel_alloc ?_ _))); done))))))
    (first | (go_at_call 35; (with_reducible refine (K.out _ ?_).mono ?_); (focus ((repeat (first | (with_reducible exact Below.refl _ _) | (with_reducible assumption) | (with_reducible exact bel_box _) | (with_reducible refine bel_step ?_ (by with_reducible assumption)) | (with_reducible refine Below.drew ?_) | (with_reducible refine below_drewN ?_ _) | (with_reducible refine bel_alloc ?_ _))); done)); rintro e w1 ⟨rfl, hb1⟩; obtain ⟨q0, q1, q2, q3⟩ := e_box (w := w) (w1 := w1) (by repeat (first | (with_reducible exact Below.refl _ _) | (with_reducible assumption) | (with_reducible exact bel_box _) | (with_reducible refine bel_step ?_ (by with_reducible assumption)) | (with_reducible refine Below.drew ?_) | (with_reducible refine below_drewN ?_ _) | (with_reducible refine bel_alloc ?_ _)))))
  go_wp2
  obtain ⟨t1, t2⟩ := set2_cells q0 q1 (.int .i64 z0) (.int .i64 z1)
  refine bodyPost_ret (v := .tuple #[.agg #[], cV (z0, z1)]) (by simp [results, Try.results61, go_sem, t1, t2, cV]) rfl ⟨rfl, ?_⟩
  first | exact bel_two (by repeat (first | (with_reducible exact Below.refl _ _) | (with_reducible assumption) | (with_reducible exact bel_box _) | (with_reducible refine bel_step ?_ (by with_reducible assumption)) | (with_reducible refine Below.drew ?_) | (with_reducible refine below_drewN ?_ _) | (with_reducible refine bel_alloc ?_ _))) (by omega) _ _ | exact Below.drew (bel_two (by repeat (first | (with_reducible exact Below.refl _ _) | (with_reducible assumption) | (with_reducible exact bel_box _) | (with_reducible refine bel_step ?_ (by with_reducible assumption)) | (with_reducible refine Below.drew ?_) | (with_reducible refine below_drewN ?_ _) | (with_reducible refine bel_alloc ?_ _))) (by omega) _ _)
set_option maxHeartbeats 2000000 in
theorem each_lift (p0 : Value) (f : List (Int × Int) → Int × Int) (A : Option Addr) (c : Nat) (ls : List St) (w : World) (hA : RdS w w.heap.size A ls) (hl : ls.length ≤ 100) (h3 : ∀ s ∈ ls, s.l.length ≤ 1000000)
    (K : Hid (∀ (r : List (Int × Int)) (g : Nat) (W : World), r.length = ls.length → RdC W W.heap.size (some ⟨g, 0, none⟩) r → Below w.heap.size w W → Calls Try.prog 35 #[.slice (some ⟨g, 0, none⟩) r.length r.length, p0] W (Bel (cV (f r)) W))) :
    Calls Try.prog 34 #[.func (.func 35) #[] #[p0], .slice A ls.length c] w (NewC ((rowsTo ls (tog ls)).map f) w) := by
  rw [← outE]
  have HA := Lib.hid hA
  have KC : Hid (∀ pb W, Below w.heap.size w W → pb.block < W.heap.size → W.cell? pb = some (.func (.func 35) #[] #[p0]) → Calls Try.prog 62 #[.agg #[], .func (.func 61) #[] #[.pointer (some pb)], .slice A ls.length c] W (NewC (outT (eS f) () ls (tog ls)) W)) :=
    Lib.hid fun pb W hb hpb hc => by
      by_cases h0 : ls.length = 0
      · obtain rfl : ls = [] := List.eq_nil_of_length_eq_zero h0
        go_enter Try.func62, Try.ntmps62
        go_wp2
        go_ret
        exact ⟨none, 0, rfl, fun h => absurd rfl h, (by repeat (first | (with_reducible exact Below.refl _ _) | (with_reducible assumption) | (with_reducible exact bel_box _) | (with_reducible refine bel_step ?_ (by with_reducible assumption)) | (with_reducible refine Below.drew ?_) | (with_reducible refine below_drewN ?_ _) | (with_reducible refine bel_alloc ?_ _)))⟩
      · exact combine_e (.pointer (some pb)) A c ls () (eS f) W (hA.to hb) hl (by omega) h3 (Lib.hid fun s r g X hr hR hX =>
          each1_lift p0 f r g r.length pb X (Lib.hid fun Y hY => K.out r g Y hr (hR.to hY) ((hb.trans (hX.mono hb.size)).trans (hY.mono (Nat.le_trans hb.size hX.size)))) (Nat.lt_of_lt_of_le hpb hX.size) ((hX.cell hpb).trans hc))
  clear hA K
  go_enter Try.func34, Try.ntmps34
  go_wp2_with (go_at_call 62; (refine (KC.out ⟨w.heap.size, 0, none⟩ _ ?_ ?_ ?_).mono ?_); (focus ((repeat (first | (with_reducible exact Below.refl _ _) | (with_reducible assumption) | (with_reducible exact bel_box _) | (with_reducible refine bel_step ?_ (by with_reducible assumption)) | (with_reducible refine Below.drew ?_) | (with_reducible refine below_drewN ?_ _) | (with_reducible refine bel_alloc ?_ _))); done)); (focus (simp)); (focus (simp [go_sem])); rintro e w2 ⟨A', c', rfl, hR', hb2⟩)
  go_ret
  exact ⟨A', c', rfl, hR', (by repeat (first | (with_reducible exact Below.refl _ _) | (with_reducible assumption) | (with_reducible exact bel_box _) | (with_reducible refine bel_step ?_ (by with_reducible assumption)) | (with_reducible refine Below.drew ?_) | (with_reducible refine below_drewN ?_ _) | (with_reducible refine bel_alloc ?_ _)))⟩
set_option maxHeartbeats 2000000 in
theorem each1_when (p0 : Value) (f : List (Int × Int) → Int × Int) (r : List (Int × Int)) (g n : Nat) (pb : Addr) (w : World)
    (K : Hid (∀ W, Below w.heap.size w W → Calls Try.prog 60 #[.slice (some ⟨g, 0, none⟩) n n, p0] W (Bel (cV (f r)) W))) (hpb : pb.block < w.heap.size) (hc : w.cell? pb = some (.func (.func 60) #[] #[p0])) :
    Calls Try.prog 61 #[.agg #[], .slice (some ⟨g, 0, none⟩) n n, .pointer (some pb)] w (Bel (.tuple #[.agg #[], cV (f r)]) w) := by
  simp only [cV] at K ⊢
  generalize f r = z at *
  obtain ⟨z0, z1⟩ := z
  simp only at K ⊢
  have HK : Hid (∀ W, Below w.heap.size w W → W.cell? pb = some (.func (.func 60) #[] #[p0])) := Lib.hid fun W hb => (hb.cell hpb).trans hc
  clear hpb
  go_enter Try.func61, Try.ntmps61
  go_wp2
  go_region_held3 (fun W => W.cell? pb = some (.func (.func 60) #[] #[p0]))
    ((refine HK.out _ ?_; (first | (focus ((repeat (first | (with_reducible exact Below.refl _ _) | (with_reducible assumption) | (with_reducible exact bel_box _) | (with_reducible refine bel_step ?_ (by with_reducible assumption)) | (with_reducible refine Below.drew ?_) | (with_reducible refine below_drewN ?_ _) | (with_reducible refine bel_alloc ?_ _))); done)) | (refine bel_two ?_ (by omega) _ _; (focus ((repeat (first | (with_reducible exact Below.refl _ _) | (with_reducible assumption) | (with_reducible exact bel_box _) | (with_reducible refine bel_step ?_ (by with_reducible assumption)) | (with_reducible refine Below.drew ?_) | (with_reducible refine below_drewN ?_ _) | (with_reducible refine bel_alloc ?_ _))); done))))))
    (first | (go_at_call 60; (with_reducible refine (K.out _ ?_).mono ?_); (focus ((repeat (first | (with_reducible exact Below.refl _ _) | (with_reducible assumption) | (with_reducible exact bel_box _) | (with_reducible refine bel_step ?_ (by with_reducible assumption)) | (with_reducible refine Below.drew ?_) | (with_reducible refine below_drewN ?_ _) | (with_reducible refine bel_alloc ?_ _))); done)); rintro e w1 ⟨rfl, hb1⟩; obtain ⟨q0, q1, q2, q3⟩ := e_box (w := w) (w1 := w1) (by repeat (first | (with_reducible exact Below.refl _ _) | (with_reducible assumption) | (with_reducible exact bel_box _) | (with_reducible refine bel_step ?_ (by with_reducible assumption)) | (with_reducible refine Below.drew ?_) | (with_reducible refine below_drewN ?_ _) | (with_reducible refine bel_alloc ?_ _)))))
  go_wp2
  obtain ⟨t1, t2⟩ := set2_cells q0 q1 (.int .i64 z0) (.int .i64 z1)
  refine bodyPost_ret (v := .tuple #[.agg #[], cV (z0, z1)]) (by simp [results, Try.results61, go_sem, t1, t2, cV]) rfl ⟨rfl, ?_⟩
  first | exact bel_two (by repeat (first | (with_reducible exact Below.refl _ _) | (with_reducible assumption) | (with_reducible exact bel_box _) | (with_reducible refine bel_step ?_ (by with_reducible assumption)) | (with_reducible refine Below.drew ?_) | (with_reducible refine below_drewN ?_ _) | (with_reducible refine bel_alloc ?_ _))) (by omega) _ _ | exact Below.drew (bel_two (by repeat (first | (with_reducible exact Below.refl _ _) | (with_reducible assumption) | (with_reducible exact bel_box _) | (with_reducible refine bel_step ?_ (by with_reducible assumption)) | (with_reducible refine Below.drew ?_) | (with_reducible refine below_drewN ?_ _) | (with_reducible refine bel_alloc ?_ _))) (by omega) _ _)
set_option maxHeartbeats 2000000 in
theorem each1_merge (f : List (Int × Int) → Int × Int) (r : List (Int × Int)) (g n : Nat) (pb : Addr) (w : World)
    (K : Hid (∀ W, Below w.heap.size w W → Calls Try.prog 52 #[.slice (some ⟨g, 0, none⟩) n n] W (Bel (cV (f r)) W))) (hpb : pb.block < w.heap.size) (hc : w.cell? pb = some (.func (.func 52) #[] #[])) :
    Calls Try.prog 61 #[.agg #[], .slice (some ⟨g, 0, none⟩) n n, .pointer (some pb)] w (Bel (.tuple #[.agg #[], cV (f r)]) w) := by
  simp only [cV] at K ⊢
  generalize f r = z at *
  obtain ⟨z0, z1⟩ := z
  simp only at K ⊢
  have HK : Hid (∀ W, Below w.heap.size w W → W.cell? pb = some (.func (.func 52) #[] #[])) := Lib.hid fun W hb => (hb.cell hpb).trans hc
  clear hpb
  go_enter Try.func61, Try.ntmps61
  go_wp2
  go_region_held3 (fun W => W.cell? pb = some (.func (.func 52) #[] #[]))
    ((refine HK.out _ ?_; (first | (focus ((repeat (first | (with_reducible exact Below.refl _ _) | (with_reducible assumption) | (with_reducible exact bel_box _) | (with_reducible refine bel_step ?_ (by with_reducible assumption)) | (with_reducible refine Below.drew ?_) | (with_reducible refine below_drewN ?_ _) | (with_reducible refine bel_alloc ?_ _))); done)) | (refine bel_two ?_ (by omega) _ _; (focus ((repeat (first | (with_reducible exact Below.refl _ _) | (with_reducible assumption) | (with_reducible exact bel_box _) | (with_reducible refine bel_step ?_ (by with_reducible assumption)) | (with_reducible refine Below.drew ?_) | (with_reducible refine below_drewN ?_ _) | (with_reducible refine bel_alloc ?_ _))); done))))))
    (first | (go_at_call 52; (with_reducible refine (K.out _ ?_).mono ?_); (focus ((repeat (first | (with_reducible exact Below.refl _ _) | (with_reducible assumption) | (with_reducible exact bel_box _) | (with_reducible refine bel_step ?_ (by with_reducible assumption)) | (with_reducible refine Below.drew ?_) | (with_reducible refine below_drewN ?_ _) | (with_reducible refine bel_alloc ?_ _))); done)); rintro e w1 ⟨rfl, hb1⟩; obtain ⟨q0, q1, q2, q3⟩ := e_box (w := w) (w1 := w1) (by repeat (first | (with_reducible exact Below.refl _ _) | (with_reducible assumption) | (with_reducible exact bel_box _) | (with_reducible refine bel_step ?_ (by with_reducible assumption)) | (with_reducible refine Below.drew ?_) | (with_reducible refine below_drewN ?_ _) | (with_reducible refine bel_alloc ?_ _)))))
  go_wp2
  obtain ⟨t1, t2⟩ := set2_cells q0 q1 (.int .i64 z0) (.int .i64 z1)
  refine bodyPost_ret (v := .tuple #[.agg #[], cV (z0, z1)]) (by simp [results, Try.results61, go_sem, t1, t2, cV]) rfl ⟨rfl, ?_⟩
  first | exact bel_two (by repeat (first | (with_reducible exact Below.refl _ _) | (with_reducible assumption) | (with_reducible exact bel_box _) | (with_reducible refine bel_step ?_ (by with_reducible assumption)) | (with_reducible refine Below.drew ?_) | (with_reducible refine below_drewN ?_ _) | (with_reducible refine bel_alloc ?_ _))) (by omega) _ _ | exact Below.drew (bel_two (by repeat (first | (with_reducible exact Below.refl _ _) | (with_reducible assumption) | (with_reducible exact bel_box _) | (with_reducible refine bel_step ?_ (by with_reducible assumption)) | (with_reducible refine Below.drew ?_) | (with_reducible refine below_drewN ?_ _) | (with_reducible refine bel_alloc ?_ _))) (by omega) _ _)
set_option maxHeartbeats 2000000 in
theorem each_merge (f : List (Int × Int) → Int × Int) (A : Option Addr) (c : Nat) (ls : List St) (w : World) (hA : RdS w w.heap.size A ls) (hl : ls.length ≤ 100) (h3 : ∀ s ∈ ls, s.l.length ≤ 1000000)
    (K : Hid (∀ (r : List (Int × Int)) (g : Nat) (W : World), r.length = ls.length → RdC W W.heap.size (some ⟨g, 0, none⟩) r → Below w.heap.size w W → Calls Try.prog 52 #[.slice (some ⟨g, 0, none⟩) r.length r.length] W (Bel (cV (f r)) W))) :
    Calls Try.prog 34 #[.func (.func 52) #[] #[], .slice A ls.length c] w (NewC ((rowsTo ls (tog ls)).map f) w) := by
  rw [← outE]
  have HA := Lib.hid hA
  have KC : Hid (∀ pb W, Below w.heap.size w W → pb.block < W.heap.size → W.cell? pb = some (.func (.func 52) #[] #[]) → Calls Try.prog 62 #[.agg #[], .func (.func 61) #[] #[.pointer (some pb)], .slice A ls.length c] W (NewC (outT (eS f) () ls (tog ls)) W)) :=
    Lib.hid fun pb W hb hpb hc => by
      by_cases h0 : ls.length = 0
      · obtain rfl : ls = [] := List.eq_nil_of_length_eq_zero h0
        go_enter Try.func62, Try.ntmps62
        go_wp2
        go_ret
        exact ⟨none, 0, rfl, fun h => absurd rfl h, (by repeat (first | (with_reducible exact Below.refl _ _) | (with_reducible assumption) | (with_reducible exact bel_box _) | (with_reducible refine bel_step ?_ (by with_reducible assumption)) | (with_reducible refine Below.drew ?_) | (with_reducible refine below_drewN ?_ _) | (with_reducible refine bel_alloc ?_ _)))⟩
      · exact combine_e (.pointer (some pb)) A c ls () (eS f) W (hA.to hb) hl (by omega) h3 (Lib.hid fun s r g X hr hR hX =>
          each1_merge  f r g r.length pb X (Lib.hid fun Y hY => K.out r g Y hr (hR.to hY) ((hb.trans (hX.mono hb.size)).trans (hY.mono (Nat.le_trans hb.size hX.size)))) (Nat.lt_of_lt_of_le hpb hX.size) ((hX.cell hpb).trans hc))
  clear hA K
  go_enter Try.func34, Try.ntmps34
  go_wp2_with (go_at_call 62; (refine (KC.out ⟨w.heap.size, 0, none⟩ _ ?_ ?_ ?_).mono ?_); (focus ((repeat (first | (with_reducible exact Below.refl _ _) | (with_reducible assumption) | (with_reducible exact bel_box _) | (with_reducible refine bel_step ?_ (by with_reducible assumption)) | (with_reducible refine Below.drew ?_) | (with_reducible refine below_drewN ?_ _) | (with_reducible refine bel_alloc ?_ _))); done)); (focus (simp)); (focus (simp [go_sem])); rintro e w2 ⟨A', c', rfl, hR', hb2⟩)
  go_ret
  exact ⟨A', c', rfl, hR', (by repeat (first | (with_reducible exact Below.refl _ _) | (with_reducible assumption) | (with_reducible exact bel_box _) | (with_reducible refine bel_step ?_ (by with_reducible assumption)) | (with_reducible refine Below.drew ?_) | (with_reducible refine below_drewN ?_ _) | (with_reducible refine bel_alloc ?_ _)))⟩
end Go.Proofs.Ytefmnjcllncmpaa
/- slices.Grow of the nil slice, slices.Concat of two slices of bools, and append onto an owned slice. -/
namespace Go.Proofs.Ytefmnjcllncmpaa.cc
set_option linter.unusedVariables false
set_option linter.unusedSimpArgs false
open Go.RowKit
def bls (l : List St) : List Value := l.map stV
theorem bls_length (l : List St) : (bls l).length = l.length := by simp [bls]
theorem rowInfo : (Try.prog.info? 26).map (fun i => (i.zero, i.size, i.bytes)) = some (some (.slice none 0 0), 1, 24) := by kernel_rfl
section
variable {P : Program} (w : World)
theorem run_append_nothing (base : Nat) (t ty e : TypeId) (i : TypeInfo) (ht : P.underlying t = some (.slice e)) (hi : P.info? e = some i)
    (v : Value) (n : Nat) (xs : List Value) (hown : w.ownsRow base e 1 v n xs) (c : Nat) : (Builtin.append_ #[t, t] ty #[v, .slice none 0 c]).run P w = .ok v w := by
  rcases hown.2 with ⟨rfl, rfl⟩ | ⟨g, cap, cur, rfl, _, _, hnc, _⟩
  · simp [Builtin.append_, run_underlying ht, sizeOf, typeInfo, hi, Builtin.lenOf, Builtin.firstCells]
  · simp [Builtin.append_, run_underlying ht, sizeOf, typeInfo, hi, Builtin.lenOf, Builtin.firstCells, hnc, storeCells]
/-- append of a slice that is read (nil or not) onto a slice that the call owns -/
theorem run_append_rd (base : Nat) (t ty e : TypeId) (i : TypeInfo) (z : Value) (bytes : Nat) (ht : P.underlying t = some (.slice e)) (hi : P.info? e = some i) (hz : i.zero = some z)
    (hsize : i.size = 1) (hby : i.bytes = bytes) (hzs : z.cells.size = 1)
    (v : Value) (n : Nat) (xs : List Value) (hown : w.ownsRow base e 1 v n xs)
    (B : Nat) (A : Option Addr) (m c : Nat) (news : List Value) (hm : news.length = m) (hr : Rd w B A news) (h1 : ∀ u ∈ news, u.oneCell' = true)
    (h63 : n + m ≤ maxLen) (hbytes : (n + m) * bytes ≤ 140737488355328) (hbase : base ≤ w.heap.size) :
    ∃ v' w', (Builtin.append_ #[t, t] ty #[v, .slice A m c]).run P w = .ok v' w' ∧ w'.ownsRow base e 1 v' (n + m) (xs ++ news) ∧ w.grownBy w' v.ownBlock ∧
      (v'.ownBlock = v.ownBlock ∨ v'.ownBlock = some w.heap.size) := by
  subst hm
  rcases A with _ | ad
  · have hn : news = [] := by
      rcases Classical.em (news = []) with h | h
      · exact h
      · obtain ⟨ad, h, _⟩ := hr h
        cases h
    subst hn
    exact ⟨v, w, run_append_nothing w base t ty e i ht hi v n xs hown c, by simpa using hown, World.grownBy.refl w _, .inl rfl⟩
  · have hcells : ∀ j u, news[j]? = some u → w.cell? (ad.add j) = some u := by
      intro j u hu
      obtain ⟨ad', h, _, hc⟩ := hr (by rintro rfl; simp at hu)
      injection h with h
      subst h
      exact hc j u hu
    obtain ⟨v', w', hrun, h2, h3, _, h5⟩ := run_append_own_at (P := P) w base t ty e i z 1 bytes ht hi hz hsize hby hzs (by omega) v n xs hown ad news.length c news (by omega) hcells h1 h63 hbytes hbase
    exact ⟨v', w', hrun, h2, h3, h5⟩
theorem wp_append_rd {o : Oper} {a : Act} {K : Act → World → Prop} {Q : Exit → Act → World → Prop} (s x : Operand) (t : TypeId)
    (ho : o.op = .call { callee := .builtin .append, args := #[s, x], argTypes := #[t, t] })
    (base : Nat) (e : TypeId) (i : TypeInfo) (z : Value) (bytes : Nat) (ht : P.underlying t = some (.slice e)) (hi : P.info? e = some i) (hz : i.zero = some z)
    (hsize : i.size = 1) (hby : i.bytes = bytes) (hzs : z.cells.size = 1)
    (v : Value) (n : Nat) (xs : List Value) (hs : a.eval s = v) (hown : w.ownsRow base e 1 v n xs)
    (B : Nat) (A : Option Addr) (m c : Nat) (news : List Value) (hx : a.eval x = .slice A m c) (hm : news.length = m) (hr : Rd w B A news) (h1 : ∀ u ∈ news, u.oneCell' = true)
    (h63 : n + m ≤ maxLen) (hbytes : (n + m) * bytes ≤ 140737488355328) (hbase : base ≤ w.heap.size)
    (h : ∀ v' w', w'.ownsRow base e 1 v' (n + m) (xs ++ news) → w.grownBy w' v.ownBlock → (v'.ownBlock = v.ownBlock ∨ v'.ownBlock = some w.heap.size) → K (a.put o.dst v') w') : o.wp P a w K Q := by
  obtain ⟨v', w', hrun, h2, h3, h4⟩ := run_append_rd (P := P) w base t o.type e i z bytes ht hi hz hsize hby hzs v n xs hown B A m c news hm hr h1 h63 hbytes hbase
  unfold Oper.wp execOp
  simp only [ho, resolve, invoke, builtin, Sem.run_bind, Sem.run_pure, Result.andThen_ok, List.map_toArray, List.map_cons, List.map_nil, hs, hx, hrun]
  exact h v' w' h2 h3 h4
theorem wpList_append_rd {ops : Array Oper} {rest : List Oper} {o : Oper} {a : Act} {Q : Exit → Act → World → Prop} (hgd : o.guard = none) (s x : Operand) (t : TypeId)
    (ho : o.op = .call { callee := .builtin .append, args := #[s, x], argTypes := #[t, t] })
    (base : Nat) (e : TypeId) (i : TypeInfo) (z : Value) (bytes : Nat) (ht : P.underlying t = some (.slice e)) (hi : P.info? e = some i) (hz : i.zero = some z)
    (hsize : i.size = 1) (hby : i.bytes = bytes) (hzs : z.cells.size = 1)
    (v : Value) (n : Nat) (xs : List Value) (hs : a.eval s = v) (hown : w.ownsRow base e 1 v n xs)
    (B : Nat) (A : Option Addr) (m c : Nat) (news : List Value) (hx : a.eval x = .slice A m c) (hm : news.length = m) (hr : Rd w B A news) (h1 : ∀ u ∈ news, u.oneCell' = true)
    (h63 : n + m ≤ maxLen) (hbytes : (n + m) * bytes ≤ 140737488355328) (hbase : base ≤ w.heap.size)
    (h : ∀ v' w', w'.ownsRow base e 1 v' (n + m) (xs ++ news) → w.grownBy w' v.ownBlock → (v'.ownBlock = v.ownBlock ∨ v'.ownBlock = some w.heap.size) → wpList P ops Q rest (a.put o.dst v') w') : wpList P ops Q (o :: rest) a w :=
  wpList_plain hgd fun _ hK => wp_append_rd w s x t ho base e i z bytes ht hi hz hsize hby hzs v n xs hs hown B A m c news hx hm hr h1 h63 hbytes hbase fun v' w' h2 h3 h4 => hK _ _ (h v' w' h2 h3 h4)
end
theorem bls_one (l : List St) : ∀ u ∈ bls l, u.oneCell' = true := by
  intro u hu
  simp only [bls, List.mem_map] at hu
  obtain ⟨b, _, rfl⟩ := hu
  rfl
/-- a new slice with these bools, owned; the old blocks are left alone -/
def NewOwn (l : List St) (w : World) (e : Ending) (w' : World) : Prop := ∃ A c, e = .returned (.slice A l.length c) ∧ w'.ownsRow w.heap.size 26 1 (.slice A l.length c) l.length (bls l) ∧ Below w.heap.size w w'
set_option maxHeartbeats 2000000 in
set_option maxRecDepth 20000 in
theorem grow_nil (n : Nat) (w : World) (hn : n ≤ 1000000) :
    Calls Try.prog 67 #[.slice none 0 0, .int .i64 n] w (NewOwn [] w) := by
  obtain ⟨i0, hi, iz, is, ib⟩ := info_parts rowInfo
  rcases Nat.eq_zero_or_pos n with h0 | h0
  · subst h0
    go_enter Try.func67, Try.ntmps67
    go_wp2
    go_ret
    exact ⟨none, 0, rfl, World.ownsRow_nil _ _ _ _, Below.refl _ _⟩
  · have hb : Try.t26.bytes = 24 := by kernel_rfl
    have hns : Builtin.nextslicecap n 0 = n := nextslicecap_zero h0
    have hne : ¬ n = 0 := by omega
    go_enter Try.func67, Try.ntmps67
    go_wp2
    go_ret
    have hge := grownCap_ge w n 0 26
    have hm := grownCap_le_maxLen w n 0 26 (by unfold maxLen; omega)
    refine ⟨some ⟨w.heap.size, 0, none⟩, grownCap w n 0 26, rfl, ?_, (bel_box _).drew⟩
    refine (World.ownsRow_made (base := w.heap.size) (size := 1) (e := 26) w (Builtin.zeroCells #[Value.slice none 0 0] n ++ Builtin.zeroCells #[Value.slice none 0 0] (grownCap w n 0 26 - n)) (grownCap w n 0 26) (Nat.le_refl _) hm ?_).drew
    simp only [Array.size_append, size_zeroCells]
    simp
    omega
def catK (xs ys : List St) : Nat → List St
  | 0 => []
  | 1 => xs
  | _ => xs ++ ys
set_option maxHeartbeats 4000000 in
set_option maxRecDepth 20000 in
theorem concat_any (A B : Option Addr) (c d g : Nat) (xs ys : List St) (w : World) (hA : Rd w w.heap.size A (bls xs)) (hB : Rd w w.heap.size B (bls ys)) (hx : xs.length + ys.length ≤ 1000000)
    (hg0 : w.cell? ⟨g, 0, none⟩ = some (.slice A xs.length c)) (hg1 : w.cell? ⟨g, 1, none⟩ = some (.slice B ys.length d)) :
    Calls Try.prog 53 #[.slice (some ⟨g, 0, none⟩) 2 2] w (NewOwn (xs ++ ys) w) := by
  obtain ⟨i0, hi, iz, is, ib⟩ := info_parts rowInfo
  have hgl := World.block_lt_of_cell? w _ hg0
  simp only at hgl
  go_enter Try.func53, Try.ntmps53
  go_wp2
  go_loop [3, 11] (fun z i => ∃ k : Nat, k ≤ 2 ∧ i = .int .i64 k ∧ z = .int .i64 ((catK xs ys k).length : Nat)) (fun _ i => 2 - (intOf i).toNat)
  case atStart => exact ⟨0, by omega, rfl, rfl⟩
  case round =>
    obtain ⟨k, hk, rfl, rfl⟩ := hrel
    obtain rfl | rfl | rfl : k = 0 ∨ k = 1 ∨ k = 2 := by omega
    · simp only [catK, List.length_nil]
      go_wp2
      go_round
      case rel => exact ⟨1, by omega, rfl, by simp [catK]⟩
      case measure => simp [intOf]
    · simp only [catK]
      go_wp2
      go_round
      case rel => exact ⟨2, by omega, rfl, by simp [catK]⟩
      case measure => simp [intOf]
    · simp only [catK, List.length_append]
      go_wp2_with (go_at_call 67; refine (grow_nil (xs.length + ys.length) _ (by omega)).mono ?_; rintro e w1 ⟨V, cv, rfl, hown1, hb1⟩; obtain ⟨hc1, hf1, hz1⟩ := bcell hb1)
      have HO := Lib.hid hown1
      clear hown1
      go_loopw [6, 27] (fun v i wr => ∃ k : Nat, k ≤ 2 ∧ i = .int .i64 k ∧ wr.ownsRow w.heap.size 26 1 v (catK xs ys k).length (bls (catK xs ys k)) ∧ Below w.heap.size w wr) (fun _ i _ => 2 - (intOf i).toNat)
      case atStart => exact ⟨0, by omega, rfl, HO.out, hb1⟩
      case round =>
        obtain ⟨k, hk, rfl, hown, hbl⟩ := hrel
        have hg0' : wr.cell? ⟨g, 0, none⟩ = some (.slice A xs.length c) := (hbl.cell (p := ⟨g, 0, none⟩) hgl).trans hg0
        have hg1' : wr.cell? ⟨g, 1, none⟩ = some (.slice B ys.length d) := (hbl.cell (p := ⟨g, 1, none⟩) hgl).trans hg1
        have hA' := Lib.hid (hA.to hbl)
        have hB' := Lib.hid (hB.to hbl)
        have hsz := hbl.size
        obtain rfl | rfl | rfl : k = 0 ∨ k = 1 ∨ k = 2 := by omega
        · simp only [catK, List.length_nil] at hown
          go_wp2_with (at_builtin; refine wpList_append_rd _ rfl _ _ 22 rfl w.heap.size 26 i0 (.slice none 0 0) 24 Try.underlying22 hi iz is ib rfl _ _ _ rfl hown wr.heap.size A xs.length c (bls xs) rfl (bls_length _) hA'.out (bls_one _) (by unfold maxLen; omega) (by omega) hsz ?_; intro v2 w2 hown2 hgrow2 _)
          have hb2 : Below w.heap.size w w2 := hbl.grown hgrow2 hsz (fun k hk => (hown.lt k hk).1)
          go_roundw
          case rel => exact ⟨1, by omega, rfl, by simpa [catK, bls] using hown2, hb2⟩
          case measure => simp [intOf]
        · simp only [catK] at hown
          go_wp2_with (at_builtin; refine wpList_append_rd _ rfl _ _ 22 rfl w.heap.size 26 i0 (.slice none 0 0) 24 Try.underlying22 hi iz is ib rfl _ _ _ rfl hown wr.heap.size B ys.length d (bls ys) rfl (bls_length _) hB'.out (bls_one _) (by unfold maxLen; omega) (by omega) hsz ?_; intro v2 w2 hown2 hgrow2 _)
          have hb2 : Below w.heap.size w w2 := hbl.grown hgrow2 hsz (fun k hk => (hown.lt k hk).1)
          go_roundw
          case rel => exact ⟨2, by omega, rfl, by simpa [catK, bls] using hown2, hb2⟩
          case measure => simp [intOf]
        · simp only [catK] at hown
          go_wp2
          go_ret
          obtain ⟨V2, c2, hv2⟩ := own_form hown
          rw [hv2] at hown
          exact ⟨V2, c2, by rw [← hv2]; rfl, hown, hbl⟩
end Go.Proofs.Ytefmnjcllncmpaa.cc
/- Lift, If, When, Merge of the program. -/
namespace Go.Proofs.Ytefmnjcllncmpaa
set_option linter.unusedVariables false
set_option linter.unusedSimpArgs false
open Go.RowKit
set_option maxHeartbeats 1000000 in
theorem liftP_any (op : Int) (A : Option Addr) (c : Nat) (ls : List St) (w : World) (hA : RdS w w.heap.size A ls) (hl : ls.length ≤ 100) (h3 : ∀ s ∈ ls, s.l.length ≤ 1000000) :
    Calls Try.prog 12 #[.int .i64 op, .slice A ls.length c] w (NewC ((rowsTo ls (tog ls)).map (liftF op)) w) := by
  have KC : Hid (∀ p W, Below w.heap.size w W → p.block < W.heap.size → W.cell? p = some (.int .i64 op) → Calls Try.prog 34 #[.func (.func 35) #[] #[.pointer (some p)], .slice A ls.length c] W (NewC ((rowsTo ls (tog ls)).map (liftF op)) W)) :=
    Lib.hid fun p W hb hp hc => each_lift (.pointer (some p)) (liftF op) A c ls W (hA.to hb) hl h3 (Lib.hid fun r g X hr hR hX => lift1_any op p r g X (by omega) hR (Nat.lt_of_lt_of_le hp hX.size) ((hX.cell hp).trans hc))
  generalize (rowsTo ls (tog ls)).map (liftF op) = out at *
  clear hA h3
  go_enter Try.func12, Try.ntmps12
  go_wp2_with (go_at_call 34; (refine (KC.out ⟨w.heap.size, 0, none⟩ _ ?_ ?_ ?_).mono ?_); (focus ((repeat (first | (with_reducible exact Below.refl _ _) | (with_reducible assumption) | (with_reducible exact bel_box _) | (with_reducible refine bel_step ?_ (by with_reducible assumption)) | (with_reducible refine Below.drew ?_) | (with_reducible refine below_drewN ?_ _) | (with_reducible refine bel_alloc ?_ _))); done)); (focus (simp)); (focus (simp [go_sem])); rintro e w2 ⟨A', c', rfl, hR', hb2⟩)
  go_ret
  exact ⟨A', c', rfl, hR', (by repeat (first | (with_reducible exact Below.refl _ _) | (with_reducible assumption) | (with_reducible exact bel_box _) | (with_reducible refine bel_step ?_ (by with_reducible assumption)) | (with_reducible refine Below.drew ?_) | (with_reducible refine below_drewN ?_ _) | (with_reducible refine bel_alloc ?_ _)))⟩
theorem when_rds {W : World} {t t' : TypeId} (v : Value) (s u : St) {cs : Array Value} (h : RdC W W.heap.size s.A s.l) (h' : RdC W W.heap.size u.A u.l) (hcs : cs = #[stV s, stV u] := by rfl) : RdS ((W.alloc (.cells #[v] t)).alloc (.cells cs t')) ((W.alloc (.cells #[v] t)).alloc (.cells cs t')).heap.size (some ⟨W.heap.size + 1, 0, none⟩) [s, u] := by
  have := RdS.new (W := W.alloc (.cells #[v] t)) (t := t') [s, u] cs hcs (rl2 _ _ _ (h.to ((Below.refl _ _).alloc (Nat.le_refl _) _)) (h'.to ((Below.refl _ _).alloc (Nat.le_refl _) _)))
  rwa [World.size_alloc (w := W)] at this
set_option maxHeartbeats 1000000 in
theorem mergeP_any (C A : Option Addr) (f c : Nat) (x : List (Int × Int)) (ls : List St) (w : World) (hC : RdC w w.heap.size C x) (hA : RdS w w.heap.size A ls) (hx : x.length ≤ 1000000) (hl : ls.length ≤ 90) (h3 : ∀ s ∈ ls, s.l.length ≤ 1000000) :
    Calls Try.prog 24 #[.slice C x.length f, .slice A ls.length c] w (NewC ((rowsTo (⟨C, f, x⟩ :: ls) (tog (⟨C, f, x⟩ :: ls))).map mergeF) w) := by
  have HC := Lib.hid hC
  have HA := Lib.hid hA
  have K1 : Hid (∀ g B W, Below w.heap.size w W → W.cell? ⟨g, 0, none⟩ = some (.slice (some ⟨B, 0, none⟩) 1 1) → W.cell? ⟨g, 1, none⟩ = some (.slice A ls.length c) → B < W.heap.size → W.cell? ⟨B, 0, none⟩ = some (.slice C x.length f) → Calls Try.prog 53 #[.slice (some ⟨g, 0, none⟩) 2 2] W (fun e w' => ∃ A1 c1, e = .returned (.slice A1 (ls.length + 1) c1) ∧ RdS w' w'.heap.size A1 (⟨C, f, x⟩ :: ls) ∧ Below W.heap.size W w')) :=
    Lib.hid fun g B W hb h0 h1 hB hc => (cc.concat_any (some ⟨B, 0, none⟩) A 1 c g [⟨C, f, x⟩] ls W (fun _ => ⟨_, rfl, hB, fun j v hj => by
      match j, hj with
      | 0, hj => obtain rfl : stV ⟨C, f, x⟩ = v := by simpa [cc.bls] using hj
                 exact hc⟩) (hA.to hb).1 (by simp; omega) h0 h1).mono fun e w' h => by
      obtain ⟨A1, c1, rfl, hown, hb1⟩ := h
      have hl1 : ([(⟨C, f, x⟩ : St)] ++ ls).length = ls.length + 1 := by simp
      rw [hl1] at hown ⊢
      have hbb : Below w.heap.size w w' := hb.trans (hb1.mono hb.size)
      refine ⟨A1, c1, rfl, ⟨Rd.of_own hown, fun s hs => ?_⟩, hb1⟩
      rcases List.mem_cons.1 hs with rfl | hs
      · exact hC.to hbb
      · exact (hA.2 s hs).to hbb
  have K2 : Hid (∀ A' c' W, RdS W W.heap.size A' (⟨C, f, x⟩ :: ls) → Calls Try.prog 34 #[.func (.func 52) #[] #[], .slice A' (ls.length + 1) c'] W (NewC ((rowsTo (⟨C, f, x⟩ :: ls) (tog (⟨C, f, x⟩ :: ls))).map mergeF) W)) :=
    Lib.hid fun A' c' W h => each_merge mergeF A' c' (⟨C, f, x⟩ :: ls) W h (by simp; omega) (by intro s hs; rcases List.mem_cons.1 hs with rfl | hs; exact hx; exact h3 s hs) (Lib.hid fun r g X hr hR hX => by
      match r, hr, hR with
      | b :: rest, hr, hR => exact merge1_any b rest g X (by simp at hr; omega) hR)
  generalize (rowsTo (⟨C, f, x⟩ :: ls) (tog (⟨C, f, x⟩ :: ls))).map mergeF = out at *
  clear hA hC
  go_enter Try.func24, Try.ntmps24
  go_wp2_with (first
    | (go_at_call 53; (refine (K1.out _ w.heap.size _ ?_ ?_ ?_ ?_ ?_).mono ?_); (focus ((repeat (first | (with_reducible exact Below.refl _ _) | (with_reducible assumption) | (with_reducible exact bel_box _) | (with_reducible refine bel_step ?_ (by with_reducible assumption)) | (with_reducible refine Below.drew ?_) | (with_reducible refine below_drewN ?_ _) | (with_reducible refine bel_alloc ?_ _))); done)); (focus (simp [go_sem])); (focus (simp [go_sem])); (focus (simp; omega)); (focus (simp [go_sem])); rintro e w1 ⟨A1, c1, rfl, hR1, hb1⟩)
    | (go_at_call 34; (refine (K2.out _ _ _ ?_).mono ?_); (focus (exact hR1)); rintro e w2 ⟨A', c', rfl, hR', hb2⟩))
  go_ret
  exact ⟨A', c', rfl, hR', (by repeat (first | (with_reducible exact Below.refl _ _) | (with_reducible assumption) | (with_reducible exact bel_box _) | (with_reducible refine bel_step ?_ (by with_reducible assumption)) | (with_reducible refine Below.drew ?_) | (with_reducible refine below_drewN ?_ _) | (with_reducible refine bel_alloc ?_ _)))⟩
end Go.Proofs.Ytefmnjcllncmpaa
/-
  DERIVED: THE SHELF's CONTRACTS AT THIS DUMP, IN PLAIN WORDS (tools/lay-plain.mjs out of 'TryShelf.lean', which tools/lay-shelf.mjs wrote): THE SAME DECLARATIONS UNDER THE SAME NAMES: 'import', 'namespace', 'open', 'def', 'theorem' AND NOTHING ELSE: no command of the shelf's: FOR A HAND-IN. Each laying: the table of numbers ('.._ren') and one theorem, a field a fact of the dump's own or the kernel's comparison; each contract: ONE APPLICATION.
-/
namespace Go.Proofs
open Go.Shelf
def Try.lays212_ren : Go.Shelf.Ren := ⟨fun | 212 => 65 | 263 => 80 | 264 => 81 | n => n, fun | 46 => 74 | 51 => 92 | 146 => 93 | 53 => 95 | 148 => 96 | n => n, fun | n => n⟩
theorem Try.lays212 : Go.Proofs.Lays.n212 Try.prog Try.lays212_ren := {
  mixed := by kernel_rfl
  f212 := Try.func65.trans (congrArg some (by kernel_rfl))
  f263 := Try.func80.trans (congrArg some (by kernel_rfl))
  f264 := Try.func81.trans (congrArg some (by kernel_rfl))
  t46 := Try.underlying74
  a46 := Try.isAgg74
  z46 := Try.sizeOf74
  v46 := Try.zeroValue74
  t51 := Try.underlying92
  a51 := Try.isAgg92
  z51 := Try.sizeOf92
  v51 := Try.zeroValue92
  t53 := Try.underlying95
  a53 := Try.isAgg95
  z53 := Try.sizeOf95
  v53 := Try.zeroValue95
  t146 := Try.underlying93
  a146 := Try.isAgg93
  z146 := Try.sizeOf93
  v146 := Try.zeroValue93
  t148 := Try.underlying96
  a148 := Try.isAgg96
  z148 := Try.sizeOf96
  v148 := Try.zeroValue96 }
open Go.RowKit Go.Lib in
/-- math/bits.Mul: "Mul returns the full-width product of x and y": on a machine of 64 bits: Mul64's. (LAID: no walk: one application.) -/
theorem Try.bits_Mul (x y : Nat) (hx : x < 18446744073709551616) (hy : y < 18446744073709551616) (w : World) :
    Calls Try.prog 65 #[.int .u64 x, .int .u64 y] w fun e w' => e = .returned (.tuple #[.int .u64 ((x * y / 18446744073709551616 : Nat) : Int), .int .u64 ((x * y % 18446744073709551616 : Nat) : Int)]) ∧ w' = w := Any.bits_Mul Try.lays212 x y hx hy w
end Go.Proofs
/- copy of cells; slices.Repeat of one cell; Const of the program. -/
namespace Go.Proofs.Ytefmnjcllncmpaa
set_option linter.unusedVariables false
set_option linter.unusedSimpArgs false
open Go.RowKit
theorem fl_append (a b : List (Int × Int)) : fl (a ++ b) = fl a ++ fl b := by simp [fl]
theorem fl_take (l : List (Int × Int)) (k : Nat) : (fl l).take (k * 2) = fl (l.take k) := by
  induction l generalizing k with
  | nil => simp [fl]
  | cons a l ih =>
    cases k with
    | zero => rfl
    | succ k => rw [fl_cons, show (k + 1) * 2 = k * 2 + 1 + 1 by omega, List.take_succ_cons, List.take_succ_cons, ih, List.take_succ_cons, fl_cons]
theorem fl_drop (l : List (Int × Int)) (k : Nat) : (fl l).drop (k * 2) = fl (l.drop k) := by
  induction l generalizing k with
  | nil => simp [fl]
  | cons a l ih =>
    cases k with
    | zero => rfl
    | succ k => rw [fl_cons, show (k + 1) * 2 = k * 2 + 1 + 1 by omega, List.drop_succ_cons, List.drop_succ_cons, ih, List.drop_succ_cons]
theorem fl_one (l : List (Int × Int)) : ∀ v ∈ fl l, v.oneCell' = true := by
  intro v hv
  simp only [fl, List.mem_flatMap] at hv
  obtain ⟨c, _, hc⟩ := hv
  simp at hc
  rcases hc with rfl | rfl <;> rfl
theorem run_copy2 (w : World) (ty : TypeId) (g k m dLen dCap sLen sCap : Nat) (a : Addr) (l cs : List (Int × Int)) (hB : Bc w g l) (hm : m = Nat.min sLen dLen) (hcs : cs.length = m)
    (hsrc : ∀ (j : Nat) (c : Int × Int), cs[j]? = some c → w.cell? (a.add (j * 2)) = some (.int .i64 c.1) ∧ w.cell? (a.add (j * 2 + 1)) = some (.int .i64 c.2)) (hfit : k + m ≤ l.length) :
    (Builtin.copy_ #[26, 26] ty #[.slice (some ⟨g, k * 2, none⟩) dLen dCap, .slice (some a) sLen sCap]).run Try.prog w =
      .ok (goInt m) (w.setRow g (fl (l.take k ++ cs ++ l.drop (k + m))).toArray) := by
  obtain ⟨i, hi, hz⟩ := Option.map_eq_some_iff.1 cellInfo
  simp only [Prod.mk.injEq] at hz
  obtain ⟨hz0, hs, hb⟩ := hz
  have hl := run_loadCells_list (P := Try.prog) w a (fl cs) (fun j v hv => by
    have hj : j < (fl cs).length := (List.getElem?_eq_some_iff.1 hv).1
    rw [fl_length] at hj
    have he : cs[j / 2]? = some cs[j / 2] := List.getElem?_eq_getElem (by omega)
    obtain ⟨s1, s2⟩ := hsrc _ _ he
    obtain ⟨f1, f2⟩ := fl_get cs _ _ he
    rcases (show j = j / 2 * 2 ∨ j = j / 2 * 2 + 1 by omega) with e | e
    · rw [e]; rw [e] at hv; rw [f1] at hv; rw [← hv]; exact s1
    · rw [e]; rw [e] at hv; rw [f2] at hv; rw [← hv]; exact s2)
  have hst := run_storeCells_at Try.prog g (k * 2) 46 (fl cs) 0 (fl l).toArray w hB (by simp [fl_length]; omega) (fl_one cs)
  have hlen : (fl cs).length = m * 2 := by rw [fl_length, hcs]
  have hu := Try.underlying26
  rw [hlen] at hl hst
  have e1 : (fl l).toArray.toList.take (k * 2 + 0) ++ fl cs ++ (fl l).toArray.toList.drop (k * 2 + 0 + m * 2) = fl (l.take k ++ cs ++ l.drop (k + m)) := by
    rw [fl_append, fl_append, ← fl_take, ← fl_drop, show (k + m) * 2 = k * 2 + 0 + m * 2 by omega]; rfl
  rw [e1] at hst
  simp [Builtin.copy_, run_underlying hu, Builtin.lenOf, Builtin.firstCells, sizeOf, typeInfo, hi, hs, ← hm, hl, hst]
theorem Bc.row {w : World} {g : Nat} {l : List (Int × Int)} (h : Bc w g l) (m : List (Int × Int)) : Bc (w.setRow g (fl m).toArray) g m := setRow_heap w g _ _ 46 _ h
theorem rep_row (c : Int × Int) (k m N : Nat) (hk : k + m ≤ N) (hmk : m ≤ k) : (List.replicate k c ++ List.replicate (N - k) (0, 0)).take k ++ (List.replicate k c ++ List.replicate (N - k) (0, 0)).take m ++ (List.replicate k c ++ List.replicate (N - k) (0, 0)).drop (k + m) = List.replicate (k + m) c ++ List.replicate (N - (k + m)) (0, 0) := by
  rw [List.take_append_of_le_length (by simp), List.take_append_of_le_length (by simp; exact hmk), List.take_replicate, List.take_replicate, Nat.min_self, Nat.min_eq_left hmk, List.replicate_append_replicate, List.drop_append, List.drop_replicate, List.drop_replicate, List.length_replicate, show k - (k + m) = 0 by omega, show k + m - k = m by omega, show N - k - m = N - (k + m) by omega]
  rfl
set_option maxHeartbeats 4000000 in
set_option maxRecDepth 20000 in
theorem repeat_any (ad : Addr) (c : Int × Int) (N : Nat) (w : World) (hN : N ≤ 4096) (had : ad.block < w.heap.size) (h0 : w.cell? (ad.add 0) = some (.int .i64 c.1)) (h1 : w.cell? (ad.add 1) = some (.int .i64 c.2)) :
    Calls Try.prog 41 #[.slice (some ad) 1 1, .int .i64 (N : Int)] w (NewC (List.replicate N c) w) := by
  have KM : Hid (∀ W, Calls Try.prog 65 #[.int .u64 1, .int .u64 (N : Int)] W fun e w' => e = .returned (.tuple #[.int .u64 0, .int .u64 (N : Int)]) ∧ W = w') := Lib.hid fun W => by
    have h := Try.bits_Mul 1 N (by omega) (by omega) W
    rw [show 1 * N / 18446744073709551616 = 0 by omega, show 1 * N % 18446744073709551616 = N by omega] at h
    exact h.mono fun e w' hh => ⟨hh.1, hh.2.symm⟩
  have m1 := mk_cells N (by omega) w
  have hB0 : Bc (w.alloc (.cells (fl (List.replicate N (0, 0))).toArray 46)) w.heap.size (List.replicate N (0, 0)) := Bk.new _ _ _
  have hc1 := run_copy2 _ 3 w.heap.size 0 (Nat.min 1 N) N N 1 1 ad (List.replicate N (0, 0)) (List.replicate (Nat.min 1 N) c) hB0 rfl (by simp) (fun j d hd => by
    obtain ⟨hj, rfl⟩ := List.getElem?_eq_some_iff.1 hd
    have hj' : j = 0 := by
      have : Nat.min 1 N ≤ 1 := Nat.min_le_left _ _
      simp at hj
      omega
    subst hj'
    simp only [List.getElem_replicate]
    exact ⟨(((Below.refl w.heap.size w).alloc (Nat.le_refl _) _).cell (by rw [add_block]; exact had)).trans h0, (((Below.refl w.heap.size w).alloc (Nat.le_refl _) _).cell (by rw [add_block]; exact had)).trans h1⟩) (by simp; exact Nat.min_le_right _ _)
  rw [show List.take 0 (List.replicate N ((0, 0) : Int × Int)) ++ List.replicate (Nat.min 1 N) c ++ List.drop (0 + Nat.min 1 N) (List.replicate N (0, 0)) = List.replicate (Nat.min 1 N) c ++ List.replicate (N - Nat.min 1 N) (0, 0) by simp] at hc1
  have hB1 := hB0.row (List.replicate (Nat.min 1 N) c ++ List.replicate (N - Nat.min 1 N) (0, 0))
  simp only [Nat.zero_mul] at hc1
  go_enter Try.func41, Try.ntmps41
  go_wp2_with (go_at_call 65; (with_reducible refine (KM.out _).mono ?_); rintro e w1 ⟨rfl, rfl⟩)
  clear hc1 m1 KM
  have hbw : Below w.heap.size w ((w.alloc (.cells (fl (List.replicate N (0, 0))).toArray 46)).setRow w.heap.size (fl (List.replicate (Nat.min 1 N) c ++ List.replicate (N - Nat.min 1 N) (0, 0))).toArray) := below_setRow ((Below.refl _ _).alloc (Nat.le_refl _) _) (Nat.le_refl _) _
  go_loopw [8] (fun i wr => ∃ k : Nat, k ≤ N ∧ (0 < N → 0 < k) ∧ i = .int .i64 (k : Int) ∧ Hid (Bc wr w.heap.size (List.replicate k c ++ List.replicate (N - k) (0, 0))) ∧ Below w.heap.size w wr) (fun i _ => N - (intOf i).toNat)
  case atStart => exact ⟨Nat.min 1 N, Nat.min_le_right _ _, fun h => by show 0 < min 1 N; omega, rfl, Lib.hid hB1, hbw⟩
  case round =>
    obtain ⟨k, hk, hk0, rfl, hB, hbl⟩ := hrel
    by_cases hlt : k < N
    · have hk1 := hk0 (by omega)
      have hm1 : Nat.min k (N - k) ≤ k := Nat.min_le_left _ _
      have hm2 : Nat.min k (N - k) ≤ N - k := Nat.min_le_right _ _
      have hs1 : ∀ wr : World, (Instr.slice 26 (.slice (some ⟨w.heap.size, 0, none⟩) N N) (some (.int .i64 (k : Int))) none none).run Try.prog wr = .ok (.slice (some ⟨w.heap.size, k * 2, none⟩) (N - k) (N - k)) wr := fun wr => by
        have h1 : (Instr.slice 26 (.slice (some ⟨w.heap.size, 0, none⟩) N N) (some (.int .i64 (k : Int))) none none).run Try.prog wr = _ := run_slice_l wr 26 (some ⟨w.heap.size, 0, none⟩) N N (by kernel_rfl) .i64 k (by omega) (by omega)
        rw [h1]
        have hne : ¬ N = k := by omega
        simp [go_sem, sliced, Addr.add, hne]
        omega
      have hs2 : ∀ wr : World, (Instr.slice 26 (.slice (some ⟨w.heap.size, 0, none⟩) N N) none (some (.int .i64 (k : Int))) none).run Try.prog wr = .ok (.slice (some ⟨w.heap.size, 0, none⟩) k N) wr := fun wr => by
        have h1 : (Instr.slice 26 (.slice (some ⟨w.heap.size, 0, none⟩) N N) none (some (.int .i64 (k : Int))) none).run Try.prog wr = _ := run_slice_h wr 26 (some ⟨w.heap.size, 0, none⟩) N N (by kernel_rfl) .i64 k (by omega) (by omega)
        rw [h1]
        have hne : ¬ N = 0 := by omega
        simp [go_sem, sliced, Addr.add, hne]
      have hBd : Bc wr.drew w.heap.size (List.replicate k c ++ List.replicate (N - k) (0, 0)) := hB.out
      have hc2 := run_copy2 wr.drew 3 w.heap.size k (Nat.min k (N - k)) (N - k) (N - k) k N ⟨w.heap.size, 0, none⟩ _ ((List.replicate k c ++ List.replicate (N - k) (0, 0)).take (Nat.min k (N - k))) hBd rfl (by simp <;> omega) (fun j d hd => by
        have hd' : (List.replicate k c ++ List.replicate (N - k) (0, 0))[j]? = some d := by
          rw [List.getElem?_take] at hd
          split at hd
          · exact hd
          · cases hd
        have h := hBd.cells hd'
        rw [add_off, add_off]
        exact ⟨h.1, h.2.1⟩) (by simp <;> omega)
      rw [rep_row c k (Nat.min k (N - k)) N (by omega) hm1] at hc2
      have hB2 := Lib.hid (hBd.row (List.replicate (k + Nat.min k (N - k)) c ++ List.replicate (N - (k + Nat.min k (N - k))) (0, 0)))
      have hm0 : 0 < Nat.min k (N - k) := by show 0 < min k (N - k); omega
      generalize Nat.min k (N - k) = m at *
      
      have hwr : IntKind.i64.wrap ((k : Int) + (m : Int)) = ((k + m : Nat) : Int) := by rw [IntKind.wrap_i64]; omega
      go_wp2
      go_region_held3 (fun _ => True)
        (trivial)
        (first | (fail))
      go_wp2
      go_roundw
      case rel => exact ⟨k + m, by omega, by omega, congrArg _ (by omega), hB2, below_setRow (Below.drew hbl) (Nat.le_refl _) _⟩
      case measure =>
        simp only [intOf, hwr]
        simp
        omega
    · obtain rfl : k = N := by omega
      have hB' := hB.out
      rw [Nat.sub_self, List.replicate_zero, List.append_nil] at hB'
      have HR := Lib.hid hB'.rd
      clear hB hB' hB0 hB1
      go_wp2
      go_ret
      exact ⟨_, _, by rw [List.length_replicate]; rfl, HR.out, hbl⟩
def constN (n : Int) : Nat := (min (max n 0) 4096).toNat
theorem constN_le (n : Int) : constN n ≤ 4096 := by unfold constN; omega
set_option maxHeartbeats 1000000 in
theorem constP_any (v n : Int) (w : World) : Calls Try.prog 14 #[.int .i64 v, .int .i64 n] w (NewC (List.replicate (constN n) (1, v)) w) := by
  have KP := Lib.hid (present_any v)
  have KR : Hid (∀ W b, b < W.heap.size → W.cell? ⟨b, 0, none⟩ = some (.int .i64 1) → W.cell? ⟨b, 1, none⟩ = some (.int .i64 v) → Calls Try.prog 41 #[.slice (some ⟨b, 0, none⟩) 1 1, .int .i64 (constN n : Int)] W (NewC (List.replicate (constN n) (1, v)) W)) :=
    Lib.hid fun W b hb h0 h1 => repeat_any ⟨b, 0, none⟩ (1, v) (constN n) W (constN_le n) hb h0 h1
  have hcn : constN n = (min (max n 0) 4096).toNat := rfl
  simp only [cV] at KP
  generalize constN n = N at *
  rcases (show n < 0 ∨ (0 ≤ n ∧ n ≤ 4096) ∨ 4096 < n by omega) with h | h | h
  · obtain rfl : N = 0 := by omega
    replace KR : Hid (∀ W b, b < W.heap.size → W.cell? ⟨b, 0, none⟩ = some (.int .i64 1) → W.cell? ⟨b, 1, none⟩ = some (.int .i64 v) → Calls Try.prog 41 #[.slice (some ⟨b, 0, none⟩) 1 1, .int .i64 0] W (NewC (List.replicate 0 (1, v)) W)) := KR
    clear hcn
    go_enter Try.func14, Try.ntmps14
    go_wp2_with (first
      | (go_at_call 42; (with_reducible refine (KP.out _).mono ?_); rintro e w1 ⟨rfl, hb1⟩)
      | (go_at_call 41; (with_reducible refine (KR.out _ _ ?_ ?_ ?_).mono ?_); (focus (simp)); (focus (simp [go_sem])); (focus (simp [go_sem])); rintro e w2 ⟨A', c', rfl, hR', hb2⟩))
    go_ret
    exact ⟨A', c', rfl, hR', (by repeat (first | (with_reducible exact Below.refl _ _) | (with_reducible assumption) | (with_reducible exact bel_box _) | (with_reducible refine bel_step ?_ (by with_reducible assumption)) | (with_reducible refine Below.drew ?_) | (with_reducible refine below_drewN ?_ _) | (with_reducible refine bel_alloc ?_ _)))⟩
  · obtain ⟨h1, h2⟩ := h
    obtain rfl : n = (N : Int) := by omega
    clear hcn
    go_enter Try.func14, Try.ntmps14
    go_wp2_with (first
      | (go_at_call 42; (with_reducible refine (KP.out _).mono ?_); rintro e w1 ⟨rfl, hb1⟩)
      | (go_at_call 41; (with_reducible refine (KR.out _ _ ?_ ?_ ?_).mono ?_); (focus (simp)); (focus (simp [go_sem])); (focus (simp [go_sem])); rintro e w2 ⟨A', c', rfl, hR', hb2⟩))
    go_ret
    exact ⟨A', c', by rw [List.length_replicate]; rfl, hR', (by repeat (first | (with_reducible exact Below.refl _ _) | (with_reducible assumption) | (with_reducible exact bel_box _) | (with_reducible refine bel_step ?_ (by with_reducible assumption)) | (with_reducible refine Below.drew ?_) | (with_reducible refine below_drewN ?_ _) | (with_reducible refine bel_alloc ?_ _)))⟩
  · obtain rfl : N = 4096 := by omega
    replace KR : Hid (∀ W b, b < W.heap.size → W.cell? ⟨b, 0, none⟩ = some (.int .i64 1) → W.cell? ⟨b, 1, none⟩ = some (.int .i64 v) → Calls Try.prog 41 #[.slice (some ⟨b, 0, none⟩) 1 1, .int .i64 4096] W (NewC (List.replicate 4096 (1, v)) W)) := KR
    have h5 : 0 < n := by omega
    clear hcn
    generalize List.replicate 4096 ((1, v) : Int × Int) = out at *
    go_enter Try.func14, Try.ntmps14
    go_wp2_with (first
      | (go_at_call 42; (with_reducible refine (KP.out _).mono ?_); rintro e w1 ⟨rfl, hb1⟩)
      | (go_at_call 41; (with_reducible refine (KR.out _ _ ?_ ?_ ?_).mono ?_); (focus (simp)); (focus (simp [go_sem])); (focus (simp [go_sem])); rintro e w2 ⟨A', c', rfl, hR', hb2⟩))
    go_ret
    exact ⟨A', c', rfl, hR', (by repeat (first | (with_reducible exact Below.refl _ _) | (with_reducible assumption) | (with_reducible exact bel_box _) | (with_reducible refine bel_step ?_ (by with_reducible assumption)) | (with_reducible refine Below.drew ?_) | (with_reducible refine below_drewN ?_ _) | (with_reducible refine bel_alloc ?_ _)))⟩
end Go.Proofs.Ytefmnjcllncmpaa
/- Rows of cells that a call owns; Const and Dense of the reference, Same, Dense of the program, is. -/
namespace Go.Proofs.Ytefmnjcllncmpaa
set_option linter.unusedVariables false
set_option linter.unusedSimpArgs false
open Go.RowKit
theorem own2_keep {w W : World} {base n size : Nat} {e : TypeId} {v : Value} {xs : List Value} (h : w.ownsRow base e size v n xs) (hb : Below w.heap.size w W) : W.ownsRow base e size v n xs := by
  refine ⟨h.1, h.2.imp id fun ⟨g, cap, cur, e1, h1, h2, r⟩ => ⟨g, cap, cur, e1, h1, ?_, r⟩⟩
  rw [hb.block g (Array.getElem?_eq_some_iff.1 h2).1]
  exact h2
theorem own2_form {w : World} {base n size : Nat} {e : TypeId} {v : Value} {xs : List Value} (h : w.ownsRow base e size v n xs) : ∃ A c, v = .slice A n c := by
  rcases h.2 with ⟨rfl, rfl⟩ | ⟨g, cap, cur, rfl, _⟩
  · exact ⟨_, _, rfl⟩
  · exact ⟨_, _, rfl⟩
theorem own2_below {w wr W w3 : World} {v v' : Value} {B n size : Nat} {e : TypeId} {xs : List Value} (hg : W.grownBy w3 v'.ownBlock) (hv : v' = v) (hown : wr.ownsRow B e size v n xs) (hB : B ≤ W.heap.size) (hb : Below B w W) : Below B w w3 := by
  subst hv
  exact hb.grown hg hB (fun j hj => (hown.lt j hj).1)
theorem own2_rd {w : World} {base : Nat} {A : Option Addr} {n c : Nat} {l : List (Int × Int)} (h : w.ownsRow base 46 2 (.slice A n c) n (fl l)) (hl : l.length = n) : RdC w w.heap.size A l := fun hn => by
  have hn' : 0 < n := by have := List.length_pos_iff.2 hn; omega
  obtain ⟨g, cap, hv, _, hlt⟩ := h.form hn'
  have hA : A = some ⟨g, 0, none⟩ := by injection hv
  subst hA
  refine ⟨_, rfl, hlt, fun j c hc => ?_⟩
  obtain ⟨f1, f2⟩ := fl_get l j c hc
  exact ⟨h.cells (g := g) rfl _ _ f1, h.cells (g := g) rfl _ _ f2⟩
theorem row2 (w : World) (x y : Value) (t : TypeId) : ∀ j u, [x, y][j]? = some u → (w.alloc (.cells #[x, y] t)).cell? ((⟨w.heap.size, 0, none⟩ : Addr).add j) = some u := by
  intro j u hu
  rw [add_off, cell_of_row _ _ j #[x, y] t (0, 0) (heap_alloc_new w _), ← hu]
  simp
theorem c_one (a b : Int) : ∀ u ∈ [Value.int .i64 a, Value.int .i64 b], u.oneCell' = true := by
  intro u hu
  simp at hu
  rcases hu with rfl | rfl <;> rfl
theorem cellParts : ∃ i, Try.prog.info? 46 = some i ∧ i.zero = some (.agg #[.int .i64 0, .int .i64 0]) ∧ i.size = 2 ∧ i.bytes = 16 := by
  have h : (Try.prog.info? 46).map (fun i => (i.zero, i.size, i.bytes)) = some (some (.agg #[.int .i64 0, .int .i64 0]), 2, 16) := by kernel_rfl
  obtain ⟨i, hi, hz⟩ := Option.map_eq_some_iff.1 h
  simp only [Prod.mk.injEq] at hz
  exact ⟨i, hi, hz.1, hz.2.1, hz.2.2⟩
theorem fl_snoc (l : List (Int × Int)) (a b : Int) : fl l ++ [.int .i64 a, .int .i64 b] = fl (l ++ [(a, b)]) := by simp [fl]
end Go.Proofs.Ytefmnjcllncmpaa
