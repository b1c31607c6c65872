/- Texts of one chain, in one file. -/
import Derived.Laws.StructEq
import Derived.KernelRfl
import Derived.Laws.EntriesVeiled
import Derived.Lib.AppendZeros
import Derived.Shelf.Bits.Mul64
import Derived.Test.YtefmnjcllncmpaaProg
import Derived.Laws.CopyRow
import Derived.Laws.CopyOwn
import Derived.Test.YtefmnjcllncmpaaQB
/- '==' on cells; the steps of Lift, If, When, Merge. -/
namespace Go.Proofs.Ytefmnjcllncmpaa
set_option linter.unusedVariables false
set_option linter.unusedSimpArgs false
open Go.RowKit
theorem cell_stood : Try.prog.stoodInHeld 46 = false := by kernel_rfl
theorem cell_guard : Try.prog.eqGuardType Try.prog.depth 46 = false := by kernel_rfl
theorem cell_fields : ((Try.prog.fieldsOf 46).toList.map fun f => (f.name == "_", f.type, f.offset)) = [(false, 3, 0), (false, 3, 1)] := by kernel_rfl
theorem int_under : Try.prog.underlying 3 = some (.int .i64) := by kernel_rfl
theorem cell_eqIn (w : World) (d : Nat) (a b x y : Int) : (Op.equalIn (d + 2) 46 (.agg #[.int .i64 a, .int .i64 b]) (.agg #[.int .i64 x, .int .i64 y])).run Try.prog w = .ok (a == x && b == y) w := by
  rw [run_equalIn_agg w (d + 1) _ _ _ cell_under cell_stood]
  have h := cell_fields
  generalize (Try.prog.fieldsOf 46).toList = fs at h ⊢
  rcases fs with _ | ⟨f, _ | ⟨g, _ | ⟨k, r⟩⟩⟩
  · simp at h
  · simp at h
  · simp only [List.map_cons, List.map_nil, List.cons.injEq, Prod.mk.injEq, and_true] at h
    obtain ⟨⟨f1, f2, f3⟩, g1, g2, g3⟩ := h
    have f1' : f.name ≠ "_" := by simpa using f1
    have g1' : g.name ≠ "_" := by simpa using g1
    have e1 := run_equalIn_int (P := Try.prog) w d 3 .i64 .i64 a x int_under
    have e2 := run_equalIn_int (P := Try.prog) w d 3 .i64 .i64 b y int_under
    simp only [Op.eqFields, f1', g1', f2, f3, g2, g3]
    simp [go_sem, e1, e2]
    rw [if_neg f1', if_neg g1']
    by_cases h1 : a = x <;> by_cases h2 : b = y <;> simp [h1, h2]
  · simp at h
theorem cell_eql (w : World) (a b x y : Int) : (binOp .eql 46 (.agg #[.int .i64 a, .int .i64 b]) (.agg #[.int .i64 x, .int .i64 y])).run Try.prog w = .ok (.bool (a == x && b == y)) w := by
  rw [run_eql_struct, cell_eqIn w 9998]; rfl
theorem cell_neq (w : World) (a b x y : Int) : (binOp .neq 46 (.agg #[.int .i64 a, .int .i64 b]) (.agg #[.int .i64 x, .int .i64 y])).run Try.prog w = .ok (.bool (!(a == x && b == y))) w := by
  rw [run_neq_struct, cell_eqIn w 9998]; rfl
theorem cell_eqg (w : World) (op : BinOp) (p q : Operand) (xs ys : Array Value) : (eqGuard op 46 p q (.agg xs) (.agg ys)).run Try.prog w = .ok () w := run_eqGuard_agg w op _ p q xs ys cell_guard
attribute [local go_sem] cell_eql cell_neq cell_eqg
def ifF (r : List (Int × Int)) : Int × Int := if jnt r then (if r.getD 0 (0, 0) = (1, 1) then r.getD 1 (0, 0) else if r.getD 0 (0, 0) = (1, 0) then r.getD 2 (0, 0) else (2, 0)) else (0, 0)
set_option maxHeartbeats 4000000 in
theorem if1_any (r : List (Int × Int)) (g : Nat) (w : World) (hr : r.length = 3) (hR : RdC w w.heap.size (some ⟨g, 0, none⟩) r) :
    Calls Try.prog 43 #[.slice (some ⟨g, 0, none⟩) r.length r.length] w (Bel (cV (ifF r)) w) := by
  obtain ⟨⟨x0, y0⟩, ⟨x1, y1⟩, ⟨x2, y2⟩, rfl⟩ := three_of hr
  have HK : Hid (∀ W, Below w.heap.size w W → W.cell? ⟨g, 0, none⟩ = some (.int .i64 x0) ∧ W.cell? ⟨g, 1, none⟩ = some (.int .i64 y0) ∧ W.cell? ⟨g, 2, none⟩ = some (.int .i64 x1) ∧ W.cell? ⟨g, 3, none⟩ = some (.int .i64 y1) ∧ W.cell? ⟨g, 4, none⟩ = some (.int .i64 x2) ∧ W.cell? ⟨g, 5, none⟩ = some (.int .i64 y2)) := Lib.hid fun W hb =>
    ⟨((hR.to hb).ck (k := 0) rfl).1, ((hR.to hb).ck (k := 0) rfl).2, ((hR.to hb).ck (k := 1) rfl).1, ((hR.to hb).ck (k := 1) rfl).2, ((hR.to hb).ck (k := 2) rfl).1, ((hR.to hb).ck (k := 2) rfl).2⟩
  have KJ : Hid (∀ W, RdC W W.heap.size (some ⟨g, 0, none⟩) [(x0, y0), (x1, y1), (x2, y2)] → Calls Try.prog 44 #[.slice (some ⟨g, 0, none⟩) 3 3] W (Bel (.bool (jnt [(x0, y0), (x1, y1), (x2, y2)])) W)) := Lib.hid fun W h => joint_any (some ⟨g, 0, none⟩) 3 [(x0, y0), (x1, y1), (x2, y2)] W h (by simp)
  have HR := Lib.hid hR
  have KP := Lib.hid present_any
  have KU := Lib.hid undefined_any
  have HF : Hid (∀ j, jnt [(x0, y0), (x1, y1), (x2, y2)] = j → ifF [(x0, y0), (x1, y1), (x2, y2)] = if j then (if (x0, y0) = ((1, 1) : Int × Int) then (x1, y1) else if (x0, y0) = ((1, 0) : Int × Int) then (x2, y2) else (2, 0)) else (0, 0)) := Lib.hid fun j hj => by subst hj; rfl
  simp only [List.length_cons, List.length_nil, cV] at KP KU ⊢
  clear hR hr
  cases hj : jnt [(x0, y0), (x1, y1), (x2, y2)]
  all_goals
    rw [hj] at KJ
  · rw [HF.out _ hj, if_neg (by simp)]
    clear HF hj
    go_enter Try.func43, Try.ntmps43
    go_wp2_with (go_at_call 44; (with_reducible refine (KJ.out _ (HR.out.to ?_)).mono ?_); (focus ((repeat (first | (with_reducible exact Below.refl _ _) | (with_reducible assumption) | (with_reducible exact bel_box _) | (with_reducible refine bel_step ?_ (by with_reducible assumption)) | (with_reducible refine Below.drew ?_) | (with_reducible refine below_drewN ?_ _) | (with_reducible refine bel_alloc ?_ _))); done)); rintro e w1 ⟨rfl, hb1⟩; obtain ⟨q0, q1, q2, q3⟩ := box2 hb1)
    obtain ⟨t1, t2⟩ := set2_cells q0 q1 (.int .i64 0) (.int .i64 0)
    refine bodyPost_ret (v := cV (0, 0)) (by simp [results, Try.results43, go_sem, t1, t2, cV]) rfl ⟨rfl, ?_⟩
    exact bel_set2 (by repeat (first | (with_reducible exact Below.refl _ _) | (with_reducible assumption) | (with_reducible exact bel_box _) | (with_reducible refine bel_step ?_ (by with_reducible assumption)) | (with_reducible refine Below.drew ?_) | (with_reducible refine below_drewN ?_ _) | (with_reducible refine bel_alloc ?_ _))) (Nat.le_refl _) _ _
  · by_cases h1 : (x0, y0) = ((1, 1) : Int × Int)
    · obtain ⟨rfl, rfl⟩ := Prod.mk.inj h1
      rw [HF.out _ hj, if_pos rfl, if_pos rfl]
      clear HF hj h1
      go_enter Try.func43, Try.ntmps43
      go_wp2_with (go_at_call 44; (with_reducible refine (KJ.out _ (HR.out.to ?_)).mono ?_); (focus ((repeat (first | (with_reducible exact Below.refl _ _) | (with_reducible assumption) | (with_reducible exact bel_box _) | (with_reducible refine bel_step ?_ (by with_reducible assumption)) | (with_reducible refine Below.drew ?_) | (with_reducible refine below_drewN ?_ _) | (with_reducible refine bel_alloc ?_ _))); done)); rintro e w1 ⟨rfl, hb1⟩; obtain ⟨q0, q1, q2, q3⟩ := box2 hb1; obtain ⟨a0, a1, a2, a3, a4, a5⟩ := HK.out w1 (by repeat (first | (with_reducible exact Below.refl _ _) | (with_reducible assumption) | (with_reducible exact bel_box _) | (with_reducible refine bel_step ?_ (by with_reducible assumption)) | (with_reducible refine Below.drew ?_) | (with_reducible refine below_drewN ?_ _) | (with_reducible refine bel_alloc ?_ _))))
      go_region_held3 (fun W => W.cell? ⟨g, 0, none⟩ = some (.int .i64 1) ∧ W.cell? ⟨g, 1, none⟩ = some (.int .i64 1) ∧ W.cell? ⟨g, 2, none⟩ = some (.int .i64 x1) ∧ W.cell? ⟨g, 3, none⟩ = some (.int .i64 y1) ∧ W.cell? ⟨g, 4, none⟩ = some (.int .i64 x2) ∧ W.cell? ⟨g, 5, none⟩ = some (.int .i64 y2))
        ((refine HK.out _ ?_; (focus ((repeat (first | (with_reducible exact Below.refl _ _) | (with_reducible assumption) | (with_reducible exact bel_box _) | (with_reducible refine bel_step ?_ (by with_reducible assumption)) | (with_reducible refine Below.drew ?_) | (with_reducible refine below_drewN ?_ _) | (with_reducible refine bel_alloc ?_ _))); done))))
        (first | (go_at_call 42; (with_reducible refine (KP.out _ _).mono ?_); rintro e w2 ⟨rfl, hb2⟩; obtain ⟨q0, q1, q2, q3⟩ := box2 (w := w) (W := w2) (by repeat (first | (with_reducible exact Below.refl _ _) | (with_reducible assumption) | (with_reducible exact bel_box _) | (with_reducible refine bel_step ?_ (by with_reducible assumption)) | (with_reducible refine Below.drew ?_) | (with_reducible refine below_drewN ?_ _) | (with_reducible refine bel_alloc ?_ _))); obtain ⟨a0, a1, a2, a3, a4, a5⟩ := HK.out w2 (by repeat (first | (with_reducible exact Below.refl _ _) | (with_reducible assumption) | (with_reducible exact bel_box _) | (with_reducible refine bel_step ?_ (by with_reducible assumption)) | (with_reducible refine Below.drew ?_) | (with_reducible refine below_drewN ?_ _) | (with_reducible refine bel_alloc ?_ _)))))
      go_wp2
      obtain ⟨t1, t2⟩ := set2_cells q0 q1 (.int .i64 x1) (.int .i64 y1)
      refine bodyPost_ret (v := cV (x1, y1)) (by simp [results, Try.results43, go_sem, t1, t2, cV]) rfl ⟨rfl, ?_⟩
      first | exact bel_set2 (by repeat (first | (with_reducible exact Below.refl _ _) | (with_reducible assumption) | (with_reducible exact bel_box _) | (with_reducible refine bel_step ?_ (by with_reducible assumption)) | (with_reducible refine Below.drew ?_) | (with_reducible refine below_drewN ?_ _) | (with_reducible refine bel_alloc ?_ _))) (Nat.le_refl _) _ _ | exact Below.drew (bel_set2 (by repeat (first | (with_reducible exact Below.refl _ _) | (with_reducible assumption) | (with_reducible exact bel_box _) | (with_reducible refine bel_step ?_ (by with_reducible assumption)) | (with_reducible refine Below.drew ?_) | (with_reducible refine below_drewN ?_ _) | (with_reducible refine bel_alloc ?_ _))) (Nat.le_refl _) _ _)
    · by_cases h2 : (x0, y0) = ((1, 0) : Int × Int)
      · obtain ⟨rfl, rfl⟩ := Prod.mk.inj h2
        rw [HF.out _ hj, if_pos rfl, if_neg h1, if_pos rfl]
        clear HF hj h1 h2
        go_enter Try.func43, Try.ntmps43
        go_wp2_with (go_at_call 44; (with_reducible refine (KJ.out _ (HR.out.to ?_)).mono ?_); (focus ((repeat (first | (with_reducible exact Below.refl _ _) | (with_reducible assumption) | (with_reducible exact bel_box _) | (with_reducible refine bel_step ?_ (by with_reducible assumption)) | (with_reducible refine Below.drew ?_) | (with_reducible refine below_drewN ?_ _) | (with_reducible refine bel_alloc ?_ _))); done)); rintro e w1 ⟨rfl, hb1⟩; obtain ⟨q0, q1, q2, q3⟩ := box2 hb1; obtain ⟨a0, a1, a2, a3, a4, a5⟩ := HK.out w1 (by repeat (first | (with_reducible exact Below.refl _ _) | (with_reducible assumption) | (with_reducible exact bel_box _) | (with_reducible refine bel_step ?_ (by with_reducible assumption)) | (with_reducible refine Below.drew ?_) | (with_reducible refine below_drewN ?_ _) | (with_reducible refine bel_alloc ?_ _))))
        go_region_held3 (fun W => W.cell? ⟨g, 0, none⟩ = some (.int .i64 1) ∧ W.cell? ⟨g, 1, none⟩ = some (.int .i64 0) ∧ W.cell? ⟨g, 2, none⟩ = some (.int .i64 x1) ∧ W.cell? ⟨g, 3, none⟩ = some (.int .i64 y1) ∧ W.cell? ⟨g, 4, none⟩ = some (.int .i64 x2) ∧ W.cell? ⟨g, 5, none⟩ = some (.int .i64 y2))
          ((refine HK.out _ ?_; (focus ((repeat (first | (with_reducible exact Below.refl _ _) | (with_reducible assumption) | (with_reducible exact bel_box _) | (with_reducible refine bel_step ?_ (by with_reducible assumption)) | (with_reducible refine Below.drew ?_) | (with_reducible refine below_drewN ?_ _) | (with_reducible refine bel_alloc ?_ _))); done))))
          (first | (go_at_call 42; (with_reducible refine (KP.out _ _).mono ?_); rintro e w2 ⟨rfl, hb2⟩; obtain ⟨q0, q1, q2, q3⟩ := box2 (w := w) (W := w2) (by repeat (first | (with_reducible exact Below.refl _ _) | (with_reducible assumption) | (with_reducible exact bel_box _) | (with_reducible refine bel_step ?_ (by with_reducible assumption)) | (with_reducible refine Below.drew ?_) | (with_reducible refine below_drewN ?_ _) | (with_reducible refine bel_alloc ?_ _))); obtain ⟨a0, a1, a2, a3, a4, a5⟩ := HK.out w2 (by repeat (first | (with_reducible exact Below.refl _ _) | (with_reducible assumption) | (with_reducible exact bel_box _) | (with_reducible refine bel_step ?_ (by with_reducible assumption)) | (with_reducible refine Below.drew ?_) | (with_reducible refine below_drewN ?_ _) | (with_reducible refine bel_alloc ?_ _)))))
        go_wp2
        go_region_held3 (fun W => W.cell? ⟨g, 0, none⟩ = some (.int .i64 1) ∧ W.cell? ⟨g, 1, none⟩ = some (.int .i64 0) ∧ W.cell? ⟨g, 2, none⟩ = some (.int .i64 x1) ∧ W.cell? ⟨g, 3, none⟩ = some (.int .i64 y1) ∧ W.cell? ⟨g, 4, none⟩ = some (.int .i64 x2) ∧ W.cell? ⟨g, 5, none⟩ = some (.int .i64 y2))
          ((refine HK.out _ ?_; (focus ((repeat (first | (with_reducible exact Below.refl _ _) | (with_reducible assumption) | (with_reducible exact bel_box _) | (with_reducible refine bel_step ?_ (by with_reducible assumption)) | (with_reducible refine Below.drew ?_) | (with_reducible refine below_drewN ?_ _) | (with_reducible refine bel_alloc ?_ _))); done))))
          (first | (go_at_call 42; (with_reducible refine (KP.out _ _).mono ?_); rintro e w3 ⟨rfl, hb3⟩; obtain ⟨q0, q1, q2, q3⟩ := box2 (w := w) (W := w3) (by repeat (first | (with_reducible exact Below.refl _ _) | (with_reducible assumption) | (with_reducible exact bel_box _) | (with_reducible refine bel_step ?_ (by with_reducible assumption)) | (with_reducible refine Below.drew ?_) | (with_reducible refine below_drewN ?_ _) | (with_reducible refine bel_alloc ?_ _))); obtain ⟨a0, a1, a2, a3, a4, a5⟩ := HK.out w3 (by repeat (first | (with_reducible exact Below.refl _ _) | (with_reducible assumption) | (with_reducible exact bel_box _) | (with_reducible refine bel_step ?_ (by with_reducible assumption)) | (with_reducible refine Below.drew ?_) | (with_reducible refine below_drewN ?_ _) | (with_reducible refine bel_alloc ?_ _)))))
        go_wp2
        obtain ⟨t1, t2⟩ := set2_cells q0 q1 (.int .i64 x2) (.int .i64 y2)
        refine bodyPost_ret (v := cV (x2, y2)) (by simp [results, Try.results43, go_sem, t1, t2, cV]) rfl ⟨rfl, ?_⟩
        first | exact bel_set2 (by repeat (first | (with_reducible exact Below.refl _ _) | (with_reducible assumption) | (with_reducible exact bel_box _) | (with_reducible refine bel_step ?_ (by with_reducible assumption)) | (with_reducible refine Below.drew ?_) | (with_reducible refine below_drewN ?_ _) | (with_reducible refine bel_alloc ?_ _))) (Nat.le_refl _) _ _ | exact Below.drew (bel_set2 (by repeat (first | (with_reducible exact Below.refl _ _) | (with_reducible assumption) | (with_reducible exact bel_box _) | (with_reducible refine bel_step ?_ (by with_reducible assumption)) | (with_reducible refine Below.drew ?_) | (with_reducible refine below_drewN ?_ _) | (with_reducible refine bel_alloc ?_ _))) (Nat.le_refl _) _ _)
      · rw [HF.out _ hj, if_pos rfl, if_neg h1, if_neg h2]
        clear HF hj
        by_cases hx : x0 = 1
        · subst hx
          have e1 : (y0 == 1) = false := beq_eq_false_iff_ne.2 (fun e => h1 (by rw [e]))
          have e2 : (y0 == 0) = false := beq_eq_false_iff_ne.2 (fun e => h2 (by rw [e]))
          clear h1 h2
          go_enter Try.func43, Try.ntmps43
          go_wp2_with (go_at_call 44; (with_reducible refine (KJ.out _ (HR.out.to ?_)).mono ?_); (focus ((repeat (first | (with_reducible exact Below.refl _ _) | (with_reducible assumption) | (with_reducible exact bel_box _) | (with_reducible refine bel_step ?_ (by with_reducible assumption)) | (with_reducible refine Below.drew ?_) | (with_reducible refine below_drewN ?_ _) | (with_reducible refine bel_alloc ?_ _))); done)); rintro e w1 ⟨rfl, hb1⟩; obtain ⟨q0, q1, q2, q3⟩ := box2 hb1; obtain ⟨a0, a1, a2, a3, a4, a5⟩ := HK.out w1 (by repeat (first | (with_reducible exact Below.refl _ _) | (with_reducible assumption) | (with_reducible exact bel_box _) | (with_reducible refine bel_step ?_ (by with_reducible assumption)) | (with_reducible refine Below.drew ?_) | (with_reducible refine below_drewN ?_ _) | (with_reducible refine bel_alloc ?_ _))))
          go_region_held3 (fun W => W.cell? ⟨g, 0, none⟩ = some (.int .i64 1) ∧ W.cell? ⟨g, 1, none⟩ = some (.int .i64 y0) ∧ W.cell? ⟨g, 2, none⟩ = some (.int .i64 x1) ∧ W.cell? ⟨g, 3, none⟩ = some (.int .i64 y1) ∧ W.cell? ⟨g, 4, none⟩ = some (.int .i64 x2) ∧ W.cell? ⟨g, 5, none⟩ = some (.int .i64 y2))
            ((refine HK.out _ ?_; (focus ((repeat (first | (with_reducible exact Below.refl _ _) | (with_reducible assumption) | (with_reducible exact bel_box _) | (with_reducible refine bel_step ?_ (by with_reducible assumption)) | (with_reducible refine Below.drew ?_) | (with_reducible refine below_drewN ?_ _) | (with_reducible refine bel_alloc ?_ _))); done))))
            (first | (go_at_call 42; (with_reducible refine (KP.out _ _).mono ?_); rintro e w2 ⟨rfl, hb2⟩; obtain ⟨q0, q1, q2, q3⟩ := box2 (w := w) (W := w2) (by repeat (first | (with_reducible exact Below.refl _ _) | (with_reducible assumption) | (with_reducible exact bel_box _) | (with_reducible refine bel_step ?_ (by with_reducible assumption)) | (with_reducible refine Below.drew ?_) | (with_reducible refine below_drewN ?_ _) | (with_reducible refine bel_alloc ?_ _))); obtain ⟨a0, a1, a2, a3, a4, a5⟩ := HK.out w2 (by repeat (first | (with_reducible exact Below.refl _ _) | (with_reducible assumption) | (with_reducible exact bel_box _) | (with_reducible refine bel_step ?_ (by with_reducible assumption)) | (with_reducible refine Below.drew ?_) | (with_reducible refine below_drewN ?_ _) | (with_reducible refine bel_alloc ?_ _)))))
          go_wp2
          go_region_held3 (fun W => W.cell? ⟨g, 0, none⟩ = some (.int .i64 1) ∧ W.cell? ⟨g, 1, none⟩ = some (.int .i64 y0) ∧ W.cell? ⟨g, 2, none⟩ = some (.int .i64 x1) ∧ W.cell? ⟨g, 3, none⟩ = some (.int .i64 y1) ∧ W.cell? ⟨g, 4, none⟩ = some (.int .i64 x2) ∧ W.cell? ⟨g, 5, none⟩ = some (.int .i64 y2))
            ((refine HK.out _ ?_; (focus ((repeat (first | (with_reducible exact Below.refl _ _) | (with_reducible assumption) | (with_reducible exact bel_box _) | (with_reducible refine bel_step ?_ (by with_reducible assumption)) | (with_reducible refine Below.drew ?_) | (with_reducible refine below_drewN ?_ _) | (with_reducible refine bel_alloc ?_ _))); done))))
            (first | (go_at_call 42; (with_reducible refine (KP.out _ _).mono ?_); rintro e w3 ⟨rfl, hb3⟩; obtain ⟨q0, q1, q2, q3⟩ := box2 (w := w) (W := w3) (by repeat (first | (with_reducible exact Below.refl _ _) | (with_reducible assumption) | (with_reducible exact bel_box _) | (with_reducible refine bel_step ?_ (by with_reducible assumption)) | (with_reducible refine Below.drew ?_) | (with_reducible refine below_drewN ?_ _) | (with_reducible refine bel_alloc ?_ _))); obtain ⟨a0, a1, a2, a3, a4, a5⟩ := HK.out w3 (by repeat (first | (with_reducible exact Below.refl _ _) | (with_reducible assumption) | (with_reducible exact bel_box _) | (with_reducible refine bel_step ?_ (by with_reducible assumption)) | (with_reducible refine Below.drew ?_) | (with_reducible refine below_drewN ?_ _) | (with_reducible refine bel_alloc ?_ _)))))
          go_wp2_with (go_at_call 45; (with_reducible refine (KU.out _).mono ?_); rintro e w9 ⟨rfl, hb9⟩; clear q0 q1 q2 q3; obtain ⟨q0, q1, q2, q3⟩ := box2 (w := w) (W := w9) (by repeat (first | (with_reducible exact Below.refl _ _) | (with_reducible assumption) | (with_reducible exact bel_box _) | (with_reducible refine bel_step ?_ (by with_reducible assumption)) | (with_reducible refine Below.drew ?_) | (with_reducible refine below_drewN ?_ _) | (with_reducible refine bel_alloc ?_ _))))
          obtain ⟨t1, t2⟩ := set2_cells q0 q1 (.int .i64 2) (.int .i64 0)
          refine bodyPost_ret (v := cV (2, 0)) (by simp [results, Try.results43, go_sem, t1, t2, cV]) rfl ⟨rfl, ?_⟩
          first | exact bel_set2 (by repeat (first | (with_reducible exact Below.refl _ _) | (with_reducible assumption) | (with_reducible exact bel_box _) | (with_reducible refine bel_step ?_ (by with_reducible assumption)) | (with_reducible refine Below.drew ?_) | (with_reducible refine below_drewN ?_ _) | (with_reducible refine bel_alloc ?_ _))) (Nat.le_refl _) _ _ | exact Below.drew (bel_set2 (by repeat (first | (with_reducible exact Below.refl _ _) | (with_reducible assumption) | (with_reducible exact bel_box _) | (with_reducible refine bel_step ?_ (by with_reducible assumption)) | (with_reducible refine Below.drew ?_) | (with_reducible refine below_drewN ?_ _) | (with_reducible refine bel_alloc ?_ _))) (Nat.le_refl _) _ _)
        · have e1 : (x0 == 1) = false := beq_eq_false_iff_ne.2 hx
          clear h1 h2 hx
          go_enter Try.func43, Try.ntmps43
          go_wp2_with (go_at_call 44; (with_reducible refine (KJ.out _ (HR.out.to ?_)).mono ?_); (focus ((repeat (first | (with_reducible exact Below.refl _ _) | (with_reducible assumption) | (with_reducible exact bel_box _) | (with_reducible refine bel_step ?_ (by with_reducible assumption)) | (with_reducible refine Below.drew ?_) | (with_reducible refine below_drewN ?_ _) | (with_reducible refine bel_alloc ?_ _))); done)); rintro e w1 ⟨rfl, hb1⟩; obtain ⟨q0, q1, q2, q3⟩ := box2 hb1; obtain ⟨a0, a1, a2, a3, a4, a5⟩ := HK.out w1 (by repeat (first | (with_reducible exact Below.refl _ _) | (with_reducible assumption) | (with_reducible exact bel_box _) | (with_reducible refine bel_step ?_ (by with_reducible assumption)) | (with_reducible refine Below.drew ?_) | (with_reducible refine below_drewN ?_ _) | (with_reducible refine bel_alloc ?_ _))))
          go_region_held3 (fun W => W.cell? ⟨g, 0, none⟩ = some (.int .i64 x0) ∧ W.cell? ⟨g, 1, none⟩ = some (.int .i64 y0) ∧ W.cell? ⟨g, 2, none⟩ = some (.int .i64 x1) ∧ W.cell? ⟨g, 3, none⟩ = some (.int .i64 y1) ∧ W.cell? ⟨g, 4, none⟩ = some (.int .i64 x2) ∧ W.cell? ⟨g, 5, none⟩ = some (.int .i64 y2))
            ((refine HK.out _ ?_; (focus ((repeat (first | (with_reducible exact Below.refl _ _) | (with_reducible assumption) | (with_reducible exact bel_box _) | (with_reducible refine bel_step ?_ (by with_reducible assumption)) | (with_reducible refine Below.drew ?_) | (with_reducible refine below_drewN ?_ _) | (with_reducible refine bel_alloc ?_ _))); done))))
            (first | (go_at_call 42; (with_reducible refine (KP.out _ _).mono ?_); rintro e w2 ⟨rfl, hb2⟩; obtain ⟨q0, q1, q2, q3⟩ := box2 (w := w) (W := w2) (by repeat (first | (with_reducible exact Below.refl _ _) | (with_reducible assumption) | (with_reducible exact bel_box _) | (with_reducible refine bel_step ?_ (by with_reducible assumption)) | (with_reducible refine Below.drew ?_) | (with_reducible refine below_drewN ?_ _) | (with_reducible refine bel_alloc ?_ _))); obtain ⟨a0, a1, a2, a3, a4, a5⟩ := HK.out w2 (by repeat (first | (with_reducible exact Below.refl _ _) | (with_reducible assumption) | (with_reducible exact bel_box _) | (with_reducible refine bel_step ?_ (by with_reducible assumption)) | (with_reducible refine Below.drew ?_) | (with_reducible refine below_drewN ?_ _) | (with_reducible refine bel_alloc ?_ _)))))
          go_wp2
          go_region_held3 (fun W => W.cell? ⟨g, 0, none⟩ = some (.int .i64 x0) ∧ W.cell? ⟨g, 1, none⟩ = some (.int .i64 y0) ∧ W.cell? ⟨g, 2, none⟩ = some (.int .i64 x1) ∧ W.cell? ⟨g, 3, none⟩ = some (.int .i64 y1) ∧ W.cell? ⟨g, 4, none⟩ = some (.int .i64 x2) ∧ W.cell? ⟨g, 5, none⟩ = some (.int .i64 y2))
            ((refine HK.out _ ?_; (focus ((repeat (first | (with_reducible exact Below.refl _ _) | (with_reducible assumption) | (with_reducible exact bel_box _) | (with_reducible refine bel_step ?_ (by with_reducible assumption)) | (with_reducible refine Below.drew ?_) | (with_reducible refine below_drewN ?_ _) | (with_reducible refine bel_alloc ?_ _))); done))))
            (first | (go_at_call 42; (with_reducible refine (KP.out _ _).mono ?_); rintro e w3 ⟨rfl, hb3⟩; obtain ⟨q0, q1, q2, q3⟩ := box2 (w := w) (W := w3) (by repeat (first | (with_reducible exact Below.refl _ _) | (with_reducible assumption) | (with_reducible exact bel_box _) | (with_reducible refine bel_step ?_ (by with_reducible assumption)) | (with_reducible refine Below.drew ?_) | (with_reducible refine below_drewN ?_ _) | (with_reducible refine bel_alloc ?_ _))); obtain ⟨a0, a1, a2, a3, a4, a5⟩ := HK.out w3 (by repeat (first | (with_reducible exact Below.refl _ _) | (with_reducible assumption) | (with_reducible exact bel_box _) | (with_reducible refine bel_step ?_ (by with_reducible assumption)) | (with_reducible refine Below.drew ?_) | (with_reducible refine below_drewN ?_ _) | (with_reducible refine bel_alloc ?_ _)))))
          go_wp2_with (go_at_call 45; (with_reducible refine (KU.out _).mono ?_); rintro e w9 ⟨rfl, hb9⟩; clear q0 q1 q2 q3; obtain ⟨q0, q1, q2, q3⟩ := box2 (w := w) (W := w9) (by repeat (first | (with_reducible exact Below.refl _ _) | (with_reducible assumption) | (with_reducible exact bel_box _) | (with_reducible refine bel_step ?_ (by with_reducible assumption)) | (with_reducible refine Below.drew ?_) | (with_reducible refine below_drewN ?_ _) | (with_reducible refine bel_alloc ?_ _))))
          obtain ⟨t1, t2⟩ := set2_cells q0 q1 (.int .i64 2) (.int .i64 0)
          refine bodyPost_ret (v := cV (2, 0)) (by simp [results, Try.results43, go_sem, t1, t2, cV]) rfl ⟨rfl, ?_⟩
          first | exact bel_set2 (by repeat (first | (with_reducible exact Below.refl _ _) | (with_reducible assumption) | (with_reducible exact bel_box _) | (with_reducible refine bel_step ?_ (by with_reducible assumption)) | (with_reducible refine Below.drew ?_) | (with_reducible refine below_drewN ?_ _) | (with_reducible refine bel_alloc ?_ _))) (Nat.le_refl _) _ _ | exact Below.drew (bel_set2 (by repeat (first | (with_reducible exact Below.refl _ _) | (with_reducible assumption) | (with_reducible exact bel_box _) | (with_reducible refine bel_step ?_ (by with_reducible assumption)) | (with_reducible refine Below.drew ?_) | (with_reducible refine below_drewN ?_ _) | (with_reducible refine bel_alloc ?_ _))) (Nat.le_refl _) _ _)
end Go.Proofs.Ytefmnjcllncmpaa
/- The steps of Lift and Merge. -/
namespace Go.Proofs.Ytefmnjcllncmpaa
set_option linter.unusedVariables false
set_option linter.unusedSimpArgs false
open Go.RowKit
attribute [local go_sem] cell_eql cell_neq cell_eqg
def liftF (op : Int) (r : List (Int × Int)) : Int × Int := (lifK op r, lifV op r)
set_option maxHeartbeats 2000000 in
theorem lift1_any (op : Int) (p : Addr) (r : List (Int × Int)) (g : Nat) (w : World) (hr : r.length ≤ 100) (hR : RdC w w.heap.size (some ⟨g, 0, none⟩) r) (hp : p.block < w.heap.size) (ht : w.cell? p = some (.int .i64 op)) :
    Calls Try.prog 35 #[.slice (some ⟨g, 0, none⟩) r.length r.length, .pointer (some p)] w (Bel (cV (liftF op r)) w) := by
  have KL := Lib.hid (fun W h => lift_any (some ⟨g, 0, none⟩) r.length op r W h hr)
  have HR := Lib.hid hR
  simp only [cV, liftF]
  clear hR hr
  go_enter Try.func35, Try.ntmps35
  go_wp2_with (go_at_call 36; (with_reducible refine (KL.out _ (HR.out.to ?_)).mono ?_); (focus ((repeat (first | (with_reducible exact Below.refl _ _) | (with_reducible assumption) | (with_reducible exact bel_box _) | (with_reducible refine bel_step ?_ (by with_reducible assumption)) | (with_reducible refine Below.drew ?_) | (with_reducible refine below_drewN ?_ _) | (with_reducible refine bel_alloc ?_ _))); done)); rintro e w1 ⟨rfl, hb1⟩; obtain ⟨q0, q1, q2, q3⟩ := box2 (w := w) (W := w1) (by repeat (first | (with_reducible exact Below.refl _ _) | (with_reducible assumption) | (with_reducible exact bel_box _) | (with_reducible refine bel_step ?_ (by with_reducible assumption)) | (with_reducible refine Below.drew ?_) | (with_reducible refine below_drewN ?_ _) | (with_reducible refine bel_alloc ?_ _))))
  obtain ⟨t1, t2⟩ := set2_cells q0 q1 (.int .i64 (lifK op r)) (.int .i64 (lifV op r))
  refine bodyPost_ret (v := cV (liftF op r)) (by simp [results, Try.results35, go_sem, t1, t2, cV, liftF]) rfl ⟨rfl, ?_⟩
  first | exact bel_set2 (by repeat (first | (with_reducible exact Below.refl _ _) | (with_reducible assumption) | (with_reducible exact bel_box _) | (with_reducible refine bel_step ?_ (by with_reducible assumption)) | (with_reducible refine Below.drew ?_) | (with_reducible refine below_drewN ?_ _) | (with_reducible refine bel_alloc ?_ _))) (Nat.le_refl _) _ _ | exact Below.drew (bel_set2 (by repeat (first | (with_reducible exact Below.refl _ _) | (with_reducible assumption) | (with_reducible exact bel_box _) | (with_reducible refine bel_step ?_ (by with_reducible assumption)) | (with_reducible refine Below.drew ?_) | (with_reducible refine below_drewN ?_ _) | (with_reducible refine bel_alloc ?_ _))) (Nat.le_refl _) _ _)
end Go.Proofs.Ytefmnjcllncmpaa
/- each at its four steps. -/
namespace Go.Proofs.Ytefmnjcllncmpaa
set_option linter.unusedVariables false
set_option linter.unusedSimpArgs false
open Go.RowKit
def eS (f : List (Int × Int) → Int × Int) (_ : Unit) (r : List (Int × Int)) : Unit × (Int × Int) := ((), f r)
theorem outE (f : List (Int × Int) → Int × Int) (ls : List St) (t : Nat) : outT (eS f) () ls t = (rowsTo ls t).map f := by
  induction t with
  | zero => rfl
  | succ t ih => rw [outT_succ, ih, rowsTo_succ, List.map_append]; rfl
theorem e_box {w w1 : World} {x y : Value} {t0 t1 t2 : TypeId} (hb : Below (((w.alloc (.cells #[] t0)).alloc (.cells #[] t1)).alloc (.cells #[x, y] t2)).heap.size (((w.alloc (.cells #[] t0)).alloc (.cells #[] t1)).alloc (.cells #[x, y] t2)) w1) :
    w1.cell? ⟨w.heap.size + 1 + 1, 0, none⟩ = some x ∧ w1.cell? ⟨w.heap.size + 1 + 1, 1, none⟩ = some y ∧ w1.frozen? ⟨w.heap.size + 1 + 1, 0, none⟩ = false ∧ w1.frozen? ⟨w.heap.size + 1 + 1, 1, none⟩ = false := by
  have h := (Bk.new ((w.alloc (.cells #[] t0)).alloc (.cells #[] t1)) t2 #[x, y]).below hb (by simp)
  rw [World.size_alloc, World.size_alloc] at h
  exact ⟨h.cell 0, h.cell 1, h.frozen 0, h.frozen 1⟩
set_option maxHeartbeats 2000000 in
theorem each1_lift (p0 : Value) (f : List (Int × Int) → Int × Int) (r : List (Int × Int)) (g n : Nat) (pb : Addr) (w : World)
    (K : Hid (∀ W, Below w.heap.size w W → Calls Try.prog 35 #[.slice (some ⟨g, 0, none⟩) n n, p0] W (Bel (cV (f r)) W))) (hpb : pb.block < w.heap.size) (hc : w.cell? pb = some (.func (.func 35) #[] #[p0])) :
    Calls Try.prog 61 #[.agg #[], .slice (some ⟨g, 0, none⟩) n n, .pointer (some pb)] w (Bel (.tuple #[.agg #[], cV (f r)]) w) := by
  simp only [cV] at K ⊢
  generalize f r = z at *
  obtain ⟨z0, z1⟩ := z
  simp only at K ⊢
  have HK : Hid (∀ W, Below w.heap.size w W → W.cell? pb = some (.func (.func 35) #[] #[p0])) := Lib.hid fun W hb => (hb.cell hpb).trans hc
  clear hpb
  go_enter Try.func61, Try.ntmps61
  go_wp2
  go_region_held3 (fun W => W.cell? pb = some (.func (.func 35) #[] #[p0]))
    ((refine HK.out _ ?_; (first | (focus ((repeat (first | (with_reducible exact Below.refl _ _) | (with_reducible assumption) | (with_reducible exact bel_box _) | (with_reducible refine bel_step ?_ (by with_reducible assumption)) | (with_reducible refine Below.drew ?_) | (with_reducible refine below_drewN ?_ _) | (with_reducible refine bel_alloc ?_ _))); done)) | (refine bel_two ?_ (by omega) _ _; (focus ((repeat (first | (with_reducible exact Below.refl _ _) | (with_reducible assumption) | (with_reducible exact bel_box _) | (with_reducible refine bel_step ?_ (by with_reducible assumption)) | (with_reducible refine Below.drew ?_) | (with_reducible refine below_drewN ?_ _) | (with_reducible refine bel_alloc ?_ _))); done))))))
    (first | (go_at_call 35; (with_reducible refine (K.out _ ?_).mono ?_); (focus ((repeat (first | (with_reducible exact Below.refl _ _) | (with_reducible assumption) | (with_reducible exact bel_box _) | (with_reducible refine bel_step ?_ (by with_reducible assumption)) | (with_reducible refine Below.drew ?_) | (with_reducible refine below_drewN ?_ _) | (with_reducible refine bel_alloc ?_ _))); done)); rintro e w1 ⟨rfl, hb1⟩; obtain ⟨q0, q1, q2, q3⟩ := e_box (w := w) (w1 := w1) (by repeat (first | (with_reducible exact Below.refl _ _) | (with_reducible assumption) | (with_reducible exact bel_box _) | (with_reducible refine bel_step ?_ (by with_reducible assumption)) | (with_reducible refine Below.drew ?_) | (with_reducible refine below_drewN ?_ _) | (with_reducible refine bel_alloc ?_ _)))))
  go_wp2
  obtain ⟨t1, t2⟩ := set2_cells q0 q1 (.int .i64 z0) (.int .i64 z1)
  refine bodyPost_ret (v := .tuple #[.agg #[], cV (z0, z1)]) (by simp [results, Try.results61, go_sem, t1, t2, cV]) rfl ⟨rfl, ?_⟩
  first | exact bel_two (by repeat (first | (with_reducible exact Below.refl _ _) | (with_reducible assumption) | (with_reducible exact bel_box _) | (with_reducible refine bel_step ?_ (by with_reducible assumption)) | (with_reducible refine Below.drew ?_) | (with_reducible refine below_drewN ?_ _) | (with_reducible refine bel_alloc ?_ _))) (by omega) _ _ | exact Below.drew (bel_two (by repeat (first | (with_reducible exact Below.refl _ _) | (with_reducible assumption) | (with_reducible exact bel_box _) | (with_reducible refine bel_step ?_ (by with_reducible assumption)) | (with_reducible refine Below.drew ?_) | (with_reducible refine below_drewN ?_ _) | (with_reducible refine bel_alloc ?_ _))) (by omega) _ _)
set_option maxHeartbeats 2000000 in
theorem each_lift (p0 : Value) (f : List (Int × Int) → Int × Int) (A : Option Addr) (c : Nat) (ls : List St) (w : World) (hA : RdS w w.heap.size A ls) (hl : ls.length ≤ 100) (h3 : ∀ s ∈ ls, s.l.length ≤ 1000000)
    (K : Hid (∀ (r : List (Int × Int)) (g : Nat) (W : World), r.length = ls.length → RdC W W.heap.size (some ⟨g, 0, none⟩) r → Below w.heap.size w W → Calls Try.prog 35 #[.slice (some ⟨g, 0, none⟩) r.length r.length, p0] W (Bel (cV (f r)) W))) :
    Calls Try.prog 34 #[.func (.func 35) #[] #[p0], .slice A ls.length c] w (NewC ((rowsTo ls (tog ls)).map f) w) := by
  rw [← outE]
  have HA := Lib.hid hA
  have KC : Hid (∀ pb W, Below w.heap.size w W → pb.block < W.heap.size → W.cell? pb = some (.func (.func 35) #[] #[p0]) → Calls Try.prog 62 #[.agg #[], .func (.func 61) #[] #[.pointer (some pb)], .slice A ls.length c] W (NewC (outT (eS f) () ls (tog ls)) W)) :=
    Lib.hid fun pb W hb hpb hc => by
      by_cases h0 : ls.length = 0
      · obtain rfl : ls = [] := List.eq_nil_of_length_eq_zero h0
        go_enter Try.func62, Try.ntmps62
        go_wp2
        go_ret
        exact ⟨none, 0, rfl, fun h => absurd rfl h, (by repeat (first | (with_reducible exact Below.refl _ _) | (with_reducible assumption) | (with_reducible exact bel_box _) | (with_reducible refine bel_step ?_ (by with_reducible assumption)) | (with_reducible refine Below.drew ?_) | (with_reducible refine below_drewN ?_ _) | (with_reducible refine bel_alloc ?_ _)))⟩
      · exact combine_e (.pointer (some pb)) A c ls () (eS f) W (hA.to hb) hl (by omega) h3 (Lib.hid fun s r g X hr hR hX =>
          each1_lift p0 f r g r.length pb X (Lib.hid fun Y hY => K.out r g Y hr (hR.to hY) ((hb.trans (hX.mono hb.size)).trans (hY.mono (Nat.le_trans hb.size hX.size)))) (Nat.lt_of_lt_of_le hpb hX.size) ((hX.cell hpb).trans hc))
  clear hA K
  go_enter Try.func34, Try.ntmps34
  go_wp2_with (go_at_call 62; (refine (KC.out ⟨w.heap.size, 0, none⟩ _ ?_ ?_ ?_).mono ?_); (focus ((repeat (first | (with_reducible exact Below.refl _ _) | (with_reducible assumption) | (with_reducible exact bel_box _) | (with_reducible refine bel_step ?_ (by with_reducible assumption)) | (with_reducible refine Below.drew ?_) | (with_reducible refine below_drewN ?_ _) | (with_reducible refine bel_alloc ?_ _))); done)); (focus (simp)); (focus (simp [go_sem])); rintro e w2 ⟨A', c', rfl, hR', hb2⟩)
  go_ret
  exact ⟨A', c', rfl, hR', (by repeat (first | (with_reducible exact Below.refl _ _) | (with_reducible assumption) | (with_reducible exact bel_box _) | (with_reducible refine bel_step ?_ (by with_reducible assumption)) | (with_reducible refine Below.drew ?_) | (with_reducible refine below_drewN ?_ _) | (with_reducible refine bel_alloc ?_ _)))⟩
set_option maxHeartbeats 2000000 in
theorem each1_if (f : List (Int × Int) → Int × Int) (r : List (Int × Int)) (g n : Nat) (pb : Addr) (w : World)
    (K : Hid (∀ W, Below w.heap.size w W → Calls Try.prog 43 #[.slice (some ⟨g, 0, none⟩) n n] W (Bel (cV (f r)) W))) (hpb : pb.block < w.heap.size) (hc : w.cell? pb = some (.func (.func 43) #[] #[])) :
    Calls Try.prog 61 #[.agg #[], .slice (some ⟨g, 0, none⟩) n n, .pointer (some pb)] w (Bel (.tuple #[.agg #[], cV (f r)]) w) := by
  simp only [cV] at K ⊢
  generalize f r = z at *
  obtain ⟨z0, z1⟩ := z
  simp only at K ⊢
  have HK : Hid (∀ W, Below w.heap.size w W → W.cell? pb = some (.func (.func 43) #[] #[])) := Lib.hid fun W hb => (hb.cell hpb).trans hc
  clear hpb
  go_enter Try.func61, Try.ntmps61
  go_wp2
  go_region_held3 (fun W => W.cell? pb = some (.func (.func 43) #[] #[]))
    ((refine HK.out _ ?_; (first | (focus ((repeat (first | (with_reducible exact Below.refl _ _) | (with_reducible assumption) | (with_reducible exact bel_box _) | (with_reducible refine bel_step ?_ (by with_reducible assumption)) | (with_reducible refine Below.drew ?_) | (with_reducible refine below_drewN ?_ _) | (with_reducible refine bel_alloc ?_ _))); done)) | (refine bel_two ?_ (by omega) _ _; (focus ((repeat (first | (with_reducible exact Below.refl _ _) | (with_reducible assumption) | (with_reducible exact bel_box _) | (with_reducible refine bel_step ?_ (by with_reducible assumption)) | (with_reducible refine Below.drew ?_) | (with_reducible refine below_drewN ?_ _) | (with_reducible refine bel_alloc ?_ _))); done))))))
    (first | (go_at_call 43; (with_reducible refine (K.out _ ?_).mono ?_); (focus ((repeat (first | (with_reducible exact Below.refl _ _) | (with_reducible assumption) | (with_reducible exact bel_box _) | (with_reducible refine bel_step ?_ (by with_reducible assumption)) | (with_reducible refine Below.drew ?_) | (with_reducible refine below_drewN ?_ _) | (with_reducible refine bel_alloc ?_ _))); done)); rintro e w1 ⟨rfl, hb1⟩; obtain ⟨q0, q1, q2, q3⟩ := e_box (w := w) (w1 := w1) (by repeat (first | (with_reducible exact Below.refl _ _) | (with_reducible assumption) | (with_reducible exact bel_box _) | (with_reducible refine bel_step ?_ (by with_reducible assumption)) | (with_reducible refine Below.drew ?_) | (with_reducible refine below_drewN ?_ _) | (with_reducible refine bel_alloc ?_ _)))))
  go_wp2
  obtain ⟨t1, t2⟩ := set2_cells q0 q1 (.int .i64 z0) (.int .i64 z1)
  refine bodyPost_ret (v := .tuple #[.agg #[], cV (z0, z1)]) (by simp [results, Try.results61, go_sem, t1, t2, cV]) rfl ⟨rfl, ?_⟩
  first | exact bel_two (by repeat (first | (with_reducible exact Below.refl _ _) | (with_reducible assumption) | (with_reducible exact bel_box _) | (with_reducible refine bel_step ?_ (by with_reducible assumption)) | (with_reducible refine Below.drew ?_) | (with_reducible refine below_drewN ?_ _) | (with_reducible refine bel_alloc ?_ _))) (by omega) _ _ | exact Below.drew (bel_two (by repeat (first | (with_reducible exact Below.refl _ _) | (with_reducible assumption) | (with_reducible exact bel_box _) | (with_reducible refine bel_step ?_ (by with_reducible assumption)) | (with_reducible refine Below.drew ?_) | (with_reducible refine below_drewN ?_ _) | (with_reducible refine bel_alloc ?_ _))) (by omega) _ _)
set_option maxHeartbeats 2000000 in
theorem each_if (f : List (Int × Int) → Int × Int) (A : Option Addr) (c : Nat) (ls : List St) (w : World) (hA : RdS w w.heap.size A ls) (hl : ls.length ≤ 100) (h3 : ∀ s ∈ ls, s.l.length ≤ 1000000)
    (K : Hid (∀ (r : List (Int × Int)) (g : Nat) (W : World), r.length = ls.length → RdC W W.heap.size (some ⟨g, 0, none⟩) r → Below w.heap.size w W → Calls Try.prog 43 #[.slice (some ⟨g, 0, none⟩) r.length r.length] W (Bel (cV (f r)) W))) :
    Calls Try.prog 34 #[.func (.func 43) #[] #[], .slice A ls.length c] w (NewC ((rowsTo ls (tog ls)).map f) w) := by
  rw [← outE]
  have HA := Lib.hid hA
  have KC : Hid (∀ pb W, Below w.heap.size w W → pb.block < W.heap.size → W.cell? pb = some (.func (.func 43) #[] #[]) → Calls Try.prog 62 #[.agg #[], .func (.func 61) #[] #[.pointer (some pb)], .slice A ls.length c] W (NewC (outT (eS f) () ls (tog ls)) W)) :=
    Lib.hid fun pb W hb hpb hc => by
      by_cases h0 : ls.length = 0
      · obtain rfl : ls = [] := List.eq_nil_of_length_eq_zero h0
        go_enter Try.func62, Try.ntmps62
        go_wp2
        go_ret
        exact ⟨none, 0, rfl, fun h => absurd rfl h, (by repeat (first | (with_reducible exact Below.refl _ _) | (with_reducible assumption) | (with_reducible exact bel_box _) | (with_reducible refine bel_step ?_ (by with_reducible assumption)) | (with_reducible refine Below.drew ?_) | (with_reducible refine below_drewN ?_ _) | (with_reducible refine bel_alloc ?_ _)))⟩
      · exact combine_e (.pointer (some pb)) A c ls () (eS f) W (hA.to hb) hl (by omega) h3 (Lib.hid fun s r g X hr hR hX =>
          each1_if  f r g r.length pb X (Lib.hid fun Y hY => K.out r g Y hr (hR.to hY) ((hb.trans (hX.mono hb.size)).trans (hY.mono (Nat.le_trans hb.size hX.size)))) (Nat.lt_of_lt_of_le hpb hX.size) ((hX.cell hpb).trans hc))
  clear hA K
  go_enter Try.func34, Try.ntmps34
  go_wp2_with (go_at_call 62; (refine (KC.out ⟨w.heap.size, 0, none⟩ _ ?_ ?_ ?_).mono ?_); (focus ((repeat (first | (with_reducible exact Below.refl _ _) | (with_reducible assumption) | (with_reducible exact bel_box _) | (with_reducible refine bel_step ?_ (by with_reducible assumption)) | (with_reducible refine Below.drew ?_) | (with_reducible refine below_drewN ?_ _) | (with_reducible refine bel_alloc ?_ _))); done)); (focus (simp)); (focus (simp [go_sem])); rintro e w2 ⟨A', c', rfl, hR', hb2⟩)
  go_ret
  exact ⟨A', c', rfl, hR', (by repeat (first | (with_reducible exact Below.refl _ _) | (with_reducible assumption) | (with_reducible exact bel_box _) | (with_reducible refine bel_step ?_ (by with_reducible assumption)) | (with_reducible refine Below.drew ?_) | (with_reducible refine below_drewN ?_ _) | (with_reducible refine bel_alloc ?_ _)))⟩
end Go.Proofs.Ytefmnjcllncmpaa
/- slices.Grow of the nil slice, slices.Concat of two slices of bools, and append onto an owned slice. -/
namespace Go.Proofs.Ytefmnjcllncmpaa.cc
set_option linter.unusedVariables false
set_option linter.unusedSimpArgs false
open Go.RowKit
def bls (l : List St) : List Value := l.map stV
section
variable {P : Program} (w : World)
end
end Go.Proofs.Ytefmnjcllncmpaa.cc
/- Lift, If, When, Merge of the program. -/
namespace Go.Proofs.Ytefmnjcllncmpaa
set_option linter.unusedVariables false
set_option linter.unusedSimpArgs false
open Go.RowKit
set_option maxHeartbeats 1000000 in
theorem liftP_any (op : Int) (A : Option Addr) (c : Nat) (ls : List St) (w : World) (hA : RdS w w.heap.size A ls) (hl : ls.length ≤ 100) (h3 : ∀ s ∈ ls, s.l.length ≤ 1000000) :
    Calls Try.prog 12 #[.int .i64 op, .slice A ls.length c] w (NewC ((rowsTo ls (tog ls)).map (liftF op)) w) := by
  have KC : Hid (∀ p W, Below w.heap.size w W → p.block < W.heap.size → W.cell? p = some (.int .i64 op) → Calls Try.prog 34 #[.func (.func 35) #[] #[.pointer (some p)], .slice A ls.length c] W (NewC ((rowsTo ls (tog ls)).map (liftF op)) W)) :=
    Lib.hid fun p W hb hp hc => each_lift (.pointer (some p)) (liftF op) A c ls W (hA.to hb) hl h3 (Lib.hid fun r g X hr hR hX => lift1_any op p r g X (by omega) hR (Nat.lt_of_lt_of_le hp hX.size) ((hX.cell hp).trans hc))
  generalize (rowsTo ls (tog ls)).map (liftF op) = out at *
  clear hA h3
  go_enter Try.func12, Try.ntmps12
  go_wp2_with (go_at_call 34; (refine (KC.out ⟨w.heap.size, 0, none⟩ _ ?_ ?_ ?_).mono ?_); (focus ((repeat (first | (with_reducible exact Below.refl _ _) | (with_reducible assumption) | (with_reducible exact bel_box _) | (with_reducible refine bel_step ?_ (by with_reducible assumption)) | (with_reducible refine Below.drew ?_) | (with_reducible refine below_drewN ?_ _) | (with_reducible refine bel_alloc ?_ _))); done)); (focus (simp)); (focus (simp [go_sem])); rintro e w2 ⟨A', c', rfl, hR', hb2⟩)
  go_ret
  exact ⟨A', c', rfl, hR', (by repeat (first | (with_reducible exact Below.refl _ _) | (with_reducible assumption) | (with_reducible exact bel_box _) | (with_reducible refine bel_step ?_ (by with_reducible assumption)) | (with_reducible refine Below.drew ?_) | (with_reducible refine below_drewN ?_ _) | (with_reducible refine bel_alloc ?_ _)))⟩
set_option maxHeartbeats 1000000 in
theorem ifP_any (C A B : Option Addr) (f c d : Nat) (x l m : List (Int × Int)) (w : World) (hC : RdC w w.heap.size C x) (hA : RdC w w.heap.size A l) (hB : RdC w w.heap.size B m) (hx : x.length ≤ 1000000) (hl : l.length ≤ 1000000) (hm : m.length ≤ 1000000) :
    Calls Try.prog 16 #[.slice C x.length f, .slice A l.length c, .slice B m.length d] w (NewC ((rowsTo [⟨C, f, x⟩, ⟨A, c, l⟩, ⟨B, d, m⟩] (tog [⟨C, f, x⟩, ⟨A, c, l⟩, ⟨B, d, m⟩])).map ifF) w) := by
  have HA := Lib.hid hA
  have HB := Lib.hid hB
  have HC := Lib.hid hC
  have KC : Hid (∀ b W, RdS W W.heap.size (some ⟨b, 0, none⟩) [⟨C, f, x⟩, ⟨A, c, l⟩, ⟨B, d, m⟩] → Calls Try.prog 34 #[.func (.func 43) #[] #[], .slice (some ⟨b, 0, none⟩) 3 3] W (NewC ((rowsTo [⟨C, f, x⟩, ⟨A, c, l⟩, ⟨B, d, m⟩] (tog [⟨C, f, x⟩, ⟨A, c, l⟩, ⟨B, d, m⟩])).map ifF) W)) :=
    Lib.hid fun b W h => each_if ifF (some ⟨b, 0, none⟩) 3 [⟨C, f, x⟩, ⟨A, c, l⟩, ⟨B, d, m⟩] W h (by simp) (rl3 _ _ _ _ hx hl hm) (Lib.hid fun r g X hr hR hX => if1_any r g X hr hR)
  generalize (rowsTo [⟨C, f, x⟩, ⟨A, c, l⟩, ⟨B, d, m⟩] (tog [⟨C, f, x⟩, ⟨A, c, l⟩, ⟨B, d, m⟩])).map ifF = out at *
  clear hA hB hC
  go_enter Try.func16, Try.ntmps16
  go_wp2_with (go_at_call 34; (refine (KC.out _ _ ?_).mono ?_); (focus (exact RdS.new [⟨C, f, x⟩, ⟨A, c, l⟩, ⟨B, d, m⟩] _ rfl (rl3 _ _ _ _ (HC.out.to (by repeat (first | (with_reducible exact Below.refl _ _) | (with_reducible assumption) | (with_reducible exact bel_box _) | (with_reducible refine bel_step ?_ (by with_reducible assumption)) | (with_reducible refine Below.drew ?_) | (with_reducible refine below_drewN ?_ _) | (with_reducible refine bel_alloc ?_ _)))) (HA.out.to (by repeat (first | (with_reducible exact Below.refl _ _) | (with_reducible assumption) | (with_reducible exact bel_box _) | (with_reducible refine bel_step ?_ (by with_reducible assumption)) | (with_reducible refine Below.drew ?_) | (with_reducible refine below_drewN ?_ _) | (with_reducible refine bel_alloc ?_ _)))) (HB.out.to (by repeat (first | (with_reducible exact Below.refl _ _) | (with_reducible assumption) | (with_reducible exact bel_box _) | (with_reducible refine bel_step ?_ (by with_reducible assumption)) | (with_reducible refine Below.drew ?_) | (with_reducible refine below_drewN ?_ _) | (with_reducible refine bel_alloc ?_ _))))))); rintro e w2 ⟨A', c', rfl, hR', hb2⟩)
  go_ret
  exact ⟨A', c', rfl, hR', (by repeat (first | (with_reducible exact Below.refl _ _) | (with_reducible assumption) | (with_reducible exact bel_box _) | (with_reducible refine bel_step ?_ (by with_reducible assumption)) | (with_reducible refine Below.drew ?_) | (with_reducible refine below_drewN ?_ _) | (with_reducible refine bel_alloc ?_ _)))⟩
end Go.Proofs.Ytefmnjcllncmpaa
/-
  DERIVED: THE SHELF's CONTRACTS AT THIS DUMP, IN PLAIN WORDS (tools/lay-plain.mjs out of 'TryShelf.lean', which tools/lay-shelf.mjs wrote): THE SAME DECLARATIONS UNDER THE SAME NAMES: 'import', 'namespace', 'open', 'def', 'theorem' AND NOTHING ELSE: no command of the shelf's: FOR A HAND-IN. Each laying: the table of numbers ('.._ren') and one theorem, a field a fact of the dump's own or the kernel's comparison; each contract: ONE APPLICATION.
-/
namespace Go.Proofs
open Go.Shelf
def Try.lays212_ren : Go.Shelf.Ren := ⟨fun | 212 => 65 | 263 => 80 | 264 => 81 | n => n, fun | 46 => 74 | 51 => 92 | 146 => 93 | 53 => 95 | 148 => 96 | n => n, fun | n => n⟩
theorem Try.lays212 : Go.Proofs.Lays.n212 Try.prog Try.lays212_ren := {
  mixed := by kernel_rfl
  f212 := Try.func65.trans (congrArg some (by kernel_rfl))
  f263 := Try.func80.trans (congrArg some (by kernel_rfl))
  f264 := Try.func81.trans (congrArg some (by kernel_rfl))
  t46 := Try.underlying74
  a46 := Try.isAgg74
  z46 := Try.sizeOf74
  v46 := Try.zeroValue74
  t51 := Try.underlying92
  a51 := Try.isAgg92
  z51 := Try.sizeOf92
  v51 := Try.zeroValue92
  t53 := Try.underlying95
  a53 := Try.isAgg95
  z53 := Try.sizeOf95
  v53 := Try.zeroValue95
  t146 := Try.underlying93
  a146 := Try.isAgg93
  z146 := Try.sizeOf93
  v146 := Try.zeroValue93
  t148 := Try.underlying96
  a148 := Try.isAgg96
  z148 := Try.sizeOf96
  v148 := Try.zeroValue96 }
open Go.RowKit Go.Lib in
/-- math/bits.Mul: "Mul returns the full-width product of x and y": on a machine of 64 bits: Mul64's. (LAID: no walk: one application.) -/
theorem Try.bits_Mul (x y : Nat) (hx : x < 18446744073709551616) (hy : y < 18446744073709551616) (w : World) :
    Calls Try.prog 65 #[.int .u64 x, .int .u64 y] w fun e w' => e = .returned (.tuple #[.int .u64 ((x * y / 18446744073709551616 : Nat) : Int), .int .u64 ((x * y % 18446744073709551616 : Nat) : Int)]) ∧ w' = w := Any.bits_Mul Try.lays212 x y hx hy w
end Go.Proofs
/- copy of cells; slices.Repeat of one cell; Const of the program. -/
namespace Go.Proofs.Ytefmnjcllncmpaa
set_option linter.unusedVariables false
set_option linter.unusedSimpArgs false
open Go.RowKit
theorem fl_append (a b : List (Int × Int)) : fl (a ++ b) = fl a ++ fl b := by simp [fl]
theorem fl_take (l : List (Int × Int)) (k : Nat) : (fl l).take (k * 2) = fl (l.take k) := by
  induction l generalizing k with
  | nil => simp [fl]
  | cons a l ih =>
    cases k with
    | zero => rfl
    | succ k => rw [fl_cons, show (k + 1) * 2 = k * 2 + 1 + 1 by omega, List.take_succ_cons, List.take_succ_cons, ih, List.take_succ_cons, fl_cons]
theorem fl_drop (l : List (Int × Int)) (k : Nat) : (fl l).drop (k * 2) = fl (l.drop k) := by
  induction l generalizing k with
  | nil => simp [fl]
  | cons a l ih =>
    cases k with
    | zero => rfl
    | succ k => rw [fl_cons, show (k + 1) * 2 = k * 2 + 1 + 1 by omega, List.drop_succ_cons, List.drop_succ_cons, ih, List.drop_succ_cons]
theorem fl_one (l : List (Int × Int)) : ∀ v ∈ fl l, v.oneCell' = true := by
  intro v hv
  simp only [fl, List.mem_flatMap] at hv
  obtain ⟨c, _, hc⟩ := hv
  simp at hc
  rcases hc with rfl | rfl <;> rfl
theorem run_copy2 (w : World) (ty : TypeId) (g k m dLen dCap sLen sCap : Nat) (a : Addr) (l cs : List (Int × Int)) (hB : Bc w g l) (hm : m = Nat.min sLen dLen) (hcs : cs.length = m)
    (hsrc : ∀ (j : Nat) (c : Int × Int), cs[j]? = some c → w.cell? (a.add (j * 2)) = some (.int .i64 c.1) ∧ w.cell? (a.add (j * 2 + 1)) = some (.int .i64 c.2)) (hfit : k + m ≤ l.length) :
    (Builtin.copy_ #[26, 26] ty #[.slice (some ⟨g, k * 2, none⟩) dLen dCap, .slice (some a) sLen sCap]).run Try.prog w =
      .ok (goInt m) (w.setRow g (fl (l.take k ++ cs ++ l.drop (k + m))).toArray) := by
  obtain ⟨i, hi, hz⟩ := Option.map_eq_some_iff.1 cellInfo
  simp only [Prod.mk.injEq] at hz
  obtain ⟨hz0, hs, hb⟩ := hz
  have hl := run_loadCells_list (P := Try.prog) w a (fl cs) (fun j v hv => by
    have hj : j < (fl cs).length := (List.getElem?_eq_some_iff.1 hv).1
    rw [fl_length] at hj
    have he : cs[j / 2]? = some cs[j / 2] := List.getElem?_eq_getElem (by omega)
    obtain ⟨s1, s2⟩ := hsrc _ _ he
    obtain ⟨f1, f2⟩ := fl_get cs _ _ he
    rcases (show j = j / 2 * 2 ∨ j = j / 2 * 2 + 1 by omega) with e | e
    · rw [e]; rw [e] at hv; rw [f1] at hv; rw [← hv]; exact s1
    · rw [e]; rw [e] at hv; rw [f2] at hv; rw [← hv]; exact s2)
  have hst := run_storeCells_at Try.prog g (k * 2) 46 (fl cs) 0 (fl l).toArray w hB (by simp [fl_length]; omega) (fl_one cs)
  have hlen : (fl cs).length = m * 2 := by rw [fl_length, hcs]
  have hu := Try.underlying26
  rw [hlen] at hl hst
  have e1 : (fl l).toArray.toList.take (k * 2 + 0) ++ fl cs ++ (fl l).toArray.toList.drop (k * 2 + 0 + m * 2) = fl (l.take k ++ cs ++ l.drop (k + m)) := by
    rw [fl_append, fl_append, ← fl_take, ← fl_drop, show (k + m) * 2 = k * 2 + 0 + m * 2 by omega]; rfl
  rw [e1] at hst
  simp [Builtin.copy_, run_underlying hu, Builtin.lenOf, Builtin.firstCells, sizeOf, typeInfo, hi, hs, ← hm, hl, hst]
theorem Bc.row {w : World} {g : Nat} {l : List (Int × Int)} (h : Bc w g l) (m : List (Int × Int)) : Bc (w.setRow g (fl m).toArray) g m := setRow_heap w g _ _ 46 _ h
theorem rep_row (c : Int × Int) (k m N : Nat) (hk : k + m ≤ N) (hmk : m ≤ k) : (List.replicate k c ++ List.replicate (N - k) (0, 0)).take k ++ (List.replicate k c ++ List.replicate (N - k) (0, 0)).take m ++ (List.replicate k c ++ List.replicate (N - k) (0, 0)).drop (k + m) = List.replicate (k + m) c ++ List.replicate (N - (k + m)) (0, 0) := by
  rw [List.take_append_of_le_length (by simp), List.take_append_of_le_length (by simp; exact hmk), List.take_replicate, List.take_replicate, Nat.min_self, Nat.min_eq_left hmk, List.replicate_append_replicate, List.drop_append, List.drop_replicate, List.drop_replicate, List.length_replicate, show k - (k + m) = 0 by omega, show k + m - k = m by omega, show N - k - m = N - (k + m) by omega]
  rfl
set_option maxHeartbeats 4000000 in
set_option maxRecDepth 20000 in
theorem repeat_any (ad : Addr) (c : Int × Int) (N : Nat) (w : World) (hN : N ≤ 4096) (had : ad.block < w.heap.size) (h0 : w.cell? (ad.add 0) = some (.int .i64 c.1)) (h1 : w.cell? (ad.add 1) = some (.int .i64 c.2)) :
    Calls Try.prog 41 #[.slice (some ad) 1 1, .int .i64 (N : Int)] w (NewC (List.replicate N c) w) := by
  have KM : Hid (∀ W, Calls Try.prog 65 #[.int .u64 1, .int .u64 (N : Int)] W fun e w' => e = .returned (.tuple #[.int .u64 0, .int .u64 (N : Int)]) ∧ W = w') := Lib.hid fun W => by
    have h := Try.bits_Mul 1 N (by omega) (by omega) W
    rw [show 1 * N / 18446744073709551616 = 0 by omega, show 1 * N % 18446744073709551616 = N by omega] at h
    exact h.mono fun e w' hh => ⟨hh.1, hh.2.symm⟩
  have m1 := mk_cells N (by omega) w
  have hB0 : Bc (w.alloc (.cells (fl (List.replicate N (0, 0))).toArray 46)) w.heap.size (List.replicate N (0, 0)) := Bk.new _ _ _
  have hc1 := run_copy2 _ 3 w.heap.size 0 (Nat.min 1 N) N N 1 1 ad (List.replicate N (0, 0)) (List.replicate (Nat.min 1 N) c) hB0 rfl (by simp) (fun j d hd => by
    obtain ⟨hj, rfl⟩ := List.getElem?_eq_some_iff.1 hd
    have hj' : j = 0 := by
      have : Nat.min 1 N ≤ 1 := Nat.min_le_left _ _
      simp at hj
      omega
    subst hj'
    simp only [List.getElem_replicate]
    exact ⟨(((Below.refl w.heap.size w).alloc (Nat.le_refl _) _).cell (by rw [add_block]; exact had)).trans h0, (((Below.refl w.heap.size w).alloc (Nat.le_refl _) _).cell (by rw [add_block]; exact had)).trans h1⟩) (by simp; exact Nat.min_le_right _ _)
  rw [show List.take 0 (List.replicate N ((0, 0) : Int × Int)) ++ List.replicate (Nat.min 1 N) c ++ List.drop (0 + Nat.min 1 N) (List.replicate N (0, 0)) = List.replicate (Nat.min 1 N) c ++ List.replicate (N - Nat.min 1 N) (0, 0) by simp] at hc1
  have hB1 := hB0.row (List.replicate (Nat.min 1 N) c ++ List.replicate (N - Nat.min 1 N) (0, 0))
  simp only [Nat.zero_mul] at hc1
  go_enter Try.func41, Try.ntmps41
  go_wp2_with (go_at_call 65; (with_reducible refine (KM.out _).mono ?_); rintro e w1 ⟨rfl, rfl⟩)
  clear hc1 m1 KM
  have hbw : Below w.heap.size w ((w.alloc (.cells (fl (List.replicate N (0, 0))).toArray 46)).setRow w.heap.size (fl (List.replicate (Nat.min 1 N) c ++ List.replicate (N - Nat.min 1 N) (0, 0))).toArray) := below_setRow ((Below.refl _ _).alloc (Nat.le_refl _) _) (Nat.le_refl _) _
  go_loopw [8] (fun i wr => ∃ k : Nat, k ≤ N ∧ (0 < N → 0 < k) ∧ i = .int .i64 (k : Int) ∧ Hid (Bc wr w.heap.size (List.replicate k c ++ List.replicate (N - k) (0, 0))) ∧ Below w.heap.size w wr) (fun i _ => N - (intOf i).toNat)
  case atStart => exact ⟨Nat.min 1 N, Nat.min_le_right _ _, fun h => by show 0 < min 1 N; omega, rfl, Lib.hid hB1, hbw⟩
  case round =>
    obtain ⟨k, hk, hk0, rfl, hB, hbl⟩ := hrel
    by_cases hlt : k < N
    · have hk1 := hk0 (by omega)
      have hm1 : Nat.min k (N - k) ≤ k := Nat.min_le_left _ _
      have hm2 : Nat.min k (N - k) ≤ N - k := Nat.min_le_right _ _
      have hs1 : ∀ wr : World, (Instr.slice 26 (.slice (some ⟨w.heap.size, 0, none⟩) N N) (some (.int .i64 (k : Int))) none none).run Try.prog wr = .ok (.slice (some ⟨w.heap.size, k * 2, none⟩) (N - k) (N - k)) wr := fun wr => by
        have h1 : (Instr.slice 26 (.slice (some ⟨w.heap.size, 0, none⟩) N N) (some (.int .i64 (k : Int))) none none).run Try.prog wr = _ := run_slice_l wr 26 (some ⟨w.heap.size, 0, none⟩) N N (by kernel_rfl) .i64 k (by omega) (by omega)
        rw [h1]
        have hne : ¬ N = k := by omega
        simp [go_sem, sliced, Addr.add, hne]
        omega
      have hs2 : ∀ wr : World, (Instr.slice 26 (.slice (some ⟨w.heap.size, 0, none⟩) N N) none (some (.int .i64 (k : Int))) none).run Try.prog wr = .ok (.slice (some ⟨w.heap.size, 0, none⟩) k N) wr := fun wr => by
        have h1 : (Instr.slice 26 (.slice (some ⟨w.heap.size, 0, none⟩) N N) none (some (.int .i64 (k : Int))) none).run Try.prog wr = _ := run_slice_h wr 26 (some ⟨w.heap.size, 0, none⟩) N N (by kernel_rfl) .i64 k (by omega) (by omega)
        rw [h1]
        have hne : ¬ N = 0 := by omega
        simp [go_sem, sliced, Addr.add, hne]
      have hBd : Bc wr.drew w.heap.size (List.replicate k c ++ List.replicate (N - k) (0, 0)) := hB.out
      have hc2 := run_copy2 wr.drew 3 w.heap.size k (Nat.min k (N - k)) (N - k) (N - k) k N ⟨w.heap.size, 0, none⟩ _ ((List.replicate k c ++ List.replicate (N - k) (0, 0)).take (Nat.min k (N - k))) hBd rfl (by simp <;> omega) (fun j d hd => by
        have hd' : (List.replicate k c ++ List.replicate (N - k) (0, 0))[j]? = some d := by
          rw [List.getElem?_take] at hd
          split at hd
          · exact hd
          · cases hd
        have h := hBd.cells hd'
        rw [add_off, add_off]
        exact ⟨h.1, h.2.1⟩) (by simp <;> omega)
      rw [rep_row c k (Nat.min k (N - k)) N (by omega) hm1] at hc2
      have hB2 := Lib.hid (hBd.row (List.replicate (k + Nat.min k (N - k)) c ++ List.replicate (N - (k + Nat.min k (N - k))) (0, 0)))
      have hm0 : 0 < Nat.min k (N - k) := by show 0 < min k (N - k); omega
      generalize Nat.min k (N - k) = m at *
      
      have hwr : IntKind.i64.wrap ((k : Int) + (m : Int)) = ((k + m : Nat) : Int) := by rw [IntKind.wrap_i64]; omega
      go_wp2
      go_region_held3 (fun _ => True)
        (trivial)
        (first | (fail))
      go_wp2
      go_roundw
      case rel => exact ⟨k + m, by omega, by omega, congrArg _ (by omega), hB2, below_setRow (Below.drew hbl) (Nat.le_refl _) _⟩
      case measure =>
        simp only [intOf, hwr]
        simp
        omega
    · obtain rfl : k = N := by omega
      have hB' := hB.out
      rw [Nat.sub_self, List.replicate_zero, List.append_nil] at hB'
      have HR := Lib.hid hB'.rd
      clear hB hB' hB0 hB1
      go_wp2
      go_ret
      exact ⟨_, _, by rw [List.length_replicate]; rfl, HR.out, hbl⟩
def constN (n : Int) : Nat := (min (max n 0) 4096).toNat
theorem constN_le (n : Int) : constN n ≤ 4096 := by unfold constN; omega
set_option maxHeartbeats 1000000 in
theorem constP_any (v n : Int) (w : World) : Calls Try.prog 14 #[.int .i64 v, .int .i64 n] w (NewC (List.replicate (constN n) (1, v)) w) := by
  have KP := Lib.hid (present_any v)
  have KR : Hid (∀ W b, b < W.heap.size → W.cell? ⟨b, 0, none⟩ = some (.int .i64 1) → W.cell? ⟨b, 1, none⟩ = some (.int .i64 v) → Calls Try.prog 41 #[.slice (some ⟨b, 0, none⟩) 1 1, .int .i64 (constN n : Int)] W (NewC (List.replicate (constN n) (1, v)) W)) :=
    Lib.hid fun W b hb h0 h1 => repeat_any ⟨b, 0, none⟩ (1, v) (constN n) W (constN_le n) hb h0 h1
  have hcn : constN n = (min (max n 0) 4096).toNat := rfl
  simp only [cV] at KP
  generalize constN n = N at *
  rcases (show n < 0 ∨ (0 ≤ n ∧ n ≤ 4096) ∨ 4096 < n by omega) with h | h | h
  · obtain rfl : N = 0 := by omega
    replace KR : Hid (∀ W b, b < W.heap.size → W.cell? ⟨b, 0, none⟩ = some (.int .i64 1) → W.cell? ⟨b, 1, none⟩ = some (.int .i64 v) → Calls Try.prog 41 #[.slice (some ⟨b, 0, none⟩) 1 1, .int .i64 0] W (NewC (List.replicate 0 (1, v)) W)) := KR
    clear hcn
    go_enter Try.func14, Try.ntmps14
    go_wp2_with (first
      | (go_at_call 42; (with_reducible refine (KP.out _).mono ?_); rintro e w1 ⟨rfl, hb1⟩)
      | (go_at_call 41; (with_reducible refine (KR.out _ _ ?_ ?_ ?_).mono ?_); (focus (simp)); (focus (simp [go_sem])); (focus (simp [go_sem])); rintro e w2 ⟨A', c', rfl, hR', hb2⟩))
    go_ret
    exact ⟨A', c', rfl, hR', (by repeat (first | (with_reducible exact Below.refl _ _) | (with_reducible assumption) | (with_reducible exact bel_box _) | (with_reducible refine bel_step ?_ (by with_reducible assumption)) | (with_reducible refine Below.drew ?_) | (with_reducible refine below_drewN ?_ _) | (with_reducible refine bel_alloc ?_ _)))⟩
  · obtain ⟨h1, h2⟩ := h
    obtain rfl : n = (N : Int) := by omega
    clear hcn
    go_enter Try.func14, Try.ntmps14
    go_wp2_with (first
      | (go_at_call 42; (with_reducible refine (KP.out _).mono ?_); rintro e w1 ⟨rfl, hb1⟩)
      | (go_at_call 41; (with_reducible refine (KR.out _ _ ?_ ?_ ?_).mono ?_); (focus (simp)); (focus (simp [go_sem])); (focus (simp [go_sem])); rintro e w2 ⟨A', c', rfl, hR', hb2⟩))
    go_ret
    exact ⟨A', c', by rw [List.length_replicate]; rfl, hR', (by repeat (first | (with_reducible exact Below.refl _ _) | (with_reducible assumption) | (with_reducible exact bel_box _) | (with_reducible refine bel_step ?_ (by with_reducible assumption)) | (with_reducible refine Below.drew ?_) | (with_reducible refine below_drewN ?_ _) | (with_reducible refine bel_alloc ?_ _)))⟩
  · obtain rfl : N = 4096 := by omega
    replace KR : Hid (∀ W b, b < W.heap.size → W.cell? ⟨b, 0, none⟩ = some (.int .i64 1) → W.cell? ⟨b, 1, none⟩ = some (.int .i64 v) → Calls Try.prog 41 #[.slice (some ⟨b, 0, none⟩) 1 1, .int .i64 4096] W (NewC (List.replicate 4096 (1, v)) W)) := KR
    have h5 : 0 < n := by omega
    clear hcn
    generalize List.replicate 4096 ((1, v) : Int × Int) = out at *
    go_enter Try.func14, Try.ntmps14
    go_wp2_with (first
      | (go_at_call 42; (with_reducible refine (KP.out _).mono ?_); rintro e w1 ⟨rfl, hb1⟩)
      | (go_at_call 41; (with_reducible refine (KR.out _ _ ?_ ?_ ?_).mono ?_); (focus (simp)); (focus (simp [go_sem])); (focus (simp [go_sem])); rintro e w2 ⟨A', c', rfl, hR', hb2⟩))
    go_ret
    exact ⟨A', c', rfl, hR', (by repeat (first | (with_reducible exact Below.refl _ _) | (with_reducible assumption) | (with_reducible exact bel_box _) | (with_reducible refine bel_step ?_ (by with_reducible assumption)) | (with_reducible refine Below.drew ?_) | (with_reducible refine below_drewN ?_ _) | (with_reducible refine bel_alloc ?_ _)))⟩
end Go.Proofs.Ytefmnjcllncmpaa
/- Rows of cells that a call owns; Const and Dense of the reference, Same, Dense of the program, is. -/
namespace Go.Proofs.Ytefmnjcllncmpaa
set_option linter.unusedVariables false
set_option linter.unusedSimpArgs false
open Go.RowKit
theorem own2_keep {w W : World} {base n size : Nat} {e : TypeId} {v : Value} {xs : List Value} (h : w.ownsRow base e size v n xs) (hb : Below w.heap.size w W) : W.ownsRow base e size v n xs := by
  refine ⟨h.1, h.2.imp id fun ⟨g, cap, cur, e1, h1, h2, r⟩ => ⟨g, cap, cur, e1, h1, ?_, r⟩⟩
  rw [hb.block g (Array.getElem?_eq_some_iff.1 h2).1]
  exact h2
theorem own2_form {w : World} {base n size : Nat} {e : TypeId} {v : Value} {xs : List Value} (h : w.ownsRow base e size v n xs) : ∃ A c, v = .slice A n c := by
  rcases h.2 with ⟨rfl, rfl⟩ | ⟨g, cap, cur, rfl, _⟩
  · exact ⟨_, _, rfl⟩
  · exact ⟨_, _, rfl⟩
theorem own2_below {w wr W w3 : World} {v v' : Value} {B n size : Nat} {e : TypeId} {xs : List Value} (hg : W.grownBy w3 v'.ownBlock) (hv : v' = v) (hown : wr.ownsRow B e size v n xs) (hB : B ≤ W.heap.size) (hb : Below B w W) : Below B w w3 := by
  subst hv
  exact hb.grown hg hB (fun j hj => (hown.lt j hj).1)
theorem own2_rd {w : World} {base : Nat} {A : Option Addr} {n c : Nat} {l : List (Int × Int)} (h : w.ownsRow base 46 2 (.slice A n c) n (fl l)) (hl : l.length = n) : RdC w w.heap.size A l := fun hn => by
  have hn' : 0 < n := by have := List.length_pos_iff.2 hn; omega
  obtain ⟨g, cap, hv, _, hlt⟩ := h.form hn'
  have hA : A = some ⟨g, 0, none⟩ := by injection hv
  subst hA
  refine ⟨_, rfl, hlt, fun j c hc => ?_⟩
  obtain ⟨f1, f2⟩ := fl_get l j c hc
  exact ⟨h.cells (g := g) rfl _ _ f1, h.cells (g := g) rfl _ _ f2⟩
theorem row2 (w : World) (x y : Value) (t : TypeId) : ∀ j u, [x, y][j]? = some u → (w.alloc (.cells #[x, y] t)).cell? ((⟨w.heap.size, 0, none⟩ : Addr).add j) = some u := by
  intro j u hu
  rw [add_off, cell_of_row _ _ j #[x, y] t (0, 0) (heap_alloc_new w _), ← hu]
  simp
theorem c_one (a b : Int) : ∀ u ∈ [Value.int .i64 a, Value.int .i64 b], u.oneCell' = true := by
  intro u hu
  simp at hu
  rcases hu with rfl | rfl <;> rfl
theorem cellParts : ∃ i, Try.prog.info? 46 = some i ∧ i.zero = some (.agg #[.int .i64 0, .int .i64 0]) ∧ i.size = 2 ∧ i.bytes = 16 := by
  have h : (Try.prog.info? 46).map (fun i => (i.zero, i.size, i.bytes)) = some (some (.agg #[.int .i64 0, .int .i64 0]), 2, 16) := by kernel_rfl
  obtain ⟨i, hi, hz⟩ := Option.map_eq_some_iff.1 h
  simp only [Prod.mk.injEq] at hz
  exact ⟨i, hi, hz.1, hz.2.1, hz.2.2⟩
theorem fl_snoc (l : List (Int × Int)) (a b : Int) : fl l ++ [.int .i64 a, .int .i64 b] = fl (l ++ [(a, b)]) := by simp [fl]
set_option maxHeartbeats 1000000 in
theorem rconst_any (v n : Int) (w : World) : Calls Try.prog 15 #[.int .i64 v, .int .i64 n] w (NewC (List.replicate (constN n) (1, v)) w) := by
  obtain ⟨i0, hi, iz, is, ib⟩ := cellParts
  go_enter Try.func15, Try.ntmps15
  go_wp2
  go_loopw [5, 6] (fun d i wr => ∃ k : Nat, k ≤ constN n ∧ i = .int .i64 (k : Int) ∧ wr.ownsRow w.heap.size 46 2 d k (fl (List.replicate k (1, v))) ∧ Below w.heap.size w wr) (fun _ i _ => constN n - (intOf i).toNat)
  case atStart => exact ⟨0, by omega, rfl, World.ownsRow_nil _ _ _ _, Below.refl _ _⟩
  case round =>
    obtain ⟨k, hk, rfl, hown, hbl⟩ := hrel
    have h9 := constN_le n
    have hsz := hbl.size
    have hcn : constN n = (min (max n 0) 4096).toNat := rfl
    generalize constN n = N at *
    by_cases hlt : k < N
    · have h1 : (k : Int) < n := by omega
      have h2 : (k : Int) < 4096 := by omega
      go_wp2_with (at_builtin; refine wpList_append_own_at _ rfl _ _ 26 rfl w.heap.size 46 i0 (.agg #[.int .i64 0, .int .i64 0]) 2 16 Try.underlying26 hi iz is ib rfl (by decide) _ k (fl (List.replicate k (1, v))) rfl (own2_keep hown (by repeat (first | (with_reducible exact Below.refl _ _) | (with_reducible assumption) | (with_reducible exact bel_box _) | (with_reducible refine bel_step ?_ (by with_reducible assumption)) | (with_reducible refine Below.drew ?_) | (with_reducible refine below_drewN ?_ _) | (with_reducible refine bel_alloc ?_ _)))) ⟨wr.heap.size, 0, none⟩ 1 1 [.int .i64 1, .int .i64 v] rfl rfl (row2 _ _ _ _) (c_one _ _) (by unfold maxLen; omega) (by omega) (by simp; omega) ?_; intro v3 w3 hown3 hgrow3 _ _)
      have hb3 : Below w.heap.size w w3 := own2_below hgrow3 rfl hown (by simp; omega) (by repeat (first | (with_reducible exact Below.refl _ _) | (with_reducible assumption) | (with_reducible exact bel_box _) | (with_reducible refine bel_step ?_ (by with_reducible assumption)) | (with_reducible refine Below.drew ?_) | (with_reducible refine below_drewN ?_ _) | (with_reducible refine bel_alloc ?_ _)))
      rw [fl_snoc] at hown3
      go_roundw
      case rel => exact ⟨k + 1, by omega, by go_num, by rw [List.replicate_succ']; exact hown3, hb3⟩
      case measure => simp [intOf]; omega
    · obtain rfl : k = N := by omega
      obtain ⟨V, cv, rfl⟩ := own2_form hown
      have HR := Lib.hid (own2_rd hown (by simp))
      by_cases h1 : (k : Int) < n
      · have h2 : ¬ (k : Int) < 4096 := by omega
        clear hcn
        go_wp2
        go_ret
        exact ⟨V, cv, by rw [List.length_replicate]; rfl, HR.out, hbl⟩
      · clear hcn
        go_wp2
        go_ret
        exact ⟨V, cv, by rw [List.length_replicate]; rfl, HR.out, hbl⟩
end Go.Proofs.Ytefmnjcllncmpaa
/- Arrow of the reference. -/
namespace Go.Proofs.Ytefmnjcllncmpaa
set_option linter.unusedVariables false
set_option linter.unusedSimpArgs false
open Go.RowKit
theorem Bk.four {w : World} {g : Nat} {t : TypeId} {x y : Value} (h : Bk w g t #[x, y]) : w.cell? ⟨g, 0, none⟩ = some x ∧ w.cell? ⟨g, 1, none⟩ = some y ∧ w.frozen? ⟨g, 0, none⟩ = false ∧ w.frozen? ⟨g, 1, none⟩ = false := ⟨h.cell 0, h.cell 1, h.frozen 0, h.frozen 1⟩
theorem Bk.put2 {w : World} {g : Nat} {t : TypeId} {x y : Value} (h : Bk w g t #[x, y]) (u v : Value) : Bk ((w.setCell ⟨g, 0, none⟩ u).setCell ⟨g, 1, none⟩ v) g t #[u, v] := (h.set_ 0 u).set_ 1 v
theorem Bk.go {w w' : World} {g : Nat} {t : TypeId} {cs : Array Value} (h : Bk w g t cs) (hb : Below w.heap.size w w') : Bk w' g t cs := h.below hb h.lt
theorem getD_of {l : List (Int × Int)} {t : Nat} {e : Int × Int} (h : l[t]? = some e) : l.getD t (0, 0) = e := by rw [List.getD, h]; rfl
theorem row2s (w : World) (p q : Addr) (u v x y : Value) (t : TypeId) : ∀ j z, [x, y][j]? = some z → (((w.setCell p u).setCell q v).alloc (.cells #[x, y] t)).cell? ((⟨w.heap.size, 0, none⟩ : Addr).add j) = some z := by
  have h := row2 ((w.setCell p u).setCell q v) x y t
  rw [World.size_setCell, World.size_setCell] at h
  exact h
theorem row2a (w : World) (o : Obj) (x y : Value) (t : TypeId) : ∀ j z, [x, y][j]? = some z → ((w.alloc o).alloc (.cells #[x, y] t)).cell? ((⟨w.heap.size + 1, 0, none⟩ : Addr).add j) = some z := by
  have h := row2 (w.alloc o) x y t
  rw [World.size_alloc] at h
  exact h
/-- the cells of a stream at an instant, in any later world -/
theorem RdC.inst {w : World} {A : Option Addr} {l : List (Int × Int)} {t : Nat} (h : RdC w w.heap.size A l) (ht : t < l.length) : ∃ ad e0 e1, A = some ad ∧ l[t]? = some (e0, e1) ∧ Hid (∀ W, Below w.heap.size w W → W.cell? (ad.add (t * 2)) = some (.int .i64 e0) ∧ W.cell? ⟨(ad.add (t * 2)).block, (ad.add (t * 2)).off + 1, none⟩ = some (.int .i64 e1)) := by
  obtain ⟨ad, ⟨e0, e1⟩, hA, hb, he, h1, h2⟩ := h.at_ ht
  exact ⟨ad, e0, e1, hA, he, Lib.hid fun W hW => ⟨(hW.cell (by rw [add_block]; exact hb)).trans h1, (hW.cell (p := ⟨(ad.add (t * 2)).block, (ad.add (t * 2)).off + 1, none⟩) (by rw [add_block]; exact hb)).trans h2⟩⟩
set_option maxHeartbeats 4000000 in
set_option maxRecDepth 20000 in
theorem rarrow_any (A B : Option Addr) (c d : Nat) (l m : List (Int × Int)) (w : World) (hA : RdC w w.heap.size A l) (hB : RdC w w.heap.size B m) (hl : l.length ≤ 1000000) (hm : m.length ≤ 1000000) :
    Calls Try.prog 21 #[.slice A l.length c, .slice B m.length d] w (NewC (outT arrowS false [⟨A, c, l⟩, ⟨B, d, m⟩] (tog [⟨A, c, l⟩, ⟨B, d, m⟩])) w) := by
  obtain ⟨i0, hi, iz, is, ib⟩ := cellParts
  have hLS : RdS (w.alloc (.cells #[.slice A l.length c, .slice B m.length d] 26)) (w.alloc (.cells #[.slice A l.length c, .slice B m.length d] 26)).heap.size (some ⟨w.heap.size, 0, none⟩) [⟨A, c, l⟩, ⟨B, d, m⟩] := RdS.new [⟨A, c, l⟩, ⟨B, d, m⟩] _ rfl (rl2 _ _ _ hA hB)
  have hbw0 : Below w.heap.size w (w.alloc (.cells #[.slice A l.length c, .slice B m.length d] 26)) := bel_box _
  have hA0 := hA.to hbw0
  have hB0 := hB.to hbw0
  go_enter Try.func21, Try.ntmps21
  go_wp2
  generalize w.alloc (.cells #[.slice A l.length c, .slice B m.length d] 26) = W0 at *
  generalize hls : [(⟨A, c, l⟩ : St), ⟨B, d, m⟩] = ls at *
  have hll : ls.length = 2 := by subst hls; rfl
  have hl3 : ∀ s ∈ ls, s.l.length ≤ 1000000 := by subst hls; exact rl2 _ _ _ hl hm
  have htl : tog ls ≤ l.length := by subst hls; exact tog_le (ls := [⟨A, c, l⟩, ⟨B, d, m⟩]) (s := ⟨A, c, l⟩) (by simp)
  have htm : tog ls ≤ m.length := by subst hls; exact tog_le (ls := [⟨A, c, l⟩, ⟨B, d, m⟩]) (s := ⟨B, d, m⟩) (by simp)
  have hrow : ∀ t, rowAt ls t = [pl (l.getD t (0, 0)), pl (m.getD t (0, 0))] := by subst hls; exact fun t => rfl
  have KG : Hid (∀ W, Below W0.heap.size W0 W → Calls Try.prog 37 #[.slice (some ⟨w.heap.size, 0, none⟩) 2 2] W (Bel (.int .i64 (tog ls : Nat)) W)) := Lib.hid fun W hb => by
    have := together_any (some ⟨w.heap.size, 0, none⟩) 2 ls W (hLS.to hb) (by omega) hl3
    rwa [hll] at this
  have KJ : Hid (∀ t W, t < tog ls → Below W0.heap.size W0 W → Calls Try.prog 39 #[.slice (some ⟨w.heap.size, 0, none⟩) 2 2, .int .i64 (t : Int)] W (Bel (.bool (jnt (rowAt ls t))) W)) := Lib.hid fun t W ht hb => by
    have := rjoint_any (some ⟨w.heap.size, 0, none⟩) 2 t ls W (hLS.to hb) (by omega) ht hl3
    rwa [hll] at this
  have KP := Lib.hid rplain_any
  simp only [cV] at KP
  have HW0 := Lib.hid hbw0
  clear hLS hls hA hB hbw0
  go_loopw [5, 7, 8] (fun v f i wr => ∃ t : Nat, t ≤ tog ls ∧ i = .int .i64 (t : Int) ∧ f = .bool (!(stT arrowS false ls t)) ∧ Hid (wr.ownsRow W0.heap.size 46 2 v t (fl (outT arrowS false ls t))) ∧ Below W0.heap.size W0 wr) (fun _ _ i _ => tog ls - (intOf i).toNat)
  case atStart => exact ⟨0, by omega, rfl, rfl, Lib.hid (World.ownsRow_nil _ _ _ _), Below.refl _ _⟩
  case round =>
    obtain ⟨t, htle, rfl, rfl, hown, hbl⟩ := hrel
    have hsz := hbl.size
    by_cases htn : t < tog ls
    · obtain ⟨adA, a0, a1, rfl, hea, HEA⟩ := hA0.inst (show t < l.length by omega)
      obtain ⟨adB, b0, b1, rfl, heb, HEB⟩ := hB0.inst (show t < m.length by omega)
      have HO := Lib.hid (outT_succ arrowS false ls t)
      have HS := Lib.hid (stT_succ arrowS false ls t)
      have hr := hrow t
      rw [getD_of hea, getD_of heb] at hr
      have KJt := Lib.hid (fun W hb => KJ.out t W htn hb)
      rw [hr] at HO HS KJt
      have KPA := Lib.hid (KP.out (a0, a1))
      have KPB := Lib.hid (KP.out (b0, b1))
      generalize pl (a0, a1) = pa at *
      generalize pl (b0, b1) = pb at *
      obtain ⟨u0, u1⟩ := pa
      obtain ⟨v0, v1⟩ := pb
      generalize stT arrowS false ls t = bg at *
      generalize outT arrowS false ls t = xs at *
      generalize tog ls = n at *
      simp only at KPA KPB
      simp only [arrowS] at HO HS
      generalize hj : jnt [(u0, u1), (v0, v1)] = j at *
      clear hA0 hB0 hrow hj hr KJ KP hea heb
      cases j
      · simp only [Bool.false_eq_true, if_false] at HO HS
        go_wp2_with (first
          | (go_at_call 37; (with_reducible refine (KG.out _ ?_).mono ?_); (focus ((repeat (first | (with_reducible exact Below.refl _ _) | (with_reducible assumption) | (with_reducible exact bel_box _) | (with_reducible refine bel_step ?_ (by with_reducible assumption)) | (with_reducible refine Below.drew ?_) | (with_reducible refine below_drewN ?_ _) | (with_reducible refine bel_alloc ?_ _))); done)); rintro e w1 ⟨rfl, hb1⟩; have hz1 := hb1.size)
          | (go_at_call 39; (with_reducible refine (KJt.out _ ?_).mono ?_); (focus ((repeat (first | (with_reducible exact Below.refl _ _) | (with_reducible assumption) | (with_reducible exact bel_box _) | (with_reducible refine bel_step ?_ (by with_reducible assumption)) | (with_reducible refine Below.drew ?_) | (with_reducible refine below_drewN ?_ _) | (with_reducible refine bel_alloc ?_ _))); done)); rintro e w2 ⟨rfl, hb2⟩; have hz2 := hb2.size; rw [World.size_alloc] at hz2; have B2 := (Bk.new w1 46 _).go hb2; obtain ⟨q0, q1, q2, q3⟩ := B2.four)
          | (at_builtin; refine wpList_append_own_at _ rfl _ _ 26 rfl W0.heap.size 46 i0 (.agg #[.int .i64 0, .int .i64 0]) 2 16 Try.underlying26 hi iz is ib rfl (by decide) _ t (fl xs) rfl (own2_keep hown.out ?_) ⟨_, 0, none⟩ 1 1 [.int .i64 0, .int .i64 0] rfl rfl (by first | exact row2 _ _ _ _ | exact row2s _ _ _ _ _ _ _ _ | exact row2a _ _ _ _ _) (c_one _ _) (by unfold maxLen; omega) (by omega) ?_ ?_; (focus ((repeat (first | (with_reducible exact Below.refl _ _) | (with_reducible assumption) | (with_reducible exact bel_box _) | (with_reducible refine bel_step ?_ (by with_reducible assumption)) | (with_reducible refine Below.drew ?_) | (with_reducible refine below_drewN ?_ _) | (with_reducible refine bel_alloc ?_ _) | (with_reducible refine bel_two ?_ (by omega) _ _))); done)); (focus (simp; omega)); intro v9 w9 hown9 hgrow9 _ _; have hb9 : Below W0.heap.size W0 w9 := own2_below hgrow9 rfl hown.out (by simp; omega) (by repeat (first | (with_reducible exact Below.refl _ _) | (with_reducible assumption) | (with_reducible exact bel_box _) | (with_reducible refine bel_step ?_ (by with_reducible assumption)) | (with_reducible refine Below.drew ?_) | (with_reducible refine below_drewN ?_ _) | (with_reducible refine bel_alloc ?_ _) | (with_reducible refine bel_two ?_ (by omega) _ _))); rw [fl_snoc] at hown9; have HO9 := Lib.hid hown9; clear hown9 hgrow9))
        go_roundw
        case rel => exact ⟨t + 1, by omega, by go_num, by rw [HS.out], Lib.hid (by rw [HO.out]; exact HO9.out), hb9⟩
        case measure => simp [intOf]; omega
      · cases bg
        · simp only [Bool.false_eq_true, if_false, if_true] at HO HS
          replace HO : Hid (outT arrowS false ls (t + 1) = xs ++ [(u0, u1)]) := HO
          go_wp2_with (first
            | (go_at_call 37; (with_reducible refine (KG.out _ ?_).mono ?_); (focus ((repeat (first | (with_reducible exact Below.refl _ _) | (with_reducible assumption) | (with_reducible exact bel_box _) | (with_reducible refine bel_step ?_ (by with_reducible assumption)) | (with_reducible refine Below.drew ?_) | (with_reducible refine below_drewN ?_ _) | (with_reducible refine bel_alloc ?_ _))); done)); rintro e w1 ⟨rfl, hb1⟩; have hz1 := hb1.size)
            | (go_at_call 39; (with_reducible refine (KJt.out _ ?_).mono ?_); (focus ((repeat (first | (with_reducible exact Below.refl _ _) | (with_reducible assumption) | (with_reducible exact bel_box _) | (with_reducible refine bel_step ?_ (by with_reducible assumption)) | (with_reducible refine Below.drew ?_) | (with_reducible refine below_drewN ?_ _) | (with_reducible refine bel_alloc ?_ _))); done)); rintro e w2 ⟨rfl, hb2⟩; have hz2 := hb2.size; rw [World.size_alloc] at hz2; have B2 := (Bk.new w1 46 _).go hb2; obtain ⟨q0, q1, q2, q3⟩ := B2.four; obtain ⟨cb0, cb1⟩ := HEB.out w2 (by repeat (first | (with_reducible exact Below.refl _ _) | (with_reducible assumption) | (with_reducible exact bel_box _) | (with_reducible refine bel_step ?_ (by with_reducible assumption)) | (with_reducible refine Below.drew ?_) | (with_reducible refine below_drewN ?_ _) | (with_reducible refine bel_alloc ?_ _))))
            | (go_at_call 38; (with_reducible refine (KPB.out _).mono ?_); rintro e w3 ⟨rfl, hb3⟩; have hz3 := hb3.size; (try simp only [World.size_setCell] at hz3); have B3 := B2.go hb3; clear q0 q1 q2 q3; obtain ⟨q0, q1, q2, q3⟩ := B3.four; have B3s := B3.put2 (.int .i64 v0) (.int .i64 v1); obtain ⟨s0, s1, s2, s3⟩ := B3s.four; obtain ⟨ca0, ca1⟩ := HEA.out ((w3.setCell ⟨w1.heap.size, 0, none⟩ (.int .i64 v0)).setCell ⟨w1.heap.size, 1, none⟩ (.int .i64 v1)) (by repeat (first | (with_reducible exact Below.refl _ _) | (with_reducible assumption) | (with_reducible exact bel_box _) | (with_reducible refine bel_step ?_ (by with_reducible assumption)) | (with_reducible refine Below.drew ?_) | (with_reducible refine below_drewN ?_ _) | (with_reducible refine bel_alloc ?_ _) | (with_reducible refine bel_two ?_ (by omega) _ _))))
            | (go_at_call 38; (with_reducible refine (KPA.out _).mono ?_); rintro e w4 ⟨rfl, hb4⟩; have hz4 := hb4.size; (try simp only [World.size_setCell] at hz4); have B4 := B3s.go hb4; clear q0 q1 q2 q3 s0 s1 s2 s3; obtain ⟨q0, q1, q2, q3⟩ := B4.four; have B4s := B4.put2 (.int .i64 u0) (.int .i64 u1); obtain ⟨s0, s1, s2, s3⟩ := B4s.four)
            | (at_builtin; refine wpList_append_own_at _ rfl _ _ 26 rfl W0.heap.size 46 i0 (.agg #[.int .i64 0, .int .i64 0]) 2 16 Try.underlying26 hi iz is ib rfl (by decide) _ t (fl xs) rfl (own2_keep hown.out ?_) ⟨_, 0, none⟩ 1 1 [.int .i64 u0, .int .i64 u1] rfl rfl (by first | exact row2 _ _ _ _ | exact row2s _ _ _ _ _ _ _ _ | exact row2a _ _ _ _ _) (c_one _ _) (by unfold maxLen; omega) (by omega) ?_ ?_; (focus ((repeat (first | (with_reducible exact Below.refl _ _) | (with_reducible assumption) | (with_reducible exact bel_box _) | (with_reducible refine bel_step ?_ (by with_reducible assumption)) | (with_reducible refine Below.drew ?_) | (with_reducible refine below_drewN ?_ _) | (with_reducible refine bel_alloc ?_ _) | (with_reducible refine bel_two ?_ (by omega) _ _))); done)); (focus (simp; omega)); intro v9 w9 hown9 hgrow9 _ _; have hb9 : Below W0.heap.size W0 w9 := own2_below hgrow9 rfl hown.out (by simp; omega) (by repeat (first | (with_reducible exact Below.refl _ _) | (with_reducible assumption) | (with_reducible exact bel_box _) | (with_reducible refine bel_step ?_ (by with_reducible assumption)) | (with_reducible refine Below.drew ?_) | (with_reducible refine below_drewN ?_ _) | (with_reducible refine bel_alloc ?_ _) | (with_reducible refine bel_two ?_ (by omega) _ _))); rw [fl_snoc] at hown9; have HO9 := Lib.hid hown9; clear hown9 hgrow9))
          go_roundw
          case rel => exact ⟨t + 1, by omega, by go_num, by rw [HS.out]; rfl, Lib.hid (by rw [HO.out]; exact HO9.out), hb9⟩
          case measure => simp [intOf]; omega
        · simp only [if_true] at HO HS
          replace HO : Hid (outT arrowS false ls (t + 1) = xs ++ [(v0, v1)]) := HO
          go_wp2_with (first
            | (go_at_call 37; (with_reducible refine (KG.out _ ?_).mono ?_); (focus ((repeat (first | (with_reducible exact Below.refl _ _) | (with_reducible assumption) | (with_reducible exact bel_box _) | (with_reducible refine bel_step ?_ (by with_reducible assumption)) | (with_reducible refine Below.drew ?_) | (with_reducible refine below_drewN ?_ _) | (with_reducible refine bel_alloc ?_ _))); done)); rintro e w1 ⟨rfl, hb1⟩; have hz1 := hb1.size)
            | (go_at_call 39; (with_reducible refine (KJt.out _ ?_).mono ?_); (focus ((repeat (first | (with_reducible exact Below.refl _ _) | (with_reducible assumption) | (with_reducible exact bel_box _) | (with_reducible refine bel_step ?_ (by with_reducible assumption)) | (with_reducible refine Below.drew ?_) | (with_reducible refine below_drewN ?_ _) | (with_reducible refine bel_alloc ?_ _))); done)); rintro e w2 ⟨rfl, hb2⟩; have hz2 := hb2.size; rw [World.size_alloc] at hz2; have B2 := (Bk.new w1 46 _).go hb2; obtain ⟨q0, q1, q2, q3⟩ := B2.four; obtain ⟨cb0, cb1⟩ := HEB.out w2 (by repeat (first | (with_reducible exact Below.refl _ _) | (with_reducible assumption) | (with_reducible exact bel_box _) | (with_reducible refine bel_step ?_ (by with_reducible assumption)) | (with_reducible refine Below.drew ?_) | (with_reducible refine below_drewN ?_ _) | (with_reducible refine bel_alloc ?_ _))))
            | (go_at_call 38; (with_reducible refine (KPB.out _).mono ?_); rintro e w3 ⟨rfl, hb3⟩; have hz3 := hb3.size; (try simp only [World.size_setCell] at hz3); have B3 := B2.go hb3; clear q0 q1 q2 q3; obtain ⟨q0, q1, q2, q3⟩ := B3.four; have B3s := B3.put2 (.int .i64 v0) (.int .i64 v1); obtain ⟨s0, s1, s2, s3⟩ := B3s.four; obtain ⟨ca0, ca1⟩ := HEA.out ((w3.setCell ⟨w1.heap.size, 0, none⟩ (.int .i64 v0)).setCell ⟨w1.heap.size, 1, none⟩ (.int .i64 v1)) (by repeat (first | (with_reducible exact Below.refl _ _) | (with_reducible assumption) | (with_reducible exact bel_box _) | (with_reducible refine bel_step ?_ (by with_reducible assumption)) | (with_reducible refine Below.drew ?_) | (with_reducible refine below_drewN ?_ _) | (with_reducible refine bel_alloc ?_ _) | (with_reducible refine bel_two ?_ (by omega) _ _))))
            | (at_builtin; refine wpList_append_own_at _ rfl _ _ 26 rfl W0.heap.size 46 i0 (.agg #[.int .i64 0, .int .i64 0]) 2 16 Try.underlying26 hi iz is ib rfl (by decide) _ t (fl xs) rfl (own2_keep hown.out ?_) ⟨_, 0, none⟩ 1 1 [.int .i64 v0, .int .i64 v1] rfl rfl (by first | exact row2 _ _ _ _ | exact row2s _ _ _ _ _ _ _ _ | exact row2a _ _ _ _ _) (c_one _ _) (by unfold maxLen; omega) (by omega) ?_ ?_; (focus ((repeat (first | (with_reducible exact Below.refl _ _) | (with_reducible assumption) | (with_reducible exact bel_box _) | (with_reducible refine bel_step ?_ (by with_reducible assumption)) | (with_reducible refine Below.drew ?_) | (with_reducible refine below_drewN ?_ _) | (with_reducible refine bel_alloc ?_ _) | (with_reducible refine bel_two ?_ (by omega) _ _))); done)); (focus (simp; omega)); intro v9 w9 hown9 hgrow9 _ _; have hb9 : Below W0.heap.size W0 w9 := own2_below hgrow9 rfl hown.out (by simp; omega) (by repeat (first | (with_reducible exact Below.refl _ _) | (with_reducible assumption) | (with_reducible exact bel_box _) | (with_reducible refine bel_step ?_ (by with_reducible assumption)) | (with_reducible refine Below.drew ?_) | (with_reducible refine below_drewN ?_ _) | (with_reducible refine bel_alloc ?_ _) | (with_reducible refine bel_two ?_ (by omega) _ _))); rw [fl_snoc] at hown9; have HO9 := Lib.hid hown9; clear hown9 hgrow9))
          go_roundw
          case rel => exact ⟨t + 1, by omega, by go_num, by rw [HS.out]; rfl, Lib.hid (by rw [HO.out]; exact HO9.out), hb9⟩
          case measure => simp [intOf]; omega
    · obtain rfl : t = tog ls := by omega
      obtain ⟨V, cv, rfl⟩ := own2_form hown.out
      have HR := Lib.hid (own2_rd hown.out (outT_length _ _ _ _))
      have HL := Lib.hid (outT_length arrowS false ls (tog ls))
      generalize outT arrowS false ls (tog ls) = xs at *
      generalize tog ls = n at *
      clear hown hrow KJ
      have HB := Lib.hid (HW0.out.trans (hbl.mono HW0.out.size))
      go_wp2_with (go_at_call 37; (with_reducible refine (KG.out _ ?_).mono ?_); (focus ((repeat (first | (with_reducible exact Below.refl _ _) | (with_reducible assumption) | (with_reducible exact bel_box _) | (with_reducible refine bel_step ?_ (by with_reducible assumption)) | (with_reducible refine Below.drew ?_) | (with_reducible refine below_drewN ?_ _) | (with_reducible refine bel_alloc ?_ _))); done)); rintro e w1 ⟨rfl, hb1⟩; have hz1 := hb1.size)
      go_ret
      exact ⟨V, cv, by rw [HL.out]; rfl, HR.out.to (by repeat (first | (with_reducible exact Below.refl _ _) | (with_reducible assumption) | (with_reducible exact bel_box _) | (with_reducible refine bel_step ?_ (by with_reducible assumption)) | (with_reducible refine Below.drew ?_) | (with_reducible refine below_drewN ?_ _) | (with_reducible refine bel_alloc ?_ _))), HB.out.trans (hb1.mono HB.out.size)⟩
end Go.Proofs.Ytefmnjcllncmpaa
/- Fby of the reference. -/
namespace Go.Proofs.Ytefmnjcllncmpaa
set_option linter.unusedVariables false
set_option linter.unusedSimpArgs false
open Go.RowKit
theorem fbyS_no {s : Int × Int} {r : List (Int × Int)} (h : jnt r = false) : fbyS s r = (s, (0, 0)) := by unfold fbyS; rw [h]; rfl
theorem fbyS_a {s : Int × Int} {r : List (Int × Int)} (h : jnt r = true) (ht : thB s = false) : fbyS s r = (r.getD 1 (0, 0), r.getD 0 (0, 0)) := by unfold fbyS; rw [h, ht]; rfl
theorem fbyS_b {s : Int × Int} {r : List (Int × Int)} (h : jnt r = true) (ht : thB s = true) : fbyS s r = (r.getD 1 (0, 0), s) := by unfold fbyS; rw [h, ht]; rfl
set_option maxHeartbeats 4000000 in
set_option maxRecDepth 20000 in
theorem rfby_any (A B : Option Addr) (c d : Nat) (l m : List (Int × Int)) (w : World) (hA : RdC w w.heap.size A l) (hB : RdC w w.heap.size B m) (hl : l.length ≤ 1000000) (hm : m.length ≤ 1000000) :
    Calls Try.prog 23 #[.slice A l.length c, .slice B m.length d] w (NewC (outT fbyS (0, 0) [⟨A, c, l⟩, ⟨B, d, m⟩] (tog [⟨A, c, l⟩, ⟨B, d, m⟩])) w) := by
  obtain ⟨i0, hi, iz, is, ib⟩ := cellParts
  have hLS : RdS (w.alloc (.cells #[.slice A l.length c, .slice B m.length d] 26)) (w.alloc (.cells #[.slice A l.length c, .slice B m.length d] 26)).heap.size (some ⟨w.heap.size, 0, none⟩) [⟨A, c, l⟩, ⟨B, d, m⟩] := RdS.new [⟨A, c, l⟩, ⟨B, d, m⟩] _ rfl (rl2 _ _ _ hA hB)
  have hbw0 : Below w.heap.size w (w.alloc (.cells #[.slice A l.length c, .slice B m.length d] 26)) := bel_box _
  have hA0 := hA.to hbw0
  have hB0 := hB.to hbw0
  go_enter Try.func23, Try.ntmps23
  go_wp2
  generalize w.alloc (.cells #[.slice A l.length c, .slice B m.length d] 26) = W0 at *
  generalize hls : [(⟨A, c, l⟩ : St), ⟨B, d, m⟩] = ls at *
  have hll : ls.length = 2 := by subst hls; rfl
  have hl3 : ∀ s ∈ ls, s.l.length ≤ 1000000 := by subst hls; exact rl2 _ _ _ hl hm
  have htl : tog ls ≤ l.length := by subst hls; exact tog_le (ls := [⟨A, c, l⟩, ⟨B, d, m⟩]) (s := ⟨A, c, l⟩) (by simp)
  have htm : tog ls ≤ m.length := by subst hls; exact tog_le (ls := [⟨A, c, l⟩, ⟨B, d, m⟩]) (s := ⟨B, d, m⟩) (by simp)
  have hrow : ∀ t, rowAt ls t = [pl (l.getD t (0, 0)), pl (m.getD t (0, 0))] := by subst hls; exact fun t => rfl
  have KG : Hid (∀ W, Below W0.heap.size W0 W → Calls Try.prog 37 #[.slice (some ⟨w.heap.size, 0, none⟩) 2 2] W (Bel (.int .i64 (tog ls : Nat)) W)) := Lib.hid fun W hb => by
    have := together_any (some ⟨w.heap.size, 0, none⟩) 2 ls W (hLS.to hb) (by omega) hl3
    rwa [hll] at this
  have KJ : Hid (∀ t W, t < tog ls → Below W0.heap.size W0 W → Calls Try.prog 39 #[.slice (some ⟨w.heap.size, 0, none⟩) 2 2, .int .i64 (t : Int)] W (Bel (.bool (jnt (rowAt ls t))) W)) := Lib.hid fun t W ht hb => by
    have := rjoint_any (some ⟨w.heap.size, 0, none⟩) 2 t ls W (hLS.to hb) (by omega) ht hl3
    rwa [hll] at this
  have KP := Lib.hid rplain_any
  simp only [cV] at KP
  have HW0 := Lib.hid hbw0
  clear hLS hls hA hB hbw0
  go_loopw [5, 7, 8] (fun v f i wr => ∃ (t : Nat) (q : Int), t ≤ tog ls ∧ i = .int .i64 (t : Int) ∧ f = .int .i64 q ∧ Hid ((q = -1 ∧ stT fbyS (0, 0) ls t = (0, 0)) ∨ ∃ k : Nat, k < t ∧ q = (k : Int) ∧ stT fbyS (0, 0) ls t = pl (m.getD k (0, 0)) ∧ thB (m.getD k (0, 0)) = true) ∧ Hid (wr.ownsRow W0.heap.size 46 2 v t (fl (outT fbyS (0, 0) ls t))) ∧ Below W0.heap.size W0 wr) (fun _ _ i _ => tog ls - (intOf i).toNat)
  case atStart => exact ⟨0, -1, by omega, rfl, rfl, Lib.hid (.inl ⟨rfl, rfl⟩), Lib.hid (World.ownsRow_nil _ _ _ _), Below.refl _ _⟩
  case round =>
    obtain ⟨t, q, htle, rfl, rfl, hq, hown, hbl⟩ := hrel
    have hsz := hbl.size
    by_cases htn : t < tog ls
    · obtain ⟨adA, a0, a1, rfl, hea, HEA⟩ := hA0.inst (show t < l.length by omega)
      obtain ⟨eB, heB⟩ : ∃ e, m[t]? = some e := ⟨m[t]'(by omega), List.getElem?_eq_getElem _⟩
      have HO := Lib.hid (outT_succ fbyS (0, 0) ls t)
      have HS := Lib.hid (stT_succ fbyS (0, 0) ls t)
      have hr := hrow t
      rw [getD_of hea, getD_of heB] at hr
      have KJt := Lib.hid (fun W hb => KJ.out t W htn hb)
      rw [hr] at HO HS KJt
      have KPA := Lib.hid (KP.out (a0, a1))
      have hgm := getD_of heB
      have hjt : jnt [pl (a0, a1), pl eB] = true → thB eB = true := fun h => by
        have := jnt_false (l := [pl (a0, a1), pl eB]) (k := 1) (c := pl eB) rfl
        rw [thB_pl] at this
        cases h' : thB eB
        · rw [this h'] at h; cases h
        · rfl
      generalize pl (a0, a1) = pa at *
      obtain ⟨u0, u1⟩ := pa
      simp only at KPA
      generalize hpb : pl eB = pb at *
      have HN : Hid (∀ j, jnt [(u0, u1), pb] = j → j = true → ∃ k : Nat, k < t + 1 ∧ (t : Int) = (k : Int) ∧ pb = pl (m.getD k (0, 0)) ∧ thB (m.getD k (0, 0)) = true) := Lib.hid fun j h1 h2 => ⟨t, by omega, rfl, by rw [hgm]; exact hpb.symm, by rw [hgm]; exact hjt (h1.trans h2)⟩
      cases hj : jnt [(u0, u1), pb]
      · rw [hj] at KJt
        have hsp : fbyS (stT fbyS (0, 0) ls t) [(u0, u1), pb] = (stT fbyS (0, 0) ls t, (0, 0)) := fbyS_no hj
        rw [hsp] at HO HS
        have HQ : Hid ((q = -1 ∧ stT fbyS (0, 0) ls (t + 1) = (0, 0)) ∨ ∃ k : Nat, k < t + 1 ∧ q = (k : Int) ∧ stT fbyS (0, 0) ls (t + 1) = pl (m.getD k (0, 0)) ∧ thB (m.getD k (0, 0)) = true) := Lib.hid (by
          rw [HS.out]
          rcases hq.out with h | ⟨k, h1, h2⟩
          · exact .inl h
          · exact .inr ⟨k, by omega, h2⟩)
        generalize outT fbyS (0, 0) ls t = xs at *
        generalize tog ls = n at *
        clear hA0 hB0 hrow hr KJ KP hea heB hjt hj hq HN hsp hgm hpb
        go_wp2_with (first
          | (go_at_call 37; (with_reducible refine (KG.out _ ?_).mono ?_); (focus ((repeat (first | (with_reducible exact Below.refl _ _) | (with_reducible assumption) | (with_reducible exact bel_box _) | (with_reducible refine bel_step ?_ (by with_reducible assumption)) | (with_reducible refine Below.drew ?_) | (with_reducible refine below_drewN ?_ _) | (with_reducible refine bel_alloc ?_ _))); done)); rintro e w1 ⟨rfl, hb1⟩; have hz1 := hb1.size)
          | (go_at_call 39; (with_reducible refine (KJt.out _ ?_).mono ?_); (focus ((repeat (first | (with_reducible exact Below.refl _ _) | (with_reducible assumption) | (with_reducible exact bel_box _) | (with_reducible refine bel_step ?_ (by with_reducible assumption)) | (with_reducible refine Below.drew ?_) | (with_reducible refine below_drewN ?_ _) | (with_reducible refine bel_alloc ?_ _))); done)); rintro e w2 ⟨rfl, hb2⟩; have hz2 := hb2.size; rw [World.size_alloc] at hz2; have B2 := (Bk.new w1 46 _).go hb2; obtain ⟨q0, q1, q2, q3⟩ := B2.four)
          | (at_builtin; refine wpList_append_own_at _ rfl _ _ 26 rfl W0.heap.size 46 i0 (.agg #[.int .i64 0, .int .i64 0]) 2 16 Try.underlying26 hi iz is ib rfl (by decide) _ t (fl xs) rfl (own2_keep hown.out ?_) ⟨_, 0, none⟩ 1 1 [.int .i64 0, .int .i64 0] rfl rfl (by first | exact row2 _ _ _ _ | exact row2s _ _ _ _ _ _ _ _ | exact row2a _ _ _ _ _) (c_one _ _) (by unfold maxLen; omega) (by omega) ?_ ?_; (focus ((repeat (first | (with_reducible exact Below.refl _ _) | (with_reducible assumption) | (with_reducible exact bel_box _) | (with_reducible refine bel_step ?_ (by with_reducible assumption)) | (with_reducible refine Below.drew ?_) | (with_reducible refine below_drewN ?_ _) | (with_reducible refine bel_alloc ?_ _) | (with_reducible refine bel_two ?_ (by omega) _ _))); done)); (focus (simp; omega)); intro v9 w9 hown9 hgrow9 _ _; have hb9 : Below W0.heap.size W0 w9 := own2_below hgrow9 rfl hown.out (by simp; omega) (by repeat (first | (with_reducible exact Below.refl _ _) | (with_reducible assumption) | (with_reducible exact bel_box _) | (with_reducible refine bel_step ?_ (by with_reducible assumption)) | (with_reducible refine Below.drew ?_) | (with_reducible refine below_drewN ?_ _) | (with_reducible refine bel_alloc ?_ _) | (with_reducible refine bel_two ?_ (by omega) _ _))); rw [fl_snoc] at hown9; have HO9 := Lib.hid hown9; clear hown9 hgrow9))
        go_roundw
        case rel => exact ⟨t + 1, q, by omega, by go_num, rfl, HQ, Lib.hid (by rw [HO.out]; exact HO9.out), hb9⟩
        case measure => simp [intOf]; omega
      · rw [hj] at KJt
        have HN' := HN.out _ hj rfl
        rcases hq.out with ⟨rfl, hst⟩ | ⟨k, hk, rfl, hst, hth⟩
        · have hsp : fbyS (stT fbyS (0, 0) ls t) [(u0, u1), pb] = (pb, (u0, u1)) := fbyS_a hj (by rw [hst]; rfl)
          rw [hsp] at HO HS
          have HQ : Hid ((((t : Nat) : Int) = -1 ∧ stT fbyS (0, 0) ls (t + 1) = (0, 0)) ∨ ∃ k : Nat, k < t + 1 ∧ (t : Int) = (k : Int) ∧ stT fbyS (0, 0) ls (t + 1) = pl (m.getD k (0, 0)) ∧ thB (m.getD k (0, 0)) = true) := Lib.hid (by rw [HS.out]; exact .inr HN')
          generalize outT fbyS (0, 0) ls t = xs at *
          generalize tog ls = n at *
          clear hA0 hB0 hrow hr KJ KP hea heB hjt hj hq HN HN' hsp hst hgm hpb
          go_wp2_with (first
            | (go_at_call 37; (with_reducible refine (KG.out _ ?_).mono ?_); (focus ((repeat (first | (with_reducible exact Below.refl _ _) | (with_reducible assumption) | (with_reducible exact bel_box _) | (with_reducible refine bel_step ?_ (by with_reducible assumption)) | (with_reducible refine Below.drew ?_) | (with_reducible refine below_drewN ?_ _) | (with_reducible refine bel_alloc ?_ _))); done)); rintro e w1 ⟨rfl, hb1⟩; have hz1 := hb1.size)
            | (go_at_call 39; (with_reducible refine (KJt.out _ ?_).mono ?_); (focus ((repeat (first | (with_reducible exact Below.refl _ _) | (with_reducible assumption) | (with_reducible exact bel_box _) | (with_reducible refine bel_step ?_ (by with_reducible assumption)) | (with_reducible refine Below.drew ?_) | (with_reducible refine below_drewN ?_ _) | (with_reducible refine bel_alloc ?_ _))); done)); rintro e w2 ⟨rfl, hb2⟩; have hz2 := hb2.size; rw [World.size_alloc] at hz2; have B2 := (Bk.new w1 46 _).go hb2; obtain ⟨q0, q1, q2, q3⟩ := B2.four; obtain ⟨ca0, ca1⟩ := HEA.out w2 (by repeat (first | (with_reducible exact Below.refl _ _) | (with_reducible assumption) | (with_reducible exact bel_box _) | (with_reducible refine bel_step ?_ (by with_reducible assumption)) | (with_reducible refine Below.drew ?_) | (with_reducible refine below_drewN ?_ _) | (with_reducible refine bel_alloc ?_ _))))
            | (go_at_call 38; (with_reducible refine (KPA.out _).mono ?_); rintro e w3 ⟨rfl, hb3⟩; have hz3 := hb3.size; (try simp only [World.size_setCell] at hz3); have B3 := B2.go hb3; clear q0 q1 q2 q3; obtain ⟨q0, q1, q2, q3⟩ := B3.four; have B3s := B3.put2 (.int .i64 u0) (.int .i64 u1); obtain ⟨s0, s1, s2, s3⟩ := B3s.four)
            | (at_builtin; refine wpList_append_own_at _ rfl _ _ 26 rfl W0.heap.size 46 i0 (.agg #[.int .i64 0, .int .i64 0]) 2 16 Try.underlying26 hi iz is ib rfl (by decide) _ t (fl xs) rfl (own2_keep hown.out ?_) ⟨_, 0, none⟩ 1 1 [.int .i64 u0, .int .i64 u1] rfl rfl (by first | exact row2 _ _ _ _ | exact row2s _ _ _ _ _ _ _ _ | exact row2a _ _ _ _ _) (c_one _ _) (by unfold maxLen; omega) (by omega) ?_ ?_; (focus ((repeat (first | (with_reducible exact Below.refl _ _) | (with_reducible assumption) | (with_reducible exact bel_box _) | (with_reducible refine bel_step ?_ (by with_reducible assumption)) | (with_reducible refine Below.drew ?_) | (with_reducible refine below_drewN ?_ _) | (with_reducible refine bel_alloc ?_ _) | (with_reducible refine bel_two ?_ (by omega) _ _))); done)); (focus (simp; omega)); intro v9 w9 hown9 hgrow9 _ _; have hb9 : Below W0.heap.size W0 w9 := own2_below hgrow9 rfl hown.out (by simp; omega) (by repeat (first | (with_reducible exact Below.refl _ _) | (with_reducible assumption) | (with_reducible exact bel_box _) | (with_reducible refine bel_step ?_ (by with_reducible assumption)) | (with_reducible refine Below.drew ?_) | (with_reducible refine below_drewN ?_ _) | (with_reducible refine bel_alloc ?_ _) | (with_reducible refine bel_two ?_ (by omega) _ _))); rw [fl_snoc] at hown9; have HO9 := Lib.hid hown9; clear hown9 hgrow9))
          go_roundw
          case rel => exact ⟨t + 1, (t : Int), by omega, by go_num, rfl, HQ, Lib.hid (by rw [HO.out]; exact HO9.out), hb9⟩
          case measure => simp [intOf]; omega
        · obtain ⟨adB, b0, b1, rfl, heb, HEB⟩ := hB0.inst (show k < m.length by omega)
          have KPB := Lib.hid (KP.out (b0, b1))
          rw [getD_of heb] at hst hth
          have hth' : thB (stT fbyS (0, 0) ls t) = true := by rw [hst, thB_pl]; exact hth
          have hsp : fbyS (stT fbyS (0, 0) ls t) [(u0, u1), pb] = (pb, stT fbyS (0, 0) ls t) := fbyS_b hj hth'
          rw [hsp, hst] at HO
          rw [hsp] at HS
          have HQ : Hid ((((t : Nat) : Int) = -1 ∧ stT fbyS (0, 0) ls (t + 1) = (0, 0)) ∨ ∃ k : Nat, k < t + 1 ∧ (t : Int) = (k : Int) ∧ stT fbyS (0, 0) ls (t + 1) = pl (m.getD k (0, 0)) ∧ thB (m.getD k (0, 0)) = true) := Lib.hid (by rw [HS.out]; exact .inr HN')
          have hkm : k < m.length := by omega
          generalize pl (b0, b1) = pbk at *
          obtain ⟨v0, v1⟩ := pbk
          simp only at KPB
          generalize outT fbyS (0, 0) ls t = xs at *
          generalize tog ls = n at *
          clear hA0 hB0 hrow hr KJ KP hea heB hjt hj hq HN HN' hsp hst hth hth' hgm hpb heb
          go_wp2_with (first
            | (go_at_call 37; (with_reducible refine (KG.out _ ?_).mono ?_); (focus ((repeat (first | (with_reducible exact Below.refl _ _) | (with_reducible assumption) | (with_reducible exact bel_box _) | (with_reducible refine bel_step ?_ (by with_reducible assumption)) | (with_reducible refine Below.drew ?_) | (with_reducible refine below_drewN ?_ _) | (with_reducible refine bel_alloc ?_ _))); done)); rintro e w1 ⟨rfl, hb1⟩; have hz1 := hb1.size)
            | (go_at_call 39; (with_reducible refine (KJt.out _ ?_).mono ?_); (focus ((repeat (first | (with_reducible exact Below.refl _ _) | (with_reducible assumption) | (with_reducible exact bel_box _) | (with_reducible refine bel_step ?_ (by with_reducible assumption)) | (with_reducible refine Below.drew ?_) | (with_reducible refine below_drewN ?_ _) | (with_reducible refine bel_alloc ?_ _))); done)); rintro e w2 ⟨rfl, hb2⟩; have hz2 := hb2.size; rw [World.size_alloc] at hz2; have B2 := (Bk.new w1 46 _).go hb2; obtain ⟨q0, q1, q2, q3⟩ := B2.four; obtain ⟨cb0, cb1⟩ := HEB.out w2 (by repeat (first | (with_reducible exact Below.refl _ _) | (with_reducible assumption) | (with_reducible exact bel_box _) | (with_reducible refine bel_step ?_ (by with_reducible assumption)) | (with_reducible refine Below.drew ?_) | (with_reducible refine below_drewN ?_ _) | (with_reducible refine bel_alloc ?_ _))))
            | (go_at_call 38; (with_reducible refine (KPB.out _).mono ?_); rintro e w3 ⟨rfl, hb3⟩; have hz3 := hb3.size; (try simp only [World.size_setCell] at hz3); have B3 := B2.go hb3; clear q0 q1 q2 q3; obtain ⟨q0, q1, q2, q3⟩ := B3.four; have B3s := B3.put2 (.int .i64 v0) (.int .i64 v1); obtain ⟨s0, s1, s2, s3⟩ := B3s.four)
            | (at_builtin; refine wpList_append_own_at _ rfl _ _ 26 rfl W0.heap.size 46 i0 (.agg #[.int .i64 0, .int .i64 0]) 2 16 Try.underlying26 hi iz is ib rfl (by decide) _ t (fl xs) rfl (own2_keep hown.out ?_) ⟨_, 0, none⟩ 1 1 [.int .i64 v0, .int .i64 v1] rfl rfl (by first | exact row2 _ _ _ _ | exact row2s _ _ _ _ _ _ _ _ | exact row2a _ _ _ _ _) (c_one _ _) (by unfold maxLen; omega) (by omega) ?_ ?_; (focus ((repeat (first | (with_reducible exact Below.refl _ _) | (with_reducible assumption) | (with_reducible exact bel_box _) | (with_reducible refine bel_step ?_ (by with_reducible assumption)) | (with_reducible refine Below.drew ?_) | (with_reducible refine below_drewN ?_ _) | (with_reducible refine bel_alloc ?_ _) | (with_reducible refine bel_two ?_ (by omega) _ _))); done)); (focus (simp; omega)); intro v9 w9 hown9 hgrow9 _ _; have hb9 : Below W0.heap.size W0 w9 := own2_below hgrow9 rfl hown.out (by simp; omega) (by repeat (first | (with_reducible exact Below.refl _ _) | (with_reducible assumption) | (with_reducible exact bel_box _) | (with_reducible refine bel_step ?_ (by with_reducible assumption)) | (with_reducible refine Below.drew ?_) | (with_reducible refine below_drewN ?_ _) | (with_reducible refine bel_alloc ?_ _) | (with_reducible refine bel_two ?_ (by omega) _ _))); rw [fl_snoc] at hown9; have HO9 := Lib.hid hown9; clear hown9 hgrow9))
          go_roundw
          case rel => exact ⟨t + 1, (t : Int), by omega, by go_num, rfl, HQ, Lib.hid (by rw [HO.out]; exact HO9.out), hb9⟩
          case measure => simp [intOf]; omega
    · obtain rfl : t = tog ls := by omega
      clear hq
      obtain ⟨V, cv, rfl⟩ := own2_form hown.out
      have HR := Lib.hid (own2_rd hown.out (outT_length _ _ _ _))
      have HL := Lib.hid (outT_length fbyS (0, 0) ls (tog ls))
      generalize outT fbyS (0, 0) ls (tog ls) = xs at *
      generalize tog ls = n at *
      clear hown hrow KJ
      have HB := Lib.hid (HW0.out.trans (hbl.mono HW0.out.size))
      go_wp2_with (go_at_call 37; (with_reducible refine (KG.out _ ?_).mono ?_); (focus ((repeat (first | (with_reducible exact Below.refl _ _) | (with_reducible assumption) | (with_reducible exact bel_box _) | (with_reducible refine bel_step ?_ (by with_reducible assumption)) | (with_reducible refine Below.drew ?_) | (with_reducible refine below_drewN ?_ _) | (with_reducible refine bel_alloc ?_ _))); done)); rintro e w1 ⟨rfl, hb1⟩; have hz1 := hb1.size)
      go_ret
      exact ⟨V, cv, by rw [HL.out]; rfl, HR.out.to (by repeat (first | (with_reducible exact Below.refl _ _) | (with_reducible assumption) | (with_reducible exact bel_box _) | (with_reducible refine bel_step ?_ (by with_reducible assumption)) | (with_reducible refine Below.drew ?_) | (with_reducible refine below_drewN ?_ _) | (with_reducible refine bel_alloc ?_ _))), HB.out.trans (hb1.mono HB.out.size)⟩
end Go.Proofs.Ytefmnjcllncmpaa
/- Pre of the reference. -/
namespace Go.Proofs.Ytefmnjcllncmpaa
set_option linter.unusedVariables false
set_option linter.unusedSimpArgs false
open Go.RowKit
theorem jnt1 (c : Int × Int) : jnt [pl c] = thB c := by simp [jnt, thB_pl]
theorem pre_st (s : St) (k : Nat) : stT preS (2, 0) [s] (k + 1) = if thB (s.l.getD k (0, 0)) then pl (s.l.getD k (0, 0)) else stT preS (2, 0) [s] k := by
  rw [stT_succ]
  show (preS _ [pl (s.l.getD k (0, 0))]).1 = _
  generalize s.l.getD k (0, 0) = c
  generalize stT preS (2, 0) [s] k = st
  unfold preS
  rw [jnt1]
  cases thB c <;> rfl
theorem pre_out (s : St) (k : Nat) : outT preS (2, 0) [s] (k + 1) = outT preS (2, 0) [s] k ++ [if thB (s.l.getD k (0, 0)) then stT preS (2, 0) [s] k else (0, 0)] := by
  rw [outT_succ]
  show _ ++ [(preS _ [pl (s.l.getD k (0, 0))]).2] = _
  generalize s.l.getD k (0, 0) = c
  generalize stT preS (2, 0) [s] k = st
  unfold preS
  rw [jnt1]
  cases thB c <;> rfl
set_option maxHeartbeats 4000000 in
set_option maxRecDepth 20000 in
theorem rpre_any (A : Option Addr) (c : Nat) (l : List (Int × Int)) (W0 : World) (hA : RdC W0 W0.heap.size A l) (hl : l.length ≤ 1000000) :
    Calls Try.prog 19 #[.slice A l.length c] W0 (NewC (outT preS (2, 0) [⟨A, c, l⟩] (tog [⟨A, c, l⟩])) W0) := by
  obtain ⟨i0, hi, iz, is, ib⟩ := cellParts
  rw [tog1]
  have HPS := Lib.hid (pre_st ⟨A, c, l⟩)
  have HPO := Lib.hid (pre_out ⟨A, c, l⟩)
  simp only at HPS HPO
  generalize [(⟨A, c, l⟩ : St)] = ls at *
  have KP := Lib.hid rplain_any
  have KT := Lib.hid rthere_any
  simp only [cV] at KP KT
  go_enter Try.func19, Try.ntmps19
  go_wp2
  go_loopw [3, 4] (fun v i wr => ∃ t : Nat, t ≤ l.length ∧ i = .int .i64 (t : Int) ∧ Hid (wr.ownsRow W0.heap.size 46 2 v t (fl (outT preS (2, 0) ls t))) ∧ Below W0.heap.size W0 wr) (fun _ i _ => l.length - (intOf i).toNat)
  case atStart => exact ⟨0, by omega, rfl, Lib.hid (World.ownsRow_nil _ _ _ _), Below.refl _ _⟩
  case round =>
    obtain ⟨t, htle, rfl, hown, hbl⟩ := hrel
    have hsz := hbl.size
    by_cases htn : t < l.length
    · obtain ⟨adA, a0, a1, rfl, hea, HEA⟩ := hA.inst htn
      have HO := Lib.hid (HPO.out t)
      rw [getD_of hea] at HO
      have KTA := Lib.hid (KT.out (a0, a1))
      have HST : Hid (∃ z, stT preS (2, 0) ls t = z) := Lib.hid ⟨_, rfl⟩
      generalize hxs : outT preS (2, 0) ls t = xs at *
      cases hth : thB (a0, a1)
      · rw [hth] at KTA HO
        clear hth HPS HPO HST hxs
        obtain ⟨ca0, ca1⟩ := HEA.out (wr.alloc (.cells #[.int .i64 0, .int .i64 0] 46)) (by repeat (first | (with_reducible exact Below.refl _ _) | (with_reducible assumption) | (with_reducible exact bel_box _) | (with_reducible refine bel_step ?_ (by with_reducible assumption)) | (with_reducible refine Below.drew ?_) | (with_reducible refine below_drewN ?_ _) | (with_reducible refine bel_alloc ?_ _)))
        go_wp2_with (first
          | (go_at_call 32; (with_reducible refine (KTA.out _).mono ?_); rintro e w1 ⟨rfl, hb1⟩; have hz1 := hb1.size; (try simp only [World.size_alloc, World.size_setCell] at hz1); have B1 := (Bk.new wr 46 _).go hb1; obtain ⟨q0, q1, q2, q3⟩ := B1.four)
          | (at_builtin; refine wpList_append_own_at _ rfl _ _ 26 rfl W0.heap.size 46 i0 (.agg #[.int .i64 0, .int .i64 0]) 2 16 Try.underlying26 hi iz is ib rfl (by decide) _ t (fl xs) rfl (own2_keep hown.out ?_) ⟨_, 0, none⟩ 1 1 [.int .i64 0, .int .i64 0] rfl rfl (by first | exact row2 _ _ _ _ | exact row2s _ _ _ _ _ _ _ _ | exact row2a _ _ _ _ _) (c_one _ _) (by unfold maxLen; omega) (by omega) ?_ ?_; (focus ((repeat (first | (with_reducible exact Below.refl _ _) | (with_reducible assumption) | (with_reducible exact bel_box _) | (with_reducible refine bel_step ?_ (by with_reducible assumption)) | (with_reducible refine Below.drew ?_) | (with_reducible refine below_drewN ?_ _) | (with_reducible refine bel_alloc ?_ _) | (with_reducible refine bel_two ?_ (by omega) _ _))); done)); (focus (simp; omega)); intro v9 w9 hown9 hgrow9 _ _; have hb9 : Below W0.heap.size W0 w9 := own2_below hgrow9 rfl hown.out (by simp; omega) (by repeat (first | (with_reducible exact Below.refl _ _) | (with_reducible assumption) | (with_reducible exact bel_box _) | (with_reducible refine bel_step ?_ (by with_reducible assumption)) | (with_reducible refine Below.drew ?_) | (with_reducible refine below_drewN ?_ _) | (with_reducible refine bel_alloc ?_ _) | (with_reducible refine bel_two ?_ (by omega) _ _))); rw [fl_snoc] at hown9; have HO9 := Lib.hid hown9; clear hown9 hgrow9))
        go_roundw
        case rel => exact ⟨t + 1, by omega, by go_num, Lib.hid (by rw [HO.out]; exact HO9.out), hb9⟩
        case measure => simp [intOf]; omega
      · rw [hth] at KTA HO
        simp only [if_true] at HO
        clear hth hxs HPO
        obtain ⟨ca0, ca1⟩ := HEA.out (wr.alloc (.cells #[.int .i64 0, .int .i64 0] 46)) (by repeat (first | (with_reducible exact Below.refl _ _) | (with_reducible assumption) | (with_reducible exact bel_box _) | (with_reducible refine bel_step ?_ (by with_reducible assumption)) | (with_reducible refine Below.drew ?_) | (with_reducible refine below_drewN ?_ _) | (with_reducible refine bel_alloc ?_ _)))
        go_wp2_with (first
          | (go_at_call 32; (with_reducible refine (KTA.out _).mono ?_); rintro e w1 ⟨rfl, hb1⟩; have hz1 := hb1.size; (try simp only [World.size_alloc, World.size_setCell] at hz1); have B1 := (Bk.new wr 46 _).go hb1; obtain ⟨q0, q1, q2, q3⟩ := B1.four; have B1s := B1.put2 (.int .i64 2) (.int .i64 0); obtain ⟨s0, s1, s2, s3⟩ := B1s.four))
        have hbs : Below wr.heap.size wr ((w1.setCell ⟨wr.heap.size, 0, none⟩ (.int .i64 2)).setCell ⟨wr.heap.size, 1, none⟩ (.int .i64 0)) := (by repeat (first | (with_reducible exact Below.refl _ _) | (with_reducible assumption) | (with_reducible exact bel_box _) | (with_reducible refine bel_step ?_ (by with_reducible assumption)) | (with_reducible refine Below.drew ?_) | (with_reducible refine below_drewN ?_ _) | (with_reducible refine bel_alloc ?_ _) | (with_reducible refine bel_two ?_ (by omega) _ _)))
        generalize (w1.setCell ⟨wr.heap.size, 0, none⟩ (.int .i64 2)).setCell ⟨wr.heap.size, 1, none⟩ (.int .i64 0) = W1 at *
        clear q0 q1 q2 q3 B1 s0 s1 s2 s3 ca0 ca1 hb1
        obtain ⟨U, rfl⟩ : ∃ U, U = wr := ⟨_, rfl⟩
        go_loopw [6] (fun i X => ∃ k : Nat, k ≤ t ∧ i = .int .i64 (k : Int) ∧ Hid (Bk X U.heap.size 46 #[.int .i64 (stT preS (2, 0) ls k).1, .int .i64 (stT preS (2, 0) ls k).2]) ∧ Below U.heap.size U X) (fun i _ => t - (intOf i).toNat)
        case atStart => exact ⟨0, by omega, rfl, Lib.hid B1s, hbs⟩
        case round =>
          clear B1s hbs HST
          obtain ⟨k, hkt, rfl, hBX, hbX⟩ := hrel
          have hzX := hbX.size
          by_cases hk : k < t
          · obtain ⟨ad2, e0, e1, hA2, hee, HEE⟩ := hA.inst (show k < l.length by omega)
            obtain rfl : adA = ad2 := by simpa using hA2
            have HS := Lib.hid (HPS.out k)
            rw [getD_of hee] at HS
            have KTE := Lib.hid (KT.out (e0, e1))
            have KPE := Lib.hid (KP.out (e0, e1))
            have hkl : k < l.length := by omega
            generalize stT preS (2, 0) ls k = st at *
            obtain ⟨s0, s1⟩ := st
            generalize pl (e0, e1) = pe at *
            obtain ⟨p0, p1⟩ := pe
            simp only at KPE hBX
            obtain ⟨c0, c1⟩ := HEE.out wr (by repeat (first | (with_reducible exact Below.refl _ _) | (with_reducible assumption) | (with_reducible exact bel_box _) | (with_reducible refine bel_step ?_ (by with_reducible assumption)) | (with_reducible refine Below.drew ?_) | (with_reducible refine below_drewN ?_ _) | (with_reducible refine bel_alloc ?_ _)))
            cases hte : thB (e0, e1)
            · rw [hte] at HS KTE
              clear hte
              go_wp2_with (first
                | (go_at_call 32; (with_reducible refine (KTE.out _).mono ?_); rintro e w2 ⟨rfl, hb2⟩; have hz2 := hb2.size; (try simp only [World.size_alloc, World.size_setCell] at hz2)))
              go_roundw
              case rel => exact ⟨k + 1, by omega, by go_num, Lib.hid (by rw [HS.out]; exact hBX.out.go hb2), (by repeat (first | (with_reducible exact Below.refl _ _) | (with_reducible assumption) | (with_reducible exact bel_box _) | (with_reducible refine bel_step ?_ (by with_reducible assumption)) | (with_reducible refine Below.drew ?_) | (with_reducible refine below_drewN ?_ _) | (with_reducible refine bel_alloc ?_ _)))⟩
              case measure => simp [intOf]; omega
            · rw [hte] at HS KTE
              clear hte
              go_wp2_with (first
                | (go_at_call 32; (with_reducible refine (KTE.out _).mono ?_); rintro e w2 ⟨rfl, hb2⟩; have hz2 := hb2.size; (try simp only [World.size_alloc, World.size_setCell] at hz2); have B2 := hBX.out.go hb2; obtain ⟨q0, q1, q2, q3⟩ := B2.four; obtain ⟨d0, d1⟩ := HEE.out w2 (by repeat (first | (with_reducible exact Below.refl _ _) | (with_reducible assumption) | (with_reducible exact bel_box _) | (with_reducible refine bel_step ?_ (by with_reducible assumption)) | (with_reducible refine Below.drew ?_) | (with_reducible refine below_drewN ?_ _) | (with_reducible refine bel_alloc ?_ _))))
                | (go_at_call 38; (with_reducible refine (KPE.out _).mono ?_); rintro e w3 ⟨rfl, hb3⟩; have hz3 := hb3.size; (try simp only [World.size_setCell] at hz3); have B3 := B2.go hb3; clear q0 q1 q2 q3; obtain ⟨q0, q1, q2, q3⟩ := B3.four; have B3s := B3.put2 (.int .i64 p0) (.int .i64 p1); obtain ⟨t0, t1, t2, t3⟩ := B3s.four))
              go_roundw
              case rel => exact ⟨k + 1, by omega, by go_num, Lib.hid (by rw [HS.out]; exact B3s), (by repeat (first | (with_reducible exact Below.refl _ _) | (with_reducible assumption) | (with_reducible exact bel_box _) | (with_reducible refine bel_step ?_ (by with_reducible assumption)) | (with_reducible refine Below.drew ?_) | (with_reducible refine below_drewN ?_ _) | (with_reducible refine bel_alloc ?_ _) | (with_reducible refine bel_two ?_ (by omega) _ _)))⟩
              case measure => simp [intOf]; omega
          · obtain rfl : k = t := by omega
            generalize stT preS (2, 0) ls k = st at *
            obtain ⟨s0, s1⟩ := st
            simp only at hBX HO
            obtain ⟨q0, q1, q2, q3⟩ := hBX.out.four
            clear HPS
            go_wp2_with (first
              | (at_builtin; refine wpList_append_own_at _ rfl _ _ 26 rfl W0.heap.size 46 i0 (.agg #[.int .i64 0, .int .i64 0]) 2 16 Try.underlying26 hi iz is ib rfl (by decide) _ k (fl xs) rfl (own2_keep hown.out ?_) ⟨_, 0, none⟩ 1 1 [.int .i64 s0, .int .i64 s1] rfl rfl (by first | exact row2 _ _ _ _ | exact row2s _ _ _ _ _ _ _ _ | exact row2a _ _ _ _ _) (c_one _ _) (by unfold maxLen; omega) (by omega) ?_ ?_; (focus ((repeat (first | (with_reducible exact Below.refl _ _) | (with_reducible assumption) | (with_reducible exact bel_box _) | (with_reducible refine bel_step ?_ (by with_reducible assumption)) | (with_reducible refine Below.drew ?_) | (with_reducible refine below_drewN ?_ _) | (with_reducible refine bel_alloc ?_ _) | (with_reducible refine bel_two ?_ (by omega) _ _))); done)); (focus (simp; omega)); intro v9 w9 hown9 hgrow9 _ _; have hb9 : Below W0.heap.size W0 w9 := own2_below hgrow9 rfl hown.out (by simp; omega) (by repeat (first | (with_reducible exact Below.refl _ _) | (with_reducible assumption) | (with_reducible exact bel_box _) | (with_reducible refine bel_step ?_ (by with_reducible assumption)) | (with_reducible refine Below.drew ?_) | (with_reducible refine below_drewN ?_ _) | (with_reducible refine bel_alloc ?_ _) | (with_reducible refine bel_two ?_ (by omega) _ _))); rw [fl_snoc] at hown9; have HO9 := Lib.hid hown9; clear hown9 hgrow9))
            go_roundw
            case rel => exact ⟨k + 1, by omega, by go_num, Lib.hid (by rw [HO.out]; exact HO9.out), hb9⟩
            case measure => simp [intOf]; omega
    · obtain rfl : t = l.length := by omega
      clear HPS HPO
      obtain ⟨V, cv, rfl⟩ := own2_form hown.out
      have HR := Lib.hid (own2_rd hown.out (outT_length _ _ _ _))
      have HL := Lib.hid (outT_length preS (2, 0) ls l.length)
      generalize outT preS (2, 0) ls l.length = xs at *
      clear hown
      go_wp2
      go_ret
      exact ⟨V, cv, by rw [HL.out]; rfl, HR.out, hbl⟩
end Go.Proofs.Ytefmnjcllncmpaa
/- When of the reference. -/
namespace Go.Proofs.Ytefmnjcllncmpaa
set_option linter.unusedVariables false
set_option linter.unusedSimpArgs false
open Go.RowKit
theorem pl_tag {b0 b1 tag : Int} : pl (b0, b1) = (1, tag) ↔ b0 = 1 ∧ b1 = tag := by
  unfold pl
  by_cases h1 : b0 = 1
  · subst h1; simp
  · by_cases h2 : b0 = 2
    · subst h2; simp
    · simp [h1, h2]
end Go.Proofs.Ytefmnjcllncmpaa
/- Dense of both, Same, is. -/
namespace Go.Proofs.Ytefmnjcllncmpaa
set_option linter.unusedVariables false
set_option linter.unusedSimpArgs false
open Go.RowKit
attribute [local go_sem] cell_eql cell_neq cell_eqg
set_option maxHeartbeats 2000000 in
theorem same_any (A B : Option Addr) (c d : Nat) (l : List (Int × Int)) (w : World) (hA : RdC w w.heap.size A l) (hB : RdC w w.heap.size B l) (hl : l.length ≤ 1000000) :
    Calls Try.prog 11 #[.slice A l.length c, .slice B l.length d] w (Bel (.bool true) w) := by
  go_enter Try.func11, Try.ntmps11
  go_wp2
  go_loopw [5] (fun i wr => ∃ k : Nat, k ≤ l.length ∧ i = .int .i64 (k : Int) ∧ Below w.heap.size w wr) (fun i _ => l.length - (intOf i).toNat)
  case atStart => exact ⟨0, by omega, rfl, Below.refl _ _⟩
  case round =>
    obtain ⟨k, hk, rfl, hbl⟩ := hrel
    by_cases hlt : k < l.length
    · obtain ⟨adA, e0, e1, rfl, hea, HEA⟩ := hA.inst hlt
      obtain ⟨adB, f0, f1, rfl, heb, HEB⟩ := hB.inst hlt
      obtain ⟨rfl, rfl⟩ : e0 = f0 ∧ e1 = f1 := by rw [hea] at heb; simpa using heb
      obtain ⟨a0, a1⟩ := HEA.out wr hbl
      obtain ⟨b0, b1⟩ := HEB.out wr hbl
      have HK : Hid (∀ W, Below w.heap.size w W → W.cell? (adA.add (k * 2)) = some (.int .i64 e0) ∧ W.cell? ⟨(adA.add (k * 2)).block, (adA.add (k * 2)).off + 1, none⟩ = some (.int .i64 e1) ∧ W.cell? (adB.add (k * 2)) = some (.int .i64 e0) ∧ W.cell? ⟨(adB.add (k * 2)).block, (adB.add (k * 2)).off + 1, none⟩ = some (.int .i64 e1)) := Lib.hid fun W hW => ⟨(HEA.out W hW).1, (HEA.out W hW).2, (HEB.out W hW).1, (HEB.out W hW).2⟩
      clear hea heb HEA HEB
      go_wp2
      go_region_held3 (fun W => W.cell? (adA.add (k * 2)) = some (.int .i64 e0) ∧ W.cell? ⟨(adA.add (k * 2)).block, (adA.add (k * 2)).off + 1, none⟩ = some (.int .i64 e1) ∧ W.cell? (adB.add (k * 2)) = some (.int .i64 e0) ∧ W.cell? ⟨(adB.add (k * 2)).block, (adB.add (k * 2)).off + 1, none⟩ = some (.int .i64 e1))
        ((refine HK.out _ ?_; (focus ((repeat (first | (with_reducible exact Below.refl _ _) | (with_reducible assumption) | (with_reducible exact bel_box _) | (with_reducible refine bel_step ?_ (by with_reducible assumption)) | (with_reducible refine Below.drew ?_) | (with_reducible refine below_drewN ?_ _) | (with_reducible refine bel_alloc ?_ _))); done))))
        (first | (fail))
      go_wp2
      go_roundw
      case rel => exact ⟨k + 1, by omega, by go_num, (by repeat (first | (with_reducible exact Below.refl _ _) | (with_reducible assumption) | (with_reducible exact bel_box _) | (with_reducible refine bel_step ?_ (by with_reducible assumption)) | (with_reducible refine Below.drew ?_) | (with_reducible refine below_drewN ?_ _) | (with_reducible refine bel_alloc ?_ _)))⟩
      case measure => simp [intOf]; omega
    · obtain rfl : k = l.length := by omega
      go_wp2
      go_ret
      exact ⟨rfl, hbl⟩
set_option maxHeartbeats 2000000 in
theorem is_any (A : Option Addr) (c : Nat) (l : List Int) (w : World) (hA : Rd w w.heap.size A (is_ l)) (hl : l.length ≤ 1000) :
    Calls Try.prog 33 #[.slice A l.length c] w (NewC (l.map fun v => (1, v)) w) := by
  obtain ⟨i0, hi, iz, is, ib⟩ := cellParts
  have HA := Lib.hid hA
  clear hA
  go_enter Try.func33, Try.ntmps33
  go_wp2
  go_loopw [3, 4] (fun v i wr => ∃ k : Nat, k ≤ l.length ∧ i = .int .i64 (k : Int) ∧ Hid (wr.ownsRow w.heap.size 46 2 v k (fl ((l.take k).map fun v => (1, v)))) ∧ Below w.heap.size w wr) (fun _ i _ => l.length - (intOf i).toNat)
  case atStart => exact ⟨0, by omega, rfl, Lib.hid (World.ownsRow_nil _ _ _ _), Below.refl _ _⟩
  case round =>
    obtain ⟨k, hk, rfl, hown, hbl⟩ := hrel
    have hsz := hbl.size
    by_cases hlt : k < l.length
    · obtain ⟨ad, e, rfl, hadb, he, hc1⟩ := (HA.out.to hbl).int_at hlt
      have HT := Lib.hid (show (l.take (k + 1)).map (fun v => ((1, v) : Int × Int)) = (l.take k).map (fun v => (1, v)) ++ [(1, e)] by rw [take_succ_of he]; simp)
      generalize (l.take k).map (fun v => ((1, v) : Int × Int)) = xs at *
      clear he hadb
      go_wp2_with (at_builtin; refine wpList_append_own_at _ rfl _ _ 26 rfl w.heap.size 46 i0 (.agg #[.int .i64 0, .int .i64 0]) 2 16 Try.underlying26 hi iz is ib rfl (by decide) _ k (fl xs) rfl (own2_keep hown.out (by repeat (first | (with_reducible exact Below.refl _ _) | (with_reducible assumption) | (with_reducible exact bel_box _) | (with_reducible refine bel_step ?_ (by with_reducible assumption)) | (with_reducible refine Below.drew ?_) | (with_reducible refine below_drewN ?_ _) | (with_reducible refine bel_alloc ?_ _)))) ⟨_, 0, none⟩ 1 1 [.int .i64 1, .int .i64 e] rfl rfl (row2 _ _ _ _) (c_one _ _) (by unfold maxLen; omega) (by omega) (by simp; omega) ?_; intro v3 w3 hown3 hgrow3 _ _)
      have hb3 : Below w.heap.size w w3 := own2_below hgrow3 rfl hown.out (by simp; omega) (by repeat (first | (with_reducible exact Below.refl _ _) | (with_reducible assumption) | (with_reducible exact bel_box _) | (with_reducible refine bel_step ?_ (by with_reducible assumption)) | (with_reducible refine Below.drew ?_) | (with_reducible refine below_drewN ?_ _) | (with_reducible refine bel_alloc ?_ _)))
      rw [fl_snoc] at hown3
      go_roundw
      case rel => exact ⟨k + 1, by omega, by go_num, Lib.hid (by rw [HT.out]; exact hown3), hb3⟩
      case measure => simp [intOf]; omega
    · obtain rfl : k = l.length := by omega
      rw [List.take_length] at hown
      obtain ⟨V, cv, rfl⟩ := own2_form hown.out
      have HR := Lib.hid (own2_rd hown.out (by simp))
      clear hown
      go_wp2
      go_ret
      exact ⟨V, cv, by rw [List.length_map]; rfl, HR.out, hbl⟩
end Go.Proofs.Ytefmnjcllncmpaa
