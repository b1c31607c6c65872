/- P2.6: the shifted word is that of the reference, for every number, and shifting twice is shifting once by the sum, for every word and two numbers: the law BwordShifts returns true. No condition. -/
import Derived.Test.YtimecbkfeennpaaBwShs
import Derived.Test.YtimecbkfeennpaaFrame2
namespace Go.Proofs.Ytimecbkfeennpaa.bwordShifts
open Go.ChangeShapes Go.WideShapes Go.ChangeAt Go.RowKit
set_option linter.unusedVariables false
theorem own : ownKnob Try.prog.godebug = none := by kernel_rfl
theorem laidOut : laidOutB Try.prog = true := by kernel_rfl
theorem params_ok : (Try.f9.params.toList.all fun t => Try.prog.readableRec t && decide (t < Try.prog.types.size)) = true := by kernel_rfl
theorem cellsBool : Try.prog.cellsOf 4 = 1 := by kernel_rfl
theorem bytesBool : Try.prog.bytesOf 4 = 1 := by kernel_rfl
theorem cellsWord : Try.prog.cellsOf 24 = 2 := by kernel_rfl
set_option maxRecDepth 100000 in
theorem lifted (os : Os) (started : os.Started) (H : Type) (enc : TypeId × Value → H) :
    ReturnsInHanded {} Try.checked os 9 .any (Rows.bwordShiftsSpec.pre6 enc Try.prog Try.f9 Rows.bwordShiftsRow.domain false) (Rows.bwordShiftsSpec.post enc Try.prog Try.f9 false true false false) := by
  refine returnsInHanded_of_change_sized (C := Try.checked) own started (by kernel_rfl) Try.func9
    (ChangeSpec.witness6 (enc := enc) (C := Try.checked) false ⟨#[], #[.agg #[.slice none 0 0, .slice none 0 0], .int .i64 0, .int .i64 0], []⟩ 8 (by kernel_rfl) (by kernel_rfl) (by kernel_rfl) (by kernel_rfl)) ?_
  intro W base args ds gs before hval0 hW hcnd hsz _
  have hval : ∀ (j : Nat) t v, Try.f9.params[j]? = some t → args[j]? = some v → Value.okWide Try.prog W .any base t v := hval0
  have hW' := hW
  obtain ⟨p, q, hA0, hV, rfl, hfz, hnd⟩ := hW
  have hA : DataW.TrodAll enc Try.prog W 0 (fun _ => true) true Try.f9.params.toList args.toList ds p := hA0
  rw [Try.params9] at hA hval hsz
  obtain ⟨v0, vs0, d0, ds0, p0, q0, hargs, rfl, rfl, h0, r0⟩ := trodAll_cons hA
  obtain ⟨v1, vs1, d1, ds1, p1, q1, rfl, rfl, rfl, h1, r1⟩ := trodAll_cons r0
  obtain ⟨v2, vs2, d2, ds2, p2, q2, rfl, rfl, rfl, h2, r2⟩ := trodAll_cons r1
  obtain ⟨rfl, rfl, rfl⟩ := trodAll_nil r2
  obtain rfl : args = #[v0, v1, v2] := by cases args; simp_all
  obtain ⟨rfl, rfl⟩ := trodVars_none hV
  simp only [List.append_nil] at hW'
  have e0 := hval 0 24 v0 rfl rfl
  obtain ⟨A0, B0, x0, y0, c0, g0, rfl, hX0, hY0, hx0, hy0, hxc0, hyc0⟩ := open_word Try.underlying24 (by kernel_rfl) cellsWord rfl rfl Try.underlying22 Try.underlying4 cellsBool bytesBool e0 h0 (fun n hn => of_decide_eq_true (List.all_eq_true.1 hsz n (DataW.weights_mem_each (j := 0) rfl rfl n hn)))
  have e1 := hval 1 3 v1 rfl rfl
  obtain ⟨a1, rfl, hd1, hp1, w1⟩ := open_int Try.underlying3 e1 h1
  have ha1 : a1 ≤ 9223372036854775807 := int_le w1
  have e2 := hval 2 3 v2 rfl rfl
  obtain ⟨a2, rfl, hd2, hp2, w2⟩ := open_int Try.underlying3 e2 h2
  have ha2 : a2 ≤ 9223372036854775807 := int_le w2
  refine (shifts_any A0 B0 c0 g0 a1 a2 x0 y0 W hX0 hY0 hxc0 hyc0 hx0 hy0 ha1 ha2 ).mono fun e W' ⟨he, hb⟩ => ⟨_, he, ?_⟩
  exact law_post hW' rfl ⟨rfl, rfl, rfl⟩ rfl Try.underlying4 laidOut (fun t ht => by have h := List.all_eq_true.1 params_ok t ht; rw [Bool.and_eq_true] at h; exact ⟨h.1, of_decide_eq_true h.2⟩) hb
theorem over : Rows.bwordShiftsRow.holds Try.pinned (OpenSpec.ofChange Rows.bwordShiftsSpec) :=
  OpenClaim.holds_of_wide 9 Try.f9 rfl rfl rfl rfl rfl rfl rfl ⟨rfl, rfl, rfl, rfl, rfl⟩ rfl rfl rfl rfl rfl (by kernel_rfl) Try.func9 (by kernel_rfl)
    (of_decide_eq_true (by kernel_rfl)) (by unfold Func.isWrapper; first | (rw [if_pos (by decide +kernel)]; kernel_rfl) | (rw [if_neg (by decide +kernel)]; exact ⟨rfl, rfl⟩))
    (fun os started H enc _ => lifted os started H enc)
theorem proved : Rows.BwordShiftsSaid := over
#print axioms proved
end Go.Proofs.Ytimecbkfeennpaa.bwordShifts
