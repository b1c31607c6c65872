/- StreamMerge: for every two streams and number the law on merging the samplings of a stream returns true and leaves its arguments as they were; no condition. -/
import Derived.Test.YtefmnjcllncmpaaQD
namespace Go.Proofs.Ytefmnjcllncmpaa.streamMerge
open Go.ChangeShapes Go.WideShapes Go.ChangeAt Go.RowKit
set_option linter.unusedVariables false
theorem own : ownKnob Try.prog.godebug = none := by kernel_rfl
theorem laidOut : laidOutB Try.prog = true := by kernel_rfl
theorem params_ok : (Try.f8.params.toList.all fun t => Try.prog.readableRec t && decide (t < Try.prog.types.size)) = true := by kernel_rfl
theorem cellsBool : Try.prog.cellsOf 4 = 1 := by kernel_rfl
theorem bytesBool : Try.prog.bytesOf 4 = 1 := by kernel_rfl
theorem cellsWord : Try.prog.cellsOf 36 = 2 := by kernel_rfl
set_option maxRecDepth 100000 in
theorem lifted (os : Os) (started : os.Started) (H : Type) (enc : TypeId × Value → H) :
    ReturnsInHanded {} Try.checked os 8 .any (Rows.streamMergeSpec.pre6 enc Try.prog Try.f8 Rows.streamMergeRow.domain false) (Rows.streamMergeSpec.post enc Try.prog Try.f8 false true false false) := by
  refine returnsInHanded_of_change_sized (C := Try.checked) own started (by kernel_rfl) Try.func8
    (ChangeSpec.witness6 (enc := enc) (C := Try.checked) false ⟨#[], #[.slice none 0 0, .slice none 0 0, .int .u8 0], []⟩ 8 (by kernel_rfl) (by kernel_rfl) (by kernel_rfl) (by kernel_rfl)) ?_
  intro W base args ds gs before hval0 hW hcnd hsz _
  have hval : ∀ (j : Nat) t v, Try.f8.params[j]? = some t → args[j]? = some v → Value.okWide Try.prog W .any base t v := hval0
  have hW' := hW
  obtain ⟨p, q, hA0, hV, rfl, hfz, hnd⟩ := hW
  have hA : DataW.TrodAll enc Try.prog W 0 (fun _ => true) true Try.f8.params.toList args.toList ds p := hA0
  rw [Try.params8] at hA hval hsz
  obtain ⟨v0, vs0, d0, ds0, p0, q0, hargs, rfl, rfl, h0, r0⟩ := trodAll_cons hA
  obtain ⟨v1, vs1, d1, ds1, p1, q1, rfl, rfl, rfl, h1, r1⟩ := trodAll_cons r0
  obtain ⟨v2, vs2, d2, ds2, p2, q2, rfl, rfl, rfl, h2, r2⟩ := trodAll_cons r1
  obtain ⟨rfl, rfl, rfl⟩ := trodAll_nil r2
  obtain rfl : args = #[v0, v1, v2] := by cases args; simp_all
  obtain ⟨rfl, rfl⟩ := trodVars_none hV
  simp only [List.append_nil] at hW'
  have e0 := hval 0 26 v0 rfl rfl
  obtain ⟨x0, len0, cap0, rfl⟩ := okWide_slice Try.underlying26 e0
  obtain ⟨n0, g0⟩ := h0
  obtain ⟨A0, l0, c0, hv0, hR0, hL0⟩ := rd_cells Try.underlying26 Try.underlying46 (by kernel_rfl) rfl rfl (by kernel_rfl) (by kernel_rfl) Try.underlying3 Try.underlying3 g0
  obtain ⟨rfl, rfl, rfl⟩ : A0 = x0 ∧ l0.length = len0 ∧ c0 = cap0 := by simp only [Value.slice.injEq] at hv0; exact ⟨hv0.1.symm, hv0.2.1.symm, hv0.2.2.symm⟩
  have hc0 := rd_cap Try.underlying26 Try.underlying46 (by kernel_rfl) rfl rfl (by kernel_rfl) (by kernel_rfl) g0
  have e1 := hval 1 26 v1 rfl rfl
  obtain ⟨x1, len1, cap1, rfl⟩ := okWide_slice Try.underlying26 e1
  obtain ⟨n1, g1⟩ := h1
  obtain ⟨A1, l1, c1, hv1, hR1, hL1⟩ := rd_cells Try.underlying26 Try.underlying46 (by kernel_rfl) rfl rfl (by kernel_rfl) (by kernel_rfl) Try.underlying3 Try.underlying3 g1
  obtain ⟨rfl, rfl, rfl⟩ : A1 = x1 ∧ l1.length = len1 ∧ c1 = cap1 := by simp only [Value.slice.injEq] at hv1; exact ⟨hv1.1.symm, hv1.2.1.symm, hv1.2.2.symm⟩
  have hc1 := rd_cap Try.underlying26 Try.underlying46 (by kernel_rfl) rfl rfl (by kernel_rfl) (by kernel_rfl) g1
  have e2 := hval 2 5 v2 rfl rfl
  obtain ⟨a2, rfl, hd2, hp2, w2⟩ := open_int Try.underlying5 e2 h2
  have ha2 : a2 ≤ 255 := u8_le w2
  have la2 : 0 ≤ a2 := u8_ge w2
  refine (mergel_any A0 A1 c0 c1 l0 l1 a2 _ hR0 hR1 hL0 hL1 hc0 hc1 la2 ha2 ).mono fun e W' ⟨he, hb⟩ => ⟨_, he, ?_⟩
  exact law_post hW' rfl ⟨rfl, rfl, rfl⟩ rfl Try.underlying4 laidOut (fun t ht => by have h := List.all_eq_true.1 params_ok t ht; rw [Bool.and_eq_true] at h; exact ⟨h.1, of_decide_eq_true h.2⟩) hb
theorem over : Rows.streamMergeRow.holds Try.pinned (OpenSpec.ofChange Rows.streamMergeSpec) :=
  OpenClaim.holds_of_wide 8 Try.f8 rfl rfl rfl rfl rfl rfl rfl ⟨rfl, rfl, rfl, rfl, rfl⟩ rfl rfl rfl rfl rfl (by kernel_rfl) Try.func8 (by kernel_rfl)
    (of_decide_eq_true (by kernel_rfl)) (by unfold Func.isWrapper; first | (rw [if_pos (by decide +kernel)]; kernel_rfl) | (rw [if_neg (by decide +kernel)]; exact ⟨rfl, rfl⟩))
    (fun os started H enc _ => lifted os started H enc)
theorem proved : Rows.StreamMergeSaid := over
#print axioms proved
end Go.Proofs.Ytefmnjcllncmpaa.streamMerge
