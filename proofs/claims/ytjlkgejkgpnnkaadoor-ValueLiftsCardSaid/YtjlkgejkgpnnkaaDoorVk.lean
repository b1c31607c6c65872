/- Lift of the reference. -/
import Derived.Test.YtjlkgejkgpnnkaaDoorVl
namespace Go.Proofs.YtjlkgejkgpnnkaaDoor
set_option linter.unusedVariables false
set_option linter.unusedSimpArgs false
open Go.RowKit
theorem one_cell_int (b : Int) : ∀ u ∈ [Value.int .i64 b], u.oneCell' = true := by
  intro u hu
  simp at hu
  subst hu
  rfl
theorem cell_one_new' (w : World) (u : Value) (t : TypeId) : ∀ j v, [u][j]? = some v → (w.alloc (.cells #[u] t)).cell? ((⟨w.heap.size, 0, none⟩ : Addr).add j) = some v := by
  intro j v hj
  rw [add_off, cell_of_row _ _ j #[u] t (0, 0) (heap_alloc_new w _), ← hj]
  simp
set_option maxHeartbeats 2000000 in
theorem rlift_any (A : Option Addr) (c : Nat) (op : Int) (l : List (Int × Int)) (w : World) (hA : RdC w w.heap.size A l) (hl : l.length ≤ 100) :
    Calls Tryd.prog 31 #[.int .i64 op, .slice A l.length c] w (Bel (.agg #[.int .i64 (lifK op l), .int .i64 (lifV op l)]) w) := by
  obtain ⟨i0, hi, hz0, hz1, hz2⟩ := info_parts intInfo
  have HA := Lib.hid hA
  clear hA
  go_enter Tryd.func31, Tryd.ntmps31
  go_wp2
  go_loopw [5, 6, 7] (fun d v i wr => ∃ k : Nat, k ≤ l.length ∧ i = .int .i64 k ∧ d = .bool (undK (l.take k)) ∧ Hid (badK (l.take k) = false) ∧ wr.ownsRow (w.heap.size + 1) 3 1 v k (is_ ((l.take k).map (·.2))) ∧ Below (w.heap.size + 1) (w.alloc (.cells #[.int .i64 0, .int .i64 0] 45)) wr) (fun _ _ i _ => l.length - (intOf i).toNat)
  case atStart => exact ⟨0, by omega, rfl, rfl, Lib.hid rfl, World.ownsRow_nil _ _ _ _, Below.refl _ _⟩
  case round =>
    obtain ⟨k, hk, rfl, rfl, hbad, hown, hbl⟩ := hrel
    have hsz : w.heap.size + 1 ≤ wr.heap.size := by have := hbl.size; rwa [World.size_alloc] at this
    have hbw : Below w.heap.size w wr := (bel_box _).trans (hbl.mono (by omega))
    have hres : Bk wr w.heap.size 45 #[.int .i64 0, .int .i64 0] := (Bk.new _ _ _).below hbl (by omega)
    have r0 : wr.cell? ⟨w.heap.size, 0, none⟩ = some (.int .i64 0) := hres.cell 0
    have r1 : wr.cell? ⟨w.heap.size, 1, none⟩ = some (.int .i64 0) := hres.cell 1
    have f0 := hres.frozen 0
    have f1 := hres.frozen 1
    have HR := Lib.hid hres
    clear hres
    by_cases hlt : k < l.length
    · obtain ⟨ad, e, rfl, hadb, he, hc1, hc2⟩ := (HA.out.to hbw).at_ hlt
      have hbad2 : badK (l.take (k + 1)) = (badK (l.take k) || (e.1 != 1 && e.1 != 2)) := by rw [badK, take_succ_of he, List.any_append]; simp [badK]
      have hund2 : undK (l.take (k + 1)) = (undK (l.take k) || (e.1 == 2)) := by rw [undK, take_succ_of he, List.any_append]; simp [undK]
      have HB2 := Lib.hid hbad2
      have HU2 := Lib.hid hund2
      have HT := Lib.hid (show is_ ((l.take (k + 1)).map (·.2)) = is_ ((l.take k).map (·.2)) ++ [.int .i64 e.2] by rw [take_succ_of he]; simp [is_])
      clear hbad2 hund2
      by_cases e1 : e.1 = 1 ∨ e.1 = 2
      · have hk1 : (e.1 != 1 && e.1 != 2) = false := by rcases e1 with h | h <;> simp [h]
        have HK1 := Lib.hid hk1
        cases hu : undK (l.take k)
        all_goals
          have HU := Lib.hid hu
          clear hu hk1
          rcases e1 with e1 | e1
          all_goals
            first
              | (have e1b : (e.1 == 1) = true := by simp [e1]
                 have e1c : (e.1 != 1) = false := by simp [e1]
                 have e2b : (e.1 == 2) = false := by simp [e1])
              | (have e1b : (e.1 == 2) = true := by simp [e1]
                 have e1c : (e.1 != 1) = true := by simp [e1]
                 have e1d : (e.1 != 2) = false := by simp [e1]
                 have e2b : (e.1 == 1) = false := by simp [e1])
            have E1 := Lib.hid e1
            clear e1
            go_wp2_with (at_builtin; refine wpList_append_own _ rfl _ _ 38 rfl (w.heap.size + 1) 3 i0 (.int .i64 0) 1 8 Tryd.underlying38 hi hz0 hz1 hz2 rfl (by decide) _ _ _ rfl (hown.alloc _) ⟨wr.heap.size, 0, none⟩ 1 1 [.int .i64 e.2] rfl rfl (cell_one_new' _ _ _) (one_cell_int _) (by unfold maxLen; omega) (by omega) (by simp; omega) ?_; intro v1 w1 hown1 hgrow1 _)
            have hb1 := own_below hbl hsz hown hgrow1
            go_roundw
            case rel => exact ⟨k + 1, by omega, by go_num, by rw [HU2.out, HU.out, E1.out]; rfl, Lib.hid (by rw [HB2.out, hbad.out, HK1.out]; rfl), by rw [HT.out]; exact hown1, hb1⟩
            case measure => simp [intOf]; omega
      · have e1b : (e.1 != 1) = true := by simp; omega
        have e2b : (e.1 != 2) = true := by simp; omega
        have hbb : badK l = true := by
          rw [badK, List.any_eq_true]
          exact ⟨e, List.mem_of_getElem? he, by rw [e1b, e2b]; rfl⟩
        have HK : Hid (lifK op l = 0 ∧ lifV op l = 0) := Lib.hid ⟨by rw [lifK, if_pos hbb], by rw [lifV, if_pos hbb]⟩
        clear e1 hbb
        go_wp2
        obtain ⟨t1, t2⟩ := set2_cells r0 r1 (.int .i64 0) (.int .i64 0)
        refine bodyPost_ret (v := .agg #[.int .i64 0, .int .i64 0]) (by simp [results, Tryd.results31, go_sem, t1, t2]) rfl ⟨by rw [HK.out.1, HK.out.2], bel_set2 hbw (Nat.le_refl _) _ _⟩
    · have hkl : k = l.length := by omega
      subst hkl
      have hbad2 : badK l = false := by have := hbad.out; rwa [List.take_length] at this
      rw [List.take_length] at hown ⊢
      obtain ⟨A', c', rfl⟩ := own_form hown
      have KA := Lib.hid (rapply_any A' c' op (l.map (·.2)) wr (Rd.of_own hown) (by simp; omega))
      rw [List.length_map] at KA
      have hw := HR.out.lt
      have HBad := Lib.hid hbad2
      clear hbad hbad2 hk hlt r0 r1 f0 f1
      cases hu : undK l
      · by_cases ha : apE op (l.map (·.2)) = 0
        · have HK : Hid (lifK op l = 1 ∧ lifV op l = apV op (l.map (·.2))) := Lib.hid ⟨by rw [lifK, HBad.out, hu, ha]; rfl, by rw [lifV, HBad.out, hu, ha]; rfl⟩
          rw [ha] at KA
          clear hu ha
          go_wp2_with (go_at_call 28; refine KA.out.mono ?_; rintro e w2 ⟨rfl, hb2⟩; have r0 := (hb2.cell (p := ⟨w.heap.size, 0, none⟩) hw).trans (HR.out.cell 0); have r1 := (hb2.cell (p := ⟨w.heap.size, 1, none⟩) hw).trans (HR.out.cell 1); have f0 := (hb2.frozen (p := ⟨w.heap.size, 0, none⟩) hw).trans (HR.out.frozen 0); have f1 := (hb2.frozen (p := ⟨w.heap.size, 1, none⟩) hw).trans (HR.out.frozen 1); simp at r0 r1)
          obtain ⟨t1, t2⟩ := set2_cells r0 r1 (.int .i64 1) (.int .i64 (apV op (l.map (·.2))))
          refine bodyPost_ret (v := .agg #[.int .i64 1, .int .i64 (apV op (l.map (·.2)))]) (by simp [results, Tryd.results31, go_sem, t1, t2]) rfl ⟨by rw [HK.out.1, HK.out.2], bel_set2 (bel_step hbw hb2) (Nat.le_refl _) _ _⟩
        · have HK : Hid (lifK op l = 2 ∧ lifV op l = 0) := Lib.hid ⟨by rw [lifK, HBad.out, hu]; simp [ha], by rw [lifV, HBad.out, hu]; simp [ha]⟩
          have hab : (apE op (l.map (·.2)) != 0) = true := by simpa using ha
          clear hu ha
          go_wp2_with (go_at_call 28; refine KA.out.mono ?_; rintro e w2 ⟨rfl, hb2⟩; have r0 := (hb2.cell (p := ⟨w.heap.size, 0, none⟩) hw).trans (HR.out.cell 0); have r1 := (hb2.cell (p := ⟨w.heap.size, 1, none⟩) hw).trans (HR.out.cell 1); have f0 := (hb2.frozen (p := ⟨w.heap.size, 0, none⟩) hw).trans (HR.out.frozen 0); have f1 := (hb2.frozen (p := ⟨w.heap.size, 1, none⟩) hw).trans (HR.out.frozen 1); simp at r0 r1)
          obtain ⟨t1, t2⟩ := set2_cells r0 r1 (.int .i64 2) (.int .i64 0)
          refine bodyPost_ret (v := .agg #[.int .i64 2, .int .i64 0]) (by simp [results, Tryd.results31, go_sem, t1, t2]) rfl ⟨by rw [HK.out.1, HK.out.2], bel_set2 (bel_step hbw hb2) (Nat.le_refl _) _ _⟩
      · have HK : Hid (lifK op l = 2 ∧ lifV op l = 0) := Lib.hid ⟨by rw [lifK, HBad.out, hu]; rfl, by rw [lifV, HBad.out, hu]; rfl⟩
        clear hu
        go_wp2_with (go_at_call 28; refine KA.out.mono ?_; rintro e w2 ⟨rfl, hb2⟩; have r0 := (hb2.cell (p := ⟨w.heap.size, 0, none⟩) hw).trans (HR.out.cell 0); have r1 := (hb2.cell (p := ⟨w.heap.size, 1, none⟩) hw).trans (HR.out.cell 1); have f0 := (hb2.frozen (p := ⟨w.heap.size, 0, none⟩) hw).trans (HR.out.frozen 0); have f1 := (hb2.frozen (p := ⟨w.heap.size, 1, none⟩) hw).trans (HR.out.frozen 1); simp at r0 r1)
        obtain ⟨t1, t2⟩ := set2_cells r0 r1 (.int .i64 2) (.int .i64 0)
        refine bodyPost_ret (v := .agg #[.int .i64 2, .int .i64 0]) (by simp [results, Tryd.results31, go_sem, t1, t2]) rfl ⟨by rw [HK.out.1, HK.out.2], bel_set2 (bel_step hbw hb2) (Nat.le_refl _) _ _⟩
end Go.Proofs.YtjlkgejkgpnnkaaDoor
