/- Order: what it calls. -/
import Derived.Test.YtahffafobdiogaaDoorKgh
namespace Go.Proofs.YtahffafobdiogaaDoor
set_option linter.unusedVariables false
set_option linter.unusedSimpArgs false
open Go.RowKit
namespace gr
/-- n numbers in cells -/
def rowI (n : Nat) (f : Nat → Int) : List Value := (List.range n).map fun v => Value.int .i64 (f v)
theorem rowI_len (n : Nat) (f : Nat → Int) : (rowI n f).length = n := by simp [rowI]
theorem rowI_get {n v : Nat} (f : Nat → Int) (hv : v < n) : (rowI n f)[v]? = some (.int .i64 (f v)) := by simp [rowI, hv]
theorem rowI_set {n u : Nat} (f : Nat → Int) (x : Int) : (rowI n f).set u (.int .i64 x) = rowI n fun w => if w = u then x else f w := by
  apply List.ext_getElem?
  intro i
  rw [List.getElem?_set]
  by_cases h : i < n
  · rw [rowI_get _ h, rowI_get _ h, rowI_len]
    by_cases e : u = i
    · subst e
      simp [h]
    · rw [if_neg e, if_neg (Ne.symm e)]
  · rw [List.getElem?_eq_none (by rw [rowI_len]; omega), List.getElem?_eq_none (by rw [rowI_len]; omega), rowI_len]
    by_cases e : u = i
    · subst e
      simp [h]
    · rw [if_neg e]
theorem rowI_congr {n : Nat} {f g : Nat → Int} (h : ∀ v, v < n → f v = g v) : rowI n f = rowI n g := by
  unfold rowI
  apply List.map_congr_left
  intro v hv
  rw [h v (List.mem_range.1 hv)]
theorem rowI_zero (n : Nat) : List.replicate n (Value.int .i64 0) = rowI n fun _ => 0 := by
  apply List.ext_getElem?
  intro i
  by_cases h : i < n
  · rw [rowI_get _ h]
    simp [List.getElem?_replicate, h]
  · rw [List.getElem?_eq_none (by simp; omega), List.getElem?_eq_none (by rw [rowI_len]; omega)]
theorem infoI : ∃ i, Tryd.prog.info? 3 = some i ∧ i.zero = some (.int .i64 0) ∧ i.size = 1 ∧ i.bytes = 8 := info_parts (by kernel_rfl)
theorem make_ints (n : Nat) (hn : n ≤ 4096) (w : World) : (Instr.makeSlice 24 (.int .i64 (n : Int)) (.int .i64 (n : Int))).run Tryd.prog w = .ok (sl w.heap.size n) (w.alloc (.cells (rowI n fun _ => 0).toArray 3)) := by
  obtain ⟨i0, hi, iz, is, ib⟩ := infoI
  have hr := run_make_row (P := Tryd.prog) 24 3 i0 (.int .i64 0) Tryd.underlying24 hi iz is rfl .i64 .i64 n (by rw [ib]; omega) (by omega) w
  rw [made_list, rowI_zero] at hr
  exact hr
set_option maxHeartbeats 1000000 in
theorem order1_any (n u mb pm : Nat) (f : Nat → Int) (hu : u < n) (hf0 : 0 ≤ f u) (hf1 : f u ≤ 10000) (W : World) (hB : Blk W mb 3 (rowI n f)) (hp : W.cell? ⟨pm, 0, none⟩ = some (sl mb n)) :
    Calls Tryd.prog 26 #[.int .i64 u, .pointer (some ⟨pm, 0, none⟩)] W fun e w' => e = .returned (.tuple #[]) ∧ w' = W.setCell ⟨mb, u, none⟩ (.int .i64 (f u + 1)) := by
  have hc := hB.cell (rowI_get f hu)
  have hf := hB.frozen u
  have d : (u : Int) < (n : Int) := by omega
  clear hB
  generalize f u = x at *
  go_enter Tryd.func26, Tryd.ntmps26
  go_wp2
  refine bodyPost_end (v := .tuple #[]) (results_none rfl _ _ _) rfl ?_
  exact ⟨rfl, rfl⟩
set_option maxHeartbeats 2000000 in
theorem order2_any (n u mb pm rb pr : Nat) (f : Nat → Int) (ws : List Nat) (p : Nat → Bool) (hu : u < n) (hn : n ≤ 4096) (hf0 : 0 ≤ f u) (hf1 : f u ≤ 10000) (W : World) (hB : Blk W mb 3 (rowI n f)) (hp : W.cell? ⟨pm, 0, none⟩ = some (sl mb n))
    (hR : Blk W rb 69 (uV ws)) (hS : St (sizeW n) ws p) (hq : W.cell? ⟨pr, 0, none⟩ = some (sl rb (sizeW n))) (hmr : mb ≠ rb) (hpr : pr ≠ mb) (hpm : pm ≠ mb) :
    Calls Tryd.prog 31 #[.int .i64 u, .pointer (some ⟨pm, 0, none⟩), .pointer (some ⟨pr, 0, none⟩)] W fun e w' => e = .returned (.tuple #[]) ∧ Blk w' mb 3 (rowI n fun w => if w = u then f u - 1 else f w) ∧ (∃ ws', Blk w' rb 69 (uV ws') ∧ St (sizeW n) ws' fun w => p w || (decide (f u = 1) && decide (w = u))) ∧ Kp (fun k => k = mb ∨ k = rb) W w' := by
  have hc := hB.cell (rowI_get f hu)
  have hf := hB.frozen u
  have d : (u : Int) < (n : Int) := by omega
  obtain ⟨x, hx⟩ : ∃ x, f u = x := ⟨_, rfl⟩
  rw [hx] at hc hf0 hf1 ⊢
  have hc2 : (W.setCell ⟨mb, u, none⟩ (.int .i64 (x - 1))).cell? ⟨mb, u, none⟩ = some (.int .i64 (x - 1)) := World.cell?_setCell_same W ⟨mb, u, none⟩ _ hc
  have hp2 : (W.setCell ⟨mb, u, none⟩ (.int .i64 (x - 1))).cell? ⟨pm, 0, none⟩ = some (sl mb n) := (World.cell?_setCell_other _ _ _ _ (by intro e; injection e with e; omega)).trans hp
  have hq2 : (W.setCell ⟨mb, u, none⟩ (.int .i64 (x - 1))).cell? ⟨pr, 0, none⟩ = some (sl rb (sizeW n)) := (World.cell?_setCell_other _ _ _ _ (by intro e; injection e with e; omega)).trans hq
  have hB2 := hB.set u (.int .i64 (x - 1))
  rw [rowI_set] at hB2
  have hR2 : Blk (W.setCell ⟨mb, u, none⟩ (.int .i64 (x - 1))) rb 69 (uV ws) := hR.set_other (Ne.symm hmr) u _
  have hK2 : Kp (fun k => k = mb ∨ k = rb) W (W.setCell ⟨mb, u, none⟩ (.int .i64 (x - 1))) := Kp.set W (.inl rfl) _
  by_cases h1 : x = 1
  · have HA := Lib.hid ((add_any rb (sizeW n) u ws p _ hR2 hS (by unfold sizeW; omega) (size_div hu)).mono (R' := fun e w' => e = .returned (.tuple #[]) ∧ Blk w' mb 3 (rowI n fun w => if w = u then x - 1 else f w) ∧ (∃ ws', Blk w' rb 69 (uV ws') ∧ St (sizeW n) ws' fun w => p w || (decide (x = 1) && decide (w = u))) ∧ Kp (fun k => k = mb ∨ k = rb) W w') fun e w' ⟨he, q, hw⟩ => by
      subst hw
      refine ⟨he, hB2.set_other hmr _ _, ⟨addW ws u, ?_, (hS.add (size_div hu)).congr fun w => by simp [h1]⟩, hK2.trans ((Kp.set _ (a := ⟨rb, u / 64, none⟩) (.inr rfl) _).trans (Kp.below (below_self _ _ q)))⟩
      have := hR2.set (u / 64) (.int .u64 ((ws.getD (u / 64) 0 ||| 2 ^ (u % 64) : Nat) : Int))
      rw [uV_set] at this
      exact this)
    clear hB hB2 hR hR2 hS hK2 hx
    subst h1
    go_enter Tryd.func31, Tryd.ntmps31
    go_wp2_with (go_at_call 28; refine HA.out.mono ?_; rintro e w1 ⟨rfl, h⟩)
    refine bodyPost_end (v := .tuple #[]) (results_none rfl _ _ _) rfl ?_
    exact ⟨rfl, h⟩
  · have R0 := Lib.hid (show Blk (W.setCell ⟨mb, u, none⟩ (.int .i64 (x - 1))) mb 3 (rowI n fun w => if w = u then x - 1 else f w) ∧ (∃ ws', Blk (W.setCell ⟨mb, u, none⟩ (.int .i64 (x - 1))) rb 69 (uV ws') ∧ St (sizeW n) ws' fun w => p w || (decide (x = 1) && decide (w = u))) ∧ Kp (fun k => k = mb ∨ k = rb) W (W.setCell ⟨mb, u, none⟩ (.int .i64 (x - 1))) from
      ⟨hB2, ⟨ws, hR2, hS.congr fun w => by simp [h1]⟩, hK2⟩)
    clear hB hB2 hR hR2 hS hK2 hx
    have h2 : ¬ x - 1 = 0 := by omega
    go_enter Tryd.func31, Tryd.ntmps31
    go_wp2
    refine bodyPost_end (v := .tuple #[]) (results_none rfl _ _ _) rfl ?_
    exact ⟨rfl, R0.out⟩
/-- how often a name comes in a list without repetitions -/
theorem count_nodup {l : List Nat} (h : l.Nodup) (w : Nat) : l.count w = if w ∈ l then 1 else 0 := by
  induction l with
  | nil => simp
  | cons a l ih =>
    rw [List.nodup_cons] at h
    rw [List.count_cons, ih h.2]
    by_cases e : a = w
    · subst e
      simp [h.1]
    · have e2 : ¬ w = a := fun x => e x.symm
      simp [e, e2]
theorem nbs_nodup (E : Nat → Nat → Bool) (n v : Nat) : (nbs E n v).Nodup := List.Nodup.sublist List.filter_sublist List.nodup_range
theorem nbs_mem {E : Nat → Nat → Bool} {n v w : Nat} : w ∈ nbs E n v ↔ w < n ∧ E v w = true := by
  unfold nbs
  rw [List.mem_filter, List.mem_range]
theorem nbs_count {E : Nat → Nat → Bool} {n v w : Nat} (hw : w < n) : (nbs E n v).count w = if E v w = true then 1 else 0 := by
  rw [count_nodup (nbs_nodup E n v)]
  simp only [nbs_mem, hw, true_and]
end gr
end Go.Proofs.YtahffafobdiogaaDoor
