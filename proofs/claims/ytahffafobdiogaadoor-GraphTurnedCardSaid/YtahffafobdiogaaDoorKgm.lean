/- Reach of the program; what is invalid. -/
import Derived.Test.YtahffafobdiogaaDoorKgl
namespace Go.Proofs.YtahffafobdiogaaDoor
set_option linter.unusedVariables false
set_option linter.unusedSimpArgs false
open Go.RowKit
namespace gr
/-- n tests in cells -/
def rowB (n : Nat) (p : Nat → Bool) : List Value := (List.range n).map fun v => Value.bool (p v)
theorem rowB_len (n : Nat) (p : Nat → Bool) : (rowB n p).length = n := by simp [rowB]
theorem rowB_get {n v : Nat} (p : Nat → Bool) (hv : v < n) : (rowB n p)[v]? = some (.bool (p v)) := by simp [rowB, hv]
theorem rowB_set {n u : Nat} (p : Nat → Bool) (x : Bool) : (rowB n p).set u (.bool x) = rowB n fun w => if w = u then x else p w := by
  apply List.ext_getElem?
  intro i
  rw [List.getElem?_set]
  by_cases h : i < n
  · rw [rowB_get _ h, rowB_get _ h, rowB_len]
    by_cases e : u = i
    · subst e
      simp [h]
    · rw [if_neg e, if_neg (Ne.symm e)]
  · rw [List.getElem?_eq_none (by rw [rowB_len]; omega), List.getElem?_eq_none (by rw [rowB_len]; omega), rowB_len]
    by_cases e : u = i
    · subst e
      simp [h]
    · rw [if_neg e]
theorem rowB_congr {n : Nat} {f g : Nat → Bool} (h : ∀ v, v < n → f v = g v) : rowB n f = rowB n g := by
  unfold rowB
  apply List.map_congr_left
  intro v hv
  rw [h v (List.mem_range.1 hv)]
theorem rowB_zero (n : Nat) : List.replicate n (Value.bool false) = rowB n fun _ => false := by
  apply List.ext_getElem?
  intro i
  by_cases h : i < n
  · rw [rowB_get _ h]
    simp [List.getElem?_replicate, h]
  · rw [List.getElem?_eq_none (by simp; omega), List.getElem?_eq_none (by rw [rowB_len]; omega)]
theorem infoBo : ∃ i, Tryd.prog.info? 4 = some i ∧ i.zero = some (.bool false) ∧ i.size = 1 ∧ i.bytes = 1 := info_parts (by kernel_rfl)
theorem make_bools (n : Nat) (hn : n ≤ 4096) (w : World) : (Instr.makeSlice 31 (.int .i64 (n : Int)) (.int .i64 (n : Int))).run Tryd.prog w = .ok (sl w.heap.size n) (w.alloc (.cells (rowB n fun _ => false).toArray 4)) := by
  obtain ⟨i0, hi, iz, is, ib⟩ := infoBo
  have hr := run_make_row (P := Tryd.prog) 31 4 i0 (.bool false) Tryd.underlying31 hi iz is rfl .i64 .i64 n (by rw [ib]; omega) (by omega) w
  rw [made_list, rowB_zero] at hr
  exact hr
set_option maxHeartbeats 1000000 in
theorem reach1_any (n u rb pb : Nat) (p : Nat → Bool) (hu : u < n) (W : World) (hB : Blk W rb 4 (rowB n p)) (hp : W.cell? ⟨pb, 0, none⟩ = some (sl rb n)) :
    Calls Tryd.prog 39 #[.int .i64 u, .pointer (some ⟨pb, 0, none⟩)] W fun e w' => e = .returned (.tuple #[]) ∧ w' = W.setCell ⟨rb, u, none⟩ (.bool true) := by
  have hc := hB.cell (rowB_get p hu)
  have hf := hB.frozen u
  have d : (u : Int) < (n : Int) := by omega
  clear hB
  generalize p u = x at *
  go_enter Tryd.func39, Tryd.ntmps39
  go_wp2
  refine bodyPost_end (v := .tuple #[]) (results_none rfl _ _ _) rfl ?_
  exact ⟨rfl, rfl⟩
theorem rcu_nil {s : Nat → List Nat} {u v : Nat} : Rcu s [] u v ↔ Rch s u v := by
  constructor
  · exact Rcu.rch
  · intro h
    induction h with
    | refl v => exact .refl v (by simp)
    | step h _ ih => exact .step (by simp) h ih
open Classical in
/-- is a vertex reached -/
noncomputable def rchB (s : Nat → List Nat) (u v : Nat) : Bool := decide (Rch s u v)
theorem rchB_iff {s : Nat → List Nat} {u v : Nat} : rchB s u v = true ↔ Rch s u v := by simp only [rchB, decide_eq_true_eq]
theorem dfs_left {s : Nat → List Nat} {u : Nat} {S L : List Nat} (h : Dfs s [u] [] [] S L) (v : Nat) : L.contains v = rchB s u v := by
  obtain ⟨M, rfl, _, hm⟩ := h.left
  rw [Bool.eq_iff_iff, rchB_iff, List.contains_iff_mem, hm, h.seen]
  simp only [List.not_mem_nil, false_or, List.mem_singleton, exists_eq_left, rcu_nil, not_false_eq_true, and_true]
/-- tests and an error -/
def NewB (n : Nat) (p : Nat → Bool) (err : Int) (w : World) (e : Ending) (w' : World) : Prop := ∃ A c, e = .returned (.tuple #[.slice A n c, .int .i64 err]) ∧ Rd w' w'.heap.size A (rowB n p) ∧ Below w.heap.size w w'
theorem inv_nil (n : Nat) : (∀ x ∈ ([] : List Nat), x ∈ ([] : List Nat)) ∧ ([] : List Nat).Nodup ∧ ∀ x ∈ ([] : List Nat), x < n := ⟨fun x hx => (by cases hx), List.nodup_nil, fun x hx => (by cases hx)⟩
set_option maxHeartbeats 1000000 in
theorem reach_walk (n fr : Nat) (E : Nat → Nat → Bool) (hn : n ≤ 4096) (hfr : fr < n) (hEn : ∀ u w, E u w = true → w < n) (w : World) (hT : Tz w) (htz : tzB < w.heap.size) (w1 : World) (hb1 : Below w.heap.size w w1) (W3 w4 : World) (h3 : W3 = (w1.alloc (.cells (rowB n fun _ => false).toArray 4)).alloc (.cells #[sl w1.heap.size n] 31)) (hL : LkE w4 W3.heap.size n E) (hb4 : Below W3.heap.size W3 w4) (hz4 : W3.heap.size + n < w4.heap.size) :
    Calls Tryd.prog 38 #[sl W3.heap.size n, .int .i64 fr, sl w4.heap.size (sizeW n), .func (.func 39) #[] #[.pointer (some ⟨w1.heap.size + 1, 0, none⟩)]] (w4.alloc (.cells (uV (List.replicate (sizeW n) 0)).toArray 69)) fun e w' => e = .returned (.tuple #[]) ∧ Below w.heap.size w w' ∧ w'.cell? ⟨w1.heap.size + 1, 0, none⟩ = some (sl w1.heap.size n) ∧ Blk w' w1.heap.size 4 (rowB n (rchB (nbs E n) fr)) := by
  have hz3 : W3.heap.size = w1.heap.size + 2 := by rw [h3]; simp
  have hb3 : Below w1.heap.size w1 W3 := by rw [h3]; exact bel_alloc (bel_box _) _
  have hrow : Blk W3 w1.heap.size 4 (rowB n fun _ => false) := by rw [h3]; exact (Blk.new _ _ _).alloc _
  have hbox : Blk W3 (w1.heap.size + 1) 31 [sl w1.heap.size n] := by
    rw [h3]
    have h := Blk.new (w1.alloc (.cells (rowB n fun _ => false).toArray 4)) [sl w1.heap.size n] 31
    rw [World.size_alloc] at h
    exact h
  have hb5 : Below w4.heap.size w4 (w4.alloc (.cells (uV (List.replicate (sizeW n) 0)).toArray 69)) := bel_box _
  have hz5 : (w4.alloc (.cells (uV (List.replicate (sizeW n) 0)).toArray 69)).heap.size = w4.heap.size + 1 := by simp
  have hsn := Blk.new w4 (uV (List.replicate (sizeW n) 0)) 69
  have hrow5 := (hrow.keep hb4).keep hb5
  have hbox5 := ((hbox.keep hb4).keep hb5).cell (i := 0) rfl
  have hL5 := hL.keep hb5
  have hT5 := (((hT.keep hb1).keep hb3).keep hb4).keep hb5
  have hb05 : Below w.heap.size w (w4.alloc (.cells (uV (List.replicate (sizeW n) 0)).toArray 69)) := (hb1.trans (hb3.mono hb1.size)).trans ((hb4.mono (by have := hb1.size; omega)).trans (hb5.mono (by have := hb1.size; omega)))
  have hw1 := hb1.size
  refine (walk_any W3.heap.size n w4.heap.size (w4.heap.size + 1) 39 _ (enters_of Tryd.func39 (by kernel_rfl) rfl) E hEn hn (fun k => k = w1.heap.size)
    (fun L W => Blk W w1.heap.size 4 (rowB n fun v => L.contains v) ∧ W.cell? ⟨w1.heap.size + 1, 0, none⟩ = some (sl w1.heap.size n) ∧ Tz W)
    (fun k hk => by omega) (by omega) (by omega) (fun k h1 h2 e => by omega) (by omega)
    (fun l W W' ⟨g1, g2, g3⟩ hb => ⟨g1.keep hb, (hb.cell (p := ⟨w1.heap.size + 1, 0, none⟩) (World.block_lt_of_cell? W _ g2)).trans g2, g3.keep hb⟩)
    (fun l W i v ⟨g1, g2, g3⟩ => ⟨g1.set_other (by omega) _ _, (World.cell?_setCell_other _ _ _ _ (by intro e; injection e with e; omega)).trans g2, g3.kp (Kp.set (S := fun k => k = w4.heap.size) W (a := ⟨w4.heap.size, i, none⟩) rfl v) (by omega)⟩)
    (fun l W h => h.2.2)
    ?_
    (uns n []) fr [] [] _ (Nat.le_refl _) hfr hL5 ⟨_, hsn, (St.empty _).congr fun u => rfl⟩ ⟨(show rowB n (fun v => ([] : List Nat).contains v) = rowB n (fun _ => false) from rfl) ▸ hrow5, hbox5, hT5⟩ (by rw [hz5]; omega) (inv_nil n)).mono ?_
  · rintro l v W hv _ _ ⟨g1, g2, g3⟩ hB
    refine (reach1_any n v w1.heap.size (w1.heap.size + 1) _ hv W g1 g2).mono ?_
    rintro e W' ⟨he, hw⟩
    have hk : Kp (fun k => k = w1.heap.size) W W' := by rw [hw]; exact Kp.set (S := fun k => k = w1.heap.size) W (a := ⟨w1.heap.size, v, none⟩) rfl _
    refine ⟨he, ⟨?_, (World.cell?_of_block (hk.2 _ (World.block_lt_of_cell? W _ g2) (by simp only; omega))).trans g2, g3.kp hk (by omega)⟩, .kp hk⟩
    rw [hw]
    have := g1.set v (.bool true)
    rw [rowB_set] at this
    rw [rowB_congr (g := fun w => if w = v then true else l.contains w) (fun u _ => ?_)]
    · exact this
    · by_cases e : u = v
      · simp [e]
      · simp [e]
  · rintro e w' ⟨he, S', L', g1, g2, ⟨g3, g4, _⟩, g5⟩
    refine ⟨he, hb05.trans (g5.low (by omega) (by omega) (fun k hk => by omega)), g4, ?_⟩
    rw [rowB_congr (g := fun v => L'.contains v) (fun u _ => (dfs_left g1 u).symm)]
    exact g3
end gr
end Go.Proofs.YtahffafobdiogaaDoor
