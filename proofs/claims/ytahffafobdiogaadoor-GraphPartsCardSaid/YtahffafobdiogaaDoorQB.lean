/- Texts of one chain, in one file. -/
import Derived.Lib.AppendZeros
import Derived.BigQuiet
import Derived.Test.YtahffafobdiogaaDoorQA
/- Order: what it calls. -/
namespace Go.Proofs.YtahffafobdiogaaDoor
set_option linter.unusedVariables false
set_option linter.unusedSimpArgs false
open Go.RowKit
namespace gr
/-- n numbers in cells -/
def rowI (n : Nat) (f : Nat → Int) : List Value := (List.range n).map fun v => Value.int .i64 (f v)
theorem rowI_len (n : Nat) (f : Nat → Int) : (rowI n f).length = n := by simp [rowI]
theorem rowI_get {n v : Nat} (f : Nat → Int) (hv : v < n) : (rowI n f)[v]? = some (.int .i64 (f v)) := by simp [rowI, hv]
theorem rowI_set {n u : Nat} (f : Nat → Int) (x : Int) : (rowI n f).set u (.int .i64 x) = rowI n fun w => if w = u then x else f w := by
  apply List.ext_getElem?
  intro i
  rw [List.getElem?_set]
  by_cases h : i < n
  · rw [rowI_get _ h, rowI_get _ h, rowI_len]
    by_cases e : u = i
    · subst e
      simp [h]
    · rw [if_neg e, if_neg (Ne.symm e)]
  · rw [List.getElem?_eq_none (by rw [rowI_len]; omega), List.getElem?_eq_none (by rw [rowI_len]; omega), rowI_len]
    by_cases e : u = i
    · subst e
      simp [h]
    · rw [if_neg e]
theorem rowI_congr {n : Nat} {f g : Nat → Int} (h : ∀ v, v < n → f v = g v) : rowI n f = rowI n g := by
  unfold rowI
  apply List.map_congr_left
  intro v hv
  rw [h v (List.mem_range.1 hv)]
theorem rowI_zero (n : Nat) : List.replicate n (Value.int .i64 0) = rowI n fun _ => 0 := by
  apply List.ext_getElem?
  intro i
  by_cases h : i < n
  · rw [rowI_get _ h]
    simp [List.getElem?_replicate, h]
  · rw [List.getElem?_eq_none (by simp; omega), List.getElem?_eq_none (by rw [rowI_len]; omega)]
theorem infoI : ∃ i, Tryd.prog.info? 3 = some i ∧ i.zero = some (.int .i64 0) ∧ i.size = 1 ∧ i.bytes = 8 := info_parts (by kernel_rfl)
theorem make_ints (n : Nat) (hn : n ≤ 4096) (w : World) : (Instr.makeSlice 24 (.int .i64 (n : Int)) (.int .i64 (n : Int))).run Tryd.prog w = .ok (sl w.heap.size n) (w.alloc (.cells (rowI n fun _ => 0).toArray 3)) := by
  obtain ⟨i0, hi, iz, is, ib⟩ := infoI
  have hr := run_make_row (P := Tryd.prog) 24 3 i0 (.int .i64 0) Tryd.underlying24 hi iz is rfl .i64 .i64 n (by rw [ib]; omega) (by omega) w
  rw [made_list, rowI_zero] at hr
  exact hr
set_option maxHeartbeats 1000000 in
theorem order1_any (n u mb pm : Nat) (f : Nat → Int) (hu : u < n) (hf0 : 0 ≤ f u) (hf1 : f u ≤ 10000) (W : World) (hB : Blk W mb 3 (rowI n f)) (hp : W.cell? ⟨pm, 0, none⟩ = some (sl mb n)) :
    Calls Tryd.prog 26 #[.int .i64 u, .pointer (some ⟨pm, 0, none⟩)] W fun e w' => e = .returned (.tuple #[]) ∧ w' = W.setCell ⟨mb, u, none⟩ (.int .i64 (f u + 1)) := by
  have hc := hB.cell (rowI_get f hu)
  have hf := hB.frozen u
  have d : (u : Int) < (n : Int) := by omega
  clear hB
  generalize f u = x at *
  go_enter Tryd.func26, Tryd.ntmps26
  go_wp2
  refine bodyPost_end (v := .tuple #[]) (results_none rfl _ _ _) rfl ?_
  exact ⟨rfl, rfl⟩
set_option maxHeartbeats 2000000 in
theorem order2_any (n u mb pm rb pr : Nat) (f : Nat → Int) (ws : List Nat) (p : Nat → Bool) (hu : u < n) (hn : n ≤ 4096) (hf0 : 0 ≤ f u) (hf1 : f u ≤ 10000) (W : World) (hB : Blk W mb 3 (rowI n f)) (hp : W.cell? ⟨pm, 0, none⟩ = some (sl mb n))
    (hR : Blk W rb 69 (uV ws)) (hS : St (sizeW n) ws p) (hq : W.cell? ⟨pr, 0, none⟩ = some (sl rb (sizeW n))) (hmr : mb ≠ rb) (hpr : pr ≠ mb) (hpm : pm ≠ mb) :
    Calls Tryd.prog 31 #[.int .i64 u, .pointer (some ⟨pm, 0, none⟩), .pointer (some ⟨pr, 0, none⟩)] W fun e w' => e = .returned (.tuple #[]) ∧ Blk w' mb 3 (rowI n fun w => if w = u then f u - 1 else f w) ∧ (∃ ws', Blk w' rb 69 (uV ws') ∧ St (sizeW n) ws' fun w => p w || (decide (f u = 1) && decide (w = u))) ∧ Kp (fun k => k = mb ∨ k = rb) W w' := by
  have hc := hB.cell (rowI_get f hu)
  have hf := hB.frozen u
  have d : (u : Int) < (n : Int) := by omega
  obtain ⟨x, hx⟩ : ∃ x, f u = x := ⟨_, rfl⟩
  rw [hx] at hc hf0 hf1 ⊢
  have hc2 : (W.setCell ⟨mb, u, none⟩ (.int .i64 (x - 1))).cell? ⟨mb, u, none⟩ = some (.int .i64 (x - 1)) := World.cell?_setCell_same W ⟨mb, u, none⟩ _ hc
  have hp2 : (W.setCell ⟨mb, u, none⟩ (.int .i64 (x - 1))).cell? ⟨pm, 0, none⟩ = some (sl mb n) := (World.cell?_setCell_other _ _ _ _ (by intro e; injection e with e; omega)).trans hp
  have hq2 : (W.setCell ⟨mb, u, none⟩ (.int .i64 (x - 1))).cell? ⟨pr, 0, none⟩ = some (sl rb (sizeW n)) := (World.cell?_setCell_other _ _ _ _ (by intro e; injection e with e; omega)).trans hq
  have hB2 := hB.set u (.int .i64 (x - 1))
  rw [rowI_set] at hB2
  have hR2 : Blk (W.setCell ⟨mb, u, none⟩ (.int .i64 (x - 1))) rb 69 (uV ws) := hR.set_other (Ne.symm hmr) u _
  have hK2 : Kp (fun k => k = mb ∨ k = rb) W (W.setCell ⟨mb, u, none⟩ (.int .i64 (x - 1))) := Kp.set W (.inl rfl) _
  by_cases h1 : x = 1
  · have HA := Lib.hid ((add_any rb (sizeW n) u ws p _ hR2 hS (by unfold sizeW; omega) (size_div hu)).mono (R' := fun e w' => e = .returned (.tuple #[]) ∧ Blk w' mb 3 (rowI n fun w => if w = u then x - 1 else f w) ∧ (∃ ws', Blk w' rb 69 (uV ws') ∧ St (sizeW n) ws' fun w => p w || (decide (x = 1) && decide (w = u))) ∧ Kp (fun k => k = mb ∨ k = rb) W w') fun e w' ⟨he, q, hw⟩ => by
      subst hw
      refine ⟨he, hB2.set_other hmr _ _, ⟨addW ws u, ?_, (hS.add (size_div hu)).congr fun w => by simp [h1]⟩, hK2.trans ((Kp.set _ (a := ⟨rb, u / 64, none⟩) (.inr rfl) _).trans (Kp.below (below_self _ _ q)))⟩
      have := hR2.set (u / 64) (.int .u64 ((ws.getD (u / 64) 0 ||| 2 ^ (u % 64) : Nat) : Int))
      rw [uV_set] at this
      exact this)
    clear hB hB2 hR hR2 hS hK2 hx
    subst h1
    go_enter Tryd.func31, Tryd.ntmps31
    go_wp2_with (go_at_call 28; refine HA.out.mono ?_; rintro e w1 ⟨rfl, h⟩)
    refine bodyPost_end (v := .tuple #[]) (results_none rfl _ _ _) rfl ?_
    exact ⟨rfl, h⟩
  · have R0 := Lib.hid (show Blk (W.setCell ⟨mb, u, none⟩ (.int .i64 (x - 1))) mb 3 (rowI n fun w => if w = u then x - 1 else f w) ∧ (∃ ws', Blk (W.setCell ⟨mb, u, none⟩ (.int .i64 (x - 1))) rb 69 (uV ws') ∧ St (sizeW n) ws' fun w => p w || (decide (x = 1) && decide (w = u))) ∧ Kp (fun k => k = mb ∨ k = rb) W (W.setCell ⟨mb, u, none⟩ (.int .i64 (x - 1))) from
      ⟨hB2, ⟨ws, hR2, hS.congr fun w => by simp [h1]⟩, hK2⟩)
    clear hB hB2 hR hR2 hS hK2 hx
    have h2 : ¬ x - 1 = 0 := by omega
    go_enter Tryd.func31, Tryd.ntmps31
    go_wp2
    refine bodyPost_end (v := .tuple #[]) (results_none rfl _ _ _) rfl ?_
    exact ⟨rfl, R0.out⟩
/-- how often a name comes in a list without repetitions -/
theorem count_nodup {l : List Nat} (h : l.Nodup) (w : Nat) : l.count w = if w ∈ l then 1 else 0 := by
  induction l with
  | nil => simp
  | cons a l ih =>
    rw [List.nodup_cons] at h
    rw [List.count_cons, ih h.2]
    by_cases e : a = w
    · subst e
      simp [h.1]
    · have e2 : ¬ w = a := fun x => e x.symm
      simp [e, e2]
theorem nbs_nodup (E : Nat → Nat → Bool) (n v : Nat) : (nbs E n v).Nodup := List.Nodup.sublist List.filter_sublist List.nodup_range
theorem nbs_mem {E : Nat → Nat → Bool} {n v w : Nat} : w ∈ nbs E n v ↔ w < n ∧ E v w = true := by
  unfold nbs
  rw [List.mem_filter, List.mem_range]
theorem nbs_count {E : Nat → Nat → Bool} {n v w : Nat} (hw : w < n) : (nbs E n v).count w = if E v w = true then 1 else 0 := by
  rw [count_nodup (nbs_nodup E n v)]
  simp only [nbs_mem, hw, true_and]
end gr
end Go.Proofs.YtahffafobdiogaaDoor
/- Order: what its loops keep. -/
namespace Go.Proofs.YtahffafobdiogaaDoor
set_option linter.unusedVariables false
set_option linter.unusedSimpArgs false
open Go.RowKit
namespace gr
theorem mis_le (E : Nat → Nat → Bool) (n : Nat) (out : List Nat) (w : Nat) : mis E n out w ≤ n := by
  unfold mis
  exact Nat.le_trans List.countP_le_length (by simp)
theorem nxt_filter {E : Nat → Nat → Bool} {n : Nat} {out : List Nat} {ws : List Nat} (h : St (sizeW n) ws fun w => decide (w < n) && rdy E n out w) : (memW ws).headD 0 = (nxt E n out).getD 0 ∧ (!(memW ws).isEmpty) = (nxt E n out).isSome := by
  have e : memW ws = (List.range n).filter (rdy E n out) := by
    rw [h.list (n := n) (fun v hv => by simp at hv; exact hv.1)]
    apply List.filter_congr
    intro v hv
    simp [List.mem_range.1 hv]
  have e2 : ((List.range n).filter (rdy E n out)).head? = nxt E n out := by
    unfold nxt
    rw [List.head?_filter]
  rw [e, ← e2]
  cases (List.range n).filter (rdy E n out) <;> simp
theorem kah_some {E : Nat → Nat → Bool} {n v : Nat} {out : List Nat} (ho : Ord E n out) (h : nxt E n out = some v) (hk : kah E n (n - out.length) out = kah E n n []) : Ord E n (out ++ [v]) ∧ out.length < n ∧ kah E n (n - (out ++ [v]).length) (out ++ [v]) = kah E n n [] := by
  obtain ⟨h1, h2⟩ := nxt_some h
  have ho2 := ho.add h1 h2
  have hl := ho2.len
  rw [List.length_append, List.length_singleton] at hl
  refine ⟨ho2, by omega, ?_⟩
  rw [← hk]
  obtain ⟨k, hk2⟩ : ∃ k, n - out.length = k + 1 := ⟨n - out.length - 1, by omega⟩
  rw [hk2, List.length_append, List.length_singleton]
  have e : n - (out.length + 1) = k := by omega
  rw [e]
  conv => rhs; unfold kah
  rw [h]
theorem kah_none {E : Nat → Nat → Bool} {n : Nat} {out : List Nat} (h : nxt E n out = none) (hk : kah E n (n - out.length) out = kah E n n []) : out = kah E n n [] := by
  rw [← hk]
  cases n - out.length with
  | zero => rfl
  | succ k => unfold kah; rw [h]
/-- the set of the ready behind the visits -/
theorem rdy_step {E : Nat → Nat → Bool} {n v : Nat} {out : List Nat} (ho : Ord E n out) (h : nxt E n out = some v) (w : Nat) :
    ((decide (w < n) && rdy E n out w && !decide (w = v)) || ((nbs E n v).contains w && decide (mis E n (out ++ [v]) w = 0))) = (decide (w < n) && rdy E n (out ++ [v]) w) := by
  obtain ⟨hv, hr⟩ := nxt_some h
  obtain ⟨hv1, hv2⟩ := mis_rdy.1 hr
  have hms := mis_snoc (E := E) (n := n) hv hv1 w
  rw [Bool.eq_iff_iff]
  simp only [Bool.or_eq_true, Bool.and_eq_true, decide_eq_true_eq, Bool.not_eq_true', decide_eq_false_iff_not, List.contains_iff_mem, nbs_mem, mis_rdy, List.mem_append, List.mem_singleton]
  by_cases he : E v w = true
  · rw [if_pos he] at hms
    constructor
    · rintro (⟨⟨h1, h2, h3⟩, h4⟩ | ⟨⟨h1, _⟩, h2⟩)
      · omega
      · refine ⟨h1, ?_, h2⟩
        rintro (h5 | h5)
        · obtain ⟨p, q, hpq⟩ := List.append_of_mem h5
          have := ho.2.2 p w q hpq v hv he
          exact hv1 (by rw [hpq]; simp [this])
        · rw [h5] at hms
          omega
    · rintro ⟨h1, h2, h3⟩
      exact .inr ⟨⟨h1, he⟩, h3⟩
  · rw [if_neg he] at hms
    constructor
    · rintro (⟨⟨h1, h2, h3⟩, h4⟩ | ⟨⟨h1, h2⟩, _⟩)
      · exact ⟨h1, fun x => x.elim h2 h4, by omega⟩
      · exact absurd h2 he
    · rintro ⟨h1, h2, h3⟩
      exact .inl ⟨⟨h1, fun x => h2 (.inl x), by omega⟩, fun x => h2 (.inr x)⟩
theorem tz_lt {w : World} (h : Tz w) : tzB < w.heap.size := by
  have h1 := h 0 (by decide)
  exact World.block_lt_of_cell? w _ h1
theorem Tz.low {w w' : World} {B : Nat} (h : Tz w) (hb : Below B w w') (ht : tzB < B) : Tz w' := fun j hj => (hb.cell (p := ⟨tzB, j, none⟩) ht).trans (h j hj)
theorem LkE.low {w w' : World} {B lb n : Nat} {E : Nat → Nat → Bool} (h : LkE w lb n E) (hb : Below B w w') (ht : lb + n < B) : LkE w' lb n E := h.to fun k _ h2 => hb.block k (by omega)
/-- what the call has in memory -/
structure Ors (w W : World) (lb mb pm rb pr n B : Nat) (E : Nat → Nat → Bool) (f : Nat → Int) (p : Nat → Bool) : Prop where
  lk : LkE W lb n E
  tz : Tz W
  mi : Blk W mb 3 (rowI n f)
  mc : W.cell? ⟨pm, 0, none⟩ = some (sl mb n)
  rs : ∃ ws, Blk W rb 69 (uV ws) ∧ St (sizeW n) ws p
  rc : W.cell? ⟨pr, 0, none⟩ = some (sl rb (sizeW n))
  sz : B ≤ W.heap.size
  low : Below w.heap.size w W
  fit : tzB < w.heap.size ∧ w.heap.size ≤ lb ∧ lb + n < mb ∧ mb < pm ∧ pm < rb ∧ rb < pr ∧ pr < B
theorem Ors.to {w W W' : World} {lb mb pm rb pr n B : Nat} {E : Nat → Nat → Bool} {f : Nat → Int} {p : Nat → Bool} (h : Ors w W lb mb pm rb pr n B E f p) (hb : Below B W W') : Ors w W' lb mb pm rb pr n B E f p := by
  obtain ⟨f1, f2, f3, f4, f5, f6, f7⟩ := h.fit
  obtain ⟨ws, h1, h2⟩ := h.rs
  exact ⟨h.lk.low hb (by omega), h.tz.low hb (by omega), h.mi.below hb (by omega), (hb.cell (p := ⟨pm, 0, none⟩) (by simp only; omega)).trans h.mc, ⟨ws, h1.below hb (by omega), h2⟩, (hb.cell (p := ⟨pr, 0, none⟩) (by simp only; omega)).trans h.rc, Nat.le_trans h.sz hb.size, h.low.trans (hb.mono (by omega)), h.fit⟩
theorem Ors.congr {w W : World} {lb mb pm rb pr n B : Nat} {E : Nat → Nat → Bool} {f g : Nat → Int} {p q : Nat → Bool} (h : Ors w W lb mb pm rb pr n B E f p) (hf : ∀ v, v < n → f v = g v) (hp : ∀ v, p v = q v) : Ors w W lb mb pm rb pr n B E g q := by
  obtain ⟨ws, h1, h2⟩ := h.rs
  exact ⟨h.lk, h.tz, by rw [← rowI_congr hf]; exact h.mi, h.mc, ⟨ws, h1, h2.congr hp⟩, h.rc, h.sz, h.low, h.fit⟩
/-- behind calls that write the two rows alone -/
theorem Ors.kp {w W W' : World} {lb mb pm rb pr n B : Nat} {E : Nat → Nat → Bool} {f g : Nat → Int} {p q : Nat → Bool} (h : Ors w W lb mb pm rb pr n B E f p) (hk : Kp (fun k => k = mb ∨ k = rb) W W') (hm : Blk W' mb 3 (rowI n g)) (hr : ∃ ws, Blk W' rb 69 (uV ws) ∧ St (sizeW n) ws q) : Ors w W' lb mb pm rb pr n B E g q := by
  obtain ⟨f1, f2, f3, f4, f5, f6, f7⟩ := h.fit
  have hsz := h.sz
  have hc : ∀ b v, b ≠ mb → b ≠ rb → W.cell? ⟨b, 0, none⟩ = some v → W'.cell? ⟨b, 0, none⟩ = some v := fun b v h1 h2 hv => (World.cell?_of_block (hk.2 b (World.block_lt_of_cell? W _ hv) (fun x => x.elim h1 h2))).trans hv
  exact ⟨h.lk.kp hk (fun k h1 h2 x => by omega), h.tz.kp hk (fun x => by omega), hm, hc _ _ (by omega) (by omega) h.mc, hr, hc _ _ (by omega) (by omega) h.rc, Nat.le_trans h.sz hk.1, h.low.trans (hk.low (Nat.le_trans (by omega) hsz) (fun k x => by omega)), h.fit⟩
/-- the visits of what comes behind v -/
theorem visit2 {w W : World} {lb mb pm rb pr n B v : Nat} {E : Nat → Nat → Bool} {out : List Nat} (hn : n ≤ 4096) (hEn : ∀ u w, E u w = true → w < n) (ho : Ord E n out) (hx : nxt E n out = some v)
    (h : Ors w W lb mb pm rb pr n B E (fun u => (mis E n out u : Nat)) fun u => decide (u < n) && rdy E n out u && !decide (u = v)) :
    Calls Tryd.prog 25 #[sl lb n, .int .i64 v, .func (.func 31) #[] #[.pointer (some ⟨pm, 0, none⟩), .pointer (some ⟨pr, 0, none⟩)]] W fun e W' => e = .returned (.tuple #[]) ∧ Ors w W' lb mb pm rb pr n B E (fun u => (mis E n (out ++ [v]) u : Nat)) (fun u => decide (u < n) && rdy E n (out ++ [v]) u) ∧ Kp (fun k => k = mb ∨ k = rb) W W' := by
  obtain ⟨hv, hr⟩ := nxt_some hx
  obtain ⟨hv1, hv2⟩ := mis_rdy.1 hr
  obtain ⟨f1, f2, f3, f4, f5, f6, f7⟩ := h.fit
  have hsz := h.sz
  refine (each_any lb n v 31 _ (enters_of Tryd.func31 (by kernel_rfl) rfl) E hEn hn hv (fun k => k = mb ∨ k = rb)
    (fun pre U => Ors w U lb mb pm rb pr n B E (fun u => ((mis E n out u : Nat) : Int) - (pre.count u : Nat)) fun u => (decide (u < n) && rdy E n out u && !decide (u = v)) || (pre.contains u && decide (mis E n (out ++ [v]) u = 0)))
    W (fun k hk => by omega) (fun x => by omega) (fun k h1 h2 x => by omega) (fun l U U' hU hb => hU.to (hb.mono hU.sz)) ?_ h.tz h.lk (h.congr (fun u _ => by simp) (fun u => by simp))).mono ?_
  · intro pre b r U hpre hU
    have hbn : b ∈ nbs E n v := by rw [← hpre]; simp
    obtain ⟨hb1, hb2⟩ := nbs_mem.1 hbn
    have hnd := nbs_nodup E n v
    rw [← hpre] at hnd
    have hnp : b ∉ pre := fun hx => (List.nodup_append.1 hnd).2.2 b hx b List.mem_cons_self rfl
    have hc0 : pre.count b = 0 := List.count_eq_zero.2 hnp
    have hms := mis_snoc (E := E) (n := n) hv hv1 b
    rw [if_pos hb2] at hms
    have hle := mis_le E n out b
    obtain ⟨ws, hw1, hw2⟩ := hU.rs
    refine (order2_any n b mb pm rb pr _ ws _ hb1 hn (by simp only [hc0]; omega) (by simp only [hc0]; omega) U hU.mi hU.mc hw1 hw2 hU.rc (by omega) (by omega) (by omega)).mono ?_
    rintro e U' ⟨he, g1, ⟨ws', g2, g3⟩, g4⟩
    refine ⟨he, (hU.kp g4 g1 ⟨ws', g2, g3⟩).congr (fun u hu => ?_) (fun u => ?_), g4⟩
    · rw [List.count_append, List.count_singleton]
      by_cases e : u = b
      · subst e
        simp [hc0]
      · have e2 : (b == u) = false := by simp; exact fun x => e x.symm
        rw [if_neg e, e2]
        simp
    · simp only [hc0]
      rw [Bool.eq_iff_iff]
      simp only [Bool.or_eq_true, Bool.and_eq_true, decide_eq_true_eq, List.contains_iff_mem, List.mem_append, List.mem_singleton]
      constructor
      · rintro ((h1 | ⟨h1, h2⟩) | ⟨h1, rfl⟩)
        · exact .inl h1
        · exact .inr ⟨.inl h1, h2⟩
        · exact .inr ⟨.inr rfl, by omega⟩
      · rintro (h1 | ⟨h1 | rfl, h2⟩)
        · exact .inl (.inl h1)
        · exact .inl (.inr ⟨h1, h2⟩)
        · exact .inr ⟨by omega, rfl⟩
  · rintro e U ⟨he, hU, hk⟩
    refine ⟨he, hU.congr (fun u hu => ?_) (fun u => rdy_step ho hx u), hk⟩
    have hms := mis_snoc (E := E) (n := n) hv hv1 u
    rw [nbs_count hu]
    by_cases e : E v u = true
    · rw [if_pos e] at hms ⊢; omega
    · rw [if_neg e] at hms ⊢; omega
end gr
end Go.Proofs.YtahffafobdiogaaDoor
/- Order. -/
namespace Go.Proofs.YtahffafobdiogaaDoor
set_option linter.unusedVariables false
set_option linter.unusedSimpArgs false
open Go.RowKit
namespace gr
/-- vertices in cells -/
def vV (l : List Nat) : List Value := l.map fun (x : Nat) => Value.int .i64 ((x : Nat) : Int)
theorem vV_len (l : List Nat) : (vV l).length = l.length := by simp [vV]
theorem vV_snoc (l : List Nat) (a : Nat) : vV l ++ [.int .i64 (a : Int)] = vV (l ++ [a]) := by simp [vV]
/-- a list and an error -/
def NewI (l : List Nat) (err : Int) (w : World) (e : Ending) (w' : World) : Prop := ∃ A c, e = .returned (.tuple #[.slice A l.length c, .int .i64 err]) ∧ Rd w' w'.heap.size A (vV l) ∧ Below w.heap.size w w'
theorem row1 (w : World) (x : Value) (t : TypeId) : ∀ j u, [x][j]? = some u → (w.alloc (.cells #[x] t)).cell? ((⟨w.heap.size, 0, none⟩ : Addr).add j) = some u := by
  intro j u hu
  rcases j with _ | j
  · simp at hu
    subst hu
    rw [add_zero']
    simp
  · simp at hu
theorem one_int (x : Int) : ∀ u ∈ [Value.int .i64 x], u.oneCell' = true := by
  intro u hu
  simp at hu
  subst hu
  rfl
theorem ord_add {w W : World} {lb mb pm rb pr n B : Nat} {E : Nat → Nat → Bool} {f : Nat → Int} {p : Nat → Bool} (hn : n ≤ 4096) (h : Ors w W lb mb pm rb pr n B E f p) {v : Nat} (hv : v < n) : Calls Tryd.prog 28 #[sl rb (sizeW n), .int .i64 v] W fun e W' => e = .returned (.tuple #[]) ∧ Ors w W' lb mb pm rb pr n B E f (fun u => p u || decide (u = v)) ∧ Kp (fun k => k = mb ∨ k = rb) W W' := by
  obtain ⟨ws, h1, h2⟩ := h.rs
  refine (add_any rb (sizeW n) v ws p W h1 h2 (by unfold sizeW; omega) (size_div hv)).mono ?_
  rintro e W' ⟨he, q, rfl⟩
  have hk : Kp (fun k => k = mb ∨ k = rb) W ((W.setCell ⟨rb, v / 64, none⟩ (.int .u64 ((ws.getD (v / 64) 0 ||| 2 ^ (v % 64) : Nat) : Int))).drewN q) := (Kp.set W (a := ⟨rb, v / 64, none⟩) (.inr rfl) _).trans (Kp.below (below_self _ _ q))
  obtain ⟨f1, f2, f3, f4, f5, f6, f7⟩ := h.fit
  refine ⟨he, h.kp hk (h.mi.set_other (by omega) _ _) ⟨addW ws v, ?_, h2.add (size_div hv)⟩, hk⟩
  have := h1.set (v / 64) (.int .u64 ((ws.getD (v / 64) 0 ||| 2 ^ (v % 64) : Nat) : Int))
  rw [uV_set] at this
  exact this
theorem ord_rem {w W : World} {lb mb pm rb pr n B : Nat} {E : Nat → Nat → Bool} {f : Nat → Int} {p : Nat → Bool} (hn : n ≤ 4096) (h : Ors w W lb mb pm rb pr n B E f p) {v : Nat} (hv : v < n) : Calls Tryd.prog 30 #[sl rb (sizeW n), .int .i64 v] W fun e W' => e = .returned (.tuple #[]) ∧ Ors w W' lb mb pm rb pr n B E f (fun u => p u && !decide (u = v)) ∧ Kp (fun k => k = mb ∨ k = rb) W W' := by
  obtain ⟨ws, h1, h2⟩ := h.rs
  refine (remove_any rb (sizeW n) v ws p W h1 h2 (by unfold sizeW; omega) (size_div hv)).mono ?_
  rintro e W' ⟨he, q, rfl⟩
  have hk : Kp (fun k => k = mb ∨ k = rb) W ((W.setCell ⟨rb, v / 64, none⟩ (.int .u64 ((ws.getD (v / 64) 0 &&& (18446744073709551615 - 2 ^ (v % 64) % 18446744073709551616) : Nat) : Int))).drewN q) := (Kp.set W (a := ⟨rb, v / 64, none⟩) (.inr rfl) _).trans (Kp.below (below_self _ _ q))
  obtain ⟨f1, f2, f3, f4, f5, f6, f7⟩ := h.fit
  refine ⟨he, h.kp hk (h.mi.set_other (by omega) _ _) ⟨remW ws v, ?_, h2.remove (size_div hv)⟩, hk⟩
  have := h1.set (v / 64) (.int .u64 ((ws.getD (v / 64) 0 &&& (18446744073709551615 - 2 ^ (v % 64) % 18446744073709551616) : Nat) : Int))
  rw [uV_set] at this
  exact this
theorem ord_least {w W : World} {lb mb pm rb pr n B : Nat} {E : Nat → Nat → Bool} {f : Nat → Int} {out : List Nat} (hn : n ≤ 4096) (h : Ors w W lb mb pm rb pr n B E f fun u => decide (u < n) && rdy E n out u) : Calls Tryd.prog 29 #[sl rb (sizeW n)] W fun e W' => e = .returned (.tuple #[.int .i64 (((nxt E n out).getD 0 : Nat) : Int), .bool (nxt E n out).isSome]) ∧ W' = W := by
  obtain ⟨ws, h1, h2⟩ := h.rs
  obtain ⟨e1, e2⟩ := nxt_filter h2
  refine (least_any rb (sizeW n) ws _ W h.tz h1 h2 (by unfold sizeW; omega)).mono ?_
  rintro e W' ⟨he, hw⟩
  rw [e1, e2] at he
  exact ⟨he, hw⟩
/-- what the first loop keeps -/
structure Or1 (w W : World) (lb mb pm n : Nat) (E : Nat → Nat → Bool) (f : Nat → Int) : Prop where
  lk : LkE W lb n E
  tz : Tz W
  mi : Blk W mb 3 (rowI n f)
  mc : W.cell? ⟨pm, 0, none⟩ = some (sl mb n)
  low : Below w.heap.size w W
  sz : pm < W.heap.size
  fit : tzB < w.heap.size ∧ w.heap.size ≤ lb ∧ lb + n < mb ∧ mb < pm
theorem Or1.keep {w W W' : World} {lb mb pm n : Nat} {E : Nat → Nat → Bool} {f : Nat → Int} (h : Or1 w W lb mb pm n E f) (hb : Below W.heap.size W W') : Or1 w W' lb mb pm n E f := by
  obtain ⟨f1, f2, f3, f4⟩ := h.fit
  have hz := h.sz
  exact ⟨h.lk.keep hb, h.tz.keep hb, h.mi.keep hb, (hb.cell (p := ⟨pm, 0, none⟩) hz).trans h.mc, h.low.trans (hb.mono (by omega)), Nat.lt_of_lt_of_le hz hb.size, h.fit⟩
theorem Or1.congr {w W : World} {lb mb pm n : Nat} {E : Nat → Nat → Bool} {f g : Nat → Int} (h : Or1 w W lb mb pm n E f) (hf : ∀ v, v < n → f v = g v) : Or1 w W lb mb pm n E g :=
  ⟨h.lk, h.tz, by rw [← rowI_congr hf]; exact h.mi, h.mc, h.low, h.sz, h.fit⟩
theorem Or1.set {w W : World} {lb mb pm n u : Nat} {E : Nat → Nat → Bool} {f : Nat → Int} {x : Int} (h : Or1 w W lb mb pm n E f) (hu : u < n) : Or1 w (W.setCell ⟨mb, u, none⟩ (.int .i64 x)) lb mb pm n E (fun v => if v = u then x else f v) ∧ Kp (fun k => k = mb) W (W.setCell ⟨mb, u, none⟩ (.int .i64 x)) := by
  obtain ⟨f1, f2, f3, f4⟩ := h.fit
  have hk : Kp (fun k => k = mb) W (W.setCell ⟨mb, u, none⟩ (.int .i64 x)) := Kp.set (S := fun k => k = mb) W (a := ⟨mb, u, none⟩) rfl _
  refine ⟨⟨h.lk.kp hk (fun k _ _ e => by omega), h.tz.kp hk (fun e => by omega), ?_, (World.cell?_setCell_other _ _ _ _ (by intro e; injection e with e; omega)).trans h.mc, h.low.setCell (p := ⟨mb, u, none⟩) (by simp only; omega) _, by rw [World.size_setCell]; exact h.sz, h.fit⟩, hk⟩
  have := h.mi.set u (.int .i64 x)
  rw [rowI_set] at this
  exact this
theorem visit1 {w W : World} {lb mb pm n v : Nat} {E : Nat → Nat → Bool} (hn : n ≤ 4096) (hEn : ∀ u w, E u w = true → w < n) (hv : v < n) (h : Or1 w W lb mb pm n E fun u => ((List.range v).countP fun t => E t u : Nat)) :
    Calls Tryd.prog 25 #[sl lb n, .int .i64 v, .func (.func 26) #[] #[.pointer (some ⟨pm, 0, none⟩)]] W fun e W' => e = .returned (.tuple #[]) ∧ Or1 w W' lb mb pm n E (fun u => ((List.range (v + 1)).countP fun t => E t u : Nat)) := by
  obtain ⟨f1, f2, f3, f4⟩ := h.fit
  have hz := h.sz
  refine (each_any lb n v 26 _ (enters_of Tryd.func26 (by kernel_rfl) rfl) E hEn hn hv (fun k => k = mb)
    (fun pre U => Or1 w U lb mb pm n E (fun u => (((List.range v).countP fun t => E t u : Nat) : Int) + (pre.count u : Nat)))
    W (fun k hk => by omega) (fun x => by omega) (fun k h1 h2 x => by omega) (fun l U U' hU hb => hU.keep hb) ?_ h.tz h.lk (h.congr (fun u _ => by simp))).mono ?_
  · intro pre b r U hpre hU
    have hbn : b ∈ nbs E n v := by rw [← hpre]; simp
    obtain ⟨hb1, hb2⟩ := nbs_mem.1 hbn
    have hnd := nbs_nodup E n v
    rw [← hpre] at hnd
    have hnp : b ∉ pre := fun hx => (List.nodup_append.1 hnd).2.2 b hx b List.mem_cons_self rfl
    have hc0 : pre.count b = 0 := List.count_eq_zero.2 hnp
    have hle : (List.range v).countP (fun t => E t b) ≤ v := Nat.le_trans List.countP_le_length (by simp)
    refine (order1_any n b mb pm _ hb1 (by simp only [hc0]; omega) (by simp only [hc0]; omega) U hU.mi hU.mc).mono ?_
    rintro e U' ⟨he, rfl⟩
    obtain ⟨g1, g2⟩ := hU.set (x := (((List.range v).countP fun t => E t b : Nat) : Int) + (pre.count b : Nat) + 1) hb1
    refine ⟨he, g1.congr fun u hu => ?_, g2⟩
    rw [List.count_append, List.count_singleton]
    by_cases e : u = b
    · subst e
      simp [hc0]
    · have e2 : (b == u) = false := by simp; exact fun x => e x.symm
      rw [if_neg e, e2]
      simp
  · rintro e U ⟨he, hU, hk⟩
    refine ⟨he, hU.congr fun u hu => ?_⟩
    rw [nbs_count hu, List.range_succ, List.countP_append, List.countP_singleton]
    push_cast
    split <;> rfl
end gr
end Go.Proofs.YtahffafobdiogaaDoor
/- Order of the program. -/
namespace Go.Proofs.YtahffafobdiogaaDoor
set_option linter.unusedVariables false
set_option linter.unusedSimpArgs false
open Go.RowKit
namespace gr
/-- is every vertex in the order -/
def fullB (n : Nat) (l : List Nat) : Bool := decide (n ≤ l.length)
def ordL (n : Nat) (ns : List (Nat × Nat)) : List Nat := if fullB n (kah (eK ns) n n []) then kah (eK ns) n n [] else []
def ordX (n : Nat) (ns : List (Nat × Nat)) : Int := if fullB n (kah (eK ns) n n []) then 0 else 13
theorem eK_lt {n : Nat} {ns : List (Nat × Nat)} (hr : ∀ e ∈ ns, e.1 < n ∧ e.2 < n) : ∀ u w, eK ns u w = true → w < n := fun u w h => by
  unfold eK at h
  exact (hr _ (List.contains_iff_mem.1 h)).2
def lenV : Value → Nat | .slice _ n _ => n | _ => 0
set_option maxRecDepth 100000 in
set_option maxHeartbeats 8000000 in
theorem order_ok (n : Nat) (A : Option Addr) (c : Nat) (ns : List (Nat × Nat)) (hn : n ≤ 4096) (hr : ∀ e ∈ ns, e.1 < n ∧ e.2 < n) (hl : ns.length ≤ 1048576) (w : World) (hT : Tz w) (hE : RdE w w.heap.size A (eN ns)) (hv : valB n (eN ns) = true) :
    Calls Tryd.prog 10 #[.int .i64 n, .slice A ns.length c] w (NewI (ordL n ns) (ordX n ns) w) := by
  obtain ⟨E, hEE⟩ : ∃ E, eK ns = E := ⟨_, rfl⟩
  have hEn : ∀ u w, E u w = true → w < n := hEE ▸ eK_lt hr
  have KV := Lib.hid (valid_any n A c (eN ns) (by rw [eN_len]; exact hl) w hE)
  rw [hv, eN_len] at KV
  have htz := tz_lt hT
  have KF := Lib.hid (fun W (hb : Below w.heap.size w W) => (forward_any n hn A c ns hr hl W ((hE.below hb).more' hb.size)).mono (R' := fun e w' => e = .returned (sl W.heap.size n) ∧ LkE w' W.heap.size n E ∧ Below W.heap.size W w' ∧ Tz w' ∧ Below w.heap.size w w' ∧ W.heap.size + n < w'.heap.size) fun e w' ⟨h1, h2, h3⟩ => by
    rw [hEE] at h2
    exact ⟨h1, h2, h3, (hT.keep hb).keep h3, hb.trans (h3.mono hb.size), by
      rcases Nat.eq_zero_or_pos n with h0 | h0
      · have := h2.lt0; omega
      · have := h2.lt (v := n - 1) (by omega); omega⟩)
  have hmk := fun W => make_ints n hn W
  obtain ⟨R, hR⟩ : ∃ R, NewI (ordL n ns) (ordX n ns) w = R := ⟨_, rfl⟩
  rw [hR]
  have HR := Lib.hid hR
  have HEE := Lib.hid hEE
  clear hT hE hv hr hR hEE
  go_enter Tryd.func10, Tryd.ntmps10
  go_wp2_with (first | (go_at_call 23; refine KV.out.mono ?_; clear KV; rintro e w1 ⟨rfl, hb1⟩) | (go_at_call 24; refine (KF.out _ hb1).mono ?_; clear KF; rintro e w2 ⟨rfl, hL2, hb2, hT2, hw2, hz2⟩))
  have h1 : Or1 w ((w2.alloc (.cells (rowI n fun x => 0).toArray 3)).alloc (.cells #[.slice (some ⟨w2.heap.size, 0, none⟩) n n] 24)) w1.heap.size w2.heap.size (w2.heap.size + 1) n E (fun u => ((List.range 0).countP fun t => E t u : Nat)) := by
    have hbb : Below w2.heap.size w2 ((w2.alloc (.cells (rowI n fun x => 0).toArray 3)).alloc (.cells #[.slice (some ⟨w2.heap.size, 0, none⟩) n n] 24)) := bel_alloc (bel_box _) _
    refine ⟨hL2.keep hbb, hT2.keep hbb, ?_, ?_, hw2.trans (hbb.mono hw2.size), by simp, htz, hb1.size, hz2, by omega⟩
    · exact (Blk.new w2 (rowI n fun _ => 0) _).alloc _
    · have h := Blk.new (w2.alloc (.cells (rowI n fun x => 0).toArray 3)) [sl w2.heap.size n] 24
      rw [World.size_alloc] at h
      exact h.cell (i := 0) rfl
  generalize (w2.alloc (.cells (rowI n fun x => 0).toArray 3)).alloc (.cells #[.slice (some ⟨w2.heap.size, 0, none⟩) n n] 24) = W3 at *
  generalize w2.heap.size + 1 = pm at *
  generalize w2.heap.size = mb at *
  generalize w1.heap.size = lb at *
  clear hL2 hb2 hT2 hw2 hz2 hb1 hmk
  have HEn := Lib.hid hEn
  clear hEn
  go_loopw [24] (fun i wr => ∃ k : Nat, k ≤ n ∧ i = .int .i64 (k : Int) ∧ Or1 w wr lb mb pm n E (fun u => ((List.range k).countP fun t => E t u : Nat))) (fun i _ => n - (intOf i).toNat)
  case atStart => exact ⟨0, by omega, rfl, h1⟩
  case round =>
    obtain ⟨k, hk, rfl, hrk⟩ := hrel
    by_cases hlt : k < n
    · have KV := Lib.hid (visit1 hn HEn.out hlt hrk)
      have dk : (k : Int) < (n : Int) := by omega
      clear hrk h1
      go_wp2_with (go_at_call 25; refine KV.out.mono ?_; rintro e w4 ⟨rfl, h4⟩)
      exact ⟨⟨k + 1, by omega, by congr 1, h4⟩, by simp [intOf]; omega⟩
    · have hkn : n = k := by omega
      subst hkn
      clear h1
      obtain ⟨W4, rfl⟩ : ∃ U, U = wr := ⟨_, rfl⟩
      have HNW := Lib.hid (newSet_any n hn)
      have h4 : Ors w ((W4.alloc (.cells (uV (List.replicate (sizeW n) 0)).toArray 69)).alloc (.cells #[sl W4.heap.size (sizeW n)] 49)) lb mb pm W4.heap.size (W4.heap.size + 1) n (W4.heap.size + 2) E (fun u => (mis E n [] u : Nat)) (fun u => decide (u < 0) && decide (mis E n [] u = 0)) := by
        have hbb : Below W4.heap.size W4 ((W4.alloc (.cells (uV (List.replicate (sizeW n) 0)).toArray 69)).alloc (.cells #[sl W4.heap.size (sizeW n)] 49)) := bel_alloc (bel_box _) _
        have h5 := hrk.keep hbb
        obtain ⟨f1, f2, f3, f4⟩ := h5.fit
        have hz4 := hrk.sz
        have e0 : ∀ u, (mis E n [] u) = (List.range n).countP fun t => E t u := fun u => by unfold mis; congr 1; funext t; simp
        refine ⟨h5.lk, h5.tz, ?_, h5.mc, ⟨_, (Blk.new W4 (uV (List.replicate (sizeW n) 0)) _).alloc _, (St.empty _).congr fun u => by simp⟩, ?_, by simp, h5.low, f1, f2, f3, f4, hz4, by omega, by omega⟩
        · have := h5.mi
          simp only [← e0] at this
          exact this
        · have h := Blk.new (W4.alloc (.cells (uV (List.replicate (sizeW n) 0)).toArray 69)) [sl W4.heap.size (sizeW n)] 49
          rw [World.size_alloc] at h
          exact h.cell (i := 0) rfl
      clear hrk
      go_wp2_with (go_at_call 27; refine (HNW.out W4).mono ?_; rintro e w5 ⟨rfl, rfl⟩)
      generalize (W4.alloc (.cells (uV (List.replicate (sizeW n) 0)).toArray 69)).alloc (.cells #[.slice (some ⟨W4.heap.size, 0, none⟩) (sizeW n) (sizeW n)] 49) = W5 at *
      generalize hB5 : W4.heap.size + 2 = B5 at *
      generalize W4.heap.size + 1 = pr at *
      generalize W4.heap.size = rb at *
      clear HNW hB5
      go_loopw [35] (fun i wr => ∃ k : Nat, k ≤ n ∧ i = .int .i64 (k : Int) ∧ Ors w wr lb mb pm rb pr n B5 E (fun u => (mis E n [] u : Nat)) (fun u => decide (u < k) && decide (mis E n [] u = 0))) (fun i _ => n - (intOf i).toNat)
      case atStart => exact ⟨0, by omega, rfl, h4⟩
      case round =>
        obtain ⟨k, hk, rfl, hrk⟩ := hrel
        clear h4
        by_cases hlt : k < n
        · have dk : (k : Int) < (n : Int) := by omega
          have c1 := hrk.mc
          have c2 := hrk.mi.cell (rowI_get _ hlt)
          have c3 := hrk.rc
          by_cases h0 : mis E n [] k = 0
          · have KA := Lib.hid (ord_add hn hrk hlt)
            rw [h0] at c2
            have H0 := Lib.hid h0
            clear hrk h0
            go_wp2_with (go_at_call 28; refine KA.out.mono ?_; rintro e w6 ⟨rfl, h6, _⟩)
            exact ⟨⟨k + 1, by omega, by congr 1, h6.congr (fun _ _ => rfl) (fun u => by
              rw [Bool.eq_iff_iff]
              simp only [Bool.or_eq_true, Bool.and_eq_true, decide_eq_true_eq]
              constructor
              · rintro (⟨a, b⟩ | rfl)
                · exact ⟨by omega, b⟩
                · exact ⟨by omega, H0.out⟩
              · rintro ⟨a, b⟩
                by_cases e : u = k
                · exact .inr e
                · exact .inl ⟨by omega, b⟩)⟩, by simp [intOf]; omega⟩
          · have H0 := Lib.hid h0
            have HK := Lib.hid hrk
            generalize mis E n [] k = x at c2 h0
            have d0 : ¬ (x : Int) = 0 := by omega
            clear hrk h0
            go_wp2
            exact ⟨⟨k + 1, by omega, by congr 1, HK.out.congr (fun _ _ => rfl) (fun u => by
              rw [Bool.eq_iff_iff]
              simp only [Bool.and_eq_true, decide_eq_true_eq]
              constructor
              · rintro ⟨a, b⟩
                exact ⟨by omega, b⟩
              · rintro ⟨a, b⟩
                refine ⟨?_, b⟩
                by_cases e : u = k
                · exact absurd (e ▸ b) H0.out
                · omega)⟩, by simp [intOf]; omega⟩
        · have hkn : n = k := by omega
          subst hkn
          obtain ⟨W6, rfl⟩ : ∃ U, U = wr := ⟨_, rfl⟩
          have h6 : Ors w W6 lb mb pm rb pr n B5 E (fun u => (mis E n [] u : Nat)) (fun u => decide (u < n) && rdy E n [] u) := hrk.congr (fun _ _ => rfl) fun u => by
            rw [Bool.eq_iff_iff]
            simp only [Bool.and_eq_true, decide_eq_true_eq, mis_rdy, List.not_mem_nil, not_false_eq_true, true_and]
          clear hrk
          have KL := Lib.hid (fun W out h => ord_least (w := w) (W := W) (lb := lb) (mb := mb) (pm := pm) (rb := rb) (pr := pr) (B := B5) (E := E) (f := fun u => (mis E n out u : Nat)) (out := out) hn h)
          have c3 := h6.rc
          have KL0 := Lib.hid (KL.out _ _ h6)
          go_wp2_with (go_at_call 29; refine KL0.out.mono ?_; clear KL0; rintro e w7 ⟨rfl, rfl⟩)
          have HI := Lib.hid infoI
          go_loopw [11, 12, 13] (fun d v ok wr => ∃ out : List Nat, wr.ownsRow B5 3 1 d out.length (vV out) ∧ v = .int .i64 (((nxt E n out).getD 0 : Nat) : Int) ∧ ok = .bool (nxt E n out).isSome ∧ Ors w wr lb mb pm rb pr n B5 E (fun u => (mis E n out u : Nat)) (fun u => decide (u < n) && rdy E n out u) ∧ Hid (Ord E n out ∧ kah E n (n - out.length) out = kah E n n [])) (fun d _ _ _ => n - lenV d)
          case atStart => exact ⟨[], World.ownsRow_nil _ _ _ _, rfl, rfl, h6, Lib.hid ⟨Ord.nil E n, rfl⟩⟩
          case round =>
            obtain ⟨out, hown, rfl, rfl, hrs, ho⟩ := hrel
            obtain ⟨V, cv, rfl⟩ := own_form hown
            clear h6 c3
            cases hx : nxt E n out with
            | none =>
              have hk := kah_none hx ho.out.2
              have hl := ho.out.1.len
              have HO := Lib.hid hown
              have hlow := hrs.low
              have HK := Lib.hid hk
              clear hrs hown hk hx ho
              simp only [Option.getD_none, Option.isSome_none]
              have hRd := Rd.of_own HO.out
              by_cases hf : out.length < n
              · have R0 : ∀ W, W = wr → R (.returned (.tuple #[.slice none 0 0, .int .i64 13])) W := by
                  rintro W rfl
                  rw [← HR.out]
                  have e1 : fullB n (kah (eK ns) n n []) = false := by rw [HEE.out, ← HK.out]; unfold fullB; simp; omega
                  unfold ordL ordX
                  rw [e1]
                  exact ⟨none, 0, rfl, Rd.nil _ _ _, hlow⟩
                have R1 := Lib.hid R0
                have df : (out.length : Int) < (n : Int) := by omega
                clear R0 HR HEE HK hRd HO
                go_wp2
                exact R1.out _ rfl
              · have R0 : ∀ W, W = wr → R (.returned (.tuple #[.slice V out.length cv, .int .i64 0])) W := by
                  rintro W rfl
                  rw [← HR.out]
                  have e1 : fullB n (kah (eK ns) n n []) = true := by rw [HEE.out, ← HK.out]; unfold fullB; simp; omega
                  unfold ordL ordX
                  rw [e1, HEE.out, ← HK.out]
                  exact ⟨V, cv, rfl, hRd, hlow⟩
                have R1 := Lib.hid R0
                have df : ¬ (out.length : Int) < (n : Int) := by omega
                clear R0 HR HEE HK hRd HO
                go_wp2
                exact R1.out _ rfl
            | some v =>
              obtain ⟨hv, hrv⟩ := nxt_some hx
              obtain ⟨ho2, hol, hok⟩ := kah_some ho.out.1 hx ho.out.2
              have KR := Lib.hid (ord_rem hn hrs hv)
              have HN2 := Lib.hid (show Ord E n (out ++ [v]) ∧ kah E n (n - (out ++ [v]).length) (out ++ [v]) = kah E n n [] from ⟨ho2, hok⟩)
              have HO := Lib.hid hown
              have c4 := hrs.rc
              have HX := Lib.hid hx
              have HOo := Lib.hid ho.out.1
              have hfit := Lib.hid hrs.fit
              have hBz := hrs.sz
              clear hrs hown ho hx ho2 hok hrv
              simp only [Option.getD_some, Option.isSome_some]
              have dol : (out.length : Int) < 4096 := by omega
              obtain ⟨i0, hi, iz, is, ib⟩ := HI.out
              go_wp2_with (first
                | (go_at_call 30; refine KR.out.mono ?_; clear KR; rintro e w8 ⟨rfl, h8, hk8⟩; have hown8 := Lib.hid (hk8.own HO.out (fun k hk => by have := hfit.out; omega)); have hz8 := h8.sz; clear hk8 HO)
                | (at_builtin; refine wpList_append_own_at _ rfl _ _ 24 rfl B5 3 i0 (.int .i64 0) 1 8 Tryd.underlying24 hi iz is ib rfl (by decide) _ out.length (vV out) rfl (own_keep hown8.out (bel_box _)) ⟨w8.heap.size, 0, none⟩ 1 1 [.int .i64 (v : Int)] rfl rfl (row1 _ _ _) (one_int _) (by unfold maxLen; omega) (by omega) (by rw [World.size_alloc]; omega) ?_; intro v9 w9 hown9 hgrow9 _ _; have hb9 : Below B5 w8 w9 := own_below (Below.refl _ _) hz8 hown8.out hgrow9; have h9 := h8.to hb9; have KE := Lib.hid (visit2 hn HEn.out HOo.out HX.out h9); have hown9 := Lib.hid hown9; clear h8 hown8 hgrow9 hb9 h9)
                | (go_at_call 25; refine KE.out.mono ?_; clear KE; rintro e w10 ⟨rfl, h10, hk10⟩; have hown10 := Lib.hid (hk10.own hown9.out (fun k hk => by have := hfit.out; omega)); have KL10 := Lib.hid (KL.out _ _ h10); have c10 := h10.rc; clear hk10 hown9)
                | (go_at_call 29; refine KL10.out.mono ?_; clear KL10; rintro e w11 ⟨rfl, rfl⟩))
              have hw := hown10.out
              rw [vV_snoc] at hw
              have hlen : (out ++ [v]).length = out.length + 1 := by simp
              refine ⟨⟨out ++ [v], by rw [hlen]; exact hw, rfl, rfl, h10, HN2⟩, ?_⟩
              obtain ⟨V9, c9, rfl⟩ := own_form hw
              simp only [lenV]
              omega
end gr
end Go.Proofs.YtahffafobdiogaaDoor
/- Reach of the program; what is invalid. -/
namespace Go.Proofs.YtahffafobdiogaaDoor
set_option linter.unusedVariables false
set_option linter.unusedSimpArgs false
open Go.RowKit
namespace gr
/-- n tests in cells -/
def rowB (n : Nat) (p : Nat → Bool) : List Value := (List.range n).map fun v => Value.bool (p v)
theorem rowB_len (n : Nat) (p : Nat → Bool) : (rowB n p).length = n := by simp [rowB]
theorem rowB_get {n v : Nat} (p : Nat → Bool) (hv : v < n) : (rowB n p)[v]? = some (.bool (p v)) := by simp [rowB, hv]
theorem rowB_set {n u : Nat} (p : Nat → Bool) (x : Bool) : (rowB n p).set u (.bool x) = rowB n fun w => if w = u then x else p w := by
  apply List.ext_getElem?
  intro i
  rw [List.getElem?_set]
  by_cases h : i < n
  · rw [rowB_get _ h, rowB_get _ h, rowB_len]
    by_cases e : u = i
    · subst e
      simp [h]
    · rw [if_neg e, if_neg (Ne.symm e)]
  · rw [List.getElem?_eq_none (by rw [rowB_len]; omega), List.getElem?_eq_none (by rw [rowB_len]; omega), rowB_len]
    by_cases e : u = i
    · subst e
      simp [h]
    · rw [if_neg e]
theorem rowB_congr {n : Nat} {f g : Nat → Bool} (h : ∀ v, v < n → f v = g v) : rowB n f = rowB n g := by
  unfold rowB
  apply List.map_congr_left
  intro v hv
  rw [h v (List.mem_range.1 hv)]
theorem rowB_zero (n : Nat) : List.replicate n (Value.bool false) = rowB n fun _ => false := by
  apply List.ext_getElem?
  intro i
  by_cases h : i < n
  · rw [rowB_get _ h]
    simp [List.getElem?_replicate, h]
  · rw [List.getElem?_eq_none (by simp; omega), List.getElem?_eq_none (by rw [rowB_len]; omega)]
theorem infoBo : ∃ i, Tryd.prog.info? 4 = some i ∧ i.zero = some (.bool false) ∧ i.size = 1 ∧ i.bytes = 1 := info_parts (by kernel_rfl)
theorem make_bools (n : Nat) (hn : n ≤ 4096) (w : World) : (Instr.makeSlice 31 (.int .i64 (n : Int)) (.int .i64 (n : Int))).run Tryd.prog w = .ok (sl w.heap.size n) (w.alloc (.cells (rowB n fun _ => false).toArray 4)) := by
  obtain ⟨i0, hi, iz, is, ib⟩ := infoBo
  have hr := run_make_row (P := Tryd.prog) 31 4 i0 (.bool false) Tryd.underlying31 hi iz is rfl .i64 .i64 n (by rw [ib]; omega) (by omega) w
  rw [made_list, rowB_zero] at hr
  exact hr
set_option maxHeartbeats 1000000 in
theorem reach1_any (n u rb pb : Nat) (p : Nat → Bool) (hu : u < n) (W : World) (hB : Blk W rb 4 (rowB n p)) (hp : W.cell? ⟨pb, 0, none⟩ = some (sl rb n)) :
    Calls Tryd.prog 39 #[.int .i64 u, .pointer (some ⟨pb, 0, none⟩)] W fun e w' => e = .returned (.tuple #[]) ∧ w' = W.setCell ⟨rb, u, none⟩ (.bool true) := by
  have hc := hB.cell (rowB_get p hu)
  have hf := hB.frozen u
  have d : (u : Int) < (n : Int) := by omega
  clear hB
  generalize p u = x at *
  go_enter Tryd.func39, Tryd.ntmps39
  go_wp2
  refine bodyPost_end (v := .tuple #[]) (results_none rfl _ _ _) rfl ?_
  exact ⟨rfl, rfl⟩
theorem rcu_nil {s : Nat → List Nat} {u v : Nat} : Rcu s [] u v ↔ Rch s u v := by
  constructor
  · exact Rcu.rch
  · intro h
    induction h with
    | refl v => exact .refl v (by simp)
    | step h _ ih => exact .step (by simp) h ih
open Classical in
/-- is a vertex reached -/
noncomputable def rchB (s : Nat → List Nat) (u v : Nat) : Bool := decide (Rch s u v)
theorem rchB_iff {s : Nat → List Nat} {u v : Nat} : rchB s u v = true ↔ Rch s u v := by simp only [rchB, decide_eq_true_eq]
theorem dfs_left {s : Nat → List Nat} {u : Nat} {S L : List Nat} (h : Dfs s [u] [] [] S L) (v : Nat) : L.contains v = rchB s u v := by
  obtain ⟨M, rfl, _, hm⟩ := h.left
  rw [Bool.eq_iff_iff, rchB_iff, List.contains_iff_mem, hm, h.seen]
  simp only [List.not_mem_nil, false_or, List.mem_singleton, exists_eq_left, rcu_nil, not_false_eq_true, and_true]
/-- tests and an error -/
def NewB (n : Nat) (p : Nat → Bool) (err : Int) (w : World) (e : Ending) (w' : World) : Prop := ∃ A c, e = .returned (.tuple #[.slice A n c, .int .i64 err]) ∧ Rd w' w'.heap.size A (rowB n p) ∧ Below w.heap.size w w'
theorem inv_nil (n : Nat) : (∀ x ∈ ([] : List Nat), x ∈ ([] : List Nat)) ∧ ([] : List Nat).Nodup ∧ ∀ x ∈ ([] : List Nat), x < n := ⟨fun x hx => (by cases hx), List.nodup_nil, fun x hx => (by cases hx)⟩
set_option maxHeartbeats 1000000 in
theorem reach_walk (n fr : Nat) (E : Nat → Nat → Bool) (hn : n ≤ 4096) (hfr : fr < n) (hEn : ∀ u w, E u w = true → w < n) (w : World) (hT : Tz w) (htz : tzB < w.heap.size) (w1 : World) (hb1 : Below w.heap.size w w1) (W3 w4 : World) (h3 : W3 = (w1.alloc (.cells (rowB n fun _ => false).toArray 4)).alloc (.cells #[sl w1.heap.size n] 31)) (hL : LkE w4 W3.heap.size n E) (hb4 : Below W3.heap.size W3 w4) (hz4 : W3.heap.size + n < w4.heap.size) :
    Calls Tryd.prog 38 #[sl W3.heap.size n, .int .i64 fr, sl w4.heap.size (sizeW n), .func (.func 39) #[] #[.pointer (some ⟨w1.heap.size + 1, 0, none⟩)]] (w4.alloc (.cells (uV (List.replicate (sizeW n) 0)).toArray 69)) fun e w' => e = .returned (.tuple #[]) ∧ Below w.heap.size w w' ∧ w'.cell? ⟨w1.heap.size + 1, 0, none⟩ = some (sl w1.heap.size n) ∧ Blk w' w1.heap.size 4 (rowB n (rchB (nbs E n) fr)) := by
  have hz3 : W3.heap.size = w1.heap.size + 2 := by rw [h3]; simp
  have hb3 : Below w1.heap.size w1 W3 := by rw [h3]; exact bel_alloc (bel_box _) _
  have hrow : Blk W3 w1.heap.size 4 (rowB n fun _ => false) := by rw [h3]; exact (Blk.new _ _ _).alloc _
  have hbox : Blk W3 (w1.heap.size + 1) 31 [sl w1.heap.size n] := by
    rw [h3]
    have h := Blk.new (w1.alloc (.cells (rowB n fun _ => false).toArray 4)) [sl w1.heap.size n] 31
    rw [World.size_alloc] at h
    exact h
  have hb5 : Below w4.heap.size w4 (w4.alloc (.cells (uV (List.replicate (sizeW n) 0)).toArray 69)) := bel_box _
  have hz5 : (w4.alloc (.cells (uV (List.replicate (sizeW n) 0)).toArray 69)).heap.size = w4.heap.size + 1 := by simp
  have hsn := Blk.new w4 (uV (List.replicate (sizeW n) 0)) 69
  have hrow5 := (hrow.keep hb4).keep hb5
  have hbox5 := ((hbox.keep hb4).keep hb5).cell (i := 0) rfl
  have hL5 := hL.keep hb5
  have hT5 := (((hT.keep hb1).keep hb3).keep hb4).keep hb5
  have hb05 : Below w.heap.size w (w4.alloc (.cells (uV (List.replicate (sizeW n) 0)).toArray 69)) := (hb1.trans (hb3.mono hb1.size)).trans ((hb4.mono (by have := hb1.size; omega)).trans (hb5.mono (by have := hb1.size; omega)))
  have hw1 := hb1.size
  refine (walk_any W3.heap.size n w4.heap.size (w4.heap.size + 1) 39 _ (enters_of Tryd.func39 (by kernel_rfl) rfl) E hEn hn (fun k => k = w1.heap.size)
    (fun L W => Blk W w1.heap.size 4 (rowB n fun v => L.contains v) ∧ W.cell? ⟨w1.heap.size + 1, 0, none⟩ = some (sl w1.heap.size n) ∧ Tz W)
    (fun k hk => by omega) (by omega) (by omega) (fun k h1 h2 e => by omega) (by omega)
    (fun l W W' ⟨g1, g2, g3⟩ hb => ⟨g1.keep hb, (hb.cell (p := ⟨w1.heap.size + 1, 0, none⟩) (World.block_lt_of_cell? W _ g2)).trans g2, g3.keep hb⟩)
    (fun l W i v ⟨g1, g2, g3⟩ => ⟨g1.set_other (by omega) _ _, (World.cell?_setCell_other _ _ _ _ (by intro e; injection e with e; omega)).trans g2, g3.kp (Kp.set (S := fun k => k = w4.heap.size) W (a := ⟨w4.heap.size, i, none⟩) rfl v) (by omega)⟩)
    (fun l W h => h.2.2)
    ?_
    (uns n []) fr [] [] _ (Nat.le_refl _) hfr hL5 ⟨_, hsn, (St.empty _).congr fun u => rfl⟩ ⟨(show rowB n (fun v => ([] : List Nat).contains v) = rowB n (fun _ => false) from rfl) ▸ hrow5, hbox5, hT5⟩ (by rw [hz5]; omega) (inv_nil n)).mono ?_
  · rintro l v W hv _ _ ⟨g1, g2, g3⟩ hB
    refine (reach1_any n v w1.heap.size (w1.heap.size + 1) _ hv W g1 g2).mono ?_
    rintro e W' ⟨he, hw⟩
    have hk : Kp (fun k => k = w1.heap.size) W W' := by rw [hw]; exact Kp.set (S := fun k => k = w1.heap.size) W (a := ⟨w1.heap.size, v, none⟩) rfl _
    refine ⟨he, ⟨?_, (World.cell?_of_block (hk.2 _ (World.block_lt_of_cell? W _ g2) (by simp only; omega))).trans g2, g3.kp hk (by omega)⟩, .kp hk⟩
    rw [hw]
    have := g1.set v (.bool true)
    rw [rowB_set] at this
    rw [rowB_congr (g := fun w => if w = v then true else l.contains w) (fun u _ => ?_)]
    · exact this
    · by_cases e : u = v
      · simp [e]
      · simp [e]
  · rintro e w' ⟨he, S', L', g1, g2, ⟨g3, g4, _⟩, g5⟩
    refine ⟨he, hb05.trans (g5.low (by omega) (by omega) (fun k hk => by omega)), g4, ?_⟩
    rw [rowB_congr (g := fun v => L'.contains v) (fun u _ => (dfs_left g1 u).symm)]
    exact g3
end gr
end Go.Proofs.YtahffafobdiogaaDoor
/- Reach of the program; what is invalid. -/
namespace Go.Proofs.YtahffafobdiogaaDoor
set_option linter.unusedVariables false
set_option linter.unusedSimpArgs false
open Go.RowKit
namespace gr
theorem rd_blk {W : World} {b : Nat} {t : TypeId} {xs : List Value} (h : Blk W b t xs) : Rd W W.heap.size (some ⟨b, 0, none⟩) xs := fun _ =>
  ⟨_, rfl, h.lt, fun j u hu => by
    have e : (⟨b, 0, none⟩ : Addr).add j = ⟨b, j, none⟩ := by simp [Addr.add]; try (intro h; exact h.symm)
    rw [e]
    exact h.cell hu⟩
set_option maxRecDepth 100000 in
set_option maxHeartbeats 1000000 in
theorem reach_ok (n fr : Nat) (A : Option Addr) (c : Nat) (ns : List (Nat × Nat)) (hn : n ≤ 4096) (hfr : fr < n) (hr : ∀ e ∈ ns, e.1 < n ∧ e.2 < n) (hl : ns.length ≤ 1048576) (w : World) (hT : Tz w) (hE : RdE w w.heap.size A (eN ns)) (hv : valB n (eN ns) = true) :
    Calls Tryd.prog 16 #[.int .i64 n, .slice A ns.length c, .int .i64 fr] w (NewB n (rchB (nbs (eK ns) n) fr) 0 w) := by
  obtain ⟨E, hEE⟩ : ∃ E, eK ns = E := ⟨_, rfl⟩
  have hEn : ∀ u w, E u w = true → w < n := hEE ▸ eK_lt hr
  have KV := Lib.hid (valid_any n A c (eN ns) (by rw [eN_len]; exact hl) w hE)
  rw [hv, eN_len] at KV
  have htz := tz_lt hT
  have KF := Lib.hid (fun W (hb : Below w.heap.size w W) => (forward_any n hn A c ns hr hl W ((hE.below hb).more' hb.size)).mono (R' := fun e w' => e = .returned (sl W.heap.size n) ∧ LkE w' W.heap.size n E ∧ Below W.heap.size W w' ∧ W.heap.size + n < w'.heap.size) fun e w' ⟨h1, h2, h3⟩ => by
    rw [hEE] at h2
    exact ⟨h1, h2, h3, by
      rcases Nat.eq_zero_or_pos n with h0 | h0
      · have := h2.lt0; omega
      · have := h2.lt (v := n - 1) (by omega); omega⟩)
  have hmk := fun W => make_bools n hn W
  have HNW := Lib.hid (newSet_any n hn)
  have KW := Lib.hid (reach_walk n fr E hn hfr hEn w hT htz)
  obtain ⟨R, hR⟩ : ∃ R, NewB n (rchB (nbs (eK ns) n) fr) 0 w = R := ⟨_, rfl⟩
  rw [hR]
  rw [hEE] at hR
  have HR := Lib.hid hR
  have x0 : (0 : Int) ≤ (fr : Int) := by omega
  have x1 : ¬ (fr : Int) < 0 := by omega
  have x2 : ¬ (n : Int) ≤ (fr : Int) := by omega
  clear hT hE hv hr hR hEE hEn
  go_enter Tryd.func16, Tryd.ntmps16
  go_wp2_with (go_at_call 23; refine KV.out.mono ?_; clear KV; rintro e w1 ⟨rfl, hb1⟩)
  have hb3 : Below w.heap.size w ((w1.alloc (.cells (rowB n fun x => false).toArray 4)).alloc (.cells #[.slice (some ⟨w1.heap.size, 0, none⟩) n n] 31)) := bel_alloc (bel_alloc hb1 _) _
  obtain ⟨W3, h3⟩ : ∃ W3, W3 = (w1.alloc (.cells (rowB n fun x => false).toArray 4)).alloc (.cells #[.slice (some ⟨w1.heap.size, 0, none⟩) n n] 31) := ⟨_, rfl⟩
  rw [← h3] at hb3 ⊢
  have KW2 := Lib.hid (KW.out w1 hb1 W3)
  have H3 := Lib.hid h3
  clear h3 KW hmk
  go_at_call 24
  refine (KF.out W3 hb3).mono ?_
  clear KF
  rintro e w4 ⟨rfl, hL4, hb4, hz4⟩
  have KW3 := Lib.hid (KW2.out w4 H3.out hL4 hb4 hz4)
  clear KW2 hL4 hb4 hz4 hb3 H3
  generalize W3.heap.size = lb at *
  generalize w1.heap.size = rb at *
  go_wp2_with (first | (go_at_call 27; refine (HNW.out _).mono ?_; clear HNW; rintro e w3 ⟨rfl, rfl⟩) | (go_at_call 38; refine KW3.out.mono ?_; clear KW3; rintro e w5 ⟨rfl, hb5, hc5, hr5⟩))
  have R1 : R (.returned (.tuple #[sl rb n, .int .i64 0])) w5 := by
    rw [← HR.out]
    exact ⟨_, _, rfl, rd_blk hr5, hb5⟩
  exact R1
set_option maxHeartbeats 1000000 in
theorem parts_bad (n : Int) (A : Option Addr) (c : Nat) (es : List (Int × Int)) (hl : es.length ≤ 1048576) (w : World) (hE : RdE w w.heap.size A es) (hv : valB n es = false) : Calls Tryd.prog 18 #[.int .i64 n, .slice A es.length c] w fun e w' => e = .returned (.tuple #[.slice none 0 0, .int .i64 2]) ∧ Below w.heap.size w w' := by
  have KV := Lib.hid (valid_any n A c es hl w hE)
  rw [hv] at KV
  clear hE hv
  go_enter Tryd.func18, Tryd.ntmps18
  go_wp2_with (go_at_call 23; refine KV.out.mono ?_; clear KV; rintro e w1 ⟨rfl, hb1⟩)
  refine bodyPost_ret (results_tmp2 rfl _ _ _) rfl ?_
  exact ⟨rfl, hb1⟩
set_option maxHeartbeats 1000000 in
theorem reach_bad (n fr : Int) (A : Option Addr) (c : Nat) (es : List (Int × Int)) (hl : es.length ≤ 1048576) (w : World) (hE : RdE w w.heap.size A es) (hv : (valB n es && decide (0 ≤ fr) && decide (fr < n)) = false) : Calls Tryd.prog 16 #[.int .i64 n, .slice A es.length c, .int .i64 fr] w fun e w' => e = .returned (.tuple #[.slice none 0 0, .int .i64 2]) ∧ Below w.heap.size w w' := by
  have KV := Lib.hid (valid_any n A c es hl w hE)
  cases hb : valB n es with
  | false =>
    rw [hb] at KV
    clear hE hv hb
    go_enter Tryd.func16, Tryd.ntmps16
    go_wp2_with (go_at_call 23; refine KV.out.mono ?_; clear KV; rintro e w1 ⟨rfl, hb1⟩)
    refine bodyPost_ret (results_tmp2 rfl _ _ _) rfl ?_
    exact ⟨rfl, hb1⟩
  | true =>
    rw [hb] at KV hv
    by_cases h0 : fr < 0
    · clear hE hv hb
      go_enter Tryd.func16, Tryd.ntmps16
      go_wp2_with (go_at_call 23; refine KV.out.mono ?_; clear KV; rintro e w1 ⟨rfl, hb1⟩)
      refine bodyPost_ret (results_tmp2 rfl _ _ _) rfl ?_
      exact ⟨rfl, hb1⟩
    · have h1 : n ≤ fr := by
        simp at hv
        omega
      clear hE hv hb
      go_enter Tryd.func16, Tryd.ntmps16
      go_wp2_with (go_at_call 23; refine KV.out.mono ?_; clear KV; rintro e w1 ⟨rfl, hb1⟩)
      refine bodyPost_ret (results_tmp2 rfl _ _ _) rfl ?_
      exact ⟨rfl, hb1⟩
end gr
end Go.Proofs.YtahffafobdiogaaDoor
/- The least of the shortest cycles, as a function of the edges: plain. -/
namespace Go.Proofs.YtahffafobdiogaaDoor
set_option linter.unusedVariables false
set_option linter.unusedSimpArgs false
namespace gr
/-- the way on by distances d, .., 1: each time the least neighbour at that distance -/
def folr (nx : Nat → Nat → Option Nat) : Nat → Nat → List Nat
  | 0, _ => []
  | d + 1, v => match nx v (d + 1) with
    | none => []
    | some w => w :: folr nx d w
open Classical in
/-- the distances to v by vertices from v on -/
noncomputable def dstS (E : Nat → Nat → Bool) (n v : Nat) : Nat → Option Nat := fun w => if h : ∃ d, Ds E n v v d w then some (Classical.choose h) else none
theorem dstS_iff {E : Nat → Nat → Bool} {n v w d : Nat} : dstS E n v w = some d ↔ Ds E n v v d w := by
  unfold dstS
  constructor
  · intro h
    split at h
    · rename_i hx
      injection h with h
      rw [← h]
      exact Classical.choose_spec hx
    · cases h
  · intro h
    have hx : ∃ d, Ds E n v v d w := ⟨d, h⟩
    rw [dif_pos hx]
    exact congrArg some ((Classical.choose_spec hx).uniq h)
theorem dst_eq {E : Nat → Nat → Bool} {n v : Nat} {D : Nat → Option Nat} (h : ∀ w d, D w = some d ↔ Ds E n v v d w) : D = dstS E n v := by
  funext w
  cases hw : dstS E n v w with
  | some d => exact (h w d).2 (dstS_iff.1 hw)
  | none =>
    cases hd : D w with
    | none => rfl
    | some d => rw [dstS_iff.2 ((h w d).1 hd)] at hw; cases hw
open Classical in
/-- the smallest distance about v -/
noncomputable def mndO (E : Nat → Nat → Bool) (n : Nat) (D : Nat → Option Nat) (v : Nat) : Option Nat := if h : ∃ d, Mnd E n D v d then some (Classical.choose h) else none
theorem mndO_some {E : Nat → Nat → Bool} {n : Nat} {D : Nat → Option Nat} {v d : Nat} : mndO E n D v = some d ↔ Mnd E n D v d := by
  unfold mndO
  constructor
  · intro h
    split at h
    · rename_i hx
      injection h with h
      rw [← h]
      exact Classical.choose_spec hx
    · cases h
  · intro h
    have hx : ∃ d, Mnd E n D v d := ⟨d, h⟩
    rw [dif_pos hx]
    exact congrArg some (Mnd.uniq (Classical.choose_spec hx) h)
theorem mnd_ex {E : Nat → Nat → Bool} {n : Nat} {D : Nat → Option Nat} {v : Nat} : ∀ (e w : Nat), w < n → E v w = true → D w = some e → ∃ d, Mnd E n D v d := by
  intro e
  induction e using Nat.strongRecOn with
  | ind e ih =>
    intro w hw he hd
    by_cases hx : ∃ u f, u < n ∧ E v u = true ∧ D u = some f ∧ f < e
    · obtain ⟨u, f, h1, h2, h3, h4⟩ := hx
      exact ih f h4 u h1 h2 h3
    · refine ⟨e, ⟨w, hw, he, hd⟩, fun u f h1 h2 h3 => ?_⟩
      rcases Nat.lt_or_ge f e with h4 | h4
      · exact absurd ⟨u, f, h1, h2, h3, h4⟩ hx
      · exact h4
theorem mndO_none {E : Nat → Nat → Bool} {n : Nat} {D : Nat → Option Nat} {v : Nat} : mndO E n D v = none ↔ ∀ w, w < n → E v w = true → D w = none := by
  constructor
  · intro h w hw he
    cases hd : D w with
    | none => rfl
    | some e =>
      obtain ⟨d, hm⟩ := mnd_ex e w hw he hd
      rw [mndO_some.2 hm] at h
      cases h
  · intro h
    cases hm : mndO E n D v with
    | none => rfl
    | some d =>
      obtain ⟨⟨w, h1, h2, h3⟩, _⟩ := mndO_some.1 hm
      rw [h w h1 h2] at h3
      cases h3
/-- the cycle through v that distances give, or nothing -/
noncomputable def thrS (E : Nat → Nat → Bool) (n : Nat) (D : Nat → Option Nat) (v : Nat) : List Nat := match mndO E n D v with
  | none => []
  | some d => v :: folr (nea E n D) d v
/-- distances up to m only -/
def capD (m : Nat) (D : Nat → Option Nat) : Nat → Option Nat := fun w => (D w).filter (fun d => decide (d ≤ m))
theorem capD_iff {m : Nat} {D : Nat → Option Nat} {w e : Nat} : capD m D w = some e ↔ D w = some e ∧ e ≤ m := by
  unfold capD
  rw [Option.filter_eq_some_iff, decide_eq_true_eq]
theorem folr_congr {nx ny : Nat → Nat → Option Nat} : ∀ (d v : Nat), (∀ e, e ≤ d → ∀ u, nx u e = ny u e) → folr nx d v = folr ny d v
  | 0, _, _ => rfl
  | d + 1, v, h => by
    unfold folr
    rw [h (d + 1) (Nat.le_refl _)]
    cases ny v (d + 1) with
    | none => rfl
    | some w => exact congrArg _ (folr_congr d w fun e he u => h e (by omega) u)
/-- in true distances the way on has its full length -/
theorem folr_len {E : Nat → Nat → Bool} {n v : Nat} (hv : v < n) : ∀ (d u : Nat), (d = 0 ∨ ∃ w, w < n ∧ E u w = true ∧ dstS E n v w = some d) → (folr (nea E n (dstS E n v)) d u).length = d
  | 0, _, _ => by simp [folr]
  | d + 1, u, h => by
    rcases h with h | ⟨w, h1, h2, h3⟩
    · omega
    · obtain ⟨x, hx⟩ := nea_ex (E := E) (n := n) (D := dstS E n v) h1 h2 h3
      unfold folr
      rw [hx]
      simp only [List.length_cons, Nat.add_right_cancel_iff]
      refine folr_len hv d x ?_
      rcases Nat.eq_zero_or_pos d with h0 | h0
      · exact .inl h0
      · right
        obtain ⟨_, _, ⟨y, hy1, hy2⟩, _⟩ := Ds.succ_iff.1 (dstS_iff.1 (nea_some hx).2.2)
        obtain ⟨e, rfl⟩ : ∃ e, d = e + 1 := ⟨d - 1, by omega⟩
        exact ⟨y, (Ds.succ_iff.1 hy2).1, hy1, dstS_iff.2 hy2⟩
theorem thrS_some {E : Nat → Nat → Bool} {n v d : Nat} (hv : v < n) (h : Mnd E n (dstS E n v) v d) : thrS E n (dstS E n v) v = v :: folr (nea E n (dstS E n v)) d v ∧ (thrS E n (dstS E n v) v).length = d + 1 := by
  have e : thrS E n (dstS E n v) v = v :: folr (nea E n (dstS E n v)) d v := by
    unfold thrS
    rw [mndO_some.2 h]
  refine ⟨e, ?_⟩
  rw [e, List.length_cons, folr_len hv d v]
  obtain ⟨⟨w, h1, h2, h3⟩, _⟩ := h
  exact .inr ⟨w, h1, h2, h3⟩
/-- distances that are cut off at m give the same cycle, or none if it is longer -/
theorem thr_cap {E : Nat → Nat → Bool} {n v m : Nat} (hv : v < n) : thrS E n (capD m (dstS E n v)) v = if (thrS E n (dstS E n v) v).length ≤ m + 1 then thrS E n (dstS E n v) v else [] := by
  cases hm : mndO E n (dstS E n v) v with
  | none =>
    have h1 : thrS E n (dstS E n v) v = [] := by unfold thrS; rw [hm]
    have h2 : mndO E n (capD m (dstS E n v)) v = none := mndO_none.2 fun w hw he => by
      rw [capD, mndO_none.1 hm w hw he]
      rfl
    rw [h1]
    unfold thrS
    rw [h2]
    simp
  | some d =>
    have hd := mndO_some.1 hm
    obtain ⟨e1, e2⟩ := thrS_some hv hd
    rw [e2]
    by_cases hdm : d ≤ m
    · rw [if_pos (by omega), e1]
      have h2 : mndO E n (capD m (dstS E n v)) v = some d := mndO_some.2 ((Mnd.capped (fun w e => capD_iff) hdm).1 hd)
      unfold thrS
      rw [h2]
      refine congrArg _ (folr_congr d v fun e he u => nea_congr fun w hw => ?_)
      rw [capD_iff]
      exact ⟨fun x => x.1, fun x => ⟨x, by omega⟩⟩
    · rw [if_neg (by omega)]
      have h2 : mndO E n (capD m (dstS E n v)) v = none := mndO_none.2 fun w hw he => by
        cases hx : capD m (dstS E n v) w with
        | none => rfl
        | some e =>
          obtain ⟨x1, x2⟩ := capD_iff.1 hx
          have := hd.2 w e hw he x1
          omega
      unfold thrS
      rw [h2]
/-- a shorter cycle replaces the one that was found -/
noncomputable def cstep (E : Nat → Nat → Bool) (n : Nat) (best : List Nat) (v : Nat) : List Nat :=
  if thrS E n (dstS E n v) v ≠ [] ∧ (best = [] ∨ (thrS E n (dstS E n v) v).length < best.length) then thrS E n (dstS E n v) v else best
noncomputable def cycK (E : Nat → Nat → Bool) (n k : Nat) : List Nat := (List.range k).foldl (cstep E n) []
theorem cycK_succ (E : Nat → Nat → Bool) (n k : Nat) : cycK E n (k + 1) = cstep E n (cycK E n k) k := by
  unfold cycK
  rw [List.range_succ, List.foldl_append]
  rfl
theorem cstep_one {E : Nat → Nat → Bool} {n : Nat} {best : List Nat} (h : best.length = 1) (v : Nat) : cstep E n best v = best := by
  unfold cstep
  rw [if_neg]
  rintro ⟨h1, h2 | h2⟩
  · rw [h2] at h; simp at h
  · have := List.length_pos_iff.2 h1
    omega
/-- once a cycle of one vertex is found it stays -/
theorem cycK_one {E : Nat → Nat → Bool} {n k : Nat} (h : (cycK E n k).length = 1) : ∀ j, cycK E n (k + j) = cycK E n k
  | 0 => rfl
  | j + 1 => by
    rw [← Nat.add_assoc, cycK_succ, cycK_one h j, cstep_one h]
theorem cycK_len {E : Nat → Nat → Bool} {n : Nat} : ∀ k, k ≤ n → cycK E n k ≠ [] → ∃ v d, v < k ∧ Mnd E n (dstS E n v) v d ∧ cycK E n k = v :: folr (nea E n (dstS E n v)) d v ∧ (cycK E n k).length = d + 1
  | 0, _, h => absurd rfl h
  | k + 1, hk, h => by
    rw [cycK_succ] at h ⊢
    unfold cstep at h ⊢
    split
    · rename_i hc
      cases hm : mndO E n (dstS E n k) k with
      | none => exact absurd (by unfold thrS; rw [hm]) hc.1
      | some d =>
        obtain ⟨e1, e2⟩ := thrS_some (by omega : k < n) (mndO_some.1 hm)
        exact ⟨k, d, by omega, mndO_some.1 hm, e1, e2⟩
    · rename_i hc
      rw [if_neg hc] at h
      obtain ⟨v, d, h1, h2⟩ := cycK_len k (by omega) h
      exact ⟨v, d, by omega, h2⟩
end gr
end Go.Proofs.YtahffafobdiogaaDoor
/- through: what it calls. -/
namespace Go.Proofs.YtahffafobdiogaaDoor
set_option linter.unusedVariables false
set_option linter.unusedSimpArgs false
open Go.RowKit
namespace gr
/-- distances in cells: -1 where there is none -/
def dI (D : Nat → Option Nat) (w : Nat) : Int := match D w with | some d => (d : Int) | none => -1
theorem dI_some {D : Nat → Option Nat} {w d : Nat} : dI D w = (d : Int) ↔ D w = some d := by
  unfold dI
  cases D w with
  | some e => show (e : Int) = (d : Int) ↔ some e = some d; rw [Option.some.injEq]; omega
  | none => show (-1 : Int) = (d : Int) ↔ (none : Option Nat) = some d; exact ⟨fun h => by omega, fun h => by cases h⟩
theorem dI_none {D : Nat → Option Nat} {w : Nat} : dI D w < 0 ↔ D w = none := by
  unfold dI
  cases D w with
  | some e => simp <;> omega
  | none => simp
/-- the smallest distance so far -/
def rst (D : Nat → Option Nat) (r : Int) (u : Nat) : Int := if 0 ≤ dI D u ∧ (r < 0 ∨ dI D u < r) then dI D u else r
set_option maxHeartbeats 1000000 in
theorem thr1_any (n u db pd pr : Nat) (D : Nat → Option Nat) (r : Int) (hu : u < n) (W : World) (hB : Blk W db 3 (rowI n (dI D))) (hd : W.cell? ⟨pd, 0, none⟩ = some (sl db n)) (hr : W.cell? ⟨pr, 0, none⟩ = some (.int .i64 r)) (hf : W.frozen? ⟨pr, 0, none⟩ = false) :
    Calls Tryd.prog 52 #[.int .i64 u, .pointer (some ⟨pd, 0, none⟩), .pointer (some ⟨pr, 0, none⟩)] W fun e w' => e = .returned (.tuple #[]) ∧ w'.cell? ⟨pr, 0, none⟩ = some (.int .i64 (rst D r u)) ∧ w'.frozen? ⟨pr, 0, none⟩ = false ∧ Kp (fun k => k = pr) W w' := by
  have hc := hB.cell (rowI_get (dI D) hu)
  have d : (u : Int) < (n : Int) := by omega
  have R1 : ∀ x : Int, (W.setCell ⟨pr, 0, none⟩ (.int .i64 x)).cell? ⟨pr, 0, none⟩ = some (.int .i64 x) ∧ (W.setCell ⟨pr, 0, none⟩ (.int .i64 x)).frozen? ⟨pr, 0, none⟩ = false ∧ Kp (fun k => k = pr) W (W.setCell ⟨pr, 0, none⟩ (.int .i64 x)) := fun x => ⟨World.cell?_setCell_same W _ _ hr, by rw [World.frozen?_setCell]; exact hf, Kp.set (S := fun k => k = pr) W (a := ⟨pr, 0, none⟩) rfl _⟩
  have R1 := Lib.hid R1
  have R2 := Lib.hid hr
  have R3 := Lib.hid hf
  unfold rst
  clear hB
  generalize dI D u = x at *
  by_cases h0 : 0 ≤ x
  · by_cases h1 : r < 0
    · rw [if_pos ⟨h0, .inl h1⟩]
      go_enter Tryd.func52, Tryd.ntmps52
      go_wp2
      refine bodyPost_end (v := .tuple #[]) (results_none rfl _ _ _) rfl ?_
      exact ⟨rfl, R1.out x⟩
    · by_cases h2 : x < r
      · rw [if_pos ⟨h0, .inr h2⟩]
        go_enter Tryd.func52, Tryd.ntmps52
        go_wp2
        refine bodyPost_end (v := .tuple #[]) (results_none rfl _ _ _) rfl ?_
        exact ⟨rfl, R1.out x⟩
      · rw [if_neg (fun h => h.2.elim h1 h2)]
        go_enter Tryd.func52, Tryd.ntmps52
        go_wp2
        refine bodyPost_end (v := .tuple #[]) (results_none rfl _ _ _) rfl ?_
        exact ⟨rfl, R2.out, R3.out, Kp.refl _ _⟩
  · rw [if_neg (fun h => h0 h.1)]
    go_enter Tryd.func52, Tryd.ntmps52
    go_wp2
    refine bodyPost_end (v := .tuple #[]) (results_none rfl _ _ _) rfl ?_
    exact ⟨rfl, R2.out, R3.out, Kp.refl _ _⟩
/-- the first that is at a distance -/
def ner (D : Nat → Option Nat) (r : Nat) (x : Int) (u : Nat) : Int := if x < 0 ∧ dI D u = (r : Int) then (u : Int) else x
set_option maxHeartbeats 1000000 in
theorem thr2_any (n u db pd pn pr r : Nat) (D : Nat → Option Nat) (x : Int) (hu : u < n) (W : World) (hB : Blk W db 3 (rowI n (dI D))) (hd : W.cell? ⟨pd, 0, none⟩ = some (sl db n)) (hr : W.cell? ⟨pr, 0, none⟩ = some (.int .i64 (r : Int))) (hx : W.cell? ⟨pn, 0, none⟩ = some (.int .i64 x)) (hf : W.frozen? ⟨pn, 0, none⟩ = false) :
    Calls Tryd.prog 53 #[.int .i64 u, .pointer (some ⟨pn, 0, none⟩), .pointer (some ⟨pd, 0, none⟩), .pointer (some ⟨pr, 0, none⟩)] W fun e w' => e = .returned (.tuple #[]) ∧ w'.cell? ⟨pn, 0, none⟩ = some (.int .i64 (ner D r x u)) ∧ w'.frozen? ⟨pn, 0, none⟩ = false ∧ Kp (fun k => k = pn) W w' := by
  have hc := hB.cell (rowI_get (dI D) hu)
  have d : (u : Int) < (n : Int) := by omega
  have d0 : (0 : Int) ≤ (u : Int) := by omega
  have R1 : ∀ (q : Nat) (y : Int), ((W.drewN q).setCell ⟨pn, 0, none⟩ (.int .i64 y)).cell? ⟨pn, 0, none⟩ = some (.int .i64 y) ∧ ((W.drewN q).setCell ⟨pn, 0, none⟩ (.int .i64 y)).frozen? ⟨pn, 0, none⟩ = false ∧ Kp (fun k => k = pn) W ((W.drewN q).setCell ⟨pn, 0, none⟩ (.int .i64 y)) := fun q y => ⟨World.cell?_setCell_same (W.drewN q) _ _ hx, by rw [World.frozen?_setCell]; exact hf, (Kp.below (below_self _ _ q)).trans (Kp.set (S := fun k => k = pn) (W.drewN q) (a := ⟨pn, 0, none⟩) rfl _)⟩
  have R1 := Lib.hid R1
  have R2 : ∀ q : Nat, (W.drewN q).cell? ⟨pn, 0, none⟩ = some (.int .i64 x) ∧ (W.drewN q).frozen? ⟨pn, 0, none⟩ = false ∧ Kp (fun k => k = pn) W (W.drewN q) := fun q => ⟨hx, hf, Kp.below (below_self _ _ q)⟩
  have R2 := Lib.hid R2
  unfold ner
  clear hB
  generalize dI D u = y at *
  by_cases h0 : x < 0
  · by_cases h1 : y = (r : Int)
    · rw [if_pos ⟨h0, h1⟩]
      subst h1
      go_enter Tryd.func53, Tryd.ntmps53
      go_wp2_with fail
      go_quiet (fail)
      go_wp2
      refine bodyPost_end (v := .tuple #[]) (results_none rfl _ _ _) rfl ?_
      exact ⟨rfl, R1.out _ _⟩
    · rw [if_neg (fun h => h1 h.2)]
      have h1b : (y == (r : Int)) = false := by simpa using h1
      go_enter Tryd.func53, Tryd.ntmps53
      go_wp2_with fail
      go_quiet (fail)
      go_wp2
      refine bodyPost_end (v := .tuple #[]) (results_none rfl _ _ _) rfl ?_
      exact ⟨rfl, R2.out _⟩
  · rw [if_neg (fun h => h0 h.1)]
    have h0b : decide (x < 0) = false := by simpa using h0
    clear h0
    go_enter Tryd.func53, Tryd.ntmps53
    go_wp2_with fail
    go_quiet (fail)
    go_wp2
    refine bodyPost_end (v := .tuple #[]) (results_none rfl _ _ _) rfl ?_
    exact ⟨rfl, R2.out _⟩
end gr
end Go.Proofs.YtahffafobdiogaaDoor
/- through. -/
namespace Go.Proofs.YtahffafobdiogaaDoor
set_option linter.unusedVariables false
set_option linter.unusedSimpArgs false
open Go.RowKit
namespace gr
theorem snoc_ind {α : Type} {P : List α → Prop} (h0 : P []) (h1 : ∀ l a, P l → P (l ++ [a])) (l : List α) : P l := by
  have key : ∀ r : List α, P r.reverse := by
    intro r
    induction r with
    | nil => exact h0
    | cons a r ih => rw [List.reverse_cons]; exact h1 _ _ ih
  have := key l.reverse
  rwa [List.reverse_reverse] at this
theorem rst_fold {E : Nat → Nat → Bool} {n v : Nat} {D : Nat → Option Nat} : (nbs E n v).foldl (rst D) (-1) = match mndO E n D v with | some d => (d : Int) | none => -1 := by
  have key : ∀ l : List Nat, (l.foldl (rst D) (-1) = -1 ∧ ∀ u ∈ l, D u = none) ∨ ∃ d : Nat, l.foldl (rst D) (-1) = (d : Int) ∧ (∃ u ∈ l, D u = some d) ∧ ∀ u ∈ l, ∀ e, D u = some e → d ≤ e := by
    intro l
    induction l using snoc_ind with
    | h0 => exact .inl ⟨rfl, fun u hu => by cases hu⟩
    | h1 l a ih =>
      rw [List.foldl_append, List.foldl_cons, List.foldl_nil]
      cases ha : D a with
      | none =>
        have hr : ∀ r, rst D r a = r := fun r => by
          unfold rst
          rw [if_neg (fun h => by have := dI_none.2 ha; omega)]
        rw [hr]
        rcases ih with ⟨h1, h2⟩ | ⟨d, h1, ⟨u, h2, h3⟩, h4⟩
        · exact .inl ⟨h1, fun u hu => by
            rcases List.mem_append.1 hu with h | h
            · exact h2 u h
            · rw [List.mem_singleton.1 h]; exact ha⟩
        · exact .inr ⟨d, h1, ⟨u, List.mem_append_left _ h2, h3⟩, fun u hu e he => by
            rcases List.mem_append.1 hu with h | h
            · exact h4 u h e he
            · rw [List.mem_singleton.1 h, ha] at he; cases he⟩
      | some x =>
        have hx : dI D a = (x : Int) := dI_some.2 ha
        right
        rcases ih with ⟨h1, h2⟩ | ⟨d, h1, ⟨u, h2, h3⟩, h4⟩
        · refine ⟨x, ?_, ⟨a, by simp, ha⟩, fun u hu e he => ?_⟩
          · rw [h1]; unfold rst; rw [hx, if_pos ⟨by omega, .inl (by omega)⟩]
          · rcases List.mem_append.1 hu with h | h
            · rw [h2 u h] at he; cases he
            · rw [List.mem_singleton.1 h, ha] at he; injection he with he; omega
        · by_cases hlt : x < d
          · refine ⟨x, ?_, ⟨a, by simp, ha⟩, fun u hu e he => ?_⟩
            · rw [h1]; unfold rst; rw [hx, if_pos ⟨by omega, .inr (by omega)⟩]
            · rcases List.mem_append.1 hu with h | h
              · have := h4 u h e he; omega
              · rw [List.mem_singleton.1 h, ha] at he; injection he with he; omega
          · refine ⟨d, ?_, ⟨u, List.mem_append_left _ h2, h3⟩, fun u hu e he => ?_⟩
            · rw [h1]; unfold rst; rw [hx, if_neg (fun h => h.2.elim (fun h => by omega) (fun h => by omega))]
            · rcases List.mem_append.1 hu with h | h
              · exact h4 u h e he
              · rw [List.mem_singleton.1 h, ha] at he; injection he with he; omega
  rcases key (nbs E n v) with ⟨h1, h2⟩ | ⟨d, h1, ⟨u, h2, h3⟩, h4⟩
  · rw [h1, mndO_none.2 fun w hw he => h2 w (nbs_mem.2 ⟨hw, he⟩)]
  · have hm : Mnd E n D v d := ⟨⟨u, (nbs_mem.1 h2).1, (nbs_mem.1 h2).2, h3⟩, fun w e hw he hd => h4 w (nbs_mem.2 ⟨hw, he⟩) e hd⟩
    rw [h1, mndO_some.2 hm]
theorem ner_fold {E : Nat → Nat → Bool} {n v r : Nat} {D : Nat → Option Nat} : (nbs E n v).foldl (ner D r) (-1) = match nea E n D v r with | some u => (u : Int) | none => -1 := by
  have key : ∀ l : List Nat, l.foldl (ner D r) (-1) = match l.find? (fun u => decide (D u = some r)) with | some u => (u : Int) | none => -1 := by
    intro l
    induction l using snoc_ind with
    | h0 => rfl
    | h1 l a ih =>
      rw [List.foldl_append, List.foldl_cons, List.foldl_nil, ih, List.find?_append]
      cases hf : l.find? (fun u => decide (D u = some r)) with
      | some u =>
        unfold ner
        rw [if_neg (fun h => by have h1 := h.1; simp only at h1; omega)]
        rfl
      | none =>
        unfold ner
        by_cases ha : D a = some r
        · rw [if_pos ⟨by show (-1 : Int) < 0; omega, dI_some.2 ha⟩]
          simp [ha]
        · rw [if_neg (fun h => ha (dI_some.1 h.2))]
          simp [ha]
  rw [key]
  have e : (nbs E n v).find? (fun u => decide (D u = some r)) = nea E n D v r := by
    unfold nbs nea
    rw [List.find?_filter]
    congr 1
    funext a
    rw [Bool.eq_iff_iff]
    simp
  rw [e]
/-- the row of distances, and what the calls see -/
structure Tr (w W : World) (lb n db pd pr : Nat) (E : Nat → Nat → Bool) (D : Nat → Option Nat) (r : Int) : Prop where
  lk : LkE W lb n E
  tz : Tz W
  di : Blk W db 3 (rowI n (dI D))
  dc : W.cell? ⟨pd, 0, none⟩ = some (sl db n)
  rc : W.cell? ⟨pr, 0, none⟩ = some (.int .i64 r)
  rf : W.frozen? ⟨pr, 0, none⟩ = false
  low : Below w.heap.size w W
  sz : pr < W.heap.size
  fit : tzB < w.heap.size ∧ lb + n < w.heap.size ∧ db < w.heap.size ∧ w.heap.size ≤ pd ∧ pd < pr
theorem Tr.keep {w W W' : World} {lb n db pd pr : Nat} {E : Nat → Nat → Bool} {D : Nat → Option Nat} {r : Int} (h : Tr w W lb n db pd pr E D r) (hb : Below (pr + 1) W W') : Tr w W' lb n db pd pr E D r := by
  obtain ⟨f1, f2, f3, f4, f5⟩ := h.fit
  exact ⟨h.lk.low hb (by omega), h.tz.low hb (by omega), h.di.below hb (by omega), (hb.cell (p := ⟨pd, 0, none⟩) (by simp only; omega)).trans h.dc, (hb.cell (p := ⟨pr, 0, none⟩) (by simp only; omega)).trans h.rc, (hb.frozen (p := ⟨pr, 0, none⟩) (by simp only; omega)).trans h.rf, h.low.trans (hb.mono (by omega)), Nat.lt_of_lt_of_le h.sz hb.size, h.fit⟩
theorem Tr.own {w W W' : World} {lb n db pd pr : Nat} {E : Nat → Nat → Bool} {D : Nat → Option Nat} {r r' : Int} (h : Tr w W lb n db pd pr E D r) (hk : Kp (fun k => k = pr) W W') (hr : W'.cell? ⟨pr, 0, none⟩ = some (.int .i64 r')) (hf : W'.frozen? ⟨pr, 0, none⟩ = false) : Tr w W' lb n db pd pr E D r' := by
  obtain ⟨f1, f2, f3, f4, f5⟩ := h.fit
  have hz := h.sz
  exact ⟨h.lk.kp hk (fun k _ _ e => by omega), h.tz.kp hk (fun e => by omega), hk.blk h.di (by omega), (World.cell?_of_block (hk.2 _ (World.block_lt_of_cell? W _ h.dc) (by simp only; omega))).trans h.dc, hr, hf, h.low.trans (hk.low (by omega) (fun k e => by omega)), Nat.lt_of_lt_of_le hz hk.1, h.fit⟩
theorem thr_visit1 {w W : World} {lb n db pd pr v : Nat} {E : Nat → Nat → Bool} {D : Nat → Option Nat} (hn : n ≤ 4096) (hEn : ∀ u w, E u w = true → w < n) (hv : v < n) (h : Tr w W lb n db pd pr E D (-1)) :
    Calls Tryd.prog 25 #[sl lb n, .int .i64 v, .func (.func 52) #[] #[.pointer (some ⟨pd, 0, none⟩), .pointer (some ⟨pr, 0, none⟩)]] W fun e W' => e = .returned (.tuple #[]) ∧ Tr w W' lb n db pd pr E D (match mndO E n D v with | some d => (d : Int) | none => -1) := by
  obtain ⟨f1, f2, f3, f4, f5⟩ := h.fit
  have hz := h.sz
  refine (each_any lb n v 52 _ (enters_of Tryd.func52 (by kernel_rfl) rfl) E hEn hn hv (fun k => k = pr)
    (fun pre U => Tr w U lb n db pd pr E D (pre.foldl (rst D) (-1)))
    W (fun k hk => by omega) (fun x => by omega) (fun k h1 h2 x => by omega) (fun l U U' hU hb => hU.keep (hb.mono hU.sz)) ?_ h.tz h.lk h).mono ?_
  · intro pre b r U hpre hU
    have hbn : b ∈ nbs E n v := by rw [← hpre]; simp
    refine (thr1_any n b db pd pr D _ (nbs_mem.1 hbn).1 U hU.di hU.dc hU.rc hU.rf).mono ?_
    rintro e U' ⟨he, g1, g3, g2⟩
    rw [List.foldl_append, List.foldl_cons, List.foldl_nil]
    exact ⟨he, hU.own g2 g1 g3, g2⟩
  · rintro e U ⟨he, hU, hk⟩
    rw [rst_fold] at hU
    exact ⟨he, hU⟩
theorem own_ne {W W' : World} {S : Nat → Prop} {base n : Nat} {t : TypeId} {v : Value} {xs : List Value} (h : Kp S W W') (ho : W.ownsRow base t 1 v n xs) (hs : ∀ k, S k → v.ownBlock ≠ some k) : W'.ownsRow base t 1 v n xs := by
  refine ⟨ho.1, ho.2.imp id fun ⟨g, cap, cur, e1, h1, h2, r⟩ => ⟨g, cap, cur, e1, h1, ?_, r⟩⟩
  rw [h.2 g (Array.getElem?_eq_some_iff.1 h2).1 (fun x => hs g x (by rw [e1]; rfl))]
  exact h2
theorem Tr.other {w W W' : World} {lb n db pd pr : Nat} {E : Nat → Nat → Bool} {D : Nat → Option Nat} {r : Int} {pn : Nat} (h : Tr w W lb n db pd pr E D r) (hp : pr < pn) (hk : Kp (fun k => k = pn) W W') : Tr w W' lb n db pd pr E D r :=
  h.keep (hk.low (by have := h.sz; omega) (fun k e => by omega))
theorem thr_visit2 {w W : World} {lb n db pd pr pn v r : Nat} {E : Nat → Nat → Bool} {D : Nat → Option Nat} (hn : n ≤ 4096) (hEn : ∀ u w, E u w = true → w < n) (hv : v < n) (h : Tr w W lb n db pd pr E D (r : Int)) (hp : pr < pn) (hpz : pn < W.heap.size) (hx : W.cell? ⟨pn, 0, none⟩ = some (.int .i64 (-1))) (hf : W.frozen? ⟨pn, 0, none⟩ = false) :
    Calls Tryd.prog 25 #[sl lb n, .int .i64 v, .func (.func 53) #[] #[.pointer (some ⟨pn, 0, none⟩), .pointer (some ⟨pd, 0, none⟩), .pointer (some ⟨pr, 0, none⟩)]] W fun e W' => e = .returned (.tuple #[]) ∧ Tr w W' lb n db pd pr E D (r : Int) ∧ W'.cell? ⟨pn, 0, none⟩ = some (.int .i64 (match nea E n D v r with | some u => (u : Int) | none => -1)) ∧ Kp (fun k => k = pn) W W' := by
  obtain ⟨f1, f2, f3, f4, f5⟩ := h.fit
  have hz := h.sz
  refine (each_any lb n v 53 _ (enters_of Tryd.func53 (by kernel_rfl) rfl) E hEn hn hv (fun k => k = pn)
    (fun pre U => Tr w U lb n db pd pr E D (r : Int) ∧ U.cell? ⟨pn, 0, none⟩ = some (.int .i64 (pre.foldl (ner D r) (-1))) ∧ U.frozen? ⟨pn, 0, none⟩ = false)
    W (fun k hk => by omega) (fun x => by omega) (fun k h1 h2 x => by omega) (fun l U U' ⟨hU, hc, hfz⟩ hb => ⟨hU.keep (hb.mono hU.sz), (hb.cell (p := ⟨pn, 0, none⟩) (World.block_lt_of_cell? U _ hc)).trans hc, (hb.frozen (p := ⟨pn, 0, none⟩) (World.block_lt_of_cell? U _ hc)).trans hfz⟩) ?_ h.tz h.lk ⟨h, hx, hf⟩).mono ?_
  · rintro pre b r' U hpre ⟨hU, hc, hfz⟩
    have hbn : b ∈ nbs E n v := by rw [← hpre]; simp
    refine (thr2_any n b db pd pn pr r D _ (nbs_mem.1 hbn).1 U hU.di hU.dc hU.rc hc hfz).mono ?_
    rintro e U' ⟨he, g1, g3, g2⟩
    rw [List.foldl_append, List.foldl_cons, List.foldl_nil]
    exact ⟨he, ⟨hU.other hp g2, g1, g3⟩, g2⟩
  · rintro e U ⟨he, ⟨hU, hc, _⟩, hk⟩
    rw [ner_fold] at hc
    exact ⟨he, hU, hc, hk⟩
end gr
end Go.Proofs.YtahffafobdiogaaDoor
/- through of the program. -/
namespace Go.Proofs.YtahffafobdiogaaDoor
set_option linter.unusedVariables false
set_option linter.unusedSimpArgs false
open Go.RowKit
namespace gr
theorem off_add (g j : Nat) : (⟨g, 0, none⟩ : Addr).add j = ⟨g, j, none⟩ := by simp [Addr.add]; try (intro h; exact h.symm)
theorem folr_some {nx : Nat → Nat → Option Nat} {d v w : Nat} (h : nx v (d + 1) = some w) : folr nx (d + 1) v = w :: folr nx d w := by
  conv => lhs; unfold folr
  rw [h]
/-- a list of vertices; nil if it is empty -/
def NewT (l : List Nat) (w : World) (e : Ending) (w' : World) : Prop := ∃ A c, e = .returned (.slice A l.length c) ∧ (l = [] → A = none ∧ c = 0) ∧ (l ≠ [] → ∃ ad, A = some ad) ∧ Rd w' w'.heap.size A (vV l) ∧ Below w.heap.size w w'
set_option maxRecDepth 100000 in
set_option maxHeartbeats 4000000 in
theorem through_any (n v lb db : Nat) (E : Nat → Nat → Bool) (D : Nat → Option Nat) (hn : n ≤ 4096) (hEn : ∀ u w, E u w = true → w < n) (hv : v < n) (hfull : ∀ d, Mnd E n D v d → d < n ∧ (folr (nea E n D) d v).length = d) (w : World) (hL : LkE w lb n E) (hT : Tz w) (hD : Blk w db 3 (rowI n (dI D))) (hlb : lb + n < w.heap.size) :
    Calls Tryd.prog 35 #[.int .i64 v, sl lb n, sl db n] w (NewT (thrS E n D v) w) := by
  have htz := tz_lt hT
  obtain ⟨W3, hW3⟩ : ∃ W3, (w.alloc (.cells #[sl db n] 24)).alloc (.cells #[.int .i64 (-1)] 3) = W3 := ⟨_, rfl⟩
  have hb3 : Below w.heap.size w W3 := by rw [← hW3]; exact bel_alloc (bel_box _) _
  have h3 : Tr w W3 lb n db w.heap.size (w.heap.size + 1) E D (-1) := by
    have g1 : Blk W3 w.heap.size 24 [sl db n] := by rw [← hW3]; exact (Blk.new w [sl db n] _).alloc _
    have g2 : Blk W3 (w.heap.size + 1) 3 [.int .i64 (-1)] := by
      rw [← hW3]
      have h := Blk.new (w.alloc (.cells #[sl db n] 24)) [.int .i64 (-1)] 3
      rw [World.size_alloc] at h
      exact h
    exact ⟨hL.keep hb3, hT.keep hb3, hD.keep hb3, g1.cell (i := 0) rfl, g2.cell (i := 0) rfl, g2.frozen 0, hb3, g2.lt, htz, hlb, hD.lt, Nat.le_refl _, by omega⟩
  have KV := Lib.hid (thr_visit1 hn hEn hv h3)
  obtain ⟨R, hR⟩ : ∃ R, NewT (thrS E n D v) w = R := ⟨_, rfl⟩
  rw [hR]
  cases hm : mndO E n D v with
  | none =>
    rw [hm] at KV
    have R0 : ∀ W, Below w.heap.size w W → R (.returned (.slice none 0 0)) W := fun W hb => by
      rw [← hR]
      unfold thrS
      rw [hm]
      exact ⟨none, 0, rfl, fun _ => ⟨rfl, rfl⟩, fun h => absurd rfl h, Rd.nil _ _ _, hb⟩
    have R1 := Lib.hid R0
    clear hL hT hD h3 hb3 hR hm R0
    go_enter Tryd.func35, Tryd.ntmps35
    go_wp2_with (go_at_call 25; refine KV.out.mono ?_; clear KV; rintro e w4 ⟨rfl, h4⟩; have c4 := h4.rc)
    exact R1.out _ h4.low
  | some d =>
    rw [hm] at KV
    obtain ⟨hdn, hdl⟩ := hfull d (mndO_some.1 hm)
    have HT : Hid (thrS E n D v = v :: folr (nea E n D) d v) := Lib.hid (by unfold thrS; rw [hm])
    have hR2 := Lib.hid hR
    clear hL hT hD h3 hb3 hR hm
    go_enter Tryd.func35, Tryd.ntmps35
    go_wp2_with (go_at_call 25; refine KV.out.mono ?_; clear KV; rintro e w4 ⟨rfl, h4⟩; have c4 := h4.rc)
    have hz4 := h4.sz
    have hbl : Below w4.heap.size w4 (w4.alloc (.cells #[.int .i64 (v : Int)] 3)) := bel_box _
    have h5 := h4.keep (hbl.mono (by omega))
    have ho5 : (w4.alloc (.cells #[.int .i64 (v : Int)] 3)).ownsRow (w.heap.size + 2) 3 1 (.slice (some ⟨w4.heap.size, 0, none⟩) 1 1) 1 (vV [v]) := World.ownsRow_lit w4 #[.int .i64 (v : Int)] 1 (by omega) (by unfold maxLen; omega) rfl
    generalize hsz : w4.alloc (.cells #[.int .i64 (v : Int)] 3) = W5 at *
    generalize w4.heap.size = g0 at *
    clear hsz hbl h4 c4 hz4
    have HI := Lib.hid infoI
    have HEn := Lib.hid hEn
    clear hEn hfull
    go_loopw [8] (fun a wr => ∃ (L : List Nat) (x r : Nat), wr.ownsRow (w.heap.size + 2) 3 1 a (L.length + 1) (vV (L ++ [x])) ∧ x < n ∧ Tr w wr lb n db w.heap.size (w.heap.size + 1) E D (r : Int) ∧ Hid (L ++ x :: folr (nea E n D) r x = v :: folr (nea E n D) d v ∧ (folr (nea E n D) r x).length = r)) (fun a _ => d + 1 - lenV a)
    case atStart => exact ⟨[], v, d, ho5, hv, h5, Lib.hid ⟨rfl, hdl⟩⟩
    case round =>
      obtain ⟨L, x, r, hown, hx, htr, hfo⟩ := hrel
      clear ho5 h5
      have hlen : L.length + r = d := by
        have h1 := congrArg List.length hfo.out.1
        rw [List.length_append, List.length_cons, List.length_cons, hfo.out.2, hdl] at h1
        omega
      have c5 := htr.rc
      cases r with
      | zero =>
        have hL : L ++ [x] = thrS E n D v := by rw [HT.out, ← hfo.out.1]; rfl
        have hlow := htr.low
        obtain ⟨g, cap, rfl, _⟩ := hown.form (by omega)
        have hRd := Rd.of_own hown
        have R0 : ∀ W, W = wr → R (.returned (.slice (some ⟨g, 0, none⟩) (L.length + 1) cap)) W := by
          rintro W rfl
          rw [← hR2.out, ← hL]
          exact ⟨_, cap, by simp, fun h => by simp at h, fun _ => ⟨_, rfl⟩, hRd, hlow⟩
        have R1 := Lib.hid R0
        clear R0 hR2 HT hL hown htr hfo hRd hlow
        go_wp2
        exact R1.out _ rfl
      | succ r =>
        obtain ⟨u, hu⟩ : ∃ u, nea E n D x (r + 1) = some u := by
          cases hq : nea E n D x (r + 1) with
          | some u => exact ⟨u, rfl⟩
          | none =>
            have h1 := hfo.out.2
            unfold folr at h1
            rw [hq] at h1
            simp at h1
        have hfo2 : Hid ((L ++ [x]) ++ u :: folr (nea E n D) r u = v :: folr (nea E n D) d v ∧ (folr (nea E n D) r u).length = r) := Lib.hid (by
          have h1 := hfo.out
          rw [folr_some hu] at h1
          simp only [List.length_cons, Nat.add_right_cancel_iff] at h1
          exact ⟨by rw [← h1.1]; simp, h1.2⟩)
        have hun := (nea_some hu).1
        have hz := htr.sz
        have hbb : Below wr.heap.size wr (wr.alloc (.cells #[.int .i64 (-1)] 3)) := bel_box _
        have hpn := Blk.new wr [.int .i64 (-1)] 3
        have htr2 := htr.keep (hbb.mono (by omega : w.heap.size + 1 + 1 ≤ wr.heap.size))
        have KE := Lib.hid (thr_visit2 (pn := wr.heap.size) hn HEn.out hx htr2 (by omega) (by simp) (hpn.cell (i := 0) rfl) (hpn.frozen 0))
        rw [hu] at KE
        obtain ⟨g, cap, rfl, hg1, hg2⟩ := hown.form (by omega)
        have cx : (wr.alloc (.cells #[.int .i64 (-1)] 3)).cell? ⟨g, L.length, none⟩ = some (.int .i64 (x : Int)) := cell_al _ (off_add g L.length ▸ hown.cells (g := g) rfl L.length (.int .i64 (x : Int)) (by simp [vV]))
        have ho2 := Lib.hid (own_keep hown hbb)
        have hgn := Lib.hid (show g ≠ wr.heap.size by omega)
        have hln : L.length < 4096 := by omega
        clear hown htr htr2 hfo hpn hbb hu
        obtain ⟨q, hq⟩ : ∃ q, L.length = q := ⟨_, rfl⟩
        rw [hq] at cx ho2 hln
        have HQ := Lib.hid hq
        have x2 : (0 : Int) ≤ (q : Int) := by omega
        obtain ⟨i0, hi, iz, is, ib⟩ := HI.out
        go_wp2_with (first
          | (go_at_call 25; refine KE.out.mono ?_; clear KE; rintro e w6 ⟨rfl, h6, c6, hk6⟩; have ho6 := Lib.hid (own_ne hk6 ho2.out (fun k hk e => by have := hgn.out; simp only [Value.ownBlock, Option.some.injEq] at e; omega)); clear hk6 ho2)
          | (at_builtin; refine wpList_append_own_at _ rfl _ _ 24 rfl (w.heap.size + 2) 3 i0 (.int .i64 0) 1 8 Tryd.underlying24 hi iz is ib rfl (by decide) _ (q + 1) (vV (L ++ [x])) rfl (own_keep ho6.out (bel_box _)) ⟨w6.heap.size, 0, none⟩ 1 1 [.int .i64 (u : Int)] rfl rfl (row1 _ _ _) (one_int _) (by unfold maxLen; omega) (by omega) (by rw [World.size_alloc]; have := h6.sz; omega) ?_; intro v9 w9 hown9 hgrow9 _ _; have hb9 : Below (w.heap.size + 1 + 1) w6 w9 := own_below (Below.refl _ _) (by have := h6.sz; omega) ho6.out hgrow9; have h9 := h6.keep hb9; have hown9 := Lib.hid hown9; have c9 := h9.rc; have f9 := h9.rf; clear h6 ho6 hgrow9 hb9))
        have hk10 : Kp (fun k => k = w.heap.size + 1) w9 (w9.setCell ⟨w.heap.size + 1, 0, none⟩ (.int .i64 (r : Int))) := Kp.set (S := fun k => k = w.heap.size + 1) w9 (a := ⟨w.heap.size + 1, 0, none⟩) rfl _
        have h10 := h9.own (r' := (r : Int)) hk10 (World.cell?_setCell_same w9 _ _ c9) (by rw [World.frozen?_setCell]; exact f9)
        have hw := hk10.own hown9.out (fun k e => by omega)
        rw [vV_snoc] at hw
        refine ⟨⟨L ++ [x], u, r, by rw [show (L ++ [x]).length + 1 = q + 1 + 1 by rw [List.length_append, HQ.out]; rfl]; exact hw, hun, h10, hfo2⟩, ?_⟩
        obtain ⟨V9, cc9, rfl⟩ := own_form hw
        simp only [lenV]
        omega
end gr
end Go.Proofs.YtahffafobdiogaaDoor
/- distances: what is known at a level. -/
namespace Go.Proofs.YtahffafobdiogaaDoor
set_option linter.unusedVariables false
set_option linter.unusedSimpArgs false
open Go.RowKit
namespace gr
theorem opt_eq {o p : Option Nat} (h : ∀ e, o = some e ↔ p = some e) : o = p := by
  cases o with
  | none =>
    cases p with
    | none => rfl
    | some x => exact absurd ((h x).2 rfl) (by simp)
  | some x => exact ((h x).1 rfl).symm
/-- the vertices at a distance of at most k -/
def Dle (E : Nat → Nat → Bool) (n v k w : Nat) : Prop := ∃ e, e ≤ k ∧ Ds E n v v e w
open Classical in
noncomputable def dleB (E : Nat → Nat → Bool) (n v k w : Nat) : Bool := decide (Dle E n v k w)
theorem dleB_iff {E : Nat → Nat → Bool} {n v k w : Nat} : dleB E n v k w = true ↔ Dle E n v k w := by simp only [dleB, decide_eq_true_eq]
/-- what is seen behind k levels -/
noncomputable def base (E : Nat → Nat → Bool) (n v k w : Nat) : Bool := decide (w ≤ v) || dleB E n v k w
/-- what comes new at level k + 1 -/
theorem new_iff {E : Nat → Nat → Bool} {n v k w : Nat} : Ds E n v v (k + 1) w ↔ base E n v k w = false ∧ w < n ∧ ∃ u, E w u = true ∧ Ds E n v v k u := by
  rw [Ds.succ_iff]
  unfold base
  rw [Bool.or_eq_false_iff, decide_eq_false_iff_not]
  constructor
  · rintro ⟨h1, h2, h3, h4⟩
    refine ⟨⟨fun h => ?_, ?_⟩, h1, h3⟩
    · have : w = v := by omega
      exact h4 0 (by omega) (Ds.zero_iff.2 this)
    · cases hb : dleB E n v k w with
      | false => rfl
      | true =>
        obtain ⟨e, he, hd⟩ := dleB_iff.1 hb
        exact absurd hd (h4 e he)
  · rintro ⟨⟨h1, h2⟩, h3, h4⟩
    refine ⟨h3, by omega, h4, fun e he hd => ?_⟩
    rw [dleB_iff.2 ⟨e, he, hd⟩] at h2
    cases h2
theorem dle_succ {E : Nat → Nat → Bool} {n v k w : Nat} : Dle E n v (k + 1) w ↔ Dle E n v k w ∨ Ds E n v v (k + 1) w := by
  constructor
  · rintro ⟨e, he, hd⟩
    rcases Nat.eq_or_lt_of_le he with rfl | h
    · exact .inr hd
    · exact .inl ⟨e, by omega, hd⟩
  · rintro (⟨e, he, hd⟩ | hd)
    · exact ⟨e, by omega, hd⟩
    · exact ⟨k + 1, Nat.le_refl _, hd⟩
theorem base_zero {E : Nat → Nat → Bool} {n v w : Nat} : base E n v 0 w = decide (w ≤ v) := by
  unfold base
  cases hb : dleB E n v 0 w with
  | false => simp
  | true =>
    obtain ⟨e, he, hd⟩ := dleB_iff.1 hb
    obtain rfl : e = 0 := by omega
    have := Ds.zero_iff.1 hd
    simp [this]
theorem base_succ {E : Nat → Nat → Bool} {n v k w : Nat} {F : List Nat} (hF : ∀ w, w ∈ F ↔ Ds E n v v (k + 1) w) : (base E n v k w || F.contains w) = base E n v (k + 1) w := by
  unfold base
  rw [Bool.eq_iff_iff]
  simp only [Bool.or_eq_true, decide_eq_true_eq, dleB_iff, List.contains_iff_mem, hF, dle_succ, or_assoc]
theorem dI_zero {E : Nat → Nat → Bool} {n v w : Nat} : dI (capD 0 (dstS E n v)) w = if w = v then 0 else -1 := by
  by_cases h : w = v
  · rw [if_pos h]
    exact (dI_some (d := 0)).2 (capD_iff.2 ⟨dstS_iff.2 (Ds.zero_iff.2 h), Nat.le_refl _⟩)
  · rw [if_neg h]
    cases hc : capD 0 (dstS E n v) w with
    | none => unfold dI; rw [hc]
    | some d =>
      obtain ⟨h1, h2⟩ := capD_iff.1 hc
      obtain rfl : d = 0 := by omega
      exact absurd (Ds.zero_iff.1 (dstS_iff.1 h1)) h
theorem dI_succ {E : Nat → Nat → Bool} {n v k w : Nat} {F : List Nat} (hF : ∀ w, w ∈ F ↔ Ds E n v v (k + 1) w) : (if F.contains w = true then ((k + 1 : Nat) : Int) else dI (capD k (dstS E n v)) w) = dI (capD (k + 1) (dstS E n v)) w := by
  by_cases h : F.contains w = true
  · rw [if_pos h]
    exact (dI_some.2 (capD_iff.2 ⟨dstS_iff.2 ((hF w).1 (List.contains_iff_mem.1 h)), Nat.le_refl _⟩)).symm
  · rw [if_neg h]
    have e : capD k (dstS E n v) w = capD (k + 1) (dstS E n v) w := opt_eq fun d => by
      rw [capD_iff, capD_iff]
      constructor
      · exact fun x => ⟨x.1, by omega⟩
      · intro x
        refine ⟨x.1, ?_⟩
        have hne : d ≠ k + 1 := fun y => h (List.contains_iff_mem.2 ((hF w).2 (y ▸ dstS_iff.1 x.1)))
        omega
    unfold dI
    rw [e]
/-- with no vertex at distance k nothing is farther -/
theorem ds_stop {E : Nat → Nat → Bool} {n v k : Nat} (h : ∀ w, ¬ Ds E n v v k w) : ∀ d, k ≤ d → ∀ w, ¬ Ds E n v v d w := by
  intro d
  induction d with
  | zero =>
    intro hd w
    obtain rfl : k = 0 := by omega
    exact h w
  | succ d ih =>
    intro hd w hw
    rcases Nat.eq_or_lt_of_le hd with e | e
    · exact h w (e ▸ hw)
    · obtain ⟨_, _, ⟨u, _, hu⟩, _⟩ := Ds.succ_iff.1 hw
      exact ih (by omega) u hu
theorem cap_stop {E : Nat → Nat → Bool} {n v k far : Nat} (h : ∀ w, ¬ Ds E n v v k w) (hk : k ≤ far) : capD k (dstS E n v) = capD far (dstS E n v) := by
  funext w
  refine opt_eq fun d => ?_
  rw [capD_iff, capD_iff]
  constructor
  · exact fun x => ⟨x.1, by omega⟩
  · intro x
    refine ⟨x.1, ?_⟩
    rcases Nat.lt_or_ge k d with h1 | h1
    · exact absurd (dstS_iff.1 x.1) (ds_stop h d (by omega) w)
    · exact h1
end gr
end Go.Proofs.YtahffafobdiogaaDoor
/- distances: its visits. -/
namespace Go.Proofs.YtahffafobdiogaaDoor
set_option linter.unusedVariables false
set_option linter.unusedSimpArgs false
open Go.RowKit
namespace gr
/-- all blocks below B but those of S are as they were -/
structure Kq (B : Nat) (S : Nat → Prop) (W W' : World) : Prop where
  size : W.heap.size ≤ W'.heap.size
  blocks : ∀ k, k < B → k < W.heap.size → ¬ S k → W'.heap[k]? = W.heap[k]?
  os : Os W W'
theorem Kq.refl (B : Nat) (S : Nat → Prop) (W : World) : Kq B S W W := ⟨Nat.le_refl _, fun _ _ _ _ => rfl, .refl W⟩
theorem Kq.trans {N : Nat} {S : Nat → Prop} {A B C : World} (h : Kq N S A B) (g : Kq N S B C) : Kq N S A C :=
  ⟨Nat.le_trans h.1 g.1, fun k hN hk hs => (g.2 k hN (Nat.lt_of_lt_of_le hk h.1) hs).trans (h.2 k hN hk hs), h.os.trans g.os⟩
theorem Kq.below {B N : Nat} {S : Nat → Prop} {W W' : World} (h : Below N W W') (hB : B ≤ N) : Kq B S W W' := ⟨h.size, fun k hk _ _ => h.block k (by omega), .below h⟩
theorem Kq.kp {B : Nat} {S T : Nat → Prop} {W W' : World} (h : Kp T W W') (hs : ∀ k, T k → S k) : Kq B S W W' := ⟨h.1, fun k _ hk hn => h.2 k hk fun x => hn (hs k x), h.os⟩
theorem Kq.cell {B : Nat} {S : Nat → Prop} {W W' : World} (h : Kq B S W W') {a : Addr} {v : Value} (hc : W.cell? a = some v) (hB : a.block < B) (hs : ¬ S a.block) : W'.cell? a = some v :=
  (World.cell?_of_block (h.2 _ hB (World.block_lt_of_cell? W _ hc) hs)).trans hc
theorem Kq.low {B N : Nat} {S : Nat → Prop} {W W' : World} (h : Kq B S W W') (hN : N ≤ B) (hz : N ≤ W.heap.size) (hs : ∀ k, S k → N ≤ k) : Below N W W' :=
  ⟨h.os.1, h.os.2.1, h.os.2.2, h.1, fun k hk => h.2 k (by omega) (by omega) fun x => by have := hs k x; omega⟩
/-- what distances has in memory -/
structure Dt (w W : World) (lb n db pd sb ps : Nat) (E : Nat → Nat → Bool) (f : Nat → Int) (p : Nat → Bool) : Prop where
  lk : LkE W lb n E
  tz : Tz W
  di : Blk W db 3 (rowI n f)
  dc : W.cell? ⟨pd, 0, none⟩ = some (sl db n)
  sn : ∃ ws, Blk W sb 69 (uV ws) ∧ St (sizeW n) ws p
  sc : W.cell? ⟨ps, 0, none⟩ = some (sl sb (sizeW n))
  low : Below w.heap.size w W
  sz : ps < W.heap.size
  fit : tzB < w.heap.size ∧ lb + n < w.heap.size ∧ w.heap.size ≤ db ∧ db < pd ∧ pd < sb ∧ sb < ps
theorem Dt.keep {w W W' : World} {lb n db pd sb ps : Nat} {E : Nat → Nat → Bool} {f : Nat → Int} {p : Nat → Bool} (h : Dt w W lb n db pd sb ps E f p) (hb : Below (ps + 1) W W') : Dt w W' lb n db pd sb ps E f p := by
  obtain ⟨f1, f2, f3, f4, f5, f6⟩ := h.fit
  obtain ⟨ws, h1, h2⟩ := h.sn
  exact ⟨h.lk.low hb (by omega), h.tz.low hb (by omega), h.di.below hb (by omega), (hb.cell (p := ⟨pd, 0, none⟩) (by simp only; omega)).trans h.dc, ⟨ws, h1.below hb (by omega), h2⟩, (hb.cell (p := ⟨ps, 0, none⟩) (by simp only; omega)).trans h.sc, h.low.trans (hb.mono (by omega)), Nat.lt_of_lt_of_le h.sz hb.size, h.fit⟩
theorem Dt.congr {w W : World} {lb n db pd sb ps : Nat} {E : Nat → Nat → Bool} {f g : Nat → Int} {p q : Nat → Bool} (h : Dt w W lb n db pd sb ps E f p) (hf : ∀ v, v < n → f v = g v) (hp : ∀ v, p v = q v) : Dt w W lb n db pd sb ps E g q := by
  obtain ⟨ws, h1, h2⟩ := h.sn
  exact ⟨h.lk, h.tz, by rw [← rowI_congr hf]; exact h.di, h.dc, ⟨ws, h1, h2.congr hp⟩, h.sc, h.low, h.sz, h.fit⟩
theorem Dt.add {w W : World} {lb n db pd sb ps : Nat} {E : Nat → Nat → Bool} {f : Nat → Int} {p : Nat → Bool} (hn : n ≤ 4096) (h : Dt w W lb n db pd sb ps E f p) {v : Nat} (hv : v < n) : Calls Tryd.prog 28 #[sl sb (sizeW n), .int .i64 v] W fun e W' => e = .returned (.tuple #[]) ∧ Dt w W' lb n db pd sb ps E f (fun u => p u || decide (u = v)) ∧ Kp (fun k => k = sb) W W' := by
  obtain ⟨f1, f2, f3, f4, f5, f6⟩ := h.fit
  obtain ⟨ws, h1, h2⟩ := h.sn
  have hz := h.sz
  refine (add_any sb (sizeW n) v ws p W h1 h2 (by unfold sizeW; omega) (size_div hv)).mono ?_
  rintro e W' ⟨he, q, rfl⟩
  have hk : Kp (fun k => k = sb) W ((W.setCell ⟨sb, v / 64, none⟩ (.int .u64 ((ws.getD (v / 64) 0 ||| 2 ^ (v % 64) : Nat) : Int))).drewN q) := (Kp.set (S := fun k => k = sb) W (a := ⟨sb, v / 64, none⟩) rfl _).trans (Kp.below (below_self _ _ q))
  refine ⟨he, ⟨h.lk.kp hk (fun k _ _ e => by omega), h.tz.kp hk (fun e => by omega), hk.blk h.di (by omega), (World.cell?_of_block (hk.2 _ (World.block_lt_of_cell? W _ h.dc) (by simp only; omega))).trans h.dc, ⟨addW ws v, ?_, h2.add (size_div hv)⟩, (World.cell?_of_block (hk.2 _ (World.block_lt_of_cell? W _ h.sc) (by simp only; omega))).trans h.sc, h.low.trans (hk.low (by omega) (fun k e => by omega)), Nat.lt_of_lt_of_le hz hk.1, h.fit⟩, hk⟩
  have := h1.set (v / 64) (.int .u64 ((ws.getD (v / 64) 0 ||| 2 ^ (v % 64) : Nat) : Int))
  rw [uV_set] at this
  exact this
theorem Dt.put {w W : World} {lb n db pd sb ps u : Nat} {E : Nat → Nat → Bool} {f : Nat → Int} {p : Nat → Bool} (h : Dt w W lb n db pd sb ps E f p) (x : Int) : Dt w (W.setCell ⟨db, u, none⟩ (.int .i64 x)) lb n db pd sb ps E (fun v => if v = u then x else f v) p ∧ Kp (fun k => k = db) W (W.setCell ⟨db, u, none⟩ (.int .i64 x)) := by
  obtain ⟨f1, f2, f3, f4, f5, f6⟩ := h.fit
  obtain ⟨ws, h1, h2⟩ := h.sn
  have hz := h.sz
  have hk : Kp (fun k => k = db) W (W.setCell ⟨db, u, none⟩ (.int .i64 x)) := Kp.set (S := fun k => k = db) W (a := ⟨db, u, none⟩) rfl _
  refine ⟨⟨h.lk.kp hk (fun k _ _ e => by omega), h.tz.kp hk (fun e => by omega), ?_, (World.cell?_of_block (hk.2 _ (World.block_lt_of_cell? W _ h.dc) (by simp only; omega))).trans h.dc, ⟨ws, hk.blk h1 (by omega), h2⟩, (World.cell?_of_block (hk.2 _ (World.block_lt_of_cell? W _ h.sc) (by simp only; omega))).trans h.sc, h.low.trans (hk.low (by omega) (fun k e => by omega)), Nat.lt_of_lt_of_le hz hk.1, h.fit⟩, hk⟩
  have := h.di.set u (.int .i64 x)
  rw [rowI_set] at this
  exact this
/-- what its visits find: F so far, at distance k -/
structure Df (w W : World) (lb n db pd sb ps px pf BF : Nat) (E : Nat → Nat → Bool) (f0 : Nat → Int) (b0 : Nat → Bool) (k : Nat) (F : List Nat) : Prop where
  dt : Dt w W lb n db pd sb ps E (fun v => if F.contains v = true then (k : Int) else f0 v) (fun v => b0 v || F.contains v)
  xc : W.cell? ⟨px, 0, none⟩ = some (.int .i64 (k : Int))
  fc : ∃ V, W.cell? ⟨pf, 0, none⟩ = some V ∧ W.ownsRow BF 3 1 V F.length (vV F)
  ff : W.frozen? ⟨pf, 0, none⟩ = false
  bz : BF ≤ W.heap.size
  len : F.length ≤ n
  fit2 : ps < px ∧ px < pf ∧ pf < BF
theorem Df.keep {w W W' : World} {lb n db pd sb ps px pf BF k : Nat} {E : Nat → Nat → Bool} {f0 : Nat → Int} {b0 : Nat → Bool} {F : List Nat} (h : Df w W lb n db pd sb ps px pf BF E f0 b0 k F) (hb : Below W.heap.size W W') : Df w W' lb n db pd sb ps px pf BF E f0 b0 k F := by
  obtain ⟨V, h1, h2⟩ := h.fc
  have hz := h.dt.sz
  exact ⟨h.dt.keep (hb.mono (by omega)), (hb.cell (p := ⟨px, 0, none⟩) (World.block_lt_of_cell? W _ h.xc)).trans h.xc, ⟨V, (hb.cell (p := ⟨pf, 0, none⟩) (World.block_lt_of_cell? W _ h1)).trans h1, own_keep h2 hb⟩, (hb.frozen (p := ⟨pf, 0, none⟩) (World.block_lt_of_cell? W _ h1)).trans h.ff, Nat.le_trans h.bz hb.size, h.len, h.fit2⟩
theorem row1' {w : World} {z : Nat} (hz : w.heap.size = z) (x : Value) (t : TypeId) : ∀ j u, [x][j]? = some u → (w.alloc (.cells #[x] t)).cell? ((⟨z, 0, none⟩ : Addr).add j) = some u := by
  subst hz
  exact row1 w x t
/-- what a visit may write -/
abbrev Sd (db sb pf : Nat) (k : Nat) : Prop := k = db ∨ k = sb ∨ k = pf
set_option maxRecDepth 100000 in
set_option maxHeartbeats 4000000 in
theorem dist1_any (w W : World) (lb n db pd sb ps px pf BF k u : Nat) (E : Nat → Nat → Bool) (f0 : Nat → Int) (b0 : Nat → Bool) (F : List Nat) (hn : n ≤ 4096) (hu : u < n) (hF : F.length < n) (h : Df w W lb n db pd sb ps px pf BF E f0 b0 k F) :
    Calls Tryd.prog 54 #[.int .i64 u, .pointer (some ⟨ps, 0, none⟩), .pointer (some ⟨px, 0, none⟩), .pointer (some ⟨pd, 0, none⟩), .pointer (some ⟨pf, 0, none⟩)] W fun e W' => e = .returned (.tuple #[]) ∧ Df w W' lb n db pd sb ps px pf BF E f0 b0 k (F ++ [u]) ∧ Kq BF (Sd db sb pf) W W' := by
  obtain ⟨f1, f2, f3, f4, f5, f6⟩ := h.dt.fit
  obtain ⟨g1, g2, g3⟩ := h.fit2
  obtain ⟨V, hV, hO⟩ := h.fc
  have hbz := h.bz
  have KA := Lib.hid ((Dt.add hn h.dt hu).mono (R' := fun e W2 => e = .returned (.tuple #[]) ∧ Dt w W2 lb n db pd sb ps E (fun v => if F.contains v = true then (k : Int) else f0 v) (fun v => b0 v || (F ++ [u]).contains v) ∧ W2.cell? ⟨px, 0, none⟩ = some (.int .i64 (k : Int)) ∧ W2.cell? ⟨pf, 0, none⟩ = some V ∧ W2.frozen? ⟨pf, 0, none⟩ = false ∧ Hid (W2.ownsRow BF 3 1 V F.length (vV F) ∧ BF ≤ W2.heap.size ∧ Kq BF (Sd db sb pf) W W2)) fun e W2 ⟨he, h2, hk⟩ => by
    have hblk : ∀ b, b ≠ sb → b < W.heap.size → W2.heap[b]? = W.heap[b]? := fun b hb hl => hk.2 b hl hb
    have hpf := World.block_lt_of_cell? W _ hV
    exact ⟨he, h2.congr (fun _ _ => rfl) (fun v => by rw [Bool.eq_iff_iff]; simp [or_assoc]), (World.cell?_of_block (hblk _ (by simp only; omega) (World.block_lt_of_cell? W _ h.xc))).trans h.xc, (World.cell?_of_block (hblk _ (by simp only; omega) hpf)).trans hV, (World.frozen?_of_block (hblk _ (by simp only; omega) hpf)).trans h.ff, Lib.hid ⟨hk.own hO (fun k e => by omega), Nat.le_trans hbz hk.1, .kp hk (fun k e => .inr (.inl e))⟩⟩)
  have HP := Lib.hid (fun W2 (h2 : Dt w W2 lb n db pd sb ps E (fun v => if F.contains v = true then (k : Int) else f0 v) (fun v => b0 v || (F ++ [u]).contains v)) => h2.put (u := u) (k : Int))
  obtain ⟨i0, hi, iz, is, ib⟩ := infoI
  have hcs := h.dt.sc
  have x1 : (u : Int) < (n : Int) := by omega
  have x0 : (0 : Int) ≤ (u : Int) := by omega
  have hlenF : F.length < 4096 := by omega
  obtain ⟨A, c, rfl⟩ := own_form hO
  clear h hV hO
  go_enter Tryd.func54, Tryd.ntmps54
  go_wp2_with (first
    | (go_at_call 28; refine KA.out.mono ?_; clear KA; rintro e w2 ⟨rfl, h2, x2, v2, r2, o2⟩; have d2 := h2.dc; have c2 := h2.di.cell (rowI_get _ hu); have fr2 := h2.di.frozen u)
    | (at_builtin; refine wpList_append_own_at _ rfl _ _ 24 rfl BF 3 i0 (.int .i64 0) 1 8 Tryd.underlying24 hi iz is ib rfl (by decide) _ F.length (vV F) rfl (own_keep ((HP.out w2 h2).2.own o2.out.1 (fun k e => by omega)) (bel_box _)) ⟨w2.heap.size, 0, none⟩ 1 1 [.int .i64 (u : Int)] rfl rfl (row1' (World.size_setCell w2 _ _) _ _) (one_int _) (by unfold maxLen; omega) (by omega) (by rw [World.size_alloc, World.size_setCell]; have := o2.out.2.1; omega) ?_; intro V3 w3 hown3 hgrow3 _ _; obtain ⟨A3, c3, rfl⟩ := own_form hown3; have hb3 : Below BF (w2.setCell ⟨db, u, none⟩ (.int .i64 (k : Int))) w3 := own_below (Below.refl _ _) (by rw [World.size_setCell]; exact o2.out.2.1) ((HP.out w2 h2).2.own o2.out.1 (fun k e => by omega)) hgrow3; have v3 : w3.cell? ⟨pf, 0, none⟩ = some (.slice A F.length c) := (hb3.cell (p := ⟨pf, 0, none⟩) (by simp only; omega)).trans ((World.cell?_setCell_other _ _ _ _ (by intro e; injection e with e; omega)).trans v2); have r3 : w3.frozen? ⟨pf, 0, none⟩ = false := (hb3.frozen (p := ⟨pf, 0, none⟩) (by simp only; omega)).trans (by rw [World.frozen?_setCell]; exact r2); have hown3 := Lib.hid hown3; have hb3 := Lib.hid hb3; clear hgrow3))
  refine bodyPost_end (v := .tuple #[]) (results_none rfl _ _ _) rfl ?_
  obtain ⟨q1, q2⟩ := HP.out w2 h2
  have hw := hown3.out
  rw [vV_snoc] at hw
  have hk5 : Kp (fun k => k = pf) w3 (w3.setCell ⟨pf, 0, none⟩ (.slice A3 (F.length + 1) c3)) := Kp.set (S := fun k => k = pf) w3 (a := ⟨pf, 0, none⟩) rfl _
  have hz3 := hb3.out.size
  rw [World.size_setCell] at hz3
  have hbz2 := o2.out.2.1
  have hlow5 : Below (ps + 1) (w2.setCell ⟨db, u, none⟩ (.int .i64 (k : Int))) (w3.setCell ⟨pf, 0, none⟩ (.slice A3 (F.length + 1) c3)) := (hb3.out.mono (by omega)).trans (hk5.low (by omega) (fun k e => by omega))
  refine ⟨rfl, ⟨(q1.keep hlow5).congr (fun v hv => ?_) (fun _ => rfl), ?_, ⟨_, World.cell?_setCell_same w3 _ _ v3, ?_⟩, by rw [World.frozen?_setCell]; exact r3, by rw [World.size_setCell]; omega, by rw [List.length_append, List.length_singleton]; omega, g1, g2, g3⟩, ?_⟩
  · by_cases e : v = u
    · subst e
      simp
    · rw [if_neg e]
      have e2 : (F ++ [u]).contains v = F.contains v := by
        rw [Bool.eq_iff_iff]
        simp [e]
      rw [e2]
  · exact (World.cell?_setCell_other _ _ _ _ (by intro e; injection e with e; omega)).trans ((hb3.out.cell (p := ⟨px, 0, none⟩) (by simp only; omega)).trans ((World.cell?_setCell_other _ _ _ _ (by intro e; injection e with e; omega)).trans x2))
  · rw [show (F ++ [u]).length = F.length + 1 by simp]
    exact hk5.own hw (fun k e => by omega)
  · exact (o2.out.2.2.trans (.kp q2 (fun k e => .inl e))).trans ((Kq.below hb3.out (Nat.le_refl _)).trans (.kp hk5 (fun k e => .inr (.inr e))))
end gr
end Go.Proofs.YtahffafobdiogaaDoor
/- distances: all neighbours of a vertex of a level. -/
namespace Go.Proofs.YtahffafobdiogaaDoor
set_option linter.unusedVariables false
set_option linter.unusedSimpArgs false
open Go.RowKit
namespace gr
theorem bits_nodup (x : Nat) : (bitsL x).Nodup := List.Nodup.sublist List.filter_sublist List.nodup_range
theorem dist_visit (w W : World) (lb n db pd sb ps px pf BF k u0 : Nat) (E : Nat → Nat → Bool) (f0 : Nat → Int) (b0 : Nat → Bool) (F0 : List Nat) (hn : n ≤ 4096) (hEn : ∀ u w, E u w = true → w < n) (hu : u0 < n) (hnd : F0.Nodup ∧ ∀ x ∈ F0, x < n) (h : Df w W lb n db pd sb ps px pf BF E f0 b0 k F0) :
    Calls Tryd.prog 50 #[sl lb n, .int .i64 u0, sl sb (sizeW n), .func (.func 54) #[] #[.pointer (some ⟨ps, 0, none⟩), .pointer (some ⟨px, 0, none⟩), .pointer (some ⟨pd, 0, none⟩), .pointer (some ⟨pf, 0, none⟩)]] W fun e W' => e = .returned (.tuple #[]) ∧ ∃ F1, (∀ w, w ∈ F1 ↔ w ∈ F0 ∨ (b0 w = false ∧ E u0 w = true)) ∧ (F1.Nodup ∧ ∀ x ∈ F1, x < n) ∧ Df w W' lb n db pd sb ps px pf BF E f0 b0 k F1 ∧ Kq BF (Sd db sb pf) W W' := by
  obtain ⟨wss, hlk, hst⟩ := h.dt.lk.ex
  have hsv := hst u0 hu
  obtain ⟨f1, f2, f3, f4, f5, f6⟩ := h.dt.fit
  obtain ⟨g1, g2, g3⟩ := h.fit2
  have hbz := h.bz
  have hSl : ∀ k, lb ≤ k → k ≤ lb + n → ¬ Sd db sb pf k := fun k h1 h2 x => by rcases x with x | x | x <;> omega
  have hlt : ∀ v, v < n → lb + 1 + v < W.heap.size := fun v hv => h.dt.lk.lt hv
  refine (eachNew_any lb n u0 sb 54 _ (enters_of Tryd.func54 (by kernel_rfl) rfl) (fun i => (wss u0).getD i 0) hsv.wf hn hu
    (fun i U => ∃ F, (∀ w, w ∈ F ↔ w ∈ F0 ∨ (b0 w = false ∧ E u0 w = true ∧ w / 64 < i)) ∧ (F.Nodup ∧ ∀ x ∈ F, x < n) ∧ Df w U lb n db pd sb ps px pf BF E f0 b0 k F ∧ Kq BF (Sd db sb pf) W U)
    (fun i l U => ∃ F, (∀ w, w ∈ F ↔ w ∈ F0 ∨ (b0 w = false ∧ E u0 w = true ∧ (w / 64 < i ∨ (w / 64 = i ∧ w % 64 ∉ l)))) ∧ ((∀ b ∈ l, b < 64 ∧ b0 (i * 64 + b) = false ∧ i * 64 + b ∉ F ∧ E u0 (i * 64 + b) = true) ∧ l.Nodup) ∧ (F.Nodup ∧ ∀ x ∈ F, x < n) ∧ Df w U lb n db pd sb ps px pf BF E f0 b0 k F ∧ Kq BF (Sd db sb pf) W U)
    ?_ ?_ ?_ ?_ W (hlk.hd hu) ⟨F0, fun w => ⟨.inl, fun x => x.elim id fun y => by omega⟩, hnd, h, Kq.refl _ _ _⟩).mono ?_
  · rintro i U hi ⟨F, h1, h2, h3, h4⟩
    have hrow := hlk.sets u0 hu
    have hrow2 : Blk U (lb + 1 + u0) 69 (uV (wss u0)) := hrow.to (h4.2 _ (by omega) hrow.lt (hSl _ (by omega) (by omega)))
    obtain ⟨us, hu1, hu2⟩ := h3.dt.sn
    refine ⟨hrow2.cell (uV_get (by rw [hsv.len]; exact hi)), us.getD i 0, hu2.wf i, hu1.cell (uV_get (by rw [hu2.len]; exact hi)), F, ?_, ⟨?_, bits_nodup _⟩, h2, h3, h4⟩
    · have hbit : ∀ b, b < 64 → (us.getD i 0).testBit b = (b0 (i * 64 + b) || F.contains (i * 64 + b)) := fun b hb => by
        have := hu2.iff (i * 64 + b)
        unfold inW at this
        rw [show (i * 64 + b) / 64 = i by omega, show (i * 64 + b) % 64 = b by omega] at this
        exact this
      intro x
      rw [h1 x]
      constructor
      · rintro (y | ⟨y1, y2, y3⟩)
        · exact .inl y
        · exact .inr ⟨y1, y2, .inl y3⟩
      · rintro (y | ⟨y1, y2, y3 | ⟨y3, y4⟩⟩)
        · exact .inl y
        · exact .inr ⟨y1, y2, y3⟩
        · rw [bitsL_andn _ _ (hsv.wf i), List.mem_filter, bitsL_mem] at y4
          have hx : i * 64 + x % 64 = x := by omega
          have hwb : ((wss u0).getD i 0).testBit (x % 64) = true := by
            have := hsv.iff x
            unfold inW at this
            rw [y3, y2] at this
            exact this
          have hsb : (us.getD i 0).testBit (x % 64) = true := by
            cases hq : (us.getD i 0).testBit (x % 64) with
            | true => rfl
            | false => exact absurd ⟨⟨by omega, hwb⟩, by rw [hq]; rfl⟩ y4
          rw [hbit _ (by omega), hx, y1, Bool.false_or, List.contains_iff_mem] at hsb
          exact (h1 x).1 hsb
    · intro b hb
      rw [bitsL_andn _ _ (hsv.wf i), List.mem_filter, bitsL_mem] at hb
      obtain ⟨⟨hb1, hb2⟩, hb3⟩ := hb
      have h5 := hu2.iff (i * 64 + b)
      have h6 := hsv.iff (i * 64 + b)
      unfold inW at h5 h6
      rw [show (i * 64 + b) / 64 = i by omega, show (i * 64 + b) % 64 = b by omega] at h5 h6
      simp only [Bool.not_eq_true'] at hb3
      rw [hb3] at h5
      have h7 := h5.symm
      rw [Bool.or_eq_false_iff] at h7
      refine ⟨hb1, h7.1, fun x => ?_, h6.symm.trans hb2⟩
      have := h7.2
      rw [List.contains_iff_mem.2 x] at this
      cases this
  · rintro i l U ⟨F, _, _, _, h3, _⟩
    exact h3.dt.tz
  · rintro i b l U hi hb ⟨F, h1, ⟨h2, h2n⟩, ⟨h3, h3n⟩, h4, h5⟩
    obtain ⟨b1, b2, b3, b4⟩ := h2 b List.mem_cons_self
    have hun : i * 64 + b < n := hEn _ _ b4
    rw [List.nodup_cons] at h2n
    have hnd2 : (F ++ [i * 64 + b]).Nodup := by
      rw [List.nodup_append]
      refine ⟨h3, by simp, fun x hx y hy e => ?_⟩
      rw [List.mem_singleton] at hy
      subst hy
      subst e
      exact b3 hx
    have hlt2 : ∀ x ∈ F ++ [i * 64 + b], x < n := fun x hx => by
      rcases List.mem_append.1 hx with y | y
      · exact h3n x y
      · rw [List.mem_singleton.1 y]; exact hun
    have hlen : F.length < n := by
      have := nodup_len' _ (List.range n) hnd2 fun x hx => List.mem_range.2 (hlt2 x hx)
      rw [List.length_range, List.length_append, List.length_singleton] at this
      omega
    refine (dist1_any w U lb n db pd sb ps px pf BF k (i * 64 + b) E f0 b0 F hn hun hlen h4).mono ?_
    rintro e U' ⟨he, q1, q2⟩
    refine ⟨he, F ++ [i * 64 + b], fun x => ?_, ⟨fun c hc => ?_, h2n.2⟩, ⟨hnd2, hlt2⟩, q1, h5.trans q2⟩
    · rw [List.mem_append, List.mem_singleton, h1 x]
      constructor
      · rintro ((y | ⟨y1, y2, y3 | ⟨y3, y4⟩⟩) | rfl)
        · exact .inl y
        · exact .inr ⟨y1, y2, .inl y3⟩
        · exact .inr ⟨y1, y2, .inr ⟨y3, fun z => y4 (List.mem_cons_of_mem _ z)⟩⟩
        · exact .inr ⟨b2, b4, .inr ⟨by omega, by rw [show (i * 64 + b) % 64 = b by omega]; exact h2n.1⟩⟩
      · rintro (y | ⟨y1, y2, y3 | ⟨y3, y4⟩⟩)
        · exact .inl (.inl y)
        · exact .inl (.inr ⟨y1, y2, .inl y3⟩)
        · by_cases e : x % 64 = b
          · exact .inr (by omega)
          · exact .inl (.inr ⟨y1, y2, .inr ⟨y3, fun z => by
              rcases List.mem_cons.1 z with z | z
              · exact e z
              · exact y4 z⟩⟩)
    · obtain ⟨c1, c2, c3, c4⟩ := h2 c (List.mem_cons_of_mem _ hc)
      refine ⟨c1, c2, fun z => ?_, c4⟩
      rcases List.mem_append.1 z with z | z
      · exact c3 z
      · have : c = b := by have := List.mem_singleton.1 z; omega
        exact h2n.1 (this ▸ hc)
  · rintro i U ⟨F, h1, _, h3, h4, h5⟩
    refine ⟨F, fun x => ?_, h3, h4, h5⟩
    rw [h1 x]
    constructor
    · rintro (y | ⟨y1, y2, y3 | ⟨y3, _⟩⟩)
      · exact .inl y
      · exact .inr ⟨y1, y2, by omega⟩
      · exact .inr ⟨y1, y2, by omega⟩
    · rintro (y | ⟨y1, y2, y3⟩)
      · exact .inl y
      · rcases Nat.lt_or_ge (x / 64) i with y4 | y4
        · exact .inr ⟨y1, y2, .inl y4⟩
        · exact .inr ⟨y1, y2, .inr ⟨by omega, by simp⟩⟩
  · rintro e U ⟨he, F, h1, h3, h4, h5⟩
    refine ⟨he, F, fun x => ?_, h3, h4, h5⟩
    rw [h1 x]
    constructor
    · rintro (y | ⟨y1, y2, y3⟩)
      · exact .inl y
      · exact .inr ⟨y1, y2⟩
    · rintro (y | ⟨y1, y2⟩)
      · exact .inl y
      · exact .inr ⟨y1, y2, size_div (hEn _ _ y2)⟩
end gr
end Go.Proofs.YtahffafobdiogaaDoor
/- distances of the program. -/
namespace Go.Proofs.YtahffafobdiogaaDoor
set_option linter.unusedVariables false
set_option linter.unusedSimpArgs false
open Go.RowKit
namespace gr
/-- the number in a box -/
def cellN (W : World) (v : Value) : Nat := match v with | .pointer (some a) => (intOf ((W.cell? a).getD undef)).toNat | _ => 0
set_option maxRecDepth 100000 in
set_option maxHeartbeats 8000000 in
theorem distances_any (n v far lb : Nat) (E E' : Nat → Nat → Bool) (hE' : ∀ u x, E' u x = E x u) (hn : n ≤ 4096) (hEn : ∀ u x, E' u x = true → x < n) (hEl : ∀ u x, E u x = true → x < n) (hv : v < n) (hfar : far ≤ 4096) (w : World) (hL : LkE w lb n E') (hT : Tz w) (hlb : lb + n < w.heap.size) :
    Calls Tryd.prog 36 #[sl lb n, .int .i64 v, .int .i64 far] w fun e w' => (∃ db, e = .returned (sl db n) ∧ w.heap.size ≤ db ∧ Blk w' db 3 (rowI n (dI (capD far (dstS E n v))))) ∧ Below w.heap.size w w' := by
  have htz := tz_lt hT
  have hmk := fun W => make_ints n hn W
  have HNW := Lib.hid (newSet_any n hn)
  go_enter Tryd.func36, Tryd.ntmps36
  go_wp2_with fail
  obtain ⟨W3, hW3⟩ : ∃ W3, (w.alloc (.cells (rowI n fun x => 0).toArray 3)).alloc (.cells #[sl w.heap.size n] 24) = W3 := ⟨_, rfl⟩
  have hb3 : Below w.heap.size w W3 := by rw [← hW3]; exact bel_alloc (bel_box _) _
  have hz3 : W3.heap.size = w.heap.size + 2 := by rw [← hW3]; simp
  have r3 : Blk W3 w.heap.size 3 (rowI n fun x => if x < 0 then -1 else 0) := by
    rw [rowI_congr (g := fun _ => 0) (fun u _ => by simp), ← hW3]
    exact (Blk.new w (rowI n fun _ => 0) _).alloc _
  have c3 : W3.cell? ⟨w.heap.size + 1, 0, none⟩ = some (sl w.heap.size n) := by
    rw [← hW3]
    have h := Blk.new (w.alloc (.cells (rowI n fun x => 0).toArray 3)) [sl w.heap.size n] 24
    rw [World.size_alloc] at h
    exact h.cell (i := 0) rfl
  rw [show (w.alloc (.cells (rowI n fun x => 0).toArray 3)).alloc (.cells #[.slice (some ⟨w.heap.size, 0, none⟩) n n] 24) = W3 from hW3]
  clear hW3 hmk
  go_loopw [21] (fun i wr => ∃ k : Nat, k ≤ n ∧ i = .int .i64 (k : Int) ∧ Below w.heap.size w wr ∧ wr.heap.size = w.heap.size + 2 ∧ Blk wr w.heap.size 3 (rowI n fun x => if x < k then -1 else 0) ∧ wr.cell? ⟨w.heap.size + 1, 0, none⟩ = some (sl w.heap.size n)) (fun i _ => n - (intOf i).toNat)
  case atStart => exact ⟨0, by omega, rfl, hb3, hz3, r3, c3⟩
  case round =>
    obtain ⟨k, hk, rfl, hbk, hzk, rk, ck⟩ := hrel
    clear hb3 hz3 r3 c3
    by_cases hlt : k < n
    · have dk : (k : Int) < (n : Int) := by omega
      have cc := rk.cell (rowI_get _ hlt)
      have cf := rk.frozen k
      have RK := Lib.hid rk
      rw [if_neg (Nat.lt_irrefl k)] at cc
      clear rk
      go_wp2
      refine ⟨⟨k + 1, by omega, by congr 1, hbk.setCell (p := ⟨w.heap.size, k, none⟩) (by simp only; omega) _, by rw [World.size_setCell]; exact hzk, ?_, (World.cell?_setCell_other _ _ _ _ (by intro e; injection e with e; omega)).trans ck⟩, by simp [intOf]; omega⟩
      have := RK.out.set k (.int .i64 (-1))
      rw [rowI_set] at this
      rw [rowI_congr (g := fun x => if x = k then -1 else if x < k then -1 else 0) (fun u _ => ?_)]
      · exact this
      · by_cases e : u = k
        · rw [if_pos e, if_pos (by omega)]
        · rw [if_neg e]
          by_cases e2 : u < k
          · rw [if_pos e2, if_pos (by omega)]
          · rw [if_neg e2, if_neg (by omega)]
    · have hkn : n = k := by omega
      subst hkn
      obtain ⟨W4, rfl⟩ : ∃ U, U = wr := ⟨_, rfl⟩
      have cv := rk.cell (rowI_get _ hv)
      have cf := rk.frozen v
      rw [if_pos hv] at cv
      have dv : (v : Int) < (n : Int) := by omega
      have dv0 : (0 : Int) ≤ (v : Int) := by omega
      have r5 : Blk (W4.setCell ⟨w.heap.size, v, none⟩ (.int .i64 0)) w.heap.size 3 (rowI n (dI (capD 0 (dstS E n v)))) := by
        have := rk.set v (.int .i64 0)
        rw [rowI_set] at this
        rw [rowI_congr (g := fun x => if x = v then 0 else if x < n then -1 else 0) (fun u hu => ?_)]
        · exact this
        · rw [dI_zero, if_pos hu]
      have R5 := Lib.hid r5
      have hb5 : Below w.heap.size w (W4.setCell ⟨w.heap.size, v, none⟩ (.int .i64 0)) := hbk.setCell (p := ⟨w.heap.size, v, none⟩) (by simp only; omega) _
      have c5 : (W4.setCell ⟨w.heap.size, v, none⟩ (.int .i64 0)).cell? ⟨w.heap.size + 1, 0, none⟩ = some (sl w.heap.size n) := (World.cell?_setCell_other _ _ _ _ (by intro e; injection e with e; omega)).trans ck
      have hz5 : (W4.setCell ⟨w.heap.size, v, none⟩ (.int .i64 0)).heap.size = w.heap.size + 2 := by rw [World.size_setCell]; exact hzk
      have HC5 := Lib.hid c5
      have HB5 := Lib.hid hb5
      clear rk r5 c5 hb5
      go_wp2_with fail
      generalize W4.setCell ⟨w.heap.size, v, none⟩ (.int .i64 0) = W5 at *
      have HE' := Lib.hid hE'
      clear hbk hzk ck cv cf hE'
      have h6 : Dt w (((W5.alloc (.cells (uV (List.replicate (sizeW n) 0)).toArray 69)).alloc (.cells #[.int .i64 (v : Int)] 3)).alloc (.cells #[sl W5.heap.size (sizeW n)] 49)) lb n w.heap.size (w.heap.size + 1) W5.heap.size (W5.heap.size + 1 + 1) E' (dI (capD 0 (dstS E n v))) (fun u => decide (u < 0)) := by
        have hbb : Below W5.heap.size W5 (((W5.alloc (.cells (uV (List.replicate (sizeW n) 0)).toArray 69)).alloc (.cells #[.int .i64 (v : Int)] 3)).alloc (.cells #[sl W5.heap.size (sizeW n)] 49)) := bel_alloc (bel_alloc (bel_box _) _) _
        have hb06 := HB5.out.trans (hbb.mono HB5.out.size)
        refine ⟨(hL.keep HB5.out).keep hbb, (hT.keep HB5.out).keep hbb, R5.out.keep hbb, (hbb.cell (p := ⟨w.heap.size + 1, 0, none⟩) (by simp only; omega)).trans HC5.out, ⟨_, ((Blk.new W5 (uV (List.replicate (sizeW n) 0)) _).alloc _).alloc _, (St.empty _).congr fun u => by simp⟩, ?_, hb06, by simp, htz, hlb, Nat.le_refl _, by omega, by omega, by omega⟩
        have h := Blk.new ((W5.alloc (.cells (uV (List.replicate (sizeW n) 0)).toArray 69)).alloc (.cells #[.int .i64 (v : Int)] 3)) [sl W5.heap.size (sizeW n)] 49
        rw [World.size_alloc, World.size_alloc] at h
        exact h.cell (i := 0) rfl
      have l6 : (((W5.alloc (.cells (uV (List.replicate (sizeW n) 0)).toArray 69)).alloc (.cells #[.int .i64 (v : Int)] 3)).alloc (.cells #[sl W5.heap.size (sizeW n)] 49)).cell? ⟨W5.heap.size + 1, 0, none⟩ = some (.int .i64 (v : Int)) := by
        have h := (Blk.new (W5.alloc (.cells (uV (List.replicate (sizeW n) 0)).toArray 69)) [.int .i64 (v : Int)] 3)
        rw [World.size_alloc] at h
        exact (h.alloc _).cell (i := 0) rfl
      go_wp2_with (go_at_call 27; refine (HNW.out W5).mono ?_; rintro e w6 ⟨rfl, rfl⟩)
      rw [hz5] at h6 l6
      generalize ((W5.alloc (.cells (uV (List.replicate (sizeW n) 0)).toArray 69)).alloc (.cells #[.int .i64 (v : Int)] 3)).alloc (.cells #[.slice (some ⟨w.heap.size + 2, 0, none⟩) (sizeW n) (sizeW n)] 49) = W6 at *
      clear HNW R5 HC5 HB5 hz5
      go_loopw [38] (fun i wr => ∃ k : Nat, k ≤ v + 1 ∧ i = .int .i64 (k : Int) ∧ Dt w wr lb n w.heap.size (w.heap.size + 1) (w.heap.size + 2) ((w.heap.size + 2) + 1 + 1) E' (dI (capD 0 (dstS E n v))) (fun u => decide (u < k)) ∧ wr.cell? ⟨(w.heap.size + 2) + 1, 0, none⟩ = some (.int .i64 (v : Int))) (fun i _ => v + 1 - (intOf i).toNat)
      case atStart => exact ⟨0, by omega, rfl, h6, l6⟩
      case round =>
        obtain ⟨k, hk, rfl, hdk, lk⟩ := hrel
        clear h6 l6
        by_cases hlt : k < v + 1
        · have dk : (k : Int) < (v : Int) + 1 := by omega
          have KA := Lib.hid (Dt.add hn hdk (by omega : k < n))
          have c7 := hdk.sc
          have LK := Lib.hid lk
          have hzz := hdk.sz
          clear hdk lk
          go_wp2_with (go_at_call 28; refine KA.out.mono ?_; clear KA; rintro e w8 ⟨rfl, h8, hk8⟩)
          refine ⟨⟨k + 1, by omega, by congr 1, h8.congr (fun _ _ => rfl) (fun u => by rw [Bool.eq_iff_iff]; simp; omega), (World.cell?_of_block (hk8.2 _ (by simp only; omega) (by simp only; omega))).trans LK.out⟩, by simp [intOf]; omega⟩
        · have hkn := Lib.hid (show k = v + 1 by omega)
          obtain ⟨W7, rfl⟩ : ∃ U, U = wr := ⟨_, rfl⟩
          have h7 : Dt w W7 lb n w.heap.size (w.heap.size + 1) (w.heap.size + 2) ((w.heap.size + 2) + 1 + 1) E' (dI (capD 0 (dstS E n v))) (base E n v 0) := hdk.congr (fun _ _ => rfl) fun u => by
            rw [base_zero, Bool.eq_iff_iff, decide_eq_true_eq, decide_eq_true_eq, hkn.out]
            omega
          generalize k = k38 at *
          clear hdk
          go_wp2_with fail
          have hzW := h7.sz
          have h8 := h7.keep ((bel_box (.cells #[.int .i64 1] 3)).mono (by omega : w.heap.size + 2 + 1 + 1 + 1 ≤ W7.heap.size))
          have p8 : Blk (W7.alloc (.cells #[.int .i64 1] 3)) W7.heap.size 3 [.int .i64 1] := Blk.new W7 [.int .i64 1] _
          have l8 : (W7.alloc (.cells #[.int .i64 1] 3)).cell? ⟨w.heap.size + 2 + 1, 0, none⟩ = some (.int .i64 (v : Int)) := cell_al _ lk
          have q8 := p8.cell (i := 0) rfl
          have f8 := p8.frozen 0
          have z8 : W7.heap.size < (W7.alloc (.cells #[.int .i64 1] 3)).heap.size := by simp
          generalize W7.alloc (.cells #[.int .i64 1] 3) = W8 at *
          generalize W7.heap.size = px0 at *
          clear h7 p8 lk
          have HEn := Lib.hid hEn
          clear hL hT hEn hEl
          go_loopw [10, 12] (fun a p wr => ∃ (k : Nat) (lv : List Nat) (A : Option Addr) (c px : Nat), a = .slice A lv.length c ∧ p = .pointer (some ⟨px, 0, none⟩) ∧ k ≤ far ∧ lv.length ≤ n ∧ Rd wr wr.heap.size A (vV lv) ∧ Hid (∀ ad, A = some ad → ad.block ≠ w.heap.size ∧ ad.block ≠ w.heap.size + 2) ∧ Hid (∀ x, x ∈ lv ↔ Ds E n v v k x) ∧ w.heap.size + 2 + 1 + 1 < px ∧ wr.cell? ⟨px, 0, none⟩ = some (.int .i64 ((k + 1 : Nat) : Int)) ∧ wr.frozen? ⟨px, 0, none⟩ = false ∧ Dt w wr lb n w.heap.size (w.heap.size + 1) (w.heap.size + 2) (w.heap.size + 2 + 1 + 1) E' (dI (capD k (dstS E n v))) (base E n v k)) (fun _ p wr => far + 2 - cellN wr p)
          case atStart => exact ⟨0, [v], some ⟨w.heap.size + 2 + 1, 0, none⟩, 1, px0, rfl, rfl, by omega, by simp; omega, fun _ => ⟨_, rfl, by simp only; omega, fun j u hu => by
              rcases j with _ | j
              · simp [vV] at hu
                rw [add_zero', ← hu]
                exact l8
              · simp [vV] at hu⟩, Lib.hid fun ad e => by
              injection e with e
              rw [← e]
              simp only
              omega, Lib.hid fun x => by rw [List.mem_singleton, Ds.zero_iff], by omega, q8, f8, h8⟩
          case round =>
            obtain ⟨k, lv, A, c, px, rfl, rfl, hkf, hlv, hRd, hAne, hlvm, hpx, cpx, fpx, hdt⟩ := hrel
            clear h8 l8 q8 f8 z8
            have R0 : ∀ W, W = wr → (capD k (dstS E n v) = capD far (dstS E n v)) → ((∃ db, (Ending.returned (sl w.heap.size n)) = .returned (sl db n) ∧ w.heap.size ≤ db ∧ Blk W db 3 (rowI n (dI (capD far (dstS E n v))))) ∧ Below w.heap.size w W) := by
              rintro W rfl hc
              exact ⟨⟨_, rfl, Nat.le_refl _, by rw [← hc]; exact hdt.di⟩, hdt.low⟩
            have R0 := Lib.hid R0
            have cdc := hdt.dc
            by_cases hfk : k + 1 ≤ far
            · have dfk : ((k + 1 : Nat) : Int) ≤ (far : Int) := by omega
              by_cases hl0 : lv = []
              · have R1 := Lib.hid (R0.out wr rfl (cap_stop (fun x hx => by have := (hlvm.out x).2 hx; rw [hl0] at this; cases this) hkf))
                subst hl0
                clear hdt hRd R0
                go_wp2
                go_ret
                exact R1.out
              · have hl1 : 0 < lv.length := List.length_pos_iff.2 hl0
                have dl1 : (0 : Int) < (lv.length : Int) := by omega
                go_wp2_with fail
                have hpxz : px < wr.heap.size := World.block_lt_of_cell? wr _ cpx
                have hbb : Below wr.heap.size wr (wr.alloc (.cells #[.slice none 0 0] 24)) := bel_box _
                have hpb := Blk.new wr [Value.slice none 0 0] 24
                have h9 : Df w (wr.alloc (.cells #[.slice none 0 0] 24)) lb n w.heap.size (w.heap.size + 1) (w.heap.size + 2) (w.heap.size + 2 + 1 + 1) px wr.heap.size (wr.heap.size + 1) E' (dI (capD k (dstS E n v))) (base E n v k) (k + 1) [] :=
                  ⟨(hdt.keep (hbb.mono (by have := hdt.sz; omega))).congr (fun _ _ => rfl) (fun u => by simp), (hbb.cell (p := ⟨px, 0, none⟩) hpxz).trans cpx, ⟨_, hpb.cell (i := 0) rfl, World.ownsRow_nil _ _ _ _⟩, hpb.frozen 0, by simp, by simp, hpx, hpxz, by omega⟩
                have hRd9 : ∀ j (x : Nat), lv[j]? = some x → ∃ ad, A = some ad ∧ (wr.alloc (.cells #[.slice none 0 0] 24)).cell? (ad.add j) = some (.int .i64 (x : Int)) ∧ ad.block < wr.heap.size := fun j x hx => by
                  obtain ⟨ad, hA, hab, hcell⟩ := hRd (by intro e; unfold vV at e; simp at e; exact hl0 e)
                  exact ⟨ad, hA, cell_al _ (hcell j _ (by unfold vV; rw [List.getElem?_map, hx]; rfl)), hab⟩
                have HRd := Lib.hid hRd9
                have HDT := Lib.hid hdt
                have HCX : Hid (cellN wr (.pointer (some ⟨px, 0, none⟩)) = k + 1) := Lib.hid (by unfold cellN; simp only; rw [cpx]; simp [intOf]; try omega)
                have hlow := hdt.low
                have hz9 : (wr.alloc (.cells #[.slice none 0 0] 24)).heap.size = wr.heap.size + 1 := by simp
                clear hRd hRd9 hdt hpb R0 cdc cpx fpx hbb
                generalize wr.alloc (.cells #[.slice none 0 0] 24) = W9 at *
                generalize wr.heap.size = pf at *
                go_loopw [57] (fun i wq => ∃ (j : Nat) (F : List Nat), j ≤ lv.length ∧ i = .int .i64 (j : Int) ∧ Df w wq lb n w.heap.size (w.heap.size + 1) (w.heap.size + 2) (w.heap.size + 2 + 1 + 1) px pf (pf + 1) E' (dI (capD k (dstS E n v))) (base E n v k) (k + 1) F ∧ Hid (∀ x, x ∈ F ↔ base E n v k x = false ∧ ∃ u ∈ lv.take j, E' u x = true) ∧ Hid (F.Nodup ∧ ∀ x ∈ F, x < n) ∧ Hid (Kq (pf + 1) (Sd w.heap.size (w.heap.size + 2) pf) W9 wq)) (fun i _ => lv.length - (intOf i).toNat)
                case atStart => exact ⟨0, [], by omega, rfl, h9, Lib.hid fun x => by simp, Lib.hid ⟨List.nodup_nil, fun x hx => by cases hx⟩, Lib.hid (Kq.refl _ _ _)⟩
                case round =>
                  obtain ⟨j, F, hj, rfl, hdf, hFm, hFn, hkq⟩ := hrel
                  clear h9
                  by_cases hjl : j < lv.length
                  · have djl : (j : Int) < (lv.length : Int) := by omega
                    have hgj : lv[j]? = some lv[j] := List.getElem?_eq_getElem hjl
                    obtain ⟨u0, hu0⟩ : ∃ u0, lv[j] = u0 := ⟨_, rfl⟩
                    rw [hu0] at hgj
                    obtain ⟨ad, rfl, hcad, hadb⟩ := HRd.out j u0 hgj
                    obtain ⟨hn1, hn2⟩ := hAne.out ad rfl
                    have hcq := hkq.out.cell hcad (by rw [add_block]; omega) (fun x => by rw [add_block] at x; rcases x with x | x | x <;> omega)
                    have hds := (hlvm.out u0).1 (List.mem_of_getElem? hgj)
                    have hu0n : u0 < n := by
                      cases k with
                      | zero => rw [Ds.zero_iff.1 hds]; exact hv
                      | succ k => exact (Ds.succ_iff.1 hds).1
                    have KE := Lib.hid (dist_visit w wr lb n w.heap.size (w.heap.size + 1) (w.heap.size + 2) (w.heap.size + 2 + 1 + 1) px pf (pf + 1) (k + 1) u0 E' (dI (capD k (dstS E n v))) (base E n v k) F hn HEn.out hu0n hFn.out hdf)
                    have csc := hdf.dt.sc
                    have HT := Lib.hid (take_succ_of hgj)
                    clear hdf hcad hgj hds hu0
                    go_wp2_with (go_at_call 50; refine KE.out.mono ?_; clear KE; rintro e w10 ⟨rfl, F1, g1, g2, g3, g4⟩)
                    refine ⟨⟨j + 1, F1, by omega, by congr 1, g3, Lib.hid fun x => ?_, Lib.hid g2, Lib.hid (hkq.out.trans g4)⟩, by simp [intOf]; omega⟩
                    rw [g1 x, hFm.out x, HT.out]
                    constructor
                    · rintro (⟨y1, u, y2, y3⟩ | ⟨y1, y2⟩)
                      · exact ⟨y1, u, List.mem_append_left _ y2, y3⟩
                      · exact ⟨y1, u0, by simp, y2⟩
                    · rintro ⟨y1, u, y2, y3⟩
                      rcases List.mem_append.1 y2 with y2 | y2
                      · exact .inl ⟨y1, u, y2, y3⟩
                      · rw [List.mem_singleton.1 y2] at y3
                        exact .inr ⟨y1, y3⟩
                  · obtain rfl : j = lv.length := by omega
                    obtain ⟨Wq, rfl⟩ : ∃ U, U = wr := ⟨_, rfl⟩
                    obtain ⟨V, cV, hown⟩ := hdf.fc
                    obtain ⟨A2, c2, rfl⟩ := own_form hown
                    have hF2 : ∀ x, x ∈ F ↔ Ds E n v v (k + 1) x := fun x => by
                      rw [hFm.out x, new_iff, List.take_length]
                      constructor
                      · rintro ⟨y1, u, y2, y3⟩
                        exact ⟨y1, HEn.out u x y3, u, (HE'.out u x) ▸ y3, (hlvm.out u).1 y2⟩
                      · rintro ⟨y1, _, u, y2, y3⟩
                        exact ⟨y1, u, (hlvm.out u).2 y3, (HE'.out u x).trans y2⟩
                    have hdt2 : Dt w Wq lb n w.heap.size (w.heap.size + 1) (w.heap.size + 2) (w.heap.size + 2 + 1 + 1) E' (dI (capD (k + 1) (dstS E n v))) (base E n v (k + 1)) := hdf.dt.congr (fun x _ => dI_succ hF2) (fun x => base_succ hF2)
                    have cpx := hdf.xc
                    have hFl := hdf.len
                    have hbz := hdf.bz
                    have hA2 : ∀ ad, A2 = some ad → ad.block ≠ w.heap.size ∧ ad.block ≠ w.heap.size + 2 := fun ad e => by
                      have h1 := hown.lt ad.block (by rw [e]; rfl)
                      omega
                    have HF2 := Lib.hid hF2
                    have HA2 := Lib.hid hA2
                    have HD2 := Lib.hid hdt2
                    have HO2 := Lib.hid hown
                    clear hdf hFm hFn hkq hF2 hA2 hdt2 hown
                    go_wp2
                    have hbx : Below Wq.heap.size Wq (Wq.alloc (.cells #[.int .i64 ((k : Int) + 1 + 1)] 3)) := bel_box _
                    have hnx := Blk.new Wq [Value.int .i64 ((k : Int) + 1 + 1)] 3
                    refine ⟨⟨k + 1, F, A2, c2, Wq.heap.size, rfl, rfl, hfk, hFl, ((Rd.of_own HO2.out).below hbx).more (by simp), HA2, HF2, by omega, hnx.cell (i := 0) (by simp), hnx.frozen 0, HD2.out.keep (hbx.mono (by omega))⟩, ?_⟩
                    rw [HCX.out]
                    have e2 : cellN (Wq.alloc (.cells #[.int .i64 ((k : Int) + 1 + 1)] 3)) (.pointer (some ⟨Wq.heap.size, 0, none⟩)) = k + 2 := by
                      unfold cellN
                      simp [intOf]
                      try omega
                    rw [e2]
                    omega
            · have R1 := Lib.hid (R0.out wr rfl (by rw [show k = far by omega]))
              have dfk : ¬ ((k + 1 : Nat) : Int) ≤ (far : Int) := by omega
              clear hdt hRd R0
              generalize hk1 : ((k + 1 : Nat) : Int) = k1 at *
              go_wp2
              go_ret
              exact R1.out
end gr
end Go.Proofs.YtahffafobdiogaaDoor
/- Cycle of the program. -/
namespace Go.Proofs.YtahffafobdiogaaDoor
set_option linter.unusedVariables false
set_option linter.unusedSimpArgs false
open Go.RowKit
namespace gr
def CyV (l : List Nat) (v : Value) (W : World) : Prop := ∃ A c, v = .slice A l.length c ∧ (l = [] → A = none ∧ c = 0) ∧ (l ≠ [] → ∃ ad, A = some ad) ∧ Rd W W.heap.size A (vV l)
theorem CyV.keep {l : List Nat} {v : Value} {W W' : World} (h : CyV l v W) (hb : Below W.heap.size W W') : CyV l v W' := by
  obtain ⟨A, c, h1, h2, h3, h4⟩ := h
  exact ⟨A, c, h1, h2, h3, h4.to hb⟩
theorem cap_full {E : Nat → Nat → Bool} {n v m : Nat} (hv : v < n) : ∀ d, Mnd E n (capD m (dstS E n v)) v d → d < n ∧ (folr (nea E n (capD m (dstS E n v))) d v).length = d := by
  intro d hd
  obtain ⟨⟨x, h1, h2, h3⟩, h4⟩ := hd
  obtain ⟨h5, h6⟩ := capD_iff.1 h3
  refine ⟨(dstS_iff.1 h5).lt hv, ?_⟩
  rw [folr_congr (ny := nea E n (dstS E n v)) d v fun e he u => nea_congr fun y hy => ?_]
  · exact folr_len hv d v (.inr ⟨x, h1, h2, h5⟩)
  · rw [capD_iff]
    exact ⟨fun z => z.1, fun z => ⟨z, by omega⟩⟩
theorem cstep_nil {E : Nat → Nat → Bool} {n v : Nat} (hv : v < n) : thrS E n (capD (n - 1) (dstS E n v)) v = cstep E n [] v := by
  rw [thr_cap hv]
  have h : (thrS E n (dstS E n v) v).length ≤ n - 1 + 1 := by
    cases hm : mndO E n (dstS E n v) v with
    | none => unfold thrS; rw [hm]; simp
    | some d =>
      obtain ⟨_, e⟩ := thrS_some hv (mndO_some.1 hm)
      obtain ⟨⟨x, h1, h2, h3⟩, _⟩ := mndO_some.1 hm
      have := (dstS_iff.1 h3).lt hv
      omega
  rw [if_pos h]
  unfold cstep
  by_cases h0 : thrS E n (dstS E n v) v = []
  · rw [if_neg (fun x => x.1 h0), h0]
  · rw [if_pos ⟨h0, .inl rfl⟩]
theorem cstep_cons {E : Nat → Nat → Bool} {n v : Nat} {l : List Nat} (hv : v < n) (hl : 2 ≤ l.length) : (if thrS E n (capD (l.length - 2) (dstS E n v)) v = [] then l else thrS E n (capD (l.length - 2) (dstS E n v)) v) = cstep E n l v := by
  rw [thr_cap hv]
  unfold cstep
  have hne : ¬ l = [] := fun e => by rw [e] at hl; simp at hl
  by_cases h : (thrS E n (dstS E n v) v).length ≤ l.length - 2 + 1
  · rw [if_pos h]
    by_cases h0 : thrS E n (dstS E n v) v = []
    · rw [if_pos h0, if_neg (fun x => x.1 h0)]
    · rw [if_neg h0, if_pos ⟨h0, .inr (by omega)⟩]
  · rw [if_neg h, if_pos rfl, if_neg]
    rintro ⟨h1, h2 | h2⟩
    · exact hne h2
    · omega
/-- the error of Cycle -/
noncomputable def cycX (E : Nat → Nat → Bool) (n : Nat) : Int := if (cycK E n n).isEmpty then 8 else 0
set_option maxHeartbeats 1000000 in
theorem cyc_round (n k lb lb2 : Nat) (m : Nat) (E E' : Nat → Nat → Bool) (hE' : ∀ u x, E' u x = E x u) (hn : n ≤ 4096) (hEn : ∀ u x, E' u x = true → x < n) (hEl : ∀ u x, E u x = true → x < n) (hk : k < n) (hm : m ≤ 4096) (W : World) (hL : LkE W lb n E) (hL2 : LkE W lb2 n E') (hT : Tz W) (hlb : lb + n < W.heap.size) (hlb2 : lb2 + n < W.heap.size) :
    Calls Tryd.prog 36 #[sl lb2 n, .int .i64 k, .int .i64 m] W fun e w' => ∃ db, e = .returned (sl db n) ∧ Below W.heap.size W w' ∧ Hid (Calls Tryd.prog 35 #[.int .i64 k, sl lb n, sl db n] w' fun e2 w2 => (∃ v2, e2 = .returned v2 ∧ CyV (thrS E n (capD m (dstS E n k)) k) v2 w2) ∧ Below W.heap.size W w2) := by
  refine (distances_any n k m lb2 E E' hE' hn hEn hEl hk hm W hL2 hT hlb2).mono ?_
  rintro e w' ⟨⟨db, he, hdb, hblk⟩, hb⟩
  refine ⟨db, he, hb, Lib.hid ((through_any n k lb db E _ hn hEl hk (cap_full hk) w' (hL.keep hb) (hT.keep hb) hblk (by have := hb.size; omega)).mono ?_)⟩
  rintro e2 w2 ⟨A, c, h1, h2, h3, h4, h5⟩
  exact ⟨⟨_, h1, A, c, rfl, h2, h3, h4⟩, hb.trans (h5.mono hb.size)⟩
end gr
end Go.Proofs.YtahffafobdiogaaDoor
/- Cycle of the program. -/
namespace Go.Proofs.YtahffafobdiogaaDoor
set_option linter.unusedVariables false
set_option linter.unusedSimpArgs false
open Go.RowKit
namespace gr
theorem eqlIn_nil {P : Program} (w : World) (d : Nat) (t e : TypeId) (a : Option Addr) (l c : Nat) (h : P.underlying t = some (.slice e)) : (Op.equalIn (d + 1) t (.slice a l c) (.slice none 0 0)).run P w = .ok a.isNone w := by
  cases a <;> simp [Op.equalIn, run_underlying h]
theorem eql_nil {P : Program} (w : World) (t e : TypeId) (a : Option Addr) (l c : Nat) (h : P.underlying t = some (.slice e)) : (binOp .eql t (.slice a l c) (.slice none 0 0)).run P w = .ok (.bool a.isNone) w := by
  simp only [binOp]
  simp [Op.equal, Op.maxDepth, eqlIn_nil w 9999 t e a l c h]
set_option maxRecDepth 100000 in
set_option maxHeartbeats 8000000 in
theorem cycle_ok (n : Nat) (A : Option Addr) (c : Nat) (ns : List (Nat × Nat)) (hn : n ≤ 4096) (hr : ∀ e ∈ ns, e.1 < n ∧ e.2 < n) (hl : ns.length ≤ 1048576) (w : World) (hT : Tz w) (hE : RdE w w.heap.size A (eN ns)) (hv : valB n (eN ns) = true) :
    Calls Tryd.prog 14 #[.int .i64 n, .slice A ns.length c] w (NewI (cycK (eK ns) n n) (cycX (eK ns) n) w) := by
  obtain ⟨E, hEE⟩ : ∃ E, eK ns = E := ⟨_, rfl⟩
  have hEn : ∀ u w, E u w = true → w < n := hEE ▸ eK_lt hr
  have hEm : ∀ u x, (fun u x => E x u) u x = true → x < n := fun u x h => by
    rw [← hEE] at h
    unfold eK at h
    exact (hr _ (List.contains_iff_mem.1 h)).1
  have KV := Lib.hid (valid_any n A c (eN ns) (by rw [eN_len]; exact hl) w hE)
  rw [hv, eN_len] at KV
  have hfit : ∀ (W w' : World) (F : Nat → Nat → Bool), LkE w' W.heap.size n F → W.heap.size + n < w'.heap.size := fun W w' F h2 => by
    rcases Nat.eq_zero_or_pos n with h0 | h0
    · have := h2.lt0; omega
    · have := h2.lt (v := n - 1) (by omega); omega
  have KF := Lib.hid (fun W (hb : Below w.heap.size w W) => (forward_any n hn A c ns hr hl W ((hE.below hb).more' hb.size)).mono (R' := fun e w' => e = .returned (sl W.heap.size n) ∧ (LkE w' W.heap.size n E ∧ Below W.heap.size W w' ∧ Below w.heap.size w w' ∧ W.heap.size + n < w'.heap.size)) fun e w' ⟨h1, h2, h3⟩ => by
    rw [hEE] at h2
    exact ⟨h1, h2, h3, hb.trans (h3.mono hb.size), hfit _ _ _ h2⟩)
  have KB := Lib.hid (fun W (hb : Below w.heap.size w W) => (backward_any n hn A c ns hr hl W ((hE.below hb).more' hb.size)).mono (R' := fun e w' => e = .returned (sl W.heap.size n) ∧ (LkE w' W.heap.size n (fun u x => E x u) ∧ Below W.heap.size W w' ∧ Below w.heap.size w w' ∧ W.heap.size + n < w'.heap.size)) fun e w' ⟨h1, h2, h3⟩ => by
    rw [hEE] at h2
    exact ⟨h1, h2, h3, hb.trans (h3.mono hb.size), hfit _ _ _ h2⟩)
  have HT := Lib.hid hT
  obtain ⟨R, hR⟩ : ∃ R, NewI (cycK (eK ns) n n) (cycX (eK ns) n) w = R := ⟨_, rfl⟩
  rw [hR]
  rw [hEE] at hR
  have HR := Lib.hid hR
  have HEn := Lib.hid hEn
  have HEm := Lib.hid hEm
  clear hT hE hv hr hR hEE hEn hEm hfit
  go_enter Tryd.func14, Tryd.ntmps14
  go_wp2_with (first | (go_at_call 23; refine KV.out.mono ?_; clear KV; rintro e w1 ⟨rfl, hb1⟩) | (go_at_call 24; refine (KF.out _ hb1).mono ?_; clear KF; rintro e w2 ⟨rfl, hf2⟩) | (go_at_call 34; refine (KB.out _ hf2.2.2.1).mono ?_; clear KB; rintro e w3 ⟨rfl, hf3⟩))
  obtain ⟨a1, a2, a3, a4⟩ := hf2
  obtain ⟨a5, a6, a7, a8⟩ := hf3
  have i1 : LkE w3 w1.heap.size n E := a1.keep a6
  have i2 : Tz w3 := HT.out.keep a7
  have i3 : w1.heap.size + n < w3.heap.size := by have := a6.size; omega
  have i4 : w.heap.size ≤ w1.heap.size := hb1.size
  clear a1 a2 a3 a6 hb1 a4
  generalize w2.heap.size = lb2 at *
  generalize w1.heap.size = lb at *
  go_loopw [8, 23] (fun cv i wr => ∃ k : Nat, k ≤ n ∧ i = .int .i64 (k : Int) ∧ CyV (cycK E n k) cv wr ∧ LkE wr lb n E ∧ LkE wr lb2 n (fun u x => E x u) ∧ Tz wr ∧ lb + n < wr.heap.size ∧ lb2 + n < wr.heap.size ∧ Below w.heap.size w wr) (fun _ i _ => n - (intOf i).toNat)
  case atStart => exact ⟨0, by omega, rfl, ⟨none, 0, rfl, fun _ => ⟨rfl, rfl⟩, fun h => absurd rfl h, Rd.nil _ _ _⟩, i1, a5, i2, i3, a8, a7⟩
  case round =>
    obtain ⟨k, hk, rfl, ⟨V, cv, rfl, v1, v2, v3⟩, j1, j2, j3, j4, j5, j6⟩ := hrel
    clear i1 a5 i2 i3 a8 a7
    -- what is left once the list is final
    have RF : ∀ W, Below wr.heap.size wr W → cycK E n n = cycK E n k → (cycK E n k = [] → R (.returned (.tuple #[.slice none 0 0, .int .i64 8])) W) ∧ (cycK E n k ≠ [] → R (.returned (.tuple #[.slice V (cycK E n k).length cv, .int .i64 0])) W) := fun W hb he => by
      rw [← HR.out]
      refine ⟨fun h0 => ?_, fun h0 => ?_⟩
      · unfold cycX
        rw [he, h0]
        exact ⟨none, 0, rfl, Rd.nil _ _ _, j6.trans (hb.mono j6.size)⟩
      · unfold cycX
        rw [he]
        have : (cycK E n k).isEmpty = false := by cases hq : cycK E n k <;> simp_all
        rw [this]
        exact ⟨V, cv, rfl, v3.to hb, j6.trans (hb.mono j6.size)⟩
    have RF := Lib.hid RF
    by_cases hlt : k < n
    · have dk : (k : Int) < (n : Int) := by omega
      have KR := Lib.hid (fun m hm => cyc_round n k lb lb2 m E (fun u x => E x u) (fun _ _ => rfl) hn HEm.out HEn.out hlt hm wr j1 j2 j3 j4 j5)
      have HS := Lib.hid (cycK_succ E n k)
      have HC1 := Lib.hid (cstep_nil (E := E) hlt)
      have HC2 := Lib.hid (fun hl2 => cstep_cons (E := E) (l := cycK E n k) hlt hl2)
      have HONE := Lib.hid (fun h => cycK_one (E := E) (n := n) (k := k) h (n - k))
      have HN := Lib.hid (show ∀ (w5 : World) (vv : Value), CyV (cycK E n (k + 1)) vv w5 → Below wr.heap.size wr w5 → ∃ k' : Nat, k' ≤ n ∧ Value.int .i64 ((k : Int) + 1) = .int .i64 (k' : Int) ∧ CyV (cycK E n k') vv w5 ∧ LkE w5 lb n E ∧ LkE w5 lb2 n (fun u x => E x u) ∧ Tz w5 ∧ lb + n < w5.heap.size ∧ lb2 + n < w5.heap.size ∧ Below w.heap.size w w5 from
        fun w5 vv hc hb => ⟨k + 1, by omega, by congr 1, hc, j1.keep hb, j2.keep hb, j3.keep hb, Nat.lt_of_lt_of_le j4 hb.size, Nat.lt_of_lt_of_le j5 hb.size, j6.trans (hb.mono j6.size)⟩)
      clear j1 j2 j3 j4 j5 j6
      generalize hL : cycK E n k = L at *
      have HL := Lib.hid hL
      clear hL
      by_cases hnil : L = []
      · subst hnil
        obtain ⟨rfl, rfl⟩ := v1 rfl
        have HC3 : thrS E n (capD (n - 1) (dstS E n k)) k = cycK E n (k + 1) := by rw [HC1.out, HS.out]
        have KR1 := KR.out (n - 1) (by omega)
        rw [HC3] at KR1
        have KR1 := Lib.hid KR1
        have dn1 : (n : Int) - 1 = ((n - 1 : Nat) : Int) := by omega
        simp only [List.length_nil]
        clear v1 v2 v3 KR HC3
        go_wp2_with (go_at_call 36; refine KR1.out.mono ?_; clear KR1; rintro e w5 ⟨db, rfl, hb5, KT⟩)
        go_at_call 35
        refine KT.out.mono ?_
        clear KT
        rintro e w6 ⟨⟨v6, rfl, A6, c6, rfl, z1, z2, z3⟩, hb6⟩
        have HN6 := Lib.hid (HN.out w6 _ ⟨A6, c6, rfl, z1, z2, z3⟩ hb6)
        clear HN z3
        by_cases hq : cycK E n (k + 1) = []
        · obtain ⟨rfl, rfl⟩ := z1 hq
          rw [hq] at HN6 ⊢
          simp only [List.length_nil] at HN6 ⊢
          clear z1 z2
          go_wp2
          exact ⟨HN6.out, by simp [intOf]; omega⟩
        · obtain ⟨ad, rfl⟩ := z2 hq
          clear z1 z2
          generalize (cycK E n (k + 1)).length = m6 at *
          go_wp2
          exact ⟨HN6.out, by simp [intOf]; omega⟩
      · obtain ⟨ad, rfl⟩ := v2 hnil
        have hlp : 0 < L.length := List.length_pos_iff.2 hnil
        by_cases hl1 : L.length = 1
        · have HF := Lib.hid ((RF.out wr (Below.refl _ _) (by have := HONE.out hl1; rw [show k + (n - k) = n by omega] at this; exact this)).2 hnil)
          rw [hl1] at HF ⊢
          clear v1 v2 v3 RF HONE HC2 HS
          have qe := fun (W : World) (a : Option Addr) (l c : Nat) => eql_nil (P := Tryd.prog) W 24 3 a l c Tryd.underlying24
          go_wp2
          exact HF.out
        · have hl2 : 2 ≤ L.length := by omega
          have hll : L.length - 2 ≤ 4096 := by
            have h1 : L.length ≤ n := by
              rcases cycK_len (E := E) (n := n) k (by omega) (by rw [HL.out]; exact hnil) with ⟨u, d, h1, ⟨⟨x, h2, h3, h4⟩, _⟩, h5, h6⟩
              have := (dstS_iff.1 h4).lt (by omega)
              rw [HL.out] at h6
              omega
            omega
          have KR1 := Lib.hid (KR.out (L.length - 2) hll)
          have HS2 := (HC2.out hl2).trans HS.out.symm
          have dn1 : (L.length : Int) - 2 = ((L.length - 2 : Nat) : Int) := by omega
          have HV := Lib.hid v3
          clear v1 v2 v3 KR
          go_wp2_with (go_at_call 36; refine KR1.out.mono ?_; clear KR1; rintro e w5 ⟨db, rfl, hb5, KT⟩)
          go_at_call 35
          refine KT.out.mono ?_
          clear KT
          rintro e w6 ⟨⟨v6, rfl, A6, c6, rfl, z1, z2, z3⟩, hb6⟩
          generalize thrS E n (capD (L.length - 2) (dstS E n k)) k = T at *
          by_cases hq : T = []
          · obtain ⟨rfl, rfl⟩ := z1 hq
            subst hq
            rw [if_pos rfl] at HS2
            have HN6 := Lib.hid (HN.out w6 (.slice (some ad) L.length cv) (HS2 ▸ ⟨_, cv, rfl, fun h => absurd h hnil, fun _ => ⟨_, rfl⟩, HV.out.to hb6⟩) hb6)
            simp only [List.length_nil]
            clear z1 z2 z3 HN HS2
            generalize L.length = m6 at *
            go_wp2
            exact ⟨HN6.out, by simp [intOf]; omega⟩
          · obtain ⟨ad6, rfl⟩ := z2 hq
            rw [if_neg hq] at HS2
            have HN6 := Lib.hid (HN.out w6 (.slice (some ad6) T.length c6) (HS2 ▸ ⟨_, c6, rfl, fun h => absurd h hq, fun _ => ⟨_, rfl⟩, z3⟩) hb6)
            clear z1 z2 z3 HN HS2
            generalize T.length = m6 at *
            go_wp2
            exact ⟨HN6.out, by simp [intOf]; omega⟩
    · have hkn : n = k := by omega
      subst hkn
      have HF := RF.out wr (Below.refl _ _) rfl
      clear j1 j2 j3 j4 j5 j6 RF
      generalize cycK E n n = L at *
      by_cases hnil : L = []
      · have HF1 := Lib.hid (HF.1 hnil)
        subst hnil
        obtain ⟨rfl, rfl⟩ := v1 rfl
        simp only [List.length_nil]
        clear v1 v2 v3 HF
        have qe := fun (W : World) (a : Option Addr) (l c : Nat) => eql_nil (P := Tryd.prog) W 24 3 a l c Tryd.underlying24
        go_wp2
        exact HF1.out
      · have HF1 := Lib.hid (HF.2 hnil)
        obtain ⟨ad, rfl⟩ := v2 hnil
        clear v1 v2 v3 HF
        have qe := fun (W : World) (a : Option Addr) (l c : Nat) => eql_nil (P := Tryd.prog) W 24 3 a l c Tryd.underlying24
        generalize L.length = m6 at *
        go_wp2
        exact HF1.out
end gr
end Go.Proofs.YtahffafobdiogaaDoor
/- The reference's words of layer 4: plain. -/
namespace Go.Proofs.YtahffafobdiogaaDoor
set_option linter.unusedVariables false
set_option linter.unusedSimpArgs false
open Go.RowKit
namespace gr
theorem rdv_at {W : World} {B : Nat} {A : Option Addr} {l : List Nat} (h : Rd W B A (vV l)) {k : Nat} (hk : k < l.length) : ∃ ad, A = some ad ∧ ad.block < B ∧ W.cell? (ad.add k) = some (.int .i64 ((l.getD k 0 : Nat) : Int)) := by
  obtain ⟨ad, h1, h2, h3⟩ := h (fun e => by have := congrArg List.length e; simp [vV] at this; subst this; simp at hk)
  refine ⟨ad, h1, h2, h3 k _ ?_⟩
  unfold vV
  rw [List.getElem?_map, List.getElem?_eq_getElem hk, List.getD, List.getElem?_eq_getElem hk]
  rfl
theorem eNr_at {ns : List (Nat × Nat)} {k : Nat} {f t : Int} (h : (eN ns)[k]? = some (f, t)) : ∃ a b, ns[k]? = some (a, b) ∧ f = (a : Int) ∧ t = (b : Int) := by
  rw [eN_get] at h
  cases hx : ns[k]? with
  | none => rw [hx] at h; cases h
  | some e =>
    rw [hx] at h
    injection h with h
    injection h with h1 h2
    exact ⟨e.1, e.2, rfl, h1.symm, h2.symm⟩
/-- where the edges from v lead, in the order of the edges -/
def adj (ns : List (Nat × Nat)) (v : Nat) : List Nat := (ns.filter fun e => decide (e.1 = v)).map (·.2)
theorem adj_mem {ns : List (Nat × Nat)} {v w : Nat} : w ∈ adj ns v ↔ eK ns v w = true := by
  unfold adj eK
  rw [List.contains_iff_mem, List.mem_map]
  constructor
  · rintro ⟨⟨a, b⟩, h1, h2⟩
    rw [List.mem_filter, decide_eq_true_eq] at h1
    obtain ⟨h1, h3⟩ := h1
    simp only at h2 h3
    subst h2
    subst h3
    exact h1
  · intro h
    exact ⟨(v, w), by rw [List.mem_filter]; exact ⟨h, by simp⟩, rfl⟩
theorem adj_snoc (ns : List (Nat × Nat)) (f t v : Nat) : adj (ns ++ [(f, t)]) v = adj ns v ++ if f = v then [t] else [] := by
  unfold adj
  rw [List.filter_append, List.map_append]
  congr 1
  by_cases h : f = v <;> simp [h]
theorem adj_len (ns : List (Nat × Nat)) (v : Nat) : (adj ns v).length ≤ ns.length := by
  unfold adj
  rw [List.length_map]
  exact List.length_filter_le _ _
end gr
end Go.Proofs.YtahffafobdiogaaDoor
