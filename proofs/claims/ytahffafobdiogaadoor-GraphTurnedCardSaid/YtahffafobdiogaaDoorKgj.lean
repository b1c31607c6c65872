/- Order: what its loops keep. -/
import Derived.Test.YtahffafobdiogaaDoorKgi
namespace Go.Proofs.YtahffafobdiogaaDoor
set_option linter.unusedVariables false
set_option linter.unusedSimpArgs false
open Go.RowKit
namespace gr
theorem mis_le (E : Nat → Nat → Bool) (n : Nat) (out : List Nat) (w : Nat) : mis E n out w ≤ n := by
  unfold mis
  exact Nat.le_trans List.countP_le_length (by simp)
theorem nxt_filter {E : Nat → Nat → Bool} {n : Nat} {out : List Nat} {ws : List Nat} (h : St (sizeW n) ws fun w => decide (w < n) && rdy E n out w) : (memW ws).headD 0 = (nxt E n out).getD 0 ∧ (!(memW ws).isEmpty) = (nxt E n out).isSome := by
  have e : memW ws = (List.range n).filter (rdy E n out) := by
    rw [h.list (n := n) (fun v hv => by simp at hv; exact hv.1)]
    apply List.filter_congr
    intro v hv
    simp [List.mem_range.1 hv]
  have e2 : ((List.range n).filter (rdy E n out)).head? = nxt E n out := by
    unfold nxt
    rw [List.head?_filter]
  rw [e, ← e2]
  cases (List.range n).filter (rdy E n out) <;> simp
theorem kah_some {E : Nat → Nat → Bool} {n v : Nat} {out : List Nat} (ho : Ord E n out) (h : nxt E n out = some v) (hk : kah E n (n - out.length) out = kah E n n []) : Ord E n (out ++ [v]) ∧ out.length < n ∧ kah E n (n - (out ++ [v]).length) (out ++ [v]) = kah E n n [] := by
  obtain ⟨h1, h2⟩ := nxt_some h
  have ho2 := ho.add h1 h2
  have hl := ho2.len
  rw [List.length_append, List.length_singleton] at hl
  refine ⟨ho2, by omega, ?_⟩
  rw [← hk]
  obtain ⟨k, hk2⟩ : ∃ k, n - out.length = k + 1 := ⟨n - out.length - 1, by omega⟩
  rw [hk2, List.length_append, List.length_singleton]
  have e : n - (out.length + 1) = k := by omega
  rw [e]
  conv => rhs; unfold kah
  rw [h]
theorem kah_none {E : Nat → Nat → Bool} {n : Nat} {out : List Nat} (h : nxt E n out = none) (hk : kah E n (n - out.length) out = kah E n n []) : out = kah E n n [] := by
  rw [← hk]
  cases n - out.length with
  | zero => rfl
  | succ k => unfold kah; rw [h]
/-- the set of the ready behind the visits -/
theorem rdy_step {E : Nat → Nat → Bool} {n v : Nat} {out : List Nat} (ho : Ord E n out) (h : nxt E n out = some v) (w : Nat) :
    ((decide (w < n) && rdy E n out w && !decide (w = v)) || ((nbs E n v).contains w && decide (mis E n (out ++ [v]) w = 0))) = (decide (w < n) && rdy E n (out ++ [v]) w) := by
  obtain ⟨hv, hr⟩ := nxt_some h
  obtain ⟨hv1, hv2⟩ := mis_rdy.1 hr
  have hms := mis_snoc (E := E) (n := n) hv hv1 w
  rw [Bool.eq_iff_iff]
  simp only [Bool.or_eq_true, Bool.and_eq_true, decide_eq_true_eq, Bool.not_eq_true', decide_eq_false_iff_not, List.contains_iff_mem, nbs_mem, mis_rdy, List.mem_append, List.mem_singleton]
  by_cases he : E v w = true
  · rw [if_pos he] at hms
    constructor
    · rintro (⟨⟨h1, h2, h3⟩, h4⟩ | ⟨⟨h1, _⟩, h2⟩)
      · omega
      · refine ⟨h1, ?_, h2⟩
        rintro (h5 | h5)
        · obtain ⟨p, q, hpq⟩ := List.append_of_mem h5
          have := ho.2.2 p w q hpq v hv he
          exact hv1 (by rw [hpq]; simp [this])
        · rw [h5] at hms
          omega
    · rintro ⟨h1, h2, h3⟩
      exact .inr ⟨⟨h1, he⟩, h3⟩
  · rw [if_neg he] at hms
    constructor
    · rintro (⟨⟨h1, h2, h3⟩, h4⟩ | ⟨⟨h1, h2⟩, _⟩)
      · exact ⟨h1, fun x => x.elim h2 h4, by omega⟩
      · exact absurd h2 he
    · rintro ⟨h1, h2, h3⟩
      exact .inl ⟨⟨h1, fun x => h2 (.inl x), by omega⟩, fun x => h2 (.inr x)⟩
theorem tz_lt {w : World} (h : Tz w) : tzB < w.heap.size := by
  have h1 := h 0 (by decide)
  exact World.block_lt_of_cell? w _ h1
theorem Tz.low {w w' : World} {B : Nat} (h : Tz w) (hb : Below B w w') (ht : tzB < B) : Tz w' := fun j hj => (hb.cell (p := ⟨tzB, j, none⟩) ht).trans (h j hj)
theorem LkE.low {w w' : World} {B lb n : Nat} {E : Nat → Nat → Bool} (h : LkE w lb n E) (hb : Below B w w') (ht : lb + n < B) : LkE w' lb n E := h.to fun k _ h2 => hb.block k (by omega)
/-- what the call has in memory -/
structure Ors (w W : World) (lb mb pm rb pr n B : Nat) (E : Nat → Nat → Bool) (f : Nat → Int) (p : Nat → Bool) : Prop where
  lk : LkE W lb n E
  tz : Tz W
  mi : Blk W mb 3 (rowI n f)
  mc : W.cell? ⟨pm, 0, none⟩ = some (sl mb n)
  rs : ∃ ws, Blk W rb 69 (uV ws) ∧ St (sizeW n) ws p
  rc : W.cell? ⟨pr, 0, none⟩ = some (sl rb (sizeW n))
  sz : B ≤ W.heap.size
  low : Below w.heap.size w W
  fit : tzB < w.heap.size ∧ w.heap.size ≤ lb ∧ lb + n < mb ∧ mb < pm ∧ pm < rb ∧ rb < pr ∧ pr < B
theorem Ors.to {w W W' : World} {lb mb pm rb pr n B : Nat} {E : Nat → Nat → Bool} {f : Nat → Int} {p : Nat → Bool} (h : Ors w W lb mb pm rb pr n B E f p) (hb : Below B W W') : Ors w W' lb mb pm rb pr n B E f p := by
  obtain ⟨f1, f2, f3, f4, f5, f6, f7⟩ := h.fit
  obtain ⟨ws, h1, h2⟩ := h.rs
  exact ⟨h.lk.low hb (by omega), h.tz.low hb (by omega), h.mi.below hb (by omega), (hb.cell (p := ⟨pm, 0, none⟩) (by simp only; omega)).trans h.mc, ⟨ws, h1.below hb (by omega), h2⟩, (hb.cell (p := ⟨pr, 0, none⟩) (by simp only; omega)).trans h.rc, Nat.le_trans h.sz hb.size, h.low.trans (hb.mono (by omega)), h.fit⟩
theorem Ors.congr {w W : World} {lb mb pm rb pr n B : Nat} {E : Nat → Nat → Bool} {f g : Nat → Int} {p q : Nat → Bool} (h : Ors w W lb mb pm rb pr n B E f p) (hf : ∀ v, v < n → f v = g v) (hp : ∀ v, p v = q v) : Ors w W lb mb pm rb pr n B E g q := by
  obtain ⟨ws, h1, h2⟩ := h.rs
  exact ⟨h.lk, h.tz, by rw [← rowI_congr hf]; exact h.mi, h.mc, ⟨ws, h1, h2.congr hp⟩, h.rc, h.sz, h.low, h.fit⟩
/-- behind calls that write the two rows alone -/
theorem Ors.kp {w W W' : World} {lb mb pm rb pr n B : Nat} {E : Nat → Nat → Bool} {f g : Nat → Int} {p q : Nat → Bool} (h : Ors w W lb mb pm rb pr n B E f p) (hk : Kp (fun k => k = mb ∨ k = rb) W W') (hm : Blk W' mb 3 (rowI n g)) (hr : ∃ ws, Blk W' rb 69 (uV ws) ∧ St (sizeW n) ws q) : Ors w W' lb mb pm rb pr n B E g q := by
  obtain ⟨f1, f2, f3, f4, f5, f6, f7⟩ := h.fit
  have hsz := h.sz
  have hc : ∀ b v, b ≠ mb → b ≠ rb → W.cell? ⟨b, 0, none⟩ = some v → W'.cell? ⟨b, 0, none⟩ = some v := fun b v h1 h2 hv => (World.cell?_of_block (hk.2 b (World.block_lt_of_cell? W _ hv) (fun x => x.elim h1 h2))).trans hv
  exact ⟨h.lk.kp hk (fun k h1 h2 x => by omega), h.tz.kp hk (fun x => by omega), hm, hc _ _ (by omega) (by omega) h.mc, hr, hc _ _ (by omega) (by omega) h.rc, Nat.le_trans h.sz hk.1, h.low.trans (hk.low (Nat.le_trans (by omega) hsz) (fun k x => by omega)), h.fit⟩
/-- the visits of what comes behind v -/
theorem visit2 {w W : World} {lb mb pm rb pr n B v : Nat} {E : Nat → Nat → Bool} {out : List Nat} (hn : n ≤ 4096) (hEn : ∀ u w, E u w = true → w < n) (ho : Ord E n out) (hx : nxt E n out = some v)
    (h : Ors w W lb mb pm rb pr n B E (fun u => (mis E n out u : Nat)) fun u => decide (u < n) && rdy E n out u && !decide (u = v)) :
    Calls Tryd.prog 25 #[sl lb n, .int .i64 v, .func (.func 31) #[] #[.pointer (some ⟨pm, 0, none⟩), .pointer (some ⟨pr, 0, none⟩)]] W fun e W' => e = .returned (.tuple #[]) ∧ Ors w W' lb mb pm rb pr n B E (fun u => (mis E n (out ++ [v]) u : Nat)) (fun u => decide (u < n) && rdy E n (out ++ [v]) u) ∧ Kp (fun k => k = mb ∨ k = rb) W W' := by
  obtain ⟨hv, hr⟩ := nxt_some hx
  obtain ⟨hv1, hv2⟩ := mis_rdy.1 hr
  obtain ⟨f1, f2, f3, f4, f5, f6, f7⟩ := h.fit
  have hsz := h.sz
  refine (each_any lb n v 31 _ (enters_of Tryd.func31 (by kernel_rfl) rfl) E hEn hn hv (fun k => k = mb ∨ k = rb)
    (fun pre U => Ors w U lb mb pm rb pr n B E (fun u => ((mis E n out u : Nat) : Int) - (pre.count u : Nat)) fun u => (decide (u < n) && rdy E n out u && !decide (u = v)) || (pre.contains u && decide (mis E n (out ++ [v]) u = 0)))
    W (fun k hk => by omega) (fun x => by omega) (fun k h1 h2 x => by omega) (fun l U U' hU hb => hU.to (hb.mono hU.sz)) ?_ h.tz h.lk (h.congr (fun u _ => by simp) (fun u => by simp))).mono ?_
  · intro pre b r U hpre hU
    have hbn : b ∈ nbs E n v := by rw [← hpre]; simp
    obtain ⟨hb1, hb2⟩ := nbs_mem.1 hbn
    have hnd := nbs_nodup E n v
    rw [← hpre] at hnd
    have hnp : b ∉ pre := fun hx => (List.nodup_append.1 hnd).2.2 b hx b List.mem_cons_self rfl
    have hc0 : pre.count b = 0 := List.count_eq_zero.2 hnp
    have hms := mis_snoc (E := E) (n := n) hv hv1 b
    rw [if_pos hb2] at hms
    have hle := mis_le E n out b
    obtain ⟨ws, hw1, hw2⟩ := hU.rs
    refine (order2_any n b mb pm rb pr _ ws _ hb1 hn (by simp only [hc0]; omega) (by simp only [hc0]; omega) U hU.mi hU.mc hw1 hw2 hU.rc (by omega) (by omega) (by omega)).mono ?_
    rintro e U' ⟨he, g1, ⟨ws', g2, g3⟩, g4⟩
    refine ⟨he, (hU.kp g4 g1 ⟨ws', g2, g3⟩).congr (fun u hu => ?_) (fun u => ?_), g4⟩
    · rw [List.count_append, List.count_singleton]
      by_cases e : u = b
      · subst e
        simp [hc0]
      · have e2 : (b == u) = false := by simp; exact fun x => e x.symm
        rw [if_neg e, e2]
        simp
    · simp only [hc0]
      rw [Bool.eq_iff_iff]
      simp only [Bool.or_eq_true, Bool.and_eq_true, decide_eq_true_eq, List.contains_iff_mem, List.mem_append, List.mem_singleton]
      constructor
      · rintro ((h1 | ⟨h1, h2⟩) | ⟨h1, rfl⟩)
        · exact .inl h1
        · exact .inr ⟨.inl h1, h2⟩
        · exact .inr ⟨.inr rfl, by omega⟩
      · rintro (h1 | ⟨h1 | rfl, h2⟩)
        · exact .inl (.inl h1)
        · exact .inl (.inr ⟨h1, h2⟩)
        · exact .inr ⟨by omega, rfl⟩
  · rintro e U ⟨he, hU, hk⟩
    refine ⟨he, hU.congr (fun u hu => ?_) (fun u => rdy_step ho hx u), hk⟩
    have hms := mis_snoc (E := E) (n := n) hv hv1 u
    rw [nbs_count hu]
    by_cases e : E v u = true
    · rw [if_pos e] at hms ⊢; omega
    · rw [if_neg e] at hms ⊢; omega
end gr
end Go.Proofs.YtahffafobdiogaaDoor
