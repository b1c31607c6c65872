/- Order. -/
import Derived.Test.YtahffafobdiogaaDoorKgj
import Derived.Lib.AppendZeros
namespace Go.Proofs.YtahffafobdiogaaDoor
set_option linter.unusedVariables false
set_option linter.unusedSimpArgs false
open Go.RowKit
namespace gr
/-- vertices in cells -/
def vV (l : List Nat) : List Value := l.map fun (x : Nat) => Value.int .i64 ((x : Nat) : Int)
theorem vV_len (l : List Nat) : (vV l).length = l.length := by simp [vV]
theorem vV_snoc (l : List Nat) (a : Nat) : vV l ++ [.int .i64 (a : Int)] = vV (l ++ [a]) := by simp [vV]
/-- a list and an error -/
def NewI (l : List Nat) (err : Int) (w : World) (e : Ending) (w' : World) : Prop := ∃ A c, e = .returned (.tuple #[.slice A l.length c, .int .i64 err]) ∧ Rd w' w'.heap.size A (vV l) ∧ Below w.heap.size w w'
theorem row1 (w : World) (x : Value) (t : TypeId) : ∀ j u, [x][j]? = some u → (w.alloc (.cells #[x] t)).cell? ((⟨w.heap.size, 0, none⟩ : Addr).add j) = some u := by
  intro j u hu
  rcases j with _ | j
  · simp at hu
    subst hu
    rw [add_zero']
    simp
  · simp at hu
theorem one_int (x : Int) : ∀ u ∈ [Value.int .i64 x], u.oneCell' = true := by
  intro u hu
  simp at hu
  subst hu
  rfl
theorem ord_add {w W : World} {lb mb pm rb pr n B : Nat} {E : Nat → Nat → Bool} {f : Nat → Int} {p : Nat → Bool} (hn : n ≤ 4096) (h : Ors w W lb mb pm rb pr n B E f p) {v : Nat} (hv : v < n) : Calls Tryd.prog 28 #[sl rb (sizeW n), .int .i64 v] W fun e W' => e = .returned (.tuple #[]) ∧ Ors w W' lb mb pm rb pr n B E f (fun u => p u || decide (u = v)) ∧ Kp (fun k => k = mb ∨ k = rb) W W' := by
  obtain ⟨ws, h1, h2⟩ := h.rs
  refine (add_any rb (sizeW n) v ws p W h1 h2 (by unfold sizeW; omega) (size_div hv)).mono ?_
  rintro e W' ⟨he, q, rfl⟩
  have hk : Kp (fun k => k = mb ∨ k = rb) W ((W.setCell ⟨rb, v / 64, none⟩ (.int .u64 ((ws.getD (v / 64) 0 ||| 2 ^ (v % 64) : Nat) : Int))).drewN q) := (Kp.set W (a := ⟨rb, v / 64, none⟩) (.inr rfl) _).trans (Kp.below (below_self _ _ q))
  obtain ⟨f1, f2, f3, f4, f5, f6, f7⟩ := h.fit
  refine ⟨he, h.kp hk (h.mi.set_other (by omega) _ _) ⟨addW ws v, ?_, h2.add (size_div hv)⟩, hk⟩
  have := h1.set (v / 64) (.int .u64 ((ws.getD (v / 64) 0 ||| 2 ^ (v % 64) : Nat) : Int))
  rw [uV_set] at this
  exact this
theorem ord_rem {w W : World} {lb mb pm rb pr n B : Nat} {E : Nat → Nat → Bool} {f : Nat → Int} {p : Nat → Bool} (hn : n ≤ 4096) (h : Ors w W lb mb pm rb pr n B E f p) {v : Nat} (hv : v < n) : Calls Tryd.prog 30 #[sl rb (sizeW n), .int .i64 v] W fun e W' => e = .returned (.tuple #[]) ∧ Ors w W' lb mb pm rb pr n B E f (fun u => p u && !decide (u = v)) ∧ Kp (fun k => k = mb ∨ k = rb) W W' := by
  obtain ⟨ws, h1, h2⟩ := h.rs
  refine (remove_any rb (sizeW n) v ws p W h1 h2 (by unfold sizeW; omega) (size_div hv)).mono ?_
  rintro e W' ⟨he, q, rfl⟩
  have hk : Kp (fun k => k = mb ∨ k = rb) W ((W.setCell ⟨rb, v / 64, none⟩ (.int .u64 ((ws.getD (v / 64) 0 &&& (18446744073709551615 - 2 ^ (v % 64) % 18446744073709551616) : Nat) : Int))).drewN q) := (Kp.set W (a := ⟨rb, v / 64, none⟩) (.inr rfl) _).trans (Kp.below (below_self _ _ q))
  obtain ⟨f1, f2, f3, f4, f5, f6, f7⟩ := h.fit
  refine ⟨he, h.kp hk (h.mi.set_other (by omega) _ _) ⟨remW ws v, ?_, h2.remove (size_div hv)⟩, hk⟩
  have := h1.set (v / 64) (.int .u64 ((ws.getD (v / 64) 0 &&& (18446744073709551615 - 2 ^ (v % 64) % 18446744073709551616) : Nat) : Int))
  rw [uV_set] at this
  exact this
theorem ord_least {w W : World} {lb mb pm rb pr n B : Nat} {E : Nat → Nat → Bool} {f : Nat → Int} {out : List Nat} (hn : n ≤ 4096) (h : Ors w W lb mb pm rb pr n B E f fun u => decide (u < n) && rdy E n out u) : Calls Tryd.prog 29 #[sl rb (sizeW n)] W fun e W' => e = .returned (.tuple #[.int .i64 (((nxt E n out).getD 0 : Nat) : Int), .bool (nxt E n out).isSome]) ∧ W' = W := by
  obtain ⟨ws, h1, h2⟩ := h.rs
  obtain ⟨e1, e2⟩ := nxt_filter h2
  refine (least_any rb (sizeW n) ws _ W h.tz h1 h2 (by unfold sizeW; omega)).mono ?_
  rintro e W' ⟨he, hw⟩
  rw [e1, e2] at he
  exact ⟨he, hw⟩
/-- what the first loop keeps -/
structure Or1 (w W : World) (lb mb pm n : Nat) (E : Nat → Nat → Bool) (f : Nat → Int) : Prop where
  lk : LkE W lb n E
  tz : Tz W
  mi : Blk W mb 3 (rowI n f)
  mc : W.cell? ⟨pm, 0, none⟩ = some (sl mb n)
  low : Below w.heap.size w W
  sz : pm < W.heap.size
  fit : tzB < w.heap.size ∧ w.heap.size ≤ lb ∧ lb + n < mb ∧ mb < pm
theorem Or1.keep {w W W' : World} {lb mb pm n : Nat} {E : Nat → Nat → Bool} {f : Nat → Int} (h : Or1 w W lb mb pm n E f) (hb : Below W.heap.size W W') : Or1 w W' lb mb pm n E f := by
  obtain ⟨f1, f2, f3, f4⟩ := h.fit
  have hz := h.sz
  exact ⟨h.lk.keep hb, h.tz.keep hb, h.mi.keep hb, (hb.cell (p := ⟨pm, 0, none⟩) hz).trans h.mc, h.low.trans (hb.mono (by omega)), Nat.lt_of_lt_of_le hz hb.size, h.fit⟩
theorem Or1.congr {w W : World} {lb mb pm n : Nat} {E : Nat → Nat → Bool} {f g : Nat → Int} (h : Or1 w W lb mb pm n E f) (hf : ∀ v, v < n → f v = g v) : Or1 w W lb mb pm n E g :=
  ⟨h.lk, h.tz, by rw [← rowI_congr hf]; exact h.mi, h.mc, h.low, h.sz, h.fit⟩
theorem Or1.set {w W : World} {lb mb pm n u : Nat} {E : Nat → Nat → Bool} {f : Nat → Int} {x : Int} (h : Or1 w W lb mb pm n E f) (hu : u < n) : Or1 w (W.setCell ⟨mb, u, none⟩ (.int .i64 x)) lb mb pm n E (fun v => if v = u then x else f v) ∧ Kp (fun k => k = mb) W (W.setCell ⟨mb, u, none⟩ (.int .i64 x)) := by
  obtain ⟨f1, f2, f3, f4⟩ := h.fit
  have hk : Kp (fun k => k = mb) W (W.setCell ⟨mb, u, none⟩ (.int .i64 x)) := Kp.set (S := fun k => k = mb) W (a := ⟨mb, u, none⟩) rfl _
  refine ⟨⟨h.lk.kp hk (fun k _ _ e => by omega), h.tz.kp hk (fun e => by omega), ?_, (World.cell?_setCell_other _ _ _ _ (by intro e; injection e with e; omega)).trans h.mc, h.low.setCell (p := ⟨mb, u, none⟩) (by simp only; omega) _, by rw [World.size_setCell]; exact h.sz, h.fit⟩, hk⟩
  have := h.mi.set u (.int .i64 x)
  rw [rowI_set] at this
  exact this
theorem visit1 {w W : World} {lb mb pm n v : Nat} {E : Nat → Nat → Bool} (hn : n ≤ 4096) (hEn : ∀ u w, E u w = true → w < n) (hv : v < n) (h : Or1 w W lb mb pm n E fun u => ((List.range v).countP fun t => E t u : Nat)) :
    Calls Tryd.prog 25 #[sl lb n, .int .i64 v, .func (.func 26) #[] #[.pointer (some ⟨pm, 0, none⟩)]] W fun e W' => e = .returned (.tuple #[]) ∧ Or1 w W' lb mb pm n E (fun u => ((List.range (v + 1)).countP fun t => E t u : Nat)) := by
  obtain ⟨f1, f2, f3, f4⟩ := h.fit
  have hz := h.sz
  refine (each_any lb n v 26 _ (enters_of Tryd.func26 (by kernel_rfl) rfl) E hEn hn hv (fun k => k = mb)
    (fun pre U => Or1 w U lb mb pm n E (fun u => (((List.range v).countP fun t => E t u : Nat) : Int) + (pre.count u : Nat)))
    W (fun k hk => by omega) (fun x => by omega) (fun k h1 h2 x => by omega) (fun l U U' hU hb => hU.keep hb) ?_ h.tz h.lk (h.congr (fun u _ => by simp))).mono ?_
  · intro pre b r U hpre hU
    have hbn : b ∈ nbs E n v := by rw [← hpre]; simp
    obtain ⟨hb1, hb2⟩ := nbs_mem.1 hbn
    have hnd := nbs_nodup E n v
    rw [← hpre] at hnd
    have hnp : b ∉ pre := fun hx => (List.nodup_append.1 hnd).2.2 b hx b List.mem_cons_self rfl
    have hc0 : pre.count b = 0 := List.count_eq_zero.2 hnp
    have hle : (List.range v).countP (fun t => E t b) ≤ v := Nat.le_trans List.countP_le_length (by simp)
    refine (order1_any n b mb pm _ hb1 (by simp only [hc0]; omega) (by simp only [hc0]; omega) U hU.mi hU.mc).mono ?_
    rintro e U' ⟨he, rfl⟩
    obtain ⟨g1, g2⟩ := hU.set (x := (((List.range v).countP fun t => E t b : Nat) : Int) + (pre.count b : Nat) + 1) hb1
    refine ⟨he, g1.congr fun u hu => ?_, g2⟩
    rw [List.count_append, List.count_singleton]
    by_cases e : u = b
    · subst e
      simp [hc0]
    · have e2 : (b == u) = false := by simp; exact fun x => e x.symm
      rw [if_neg e, e2]
      simp
  · rintro e U ⟨he, hU, hk⟩
    refine ⟨he, hU.congr fun u hu => ?_⟩
    rw [nbs_count hu, List.range_succ, List.countP_append, List.countP_singleton]
    push_cast
    split <;> rfl
end gr
end Go.Proofs.YtahffafobdiogaaDoor
