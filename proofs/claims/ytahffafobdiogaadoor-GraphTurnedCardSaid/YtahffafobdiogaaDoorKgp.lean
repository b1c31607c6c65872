/- through. -/
import Derived.Test.YtahffafobdiogaaDoorKgo
namespace Go.Proofs.YtahffafobdiogaaDoor
set_option linter.unusedVariables false
set_option linter.unusedSimpArgs false
open Go.RowKit
namespace gr
theorem snoc_ind {α : Type} {P : List α → Prop} (h0 : P []) (h1 : ∀ l a, P l → P (l ++ [a])) (l : List α) : P l := by
  have key : ∀ r : List α, P r.reverse := by
    intro r
    induction r with
    | nil => exact h0
    | cons a r ih => rw [List.reverse_cons]; exact h1 _ _ ih
  have := key l.reverse
  rwa [List.reverse_reverse] at this
theorem rst_fold {E : Nat → Nat → Bool} {n v : Nat} {D : Nat → Option Nat} : (nbs E n v).foldl (rst D) (-1) = match mndO E n D v with | some d => (d : Int) | none => -1 := by
  have key : ∀ l : List Nat, (l.foldl (rst D) (-1) = -1 ∧ ∀ u ∈ l, D u = none) ∨ ∃ d : Nat, l.foldl (rst D) (-1) = (d : Int) ∧ (∃ u ∈ l, D u = some d) ∧ ∀ u ∈ l, ∀ e, D u = some e → d ≤ e := by
    intro l
    induction l using snoc_ind with
    | h0 => exact .inl ⟨rfl, fun u hu => by cases hu⟩
    | h1 l a ih =>
      rw [List.foldl_append, List.foldl_cons, List.foldl_nil]
      cases ha : D a with
      | none =>
        have hr : ∀ r, rst D r a = r := fun r => by
          unfold rst
          rw [if_neg (fun h => by have := dI_none.2 ha; omega)]
        rw [hr]
        rcases ih with ⟨h1, h2⟩ | ⟨d, h1, ⟨u, h2, h3⟩, h4⟩
        · exact .inl ⟨h1, fun u hu => by
            rcases List.mem_append.1 hu with h | h
            · exact h2 u h
            · rw [List.mem_singleton.1 h]; exact ha⟩
        · exact .inr ⟨d, h1, ⟨u, List.mem_append_left _ h2, h3⟩, fun u hu e he => by
            rcases List.mem_append.1 hu with h | h
            · exact h4 u h e he
            · rw [List.mem_singleton.1 h, ha] at he; cases he⟩
      | some x =>
        have hx : dI D a = (x : Int) := dI_some.2 ha
        right
        rcases ih with ⟨h1, h2⟩ | ⟨d, h1, ⟨u, h2, h3⟩, h4⟩
        · refine ⟨x, ?_, ⟨a, by simp, ha⟩, fun u hu e he => ?_⟩
          · rw [h1]; unfold rst; rw [hx, if_pos ⟨by omega, .inl (by omega)⟩]
          · rcases List.mem_append.1 hu with h | h
            · rw [h2 u h] at he; cases he
            · rw [List.mem_singleton.1 h, ha] at he; injection he with he; omega
        · by_cases hlt : x < d
          · refine ⟨x, ?_, ⟨a, by simp, ha⟩, fun u hu e he => ?_⟩
            · rw [h1]; unfold rst; rw [hx, if_pos ⟨by omega, .inr (by omega)⟩]
            · rcases List.mem_append.1 hu with h | h
              · have := h4 u h e he; omega
              · rw [List.mem_singleton.1 h, ha] at he; injection he with he; omega
          · refine ⟨d, ?_, ⟨u, List.mem_append_left _ h2, h3⟩, fun u hu e he => ?_⟩
            · rw [h1]; unfold rst; rw [hx, if_neg (fun h => h.2.elim (fun h => by omega) (fun h => by omega))]
            · rcases List.mem_append.1 hu with h | h
              · exact h4 u h e he
              · rw [List.mem_singleton.1 h, ha] at he; injection he with he; omega
  rcases key (nbs E n v) with ⟨h1, h2⟩ | ⟨d, h1, ⟨u, h2, h3⟩, h4⟩
  · rw [h1, mndO_none.2 fun w hw he => h2 w (nbs_mem.2 ⟨hw, he⟩)]
  · have hm : Mnd E n D v d := ⟨⟨u, (nbs_mem.1 h2).1, (nbs_mem.1 h2).2, h3⟩, fun w e hw he hd => h4 w (nbs_mem.2 ⟨hw, he⟩) e hd⟩
    rw [h1, mndO_some.2 hm]
theorem ner_fold {E : Nat → Nat → Bool} {n v r : Nat} {D : Nat → Option Nat} : (nbs E n v).foldl (ner D r) (-1) = match nea E n D v r with | some u => (u : Int) | none => -1 := by
  have key : ∀ l : List Nat, l.foldl (ner D r) (-1) = match l.find? (fun u => decide (D u = some r)) with | some u => (u : Int) | none => -1 := by
    intro l
    induction l using snoc_ind with
    | h0 => rfl
    | h1 l a ih =>
      rw [List.foldl_append, List.foldl_cons, List.foldl_nil, ih, List.find?_append]
      cases hf : l.find? (fun u => decide (D u = some r)) with
      | some u =>
        unfold ner
        rw [if_neg (fun h => by have h1 := h.1; simp only at h1; omega)]
        rfl
      | none =>
        unfold ner
        by_cases ha : D a = some r
        · rw [if_pos ⟨by show (-1 : Int) < 0; omega, dI_some.2 ha⟩]
          simp [ha]
        · rw [if_neg (fun h => ha (dI_some.1 h.2))]
          simp [ha]
  rw [key]
  have e : (nbs E n v).find? (fun u => decide (D u = some r)) = nea E n D v r := by
    unfold nbs nea
    rw [List.find?_filter]
    congr 1
    funext a
    rw [Bool.eq_iff_iff]
    simp
  rw [e]
/-- the row of distances, and what the calls see -/
structure Tr (w W : World) (lb n db pd pr : Nat) (E : Nat → Nat → Bool) (D : Nat → Option Nat) (r : Int) : Prop where
  lk : LkE W lb n E
  tz : Tz W
  di : Blk W db 3 (rowI n (dI D))
  dc : W.cell? ⟨pd, 0, none⟩ = some (sl db n)
  rc : W.cell? ⟨pr, 0, none⟩ = some (.int .i64 r)
  rf : W.frozen? ⟨pr, 0, none⟩ = false
  low : Below w.heap.size w W
  sz : pr < W.heap.size
  fit : tzB < w.heap.size ∧ lb + n < w.heap.size ∧ db < w.heap.size ∧ w.heap.size ≤ pd ∧ pd < pr
theorem Tr.keep {w W W' : World} {lb n db pd pr : Nat} {E : Nat → Nat → Bool} {D : Nat → Option Nat} {r : Int} (h : Tr w W lb n db pd pr E D r) (hb : Below (pr + 1) W W') : Tr w W' lb n db pd pr E D r := by
  obtain ⟨f1, f2, f3, f4, f5⟩ := h.fit
  exact ⟨h.lk.low hb (by omega), h.tz.low hb (by omega), h.di.below hb (by omega), (hb.cell (p := ⟨pd, 0, none⟩) (by simp only; omega)).trans h.dc, (hb.cell (p := ⟨pr, 0, none⟩) (by simp only; omega)).trans h.rc, (hb.frozen (p := ⟨pr, 0, none⟩) (by simp only; omega)).trans h.rf, h.low.trans (hb.mono (by omega)), Nat.lt_of_lt_of_le h.sz hb.size, h.fit⟩
theorem Tr.own {w W W' : World} {lb n db pd pr : Nat} {E : Nat → Nat → Bool} {D : Nat → Option Nat} {r r' : Int} (h : Tr w W lb n db pd pr E D r) (hk : Kp (fun k => k = pr) W W') (hr : W'.cell? ⟨pr, 0, none⟩ = some (.int .i64 r')) (hf : W'.frozen? ⟨pr, 0, none⟩ = false) : Tr w W' lb n db pd pr E D r' := by
  obtain ⟨f1, f2, f3, f4, f5⟩ := h.fit
  have hz := h.sz
  exact ⟨h.lk.kp hk (fun k _ _ e => by omega), h.tz.kp hk (fun e => by omega), hk.blk h.di (by omega), (World.cell?_of_block (hk.2 _ (World.block_lt_of_cell? W _ h.dc) (by simp only; omega))).trans h.dc, hr, hf, h.low.trans (hk.low (by omega) (fun k e => by omega)), Nat.lt_of_lt_of_le hz hk.1, h.fit⟩
theorem thr_visit1 {w W : World} {lb n db pd pr v : Nat} {E : Nat → Nat → Bool} {D : Nat → Option Nat} (hn : n ≤ 4096) (hEn : ∀ u w, E u w = true → w < n) (hv : v < n) (h : Tr w W lb n db pd pr E D (-1)) :
    Calls Tryd.prog 25 #[sl lb n, .int .i64 v, .func (.func 52) #[] #[.pointer (some ⟨pd, 0, none⟩), .pointer (some ⟨pr, 0, none⟩)]] W fun e W' => e = .returned (.tuple #[]) ∧ Tr w W' lb n db pd pr E D (match mndO E n D v with | some d => (d : Int) | none => -1) := by
  obtain ⟨f1, f2, f3, f4, f5⟩ := h.fit
  have hz := h.sz
  refine (each_any lb n v 52 _ (enters_of Tryd.func52 (by kernel_rfl) rfl) E hEn hn hv (fun k => k = pr)
    (fun pre U => Tr w U lb n db pd pr E D (pre.foldl (rst D) (-1)))
    W (fun k hk => by omega) (fun x => by omega) (fun k h1 h2 x => by omega) (fun l U U' hU hb => hU.keep (hb.mono hU.sz)) ?_ h.tz h.lk h).mono ?_
  · intro pre b r U hpre hU
    have hbn : b ∈ nbs E n v := by rw [← hpre]; simp
    refine (thr1_any n b db pd pr D _ (nbs_mem.1 hbn).1 U hU.di hU.dc hU.rc hU.rf).mono ?_
    rintro e U' ⟨he, g1, g3, g2⟩
    rw [List.foldl_append, List.foldl_cons, List.foldl_nil]
    exact ⟨he, hU.own g2 g1 g3, g2⟩
  · rintro e U ⟨he, hU, hk⟩
    rw [rst_fold] at hU
    exact ⟨he, hU⟩
theorem own_ne {W W' : World} {S : Nat → Prop} {base n : Nat} {t : TypeId} {v : Value} {xs : List Value} (h : Kp S W W') (ho : W.ownsRow base t 1 v n xs) (hs : ∀ k, S k → v.ownBlock ≠ some k) : W'.ownsRow base t 1 v n xs := by
  refine ⟨ho.1, ho.2.imp id fun ⟨g, cap, cur, e1, h1, h2, r⟩ => ⟨g, cap, cur, e1, h1, ?_, r⟩⟩
  rw [h.2 g (Array.getElem?_eq_some_iff.1 h2).1 (fun x => hs g x (by rw [e1]; rfl))]
  exact h2
theorem Tr.other {w W W' : World} {lb n db pd pr : Nat} {E : Nat → Nat → Bool} {D : Nat → Option Nat} {r : Int} {pn : Nat} (h : Tr w W lb n db pd pr E D r) (hp : pr < pn) (hk : Kp (fun k => k = pn) W W') : Tr w W' lb n db pd pr E D r :=
  h.keep (hk.low (by have := h.sz; omega) (fun k e => by omega))
theorem thr_visit2 {w W : World} {lb n db pd pr pn v r : Nat} {E : Nat → Nat → Bool} {D : Nat → Option Nat} (hn : n ≤ 4096) (hEn : ∀ u w, E u w = true → w < n) (hv : v < n) (h : Tr w W lb n db pd pr E D (r : Int)) (hp : pr < pn) (hpz : pn < W.heap.size) (hx : W.cell? ⟨pn, 0, none⟩ = some (.int .i64 (-1))) (hf : W.frozen? ⟨pn, 0, none⟩ = false) :
    Calls Tryd.prog 25 #[sl lb n, .int .i64 v, .func (.func 53) #[] #[.pointer (some ⟨pn, 0, none⟩), .pointer (some ⟨pd, 0, none⟩), .pointer (some ⟨pr, 0, none⟩)]] W fun e W' => e = .returned (.tuple #[]) ∧ Tr w W' lb n db pd pr E D (r : Int) ∧ W'.cell? ⟨pn, 0, none⟩ = some (.int .i64 (match nea E n D v r with | some u => (u : Int) | none => -1)) ∧ Kp (fun k => k = pn) W W' := by
  obtain ⟨f1, f2, f3, f4, f5⟩ := h.fit
  have hz := h.sz
  refine (each_any lb n v 53 _ (enters_of Tryd.func53 (by kernel_rfl) rfl) E hEn hn hv (fun k => k = pn)
    (fun pre U => Tr w U lb n db pd pr E D (r : Int) ∧ U.cell? ⟨pn, 0, none⟩ = some (.int .i64 (pre.foldl (ner D r) (-1))) ∧ U.frozen? ⟨pn, 0, none⟩ = false)
    W (fun k hk => by omega) (fun x => by omega) (fun k h1 h2 x => by omega) (fun l U U' ⟨hU, hc, hfz⟩ hb => ⟨hU.keep (hb.mono hU.sz), (hb.cell (p := ⟨pn, 0, none⟩) (World.block_lt_of_cell? U _ hc)).trans hc, (hb.frozen (p := ⟨pn, 0, none⟩) (World.block_lt_of_cell? U _ hc)).trans hfz⟩) ?_ h.tz h.lk ⟨h, hx, hf⟩).mono ?_
  · rintro pre b r' U hpre ⟨hU, hc, hfz⟩
    have hbn : b ∈ nbs E n v := by rw [← hpre]; simp
    refine (thr2_any n b db pd pn pr r D _ (nbs_mem.1 hbn).1 U hU.di hU.dc hU.rc hc hfz).mono ?_
    rintro e U' ⟨he, g1, g3, g2⟩
    rw [List.foldl_append, List.foldl_cons, List.foldl_nil]
    exact ⟨he, ⟨hU.other hp g2, g1, g3⟩, g2⟩
  · rintro e U ⟨he, ⟨hU, hc, _⟩, hk⟩
    rw [ner_fold] at hc
    exact ⟨he, hU, hc, hk⟩
end gr
end Go.Proofs.YtahffafobdiogaaDoor
