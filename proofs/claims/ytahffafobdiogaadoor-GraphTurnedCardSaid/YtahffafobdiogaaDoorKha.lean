/- Parts: its searches, what its second loop keeps. -/
import Derived.Test.YtahffafobdiogaaDoorKgz
namespace Go.Proofs.YtahffafobdiogaaDoor
set_option linter.unusedVariables false
set_option linter.unusedSimpArgs false
open Go.RowKit
namespace gr
theorem pwalk (fn lb n sb pl B : Nat) (eg : ∀ args w, (callFunc fn args).run Tryd.prog w = .ok (.enter fn args) w) (hpa : ∀ u L W, L.length ≤ 4096 → Bx W pl B L → Calls Tryd.prog fn #[.int .i64 ((u : Nat) : Int), .pointer (some ⟨pl, 0, none⟩)] W fun e W' => e = .returned (.tuple #[]) ∧ Bx W' pl B (L ++ [u]) ∧ KT B (fun k => k = pl) W W')
    (E : Nat → Nat → Bool) (hn : n ≤ 4096) (hEn : ∀ u w, E u w = true → w < n) (v : Nat) (S L : List Nat) (W : World) (hv : v < n) (hL : LkE W lb n E) (hS : Seen W sb n S) (hB : Bx W pl B L) (hT : Tz W) (hin : (∀ x ∈ L, x ∈ S) ∧ L.Nodup ∧ ∀ x ∈ S, x < n)
    (hsB : sb < B) (hsp : sb ≠ pl) (hsl : ¬ (lb ≤ sb ∧ sb ≤ lb + n)) (hpl : ¬ (lb ≤ pl ∧ pl ≤ lb + n)) (htB : tzB < B) (htp : tzB ≠ pl) (hts : tzB ≠ sb) :
    Calls Tryd.prog 38 #[sl lb n, .int .i64 v, sl sb (sizeW n), .func (.func fn) #[] #[.pointer (some ⟨pl, 0, none⟩)]] W fun e W' => e = .returned (.tuple #[]) ∧ ∃ S' L', Dfs (nbs E n) [v] S L S' L' ∧ Seen W' sb n S' ∧ Bx W' pl B L' ∧ KT B (fun k => k = pl ∨ k = sb) W W' := by
  have hplB := hB.fit
  refine (walk_any lb n sb B fn _ eg E hEn hn (fun k => k = pl) (fun L W => Bx W pl B L ∧ Tz W) (fun k hk => by omega) hsB (fun e => hsp e) (fun k h1 h2 e => hpl ⟨by omega, by omega⟩) hsl
    (fun l W W' ⟨g1, g2⟩ hb => ⟨g1.keep hb, g2.keep hb⟩)
    (fun l W i x ⟨g1, g2⟩ => ⟨g1.kp (Kp.set (S := fun k => k = sb) W (a := ⟨sb, i, none⟩) rfl x) (fun k e => ⟨by omega, fun e2 => hsp (by omega)⟩), g2.kp (Kp.set (S := fun k => k = sb) W (a := ⟨sb, i, none⟩) rfl x) (fun e => hts e)⟩)
    (fun l W h => h.2) ?_ (uns n S) v S L W (Nat.le_refl _) hv hL hS ⟨hB, hT⟩ hB.bz hin).mono ?_
  · rintro l u U hu hnd hlt ⟨g1, g2⟩ hBz
    have hlen : l.length ≤ 4096 := by
      have := nodup_len' _ (List.range n) hnd fun x hx => List.mem_range.2 (hlt x hx)
      rw [List.length_range, List.length_append, List.length_singleton] at this
      omega
    refine (hpa u l U hlen g1).mono ?_
    rintro e U' ⟨he, q1, q2⟩
    refine ⟨he, ⟨q1, fun j hj => ?_⟩, q2⟩
    have hc := g2 j hj
    obtain ⟨o, ho, hk⟩ := cells_of_cell hc
    exact (World.cell?_of_block ((q2.2 tzB o ho (fun e => htp e) (.inl htB)).trans ho.symm)).trans hc
  · rintro e W' ⟨he, S', L', h1, h2, ⟨h3, _⟩, h4⟩
    exact ⟨he, S', L', h1, h2, h3, h4⟩
/-- a part: where its row lies, its vertices, its capacity -/
def encP (e : Nat × List Nat × Nat) : Value := .slice (some ⟨e.1, 0, none⟩) e.2.1.length e.2.2
/-- what the second loop keeps -/
structure PI (W : World) (lb n sb ps pb pp N : Nat) (E : Nat → Nat → Bool) (T : List Nat) (es : List (Nat × List Nat × Nat)) : Prop where
  lk : LkE W lb n E
  tz : Tz W
  bc : W.cell? ⟨pb, 0, none⟩ = some (sl lb n)
  sc : W.cell? ⟨ps, 0, none⟩ = some (sl sb (sizeW n))
  sn : Seen W sb n T
  pc : ∃ V, W.cell? ⟨pp, 0, none⟩ = some V ∧ W.ownsRow N 24 1 V es.length (es.map encP)
  pf : W.frozen? ⟨pp, 0, none⟩ = false
  en : ∀ e ∈ es, N ≤ e.1 ∧ (∃ cs f, W.heap[e.1]? = some (.cells cs 3 f)) ∧ ∀ (j x : Nat), e.2.1[j]? = some x → W.cell? ⟨e.1, j, none⟩ = some (.int .i64 (x : Int))
  bz : N ≤ W.heap.size
  fit : tzB < N ∧ lb + n < N ∧ sb < N ∧ ps < N ∧ pb < N ∧ pp < N ∧ sb ≠ ps ∧ sb ≠ pb ∧ sb ≠ pp ∧ sb ≠ tzB ∧ ¬ (lb ≤ sb ∧ sb ≤ lb + n) ∧ pp ≠ tzB ∧ pp ≠ ps ∧ pp ≠ pb ∧ ¬ (lb ≤ pp ∧ pp ≤ lb + n)
theorem isCells_of {cs : Array Value} {t : TypeId} {f : Nat × Nat} : (Obj.cells cs t f).isCells = true := rfl
theorem Blk.cells {W : World} {b : Nat} {t : TypeId} {xs : List Value} (h : Blk W b t xs) {W' : World} (hk : ∀ o, W.heap[b]? = some o → o.isCells = true → W'.heap[b]? = some o) : Blk W' b t xs := hk _ h rfl
/-- all cells kept but those of the set -/
theorem PI.to {W W' : World} {lb n sb ps pb pp N : Nat} {E : Nat → Nat → Bool} {T T' : List Nat} {es : List (Nat × List Nat × Nat)} (h : PI W lb n sb ps pb pp N E T es) (hz : W.heap.size ≤ W'.heap.size) (hk : ∀ (k : Nat) (o : Obj), k ≠ sb → W.heap[k]? = some o → o.isCells = true → W'.heap[k]? = some o) (hs : Seen W' sb n T') : PI W' lb n sb ps pb pp N E T' es := by
  obtain ⟨f1, f2, f3, f4, f5, f6, f7, f8, f9, f10, f11, f12, f13, f14, f15⟩ := h.fit
  have hcell : ∀ (b i : Nat) (v : Value), b ≠ sb → W.cell? ⟨b, i, none⟩ = some v → W'.cell? ⟨b, i, none⟩ = some v ∧ W'.frozen? ⟨b, i, none⟩ = W.frozen? ⟨b, i, none⟩ := fun b i v hb hv => by
    obtain ⟨o, ho, hc⟩ := cells_of_cell hv
    have e : W'.heap[b]? = W.heap[b]? := (hk b o hb ho hc).trans ho.symm
    exact ⟨(World.cell?_of_block e).trans hv, World.frozen?_of_block e⟩
  obtain ⟨wss, hl1, hl2⟩ := h.lk.ex
  obtain ⟨V, hV, hO⟩ := h.pc
  refine ⟨⟨wss, ⟨hl1.row.cells fun o => hk _ o (fun e => f11 (by omega)), fun v hv => (hl1.sets v hv).cells fun o => hk _ o (fun e => f11 (by omega))⟩, hl2⟩,
    fun j hj => (hcell _ _ _ (fun e => f10 e.symm) (h.tz j hj)).1, (hcell _ _ _ (Ne.symm f8) h.bc).1, (hcell _ _ _ (Ne.symm f7) h.sc).1, hs, ⟨V, (hcell _ _ _ (Ne.symm f9) hV).1, hO.1, hO.2.imp id fun ⟨g, cap, cur, e1, e2, e3, r⟩ => ⟨g, cap, cur, e1, e2, hk g _ (fun e => by omega) e3 rfl, r⟩⟩, (hcell _ _ _ (Ne.symm f9) hV).2.trans h.pf,
    fun e he => ?_, Nat.le_trans h.bz hz, h.fit⟩
  obtain ⟨g1, ⟨cs, f, g2⟩, g3⟩ := h.en e he
  exact ⟨g1, ⟨cs, f, hk _ _ (fun e => by omega) g2 rfl⟩, fun j x hx => (hcell _ _ _ (fun e => by omega) (g3 j x hx)).1⟩
theorem PI.same {W W' : World} {lb n sb ps pb pp N : Nat} {E : Nat → Nat → Bool} {T : List Nat} {es : List (Nat × List Nat × Nat)} (h : PI W lb n sb ps pb pp N E T es) (hz : W.heap.size ≤ W'.heap.size) (hk : ∀ (k : Nat) (o : Obj), W.heap[k]? = some o → o.isCells = true → W'.heap[k]? = some o) : PI W' lb n sb ps pb pp N E T es := by
  obtain ⟨ws, h1, h2⟩ := h.sn
  exact h.to hz (fun k o _ => hk k o) ⟨ws, h1.cells fun o => hk _ o, h2⟩
/-- one more part: its slice was appended to the row of parts -/
theorem PI.push {W w3 : World} {lb n sb ps pb pp N g c : Nat} {l : List Nat} {E : Nat → Nat → Bool} {T : List Nat} {es : List (Nat × List Nat × Nat)} (h : PI W lb n sb ps pb pp N E T es) (o : Obj) {V V3 : Value} (hV : W.cell? ⟨pp, 0, none⟩ = some V) (hO : W.ownsRow N 24 1 V es.length (es.map encP)) (hg : (W.alloc o).grownBy w3 V.ownBlock) (hO3 : w3.ownsRow N 24 1 V3 (es.length + 1) (es.map encP ++ [encP (g, l, c)]))
    (hN : N ≤ g) (hgc : ∃ cs f, W.heap[g]? = some (.cells cs 3 f)) (hgl : ∀ (j x : Nat), l[j]? = some x → W.cell? ⟨g, j, none⟩ = some (.int .i64 (x : Int))) : PI (w3.setCell ⟨pp, 0, none⟩ V3) lb n sb ps pb pp N E T (es ++ [(g, l, c)]) ∧ (∀ (k : Nat) (ob : Obj), k < N → k ≠ pp → W.heap[k]? = some ob → (w3.setCell ⟨pp, 0, none⟩ V3).heap[k]? = some ob) ∧ (∀ (k : Nat) (ob : Obj), ob.isCells = false → W.heap[k]? = some ob → (w3.setCell ⟨pp, 0, none⟩ V3).heap[k]? = some ob) ∧ W.heap.size ≤ w3.heap.size ∧ Os W w3 := by
  obtain ⟨f1, f2, f3, f4, f5, f6, f7, f8, f9, f10, f11, f12, f13, f14, f15⟩ := h.fit
  have hown : ∀ k (ob : Obj), W.heap[k]? = some ob → (∀ cs f, ob ≠ .cells cs 24 f) ∨ k < N → w3.heap[k]? = some ob := fun k ob hk hi => by
    have hkl := (Array.getElem?_eq_some_iff.1 hk).1
    rw [hg.block k (by rw [World.size_alloc]; omega) (fun e => ?_)]
    · exact (Below.heap_alloc W o k hkl).trans hk
    · rcases hO.2 with ⟨e1, _⟩ | ⟨g', cap, cur, e1, e2, e3, _⟩
      · rw [e1] at e; cases e
      · rw [e1] at e
        simp only [Value.ownBlock, Option.some.injEq] at e
        subst e
        rw [e3] at hk
        injection hk with hk
        rcases hi with hi | hi
        · exact hi _ _ hk.symm
        · omega
  have hz3 : W.heap.size ≤ w3.heap.size := by have := hg.size; rw [World.size_alloc] at this; omega
  have hlow : ∀ k (ob : Obj), k ≠ pp → W.heap[k]? = some ob → (∀ cs f, ob ≠ .cells cs 24 f) ∨ k < N → (w3.setCell ⟨pp, 0, none⟩ V3).heap[k]? = some ob := fun k ob hk ho hi => (Below.heap_setCell _ _ _ _ hk).trans (hown k ob ho hi)
  have hcell : ∀ (b i : Nat) (v : Value), b < N → b ≠ pp → W.cell? ⟨b, i, none⟩ = some v → (w3.setCell ⟨pp, 0, none⟩ V3).cell? ⟨b, i, none⟩ = some v := fun b i v hb hp hv => by
    obtain ⟨ob, ho, hc⟩ := cells_of_cell hv
    exact (World.cell?_of_block ((hlow b ob hp ho (.inr hb)).trans ho.symm)).trans hv
  obtain ⟨wss, hl1, hl2⟩ := h.lk.ex
  obtain ⟨ws, hs1, hs2⟩ := h.sn
  have hppW := World.block_lt_of_cell? W _ hV
  have hpc3 : w3.cell? ⟨pp, 0, none⟩ = some V := by
    obtain ⟨ob, ho, hc⟩ := cells_of_cell hV
    exact (World.cell?_of_block ((hown pp ob ho (.inr f6)).trans ho.symm)).trans hV
  have hpf3 : w3.frozen? ⟨pp, 0, none⟩ = false := by
    obtain ⟨ob, ho, hc⟩ := cells_of_cell hV
    exact (World.frozen?_of_block ((hown pp ob ho (.inr f6)).trans ho.symm)).trans h.pf
  have hV3 : ∃ A c', V3 = .slice A (es.length + 1) c' := own_form hO3
  refine ⟨⟨⟨wss, ⟨hl1.row.to ((hlow _ _ (fun e => f15 (by omega)) hl1.row (.inr (by omega))).trans hl1.row.symm), fun v hv => (hl1.sets v hv).to ((hlow _ _ (fun e => f15 (by omega)) (hl1.sets v hv) (.inr (by omega))).trans (hl1.sets v hv).symm)⟩, hl2⟩,
    fun j hj => hcell _ _ _ f1 (fun e => f12 e.symm) (h.tz j hj), hcell _ _ _ f5 (fun e => f14 e.symm) h.bc, hcell _ _ _ f4 (fun e => f13 e.symm) h.sc, ⟨ws, hs1.to ((hlow _ _ f9 hs1 (.inr f3)).trans hs1.symm), hs2⟩, ⟨V3, World.cell?_setCell_same w3 _ _ hpc3, ?_⟩, by rw [World.frozen?_setCell]; exact hpf3, fun e he => ?_, by rw [World.size_setCell]; have := h.bz; omega, h.fit⟩,
    fun k ob hk hp ho => hlow k ob hp ho (.inr hk), fun k ob hc ho => hlow k ob (fun e => ?_) ho (.inl fun cs f e => by rw [e] at hc; cases hc), hz3, ⟨hg.os, hg.tape, hg.output⟩⟩
  · have hk5 : Kp (fun k => k = pp) w3 (w3.setCell ⟨pp, 0, none⟩ V3) := Kp.set (S := fun k => k = pp) w3 (a := ⟨pp, 0, none⟩) rfl _
    have h5 := hk5.own hO3 (fun k e => by omega)
    rw [show (es ++ [(g, l, c)]).length = es.length + 1 by simp, List.map_append]
    exact h5
  · have hkeep : ∀ g', N ≤ g' → (∃ cs f, W.heap[g']? = some (.cells cs 3 f)) → (w3.setCell ⟨pp, 0, none⟩ V3).heap[g']? = W.heap[g']? := fun g' hN' ⟨cs, f, hh⟩ => (hlow g' _ (fun e => by omega) hh (.inl fun cs' f' e => by injection e with _ e2 _; exact absurd e2 (by decide))).trans hh.symm
    rcases List.mem_append.1 he with he | he
    · obtain ⟨g1, g2, g3⟩ := h.en e he
      have hkk := hkeep e.1 g1 g2
      obtain ⟨cs, f, g2⟩ := g2
      exact ⟨g1, ⟨cs, f, hkk.trans g2⟩, fun j x hx => (World.cell?_of_block hkk).trans (g3 j x hx)⟩
    · rw [List.mem_singleton] at he
      subst he
      have hkk := hkeep g hN hgc
      obtain ⟨cs, f, g2⟩ := hgc
      exact ⟨hN, ⟨cs, f, hkk.trans g2⟩, fun j x hx => (World.cell?_of_block hkk).trans (hgl j x hx)⟩
  · subst e
    obtain ⟨o2, ho2, hc2⟩ := cells_of_cell hV
    simp only at ho2
    rw [ho] at ho2
    injection ho2 with ho2
    rw [ho2, hc2] at hc
    cases hc
end gr
end Go.Proofs.YtahffafobdiogaaDoor
