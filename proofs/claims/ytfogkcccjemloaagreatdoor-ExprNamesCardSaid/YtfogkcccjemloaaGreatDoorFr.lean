/- variables of the program. -/
import Derived.Test.YtfogkcccjemloaaGreatDoorFq
import Derived.StringKeys
namespace Go.Proofs.YtfogkcccjemloaaGreatDoor
set_option linter.unusedVariables false
set_option linter.unusedSimpArgs false
open Go.RowKit Go.Shelf Go.Maps
attribute [local go_sem] Oper.semAt_some
/-- the names that have come -/
def fN (pre : List Xt) : List ByteArray := pre.foldl stepN []
def VI (b : Nat) (pre : List Xt) (W : World) : Prop := Boxed W (b + 2) 71 (.map (some (b + 1))) ∧ ∃ n D, n ≤ pre.length ∧ IsMap D ∧ (∀ t : ByteArray, D.atKey (.string t.data.toList) (.lit (.bool false)) = .lit (.bool (hasN (fN pre) t))) ∧ W.ownsMap Tryz.prog 9 (plainElem (H := Unit) Tryz.prog 4) (b + 1) n D
theorem VI_own {b B : Nat} (hB : b + 3 ≤ B) {α : Type} (g : α → Xt) : OwnFrom B (fun (pre : List α) W => VI b (pre.map g) W) := by
  rintro s X Y row ⟨h1, n, D, h2, h3, h4, h5⟩ hg hr
  exact ⟨h1.kept hg (fun e => by have := (hr _ e.symm).1; omega), n, D, h2, h3, h4, h5.kept hg (fun e => by have := (hr _ e.symm).1; omega)⟩
theorem fN_snoc (pre : List Xt) (y : Xt) : fN (pre ++ [y]) = stepN (fN pre) y := by rw [fN, List.foldl_append]; rfl
theorem VI.below {b : Nat} {pre : List Xt} {W W' : World} (h : VI b pre W) (hb : Below W.heap.size W W') : VI b pre W' := by
  obtain ⟨h1, n, D, h2, h3, h4, h5⟩ := h
  exact ⟨h1.kept (below_grown hb) (by simp), n, D, h2, h3, h4, h5.kept (below_grown hb) (by simp)⟩
theorem VI.same {b : Nat} {pre : List Xt} {y : Xt} {W : World} (h : VI b pre W) (e : stepN (fN pre) y = fN pre) : VI b (pre ++ [y]) W := by
  obtain ⟨h1, n, D, h2, h3, h4, h5⟩ := h
  exact ⟨h1, n, D, by rw [List.length_append]; omega, h3, fun t => by rw [fN_snoc, e]; exact h4 t, h5⟩
theorem own_not_map {W : World} {b n size m ck : Nat} {e : TypeId} {v : Value} {xs : List Value} {es : Array MapEntry} (h : W.ownsRow b e size v n xs) (hh : W.heap[m]? = some (.map es ck)) : v.ownBlock ≠ some m := by
  rcases h.2 with ⟨rfl, _⟩ | ⟨g, cap, cur, rfl, _, hgb, _⟩
  · simp [Value.ownBlock]
  · intro e
    obtain rfl : g = m := by simpa [Value.ownBlock] using e
    rw [hh] at hgb
    cases hgb
theorem fN_length (pre : List Xt) : (fN pre).length ≤ pre.length := by
  have : ∀ (l : List Xt) (a : List ByteArray), (l.foldl stepN a).length ≤ a.length + l.length := by
    intro l
    induction l with
    | nil => intro a; simp
    | cons z l ih => intro a; have h1 := ih (stepN a z); have h2 := step_length a z; simp only [List.foldl_cons, List.length_cons]; omega
  have h := this pre []
  rw [List.length_nil, Nat.zero_add] at h
  exact h
theorem KY.appended {n₀ b k B : Nat} {W w1 : World} {v v' : Value} {xs : List Value} {tmp : Obj} (hv : Boxed W B 32 v) (hrow : W.ownsRow b 9 1 v k xs) (hb : n₀ ≤ b) (hB : n₀ ≤ B) (hg : (W.alloc tmp).grownBy w1 v.ownBlock) : KY n₀ W (w1.setCell ⟨B, 0, none⟩ v') := by
  have hz := hg.size
  rw [World.size_alloc] at hz
  refine ⟨by simp [World.setCell]; omega, fun j o ho hc hd => ?_⟩
  have hlt : j < W.heap.size := (Array.getElem?_eq_some_iff.1 ho).1
  have hjB : j ≠ B := by
    rintro rfl
    rcases hd with hd | ⟨cs, fz, rfl⟩
    · omega
    · have := ho.symm.trans hv
      simp at this
  have hjv : some j ≠ v.ownBlock := by
    rcases hrow.2 with ⟨rfl, _⟩ | ⟨g, cap, cur, rfl, hbg, hgb, _⟩
    · simp [Value.ownBlock]
    · intro e
      obtain rfl : j = g := by simpa [Value.ownBlock] using e
      rcases hd with hd | ⟨cs, fz, rfl⟩
      · omega
      · have := ho.symm.trans hgb
        simp at this
  rw [heap_setCell_other w1 _ j v' hjB]
  exact (hg.block j (by rw [World.size_alloc]; omega) hjv).trans ((Below.heap_alloc _ _ _ hlt).trans ho)
theorem KY.map {n₀ m : Nat} {W w1 : World} (hg : W.grownBy w1 (some m)) (hm : ∀ o, W.heap[m]? = some o → o.isCells = false) : KY n₀ W w1 := by
  refine ⟨hg.size, fun j o ho hc _ => ?_⟩
  exact (hg.block j (Array.getElem?_eq_some_iff.1 ho).1 (fun e => by obtain rfl := Option.some.inj e; rw [hm o ho] at hc; cases hc)).trans ho
set_option maxHeartbeats 2000000 in
set_option maxRecDepth 100000 in
theorem variables_any (xl : List Xt) (N n₀ be bp : Nat) (w : World) (hn₀ : n₀ ≤ w.heap.size) (hN : N ≤ 100000) (hnm : ∀ y ∈ xl, y.nm.size ≤ maxLen)
    (hst : SeqStopsK Fence.wide 2 Tryz.prog 62 #[.pointer (some ⟨be, 0, none⟩), .pointer (some ⟨bp, 0, none⟩)] (fun y : {y : Xt // y ∈ xl} => #[xV y.1]) (KY n₀) (fun ys => ys.map (·.1) = xl) (fun pre => pre.map (·.1) <+: xl) N w) :
    Calls Tryz.prog 45 #[.func (.func 62) #[] #[.pointer (some ⟨be, 0, none⟩), .pointer (some ⟨bp, 0, none⟩)]] w (NewN (xl.foldl stepN []) w) := by
  have hmm := @run_makeMap Tryz.prog
  obtain ⟨i0, hi, iz, is, ib⟩ := info_parts stInfo
  refine (callsIn_wide (n := 3)).1 ?_
  refine callsIn_of_wp_marks Tryz.func45 rfl trivial ?_ rfl
  simp only [Tryz.ntmps45, List.size_toArray, List.length_cons, List.length_nil, Nat.reduceAdd, Nat.reduceSub, Array.replicate_succ, Array.replicate_zero, List.push_toArray, List.append_toArray, List.nil_append, List.cons_append]
  gi_wp2
  obtain ⟨Wb, hWb⟩ : ∃ Wb, ((w.alloc (.cells #[.slice none 0 0] 32)).alloc (.map #[] 0)).alloc (.cells #[.map (some (w.heap.size + 1))] 71) = Wb := ⟨_, rfl⟩
  have hzb : Wb.heap.size = w.heap.size + 3 := by rw [← hWb]; simp only [World.size_alloc]
  have hBb : Below w.heap.size w Wb := by rw [← hWb]; exact (((Below.refl _ w).alloc (Nat.le_refl _) _).alloc (by simp) _).alloc (by simp; omega) _
  have hb0 : Boxed Wb w.heap.size 32 (.slice none 0 0) := by rw [← hWb]; exact ((Boxed.new w _ _).alloc _).alloc _
  have hv0 : VI w.heap.size [] Wb := by
    rw [← hWb]
    refine ⟨?_, 0, .map [], Nat.le_refl _, ⟨[], rfl⟩, fun t => rfl, ?_⟩
    · have := Boxed.new ((w.alloc (.cells #[.slice none 0 0] 32)).alloc (.map #[] 0)) 71 (.map (some (w.heap.size + 1)))
      simpa only [World.size_alloc] using this
    · have := World.ownsMap_made (w.alloc (.cells #[.slice none 0 0] 32)) Tryz.prog 9 (plainElem (H := Unit) Tryz.prog 4)
      rw [World.size_alloc] at this
      exact this.alloc _
  rw [hWb]
  clear hWb
  have HNM := Lib.hid hnm
  clear hnm
  refine wpIn_rangeFunc_ownH rfl (by decide) (gf := 62) (lb := #[.pointer (some ⟨be, 0, none⟩), .pointer (some ⟨bp, 0, none⟩)]) rfl trivial (enters_of Tryz.func62 (by kernel_rfl) rfl)
    hst KY_t KY_b (hBb) (fun _ => rfl)
    (fun pre W => (VI w.heap.size (pre.map (·.1)) W ∧ ∃ v, Boxed W w.heap.size 32 v ∧ W.ownsRow w.heap.size 9 1 v (fN (pre.map (·.1))).length (nmC (fN (pre.map (·.1)))) ∧ True) ∧ Below w.heap.size w W)
    (fun _ _ _ => False)
    (OwnFrom.and (OwnFrom.and (VI_own (by omega) _) (Own.from (holdsRow_own w.heap.size w.heap.size 32 9 1 (fun pre : List {y : Xt // y ∈ xl} => (fN (pre.map (·.1))).length) (fun pre => nmC (fN (pre.map (·.1)))) (fun _ _ => True)) _)) (ownFrom_below (Nat.le_refl _) (by omega)))
    (fun _ _ _ _ _ hs _ _ => hs)
    ⟨⟨hv0, _, hb0, World.ownsRow_nil _ _ _ _, trivial⟩, hBb⟩
    (fun y a' W => ∃ Bx, (w.heap.size + 3 ≤ Bx ∧ W.cell? ⟨Bx, 0, none⟩ = some (.int .i64 y.1.k) ∧ W.cell? ⟨Bx, 4, none⟩ = some (.string y.1.nm)) ∧ a' = { tmps := #[.func (.func 62) #[] #[.pointer (some ⟨be, 0, none⟩), .pointer (some ⟨bp, 0, none⟩)], undef, .slice none 0 0, .pointer (some ⟨w.heap.size, 0, none⟩), .pointer (some ⟨w.heap.size + 1 + 1, 0, none⟩), .pointer (some ⟨Bx, 0, none⟩), .map (some (w.heap.size + 1)), .func (.func 62) #[] #[.pointer (some ⟨be, 0, none⟩), .pointer (some ⟨bp, 0, none⟩)], xV y.1, undef, undef, undef, undef, undef, undef, undef, undef, undef, undef, undef, undef, undef, undef, undef, undef, undef, undef, undef], defers := [] })
    (fun y a' s A B row hs hg hr => by
      obtain ⟨Bx, ⟨h1, h2, h3⟩, h4⟩ := hs
      exact ⟨Bx, ⟨h1, cell_kept h2 hg (fun r e => (hr r e).2), cell_kept h3 hg (fun r e => (hr r e).2)⟩, h4⟩) ?assign ?body ?done ?stop
  case assign =>
    rintro l pre y W K ⟨⟨i1, v, i2, i3, _⟩, hB⟩ hK
    rw [fold1]
    simp only [xV] at hK ⊢
    gi_wp2
    obtain ⟨d0, d1, d2, d3, d4, d5⟩ := bx_box W y.1
    have hlt := i1.1.lt
    obtain ⟨k1, n, D, k2, k3, k4, k5⟩ := i1
    exact hK _ _ ((KeepsOthers.alloc _ _).from _) (KY.of_below (bel_box _)) ⟨⟨⟨k1.alloc _, n, D, k2, k3, k4, k5.alloc _⟩, v, i2.alloc _, i3.alloc _, trivial⟩, bel_alloc hB _⟩ ⟨W.heap.size, ⟨by omega, d0, d4⟩, rfl⟩
  case body =>
    rintro l pre y a' W hl ⟨r, hr⟩ ⟨⟨i1, v, i2, i3, _⟩, hB⟩ ⟨Bx, ⟨hBx, d0, d4⟩, rfl⟩ hlt
    have hbk := World.block_lt_of_cell? W _ d0
    have KV := Lib.hid (hasvar_any y.1.k W)
    have hst : stepN (fN (pre.map (·.1))) y.1 = if (hasVar y.1.k && !hasN (fN (pre.map (·.1))) y.1.nm) = true then fN (pre.map (·.1)) ++ [y.1.nm] else fN (pre.map (·.1)) := rfl
    have hmp : (pre ++ [y]).map (·.1) = pre.map (·.1) ++ [y.1] := by rw [List.map_append]; rfl
    cases q1 : hasVar y.1.k
    · rw [q1] at KV hst
      have hs : stepN (fN (pre.map (·.1))) y.1 = fN (pre.map (·.1)) := hst
      gi_wp2_with (refine ⟨trivial, ?_⟩; gi_at_call 51; refine (CallsIn.inRound l (callsIn_wide.2 KV.out)).mono ?_; rintro e W5 ⟨rfl, hb5⟩)
      refine ⟨(KeepsOthers.of_grownBy (below_grown hb5) (fun j o e => by cases e)).from _, KY.of_below hb5, ⟨?_, v, i2.kept (below_grown hb5) (by simp), ?_, trivial⟩, hB.trans (hb5.mono hB.size)⟩
      · rw [hmp]; exact (i1.below hb5).same hs
      · rw [hmp, fN_snoc, hs]; exact own_keep6 i3 hb5
    · rw [q1] at KV hst
      obtain ⟨k1, n, D, k2, k3, k4, k5⟩ := i1
      have hsz := HNM.out y.1 y.2
      have hk := WideMaps.keyOf_string_mk (P := Tryz.prog) (k := 9) Tryz.underlying9 hsz
      have k4y := k4 y.1.nm
      cases q2 : hasN (fN (pre.map (·.1))) y.1.nm
      · rw [q2] at hst k4y
        have hs : stepN (fN (pre.map (·.1))) y.1 = fN (pre.map (·.1)) ++ [y.1.nm] := hst
        have hn : n < maxLen := by unfold maxLen; simp at k2; omega
        have hfl := fN_length (pre.map (·.1))
        rw [List.length_map] at hfl
        have hBs := hB.size
        gi_wp2_with (first
          | (refine ⟨trivial, ?_⟩; gi_at_call 51; refine (CallsIn.inRound l (callsIn_wide.2 KV.out)).mono ?_; rintro e W5 ⟨rfl, hb5⟩; have k1' := k1.kept (below_grown hb5) (by simp); have k5' := k5.kept (below_grown hb5) (by simp); obtain ⟨c, hrun, hat⟩ := lookup_bool k5' (string_keyed Tryz.underlying9) Tryz.underlying71 Tryz.underlying4 (Tryz.zeroValue4 _) hk; obtain rfl : c = false := (by have := hat.symm.trans k4y; simpa using this); have cs : W5.cell? ⟨w.heap.size + 1 + 1, 0, none⟩ = some (.map (some (w.heap.size + 1))) := k1'.cell; have d4' := (hb5.cell (p := ⟨Bx, 4, none⟩) hbk).trans d4; have hz5 := hb5.size)
          | (gi_at_mapUpdate; refine wpListIn_mapUpdate_own _ rfl _ _ _ 71 rfl 9 4 (string_keyed Tryz.underlying9) Tryz.underlying71 _ (w.heap.size + 1) n _ rfl k5' hn _ _ _ rfl rfl hk _ [] (plainElem_bool Tryz.underlying4 true) ?_; intro w6 k6 hgrow6; have hcm := k5'; obtain ⟨es, ck, hh, _⟩ := hcm; have d5' := cell_kept d4' hgrow6 (fun r e => by cases e; exact ⟨_, hh, rfl⟩); have hv6 := (i2.kept (below_grown hb5) (by simp)).kept hgrow6 (by simp); have hr6 := (own_keep6 i3 hb5).kept hgrow6 (.inr (own_not_map (own_keep6 i3 hb5) hh)); have c6 := hv6.cell; have hz6 := hgrow6.size)
          | (gi_at_builtin; refine wpListIn_append_own _ rfl _ _ 32 rfl w.heap.size 9 i0 (.string ⟨#[]⟩) 1 16 Tryz.underlying32 hi iz is ib rfl (by decide) _ _ _ rfl (hr6.alloc _) ⟨w6.heap.size, 0, none⟩ 1 1 [.string y.1.nm] rfl rfl (cell_one_new _ _ _) (by simp [Value.oneCell']) (by unfold maxLen; omega) (by omega) (by simp; omega) ?_; intro v' w7 hown7 hgrow7 _; obtain ⟨g', cap', rfl⟩ := ownsRow_succ hown7; obtain ⟨hv1, hv2, hr2, hk2, hb2⟩ := hv6.appended (by decide) hr6 (by omega) (Nat.le_refl _) hown7 hgrow7; have hy2 := KY.appended (n₀ := n₀) (v' := .slice (some ⟨g', 0, none⟩) ((fN (pre.map (·.1))).length + 1) cap') hv6 hr6 hn₀ hn₀ hgrow7; have hc1 := hv1.cell; have hf1 := hv1.frozen))
        have hg7 : (w6.alloc (.cells #[.string y.1.nm] 9)).grownBy w7 v.ownBlock := hgrow7
        have k16 := k1'.kept hgrow6 (by simp)
        have k66 := k6
        obtain ⟨es6, ck6, hh6, _⟩ := k66
        refine ⟨(((KeepsOthers.of_grownBy (below_grown hb5) (fun j o e => by cases e)).from _).trans (KeepsFrom.of_grownBy hgrow6 (fun j e => by cases e; omega))).trans (hk2.from _), ((KY.of_below hb5).trans (KY.map hgrow6 (fun o ho => by rw [hh] at ho; cases ho; rfl))).trans hy2, ⟨?_, _, hv2, ?_, trivial⟩, ((hB.trans (hb5.mono hB.size)).grown hgrow6 (by omega) (fun k e => by cases e; omega)).trans hb2⟩
        · rw [hmp]
          refine ⟨((k16.alloc _).kept hg7 (k16.not_row (by decide) hr6)).kept (grownBy_setCell' w7 _ _) (by simp), n + 1, _, by rw [List.length_append, List.length_singleton]; omega, k3.put _ _, fun t => ?_, ((k6.alloc _).kept hg7 (own_not_map hr6 hh6).symm).kept (grownBy_setCell' w7 _ _) (by simp)⟩
          rw [fN_snoc, hs, has_snoc]
          exact seen_put k3 _ t _ (k4 t)
        · rw [hmp, fN_snoc, hs, nmC_snoc, List.length_append]
          exact hr2
      · rw [q2] at hst k4y
        have hs : stepN (fN (pre.map (·.1))) y.1 = fN (pre.map (·.1)) := hst
        gi_wp2_with (refine ⟨trivial, ?_⟩; gi_at_call 51; refine (CallsIn.inRound l (callsIn_wide.2 KV.out)).mono ?_; rintro e W5 ⟨rfl, hb5⟩; have k1' := k1.kept (below_grown hb5) (by simp); have k5' := k5.kept (below_grown hb5) (by simp); obtain ⟨c, hrun, hat⟩ := lookup_bool k5' (string_keyed Tryz.underlying9) Tryz.underlying71 Tryz.underlying4 (Tryz.zeroValue4 _) hk; obtain rfl : c = true := (by have := hat.symm.trans k4y; simpa using this); have cs : W5.cell? ⟨w.heap.size + 1 + 1, 0, none⟩ = some (.map (some (w.heap.size + 1))) := k1'.cell; have d4' := (hb5.cell (p := ⟨Bx, 4, none⟩) hbk).trans d4)
        refine ⟨(KeepsOthers.of_grownBy (below_grown hb5) (fun j o e => by cases e)).from _, KY.of_below hb5, ⟨?_, v, i2.kept (below_grown hb5) (by simp), ?_, trivial⟩, hB.trans (hb5.mono hB.size)⟩
        · rw [hmp]; exact VI.same ⟨k1', n, D, k2, k3, k4, k5'⟩ hs
        · rw [hmp, fN_snoc, hs]; exact own_keep6 i3 hb5
  case done =>
    rintro D ys W hD hys ⟨⟨i1, v, i2, i3, _⟩, hB⟩ hK
    have hf : fN (ys.map (·.1)) = xl.foldl stepN [] := congrArg fN hys
    rw [hf] at i3
    obtain ⟨V, c, rfl⟩ := own_form6 i3
    have c0 := i2.cell
    gi_wp2
    refine ⟨by simp, .inl ⟨_, _, rfl, run_takeDeferred hK, ?_⟩⟩
    refine ⟨_, results_tmp rfl _ _ _, V, c, rfl, RdN.of_own (ownsRow_putObj i3 _ hK rfl), hB.trans (belowK_b (w := w) (Nat.le_refl _) W D _ _ (by omega) hK rfl rfl)⟩
  case stop =>
    rintro D c pre W _ _ h _
    exact h.elim
end Go.Proofs.YtfogkcccjemloaaGreatDoor
