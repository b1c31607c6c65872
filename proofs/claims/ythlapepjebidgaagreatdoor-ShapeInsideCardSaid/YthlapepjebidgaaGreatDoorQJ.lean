/- Texts of one chain, in one file. -/
import Derived.Test.YthlapepjebidgaaGreatDoorQE
import Derived.Test.YthlapepjebidgaaGreatDoorQC
import Derived.Test.YthlapepjebidgaaGreatDoorRows
import Derived.Stop.LaidErr
import Derived.Lib.LaidTab
import Derived.LaidMore
import Derived.Lay
import Derived.LaidOnce
import Derived.ChangeSlices
import Derived.ChangeSame
import Derived.ChangeMaps
import Derived.Stop.Joined
import Derived.Test.YthlapepjebidgaaGreatDoorQF
/- The frame of the rows of layer 6: what the listed variables give; an argument that is an expression. -/
namespace Go.Proofs.YthlapepjebidgaaGreatDoor
set_option linter.unusedVariables false
set_option linter.unusedSimpArgs false
open Go.ChangeShapes Go.WideShapes Go.ChangeAt Go.RowKit Go.Deep Go.WideElems
def laidL : List (String × DataW Unit) := [("math/bits.deBruijn32tab", Rows.laid_math_bits_deBruijn32tab), ("math/bits.deBruijn64tab", Rows.laid_math_bits_deBruijn64tab), ("internal/strconv.uint64pow10", Rows.laid_internal_strconv_uint64pow10), ("unicode/utf8.acceptRanges", Rows.laid_unicode_utf8_acceptRanges), ("strconv.ErrRange", Rows.laid_strconv_ErrRange), ("strconv.ErrSyntax", Rows.laid_strconv_ErrSyntax), ("unicode/utf8.first", Rows.laid_unicode_utf8_first)]
theorem tyTab : (Tryz.prog.globals[5]?).map (·.type) = some 236 := by kernel_rfl
theorem tySyn : (Tryz.prog.globals[1]?).map (·.type) = some 178 := by kernel_rfl
theorem tyRng : (Tryz.prog.globals[2]?).map (·.type) = some 178 := by kernel_rfl
theorem star : "*" ++ "errors.errorString" = "*errors.errorString" := by decide
theorem rowES (u : TypeId) (h : Tryz.prog.typeName? 3 u = some "*errors.errorString") : u = 221 :=
  typeName_ptr_named (nm := "errors.errorString") (by rw [star]; kernel_rfl) (by kernel_rfl) (by decide) u (by rw [star]; exact h)
theorem std_of_laid {W : World} (h : laidMetH Tryz.prog laidL W) : Std W := by
  rw [MakeChecks.laidMetH_plain _ _ _ (by kernel_rfl)] at h
  have h3 : laidMet Tryz.prog (("internal/strconv.uint64pow10", Lib.tabData .u64 Lib.pow10Tab) :: [("unicode/utf8.acceptRanges", Rows.laid_unicode_utf8_acceptRanges), ("strconv.ErrRange", Rows.laid_strconv_ErrRange), ("strconv.ErrSyntax", Rows.laid_strconv_ErrSyntax), ("unicode/utf8.first", Rows.laid_unicode_utf8_first)]) W := h.tail.tail
  have h4 := h3.tail.tail
  have h5 := h4.tail
  refine ⟨Lib.tabIs_of_head gTab tyTab Tryz.underlying236 Tryz.underlying207 (by kernel_rfl) (by kernel_rfl) h3, ?_, ?_⟩
  · obtain ⟨a, s, hv, _⟩ := laid_sentinel h5 gSyn tySyn Tryz.underlying178 rowES Tryz.underlying221 Tryz.underlying223 rfl rfl Tryz.underlying9 (by kernel_rfl) (by kernel_rfl)
    exact ⟨_, _, hv⟩
  · obtain ⟨a, s, hv, _⟩ := laid_sentinel h4 gRng tyRng Tryz.underlying178 rowES Tryz.underlying221 Tryz.underlying223 rfl rfl Tryz.underlying9 (by kernel_rfl) (by kernel_rfl)
    exact ⟨_, _, hv⟩
theorem int_le {n : Int} (h : (Lit.int .i64 n).wf = true) : n ≤ 9223372036854775807 := by
  have h2 : n ≤ IntKind.i64.max := by simp only [Lit.wf, Bool.and_eq_true, decide_eq_true_eq] at h; exact h.2
  exact h2
theorem int_ge {n : Int} (h : (Lit.int .i64 n).wf = true) : -9223372036854775808 ≤ n := by
  have h2 : IntKind.i64.min ≤ n := by simp only [Lit.wf, Bool.and_eq_true, decide_eq_true_eq] at h; exact h.1
  exact h2
theorem u8_le {n : Int} (h : (Lit.int .u8 n).wf = true) : n ≤ 255 := by
  have h2 : n ≤ IntKind.u8.max := by simp only [Lit.wf, Bool.and_eq_true, decide_eq_true_eq] at h; exact h.2
  exact h2
theorem u8_ge {n : Int} (h : (Lit.int .u8 n).wf = true) : 0 ≤ n := by
  have h2 : IntKind.u8.min ≤ n := by simp only [Lit.wf, Bool.and_eq_true, decide_eq_true_eq] at h; exact h.1
  exact h2
section
variable {H : Type} {enc : TypeId × Value → H} {w : World} {held : Bool}
theorem array6 {cs : Array Value} (h : cs.size = 6) : ∃ a b c d e f, cs = #[a, b, c, d, e, f] := by
  rcases cs with ⟨l⟩
  match l, h with
  | [a, b, c, d, e, f], _ => exact ⟨a, b, c, d, e, f, rfl⟩
set_option maxRecDepth 100000 in
/-- an expression, opened -/
theorem open_expr {b0 : Nat} {r : Reach} {v : Value} {d : DataW H} {p : List MemPlace} (hv : Value.okWide Tryz.prog w r b0 24 v) (h : DataW.Trod enc Tryz.prog w 0 (fun _ => true) held 24 v d p) (hsz : ∀ n ∈ d.weights Tryz.prog 24, n ≤ reachBytes) :
    ∃ x : Xt, v = xV x ∧ RdX w w.heap.size x ∧ NmB x := by
  obtain ⟨cs, rfl, hs⟩ := okWide_struct Tryz.underlying24 hv
  obtain ⟨fuel, hf⟩ := h
  obtain ⟨x, hx, hR, hN⟩ := rd_expr Tryz.underlying24 (by kernel_rfl) rfl rfl rfl rfl rfl rfl (by kernel_rfl) (by kernel_rfl) (by kernel_rfl) (by kernel_rfl) (by kernel_rfl) (by kernel_rfl) Tryz.underlying3 Tryz.underlying3 Tryz.underlying3 Tryz.underlying3 Tryz.underlying9 Tryz.underlying22 fuel _ _ hf hsz
  refine ⟨x, ?_, hR, hN⟩
  have : cs.toList = _ := hx
  unfold xV
  congr 1
  exact Array.toList_inj.1 this
end
end Go.Proofs.YthlapepjebidgaaGreatDoor
/- An expression and enumerations that come in, opened, with what the bound on their bulk gives. -/
namespace Go.Proofs.YthlapepjebidgaaGreatDoor
set_option linter.unusedVariables false
set_option linter.unusedSimpArgs false
open Go.ChangeShapes Go.WideShapes Go.ChangeAt Go.RowKit Go.Deep Go.WideElems
/-- names no longer than what a machine holds; types that are numbers of Go's -/
def NmT (x : Xt) : Prop := ∀ y ∈ x.list, y.nm.size ≤ 140737488351232 ∧ y.t ≤ 9223372036854775807
theorem sum_bulk {α H : Type} {l : List α} {f : α → Nat} {es : List (DataW H)} (hl : l.length = es.length) (h : ∀ (i : Nat) (y : α) (z : DataW H), l[i]? = some y → es[i]? = some z → f y ≤ Rows.uptoBulk z) : (l.map f).sum ≤ Rows.uptoBulkAll es := by
  induction l generalizing es with
  | nil => cases es with
    | nil => simp [Rows.uptoBulkAll]
    | cons e es => simp at hl
  | cons a l ih => cases es with
    | nil => simp at hl
    | cons e es =>
      have h1 := h 0 a e rfl rfl
      have h2 := ih (es := es) (by simpa using hl) fun i y z hy hz => h (i + 1) y z (by simpa using hy) (by simpa using hz)
      simp only [List.map_cons, List.sum_cons, Rows.uptoBulkAll]
      omega
section
variable {H : Type} {enc : TypeId × Value → H} {P : Program} {w : World} {held : Bool}
theorem rd_exprU {T : TypeId} {f0 f1 f2 f3 f4 f5 : Field} (hT : P.underlying T = some (.struct #[f0, f1, f2, f3, f4, f5])) (ce : P.cellsOf T = 6)
    (o0 : f0.offset = 0) (o1 : f1.offset = 1) (o2 : f2.offset = 2) (o3 : f3.offset = 3) (o4 : f4.offset = 4) (o5 : f5.offset = 5)
    (c0 : P.cellsOf f0.type = 1) (c1 : P.cellsOf f1.type = 1) (c2 : P.cellsOf f2.type = 1) (c3 : P.cellsOf f3.type = 1) (c4 : P.cellsOf f4.type = 1) (c5 : P.cellsOf f5.type = 1)
    (i0 : P.underlying f0.type = some (.int .i64)) (i1 : P.underlying f1.type = some (.int .i64)) (i2 : P.underlying f2.type = some (.int .i64)) (i3 : P.underlying f3.type = some (.int .i64)) (i4 : P.underlying f4.type = some .string) (i5 : P.underlying f5.type = some (.slice T)) :
    ∀ (fuel : Nat) (cs : List Value) (x : DataW H × List MemPlace), DataW.trod enc P w 0 (fun _ => true) held fuel T cs = some x → (∀ n ∈ x.1.weights P T, n ≤ reachBytes) →
      ∃ e : Xt, cs = [.int .i64 e.k, .int .i64 e.op, .int .i64 e.t, .int .i64 e.v, .string e.nm, .slice e.A e.ar.length e.c] ∧ RdX w w.heap.size e ∧ NmT e ∧ e.size ≤ Rows.uptoBulk x.1 := by
  intro fuel
  induction fuel using Nat.strongRecOn with
  | ind fuel ih =>
    intro cs x h hw
    obtain ⟨xs, k, hk, hxy, hlen, hxl, hf⟩ := DataW.trod_struct hT h
    rw [ce] at hlen
    match xs, hxl, cs, hlen with
    | [y0, y1, y2, y3, y4, y5], _, [v0, v1, v2, v3, v4, v5], _ =>
      have g0 := hf 0 f0 rfl
      have g1 := hf 1 f1 rfl
      have g2 := hf 2 f2 rfl
      have g3 := hf 3 f3 rfl
      have g4 := hf 4 f4 rfl
      have g5 := hf 5 f5 rfl
      simp [o0, o1, o2, o3, o4, o5, c0, c1, c2, c3, c4, c5] at g0 g1 g2 g3 g4 g5
      obtain ⟨n0, z0, _⟩ := DataW.trod_int i0 g0
      obtain ⟨n1, z1, _⟩ := DataW.trod_int i1 g1
      obtain ⟨n2, z2, _, wf2⟩ := DataW.trod_int i2 g2
      have hn2 : n2 ≤ 9223372036854775807 := int_le wf2
      obtain ⟨n3, z3, _⟩ := DataW.trod_int i3 g3
      obtain ⟨s, z4, zy4, hs⟩ := DataW.trod_string i4 g4
      simp only [List.cons.injEq, and_true] at z0 z1 z2 z3 z4
      subst z0; subst z1; subst z2; subst z3; subst z4
      subst hxy
      have hwe : DataW.weights P T (.agg [y0.1, y1.1, y2.1, y3.1, y4.1, y5.1]) = y0.1.weights P f0.type ++ (y1.1.weights P f1.type ++ (y2.1.weights P f2.type ++ (y3.1.weights P f3.type ++ (y4.1.weights P f4.type ++ (y5.1.weights P f5.type ++ []))))) := by
        simp [DataW.weights, DataW.weightsEach, hT]
      have hw4 : ∀ n ∈ y4.1.weights P f4.type, n ≤ reachBytes := fun n hn => hw n (by simp only [List.map_cons, List.map_nil]; rw [hwe]; simp [hn])
      have hw5 : ∀ n ∈ y5.1.weights P f5.type, n ≤ reachBytes := fun n hn => hw n (by simp only [List.map_cons, List.map_nil]; rw [hwe]; simp [hn])
      have hs2 : s.size ≤ 140737488351232 := by
        have := hw4 s.data.toList.length (by rw [zy4]; simp [DataW.weights])
        rw [Array.length_toList] at this
        exact this
      rcases DataW.trod_slice i5 g5 with ⟨hv, _⟩ | ⟨a, len, cap, elems, rest, n, hkn, hv, hx0, _, hl, hm, hel, hx, _, _⟩
      · simp only [List.cons.injEq, and_true] at hv
        subst hv
        refine ⟨.mk n0 n1 n2 n3 s none 0 [], rfl, .mk _ (fun h => absurd rfl h) (fun ad i y h => by cases h) (fun y h => by cases h) ⟨⟨by simp [Xt.ar], hs⟩, Nat.le_refl _⟩, fun y hy => ?_, ?_⟩
        · rw [Xt.list_eq] at hy
          obtain rfl := List.mem_singleton.1 (show y ∈ [Xt.mk n0 n1 n2 n3 s none 0 []] from hy)
          exact ⟨hs2, hn2⟩
        · rw [Xt.size_eq]
          simp only [List.map_cons, List.map_nil, Rows.uptoBulk, Rows.uptoBulkAll]
          show 1 + 0 ≤ _
          omega
      · simp only [List.cons.injEq, and_true] at hv
        subst hv
        have key : ∀ i, i < len → ∃ e : Xt, XC w (a.add (i * 6)) e ∧ RdX w w.heap.size e ∧ NmT e ∧ ∀ z, (elems.map (·.1))[i]? = some z → e.size ≤ Rows.uptoBulk z := by
          intro i hi
          have h1 := hx i hi
          rw [ce, List.getElem?_eq_getElem (by omega)] at h1
          obtain ⟨cs', h2, h3⟩ := Option.bind_eq_some_iff.1 h1
          obtain ⟨_, hlen', hcell⟩ := World.cells?_some h2
          obtain ⟨e, he, hR, hN, hSz⟩ := ih n (by omega) cs' _ h3 fun m hm => hw5 m (by
            rw [hx0]
            simp only [DataW.weights, i5, List.mem_cons, List.mem_append]
            exact .inr (.inl (mem_wAll (List.mem_map_of_mem (List.getElem_mem (by omega))) m hm)))
          subst he
          refine ⟨e, ⟨?_, ?_, ?_, ?_, ?_, ?_⟩, hR, hN, fun z hz => ?_⟩
          · have := hcell 0 (by decide); rw [add_add] at this; simpa using this
          · have := hcell 1 (by decide); generalize a.add (i * 6) = b at this ⊢; simpa [Addr.add] using this
          · have := hcell 2 (by decide); generalize a.add (i * 6) = b at this ⊢; simpa [Addr.add] using this
          · have := hcell 3 (by decide); generalize a.add (i * 6) = b at this ⊢; simpa [Addr.add] using this
          · have := hcell 4 (by decide); generalize a.add (i * 6) = b at this ⊢; simpa [Addr.add] using this
          · have := hcell 5 (by decide); generalize a.add (i * 6) = b at this ⊢; simpa [Addr.add] using this
          · rw [List.getElem?_map, List.getElem?_eq_getElem (by omega)] at hz
            obtain rfl := Option.some.inj hz
            exact hSz
        obtain ⟨l, hll, hp⟩ := choose_list len key
        refine ⟨.mk n0 n1 n2 n3 s (some a) cap l, by rw [show (Xt.mk n0 n1 n2 n3 s (some a) cap l).ar.length = len from hll]; rfl, .mk _ (fun hne => ⟨a, rfl, ?_⟩) (fun ad i y hA hy => ?_) (fun y hy => ?_) ⟨⟨?_, hs⟩, ?_⟩, fun y hy => ?_, ?_⟩
        · have hne2 : l ≠ [] := hne
          have h0 : 0 < l.length := List.length_pos_iff.2 hne2
          have := World.block_lt_of_cell? w _ (hp 0 _ (List.getElem?_eq_getElem h0)).1.1
          rwa [add_block] at this
        · obtain rfl : a = ad := Option.some.inj hA
          exact (hp i y hy).1
        · obtain ⟨j, hj⟩ := List.getElem?_of_mem (show y ∈ l from hy)
          exact (hp j y hj).2.1
        · show l.length ≤ maxLen
          omega
        · show l.length ≤ cap
          omega
        · rw [Xt.list_eq] at hy
          rcases List.mem_cons.1 hy with rfl | hy
          · exact ⟨hs2, hn2⟩
          · obtain ⟨q, hq, hyq⟩ := List.mem_flatten.1 hy
            obtain ⟨z, hz, rfl⟩ := List.mem_map.1 hq
            obtain ⟨j, hj⟩ := List.getElem?_of_mem (show z ∈ l from hz)
            exact (hp j z hj).2.2.1 y hyq
        · rw [Xt.size_eq]
          have hb5 : (l.map Xt.size).sum ≤ Rows.uptoBulkAll (elems.map (·.1)) := sum_bulk (by rw [List.length_map, hll, hel]) fun i y z hy hz => (hp i y hy).2.2.2 z hz
          have hb6 : Rows.uptoBulkAll (elems.map (·.1)) ≤ Rows.uptoBulk y5.1 := by
            rw [hx0]
            simp only [Rows.uptoBulk]
            omega
          simp only [List.map_cons, List.map_nil, Rows.uptoBulk, Rows.uptoBulkAll]
          show 1 + (l.map Xt.size).sum ≤ _
          omega
end
end Go.Proofs.YthlapepjebidgaaGreatDoor
/- Rows that come in, opened; enumerations. -/
namespace Go.Proofs.YthlapepjebidgaaGreatDoor
set_option linter.unusedVariables false
set_option linter.unusedSimpArgs false
open Go.ChangeShapes Go.WideShapes Go.ChangeAt Go.RowKit Go.Deep Go.WideElems
section
variable {H : Type} {enc : TypeId × Value → H} {P : Program} {w : World} {held : Bool}
/-- a row, its elements opened by elem -/
theorem rd_rowU {α : Type} {T e : TypeId} {sz : Nat} {C : World → Addr → α → Prop} {R : α → Prop} {bk : α → Nat} (ht : P.underlying T = some (.slice e)) (ce : P.cellsOf e = sz) (hbl : ∀ a y, C w a y → a.block < w.heap.size)
    (fuel : Nat) (cs : List Value) (x : DataW H × List MemPlace) (h : DataW.trod enc P w 0 (fun _ => true) held fuel T cs = some x) (hw : ∀ n ∈ x.1.weights P T, n ≤ reachBytes)
    (elem : ∀ (n : Nat) (cs' : List Value) (x' : DataW H × List MemPlace), n < fuel → DataW.trod enc P w 0 (fun _ => true) held n e cs' = some x' → (∀ m ∈ x'.1.weights P e, m ≤ reachBytes) →
      ∃ y : α, (∀ a : Addr, (∀ j u, cs'[j]? = some u → w.cell? (a.add j) = some u) → C w a y) ∧ R y ∧ bk y ≤ Rows.uptoBulk x'.1) :
    ∃ r : Rw α, cs = [.slice r.A r.l.length r.c] ∧ RdR w w.heap.size sz C r ∧ (∀ y ∈ r.l, R y) ∧ (r.l.map bk).sum ≤ Rows.uptoBulk x.1 := by
  rcases DataW.trod_slice ht h with ⟨hv, hx⟩ | ⟨a, len, cap, elems, rest, n, hkn, hv, hx0, _, hl, hm, hel, hx, _, _⟩
  · exact ⟨⟨none, 0, []⟩, hv, RdR.nil _ _ _ _ _, (fun y h => by cases h), by simp⟩
  · have key : ∀ i, i < len → ∃ y : α, C w (a.add (i * sz)) y ∧ R y ∧ ∀ z, (elems.map (·.1))[i]? = some z → bk y ≤ Rows.uptoBulk z := by
      intro i hi
      have h1 := hx i hi
      rw [ce, List.getElem?_eq_getElem (by omega)] at h1
      obtain ⟨cs', h2, h3⟩ := Option.bind_eq_some_iff.1 h1
      obtain ⟨_, hlen', hcell⟩ := World.cells?_some h2
      obtain ⟨y, hC, hR, hB⟩ := elem n cs' _ (by omega) h3 fun m hm => hw m (by
        rw [hx0]
        simp only [DataW.weights, ht, List.mem_cons, List.mem_append]
        exact .inr (.inl (mem_wAll (List.mem_map_of_mem (List.getElem_mem (by omega))) m hm)))
      refine ⟨y, hC _ fun j u hu => ?_, hR, fun z hz => ?_⟩
      · have hj := (List.getElem?_eq_some_iff.1 hu).1
        rw [hcell j (by omega)]
        exact hu
      · rw [List.getElem?_map, List.getElem?_eq_getElem (by omega)] at hz
        obtain rfl := Option.some.inj hz
        exact hB
    obtain ⟨l, hll, hp⟩ := choose_list len key
    refine ⟨⟨some a, cap, l⟩, by rw [hll]; exact hv, ⟨fun hne => ⟨a, rfl, ?_⟩, fun ad i y hA hy => ?_, by simp only; omega, by simp only; omega⟩, fun y hy => ?_, ?_⟩
    · have h0 : 0 < l.length := List.length_pos_iff.2 hne
      have := hbl _ _ (hp 0 _ (List.getElem?_eq_getElem h0)).1
      rwa [add_block] at this
    · obtain rfl : a = ad := Option.some.inj hA
      exact (hp i y hy).1
    · obtain ⟨j, hj⟩ := List.getElem?_of_mem hy
      exact (hp j y hj).2.1
    · have hb : (l.map bk).sum ≤ Rows.uptoBulkAll (elems.map (·.1)) := sum_bulk (by rw [List.length_map, hll, hel]) fun i y z hy hz => (hp i y hy).2.2 z hz
      rw [hx0]
      simp only [Rows.uptoBulk]
      omega
theorem rd_strU {t : TypeId} (ht : P.underlying t = some .string) {fuel : Nat} {cs : List Value} {x : DataW H × List MemPlace} (h : DataW.trod enc P w 0 (fun _ => true) held fuel t cs = some x) (hw : ∀ n ∈ x.1.weights P t, n ≤ reachBytes) :
    ∃ s : ByteArray, cs = [.string s] ∧ s.size ≤ 140737488351232 := by
  obtain ⟨s, hc, hx, _⟩ := DataW.trod_string ht h
  refine ⟨s, hc, ?_⟩
  have := hw s.data.toList.length (by rw [hx]; simp [DataW.weights])
  rw [Array.length_toList] at this
  exact this
/-- a row of texts -/
theorem rd_textsU {T e : TypeId} (ht : P.underlying T = some (.slice e)) (he : P.underlying e = some .string) (ce : P.cellsOf e = 1) (fuel : Nat) (cs : List Value) (x : DataW H × List MemPlace)
    (h : DataW.trod enc P w 0 (fun _ => true) held fuel T cs = some x) (hw : ∀ n ∈ x.1.weights P T, n ≤ reachBytes) :
    ∃ r : Rw ByteArray, cs = [.slice r.A r.l.length r.c] ∧ RsB w w.heap.size r := by
  obtain ⟨r, h1, h2, h3, _⟩ := rd_rowU (C := BC) (R := fun b => b.size ≤ 140737488351232) (bk := fun _ => 0) ht ce (fun a y hy => World.block_lt_of_cell? w _ hy) fuel cs x h hw fun n cs' x' _ h' hw' => by
    obtain ⟨s, hc, hs⟩ := rd_strU he h' hw'
    refine ⟨s, fun a ha => ?_, hs, Nat.zero_le _⟩
    have := ha 0 (.string s) (by rw [hc]; rfl)
    rwa [add_zero'] at this
  exact ⟨r, h1, h2, h3⟩
theorem rd_of_rdr {B : Nat} {r : Rw ByteArray} (h : RdR w B 1 BC r) : Rd w B r.A (va.ss r.l) := by
  intro hn
  obtain ⟨ad, hA, hb⟩ := h.1 (by intro e; rw [e] at hn; exact hn rfl)
  refine ⟨ad, hA, hb, fun j u hu => ?_⟩
  rw [va.ss, List.getElem?_map] at hu
  obtain ⟨b, hb2, rfl⟩ := Option.map_eq_some_iff.1 hu
  have := h.2.1 ad j b hA hb2
  unfold BC at this
  rwa [Nat.mul_one] at this
/-- an enumeration's cells -/
def EC (w : World) (a : Addr) (e : va.En) : Prop := w.cell? a = some (.string e.name) ∧ w.cell? ⟨a.block, a.off + 1, none⟩ = some (.slice e.A e.tags.length e.c)
/-- enumerations -/
theorem rd_enumsU {T e tt : TypeId} {f0 f1 : Field} (ht : P.underlying T = some (.slice e)) (he : P.underlying e = some (.struct #[f0, f1])) (ce : P.cellsOf e = 2) (o0 : f0.offset = 0) (o1 : f1.offset = 1) (c0 : P.cellsOf f0.type = 1) (c1 : P.cellsOf f1.type = 1)
    (i0 : P.underlying f0.type = some .string) (i1 : P.underlying f1.type = some (.slice tt)) (it : P.underlying tt = some .string) (ct : P.cellsOf tt = 1) (fuel : Nat) (cs : List Value) (x : DataW H × List MemPlace)
    (h : DataW.trod enc P w 0 (fun _ => true) held fuel T cs = some x) (hw : ∀ n ∈ x.1.weights P T, n ≤ reachBytes) :
    ∃ r : Rw va.En, cs = [.slice r.A r.l.length r.c] ∧ RsE w w.heap.size r := by
  obtain ⟨r, h1, h2, h3, _⟩ := rd_rowU (C := EC) (R := fun y : va.En => (Rd w w.heap.size y.A (va.ss y.tags)) ∧ y.name.size ≤ 140737488351232 ∧ (y.tags.length ≤ maxLen ∧ y.tags.length ≤ y.c) ∧ ∀ b ∈ y.tags, b.size ≤ 140737488351232) (bk := fun _ => 0) ht ce (fun a y hy => World.block_lt_of_cell? w _ hy.1) fuel cs x h hw fun n cs' x' _ h' hw' => by
    obtain ⟨xs, k, hk, hxy, hlen, hxl, hf⟩ := DataW.trod_struct he h'
    rw [ce] at hlen
    match xs, hxl, cs', hlen with
    | [y0, y1], _, [v0, v1], _ =>
      have g0 := hf 0 f0 rfl
      have g1 := hf 1 f1 rfl
      simp [o0, o1, c0, c1] at g0 g1
      subst hxy
      have hwe : DataW.weights P e (.agg [y0.1, y1.1]) = y0.1.weights P f0.type ++ (y1.1.weights P f1.type ++ []) := by
        simp [DataW.weights, DataW.weightsEach, he]
      obtain ⟨s, z0, hs⟩ := rd_strU i0 g0 fun n hn => hw' n (by simp only [List.map_cons, List.map_nil]; rw [hwe]; simp [hn])
      obtain ⟨t, z1, hR, hB⟩ := rd_textsU i1 it ct _ _ _ g1 fun n hn => hw' n (by simp only [List.map_cons, List.map_nil]; rw [hwe]; simp [hn])
      simp only [List.cons.injEq, and_true] at z0 z1
      subst z0
      subst z1
      refine ⟨⟨s, t.A, t.c, t.l⟩, fun a ha => ⟨?_, ?_⟩, ⟨rd_of_rdr hR, hs, ⟨hR.2.2.1, hR.2.2.2⟩, hB⟩, Nat.zero_le _⟩
      · have := ha 0 _ rfl
        rwa [add_zero'] at this
      · have := ha 1 _ rfl
        simpa [Addr.add] using this
  refine ⟨r, h1, ⟨⟨fun hn => ?_, fun i e he => (h3 e (List.mem_of_getElem? he)).1⟩, ⟨h2.2.2.1, h2.2.2.2⟩, fun e he => (h3 e he).2⟩⟩
  obtain ⟨ad, hA, hb⟩ := h2.1 hn
  refine ⟨ad, hA, hb, fun i e he => ?_⟩
  have := h2.2.1 ad i e hA he
  exact ⟨this.1, by rw [va.add_fld]; exact this.2⟩
end
section
variable {H : Type} {enc : TypeId × Value → H} {w : World} {held : Bool}
set_option maxRecDepth 100000 in
/-- an expression, opened, with its bulk -/
theorem open_exprU {b0 : Nat} {r : Reach} {v : Value} {d : DataW H} {p : List MemPlace} (hv : Value.okWide Tryz.prog w r b0 24 v) (h : DataW.Trod enc Tryz.prog w 0 (fun _ => true) held 24 v d p) (hsz : ∀ n ∈ d.weights Tryz.prog 24, n ≤ reachBytes) :
    ∃ x : Xt, v = xV x ∧ RsX w w.heap.size x ∧ x.size ≤ Rows.uptoBulk d := by
  obtain ⟨cs, rfl, hs⟩ := okWide_struct Tryz.underlying24 hv
  obtain ⟨fuel, hf⟩ := h
  obtain ⟨x, hx, hR, hN, hZ⟩ := rd_exprU Tryz.underlying24 (by kernel_rfl) rfl rfl rfl rfl rfl rfl (by kernel_rfl) (by kernel_rfl) (by kernel_rfl) (by kernel_rfl) (by kernel_rfl) (by kernel_rfl) Tryz.underlying3 Tryz.underlying3 Tryz.underlying3 Tryz.underlying3 Tryz.underlying9 Tryz.underlying22 fuel _ _ hf hsz
  refine ⟨x, ?_, ⟨hR, hN⟩, hZ⟩
  have : cs.toList = _ := hx
  unfold xV
  congr 1
  exact Array.toList_inj.1 this
end
end Go.Proofs.YthlapepjebidgaaGreatDoor
