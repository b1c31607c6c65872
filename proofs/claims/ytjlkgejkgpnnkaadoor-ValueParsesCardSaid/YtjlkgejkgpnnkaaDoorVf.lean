/- The frame of the rows of layer 5: arguments opened (numbers, cells, enumerations); what the listed variables give; a start that fits. -/
import Derived.Test.YtjlkgejkgpnnkaaDoorVm
import Derived.Test.YtjlkgejkgpnnkaaDoorFrame
import Derived.Test.YtjlkgejkgpnnkaaDoorVl
import Derived.Deep.SlicePairs
import Derived.Stop.LaidErr
import Derived.Lib.LaidTab
import Derived.LaidMore
import Derived.ChangeSlices
import Derived.ChangeSame
import Derived.Stop.Joined
namespace Go.Proofs.YtjlkgejkgpnnkaaDoor
set_option linter.unusedVariables false
set_option linter.unusedSimpArgs false
open Go.ChangeShapes Go.WideShapes Go.ChangeAt Go.RowKit Go.Deep Go.WideElems
theorem int_le {n : Int} (h : (Lit.int .i64 n).wf = true) : n ≤ 9223372036854775807 := by
  have h2 : n ≤ IntKind.i64.max := by simp only [Lit.wf, Bool.and_eq_true, decide_eq_true_eq] at h; exact h.2
  exact h2
theorem int_ge {n : Int} (h : (Lit.int .i64 n).wf = true) : -9223372036854775808 ≤ n := by
  have h2 : IntKind.i64.min ≤ n := by simp only [Lit.wf, Bool.and_eq_true, decide_eq_true_eq] at h; exact h.1
  exact h2
section
variable {H : Type} {enc : TypeId × Value → H} {P : Program} {w : World} {held : Bool} {base : Nat}
/-- a slice of numbers, opened -/
theorem rd_ints {t e : TypeId} {fuel : Nat} {v : Value} {x : DataW H × List MemPlace} (ht : P.underlying t = some (.slice e)) (he : P.underlying e = some (.int .i64)) (hc : P.cellsOf e = 1)
    (h : DataW.trod enc P w base (fun _ => true) held fuel t [v] = some x) :
    ∃ (A : Option Addr) (l : List Int) (c : Nat), v = .slice A l.length c ∧ Rd w w.heap.size A (is_ l) ∧ l.length ≤ 9223372036854775807 := by
  rcases Go.ChangeShapes.open_ints ht he hc h with ⟨hv, _⟩ | ⟨a, len, cap, zs, hv, _, hl, hm, hz, _, hcell, _⟩
  · simp only [List.cons.injEq, and_true] at hv
    exact ⟨none, [], 0, hv, Rd.nil _ _ _, by simp⟩
  · simp only [List.cons.injEq, and_true] at hv
    have hz' : zs.length = cap := by simpa using hz
    have hlen : (zs.take len).length = len := by rw [List.length_take]; omega
    refine ⟨some a, zs.take len, cap, by rw [hlen]; exact hv, ?_, by rw [hlen]; unfold maxLen at hm; omega⟩
    have key : ∀ j u, (is_ (zs.take len))[j]? = some u → w.cell? (a.add j) = some u := by
      intro j u hu
      rw [is_, List.getElem?_map] at hu
      obtain ⟨b, hb, rfl⟩ := Option.map_eq_some_iff.1 hu
      have hj : j < len := by have := (List.getElem?_eq_some_iff.1 hb).1; omega
      rw [List.getElem?_take_of_lt hj] at hb
      rw [hcell j (by omega), List.getD, hb]
      rfl
    intro hne
    refine ⟨a, rfl, ?_, key⟩
    have h0 : 0 < (is_ (zs.take len)).length := List.length_pos_iff.2 hne
    have := World.block_lt_of_cell? w _ (key 0 _ (List.getElem?_eq_getElem h0))
    rwa [add_block] at this
theorem choose_list {α : Type} {p : Nat → α → Prop} : ∀ n, (∀ i, i < n → ∃ e, p i e) → ∃ l : List α, l.length = n ∧ ∀ i e, l[i]? = some e → p i e := by
  intro n
  induction n with
  | zero => exact fun _ => ⟨[], rfl, fun i e h => by simp at h⟩
  | succ n ih =>
    intro h
    obtain ⟨l, hl, hp⟩ := ih fun i hi => h i (by omega)
    obtain ⟨e, he⟩ := h n (by omega)
    refine ⟨l ++ [e], by simp [hl], fun i x hx => ?_⟩
    rcases Nat.lt_or_ge i n with hi | hi
    · exact hp i x (by rwa [List.getElem?_append_left (by omega)] at hx)
    · rw [List.getElem?_append_right (by omega)] at hx
      have hi2 : i = n := by
        have := (List.getElem?_eq_some_iff.1 hx).1
        simp at this
        omega
      subst hi2
      rw [hl, Nat.sub_self] at hx
      obtain rfl : e = x := by simpa using hx
      exact he
/-- a slice of cells, opened -/
theorem rd_cells {t e : TypeId} {f0 f1 : Field} {fuel : Nat} {v : Value} {x : DataW H × List MemPlace} (ht : P.underlying t = some (.slice e)) (he : P.underlying e = some (.struct #[f0, f1]))
    (ce : P.cellsOf e = 2) (o0 : f0.offset = 0) (o1 : f1.offset = 1) (c0 : P.cellsOf f0.type = 1) (c1 : P.cellsOf f1.type = 1) (i0 : P.underlying f0.type = some (.int .i64)) (i1 : P.underlying f1.type = some (.int .i64))
    (h : DataW.trod enc P w base (fun _ => true) held fuel t [v] = some x) :
    ∃ (A : Option Addr) (l : List (Int × Int)) (c : Nat), v = .slice A l.length c ∧ RdC w w.heap.size A l ∧ l.length ≤ 9223372036854775807 := by
  rcases open_slice_pairs ht he ce o0 o1 c0 c1 h with ⟨hv, _⟩ | ⟨a, len, cap, m, n, V0, V1, D0, D1, P0, P1, hv, _, hl, hm, hmm, _, hx⟩
  · simp only [List.cons.injEq, and_true] at hv
    exact ⟨none, [], 0, hv, fun h => absurd rfl h, by simp⟩
  · simp only [List.cons.injEq, and_true] at hv
    have hmc : m = cap := by simpa using hmm
    obtain ⟨l, hll, hp⟩ := choose_list (p := fun i (e : Int × Int) => w.cell? (a.add (i * 2)) = some (.int .i64 e.1) ∧ w.cell? (a.add (i * 2 + 1)) = some (.int .i64 e.2)) len fun i hi => by
      obtain ⟨h1, h2, h3, h4⟩ := hx i (by omega)
      obtain ⟨n0, e0, _⟩ := DataW.trod_int i0 h3
      obtain ⟨n1, e1, _⟩ := DataW.trod_int i1 h4
      simp only [List.cons.injEq, and_true] at e0 e1
      exact ⟨(n0, n1), by rw [h1, e0], by rw [h2, e1]⟩
    refine ⟨some a, l, cap, by rw [hll]; exact hv, fun hne => ⟨a, rfl, ?_, hp⟩, by rw [hll]; unfold maxLen at hm; omega⟩
    have h0 : 0 < l.length := List.length_pos_iff.2 hne
    have := World.block_lt_of_cell? w _ (hp 0 _ (List.getElem?_eq_getElem h0)).1
    rwa [add_block] at this
/-- a slice of enumerations, opened -/
theorem rd_enums {t e tt : TypeId} {f0 f1 : Field} {fuel : Nat} {v : Value} {x : DataW H × List MemPlace} (ht : P.underlying t = some (.slice e)) (he : P.underlying e = some (.struct #[f0, f1]))
    (ce : P.cellsOf e = 2) (o0 : f0.offset = 0) (o1 : f1.offset = 1) (c0 : P.cellsOf f0.type = 1) (c1 : P.cellsOf f1.type = 1) (i0 : P.underlying f0.type = some .string) (i1 : P.underlying f1.type = some (.slice tt)) (it : P.underlying tt = some .string) (ct : P.cellsOf tt = 1)
    (h : DataW.trod enc P w base (fun _ => true) held fuel t [v] = some x) :
    ∃ (A : Option Addr) (l : List En) (c : Nat), v = .slice A l.length c ∧ RdE w w.heap.size A l ∧ l.length ≤ 9223372036854775807 ∧ ∀ (i : Nat) (e : En), l[i]? = some e → e.tags.length ≤ 9223372036854775807 ∧ ∀ s ∈ e.tags, s.size ≤ maxLen := by
  rcases open_slice_pairs ht he ce o0 o1 c0 c1 h with ⟨hv, _⟩ | ⟨a, len, cap, m, n, V0, V1, D0, D1, P0, P1, hv, _, hl, hm, hmm, _, hx⟩
  · simp only [List.cons.injEq, and_true] at hv
    exact ⟨none, [], 0, hv, RdE.nil _ _ _, by simp, fun i e h => by simp at h⟩
  · simp only [List.cons.injEq, and_true] at hv
    have hmc : m = cap := by simpa using hmm
    obtain ⟨l, hll, hp⟩ := choose_list (p := fun i (e : En) => (w.cell? (a.add (i * 2)) = some (.string e.name) ∧ w.cell? (a.add (i * 2 + 1)) = some (.slice e.A e.tags.length e.c)) ∧ Rd w w.heap.size e.A (ss e.tags) ∧ e.tags.length ≤ 9223372036854775807 ∧ ∀ s ∈ e.tags, s.size ≤ maxLen) len fun i hi => by
      obtain ⟨h1, h2, h3, h4⟩ := hx i (by omega)
      obtain ⟨n0, e0, _⟩ := DataW.trod_string i0 h3
      simp only [List.cons.injEq, and_true] at e0
      rcases open_slice1 i1 ct h4 with ⟨e1, _⟩ | ⟨b, len1, cap1, m1, n1, V, D, Pl, e1, _, hl1, hm1, hmm1, _, hx1⟩
      · simp only [List.cons.injEq, and_true] at e1
        exact ⟨⟨n0, none, 0, []⟩, ⟨by rw [h1, e0], by rw [h2, e1]; rfl⟩, Rd.nil _ _ _, by simp, fun s hs => by simp at hs⟩
      · simp only [List.cons.injEq, and_true] at e1
        have hmc1 : m1 = cap1 := by simpa using hmm1
        obtain ⟨ts, htl, hts⟩ := choose_list (p := fun j (s : ByteArray) => w.cell? (b.add j) = some (.string s) ∧ s.size ≤ maxLen) len1 fun j hj => by
          obtain ⟨g1, g2⟩ := hx1 j (by omega)
          obtain ⟨s, es, _, hs⟩ := DataW.trod_string it g2
          simp only [List.cons.injEq, and_true] at es
          exact ⟨s, by rw [g1, es], hs⟩
        refine ⟨⟨n0, some b, cap1, ts⟩, ⟨by rw [h1, e0], by rw [h2, e1, htl]⟩, fun hne => ⟨b, rfl, ?_, fun j u hu => ?_⟩, by rw [htl]; unfold maxLen at hm1; omega, fun s hs => ?_⟩
        · have h0 : 0 < ts.length := by rw [← ss_length]; exact List.length_pos_iff.2 hne
          have := World.block_lt_of_cell? w _ (hts 0 _ (List.getElem?_eq_getElem h0)).1
          rwa [add_block] at this
        · rw [ss, List.getElem?_map] at hu
          obtain ⟨s, hs, rfl⟩ := Option.map_eq_some_iff.1 hu
          exact (hts j s hs).1
        · obtain ⟨j, hj⟩ := List.getElem?_of_mem hs
          exact (hts j s hj).2
    refine ⟨some a, l, cap, by rw [hll]; exact hv, ⟨fun hne => ⟨a, rfl, ?_, fun i e he => (hp i e he).1⟩, fun i e he => (hp i e he).2.1⟩, by rw [hll]; unfold maxLen at hm; omega, fun i e he => (hp i e he).2.2⟩
    have h0 : 0 < l.length := List.length_pos_iff.2 hne
    have := World.block_lt_of_cell? w _ (hp 0 _ (List.getElem?_eq_getElem h0)).1.1
    rwa [add_block] at this
end
/-! what is listed -/
def laidL : List (String × DataW Unit) := [("math/bits.deBruijn32tab", Rows.laid_math_bits_deBruijn32tab), ("math/bits.deBruijn64tab", Rows.laid_math_bits_deBruijn64tab), ("internal/strconv.uint64pow10", Rows.laid_internal_strconv_uint64pow10), ("strconv.ErrRange", Rows.laid_strconv_ErrRange), ("strconv.ErrSyntax", Rows.laid_strconv_ErrSyntax)]
theorem tyTab : (Tryd.prog.globals[0]?).map (·.type) = some 88 := by kernel_rfl
theorem tySyn : (Tryd.prog.globals[1]?).map (·.type) = some 69 := by kernel_rfl
theorem tyRng : (Tryd.prog.globals[2]?).map (·.type) = some 69 := by kernel_rfl
theorem star : "*" ++ "errors.errorString" = "*errors.errorString" := by decide
theorem rowES (u : TypeId) (h : Tryd.prog.typeName? 3 u = some "*errors.errorString") : u = 103 :=
  typeName_ptr_named (nm := "errors.errorString") (by rw [star]; kernel_rfl) (by kernel_rfl) (by decide) u (by rw [star]; exact h)
theorem door_met (os : Os) (args : Array Value) : laidMetH Tryd.prog laidL ((World.doorLaid Tryd.prog 400 os).forCall (fun _ _ => 0) ⟨#[], args, []⟩).memory :=
  laidMetH_of_parts3 (fuel := 8) (laidMet_of_run' 8 (by kernel_rfl) (by kernel_rfl)) (by kernel_rfl) (by kernel_rfl)
theorem std_of_laid {W : World} (h : laidMetH Tryd.prog laidL W) : Std W := by
  rw [MakeChecks.laidMetH_plain _ _ _ (by kernel_rfl)] at h
  have h3 : laidMet Tryd.prog (("internal/strconv.uint64pow10", Lib.tabData .u64 Lib.pow10Tab) :: [("strconv.ErrRange", Rows.laid_strconv_ErrRange), ("strconv.ErrSyntax", Rows.laid_strconv_ErrSyntax)]) W := h.tail.tail
  have h4 := h3.tail
  have h5 := h4.tail
  refine ⟨Lib.tabIs_of_head gTab tyTab Tryd.underlying88 Tryd.underlying77 (by kernel_rfl) (by kernel_rfl) h3, ?_, ?_⟩
  · obtain ⟨a, s, hv, _⟩ := laid_sentinel h5 gSyn tySyn Tryd.underlying69 rowES Tryd.underlying103 Tryd.underlying105 rfl rfl Tryd.underlying9 (by kernel_rfl) (by kernel_rfl)
    exact ⟨_, _, hv⟩
  · obtain ⟨a, s, hv, _⟩ := laid_sentinel h4 gRng tyRng Tryd.underlying69 rowES Tryd.underlying103 Tryd.underlying105 rfl rfl Tryd.underlying9 (by kernel_rfl) (by kernel_rfl)
    exact ⟨_, _, hv⟩
end Go.Proofs.YtjlkgejkgpnnkaaDoor
