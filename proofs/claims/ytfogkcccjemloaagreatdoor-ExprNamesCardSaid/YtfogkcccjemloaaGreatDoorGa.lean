/- An argument that is an expression, opened: a tree that lies in memory. -/
import Derived.Test.YtfogkcccjemloaaGreatDoorEb
import Derived.Test.YtfogkcccjemloaaGreatDoorFrame
import Derived.SizedLaws
namespace Go.Proofs.YtfogkcccjemloaaGreatDoor
set_option linter.unusedVariables false
set_option linter.unusedSimpArgs false
open Go.ChangeShapes Go.WideShapes Go.ChangeAt Go.RowKit Go.Deep Go.WideElems
theorem choose_list {α : Type} {p : Nat → α → Prop} : ∀ n, (∀ i, i < n → ∃ e, p i e) → ∃ l : List α, l.length = n ∧ ∀ i e, l[i]? = some e → p i e := by
  intro n
  induction n with
  | zero => exact fun _ => ⟨[], rfl, fun i e h => by simp at h⟩
  | succ n ih =>
    intro h
    obtain ⟨l, hl, hp⟩ := ih fun i hi => h i (by omega)
    obtain ⟨e, he⟩ := h n (by omega)
    refine ⟨l ++ [e], by simp [hl], fun i x hx => ?_⟩
    rcases Nat.lt_or_ge i n with hi | hi
    · exact hp i x (by rwa [List.getElem?_append_left (by omega)] at hx)
    · rw [List.getElem?_append_right (by omega)] at hx
      have hi2 : i = n := by
        have := (List.getElem?_eq_some_iff.1 hx).1
        simp at this
        omega
      subst hi2
      rw [hl, Nat.sub_self] at hx
      obtain rfl : e = x := by simpa using hx
      exact he
/-- names are no longer than what a machine holds -/
def NmB (x : Xt) : Prop := ∀ y ∈ x.list, y.nm.size ≤ 140737488351232
theorem NmB.kid {x y : Xt} (h : NmB x) (hy : y ∈ x.ar) : NmB y := fun z hz => h z (by rw [Xt.list_eq]; exact List.mem_cons.2 (.inr (List.mem_flatten.2 ⟨_, List.mem_map_of_mem hy, hz⟩)))
section
variable {H : Type} {enc : TypeId × Value → H} {P : Program} {w : World} {held : Bool}
theorem mem_wAll {e : TypeId} {l : List (DataW H)} {d : DataW H} (hd : d ∈ l) : ∀ n ∈ d.weights P e, n ∈ DataW.weightsAll P e l := by
  induction l with
  | nil => cases hd
  | cons a l ih =>
    intro n hn
    rw [DataW.weightsAll]
    rcases List.mem_cons.1 hd with rfl | hd
    · exact List.mem_append_left _ hn
    · exact List.mem_append_right _ (ih hd n hn)
theorem rd_expr {T : TypeId} {f0 f1 f2 f3 f4 f5 : Field} (hT : P.underlying T = some (.struct #[f0, f1, f2, f3, f4, f5])) (ce : P.cellsOf T = 6)
    (o0 : f0.offset = 0) (o1 : f1.offset = 1) (o2 : f2.offset = 2) (o3 : f3.offset = 3) (o4 : f4.offset = 4) (o5 : f5.offset = 5)
    (c0 : P.cellsOf f0.type = 1) (c1 : P.cellsOf f1.type = 1) (c2 : P.cellsOf f2.type = 1) (c3 : P.cellsOf f3.type = 1) (c4 : P.cellsOf f4.type = 1) (c5 : P.cellsOf f5.type = 1)
    (i0 : P.underlying f0.type = some (.int .i64)) (i1 : P.underlying f1.type = some (.int .i64)) (i2 : P.underlying f2.type = some (.int .i64)) (i3 : P.underlying f3.type = some (.int .i64)) (i4 : P.underlying f4.type = some .string) (i5 : P.underlying f5.type = some (.slice T)) :
    ∀ (fuel : Nat) (cs : List Value) (x : DataW H × List MemPlace), DataW.trod enc P w 0 (fun _ => true) held fuel T cs = some x → (∀ n ∈ x.1.weights P T, n ≤ reachBytes) →
      ∃ e : Xt, cs = [.int .i64 e.k, .int .i64 e.op, .int .i64 e.t, .int .i64 e.v, .string e.nm, .slice e.A e.ar.length e.c] ∧ RdX w w.heap.size e ∧ NmB e := by
  intro fuel
  induction fuel using Nat.strongRecOn with
  | ind fuel ih =>
    intro cs x h hw
    obtain ⟨xs, k, hk, hxy, hlen, hxl, hf⟩ := DataW.trod_struct hT h
    rw [ce] at hlen
    match xs, hxl, cs, hlen with
    | [y0, y1, y2, y3, y4, y5], _, [v0, v1, v2, v3, v4, v5], _ =>
      have g0 := hf 0 f0 rfl
      have g1 := hf 1 f1 rfl
      have g2 := hf 2 f2 rfl
      have g3 := hf 3 f3 rfl
      have g4 := hf 4 f4 rfl
      have g5 := hf 5 f5 rfl
      simp [o0, o1, o2, o3, o4, o5, c0, c1, c2, c3, c4, c5] at g0 g1 g2 g3 g4 g5
      obtain ⟨n0, z0, _⟩ := DataW.trod_int i0 g0
      obtain ⟨n1, z1, _⟩ := DataW.trod_int i1 g1
      obtain ⟨n2, z2, _⟩ := DataW.trod_int i2 g2
      obtain ⟨n3, z3, _⟩ := DataW.trod_int i3 g3
      obtain ⟨s, z4, zy4, hs⟩ := DataW.trod_string i4 g4
      simp only [List.cons.injEq, and_true] at z0 z1 z2 z3 z4
      subst z0; subst z1; subst z2; subst z3; subst z4
      subst hxy
      have hwe : DataW.weights P T (.agg [y0.1, y1.1, y2.1, y3.1, y4.1, y5.1]) = y0.1.weights P f0.type ++ (y1.1.weights P f1.type ++ (y2.1.weights P f2.type ++ (y3.1.weights P f3.type ++ (y4.1.weights P f4.type ++ (y5.1.weights P f5.type ++ []))))) := by
        simp [DataW.weights, DataW.weightsEach, hT]
      have hw4 : ∀ n ∈ y4.1.weights P f4.type, n ≤ reachBytes := fun n hn => hw n (by simp only [List.map_cons, List.map_nil]; rw [hwe]; simp [hn])
      have hw5 : ∀ n ∈ y5.1.weights P f5.type, n ≤ reachBytes := fun n hn => hw n (by simp only [List.map_cons, List.map_nil]; rw [hwe]; simp [hn])
      have hs2 : s.size ≤ 140737488351232 := by
        have := hw4 s.data.toList.length (by rw [zy4]; simp [DataW.weights])
        rw [Array.length_toList] at this
        exact this
      rcases DataW.trod_slice i5 g5 with ⟨hv, _⟩ | ⟨a, len, cap, elems, rest, n, hkn, hv, hx0, _, hl, hm, hel, hx, _, _⟩
      · simp only [List.cons.injEq, and_true] at hv
        subst hv
        refine ⟨.mk n0 n1 n2 n3 s none 0 [], rfl, .mk _ (fun h => absurd rfl h) (fun ad i y h => by cases h) (fun y h => by cases h) ⟨⟨by simp [Xt.ar], hs⟩, Nat.le_refl _⟩, fun y hy => ?_⟩
        rw [Xt.list_eq] at hy
        obtain rfl := List.mem_singleton.1 (show y ∈ [Xt.mk n0 n1 n2 n3 s none 0 []] from hy)
        exact hs2
      · simp only [List.cons.injEq, and_true] at hv
        subst hv
        have key : ∀ i, i < len → ∃ e : Xt, XC w (a.add (i * 6)) e ∧ RdX w w.heap.size e ∧ NmB e := by
          intro i hi
          have h1 := hx i hi
          rw [ce, List.getElem?_eq_getElem (by omega)] at h1
          obtain ⟨cs', h2, h3⟩ := Option.bind_eq_some_iff.1 h1
          obtain ⟨_, hlen', hcell⟩ := World.cells?_some h2
          obtain ⟨e, he, hR, hN⟩ := ih n (by omega) cs' _ h3 fun m hm => hw5 m (by
            rw [hx0]
            simp only [DataW.weights, i5, List.mem_cons, List.mem_append]
            exact .inr (.inl (mem_wAll (List.mem_map_of_mem (List.getElem_mem (by omega))) m hm)))
          subst he
          refine ⟨e, ⟨?_, ?_, ?_, ?_, ?_, ?_⟩, hR, hN⟩
          · have := hcell 0 (by decide); rw [add_add] at this; simpa using this
          · have := hcell 1 (by decide); generalize a.add (i * 6) = b at this ⊢; simpa [Addr.add] using this
          · have := hcell 2 (by decide); generalize a.add (i * 6) = b at this ⊢; simpa [Addr.add] using this
          · have := hcell 3 (by decide); generalize a.add (i * 6) = b at this ⊢; simpa [Addr.add] using this
          · have := hcell 4 (by decide); generalize a.add (i * 6) = b at this ⊢; simpa [Addr.add] using this
          · have := hcell 5 (by decide); generalize a.add (i * 6) = b at this ⊢; simpa [Addr.add] using this
        obtain ⟨l, hll, hp⟩ := choose_list len key
        refine ⟨.mk n0 n1 n2 n3 s (some a) cap l, by rw [show (Xt.mk n0 n1 n2 n3 s (some a) cap l).ar.length = len from hll]; rfl, .mk _ (fun hne => ⟨a, rfl, ?_⟩) (fun ad i y hA hy => ?_) (fun y hy => ?_) ⟨⟨?_, hs⟩, ?_⟩, fun y hy => ?_⟩
        · have hne2 : l ≠ [] := hne
          have h0 : 0 < l.length := List.length_pos_iff.2 hne2
          have := World.block_lt_of_cell? w _ (hp 0 _ (List.getElem?_eq_getElem h0)).1.1
          rwa [add_block] at this
        · obtain rfl : a = ad := Option.some.inj hA
          exact (hp i y hy).1
        · obtain ⟨j, hj⟩ := List.getElem?_of_mem (show y ∈ l from hy)
          exact (hp j y hj).2.1
        · show l.length ≤ maxLen
          omega
        · show l.length ≤ cap
          omega
        · rw [Xt.list_eq] at hy
          rcases List.mem_cons.1 hy with rfl | hy
          · exact hs2
          · obtain ⟨q, hq, hyq⟩ := List.mem_flatten.1 hy
            obtain ⟨z, hz, rfl⟩ := List.mem_map.1 hq
            obtain ⟨j, hj⟩ := List.getElem?_of_mem (show z ∈ l from hz)
            exact (hp j z hj).2.2 y hyq
end
end Go.Proofs.YtfogkcccjemloaaGreatDoor
