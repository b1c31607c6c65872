import Derived.Test.YtoimjcfdiljkjaaGreatDoorQN
set_option linter.unusedVariables false
set_option linter.unusedSimpArgs false
namespace Go.Proofs.YtoimjcfdiljkjaaGreatDoor
open Go.ChangeShapes Go.WideShapes Go.ChangeAt Go.RowKit Go.Deep Go.WideElems
def NmT (x : Xt) : Prop := ∀ y ∈ x.list, y.nm.size ≤ 140737488351232 ∧ y.t ≤ 9223372036854775807
theorem sum_bulk {α H : Type} {l : List α} {f : α → Nat} {es : List (DataW H)} (hl : l.length = es.length) (h : ∀ (i : Nat) (y : α) (z : DataW H), l[i]? = some y → es[i]? = some z → f y ≤ Rows.uptoBulk z) : (l.map f).sum ≤ Rows.uptoBulkAll es := by
  induction l generalizing es with
  | nil => cases es with
    | nil => simp [Rows.uptoBulkAll]
    | cons e es => simp at hl
  | cons a l ih => cases es with
    | nil => simp at hl
    | cons e es =>
      have h1 := h 0 a e rfl rfl
      have h2 := ih (es := es) (by simpa using hl) fun i y z hy hz => h (i + 1) y z (by simpa using hy) (by simpa using hz)
      simp only [List.map_cons, List.sum_cons, Rows.uptoBulkAll]
      omega
section
variable {H : Type} {enc : TypeId × Value → H} {P : Program} {w : World} {held : Bool}
theorem rd_exprU {T : TypeId} {f0 f1 f2 f3 f4 f5 : Field} (hT : P.underlying T = some (.struct #[f0, f1, f2, f3, f4, f5])) (ce : P.cellsOf T = 6)
    (o0 : f0.offset = 0) (o1 : f1.offset = 1) (o2 : f2.offset = 2) (o3 : f3.offset = 3) (o4 : f4.offset = 4) (o5 : f5.offset = 5)
    (c0 : P.cellsOf f0.type = 1) (c1 : P.cellsOf f1.type = 1) (c2 : P.cellsOf f2.type = 1) (c3 : P.cellsOf f3.type = 1) (c4 : P.cellsOf f4.type = 1) (c5 : P.cellsOf f5.type = 1)
    (i0 : P.underlying f0.type = some (.int .i64)) (i1 : P.underlying f1.type = some (.int .i64)) (i2 : P.underlying f2.type = some (.int .i64)) (i3 : P.underlying f3.type = some (.int .i64)) (i4 : P.underlying f4.type = some .string) (i5 : P.underlying f5.type = some (.slice T)) :
    ∀ (fuel : Nat) (cs : List Value) (x : DataW H × List MemPlace), DataW.trod enc P w 0 (fun _ => true) held fuel T cs = some x → (∀ n ∈ x.1.weights P T, n ≤ reachBytes) →
      ∃ e : Xt, cs = [.int .i64 e.k, .int .i64 e.op, .int .i64 e.t, .int .i64 e.v, .string e.nm, .slice e.A e.ar.length e.c] ∧ RdX w w.heap.size e ∧ NmT e ∧ e.size ≤ Rows.uptoBulk x.1 := by
  intro fuel
  induction fuel using Nat.strongRecOn with
  | ind fuel ih =>
    intro cs x h hw
    obtain ⟨xs, k, hk, hxy, hlen, hxl, hf⟩ := DataW.trod_struct hT h
    rw [ce] at hlen
    match xs, hxl, cs, hlen with
    | [y0, y1, y2, y3, y4, y5], _, [v0, v1, v2, v3, v4, v5], _ =>
      have g0 := hf 0 f0 rfl
      have g1 := hf 1 f1 rfl
      have g2 := hf 2 f2 rfl
      have g3 := hf 3 f3 rfl
      have g4 := hf 4 f4 rfl
      have g5 := hf 5 f5 rfl
      simp [o0, o1, o2, o3, o4, o5, c0, c1, c2, c3, c4, c5] at g0 g1 g2 g3 g4 g5
      obtain ⟨n0, z0, _⟩ := DataW.trod_int i0 g0
      obtain ⟨n1, z1, _⟩ := DataW.trod_int i1 g1
      obtain ⟨n2, z2, _, wf2⟩ := DataW.trod_int i2 g2
      have hn2 : n2 ≤ 9223372036854775807 := int_le wf2
      obtain ⟨n3, z3, _⟩ := DataW.trod_int i3 g3
      obtain ⟨s, z4, zy4, hs⟩ := DataW.trod_string i4 g4
      simp only [List.cons.injEq, and_true] at z0 z1 z2 z3 z4
      subst z0; subst z1; subst z2; subst z3; subst z4
      subst hxy
      have hwe : DataW.weights P T (.agg [y0.1, y1.1, y2.1, y3.1, y4.1, y5.1]) = y0.1.weights P f0.type ++ (y1.1.weights P f1.type ++ (y2.1.weights P f2.type ++ (y3.1.weights P f3.type ++ (y4.1.weights P f4.type ++ (y5.1.weights P f5.type ++ []))))) := by
        simp [DataW.weights, DataW.weightsEach, hT]
      have hw4 : ∀ n ∈ y4.1.weights P f4.type, n ≤ reachBytes := fun n hn => hw n (by simp only [List.map_cons, List.map_nil]; rw [hwe]; simp [hn])
      have hw5 : ∀ n ∈ y5.1.weights P f5.type, n ≤ reachBytes := fun n hn => hw n (by simp only [List.map_cons, List.map_nil]; rw [hwe]; simp [hn])
      have hs2 : s.size ≤ 140737488351232 := by
        have := hw4 s.data.toList.length (by rw [zy4]; simp [DataW.weights])
        rw [Array.length_toList] at this
        exact this
      rcases DataW.trod_slice i5 g5 with ⟨hv, _⟩ | ⟨a, len, cap, elems, rest, n, hkn, hv, hx0, _, hl, hm, hel, hx, _, _⟩
      · simp only [List.cons.injEq, and_true] at hv
        subst hv
        refine ⟨.mk n0 n1 n2 n3 s none 0 [], rfl, .mk _ (fun h => absurd rfl h) (fun ad i y h => by cases h) (fun y h => by cases h) ⟨⟨by simp [Xt.ar], hs⟩, Nat.le_refl _⟩, fun y hy => ?_, ?_⟩
        · rw [Xt.list_eq] at hy
          obtain rfl := List.mem_singleton.1 (show y ∈ [Xt.mk n0 n1 n2 n3 s none 0 []] from hy)
          exact ⟨hs2, hn2⟩
        · rw [Xt.size_eq]
          simp only [List.map_cons, List.map_nil, Rows.uptoBulk, Rows.uptoBulkAll]
          show 1 + 0 ≤ _
          omega
      · simp only [List.cons.injEq, and_true] at hv
        subst hv
        have key : ∀ i, i < len → ∃ e : Xt, XC w (a.add (i * 6)) e ∧ RdX w w.heap.size e ∧ NmT e ∧ ∀ z, (elems.map (·.1))[i]? = some z → e.size ≤ Rows.uptoBulk z := by
          intro i hi
          have h1 := hx i hi
          rw [ce, List.getElem?_eq_getElem (by omega)] at h1
          obtain ⟨cs', h2, h3⟩ := Option.bind_eq_some_iff.1 h1
          obtain ⟨_, hlen', hcell⟩ := World.cells?_some h2
          obtain ⟨e, he, hR, hN, hSz⟩ := ih n (by omega) cs' _ h3 fun m hm => hw5 m (by
            rw [hx0]
            simp only [DataW.weights, i5, List.mem_cons, List.mem_append]
            exact .inr (.inl (mem_wAll (List.mem_map_of_mem (List.getElem_mem (by omega))) m hm)))
          subst he
          refine ⟨e, ⟨?_, ?_, ?_, ?_, ?_, ?_⟩, hR, hN, fun z hz => ?_⟩
          · have := hcell 0 (by decide); rw [add_add] at this; simpa using this
          · have := hcell 1 (by decide); generalize a.add (i * 6) = b at this ⊢; simpa [Addr.add] using this
          · have := hcell 2 (by decide); generalize a.add (i * 6) = b at this ⊢; simpa [Addr.add] using this
          · have := hcell 3 (by decide); generalize a.add (i * 6) = b at this ⊢; simpa [Addr.add] using this
          · have := hcell 4 (by decide); generalize a.add (i * 6) = b at this ⊢; simpa [Addr.add] using this
          · have := hcell 5 (by decide); generalize a.add (i * 6) = b at this ⊢; simpa [Addr.add] using this
          · rw [List.getElem?_map, List.getElem?_eq_getElem (by omega)] at hz
            obtain rfl := Option.some.inj hz
            exact hSz
        obtain ⟨l, hll, hp⟩ := choose_list len key
        refine ⟨.mk n0 n1 n2 n3 s (some a) cap l, by rw [show (Xt.mk n0 n1 n2 n3 s (some a) cap l).ar.length = len from hll]; rfl, .mk _ (fun hne => ⟨a, rfl, ?_⟩) (fun ad i y hA hy => ?_) (fun y hy => ?_) ⟨⟨?_, hs⟩, ?_⟩, fun y hy => ?_, ?_⟩
        · have hne2 : l ≠ [] := hne
          have h0 : 0 < l.length := List.length_pos_iff.2 hne2
          have := World.block_lt_of_cell? w _ (hp 0 _ (List.getElem?_eq_getElem h0)).1.1
          rwa [add_block] at this
        · obtain rfl : a = ad := Option.some.inj hA
          exact (hp i y hy).1
        · obtain ⟨j, hj⟩ := List.getElem?_of_mem (show y ∈ l from hy)
          exact (hp j y hj).2.1
        · show l.length ≤ maxLen
          omega
        · show l.length ≤ cap
          omega
        · rw [Xt.list_eq] at hy
          rcases List.mem_cons.1 hy with rfl | hy
          · exact ⟨hs2, hn2⟩
          · obtain ⟨q, hq, hyq⟩ := List.mem_flatten.1 hy
            obtain ⟨z, hz, rfl⟩ := List.mem_map.1 hq
            obtain ⟨j, hj⟩ := List.getElem?_of_mem (show z ∈ l from hz)
            exact (hp j z hj).2.2.1 y hyq
        · rw [Xt.size_eq]
          have hb5 : (l.map Xt.size).sum ≤ Rows.uptoBulkAll (elems.map (·.1)) := sum_bulk (by rw [List.length_map, hll, hel]) fun i y z hy hz => (hp i y hy).2.2.2 z hz
          have hb6 : Rows.uptoBulkAll (elems.map (·.1)) ≤ Rows.uptoBulk y5.1 := by
            rw [hx0]
            simp only [Rows.uptoBulk]
            omega
          simp only [List.map_cons, List.map_nil, Rows.uptoBulk, Rows.uptoBulkAll]
          show 1 + (l.map Xt.size).sum ≤ _
          omega
end
end Go.Proofs.YtoimjcfdiljkjaaGreatDoor
namespace Go.Proofs.YtoimjcfdiljkjaaGreatDoor
open Go.ChangeShapes Go.WideShapes Go.ChangeAt Go.RowKit Go.Deep Go.WideElems
section
variable {H : Type} {enc : TypeId × Value → H} {P : Program} {w : World} {held : Bool}
theorem rd_strU {t : TypeId} (ht : P.underlying t = some .string) {fuel : Nat} {cs : List Value} {x : DataW H × List MemPlace} (h : DataW.trod enc P w 0 (fun _ => true) held fuel t cs = some x) (hw : ∀ n ∈ x.1.weights P t, n ≤ reachBytes) :
    ∃ s : ByteArray, cs = [.string s] ∧ s.size ≤ 140737488351232 := by
  obtain ⟨s, hc, hx, _⟩ := DataW.trod_string ht h
  refine ⟨s, hc, ?_⟩
  have := hw s.data.toList.length (by rw [hx]; simp [DataW.weights])
  rw [Array.length_toList] at this
  exact this
theorem rd_of_rdr {B : Nat} {r : Rw ByteArray} (h : RdR w B 1 BC r) : Rd w B r.A (va.ss r.l) := by
  intro hn
  obtain ⟨ad, hA, hb⟩ := h.1 (by intro e; rw [e] at hn; exact hn rfl)
  refine ⟨ad, hA, hb, fun j u hu => ?_⟩
  rw [va.ss, List.getElem?_map] at hu
  obtain ⟨b, hb2, rfl⟩ := Option.map_eq_some_iff.1 hu
  have := h.2.1 ad j b hA hb2
  unfold BC at this
  rwa [Nat.mul_one] at this
def EC (w : World) (a : Addr) (e : va.En) : Prop := w.cell? a = some (.string e.name) ∧ w.cell? ⟨a.block, a.off + 1, none⟩ = some (.slice e.A e.tags.length e.c)
end
section
variable {H : Type} {enc : TypeId × Value → H} {w : World} {held : Bool}
end
end Go.Proofs.YtoimjcfdiljkjaaGreatDoor
namespace Go.Proofs.YtoimjcfdiljkjaaGreatDoor
open Go.ChangeShapes Go.WideShapes Go.ChangeAt Go.RowKit Go.Deep Go.WideElems
def Opn {H : Type} (enc : TypeId × Value → H) (P : Program) (w : World) (held : Bool) {α : Type} (N : Nat) (T : TypeId) (L : α → List Value) (R : Nat → α → Prop) : Prop :=
  ∀ fuel, fuel < N → ∀ (cs : List Value) (x : DataW H × List MemPlace), DataW.trod enc P w 0 (fun _ => true) held fuel T cs = some x → (∀ n ∈ x.1.weights P T, n ≤ reachBytes) → ∃ y : α, cs = L y ∧ R (Rows.uptoBulk x.1) y
def Mono {α : Type} (R : Nat → α → Prop) : Prop := ∀ a b y, a ≤ b → R a y → R b y
abbrev rowL {α : Type} (r : Rw α) : List Value := [.slice r.A r.l.length r.c]
section
variable {H : Type} {enc : TypeId × Value → H} {P : Program} {w : World} {held : Bool}
theorem Opn.mono {α : Type} {N M : Nat} {T : TypeId} {L : α → List Value} {R : Nat → α → Prop} (h : Opn enc P w held N T L R) (hM : M ≤ N) : Opn enc P w held M T L R := fun fuel hf => h fuel (by omega)
theorem Opn.imp {α : Type} {N : Nat} {T : TypeId} {L : α → List Value} {R S : Nat → α → Prop} (h : Opn enc P w held N T L R) (hM : ∀ b y, R b y → S b y) : Opn enc P w held N T L S := fun fuel hf cs x h1 h2 => by
  obtain ⟨y, hy, hr⟩ := h fuel hf cs x h1 h2
  exact ⟨y, hy, hM _ _ hr⟩
theorem opn_str {N : Nat} {t : TypeId} (ht : P.underlying t = some .string) : Opn enc P w held N t (fun s : ByteArray => [.string s]) (fun _ s => s.size ≤ 140737488351232) := fun _ _ _ _ h hw => rd_strU ht h hw
theorem opn_int {N : Nat} {t : TypeId} (ht : P.underlying t = some (.int .i64)) : Opn enc P w held N t (fun n : Int => [.int .i64 n]) (fun _ n => n ≤ 9223372036854775807) := fun _ _ _ _ h _ => by
  obtain ⟨n, z, _, wf⟩ := DataW.trod_int ht h
  exact ⟨n, z, int_le wf⟩
theorem opn_bool {N : Nat} {t : TypeId} (ht : P.underlying t = some .bool) : Opn enc P w held N t (fun b : Bool => [.bool b]) (fun _ _ => True) := fun _ _ _ _ h _ => by
  obtain ⟨n, z, _⟩ := DataW.trod_bool ht h
  exact ⟨n, z, trivial⟩
theorem opn_two {α0 α1 : Type} {N : Nat} {T : TypeId} {f0 f1 : Field} {L0 : α0 → List Value} {R0 : Nat → α0 → Prop} {L1 : α1 → List Value} {R1 : Nat → α1 → Prop} (hT : P.underlying T = some (.struct #[f0, f1])) (ce : P.cellsOf T = 7) (o0 : f0.offset = 0) (c0 : P.cellsOf f0.type = 1) (o1 : f1.offset = 1) (c1 : P.cellsOf f1.type = 6) (m0 : Mono R0) (p0 : Opn enc P w held N f0.type L0 R0) (m1 : Mono R1) (p1 : Opn enc P w held N f1.type L1 R1) :
    Opn enc P w held (N + 1) T (fun y : α0 × α1 => L0 y.1 ++ L1 y.2) (fun b y => R0 b y.1 ∧ R1 b y.2) := by
  intro fuel hN cs x h hw
  obtain ⟨xs, k, hk, hxy, hlen, hxl, hf⟩ := DataW.trod_struct hT h
  rw [ce] at hlen
  match xs, hxl, cs, hlen with
  | [y0, y1], _, [v0, v1, v2, v3, v4, v5, v6], _ =>
    have g0 := hf 0 f0 rfl
    have g1 := hf 1 f1 rfl
    simp [o0, o1, c0, c1] at g0 g1
    have hwe : DataW.weights P T (.agg [y0.1, y1.1]) = y0.1.weights P f0.type ++ (y1.1.weights P f1.type ++ []) := by simp [DataW.weights, DataW.weightsEach, hT]
    obtain ⟨a0, z0, r0⟩ := p0 k (by omega) _ _ g0 fun n hn => hw n (by subst hxy; simp only [List.map_cons, List.map_nil]; rw [hwe]; simp [hn])
    obtain ⟨a1, z1, r1⟩ := p1 k (by omega) _ _ g1 fun n hn => hw n (by subst hxy; simp only [List.map_cons, List.map_nil]; rw [hwe]; simp [hn])
    refine ⟨⟨a0, a1⟩, ?_, ⟨m0 _ _ _ ?_ r0, m1 _ _ _ ?_ r1⟩⟩
    · show [v0, v1, v2, v3, v4, v5, v6] = L0 a0 ++ L1 a1
      rw [← z0, ← z1]
      rfl
    all_goals
      subst hxy
      simp only [List.map_cons, List.map_nil, Rows.uptoBulk, Rows.uptoBulkAll]
      omega
theorem opn_three {α0 α1 α2 : Type} {N : Nat} {T : TypeId} {f0 f1 f2 : Field} {L0 : α0 → List Value} {R0 : Nat → α0 → Prop} {L1 : α1 → List Value} {R1 : Nat → α1 → Prop} {L2 : α2 → List Value} {R2 : Nat → α2 → Prop} (hT : P.underlying T = some (.struct #[f0, f1, f2])) (ce : P.cellsOf T = 3) (o0 : f0.offset = 0) (c0 : P.cellsOf f0.type = 1) (o1 : f1.offset = 1) (c1 : P.cellsOf f1.type = 1) (o2 : f2.offset = 2) (c2 : P.cellsOf f2.type = 1) (m0 : Mono R0) (p0 : Opn enc P w held N f0.type L0 R0) (m1 : Mono R1) (p1 : Opn enc P w held N f1.type L1 R1) (m2 : Mono R2) (p2 : Opn enc P w held N f2.type L2 R2) :
    Opn enc P w held (N + 1) T (fun y : α0 × α1 × α2 => L0 y.1 ++ L1 y.2.1 ++ L2 y.2.2) (fun b y => R0 b y.1 ∧ R1 b y.2.1 ∧ R2 b y.2.2) := by
  intro fuel hN cs x h hw
  obtain ⟨xs, k, hk, hxy, hlen, hxl, hf⟩ := DataW.trod_struct hT h
  rw [ce] at hlen
  match xs, hxl, cs, hlen with
  | [y0, y1, y2], _, [v0, v1, v2], _ =>
    have g0 := hf 0 f0 rfl
    have g1 := hf 1 f1 rfl
    have g2 := hf 2 f2 rfl
    simp [o0, o1, o2, c0, c1, c2] at g0 g1 g2
    have hwe : DataW.weights P T (.agg [y0.1, y1.1, y2.1]) = y0.1.weights P f0.type ++ (y1.1.weights P f1.type ++ (y2.1.weights P f2.type ++ [])) := by simp [DataW.weights, DataW.weightsEach, hT]
    obtain ⟨a0, z0, r0⟩ := p0 k (by omega) _ _ g0 fun n hn => hw n (by subst hxy; simp only [List.map_cons, List.map_nil]; rw [hwe]; simp [hn])
    obtain ⟨a1, z1, r1⟩ := p1 k (by omega) _ _ g1 fun n hn => hw n (by subst hxy; simp only [List.map_cons, List.map_nil]; rw [hwe]; simp [hn])
    obtain ⟨a2, z2, r2⟩ := p2 k (by omega) _ _ g2 fun n hn => hw n (by subst hxy; simp only [List.map_cons, List.map_nil]; rw [hwe]; simp [hn])
    refine ⟨⟨a0, a1, a2⟩, ?_, ⟨m0 _ _ _ ?_ r0, m1 _ _ _ ?_ r1, m2 _ _ _ ?_ r2⟩⟩
    · show [v0, v1, v2] = L0 a0 ++ L1 a1 ++ L2 a2
      rw [← z0, ← z1, ← z2]
      rfl
    all_goals
      subst hxy
      simp only [List.map_cons, List.map_nil, Rows.uptoBulk, Rows.uptoBulkAll]
      omega
theorem opn_trans {α0 α1 α2 : Type} {N : Nat} {T : TypeId} {f0 f1 f2 : Field} {L0 : α0 → List Value} {R0 : Nat → α0 → Prop} {L1 : α1 → List Value} {R1 : Nat → α1 → Prop} {L2 : α2 → List Value} {R2 : Nat → α2 → Prop} (hT : P.underlying T = some (.struct #[f0, f1, f2])) (ce : P.cellsOf T = 8) (o0 : f0.offset = 0) (c0 : P.cellsOf f0.type = 6) (o1 : f1.offset = 6) (c1 : P.cellsOf f1.type = 1) (o2 : f2.offset = 7) (c2 : P.cellsOf f2.type = 1) (m0 : Mono R0) (p0 : Opn enc P w held N f0.type L0 R0) (m1 : Mono R1) (p1 : Opn enc P w held N f1.type L1 R1) (m2 : Mono R2) (p2 : Opn enc P w held N f2.type L2 R2) :
    Opn enc P w held (N + 1) T (fun y : α0 × α1 × α2 => L0 y.1 ++ L1 y.2.1 ++ L2 y.2.2) (fun b y => R0 b y.1 ∧ R1 b y.2.1 ∧ R2 b y.2.2) := by
  intro fuel hN cs x h hw
  obtain ⟨xs, k, hk, hxy, hlen, hxl, hf⟩ := DataW.trod_struct hT h
  rw [ce] at hlen
  match xs, hxl, cs, hlen with
  | [y0, y1, y2], _, [v0, v1, v2, v3, v4, v5, v6, v7], _ =>
    have g0 := hf 0 f0 rfl
    have g1 := hf 1 f1 rfl
    have g2 := hf 2 f2 rfl
    simp [o0, o1, o2, c0, c1, c2] at g0 g1 g2
    have hwe : DataW.weights P T (.agg [y0.1, y1.1, y2.1]) = y0.1.weights P f0.type ++ (y1.1.weights P f1.type ++ (y2.1.weights P f2.type ++ [])) := by simp [DataW.weights, DataW.weightsEach, hT]
    obtain ⟨a0, z0, r0⟩ := p0 k (by omega) _ _ g0 fun n hn => hw n (by subst hxy; simp only [List.map_cons, List.map_nil]; rw [hwe]; simp [hn])
    obtain ⟨a1, z1, r1⟩ := p1 k (by omega) _ _ g1 fun n hn => hw n (by subst hxy; simp only [List.map_cons, List.map_nil]; rw [hwe]; simp [hn])
    obtain ⟨a2, z2, r2⟩ := p2 k (by omega) _ _ g2 fun n hn => hw n (by subst hxy; simp only [List.map_cons, List.map_nil]; rw [hwe]; simp [hn])
    refine ⟨⟨a0, a1, a2⟩, ?_, ⟨m0 _ _ _ ?_ r0, m1 _ _ _ ?_ r1, m2 _ _ _ ?_ r2⟩⟩
    · show [v0, v1, v2, v3, v4, v5, v6, v7] = L0 a0 ++ L1 a1 ++ L2 a2
      rw [← z0, ← z1, ← z2]
      rfl
    all_goals
      subst hxy
      simp only [List.map_cons, List.map_nil, Rows.uptoBulk, Rows.uptoBulkAll]
      omega
theorem opn_six {α0 α1 α2 α3 α4 α5 : Type} {N : Nat} {T : TypeId} {f0 f1 f2 f3 f4 f5 : Field} {L0 : α0 → List Value} {R0 : Nat → α0 → Prop} {L1 : α1 → List Value} {R1 : Nat → α1 → Prop} {L2 : α2 → List Value} {R2 : Nat → α2 → Prop} {L3 : α3 → List Value} {R3 : Nat → α3 → Prop} {L4 : α4 → List Value} {R4 : Nat → α4 → Prop} {L5 : α5 → List Value} {R5 : Nat → α5 → Prop} (hT : P.underlying T = some (.struct #[f0, f1, f2, f3, f4, f5])) (ce : P.cellsOf T = 6) (o0 : f0.offset = 0) (c0 : P.cellsOf f0.type = 1) (o1 : f1.offset = 1) (c1 : P.cellsOf f1.type = 1) (o2 : f2.offset = 2) (c2 : P.cellsOf f2.type = 1) (o3 : f3.offset = 3) (c3 : P.cellsOf f3.type = 1) (o4 : f4.offset = 4) (c4 : P.cellsOf f4.type = 1) (o5 : f5.offset = 5) (c5 : P.cellsOf f5.type = 1) (m0 : Mono R0) (p0 : Opn enc P w held N f0.type L0 R0) (m1 : Mono R1) (p1 : Opn enc P w held N f1.type L1 R1) (m2 : Mono R2) (p2 : Opn enc P w held N f2.type L2 R2) (m3 : Mono R3) (p3 : Opn enc P w held N f3.type L3 R3) (m4 : Mono R4) (p4 : Opn enc P w held N f4.type L4 R4) (m5 : Mono R5) (p5 : Opn enc P w held N f5.type L5 R5) :
    Opn enc P w held (N + 1) T (fun y : α0 × α1 × α2 × α3 × α4 × α5 => L0 y.1 ++ L1 y.2.1 ++ L2 y.2.2.1 ++ L3 y.2.2.2.1 ++ L4 y.2.2.2.2.1 ++ L5 y.2.2.2.2.2) (fun b y => R0 b y.1 ∧ R1 b y.2.1 ∧ R2 b y.2.2.1 ∧ R3 b y.2.2.2.1 ∧ R4 b y.2.2.2.2.1 ∧ R5 b y.2.2.2.2.2) := by
  intro fuel hN cs x h hw
  obtain ⟨xs, k, hk, hxy, hlen, hxl, hf⟩ := DataW.trod_struct hT h
  rw [ce] at hlen
  match xs, hxl, cs, hlen with
  | [y0, y1, y2, y3, y4, y5], _, [v0, v1, v2, v3, v4, v5], _ =>
    have g0 := hf 0 f0 rfl
    have g1 := hf 1 f1 rfl
    have g2 := hf 2 f2 rfl
    have g3 := hf 3 f3 rfl
    have g4 := hf 4 f4 rfl
    have g5 := hf 5 f5 rfl
    simp [o0, o1, o2, o3, o4, o5, c0, c1, c2, c3, c4, c5] at g0 g1 g2 g3 g4 g5
    have hwe : DataW.weights P T (.agg [y0.1, y1.1, y2.1, y3.1, y4.1, y5.1]) = y0.1.weights P f0.type ++ (y1.1.weights P f1.type ++ (y2.1.weights P f2.type ++ (y3.1.weights P f3.type ++ (y4.1.weights P f4.type ++ (y5.1.weights P f5.type ++ []))))) := by simp [DataW.weights, DataW.weightsEach, hT]
    obtain ⟨a0, z0, r0⟩ := p0 k (by omega) _ _ g0 fun n hn => hw n (by subst hxy; simp only [List.map_cons, List.map_nil]; rw [hwe]; simp [hn])
    obtain ⟨a1, z1, r1⟩ := p1 k (by omega) _ _ g1 fun n hn => hw n (by subst hxy; simp only [List.map_cons, List.map_nil]; rw [hwe]; simp [hn])
    obtain ⟨a2, z2, r2⟩ := p2 k (by omega) _ _ g2 fun n hn => hw n (by subst hxy; simp only [List.map_cons, List.map_nil]; rw [hwe]; simp [hn])
    obtain ⟨a3, z3, r3⟩ := p3 k (by omega) _ _ g3 fun n hn => hw n (by subst hxy; simp only [List.map_cons, List.map_nil]; rw [hwe]; simp [hn])
    obtain ⟨a4, z4, r4⟩ := p4 k (by omega) _ _ g4 fun n hn => hw n (by subst hxy; simp only [List.map_cons, List.map_nil]; rw [hwe]; simp [hn])
    obtain ⟨a5, z5, r5⟩ := p5 k (by omega) _ _ g5 fun n hn => hw n (by subst hxy; simp only [List.map_cons, List.map_nil]; rw [hwe]; simp [hn])
    refine ⟨⟨a0, a1, a2, a3, a4, a5⟩, ?_, ⟨m0 _ _ _ ?_ r0, m1 _ _ _ ?_ r1, m2 _ _ _ ?_ r2, m3 _ _ _ ?_ r3, m4 _ _ _ ?_ r4, m5 _ _ _ ?_ r5⟩⟩
    · show [v0, v1, v2, v3, v4, v5] = L0 a0 ++ L1 a1 ++ L2 a2 ++ L3 a3 ++ L4 a4 ++ L5 a5
      rw [← z0, ← z1, ← z2, ← z3, ← z4, ← z5]
      rfl
    all_goals
      subst hxy
      simp only [List.map_cons, List.map_nil, Rows.uptoBulk, Rows.uptoBulkAll]
      omega
theorem opn_one {α0 : Type} {N : Nat} {T : TypeId} {f0 : Field} {L0 : α0 → List Value} {R0 : Nat → α0 → Prop} (hT : P.underlying T = some (.struct #[f0])) (ce : P.cellsOf T = 1) (o0 : f0.offset = 0) (c0 : P.cellsOf f0.type = 1) (m0 : Mono R0) (p0 : Opn enc P w held N f0.type L0 R0) :
    Opn enc P w held (N + 1) T (fun y : α0 => L0 y) (fun b y => R0 b y) := by
  intro fuel hN cs x h hw
  obtain ⟨xs, k, hk, hxy, hlen, hxl, hf⟩ := DataW.trod_struct hT h
  rw [ce] at hlen
  match xs, hxl, cs, hlen with
  | [y0], _, [v0], _ =>
    have g0 := hf 0 f0 rfl
    simp [o0, c0] at g0
    have hwe : DataW.weights P T (.agg [y0.1]) = y0.1.weights P f0.type ++ [] := by simp [DataW.weights, DataW.weightsEach, hT]
    obtain ⟨a0, z0, r0⟩ := p0 k (by omega) _ _ g0 fun n hn => hw n (by subst hxy; simp only [List.map_cons, List.map_nil]; rw [hwe]; simp [hn])
    refine ⟨a0, ?_, m0 _ _ _ ?_ r0⟩
    · show [v0] = L0 a0
      rw [← z0]
    all_goals
      subst hxy
      simp only [List.map_cons, List.map_nil, Rows.uptoBulk, Rows.uptoBulkAll]
      omega
theorem opn_eight {α0 α1 α2 α3 α4 α5 α6 α7 : Type} {N : Nat} {T : TypeId} {f0 f1 f2 f3 f4 f5 f6 f7 : Field} {L0 : α0 → List Value} {R0 : Nat → α0 → Prop} {L1 : α1 → List Value} {R1 : Nat → α1 → Prop} {L2 : α2 → List Value} {R2 : Nat → α2 → Prop} {L3 : α3 → List Value} {R3 : Nat → α3 → Prop} {L4 : α4 → List Value} {R4 : Nat → α4 → Prop} {L5 : α5 → List Value} {R5 : Nat → α5 → Prop} {L6 : α6 → List Value} {R6 : Nat → α6 → Prop} {L7 : α7 → List Value} {R7 : Nat → α7 → Prop} (hT : P.underlying T = some (.struct #[f0, f1, f2, f3, f4, f5, f6, f7])) (ce : P.cellsOf T = 8) (o0 : f0.offset = 0) (c0 : P.cellsOf f0.type = 1) (o1 : f1.offset = 1) (c1 : P.cellsOf f1.type = 1) (o2 : f2.offset = 2) (c2 : P.cellsOf f2.type = 1) (o3 : f3.offset = 3) (c3 : P.cellsOf f3.type = 1) (o4 : f4.offset = 4) (c4 : P.cellsOf f4.type = 1) (o5 : f5.offset = 5) (c5 : P.cellsOf f5.type = 1) (o6 : f6.offset = 6) (c6 : P.cellsOf f6.type = 1) (o7 : f7.offset = 7) (c7 : P.cellsOf f7.type = 1) (m0 : Mono R0) (p0 : Opn enc P w held N f0.type L0 R0) (m1 : Mono R1) (p1 : Opn enc P w held N f1.type L1 R1) (m2 : Mono R2) (p2 : Opn enc P w held N f2.type L2 R2) (m3 : Mono R3) (p3 : Opn enc P w held N f3.type L3 R3) (m4 : Mono R4) (p4 : Opn enc P w held N f4.type L4 R4) (m5 : Mono R5) (p5 : Opn enc P w held N f5.type L5 R5) (m6 : Mono R6) (p6 : Opn enc P w held N f6.type L6 R6) (m7 : Mono R7) (p7 : Opn enc P w held N f7.type L7 R7) :
    Opn enc P w held (N + 1) T (fun y : α0 × α1 × α2 × α3 × α4 × α5 × α6 × α7 => L0 y.1 ++ L1 y.2.1 ++ L2 y.2.2.1 ++ L3 y.2.2.2.1 ++ L4 y.2.2.2.2.1 ++ L5 y.2.2.2.2.2.1 ++ L6 y.2.2.2.2.2.2.1 ++ L7 y.2.2.2.2.2.2.2) (fun b y => R0 b y.1 ∧ R1 b y.2.1 ∧ R2 b y.2.2.1 ∧ R3 b y.2.2.2.1 ∧ R4 b y.2.2.2.2.1 ∧ R5 b y.2.2.2.2.2.1 ∧ R6 b y.2.2.2.2.2.2.1 ∧ R7 b y.2.2.2.2.2.2.2) := by
  intro fuel hN cs x h hw
  obtain ⟨xs, k, hk, hxy, hlen, hxl, hf⟩ := DataW.trod_struct hT h
  rw [ce] at hlen
  match xs, hxl, cs, hlen with
  | [y0, y1, y2, y3, y4, y5, y6, y7], _, [v0, v1, v2, v3, v4, v5, v6, v7], _ =>
    have g0 := hf 0 f0 rfl
    have g1 := hf 1 f1 rfl
    have g2 := hf 2 f2 rfl
    have g3 := hf 3 f3 rfl
    have g4 := hf 4 f4 rfl
    have g5 := hf 5 f5 rfl
    have g6 := hf 6 f6 rfl
    have g7 := hf 7 f7 rfl
    simp [o0, o1, o2, o3, o4, o5, o6, o7, c0, c1, c2, c3, c4, c5, c6, c7] at g0 g1 g2 g3 g4 g5 g6 g7
    have hwe : DataW.weights P T (.agg [y0.1, y1.1, y2.1, y3.1, y4.1, y5.1, y6.1, y7.1]) = y0.1.weights P f0.type ++ (y1.1.weights P f1.type ++ (y2.1.weights P f2.type ++ (y3.1.weights P f3.type ++ (y4.1.weights P f4.type ++ (y5.1.weights P f5.type ++ (y6.1.weights P f6.type ++ (y7.1.weights P f7.type ++ []))))))) := by simp [DataW.weights, DataW.weightsEach, hT]
    obtain ⟨a0, z0, r0⟩ := p0 k (by omega) _ _ g0 fun n hn => hw n (by subst hxy; simp only [List.map_cons, List.map_nil]; rw [hwe]; simp [hn])
    obtain ⟨a1, z1, r1⟩ := p1 k (by omega) _ _ g1 fun n hn => hw n (by subst hxy; simp only [List.map_cons, List.map_nil]; rw [hwe]; simp [hn])
    obtain ⟨a2, z2, r2⟩ := p2 k (by omega) _ _ g2 fun n hn => hw n (by subst hxy; simp only [List.map_cons, List.map_nil]; rw [hwe]; simp [hn])
    obtain ⟨a3, z3, r3⟩ := p3 k (by omega) _ _ g3 fun n hn => hw n (by subst hxy; simp only [List.map_cons, List.map_nil]; rw [hwe]; simp [hn])
    obtain ⟨a4, z4, r4⟩ := p4 k (by omega) _ _ g4 fun n hn => hw n (by subst hxy; simp only [List.map_cons, List.map_nil]; rw [hwe]; simp [hn])
    obtain ⟨a5, z5, r5⟩ := p5 k (by omega) _ _ g5 fun n hn => hw n (by subst hxy; simp only [List.map_cons, List.map_nil]; rw [hwe]; simp [hn])
    obtain ⟨a6, z6, r6⟩ := p6 k (by omega) _ _ g6 fun n hn => hw n (by subst hxy; simp only [List.map_cons, List.map_nil]; rw [hwe]; simp [hn])
    obtain ⟨a7, z7, r7⟩ := p7 k (by omega) _ _ g7 fun n hn => hw n (by subst hxy; simp only [List.map_cons, List.map_nil]; rw [hwe]; simp [hn])
    refine ⟨⟨a0, a1, a2, a3, a4, a5, a6, a7⟩, ?_, ⟨m0 _ _ _ ?_ r0, m1 _ _ _ ?_ r1, m2 _ _ _ ?_ r2, m3 _ _ _ ?_ r3, m4 _ _ _ ?_ r4, m5 _ _ _ ?_ r5, m6 _ _ _ ?_ r6, m7 _ _ _ ?_ r7⟩⟩
    · show [v0, v1, v2, v3, v4, v5, v6, v7] = L0 a0 ++ L1 a1 ++ L2 a2 ++ L3 a3 ++ L4 a4 ++ L5 a5 ++ L6 a6 ++ L7 a7
      rw [← z0, ← z1, ← z2, ← z3, ← z4, ← z5, ← z6, ← z7]
      rfl
    all_goals
      subst hxy
      simp only [List.map_cons, List.map_nil, Rows.uptoBulk, Rows.uptoBulkAll]
      omega
theorem opn_pair {α0 α1 : Type} {N : Nat} {T : TypeId} {f0 f1 : Field} {L0 : α0 → List Value} {R0 : Nat → α0 → Prop} {L1 : α1 → List Value} {R1 : Nat → α1 → Prop} (hT : P.underlying T = some (.struct #[f0, f1])) (ce : P.cellsOf T = 2) (o0 : f0.offset = 0) (c0 : P.cellsOf f0.type = 1) (o1 : f1.offset = 1) (c1 : P.cellsOf f1.type = 1) (m0 : Mono R0) (p0 : Opn enc P w held N f0.type L0 R0) (m1 : Mono R1) (p1 : Opn enc P w held N f1.type L1 R1) :
    Opn enc P w held (N + 1) T (fun y : α0 × α1 => L0 y.1 ++ L1 y.2) (fun b y => R0 b y.1 ∧ R1 b y.2) := by
  intro fuel hN cs x h hw
  obtain ⟨xs, k, hk, hxy, hlen, hxl, hf⟩ := DataW.trod_struct hT h
  rw [ce] at hlen
  match xs, hxl, cs, hlen with
  | [y0, y1], _, [v0, v1], _ =>
    have g0 := hf 0 f0 rfl
    have g1 := hf 1 f1 rfl
    simp [o0, o1, c0, c1] at g0 g1
    have hwe : DataW.weights P T (.agg [y0.1, y1.1]) = y0.1.weights P f0.type ++ (y1.1.weights P f1.type ++ []) := by simp [DataW.weights, DataW.weightsEach, hT]
    obtain ⟨a0, z0, r0⟩ := p0 k (by omega) _ _ g0 fun n hn => hw n (by subst hxy; simp only [List.map_cons, List.map_nil]; rw [hwe]; simp [hn])
    obtain ⟨a1, z1, r1⟩ := p1 k (by omega) _ _ g1 fun n hn => hw n (by subst hxy; simp only [List.map_cons, List.map_nil]; rw [hwe]; simp [hn])
    refine ⟨⟨a0, a1⟩, ?_, ⟨m0 _ _ _ ?_ r0, m1 _ _ _ ?_ r1⟩⟩
    · show [v0, v1] = L0 a0 ++ L1 a1
      rw [← z0, ← z1]
      rfl
    all_goals
      subst hxy
      simp only [List.map_cons, List.map_nil, Rows.uptoBulk, Rows.uptoBulkAll]
      omega
theorem Opn.map {α β : Type} {N : Nat} {T : TypeId} {L : α → List Value} {R : Nat → α → Prop} {L' : β → List Value} {R' : Nat → β → Prop} (h : Opn enc P w held N T L R) (g : α → β) (hL : ∀ y, L' (g y) = L y) (hR : ∀ b y, R b y → R' b (g y)) : Opn enc P w held N T L' R' := fun fuel hf cs x h1 h2 => by
  obtain ⟨y, hy, hr⟩ := h fuel hf cs x h1 h2
  exact ⟨g y, hy.trans (hL y).symm, hR _ _ hr⟩
end
theorem mono_k {α : Type} (p : α → Prop) : Mono (fun _ => p) := fun _ _ _ _ h => h
section
variable {H : Type} {enc : TypeId × Value → H} {w : World} {held : Bool}
abbrev xL (e : Xt) : List Value := [.int .i64 e.k, .int .i64 e.op, .int .i64 e.t, .int .i64 e.v, .string e.nm, .slice e.A e.ar.length e.c]
def ROx (w : World) (b : Nat) (e : Xt) : Prop := RsX w w.heap.size e ∧ e.size ≤ b
theorem mono_X : Mono (ROx w) := fun _ _ _ h k => ⟨k.1, Nat.le_trans k.2 h⟩
set_option maxRecDepth 100000 in
theorem opn_expr (N : Nat) : Opn enc Tryz.prog w held N 33 xL (ROx w) := fun fuel _ cs x h hw => by
  obtain ⟨e, he, hR, hN, hZ⟩ := rd_exprU Tryz.underlying33 (by kernel_rfl) rfl rfl rfl rfl rfl rfl (by kernel_rfl) (by kernel_rfl) (by kernel_rfl) (by kernel_rfl) (by kernel_rfl) (by kernel_rfl) Tryz.underlying3 Tryz.underlying3 Tryz.underlying3 Tryz.underlying3 Tryz.underlying9 Tryz.underlying31 fuel _ _ h hw
  exact ⟨e, he, ⟨hR, hN⟩, hZ⟩
theorem ofcX (a : Addr) (y : Xt) (h : ∀ j u, (xL y)[j]? = some u → w.cell? (a.add j) = some u) : XC w a y :=
  ⟨by have := h 0 _ rfl; rwa [add_zero'] at this, by have := h 1 _ rfl; simpa [Addr.add] using this, by have := h 2 _ rfl; simpa [Addr.add] using this, by have := h 3 _ rfl; simpa [Addr.add] using this, by have := h 4 _ rfl; simpa [Addr.add] using this, by have := h 5 _ rfl; simpa [Addr.add] using this⟩
abbrev oL (o : Ot) : List Value := [.string o.nm, .int .i64 o.t, .int .i64 o.tag]
set_option maxRecDepth 100000 in
theorem opn_on (N : Nat) : Opn enc Tryz.prog w held N 57 oL (fun _ o => o.nm.size ≤ 140737488351232 ∧ o.t ≤ 9223372036854775807) :=
  ((opn_three Tryz.underlying57 (by kernel_rfl) rfl (by kernel_rfl) rfl (by kernel_rfl) rfl (by kernel_rfl) (mono_k _) (opn_str (N := N) Tryz.underlying9) (mono_k _) (opn_int Tryz.underlying3) (mono_k _) (opn_int Tryz.underlying3)).mono (Nat.le_succ _)).map (fun y => ⟨y.1, y.2.1, y.2.2⟩) (fun _ => rfl) fun b y h => ⟨h.1, h.2.1⟩
theorem ofcO (a : Addr) (y : Ot) (h : ∀ j u, (oL y)[j]? = some u → w.cell? (a.add j) = some u) : OC w a y :=
  ⟨by have := h 0 _ rfl; rwa [add_zero'] at this, by have := h 1 _ rfl; simpa [Addr.add] using this, by have := h 2 _ rfl; simpa [Addr.add] using this⟩
abbrev dL (o : Dt) : List Value := [.string o.nm, .int .i64 o.ty, .slice o.ck.A o.ck.l.length o.ck.c]
theorem ofcD (a : Addr) (y : Dt) (h : ∀ j u, (dL y)[j]? = some u → w.cell? (a.add j) = some u) : DC w a y :=
  ⟨by have := h 0 _ rfl; rwa [add_zero'] at this, by have := h 1 _ rfl; simpa [Addr.add] using this, by have := h 2 _ rfl; simpa [Addr.add] using this⟩
theorem ofcB (a : Addr) (y : ByteArray) (h : ∀ j u, [Value.string y][j]? = some u → w.cell? (a.add j) = some u) : BC w a y := by have := h 0 _ rfl; rwa [add_zero'] at this
abbrev qL (q : Qt) : List Value := [.slice q.lf.A q.lf.l.length q.lf.c, .int .i64 q.r.k, .int .i64 q.r.op, .int .i64 q.r.t, .int .i64 q.r.v, .string q.r.nm, .slice q.r.A q.r.ar.length q.r.c]
theorem ofcQ (a : Addr) (y : Qt) (h : ∀ j u, (qL y)[j]? = some u → w.cell? (a.add j) = some u) : QC w a y :=
  ⟨by have := h 0 _ rfl; rwa [add_zero'] at this, by have := h 1 _ rfl; simpa [Addr.add] using this, by have := h 2 _ rfl; simpa [Addr.add] using this, by have := h 3 _ rfl; simpa [Addr.add] using this, by have := h 4 _ rfl; simpa [Addr.add] using this, by have := h 5 _ rfl; simpa [Addr.add] using this, by have := h 6 _ rfl; simpa [Addr.add] using this⟩
abbrev tL (t : Tt) : List Value := [.int .i64 t.cd.k, .int .i64 t.cd.op, .int .i64 t.cd.t, .int .i64 t.cd.v, .string t.cd.nm, .slice t.cd.A t.cd.ar.length t.cd.c, .int .i64 t.to, .bool t.re]
def ROt (w : World) (b : Nat) (t : Tt) : Prop := RsX w w.heap.size t.cd ∧ t.cd.size ≤ b
set_option maxRecDepth 100000 in
theorem opn_tr (N : Nat) : Opn enc Tryz.prog w held N 160 tL (ROt w) :=
  ((opn_trans Tryz.underlying160 (by kernel_rfl) rfl (by kernel_rfl) rfl (by kernel_rfl) rfl (by kernel_rfl) mono_X (opn_expr N) (mono_k _) (opn_int Tryz.underlying3) (mono_k _) (opn_bool Tryz.underlying4)).mono (Nat.le_succ _)).map (fun y => ⟨y.1, y.2.1, y.2.2⟩) (fun _ => rfl) fun b y h => h.1
theorem ofcT (a : Addr) (y : Tt) (h : ∀ j u, (tL y)[j]? = some u → w.cell? (a.add j) = some u) : TC w a y :=
  ⟨⟨by have := h 0 _ rfl; rwa [add_zero'] at this, by have := h 1 _ rfl; simpa [Addr.add] using this, by have := h 2 _ rfl; simpa [Addr.add] using this, by have := h 3 _ rfl; simpa [Addr.add] using this, by have := h 4 _ rfl; simpa [Addr.add] using this, by have := h 5 _ rfl; simpa [Addr.add] using this⟩, by have := h 6 _ rfl; simpa [Addr.add] using this, by have := h 7 _ rfl; simpa [Addr.add] using this⟩
abbrev sL (s : St) : List Value := [.string s.nm, .slice s.lc.A s.lc.l.length s.lc.c, .slice s.qs.A s.qs.l.length s.qs.c, .slice s.au.A s.au.l.length s.au.c, .slice s.un.A s.un.l.length s.un.c, .slice s.ut.A s.ut.l.length s.ut.c]
theorem SmS.mono {a b : Nat} {s : St} (h : SmS a s) (hab : a ≤ b) : SmS b s := by
  induction h with
  | mk s h1 h2 h3 h4 ih => exact .mk s (fun q hq => Nat.le_trans (h1 q hq) hab) (fun q hq => Nat.le_trans (h2 q hq) hab) (fun q hq => Nat.le_trans (h3 q hq) hab) ih
theorem ofcS (a : Addr) (y : St) (h : ∀ j u, (sL y)[j]? = some u → w.cell? (a.add j) = some u) : SC w a y :=
  ⟨by have := h 0 _ rfl; rwa [add_zero'] at this, by have := h 1 _ rfl; simpa [Addr.add] using this, by have := h 2 _ rfl; simpa [Addr.add] using this, by have := h 3 _ rfl; simpa [Addr.add] using this, by have := h 4 _ rfl; simpa [Addr.add] using this, by have := h 5 _ rfl; simpa [Addr.add] using this⟩
theorem ofcA (a : Addr) (y : Rw St) (h : ∀ j u, (rowL y)[j]? = some u → w.cell? (a.add j) = some u) : AC w a y := by have := h 0 _ rfl; rwa [add_zero'] at this
abbrev nL (n : Nt) : List Value := [.string n.nm, .slice n.ins.A n.ins.l.length n.ins.c, .slice n.outs.A n.outs.l.length n.outs.c, .slice n.locs.A n.locs.l.length n.locs.c, .slice n.qs.A n.qs.l.length n.qs.c, .slice n.au.A n.au.l.length n.au.c, .slice n.asm.A n.asm.l.length n.asm.c, .slice n.ens.A n.ens.l.length n.ens.c]
theorem ofcN (a : Addr) (y : Nt) (h : ∀ j u, (nL y)[j]? = some u → w.cell? (a.add j) = some u) : NC w a y :=
  ⟨by have := h 0 _ rfl; rwa [add_zero'] at this, by have := h 1 _ rfl; simpa [Addr.add] using this, by have := h 2 _ rfl; simpa [Addr.add] using this, by have := h 3 _ rfl; simpa [Addr.add] using this, by have := h 4 _ rfl; simpa [Addr.add] using this, by have := h 5 _ rfl; simpa [Addr.add] using this, by have := h 6 _ rfl; simpa [Addr.add] using this, by have := h 7 _ rfl; simpa [Addr.add] using this⟩
abbrev prL (p : Pt) : List Value := [.slice p.es.A p.es.l.length p.es.c, .slice p.ns.A p.ns.l.length p.ns.c]
end
end Go.Proofs.YtoimjcfdiljkjaaGreatDoor
namespace Go.Proofs.YtoimjcfdiljkjaaGreatDoor
open Go.ChangeShapes Go.WideShapes Go.ChangeAt Go.RowKit Go.Deep Go.WideElems
theorem mem_sum {α : Type} {l : List α} {f : α → Nat} {a : α} (h : a ∈ l) : f a ≤ (l.map f).sum := by
  induction l with
  | nil => cases h
  | cons b l ih =>
    rw [List.map_cons, List.sum_cons]
    rcases List.mem_cons.1 h with rfl | h
    · omega
    · have := ih h; omega
section
variable {H : Type} {enc : TypeId × Value → H} {P : Program} {w : World} {held : Bool}
end
end Go.Proofs.YtoimjcfdiljkjaaGreatDoor
namespace Go.Proofs.YtoimjcfdiljkjaaGreatDoor
open Go.ChangeShapes Go.WideShapes Go.ChangeAt Go.RowKit Go.Deep Go.WideElems
section
variable {H : Type} {enc : TypeId × Value → H} {P : Program} {w : World} {held : Bool}
theorem opl_row {α : Type} {N : Nat} {T e : TypeId} {sz : Nat} {C : World → Addr → α → Prop} {L : α → List Value} {R : α → Prop} (ht : P.underlying T = some (.slice e)) (ce : P.cellsOf e = sz) (hby : decide (0 < P.bytesOf e) = true) (hbl : ∀ a y, C w a y → a.block < w.heap.size)
    (hC : ∀ (a : Addr) y, (∀ j u, (L y)[j]? = some u → w.cell? (a.add j) = some u) → C w a y) (he : Opn enc P w held N e L (fun _ => R)) :
    Opn enc P w held (N + 1) T rowL (fun _ (r : Rw α) => (RdR w w.heap.size sz C r ∧ r.l.length ≤ 140737488355328) ∧ ∀ y ∈ r.l, R y) := by
  intro fuel hN cs x h hw
  rcases DataW.trod_slice ht h with ⟨hv, hx⟩ | ⟨a, len, cap, elems, rest, n, hkn, hv, hx0, _, hl, hm2, hel, hx, _, _⟩
  · exact ⟨⟨none, 0, []⟩, hv, ⟨RdR.nil _ _ _ _ _, Nat.zero_le _⟩, (fun y h => by cases h)⟩
  · have hby := of_decide_eq_true hby
    have h9 : len ≤ 140737488355328 := by
      have h8 := hw _ (by
        rw [hx0]
        simp only [DataW.weights, ht, List.mem_cons]
        exact .inl rfl)
      rw [List.length_map] at h8
      unfold reachBytes at h8
      have h7 := Nat.le_mul_of_pos_right (elems.length + (rest.map (·.1)).length) hby
      omega
    have key : ∀ i, i < len → ∃ y : α, C w (a.add (i * sz)) y ∧ R y := by
      intro i hi
      have h1 := hx i hi
      rw [ce, List.getElem?_eq_getElem (by omega)] at h1
      obtain ⟨cs', h2, h3⟩ := Option.bind_eq_some_iff.1 h1
      obtain ⟨_, hlen', hcell⟩ := World.cells?_some h2
      obtain ⟨y, hL, hR⟩ := he n (by omega) cs' _ h3 fun m hm => hw m (by
        rw [hx0]
        simp only [DataW.weights, ht, List.mem_cons, List.mem_append]
        exact .inr (.inl (mem_wAll (List.mem_map_of_mem (List.getElem_mem (by omega))) m hm)))
      refine ⟨y, hC _ _ fun j u hu => ?_, hR⟩
      rw [← hL] at hu
      have hj := (List.getElem?_eq_some_iff.1 hu).1
      rw [hcell j (by omega)]
      exact hu
    obtain ⟨l, hll, hp⟩ := choose_list len key
    refine ⟨⟨some a, cap, l⟩, by rw [rowL, hll]; exact hv, ⟨⟨fun hne => ⟨a, rfl, ?_⟩, fun ad i y hA hy => ?_, by simp only; omega, by simp only; omega⟩, by simp only; omega⟩, fun y hy => ?_⟩
    · have h0 : 0 < l.length := List.length_pos_iff.2 hne
      have := hbl _ _ (hp 0 _ (List.getElem?_eq_getElem h0)).1
      rwa [add_block] at this
    · obtain rfl : a = ad := Option.some.inj hA
      exact (hp i y hy).1
    · obtain ⟨j, hj⟩ := List.getElem?_of_mem hy
      exact (hp j y hj).2
end
section
variable {H : Type} {enc : TypeId × Value → H} {w : World} {held : Bool}
theorem opl_expr (N : Nat) : Opn enc Tryz.prog w held N 33 xL (fun _ x => RsX w w.heap.size x) := (opn_expr N).imp fun _ _ h => h.1
set_option maxRecDepth 100000 in
theorem opl_exprs (N : Nat) : Opn enc Tryz.prog w held N 31 rowL (fun _ r => RsXs w w.heap.size r ∧ r.l.length ≤ 140737488355328) :=
  ((opl_row (C := XC) Tryz.underlying31 (by kernel_rfl) (by kernel_rfl) (fun _ _ h => World.block_lt_of_cell? w _ h.1) ofcX (opl_expr N)).mono (Nat.le_succ _)).imp fun b r h => ⟨⟨h.1.1, h.2⟩, h.1.2⟩
set_option maxRecDepth 100000 in
theorem opl_ons (N : Nat) : Opn enc Tryz.prog w held N 38 rowL (fun _ r => RsO w w.heap.size r ∧ r.l.length ≤ 140737488355328) :=
  ((opl_row (C := OC) Tryz.underlying38 (by kernel_rfl) (by kernel_rfl) (fun _ _ h => World.block_lt_of_cell? w _ h.1) ofcO (opn_on N)).mono (Nat.le_succ _)).imp fun b r h => ⟨⟨h.1.1, h.2⟩, h.1.2⟩
set_option maxRecDepth 100000 in
theorem opl_decl (N : Nat) : Opn enc Tryz.prog w held N 50 dL (fun _ o => RsD w w.heap.size o ∧ o.ck.l.length ≤ 140737488355328) :=
  ((opn_three Tryz.underlying50 (by kernel_rfl) rfl (by kernel_rfl) rfl (by kernel_rfl) rfl (by kernel_rfl) (mono_k _) (opn_str (N := N) Tryz.underlying9) (mono_k _) (opn_int Tryz.underlying3) (mono_k _) (opl_ons N)).mono (Nat.le_succ _)).map (fun y => ⟨y.1, y.2.1, y.2.2⟩) (fun _ => rfl) fun b y h => ⟨⟨⟨h.1, h.2.1⟩, h.2.2.1⟩, h.2.2.2⟩
set_option maxRecDepth 100000 in
theorem opl_decls (N : Nat) : Opn enc Tryz.prog w held N 41 rowL (fun _ r => RsDs w w.heap.size r ∧ LnD r) :=
  ((opl_row (C := DC) Tryz.underlying41 (by kernel_rfl) (by kernel_rfl) (fun _ _ h => World.block_lt_of_cell? w _ h.1) ofcD (opl_decl N)).mono (Nat.le_succ _)).imp fun b r h => ⟨⟨h.1.1, fun d hd => (h.2 d hd).1⟩, h.1.2, fun d hd => ⟨(h.2 d hd).2, (h.2 d hd).1.1.1⟩⟩
set_option maxRecDepth 100000 in
theorem opl_texts (N : Nat) : Opn enc Tryz.prog w held N 51 rowL (fun _ r => RsB w w.heap.size r ∧ r.l.length ≤ 140737488355328) :=
  ((opl_row (C := BC) Tryz.underlying51 (by kernel_rfl) (by kernel_rfl) (fun _ _ h => World.block_lt_of_cell? w _ h) ofcB (opn_str (N := N) Tryz.underlying9)).mono (Nat.le_succ _)).imp fun b r h => ⟨⟨h.1.1, h.2⟩, h.1.2⟩
set_option maxRecDepth 100000 in
theorem opl_eq (N : Nat) : Opn enc Tryz.prog w held N 54 qL (fun _ q => RsQ w w.heap.size q ∧ q.lf.l.length ≤ 140737488355328) :=
  ((opn_two Tryz.underlying54 (by kernel_rfl) rfl (by kernel_rfl) rfl (by kernel_rfl) (mono_k _) (opl_texts N) (mono_k _) (opl_expr N)).mono (Nat.le_succ _)).map (fun y => ⟨y.1, y.2⟩) (fun _ => rfl) fun b y h => ⟨⟨h.1.1, h.2⟩, h.1.2⟩
set_option maxRecDepth 100000 in
theorem opl_eqs (N : Nat) : Opn enc Tryz.prog w held N 42 rowL (fun _ r => RsQs w w.heap.size r ∧ LnQ r) :=
  ((opl_row (C := QC) Tryz.underlying42 (by kernel_rfl) (by kernel_rfl) (fun _ _ h => World.block_lt_of_cell? w _ h.1) ofcQ (opl_eq N)).mono (Nat.le_succ _)).imp fun b r h => ⟨⟨h.1.1, fun q hq => (h.2 q hq).1⟩, h.1.2, fun q hq => (h.2 q hq).2⟩
theorem opl_tr (N : Nat) : Opn enc Tryz.prog w held N 160 tL (fun _ t => RsX w w.heap.size t.cd) := (opn_tr N).imp fun _ _ h => h.1
set_option maxRecDepth 100000 in
theorem opl_trs (N : Nat) : Opn enc Tryz.prog w held N 93 rowL (fun _ r => RsTs w w.heap.size r ∧ r.l.length ≤ 140737488355328) :=
  ((opl_row (C := TC) Tryz.underlying93 (by kernel_rfl) (by kernel_rfl) (fun _ _ h => World.block_lt_of_cell? w _ h.1.1) ofcT (opl_tr N)).mono (Nat.le_succ _)).imp fun b r h => ⟨⟨h.1.1, h.2⟩, h.1.2⟩
def LnA (r : Rw (Rw St)) : Prop := r.l.length ≤ 140737488355328 ∧ ∀ a ∈ r.l, ∀ t ∈ a.l, LnS t
set_option maxRecDepth 100000 in
theorem opl_autos_of {N : Nat} (h : Opn enc Tryz.prog w held N 95 sL (fun _ s => RsS w w.heap.size s ∧ LnS s)) : Opn enc Tryz.prog w held N 43 rowL (fun _ r => RsAs w w.heap.size r ∧ LnA r) := by
  have h1 : Opn enc Tryz.prog w held N 90 rowL (fun _ a => RsA w w.heap.size a ∧ ∀ t ∈ a.l, LnS t) := ((opl_row (C := SC) Tryz.underlying90 (by kernel_rfl) (by kernel_rfl) (fun _ _ h => World.block_lt_of_cell? w _ h.1) ofcS h).mono (Nat.le_succ _)).imp fun b r h => ⟨⟨h.1.1, fun x hx => (h.2 x hx).1⟩, fun x hx => (h.2 x hx).2⟩
  have h2 : Opn enc Tryz.prog w held N 92 rowL (fun _ a => RsA w w.heap.size a ∧ ∀ t ∈ a.l, LnS t) := (opn_one Tryz.underlying92 (by kernel_rfl) rfl (by kernel_rfl) (mono_k _) h1).mono (Nat.le_succ _)
  exact ((opl_row (C := AC) Tryz.underlying43 (by kernel_rfl) (by kernel_rfl) (fun _ _ h => World.block_lt_of_cell? w _ h) ofcA h2).mono (Nat.le_succ _)).imp fun b r h => ⟨⟨h.1.1, fun x hx => (h.2 x hx).1⟩, h.1.2, fun x hx => (h.2 x hx).2⟩
set_option maxRecDepth 100000 in
theorem opl_state (N : Nat) : Opn enc Tryz.prog w held N 95 sL (fun _ s => RsS w w.heap.size s ∧ LnS s) := by
  induction N with
  | zero => exact fun _ h => absurd h (Nat.not_lt_zero _)
  | succ N ih =>
    exact (opn_six Tryz.underlying95 (by kernel_rfl) rfl (by kernel_rfl) rfl (by kernel_rfl) rfl (by kernel_rfl) rfl (by kernel_rfl) rfl (by kernel_rfl) rfl (by kernel_rfl) (mono_k _) (opn_str (N := N) Tryz.underlying9) (mono_k _) (opl_decls N) (mono_k _) (opl_eqs N) (mono_k _) (opl_autos_of ih) (mono_k _) (opl_trs N) (mono_k _) (opl_trs N)).map (fun y => .mk y.1 y.2.1 y.2.2.1 y.2.2.2.1 y.2.2.2.2.1 y.2.2.2.2.2) (fun _ => rfl) fun b y h =>
      ⟨.mk _ h.1 h.2.1.1 h.2.2.1.1 h.2.2.2.1.1.1 (fun a ha => (h.2.2.2.1.1.2 a ha).1) (fun a ha => (h.2.2.2.1.1.2 a ha).2) h.2.2.2.2.1.1 h.2.2.2.2.2.1, .mk _ h.2.1.2 h.2.2.1.2 h.2.2.2.2.1.2 h.2.2.2.2.2.2 h.2.2.2.1.2.1 h.2.2.2.1.2.2⟩
set_option maxRecDepth 100000 in
theorem opl_node (N : Nat) : Opn enc Tryz.prog w held N 45 nL (fun _ n => RsN w w.heap.size n ∧ LnN n) :=
  ((opn_eight Tryz.underlying45 (by kernel_rfl) rfl (by kernel_rfl) rfl (by kernel_rfl) rfl (by kernel_rfl) rfl (by kernel_rfl) rfl (by kernel_rfl) rfl (by kernel_rfl) rfl (by kernel_rfl) rfl (by kernel_rfl) (mono_k _) (opn_str (N := N) Tryz.underlying9) (mono_k _) (opl_decls N) (mono_k _) (opl_decls N) (mono_k _) (opl_decls N) (mono_k _) (opl_eqs N) (mono_k _) (opl_autos_of (opl_state N)) (mono_k _) (opl_exprs N) (mono_k _) (opl_exprs N)).mono (Nat.le_succ _)).map (fun y => ⟨y.1, y.2.1, y.2.2.1, y.2.2.2.1, y.2.2.2.2.1, y.2.2.2.2.2.1, y.2.2.2.2.2.2.1, y.2.2.2.2.2.2.2⟩) (fun _ => rfl) fun b y h =>
    ⟨⟨h.1, h.2.1.1, h.2.2.1.1, h.2.2.2.1.1, h.2.2.2.2.1.1, h.2.2.2.2.2.1.1, h.2.2.2.2.2.2.1.1, h.2.2.2.2.2.2.2.1⟩, ⟨h.2.1.2, h.2.2.1.2, h.2.2.2.1.2, h.2.2.2.2.1.2, h.2.2.2.2.2.1.2, h.2.2.2.2.2.2.1.2, h.2.2.2.2.2.2.2.2⟩⟩
set_option maxRecDepth 100000 in
theorem opl_nodes (N : Nat) : Opn enc Tryz.prog w held N 23 rowL (fun _ r => (RdR w w.heap.size 8 NC r ∧ ∀ n ∈ r.l, RsN w w.heap.size n) ∧ (r.l.length ≤ 140737488355328 ∧ ∀ n ∈ r.l, LnN n)) :=
  ((opl_row (C := NC) Tryz.underlying23 (by kernel_rfl) (by kernel_rfl) (fun _ _ h => World.block_lt_of_cell? w _ h.1) ofcN (opl_node N)).mono (Nat.le_succ _)).imp fun b r h => ⟨⟨h.1.1, fun x hx => (h.2 x hx).1⟩, h.1.2, fun x hx => (h.2 x hx).2⟩
abbrev eL (e : va.En) : List Value := [.string e.name, .slice e.A e.tags.length e.c]
theorem ofcE (a : Addr) (y : va.En) (h : ∀ j u, (eL y)[j]? = some u → w.cell? (a.add j) = some u) : EC w a y :=
  ⟨by have := h 0 _ rfl; rwa [add_zero'] at this, by have := h 1 _ rfl; simpa [Addr.add] using this⟩
set_option maxRecDepth 100000 in
theorem opl_enum (N : Nat) : Opn enc Tryz.prog w held N 73 eL (fun _ y => ((Rd w w.heap.size y.A (va.ss y.tags)) ∧ y.name.size ≤ 140737488351232 ∧ (y.tags.length ≤ maxLen ∧ y.tags.length ≤ y.c) ∧ ∀ b ∈ y.tags, b.size ≤ 140737488351232) ∧ y.tags.length ≤ 140737488355328) :=
  ((opn_pair Tryz.underlying73 (by kernel_rfl) rfl (by kernel_rfl) rfl (by kernel_rfl) (mono_k _) (opn_str (N := N) Tryz.underlying9) (mono_k _) (opl_texts N)).mono (Nat.le_succ _)).map (fun y => ⟨y.1, y.2.A, y.2.c, y.2.l⟩) (fun _ => rfl) fun b y h => ⟨⟨rd_of_rdr h.2.1.1, h.1, ⟨h.2.1.1.2.2.1, h.2.1.1.2.2.2⟩, h.2.1.2⟩, h.2.2⟩
set_option maxRecDepth 100000 in
theorem opl_enums (N : Nat) : Opn enc Tryz.prog w held N 22 rowL (fun _ r => RsE w w.heap.size r ∧ (r.l.length ≤ 140737488355328 ∧ ∀ e ∈ r.l, e.tags.length ≤ 140737488355328)) :=
  ((opl_row (C := EC) Tryz.underlying22 (by kernel_rfl) (by kernel_rfl) (fun _ _ h => World.block_lt_of_cell? w _ h.1) ofcE (opl_enum N)).mono (Nat.le_succ _)).imp fun b r h => by
    obtain ⟨⟨h2, h5⟩, h3⟩ := h
    refine ⟨⟨⟨fun hn => ?_, fun i e he => (h3 e (List.mem_of_getElem? he)).1.1⟩, ⟨h2.2.2.1, h2.2.2.2⟩, fun e he => (h3 e he).1.2⟩, h5, fun e he => (h3 e he).2⟩
    obtain ⟨ad, hA, hb⟩ := h2.1 hn
    refine ⟨ad, hA, hb, fun i e he => ?_⟩
    have := h2.2.1 ad i e hA he
    exact ⟨this.1, by rw [va.add_fld]; exact this.2⟩
set_option maxRecDepth 100000 in
theorem opl_prog (N : Nat) : Opn enc Tryz.prog w held N 25 prL (fun _ p => RsP w w.heap.size p ∧ LnP p) :=
  ((opn_pair Tryz.underlying25 (by kernel_rfl) rfl (by kernel_rfl) rfl (by kernel_rfl) (mono_k _) (opl_enums N) (mono_k _) (opl_nodes N)).mono (Nat.le_succ _)).map (fun y => ⟨y.1, y.2⟩) (fun _ => rfl) fun b y h => ⟨⟨h.1.1, h.2.1.1, h.2.1.2⟩, h.1.2, h.2.2.1, h.2.2.2⟩
set_option maxRecDepth 100000 in
theorem open_progL {b0 : Nat} {r : Reach} {v : Value} {d : DataW H} {p : List MemPlace} (hv : Value.okWide Tryz.prog w r b0 25 v) (h : DataW.Trod enc Tryz.prog w 0 (fun _ => true) held 25 v d p) (hsz : ∀ n ∈ d.weights Tryz.prog 25, n ≤ reachBytes) :
    ∃ x : Pt, v = pV x ∧ RsP w w.heap.size x ∧ LnP x := by
  obtain ⟨cs, rfl, hs⟩ := okWide_struct Tryz.underlying25 hv
  obtain ⟨fuel, hf⟩ := h
  obtain ⟨x, hx, hR, hN⟩ := opl_prog (fuel + 1) fuel (Nat.lt_succ_self _) _ _ hf hsz
  refine ⟨x, ?_, hR, hN⟩
  have : cs.toList = _ := hx
  congr 1
  exact Array.toList_inj.1 this
end
end Go.Proofs.YtoimjcfdiljkjaaGreatDoor
namespace Go.Proofs.YtoimjcfdiljkjaaGreatDoor
open Go.RowKit
theorem ids_66 {l : List ByteArray} (h : errs (l.map idE) = 0) : ∀ b ∈ l, b.size ≤ 66 := fun b hb => by
  have := errs_zero.1 h _ (List.mem_map_of_mem hb)
  unfold idE at this
  split at this
  · rename_i hi; exact id_size hi
  · omega
theorem enum_ok {e : va.En} (h : enumE e = 0) : e.name.size ≤ 66 ∧ e.tags.length ≤ 16 ∧ ∀ b ∈ e.tags, b.size ≤ 66 := by
  unfold enumE at h
  split at h
  · rename_i hi
    split at h
    · omega
    · split at h
      · omega
      · exact ⟨id_size hi, by omega, ids_66 h⟩
  · omega
theorem name_66 {es : List va.En} (h : ∀ e ∈ es, e.name.size ≤ 66) (t : Int) : (va.nameT es t).size ≤ 66 := by
  unfold va.nameT
  split
  · decide
  · split
    · decide
    · split
      · cases he : es[(t - 3).toNat]? with
        | none => exact Nat.zero_le 66
        | some e => exact h e (List.mem_of_getElem? he)
      · exact Nat.zero_le 66
def OkD (d : Dt) : Prop := d.nm.size ≤ 66 ∧ d.ck.l.length ≤ 4 ∧ ∀ o ∈ d.ck.l, o.nm.size ≤ 66
theorem on_ok {es : List va.En} {o : Ot} (h : onE es o = 0) : o.nm.size ≤ 66 := by
  unfold onE at h
  split at h
  · rename_i hi; exact id_size hi
  · omega
theorem dcl_ok {es : List va.En} {d : Dt} (h : dclE es d = 0) : d.nm.size ≤ 66 := by
  unfold dclE at h
  split at h
  · rename_i hi; exact id_size hi
  · omega
theorem loc_ok {es : List va.En} {d : Dt} (h : locE es d = 0) : OkD d := by
  unfold locE at h
  obtain ⟨h1, h2⟩ := orE_zero.1 h
  split at h2
  · omega
  · exact ⟨dcl_ok h1, by omega, fun o ho => on_ok (errs_zero.1 h2 _ (List.mem_map_of_mem ho))⟩
theorem port_ok {es : List va.En} {d : Dt} (h : portE es d = 0) : OkD d := by
  unfold portE at h
  obtain ⟨h1, h2⟩ := orE_zero.1 h
  split at h2
  · omega
  · refine ⟨dcl_ok h1, by omega, fun o ho => ?_⟩
    have := List.length_pos_of_mem ho
    omega
theorem sum_le {α : Type} (l : List α) (f g : α → Nat) (c : Nat) (h : ∀ x ∈ l, f x ≤ c * (1 + g x)) : (l.map f).sum ≤ c * (l.length + (l.map g).sum) := by
  induction l with
  | nil => simp
  | cons a l ih =>
    have h1 := h a List.mem_cons_self
    have h2 := ih fun x hx => h x (List.mem_cons_of_mem _ hx)
    rw [List.map_cons, List.map_cons, List.sum_cons, List.sum_cons, List.length_cons]
    rw [Nat.mul_add] at h1 h2
    rw [Nat.mul_add, Nat.mul_add, Nat.mul_add]
    omega
theorem flat_sum {α : Type} (l : List α) (f : α → List UInt8) (g : α → Nat) (c : Nat) (h : ∀ x ∈ l, (f x).length ≤ c * (1 + g x)) : (l.map f).flatten.length ≤ c * (l.length + (l.map g).sum) := by
  rw [List.length_flatten, List.map_map]
  exact sum_le l _ g c h
theorem joi_sum {α : Type} (l : List α) (f : α → List UInt8) (g : α → Nat) (c : Nat) (sep : List UInt8) (h : ∀ x ∈ l, (f x).length + sep.length ≤ c * (1 + g x)) : (Lib.join (l.map f) sep).length ≤ c * (l.length + (l.map g).sum) := by
  refine Nat.le_trans (join_len _ sep) ?_
  rw [List.map_map]
  exact sum_le l _ g c h
def OkE (es : List va.En) : Prop := ∀ e ∈ es, e.name.size ≤ 66 ∧ e.tags.length ≤ 16 ∧ ∀ b ∈ e.tags, b.size ≤ 66
theorem val_66 {es : List va.En} (h : OkE es) (t v : Int) : (valS es t v).length ≤ 66 := val_len es 66 (by decide) (fun e he => (h e he).2.2) t v
theorem dcl_le {es : List va.En} (h : OkE es) {d : Dt} (hd : OkD d) : (dclS es d).length ≤ 200 + 200 * d.ck.l.length := by
  have h1 := clk_len es 66 (by decide) d.ck.l (val_66 h) hd.2.2
  have h2 : (bsT (va.nameT es d.ty)).length ≤ 66 := by rw [bsT_size]; exact name_66 (fun e he => (h e he).1) _
  have h3 : (bsT d.nm).length ≤ 66 := by rw [bsT_size]; exact hd.1
  unfold dclS
  split
  · simp only [List.length_append, List.length_cons, List.length_nil]
    omega
  · simp only [List.length_append, List.length_cons, List.length_nil]
    omega
theorem dcs_le {es : List va.En} (h : OkE es) {l : List Dt} (hd : ∀ d ∈ l, OkD d) : (dcsS es l).length ≤ 300 * cDs l :=
  joi_sum l (dclS es) cD 300 [59, 32] fun d hm => by
    have := dcl_le h (hd d hm)
    unfold cD
    simp only [List.length_cons, List.length_nil]
    omega
theorem lin_eq (n : Nat) (s : List UInt8) : (linS n s).length = 2 * n + s.length + 1 := by
  unfold linS
  simp only [List.length_append, List.length_flatten, List.map_replicate, List.sum_replicate_nat, List.length_cons, List.length_nil]
  omega
theorem lcs_le {es : List va.En} (h : OkE es) {l : List Dt} (hd : ∀ d ∈ l, OkD d) {n : Nat} (hn : n ≤ 20) : (lcsS es n l).length ≤ 400 * cDs l := by
  have h1 := dcs_le h hd
  unfold lcsS
  split
  · rename_i h0
    rw [lin_eq]
    have h2 : 1 ≤ cDs l := by unfold cDs; omega
    simp only [List.length_append, List.length_cons, List.length_nil]
    omega
  · simp
def OkX (es : List va.En) (x : Xt) : Prop := (∀ y ∈ x.list, wfK y) ∧ (x.tx es).length ≤ 300 * x.size
theorem exp_ok {es : List va.En} (h : OkE es) {x : Xt} (hx : expE es x = 0) {w : World} {B : Nat} (hr : RsX w B x) : OkX es x := by
  have h1 := (exp_wf hx fun y hy => (hr.2 y hy).2).1
  have h2 := tx_len es 66 (val_66 h) x fun y hy => (h1 y hy).2
  exact ⟨fun y hy => (h1 y hy).1, by omega⟩
def OkQ (es : List va.En) (q : Qt) : Prop := (q.lf.l.length ≤ 64 ∧ ∀ b ∈ q.lf.l, b.size ≤ 66) ∧ OkX es q.r
theorem eqn_ok {es : List va.En} (h : OkE es) {q : Qt} (hq : eqnE es q = 0) {w : World} {B : Nat} (hr : RsX w B q.r) : OkQ es q := by
  unfold eqnE at hq
  split at hq
  · omega
  · split at hq
    · omega
    · obtain ⟨h1, h2⟩ := orE_zero.1 hq
      obtain ⟨h2, _⟩ := orE_zero.1 h2
      exact ⟨⟨by omega, ids_66 h1⟩, exp_ok h h2 hr⟩
theorem lft_le {l : List ByteArray} (h : ∀ b ∈ l, b.size ≤ 66) : (lftS l).length ≤ 2 + 68 * l.length := by
  have h1 := joi_sum l bsT (fun _ => 0) 68 [44, 32] fun b hb => by
    have := h b hb
    rw [bsT_size]
    simp only [List.length_cons, List.length_nil]
    omega
  have h2 : (l.map fun _ => 0).sum = 0 := by
    clear h1 h
    induction l with
    | nil => rfl
    | cons a l ih => rw [List.map_cons, List.sum_cons, ih]
  rw [h2] at h1
  unfold lftS
  split
  · unfold brS
    simp only [List.length_append, List.length_cons, List.length_nil]
    omega
  · omega
theorem eq_le {es : List va.En} {q : Qt} (hq : OkQ es q) {n : Nat} (hn : n ≤ 20) : (eq1S es n q).length ≤ 300 * (1 + cQ q) := by
  have h1 := lft_le hq.1.2
  have h2 := hq.2.2
  unfold eq1S eqnS cQ
  rw [lin_eq]
  simp only [List.length_append, List.length_cons, List.length_nil]
  omega
theorem eqs_le {es : List va.En} {l : List Qt} (hq : ∀ q ∈ l, OkQ es q) {n : Nat} (hn : n ≤ 20) : ((l.map (eq1S es n)).flatten).length ≤ 300 * cQs l :=
  flat_sum l (eq1S es n) cQ 300 fun q h => eq_le (hq q h) hn
theorem cms_le {es : List va.En} {kw : ByteArray} (hk : kw.size ≤ 10) {l : List Xt} (hx : ∀ x ∈ l, OkX es x) : (cmsS es kw l).length ≤ 300 * cXs l :=
  flat_sum l (cms1 es kw) Xt.size 300 fun x h => by
    have h1 := (hx x h).2
    have h2 : (bsT kw).length ≤ 10 := by rw [bsT_size]; exact hk
    unfold cms1
    rw [lin_eq]
    simp only [List.length_append, List.length_cons, List.length_nil]
    omega
def OkT (es : List va.En) (k : Nat) (t : Tt) : Prop := (0 ≤ t.to ∧ t.to < k) ∧ OkX es t.cd
theorem trn_ok {es : List va.En} (h : OkE es) {k : Nat} {b : Bool} {t : Tt} (ht : trnE es k b t = 0) {w : World} {B : Nat} (hr : RsX w B t.cd) : OkT es k t := by
  unfold trnE at ht
  split at ht
  · omega
  · exact ⟨by omega, exp_ok h (orE_zero.1 ht).1 hr⟩
theorem tr_le {es : List va.En} {ss : List St} (hs : ∀ s ∈ ss, s.nm.size ≤ 66) {k : Nat} {kw : List UInt8} (hk : kw.length ≤ 10) {t : Tt} (ht : OkT es k t) {n : Nat} (hn : n ≤ 20) : (tr1S es ss n kw t).length ≤ 300 * (1 + cT t) := by
  have h1 := ht.2.2
  have h2 : (bsT ((ss.map St.nm).getD t.to.toNat ⟨#[]⟩)).length ≤ 66 := by
    rw [bsT_size, List.getD_eq_getElem?_getD, List.getElem?_map]
    cases he : ss[t.to.toNat]? with
    | none => exact Nat.zero_le 66
    | some s => exact hs s (List.mem_of_getElem? he)
  unfold tr1S trnS cT
  rw [lin_eq]
  split <;> simp only [List.length_append, List.length_cons, List.length_nil] <;> omega
theorem trs_le {es : List va.En} {ss : List St} (hs : ∀ s ∈ ss, s.nm.size ≤ 66) {k : Nat} {kw : List UInt8} (hk : kw.length ≤ 10) {l : List Tt} (ht : ∀ t ∈ l, OkT es k t) {n : Nat} (hn : n ≤ 20) : ((l.map (tr1S es ss n kw)).flatten).length ≤ 300 * cTs l :=
  flat_sum l (tr1S es ss n kw) cT 300 fun t h => tr_le hs hk (ht t h) hn
inductive OkS (es : List va.En) : Nat → Nat → St → Prop
  | mk (r k : Nat) (s : St) (h0 : s.nm.size ≤ 66) (h1 : s.lc.l.length ≤ 256 ∧ ∀ d ∈ s.lc.l, OkD d) (h2 : ∀ q ∈ s.qs.l, OkQ es q) (h3 : ∀ t ∈ s.un.l, OkT es k t) (h4 : ∀ t ∈ s.ut.l, OkT es k t) (h5 : ∀ a ∈ s.au.l, ∀ t ∈ a.l, OkS es r a.l.length t) : OkS es (r + 1) k s
theorem aut_ok {es : List va.En} (h : OkE es) {w : World} {B : Nat} : ∀ (r : Nat) (a : Rw St), autE es r a = 0 → RsA w B a → ∀ s ∈ a.l, OkS es r a.l.length s := by
  intro r
  induction r with
  | zero => intro a ha; unfold autE at ha; omega
  | succ r ih =>
    intro a ha hr s hs
    unfold autE at ha
    split at ha
    · omega
    · split at ha
      · omega
      · have h1 := errs_zero.1 ha _ (List.mem_map_of_mem hs)
        obtain ⟨_, r2, r3, r4, r5, r6, r7, r8⟩ := (hr.2 s hs).of
        unfold staE at h1
        split at h1
        · rename_i hi
          split at h1
          · omega
          · obtain ⟨e1, h1⟩ := orE_zero.1 h1
            obtain ⟨e2, h1⟩ := orE_zero.1 h1
            obtain ⟨e3, h1⟩ := orE_zero.1 h1
            obtain ⟨e4, e5⟩ := orE_zero.1 h1
            exact .mk r _ s (id_size hi) ⟨by omega, fun d hd => loc_ok (errs_zero.1 e1 _ (List.mem_map_of_mem hd))⟩ (fun q hq => eqn_ok h (errs_zero.1 e2 _ (List.mem_map_of_mem hq)) (r3.2 q hq).2)
              (fun t ht => trn_ok h (errs_zero.1 e4 _ (List.mem_map_of_mem ht)) (r7.2 t ht)) (fun t ht => trn_ok h (errs_zero.1 e5 _ (List.mem_map_of_mem ht)) (r8.2 t ht)) (fun a' ha' => ih a' (errs_zero.1 e3 _ (List.mem_map_of_mem ha')) ⟨r5 a' ha', r6 a' ha'⟩)
        · omega
theorem OkS.nm {es : List va.En} {r k : Nat} {s : St} (h : OkS es r k s) : s.nm.size ≤ 66 := by cases h; assumption
theorem sta_le {es : List va.En} (h : OkE es) {r k : Nat} {s : St} (hs : OkS es r k s) : ∀ (n : Nat), n + 2 * r ≤ 20 → ∀ ss : List St, (∀ t ∈ ss, t.nm.size ≤ 66) → (s.tx es n ss).length ≤ 400 * s.cs := by
  induction hs with
  | mk r k s h0 h1 h2 h3 h4 h5 ih =>
    intro n hn ss hss
    rw [St.tx_eq, St.cs_eq]
    have a1 := lcs_le h h1.2 (n := n + 1) (by omega)
    have a2 := eqs_le h2 (n := n + 1) (by omega)
    have a3 := trs_le hss (kw := [117, 110, 108, 101, 115, 115, 32]) (by decide) h3 (n := n + 1) (by omega)
    have a4 := trs_le hss (kw := [117, 110, 116, 105, 108, 32]) (by decide) h4 (n := n + 1) (by omega)
    have a5 : ((s.au.l.map (auS es (n + 1))).flatten).length ≤ 400 * cAs s.au.l := flat_sum s.au.l (auS es (n + 1)) cA 400 fun a ha => by
      have hnm : ∀ t ∈ a.l, t.nm.size ≤ 66 := fun t ht => (h5 a ha t ht).nm
      have b : ((a.l.map fun t => t.tx es (n + 1 + 1) a.l).flatten).length ≤ 400 * (a.l.map St.cs).sum := by
        rw [List.length_flatten, List.map_map]
        have key : ∀ l : List St, (∀ t ∈ l, (t.tx es (n + 1 + 1) a.l).length ≤ 400 * t.cs) → (l.map (List.length ∘ fun t => t.tx es (n + 1 + 1) a.l)).sum ≤ 400 * (l.map St.cs).sum := by
          intro l
          induction l with
          | nil => intro _; simp
          | cons t l ih2 =>
            intro h
            rw [List.map_cons, List.map_cons, List.sum_cons, List.sum_cons, Nat.mul_add]
            exact Nat.add_le_add (h t List.mem_cons_self) (ih2 fun y hy => h y (List.mem_cons_of_mem _ hy))
        exact key a.l fun t ht => ih a ha t ht (n + 1 + 1) (by omega) a.l hnm
      unfold auS autS cA
      simp only [List.length_append, lin_eq, List.length_cons, List.length_nil]
      omega
    have b0 : (bsT s.nm).length ≤ 66 := by rw [bsT_size]; exact h0
    simp only [List.length_append, lin_eq, List.length_cons, List.length_nil]
    omega
theorem aut_le {es : List va.En} (h : OkE es) {l : List (Rw St)} (hl : ∀ a ∈ l, ∀ t ∈ a.l, OkS es 3 a.l.length t) : ((l.map (auS es 1)).flatten).length ≤ 400 * cAs l :=
  flat_sum l (auS es 1) cA 400 fun a ha => by
    have b : ((a.l.map fun t => t.tx es (1 + 1) a.l).flatten).length ≤ 400 * (a.l.map St.cs).sum := by
      rw [List.length_flatten, List.map_map]
      have key : ∀ l : List St, (∀ t ∈ l, (t.tx es (1 + 1) a.l).length ≤ 400 * t.cs) → (l.map (List.length ∘ fun t => t.tx es (1 + 1) a.l)).sum ≤ 400 * (l.map St.cs).sum := by
        intro l
        induction l with
        | nil => intro _; simp
        | cons t l ih2 =>
          intro h
          rw [List.map_cons, List.map_cons, List.sum_cons, List.sum_cons, Nat.mul_add]
          exact Nat.add_le_add (h t List.mem_cons_self) (ih2 fun y hy => h y (List.mem_cons_of_mem _ hy))
      exact key a.l fun t ht => sta_le h (hl a ha t ht) (1 + 1) (by omega) a.l fun t ht => (hl a ha t ht).nm
    unfold auS autS cA
    simp only [List.length_append, lin_eq, List.length_cons, List.length_nil]
    omega
structure OkN (es : List va.En) (n : Nt) : Prop where
  nm : n.nm.size ≤ 66
  ins : n.ins.l.length ≤ 64 ∧ ∀ d ∈ n.ins.l, OkD d
  outs : n.outs.l.length ≤ 64 ∧ ∀ d ∈ n.outs.l, OkD d
  locs : n.locs.l.length ≤ 256 ∧ ∀ d ∈ n.locs.l, OkD d
  qs : ∀ q ∈ n.qs.l, OkQ es q
  au : ∀ a ∈ n.au.l, ∀ t ∈ a.l, OkS es 3 a.l.length t
  asm : ∀ x ∈ n.asm.l, OkX es x
  ens : ∀ x ∈ n.ens.l, OkX es x
theorem eqs_ok {es : List va.En} {l : List Qt} (h : eqsE es l = none) : ∀ q ∈ l, eqnE es q = 0 := by
  induction l with
  | nil => intro q hq; cases hq
  | cons a l ih =>
    intro q hq
    unfold eqsE at h
    split at h
    · rename_i h0
      rcases List.mem_cons.1 hq with rfl | hq
      · exact h0
      · exact ih (by simpa using h) q hq
    · cases h
theorem eqs_some {es : List va.En} : ∀ (l : List Qt) (p : Nat × Int), eqsE es l = some p → p.2 ≠ 0
  | [], p, h => by cases h
  | a :: l, p, h => by
    unfold eqsE at h
    split at h
    · obtain ⟨q, hq, e⟩ := Option.map_eq_some_iff.1 h
      have h9 := eqs_some l q hq
      rw [← e]
      exact h9
    · rename_i h0
      obtain rfl := Option.some.inj h
      exact h0
theorem nod_ok {es : List va.En} (h : OkE es) {n : Nt} (hn : (nodE es n).2 = 0) {w : World} {B : Nat} (hr : RsN w B n) : OkN es n := by
  obtain ⟨_, r2, r3, r4, r5, r6, r7, r8⟩ := hr
  unfold nodE at hn
  by_cases h1 : hedE es n = 0
  · rw [if_pos h1] at hn
    have h2 : eqsE es n.qs.l = none ∧ talE es n = 0 := by
      cases he : eqsE es n.qs.l with
      | none => rw [he] at hn; exact ⟨rfl, hn⟩
      | some p => rw [he] at hn; exact absurd hn (eqs_some _ _ he)
    obtain ⟨h2, h3⟩ := h2
    unfold hedE at h1
    split at h1
    · rename_i hi
      split at h1
      · omega
      · split at h1
        · omega
        · obtain ⟨e1, h1⟩ := orE_zero.1 h1
          obtain ⟨e2, e3⟩ := orE_zero.1 h1
          unfold talE at h3
          obtain ⟨e4, h3⟩ := orE_zero.1 h3
          obtain ⟨e5, e6⟩ := orE_zero.1 h3
          exact ⟨id_size hi, ⟨by omega, fun d hd => port_ok (errs_zero.1 e1 _ (List.mem_map_of_mem hd))⟩, ⟨by omega, fun d hd => port_ok (errs_zero.1 e2 _ (List.mem_map_of_mem hd))⟩, ⟨by omega, fun d hd => loc_ok (errs_zero.1 e3 _ (List.mem_map_of_mem hd))⟩,
            fun q hq => eqn_ok h (eqs_ok h2 q hq) (r5.2 q hq).2, fun a ha => aut_ok h 3 a (errs_zero.1 e4 _ (List.mem_map_of_mem ha)) (r6.2 a ha), fun x hx => exp_ok h (errs_zero.1 e5 _ (List.mem_map_of_mem hx)) (r7.2 x hx), fun x hx => exp_ok h (errs_zero.1 e6 _ (List.mem_map_of_mem hx)) (r8.2 x hx)⟩
    · omega
  · rw [if_neg h1] at hn
    exact absurd hn h1
theorem nds_ok {es : List va.En} {l : List Nt} (h : (wheR (ndsE es l)).2 = 0) : ∀ n ∈ l, (nodE es n).2 = 0 := by
  have key : ∀ l : List Nt, (∀ q, ndsE es l = some q → q.2.2 ≠ 0) ∧ (ndsE es l = none → ∀ n ∈ l, (nodE es n).2 = 0) := by
    intro l
    induction l with
    | nil => exact ⟨fun q hq => (by unfold ndsE at hq; cases hq), fun _ n hn => (by cases hn)⟩
    | cons a l ih =>
      unfold ndsE
      by_cases h0 : (nodE es a).2 = 0
      · rw [if_pos h0]
        refine ⟨fun q hq => ?_, fun hq n hn => ?_⟩
        · obtain ⟨p, hp, rfl⟩ := Option.map_eq_some_iff.1 hq
          exact ih.1 p hp
        · rcases List.mem_cons.1 hn with rfl | hn
          · exact h0
          · exact ih.2 (by simpa using hq) n hn
      · rw [if_neg h0]
        refine ⟨fun q hq => ?_, fun hq => by cases hq⟩
        obtain rfl := Option.some.inj hq
        exact h0
  cases hq : ndsE es l with
  | none => exact (key l).2 hq
  | some q => rw [hq] at h; exact absurd h ((key l).1 q hq)
theorem chk_ok {p : Pt} (h : (chkE p).2 = 0) {w : World} {B : Nat} (hr : RsP w B p) : OkE p.es.l ∧ ∀ n ∈ p.ns.l, OkN p.es.l n := by
  unfold chkE at h
  split at h
  · simp at h
  · split at h
    · rename_i h1
      have hE : OkE p.es.l := fun e he => enum_ok (errs_zero.1 h1 _ (List.mem_map_of_mem he))
      exact ⟨hE, fun n hn => nod_ok hE (nds_ok h n hn) (hr.2.2 n hn)⟩
    · rename_i h1
      exact absurd h h1
theorem nod_le {es : List va.En} (h : OkE es) {n : Nt} (hn : OkN es n) : (nodeS es n).length ≤ 400 * (1 + cN n) := by
  have a1 := dcs_le h hn.ins.2
  have a2 := dcs_le h hn.outs.2
  have a3 := lcs_le h hn.locs.2 (n := 1) (by omega)
  have a4 := cms_le (kw := ⟨#[97, 115, 115, 117, 109, 101, 32]⟩) (by decide) hn.asm
  have a5 := cms_le (kw := ⟨#[101, 110, 115, 117, 114, 101, 32]⟩) (by decide) hn.ens
  have a6 := eqs_le hn.qs (n := 1) (by omega)
  have a7 := aut_le h hn.au
  have b0 : (bsT n.nm).length ≤ 66 := by rw [bsT_size]; exact hn.nm
  unfold nodeS cN
  simp only [List.length_append, lin_eq, List.length_cons, List.length_nil]
  omega
theorem enm_le {e : va.En} (h : e.name.size ≤ 66 ∧ e.tags.length ≤ 16 ∧ ∀ b ∈ e.tags, b.size ≤ 66) : (enmS e).length ≤ 400 * (1 + e.tags.length) := by
  have h1 := joi_sum e.tags bsT (fun _ => 0) 69 [32, 124, 32] fun b hb => by
    have := h.2.2 b hb
    rw [bsT_size]
    simp only [List.length_cons, List.length_nil]
    omega
  have h2 : ∀ l : List ByteArray, (l.map fun _ => 0).sum = 0 := by
    intro l
    induction l with
    | nil => rfl
    | cons a l ih => rw [List.map_cons, List.sum_cons, ih]
  rw [h2] at h1
  have b0 : (bsT e.name).length ≤ 66 := by rw [bsT_size]; exact h.1
  unfold enmS
  simp only [List.length_append, lin_eq, List.length_cons, List.length_nil]
  omega
theorem prg_le {p : Pt} (hE : OkE p.es.l) (hN : ∀ n ∈ p.ns.l, OkN p.es.l n) : (prgS p).length ≤ 400 * (p.es.l.length + p.ns.l.length + (p.es.l.map fun e => e.tags.length).sum + (p.ns.l.map cN).sum) := by
  have h1 := flat_sum p.es.l enmS (fun e => e.tags.length) 400 fun e he => enm_le (hE e he)
  have h2 := flat_sum p.ns.l (nodeS p.es.l) cN 400 fun n hn => nod_le hE (hN n hn)
  unfold prgS
  rw [List.length_append]
  omega
theorem OkS.wfr {es : List va.En} {r k : Nat} {s : St} (h : OkS es r k s) : WfR k s := by
  induction h with
  | mk r k s h0 h1 h2 h3 h4 h5 ih =>
    exact .mk k s ⟨by omega, fun d hd => by have := (h1.2 d hd).2.1; omega⟩ (fun q hq => (h2 q hq).2.1) (fun t ht => ⟨(h3 t ht).1, (h3 t ht).2.1⟩) (fun t ht => ⟨(h4 t ht).1, (h4 t ht).2.1⟩) ih
theorem OkS.wfs {es : List va.En} {r k : Nat} {s : St} (h : OkS es r k s) : WfS k s := by
  induction h with
  | mk r k s h0 h1 h2 h3 h4 h5 ih =>
    exact .mk k s ⟨by omega, fun d hd => by have := (h1.2 d hd).2.1; omega⟩ (fun q hq => ⟨by have := (h2 q hq).1.1; omega, fun y hy => ((h2 q hq).2.1 y hy).1⟩) (fun t ht => ⟨(h3 t ht).1, fun y hy => ((h3 t ht).2.1 y hy).1⟩) (fun t ht => ⟨(h4 t ht).1, fun y hy => ((h4 t ht).2.1 y hy).1⟩) ih
theorem OkN.ndr {es : List va.En} {n : Nt} (h : OkN es n) : NdR n where
  ds := fun r hr => by
    rcases hr with rfl | rfl | rfl
    · exact ⟨by have := h.ins.1; omega, fun d hd => by have := (h.ins.2 d hd).2.1; omega⟩
    · exact ⟨by have := h.outs.1; omega, fun d hd => by have := (h.outs.2 d hd).2.1; omega⟩
    · exact ⟨by have := h.locs.1; omega, fun d hd => by have := (h.locs.2 d hd).2.1; omega⟩
  qs := fun q hq => (h.qs q hq).2.1
  cs := fun r hr => by
    rcases hr with rfl | rfl
    · exact fun y hy => (h.asm y hy).1
    · exact fun y hy => (h.ens y hy).1
  au := fun a ha t ht => (h.au a ha t ht).wfr
theorem OkN.ndw {es : List va.En} {n : Nt} (h : OkN es n) : NdW n where
  ds := fun r hr => by
    rcases hr with rfl | rfl | rfl
    · exact ⟨by have := h.ins.1; omega, fun d hd => by have := (h.ins.2 d hd).2.1; omega⟩
    · exact ⟨by have := h.outs.1; omega, fun d hd => by have := (h.outs.2 d hd).2.1; omega⟩
    · exact ⟨by have := h.locs.1; omega, fun d hd => by have := (h.locs.2 d hd).2.1; omega⟩
  qs := fun q hq => ⟨by have := (h.qs q hq).1.1; omega, fun y hy => ((h.qs q hq).2.1 y hy).1⟩
  cs := fun r hr => by
    rcases hr with rfl | rfl
    · exact fun y hy z hz => ((h.asm y hy).1 z hz).1
    · exact fun y hy z hz => ((h.ens y hy).1 z hz).1
  au := fun a ha t ht => (h.au a ha t ht).wfs
theorem mem_le {α : Type} {l : List α} {f : α → Nat} {a : α} (h : a ∈ l) : f a ≤ (l.map f).sum := mem_sum h
theorem SmS_of (N : Nat) {s : St} (h : s.cs ≤ N) : SmS N s := by
  induction s using St.ind with
  | h s ih =>
    rw [St.cs_eq] at h
    unfold cQs cTs cAs at h
    refine .mk s (fun q hq => ?_) (fun t ht => ?_) (fun t ht => ?_) (fun a ha t ht => ih a ha t ht ?_)
    · have := mem_le (f := cQ) hq
      unfold cQ at this h
      omega
    · have := mem_le (f := cT) ht
      unfold cT at this h
      omega
    · have := mem_le (f := cT) ht
      unfold cT at this h
      omega
    · have h1 := mem_le (f := cA) ha
      have h2 := mem_le (f := St.cs) ht
      unfold cA at h1 h
      omega
theorem SmN_of (N : Nat) {n : Nt} (h : cN n ≤ N) : SmN N n := by
  unfold cN cQs cXs cAs at h
  refine ⟨fun q hq => ?_, fun a ha t ht => SmS_of N ?_, fun x hx => ?_, fun x hx => ?_⟩
  · have := mem_le (f := cQ) hq
    unfold cQ at this h
    omega
  · have h1 := mem_le (f := cA) ha
    have h2 := mem_le (f := St.cs) ht
    unfold cA at h1 h
    omega
  · have := mem_le (f := Xt.size) hx
    omega
  · have := mem_le (f := Xt.size) hx
    omega
end Go.Proofs.YtoimjcfdiljkjaaGreatDoor
namespace Go.Proofs.YtoimjcfdiljkjaaGreatDoor
open Go.RowKit Go.Sort
set_option maxHeartbeats 2000000 in
set_option maxRecDepth 20000 in
theorem showprograms_any (p : Pt) (w : World) (hs : Std w) (hp : RsP w w.heap.size p) (hL : LnP p) :
    Calls Tryz.prog 3 #[pV p] w (Bel (.bool true) w) := by
  have KA : Hid (∀ W, Below w.heap.size w W → Calls Tryz.prog 8 #[] W (Bel (.bool true) W)) := Lib.hid fun W h => awake_any W (hs.to h)
  have KF : Hid (∀ W, Below w.heap.size w W → Calls Tryz.prog 7 #[pV p] W (Bel (.bool (decide (1500 ≤ wPt 1500 p))) W)) := Lib.hid fun W h => vw_heavy p W (hp.blw h h.size) hL
  by_cases hv : 1500 ≤ wPt 1500 p
  · rw [decide_eq_true hv] at KF
    clear hs hp hL hv
    unfold pV at KF ⊢
    go_enter Tryz.func3, Tryz.ntmps3
    go_wp2_with (first | (go_at_call 7; (with_reducible refine (KF.out _ ?_).mono ?_); (exact bl); rintro e w1 ⟨rfl, hb1⟩; obtain ⟨g0, g1, _⟩ := B1P p (w := w) (W := w1) bl) | (go_at_call 8; (with_reducible refine (KA.out _ ?_).mono ?_); (exact bl); rintro e w9 ⟨rfl, hb9⟩))
    go_ret
    exact ⟨rfl, bl⟩
  · rw [decide_eq_false hv] at KF
    have hw := (wPt_ok hL 1500 (by omega)).2.2 (by omega)
    have hlt : wPt 1500 p < 1500 := by omega
    generalize wPt 1500 p = v at *
    have hm : ∀ n ∈ p.ns.l, SmN 1048576 n := fun n hn => SmN_of _ (by have := mem_le (f := cN) hn; omega)
    have hok : (chkE p).2 = 0 → OkE p.es.l ∧ (∀ n ∈ p.ns.l, OkN p.es.l n) ∧ (prgS p).length ≤ 140737488355328 := fun h0 => by
      obtain ⟨h1, h2⟩ := chk_ok h0 hp
      have := prg_le h1 h2
      exact ⟨h1, h2, by omega⟩
    have KS : Hid (∀ W, Below w.heap.size w W → Calls Tryz.prog 9 #[pV p] W (Bel (.tuple #[.string (if (chkE p).2 = 0 then tB (prgS p) else ⟨#[]⟩), .int .i64 (chkE p).2]) W)) := Lib.hid fun W h => sw_Program p W (hs.to h) (hp.blw h h.size) fun h0 => ⟨⟨fun e he => (by have := ((hok h0).1 e he).2.1; omega), fun n hn => ((hok h0).2.1 n hn).ndw⟩, (hok h0).2.2⟩
    have KR : Hid (∀ W, Below w.heap.size w W → Calls Tryz.prog 10 #[pV p] W (Bel (.tuple #[.string (if (chkE p).2 = 0 then tB (prgS p) else ⟨#[]⟩), .int .i64 (chkE p).2]) W)) := Lib.hid fun W h => vr_Program p W (hp.blw h h.size) hm fun h0 => ⟨fun n hn => ((hok h0).2.1 n hn).ndr, (hok h0).2.2⟩
    generalize (if (chkE p).2 = 0 then tB (prgS p) else ⟨#[]⟩) = z at *
    generalize (chkE p).2 = u at *
    clear hs hp hL hv hw hlt hm hok
    unfold pV at KF KS KR ⊢
    go_enter Tryz.func3, Tryz.ntmps3
    go_wp2_with (first | (go_at_call 7; (with_reducible refine (KF.out _ ?_).mono ?_); (exact bl); rintro e w1 ⟨rfl, hb1⟩; obtain ⟨g0, g1, _⟩ := B1P p (w := w) (W := w1) bl) | (go_at_call 9; (with_reducible refine (KS.out _ ?_).mono ?_); (exact bl); rintro e w3 ⟨rfl, hb3⟩; obtain ⟨g0, g1, _⟩ := B1P p (w := w) (W := w3) bl) | (go_at_call 10; (with_reducible refine (KR.out _ ?_).mono ?_); (exact bl); rintro e w4 ⟨rfl, hb4⟩) | (go_at_call 8; (with_reducible refine (KA.out _ ?_).mono ?_); (exact bl); rintro e w9 ⟨rfl, hb9⟩))
    all_goals (go_ret; exact ⟨rfl, bl⟩)
end Go.Proofs.YtoimjcfdiljkjaaGreatDoor
