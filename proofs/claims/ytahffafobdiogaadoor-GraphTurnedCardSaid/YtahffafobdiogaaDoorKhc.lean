/- Parts: its last sort. -/
import Derived.Test.YtahffafobdiogaaDoorKha
namespace Go.Proofs.YtahffafobdiogaaDoor
set_option linter.unusedVariables false
set_option linter.unusedSimpArgs false
open Go.RowKit
namespace gr
set_option maxRecDepth 100000 in
theorem key_any (ga gb la lb ca cb x y : Nat) (W : World) (ha : W.cell? ⟨ga, 0, none⟩ = some (.int .i64 (x : Int))) (hb : W.cell? ⟨gb, 0, none⟩ = some (.int .i64 (y : Int))) (hla : 0 < la) (hlb : 0 < lb) (hx : x ≤ 4096) (hy : y ≤ 4096) :
    Calls Tryd.prog 46 #[.slice (some ⟨ga, 0, none⟩) la ca, .slice (some ⟨gb, 0, none⟩) lb cb] W fun e W' => e = .returned (.int .i64 ((x : Int) - (y : Int))) ∧ ∃ q, W' = W.drewN q := by
  have e1 : IntKind.i64.wrap ((x : Int) - (y : Int)) = (x : Int) - (y : Int) := IntWalk.i64_in _ (by omega)
  have ha' : W.cell? ((⟨ga, 0, none⟩ : Addr).add 0) = some (.int .i64 (x : Int)) := ha
  have hb' : W.cell? ((⟨gb, 0, none⟩ : Addr).add 0) = some (.int .i64 (y : Int)) := hb
  have e2 : (0 : Int) < (la : Int) := by omega
  have e3 : (0 : Int) < (lb : Int) := by omega
  go_enter Tryd.func46, Tryd.ntmps46
  go_wp2
  go_quiet (fail)
  go_wp2
  go_ret
  exact ⟨rfl, _, rfl⟩
theorem getElem!_attach (es : List (Nat × List Nat × Nat)) [Inhabited { e // e ∈ es }] (j : Nat) (hj : j < es.length) : (es.attach.toArray[j]!).1 = es[j] := by
  rw [getElem!_pos _ j (by simpa using hj)]
  simp
/-- the parts, sorted by their first vertices -/
theorem psort_any (es : List (Nat × List Nat × Nat)) (hl : es.length ≤ 4096) (W : World) (A : Option Addr) (c N : Nat) (hO : W.ownsRow N 24 1 (.slice A es.length c) es.length (es.map encP))
    (hen : ∀ e ∈ es, 0 < e.2.1.length ∧ e.2.1.headD 0 ≤ 4096 ∧ (∃ cs f, W.heap[e.1]? = some (.cells cs 3 f)) ∧ ∀ (j x : Nat), e.2.1[j]? = some x → W.cell? ⟨e.1, j, none⟩ = some (.int .i64 (x : Int))) :
    Calls Tryd.prog 45 #[.slice A es.length c, .func (.func 46) #[] #[]] W fun e W' => e = .returned (.tuple #[]) ∧ ∃ fs : List (Nat × List Nat × Nat), fs.Perm es ∧ (fs.map fun e => e.2.1).Pairwise (fun a b => a.headD 0 ≤ b.headD 0) ∧
      (∀ (j : Nat) (x : Nat × List Nat × Nat), fs[j]? = some x → ∃ ad, A = some ad ∧ W'.cell? (ad.add j) = some (encP x)) ∧ (∀ e ∈ es, ∀ (j x : Nat), e.2.1[j]? = some x → W'.cell? ⟨e.1, j, none⟩ = some (.int .i64 (x : Int))) ∧ (∀ k, k < W.heap.size → (∀ g, A = some g → k ≠ g.block) → W'.heap[k]? = W.heap[k]?) ∧ W.heap.size ≤ W'.heap.size ∧ Os W W' := by
  rcases Nat.eq_zero_or_pos es.length with h0 | h0
  · have e0 : es = [] := List.eq_nil_of_length_eq_zero h0
    subst e0
    refine (Tryd.slices_SF0 A c _ W).mono ?_
    rintro e W' ⟨he, rfl⟩
    exact ⟨he, [], .refl _, List.Pairwise.nil, fun j x hx => (by simp at hx), fun e he => (by cases he), fun k _ _ => rfl, Nat.le_refl _, rfl, rfl, rfl⟩
  · obtain ⟨g, cap, hA, hg1, hg2⟩ := hO.form h0
    injection hA with hA hA1 hA2
    subst hA
    obtain ⟨csg, hgc⟩ : ∃ cs, W.heap[g]? = some (.cells cs 24 (0, 0)) := by
      rcases hO.2 with ⟨y, _⟩ | ⟨g', cp, cur, y1, y2, y3, _⟩
      · cases y
      · injection y1 with y1 _ _
        injection y1 with y1
        injection y1 with y1
        subst y1
        exact ⟨_, y3⟩
    haveI : Inhabited { e // e ∈ es } := ⟨⟨es[0], List.getElem_mem h0⟩⟩
    have hsz : es.attach.toArray.size = es.length := by simp
    have hH : Sort.Holds (fun e : { e // e ∈ es } => encP e.1) W g 0 es.attach.toArray := fun j hj => by
      have hj2 : j < es.length := by simpa using hj
      refine ⟨?_, ?_⟩
      · have h1 := hO.cells (g := g) rfl j (encP es[j]) (by rw [List.getElem?_map, List.getElem?_eq_getElem hj2]; rfl)
        show W.cell? ⟨g, 0 + j, none⟩ = some (encP (es.attach.toArray[j]!).1)
        rw [getElem!_attach es j hj2, Nat.zero_add, ← off_add g j]
        exact h1
      · unfold World.frozen?
        rw [hgc]
        simp
    have hblk : ∀ (m : Nat) (os : Array Obj) (dk : Array { e // e ∈ es }) (k : Nat), k < W.heap.size → k ≠ g → (sortWorld (fun e : { e // e ∈ es } => encP e.1) W g 0 m dk os).heap[k]? = W.heap[k]? := fun m os dk k hk hkg => by
      unfold sortWorld
      rw [Sort.heap_grow_old _ os (by simpa using hk)]
      unfold Sort.putRow Sort.mapBlock
      simp only [Array.getElem?_modify, Sort.heap_ahead]
      rw [if_neg (fun e => hkg e.symm)]
    have hcl : ∀ (m : Nat) (os : Array Obj) (dk : Array { e // e ∈ es }) (e), e ∈ es → ∀ (j x : Nat), e.2.1[j]? = some x → (sortWorld (fun e : { e // e ∈ es } => encP e.1) W g 0 m dk os).cell? ⟨e.1, j, none⟩ = some (.int .i64 (x : Int)) := fun m os dk e he j x hx => by
      obtain ⟨_, _, ⟨cs, f, h3⟩, h4⟩ := hen e he
      have h5 := h4 j x hx
      have hlt : e.1 < W.heap.size := (Array.getElem?_eq_some_iff.1 h3).1
      exact (World.cell?_of_block (hblk m os dk e.1 hlt (fun e2 => by
        rw [e2, hgc] at h3
        injection h3 with h3
        injection h3 with _ h3 _
        exact absurd h3 (by decide)))).trans h5
    have hhd : ∀ (e : Nat × List Nat × Nat), 0 < e.2.1.length → e.2.1[0]? = some (e.2.1.headD 0) := fun e h => by
      cases hc : e.2.1 with
      | nil => rw [hc] at h; simp at h
      | cons a r => simp
    have hlt0 : ∀ a b : { e // e ∈ es }, ltOf (fun a b : { e // e ∈ es } => ((a.1.2.1.headD 0 : Nat) : Int) - ((b.1.2.1.headD 0 : Nat) : Int)) a b = decide (a.1.2.1.headD 0 < b.1.2.1.headD 0) := fun a b => by
      unfold ltOf
      rw [decide_eq_decide]
      simp only []
      omega
    have key := Tryd.slices_SF (fun e : { e // e ∈ es } => encP e.1) (fun _ => rfl) (fun a b => ((a.1.2.1.headD 0 : Nat) : Int) - ((b.1.2.1.headD 0 : Nat) : Int))
      ⟨fun x => by rw [hlt0]; simp, fun x y z h1 h2 => by rw [hlt0] at *; simp at *; omega, fun x y z h1 h2 => by rw [hlt0] at *; simp at *; omega⟩
      46 #[] g 0 c es.attach.toArray W (enters_of Tryd.func46 (by kernel_rfl) rfl)
      (fun m os dk _ x y => by
        obtain ⟨x1, x2, _⟩ := hen x.1 x.2
        obtain ⟨y1, y2, _⟩ := hen y.1 y.2
        refine (key_any x.1.1 y.1.1 _ _ x.1.2.2 y.1.2.2 _ _ _ (hcl m os dk x.1 x.2 0 _ (hhd _ x1)) (hcl m os dk y.1 y.2 0 _ (hhd _ y1)) x1 y1 x2 y2).mono ?_
        rintro e W' ⟨he, q, hq⟩
        exact ⟨he, q, #[], by rw [hq]; exact (Sort.grow_empty _).symm⟩)
      hH hg2 (by rw [hsz]; omega)
    rw [hsz] at key
    refine key.mono ?_
    rintro e W' ⟨he, d', n, os, ⟨hp1, _, hp2⟩, hs, rfl⟩
    have hz : d'.size = es.length := by rw [hp1, hsz]
    rw [show d'.extract 0 es.length = d' by rw [← hz]; simp, show (es.attach.toArray).extract 0 es.length = es.attach.toArray by rw [← hsz]; exact Array.extract_size] at hp2
    have hH2 := Sort.holds_grow (fun e : { e // e ∈ es } => encP e.1) _ os g 0 d' (by simpa using hg2) (Sort.holds_putRow (fun e : { e // e ∈ es } => encP e.1) (Sort.ahead W n) g 0 _ d' (Sort.holds_ahead _ W n g 0 _ hH) (by rw [hz, hsz]))
    have hget : ∀ (j : Nat) (h : j < d'.size), (d'.toList.map fun e => e.1)[j]? = some (d'[j]!).1 := fun j h => by
      rw [List.getElem?_map, Array.getElem?_toList, getElem!_pos _ j h, Array.getElem?_eq_getElem h]
      rfl
    refine ⟨he, d'.toList.map fun e => e.1, ?_, ?_, fun j x hx => ⟨_, rfl, ?_⟩, fun e he j x hx => hcl n os d' e he j x hx, fun k hk hg => hblk n os d' k hk (hg _ rfl), by unfold sortWorld; simp, rfl, rfl, rfl⟩
    · have := hp2.map fun e : { e // e ∈ es } => e.1
      rw [show (es.attach.toArray.toList.map fun e : { e // e ∈ es } => e.1) = es by simp [List.attach_map_subtype_val]] at this
      exact this
    · rw [List.map_map, List.pairwise_map, List.pairwise_iff_getElem]
      intro i j hi hj hij
      have h1 := hs i j (Nat.zero_le _) hij (by rw [← hz]; simpa using hj)
      rw [hlt0, getElem!_pos _ i (by simpa using hi), getElem!_pos _ j (by simpa using hj)] at h1
      simp only [decide_eq_false_iff_not] at h1
      simp only [Function.comp, Array.getElem_toList]
      omega
    · have hj : j < d'.size := by
        rcases Nat.lt_or_ge j d'.size with h | h
        · exact h
        · rw [List.getElem?_eq_none (by simpa using h)] at hx; cases hx
      have h3 := (hH2 j hj).1
      rw [hget j hj] at hx
      injection hx with hx
      rw [off_add, ← hx]
      rw [Nat.zero_add] at h3
      exact h3
/-- a row of rows of numbers -/
def NewP (ls : List (List Nat)) (w : World) (e : Ending) (w' : World) : Prop := ∃ (A : Option Addr) (c : Nat) (fs : List (Nat × List Nat × Nat)), e = .returned (.tuple #[.slice A fs.length c, .int .i64 0]) ∧ (fs.map fun e => e.2.1) = ls ∧ Rd w' w'.heap.size A (fs.map encP) ∧ (∀ e ∈ fs, Rd w' w'.heap.size (some ⟨e.1, 0, none⟩) (vV e.2.1)) ∧ Below w.heap.size w w'
theorem cell_put {W : World} {l : Nat} {o : Obj} (o' : Obj) (h : W.heap[l]? = some o) (hc : o.isCells = false) {p : Addr} {v : Value} (hv : W.cell? p = some v) : (W.putObj l o').cell? p = some v := by
  obtain ⟨ob, ho, hk⟩ := cells_of_cell hv
  exact (World.cell?_of_block (World.putObj_heap_other (fun e => by rw [e, h] at ho; injection ho with ho; rw [← ho, hc] at hk; cases hk))).trans hv
theorem rd_nums {W : World} {g : Nat} {l : List Nat} (h : ∀ (j x : Nat), l[j]? = some x → W.cell? ⟨g, j, none⟩ = some (.int .i64 (x : Int))) : Rd W W.heap.size (some ⟨g, 0, none⟩) (vV l) := fun hn => by
  have h0 : 0 < l.length := by
    rcases Nat.eq_zero_or_pos l.length with h0 | h0
    · exact absurd (by rw [List.eq_nil_of_length_eq_zero h0]; rfl) hn
    · exact h0
  refine ⟨_, rfl, ?_, fun j u hu => ?_⟩
  · exact World.block_lt_of_cell? W _ (h 0 _ (List.getElem?_eq_getElem h0))
  · unfold vV at hu
    rw [List.getElem?_map] at hu
    cases hx : l[j]? with
    | none => rw [hx] at hu; cases hu
    | some x =>
      rw [hx] at hu
      injection hu with hu
      rw [off_add, ← hu]
      exact h j x hx
theorem rd_row {W : World} {A : Option Addr} {xs : List (Nat × List Nat × Nat)} (h : ∀ (j : Nat) (x : Nat × List Nat × Nat), xs[j]? = some x → ∃ ad, A = some ad ∧ W.cell? (ad.add j) = some (encP x)) : Rd W W.heap.size A (xs.map encP) := fun hn => by
  have h0 : 0 < xs.length := by
    rcases Nat.eq_zero_or_pos xs.length with h0 | h0
    · exact absurd (by rw [List.eq_nil_of_length_eq_zero h0]; rfl) hn
    · exact h0
  obtain ⟨ad, hA, hc⟩ := h 0 _ (List.getElem?_eq_getElem h0)
  refine ⟨ad, hA, ?_, fun j u hu => ?_⟩
  · have := World.block_lt_of_cell? W _ hc
    rw [add_block] at this
    exact this
  · rw [List.getElem?_map] at hu
    cases hx : xs[j]? with
    | none => rw [hx] at hu; cases hu
    | some x =>
      rw [hx] at hu
      injection hu with hu
      obtain ⟨ad', hA', hc'⟩ := h j x hx
      rw [hA] at hA'
      injection hA' with hA'
      rw [← hu, hA']
      exact hc'
end gr
end Go.Proofs.YtahffafobdiogaaDoor
