/- The frame of a law's row over words: an argument that is a word, opened. -/
import Derived.Test.YtlpigdekjkpnpaaDoorFrame
import Derived.Lib.SmallJoins
import Derived.SizedLaws
namespace Go.Proofs.YtlpigdekjkpnpaaDoor
set_option linter.unusedVariables false
set_option linter.unusedSimpArgs false
open Go.ChangeShapes Go.WideShapes Go.ChangeAt Go.RowKit Go.Deep Go.WideElems
theorem int_le {n : Int} (h : (Lit.int .i64 n).wf = true) : n ≤ 9223372036854775807 := by
  have h2 : n ≤ IntKind.i64.max := by simp only [Lit.wf, Bool.and_eq_true, decide_eq_true_eq] at h; exact h.2
  exact h2
section
variable {H : Type} {enc : TypeId × Value → H} {P : Program}
theorem open_bls2 {w : World} {held : Bool} {base : Nat} {t e : TypeId} {fuel : Nat} {v : Value} {x : DataW H × List MemPlace} (ht : P.underlying t = some (.slice e)) (he : P.underlying e = some .bool) (hc : P.cellsOf e = 1) (hby : P.bytesOf e = 1)
    (h : DataW.trod enc P w base (fun _ => true) held fuel t [v] = some x) (hsz : ∀ n ∈ x.1.weights P t, n ≤ reachBytes) :
    ∃ (A : Option Addr) (l : List Bool) (c : Nat), v = .slice A l.length c ∧ Rd w w.heap.size A (bls l) ∧ l.length ≤ c ∧ c ≤ 140737488355328 := by
  rcases open_slice1 ht hc h with ⟨hcs, _⟩ | ⟨a, len, cap, m, n, V, D, Pl, hcs, _, hl, hm, hmm, hx0, hx⟩
  · simp only [List.cons.injEq, and_true] at hcs
    exact ⟨none, [], 0, hcs, Rd.nil _ _ _, Nat.le_refl _, by omega⟩
  · simp only [List.cons.injEq, and_true] at hcs
    have hmc : m = cap := by simpa using hmm
    have hw := hsz (m * 1) (by
      rw [hx0]
      simp only [DataW.weights, ht, hby, List.length_map, List.length_range, List.mem_cons]
      exact Or.inl (by omega))
    have hr := reachBytes_lt
    refine ⟨some a, (List.range len).map fun i => match V i with | .bool b => b | _ => false, cap, by simp [hcs], ?_, by simpa using hl, by omega⟩
    have key : ∀ i, i < len → w.cell? (a.add i) = some (.bool (match V i with | .bool b => b | _ => false)) := by
      intro i hi
      obtain ⟨h1, h2⟩ := hx i (by omega)
      obtain ⟨b, hb, _⟩ := DataW.trod_bool he h2
      simp only [List.cons.injEq, and_true] at hb
      rw [h1, hb]
    intro hne
    refine ⟨a, rfl, ?_, ?_⟩
    · have h0 : 0 < len := by
        rcases Nat.eq_zero_or_pos len with h | h
        · subst h; simp [bls] at hne
        · exact h
      have := World.block_lt_of_cell? w _ (key 0 h0)
      rwa [add_block] at this
    · intro j u hu
      have hj : j < len := by
        have := (List.getElem?_eq_some_iff.1 hu).1
        simpa [bls] using this
      rw [key j hj]
      simpa [bls, hj] using hu
/-- a word, opened -/
theorem open_word {w : World} {held : Bool} {base b0 : Nat} {r : Reach} {T t e : TypeId} {f0 f1 : Field} {v : Value} {d : DataW H} {p : List MemPlace} (hs : P.underlying T = some (.struct #[f0, f1])) (hone : oneCellFields P #[f0, f1] = true) (hC : P.cellsOf T = 2)
    (ht0 : f0.type = t) (ht1 : f1.type = t) (ht : P.underlying t = some (.slice e)) (he : P.underlying e = some .bool) (hc : P.cellsOf e = 1) (hby : P.bytesOf e = 1)
    (hv : Value.okWide P w r b0 T v) (h : DataW.Trod enc P w base (fun _ => true) held T v d p) (hsz : ∀ n ∈ d.weights P T, n ≤ reachBytes) :
    ∃ (A B : Option Addr) (x y : List Bool) (c g : Nat), v = .agg #[.slice A x.length c, .slice B y.length g] ∧ Rd w w.heap.size A (bls x) ∧ Rd w w.heap.size B (bls y) ∧ x.length ≤ c ∧ y.length ≤ g ∧ x.length ≤ 140737488355328 ∧ y.length ≤ 140737488355328 := by
  obtain ⟨v0, v1, y0, y1, n, rfl, rfl, rfl, h0, h1⟩ := Go.Joins.open_agg2 hs hone hC hv h
  have hw : DataW.weights P T (.agg [y0.1, y1.1]) = y0.1.weights P t ++ (y1.1.weights P t ++ []) := by
    simp [DataW.weights, DataW.weightsEach, hs, ht0, ht1]
  rw [hw] at hsz
  rw [ht0] at h0
  rw [ht1] at h1
  obtain ⟨A, x, c, rfl, hA, hx, hx2⟩ := open_bls2 ht he hc hby h0 (fun n hn => hsz n (by simp [hn]))
  obtain ⟨B, y, g, rfl, hB, hy, hy2⟩ := open_bls2 ht he hc hby h1 (fun n hn => hsz n (by simp [hn]))
  exact ⟨A, B, x, y, c, g, rfl, hA, hB, hx, hy, by omega, by omega⟩
end
end Go.Proofs.YtlpigdekjkpnpaaDoor
