/- The order and the repetition of edges have no effect. -/
import Derived.Test.YtahffafobdiogaaDoorKhi
namespace Go.Proofs.YtahffafobdiogaaDoor
set_option linter.unusedVariables false
set_option linter.unusedSimpArgs false
open Go.RowKit
namespace gr
theorem valB_alike {n : Int} {es es' : List (Int × Int)} (h : ∀ e, e ∈ es' ↔ e ∈ es) : valB n es' = valB n es := by
  unfold valB badI
  have : es'.any (bad n) = es.any (bad n) := by
    rw [Bool.eq_iff_iff, List.any_eq_true, List.any_eq_true]
    exact ⟨fun ⟨x, h1, h2⟩ => ⟨x, (h x).1 h1, h2⟩, fun ⟨x, h1, h2⟩ => ⟨x, (h x).2 h1, h2⟩⟩
  rw [this]
theorem eN_mem {ns : List (Nat × Nat)} {a b : Nat} : ((a : Int), (b : Int)) ∈ eN ns ↔ (a, b) ∈ ns := by
  unfold eN
  rw [List.mem_map]
  constructor
  · rintro ⟨⟨x, y⟩, h1, h2⟩
    injection h2 with h2 h3
    simp only at h2 h3
    obtain rfl : x = a := by omega
    obtain rfl : y = b := by omega
    exact h1
  · intro h
    exact ⟨_, h, rfl⟩
theorem eK_alike {ns ns' : List (Nat × Nat)} (h : ∀ e, e ∈ eN ns' ↔ e ∈ eN ns) : eK ns' = eK ns := by
  funext a b
  unfold eK
  rw [Bool.eq_iff_iff, List.contains_iff_mem, List.contains_iff_mem, ← eN_mem, ← eN_mem]
  exact h _
theorem ordL_len (n : Nat) (ns : List (Nat × Nat)) : (ordL n ns).length ≤ n := by
  unfold ordL
  split
  · exact (kah_ord n [] (Ord.nil _ _)).len
  · simp
theorem cyc_len (E : Nat → Nat → Bool) (n : Nat) : (cycK E n n).length ≤ n := by
  by_cases h : cycK E n n = []
  · rw [h]; simp
  · obtain ⟨v, d, h1, ⟨⟨w, h2, h3, h4⟩, _⟩, _, h5⟩ := cycK_len n (Nat.le_refl _) h
    have := (dstS_iff.1 h4).lt h1
    omega
theorem cmp_len (s : Nat → List Nat) (n v : Nat) : (cmp s n v).length ≤ n := by
  have h := nodup_len' (cmp s n v) (List.range n) ((cmp_asc s n v).imp fun h => by omega) fun x hx => List.mem_range.2 (cmp_mem.1 hx).1
  rwa [List.length_range] at h
theorem prts_len (s : Nat → List Nat) (n : Nat) : (prts s n).length ≤ n ∧ ∀ l ∈ prts s n, l.length ≤ n := by
  refine ⟨?_, fun l hl => ?_⟩
  · unfold prts
    rw [List.length_map]
    have h := nodup_len' (lst1 s n) (List.range n) ?_ fun x hx => List.mem_range.2 (lst1_mem.1 hx).1
    · rwa [List.length_range] at h
    · unfold lst1
      exact List.Pairwise.filter _ List.nodup_range
  · obtain ⟨v, _, rfl⟩ := (prts_mem).1 hl
    exact cmp_len s n v
/-- what a call of the three returns: a list and an error, or a list of lists and an error -/
def ResI (l : List Nat) (x : Int) (w : World) (e : Ending) (w' : World) : Prop := ∃ A c, e = .returned (.tuple #[.slice A l.length c, .int .i64 x]) ∧ Rd w' w'.heap.size A (vV l) ∧ Below w.heap.size w w'
def ResP (ls : List (List Nat)) (x : Int) (w : World) (e : Ending) (w' : World) : Prop := ∃ (A : Option Addr) (c : Nat) (fs : List PR), e = .returned (.tuple #[.slice A fs.length c, .int .i64 x]) ∧ (fs.map fun e => e.2.1) = ls ∧ Rp w' A fs ∧ Below w.heap.size w w'
theorem all_of (n : Int) (es : List (Int × Int)) : ∃ l1 x1 l2 x2 ls x3, (l1.length ≤ 4096 ∧ l2.length ≤ 4096 ∧ ls.length ≤ 4096 ∧ ∀ l ∈ ls, l.length ≤ 4096) ∧ ∀ es' : List (Int × Int), (∀ e, e ∈ es' ↔ e ∈ es) → es'.length ≤ 1048576 → ∀ (W : World) (A : Option Addr) (c : Nat), Tz W → RdE W W.heap.size A es' →
    Calls Tryd.prog 10 #[.int .i64 n, .slice A es'.length c] W (ResI l1 x1 W) ∧ Calls Tryd.prog 14 #[.int .i64 n, .slice A es'.length c] W (ResI l2 x2 W) ∧ Calls Tryd.prog 18 #[.int .i64 n, .slice A es'.length c] W (ResP ls x3 W) := by
  cases hv : valB n es with
  | false =>
    refine ⟨[], 2, [], 2, [], 2, ⟨by simp, by simp, by simp, fun l h => (by cases h)⟩, fun es' he hl W A c hT hE => ?_⟩
    have hv' := (valB_alike he).trans hv
    refine ⟨order_bad n A c es' hl W hE hv', cycle_bad n A c es' hl W hE hv', (parts_bad n A c es' hl W hE hv').mono ?_⟩
    rintro e w' ⟨h1, h2⟩
    exact ⟨none, 0, [], h1, rfl, ⟨fun h => absurd rfl h, fun e h => (by cases h)⟩, h2⟩
  | true =>
    obtain ⟨m, ns, rfl, hm, rfl, hr⟩ := valB_nat hv
    have hp := prts_len (nbs (eK ns) m) m
    refine ⟨ordL m ns, ordX m ns, cycK (eK ns) m m, cycX (eK ns) m, prts (nbs (eK ns) m) m, 0, ⟨Nat.le_trans (ordL_len _ _) hm, Nat.le_trans (cyc_len _ _) hm, Nat.le_trans hp.1 hm, fun l h => Nat.le_trans (hp.2 l h) hm⟩, fun es' he hl W A c hT hE => ?_⟩
    have hv' := (valB_alike (n := (m : Int)) he).trans hv
    obtain ⟨m', ns', hm', _, rfl, hr'⟩ := valB_nat hv'
    obtain rfl : m = m' := by omega
    have hK := eK_alike he
    rw [eN_len] at hl
    have k1 := order_ok m A c ns' hm hr' hl W hT hE hv'
    have k2 := cycle_ok m A c ns' hm hr' hl W hT hE hv'
    have k3 := parts_ok m A c ns' hm hr' hl W hT hE hv'
    unfold ordL ordX at k1
    rw [hK] at k1 k2 k3
    rw [eN_len]
    refine ⟨k1, k2, k3.mono ?_⟩
    rintro e w' ⟨A', c', fs, h1, h2, h3, h4, h5⟩
    exact ⟨A', c', fs, h1, h2, ⟨h3, h4⟩, h5⟩
end gr
end Go.Proofs.YtahffafobdiogaaDoor
