/- The law GraphTurned. -/
import Derived.Test.YtahffafobdiogaaDoorKhj
namespace Go.Proofs.YtahffafobdiogaaDoor
set_option linter.unusedVariables false
set_option linter.unusedSimpArgs false
open Go.RowKit
namespace gr
theorem infoE : ∃ i, Tryd.prog.info? 40 = some i ∧ i.zero = some (.agg #[.int .i64 0, .int .i64 0]) ∧ i.size = 2 ∧ i.bytes = 16 := info_parts (by kernel_rfl)
/-- the cells of edges, of whatever numbers -/
def fE (es : List (Int × Int)) : List Value := es.flatMap fun e => [.int .i64 e.1, .int .i64 e.2]
theorem fE_get : ∀ (es : List (Int × Int)) (k : Nat), (fE es)[k * 2]? = (es[k]?).map (fun e => Value.int .i64 e.1) ∧ (fE es)[k * 2 + 1]? = (es[k]?).map (fun e => Value.int .i64 e.2)
  | [], k => by simp [fE]
  | e :: r, 0 => by simp [fE]
  | e :: r, k + 1 => by
    have h := fE_get r k
    have e1 : fE (e :: r) = .int .i64 e.1 :: .int .i64 e.2 :: fE r := rfl
    rw [e1, show (k + 1) * 2 = k * 2 + 1 + 1 by omega]
    simp only [List.getElem?_cons_succ]
    exact h
theorem fE_len (es : List (Int × Int)) : (fE es).length = es.length * 2 := by
  induction es with
  | nil => rfl
  | cons e r ih => rw [show fE (e :: r) = .int .i64 e.1 :: .int .i64 e.2 :: fE r from rfl]; simp only [List.length_cons, ih]; omega
theorem fE_one (es : List (Int × Int)) : ∀ u ∈ fE es, u.oneCell' = true := by
  intro u hu
  unfold fE at hu
  obtain ⟨e, _, h⟩ := List.mem_flatMap.1 hu
  simp only [List.mem_cons, List.not_mem_nil, or_false] at h
  rcases h with rfl | rfl <;> rfl
theorem fE_app (a b : List (Int × Int)) : fE (a ++ b) = fE a ++ fE b := by unfold fE; rw [List.flatMap_append]
theorem own_rdE {W : World} {base n c : Nat} {A : Option Addr} {es : List (Int × Int)} (h : W.ownsRow base 40 2 (.slice A n c) n (fE es)) (hl : es.length = n) : RdE W W.heap.size A es := fun hn => by
  have hn' : 0 < n := by have := List.length_pos_iff.2 hn; omega
  obtain ⟨g, cap, hv, _, hlt⟩ := h.form hn'
  have hA : A = some ⟨g, 0, none⟩ := by injection hv
  subst hA
  refine ⟨_, rfl, hlt, fun k e he => ?_⟩
  obtain ⟨f1, f2⟩ := fE_get es k
  rw [he] at f1 f2
  rw [off_add]
  refine ⟨?_, ?_⟩
  · rw [← off_add]; exact h.cells (g := g) rfl _ _ f1
  · have := h.cells (g := g) rfl _ _ f2
    rw [off_add] at this
    exact this
theorem rdE_cells {W : World} {B : Nat} {ad : Addr} {es : List (Int × Int)} (h : RdE W B (some ad) es) : ∀ j u, (fE es)[j]? = some u → W.cell? (ad.add j) = some u := fun j u hu => by
  have hj : j < es.length * 2 := by
    rw [← fE_len]
    rcases Nat.lt_or_ge j (fE es).length with h | h
    · exact h
    · rw [List.getElem?_eq_none h] at hu; cases hu
  obtain ⟨ad', h1, _, h3⟩ := h (fun e => by subst e; simp at hj)
  injection h1 with h1
  subst h1
  have hk : j / 2 < es.length := by omega
  obtain ⟨c1, c2⟩ := h3 (j / 2) _ (List.getElem?_eq_getElem hk)
  obtain ⟨f1, f2⟩ := fE_get es (j / 2)
  rw [List.getElem?_eq_getElem hk] at f1 f2
  rcases Nat.mod_two_eq_zero_or_one j with hm | hm
  · rw [show j / 2 * 2 = j by omega] at f1 c1
    rw [f1] at hu
    injection hu with hu
    rw [← hu]
    exact c1
  · rw [show j / 2 * 2 + 1 = j by omega] at f2
    rw [f2] at hu
    injection hu with hu
    have hj2 : j = j / 2 * 2 + 1 := by omega
    have e : ∀ i, ad.add (i + 1) = ⟨(ad.add i).block, (ad.add i).off + 1, none⟩ := fun i => by simp [Addr.add]; by_cases h0 : i = 0 <;> simp [h0]; try omega
    rw [← hu, show ad.add j = ad.add (j / 2 * 2 + 1) from congrArg _ hj2, e]
    exact c2
end gr
end Go.Proofs.YtahffafobdiogaaDoor
