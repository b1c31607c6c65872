/- The cycle, computed; the values of the examples: plain. -/
import Derived.Test.YtahffafobdiogaaDoorKhb
namespace Go.Proofs.YtahffafobdiogaaDoor
set_option linter.unusedVariables false
set_option linter.unusedSimpArgs false
namespace gr
def pdB (E : Nat → Nat → Bool) (n low t : Nat) : Nat → Nat → Bool
  | 0, w => decide (w = t)
  | d + 1, w => decide (w < n) && decide (low ≤ w) && (List.range n).any fun v => E w v && pdB E n low t d v
theorem Pd.ltn {E : Nat → Nat → Bool} {n low t d w : Nat} (ht : t < n) (h : Pd E n low t d w) : w < n := by
  cases h with
  | zero => exact ht
  | succ hu _ _ _ => exact hu
theorem pdB_iff {E : Nat → Nat → Bool} {n low t : Nat} (ht : t < n) : ∀ (d w : Nat), pdB E n low t d w = true ↔ Pd E n low t d w
  | 0, w => by
    rw [pdB, decide_eq_true_eq, Pd.zero_iff]
  | d + 1, w => by
    rw [pdB, Bool.and_eq_true, Bool.and_eq_true, decide_eq_true_eq, decide_eq_true_eq, List.any_eq_true]
    constructor
    · rintro ⟨⟨h1, h2⟩, v, _, h3⟩
      rw [Bool.and_eq_true, pdB_iff ht d v] at h3
      exact .succ h1 h2 h3.1 h3.2
    · intro h
      cases h with
      | succ hu hl h k => exact ⟨⟨hu, hl⟩, _, List.mem_range.2 (k.ltn ht), by rw [Bool.and_eq_true, pdB_iff ht d]; exact ⟨h, k⟩⟩
def dstB (E : Nat → Nat → Bool) (n v w : Nat) : Option Nat := (List.range n).find? fun d => pdB E n v v d w
theorem dstB_eq {E : Nat → Nat → Bool} {n v : Nat} (hv : v < n) : dstB E n v = dstS E n v := dst_eq fun w d => by
  unfold dstB
  rw [List.find?_range_eq_some, pdB_iff hv]
  constructor
  · rintro ⟨h1, h2, h3⟩
    refine ⟨h1, fun e he => ?_⟩
    rcases Nat.lt_or_ge e d with h | h
    · have := h3 e h
      rw [(pdB_iff hv e w).2 he] at this
      cases this
    · exact h
  · intro h
    refine ⟨h.1, List.mem_range.2 (h.lt hv), fun e he => ?_⟩
    cases hp : pdB E n v v e w with
    | false => rfl
    | true =>
      have := h.2 e ((pdB_iff hv e w).1 hp)
      omega
def mndB (E : Nat → Nat → Bool) (n : Nat) (D : Nat → Option Nat) (v : Nat) : Option Nat := (List.range n).find? fun d => (List.range n).any fun w => E v w && decide (D w = some d)
theorem mndB_eq {E : Nat → Nat → Bool} {n : Nat} {D : Nat → Option Nat} (hD : ∀ w d, D w = some d → d < n) (v : Nat) : mndO E n D v = mndB E n D v := by
  have hany : ∀ d, ((List.range n).any fun w => E v w && decide (D w = some d)) = true ↔ ∃ w, w < n ∧ E v w = true ∧ D w = some d := fun d => by
    rw [List.any_eq_true]
    constructor
    · rintro ⟨w, h1, h2⟩
      rw [Bool.and_eq_true, decide_eq_true_eq] at h2
      exact ⟨w, List.mem_range.1 h1, h2⟩
    · rintro ⟨w, h1, h2⟩
      exact ⟨w, List.mem_range.2 h1, by rw [Bool.and_eq_true, decide_eq_true_eq]; exact h2⟩
  cases hm : mndB E n D v with
  | some d =>
    unfold mndB at hm
    rw [List.find?_range_eq_some, hany] at hm
    refine mndO_some.2 ⟨hm.1, fun w e h1 h2 h3 => ?_⟩
    rcases Nat.lt_or_ge e d with h | h
    · have := hm.2.2 e h
      rw [(hany e).2 ⟨w, h1, h2, h3⟩] at this
      cases this
    · exact h
  | none =>
    unfold mndB at hm
    refine mndO_none.2 fun w h1 h2 => ?_
    cases hd : D w with
    | none => rfl
    | some d =>
      have := List.find?_eq_none.1 hm d (List.mem_range.2 (hD w d hd))
      exact absurd ((hany d).2 ⟨w, h1, h2, hd⟩) this
def cstB (E : Nat → Nat → Bool) (n : Nat) (best : List Nat) (v : Nat) : List Nat :=
  let l := match mndB E n (dstB E n v) v with | none => [] | some d => v :: folr (nea E n (dstB E n v)) d v
  if l ≠ [] ∧ (best = [] ∨ l.length < best.length) then l else best
theorem cstB_eq {E : Nat → Nat → Bool} {n v : Nat} (hv : v < n) (best : List Nat) : cstep E n best v = cstB E n best v := by
  unfold cstep cstB thrS
  rw [mndB_eq (fun w d h => (dstS_iff.1 h).lt hv) v, ← dstB_eq hv]
  rfl
theorem cycB_eq {E : Nat → Nat → Bool} {n : Nat} : ∀ k, k ≤ n → cycK E n k = (List.range k).foldl (cstB E n) []
  | 0, _ => rfl
  | k + 1, h => by rw [cycK_succ, cycB_eq k (by omega), cstB_eq (by omega), List.range_succ, List.foldl_append]; rfl
/-- the examples -/
theorem ex_ord : ordL 4 [(2, 0), (0, 3)] = [1, 2, 0, 3] ∧ ordX 4 [(2, 0), (0, 3)] = 0 := by decide +kernel
theorem ex_cyc : cycK (eK [(0, 1), (1, 2), (2, 0), (4, 3), (3, 4)]) 5 5 = [3, 4] := by
  rw [cycB_eq 5 (Nat.le_refl _)]
  decide +kernel
theorem ex_cycx : cycX (eK [(0, 1), (1, 2), (2, 0), (4, 3), (3, 4)]) 5 = 0 := by
  unfold cycX
  rw [ex_cyc]
  rfl
theorem ex_none : cycK (eK []) 3 3 = [] ∧ cycX (eK []) 3 = 8 := by
  have h : cycK (eK []) 3 3 = [] := by
    rw [cycB_eq 3 (Nat.le_refl _)]
    decide +kernel
  exact ⟨h, by unfold cycX; rw [h]; rfl⟩
theorem Rch.stay {s : Nat → List Nat} (S : List Nat) (hc : ∀ x ∈ S, ∀ y ∈ s x, y ∈ S) {u v : Nat} (h : Rch s u v) : u ∈ S → v ∈ S := by
  induction h with
  | refl _ => exact id
  | step h1 _ ih => exact fun hu => ih (hc _ hu _ h1)
theorem ex_rch : rowB 3 (rchB (nbs (eK [(1, 2)]) 3) 1) = [.bool false, .bool true, .bool true] := by
  have h0 : rchB (nbs (eK [(1, 2)]) 3) 1 0 = false := by
    cases h : rchB (nbs (eK [(1, 2)]) 3) 1 0 with
    | false => rfl
    | true =>
      have := (rchB_iff.1 h).stay [1, 2] (by decide +kernel) (by decide)
      exact absurd this (by decide)
  have h1 : rchB (nbs (eK [(1, 2)]) 3) 1 1 = true := rchB_iff.2 (.refl _)
  have h2 : rchB (nbs (eK [(1, 2)]) 3) 1 2 = true := rchB_iff.2 (Rch.one (by decide +kernel))
  unfold rowB
  simp only [List.range_succ, List.range_zero, List.nil_append, List.cons_append, List.map_cons, List.map_nil, h0, h1, h2]
theorem mut_no {s : Nat → List Nat} (S : List Nat) (hc : ∀ x ∈ S, ∀ y ∈ s x, y ∈ S) {u v : Nat} (hu : u ∈ S) (hv : v ∉ S) : ¬ Mut s u v := fun h => hv (h.1.stay S hc hu)
theorem ex_parts : prts (nbs (eK [(0, 2), (2, 0), (2, 1)]) 4) 4 = [[0, 2], [1], [3]] := by
  obtain ⟨s, hs⟩ : ∃ s, nbs (eK [(0, 2), (2, 0), (2, 1)]) 4 = s := ⟨_, rfl⟩
  rw [hs]
  have e02 : Mut s 0 2 := ⟨Rch.one (by rw [← hs]; decide +kernel), Rch.one (by rw [← hs]; decide +kernel)⟩
  have n1 : ∀ v, v ≠ 1 → ¬ Mut s 1 v := fun v hv => mut_no [1] (by rw [← hs]; decide +kernel) (by decide) (by simpa using hv)
  have n3 : ∀ v, v ≠ 3 → ¬ Mut s 3 v := fun v hv => mut_no [3] (by rw [← hs]; decide +kernel) (by decide) (by simpa using hv)
  have c : ∀ v l, l.Pairwise (fun a b : Nat => a < b) → (∀ x, x ∈ l ↔ x < 4 ∧ Mut s v x) → cmp s 4 v = l := fun v l h1 h2 => asc_ext id _ _ (cmp_asc s 4 v) h1 fun x => by rw [cmp_mem, h2]
  have c0 : cmp s 4 0 = [0, 2] := c 0 _ (by decide) fun x => by
    constructor
    · intro h
      simp only [List.mem_cons, List.not_mem_nil, or_false] at h
      rcases h with rfl | rfl
      · exact ⟨by omega, Mut.refl _ _⟩
      · exact ⟨by omega, e02⟩
    · rintro ⟨h1, h2⟩
      have h3 : x ≠ 1 := fun e => n1 0 (by omega) (by rw [e] at h2; exact h2.symm)
      have h4 : x ≠ 3 := fun e => n3 0 (by omega) (by rw [e] at h2; exact h2.symm)
      simp only [List.mem_cons, List.not_mem_nil, or_false]
      omega
  have c2 : cmp s 4 2 = [0, 2] := (cmp_eq e02.symm).trans c0
  have c1 : cmp s 4 1 = [1] := c 1 _ (by decide) fun x => by
    rw [List.mem_singleton]
    constructor
    · rintro rfl
      exact ⟨by omega, Mut.refl _ _⟩
    · rintro ⟨_, h2⟩
      exact Classical.byContradiction fun e => n1 x e h2
  have c3 : cmp s 4 3 = [3] := c 3 _ (by decide) fun x => by
    rw [List.mem_singleton]
    constructor
    · rintro rfl
      exact ⟨by omega, Mut.refl _ _⟩
    · rintro ⟨_, h2⟩
      exact Classical.byContradiction fun e => n3 x e h2
  refine (prts_uniq (by decide) fun l => ?_).symm
  simp only [List.mem_cons, List.not_mem_nil, or_false]
  constructor
  · rintro (rfl | rfl | rfl)
    · exact ⟨0, by omega, c0.symm⟩
    · exact ⟨1, by omega, c1.symm⟩
    · exact ⟨3, by omega, c3.symm⟩
  · rintro ⟨v, hv, rfl⟩
    rcases (show v = 0 ∨ v = 1 ∨ v = 2 ∨ v = 3 by omega) with rfl | rfl | rfl | rfl
    · exact .inl c0
    · exact .inr (.inl c1)
    · exact .inl c2
    · exact .inr (.inr c3)
end gr
end Go.Proofs.YtahffafobdiogaaDoor
