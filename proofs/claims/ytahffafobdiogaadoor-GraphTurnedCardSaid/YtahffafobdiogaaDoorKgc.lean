/- The least of the shortest cycles, as a function of the edges: plain. -/
import Derived.Test.YtahffafobdiogaaDoorKga
namespace Go.Proofs.YtahffafobdiogaaDoor
set_option linter.unusedVariables false
set_option linter.unusedSimpArgs false
namespace gr
/-- the way on by distances d, .., 1: each time the least neighbour at that distance -/
def folr (nx : Nat → Nat → Option Nat) : Nat → Nat → List Nat
  | 0, _ => []
  | d + 1, v => match nx v (d + 1) with
    | none => []
    | some w => w :: folr nx d w
open Classical in
/-- the distances to v by vertices from v on -/
noncomputable def dstS (E : Nat → Nat → Bool) (n v : Nat) : Nat → Option Nat := fun w => if h : ∃ d, Ds E n v v d w then some (Classical.choose h) else none
theorem dstS_iff {E : Nat → Nat → Bool} {n v w d : Nat} : dstS E n v w = some d ↔ Ds E n v v d w := by
  unfold dstS
  constructor
  · intro h
    split at h
    · rename_i hx
      injection h with h
      rw [← h]
      exact Classical.choose_spec hx
    · cases h
  · intro h
    have hx : ∃ d, Ds E n v v d w := ⟨d, h⟩
    rw [dif_pos hx]
    exact congrArg some ((Classical.choose_spec hx).uniq h)
theorem dst_eq {E : Nat → Nat → Bool} {n v : Nat} {D : Nat → Option Nat} (h : ∀ w d, D w = some d ↔ Ds E n v v d w) : D = dstS E n v := by
  funext w
  cases hw : dstS E n v w with
  | some d => exact (h w d).2 (dstS_iff.1 hw)
  | none =>
    cases hd : D w with
    | none => rfl
    | some d => rw [dstS_iff.2 ((h w d).1 hd)] at hw; cases hw
open Classical in
/-- the smallest distance about v -/
noncomputable def mndO (E : Nat → Nat → Bool) (n : Nat) (D : Nat → Option Nat) (v : Nat) : Option Nat := if h : ∃ d, Mnd E n D v d then some (Classical.choose h) else none
theorem mndO_some {E : Nat → Nat → Bool} {n : Nat} {D : Nat → Option Nat} {v d : Nat} : mndO E n D v = some d ↔ Mnd E n D v d := by
  unfold mndO
  constructor
  · intro h
    split at h
    · rename_i hx
      injection h with h
      rw [← h]
      exact Classical.choose_spec hx
    · cases h
  · intro h
    have hx : ∃ d, Mnd E n D v d := ⟨d, h⟩
    rw [dif_pos hx]
    exact congrArg some (Mnd.uniq (Classical.choose_spec hx) h)
theorem mnd_ex {E : Nat → Nat → Bool} {n : Nat} {D : Nat → Option Nat} {v : Nat} : ∀ (e w : Nat), w < n → E v w = true → D w = some e → ∃ d, Mnd E n D v d := by
  intro e
  induction e using Nat.strongRecOn with
  | ind e ih =>
    intro w hw he hd
    by_cases hx : ∃ u f, u < n ∧ E v u = true ∧ D u = some f ∧ f < e
    · obtain ⟨u, f, h1, h2, h3, h4⟩ := hx
      exact ih f h4 u h1 h2 h3
    · refine ⟨e, ⟨w, hw, he, hd⟩, fun u f h1 h2 h3 => ?_⟩
      rcases Nat.lt_or_ge f e with h4 | h4
      · exact absurd ⟨u, f, h1, h2, h3, h4⟩ hx
      · exact h4
theorem mndO_none {E : Nat → Nat → Bool} {n : Nat} {D : Nat → Option Nat} {v : Nat} : mndO E n D v = none ↔ ∀ w, w < n → E v w = true → D w = none := by
  constructor
  · intro h w hw he
    cases hd : D w with
    | none => rfl
    | some e =>
      obtain ⟨d, hm⟩ := mnd_ex e w hw he hd
      rw [mndO_some.2 hm] at h
      cases h
  · intro h
    cases hm : mndO E n D v with
    | none => rfl
    | some d =>
      obtain ⟨⟨w, h1, h2, h3⟩, _⟩ := mndO_some.1 hm
      rw [h w h1 h2] at h3
      cases h3
/-- the cycle through v that distances give, or nothing -/
noncomputable def thrS (E : Nat → Nat → Bool) (n : Nat) (D : Nat → Option Nat) (v : Nat) : List Nat := match mndO E n D v with
  | none => []
  | some d => v :: folr (nea E n D) d v
/-- distances up to m only -/
def capD (m : Nat) (D : Nat → Option Nat) : Nat → Option Nat := fun w => (D w).filter (fun d => decide (d ≤ m))
theorem capD_iff {m : Nat} {D : Nat → Option Nat} {w e : Nat} : capD m D w = some e ↔ D w = some e ∧ e ≤ m := by
  unfold capD
  rw [Option.filter_eq_some_iff, decide_eq_true_eq]
theorem folr_congr {nx ny : Nat → Nat → Option Nat} : ∀ (d v : Nat), (∀ e, e ≤ d → ∀ u, nx u e = ny u e) → folr nx d v = folr ny d v
  | 0, _, _ => rfl
  | d + 1, v, h => by
    unfold folr
    rw [h (d + 1) (Nat.le_refl _)]
    cases ny v (d + 1) with
    | none => rfl
    | some w => exact congrArg _ (folr_congr d w fun e he u => h e (by omega) u)
theorem folr_len_le {nx : Nat → Nat → Option Nat} : ∀ (d v : Nat), (folr nx d v).length ≤ d
  | 0, _ => by simp [folr]
  | d + 1, v => by
    unfold folr
    cases nx v (d + 1) with
    | none => simp
    | some w => simpa using folr_len_le d w
/-- in true distances the way on has its full length -/
theorem folr_len {E : Nat → Nat → Bool} {n v : Nat} (hv : v < n) : ∀ (d u : Nat), (d = 0 ∨ ∃ w, w < n ∧ E u w = true ∧ dstS E n v w = some d) → (folr (nea E n (dstS E n v)) d u).length = d
  | 0, _, _ => by simp [folr]
  | d + 1, u, h => by
    rcases h with h | ⟨w, h1, h2, h3⟩
    · omega
    · obtain ⟨x, hx⟩ := nea_ex (E := E) (n := n) (D := dstS E n v) h1 h2 h3
      unfold folr
      rw [hx]
      simp only [List.length_cons, Nat.add_right_cancel_iff]
      refine folr_len hv d x ?_
      rcases Nat.eq_zero_or_pos d with h0 | h0
      · exact .inl h0
      · right
        obtain ⟨_, _, ⟨y, hy1, hy2⟩, _⟩ := Ds.succ_iff.1 (dstS_iff.1 (nea_some hx).2.2)
        obtain ⟨e, rfl⟩ : ∃ e, d = e + 1 := ⟨d - 1, by omega⟩
        exact ⟨y, (Ds.succ_iff.1 hy2).1, hy1, dstS_iff.2 hy2⟩
theorem thrS_some {E : Nat → Nat → Bool} {n v d : Nat} (hv : v < n) (h : Mnd E n (dstS E n v) v d) : thrS E n (dstS E n v) v = v :: folr (nea E n (dstS E n v)) d v ∧ (thrS E n (dstS E n v) v).length = d + 1 := by
  have e : thrS E n (dstS E n v) v = v :: folr (nea E n (dstS E n v)) d v := by
    unfold thrS
    rw [mndO_some.2 h]
  refine ⟨e, ?_⟩
  rw [e, List.length_cons, folr_len hv d v]
  obtain ⟨⟨w, h1, h2, h3⟩, _⟩ := h
  exact .inr ⟨w, h1, h2, h3⟩
/-- distances that are cut off at m give the same cycle, or none if it is longer -/
theorem thr_cap {E : Nat → Nat → Bool} {n v m : Nat} (hv : v < n) : thrS E n (capD m (dstS E n v)) v = if (thrS E n (dstS E n v) v).length ≤ m + 1 then thrS E n (dstS E n v) v else [] := by
  cases hm : mndO E n (dstS E n v) v with
  | none =>
    have h1 : thrS E n (dstS E n v) v = [] := by unfold thrS; rw [hm]
    have h2 : mndO E n (capD m (dstS E n v)) v = none := mndO_none.2 fun w hw he => by
      rw [capD, mndO_none.1 hm w hw he]
      rfl
    rw [h1]
    unfold thrS
    rw [h2]
    simp
  | some d =>
    have hd := mndO_some.1 hm
    obtain ⟨e1, e2⟩ := thrS_some hv hd
    rw [e2]
    by_cases hdm : d ≤ m
    · rw [if_pos (by omega), e1]
      have h2 : mndO E n (capD m (dstS E n v)) v = some d := mndO_some.2 ((Mnd.capped (fun w e => capD_iff) hdm).1 hd)
      unfold thrS
      rw [h2]
      refine congrArg _ (folr_congr d v fun e he u => nea_congr fun w hw => ?_)
      rw [capD_iff]
      exact ⟨fun x => x.1, fun x => ⟨x, by omega⟩⟩
    · rw [if_neg (by omega)]
      have h2 : mndO E n (capD m (dstS E n v)) v = none := mndO_none.2 fun w hw he => by
        cases hx : capD m (dstS E n v) w with
        | none => rfl
        | some e =>
          obtain ⟨x1, x2⟩ := capD_iff.1 hx
          have := hd.2 w e hw he x1
          omega
      unfold thrS
      rw [h2]
/-- a shorter cycle replaces the one that was found -/
noncomputable def cstep (E : Nat → Nat → Bool) (n : Nat) (best : List Nat) (v : Nat) : List Nat :=
  if thrS E n (dstS E n v) v ≠ [] ∧ (best = [] ∨ (thrS E n (dstS E n v) v).length < best.length) then thrS E n (dstS E n v) v else best
noncomputable def cycK (E : Nat → Nat → Bool) (n k : Nat) : List Nat := (List.range k).foldl (cstep E n) []
theorem cycK_succ (E : Nat → Nat → Bool) (n k : Nat) : cycK E n (k + 1) = cstep E n (cycK E n k) k := by
  unfold cycK
  rw [List.range_succ, List.foldl_append]
  rfl
theorem cstep_one {E : Nat → Nat → Bool} {n : Nat} {best : List Nat} (h : best.length = 1) (v : Nat) : cstep E n best v = best := by
  unfold cstep
  rw [if_neg]
  rintro ⟨h1, h2 | h2⟩
  · rw [h2] at h; simp at h
  · have := List.length_pos_iff.2 h1
    omega
/-- once a cycle of one vertex is found it stays -/
theorem cycK_one {E : Nat → Nat → Bool} {n k : Nat} (h : (cycK E n k).length = 1) : ∀ j, cycK E n (k + j) = cycK E n k
  | 0 => rfl
  | j + 1 => by
    rw [← Nat.add_assoc, cycK_succ, cycK_one h j, cstep_one h]
theorem cycK_len {E : Nat → Nat → Bool} {n : Nat} : ∀ k, k ≤ n → cycK E n k ≠ [] → ∃ v d, v < k ∧ Mnd E n (dstS E n v) v d ∧ cycK E n k = v :: folr (nea E n (dstS E n v)) d v ∧ (cycK E n k).length = d + 1
  | 0, _, h => absurd rfl h
  | k + 1, hk, h => by
    rw [cycK_succ] at h ⊢
    unfold cstep at h ⊢
    split
    · rename_i hc
      cases hm : mndO E n (dstS E n k) k with
      | none => exact absurd (by unfold thrS; rw [hm]) hc.1
      | some d =>
        obtain ⟨e1, e2⟩ := thrS_some (by omega : k < n) (mndO_some.1 hm)
        exact ⟨k, d, by omega, mndO_some.1 hm, e1, e2⟩
    · rename_i hc
      rw [if_neg hc] at h
      obtain ⟨v, d, h1, h2⟩ := cycK_len k (by omega) h
      exact ⟨v, d, by omega, h2⟩
/-- there is one exactly if some way leads back -/
theorem cycK_none {E : Nat → Nat → Bool} {n : Nat} : ∀ k, k ≤ n → (cycK E n k = [] ↔ ∀ v, v < k → mndO E n (dstS E n v) v = none)
  | 0, _ => ⟨fun _ v hv => absurd hv (Nat.not_lt_zero _), fun _ => rfl⟩
  | k + 1, hk => by
    rw [cycK_succ]
    have ih := cycK_none (E := E) (n := n) k (by omega)
    have hn : thrS E n (dstS E n k) k = [] ↔ mndO E n (dstS E n k) k = none := by
      unfold thrS
      cases mndO E n (dstS E n k) k <;> simp
    constructor
    · intro h
      unfold cstep at h
      split at h
      · rename_i hc
        exact absurd h hc.1
      · rename_i hc
        have h0 := ih.1 h
        intro v hv
        rcases Nat.lt_succ_iff_lt_or_eq.1 hv with h1 | rfl
        · exact h0 v h1
        · refine hn.1 (Classical.byContradiction fun hx => hc ⟨hx, .inl h⟩)
    · intro h
      have h0 := ih.2 fun v hv => h v (by omega)
      unfold cstep
      rw [hn.2 (h k (by omega)), h0]
      simp
theorem cyc_way {E : Nat → Nat → Bool} {n : Nat} : cycK E n n = [] ↔ ∀ v, ¬ Way E n v v := by
  rw [cycK_none n (Nat.le_refl _)]
  constructor
  · intro h v hv
    obtain ⟨u, w, d, h1, h2, h3, h4⟩ := cycle_least.1 ⟨v, hv⟩
    have := mndO_none.1 (h u h1) w h2 h3
    rw [dstS_iff.2 h4] at this
    cases this
  · intro h v hv
    refine mndO_none.2 fun w hw he => ?_
    cases hd : dstS E n v w with
    | none => rfl
    | some d =>
      obtain ⟨u, hu⟩ := cycle_least.2 ⟨v, w, d, hv, hw, he, dstS_iff.1 hd⟩
      exact absurd hu (h u)
end gr
end Go.Proofs.YtahffafobdiogaaDoor
