/- distances: what is known at a level. -/
import Derived.Test.YtahffafobdiogaaDoorKgq
namespace Go.Proofs.YtahffafobdiogaaDoor
set_option linter.unusedVariables false
set_option linter.unusedSimpArgs false
open Go.RowKit
namespace gr
theorem opt_eq {o p : Option Nat} (h : ∀ e, o = some e ↔ p = some e) : o = p := by
  cases o with
  | none =>
    cases p with
    | none => rfl
    | some x => exact absurd ((h x).2 rfl) (by simp)
  | some x => exact ((h x).1 rfl).symm
/-- the vertices at a distance of at most k -/
def Dle (E : Nat → Nat → Bool) (n v k w : Nat) : Prop := ∃ e, e ≤ k ∧ Ds E n v v e w
open Classical in
noncomputable def dleB (E : Nat → Nat → Bool) (n v k w : Nat) : Bool := decide (Dle E n v k w)
theorem dleB_iff {E : Nat → Nat → Bool} {n v k w : Nat} : dleB E n v k w = true ↔ Dle E n v k w := by simp only [dleB, decide_eq_true_eq]
/-- what is seen behind k levels -/
noncomputable def base (E : Nat → Nat → Bool) (n v k w : Nat) : Bool := decide (w ≤ v) || dleB E n v k w
theorem ds_ge {E : Nat → Nat → Bool} {n v d w : Nat} (h : Ds E n v v d w) : v ≤ w := by
  cases d with
  | zero => rw [Ds.zero_iff.1 h]; exact Nat.le_refl _
  | succ d => exact (Ds.succ_iff.1 h).2.1
/-- what comes new at level k + 1 -/
theorem new_iff {E : Nat → Nat → Bool} {n v k w : Nat} : Ds E n v v (k + 1) w ↔ base E n v k w = false ∧ w < n ∧ ∃ u, E w u = true ∧ Ds E n v v k u := by
  rw [Ds.succ_iff]
  unfold base
  rw [Bool.or_eq_false_iff, decide_eq_false_iff_not]
  constructor
  · rintro ⟨h1, h2, h3, h4⟩
    refine ⟨⟨fun h => ?_, ?_⟩, h1, h3⟩
    · have : w = v := by omega
      exact h4 0 (by omega) (Ds.zero_iff.2 this)
    · cases hb : dleB E n v k w with
      | false => rfl
      | true =>
        obtain ⟨e, he, hd⟩ := dleB_iff.1 hb
        exact absurd hd (h4 e he)
  · rintro ⟨⟨h1, h2⟩, h3, h4⟩
    refine ⟨h3, by omega, h4, fun e he hd => ?_⟩
    rw [dleB_iff.2 ⟨e, he, hd⟩] at h2
    cases h2
theorem dle_succ {E : Nat → Nat → Bool} {n v k w : Nat} : Dle E n v (k + 1) w ↔ Dle E n v k w ∨ Ds E n v v (k + 1) w := by
  constructor
  · rintro ⟨e, he, hd⟩
    rcases Nat.eq_or_lt_of_le he with rfl | h
    · exact .inr hd
    · exact .inl ⟨e, by omega, hd⟩
  · rintro (⟨e, he, hd⟩ | hd)
    · exact ⟨e, by omega, hd⟩
    · exact ⟨k + 1, Nat.le_refl _, hd⟩
theorem base_zero {E : Nat → Nat → Bool} {n v w : Nat} : base E n v 0 w = decide (w ≤ v) := by
  unfold base
  cases hb : dleB E n v 0 w with
  | false => simp
  | true =>
    obtain ⟨e, he, hd⟩ := dleB_iff.1 hb
    obtain rfl : e = 0 := by omega
    have := Ds.zero_iff.1 hd
    simp [this]
theorem base_succ {E : Nat → Nat → Bool} {n v k w : Nat} {F : List Nat} (hF : ∀ w, w ∈ F ↔ Ds E n v v (k + 1) w) : (base E n v k w || F.contains w) = base E n v (k + 1) w := by
  unfold base
  rw [Bool.eq_iff_iff]
  simp only [Bool.or_eq_true, decide_eq_true_eq, dleB_iff, List.contains_iff_mem, hF, dle_succ, or_assoc]
theorem dI_zero {E : Nat → Nat → Bool} {n v w : Nat} : dI (capD 0 (dstS E n v)) w = if w = v then 0 else -1 := by
  by_cases h : w = v
  · rw [if_pos h]
    exact (dI_some (d := 0)).2 (capD_iff.2 ⟨dstS_iff.2 (Ds.zero_iff.2 h), Nat.le_refl _⟩)
  · rw [if_neg h]
    cases hc : capD 0 (dstS E n v) w with
    | none => unfold dI; rw [hc]
    | some d =>
      obtain ⟨h1, h2⟩ := capD_iff.1 hc
      obtain rfl : d = 0 := by omega
      exact absurd (Ds.zero_iff.1 (dstS_iff.1 h1)) h
theorem dI_succ {E : Nat → Nat → Bool} {n v k w : Nat} {F : List Nat} (hF : ∀ w, w ∈ F ↔ Ds E n v v (k + 1) w) : (if F.contains w = true then ((k + 1 : Nat) : Int) else dI (capD k (dstS E n v)) w) = dI (capD (k + 1) (dstS E n v)) w := by
  by_cases h : F.contains w = true
  · rw [if_pos h]
    exact (dI_some.2 (capD_iff.2 ⟨dstS_iff.2 ((hF w).1 (List.contains_iff_mem.1 h)), Nat.le_refl _⟩)).symm
  · rw [if_neg h]
    have e : capD k (dstS E n v) w = capD (k + 1) (dstS E n v) w := opt_eq fun d => by
      rw [capD_iff, capD_iff]
      constructor
      · exact fun x => ⟨x.1, by omega⟩
      · intro x
        refine ⟨x.1, ?_⟩
        have hne : d ≠ k + 1 := fun y => h (List.contains_iff_mem.2 ((hF w).2 (y ▸ dstS_iff.1 x.1)))
        omega
    unfold dI
    rw [e]
/-- with no vertex at distance k nothing is farther -/
theorem ds_stop {E : Nat → Nat → Bool} {n v k : Nat} (h : ∀ w, ¬ Ds E n v v k w) : ∀ d, k ≤ d → ∀ w, ¬ Ds E n v v d w := by
  intro d
  induction d with
  | zero =>
    intro hd w
    obtain rfl : k = 0 := by omega
    exact h w
  | succ d ih =>
    intro hd w hw
    rcases Nat.eq_or_lt_of_le hd with e | e
    · exact h w (e ▸ hw)
    · obtain ⟨_, _, ⟨u, _, hu⟩, _⟩ := Ds.succ_iff.1 hw
      exact ih (by omega) u hu
theorem cap_stop {E : Nat → Nat → Bool} {n v k far : Nat} (h : ∀ w, ¬ Ds E n v v k w) (hk : k ≤ far) : capD k (dstS E n v) = capD far (dstS E n v) := by
  funext w
  refine opt_eq fun d => ?_
  rw [capD_iff, capD_iff]
  constructor
  · exact fun x => ⟨x.1, by omega⟩
  · intro x
    refine ⟨x.1, ?_⟩
    rcases Nat.lt_or_ge k d with h1 | h1
    · exact absurd (dstS_iff.1 x.1) (ds_stop h d (by omega) w)
    · exact h1
end gr
end Go.Proofs.YtahffafobdiogaaDoor
