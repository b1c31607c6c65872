/- Plain mathematics of Same, Not, And, On of both sides. -/
import Derived.Test.YtimecbkfeennpaaBwSame
namespace Go.Proofs.Ytimecbkfeennpaa
set_option linter.unusedVariables false
set_option linter.unusedSimpArgs false
theorem ck2_iff {h l h' l' : List Bool} : ck2 h l h' l' = 0 ↔ ck h l = 0 ∧ ck h' l' = 0 := by
  unfold ck2
  by_cases e : ck h l = 0
  · rw [if_pos e]; exact ⟨fun k => ⟨e, k⟩, fun k => k.2⟩
  · rw [if_neg e]; exact ⟨fun k => absurd k e, fun k => absurd k.1 e⟩
theorem sameB_comm (h l h' l' : List Bool) : sameB h l h' l' = sameB h' l' h l := by
  unfold sameB
  have e : decide (ck2 h l h' l' = 0) = decide (ck2 h' l' h l = 0) := by rw [decide_eq_decide, ck2_iff, ck2_iff]; exact And.comm
  rw [e, BEq.comm (a := (nfw h l).1), BEq.comm (a := (nfw h l).2)]
theorem sameB_self (h l : List Bool) : sameB h l h l = (ck h l == 0) := by
  unfold sameB
  rw [beq_self_eq_true, beq_self_eq_true]
  by_cases e : ck h l = 0
  · rw [ck2, if_pos e, e]; rfl
  · rw [ck2, if_neg e, decide_eq_false e, Bool.false_and]
    symm
    simpa using e
theorem sameB_ok {h l h' l' : List Bool} (h1 : ck h l = 0) (h2 : ck h' l' = 0) : sameB h l h' l' = ((nfw h l).1 == (nfw h' l').1 && (nfw h l).2 == (nfw h' l').2) := by
  rw [sameB, decide_eq_true (ck2_iff.2 ⟨h1, h2⟩), Bool.true_and]
theorem sameB_eq {h l h' l' : List Bool} (h1 : ck h l = 0) (h2 : ck h' l' = 0) : sameB h l h' l' = true ↔ nfw h l = nfw h' l' := by
  rw [sameB_ok h1 h2, Bool.and_eq_true, beq_iff_eq, beq_iff_eq]
  exact Prod.ext_iff.symm
theorem sameB_al {h l h' l' : List Bool} (h1 : ck h l = 0) (h2 : ck h' l' = 0) : sameB h l h' l' = alB h l h' l' 8300 := by
  have k1 := lens h1
  have k2 := lens h2
  have hP : l.length * l'.length ≤ 4096 := Nat.le_trans (Nat.mul_le_mul (show l.length ≤ 64 by omega) (show l'.length ≤ 64 by omega)) (by decide)
  have hP0 := Nat.mul_pos k1.1 k2.1
  have p1 : per (lt h l) (max h.length h'.length) (l.length * l'.length) := by
    intro i hi
    have e := per_mul (per_lt h l) l'.length i (by omega)
    rwa [Nat.mul_comm l'.length] at e
  have p2 : per (lt h' l') (max h.length h'.length) (l.length * l'.length) := fun i hi => per_mul (per_lt h' l') l.length i (by omega)
  have n1 : nfw h l = nf (lt h l) (max h.length h'.length) (l.length * l'.length) := nf_eq (per_lt h l) k1.1 p1 hP0 (fun _ => rfl)
  have n2 : nfw h' l' = nf (lt h' l') (max h.length h'.length) (l.length * l'.length) := nf_eq (per_lt h' l') k2.1 p2 hP0 (fun _ => rfl)
  rw [Bool.eq_iff_iff, sameB_eq h1 h2]
  constructor
  · intro e
    rw [alB, List.all_eq_true]
    intro i _
    rw [beq_iff_eq, att_yes h1, att_yes h2, ← lt_nf (per_lt h l) k1.1 i, ← lt_nf (per_lt h' l') k2.1 i]
    show lt (nfw h l).1 (nfw h l).2 i = lt (nfw h' l').1 (nfw h' l').2 i
    rw [e]
  · intro e
    rw [alB, List.all_eq_true] at e
    rw [n1, n2]
    refine nf_congr hP0 p1 fun i hi => ?_
    have := e i (List.mem_range.2 (by omega))
    rwa [beq_iff_eq, att_yes h1, att_yes h2] at this
theorem inv_ck (h l : List Bool) : ck (inv h) (inv l) = ck h l := by unfold ck; rw [inv_length, inv_length]
theorem inv_lt {h l : List Bool} (h0 : 0 < l.length) (i : Nat) : lt (inv h) (inv l) i = !lt h l i := by
  unfold lt
  rw [inv_length, inv_length]
  split
  · rename_i hi
    simp [inv, List.getElem?_eq_getElem hi]
  · have hm := Nat.mod_lt (i - h.length) h0
    simp [inv, List.getElem?_eq_getElem hm]
theorem not_at {h l : List Bool} (h1 : ck h l = 0) (k : Nat) : att (notL h l).1 (notL h l).2 (k : Int) = !att h l (k : Int) := by
  rw [notL, if_pos h1, att_yes (by rw [inv_ck]; exact h1), att_yes h1, inv_lt (lens h1).1]
theorem notL_len (h l : List Bool) : (notL h l).1.length ≤ h.length ∧ (notL h l).2.length ≤ l.length := by
  unfold notL
  split
  · simp [inv_length]
  · exact ⟨Nat.zero_le _, Nat.zero_le _⟩
/-- the same at the least common multiple of the loops -/
theorem gcd_loop (a b : Nat) : a / Nat.gcd a b * b = a * (b / Nat.gcd a b) := by
  obtain ⟨x, hx⟩ := Nat.gcd_dvd_left a b
  obtain ⟨y, hy⟩ := Nat.gcd_dvd_right a b
  rcases Nat.eq_zero_or_pos (Nat.gcd a b) with h0 | h0
  · rw [h0]; simp
  · generalize Nat.gcd a b = g at *
    subst hx
    subst hy
    rw [Nat.mul_div_cancel_left _ h0, Nat.mul_div_cancel_left _ h0, Nat.mul_left_comm, Nat.mul_assoc]
def lcL (l l' : List Bool) : Nat := l.length / Nat.gcd l.length l'.length * l'.length
theorem lcL_pos {l l' : List Bool} (h0 : 0 < l.length) (h0' : 0 < l'.length) : 0 < lcL l l' := by
  refine Nat.mul_pos ?_ h0'
  exact Nat.div_pos (Nat.gcd_le_left _ h0) (Nat.gcd_pos_of_pos_left _ h0)
theorem lcL_le (l l' : List Bool) : lcL l l' ≤ l.length * l'.length := Nat.mul_le_mul (Nat.div_le_self _ _) (Nat.le_refl _)
theorem per_lc (h l h' l' : List Bool) : per (fun i => lt h l i && lt h' l' i) (max h.length h'.length) (lcL l l') := by
  intro i hi
  have e2 := per_mul (per_lt h' l') (l.length / Nat.gcd l.length l'.length) i (by omega)
  have e1 := per_mul (per_lt h l) (l'.length / Nat.gcd l.length l'.length) i (by omega)
  rw [Nat.mul_comm, ← gcd_loop] at e1
  show (lt h l (i + lcL l l') && lt h' l' (i + lcL l l')) = _
  rw [lcL, e1, e2]
theorem and_lc {h l h' l' : List Bool} (h0 : 0 < l.length) (h0' : 0 < l'.length) : nf (fun i => lt h l i && lt h' l' i) (max h.length h'.length) (lcL l l') = andW h l h' l' :=
  nf_eq (per_lc h l h' l') (lcL_pos h0 h0') (per_and h l h' l') (Nat.mul_pos h0 h0') (fun _ => rfl)
theorem andW_comm {h l h' l' : List Bool} (h0 : 0 < l.length) (h0' : 0 < l'.length) : andW h l h' l' = andW h' l' h l :=
  nf_eq (per_and h l h' l') (Nat.mul_pos h0 h0') (per_and h' l' h l) (Nat.mul_pos h0' h0) (fun _ => Bool.and_comm _ _)
/-- the result of And, with its error -/
def andR (h l h' l' : List Bool) : List Bool × List Bool := if ck2 h l h' l' = 0 then fit (andW h l h' l') else ([], [])
def andE (h l h' l' : List Bool) : Int := if ck2 h l h' l' = 0 then fitE (andW h l h' l') else ck2 h l h' l'
def onR (h l h' l' : List Bool) : List Bool × List Bool := if ck2 h l h' l' = 0 then fit (onW h l h' l') else ([], [])
def onE (h l h' l' : List Bool) : Int := if ck2 h l h' l' = 0 then fitE (onW h l h' l') else ck2 h l h' l'
theorem fit_ok {p : List Bool × List Bool} (h : fitE p = 0) : fit p = p ∧ p.1.length + p.2.length ≤ 64 := by
  unfold fitE at h
  split at h
  · rename_i k; exact ⟨if_pos k, k⟩
  · cases h
theorem andE_ok {h l h' l' : List Bool} (e : andE h l h' l' = 0) : ck h l = 0 ∧ ck h' l' = 0 ∧ andR h l h' l' = andW h l h' l' ∧ (andW h l h' l').1.length + (andW h l h' l').2.length ≤ 64 := by
  unfold andE at e
  split at e
  · rename_i k
    obtain ⟨a, b⟩ := ck2_iff.1 k
    obtain ⟨c, d⟩ := fit_ok e
    exact ⟨a, b, by rw [andR, if_pos k, c], d⟩
  · rename_i k; exact absurd e k
theorem onE_ok {h l h' l' : List Bool} (e : onE h l h' l' = 0) : ck h l = 0 ∧ ck h' l' = 0 ∧ onR h l h' l' = onW h l h' l' ∧ (onW h l h' l').1.length + (onW h l h' l').2.length ≤ 64 := by
  unfold onE at e
  split at e
  · rename_i k
    obtain ⟨a, b⟩ := ck2_iff.1 k
    obtain ⟨c, d⟩ := fit_ok e
    exact ⟨a, b, by rw [onR, if_pos k, c], d⟩
  · rename_i k; exact absurd e k
theorem nf_ck {f : Nat → Bool} {H L : Nat} (hL : per f H L) (h0 : 0 < L) (hf : (nf f H L).1.length + (nf f H L).2.length ≤ 64) : ck (nf f H L).1 (nf f H L).2 = 0 := by
  have := nf_len hL h0
  unfold ck
  rw [if_neg (by omega), if_neg (by omega)]
theorem and_letters {h l h' l' : List Bool} (e : andE h l h' l' = 0) (k : Nat) : att (andR h l h' l').1 (andR h l h' l').2 (k : Int) = (att h l (k : Int) && att h' l' (k : Int)) := by
  obtain ⟨a, b, c, d⟩ := andE_ok e
  have g1 := (lens a).1
  have g2 := (lens b).1
  have hp := Nat.mul_pos g1 g2
  have k0 : ck (andW h l h' l').1 (andW h l h' l').2 = 0 := nf_ck (per_and h l h' l') hp d
  rw [c, att_yes a, att_yes b, att_yes k0]
  exact lt_nf (per_and h l h' l') hp k
theorem andE_comm (h l h' l' : List Bool) (e : andE h l h' l' = 0) : andE h' l' h l = 0 ∧ andR h' l' h l = andR h l h' l' := by
  obtain ⟨a, b, c, d⟩ := andE_ok e
  have ec := andW_comm (h := h) (h' := h') (lens a).1 (lens b).1
  have k : ck2 h' l' h l = 0 := ck2_iff.2 ⟨b, a⟩
  have k' : ck2 h l h' l' = 0 := ck2_iff.2 ⟨a, b⟩
  refine ⟨?_, ?_⟩
  · rw [andE, if_pos k, ← ec]
    rw [andE, if_pos k'] at e
    exact e
  · rw [andR, andR, if_pos k, if_pos k', ec]
theorem nf_zero {f : Nat → Bool} {H L : Nat} (h0 : 0 < L) (hf : ∀ i, f i = false) : nf f H L = ([], [false]) := by
  have hp : per f H L := fun i _ => by rw [hf, hf]
  have e := nf_eq (f' := fun _ => false) (h' := 0) (L' := 1) hp h0 (fun _ _ => rfl) (by decide) hf
  rw [e]
  rfl
theorem and_not {h l : List Bool} (h1 : ck h l = 0) : andE h l (notL h l).1 (notL h l).2 = 0 ∧ andR h l (notL h l).1 (notL h l).2 = ([], [false]) := by
  have k : ck (notL h l).1 (notL h l).2 = 0 := by rw [notL, if_pos h1, inv_ck, h1]
  have k2 : ck2 h l (notL h l).1 (notL h l).2 = 0 := ck2_iff.2 ⟨h1, k⟩
  have g1 := (lens h1).1
  have g2 := (lens k).1
  have e : andW h l (notL h l).1 (notL h l).2 = ([], [false]) := by
    refine nf_zero (Nat.mul_pos g1 g2) fun i => ?_
    have := not_at h1 i
    rw [att_yes k, att_yes h1] at this
    rw [this]
    cases lt h l i <;> rfl
  rw [andE, andR, if_pos k2, if_pos k2, e]
  exact ⟨rfl, rfl⟩
end Go.Proofs.Ytimecbkfeennpaa
