/- Plain mathematics of On: what it counts, that it is associative, that (1) is neutral, its form in the reference. -/
import Derived.Test.YtimecbkfeennpaaBwM2
namespace Go.Proofs.Ytimecbkfeennpaa
set_option linter.unusedVariables false
set_option linter.unusedSimpArgs false
/-- the ones of any letters -/
def ocF (f : Nat → Bool) : Nat → Nat
  | 0 => 0
  | k + 1 => ocF f k + if f k then 1 else 0
theorem oc_ocF (h l : List Bool) (k : Nat) : oc h l k = ocF (lt h l) k := by
  induction k with
  | zero => rfl
  | succ k ih => rw [oc, ocF, ih]
theorem ocF_congr {f g : Nat → Bool} (e : ∀ i, f i = g i) (k : Nat) : ocF f k = ocF g k := by
  rw [show f = g from funext e]
theorem ocF_on (h l h' l' : List Bool) (k : Nat) : ocF (onF h l h' l') k = oc h' l' (oc h l k) := by
  induction k with
  | zero => rfl
  | succ k ih =>
    rw [ocF, ih, oc, onF]
    cases lt h l k with
    | false => simp
    | true => simp [oc]
theorem on_letters {h l h' l' : List Bool} (e : onE h l h' l' = 0) : ck (onR h l h' l').1 (onR h l h' l').2 = 0 ∧ ∀ i, lt (onR h l h' l').1 (onR h l h' l').2 i = onF h l h' l' i := by
  obtain ⟨a, b, c, d⟩ := onE_ok e
  have hp := Nat.mul_pos (lens a).1 (lens b).1
  rw [c]
  exact ⟨nf_ck (per_on h l h' l') hp d, lt_nf (per_on h l h' l') hp⟩
theorem on_counts {h l h' l' : List Bool} (e : onE h l h' l' = 0) (k : Nat) : cc (onR h l h' l').1 (onR h l h' l').2 k = cc h' l' (cc h l k) := by
  obtain ⟨a, b, c, d⟩ := onE_ok e
  obtain ⟨k1, k2⟩ := on_letters e
  rw [cc, cc, cc, if_pos k1, if_pos a, if_pos b, oc_ocF, ocF_congr k2, ocF_on]
theorem on_assoc {h l h' l' h2 l2 : List Bool} (e1 : onE h l h' l' = 0) (e2 : onE h' l' h2 l2 = 0) (e3 : onE (onR h l h' l').1 (onR h l h' l').2 h2 l2 = 0) (e4 : onE h l (onR h' l' h2 l2).1 (onR h' l' h2 l2).2 = 0) :
    onR (onR h l h' l').1 (onR h l h' l').2 h2 l2 = onR h l (onR h' l' h2 l2).1 (onR h' l' h2 l2).2 := by
  obtain ⟨k1, k2⟩ := on_letters e1
  obtain ⟨k3, k4⟩ := on_letters e2
  obtain ⟨a3, b3, c3, _⟩ := onE_ok e3
  obtain ⟨a4, b4, c4, _⟩ := onE_ok e4
  rw [c3, c4]
  refine nf_eq (per_on _ _ _ _) (Nat.mul_pos (lens a3).1 (lens b3).1) (per_on _ _ _ _) (Nat.mul_pos (lens a4).1 (lens b4).1) fun i => ?_
  have ho : oc (onR h l h' l').1 (onR h l h' l').2 i = oc h' l' (oc h l i) := by rw [oc_ocF, ocF_congr k2, ocF_on]
  rw [onF, k2, onF, onF, k4, onF, ho, Bool.and_assoc]
theorem lt_one (i : Nat) : lt [] [true] i = true := by
  unfold lt
  rw [if_neg (by simp)]
  simp [Nat.mod_one]
theorem oc_one (i : Nat) : oc [] [true] i = i := by
  induction i with
  | zero => rfl
  | succ i ih => rw [oc, ih, lt_one]; rfl
theorem nf_self {h l : List Bool} (h1 : ck h l = 0) : nfw (nfw h l).1 (nfw h l).2 = nfw h l := by
  have := norm_idem h l
  rw [normL, normL, if_pos h1, if_pos (norm_ck h1)] at this
  exact this
theorem nfw_fit {h l : List Bool} (h1 : ck h l = 0) : fit (nfw h l) = nfw h l ∧ fitE (nfw h l) = 0 := by
  have k := lens (norm_ck h1)
  exact ⟨if_pos k.2, if_pos k.2⟩
theorem on_one_r {h l : List Bool} (h1 : ck h l = 0) : onE h l [] [true] = 0 ∧ onR h l [] [true] = nfw h l := by
  have k2 : ck2 h l [] [true] = 0 := ck2_iff.2 ⟨h1, by decide⟩
  have g1 := (lens h1).1
  have e : onW h l [] [true] = nfw h l :=
    nf_eq (per_on h l [] [true]) (by simpa using g1) (per_lt h l) g1 fun i => by rw [onF, lt_one, Bool.and_true]
  rw [onE, onR, if_pos k2, if_pos k2, e]
  exact ⟨(nfw_fit h1).2, (nfw_fit h1).1⟩
theorem on_one_l {h l : List Bool} (h1 : ck h l = 0) : onE [] [true] h l = 0 ∧ onR [] [true] h l = nfw h l := by
  have k2 : ck2 [] [true] h l = 0 := ck2_iff.2 ⟨by decide, h1⟩
  have g1 := (lens h1).1
  have e : onW [] [true] h l = nfw h l :=
    nf_eq (per_on [] [true] h l) (by simpa using g1) (per_lt h l) g1 fun i => by rw [onF, lt_one, Bool.true_and, oc_one]
  rw [onE, onR, if_pos k2, if_pos k2, e]
  exact ⟨(nfw_fit h1).2, (nfw_fit h1).1⟩
/-- the ones of the loop -/
theorem oc_q (h l : List Bool) : oc h l (h.length + l.length) - oc h l h.length = cnt l := by
  rw [oc_loop h l _ (Nat.le_refl _), oc_head h l _ (Nat.le_refl _)]
  simp only [cntTo, List.take_length, Nat.add_sub_cancel_left]
/-- how many turns the reference takes before b is in its loop -/
def turns (h l h' : List Bool) (m : Nat) : Prop := h'.length ≤ cnt h + m * cnt l
/-- the period of the reference's form -/
theorem per_ron {h l h' l' : List Bool} {m p : Nat} (hm : 0 < cnt l → turns h l h' m) (hp : 0 < cnt l → ∃ t, p * cnt l = t * l'.length) : per (onF h l h' l') (h.length + m * l.length) (p * l.length) := by
  intro i hi
  have hih : h.length ≤ i := by omega
  have e1 := per_mul (per_lt h l) p i hih
  have e2 := oc_turn h l p i hih
  rw [oc_q] at e2
  show (lt h l _ && lt h' l' _) = (lt h l _ && lt h' l' _)
  rw [e1, e2]
  rcases Nat.eq_zero_or_pos (cnt l) with h0 | h0
  · rw [h0]; simp
  · congr 1
    obtain ⟨t, ht⟩ := hp h0
    have hm' := hm h0
    unfold turns at hm'
    have big : h'.length ≤ oc h l i := by
      have hj := oc_turn h l m h.length (Nat.le_refl _)
      rw [oc_q, oc_head h l _ (Nat.le_refl _)] at hj
      simp only [cntTo, List.take_length] at hj
      have mono : ∀ a b, oc h l a ≤ oc h l (a + b) := by
        intro a b
        induction b with
        | zero => simp
        | succ b ih => rw [← Nat.add_assoc]; simp only [oc]; omega
      have := mono (h.length + m * l.length) (i - (h.length + m * l.length))
      rw [show h.length + m * l.length + (i - (h.length + m * l.length)) = i by omega] at this
      omega
    rw [ht]
    exact per_mul (per_lt h' l') t (oc h l i) big
theorem ron_nf {h l h' l' : List Bool} {m p : Nat} (h0 : 0 < l.length) (h0' : 0 < l'.length) (hp0 : 0 < p) (hm : 0 < cnt l → turns h l h' m) (hp : 0 < cnt l → ∃ t, p * cnt l = t * l'.length) :
    nf (onF h l h' l') (h.length + m * l.length) (p * l.length) = onW h l h' l' :=
  nf_eq (per_ron hm hp) (Nat.mul_pos hp0 h0) (per_on h l h' l') (Nat.mul_pos h0 h0') (fun _ => rfl)
end Go.Proofs.Ytimecbkfeennpaa
