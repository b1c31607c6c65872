/- Plain mathematics of Shift. -/
import Derived.Test.YtimecbkfeennpaaBwM3
namespace Go.Proofs.Ytimecbkfeennpaa
set_option linter.unusedVariables false
set_option linter.unusedSimpArgs false
def zs (n : Nat) : List Bool := List.replicate n false
theorem zs_length (n : Nat) : (zs n).length = n := by simp [zs]
/-- n zeros, then f -/
def shF (n : Nat) (f : Nat → Bool) (i : Nat) : Bool := if i < n then false else f (i - n)
theorem shF_shF (m n : Nat) (f : Nat → Bool) (i : Nat) : shF m (shF n f) i = shF (n + m) f i := by
  unfold shF
  by_cases h1 : i < m
  · rw [if_pos h1, if_pos (by omega)]
  · rw [if_neg h1]
    by_cases h2 : i - m < n
    · rw [if_pos h2, if_pos (by omega)]
    · rw [if_neg h2, if_neg (by omega)]
      congr 1
      omega
theorem lt_shift (n : Nat) (h l : List Bool) (i : Nat) : lt (zs n ++ h) l i = shF n (lt h l) i := by
  unfold shF lt
  rw [List.length_append, zs_length]
  by_cases h1 : i < n
  · rw [if_pos (by omega), if_pos h1, List.getElem?_append_left (by rw [zs_length]; exact h1)]
    simp [zs, h1]
  · rw [if_neg h1]
    by_cases h2 : i - n < h.length
    · rw [if_pos (by omega), if_pos h2, List.getElem?_append_right (by rw [zs_length]; omega), zs_length]
    · rw [if_neg (by omega), if_neg h2, show i - (n + h.length) = i - n - h.length by omega]
theorem per_shF {n H L : Nat} {f : Nat → Bool} (hf : per f H L) : per (shF n f) (n + H) L := by
  intro i hi
  unfold shF
  rw [if_neg (by omega), if_neg (by omega), show i + L - n = i - n + L by omega]
  exact hf _ (by omega)
theorem zs_fL (n k : Nat) (f : Nat → Bool) : zs n ++ fL f k = fL (shF n f) (n + k) := by
  apply List.ext_getElem
  · simp [zs, fL]
  · intro i h1 h2
    have hi : i < n + k := by simpa [fL] using h2
    by_cases h3 : i < n
    · rw [List.getElem_append_left (by rw [zs_length]; exact h3)]
      simp [zs, fL, shF, h3]
    · rw [List.getElem_append_right (by rw [zs_length]; omega)]
      simp [fL, shF, h3, zs_length]
theorem sh_nf {n : Nat} {h l : List Bool} (h0 : 0 < l.length) : nf (shF n (lt h l)) (n + h.length) l.length = nfw (zs n ++ h) l := by
  have e : (zs n ++ h).length = n + h.length := by rw [List.length_append, zs_length]
  refine nf_eq (per_shF (per_lt h l)) h0 (per_lt _ _) h0 fun i => ?_
  rw [lt_shift]
theorem cnt_zero {l : List Bool} : cnt l = 0 ↔ ∀ b ∈ l, b = false := by
  rw [cnt, List.count_eq_zero]
  constructor
  · intro h b hb
    cases b
    · rfl
    · exact absurd hb h
  · intro h hb
    have := h true hb
    cases this
theorem lt_zero {h l : List Bool} (h1 : cnt h = 0) (h2 : cnt l = 0) (i : Nat) : lt h l i = false := by
  have g : ∀ (k : List Bool), cnt k = 0 → ∀ j : Nat, k[j]?.getD false = false := by
    intro k hk j
    rcases e : k[j]? with _ | b
    · rfl
    · exact cnt_zero.1 hk b (List.mem_of_getElem? e)
  unfold lt
  split
  · exact g h h1 _
  · exact g l h2 _
theorem lt_one_of {h l : List Bool} (h0 : 0 < l.length) (hn : ¬ (cnt h = 0 ∧ cnt l = 0)) : ∃ i, lt h l i = true := by
  have g : ∀ (k : List Bool), ¬ cnt k = 0 → ∃ j : Nat, ∃ hj : j < k.length, k[j] = true := by
    intro k hk
    have : true ∈ k := by
      rcases Classical.em (true ∈ k) with h | h
      · exact h
      · exact absurd (List.count_eq_zero.2 h) hk
    obtain ⟨j, hj, e⟩ := List.getElem_of_mem this
    exact ⟨j, hj, e⟩
  by_cases h1 : cnt h = 0
  · obtain ⟨j, hj, e⟩ := g l (fun h2 => hn ⟨h1, h2⟩)
    refine ⟨h.length + j, ?_⟩
    rw [lt_hi, Nat.mod_eq_of_lt hj, gb, List.getElem?_eq_getElem hj, e]
    rfl
  · obtain ⟨j, hj, e⟩ := g h h1
    refine ⟨j, ?_⟩
    rw [lt_lo l hj, gb, List.getElem?_eq_getElem hj, e]
    rfl
/-- 64 zeros and then a one fit in no 64 letters -/
theorem no_fit {g : Nat → Bool} {H L : Nat} (hL : per g H L) (h0 : 0 < L) (hz : ∀ i, i < 64 → g i = false) (hone : ∃ i, g i = true) : ¬ (nf g H L).1.length + (nf g H L).2.length ≤ 64 := by
  intro hf
  obtain ⟨i, hi⟩ := hone
  have hl := lt_nf hL h0
  obtain ⟨_, y0, _⟩ := nf_len hL h0
  generalize (nf g H L).1 = X at *
  generalize (nf g H L).2 = Y at *
  have hb : ∀ j, j < X.length + Y.length → lt X Y j = false := fun j hj => by rw [hl]; exact hz j (by omega)
  have : lt X Y i = false := by
    by_cases h1 : i < X.length
    · exact hb i (by omega)
    · have hm := Nat.mod_lt (i - X.length) y0
      have e := hb (X.length + (i - X.length) % Y.length) (by omega)
      rw [lt_hi, Nat.mod_mod] at e
      have e2 := lt_hi X Y (i - X.length)
      rw [show X.length + (i - X.length) = i by omega] at e2
      rw [e2]
      exact e
  rw [hl, hi] at this
  cases this
/-- what Shift answers -/
def shR (h l : List Bool) (n : Int) : List Bool × List Bool := if ck h l = 0 ∧ 0 ≤ n then fit (nfw (zs (min n.toNat 64) ++ h) l) else ([], [])
def shE (h l : List Bool) (n : Int) : Int := if ck h l = 0 then if 0 ≤ n then fitE (nfw (zs (min n.toNat 64) ++ h) l) else 2 else ck h l
theorem sh_zero {h l : List Bool} {k : Nat} (h0 : 0 < l.length) (hz : cnt h = 0 ∧ cnt l = 0) : nfw (zs k ++ h) l = ([], [false]) := by
  rw [← sh_nf h0]
  exact nf_zero h0 fun i => by unfold shF; split <;> first | rfl | exact lt_zero hz.1 hz.2 _
theorem sh_big {h l : List Bool} {k : Nat} (h0 : 0 < l.length) (hk : 64 ≤ k) (hn : ¬ (cnt h = 0 ∧ cnt l = 0)) : fit (nfw (zs k ++ h) l) = ([], []) ∧ fitE (nfw (zs k ++ h) l) = 3 := by
  have := no_fit (per_shF (n := k) (per_lt h l)) h0 (fun i hi => by unfold shF; rw [if_pos (by omega)]) (by
    obtain ⟨i, hi⟩ := lt_one_of h0 hn
    exact ⟨k + i, by unfold shF; rw [if_neg (by omega), Nat.add_sub_cancel_left]; exact hi⟩)
  rw [sh_nf h0] at this
  exact ⟨if_neg this, if_neg this⟩
/-- the reference: for more than 64 zeros it counts on -/
theorem sh_ref {h l : List Bool} {k : Nat} (h0 : 0 < l.length) (hn : ¬ (cnt h = 0 ∧ cnt l = 0)) : fit (nfw (zs k ++ h) l) = fit (nfw (zs (min k 64) ++ h) l) ∧ fitE (nfw (zs k ++ h) l) = fitE (nfw (zs (min k 64) ++ h) l) := by
  rcases Nat.lt_or_ge k 64 with hk | hk
  · rw [Nat.min_eq_left (by omega)]
    exact ⟨rfl, rfl⟩
  · rw [Nat.min_eq_right hk]
    have a := sh_big (h := h) (l := l) h0 hk hn
    have b := sh_big (h := h) (l := l) h0 (Nat.le_refl 64) hn
    exact ⟨a.1.trans b.1.symm, a.2.trans b.2.symm⟩
theorem shE_ok {h l : List Bool} {n : Int} (e : shE h l n = 0) : ck h l = 0 ∧ 0 ≤ n ∧ shR h l n = nfw (zs (min n.toNat 64) ++ h) l ∧ (nfw (zs (min n.toNat 64) ++ h) l).1.length + (nfw (zs (min n.toNat 64) ++ h) l).2.length ≤ 64 := by
  unfold shE at e
  split at e
  · rename_i k
    split at e
    · rename_i k2
      obtain ⟨a, b⟩ := fit_ok e
      exact ⟨k, k2, by rw [shR, if_pos ⟨k, k2⟩, a], b⟩
    · cases e
  · rename_i k; exact absurd e k
theorem sh_letters {h l : List Bool} {n : Int} (e : shE h l n = 0) : ck (shR h l n).1 (shR h l n).2 = 0 ∧ ∀ i, lt (shR h l n).1 (shR h l n).2 i = shF n.toNat (lt h l) i := by
  obtain ⟨a, b, c, d⟩ := shE_ok e
  have h0 := (lens a).1
  rw [c]
  refine ⟨nf_ck (per_lt _ _) h0 d, fun i => ?_⟩
  rw [show lt (nfw (zs (min n.toNat 64) ++ h) l).1 (nfw (zs (min n.toNat 64) ++ h) l).2 i = lt (zs (min n.toNat 64) ++ h) l i from lt_nf (per_lt _ _) h0 i, lt_shift]
  by_cases hz : cnt h = 0 ∧ cnt l = 0
  · have z := lt_zero hz.1 hz.2
    unfold shF
    simp only [z, ite_self]
  · rcases Nat.lt_or_ge n.toNat 64 with hk | hk
    · rw [Nat.min_eq_left (by omega)]
    · rw [Nat.min_eq_right hk] at d
      have := (sh_big (h := h) (l := l) h0 (Nat.le_refl 64) hz).2
      rw [fitE, if_pos d] at this
      cases this
theorem sh_att {h l : List Bool} {n : Int} (e : shE h l n = 0) (i : Nat) : att (shR h l n).1 (shR h l n).2 (i : Int) = att h l ((i : Int) - n) := by
  obtain ⟨k1, k2⟩ := sh_letters e
  obtain ⟨a, b, _, _⟩ := shE_ok e
  rw [att_yes k1, k2]
  unfold shF
  split
  · rw [att_no (by omega)]
  · rename_i hi
    rw [att, if_pos ⟨a, by omega⟩]
    congr 1
    omega
/-- shifting twice -/
theorem sh_twice {h l : List Bool} {n m : Int} (e : shE h l n = 0) (hm : 0 ≤ m) : shE (shR h l n).1 (shR h l n).2 m = shE h l (n + m) ∧ shR (shR h l n).1 (shR h l n).2 m = shR h l (n + m) := by
  obtain ⟨k1, k2⟩ := sh_letters e
  obtain ⟨a, b, c, d⟩ := shE_ok e
  have h0 := (lens a).1
  have h1 := (lens k1).1
  have hnm : 0 ≤ n + m := by omega
  have key : fit (nfw (zs (min m.toNat 64) ++ (shR h l n).1) (shR h l n).2) = fit (nfw (zs (min (n + m).toNat 64) ++ h) l) ∧ fitE (nfw (zs (min m.toNat 64) ++ (shR h l n).1) (shR h l n).2) = fitE (nfw (zs (min (n + m).toNat 64) ++ h) l) := by
    by_cases hz : cnt h = 0 ∧ cnt l = 0
    · have z := lt_zero hz.1 hz.2
      have e1 : nfw (zs (min m.toNat 64) ++ (shR h l n).1) (shR h l n).2 = ([], [false]) := by
        rw [← sh_nf h1]
        exact nf_zero h1 fun i => by
          unfold shF
          split
          · rfl
          · rw [k2]; unfold shF; simp only [z, ite_self]
      rw [e1, sh_zero h0 hz]
      exact ⟨rfl, rfl⟩
    · have hn64 : n.toNat < 64 := by
        rcases Nat.lt_or_ge n.toNat 64 with hk | hk
        · exact hk
        · rw [Nat.min_eq_right hk] at d
          have := (sh_big (h := h) (l := l) h0 (Nat.le_refl 64) hz).2
          rw [fitE, if_pos d] at this
          cases this
      have hz2 : ¬ (cnt (shR h l n).1 = 0 ∧ cnt (shR h l n).2 = 0) := by
        intro hq
        obtain ⟨i, hi⟩ := lt_one_of h0 hz
        have := lt_zero hq.1 hq.2 (n.toNat + i)
        rw [k2] at this
        unfold shF at this
        rw [if_neg (by omega), Nat.add_sub_cancel_left, hi] at this
        cases this
      have r1 := sh_ref (k := m.toNat) h1 hz2
      have r2 := sh_ref (k := (n + m).toNat) h0 hz
      have same : nfw (zs m.toNat ++ (shR h l n).1) (shR h l n).2 = nfw (zs (n + m).toNat ++ h) l := by
        rw [← sh_nf h1, ← sh_nf h0]
        refine nf_eq (per_shF (per_lt _ _)) h1 (per_shF (per_lt _ _)) h0 fun i => ?_
        rw [show shF m.toNat (lt (shR h l n).1 (shR h l n).2) i = shF m.toNat (shF n.toNat (lt h l)) i from by unfold shF; split <;> first | rfl | exact k2 _, shF_shF]
        congr 1
        omega
      rw [same] at r1
      exact ⟨r1.1.symm.trans r2.1, r1.2.symm.trans r2.2⟩
  refine ⟨?_, ?_⟩
  · rw [shE, if_pos k1, if_pos hm, key.2, shE, if_pos a, if_pos hnm]
  · rw [shR, if_pos ⟨k1, hm⟩, key.1]
    rw [show shR h l (n + m) = fit (nfw (zs (min (n + m).toNat 64) ++ h) l) from if_pos ⟨a, hnm⟩]
end Go.Proofs.Ytimecbkfeennpaa
