/- Plain mathematics of ultimately periodic words: the normal form by search, and that it hangs on the letters alone. -/
import Derived.Test.YtlpigdekjkpnpaaDoorBwA
namespace Go.Proofs.YtlpigdekjkpnpaaDoor
set_option linter.unusedVariables false
set_option linter.unusedSimpArgs false
def per (f : Nat → Bool) (h p : Nat) : Prop := ∀ i, h ≤ i → f (i + p) = f i
theorem per_mul {f : Nat → Bool} {h p : Nat} (hp : per f h p) (m : Nat) : per f h (m * p) := by
  intro i hi
  induction m with
  | zero => simp
  | succ m ih => rw [Nat.succ_mul, ← Nat.add_assoc, hp _ (by omega), ih]
theorem per_mono {f : Nat → Bool} {h h' p : Nat} (hp : per f h p) (hh : h ≤ h') : per f h' p := fun i hi => hp i (by omega)
theorem per_mod {f : Nat → Bool} {h p a b : Nat} (hp : per f h p) (ha : h ≤ a) (hb : h ≤ b) (e : a % p = b % p) : f a = f b := by
  rcases Nat.le_total a b with hab | hab
  · obtain ⟨d, rfl⟩ : ∃ d, b = a + d := ⟨b - a, by omega⟩
    have hd : d % p = 0 := by
      have h1 := Nat.sub_mod_eq_zero_of_mod_eq (e.symm)
      rwa [Nat.add_sub_cancel_left] at h1
    have hm := per_mul hp (d / p) a ha
    have e2 : d / p * p = d := by have := Nat.div_add_mod d p; rw [Nat.mul_comm]; omega
    rw [e2] at hm
    exact hm.symm
  · obtain ⟨d, rfl⟩ : ∃ d, a = b + d := ⟨a - b, by omega⟩
    have hd : d % p = 0 := by
      have h1 := Nat.sub_mod_eq_zero_of_mod_eq (e)
      rwa [Nat.add_sub_cancel_left] at h1
    have hm := per_mul hp (d / p) b hb
    have e2 : d / p * p = d := by have := Nat.div_add_mod d p; rw [Nat.mul_comm]; omega
    rw [e2] at hm
    exact hm
/-- a period of the tail is one from where the longer one holds -/
theorem per_back {f : Nat → Bool} {h h0 p L : Nat} (hL : per f h L) (hL0 : 0 < L) (hp : per f h0 p) : per f h p := by
  intro i hi
  have h1 := per_mul hL (h0 + 1) (i + p) (by omega)
  have h2 := per_mul hL (h0 + 1) i hi
  have hge : h0 + 1 ≤ (h0 + 1) * L := Nat.le_mul_of_pos_right _ hL0
  have h3 := hp (i + (h0 + 1) * L) (by omega)
  rw [← h1, ← h2, ← h3]
  congr 1
  omega
/-- below each eventual period there is one that divides L -/
theorem per_dvd {f : Nat → Bool} {h L : Nat} (hL : per f h L) (hL0 : 0 < L) : ∀ (n p h0 : Nat), p ≤ n → 0 < p → per f h0 p → ∃ g, 0 < g ∧ g ≤ p ∧ L % g = 0 ∧ per f h g := by
  intro n
  induction n with
  | zero => intro p h0 h1 h2; omega
  | succ n ih =>
    intro p h0 hn hp0 hp
    have hp' := per_back hL hL0 hp
    rcases Nat.eq_zero_or_pos (L % p) with e | e
    · exact ⟨p, hp0, Nat.le_refl _, e, hp'⟩
    · have hlt := Nat.mod_lt L hp0
      have hg : per f h (L % p) := by
        intro i hi
        have h1 := per_mul hp' (L / p) (i + L % p) (by omega)
        have h2 := hL i hi
        have e2 := Nat.div_add_mod L p
        rw [← h1, ← h2]
        congr 1
        rw [Nat.mul_comm] at e2
        omega
      obtain ⟨g, g1, g2, g3, g4⟩ := ih (L % p) h (by omega) e hg
      exact ⟨g, g1, by omega, g3, g4⟩
def allB (f : Nat → Bool) (a n p : Nat) : Bool := (List.range n).all fun j => f (a + j) == f (a + j + p)
theorem allB_iff {f : Nat → Bool} {a n p : Nat} : allB f a n p = true ↔ ∀ j, j < n → f (a + j) = f (a + j + p) := by simp [allB]
def findP (t : Nat → Bool) : Nat → Nat → Nat
  | 0, p => p
  | n + 1, p => if t p then p else findP t n (p + 1)
theorem findP_spec {t : Nat → Bool} : ∀ (n p q : Nat), p ≤ q → q ≤ p + n → t q = true → t (findP t n p) = true ∧ p ≤ findP t n p ∧ findP t n p ≤ q ∧ ∀ r, p ≤ r → r < findP t n p → t r = false := by
  intro n
  induction n with
  | zero =>
    intro p q h1 h2 h3
    obtain rfl : q = p := by omega
    exact ⟨h3, Nat.le_refl _, Nat.le_refl _, fun r h4 h5 => by simp [findP] at h5; omega⟩
  | succ n ih =>
    intro p q h1 h2 h3
    by_cases ht : t p = true
    · simp only [findP, ht, if_true]
      exact ⟨trivial, Nat.le_refl _, h1, fun r h4 h5 => by omega⟩
    · have hq : p + 1 ≤ q := by
        rcases Nat.lt_or_ge p q with h | h
        · exact h
        · obtain rfl : p = q := by omega
          exact absurd h3 ht
      have hf : t p = false := by simpa using ht
      obtain ⟨a, b, c, d⟩ := ih (p + 1) q hq (by omega) h3
      simp only [findP, hf]
      refine ⟨a, Nat.le_of_succ_le b, c, fun r h4 h5 => ?_⟩
      rcases Nat.lt_or_ge p r with h | h
      · exact d r h h5
      · obtain rfl : r = p := by omega
        exact hf
def tP (f : Nat → Bool) (h L p : Nat) : Bool := L % p == 0 && allB f h L p
def pOf (f : Nat → Bool) (h L : Nat) : Nat := findP (tP f h L) L 1
def down (t : Nat → Bool) : Nat → Nat
  | 0 => 0
  | h + 1 => if t h then down t h else h + 1
def tH (f : Nat → Bool) (p i : Nat) : Bool := f i == f (i + p)
def hOf (f : Nat → Bool) (h p : Nat) : Nat := down (tH f p) h
def nf (f : Nat → Bool) (h L : Nat) : List Bool × List Bool := ((List.range (hOf f h (pOf f h L))).map f, (List.range (pOf f h L)).map fun i => f (hOf f h (pOf f h L) + i))
theorem down_le (t : Nat → Bool) (h : Nat) : down t h ≤ h := by
  induction h with
  | zero => simp [down]
  | succ h ih => simp only [down]; split <;> omega
theorem down_all (t : Nat → Bool) (h : Nat) : ∀ i, down t h ≤ i → i < h → t i = true := by
  induction h with
  | zero => intro i _ h; omega
  | succ h ih =>
    intro i h1 h2
    simp only [down] at h1
    split at h1
    · rename_i ht
      rcases Nat.lt_or_ge i h with h3 | h3
      · exact ih i h1 h3
      · obtain rfl : i = h := by omega
        exact ht
    · omega
theorem down_stop (t : Nat → Bool) (h : Nat) : 0 < down t h → t (down t h - 1) = false := by
  induction h with
  | zero => intro h; simp [down] at h
  | succ h ih =>
    intro h1
    simp only [down] at h1 ⊢
    split
    · rename_i ht
      rw [if_pos ht] at h1
      exact ih h1
    · rename_i ht
      simpa using ht
theorem tP_self {f : Nat → Bool} {h L : Nat} (hL : per f h L) : tP f h L L = true := by
  simp only [tP, Nat.mod_self, Bool.and_eq_true, beq_self_eq_true, true_and, allB_iff]
  exact fun j _ => (hL (h + j) (by omega)).symm
theorem tP_per {f : Nat → Bool} {h L p : Nat} (hL : per f h L) (hL0 : 0 < L) (ht : tP f h L p = true) : L % p = 0 ∧ per f h p := by
  simp only [tP, Bool.and_eq_true, beq_iff_eq, allB_iff] at ht
  refine ⟨ht.1, fun i hi => ?_⟩
  obtain ⟨x, rfl⟩ : ∃ x, i = h + x := ⟨i - h, by omega⟩
  have e := ht.2 (x % L) (Nat.mod_lt _ hL0)
  have h1 : f (h + x % L) = f (h + x) := by
    have := per_mul hL (x / L) (h + x % L) (by omega)
    rw [← this]; congr 1
    have := Nat.div_add_mod x L
    rw [Nat.mul_comm] at this
    omega
  have h2 : f (h + x % L + p) = f (h + x + p) := by
    have := per_mul hL (x / L) (h + x % L + p) (by omega)
    rw [← this]; congr 1
    have := Nat.div_add_mod x L
    rw [Nat.mul_comm] at this
    omega
  rw [← h1, e, h2]
theorem pOf_spec {f : Nat → Bool} {h L : Nat} (hL : per f h L) (hL0 : 0 < L) : 0 < pOf f h L ∧ pOf f h L ≤ L ∧ L % pOf f h L = 0 ∧ per f h (pOf f h L) ∧ ∀ p h0, 0 < p → per f h0 p → pOf f h L ≤ p := by
  obtain ⟨a, b, c, d⟩ := findP_spec (t := tP f h L) L 1 L (by omega) (by omega) (tP_self hL)
  obtain ⟨e1, e2⟩ := tP_per hL hL0 a
  refine ⟨b, c, e1, e2, fun p h0 hp0 hp => ?_⟩
  obtain ⟨g, g1, g2, g3, g4⟩ := per_dvd hL hL0 p p h0 (Nat.le_refl _) hp0 hp
  have ht : tP f h L g = true := by
    simp only [tP, Bool.and_eq_true, beq_iff_eq, allB_iff]
    exact ⟨g3, fun j _ => (g4 (h + j) (by omega)).symm⟩
  rcases Nat.lt_or_ge g (pOf f h L) with h1 | h1
  · have := d g g1 h1
    rw [ht] at this
    cases this
  · exact Nat.le_trans h1 g2
theorem hOf_spec {f : Nat → Bool} {h p : Nat} (hp : per f h p) : hOf f h p ≤ h ∧ per f (hOf f h p) p ∧ ∀ k, per f k p → hOf f h p ≤ k := by
  refine ⟨down_le _ _, fun i hi => ?_, fun k hk => ?_⟩
  · rcases Nat.lt_or_ge i h with h1 | h1
    · have := down_all (tH f p) h i hi h1
      simp only [tH, beq_iff_eq] at this
      exact this.symm
    · exact hp i h1
  · rcases Nat.lt_or_ge k (hOf f h p) with h1 | h1
    · have h2 := down_stop (tH f p) h (by unfold hOf at h1; omega)
      have h3 := hk (hOf f h p - 1) (by omega)
      simp only [tH, beq_eq_false_iff_ne, ne_eq] at h2
      exact absurd h3.symm h2
    · exact h1
/-- the normal form hangs on the letters alone -/
theorem nf_eq {f f' : Nat → Bool} {h L h' L' : Nat} (hL : per f h L) (hL0 : 0 < L) (hL' : per f' h' L') (hL0' : 0 < L') (e : ∀ i, f i = f' i) : nf f h L = nf f' h' L' := by
  obtain rfl : f = f' := funext e
  obtain ⟨a1, a2, a3, a4, a5⟩ := pOf_spec hL hL0
  obtain ⟨b1, b2, b3, b4, b5⟩ := pOf_spec hL' hL0'
  have ep : pOf f h L = pOf f h' L' := Nat.le_antisymm (a5 _ _ b1 b4) (b5 _ _ a1 a4)
  obtain ⟨c1, c2, c3⟩ := hOf_spec a4
  obtain ⟨d1, d2, d3⟩ := hOf_spec b4
  have eh : hOf f h (pOf f h L) = hOf f h' (pOf f h' L') := Nat.le_antisymm (c3 _ (by rw [ep]; exact d2)) (d3 _ (by rw [← ep]; exact c2))
  unfold nf
  rw [eh, ep]
theorem nf_congr {f f' : Nat → Bool} {h L : Nat} (hL0 : 0 < L) (hL : per f h L) (e : ∀ i, i < h + 2 * L → f i = f' i) : nf f h L = nf f' h L := by
  have hall : ∀ p, p ≤ L → allB f h L p = allB f' h L p := by
    intro p hp
    rw [Bool.eq_iff_iff, allB_iff, allB_iff]
    constructor
    · intro hh j hj; rw [← e _ (by omega), ← e _ (by omega)]; exact hh j hj
    · intro hh j hj; rw [e _ (by omega), e _ (by omega)]; exact hh j hj
  have ht : ∀ p, p ≤ L → tP f h L p = tP f' h L p := fun p hp => by rw [tP, tP, hall p hp]
  have hfp : ∀ n p, p + n ≤ L + 1 → findP (tP f h L) n p ≤ L + 1 ∧ findP (tP f h L) n p = findP (tP f' h L) n p := by
    intro n
    induction n with
    | zero => intro p hp; exact ⟨by simp [findP]; omega, rfl⟩
    | succ n ih =>
      intro p hp
      obtain ⟨i1, i2⟩ := ih (p + 1) (by omega)
      simp only [findP, ← ht p (by omega)]
      split
      · exact ⟨by omega, rfl⟩
      · exact ⟨i1, i2⟩
  have ep : pOf f h L = pOf f' h L := (hfp L 1 (by omega)).2
  have hpl := (pOf_spec hL hL0).2.1
  have hd : ∀ k, k ≤ h → down (tH f (pOf f h L)) k = down (tH f' (pOf f h L)) k := by
    intro k
    induction k with
    | zero => intro _; rfl
    | succ k ih =>
      intro hk
      have : tH f (pOf f h L) k = tH f' (pOf f h L) k := by rw [tH, tH, e _ (by omega), e _ (by omega)]
      simp only [down, this, ih (by omega)]
  have eh : hOf f h (pOf f h L) = hOf f' h (pOf f h L) := hd h (Nat.le_refl _)
  have hle : hOf f h (pOf f h L) ≤ h := down_le _ _
  unfold nf
  rw [← ep, ← eh]
  congr 1
  · apply List.map_congr_left; intro i hi; exact e i (by have := List.mem_range.1 hi; omega)
  · apply List.map_congr_left; intro i hi; exact e _ (by have := List.mem_range.1 hi; omega)
/-- the letters of a word repeat -/
theorem per_lt (h l : List Bool) : per (lt h l) h.length l.length := by
  intro i hi
  rw [lt, lt, if_neg (by omega), if_neg (by omega)]
  congr 2
  rw [show i + l.length - h.length = i - h.length + l.length by omega, Nat.add_mod_right]
/-- the normal form has the letters -/
theorem lt_nf {f : Nat → Bool} {h L : Nat} (hL : per f h L) (hL0 : 0 < L) (i : Nat) : lt (nf f h L).1 (nf f h L).2 i = f i := by
  obtain ⟨a1, a2, a3, a4, a5⟩ := pOf_spec hL hL0
  obtain ⟨c1, c2, c3⟩ := hOf_spec a4
  unfold nf
  generalize pOf f h L = p at *
  generalize hOf f h p = k at *
  unfold lt
  simp only [List.length_map, List.length_range]
  split
  · rename_i hi; simp [hi]
  · rename_i hi
    have hm := Nat.mod_lt (i - k) a1
    simp only [List.getElem?_map, List.getElem?_range hm, Option.map_some, Option.getD_some]
    apply per_mod c2 (by omega) (by omega)
    rw [Nat.add_mod_mod]
    congr 1
    omega
theorem nf_len {f : Nat → Bool} {h L : Nat} (hL : per f h L) (hL0 : 0 < L) : (nf f h L).1.length ≤ h ∧ 0 < (nf f h L).2.length ∧ (nf f h L).2.length ≤ L := by
  obtain ⟨a1, a2, a3, a4, a5⟩ := pOf_spec hL hL0
  obtain ⟨c1, c2, c3⟩ := hOf_spec a4
  simp only [nf, List.length_map, List.length_range]
  exact ⟨c1, a1, a2⟩
/-- the normal form of a word -/
def nfw (h l : List Bool) : List Bool × List Bool := nf (lt h l) h.length l.length
end Go.Proofs.YtlpigdekjkpnpaaDoor
