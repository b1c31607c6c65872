/- Texts of one chain, in one file. -/
import Derived.Test.YtfogkcccjemloaaGreatDoorQ1
import Derived.Lib.AppendZeros
import Derived.Deep.RegionHeld3
import Derived.Deep.RegionLaw
import Derived.Laws.IdiomStrings
import Derived.Laws.Concat
import Derived.Shelf.Strings.Trim
import Derived.Shelf.Strings.SlTrimAscii
import Derived.Test.YtfogkcccjemloaaGreatDoorQ2
import Derived.Lib.IndexLaws
import Derived.Deep.OwnRows
import Derived.IntWalk
/- What the small functions of package bword, and their references, return for every word: Check, letter, At, count, huge. -/
namespace Go.Proofs.YtfogkcccjemloaaGreatDoor.bw
set_option linter.unusedVariables false
set_option linter.unusedSimpArgs false
open Go.RowKit
theorem ret_int {k : IntKind} {a b : Int} (h : a = b) : Ending.returned (.int k a) = .returned (.int k b) := by rw [h]
theorem ret_bool {a b : Bool} (h : a = b) : Ending.returned (.bool a) = .returned (.bool b) := by rw [h]
/-- the error of a word -/
def ck (h l : List Bool) : Int := if l.length = 0 then 5 else if h.length + l.length > 64 then 3 else 0
/-- letter i -/
def lt (h l : List Bool) (i : Nat) : Bool := if i < h.length then h[i]?.getD false else l[(i - h.length) % l.length]?.getD false
def cnt (l : List Bool) : Nat := l.count true
theorem lens {h l : List Bool} (hc : ck h l = 0) : 0 < l.length ∧ h.length + l.length ≤ 64 := by
  unfold ck at hc
  split at hc
  · omega
  · split at hc <;> omega
def Bel (v : Value) (w : World) (e : Ending) (w' : World) : Prop := e = .returned v ∧ Below w.heap.size w w'
theorem bel_drew {w : World} (k : Nat) : Below w.heap.size w (w.drewN k) := below_drewN (Below.refl _ _) k
theorem check_any (A B : Option Addr) (c d : Nat) (h l : List Bool) (w : World) (hh : h.length ≤ 140737488355328) (hl : l.length ≤ 140737488355328) :
    Calls Tryz.prog 61 #[.agg #[.slice A h.length c, .slice B l.length d]] w (Bel (.int .i64 (ck h l)) w) := by
  go_enter Tryz.func61, Tryz.ntmps61
  go_wp2
  all_goals go_ret
  all_goals refine ⟨ret_int ?_, bel_box _⟩
  all_goals unfold ck
  · rw [if_pos (by simp_all)]
  · rw [if_neg (by simp_all), if_pos (by omega)]
  · rw [if_neg (by simp_all), if_neg (by omega)]
theorem rcheck_any (A B : Option Addr) (c d : Nat) (h l : List Bool) (w : World) (hh : h.length ≤ 140737488355328) (hl : l.length ≤ 140737488355328) :
    Calls Tryz.prog 90 #[.agg #[.slice A h.length c, .slice B l.length d]] w (Bel (.int .i64 (ck h l)) w) := by
  go_enter Tryz.func90, Tryz.ntmps90
  go_wp2
  all_goals go_ret
  all_goals refine ⟨ret_int ?_, bel_box _⟩
  all_goals unfold ck
  · rw [if_pos (by simp_all)]
  · rw [if_neg (by simp_all), if_pos (by omega)]
  · rw [if_neg (by simp_all), if_neg (by omega)]
def att (h l : List Bool) (i : Int) : Bool := if ck h l = 0 ∧ 0 ≤ i then lt h l i.toNat else false
theorem att_yes {h l : List Bool} {k : Nat} (h1 : ck h l = 0) : att h l k = lt h l k := by rw [att, if_pos ⟨h1, by omega⟩, Int.toNat_natCast]
theorem att_no {h l : List Bool} {i : Int} (h1 : ¬ (ck h l = 0 ∧ 0 ≤ i)) : att h l i = false := by rw [att, if_neg h1]
def cntTo (l : List Bool) (k : Nat) : Nat := cnt (l.take k)
theorem cntTo_succ {l : List Bool} {k : Nat} {b : Bool} (h : l[k]? = some b) : cntTo l (k + 1) = cntTo l k + if b then 1 else 0 := by
  rw [cntTo, take_succ_of h, cnt, List.count_append, cntTo, cnt]
  cases b <;> simp
theorem cntTo_le (l : List Bool) (k : Nat) : cntTo l k ≤ k := by
  rw [cntTo, cnt]
  exact Nat.le_trans List.count_le_length (by simp; omega)
end Go.Proofs.YtfogkcccjemloaaGreatDoor.bw
/- Plain mathematics of ultimately periodic words: the normal form by search, and that it hangs on the letters alone. -/
namespace Go.Proofs.YtfogkcccjemloaaGreatDoor.bw
set_option linter.unusedVariables false
set_option linter.unusedSimpArgs false
def per (f : Nat → Bool) (h p : Nat) : Prop := ∀ i, h ≤ i → f (i + p) = f i
theorem per_mul {f : Nat → Bool} {h p : Nat} (hp : per f h p) (m : Nat) : per f h (m * p) := by
  intro i hi
  induction m with
  | zero => simp
  | succ m ih => rw [Nat.succ_mul, ← Nat.add_assoc, hp _ (by omega), ih]
theorem per_mono {f : Nat → Bool} {h h' p : Nat} (hp : per f h p) (hh : h ≤ h') : per f h' p := fun i hi => hp i (by omega)
theorem per_mod {f : Nat → Bool} {h p a b : Nat} (hp : per f h p) (ha : h ≤ a) (hb : h ≤ b) (e : a % p = b % p) : f a = f b := by
  rcases Nat.le_total a b with hab | hab
  · obtain ⟨d, rfl⟩ : ∃ d, b = a + d := ⟨b - a, by omega⟩
    have hd : d % p = 0 := by
      have h1 := Nat.sub_mod_eq_zero_of_mod_eq (e.symm)
      rwa [Nat.add_sub_cancel_left] at h1
    have hm := per_mul hp (d / p) a ha
    have e2 : d / p * p = d := by have := Nat.div_add_mod d p; rw [Nat.mul_comm]; omega
    rw [e2] at hm
    exact hm.symm
  · obtain ⟨d, rfl⟩ : ∃ d, a = b + d := ⟨a - b, by omega⟩
    have hd : d % p = 0 := by
      have h1 := Nat.sub_mod_eq_zero_of_mod_eq (e)
      rwa [Nat.add_sub_cancel_left] at h1
    have hm := per_mul hp (d / p) b hb
    have e2 : d / p * p = d := by have := Nat.div_add_mod d p; rw [Nat.mul_comm]; omega
    rw [e2] at hm
    exact hm
/-- a period of the tail is one from where the longer one holds -/
theorem per_back {f : Nat → Bool} {h h0 p L : Nat} (hL : per f h L) (hL0 : 0 < L) (hp : per f h0 p) : per f h p := by
  intro i hi
  have h1 := per_mul hL (h0 + 1) (i + p) (by omega)
  have h2 := per_mul hL (h0 + 1) i hi
  have hge : h0 + 1 ≤ (h0 + 1) * L := Nat.le_mul_of_pos_right _ hL0
  have h3 := hp (i + (h0 + 1) * L) (by omega)
  rw [← h1, ← h2, ← h3]
  congr 1
  omega
/-- below each eventual period there is one that divides L -/
theorem per_dvd {f : Nat → Bool} {h L : Nat} (hL : per f h L) (hL0 : 0 < L) : ∀ (n p h0 : Nat), p ≤ n → 0 < p → per f h0 p → ∃ g, 0 < g ∧ g ≤ p ∧ L % g = 0 ∧ per f h g := by
  intro n
  induction n with
  | zero => intro p h0 h1 h2; omega
  | succ n ih =>
    intro p h0 hn hp0 hp
    have hp' := per_back hL hL0 hp
    rcases Nat.eq_zero_or_pos (L % p) with e | e
    · exact ⟨p, hp0, Nat.le_refl _, e, hp'⟩
    · have hlt := Nat.mod_lt L hp0
      have hg : per f h (L % p) := by
        intro i hi
        have h1 := per_mul hp' (L / p) (i + L % p) (by omega)
        have h2 := hL i hi
        have e2 := Nat.div_add_mod L p
        rw [← h1, ← h2]
        congr 1
        rw [Nat.mul_comm] at e2
        omega
      obtain ⟨g, g1, g2, g3, g4⟩ := ih (L % p) h (by omega) e hg
      exact ⟨g, g1, by omega, g3, g4⟩
def allB (f : Nat → Bool) (a n p : Nat) : Bool := (List.range n).all fun j => f (a + j) == f (a + j + p)
theorem allB_iff {f : Nat → Bool} {a n p : Nat} : allB f a n p = true ↔ ∀ j, j < n → f (a + j) = f (a + j + p) := by simp [allB]
def findP (t : Nat → Bool) : Nat → Nat → Nat
  | 0, p => p
  | n + 1, p => if t p then p else findP t n (p + 1)
theorem findP_spec {t : Nat → Bool} : ∀ (n p q : Nat), p ≤ q → q ≤ p + n → t q = true → t (findP t n p) = true ∧ p ≤ findP t n p ∧ findP t n p ≤ q ∧ ∀ r, p ≤ r → r < findP t n p → t r = false := by
  intro n
  induction n with
  | zero =>
    intro p q h1 h2 h3
    obtain rfl : q = p := by omega
    exact ⟨h3, Nat.le_refl _, Nat.le_refl _, fun r h4 h5 => by simp [findP] at h5; omega⟩
  | succ n ih =>
    intro p q h1 h2 h3
    by_cases ht : t p = true
    · simp only [findP, ht, if_true]
      exact ⟨trivial, Nat.le_refl _, h1, fun r h4 h5 => by omega⟩
    · have hq : p + 1 ≤ q := by
        rcases Nat.lt_or_ge p q with h | h
        · exact h
        · obtain rfl : p = q := by omega
          exact absurd h3 ht
      have hf : t p = false := by simpa using ht
      obtain ⟨a, b, c, d⟩ := ih (p + 1) q hq (by omega) h3
      simp only [findP, hf]
      refine ⟨a, Nat.le_of_succ_le b, c, fun r h4 h5 => ?_⟩
      rcases Nat.lt_or_ge p r with h | h
      · exact d r h h5
      · obtain rfl : r = p := by omega
        exact hf
def tP (f : Nat → Bool) (h L p : Nat) : Bool := L % p == 0 && allB f h L p
def pOf (f : Nat → Bool) (h L : Nat) : Nat := findP (tP f h L) L 1
def down (t : Nat → Bool) : Nat → Nat
  | 0 => 0
  | h + 1 => if t h then down t h else h + 1
def tH (f : Nat → Bool) (p i : Nat) : Bool := f i == f (i + p)
def hOf (f : Nat → Bool) (h p : Nat) : Nat := down (tH f p) h
def nf (f : Nat → Bool) (h L : Nat) : List Bool × List Bool := ((List.range (hOf f h (pOf f h L))).map f, (List.range (pOf f h L)).map fun i => f (hOf f h (pOf f h L) + i))
theorem down_le (t : Nat → Bool) (h : Nat) : down t h ≤ h := by
  induction h with
  | zero => simp [down]
  | succ h ih => simp only [down]; split <;> omega
theorem down_all (t : Nat → Bool) (h : Nat) : ∀ i, down t h ≤ i → i < h → t i = true := by
  induction h with
  | zero => intro i _ h; omega
  | succ h ih =>
    intro i h1 h2
    simp only [down] at h1
    split at h1
    · rename_i ht
      rcases Nat.lt_or_ge i h with h3 | h3
      · exact ih i h1 h3
      · obtain rfl : i = h := by omega
        exact ht
    · omega
theorem down_stop (t : Nat → Bool) (h : Nat) : 0 < down t h → t (down t h - 1) = false := by
  induction h with
  | zero => intro h; simp [down] at h
  | succ h ih =>
    intro h1
    simp only [down] at h1 ⊢
    split
    · rename_i ht
      rw [if_pos ht] at h1
      exact ih h1
    · rename_i ht
      simpa using ht
theorem tP_self {f : Nat → Bool} {h L : Nat} (hL : per f h L) : tP f h L L = true := by
  simp only [tP, Nat.mod_self, Bool.and_eq_true, beq_self_eq_true, true_and, allB_iff]
  exact fun j _ => (hL (h + j) (by omega)).symm
theorem tP_per {f : Nat → Bool} {h L p : Nat} (hL : per f h L) (hL0 : 0 < L) (ht : tP f h L p = true) : L % p = 0 ∧ per f h p := by
  simp only [tP, Bool.and_eq_true, beq_iff_eq, allB_iff] at ht
  refine ⟨ht.1, fun i hi => ?_⟩
  obtain ⟨x, rfl⟩ : ∃ x, i = h + x := ⟨i - h, by omega⟩
  have e := ht.2 (x % L) (Nat.mod_lt _ hL0)
  have h1 : f (h + x % L) = f (h + x) := by
    have := per_mul hL (x / L) (h + x % L) (by omega)
    rw [← this]; congr 1
    have := Nat.div_add_mod x L
    rw [Nat.mul_comm] at this
    omega
  have h2 : f (h + x % L + p) = f (h + x + p) := by
    have := per_mul hL (x / L) (h + x % L + p) (by omega)
    rw [← this]; congr 1
    have := Nat.div_add_mod x L
    rw [Nat.mul_comm] at this
    omega
  rw [← h1, e, h2]
theorem pOf_spec {f : Nat → Bool} {h L : Nat} (hL : per f h L) (hL0 : 0 < L) : 0 < pOf f h L ∧ pOf f h L ≤ L ∧ L % pOf f h L = 0 ∧ per f h (pOf f h L) ∧ ∀ p h0, 0 < p → per f h0 p → pOf f h L ≤ p := by
  obtain ⟨a, b, c, d⟩ := findP_spec (t := tP f h L) L 1 L (by omega) (by omega) (tP_self hL)
  obtain ⟨e1, e2⟩ := tP_per hL hL0 a
  refine ⟨b, c, e1, e2, fun p h0 hp0 hp => ?_⟩
  obtain ⟨g, g1, g2, g3, g4⟩ := per_dvd hL hL0 p p h0 (Nat.le_refl _) hp0 hp
  have ht : tP f h L g = true := by
    simp only [tP, Bool.and_eq_true, beq_iff_eq, allB_iff]
    exact ⟨g3, fun j _ => (g4 (h + j) (by omega)).symm⟩
  rcases Nat.lt_or_ge g (pOf f h L) with h1 | h1
  · have := d g g1 h1
    rw [ht] at this
    cases this
  · exact Nat.le_trans h1 g2
theorem hOf_spec {f : Nat → Bool} {h p : Nat} (hp : per f h p) : hOf f h p ≤ h ∧ per f (hOf f h p) p ∧ ∀ k, per f k p → hOf f h p ≤ k := by
  refine ⟨down_le _ _, fun i hi => ?_, fun k hk => ?_⟩
  · rcases Nat.lt_or_ge i h with h1 | h1
    · have := down_all (tH f p) h i hi h1
      simp only [tH, beq_iff_eq] at this
      exact this.symm
    · exact hp i h1
  · rcases Nat.lt_or_ge k (hOf f h p) with h1 | h1
    · have h2 := down_stop (tH f p) h (by unfold hOf at h1; omega)
      have h3 := hk (hOf f h p - 1) (by omega)
      simp only [tH, beq_eq_false_iff_ne, ne_eq] at h2
      exact absurd h3.symm h2
    · exact h1
/-- the normal form hangs on the letters alone -/
theorem nf_eq {f f' : Nat → Bool} {h L h' L' : Nat} (hL : per f h L) (hL0 : 0 < L) (hL' : per f' h' L') (hL0' : 0 < L') (e : ∀ i, f i = f' i) : nf f h L = nf f' h' L' := by
  obtain rfl : f = f' := funext e
  obtain ⟨a1, a2, a3, a4, a5⟩ := pOf_spec hL hL0
  obtain ⟨b1, b2, b3, b4, b5⟩ := pOf_spec hL' hL0'
  have ep : pOf f h L = pOf f h' L' := Nat.le_antisymm (a5 _ _ b1 b4) (b5 _ _ a1 a4)
  obtain ⟨c1, c2, c3⟩ := hOf_spec a4
  obtain ⟨d1, d2, d3⟩ := hOf_spec b4
  have eh : hOf f h (pOf f h L) = hOf f h' (pOf f h' L') := Nat.le_antisymm (c3 _ (by rw [ep]; exact d2)) (d3 _ (by rw [← ep]; exact c2))
  unfold nf
  rw [eh, ep]
theorem nf_congr {f f' : Nat → Bool} {h L : Nat} (hL0 : 0 < L) (hL : per f h L) (e : ∀ i, i < h + 2 * L → f i = f' i) : nf f h L = nf f' h L := by
  have hall : ∀ p, p ≤ L → allB f h L p = allB f' h L p := by
    intro p hp
    rw [Bool.eq_iff_iff, allB_iff, allB_iff]
    constructor
    · intro hh j hj; rw [← e _ (by omega), ← e _ (by omega)]; exact hh j hj
    · intro hh j hj; rw [e _ (by omega), e _ (by omega)]; exact hh j hj
  have ht : ∀ p, p ≤ L → tP f h L p = tP f' h L p := fun p hp => by rw [tP, tP, hall p hp]
  have hfp : ∀ n p, p + n ≤ L + 1 → findP (tP f h L) n p ≤ L + 1 ∧ findP (tP f h L) n p = findP (tP f' h L) n p := by
    intro n
    induction n with
    | zero => intro p hp; exact ⟨by simp [findP]; omega, rfl⟩
    | succ n ih =>
      intro p hp
      obtain ⟨i1, i2⟩ := ih (p + 1) (by omega)
      simp only [findP, ← ht p (by omega)]
      split
      · exact ⟨by omega, rfl⟩
      · exact ⟨i1, i2⟩
  have ep : pOf f h L = pOf f' h L := (hfp L 1 (by omega)).2
  have hpl := (pOf_spec hL hL0).2.1
  have hd : ∀ k, k ≤ h → down (tH f (pOf f h L)) k = down (tH f' (pOf f h L)) k := by
    intro k
    induction k with
    | zero => intro _; rfl
    | succ k ih =>
      intro hk
      have : tH f (pOf f h L) k = tH f' (pOf f h L) k := by rw [tH, tH, e _ (by omega), e _ (by omega)]
      simp only [down, this, ih (by omega)]
  have eh : hOf f h (pOf f h L) = hOf f' h (pOf f h L) := hd h (Nat.le_refl _)
  have hle : hOf f h (pOf f h L) ≤ h := down_le _ _
  unfold nf
  rw [← ep, ← eh]
  congr 1
  · apply List.map_congr_left; intro i hi; exact e i (by have := List.mem_range.1 hi; omega)
  · apply List.map_congr_left; intro i hi; exact e _ (by have := List.mem_range.1 hi; omega)
/-- the letters of a word repeat -/
theorem per_lt (h l : List Bool) : per (lt h l) h.length l.length := by
  intro i hi
  rw [lt, lt, if_neg (by omega), if_neg (by omega)]
  congr 2
  rw [show i + l.length - h.length = i - h.length + l.length by omega, Nat.add_mod_right]
/-- the normal form has the letters -/
theorem lt_nf {f : Nat → Bool} {h L : Nat} (hL : per f h L) (hL0 : 0 < L) (i : Nat) : lt (nf f h L).1 (nf f h L).2 i = f i := by
  obtain ⟨a1, a2, a3, a4, a5⟩ := pOf_spec hL hL0
  obtain ⟨c1, c2, c3⟩ := hOf_spec a4
  unfold nf
  generalize pOf f h L = p at *
  generalize hOf f h p = k at *
  unfold lt
  simp only [List.length_map, List.length_range]
  split
  · rename_i hi; simp [hi]
  · rename_i hi
    have hm := Nat.mod_lt (i - k) a1
    simp only [List.getElem?_map, List.getElem?_range hm, Option.map_some, Option.getD_some]
    apply per_mod c2 (by omega) (by omega)
    rw [Nat.add_mod_mod]
    congr 1
    omega
theorem nf_len {f : Nat → Bool} {h L : Nat} (hL : per f h L) (hL0 : 0 < L) : (nf f h L).1.length ≤ h ∧ 0 < (nf f h L).2.length ∧ (nf f h L).2.length ≤ L := by
  obtain ⟨a1, a2, a3, a4, a5⟩ := pOf_spec hL hL0
  obtain ⟨c1, c2, c3⟩ := hOf_spec a4
  simp only [nf, List.length_map, List.length_range]
  exact ⟨c1, a1, a2⟩
/-- the normal form of a word -/
def nfw (h l : List Bool) : List Bool × List Bool := nf (lt h l) h.length l.length
end Go.Proofs.YtfogkcccjemloaaGreatDoor.bw
/- repeats and period of package bword, and repeats of the reference. -/
namespace Go.Proofs.YtfogkcccjemloaaGreatDoor.bw
set_option linter.unusedVariables false
set_option linter.unusedSimpArgs false
open Go.RowKit
def Drw (v : Value) (w : World) (e : Ending) (w' : World) : Prop := e = .returned v ∧ ∃ k, w' = w.drewN k
def gb (l : List Bool) (i : Nat) : Bool := l[i]?.getD false
def repTo (l : List Bool) (n k : Nat) : Bool := (List.range k).all fun i => gb l i == gb l (i + n)
def repB (l : List Bool) (n : Nat) : Bool := repTo l n (l.length - n)
theorem repTo_succ (l : List Bool) (n k : Nat) : repTo l n (k + 1) = (repTo l n k && (gb l k == gb l (k + n))) := by simp [repTo, List.range_succ]
theorem repTo_false {l : List Bool} {n k m : Nat} (hk : k < m) (h : (gb l k == gb l (k + n)) = false) : repTo l n m = false := by
  rw [repTo, List.all_eq_false]
  exact ⟨k, List.mem_range.2 hk, by simpa using h⟩
theorem gb_of {l : List Bool} {i : Nat} {b : Bool} (h : l[i]? = some b) : gb l i = b := by rw [gb, h]; rfl
/-- the period of a loop -/
def pl (l : List Bool) : Nat := pOf (lt [] l) 0 l.length
theorem lt_nil (l : List Bool) (i : Nat) : lt [] l i = gb l (i % l.length) := by simp [lt, gb]
theorem rep_mod {l : List Bool} {n : Nat} (hn : 0 < n) (hr : ∀ j, j < l.length - n → gb l j = gb l (j + n)) : ∀ m j, j ≤ m → j < l.length → gb l j = gb l (j % n) := by
  intro m
  induction m with
  | zero => intro j h1 h2; obtain rfl : j = 0 := by omega
            simp
  | succ m ih =>
    intro j h1 h2
    rcases Nat.lt_or_ge j n with h | h
    · rw [Nat.mod_eq_of_lt h]
    · have h3 := hr (j - n) (by omega)
      rw [show j - n + n = j by omega] at h3
      rw [← h3, ih (j - n) (by omega) (by omega), Nat.mod_eq_sub_mod h]
theorem tP_rep {l : List Bool} {n : Nat} (hn : 0 < n) (hnl : n < l.length) : tP (lt [] l) 0 l.length n = (l.length % n == 0 && repB l n) := by
  rw [tP]
  by_cases hd : l.length % n = 0
  · simp only [hd, beq_self_eq_true, Bool.true_and]
    rw [Bool.eq_iff_iff, allB_iff, repB, repTo, List.all_eq_true]
    simp only [lt_nil, Nat.zero_add, List.mem_range, beq_iff_eq]
    constructor
    · intro hh j hj
      have := hh j (by omega)
      rwa [Nat.mod_eq_of_lt (by omega), Nat.mod_eq_of_lt (by omega)] at this
    · intro hh j hj
      have e1 := rep_mod hn hh (j % l.length) (j % l.length) (Nat.le_refl _) (Nat.mod_lt _ (by omega))
      have e2 := rep_mod hn hh ((j + n) % l.length) ((j + n) % l.length) (Nat.le_refl _) (Nat.mod_lt _ (by omega))
      rw [e1, e2, Nat.mod_mod_of_dvd _ (Nat.dvd_of_mod_eq_zero hd), Nat.mod_mod_of_dvd _ (Nat.dvd_of_mod_eq_zero hd), Nat.add_mod_right]
  · have h2 : (l.length % n == 0) = false := by simpa using hd
    simp only [h2, Bool.false_and]
theorem pl_spec {l : List Bool} (h0 : 0 < l.length) : 0 < pl l ∧ pl l ≤ l.length := by
  have := pOf_spec (per_lt [] l) h0
  exact ⟨this.1, this.2.1⟩
theorem findP_succ (t : Nat → Bool) (n p : Nat) : findP t (n + 1) p = if t p then p else findP t n (p + 1) := rfl
end Go.Proofs.YtfogkcccjemloaaGreatDoor.bw
/- slices.Grow of the nil slice, slices.Concat of two slices of bools, and append onto an owned slice. -/
namespace Go.Proofs.YtfogkcccjemloaaGreatDoor.bw
set_option linter.unusedVariables false
set_option linter.unusedSimpArgs false
open Go.RowKit
theorem Tryz.boolInfo : (Tryz.prog.info? 4).map (fun i => (i.zero, i.size, i.bytes)) = some (some (.bool false), 1, 1) := by kernel_rfl
section
variable {P : Program} (w : World)
theorem run_append_nothing (base : Nat) (t ty e : TypeId) (i : TypeInfo) (ht : P.underlying t = some (.slice e)) (hi : P.info? e = some i)
    (v : Value) (n : Nat) (xs : List Value) (hown : w.ownsRow base e 1 v n xs) (c : Nat) : (Builtin.append_ #[t, t] ty #[v, .slice none 0 c]).run P w = .ok v w := by
  rcases hown.2 with ⟨rfl, rfl⟩ | ⟨g, cap, cur, rfl, _, _, hnc, _⟩
  · simp [Builtin.append_, run_underlying ht, sizeOf, typeInfo, hi, Builtin.lenOf, Builtin.firstCells]
  · simp [Builtin.append_, run_underlying ht, sizeOf, typeInfo, hi, Builtin.lenOf, Builtin.firstCells, hnc, storeCells]
/-- append of a slice that is read (nil or not) onto a slice that the call owns -/
theorem run_append_rd (base : Nat) (t ty e : TypeId) (i : TypeInfo) (z : Value) (bytes : Nat) (ht : P.underlying t = some (.slice e)) (hi : P.info? e = some i) (hz : i.zero = some z)
    (hsize : i.size = 1) (hby : i.bytes = bytes) (hzs : z.cells.size = 1)
    (v : Value) (n : Nat) (xs : List Value) (hown : w.ownsRow base e 1 v n xs)
    (B : Nat) (A : Option Addr) (m c : Nat) (news : List Value) (hm : news.length = m) (hr : Rd w B A news) (h1 : ∀ u ∈ news, u.oneCell' = true)
    (h63 : n + m ≤ maxLen) (hbytes : (n + m) * bytes ≤ 140737488355328) (hbase : base ≤ w.heap.size) :
    ∃ v' w', (Builtin.append_ #[t, t] ty #[v, .slice A m c]).run P w = .ok v' w' ∧ w'.ownsRow base e 1 v' (n + m) (xs ++ news) ∧ w.grownBy w' v.ownBlock ∧
      (v'.ownBlock = v.ownBlock ∨ v'.ownBlock = some w.heap.size) := by
  subst hm
  rcases A with _ | ad
  · have hn : news = [] := by
      rcases Classical.em (news = []) with h | h
      · exact h
      · obtain ⟨ad, h, _⟩ := hr h
        cases h
    subst hn
    exact ⟨v, w, run_append_nothing w base t ty e i ht hi v n xs hown c, by simpa using hown, World.grownBy.refl w _, .inl rfl⟩
  · have hcells : ∀ j u, news[j]? = some u → w.cell? (ad.add j) = some u := by
      intro j u hu
      obtain ⟨ad', h, _, hc⟩ := hr (by rintro rfl; simp at hu)
      injection h with h
      subst h
      exact hc j u hu
    obtain ⟨v', w', hrun, h2, h3, _, h5⟩ := run_append_own_at (P := P) w base t ty e i z 1 bytes ht hi hz hsize hby hzs (by omega) v n xs hown ad news.length c news (by omega) hcells h1 h63 hbytes hbase
    exact ⟨v', w', hrun, h2, h3, h5⟩
theorem wp_append_rd {o : Oper} {a : Act} {K : Act → World → Prop} {Q : Exit → Act → World → Prop} (s x : Operand) (t : TypeId)
    (ho : o.op = .call { callee := .builtin .append, args := #[s, x], argTypes := #[t, t] })
    (base : Nat) (e : TypeId) (i : TypeInfo) (z : Value) (bytes : Nat) (ht : P.underlying t = some (.slice e)) (hi : P.info? e = some i) (hz : i.zero = some z)
    (hsize : i.size = 1) (hby : i.bytes = bytes) (hzs : z.cells.size = 1)
    (v : Value) (n : Nat) (xs : List Value) (hs : a.eval s = v) (hown : w.ownsRow base e 1 v n xs)
    (B : Nat) (A : Option Addr) (m c : Nat) (news : List Value) (hx : a.eval x = .slice A m c) (hm : news.length = m) (hr : Rd w B A news) (h1 : ∀ u ∈ news, u.oneCell' = true)
    (h63 : n + m ≤ maxLen) (hbytes : (n + m) * bytes ≤ 140737488355328) (hbase : base ≤ w.heap.size)
    (h : ∀ v' w', w'.ownsRow base e 1 v' (n + m) (xs ++ news) → w.grownBy w' v.ownBlock → (v'.ownBlock = v.ownBlock ∨ v'.ownBlock = some w.heap.size) → K (a.put o.dst v') w') : o.wp P a w K Q := by
  obtain ⟨v', w', hrun, h2, h3, h4⟩ := run_append_rd (P := P) w base t o.type e i z bytes ht hi hz hsize hby hzs v n xs hown B A m c news hm hr h1 h63 hbytes hbase
  unfold Oper.wp execOp
  simp only [ho, resolve, invoke, builtin, Sem.run_bind, Sem.run_pure, Result.andThen_ok, List.map_toArray, List.map_cons, List.map_nil, hs, hx, hrun]
  exact h v' w' h2 h3 h4
theorem wpList_append_rd {ops : Array Oper} {rest : List Oper} {o : Oper} {a : Act} {Q : Exit → Act → World → Prop} (hgd : o.guard = none) (s x : Operand) (t : TypeId)
    (ho : o.op = .call { callee := .builtin .append, args := #[s, x], argTypes := #[t, t] })
    (base : Nat) (e : TypeId) (i : TypeInfo) (z : Value) (bytes : Nat) (ht : P.underlying t = some (.slice e)) (hi : P.info? e = some i) (hz : i.zero = some z)
    (hsize : i.size = 1) (hby : i.bytes = bytes) (hzs : z.cells.size = 1)
    (v : Value) (n : Nat) (xs : List Value) (hs : a.eval s = v) (hown : w.ownsRow base e 1 v n xs)
    (B : Nat) (A : Option Addr) (m c : Nat) (news : List Value) (hx : a.eval x = .slice A m c) (hm : news.length = m) (hr : Rd w B A news) (h1 : ∀ u ∈ news, u.oneCell' = true)
    (h63 : n + m ≤ maxLen) (hbytes : (n + m) * bytes ≤ 140737488355328) (hbase : base ≤ w.heap.size)
    (h : ∀ v' w', w'.ownsRow base e 1 v' (n + m) (xs ++ news) → w.grownBy w' v.ownBlock → (v'.ownBlock = v.ownBlock ∨ v'.ownBlock = some w.heap.size) → wpList P ops Q rest (a.put o.dst v') w') : wpList P ops Q (o :: rest) a w :=
  wpList_plain hgd fun _ hK => wp_append_rd w s x t ho base e i z bytes ht hi hz hsize hby hzs v n xs hs hown B A m c news hx hm hr h1 h63 hbytes hbase fun v' w' h2 h3 h4 => hK _ _ (h v' w' h2 h3 h4)
theorem step_append_rd {ops : Array Oper} {o : Oper} {a : Act} {K : Act → World → Prop} {Q : Exit → Act → World → Prop} {E : Prop} (hgd : o.guard = none) (s x : Operand) (t : TypeId)
    (ho : o.op = .call { callee := .builtin .append, args := #[s, x], argTypes := #[t, t] })
    (base : Nat) (e : TypeId) (i : TypeInfo) (z : Value) (bytes : Nat) (ht : P.underlying t = some (.slice e)) (hi : P.info? e = some i) (hz : i.zero = some z)
    (hsize : i.size = 1) (hby : i.bytes = bytes) (hzs : z.cells.size = 1)
    (v : Value) (n : Nat) (xs : List Value) (hs : a.eval s = v) (hown : w.ownsRow base e 1 v n xs)
    (B : Nat) (A : Option Addr) (m c : Nat) (news : List Value) (hx : a.eval x = .slice A m c) (hm : news.length = m) (hr : Rd w B A news) (h1 : ∀ u ∈ news, u.oneCell' = true)
    (h63 : n + m ≤ maxLen) (hbytes : (n + m) * bytes ≤ 140737488355328) (hbase : base ≤ w.heap.size)
    (h : ∀ v' w', w'.ownsRow base e 1 v' (n + m) (xs ++ news) → w.grownBy w' v.ownBlock → (v'.ownBlock = v.ownBlock ∨ v'.ownBlock = some w.heap.size) → K (a.put o.dst v') w') :
    if Region.wanted o (yielded ops a.tmps) = true then Oper.wp P o a w K Q else E := by
  have hw : Region.wanted o (yielded ops a.tmps) = true := by simp [Region.wanted, hgd]
  rw [if_pos hw]
  exact wp_append_rd w s x t ho base e i z bytes ht hi hz hsize hby hzs v n xs hs hown B A m c news hx hm hr h1 h63 hbytes hbase h
end
theorem bls_one (l : List Bool) : ∀ u ∈ bls l, u.oneCell' = true := by
  intro u hu
  simp only [bls, List.mem_map] at hu
  obtain ⟨b, _, rfl⟩ := hu
  rfl
/-- a new slice with these bools, owned; the old blocks are left alone -/
def NewOwn (l : List Bool) (w : World) (e : Ending) (w' : World) : Prop := ∃ A c, e = .returned (.slice A l.length c) ∧ w'.ownsRow w.heap.size 4 1 (.slice A l.length c) l.length (bls l) ∧ Below w.heap.size w w'
def catK (xs ys : List Bool) : Nat → List Bool
  | 0 => []
  | 1 => xs
  | _ => xs ++ ys
theorem cell_new2 (w : World) (x y : Value) (t : TypeId) : (w.alloc (.cells #[x, y] t)).cell? ⟨w.heap.size, 0, none⟩ = some x ∧ (w.alloc (.cells #[x, y] t)).cell? ⟨w.heap.size, 1, none⟩ = some y := by
  constructor
  · rw [cell_of_row _ _ _ _ _ _ (heap_alloc_new w _)]; rfl
  · rw [cell_of_row _ _ _ _ _ _ (heap_alloc_new w _)]; rfl
end Go.Proofs.YtfogkcccjemloaaGreatDoor.bw
/- shortest of package bword: the normal form. -/
namespace Go.Proofs.YtfogkcccjemloaaGreatDoor.bw
set_option linter.unusedVariables false
set_option linter.unusedSimpArgs false
open Go.RowKit
theorem lt_hi (h l : List Bool) (j : Nat) : lt h l (h.length + j) = gb l (j % l.length) := by
  rw [lt, if_neg (by omega), Nat.add_sub_cancel_left, gb]
theorem lt_lo {h : List Bool} (l : List Bool) {i : Nat} (hi : i < h.length) : lt h l i = gb h i := by rw [lt, if_pos hi, gb]
theorem allB_shift (h l : List Bool) (L p : Nat) : allB (lt h l) h.length L p = allB (lt [] l) 0 L p := by
  unfold allB
  congr 1
  funext j
  rw [Nat.add_assoc, lt_hi, lt_hi, Nat.zero_add, lt_nil, lt_nil]
theorem pl_eq (h l : List Bool) : pOf (lt h l) h.length l.length = pl l := by
  rw [pl, pOf, pOf]
  congr 1
  funext p
  rw [tP, tP, allB_shift]
theorem pl_per (h : List Bool) {l : List Bool} (h0 : 0 < l.length) : per (lt h l) h.length (pl l) := by
  have := (pOf_spec (per_lt h l) h0).2.2.2.1
  rwa [pl_eq] at this
theorem gb_take {l : List Bool} {p j : Nat} (hj : j < p) : gb (l.take p) j = gb l j := by rw [gb, gb, List.getElem?_take_of_lt hj]
/-- what stands p letters behind the next letter of the head -/
theorem back_eq {h l : List Bool} {p b : Nat} (h0 : 0 < l.length) (hp0 : 0 < p) (hpl : p ≤ l.length) (hb : b < h.length) (hp : per (lt h l) (h.length - b) p) :
    lt h l (h.length - 1 - b + p) = gb (l.take p) (p - 1 - b % p) := by
  have hr := Nat.mod_lt b hp0
  rw [gb_take (by omega)]
  have e : lt h l (h.length - 1 - b + p) = lt h l (h.length + (p - 1 - b % p)) := by
    have hm := per_mul hp (b / p) (h.length - 1 - b + p) (by omega)
    rw [← hm]
    congr 1
    have := Nat.div_add_mod b p
    rw [Nat.mul_comm] at this
    omega
  rw [e, lt_hi, Nat.mod_eq_of_lt (by omega)]
theorem tH_back {h l : List Bool} {p b : Nat} {x y : Bool} (h0 : 0 < l.length) (hp0 : 0 < p) (hpl : p ≤ l.length) (hb : b < h.length) (hp : per (lt h l) (h.length - b) p)
    (hx : gb h (h.length - 1 - b) = x) (hy : gb (l.take p) (p - 1 - b % p) = y) : tH (lt h l) p (h.length - b - 1) = (x == y) := by
  rw [show h.length - b - 1 = h.length - 1 - b by omega, tH, back_eq h0 hp0 hpl hb hp, hy, lt_lo l (by omega), hx]
theorem per_step {f : Nat → Bool} {h p : Nat} (hp : per f h p) (h0 : 0 < h) (ht : tH f p (h - 1) = true) : per f (h - 1) p := by
  intro i hi
  rcases Nat.lt_or_ge i h with h1 | h1
  · obtain rfl : i = h - 1 := by omega
    simp only [tH, beq_iff_eq] at ht
    exact ht.symm
  · exact hp i h1
theorem down_step {t : Nat → Bool} {h : Nat} (h0 : 0 < h) : down t h = if t (h - 1) then down t (h - 1) else h := by
  obtain ⟨k, rfl⟩ : ∃ k, h = k + 1 := ⟨h - 1, by omega⟩
  rfl
def rot (l : List Bool) (b : Nat) : List Bool := l.drop (l.length - b % l.length) ++ l.take (l.length - b % l.length)
theorem nf_short {h l : List Bool} {b : Nat} (h0 : 0 < l.length) (hb : b ≤ h.length) (hd : hOf (lt h l) h.length (pl l) = h.length - b) (hp : per (lt h l) (h.length - b) (pl l)) :
    nfw h l = (h.take (h.length - b), rot (l.take (pl l)) b) := by
  obtain ⟨p0, p1⟩ := pl_spec h0
  rw [nfw, nf, pl_eq, hd]
  generalize pl l = p at *
  congr 1
  · apply List.ext_getElem
    · simp
    · intro i h1 h2
      have hi : i < h.length - b := by simpa using h1
      simp only [List.getElem_map, List.getElem_range, List.getElem_take]
      rw [lt_lo l (by omega), gb, List.getElem?_eq_getElem (by omega)]
      rfl
  · have hr := Nat.mod_lt b p0
    have hlen : (l.take p).length = p := by simp; omega
    apply List.ext_getElem
    · simp [rot]; omega
    · intro i h1 h2
      have hi : i < p := by simpa using h1
      simp only [List.getElem_map, List.getElem_range]
      have e1 : lt h l (h.length - b + i) = gb l ((p - b % p + i) % p) := by
        have hm := Nat.mod_lt (p - b % p + i) p0
        rw [show gb l ((p - b % p + i) % p) = lt h l (h.length + (p - b % p + i) % p) by rw [lt_hi, Nat.mod_eq_of_lt (show (p - b % p + i) % p < l.length by omega)]]
        apply per_mod hp (by omega) (by omega)
        have hq := Nat.div_add_mod b p
        have e3 : h.length - b + i + (p * (b / p) + p) = h.length + (p - b % p + i) := by omega
        rw [Nat.add_mod_mod, ← e3, show p * (b / p) + p = p * (b / p + 1) by rw [Nat.mul_add, Nat.mul_one], Nat.add_mul_mod_self_left]
      rw [e1]
      simp only [rot, hlen]
      rw [List.getElem_append]
      split
      · rename_i h3
        have h4 : i < b % p := by simp at h3; omega
        rw [List.getElem_drop, List.getElem_take, gb, Nat.mod_eq_of_lt (by omega), List.getElem?_eq_getElem (by omega)]
        rfl
      · rename_i h3
        have h4 : b % p ≤ i := by simp at h3; omega
        rw [List.getElem_take, List.getElem_take, gb, Nat.mod_eq_sub_mod (by omega), Nat.mod_eq_of_lt (by omega), List.getElem?_eq_getElem (by omega)]
        simp only [Option.getD_some, List.length_drop, hlen]
        congr 1
        omega
/-- a word of new memory; the old blocks are left alone -/
def NewW (x y : List Bool) (w : World) (e : Ending) (w' : World) : Prop := ∃ A B c d, e = .returned (.agg #[.slice A x.length c, .slice B y.length d]) ∧ Rd w' w'.heap.size A (bls x) ∧ Rd w' w'.heap.size B (bls y) ∧ x.length ≤ c ∧ y.length ≤ d ∧ Below w.heap.size w w' ∧ Nw w.heap.size A (bls x) ∧ Nw w.heap.size B (bls y)
theorem bel_nil {W w1 : World} (_h : Below W.heap.size W W) (hg : W.grownBy w1 (Value.slice none 0 0).ownBlock) : Below W.heap.size W w1 := (Below.refl _ _).grown hg (Nat.le_refl _) (fun k hk => by cases hk)
end Go.Proofs.YtfogkcccjemloaaGreatDoor.bw
/- Norm and fitted of package bword. -/
namespace Go.Proofs.YtfogkcccjemloaaGreatDoor.bw
set_option linter.unusedVariables false
set_option linter.unusedSimpArgs false
open Go.RowKit
def normL (h l : List Bool) : List Bool × List Bool := if ck h l = 0 then nfw h l else ([], [])
/-- the fitting normal form with its error -/
def fit (p : List Bool × List Bool) : List Bool × List Bool := if p.1.length + p.2.length ≤ 64 then p else ([], [])
def fitE (p : List Bool × List Bool) : Int := if p.1.length + p.2.length ≤ 64 then 0 else 3
def NewWE (p : List Bool × List Bool) (er : Int) (w : World) (e : Ending) (w' : World) : Prop := ∃ A B c d, e = .returned (.tuple #[.agg #[.slice A p.1.length c, .slice B p.2.length d], .int .i64 er]) ∧ Rd w' w'.heap.size A (bls p.1) ∧ Rd w' w'.heap.size B (bls p.2) ∧ p.1.length ≤ c ∧ p.2.length ≤ d ∧ Below w.heap.size w w' ∧ Nw w.heap.size A (bls p.1) ∧ Nw w.heap.size B (bls p.2)
theorem ck_bad {h l : List Bool} (hc : ¬ ck h l = 0) : (ck h l != 0) = true := by simpa using hc
theorem nfw_lens {h l : List Bool} (h0 : 0 < l.length) : (nfw h l).1.length ≤ h.length ∧ 0 < (nfw h l).2.length ∧ (nfw h l).2.length ≤ l.length := nf_len (per_lt h l) h0
end Go.Proofs.YtfogkcccjemloaaGreatDoor.bw
/- fitted of package bword. -/
namespace Go.Proofs.YtfogkcccjemloaaGreatDoor.bw
set_option linter.unusedVariables false
set_option linter.unusedSimpArgs false
open Go.RowKit
theorem ck_fit {h l : List Bool} (h0 : 0 < (nfw h l).2.length) : ck (nfw h l).1 (nfw h l).2 = fitE (nfw h l) := by
  unfold ck fitE
  rw [if_neg (by omega)]
  split <;> split <;> omega
end Go.Proofs.YtfogkcccjemloaaGreatDoor.bw
/- checkBoth and And of package bword. -/
namespace Go.Proofs.YtfogkcccjemloaaGreatDoor.bw
set_option linter.unusedVariables false
set_option linter.unusedSimpArgs false
open Go.RowKit
/-- the error of two words -/
def ck2 (h l h' l' : List Bool) : Int := if ck h l = 0 then ck h' l' else ck h l
/-- the letters of a conjunction, the first k of n -/
def andK (f : Nat → Bool) (n k : Nat) : List Bool := (List.range n).map fun i => decide (i < k) && f i
theorem andK_length (f : Nat → Bool) (n k : Nat) : (andK f n k).length = n := by simp [andK]
theorem andK_zero (f : Nat → Bool) (n : Nat) : (madeCells (Value.bool false).cells (n * 1)).toList = bls (andK f n 0) := by
  simp [andK, bls, madeCells, Value.cells, Nat.mod_one]
theorem andK_set (f : Nat → Bool) (n k : Nat) (hk : k < n) : (bls (andK f n k)).set k (.bool (f k)) = bls (andK f n (k + 1)) := by
  apply List.ext_getElem
  · simp [bls, andK]
  · intro i h1 h2
    have hi : i < n := by simpa [bls, andK] using h2
    rw [List.getElem_set]
    by_cases e : k = i
    · subst e
      simp [bls, andK]
    · have ht : decide (i < k) = decide (i < k + 1) := by rw [decide_eq_decide]; omega
      simp [bls, andK, e, ht]
theorem andK_get (f : Nat → Bool) (n k j : Nat) (hj : j < n) : (bls (andK f n k))[j]? = some (.bool (decide (j < k) && f j)) := by simp [bls, andK, hj]
theorem add_off (b n : Nat) : (⟨b, 0, none⟩ : Addr).add n = ⟨b, n, none⟩ := by simp only [Addr.add]; split <;> simp_all
/-- the letters of a list, cut in two, are f where f repeats -/
theorem lt_cut {f : Nat → Bool} {H P : Nat} (hp : per f H P) (h0 : 0 < P) (i : Nat) : lt ((andK f (H + P) (H + P)).take H) ((andK f (H + P) (H + P)).drop H) i = f i := by
  have hl1 : ((andK f (H + P) (H + P)).take H).length = H := by rw [List.length_take, andK_length]; omega
  have hl2 : ((andK f (H + P) (H + P)).drop H).length = P := by rw [List.length_drop, andK_length]; omega
  rw [lt, hl1, hl2]
  split
  · rename_i hi
    rw [List.getElem?_take_of_lt hi]
    simp [andK, show i < H + P by omega]
  · rename_i hi
    have hm := Nat.mod_lt (i - H) h0
    rw [List.getElem?_drop]
    have e : (andK f (H + P) (H + P))[H + (i - H) % P]? = some (f (H + (i - H) % P)) := by simp [andK, show H + (i - H) % P < H + P by omega]
    rw [e, Option.getD_some]
    have := per_mul hp ((i - H) / P) (H + (i - H) % P) (by omega)
    rw [← this]
    congr 1
    have := Nat.div_add_mod (i - H) P
    rw [Nat.mul_comm] at this
    omega
theorem nf_cut {f : Nat → Bool} {H P : Nat} (hp : per f H P) (h0 : 0 < P) : nfw ((andK f (H + P) (H + P)).take H) ((andK f (H + P) (H + P)).drop H) = nf f H P := by
  have hl2 : ((andK f (H + P) (H + P)).drop H).length = P := by rw [List.length_drop, andK_length]; omega
  exact nf_eq (per_lt _ _) (by rw [hl2]; exact h0) hp h0 (lt_cut hp h0)
def andW (h l h' l' : List Bool) : List Bool × List Bool := nf (fun i => lt h l i && lt h' l' i) (max h.length h'.length) (l.length * l'.length)
theorem per_and (h l h' l' : List Bool) : per (fun i => lt h l i && lt h' l' i) (max h.length h'.length) (l.length * l'.length) := by
  intro i hi
  have e1 := per_mul (per_lt h l) l'.length i (by omega)
  have e2 := per_mul (per_lt h' l') l.length i (by omega)
  show (lt h l _ && lt h' l' _) = _
  rw [Nat.mul_comm l'.length] at e1
  rw [e1, e2]
end Go.Proofs.YtfogkcccjemloaaGreatDoor.bw
/- On of package bword. -/
namespace Go.Proofs.YtfogkcccjemloaaGreatDoor.bw
set_option linter.unusedVariables false
set_option linter.unusedSimpArgs false
open Go.RowKit
/-- the number of ones among the first k letters -/
def oc (h l : List Bool) : Nat → Nat
  | 0 => 0
  | k + 1 => oc h l k + if lt h l k then 1 else 0
theorem oc_le (h l : List Bool) (k : Nat) : oc h l k ≤ k := by
  induction k with
  | zero => simp [oc]
  | succ k ih => simp only [oc]; split <;> omega
def onF (h l h' l' : List Bool) (i : Nat) : Bool := lt h l i && lt h' l' (oc h l i)
def onH (h l h' : List Bool) : Nat := h.length + h'.length * l.length
def onW (h l h' l' : List Bool) : List Bool × List Bool := nf (onF h l h' l') (onH h l h') (l.length * l'.length)
/-- ones in whole turns -/
theorem oc_turn (h l : List Bool) (m : Nat) : ∀ i, h.length ≤ i → oc h l (i + m * l.length) = oc h l i + m * (oc h l (h.length + l.length) - oc h l h.length) := by
  have shift : ∀ j, oc h l (h.length + l.length + j) + oc h l h.length = oc h l (h.length + l.length) + oc h l (h.length + j) := by
    intro j
    induction j with
    | zero => simp
    | succ j ih =>
      have e := per_lt h l (h.length + j) (by omega)
      rw [← Nat.add_assoc, ← Nat.add_assoc]
      simp only [oc]
      rw [show h.length + l.length + j = h.length + j + l.length by omega] at ih ⊢
      rw [e]
      omega
  have one : ∀ i, h.length ≤ i → oc h l (i + l.length) = oc h l i + (oc h l (h.length + l.length) - oc h l h.length) := by
    intro i hi
    obtain ⟨j, rfl⟩ : ∃ j, i = h.length + j := ⟨i - h.length, by omega⟩
    have s := shift j
    have s0 : oc h l h.length ≤ oc h l (h.length + l.length) := by
      generalize l.length = n
      induction n with
      | zero => simp
      | succ n ih => rw [← Nat.add_assoc]; simp only [oc]; omega
    rw [show h.length + j + l.length = h.length + l.length + j by omega]
    omega
  induction m with
  | zero => intro i _; simp
  | succ m ih =>
    intro i hi
    rw [Nat.succ_mul, ← Nat.add_assoc, one _ (by omega), ih i hi, Nat.succ_mul]
    omega
theorem per_on (h l h' l' : List Bool) : per (onF h l h' l') (onH h l h') (l.length * l'.length) := by
  intro i hi
  unfold onH at hi
  have hih : h.length ≤ i := by omega
  have e1 : lt h l (i + l.length * l'.length) = lt h l i := by
    have := per_mul (per_lt h l) l'.length i hih
    rwa [Nat.mul_comm l'.length] at this
  have e2 := oc_turn h l l'.length i hih
  show (lt h l _ && lt h' l' _) = (lt h l _ && lt h' l' _)
  rw [e1, show i + l.length * l'.length = i + l'.length * l.length by rw [Nat.mul_comm l.length], e2]
  generalize hq : oc h l (h.length + l.length) - oc h l h.length = q
  rcases Nat.eq_zero_or_pos q with h0 | h0
  · rw [h0]; simp
  · congr 1
    have big : h'.length ≤ oc h l i := by
      have hj := oc_turn h l h'.length h.length (Nat.le_refl _)
      rw [hq] at hj
      have mono : ∀ a b, oc h l a ≤ oc h l (a + b) := by
        intro a b
        induction b with
        | zero => simp
        | succ b ih => rw [← Nat.add_assoc]; simp only [oc]; omega
      have := mono (h.length + h'.length * l.length) (i - (h.length + h'.length * l.length))
      rw [show h.length + h'.length * l.length + (i - (h.length + h'.length * l.length)) = i by omega] at this
      have hm : h'.length ≤ h'.length * q := Nat.le_mul_of_pos_right _ h0
      omega
    have := per_mul (per_lt h' l') q (oc h l i) big
    rwa [Nat.mul_comm q] at this
theorem andK_skip {f : Nat → Bool} {n k : Nat} (hf : f k = false) : andK f n k = andK f n (k + 1) := by
  unfold andK
  apply List.map_congr_left
  intro i _
  by_cases e : i = k
  · subst e; simp [hf]
  · have ht : decide (i < k) = decide (i < k + 1) := by rw [decide_eq_decide]; omega
    rw [ht]
end Go.Proofs.YtfogkcccjemloaaGreatDoor.bw
/- bools and Equal of the reference. -/
namespace Go.Proofs.YtfogkcccjemloaaGreatDoor.bw
set_option linter.unusedVariables false
set_option linter.unusedSimpArgs false
open Go.RowKit
def eqTo (x y : List Bool) (k : Nat) : Bool := (List.range k).all fun i => gb x i == gb y i
theorem eqTo_succ (x y : List Bool) (k : Nat) : eqTo x y (k + 1) = (eqTo x y k && (gb x k == gb y k)) := by simp [eqTo, List.range_succ]
theorem eqTo_all {x y : List Bool} (hl : x.length = y.length) (h : eqTo x y x.length = true) : (x == y) = true := by
  rw [beq_iff_eq]
  apply List.ext_getElem hl
  intro i h1 h2
  rw [eqTo, List.all_eq_true] at h
  have := h i (List.mem_range.2 h1)
  rw [gb, gb, List.getElem?_eq_getElem h1, List.getElem?_eq_getElem h2] at this
  simpa using this
theorem eq_no {x y : List Bool} {k : Nat} (h : (gb x k == gb y k) = false) : (x == y) = false := by
  rw [beq_eq_false_iff_ne]
  intro e
  subst e
  simp at h
theorem drw_bel {w w' : World} {W : World} (h : Below w.heap.size w W) (k : Nat) (e : w' = W.drewN k) : Below w.heap.size w w' := by subst e; exact below_drewN h k
end Go.Proofs.YtfogkcccjemloaaGreatDoor.bw
/- word of the laws of layer 2: a word from the texts of its lists. -/
namespace Go.Proofs.YtfogkcccjemloaaGreatDoor.bw
set_option linter.unusedVariables false
set_option linter.unusedSimpArgs false
open Go.RowKit
/-- the letters of a text -/
def lts (s : ByteArray) : List Bool := s.data.toList.map fun b => ((b.toNat : Nat) : Int) == 49
theorem lts_length (s : ByteArray) : (lts s).length = s.size := by simp only [lts, List.length_map, Array.length_toList]; rfl
theorem lts_take {s : ByteArray} {k : Nat} (hk : k < s.size) : (lts s).take (k + 1) = (lts s).take k ++ [((s[k].toNat : Nat) : Int) == 49] := by
  apply take_succ_of
  have hk' : k < s.data.size := hk
  rw [lts, List.getElem?_map, Array.getElem?_toList, Array.getElem?_eq_getElem hk']
  rfl
def Fw (g : Nat) (W : World) (u v : Value) : Prop := (W.cell? ⟨g, 0, none⟩ = some (.slice none 0 0) ∧ W.cell? ⟨g, 1, none⟩ = some (.slice none 0 0) ∧ W.cell? ⟨g + 1, 0, none⟩ = some u ∧ W.cell? ⟨g + 1, 1, none⟩ = some v) ∧
  (W.frozen? ⟨g, 0, none⟩ = false ∧ W.frozen? ⟨g, 1, none⟩ = false ∧ W.frozen? ⟨g + 1, 0, none⟩ = false ∧ W.frozen? ⟨g + 1, 1, none⟩ = false) ∧ g + 2 ≤ W.heap.size
theorem Fw.below {g : Nat} {W W' : World} {u v : Value} (h : Fw g W u v) (hb : Below (g + 2) W W') : Fw g W' u v := by
  obtain ⟨⟨h1, h2, h3, h4⟩, ⟨h5, h6, h7, h8⟩, h9⟩ := h
  refine ⟨⟨(hb.cell (p := ⟨g, 0, none⟩) (by simp)).trans h1, (hb.cell (p := ⟨g, 1, none⟩) (by simp)).trans h2, (hb.cell (p := ⟨g + 1, 0, none⟩) (by simp)).trans h3, (hb.cell (p := ⟨g + 1, 1, none⟩) (by simp)).trans h4⟩,
    ⟨(hb.frozen (p := ⟨g, 0, none⟩) (by simp)).trans h5, (hb.frozen (p := ⟨g, 1, none⟩) (by simp)).trans h6, (hb.frozen (p := ⟨g + 1, 0, none⟩) (by simp)).trans h7, (hb.frozen (p := ⟨g + 1, 1, none⟩) (by simp)).trans h8⟩, ?_⟩
  rcases Nat.lt_or_ge (g + 1) W'.heap.size with h | h
  · omega
  · have e := (hb.cell (p := ⟨g + 1, 0, none⟩) (by simp)).trans h3
    have := World.block_lt_of_cell? W' _ e
    simp at this
    omega
theorem Fw.set0 {g : Nat} {W : World} {u v : Value} (h : Fw g W u v) (x : Value) : Fw g (W.setCell ⟨g + 1, 0, none⟩ x) x v := by
  obtain ⟨⟨h1, h2, h3, h4⟩, ⟨h5, h6, h7, h8⟩, h9⟩ := h
  refine ⟨⟨?_, ?_, World.cell?_setCell_same _ _ _ h3, ?_⟩, ⟨by simpa [go_sem] using h5, by simpa [go_sem] using h6, by simpa [go_sem] using h7, by simpa [go_sem] using h8⟩, by simpa [World.setCell] using h9⟩
  · rw [World.cell?_setCell_other _ _ _ _ (by simp)]; exact h1
  · rw [World.cell?_setCell_other _ _ _ _ (by simp)]; exact h2
  · rw [World.cell?_setCell_other _ _ _ _ (by simp)]; exact h4
theorem Fw.set1 {g : Nat} {W : World} {u v : Value} (h : Fw g W u v) (x : Value) : Fw g (W.setCell ⟨g + 1, 1, none⟩ x) u x := by
  obtain ⟨⟨h1, h2, h3, h4⟩, ⟨h5, h6, h7, h8⟩, h9⟩ := h
  refine ⟨⟨?_, ?_, ?_, World.cell?_setCell_same _ _ _ h4⟩, ⟨by simpa [go_sem] using h5, by simpa [go_sem] using h6, by simpa [go_sem] using h7, by simpa [go_sem] using h8⟩, by simpa [World.setCell] using h9⟩
  · rw [World.cell?_setCell_other _ _ _ _ (by simp)]; exact h1
  · rw [World.cell?_setCell_other _ _ _ _ (by simp)]; exact h2
  · rw [World.cell?_setCell_other _ _ _ _ (by simp)]; exact h3
theorem _root_.Go.Proofs.YtfogkcccjemloaaGreatDoor.Rd.set_low {w : World} {A : Option Addr} {N B : Nat} {xs : List Value} (h : Rd w B A xs) (hn : Nw N A xs) {p : Addr} (hp : p.block < N) (u : Value) : Rd (w.setCell p u) B A xs := fun hx => by
  obtain ⟨ad, e, hb, hc⟩ := h hx
  have hN := hn ad e hx
  refine ⟨ad, e, hb, fun j v hv => ?_⟩
  rw [World.cell?_setCell_other _ _ _ _ (fun e2 => by have := congrArg Addr.block e2; rw [add_block] at this; omega)]
  exact hc j v hv
theorem _root_.Go.Proofs.YtfogkcccjemloaaGreatDoor.Rd.one_new (w : World) (b : Bool) (t : TypeId) : Rd (w.alloc (.cells #[.bool b] t)) (w.heap.size + 1) (some ⟨w.heap.size, 0, none⟩) [.bool b] := fun _ =>
  ⟨_, rfl, Nat.lt_succ_self _, fun j u hu => cell_one_new w _ _ j u hu⟩
theorem Fw.made (w : World) (t u : TypeId) : Fw w.heap.size ((w.alloc (.cells #[.slice none 0 0, .slice none 0 0] t)).alloc (.cells #[.slice none 0 0, .slice none 0 0] u)) (.slice none 0 0) (.slice none 0 0) := by
  refine ⟨⟨?_, ?_, ?_, ?_⟩, ⟨?_, ?_, ?_, ?_⟩, ?_⟩ <;> simp [go_sem]
theorem size_up {B : Nat} {W : World} (o : Obj) (h : B ≤ W.heap.size) : B ≤ (W.alloc o).drew.heap.size := by simp; omega
theorem grow_up {B n : Nat} {e : TypeId} {v : Value} {xs : List Value} {W w1 : World} {o : Obj} (hB : B ≤ W.heap.size) (hown : W.ownsRow B e 1 v n xs) (hg : ((W.alloc o).drew).grownBy w1 v.ownBlock) : Below B W w1 :=
  (((Below.refl _ _).alloc hB _).drew).grown hg (size_up _ hB) (fun k hk => (hown.lt k hk).1)
end Go.Proofs.YtfogkcccjemloaaGreatDoor.bw
/- digits and Text of package bword. -/
namespace Go.Proofs.YtfogkcccjemloaaGreatDoor.bw
set_option linter.unusedVariables false
set_option linter.unusedSimpArgs false
open Go.RowKit
theorem Tryz.byteInfo : (Tryz.prog.info? 5).map (fun i => (i.zero, i.size, i.bytes)) = some (some (.int .u8 0), 1, 1) := by kernel_rfl
def dig (b : Bool) : UInt8 := if b then 49 else 48
def digs (l : List Bool) : List UInt8 := l.map dig
def dgs (l : List Bool) : ByteArray := ⟨(digs l).toArray⟩
theorem digs_length (l : List Bool) : (digs l).length = l.length := by simp [digs]
theorem dgs_size (l : List Bool) : (dgs l).size = l.length := by rw [dgs, ByteArray.size, List.size_toArray, digs_length]
def dgV (l : List Bool) (k i : Nat) : Int := if i < k then ((dig (gb l i)).toNat : Int) else 0
def dgC (l : List Bool) (k : Nat) : List Value := (List.range l.length).map fun i => Value.int .u8 (dgV l k i)
theorem dgC_zero (l : List Bool) : (madeCells (Value.int .u8 0).cells (l.length * 1)).toList = dgC l 0 := by
  simp [dgC, dgV, madeCells, Value.cells, Nat.mod_one]
theorem dgC_set (l : List Bool) (k : Nat) (hk : k < l.length) (b : Bool) (hb : gb l k = b) : (dgC l k).set k (.int .u8 (if b then 49 else 48)) = dgC l (k + 1) := by
  apply List.ext_getElem
  · simp [dgC]
  · intro i h1 h2
    have hi : i < l.length := by simpa [dgC] using h2
    rw [List.getElem_set]
    by_cases e : k = i
    · subst e
      cases b <;> simp [dgC, dgV, hb, dig]
    · have ht : (i < k) = (i < k + 1) := by rw [eq_iff_iff]; omega
      simp [dgC, dgV, e, ht]
theorem dgC_get (l : List Bool) (k j : Nat) (hj : j < l.length) : (dgC l k)[j]? = some (.int .u8 (dgV l k j)) := by simp [dgC, hj]
theorem dgC_all (l : List Bool) (j : Nat) (hj : j < (digs l).length) : (dgC l l.length)[j]? = some (.int .u8 (((digs l)[j]).toNat : Int)) := by
  rw [digs_length] at hj
  rw [dgC_get _ _ _ hj, dgV, if_pos hj]
  simp [digs, gb, hj]
def txt (h l : List Bool) : ByteArray := if ck h l = 0 then dgs h ++ ⟨#[40]⟩ ++ dgs l ++ ⟨#[41]⟩ else ⟨#[]⟩
end Go.Proofs.YtfogkcccjemloaaGreatDoor.bw
/- Ones of package bword and of the reference, for every word and number. -/
namespace Go.Proofs.YtfogkcccjemloaaGreatDoor.bw
set_option linter.unusedVariables false
set_option linter.unusedSimpArgs false
open Go.RowKit
theorem q1 {P : Program} {f : FuncId} {args : Array Value} {w : World} {n : Nat} {v : Value} (h : Calls P f args (w.drewN n) fun e w' => e = .returned v ∧ w.drewN n = w') : Calls P f args (w.drewN n) fun e w'' => e = .returned v ∧ ∃ m, w'' = w.drewN m :=
  h.mono fun _ _ ⟨he, hm⟩ => ⟨he, n, hm.symm⟩
theorem q2 {P : Program} {f : FuncId} {args : Array Value} {w : World} {a n : Nat} {v : Value} (h : Calls P f args (w.drewN (a + n)) fun e w' => e = .returned v ∧ w.drewN (a + n) = w') : Calls P f args (w.drewN (a + n)) fun e w'' => e = .returned v ∧ ∃ m, w'' = w.drewN (a + m) :=
  h.mono fun _ _ ⟨he, hm⟩ => ⟨he, n, hm.symm⟩
def onesN (h l : List Bool) (n : Nat) : Nat := if n ≤ h.length then cnt (h.take n) else cnt h + (n - h.length) / l.length * cnt l + cnt (l.take ((n - h.length) % l.length))
def ones (h l : List Bool) (n : Int) : Int := if ck h l = 0 ∧ 1 ≤ n then onesN h l n.toNat else 0
theorem ones_yes {h l : List Bool} {k : Nat} (h1 : ck h l = 0) (h2 : 1 ≤ k) : ones h l k = onesN h l k := by rw [ones, if_pos ⟨h1, by omega⟩, Int.toNat_natCast]
theorem ones_no {h l : List Bool} {i : Int} (h1 : ¬ (ck h l = 0 ∧ 1 ≤ i)) : ones h l i = 0 := by rw [ones, if_neg h1]
theorem cnt_le (l : List Bool) : cnt l ≤ l.length := List.count_le_length
theorem turns_le (l : List Bool) (r : Nat) : r / l.length * cnt l ≤ r := Nat.le_trans (Nat.mul_le_mul_left _ (cnt_le l)) (Nat.div_mul_le_self _ _)
end Go.Proofs.YtfogkcccjemloaaGreatDoor.bw
/- awake of the laws of layer 2: the examples of the page. -/
namespace Go.Proofs.YtfogkcccjemloaaGreatDoor.bw
set_option linter.unusedVariables false
set_option linter.unusedSimpArgs false
open Go.RowKit
def NewWX (x y : List Bool) (er : Int) (w : World) (e : Ending) (w' : World) : Prop := ∃ A B c d, e = .returned (.tuple #[.agg #[.slice A x.length c, .slice B y.length d], .int .i64 er]) ∧ Rd w' w'.heap.size A (bls x) ∧ Rd w' w'.heap.size B (bls y) ∧ x.length ≤ c ∧ y.length ≤ d ∧ Below w.heap.size w w' ∧ Nw w.heap.size A (bls x) ∧ Nw w.heap.size B (bls y)
theorem hto {w W : World} {A : Option Addr} {xs : List Value} (h : Hid (Rd w w.heap.size A xs)) (hb : Below w.heap.size w W) : Rd W W.heap.size A xs := Rd.to h hb
abbrev L_ : ByteArray := ⟨#[]⟩
abbrev L0 : ByteArray := ⟨#[48]⟩
abbrev L1 : ByteArray := ⟨#[49]⟩
abbrev L01 : ByteArray := ⟨#[48, 49]⟩
abbrev L10 : ByteArray := ⟨#[49, 48]⟩
abbrev L110 : ByteArray := ⟨#[49, 49, 48]⟩
abbrev L1010 : ByteArray := ⟨#[49, 48, 49, 48]⟩
abbrev L100010 : ByteArray := ⟨#[49, 48, 48, 48, 49, 48]⟩
theorem box2 {w W : World} {x y : Value} {t : TypeId} (hb : Below (w.alloc (.cells #[x, y] t)).heap.size (w.alloc (.cells #[x, y] t)) W) : W.cell? ⟨w.heap.size, 0, none⟩ = some x ∧ W.cell? ⟨w.heap.size, 1, none⟩ = some y :=
  ⟨(hb.cell (p := ⟨w.heap.size, 0, none⟩) (by simp)).trans (cell_new2 w x y t).1, (hb.cell (p := ⟨w.heap.size, 1, none⟩) (by simp)).trans (cell_new2 w x y t).2⟩
theorem and4 {a b c d : Prop} (h : a ∧ b) (k : c ∧ d) : a ∧ b ∧ c ∧ d := ⟨h.1, h.2, k.1, k.2⟩
end Go.Proofs.YtfogkcccjemloaaGreatDoor.bw
/- strings.Trim at an ASCII cutset, laid at this program: one application of the library's contract each. -/
namespace Go.Proofs
open Go.Shelf
def Tryz.lays231_ren : Go.Shelf.Ren := ⟨fun | 231 => 100 | n => n, fun | 9 => 9 | 5 => 5 | 3 => 3 | 4 => 4 | n => n, fun | n => n⟩
theorem Tryz.lays231 : Go.Proofs.Lays.n231 Tryz.prog Tryz.lays231_ren := {
  mixed := by kernel_rfl
  f231 := Tryz.func100.trans (congrArg some (by kernel_rfl))
  t3 := Tryz.underlying3
  a3 := Tryz.isAgg3
  z3 := Tryz.sizeOf3
  v3 := Tryz.zeroValue3
  t4 := Tryz.underlying4
  a4 := Tryz.isAgg4
  z4 := Tryz.sizeOf4
  v4 := Tryz.zeroValue4
  t5 := Tryz.underlying5
  a5 := Tryz.isAgg5
  z5 := Tryz.sizeOf5
  v5 := Tryz.zeroValue5
  t9 := Tryz.underlying9
  a9 := Tryz.isAgg9
  z9 := Tryz.sizeOf9
  v9 := Tryz.zeroValue9 }
open Go.RowKit in
/-- strings.trimLeftByte (no doc; what TrimLeft and Trim call at a cutset of one ASCII byte): the leading bytes that are c are cut off. The world is as it was. (LAID: no walk: one application.) -/
theorem Tryz.strings_trimLeftByte (s : ByteArray) (c : UInt8) (w : World) :
    Calls Tryz.prog 100 #[.string s, .int .u8 c.toNat] w fun e w' => e = .returned (.string ⟨(Lib.trimLeftB s.data.toList c).toArray⟩) ∧ w' = w := Any.strings_trimLeftByte Tryz.lays231 s c w
def Tryz.lays232_ren : Go.Shelf.Ren := ⟨fun | 232 => 101 | n => n, fun | 9 => 9 | 5 => 5 | 3 => 3 | 4 => 4 | n => n, fun | n => n⟩
theorem Tryz.lays232 : Go.Proofs.Lays.n232 Tryz.prog Tryz.lays232_ren := {
  mixed := by kernel_rfl
  f232 := Tryz.func101.trans (congrArg some (by kernel_rfl))
  t3 := Tryz.underlying3
  a3 := Tryz.isAgg3
  z3 := Tryz.sizeOf3
  v3 := Tryz.zeroValue3
  t4 := Tryz.underlying4
  a4 := Tryz.isAgg4
  z4 := Tryz.sizeOf4
  v4 := Tryz.zeroValue4
  t5 := Tryz.underlying5
  a5 := Tryz.isAgg5
  z5 := Tryz.sizeOf5
  v5 := Tryz.zeroValue5
  t9 := Tryz.underlying9
  a9 := Tryz.isAgg9
  z9 := Tryz.sizeOf9
  v9 := Tryz.zeroValue9 }
open Go.RowKit in
/-- strings.trimRightByte (no doc; what TrimRight and Trim call at a cutset of one ASCII byte): the trailing bytes that are c are cut off. The world is as it was. ('hs': a string's length is a number that an int holds.) (LAID: no walk: one application.) -/
theorem Tryz.strings_trimRightByte (s : ByteArray) (c : UInt8) (w : World) (hs : s.size ≤ 9223372036854775807) :
    Calls Tryz.prog 101 #[.string s, .int .u8 c.toNat] w fun e w' => e = .returned (.string ⟨(Lib.trimRightB s.data.toList c).toArray⟩) ∧ w' = w := Any.strings_trimRightByte Tryz.lays232 s c w hs
def Tryz.lays160_ren : Go.Shelf.Ren := ⟨fun | 160 => 85 | 232 => 101 | 231 => 100 | 227 => 102 | 234 => 104 | 233 => 103 | 236 => 106 | 235 => 105 | 228 => 114 | 271 => 117 | 151 => 116 | 197 => 115 | 120 => 127 | 152 => 126 | 260 => 125 | 137 => 96 | 119 => 132 | 224 => 112 | 225 => 111 | 217 => 107 | 266 => 118 | n => n, fun | 9 => 9 | 4 => 4 | 3 => 3 | 5 => 5 | 117 => 92 | 116 => 91 | 0 => 0 | 124 => 95 | 21 => 21 | 105 => 98 | 46 => 97 | 119 => 120 | 139 => 123 | 138 => 122 | n => n, fun | 3 => 3 | 4 => 4 | n => n⟩
theorem Tryz.lays160 : Go.Proofs.Lays.n160 Tryz.prog Tryz.lays160_ren := {
  mixed := by kernel_rfl
  f119 := Tryz.func132.trans (congrArg some (by kernel_rfl))
  f120 := Tryz.func127.trans (congrArg some (by kernel_rfl))
  f137 := Tryz.func96.trans (congrArg some (by kernel_rfl))
  f151 := Tryz.func116.trans (congrArg some (by kernel_rfl))
  f152 := Tryz.func126.trans (congrArg some (by kernel_rfl))
  f160 := Tryz.func85.trans (congrArg some (by kernel_rfl))
  f197 := Tryz.func115.trans (congrArg some (by kernel_rfl))
  f217 := Tryz.func107.trans (congrArg some (by kernel_rfl))
  f224 := Tryz.func112.trans (congrArg some (by kernel_rfl))
  f225 := Tryz.func111.trans (congrArg some (by kernel_rfl))
  f227 := Tryz.func102.trans (congrArg some (by kernel_rfl))
  f228 := Tryz.func114.trans (congrArg some (by kernel_rfl))
  f231 := Tryz.func100.trans (congrArg some (by kernel_rfl))
  f232 := Tryz.func101.trans (congrArg some (by kernel_rfl))
  f233 := Tryz.func103.trans (congrArg some (by kernel_rfl))
  f234 := Tryz.func104.trans (congrArg some (by kernel_rfl))
  f235 := Tryz.func105.trans (congrArg some (by kernel_rfl))
  f236 := Tryz.func106.trans (congrArg some (by kernel_rfl))
  f260 := Tryz.func125.trans (congrArg some (by kernel_rfl))
  f266 := Tryz.func118.trans (congrArg some (by kernel_rfl))
  f271 := Tryz.func117.trans (congrArg some (by kernel_rfl))
  t0 := Tryz.underlying0
  a0 := Tryz.isAgg0
  z0 := Tryz.sizeOf0
  v0 := Tryz.zeroValue0
  t3 := Tryz.underlying3
  a3 := Tryz.isAgg3
  z3 := Tryz.sizeOf3
  v3 := Tryz.zeroValue3
  t4 := Tryz.underlying4
  a4 := Tryz.isAgg4
  z4 := Tryz.sizeOf4
  v4 := Tryz.zeroValue4
  t5 := Tryz.underlying5
  a5 := Tryz.isAgg5
  z5 := Tryz.sizeOf5
  v5 := Tryz.zeroValue5
  t9 := Tryz.underlying9
  a9 := Tryz.isAgg9
  z9 := Tryz.sizeOf9
  v9 := Tryz.zeroValue9
  t21 := Tryz.underlying21
  a21 := Tryz.isAgg21
  z21 := Tryz.sizeOf21
  v21 := Tryz.zeroValue21
  t46 := Tryz.underlying97
  a46 := Tryz.isAgg97
  z46 := Tryz.sizeOf97
  v46 := Tryz.zeroValue97
  t105 := Tryz.underlying98
  a105 := Tryz.isAgg98
  z105 := Tryz.sizeOf98
  v105 := Tryz.zeroValue98
  t116 := Tryz.underlying91
  a116 := Tryz.isAgg91
  z116 := Tryz.sizeOf91
  t117 := Tryz.underlying92
  a117 := Tryz.isAgg92
  z117 := Tryz.sizeOf92
  v117 := Tryz.zeroValue92
  t119 := Tryz.underlying120
  a119 := Tryz.isAgg120
  z119 := Tryz.sizeOf120
  t124 := Tryz.underlying95
  a124 := Tryz.isAgg95
  z124 := Tryz.sizeOf95
  v124 := Tryz.zeroValue95
  t138 := Tryz.underlying122
  a138 := Tryz.isAgg122
  z138 := Tryz.sizeOf122
  v138 := Tryz.zeroValue122
  t139 := Tryz.underlying123
  a139 := Tryz.isAgg123
  z139 := Tryz.sizeOf123
  v139 := Tryz.zeroValue123
  g3 := by kernel_rfl
  g4 := by kernel_rfl }
open Go.RowKit in
/-- strings.Trim: "Trim returns a slice of the string s with all leading and trailing Unicode code points contained in cutset removed.": AT A cutset OF ONE ASCII BYTE. THE WORLD BEHIND IT: as it was, or (where s is not empty) with ONE DRAW MORE off the tape: the statement 'return trimLeftByte(trimRightByte(s, c), c)' draws its order of evaluation. (LAID: no walk: one application.) -/
theorem Tryz.strings_Trim_one (s : ByteArray) (c : UInt8) (hc : c.toNat < 128) (w : World) (hs : s.size ≤ 9223372036854775807) :
    Calls Tryz.prog 85 #[.string s, .string ⟨#[c]⟩] w fun e w' => e = .returned (.string ⟨(Lib.trimB s.data.toList c).toArray⟩) ∧ (w' = w ∨ w' = w.drew) := Any.strings_Trim_one Tryz.lays160 s c hc w hs
open Go.RowKit Go.Lib in
/-- strings.Trim at an ASCII cutset however long. -/
theorem Tryz.strings_Trim_laid (s cutset : ByteArray) (w : World) (hs : s.size ≤ 9223372036854775807) (hcs : cutset.size < 4294967281) (hascii : ∀ (j : Nat) b, cutset.data.toList[j]? = some b → b.toNat < 128) :
    Calls Tryz.prog 85 #[.string s, .string cutset] w fun e w' => e = .returned (.string ⟨(Lib.trimS s.data.toList cutset.data.toList).toArray⟩) ∧ Below w.heap.size w w' := Any.strings_Trim_laid Tryz.lays160 (by kernel_rfl) s cutset w hs hcs hascii
end Go.Proofs
/- strings.Cut at one byte, isDigits, read of the program; digits and run of the reference. -/
namespace Go.Proofs.YtfogkcccjemloaaGreatDoor.bw
set_option linter.unusedVariables false
set_option linter.unusedSimpArgs false
open Go.RowKit
theorem len_toList (s : ByteArray) : s.data.toList.length = s.size := Array.length_toList
theorem byte_get (s : ByteArray) (k : Nat) (h : k < s.size) : s.data.toList[k]? = some s[k] := by
  rw [List.getElem?_eq_getElem (by rw [len_toList]; exact h)]
  rfl
/-- before the first c, behind it, and whether there is one -/
def cutA (l : List UInt8) (c : UInt8) : List UInt8 := if c ∈ l then l.takeWhile (· != c) else l
def cutZ (l : List UInt8) (c : UInt8) : List UInt8 := if c ∈ l then (l.dropWhile (· != c)).drop 1 else []
theorem idx_facts (l : List UInt8) (c : UInt8) : (c ∉ l ∧ Lib.indexByte l c = -1) ∨ (∃ k : Nat, c ∈ l ∧ Lib.indexByte l c = (k : Int) ∧ k < l.length ∧ l.takeWhile (· != c) = l.take k ∧ l.dropWhile (· != c) = l.drop k) := by
  induction l with
  | nil => exact .inl ⟨by simp, rfl⟩
  | cons b r ih =>
    by_cases hb : b = c
    · subst hb
      exact .inr ⟨0, by simp, by simp [Lib.indexByte], by simp, by simp, by simp⟩
    · have hb2 : (b == c) = false := by simpa using hb
      have hb3 : (b != c) = true := by simpa using hb
      rcases ih with ⟨h1, h2⟩ | ⟨k, h1, h2, h3, h4, h5⟩
      · left
        refine ⟨by simp [h1, Ne.symm hb], ?_⟩
        rw [Lib.indexByte, hb2, h2]
        rfl
      · right
        refine ⟨k + 1, by simp [h1], ?_, by simp; omega, ?_, ?_⟩
        · rw [Lib.indexByte, hb2, h2, if_neg (by simp), if_neg (by simp)]
          rfl
        · rw [List.takeWhile_cons, if_pos hb3, List.take_succ_cons, h4]
        · rw [List.dropWhile_cons, if_pos hb3, List.drop_succ_cons, h5]
theorem cut_any (s : ByteArray) (c : UInt8) (w : World) (hs : s.size ≤ 9223372036854775807) : Calls Tryz.prog 84 #[.string s, .string ⟨#[c]⟩] w
    (fun e w' => e = .returned (.tuple #[.string ⟨(cutA s.data.toList c).toArray⟩, .string ⟨(cutZ s.data.toList c).toArray⟩, .bool (decide (c ∈ s.data.toList))]) ∧ Below w.heap.size w w') := by
  have KI := Lib.hid (fun w => Tryz.stringslite_Index_one s c w)
  rcases idx_facts s.data.toList c with ⟨h1, h2⟩ | ⟨k, h1, h2, h3, h4, h5⟩
  · rw [h2] at KI
    have e1 : cutA s.data.toList c = s.data.toList := by rw [cutA, if_neg h1]
    have e2 : cutZ s.data.toList c = [] := by rw [cutZ, if_neg h1]
    rw [e1, e2, decide_eq_false h1]
    clear h1 h2 e1 e2
    go_enter Tryz.func84, Tryz.ntmps84
    go_wp2_with (go_at_call 99; refine (KI.out _).mono ?_; rintro e w1 ⟨rfl, rfl⟩)
    go_ret3
    exact ⟨rfl, Below.refl _ _⟩
  · rw [h2] at KI
    have e1 : cutA s.data.toList c = s.data.toList.take k := by rw [cutA, if_pos h1, h4]
    have e2 : cutZ s.data.toList c = s.data.toList.drop (k + 1) := by rw [cutZ, if_pos h1, h5, List.drop_drop]
    rw [e1, e2, decide_eq_true h1]
    have hk : k < s.size := by rw [← len_toList]; exact h3
    have f1 : (0 : Int) ≤ (k : Int) := by omega
    have f2 : (k : Int) ≤ (s.size : Int) := by omega
    have f3 : (k : Int) + 1 ≤ (s.size : Int) := by omega
    have f4 : IntKind.i64.wrap ((k : Int) + 1) = (k : Int) + 1 := Go.IntWalk.i64_in _ ⟨by omega, by omega⟩
    clear h1 h2 h3 h4 h5 e1 e2
    go_enter Tryz.func84, Tryz.ntmps84
    go_wp2_with (go_at_call 99; refine (KI.out _).mono ?_; rintro e w1 ⟨rfl, rfl⟩)
    go_quiet (fail)
    go_wp2
    go_ret3
    have x1 : s.extract 0 k = ⟨(s.data.toList.take k).toArray⟩ := by
      apply ByteArray.ext
      rw [ByteArray.data_extract]
      apply Array.toList_inj.mp
      simp
    have x2 : s.extract (k + 1) s.size = ⟨(s.data.toList.drop (k + 1)).toArray⟩ := by
      apply ByteArray.ext
      rw [ByteArray.data_extract]
      apply Array.toList_inj.mp
      simp
      exact List.take_of_length_le (by simp [len_toList])
    exact ⟨by rw [← x1, ← x2]; rfl, below_drewN (Below.refl _ _) _⟩
theorem cuts_any (s : ByteArray) (c : UInt8) (w : World) (hs : s.size ≤ 9223372036854775807) : Calls Tryz.prog 58 #[.string s, .string ⟨#[c]⟩] w
    (fun e w' => e = .returned (.tuple #[.string ⟨(cutA s.data.toList c).toArray⟩, .string ⟨(cutZ s.data.toList c).toArray⟩, .bool (decide (c ∈ s.data.toList))]) ∧ Below w.heap.size w w') := by
  have K := Lib.hid (cut_any s c w hs)
  generalize decide (c ∈ s.data.toList) = b at *
  generalize cutA s.data.toList c = x at *
  generalize cutZ s.data.toList c = y at *
  clear hs
  go_enter Tryz.func58, Tryz.ntmps58
  go_wp2_with (go_at_call 84; refine K.out.mono ?_; rintro e w1 ⟨rfl, hb1⟩)
  go_ret3
  exact ⟨rfl, (by repeat (first | (with_reducible exact Below.refl _ _) | (with_reducible assumption) | (with_reducible exact bel_box _) | (with_reducible refine bel_step ?_ (by with_reducible assumption)) | (with_reducible refine Below.drew ?_) | (with_reducible refine below_drewN ?_ _) | (with_reducible refine bel_alloc ?_ _)))⟩
def isD (c : UInt8) : Bool := c == 48 || c == 49
theorem drop_nil {α : Type} {p : α → Bool} {l : List α} (h : (l.dropWhile p).all p = true) : l.all p = true := by
  induction l with
  | nil => rfl
  | cons a r ih =>
    rw [List.dropWhile_cons] at h
    split at h
    · rename_i ha
      rw [List.all_cons, ha, ih h]
      rfl
    · exact h
theorem drop_all {α : Type} {p : α → Bool} {l : List α} (h : l.all p = true) : l.dropWhile p = [] := by
  induction l with
  | nil => rfl
  | cons a r ih =>
    rw [List.all_cons, Bool.and_eq_true] at h
    rw [List.dropWhile_cons, if_pos h.1, ih h.2]
theorem trim_nil (l : List UInt8) : Lib.trimS l [48, 49] = [] ↔ l.all isD = true := by
  have hp : (fun b => List.contains [48, 49] b) = isD := by funext c; rw [show List.contains [48, 49] c = (c == 48 || (c == 49 || false)) from rfl, Bool.or_false]; rfl
  unfold Lib.trimS Lib.trimLeftS Lib.trimRightS
  rw [hp]
  constructor
  · intro h
    have h1 : ((l.reverse.dropWhile isD).reverse.dropWhile isD).all isD = true := by rw [h]; rfl
    have h2 := drop_nil h1
    rw [List.all_reverse] at h2
    have h3 := drop_nil h2
    rwa [List.all_reverse] at h3
  · intro h
    have h1 : l.reverse.all isD = true := by rwa [List.all_reverse]
    rw [drop_all h1]
    rfl
theorem isdig_any (s : ByteArray) (w : World) (hs : s.size ≤ 9223372036854775807) : Calls Tryz.prog 59 #[.string s] w (Bel (.bool (s.data.toList.all isD)) w) := by
  have K := Lib.hid (Tryz.strings_Trim_laid s ⟨#[48, 49]⟩ w hs (by decide) (Go.Proofs.ascii_of_all (by decide)))
  by_cases h : s.data.toList.all isD = true
  · have ht := (trim_nil _).2 h
    rw [show (ByteArray.mk #[48, 49]).data.toList = [48, 49] from rfl, ht] at K
    rw [h]
    clear h ht hs
    go_enter Tryz.func59, Tryz.ntmps59
    go_wp2_with (go_at_call 85; refine K.out.mono ?_; rintro e w1 ⟨rfl, hb1⟩)
    go_ret
    exact ⟨rfl, (by repeat (first | (with_reducible exact Below.refl _ _) | (with_reducible assumption) | (with_reducible exact bel_box _) | (with_reducible refine bel_step ?_ (by with_reducible assumption)) | (with_reducible refine Below.drew ?_) | (with_reducible refine below_drewN ?_ _) | (with_reducible refine bel_alloc ?_ _)))⟩
  · have ht : Lib.trimS s.data.toList [48, 49] ≠ [] := fun e => h ((trim_nil _).1 e)
    rw [show (ByteArray.mk #[48, 49]).data.toList = [48, 49] from rfl] at K
    rw [Bool.not_eq_true] at h
    rw [h]
    generalize Lib.trimS s.data.toList [48, 49] = l at *
    have e1 : l.isEmpty = false := by rcases l with _ | ⟨a, r⟩ <;> simp at ht ⊢
    have e2 : (l == []) = false := by rcases l with _ | ⟨a, r⟩ <;> simp at ht ⊢
    clear h hs ht
    go_enter Tryz.func59, Tryz.ntmps59
    go_wp2_with (go_at_call 85; refine K.out.mono ?_; rintro e w1 ⟨rfl, hb1⟩)
    go_ret
    exact ⟨rfl, (by repeat (first | (with_reducible exact Below.refl _ _) | (with_reducible assumption) | (with_reducible exact bel_box _) | (with_reducible refine bel_step ?_ (by with_reducible assumption)) | (with_reducible refine Below.drew ?_) | (with_reducible refine below_drewN ?_ _) | (with_reducible refine bel_alloc ?_ _)))⟩
end Go.Proofs.YtfogkcccjemloaaGreatDoor.bw
/- read of the program; digits and run of the reference. -/
namespace Go.Proofs.YtfogkcccjemloaaGreatDoor.bw
set_option linter.unusedVariables false
set_option linter.unusedSimpArgs false
open Go.RowKit
theorem lts_get {s : ByteArray} {k : Nat} (hk : k < s.size) : (lts s)[k]? = some (((s[k].toNat : Nat) : Int) == 49) := by
  rw [lts, List.getElem?_map, byte_get s k hk]
  rfl
theorem lts_all (s : ByteArray) : andK (fun i => gb (lts s) i) s.size s.size = lts s := by
  apply List.ext_getElem
  · simp [andK, lts_length]
  · intro i h1 h2
    have hi : i < s.size := by rw [← lts_length]; exact h2
    have := lts_get hi
    rw [List.getElem?_eq_getElem h2] at this
    simp [andK, gb, h2, hi]
set_option maxHeartbeats 400000 in
theorem read_any (s : ByteArray) (w : World) (hs : s.size ≤ 65536) : Calls Tryz.prog 60 #[.string s] w (NewOwn (lts s) w) := by
  obtain ⟨i0, hi, iz, is, ib⟩ := info_parts Tryz.boolInfo
  go_enter Tryz.func60, Tryz.ntmps60
  go_wp2_with (at_make; refine wpList_make_full _ rfl _ _ 46 rfl w.heap.size 4 i0 (.bool false) 1 Tryz.underlying46 hi iz is _ _ _ _ s.size rfl rfl rfl rfl (by rw [ib]; omega) (by unfold maxLen; omega) (Nat.le_refl _) ?_; intro w2 hown2 hgrow2)
  have hb2 : Below w.heap.size w w2 := (Below.refl _ _).grown hgrow2 (Nat.le_refl _) (fun k hk => by cases hk)
  rw [andK_zero (fun i => gb (lts s) i) s.size] at hown2
  have HO2 := Lib.hid hown2
  clear hown2 hgrow2
  go_loopw [4, 10] (fun u i wr => ∃ k : Nat, k ≤ s.size ∧ i = .int .i64 k ∧ wr.ownsRow w.heap.size 4 1 (.slice (some ⟨w.heap.size, 0, none⟩) s.size s.size) s.size (bls (andK (fun i => gb (lts s) i) s.size k)) ∧ Below w.heap.size w wr) (fun _ i _ => s.size - (intOf i).toNat)
  case atStart => exact ⟨0, by omega, rfl, HO2.out, hb2⟩
  case round =>
    obtain ⟨k, hk, rfl, hown, hbl⟩ := hrel
    by_cases hlt : k < s.size
    · have hset := andK_set (fun i => gb (lts s) i) s.size k hlt
      simp only [gb_of (lts_get hlt)] at hset
      have hc3 := (hown.cellAt k (by omega)).trans (andK_get _ s.size k k hlt)
      have hf3 := hown.frozenAt k
      have hst := (hown.stored k (.bool (((s[k].toNat : Nat) : Int) == 49))).1
      rw [hset] at hst
      have HST := Lib.hid hst
      have hb3 : Below w.heap.size w (wr.setCell ⟨w.heap.size, k, none⟩ (.bool (((s[k].toNat : Nat) : Int) == 49))) := hbl.setCell (p := ⟨w.heap.size, k, none⟩) (Nat.le_refl _) _
      clear hst hset hown
      go_wp2
      go_roundw
      case rel => exact ⟨k + 1, by omega, by go_num, HST.out, hb3⟩
      case measure => simp [intOf]; omega
    · obtain rfl : k = s.size := by omega
      rw [lts_all] at hown
      go_wp2
      go_ret
      exact ⟨_, _, by rw [lts_length]; rfl, by rw [lts_length]; exact hown, hbl⟩
theorem dgs_succ {l : List Bool} {k : Nat} {b : Bool} (h : l[k]? = some b) : dgs (l.take (k + 1)) = dgs (l.take k) ++ ⟨#[dig b]⟩ := by
  rw [take_succ_of h]
  apply ByteArray.ext
  rw [ByteArray.data_append]
  apply Array.toList_inj.mp
  simp [dgs, digs]
theorem dig_size (b : Bool) : (ByteArray.mk #[dig b]).size = 1 := rfl
end Go.Proofs.YtfogkcccjemloaaGreatDoor.bw
/- Text and run of the reference. -/
namespace Go.Proofs.YtfogkcccjemloaaGreatDoor.bw
set_option linter.unusedVariables false
set_option linter.unusedSimpArgs false
open Go.RowKit
theorem tw_at {α : Type} (p : α → Bool) (l : List α) (i : Nat) (h : i < (l.takeWhile p).length) : ∃ b, l[i]? = some b ∧ p b = true ∧ (l.takeWhile p)[i]? = some b := by
  induction l generalizing i with
  | nil => simp at h
  | cons a r ih =>
    rw [List.takeWhile_cons] at h ⊢
    by_cases ha : p a = true
    · rw [if_pos ha] at h ⊢
      rcases i with _ | i
      · exact ⟨a, rfl, ha, rfl⟩
      · exact ih i (by simpa using h)
    · rw [if_neg ha] at h
      simp at h
theorem tw_end {α : Type} (p : α → Bool) (l : List α) (b : α) (h : l[(l.takeWhile p).length]? = some b) : p b = false := by
  induction l with
  | nil => simp at h
  | cons a r ih =>
    rw [List.takeWhile_cons] at h
    by_cases ha : p a = true
    · rw [if_pos ha] at h
      exact ih (by simpa using h)
    · rw [if_neg ha] at h
      simp at h
      rw [← h]
      simpa using ha
theorem tw_le {α : Type} (p : α → Bool) (l : List α) : (l.takeWhile p).length ≤ l.length := (List.takeWhile_sublist p).length_le
/-- the letters 0 and 1 at the beginning -/
def runL (l : List UInt8) : List Bool := (l.takeWhile isD).map fun b => ((b.toNat : Nat) : Int) == 49
theorem runL_length (l : List UInt8) : (runL l).length = (l.takeWhile isD).length := by simp [runL]
theorem isD_two {c : UInt8} (h : isD c = true) : (((c.toNat : Nat) : Int) == 48) = true ∧ (((c.toNat : Nat) : Int) == 49) = false ∨ (((c.toNat : Nat) : Int) == 48) = false ∧ (((c.toNat : Nat) : Int) == 49) = true := by
  unfold isD at h
  rw [Bool.or_eq_true, beq_iff_eq, beq_iff_eq] at h
  rcases h with rfl | rfl
  · exact .inl ⟨rfl, rfl⟩
  · exact .inr ⟨rfl, rfl⟩
theorem isD_none {c : UInt8} (h : isD c = false) : (((c.toNat : Nat) : Int) == 48) = false ∧ (((c.toNat : Nat) : Int) == 49) = false := by
  unfold isD at h
  rw [Bool.or_eq_false_iff, beq_eq_false_iff_ne, beq_eq_false_iff_ne] at h
  refine ⟨?_, ?_⟩ <;> rw [beq_eq_false_iff_ne] <;> intro e
  · exact h.1 (UInt8.toNat_inj.1 (by have : c.toNat = 48 := by omega
                                     simpa using this))
  · exact h.2 (UInt8.toNat_inj.1 (by have : c.toNat = 49 := by omega
                                     simpa using this))
theorem run_at {s : ByteArray} {a j : Nat} (ha : a ≤ j) (hj : j - a < (runL (s.data.toList.drop a)).length) : ∃ h : j < s.size, isD s[j] = true ∧ (runL (s.data.toList.drop a))[j - a]? = some (((s[j].toNat : Nat) : Int) == 49) := by
  rw [runL_length] at hj
  obtain ⟨b, h1, h2, h3⟩ := tw_at isD _ _ hj
  rw [List.getElem?_drop, show a + (j - a) = j by omega] at h1
  have hlt : j < s.size := by rw [← len_toList]; exact (List.getElem?_eq_some_iff.1 h1).1
  rw [byte_get s j hlt] at h1
  obtain rfl : s[j] = b := by simpa using h1
  exact ⟨hlt, h2, by rw [runL, List.getElem?_map, h3]; rfl⟩
theorem run_end {s : ByteArray} {a j : Nat} (ha : a ≤ j) (hj : j - a = (runL (s.data.toList.drop a)).length) (hlt : j < s.size) : isD s[j] = false := by
  apply tw_end isD (s.data.toList.drop a)
  rw [← runL_length, ← hj, List.getElem?_drop, show a + (j - a) = j by omega, byte_get s j hlt]
theorem grow_one' {B n : Nat} {e : TypeId} {v : Value} {xs : List Value} {W w1 : World} {o : Obj} (hB : B ≤ W.heap.size) (hown : W.ownsRow B e 1 v n xs) (hg : (W.alloc o).grownBy w1 v.ownBlock) : Below B W w1 :=
  ((Below.refl _ _).alloc hB _).grown hg (by simp; omega) (fun k hk => (hown.lt k hk).1)
set_option maxHeartbeats 400000 in
theorem run_any (s : ByteArray) (a : Nat) (w : World) (hs : s.size ≤ 65536) (ha : a ≤ s.size) : Calls Tryz.prog 89 #[.string s, .int .i64 a] w (NewOwn (runL (s.data.toList.drop a)) w) := by
  obtain ⟨i0, hi, iz, is, ib⟩ := info_parts Tryz.boolInfo
  obtain ⟨x, hx⟩ : ∃ x, x = runL (s.data.toList.drop a) := ⟨_, rfl⟩
  have hxs : a + x.length ≤ s.size := by
    have := tw_le isD (s.data.toList.drop a)
    rw [hx, runL_length]
    rw [List.length_drop, len_toList] at this
    omega
  have RA : Hid (∀ j, a ≤ j → j - a < x.length → ∃ h : j < s.size, isD s[j] = true ∧ x[j - a]? = some (((s[j].toNat : Nat) : Int) == 49)) := Lib.hid fun j h1 h2 => by subst hx; exact run_at h1 h2
  have RE : Hid (∀ j, a ≤ j → j - a = x.length → ∀ h : j < s.size, isD s[j] = false) := Lib.hid fun j h1 h2 h3 => by subst hx; exact run_end h1 h2 h3
  rw [← hx]
  clear hx
  go_enter Tryz.func89, Tryz.ntmps89
  go_wp2
  go_loopw [1, 5] (fun i v wr => ∃ (j : Nat), a ≤ j ∧ j - a ≤ x.length ∧ i = .int .i64 j ∧ wr.ownsRow w.heap.size 4 1 v (j - a) (bls (x.take (j - a))) ∧ w.heap.size ≤ wr.heap.size ∧ Below w.heap.size w wr) (fun i _ _ => a + x.length - (intOf i).toNat)
  case atStart => exact ⟨a, Nat.le_refl _, by omega, rfl, by rw [Nat.sub_self]; exact World.ownsRow_nil _ _ _ _, Nat.le_refl _, Below.refl _ _⟩
  case round =>
    obtain ⟨j, haj, hjx, rfl, hown, hsz, hbl⟩ := hrel
    by_cases hlt : j - a < x.length
    · obtain ⟨hj, hD, hxj⟩ := RA.out j haj hlt
      have HT := Lib.hid (take_succ_of hxj)
      have hj1 : j + 1 - a = j - a + 1 := by omega
      clear hxj
      rcases isD_two hD with ⟨e1, e2⟩ | ⟨e1, e2⟩
      all_goals
        clear hD
        go_wp2_with (at_builtin; refine wpList_append_rd _ rfl _ _ 46 rfl w.heap.size 4 i0 (.bool false) 1 Tryz.underlying46 hi iz is ib rfl _ (j - a) (bls (x.take (j - a))) rfl (hown.alloc _) (wr.heap.size + 1) _ 1 1 _ rfl rfl (Rd.one_new _ _ _) (one_cell_bool _) (by unfold maxLen; omega) (by omega) (by simp; omega) ?_; intro v1 w1 hown1 hgrow1 hat1)
        have hb1 := grow_one' hsz hown hgrow1
        have hbs : bls (x.take (j + 1 - a)) = bls (x.take (j - a)) ++ [.bool (((s[j].toNat : Nat) : Int) == 49)] := by rw [hj1, HT.out]; simp [bls]
        try rw [e2] at hbs
        rw [← hbs, ← hj1] at hown1
        have hsz4 := Nat.le_trans hsz hb1.size
        go_roundw
        case rel => exact ⟨j + 1, by omega, by omega, by go_num, hown1, hsz4, hbl.trans hb1⟩
        case measure => simp [intOf]; omega
    · have hjx2 : j - a = x.length := by omega
      have hown2 := hown
      rw [hjx2, List.take_length] at hown2
      obtain ⟨V, cv, rfl⟩ := own_form hown2
      clear hown
      by_cases hj : j < s.size
      · obtain ⟨e1, e2⟩ := isD_none (RE.out j haj hjx2 hj)
        go_wp2
        go_ret
        exact ⟨V, cv, rfl, hown2, hbl⟩
      · go_wp2
        go_ret
        exact ⟨V, cv, rfl, hown2, hbl⟩
end Go.Proofs.YtfogkcccjemloaaGreatDoor.bw
/- Parse of the program. -/
namespace Go.Proofs.YtfogkcccjemloaaGreatDoor.bw
set_option linter.unusedVariables false
set_option linter.unusedSimpArgs false
open Go.RowKit
def sa (x : List UInt8) : ByteArray := ⟨x.toArray⟩
theorem sa_list (x : List UInt8) : (sa x).data.toList = x := by simp [sa]
theorem sa_size (x : List UInt8) : (sa x).size = x.length := by rw [← len_toList, sa_list]
def CutK (s : ByteArray) (c : UInt8) (x y : List UInt8) (o : Bool) : Prop := ∀ W, Calls Tryz.prog 58 #[.string s, .string ⟨#[c]⟩] W (fun e w' => e = .returned (.tuple #[.string ⟨x.toArray⟩, .string ⟨y.toArray⟩, .bool o]) ∧ Below W.heap.size W w')
theorem isd_k (x : List UInt8) (b : Bool) (hx : x.length ≤ 66) (hb : x.all isD = b) : ∀ W, Calls Tryz.prog 59 #[.string ⟨x.toArray⟩] W (Bel (.bool b) W) := fun W => by
  have h := isdig_any (sa x) W (by rw [sa_size]; omega)
  rw [sa_list, hb] at h
  exact h
theorem read_n {P : Program} {f : FuncId} {a : List Value} {l : List Bool} {w : World} (h : Calls P f a.toArray w (NewOwn l w)) :
    Calls P f a.toArray w (fun e w' => ∃ V cv, e = .returned (.slice V l.length cv) ∧ Rd w' w'.heap.size V (bls l) ∧ l.length ≤ cv ∧ Nw w.heap.size V (bls l) ∧ Below w.heap.size w w') := by
  refine h.mono ?_
  rintro e w' ⟨V, cv, rfl, hown, hb⟩
  exact ⟨V, cv, rfl, Rd.of_own hown, own_cap hown, own_new hown, hb⟩
theorem read_k (x : List UInt8) (hx : x.length ≤ 66) : ∀ W, Calls Tryz.prog 60 #[.string ⟨x.toArray⟩] W (fun e w' => ∃ V cv, e = .returned (.slice V (lts (sa x)).length cv) ∧ Rd w' w'.heap.size V (bls (lts (sa x))) ∧ (lts (sa x)).length ≤ cv ∧ Nw W.heap.size V (bls (lts (sa x))) ∧ Below W.heap.size W w') := fun W =>
  read_n (a := [.string ⟨x.toArray⟩]) (read_any (sa x) W (by rw [sa_size]; omega))
theorem resb {w W : World} {t : TypeId} (h : Below (w.alloc (.cells #[.slice none 0 0, .slice none 0 0] t)).heap.size (w.alloc (.cells #[.slice none 0 0, .slice none 0 0] t)) W) :
    W.cell? ⟨w.heap.size, 0, none⟩ = some (.slice none 0 0) ∧ W.cell? ⟨w.heap.size, 1, none⟩ = some (.slice none 0 0) ∧ W.frozen? ⟨w.heap.size, 0, none⟩ = false ∧ W.frozen? ⟨w.heap.size, 1, none⟩ = false ∧ w.heap.size < W.heap.size := by
  obtain ⟨hc, hf, hz⟩ := bcell h
  rw [hc _ _ (by simp), hc _ _ (by simp), hf _ _ (by simp), hf _ _ (by simp)]
  simp at hz
  refine ⟨?_, ?_, ?_, ?_, by omega⟩ <;> simp [go_sem]
set_option maxHeartbeats 1000000 in
theorem parse_bad (s : ByteArray) (w : World) (x y u v : List UInt8) (o p : Bool) (hs : s.size ≤ 66) (hx : x.length ≤ 66) (hu : u.length ≤ 66) (K1 : Hid (CutK s 40 x y o)) (K2 : Hid (CutK (sa y) 41 u v p))
    (hbad : ¬ (o = true ∧ p = true ∧ v = [] ∧ x.all isD = true ∧ u.all isD = true ∧ ck (lts (sa x)) (lts (sa u)) = 0)) :
    Calls Tryz.prog 36 #[.string s] w (NewWX [] [] 5 w) := by
  obtain ⟨b, hb⟩ : ∃ b, x.all isD = b := ⟨_, rfl⟩
  obtain ⟨b', hb'⟩ : ∃ b, u.all isD = b := ⟨_, rfl⟩
  have D1 := Lib.hid (isd_k x b hx hb)
  have D2 := Lib.hid (isd_k u b' hu hb')
  rw [hb, hb'] at hbad
  have R1 := Lib.hid (read_k x hx)
  have R2 := Lib.hid (read_k u hu)
  have HL1 : (lts (sa x)).length ≤ 66 := by rw [lts_length, sa_size]; exact hx
  have HL2 : (lts (sa u)).length ≤ 66 := by rw [lts_length, sa_size]; exact hu
  generalize lts (sa x) = h at *
  generalize lts (sa u) = l at *
  clear hb hb'
  cases o
  · clear hbad hx hu
    go_enter Tryz.func36, Tryz.ntmps36
    go_wp2_with (first | (go_at_call_of 58 (Value.string s); refine (K1.out _).mono ?_; rintro e w1 ⟨rfl, hb1⟩) | (go_at_call 58; refine (K2.out _).mono ?_; rintro e w2 ⟨rfl, hb2⟩; obtain ⟨qa2, qb2, qc2, qd2, qe2⟩ := resb (w := w) (W := w2) (t := 48) (by repeat (first | (with_reducible exact Below.refl _ _) | (with_reducible assumption) | (with_reducible exact bel_box _) | (with_reducible refine bel_step ?_ (by with_reducible assumption)) | (with_reducible refine Below.drew ?_) | (with_reducible refine below_drewN ?_ _) | (with_reducible refine bel_alloc ?_ _)))))
    obtain ⟨k0, k1⟩ := set2_cells qa2 qb2 (.slice none 0 0) (.slice none 0 0)
    refine bodyPost_ret (v := .tuple #[.agg #[.slice none 0 0, .slice none 0 0], .int .i64 5]) (by simp [results, Tryz.results36, go_sem, k0, k1]) rfl ?_
    exact ⟨none, none, 0, 0, rfl, Rd.nil _ _ _, Rd.nil _ _ _, Nat.zero_le _, Nat.zero_le _, bel_set2 (by repeat (first | (with_reducible exact Below.refl _ _) | (with_reducible assumption) | (with_reducible exact bel_box _) | (with_reducible refine bel_step ?_ (by with_reducible assumption)) | (with_reducible refine Below.drew ?_) | (with_reducible refine below_drewN ?_ _) | (with_reducible refine bel_alloc ?_ _))) (Nat.le_refl _) _ _, Nw.nil _ _, Nw.nil _ _⟩
  · cases p
    · clear hbad hx hu
      go_enter Tryz.func36, Tryz.ntmps36
      go_wp2_with (first | (go_at_call_of 58 (Value.string s); refine (K1.out _).mono ?_; rintro e w1 ⟨rfl, hb1⟩) | (go_at_call 58; refine (K2.out _).mono ?_; rintro e w2 ⟨rfl, hb2⟩; obtain ⟨qa2, qb2, qc2, qd2, qe2⟩ := resb (w := w) (W := w2) (t := 48) (by repeat (first | (with_reducible exact Below.refl _ _) | (with_reducible assumption) | (with_reducible exact bel_box _) | (with_reducible refine bel_step ?_ (by with_reducible assumption)) | (with_reducible refine Below.drew ?_) | (with_reducible refine below_drewN ?_ _) | (with_reducible refine bel_alloc ?_ _)))))
      obtain ⟨k0, k1⟩ := set2_cells qa2 qb2 (.slice none 0 0) (.slice none 0 0)
      refine bodyPost_ret (v := .tuple #[.agg #[.slice none 0 0, .slice none 0 0], .int .i64 5]) (by simp [results, Tryz.results36, go_sem, k0, k1]) rfl ?_
      exact ⟨none, none, 0, 0, rfl, Rd.nil _ _ _, Rd.nil _ _ _, Nat.zero_le _, Nat.zero_le _, bel_set2 (by repeat (first | (with_reducible exact Below.refl _ _) | (with_reducible assumption) | (with_reducible exact bel_box _) | (with_reducible refine bel_step ?_ (by with_reducible assumption)) | (with_reducible refine Below.drew ?_) | (with_reducible refine below_drewN ?_ _) | (with_reducible refine bel_alloc ?_ _))) (Nat.le_refl _) _ _, Nw.nil _ _, Nw.nil _ _⟩
    · by_cases hv : v = []
      · subst hv
        cases b
        · clear hbad hx hu
          go_enter Tryz.func36, Tryz.ntmps36
          go_wp2_with (first | (go_at_call_of 58 (Value.string s); refine (K1.out _).mono ?_; rintro e w1 ⟨rfl, hb1⟩) | (go_at_call 58; refine (K2.out _).mono ?_; rintro e w2 ⟨rfl, hb2⟩) | (go_at_call_of 59 (Value.string ⟨x.toArray⟩); refine (D1.out _).mono ?_; rintro e w3 ⟨rfl, hb3⟩; obtain ⟨qa3, qb3, qc3, qd3, qe3⟩ := resb (w := w) (W := w3) (t := 48) (by repeat (first | (with_reducible exact Below.refl _ _) | (with_reducible assumption) | (with_reducible exact bel_box _) | (with_reducible refine bel_step ?_ (by with_reducible assumption)) | (with_reducible refine Below.drew ?_) | (with_reducible refine below_drewN ?_ _) | (with_reducible refine bel_alloc ?_ _)))))
          obtain ⟨k0, k1⟩ := set2_cells qa3 qb3 (.slice none 0 0) (.slice none 0 0)
          refine bodyPost_ret (v := .tuple #[.agg #[.slice none 0 0, .slice none 0 0], .int .i64 5]) (by simp [results, Tryz.results36, go_sem, k0, k1]) rfl ?_
          exact ⟨none, none, 0, 0, rfl, Rd.nil _ _ _, Rd.nil _ _ _, Nat.zero_le _, Nat.zero_le _, bel_set2 (by repeat (first | (with_reducible exact Below.refl _ _) | (with_reducible assumption) | (with_reducible exact bel_box _) | (with_reducible refine bel_step ?_ (by with_reducible assumption)) | (with_reducible refine Below.drew ?_) | (with_reducible refine below_drewN ?_ _) | (with_reducible refine bel_alloc ?_ _))) (Nat.le_refl _) _ _, Nw.nil _ _, Nw.nil _ _⟩
        · cases b'
          · clear hbad hx hu
            go_enter Tryz.func36, Tryz.ntmps36
            go_wp2_with (first | (go_at_call_of 58 (Value.string s); refine (K1.out _).mono ?_; rintro e w1 ⟨rfl, hb1⟩) | (go_at_call 58; refine (K2.out _).mono ?_; rintro e w2 ⟨rfl, hb2⟩) | (go_at_call_of 59 (Value.string ⟨x.toArray⟩); refine (D1.out _).mono ?_; rintro e w3 ⟨rfl, hb3⟩) | (go_at_call 59; refine (D2.out _).mono ?_; rintro e w4 ⟨rfl, hb4⟩; obtain ⟨qa4, qb4, qc4, qd4, qe4⟩ := resb (w := w) (W := w4) (t := 48) (by repeat (first | (with_reducible exact Below.refl _ _) | (with_reducible assumption) | (with_reducible exact bel_box _) | (with_reducible refine bel_step ?_ (by with_reducible assumption)) | (with_reducible refine Below.drew ?_) | (with_reducible refine below_drewN ?_ _) | (with_reducible refine bel_alloc ?_ _)))))
            obtain ⟨k0, k1⟩ := set2_cells qa4 qb4 (.slice none 0 0) (.slice none 0 0)
            refine bodyPost_ret (v := .tuple #[.agg #[.slice none 0 0, .slice none 0 0], .int .i64 5]) (by simp [results, Tryz.results36, go_sem, k0, k1]) rfl ?_
            exact ⟨none, none, 0, 0, rfl, Rd.nil _ _ _, Rd.nil _ _ _, Nat.zero_le _, Nat.zero_le _, bel_set2 (by repeat (first | (with_reducible exact Below.refl _ _) | (with_reducible assumption) | (with_reducible exact bel_box _) | (with_reducible refine bel_step ?_ (by with_reducible assumption)) | (with_reducible refine Below.drew ?_) | (with_reducible refine below_drewN ?_ _) | (with_reducible refine bel_alloc ?_ _))) (Nat.le_refl _) _ _, Nw.nil _ _, Nw.nil _ _⟩
          · have hck : ¬ ck h l = 0 := fun e => hbad ⟨rfl, rfl, rfl, rfl, rfl, e⟩
            have hd1 := ck_bad hck
            clear hbad hx hu hck
            go_enter Tryz.func36, Tryz.ntmps36
            go_wp2_with (first | (go_at_call_of 58 (Value.string s); refine (K1.out _).mono ?_; rintro e w1 ⟨rfl, hb1⟩) | (go_at_call 58; refine (K2.out _).mono ?_; rintro e w2 ⟨rfl, hb2⟩) | (go_at_call_of 59 (Value.string ⟨x.toArray⟩); refine (D1.out _).mono ?_; rintro e w3 ⟨rfl, hb3⟩) | (go_at_call 59; refine (D2.out _).mono ?_; rintro e w4 ⟨rfl, hb4⟩) | (go_at_call_of 60 (Value.string ⟨x.toArray⟩); refine (R1.out _).mono ?_; rintro e w5 ⟨V1, c1, rfl, hR1, hc1, hN1, hb5⟩; have HR1 := Lib.hid hR1; have HN1 := Lib.hid hN1; clear hR1 hN1) | (go_at_call 60; refine (R2.out _).mono ?_; rintro e w6 ⟨V2, c2, rfl, hR2, hc2, hN2, hb6⟩; have HR2 := Lib.hid hR2; have HN2 := Lib.hid hN2; clear hR2 hN2) | (go_at_call 61; refine (check_any _ _ _ _ h l _ (by omega) (by omega)).mono ?_; rintro e w7 ⟨rfl, hb7⟩; obtain ⟨qa7, qb7, qc7, qd7, qe7⟩ := resb (w := w) (W := w7) (t := 48) (by repeat (first | (with_reducible exact Below.refl _ _) | (with_reducible assumption) | (with_reducible exact bel_box _) | (with_reducible refine bel_step ?_ (by with_reducible assumption)) | (with_reducible refine Below.drew ?_) | (with_reducible refine below_drewN ?_ _) | (with_reducible refine bel_alloc ?_ _)))))
            obtain ⟨k0, k1⟩ := set2_cells qa7 qb7 (.slice none 0 0) (.slice none 0 0)
            refine bodyPost_ret (v := .tuple #[.agg #[.slice none 0 0, .slice none 0 0], .int .i64 5]) (by simp [results, Tryz.results36, go_sem, k0, k1]) rfl ?_
            exact ⟨none, none, 0, 0, rfl, Rd.nil _ _ _, Rd.nil _ _ _, Nat.zero_le _, Nat.zero_le _, bel_set2 (by repeat (first | (with_reducible exact Below.refl _ _) | (with_reducible assumption) | (with_reducible exact bel_box _) | (with_reducible refine bel_step ?_ (by with_reducible assumption)) | (with_reducible refine Below.drew ?_) | (with_reducible refine below_drewN ?_ _) | (with_reducible refine bel_alloc ?_ _))) (Nat.le_refl _) _ _, Nw.nil _ _, Nw.nil _ _⟩
      · have v1 : v.isEmpty = false := by rcases v with _ | ⟨a, r⟩ <;> simp at hv ⊢
        have v2 : (v == []) = false := by rcases v with _ | ⟨a, r⟩ <;> simp at hv ⊢
        clear hbad hx hu hv
        go_enter Tryz.func36, Tryz.ntmps36
        go_wp2_with (first | (go_at_call_of 58 (Value.string s); refine (K1.out _).mono ?_; rintro e w1 ⟨rfl, hb1⟩) | (go_at_call 58; refine (K2.out _).mono ?_; rintro e w2 ⟨rfl, hb2⟩; obtain ⟨qa2, qb2, qc2, qd2, qe2⟩ := resb (w := w) (W := w2) (t := 48) (by repeat (first | (with_reducible exact Below.refl _ _) | (with_reducible assumption) | (with_reducible exact bel_box _) | (with_reducible refine bel_step ?_ (by with_reducible assumption)) | (with_reducible refine Below.drew ?_) | (with_reducible refine below_drewN ?_ _) | (with_reducible refine bel_alloc ?_ _)))))
        obtain ⟨k0, k1⟩ := set2_cells qa2 qb2 (.slice none 0 0) (.slice none 0 0)
        refine bodyPost_ret (v := .tuple #[.agg #[.slice none 0 0, .slice none 0 0], .int .i64 5]) (by simp [results, Tryz.results36, go_sem, k0, k1]) rfl ?_
        exact ⟨none, none, 0, 0, rfl, Rd.nil _ _ _, Rd.nil _ _ _, Nat.zero_le _, Nat.zero_le _, bel_set2 (by repeat (first | (with_reducible exact Below.refl _ _) | (with_reducible assumption) | (with_reducible exact bel_box _) | (with_reducible refine bel_step ?_ (by with_reducible assumption)) | (with_reducible refine Below.drew ?_) | (with_reducible refine below_drewN ?_ _) | (with_reducible refine bel_alloc ?_ _))) (Nat.le_refl _) _ _, Nw.nil _ _, Nw.nil _ _⟩
set_option maxHeartbeats 1000000 in
theorem parse_good (s : ByteArray) (w : World) (x y u : List UInt8) (hs : s.size ≤ 66) (hx : x.length ≤ 66) (hu : u.length ≤ 66) (K1 : Hid (CutK s 40 x y true)) (K2 : Hid (CutK (sa y) 41 u [] true))
    (hb : x.all isD = true) (hb' : u.all isD = true) (hck : ck (lts (sa x)) (lts (sa u)) = 0) :
    Calls Tryz.prog 36 #[.string s] w (NewWX (lts (sa x)) (lts (sa u)) 0 w) := by
  have D1 := Lib.hid (isd_k x true hx hb)
  have D2 := Lib.hid (isd_k u true hu hb')
  have R1 := Lib.hid (read_k x hx)
  have R2 := Lib.hid (read_k u hu)
  have HL1 : (lts (sa x)).length ≤ 66 := by rw [lts_length, sa_size]; exact hx
  have HL2 : (lts (sa u)).length ≤ 66 := by rw [lts_length, sa_size]; exact hu
  generalize lts (sa x) = h at *
  generalize lts (sa u) = l at *
  have hd1 : (ck h l != 0) = false := by simp [hck]
  clear hb hb' hx hu hck
  go_enter Tryz.func36, Tryz.ntmps36
  go_wp2_with (first | (go_at_call_of 58 (Value.string s); refine (K1.out _).mono ?_; rintro e w1 ⟨rfl, hb1⟩) | (go_at_call 58; refine (K2.out _).mono ?_; rintro e w2 ⟨rfl, hb2⟩) | (go_at_call_of 59 (Value.string ⟨x.toArray⟩); refine (D1.out _).mono ?_; rintro e w3 ⟨rfl, hb3⟩) | (go_at_call 59; refine (D2.out _).mono ?_; rintro e w4 ⟨rfl, hb4⟩) | (go_at_call_of 60 (Value.string ⟨x.toArray⟩); refine (R1.out _).mono ?_; rintro e w5 ⟨V1, c1, rfl, hR1, hc1, hN1, hb5⟩; have HR1 := Lib.hid hR1; have HN1 := Lib.hid hN1; clear hR1 hN1) | (go_at_call 60; refine (R2.out _).mono ?_; rintro e w6 ⟨V2, c2, rfl, hR2, hc2, hN2, hb6⟩; have HR2 := Lib.hid hR2; have HN2 := Lib.hid hN2; clear hR2 hN2) | (go_at_call 61; refine (check_any _ _ _ _ h l _ (by omega) (by omega)).mono ?_; rintro e w7 ⟨rfl, hb7⟩; obtain ⟨qa7, qb7, qc7, qd7, qe7⟩ := resb (w := w) (W := w7) (t := 48) (by repeat (first | (with_reducible exact Below.refl _ _) | (with_reducible assumption) | (with_reducible exact bel_box _) | (with_reducible refine bel_step ?_ (by with_reducible assumption)) | (with_reducible refine Below.drew ?_) | (with_reducible refine below_drewN ?_ _) | (with_reducible refine bel_alloc ?_ _))); obtain ⟨b0, b1⟩ := box2 (w := w6) (x := .slice V1 h.length c1) (y := .slice V2 l.length c2) (t := 48) (W := w7) (by repeat (first | (with_reducible exact Below.refl _ _) | (with_reducible assumption) | (with_reducible exact bel_box _) | (with_reducible refine bel_step ?_ (by with_reducible assumption)) | (with_reducible refine Below.drew ?_) | (with_reducible refine below_drewN ?_ _) | (with_reducible refine bel_alloc ?_ _)))))
  obtain ⟨k0, k1⟩ := set2_cells qa7 qb7 (.slice V1 h.length c1) (.slice V2 l.length c2)
  refine bodyPost_ret (v := .tuple #[.agg #[.slice V1 h.length c1, .slice V2 l.length c2], .int .i64 0]) (by simp [results, Tryz.results36, go_sem, k0, k1]) rfl ?_
  have z1 := hb5.size
  have z2 : w.heap.size < w4.heap.size := by
    have := Below.size (B := (w.alloc (.cells #[.slice none 0 0, .slice none 0 0] 48)).heap.size) (w := (w.alloc (.cells #[.slice none 0 0, .slice none 0 0] 48))) (w' := w4) (by repeat (first | (with_reducible exact Below.refl _ _) | (with_reducible assumption) | (with_reducible exact bel_box _) | (with_reducible refine bel_step ?_ (by with_reducible assumption)) | (with_reducible refine Below.drew ?_) | (with_reducible refine below_drewN ?_ _) | (with_reducible refine bel_alloc ?_ _)))
    simp at this
    omega
  exact ⟨V1, V2, c1, c2, rfl, (HR1.out.to (by repeat (first | (with_reducible exact Below.refl _ _) | (with_reducible assumption) | (with_reducible exact bel_box _) | (with_reducible refine bel_step ?_ (by with_reducible assumption)) | (with_reducible refine Below.drew ?_) | (with_reducible refine below_drewN ?_ _) | (with_reducible refine bel_alloc ?_ _)))).set2_lo (HN1.out.mono (Nat.succ_le_of_lt z2)) (Nat.lt_succ_self _) _ _, (HR2.out.to (by repeat (first | (with_reducible exact Below.refl _ _) | (with_reducible assumption) | (with_reducible exact bel_box _) | (with_reducible refine bel_step ?_ (by with_reducible assumption)) | (with_reducible refine Below.drew ?_) | (with_reducible refine below_drewN ?_ _) | (with_reducible refine bel_alloc ?_ _)))).set2_lo (HN2.out.mono (Nat.succ_le_of_lt (Nat.lt_of_lt_of_le z2 z1))) (Nat.lt_succ_self _) _ _, hc1, hc2, bel_set2 (by repeat (first | (with_reducible exact Below.refl _ _) | (with_reducible assumption) | (with_reducible exact bel_box _) | (with_reducible refine bel_step ?_ (by with_reducible assumption)) | (with_reducible refine Below.drew ?_) | (with_reducible refine below_drewN ?_ _) | (with_reducible refine bel_alloc ?_ _))) (Nat.le_refl _) _ _, HN1.out.mono (Nat.le_of_lt z2), HN2.out.mono (Nat.le_of_lt (Nat.lt_of_lt_of_le z2 z1))⟩
end Go.Proofs.YtfogkcccjemloaaGreatDoor.bw
/- Parse of the reference. -/
namespace Go.Proofs.YtfogkcccjemloaaGreatDoor.bw
set_option linter.unusedVariables false
set_option linter.unusedSimpArgs false
open Go.RowKit
abbrev RunK (s : ByteArray) (i : Int) (l : List Bool) : Prop := ∀ W, Calls Tryz.prog 89 #[.string s, .int .i64 i] W (fun e w' => ∃ V cv, e = .returned (.slice V l.length cv) ∧ Rd w' w'.heap.size V (bls l) ∧ l.length ≤ cv ∧ Nw W.heap.size V (bls l) ∧ Below W.heap.size W w')
theorem run_k (s : ByteArray) (a : Nat) (l : List Bool) (hs : s.size ≤ 66) (ha : a ≤ s.size) (hl : runL (s.data.toList.drop a) = l) : RunK s a l := fun W => by
  subst hl
  exact read_n (a := [.string s, .int .i64 a]) (run_any s a W (by omega) ha)
theorem box2fr {w W : World} {x y : Value} {t : TypeId} (hb : Below (w.alloc (.cells #[x, y] t)).heap.size (w.alloc (.cells #[x, y] t)) W) : W.frozen? ⟨w.heap.size, 0, none⟩ = false ∧ W.frozen? ⟨w.heap.size, 1, none⟩ = false := by
  obtain ⟨hc, hf, hz⟩ := bcell hb
  rw [hf _ _ (by simp), hf _ _ (by simp)]
  constructor <;> simp [go_sem]
/-- the variable's box at w1, its second cell written anew, then a call -/
theorem wbox {w1 w2 w3 : World} {x y z : Value} {t : TypeId} (h : Below (w1.alloc (.cells #[x, y] t)).heap.size (w1.alloc (.cells #[x, y] t)) w2) (h3 : Below (w2.setCell ⟨w1.heap.size, 1, none⟩ z).heap.size (w2.setCell ⟨w1.heap.size, 1, none⟩ z) w3) :
    w3.cell? ⟨w1.heap.size, 0, none⟩ = some x ∧ w3.cell? ⟨w1.heap.size, 1, none⟩ = some z ∧ Below w1.heap.size w1 w3 := by
  obtain ⟨b0, b1⟩ := box2 h
  have hz := h.size
  simp at hz
  have hs : (w2.setCell ⟨w1.heap.size, 1, none⟩ z).heap.size = w2.heap.size := by simp [World.setCell]
  refine ⟨(h3.cell (p := ⟨w1.heap.size, 0, none⟩) (by simp [hs]; omega)).trans ?_, (h3.cell (p := ⟨w1.heap.size, 1, none⟩) (by simp [hs]; omega)).trans (World.cell?_setCell_same _ _ _ b1), ?_⟩
  · rw [World.cell?_setCell_other _ _ _ _ (by simp)]; exact b0
  · refine bel_step ?_ h3
    exact (bel_step (bel_box _) h).setCell (p := ⟨w1.heap.size, 1, none⟩) (Nat.le_refl _) _
theorem res_keep {g : Nat} {w1 w3 : World} (hb : Below w1.heap.size w1 w3) (hg : g < w1.heap.size) (i : Nat) : w3.cell? ⟨g, i, none⟩ = w1.cell? ⟨g, i, none⟩ ∧ w3.frozen? ⟨g, i, none⟩ = w1.frozen? ⟨g, i, none⟩ := by
  obtain ⟨hc, hf, hz⟩ := bcell hb
  exact ⟨hc _ _ hg, hf _ _ hg⟩
set_option maxHeartbeats 1000000 in
theorem rparse_good (s : ByteArray) (w : World) (h l : List Bool) (hs : s.size ≤ 66) (h1 : h.length < s.size) (hm : h.length + 1 + l.length + 1 = s.size)
    (K1 : Hid (RunK s 0 h)) (K2 : Hid (RunK s ((h.length : Int) + 1) l)) (e1 : (((s[h.length].toNat : Nat) : Int) != 40) = false) (e2 : (((s[s.size - 1].toNat : Nat) : Int) != 41) = false) (hck : ck h l = 0) :
    Calls Tryz.prog 69 #[.string s] w (NewWX h l 0 w) := by
  have hd1 : (ck h l != 0) = false := by simp [hck]
  have k1 := Lib.hid fun A B c d => (rcheck_any A B c d h l)
  have m1 : ((h.length : Int) + 1 + (l.length : Int) != (s.size : Int) - 1) = false := by simp; omega
  have m2 : (h.length : Int) + 1 + (l.length : Int) = (s.size : Int) - 1 := by omega
  have m3 : (1 : Int) ≤ (s.size : Int) := by omega
  clear hck
  go_enter Tryz.func69, Tryz.ntmps69
  go_wp2_with (first
    | (go_at_call 89; (with_reducible refine (K1.out _).mono ?_); rintro e w1 ⟨V1, c1, rfl, hR1, hc1, hN1, hb1⟩; have HR1 := Lib.hid hR1; have HN1 := Lib.hid hN1; clear hR1 hN1; obtain ⟨qa1, qb1, qc1, qd1, qe1⟩ := resb (w := w) (W := w1) (t := 48) (by repeat (first | (with_reducible exact Below.refl _ _) | (with_reducible assumption) | (with_reducible exact bel_box _) | (with_reducible refine bel_step ?_ (by with_reducible assumption)) | (with_reducible refine Below.drew ?_) | (with_reducible refine below_drewN ?_ _) | (with_reducible refine bel_alloc ?_ _))))
    | (go_at_call 89; (with_reducible refine (K2.out _).mono ?_); rintro e w2 ⟨V2, c2, rfl, hR2, hc2, hN2, hb2⟩; have HR2 := Lib.hid hR2; have HN2 := Lib.hid hN2; clear hR2 hN2; obtain ⟨ra2, rb2⟩ := box2 (w := w1) (W := w2) (x := .slice V1 h.length c1) (y := .slice none 0 0) (t := 48) (by repeat (first | (with_reducible exact Below.refl _ _) | (with_reducible assumption) | (with_reducible exact bel_box _) | (with_reducible refine bel_step ?_ (by with_reducible assumption)) | (with_reducible refine Below.drew ?_) | (with_reducible refine below_drewN ?_ _) | (with_reducible refine bel_alloc ?_ _))); obtain ⟨rc2, rd2⟩ := box2fr (w := w1) (W := w2) (x := .slice V1 h.length c1) (y := .slice none 0 0) (t := 48) (by repeat (first | (with_reducible exact Below.refl _ _) | (with_reducible assumption) | (with_reducible exact bel_box _) | (with_reducible refine bel_step ?_ (by with_reducible assumption)) | (with_reducible refine Below.drew ?_) | (with_reducible refine below_drewN ?_ _) | (with_reducible refine bel_alloc ?_ _))); obtain ⟨qa2, qb2, qc2, qd2, qe2⟩ := resb (w := w) (W := w2) (t := 48) (by repeat (first | (with_reducible exact Below.refl _ _) | (with_reducible assumption) | (with_reducible exact bel_box _) | (with_reducible refine bel_step ?_ (by with_reducible assumption)) | (with_reducible refine Below.drew ?_) | (with_reducible refine below_drewN ?_ _) | (with_reducible refine bel_alloc ?_ _))); have qz2 : w1.heap.size < w2.heap.size := (by have := hb2.size; simp at this; omega); have qn1 : ¬ w1.heap.size = w.heap.size := (by omega); have qn2 : ¬ w.heap.size = w1.heap.size := (by omega))
    | (go_at_call 90; refine (k1.out _ _ _ _ _ (by omega) (by omega)).mono ?_; rintro e w3 ⟨rfl, hb3⟩; obtain ⟨sa3, sb3, hB3⟩ := wbox (w1 := w1) (w2 := w2) (w3 := w3) (x := .slice V1 h.length c1) (y := .slice none 0 0) (z := .slice V2 l.length c2) (t := 48) hb2 hb3; have HB3 := Lib.hid hB3; clear hB3; have qa3 := (res_keep HB3.out qe1 0).1.trans qa1; have qb3 := (res_keep HB3.out qe1 1).1.trans qb1; have qc3 := (res_keep HB3.out qe1 0).2.trans qc1; have qd3 := (res_keep HB3.out qe1 1).2.trans qd1))
  obtain ⟨k0, k1⟩ := set2_cells qa3 qb3 (.slice V1 h.length c1) (.slice V2 l.length c2)
  refine bodyPost_ret (v := .tuple #[.agg #[.slice V1 h.length c1, .slice V2 l.length c2], .int .i64 0]) (by simp [results, Tryz.results69, go_sem, k0, k1]) rfl ?_
  have hB := HB3.out
  have hw3 : Below w.heap.size w w3 := (by repeat (first | (with_reducible exact Below.refl _ _) | (with_reducible assumption) | (with_reducible exact bel_box _) | (with_reducible refine bel_step ?_ (by with_reducible assumption)) | (with_reducible refine Below.drew ?_) | (with_reducible refine below_drewN ?_ _) | (with_reducible refine bel_alloc ?_ _)))
  have R2 := HR2.out.set_low HN2.out (p := ⟨w1.heap.size, 1, none⟩) (by simp) (.slice V2 l.length c2)
  rw [show w2.heap.size = (w2.setCell ⟨w1.heap.size, 1, none⟩ (.slice V2 l.length c2)).heap.size by simp [World.setCell]] at R2
  exact ⟨V1, V2, c1, c2, rfl, (HR1.out.to hB).set2_lo HN1.out (by simp) _ _, (R2.to hb3).set2_lo HN2.out (by simp; omega) _ _, hc1, hc2, bel_set2 hw3 (Nat.le_refl _) _ _, HN1.out.mono (by simp), HN2.out.mono (by simp; omega)⟩
set_option maxHeartbeats 1000000 in
theorem rparse_a (s : ByteArray) (w : World) (h l : List Bool) (hs : s.size ≤ 66) (hsz : s.size ≤ h.length) (hh : h.length ≤ 66) (K1 : Hid (RunK s 0 h)) :
    Calls Tryz.prog 69 #[.string s] w (NewWX [] [] 5 w) := by
  have k1 := Lib.hid fun A B c d => (rcheck_any A B c d h l)
  go_enter Tryz.func69, Tryz.ntmps69
  go_wp2_with (first
    | (go_at_call 89; (with_reducible refine (K1.out _).mono ?_); rintro e w1 ⟨V1, c1, rfl, hR1, hc1, hN1, hb1⟩; have HR1 := Lib.hid hR1; have HN1 := Lib.hid hN1; clear hR1 hN1; obtain ⟨qa1, qb1, qc1, qd1, qe1⟩ := resb (w := w) (W := w1) (t := 48) (by repeat (first | (with_reducible exact Below.refl _ _) | (with_reducible assumption) | (with_reducible exact bel_box _) | (with_reducible refine bel_step ?_ (by with_reducible assumption)) | (with_reducible refine Below.drew ?_) | (with_reducible refine below_drewN ?_ _) | (with_reducible refine bel_alloc ?_ _))))
    | (go_at_call 89; (with_reducible refine (K2.out _).mono ?_); rintro e w2 ⟨V2, c2, rfl, hR2, hc2, hN2, hb2⟩; have HR2 := Lib.hid hR2; have HN2 := Lib.hid hN2; clear hR2 hN2; obtain ⟨ra2, rb2⟩ := box2 (w := w1) (W := w2) (x := .slice V1 h.length c1) (y := .slice none 0 0) (t := 48) (by repeat (first | (with_reducible exact Below.refl _ _) | (with_reducible assumption) | (with_reducible exact bel_box _) | (with_reducible refine bel_step ?_ (by with_reducible assumption)) | (with_reducible refine Below.drew ?_) | (with_reducible refine below_drewN ?_ _) | (with_reducible refine bel_alloc ?_ _))); obtain ⟨rc2, rd2⟩ := box2fr (w := w1) (W := w2) (x := .slice V1 h.length c1) (y := .slice none 0 0) (t := 48) (by repeat (first | (with_reducible exact Below.refl _ _) | (with_reducible assumption) | (with_reducible exact bel_box _) | (with_reducible refine bel_step ?_ (by with_reducible assumption)) | (with_reducible refine Below.drew ?_) | (with_reducible refine below_drewN ?_ _) | (with_reducible refine bel_alloc ?_ _))); obtain ⟨qa2, qb2, qc2, qd2, qe2⟩ := resb (w := w) (W := w2) (t := 48) (by repeat (first | (with_reducible exact Below.refl _ _) | (with_reducible assumption) | (with_reducible exact bel_box _) | (with_reducible refine bel_step ?_ (by with_reducible assumption)) | (with_reducible refine Below.drew ?_) | (with_reducible refine below_drewN ?_ _) | (with_reducible refine bel_alloc ?_ _))); have qz2 : w1.heap.size < w2.heap.size := (by have := hb2.size; simp at this; omega); have qn1 : ¬ w1.heap.size = w.heap.size := (by omega); have qn2 : ¬ w.heap.size = w1.heap.size := (by omega))
    | (go_at_call 90; refine (k1.out _ _ _ _ _ (by omega) (by omega)).mono ?_; rintro e w3 ⟨rfl, hb3⟩; obtain ⟨sa3, sb3, hB3⟩ := wbox (w1 := w1) (w2 := w2) (w3 := w3) (x := .slice V1 h.length c1) (y := .slice none 0 0) (z := .slice V2 l.length c2) (t := 48) hb2 hb3; have HB3 := Lib.hid hB3; clear hB3; have qa3 := (res_keep HB3.out qe1 0).1.trans qa1; have qb3 := (res_keep HB3.out qe1 1).1.trans qb1; have qc3 := (res_keep HB3.out qe1 0).2.trans qc1; have qd3 := (res_keep HB3.out qe1 1).2.trans qd1))
  have hw3 : Below w.heap.size w w1 := (by repeat (first | (with_reducible exact Below.refl _ _) | (with_reducible assumption) | (with_reducible exact bel_box _) | (with_reducible refine bel_step ?_ (by with_reducible assumption)) | (with_reducible refine Below.drew ?_) | (with_reducible refine below_drewN ?_ _) | (with_reducible refine bel_alloc ?_ _)))
  have hw4 := bel_set2 hw3 (Nat.le_refl _) (.slice none 0 0) (.slice none 0 0)
  obtain ⟨k0, k1⟩ := set2_cells qa1 qb1 (.slice none 0 0) (.slice none 0 0)
  have z : w.heap.size < ((w1.setCell ⟨w.heap.size, 0, none⟩ (.slice none 0 0)).setCell ⟨w.heap.size, 1, none⟩ (.slice none 0 0)).heap.size := by simpa [World.setCell] using qe1
  have z0 := (((bcell (bel_box (w := ((w1.setCell ⟨w.heap.size, 0, none⟩ (.slice none 0 0)).setCell ⟨w.heap.size, 1, none⟩ (.slice none 0 0))) (.cells #[.slice V1 h.length c1, .slice none 0 0] 48))).1 _ 0 z).trans k0)
  have z1 := (((bcell (bel_box (w := ((w1.setCell ⟨w.heap.size, 0, none⟩ (.slice none 0 0)).setCell ⟨w.heap.size, 1, none⟩ (.slice none 0 0))) (.cells #[.slice V1 h.length c1, .slice none 0 0] 48))).1 _ 1 z).trans k1)
  refine bodyPost_ret (v := .tuple #[.agg #[.slice none 0 0, .slice none 0 0], .int .i64 5]) (by simp [results, Tryz.results69, go_sem, z0, z1]) rfl ?_
  exact ⟨none, none, 0, 0, rfl, Rd.nil _ _ _, Rd.nil _ _ _, Nat.zero_le _, Nat.zero_le _, hw4.alloc (Nat.le_of_lt z) _, Nw.nil _ _, Nw.nil _ _⟩
set_option maxHeartbeats 1000000 in
theorem rparse_b (s : ByteArray) (w : World) (h l : List Bool) (hs : s.size ≤ 66) (h1 : h.length < s.size) (K1 : Hid (RunK s 0 h)) (K2 : Hid (RunK s ((h.length : Int) + 1) l)) (e1 : (((s[h.length].toNat : Nat) : Int) != 40) = true) :
    Calls Tryz.prog 69 #[.string s] w (NewWX [] [] 5 w) := by
  have k1 := Lib.hid fun A B c d => (rcheck_any A B c d h l)
  go_enter Tryz.func69, Tryz.ntmps69
  go_wp2_with (first
    | (go_at_call 89; (with_reducible refine (K1.out _).mono ?_); rintro e w1 ⟨V1, c1, rfl, hR1, hc1, hN1, hb1⟩; have HR1 := Lib.hid hR1; have HN1 := Lib.hid hN1; clear hR1 hN1; obtain ⟨qa1, qb1, qc1, qd1, qe1⟩ := resb (w := w) (W := w1) (t := 48) (by repeat (first | (with_reducible exact Below.refl _ _) | (with_reducible assumption) | (with_reducible exact bel_box _) | (with_reducible refine bel_step ?_ (by with_reducible assumption)) | (with_reducible refine Below.drew ?_) | (with_reducible refine below_drewN ?_ _) | (with_reducible refine bel_alloc ?_ _))))
    | (go_at_call 89; (with_reducible refine (K2.out _).mono ?_); rintro e w2 ⟨V2, c2, rfl, hR2, hc2, hN2, hb2⟩; have HR2 := Lib.hid hR2; have HN2 := Lib.hid hN2; clear hR2 hN2; obtain ⟨ra2, rb2⟩ := box2 (w := w1) (W := w2) (x := .slice V1 h.length c1) (y := .slice none 0 0) (t := 48) (by repeat (first | (with_reducible exact Below.refl _ _) | (with_reducible assumption) | (with_reducible exact bel_box _) | (with_reducible refine bel_step ?_ (by with_reducible assumption)) | (with_reducible refine Below.drew ?_) | (with_reducible refine below_drewN ?_ _) | (with_reducible refine bel_alloc ?_ _))); obtain ⟨rc2, rd2⟩ := box2fr (w := w1) (W := w2) (x := .slice V1 h.length c1) (y := .slice none 0 0) (t := 48) (by repeat (first | (with_reducible exact Below.refl _ _) | (with_reducible assumption) | (with_reducible exact bel_box _) | (with_reducible refine bel_step ?_ (by with_reducible assumption)) | (with_reducible refine Below.drew ?_) | (with_reducible refine below_drewN ?_ _) | (with_reducible refine bel_alloc ?_ _))); obtain ⟨qa2, qb2, qc2, qd2, qe2⟩ := resb (w := w) (W := w2) (t := 48) (by repeat (first | (with_reducible exact Below.refl _ _) | (with_reducible assumption) | (with_reducible exact bel_box _) | (with_reducible refine bel_step ?_ (by with_reducible assumption)) | (with_reducible refine Below.drew ?_) | (with_reducible refine below_drewN ?_ _) | (with_reducible refine bel_alloc ?_ _))); have qz2 : w1.heap.size < w2.heap.size := (by have := hb2.size; simp at this; omega); have qn1 : ¬ w1.heap.size = w.heap.size := (by omega); have qn2 : ¬ w.heap.size = w1.heap.size := (by omega))
    | (go_at_call 90; refine (k1.out _ _ _ _ _ (by omega) (by omega)).mono ?_; rintro e w3 ⟨rfl, hb3⟩; obtain ⟨sa3, sb3, hB3⟩ := wbox (w1 := w1) (w2 := w2) (w3 := w3) (x := .slice V1 h.length c1) (y := .slice none 0 0) (z := .slice V2 l.length c2) (t := 48) hb2 hb3; have HB3 := Lib.hid hB3; clear hB3; have qa3 := (res_keep HB3.out qe1 0).1.trans qa1; have qb3 := (res_keep HB3.out qe1 1).1.trans qb1; have qc3 := (res_keep HB3.out qe1 0).2.trans qc1; have qd3 := (res_keep HB3.out qe1 1).2.trans qd1))
  have hw3 : Below w.heap.size w w1 := (by repeat (first | (with_reducible exact Below.refl _ _) | (with_reducible assumption) | (with_reducible exact bel_box _) | (with_reducible refine bel_step ?_ (by with_reducible assumption)) | (with_reducible refine Below.drew ?_) | (with_reducible refine below_drewN ?_ _) | (with_reducible refine bel_alloc ?_ _)))
  have hw4 := bel_set2 hw3 (Nat.le_refl _) (.slice none 0 0) (.slice none 0 0)
  obtain ⟨k0, k1⟩ := set2_cells qa1 qb1 (.slice none 0 0) (.slice none 0 0)
  have z : w.heap.size < ((w1.setCell ⟨w.heap.size, 0, none⟩ (.slice none 0 0)).setCell ⟨w.heap.size, 1, none⟩ (.slice none 0 0)).heap.size := by simpa [World.setCell] using qe1
  have z0 := (((bcell (bel_box (w := ((w1.setCell ⟨w.heap.size, 0, none⟩ (.slice none 0 0)).setCell ⟨w.heap.size, 1, none⟩ (.slice none 0 0))) (.cells #[.slice V1 h.length c1, .slice none 0 0] 48))).1 _ 0 z).trans k0)
  have z1 := (((bcell (bel_box (w := ((w1.setCell ⟨w.heap.size, 0, none⟩ (.slice none 0 0)).setCell ⟨w.heap.size, 1, none⟩ (.slice none 0 0))) (.cells #[.slice V1 h.length c1, .slice none 0 0] 48))).1 _ 1 z).trans k1)
  refine bodyPost_ret (v := .tuple #[.agg #[.slice none 0 0, .slice none 0 0], .int .i64 5]) (by simp [results, Tryz.results69, go_sem, z0, z1]) rfl ?_
  exact ⟨none, none, 0, 0, rfl, Rd.nil _ _ _, Rd.nil _ _ _, Nat.zero_le _, Nat.zero_le _, hw4.alloc (Nat.le_of_lt z) _, Nw.nil _ _, Nw.nil _ _⟩
set_option maxHeartbeats 1000000 in
theorem rparse_c (s : ByteArray) (w : World) (h l : List Bool) (hs : s.size ≤ 66) (h1 : h.length < s.size) (hl : l.length ≤ 66) (hm : h.length + 1 + l.length + 1 ≠ s.size) (K1 : Hid (RunK s 0 h)) (K2 : Hid (RunK s ((h.length : Int) + 1) l)) (e1 : (((s[h.length].toNat : Nat) : Int) != 40) = false) :
    Calls Tryz.prog 69 #[.string s] w (NewWX [] [] 5 w) := by
  have k1 := Lib.hid fun A B c d => (rcheck_any A B c d h l)
  have m1 : ((h.length : Int) + 1 + (l.length : Int) != (s.size : Int) - 1) = true := by simp; omega
  go_enter Tryz.func69, Tryz.ntmps69
  go_wp2_with (first
    | (go_at_call 89; (with_reducible refine (K1.out _).mono ?_); rintro e w1 ⟨V1, c1, rfl, hR1, hc1, hN1, hb1⟩; have HR1 := Lib.hid hR1; have HN1 := Lib.hid hN1; clear hR1 hN1; obtain ⟨qa1, qb1, qc1, qd1, qe1⟩ := resb (w := w) (W := w1) (t := 48) (by repeat (first | (with_reducible exact Below.refl _ _) | (with_reducible assumption) | (with_reducible exact bel_box _) | (with_reducible refine bel_step ?_ (by with_reducible assumption)) | (with_reducible refine Below.drew ?_) | (with_reducible refine below_drewN ?_ _) | (with_reducible refine bel_alloc ?_ _))))
    | (go_at_call 89; (with_reducible refine (K2.out _).mono ?_); rintro e w2 ⟨V2, c2, rfl, hR2, hc2, hN2, hb2⟩; have HR2 := Lib.hid hR2; have HN2 := Lib.hid hN2; clear hR2 hN2; obtain ⟨ra2, rb2⟩ := box2 (w := w1) (W := w2) (x := .slice V1 h.length c1) (y := .slice none 0 0) (t := 48) (by repeat (first | (with_reducible exact Below.refl _ _) | (with_reducible assumption) | (with_reducible exact bel_box _) | (with_reducible refine bel_step ?_ (by with_reducible assumption)) | (with_reducible refine Below.drew ?_) | (with_reducible refine below_drewN ?_ _) | (with_reducible refine bel_alloc ?_ _))); obtain ⟨rc2, rd2⟩ := box2fr (w := w1) (W := w2) (x := .slice V1 h.length c1) (y := .slice none 0 0) (t := 48) (by repeat (first | (with_reducible exact Below.refl _ _) | (with_reducible assumption) | (with_reducible exact bel_box _) | (with_reducible refine bel_step ?_ (by with_reducible assumption)) | (with_reducible refine Below.drew ?_) | (with_reducible refine below_drewN ?_ _) | (with_reducible refine bel_alloc ?_ _))); obtain ⟨qa2, qb2, qc2, qd2, qe2⟩ := resb (w := w) (W := w2) (t := 48) (by repeat (first | (with_reducible exact Below.refl _ _) | (with_reducible assumption) | (with_reducible exact bel_box _) | (with_reducible refine bel_step ?_ (by with_reducible assumption)) | (with_reducible refine Below.drew ?_) | (with_reducible refine below_drewN ?_ _) | (with_reducible refine bel_alloc ?_ _))); have qz2 : w1.heap.size < w2.heap.size := (by have := hb2.size; simp at this; omega); have qn1 : ¬ w1.heap.size = w.heap.size := (by omega); have qn2 : ¬ w.heap.size = w1.heap.size := (by omega))
    | (go_at_call 90; refine (k1.out _ _ _ _ _ (by omega) (by omega)).mono ?_; rintro e w3 ⟨rfl, hb3⟩; obtain ⟨sa3, sb3, hB3⟩ := wbox (w1 := w1) (w2 := w2) (w3 := w3) (x := .slice V1 h.length c1) (y := .slice none 0 0) (z := .slice V2 l.length c2) (t := 48) hb2 hb3; have HB3 := Lib.hid hB3; clear hB3; have qa3 := (res_keep HB3.out qe1 0).1.trans qa1; have qb3 := (res_keep HB3.out qe1 1).1.trans qb1; have qc3 := (res_keep HB3.out qe1 0).2.trans qc1; have qd3 := (res_keep HB3.out qe1 1).2.trans qd1))
  have hB : Below w1.heap.size w1 (w2.setCell ⟨w1.heap.size, 1, none⟩ (.slice V2 l.length c2)) := (bel_step (bel_box _) hb2).setCell (p := ⟨w1.heap.size, 1, none⟩) (Nat.le_refl _) _
  have hw3 : Below w.heap.size w (w2.setCell ⟨w1.heap.size, 1, none⟩ (.slice V2 l.length c2)) := (by repeat (first | (with_reducible exact Below.refl _ _) | (with_reducible assumption) | (with_reducible exact bel_box _) | (with_reducible refine bel_step ?_ (by with_reducible assumption)) | (with_reducible refine Below.drew ?_) | (with_reducible refine below_drewN ?_ _) | (with_reducible refine bel_alloc ?_ _)))
  have za := (res_keep hB qe1 0).1.trans qa1
  have zb := (res_keep hB qe1 1).1.trans qb1
  obtain ⟨k0, k1⟩ := set2_cells za zb (.slice none 0 0) (.slice none 0 0)
  refine bodyPost_ret (v := .tuple #[.agg #[.slice none 0 0, .slice none 0 0], .int .i64 5]) (by simp [results, Tryz.results69, go_sem, k0, k1]) rfl ?_
  exact ⟨none, none, 0, 0, rfl, Rd.nil _ _ _, Rd.nil _ _ _, Nat.zero_le _, Nat.zero_le _, bel_set2 hw3 (Nat.le_refl _) _ _, Nw.nil _ _, Nw.nil _ _⟩
set_option maxHeartbeats 1000000 in
theorem rparse_d (s : ByteArray) (w : World) (h l : List Bool) (hs : s.size ≤ 66) (h1 : h.length < s.size) (hm : h.length + 1 + l.length + 1 = s.size) (K1 : Hid (RunK s 0 h)) (K2 : Hid (RunK s ((h.length : Int) + 1) l)) (e1 : (((s[h.length].toNat : Nat) : Int) != 40) = false) (e2 : (((s[s.size - 1].toNat : Nat) : Int) != 41) = true) :
    Calls Tryz.prog 69 #[.string s] w (NewWX [] [] 5 w) := by
  have k1 := Lib.hid fun A B c d => (rcheck_any A B c d h l)
  have m1 : ((h.length : Int) + 1 + (l.length : Int) != (s.size : Int) - 1) = false := by simp; omega
  have m2 : (h.length : Int) + 1 + (l.length : Int) = (s.size : Int) - 1 := by omega
  have m3 : (1 : Int) ≤ (s.size : Int) := by omega
  go_enter Tryz.func69, Tryz.ntmps69
  go_wp2_with (first
    | (go_at_call 89; (with_reducible refine (K1.out _).mono ?_); rintro e w1 ⟨V1, c1, rfl, hR1, hc1, hN1, hb1⟩; have HR1 := Lib.hid hR1; have HN1 := Lib.hid hN1; clear hR1 hN1; obtain ⟨qa1, qb1, qc1, qd1, qe1⟩ := resb (w := w) (W := w1) (t := 48) (by repeat (first | (with_reducible exact Below.refl _ _) | (with_reducible assumption) | (with_reducible exact bel_box _) | (with_reducible refine bel_step ?_ (by with_reducible assumption)) | (with_reducible refine Below.drew ?_) | (with_reducible refine below_drewN ?_ _) | (with_reducible refine bel_alloc ?_ _))))
    | (go_at_call 89; (with_reducible refine (K2.out _).mono ?_); rintro e w2 ⟨V2, c2, rfl, hR2, hc2, hN2, hb2⟩; have HR2 := Lib.hid hR2; have HN2 := Lib.hid hN2; clear hR2 hN2; obtain ⟨ra2, rb2⟩ := box2 (w := w1) (W := w2) (x := .slice V1 h.length c1) (y := .slice none 0 0) (t := 48) (by repeat (first | (with_reducible exact Below.refl _ _) | (with_reducible assumption) | (with_reducible exact bel_box _) | (with_reducible refine bel_step ?_ (by with_reducible assumption)) | (with_reducible refine Below.drew ?_) | (with_reducible refine below_drewN ?_ _) | (with_reducible refine bel_alloc ?_ _))); obtain ⟨rc2, rd2⟩ := box2fr (w := w1) (W := w2) (x := .slice V1 h.length c1) (y := .slice none 0 0) (t := 48) (by repeat (first | (with_reducible exact Below.refl _ _) | (with_reducible assumption) | (with_reducible exact bel_box _) | (with_reducible refine bel_step ?_ (by with_reducible assumption)) | (with_reducible refine Below.drew ?_) | (with_reducible refine below_drewN ?_ _) | (with_reducible refine bel_alloc ?_ _))); obtain ⟨qa2, qb2, qc2, qd2, qe2⟩ := resb (w := w) (W := w2) (t := 48) (by repeat (first | (with_reducible exact Below.refl _ _) | (with_reducible assumption) | (with_reducible exact bel_box _) | (with_reducible refine bel_step ?_ (by with_reducible assumption)) | (with_reducible refine Below.drew ?_) | (with_reducible refine below_drewN ?_ _) | (with_reducible refine bel_alloc ?_ _))); have qz2 : w1.heap.size < w2.heap.size := (by have := hb2.size; simp at this; omega); have qn1 : ¬ w1.heap.size = w.heap.size := (by omega); have qn2 : ¬ w.heap.size = w1.heap.size := (by omega))
    | (go_at_call 90; refine (k1.out _ _ _ _ _ (by omega) (by omega)).mono ?_; rintro e w3 ⟨rfl, hb3⟩; obtain ⟨sa3, sb3, hB3⟩ := wbox (w1 := w1) (w2 := w2) (w3 := w3) (x := .slice V1 h.length c1) (y := .slice none 0 0) (z := .slice V2 l.length c2) (t := 48) hb2 hb3; have HB3 := Lib.hid hB3; clear hB3; have qa3 := (res_keep HB3.out qe1 0).1.trans qa1; have qb3 := (res_keep HB3.out qe1 1).1.trans qb1; have qc3 := (res_keep HB3.out qe1 0).2.trans qc1; have qd3 := (res_keep HB3.out qe1 1).2.trans qd1))
  have hB : Below w1.heap.size w1 (w2.setCell ⟨w1.heap.size, 1, none⟩ (.slice V2 l.length c2)) := (bel_step (bel_box _) hb2).setCell (p := ⟨w1.heap.size, 1, none⟩) (Nat.le_refl _) _
  have hw3 : Below w.heap.size w (w2.setCell ⟨w1.heap.size, 1, none⟩ (.slice V2 l.length c2)) := (by repeat (first | (with_reducible exact Below.refl _ _) | (with_reducible assumption) | (with_reducible exact bel_box _) | (with_reducible refine bel_step ?_ (by with_reducible assumption)) | (with_reducible refine Below.drew ?_) | (with_reducible refine below_drewN ?_ _) | (with_reducible refine bel_alloc ?_ _)))
  have za := (res_keep hB qe1 0).1.trans qa1
  have zb := (res_keep hB qe1 1).1.trans qb1
  obtain ⟨k0, k1⟩ := set2_cells za zb (.slice none 0 0) (.slice none 0 0)
  refine bodyPost_ret (v := .tuple #[.agg #[.slice none 0 0, .slice none 0 0], .int .i64 5]) (by simp [results, Tryz.results69, go_sem, k0, k1]) rfl ?_
  exact ⟨none, none, 0, 0, rfl, Rd.nil _ _ _, Rd.nil _ _ _, Nat.zero_le _, Nat.zero_le _, bel_set2 hw3 (Nat.le_refl _) _ _, Nw.nil _ _, Nw.nil _ _⟩
set_option maxHeartbeats 1000000 in
theorem rparse_e (s : ByteArray) (w : World) (h l : List Bool) (hs : s.size ≤ 66) (h1 : h.length < s.size) (hm : h.length + 1 + l.length + 1 = s.size) (K1 : Hid (RunK s 0 h)) (K2 : Hid (RunK s ((h.length : Int) + 1) l)) (e1 : (((s[h.length].toNat : Nat) : Int) != 40) = false) (e2 : (((s[s.size - 1].toNat : Nat) : Int) != 41) = false) (hck : ¬ ck h l = 0) :
    Calls Tryz.prog 69 #[.string s] w (NewWX [] [] 5 w) := by
  have hd1 := ck_bad hck
  have k1 := Lib.hid fun A B c d => (rcheck_any A B c d h l)
  have m1 : ((h.length : Int) + 1 + (l.length : Int) != (s.size : Int) - 1) = false := by simp; omega
  have m2 : (h.length : Int) + 1 + (l.length : Int) = (s.size : Int) - 1 := by omega
  have m3 : (1 : Int) ≤ (s.size : Int) := by omega
  clear hck
  go_enter Tryz.func69, Tryz.ntmps69
  go_wp2_with (first
    | (go_at_call 89; (with_reducible refine (K1.out _).mono ?_); rintro e w1 ⟨V1, c1, rfl, hR1, hc1, hN1, hb1⟩; have HR1 := Lib.hid hR1; have HN1 := Lib.hid hN1; clear hR1 hN1; obtain ⟨qa1, qb1, qc1, qd1, qe1⟩ := resb (w := w) (W := w1) (t := 48) (by repeat (first | (with_reducible exact Below.refl _ _) | (with_reducible assumption) | (with_reducible exact bel_box _) | (with_reducible refine bel_step ?_ (by with_reducible assumption)) | (with_reducible refine Below.drew ?_) | (with_reducible refine below_drewN ?_ _) | (with_reducible refine bel_alloc ?_ _))))
    | (go_at_call 89; (with_reducible refine (K2.out _).mono ?_); rintro e w2 ⟨V2, c2, rfl, hR2, hc2, hN2, hb2⟩; have HR2 := Lib.hid hR2; have HN2 := Lib.hid hN2; clear hR2 hN2; obtain ⟨ra2, rb2⟩ := box2 (w := w1) (W := w2) (x := .slice V1 h.length c1) (y := .slice none 0 0) (t := 48) (by repeat (first | (with_reducible exact Below.refl _ _) | (with_reducible assumption) | (with_reducible exact bel_box _) | (with_reducible refine bel_step ?_ (by with_reducible assumption)) | (with_reducible refine Below.drew ?_) | (with_reducible refine below_drewN ?_ _) | (with_reducible refine bel_alloc ?_ _))); obtain ⟨rc2, rd2⟩ := box2fr (w := w1) (W := w2) (x := .slice V1 h.length c1) (y := .slice none 0 0) (t := 48) (by repeat (first | (with_reducible exact Below.refl _ _) | (with_reducible assumption) | (with_reducible exact bel_box _) | (with_reducible refine bel_step ?_ (by with_reducible assumption)) | (with_reducible refine Below.drew ?_) | (with_reducible refine below_drewN ?_ _) | (with_reducible refine bel_alloc ?_ _))); obtain ⟨qa2, qb2, qc2, qd2, qe2⟩ := resb (w := w) (W := w2) (t := 48) (by repeat (first | (with_reducible exact Below.refl _ _) | (with_reducible assumption) | (with_reducible exact bel_box _) | (with_reducible refine bel_step ?_ (by with_reducible assumption)) | (with_reducible refine Below.drew ?_) | (with_reducible refine below_drewN ?_ _) | (with_reducible refine bel_alloc ?_ _))); have qz2 : w1.heap.size < w2.heap.size := (by have := hb2.size; simp at this; omega); have qn1 : ¬ w1.heap.size = w.heap.size := (by omega); have qn2 : ¬ w.heap.size = w1.heap.size := (by omega))
    | (go_at_call 90; refine (k1.out _ _ _ _ _ (by omega) (by omega)).mono ?_; rintro e w3 ⟨rfl, hb3⟩; obtain ⟨sa3, sb3, hB3⟩ := wbox (w1 := w1) (w2 := w2) (w3 := w3) (x := .slice V1 h.length c1) (y := .slice none 0 0) (z := .slice V2 l.length c2) (t := 48) hb2 hb3; have HB3 := Lib.hid hB3; clear hB3; have qa3 := (res_keep HB3.out qe1 0).1.trans qa1; have qb3 := (res_keep HB3.out qe1 1).1.trans qb1; have qc3 := (res_keep HB3.out qe1 0).2.trans qc1; have qd3 := (res_keep HB3.out qe1 1).2.trans qd1))
  have hB := HB3.out
  have hw3 : Below w.heap.size w w3 := (by repeat (first | (with_reducible exact Below.refl _ _) | (with_reducible assumption) | (with_reducible exact bel_box _) | (with_reducible refine bel_step ?_ (by with_reducible assumption)) | (with_reducible refine Below.drew ?_) | (with_reducible refine below_drewN ?_ _) | (with_reducible refine bel_alloc ?_ _)))
  have za := qa3
  have zb := qb3
  obtain ⟨k0, k1⟩ := set2_cells za zb (.slice none 0 0) (.slice none 0 0)
  refine bodyPost_ret (v := .tuple #[.agg #[.slice none 0 0, .slice none 0 0], .int .i64 5]) (by simp [results, Tryz.results69, go_sem, k0, k1]) rfl ?_
  exact ⟨none, none, 0, 0, rfl, Rd.nil _ _ _, Rd.nil _ _ _, Nat.zero_le _, Nat.zero_le _, bel_set2 hw3 (Nat.le_refl _) _ _, Nw.nil _ _, Nw.nil _ _⟩
end Go.Proofs.YtfogkcccjemloaaGreatDoor.bw
/- Parse of both, for every text. -/
namespace Go.Proofs.YtfogkcccjemloaaGreatDoor.bw
set_option linter.unusedVariables false
set_option linter.unusedSimpArgs false
open Go.RowKit
def wtx (h l : List Bool) : ByteArray := dgs h ++ ⟨#[40]⟩ ++ dgs l ++ ⟨#[41]⟩
theorem wtx_list (h l : List Bool) : (wtx h l).data.toList = digs h ++ 40 :: (digs l ++ [41]) := by simp [wtx, dgs]
theorem wtx_size (h l : List Bool) : (wtx h l).size = h.length + l.length + 2 := by
  rw [← len_toList, wtx_list]
  simp [digs_length]
  omega
theorem by_list {s t : ByteArray} (h : s.data.toList = t.data.toList) : s = t := ByteArray.ext (Array.toList_inj.mp h)
theorem digs_all (l : List Bool) : (digs l).all isD = true := by
  rw [List.all_eq_true]
  intro c hc
  obtain ⟨b, _, rfl⟩ := List.mem_map.1 hc
  cases b <;> rfl
theorem dig_back {c : UInt8} (h : isD c = true) : dig (((c.toNat : Nat) : Int) == 49) = c := by
  unfold isD at h
  rw [Bool.or_eq_true, beq_iff_eq, beq_iff_eq] at h
  rcases h with rfl | rfl <;> rfl
theorem lts_digs (l : List Bool) : lts (sa (digs l)) = l := by
  rw [lts, sa_list, digs, List.map_map]
  conv => rhs; rw [← List.map_id l]
  apply List.map_congr_left
  intro b _
  cases b <;> rfl
theorem digs_lts {x : List UInt8} (h : x.all isD = true) : digs (lts (sa x)) = x := by
  rw [lts, sa_list, digs, List.map_map]
  conv => rhs; rw [← List.map_id x]
  apply List.map_congr_left
  intro c hc
  exact dig_back (List.all_eq_true.1 h c hc)
theorem digs_runL (x : List UInt8) : digs (runL x) = x.takeWhile isD := by
  rw [runL, digs, List.map_map]
  conv => rhs; rw [← List.map_id (x.takeWhile isD)]
  apply List.map_congr_left
  intro c hc
  exact dig_back (List.all_eq_true.1 (List.all_takeWhile (l := x) (p := isD)) c hc)
theorem tw_app {p : UInt8 → Bool} (a b : List UInt8) (c : UInt8) (ha : a.all p = true) (hc : p c = false) : (a ++ c :: b).takeWhile p = a ∧ (a ++ c :: b).dropWhile p = c :: b := by
  induction a with
  | nil => simp [hc]
  | cons d r ih =>
    rw [List.all_cons, Bool.and_eq_true] at ha
    obtain ⟨i1, i2⟩ := ih ha.2
    simp [ha.1, i1, i2]
theorem runL_digs (l : List Bool) (c : UInt8) (b : List UInt8) (hc : isD c = false) : runL (digs l ++ c :: b) = l := by
  rw [runL, (tw_app (digs l) b c (digs_all l) hc).1, digs, List.map_map]
  conv => rhs; rw [← List.map_id l]
  apply List.map_congr_left
  intro b _
  cases b <;> rfl
theorem all_ne {x : List UInt8} (h : x.all isD = true) {c : UInt8} (hc : isD c = false) : x.all (· != c) = true := by
  rw [List.all_eq_true] at h ⊢
  intro d hd
  have := h d hd
  rw [bne_iff_ne]
  rintro rfl
  rw [this] at hc
  cases hc
theorem cut_app (x b : List UInt8) (c : UInt8) (hx : x.all (· != c) = true) : cutA (x ++ c :: b) c = x ∧ cutZ (x ++ c :: b) c = b := by
  obtain ⟨i1, i2⟩ := tw_app (p := (· != c)) x b c hx (by simp)
  have hm : c ∈ x ++ c :: b := by simp
  rw [cutA, cutZ, if_pos hm, if_pos hm, i1, i2]
  exact ⟨rfl, rfl⟩
theorem cut_glue (x : List UInt8) (c : UInt8) (h : c ∈ x) : x = cutA x c ++ c :: cutZ x c := by
  rw [cutA, cutZ, if_pos h, if_pos h]
  conv => lhs; rw [← List.takeWhile_append_dropWhile (p := (· != c)) (l := x)]
  congr 1
  have hne : x.dropWhile (· != c) ≠ [] := by
    intro e
    have h2 : x.takeWhile (· != c) = x := by
      have := List.takeWhile_append_dropWhile (p := (· != c)) (l := x)
      rwa [e, List.append_nil] at this
    have h3 := List.all_takeWhile (l := x) (p := (· != c))
    rw [h2, List.all_eq_true] at h3
    simpa using h3 c h
  rcases hd : x.dropWhile (· != c) with _ | ⟨a, r⟩
  · exact absurd hd hne
  · have ha := List.head?_dropWhile_not (p := (· != c)) (l := x)
    rw [hd] at ha
    simp at ha
    rw [ha]
    rfl
theorem cutA_le (x : List UInt8) (c : UInt8) : (cutA x c).length ≤ x.length := by
  unfold cutA
  split
  · exact tw_le _ _
  · exact Nat.le_refl _
theorem cutZ_le (x : List UInt8) (c : UInt8) : (cutZ x c).length ≤ x.length := by
  unfold cutZ
  split
  · have := (List.dropWhile_sublist (l := x) (p := (· != c))).length_le
    rw [List.length_drop]
    omega
  · simp
theorem cutk (s : ByteArray) (c : UInt8) (hs : s.size ≤ 66) : CutK s c (cutA s.data.toList c) (cutZ s.data.toList c) (decide (c ∈ s.data.toList)) := fun W => cuts_any s c W (by omega)
theorem pparse_ok (h l : List Bool) (w : World) (hck : ck h l = 0) : Calls Tryz.prog 36 #[.string (wtx h l)] w (NewWX h l 0 w) := by
  have hk := lens hck
  have hs : (wtx h l).size ≤ 66 := by rw [wtx_size]; omega
  have c1 := cutk (wtx h l) 40 hs
  have hs2 : (sa (digs l ++ [41])).size ≤ 66 := by rw [sa_size]; simp [digs_length]; omega
  have c2 := cutk (sa (digs l ++ [41])) 41 hs2
  obtain ⟨i1, i2⟩ := cut_app (digs h) (digs l ++ [41]) 40 (all_ne (digs_all h) rfl)
  obtain ⟨j1, j2⟩ := cut_app (digs l) [] 41 (all_ne (digs_all l) rfl)
  rw [wtx_list, i1, i2, decide_eq_true (by simp)] at c1
  rw [sa_list, j1, j2, decide_eq_true (by simp)] at c2
  have := parse_good (wtx h l) w (digs h) (digs l ++ [41]) (digs l) hs (by rw [digs_length]; omega) (by rw [digs_length]; omega) (Lib.hid c1) (Lib.hid c2) (digs_all h) (digs_all l) (by rw [lts_digs, lts_digs]; exact hck)
  rwa [lts_digs, lts_digs] at this
theorem pparse_no (s : ByteArray) (w : World) (hs : s.size ≤ 66) (hno : ¬ ∃ h l, s = wtx h l ∧ ck h l = 0) : Calls Tryz.prog 36 #[.string s] w (NewWX [] [] 5 w) := by
  have l1 := cutA_le s.data.toList 40
  have l2 := cutZ_le s.data.toList 40
  have l3 := cutA_le (cutZ s.data.toList 40) 41
  rw [len_toList] at l1 l2
  have c2 := cutk (sa (cutZ s.data.toList 40)) 41 (by rw [sa_size]; omega)
  rw [sa_list] at c2
  refine parse_bad s w _ _ _ _ _ _ hs (by omega) (by omega) (Lib.hid (cutk s 40 hs)) (Lib.hid c2) ?_
  rintro ⟨g1, g2, g3, g4, g5, g6⟩
  refine hno ⟨_, _, ?_, g6⟩
  apply by_list
  rw [wtx_list, digs_lts g4, digs_lts g5]
  have e1 := cut_glue s.data.toList 40 (by simpa using g1)
  have e2 := cut_glue (cutZ s.data.toList 40) 41 (by simpa using g2)
  rw [g3] at e2
  rw [← e2]
  exact e1
theorem byte_eq {s : ByteArray} {k : Nat} {c : UInt8} (hk : k < s.size) (h : s.data.toList[k]? = some c) : s[k] = c := by
  rw [byte_get s k hk] at h
  simpa using h
theorem rparse_ok (h l : List Bool) (w : World) (hck : ck h l = 0) : Calls Tryz.prog 69 #[.string (wtx h l)] w (NewWX h l 0 w) := by
  have hk := lens hck
  have hz := wtx_size h l
  have hs : (wtx h l).size ≤ 66 := by omega
  have h1 : h.length < (wtx h l).size := by omega
  have k1 : runL ((wtx h l).data.toList.drop 0) = h := by rw [List.drop_zero, wtx_list]; exact runL_digs _ _ _ rfl
  have k2 : runL ((wtx h l).data.toList.drop (h.length + 1)) = l := by
    rw [wtx_list, ← digs_length h, ← List.drop_drop, List.drop_left]
    exact runL_digs _ _ _ rfl
  have b1 : (wtx h l)[h.length] = 40 := byte_eq h1 (by rw [wtx_list, List.getElem?_append_right (by rw [digs_length]; omega), digs_length, Nat.sub_self]; rfl)
  have b2 : (wtx h l)[(wtx h l).size - 1]'(by omega) = 41 := byte_eq (by omega) (by
    rw [wtx_list, List.getElem?_append_right (by rw [digs_length]; omega), digs_length, show (wtx h l).size - 1 - h.length = l.length + 1 by omega, List.getElem?_cons_succ, List.getElem?_append_right (by rw [digs_length]; omega), digs_length, Nat.sub_self]; rfl)
  exact rparse_good (wtx h l) w h l hs h1 (by omega) (Lib.hid (run_k _ 0 h hs (by omega) k1)) (Lib.hid (run_k _ (h.length + 1) l hs (by omega) k2)) (by rw [b1]; rfl) (by rw [b2]; rfl) hck
theorem byte_ne {c : UInt8} {k : Nat} (h : ((((c.toNat : Nat) : Int) != (k : Int)) = false)) (hk : k < 256) : c = UInt8.ofNat k := by
  apply UInt8.toNat_inj.1
  simp at h
  have : c.toNat = k := by omega
  rw [this]
  simp
  omega
theorem rparse_no (s : ByteArray) (w : World) (hs : s.size ≤ 66) (hno : ¬ ∃ h l, s = wtx h l ∧ ck h l = 0) : Calls Tryz.prog 69 #[.string s] w (NewWX [] [] 5 w) := by
  obtain ⟨h, hh⟩ : ∃ h, runL s.data.toList = h := ⟨_, rfl⟩
  have hl1 : h.length ≤ s.size := by rw [← hh, runL_length, ← len_toList]; exact tw_le _ _
  have K1 := Lib.hid (run_k s 0 h hs (by omega) (by rw [List.drop_zero]; exact hh))
  obtain ⟨l, hl⟩ : ∃ l, runL (s.data.toList.drop (h.length + 1)) = l := ⟨_, rfl⟩
  by_cases h1 : h.length < s.size
  · have hl2 : l.length ≤ s.size - (h.length + 1) := by rw [← hl, runL_length, ← len_toList, ← List.length_drop]; exact tw_le _ _
    have K2 := Lib.hid (run_k s (h.length + 1) l hs (by omega) hl)
    cases e1 : (((s[h.length].toNat : Nat) : Int) != 40)
    · by_cases hm : h.length + 1 + l.length + 1 = s.size
      · cases e2 : (((s[s.size - 1].toNat : Nat) : Int) != 41)
        · by_cases hck : ck h l = 0
          · refine absurd ⟨h, l, ?_, hck⟩ hno
            have b1 := byte_ne (k := 40) e1 (by omega)
            have b2 := byte_ne (k := 41) e2 (by omega)
            apply by_list
            rw [wtx_list, ← hh, ← hl, digs_runL, digs_runL]
            have d1 : s.data.toList.dropWhile isD = s.data.toList.drop h.length := by
              have := List.takeWhile_append_dropWhile (p := isD) (l := s.data.toList)
              conv => rhs; rw [← this]
              rw [← hh, runL_length, List.drop_left]
            have d2 : (s.data.toList.drop (h.length + 1)).dropWhile isD = s.data.toList.drop (h.length + 1 + l.length) := by
              have := List.takeWhile_append_dropWhile (p := isD) (l := s.data.toList.drop (h.length + 1))
              rw [show s.data.toList.drop (h.length + 1 + l.length) = (s.data.toList.drop (h.length + 1)).drop l.length from List.drop_drop.symm]
              conv => rhs; rw [← this]
              rw [← hl, runL_length, List.drop_left]
            have d3 : s.data.toList.drop (h.length + 1 + l.length) = [41] := by
              have hlt : h.length + 1 + l.length < s.data.toList.length := by rw [len_toList]; omega
              rw [List.drop_eq_getElem_cons hlt, List.drop_eq_nil_of_le (by rw [len_toList]; omega)]
              have := byte_get s (h.length + 1 + l.length) (by omega)
              rw [List.getElem?_eq_getElem hlt] at this
              have e : s[h.length + 1 + l.length]'(by omega) = 41 := by
                have : h.length + 1 + l.length = s.size - 1 := by omega
                simp only [this]
                exact b2
              rw [Option.some.inj this, e]
            have d4 : s.data.toList.drop h.length = 40 :: s.data.toList.drop (h.length + 1) := by
              have hlt : h.length < s.data.toList.length := by rw [len_toList]; omega
              rw [List.drop_eq_getElem_cons hlt]
              have := byte_get s h.length h1
              rw [List.getElem?_eq_getElem hlt] at this
              rw [Option.some.inj this, b1]
              rfl
            conv => lhs; rw [← List.takeWhile_append_dropWhile (p := isD) (l := s.data.toList), d1, d4]
            conv => lhs; rw [← List.takeWhile_append_dropWhile (p := isD) (l := s.data.toList.drop (h.length + 1)), d2, d3]
          · exact rparse_e s w h l hs h1 hm K1 K2 e1 e2 hck
        · exact rparse_d s w h l hs h1 hm K1 K2 e1 e2
      · exact rparse_c s w h l hs h1 (by omega) hm K1 K2 e1
    · exact rparse_b s w h l hs h1 K1 K2 e1
  · exact rparse_a s w h l hs (by omega) (by omega) K1
end Go.Proofs.YtfogkcccjemloaaGreatDoor.bw
/- Long texts; the walks of BwordTexts and BwordParses. -/
namespace Go.Proofs.YtfogkcccjemloaaGreatDoor.bw
set_option linter.unusedVariables false
set_option linter.unusedSimpArgs false
open Go.RowKit
theorem resc {w : World} {t : TypeId} : (w.alloc (.cells #[.slice none 0 0, .slice none 0 0] t)).cell? ⟨w.heap.size, 0, none⟩ = some (.slice none 0 0) ∧ (w.alloc (.cells #[.slice none 0 0, .slice none 0 0] t)).cell? ⟨w.heap.size, 1, none⟩ = some (.slice none 0 0) := by
  constructor <;> simp [go_sem]
theorem plong (s : ByteArray) (w : World) (hs : 66 < s.size) (h9 : s.size ≤ 9223372036854775807) : Calls Tryz.prog 36 #[.string s] w (NewWX [] [] 3 w) := by
  go_enter Tryz.func36, Tryz.ntmps36
  go_wp2
  obtain ⟨q0, q1⟩ := resc (w := w) (t := 48)
  obtain ⟨k0, k1⟩ := set2_cells q0 q1 (.slice none 0 0) (.slice none 0 0)
  refine bodyPost_ret (v := .tuple #[.agg #[.slice none 0 0, .slice none 0 0], .int .i64 3]) (by simp [results, Tryz.results36, go_sem, k0, k1]) rfl ?_
  exact ⟨none, none, 0, 0, rfl, Rd.nil _ _ _, Rd.nil _ _ _, Nat.zero_le _, Nat.zero_le _, bel_box _, Nw.nil _ _, Nw.nil _ _⟩
theorem rlong (s : ByteArray) (w : World) (hs : 66 < s.size) (h9 : s.size ≤ 9223372036854775807) : Calls Tryz.prog 69 #[.string s] w (NewWX [] [] 3 w) := by
  go_enter Tryz.func69, Tryz.ntmps69
  go_wp2
  obtain ⟨q0, q1⟩ := resc (w := w) (t := 48)
  obtain ⟨k0, k1⟩ := set2_cells q0 q1 (.slice none 0 0) (.slice none 0 0)
  refine bodyPost_ret (v := .tuple #[.agg #[.slice none 0 0, .slice none 0 0], .int .i64 3]) (by simp [results, Tryz.results69, go_sem, k0, k1]) rfl ?_
  exact ⟨none, none, 0, 0, rfl, Rd.nil _ _ _, Rd.nil _ _ _, Nat.zero_le _, Nat.zero_le _, bel_box _, Nw.nil _ _, Nw.nil _ _⟩
end Go.Proofs.YtfogkcccjemloaaGreatDoor.bw
