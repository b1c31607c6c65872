/- The topological order: plain. -/
import Derived.Test.YtahffafobdiogaaDoorGpb
namespace Go.Proofs.YtahffafobdiogaaDoor
set_option linter.unusedVariables false
set_option linter.unusedSimpArgs false
namespace gr
/-- v can come next: it is not out yet, and all from which an edge leads to it are -/
def rdy (E : Nat → Nat → Bool) (n : Nat) (out : List Nat) (v : Nat) : Bool := !out.contains v && (List.range n).all fun u => !E u v || out.contains u
theorem rdy_iff {E : Nat → Nat → Bool} {n : Nat} {out : List Nat} {v : Nat} : rdy E n out v = true ↔ v ∉ out ∧ ∀ u, u < n → E u v = true → u ∈ out := by
  unfold rdy
  rw [Bool.and_eq_true, List.all_eq_true]
  simp only [Bool.not_eq_true', List.mem_range, Bool.or_eq_true, List.contains_iff_mem]
  constructor
  · rintro ⟨a, b⟩
    refine ⟨fun c => ?_, fun u hu he => ?_⟩
    · rw [← List.contains_iff_mem] at c
      rw [c] at a
      cases a
    · rcases b u hu with h | h
      · rw [h] at he
        cases he
      · exact h
  · rintro ⟨a, b⟩
    refine ⟨?_, fun u hu => ?_⟩
    · cases h : out.contains v
      · rfl
      · exact absurd (List.contains_iff_mem.1 h) a
    · cases h : E u v
      · exact .inl rfl
      · exact .inr (b u hu h)
/-- the least that can come next -/
def nxt (E : Nat → Nat → Bool) (n : Nat) (out : List Nat) : Option Nat := (List.range n).find? (rdy E n out)
def kah (E : Nat → Nat → Bool) (n : Nat) : Nat → List Nat → List Nat
  | 0, out => out
  | k + 1, out => match nxt E n out with
    | none => out
    | some v => kah E n k (out ++ [v])
theorem nxt_some {E : Nat → Nat → Bool} {n : Nat} {out : List Nat} {v : Nat} (h : nxt E n out = some v) : v < n ∧ rdy E n out v = true :=
  ⟨List.mem_range.1 (List.mem_of_find?_eq_some h), List.find?_some h⟩
theorem nxt_none {E : Nat → Nat → Bool} {n : Nat} {out : List Nat} (h : nxt E n out = none) : ∀ v, v < n → v ∉ out → ∃ u, u < n ∧ E u v = true ∧ u ∉ out := fun v hv hn => by
  have h1 := List.find?_eq_none.1 h v (List.mem_range.2 hv)
  refine Classical.byContradiction fun hc => h1 (rdy_iff.2 ⟨hn, fun u hu he => ?_⟩)
  exact Classical.byContradiction fun h2 => hc ⟨u, hu, he, h2⟩
/-- what is out: each once, and behind all from which an edge leads to it -/
def Ord (E : Nat → Nat → Bool) (n : Nat) (out : List Nat) : Prop := out.Nodup ∧ (∀ v ∈ out, v < n) ∧ ∀ p v q, out = p ++ v :: q → ∀ u, u < n → E u v = true → u ∈ p
theorem Ord.nil (E : Nat → Nat → Bool) (n : Nat) : Ord E n [] := ⟨List.nodup_nil, fun v h => (by cases h), fun p v q h => (by simp at h)⟩
theorem Ord.add {E : Nat → Nat → Bool} {n : Nat} {out : List Nat} (h : Ord E n out) {v : Nat} (hv : v < n) (hr : rdy E n out v = true) : Ord E n (out ++ [v]) := by
  obtain ⟨h1, h2⟩ := rdy_iff.1 hr
  refine ⟨?_, fun w hw => ?_, fun p w q e u hu he => ?_⟩
  · rw [List.nodup_append]
    refine ⟨h.1, by simp, fun a ha b hb e => ?_⟩
    rw [List.mem_singleton] at hb
    exact h1 (hb ▸ e ▸ ha)
  · rcases List.mem_append.1 hw with hw | hw
    · exact h.2.1 w hw
    · rw [List.mem_singleton] at hw
      exact hw ▸ hv
  · rcases List.eq_nil_or_concat q with rfl | ⟨q', y, rfl⟩
    · obtain ⟨e1, e2⟩ := List.append_inj' e rfl
      rw [List.cons.injEq] at e2
      rw [← e1]
      exact h2 u hu (by rw [e2.1]; exact he)
    · have e' : out ++ [v] = (p ++ w :: q') ++ [y] := by rw [e]; simp
      obtain ⟨e1, _⟩ := List.append_inj' e' rfl
      exact h.2.2 p w q' e1 u hu he
theorem kah_ord {E : Nat → Nat → Bool} {n : Nat} : ∀ (k : Nat) (out : List Nat), Ord E n out → Ord E n (kah E n k out)
  | 0, _, h => h
  | k + 1, out, h => by
    unfold kah
    split
    · exact h
    · rename_i v hv
      exact kah_ord k _ (h.add (nxt_some hv).1 (nxt_some hv).2)
/-- with fuel enough it ends full or stuck -/
theorem kah_end {E : Nat → Nat → Bool} {n : Nat} : ∀ (k : Nat) (out : List Nat), n ≤ out.length + k → n ≤ (kah E n k out).length ∨ nxt E n (kah E n k out) = none
  | 0, out, h => .inl (by unfold kah; omega)
  | k + 1, out, h => by
    unfold kah
    split
    · rename_i hv
      exact .inr hv
    · exact kah_end k _ (by rw [List.length_append, List.length_cons, List.length_nil]; omega)
theorem nodup_len' {α : Type} : ∀ (l m : List α), l.Nodup → (∀ x ∈ l, x ∈ m) → l.length ≤ m.length
  | [], _, _, _ => Nat.zero_le _
  | a :: l, m, hn, hs => by
    obtain ⟨s, t, rfl⟩ := List.append_of_mem (hs a List.mem_cons_self)
    rw [List.nodup_cons] at hn
    have := nodup_len' l (s ++ t) hn.2 fun x hx => by
      have h1 := hs x (List.mem_cons_of_mem _ hx)
      rw [List.mem_append, List.mem_cons] at h1
      rw [List.mem_append]
      rcases h1 with h | rfl | h
      · exact .inl h
      · exact absurd hx hn.1
      · exact .inr h
    simp only [List.length_append, List.length_cons] at this ⊢
    omega
theorem Ord.len {E : Nat → Nat → Bool} {n : Nat} {out : List Nat} (h : Ord E n out) : out.length ≤ n := by
  have := nodup_len' out (List.range n) h.1 fun x hx => List.mem_range.2 (h.2.1 x hx)
  rwa [List.length_range] at this
/-- a way of at least one edge -/
inductive Way (E : Nat → Nat → Bool) (n : Nat) : Nat → Nat → Prop
  | one {u v : Nat} (hu : u < n) (hv : v < n) (h : E u v = true) : Way E n u v
  | more {u v w : Nat} (hu : u < n) (h : E u v = true) (k : Way E n v w) : Way E n u w
/-- in a full order no way leads back -/
theorem full_acyclic {E : Nat → Nat → Bool} {n : Nat} {out : List Nat} (h : Ord E n out) (hf : ∀ v, v < n → v ∈ out) : ∀ v, ¬ Way E n v v := by
  have hw : ∀ u w, Way E n u w → ∀ p q, out = p ++ w :: q → u ∈ p := by
    intro u w k
    induction k with
    | one hu hv he => exact fun p q e => h.2.2 p _ q e _ hu he
    | @more u v w hu he k ih =>
      intro p q e
      obtain ⟨p1, p2, rfl⟩ := List.append_of_mem (ih p q e)
      have e' : out = p1 ++ v :: (p2 ++ w :: q) := by rw [e]; simp
      exact List.mem_append_left _ (h.2.2 p1 v _ e' u hu he)
  intro v k
  have hv : v < n := by
    cases k with
    | one hu _ _ => exact hu
    | more hu _ _ => exact hu
  obtain ⟨p, q, e⟩ := List.append_of_mem (hf v hv)
  have h1 := hw v v k p q e
  have h2 := h.1
  rw [e] at h2
  exact (List.nodup_append.1 h2).2.2 v h1 v List.mem_cons_self rfl
theorem Way.snoc {E : Nat → Nat → Bool} {n : Nat} {u v w : Nat} (h : Way E n u v) (hw : w < n) (he : E v w = true) : Way E n u w := by
  induction h with
  | one hu hv k => exact .more hu k (.one hv hw he)
  | more hu k _ ih => exact .more hu k (ih he)
/-- where each that is left has one before it that is left, a way leads back -/
theorem stuck_cycle {E : Nat → Nat → Bool} {n : Nat} {out : List Nat} (hs : ∀ v, v < n → v ∉ out → ∃ u, u < n ∧ E u v = true ∧ u ∉ out) {v : Nat} (hv : v < n) (hn : v ∉ out) : ∃ w, Way E n w w := by
  -- a chain backward of any length, all different, as long as no way leads back
  refine Classical.byContradiction fun hc => ?_
  have hno : ∀ w, ¬ Way E n w w := fun w k => hc ⟨w, k⟩
  have chain : ∀ k : Nat, ∃ (u : Nat) (l : List Nat), l.length = k + 1 ∧ l.Nodup ∧ (∀ x ∈ l, x < n) ∧ u < n ∧ u ∉ out ∧ u ∈ l ∧ ∀ x ∈ l, x = u ∨ Way E n u x := by
    intro k
    induction k with
    | zero => exact ⟨v, [v], rfl, by simp, fun x hx => (by rw [List.mem_singleton] at hx; exact hx ▸ hv), hv, hn, by simp, fun x hx => .inl (by simpa using hx)⟩
    | succ k ih =>
      obtain ⟨u, l, h1, h2, h3, h4, h5, h6, h7⟩ := ih
      obtain ⟨t, t1, t2, t3⟩ := hs u h4 h5
      have hw : ∀ x ∈ l, Way E n t x := fun x hx => by
        rcases h7 x hx with rfl | h
        · exact .one t1 h4 t2
        · exact .more t1 t2 h
      refine ⟨t, t :: l, by rw [List.length_cons, h1], List.nodup_cons.2 ⟨fun h => hno t (hw t h), h2⟩, fun x hx => ?_, t1, t3, List.mem_cons_self, fun x hx => ?_⟩
      · rcases List.mem_cons.1 hx with rfl | hx
        · exact t1
        · exact h3 x hx
      · rcases List.mem_cons.1 hx with rfl | hx
        · exact .inl rfl
        · exact .inr (hw x hx)
  obtain ⟨u, l, h1, h2, h3, _⟩ := chain n
  have := nodup_len' l (List.range n) h2 fun x hx => List.mem_range.2 (h3 x hx)
  rw [List.length_range] at this
  omega
/-- an order of all exists exactly if no way leads back -/
theorem kah_full {E : Nat → Nat → Bool} {n : Nat} : (kah E n n []).length = n ↔ ∀ v, ¬ Way E n v v := by
  have ho := kah_ord n [] (Ord.nil E n)
  constructor
  · intro h
    refine full_acyclic ho fun v hv => Classical.byContradiction fun hn => ?_
    have h1 : (v :: kah E n n []).Nodup := List.nodup_cons.2 ⟨hn, ho.1⟩
    have := nodup_len' _ (List.range n) h1 fun x hx => by
      rcases List.mem_cons.1 hx with rfl | hx
      · exact List.mem_range.2 hv
      · exact List.mem_range.2 (ho.2.1 x hx)
    rw [List.length_range, List.length_cons] at this
    omega
  · intro h
    rcases kah_end (E := E) (n := n) n [] (by simp) with h1 | h1
    · have := ho.len
      omega
    · rcases Nat.lt_or_ge (kah E n n []).length n with h2 | h2
      · exfalso
        have h3 : ∃ v, v < n ∧ v ∉ kah E n n [] := Classical.byContradiction fun hc => by
          have := nodup_len' (List.range n) (kah E n n []) List.nodup_range fun x hx => Classical.byContradiction fun hx2 => hc ⟨x, List.mem_range.1 hx, hx2⟩
          rw [List.length_range] at this
          omega
        obtain ⟨v, hv, hn⟩ := h3
        obtain ⟨w, hw⟩ := stuck_cycle (nxt_none h1) hv hn
        exact h w hw
      · have := ho.len
        omega
end gr
end Go.Proofs.YtahffafobdiogaaDoor
