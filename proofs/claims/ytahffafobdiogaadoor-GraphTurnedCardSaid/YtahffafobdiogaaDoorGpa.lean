/- Depth-first search, left in order: plain. What Kosaraju's way of finding the components rests on. -/
import Derived.Test.YtahffafobdiogaaDoorMem
namespace Go.Proofs.YtahffafobdiogaaDoor
set_option linter.unusedVariables false
set_option linter.unusedSimpArgs false
namespace gr
/-- w is reached from v by the edges s -/
inductive Rch (s : Nat → List Nat) : Nat → Nat → Prop
  | refl (v : Nat) : Rch s v v
  | step {u v w : Nat} (h : v ∈ s u) (k : Rch s v w) : Rch s u w
theorem Rch.trans {s : Nat → List Nat} {u v w : Nat} (h : Rch s u v) (k : Rch s v w) : Rch s u w := by
  induction h with
  | refl => exact k
  | step h _ ih => exact .step h (ih k)
theorem Rch.one {s : Nat → List Nat} {u v : Nat} (h : v ∈ s u) : Rch s u v := .step h (.refl v)
/-- a search: the vertices to be visited, what is seen and what was left before and behind it -/
inductive Dfs (s : Nat → List Nat) : List Nat → List Nat → List Nat → List Nat → List Nat → Prop
  | nil (S L : List Nat) : Dfs s [] S L S L
  | skip {v : Nat} {vs S L S' L' : List Nat} (h : v ∈ S) (k : Dfs s vs S L S' L') : Dfs s (v :: vs) S L S' L'
  | go {v : Nat} {vs S L S1 L1 S' L' : List Nat} (h : v ∉ S) (k1 : Dfs s (s v) (v :: S) L S1 L1) (k2 : Dfs s vs S1 (L1 ++ [v]) S' L') : Dfs s (v :: vs) S L S' L'
theorem Dfs.sub {s : Nat → List Nat} {vs S L S' L' : List Nat} (h : Dfs s vs S L S' L') : (∀ x ∈ S, x ∈ S') ∧ (∀ x ∈ vs, x ∈ S') := by
  induction h with
  | nil S L => exact ⟨fun x h => h, fun x h => by cases h⟩
  | skip h k ih =>
    refine ⟨ih.1, fun x hx => ?_⟩
    rcases List.mem_cons.1 hx with rfl | hx
    · exact ih.1 _ h
    · exact ih.2 x hx
  | go h k1 k2 ih1 ih2 =>
    refine ⟨fun x hx => ih2.1 x (ih1.1 x (List.mem_cons_of_mem _ hx)), fun x hx => ?_⟩
    rcases List.mem_cons.1 hx with rfl | hx
    · exact ih2.1 _ (ih1.1 _ List.mem_cons_self)
    · exact ih2.2 x hx
/-- what is left anew is what is seen anew -/
theorem Dfs.left {s : Nat → List Nat} {vs S L S' L' : List Nat} (h : Dfs s vs S L S' L') : ∃ M, L' = L ++ M ∧ M.Nodup ∧ ∀ x, x ∈ M ↔ x ∈ S' ∧ x ∉ S := by
  induction h with
  | nil S L => exact ⟨[], by simp, List.nodup_nil, fun x => by simp⟩
  | skip h k ih => exact ih
  | @go v vs S L S1 L1 S' L' h k1 k2 ih1 ih2 =>
    obtain ⟨M1, rfl, n1, m1⟩ := ih1
    obtain ⟨M2, rfl, n2, m2⟩ := ih2
    have hv1 : v ∈ S1 := k1.sub.1 v List.mem_cons_self
    refine ⟨M1 ++ [v] ++ M2, by simp only [List.append_assoc], ?_, fun x => ?_⟩
    · rw [List.nodup_append, List.nodup_append]
      refine ⟨⟨n1, by simp, fun a ha b hb e => ?_⟩, n2, fun a ha b hb e => ?_⟩
      · rw [List.mem_singleton] at hb
        subst hb
        subst e
        exact ((m1 a).1 ha).2 List.mem_cons_self
      · subst e
        have h2 := ((m2 a).1 hb).2
        rcases List.mem_append.1 ha with ha | ha
        · exact h2 ((m1 a).1 ha).1
        · rw [List.mem_singleton] at ha
          exact h2 (ha ▸ hv1)
    · rw [List.mem_append, List.mem_append, List.mem_singleton, m1, m2]
      constructor
      · rintro ((⟨a, b⟩ | rfl) | ⟨a, b⟩)
        · exact ⟨k2.sub.1 x a, fun c => b (List.mem_cons_of_mem _ c)⟩
        · exact ⟨k2.sub.1 x hv1, h⟩
        · exact ⟨a, fun c => b (k1.sub.1 x (List.mem_cons_of_mem _ c))⟩
      · rintro ⟨a, b⟩
        by_cases h1 : x ∈ S1
        · by_cases h2 : x = v
          · exact .inl (.inr h2)
          · refine .inl (.inl ⟨h1, fun c => ?_⟩)
            rcases List.mem_cons.1 c with c | c
            · exact h2 c
            · exact b c
        · exact .inr ⟨a, h1⟩
/-- what is seen anew leads to nothing unseen -/
theorem Dfs.closed {s : Nat → List Nat} {vs S L S' L' : List Nat} (h : Dfs s vs S L S' L') : ∀ x, x ∈ S' → x ∉ S → ∀ y ∈ s x, y ∈ S' := by
  induction h with
  | nil S L => exact fun x a b => absurd a b
  | skip h k ih => exact ih
  | @go v vs S L S1 L1 S' L' h k1 k2 ih1 ih2 =>
    intro x hx hn y hy
    by_cases h1 : x ∈ S1
    · by_cases h2 : x = v
      · subst h2
        exact k2.sub.1 y (k1.sub.2 y hy)
      · refine k2.sub.1 y (ih1 x h1 (fun c => ?_) y hy)
        rcases List.mem_cons.1 c with c | c
        · exact h2 c
        · exact hn c
    · exact ih2 x hx h1 y hy
/-- reached by what was unseen -/
inductive Rcu (s : Nat → List Nat) (S : List Nat) : Nat → Nat → Prop
  | refl (v : Nat) (h : v ∉ S) : Rcu s S v v
  | step {u v w : Nat} (n : u ∉ S) (h : v ∈ s u) (k : Rcu s S v w) : Rcu s S u w
theorem Rcu.more {s : Nat → List Nat} {S T : List Nat} (hs : ∀ x ∈ S, x ∈ T) {u v : Nat} (h : Rcu s T u v) : Rcu s S u v := by
  induction h with
  | refl v h => exact .refl v fun c => h (hs v c)
  | step n h _ ih => exact .step (fun c => n (hs _ c)) h ih
theorem Rcu.rch {s : Nat → List Nat} {S : List Nat} {u v : Nat} (h : Rcu s S u v) : Rch s u v := by
  induction h with
  | refl v _ => exact .refl v
  | step _ h _ ih => exact .step h ih
/-- what is seen: what was, and what is reached by what was unseen -/
theorem Dfs.seen {s : Nat → List Nat} {vs S L S' L' : List Nat} (h : Dfs s vs S L S' L') (x : Nat) : x ∈ S' ↔ x ∈ S ∨ ∃ v ∈ vs, Rcu s S v x := by
  constructor
  · intro hx
    induction h with
    | nil S L => exact .inl hx
    | skip h k ih =>
      rcases ih hx with a | ⟨v, b, c⟩
      · exact .inl a
      · exact .inr ⟨v, List.mem_cons_of_mem _ b, c⟩
    | @go v vs S L S1 L1 S' L' h k1 k2 ih1 ih2 =>
      have hs1 : ∀ x ∈ S, x ∈ S1 := fun x hx => k1.sub.1 x (List.mem_cons_of_mem _ hx)
      rcases ih2 hx with a | ⟨u, b, c⟩
      · rcases ih1 a with a | ⟨u, b, c⟩
        · rcases List.mem_cons.1 a with rfl | a
          · exact .inr ⟨x, List.mem_cons_self, .refl x h⟩
          · exact .inl a
        · exact .inr ⟨v, List.mem_cons_self, .step h b (c.more fun x hx => List.mem_cons_of_mem _ hx)⟩
      · exact .inr ⟨u, List.mem_cons_of_mem _ b, c.more hs1⟩
  · rintro (hx | ⟨v, hv, hr⟩)
    · exact h.sub.1 x hx
    · have h1 := h.sub.2 v hv
      clear hv
      induction hr with
      | refl v _ => exact h1
      | step n hm k ih => exact ih (h.closed _ h1 n _ hm)
/-- b stands ahead of x in l -/
def Ahd (l : List Nat) (b x : Nat) : Prop := ∃ p q r, l = p ++ b :: q ++ x :: r
/-- the invariant of a search: from what was left nothing leads to something later but by way of what leads back -/
def Kos (s : Nat → List Nat) (S L : List Nat) : Prop :=
  (∀ b ∈ L, b ∈ S) ∧ (∀ b ∈ L, ∀ y ∈ s b, y ∈ S) ∧
  ∀ b ∈ L, ∀ x, Rch s b x → (x ∉ L ∨ Ahd L b x) → ∃ z, Rch s b z ∧ Rch s z b ∧ ((z ∈ S ∧ z ∉ L) ∨ (x ∈ L ∧ (z = x ∨ Ahd L x z)))
/-- on a path out of L, where L leads only to what is seen, stands one that is seen and not left -/
theorem out_gray {s : Nat → List Nat} {S L : List Nat} (h : ∀ b ∈ L, ∀ y ∈ s b, y ∈ S) {b x : Nat} (hr : Rch s b x) (hb : b ∈ L) (hx : x ∉ L) : ∃ g, Rch s b g ∧ g ∈ S ∧ g ∉ L := by
  induction hr with
  | refl v => exact absurd hb hx
  | @step u v w hm k ih =>
    by_cases hv : v ∈ L
    · obtain ⟨g, a, c⟩ := ih hv hx
      exact ⟨g, .step hm a, c⟩
    · exact ⟨v, Rch.one hm, h u hb v hm, hv⟩
theorem Ahd.mem {l : List Nat} {b x : Nat} (h : Ahd l b x) : b ∈ l ∧ x ∈ l := by
  obtain ⟨p, q, r, rfl⟩ := h
  simp
theorem Ahd.app {l : List Nat} {b x : Nat} (h : Ahd l b x) (m : List Nat) : Ahd (l ++ m) b x := by
  obtain ⟨p, q, r, rfl⟩ := h
  exact ⟨p, q, r ++ m, by simp⟩
theorem Ahd.last {l : List Nat} {b : Nat} (h : b ∈ l) (v : Nat) : Ahd (l ++ [v]) b v := by
  obtain ⟨p, q, rfl⟩ := List.append_of_mem h
  exact ⟨p, q, [], by simp⟩
/-- ahead of something in a list with v behind: in the list, or v itself -/
theorem Ahd.of_last {l : List Nat} {b x v : Nat} (h : Ahd (l ++ [v]) b x) : Ahd l b x ∨ (x = v ∧ b ∈ l) := by
  obtain ⟨p, q, r, e⟩ := h
  rcases List.eq_nil_or_concat r with rfl | ⟨r', y, rfl⟩
  · have e' : l ++ [v] = (p ++ b :: q) ++ [x] := by rw [e]
    obtain ⟨e1, e2⟩ := List.append_inj' e' rfl
    rw [List.cons.injEq] at e2
    exact .inr ⟨e2.1.symm, by rw [e1]; simp⟩
  · have e' : l ++ [v] = (p ++ b :: q ++ x :: r') ++ [y] := by rw [e]; simp
    obtain ⟨e1, _⟩ := List.append_inj' e' rfl
    exact .inl ⟨p, q, r', e1⟩
theorem Dfs.kos {s : Nat → List Nat} {vs S L S' L' : List Nat} (h : Dfs s vs S L S' L') : (∀ g ∈ S, g ∉ L → ∀ v ∈ vs, Rch s g v) → Kos s S L → Kos s S' L' := by
  induction h with
  | nil S L => exact fun _ h => h
  | skip h k ih => exact fun hg hk => ih (fun g a b v c => hg g a b v (List.mem_cons_of_mem _ c)) hk
  | @go v vs S L S1 L1 S' L' h k1 k2 ih1 ih2 =>
    intro hg hk
    have hvL : v ∉ L := fun c => h (hk.1 v c)
    have hk0 : Kos s (v :: S) L := ⟨fun b hb => List.mem_cons_of_mem _ (hk.1 b hb), fun b hb y hy => List.mem_cons_of_mem _ (hk.2.1 b hb y hy), fun b hb x hr hx => by
      obtain ⟨z, a, c, d⟩ := hk.2.2 b hb x hr hx
      refine ⟨z, a, c, ?_⟩
      rcases d with d | d
      · exact .inl ⟨List.mem_cons_of_mem _ d.1, d.2⟩
      · exact .inr d⟩
    have hg0 : ∀ g ∈ v :: S, g ∉ L → Rch s g v := fun g hgm hgl => by
      rcases List.mem_cons.1 hgm with rfl | hgm
      · exact .refl g
      · exact hg g hgm hgl v List.mem_cons_self
    have hK1 := ih1 (fun g a b y hy => (hg0 g a b).trans (Rch.one hy)) hk0
    obtain ⟨M, rfl, _, hM⟩ := k1.left
    have hv1 : v ∈ S1 := k1.sub.1 v List.mem_cons_self
    have hvM : v ∉ L ++ M := fun c => by
      rcases List.mem_append.1 c with c | c
      · exact hvL c
      · exact ((hM v).1 c).2 List.mem_cons_self
    -- what is seen and not left behind the search of v's is what was so before, or v
    have hgr : ∀ g ∈ S1, g ∉ L ++ M → g = v ∨ (g ∈ S ∧ g ∉ L) := fun g a b => by
      rw [List.mem_append, not_or] at b
      by_cases c : g ∈ v :: S
      · rcases List.mem_cons.1 c with c | c
        · exact .inl c
        · exact .inr ⟨c, b.1⟩
      · exact absurd ((hM g).2 ⟨a, c⟩) b.2
    have hgv : ∀ g ∈ S1, g ∉ L ++ M → Rch s g v := fun g a b => by
      rcases hgr g a b with rfl | c
      · exact .refl g
      · exact hg g c.1 c.2 v List.mem_cons_self
    generalize hL1 : L ++ M = L1 at *
    have hsv : ∀ y ∈ s v, y ∈ S1 := k1.sub.2
    have hcl : ∀ b ∈ L1 ++ [v], ∀ y ∈ s b, y ∈ S1 := fun b hb y hy => by
      rcases List.mem_append.1 hb with hb | hb
      · exact hK1.2.1 b hb y hy
      · rw [List.mem_singleton] at hb
        exact hsv y (hb ▸ hy)
    -- from v to something not left: there is one around that is seen, not left, and leads back
    have hvx : ∀ x, Rch s v x → x ∉ L1 ++ [v] → ∃ g, Rch s v g ∧ Rch s g v ∧ g ∈ S1 ∧ g ∉ L1 ++ [v] := fun x hr hx => by
      obtain ⟨g, a, b, c⟩ := out_gray hcl hr (by simp) hx
      exact ⟨g, a, hgv g b (fun d => c (List.mem_append_left _ d)), b, c⟩
    refine ih2 (fun g a b u hu => ?_) ⟨fun b hb => ?_, hcl, fun b hb x hr hx => ?_⟩
    · rw [List.mem_append, not_or] at b
      rcases hgr g a b.1 with c | c
      · exact absurd (c ▸ List.mem_singleton.2 rfl) b.2
      · exact hg g c.1 c.2 u (List.mem_cons_of_mem _ hu)
    · rcases List.mem_append.1 hb with hb | hb
      · exact hK1.1 b hb
      · rw [List.mem_singleton] at hb
        exact hb ▸ hv1
    · rcases List.mem_append.1 hb with hb | hb
      · -- b was left before v
        have hbv : b ≠ v := fun e => hvM (e ▸ hb)
        have old : ∀ x, Rch s b x → (x ∉ L1 ∨ Ahd L1 b x) → ∃ z, Rch s b z ∧ Rch s z b ∧ ((z ∈ S1 ∧ z ∉ L1) ∨ (x ∈ L1 ∧ (z = x ∨ Ahd L1 x z))) := hK1.2.2 b hb
        have cases3 : (x ∉ L1 ++ [v]) ∨ x = v ∨ Ahd L1 b x := by
          rcases hx with hx | hx
          · exact .inl hx
          · rcases hx.of_last with hx | hx
            · exact .inr (.inr hx)
            · exact .inr (.inl hx.1)
        rcases cases3 with hx | rfl | hx
        · have hx1 : x ∉ L1 := fun c => hx (List.mem_append_left _ c)
          obtain ⟨z, a, c, d⟩ := old x hr (.inl hx1)
          rcases d with d | d
          · by_cases e : z = v
            · subst e
              obtain ⟨g, g1, g2, g3, g4⟩ := hvx x (c.trans hr) hx
              exact ⟨g, a.trans g1, g2.trans c, .inl ⟨g3, g4⟩⟩
            · exact ⟨z, a, c, .inl ⟨d.1, fun f => by
                rcases List.mem_append.1 f with f | f
                · exact d.2 f
                · exact e (List.mem_singleton.1 f)⟩⟩
          · exact absurd d.1 hx1
        · obtain ⟨z, a, c, d⟩ := old x hr (.inl hvM)
          rcases d with d | d
          · by_cases e : z = x
            · exact ⟨z, a, c, .inr ⟨by simp, .inl e⟩⟩
            · exact ⟨z, a, c, .inl ⟨d.1, fun f => by
                rcases List.mem_append.1 f with f | f
                · exact d.2 f
                · exact e (List.mem_singleton.1 f)⟩⟩
          · exact absurd d.1 hvM
        · obtain ⟨z, a, c, d⟩ := old x hr (.inr hx)
          rcases d with d | d
          · by_cases e : z = v
            · exact ⟨z, a, c, .inr ⟨List.mem_append_left _ hx.mem.2, .inr (e ▸ Ahd.last hx.mem.2 v)⟩⟩
            · exact ⟨z, a, c, .inl ⟨d.1, fun f => by
                rcases List.mem_append.1 f with f | f
                · exact d.2 f
                · exact e (List.mem_singleton.1 f)⟩⟩
          · exact ⟨z, a, c, .inr ⟨List.mem_append_left _ d.1, d.2.imp id fun f => f.app _⟩⟩
      · -- b is v itself
        rw [List.mem_singleton] at hb
        subst hb
        rcases hx with hx | hx
        · obtain ⟨g, g1, g2, g3, g4⟩ := hvx x hr hx
          exact ⟨g, g1, g2, .inl ⟨g3, g4⟩⟩
        · rcases hx.of_last with hx | hx
          · exact absurd hx.mem.1 hvM
          · exact absurd hx.2 hvM
end gr
end Go.Proofs.YtahffafobdiogaaDoor
