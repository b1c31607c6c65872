/- The components: a search against the edges, by what was left last. -/
import Derived.Test.YtahffafobdiogaaDoorGpa
namespace Go.Proofs.YtahffafobdiogaaDoor
set_option linter.unusedVariables false
set_option linter.unusedSimpArgs false
namespace gr
theorem Rch.snoc {s : Nat → List Nat} {u v w : Nat} (h : Rch s u v) (k : w ∈ s v) : Rch s u w := h.trans (Rch.one k)
/-- against the edges -/
theorem Rch.turn {s t : Nat → List Nat} (h : ∀ x y, y ∈ s x → x ∈ t y) {u v : Nat} (k : Rch s u v) : Rch t v u := by
  induction k with
  | refl v => exact .refl v
  | step m _ ih => exact ih.snoc (h _ _ m)
theorem Rcu.snoc {s : Nat → List Nat} {S : List Nat} {u v w : Nat} (h : Rcu s S u v) (k : w ∈ s v) (n : w ∉ S) : Rcu s S u w := by
  induction h with
  | refl v hv => exact .step hv k (.refl w n)
  | step a b _ ih => exact .step a b (ih k)
theorem Rcu.end_ {s : Nat → List Nat} {S : List Nat} {u v : Nat} (h : Rcu s S u v) : v ∉ S := by
  induction h with
  | refl v hv => exact hv
  | step _ _ _ ih => exact ih
/-- each reaches the other -/
def Mut (s : Nat → List Nat) (u v : Nat) : Prop := Rch s u v ∧ Rch s v u
theorem Mut.symm {s : Nat → List Nat} {u v : Nat} (h : Mut s u v) : Mut s v u := ⟨h.2, h.1⟩
theorem Mut.trans {s : Nat → List Nat} {u v w : Nat} (h : Mut s u v) (k : Mut s v w) : Mut s u w := ⟨h.1.trans k.1, k.2.trans h.2⟩
theorem Mut.refl (s : Nat → List Nat) (v : Nat) : Mut s v v := ⟨.refl v, .refl v⟩
/-- a whole search: all that is seen is left; what is left later and reached is around with one at least as late -/
theorem whole {s : Nat → List Nat} {vs S L : List Nat} (h : Dfs s vs [] [] S L) : (∀ x, x ∈ L ↔ x ∈ S) ∧ L.Nodup ∧ ∀ b x, Ahd L b x → Rch s b x → ∃ z, Mut s b z ∧ (z = x ∨ Ahd L x z) := by
  obtain ⟨M, hL, hn, hM⟩ := h.left
  rw [List.nil_append] at hL
  subst hL
  have hx : ∀ x, x ∈ L ↔ x ∈ S := fun x => by rw [hM]; simp
  refine ⟨hx, hn, fun b x ha hr => ?_⟩
  obtain ⟨z, a, c, d⟩ := (h.kos (fun g a => by cases a) ⟨fun b hb => (by cases hb), fun b hb => (by cases hb), fun b hb => (by cases hb)⟩).2.2 b ha.mem.1 x hr (.inr ha)
  rcases d with d | d
  · exact absurd ((hx z).2 d.1) d.2
  · exact ⟨z, ⟨a, c⟩, d.2⟩
/-- one search against the edges t from v, where what was left behind v is done with: it sees v's component -/
theorem part_step {s t : Nat → List Nat} (h1 : ∀ x y, y ∈ s x → x ∈ t y) (h2 : ∀ x y, x ∈ t y → y ∈ s x) {L A B : List Nat} {v : Nat} (hL : L = A ++ v :: B)
    (hW : ∀ b x, Ahd L b x → Rch s b x → ∃ z, Mut s b z ∧ (z = x ∨ Ahd L x z)) (hn : L.Nodup) (hall : ∀ x, Rch s x v → x ∈ L) {T P T' P' : List Nat} (hT : ∀ x, x ∈ T ↔ ∃ z ∈ B, Mut s x z) (hv : v ∉ T)
    (h : Dfs t [v] T P T' P') : (∀ x, x ∈ T' ↔ x ∈ T ∨ Mut s x v) ∧ ∃ M, P' = P ++ M ∧ M.Nodup ∧ ∀ x, x ∈ M ↔ Mut s x v := by
  have key : ∀ x, Rcu t T v x ↔ Mut s x v := fun x => by
    constructor
    · intro hr
      have hxv : Rch s x v := hr.rch.turn fun x y => h2 y x
      have hxT := hr.end_
      have hm := hall x hxv
      rw [hL, List.mem_append, List.mem_cons] at hm
      rcases hm with hm | rfl | hm
      · obtain ⟨p, q, rfl⟩ := List.append_of_mem hm
        obtain ⟨z, hz, hz2⟩ := hW x v ⟨p, q, B, by rw [hL]⟩ hxv
        rcases hz2 with rfl | hz2
        · exact hz
        · refine absurd ((hT x).2 ⟨z, ?_, hz⟩) hxT
          obtain ⟨p', q', r', e⟩ := hz2
          rw [hL] at e hn
          have e : p ++ x :: q ++ v :: B = p' ++ v :: (q' ++ z :: r') := by rw [e]; simp
          -- v stands once in L
          have hu : ∀ (a b c d : List Nat), a ++ v :: b = c ++ v :: d → v ∉ a → v ∉ c → b = d := by
            intro a
            induction a with
            | nil =>
              intro b c d e _ hc
              cases c with
              | nil => simpa using e
              | cons y c =>
                simp only [List.nil_append, List.cons_append, List.cons.injEq] at e
                exact absurd (e.1 ▸ List.mem_cons_self) hc
            | cons y a ih =>
              intro b c d e ha hc
              cases c with
              | nil =>
                simp only [List.nil_append, List.cons_append, List.cons.injEq] at e
                exact absurd (e.1 ▸ List.mem_cons_self) ha
              | cons w c =>
                simp only [List.cons_append, List.cons.injEq] at e
                exact ih b c d e.2 (fun k => ha (List.mem_cons_of_mem _ k)) (fun k => hc (List.mem_cons_of_mem _ k))
          have n1 : v ∉ p ++ x :: q := fun k => (List.nodup_append.1 hn).2.2 v k v List.mem_cons_self rfl
          have n2 : v ∉ p' := fun k => by
            rw [e] at hn
            exact (List.nodup_append.1 hn).2.2 v k v List.mem_cons_self rfl
          have := hu _ _ _ _ e n1 n2
          rw [this]
          simp
      · exact Mut.refl s x
      · exact absurd ((hT x).2 ⟨x, hm, Mut.refl s x⟩) hxT
    · intro hm
      have hnT : ∀ u, Mut s u v → u ∉ T := fun u hu hc => by
        obtain ⟨z, hz, hz2⟩ := (hT u).1 hc
        exact hv ((hT v).2 ⟨z, hz, hu.symm.trans hz2⟩)
      obtain ⟨hr, hb⟩ := hm
      -- along the path from x to v all are around v
      clear hall hW hT h hL
      induction hr with
      | refl v => exact .refl v hv
      | @step u y v hmem k ih =>
        have hyu : Rch s v y := hb.snoc hmem
        exact (ih hv hnT hyu).snoc (h1 _ _ hmem) (hnT u ⟨.step hmem k, hb⟩)
  have hs : ∀ x, x ∈ T' ↔ x ∈ T ∨ Mut s x v := fun x => by
    rw [h.seen x]
    constructor
    · rintro (a | ⟨w, hw, hr⟩)
      · exact .inl a
      · rw [List.mem_singleton] at hw
        exact .inr ((key x).1 (hw ▸ hr))
    · rintro (a | a)
      · exact .inl a
      · exact .inr ⟨v, by simp, (key x).2 a⟩
  refine ⟨hs, ?_⟩
  obtain ⟨M, e, n, m⟩ := h.left
  refine ⟨M, e, n, fun x => ?_⟩
  rw [m, hs]
  constructor
  · rintro ⟨a | a, b⟩
    · exact absurd a b
    · exact a
  · exact fun a => ⟨.inr a, ((key x).2 a).end_⟩
end gr
end Go.Proofs.YtahffafobdiogaaDoor
