/- Parts: what the second search finds: plain. -/
import Derived.Test.YtahffafobdiogaaDoorKgy
namespace Go.Proofs.YtahffafobdiogaaDoor
set_option linter.unusedVariables false
set_option linter.unusedSimpArgs false
open Go.RowKit
namespace gr
/-- what the search along the edges leaves -/
structure Lft (E : Nat → Nat → Bool) (n : Nat) (L : List Nat) : Prop where
  mem : ∀ x, x ∈ L ↔ x < n
  nd : L.Nodup
  hd : ∀ b x, Ahd L b x → Rch (nbs E n) b x → ∃ z, Mut (nbs E n) b z ∧ (z = x ∨ Ahd L x z)
theorem lft_of {E : Nat → Nat → Bool} {n : Nat} {S L : List Nat} (h : Dfs (nbs E n) (List.range n) [] [] S L) : Lft E n L := by
  obtain ⟨h1, h2, h3⟩ := whole h
  obtain ⟨_, _, h4⟩ := dfs_inv (n := n) nbs_lt h (fun x hx => List.mem_range.1 hx) (fun x hx => (by cases hx)) List.nodup_nil (fun x hx => (by cases hx))
  refine ⟨fun x => ⟨fun hx => h4 x ((h1 x).1 hx), fun hx => (h1 x).2 (h.sub.2 x (List.mem_range.2 hx))⟩, h2, h3⟩
theorem Lft.len {E : Nat → Nat → Bool} {n : Nat} {L : List Nat} (h : Lft E n L) : L.length = n := by
  have h1 := nodup_len' L (List.range n) h.nd fun x hx => List.mem_range.2 ((h.mem x).1 hx)
  have h2 := nodup_len' (List.range n) L List.nodup_range fun x hx => (h.mem x).2 (List.mem_range.1 hx)
  rw [List.length_range] at h1 h2
  omega
/-- the state of the second search: what is behind is B, seen are T, the parts are ps -/
structure Pst (E : Nat → Nat → Bool) (n : Nat) (B T : List Nat) (ps : List (List Nat)) : Prop where
  seen : ∀ x, x ∈ T ↔ ∃ z ∈ B, Mut (nbs E n) x z
  parts : ∀ l, l ∈ ps ↔ ∃ v ∈ B, l = cmp (nbs E n) n v
  diff : ps.Pairwise (fun a b => a.headD 0 ≠ b.headD 0)
theorem Pst.nil (E : Nat → Nat → Bool) (n : Nat) : Pst E n [] [] [] := ⟨fun x => (by simp), fun l => (by simp), List.Pairwise.nil⟩
theorem Pst.skip {E : Nat → Nat → Bool} {n v : Nat} {B T : List Nat} {ps : List (List Nat)} (h : Pst E n B T ps) (hv : v ∈ T) : Pst E n (v :: B) T ps := by
  obtain ⟨z, hz, hm⟩ := (h.seen v).1 hv
  refine ⟨fun x => ?_, fun l => ?_, h.diff⟩
  · rw [h.seen x]
    constructor
    · rintro ⟨y, hy, hm2⟩
      exact ⟨y, List.mem_cons_of_mem _ hy, hm2⟩
    · rintro ⟨y, hy, hm2⟩
      rcases List.mem_cons.1 hy with rfl | hy
      · exact ⟨z, hz, hm2.trans hm⟩
      · exact ⟨y, hy, hm2⟩
  · rw [h.parts l]
    constructor
    · rintro ⟨y, hy, e⟩
      exact ⟨y, List.mem_cons_of_mem _ hy, e⟩
    · rintro ⟨y, hy, e⟩
      rcases List.mem_cons.1 hy with rfl | hy
      · exact ⟨z, hz, e.trans (cmp_eq hm)⟩
      · exact ⟨y, hy, e⟩
theorem cmp_cons {s : Nat → List Nat} {n v : Nat} (hv : v < n) : ∃ a r, cmp s n v = a :: r ∧ a < n ∧ Mut s v a := by
  have hm : v ∈ cmp s n v := cmp_mem.2 ⟨hv, Mut.refl s v⟩
  cases hc : cmp s n v with
  | nil => rw [hc] at hm; cases hm
  | cons a r =>
    have : a ∈ cmp s n v := by rw [hc]; exact List.mem_cons_self
    exact ⟨a, r, rfl, cmp_mem.1 this⟩
theorem cmp_head {s : Nat → List Nat} {n u v : Nat} (hu : u < n) (hv : v < n) (h : (cmp s n u).headD 0 = (cmp s n v).headD 0) : Mut s u v := by
  obtain ⟨a, r, e1, _, h1⟩ := cmp_cons (s := s) hu
  obtain ⟨b, q, e2, _, h2⟩ := cmp_cons (s := s) hv
  rw [e1, e2] at h
  simp only [List.headD_cons] at h
  subst h
  exact h1.trans h2.symm
/-- the members of a component, sorted -/
theorem sorted_cmp {E : Nat → Nat → Bool} {n v : Nat} {M : List Nat} (hn : M.Nodup) (hlt : ∀ x, Mut (nbs E n) x v → x < n) (hm : ∀ x, x ∈ M ↔ Mut (nbs E n) x v) : (M.mergeSort fun x y => decide (x ≤ y)) = cmp (nbs E n) n v := by
  have hp := List.mergeSort_perm M (fun x y => decide (x ≤ y))
  refine asc_ext id _ _ ?_ (cmp_asc _ n v) fun x => ?_
  · have h1 : (M.mergeSort fun x y => decide (x ≤ y)).Pairwise fun a b => decide (a ≤ b) = true := List.pairwise_mergeSort (fun a b c h1 h2 => by simp at *; omega) (fun a b => by simp; omega) M
    have h2 : (M.mergeSort fun x y => decide (x ≤ y)).Nodup := hp.nodup_iff.2 hn
    refine (h1.and h2).imp fun {a b} h => ?_
    simp only [decide_eq_true_eq] at h
    simp only [id]
    omega
  · rw [hp.mem_iff, hm, cmp_mem]
    exact ⟨fun h => ⟨hlt x h, h.symm⟩, fun h => h.2.symm⟩
theorem Pst.step {E E' : Nat → Nat → Bool} (hE' : ∀ u x, E' u x = E x u) {n v : Nat} (hEn : ∀ u x, E u x = true → x < n) (hEm : ∀ u x, E u x = true → u < n) {L A B T T' M : List Nat} {ps : List (List Nat)} (hL : Lft E n L) (hs : L = A ++ v :: B) (h : Pst E n B T ps) (hv : v ∉ T) (hd : Dfs (nbs E' n) [v] T [] T' M) :
    Pst E n (v :: B) T' (ps ++ [M.mergeSort fun x y => decide (x ≤ y)]) ∧ M ≠ [] ∧ (M.mergeSort fun x y => decide (x ≤ y)) = cmp (nbs E n) n v := by
  have hvn : v < n := (hL.mem v).1 (by rw [hs]; simp)
  have hrl : ∀ x, Rch (nbs E n) x v → x < n := fun x hr => by
    cases hr with
    | refl => exact hvn
    | step h1 _ => exact hEm _ _ (nbs_mem.1 h1).2
  obtain ⟨g1, M', hM, g2, g3⟩ := part_step (s := nbs E n) (t := nbs E' n) (fun x y hy => nbs_mem.2 ⟨hEm _ _ (nbs_mem.1 hy).2, (hE' y x).trans (nbs_mem.1 hy).2⟩) (fun x y hx => nbs_mem.2 ⟨hEn x y ((hE' y x).symm.trans (nbs_mem.1 hx).2), (hE' y x).symm.trans (nbs_mem.1 hx).2⟩) hs hL.hd hL.nd (fun x hr => (hL.mem x).2 (hrl x hr)) h.seen hv hd
  rw [List.nil_append] at hM
  subst hM
  have hsc := sorted_cmp g2 (fun x hx => hrl x hx.1) g3
  have hBn : ∀ z ∈ B, z < n := fun z hz => (hL.mem z).1 (by rw [hs]; simp [hz])
  refine ⟨⟨fun x => ?_, fun l => ?_, ?_⟩, ?_, hsc⟩
  · rw [g1 x, h.seen x]
    constructor
    · rintro (⟨z, hz, hm⟩ | hm)
      · exact ⟨z, List.mem_cons_of_mem _ hz, hm⟩
      · exact ⟨v, List.mem_cons_self, hm⟩
    · rintro ⟨z, hz, hm⟩
      rcases List.mem_cons.1 hz with rfl | hz
      · exact .inr hm
      · exact .inl ⟨z, hz, hm⟩
  · rw [List.mem_append, List.mem_singleton, h.parts l, hsc]
    constructor
    · rintro (⟨z, hz, e⟩ | e)
      · exact ⟨z, List.mem_cons_of_mem _ hz, e⟩
      · exact ⟨v, List.mem_cons_self, e⟩
    · rintro ⟨z, hz, e⟩
      rcases List.mem_cons.1 hz with rfl | hz
      · exact .inr e
      · exact .inl ⟨z, hz, e⟩
  · rw [List.pairwise_append]
    refine ⟨h.diff, by simp, fun a ha b hb e => ?_⟩
    rw [List.mem_singleton, hsc] at hb
    subst hb
    obtain ⟨z, hz, rfl⟩ := (h.parts a).1 ha
    exact hv ((h.seen v).2 ⟨z, hz, (cmp_head (hBn z hz) hvn e).symm⟩)
  · intro e
    have := (g3 v).2 (Mut.refl _ v)
    rw [e] at this
    cases this
/-- all parts, sorted by their least vertices -/
theorem Pst.done {E : Nat → Nat → Bool} {n : Nat} {L T : List Nat} {ps qs : List (List Nat)} (hL : Lft E n L) (h : Pst E n L T ps) (hp : qs.Perm ps) (hs : qs.Pairwise fun a b => a.headD 0 ≤ b.headD 0) : qs = prts (nbs E n) n := by
  refine prts_uniq ?_ fun l => ?_
  · have hd : qs.Pairwise fun a b => a.headD 0 ≠ b.headD 0 := (hp.pairwise_iff (fun {a b} h => Ne.symm h)).2 h.diff
    exact (hs.and hd).imp fun {a b} h => by have := h.1; have := h.2; omega
  · rw [hp.mem_iff, h.parts l]
    constructor
    · rintro ⟨v, hv, e⟩
      exact ⟨v, (hL.mem v).1 hv, e⟩
    · rintro ⟨v, hv, e⟩
      exact ⟨v, (hL.mem v).2 hv, e⟩
end gr
end Go.Proofs.YtahffafobdiogaaDoor
