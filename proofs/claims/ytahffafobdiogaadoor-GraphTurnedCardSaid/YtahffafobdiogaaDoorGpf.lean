/- Lists in order that hold the same are the same; the parts of a graph: plain. -/
import Derived.Test.YtahffafobdiogaaDoorGpe
namespace Go.Proofs.YtahffafobdiogaaDoor
set_option linter.unusedVariables false
set_option linter.unusedSimpArgs false
namespace gr
theorem asc_ext {α : Type} (f : α → Nat) : ∀ (l m : List α), l.Pairwise (fun a b => f a < f b) → m.Pairwise (fun a b => f a < f b) → (∀ x, x ∈ l ↔ x ∈ m) → l = m
  | [], [], _, _, _ => rfl
  | [], b :: m, _, _, h => absurd ((h b).2 List.mem_cons_self) (by simp)
  | a :: l, [], _, _, h => absurd ((h a).1 List.mem_cons_self) (by simp)
  | a :: l, b :: m, hl, hm, h => by
    rw [List.pairwise_cons] at hl hm
    have hab : a = b := by
      rcases List.mem_cons.1 ((h a).1 List.mem_cons_self) with e | e
      · exact e
      · rcases List.mem_cons.1 ((h b).2 List.mem_cons_self) with e2 | e2
        · exact e2.symm
        · have h1 := hm.1 a e
          have h2 := hl.1 b e2
          omega
    subst hab
    congr 1
    refine asc_ext f l m hl.2 hm.2 fun x => ⟨fun hx => ?_, fun hx => ?_⟩
    · rcases List.mem_cons.1 ((h x).1 (List.mem_cons_of_mem _ hx)) with e | e
      · have := hl.1 x hx
        rw [e] at this
        omega
      · exact e
    · rcases List.mem_cons.1 ((h x).2 (List.mem_cons_of_mem _ hx)) with e | e
      · have := hm.1 x hx
        rw [e] at this
        omega
      · exact e
/-- the component of v among the vertices below n, in order -/
noncomputable def cmp (s : Nat → List Nat) (n v : Nat) : List Nat := open Classical in (List.range n).filter fun w => decide (Mut s v w)
theorem cmp_mem {s : Nat → List Nat} {n v w : Nat} : w ∈ cmp s n v ↔ w < n ∧ Mut s v w := by
  unfold cmp
  simp only [List.mem_filter, List.mem_range, decide_eq_true_eq]
theorem cmp_asc (s : Nat → List Nat) (n v : Nat) : (cmp s n v).Pairwise (· < ·) := by
  unfold cmp
  exact List.Pairwise.filter _ List.pairwise_lt_range
theorem cmp_eq {s : Nat → List Nat} {n v w : Nat} (h : Mut s v w) : cmp s n v = cmp s n w :=
  asc_ext id _ _ (cmp_asc s n v) (cmp_asc s n w) fun x => by
    rw [cmp_mem, cmp_mem]
    exact ⟨fun k => ⟨k.1, h.symm.trans k.2⟩, fun k => ⟨k.1, h.trans k.2⟩⟩
/-- the least vertices of the components -/
noncomputable def lst1 (s : Nat → List Nat) (n : Nat) : List Nat := open Classical in (List.range n).filter fun v => decide (∀ w, w < n → Mut s v w → v ≤ w)
theorem lst1_mem {s : Nat → List Nat} {n v : Nat} : v ∈ lst1 s n ↔ v < n ∧ ∀ w, w < n → Mut s v w → v ≤ w := by
  unfold lst1
  simp only [List.mem_filter, List.mem_range, decide_eq_true_eq]
/-- the components, in the order of their least vertices -/
noncomputable def prts (s : Nat → List Nat) (n : Nat) : List (List Nat) := (lst1 s n).map (cmp s n)
theorem head_least {s : Nat → List Nat} {n v : Nat} (hv : v ∈ lst1 s n) : ∃ r, cmp s n v = v :: r := by
  obtain ⟨h1, h2⟩ := lst1_mem.1 hv
  have hm : v ∈ cmp s n v := cmp_mem.2 ⟨h1, Mut.refl s v⟩
  have ha := cmp_asc s n v
  have hh : ∀ w ∈ cmp s n v, v ≤ w := fun w hw => h2 w (cmp_mem.1 hw).1 (cmp_mem.1 hw).2
  cases hc : cmp s n v with
  | nil => rw [hc] at hm; cases hm
  | cons a r =>
    rw [hc] at hm ha hh
    rw [List.pairwise_cons] at ha
    rcases List.mem_cons.1 hm with rfl | hm
    · exact ⟨r, rfl⟩
    · have h3 := ha.1 v hm
      have h4 := hh a List.mem_cons_self
      omega
theorem prts_asc (s : Nat → List Nat) (n : Nat) : (prts s n).Pairwise (fun a b => a.headD 0 < b.headD 0) := by
  unfold prts
  rw [List.pairwise_map]
  have h : (lst1 s n).Pairwise (· < ·) := by
    unfold lst1
    exact List.Pairwise.filter _ List.pairwise_lt_range
  refine List.Pairwise.imp_of_mem (R := (· < ·)) (fun {a b} ha hb hab => ?_) h
  obtain ⟨r, e⟩ := head_least ha
  obtain ⟨q, f⟩ := head_least hb
  rw [e, f]
  exact hab
theorem prts_mem {s : Nat → List Nat} {n : Nat} {l : List Nat} : l ∈ prts s n ↔ ∃ v, v < n ∧ l = cmp s n v := by
  unfold prts
  rw [List.mem_map]
  constructor
  · rintro ⟨v, hv, rfl⟩
    exact ⟨v, (lst1_mem.1 hv).1, rfl⟩
  · rintro ⟨v, hv, rfl⟩
    -- the least of its component
    have : ∃ m, m < n ∧ Mut s v m ∧ ∀ w, w < n → Mut s v w → m ≤ w := by
      have key : ∀ k, k < n → Mut s v k → ∃ m, m < n ∧ Mut s v m ∧ ∀ w, w < n → Mut s v w → m ≤ w := by
        intro k
        induction k using Nat.strongRecOn with
        | ind k ih =>
          intro hk hm
          rcases Classical.em (∃ x, x < k ∧ Mut s v x) with ⟨x, hx, hp⟩ | hn
          · exact ih x hx (by omega) hp
          · exact ⟨k, hk, hm, fun w _ hw => Nat.le_of_not_lt fun hl => hn ⟨w, hl, hw⟩⟩
      exact key v hv (Mut.refl s v)
    obtain ⟨m, h1, h2, h3⟩ := this
    exact ⟨m, lst1_mem.2 ⟨h1, fun w hw hm => h3 w hw (h2.trans hm)⟩, (cmp_eq h2).symm⟩
/-- any list of ascending lists, by their heads in order, that are the components, is that -/
theorem prts_uniq {s : Nat → List Nat} {n : Nat} {ps : List (List Nat)} (h1 : ps.Pairwise (fun a b => a.headD 0 < b.headD 0)) (h2 : ∀ l, l ∈ ps ↔ ∃ v, v < n ∧ l = cmp s n v) : ps = prts s n :=
  asc_ext (fun l : List Nat => l.headD 0) _ _ h1 (prts_asc s n) fun l => by rw [h2, prts_mem]
end gr
end Go.Proofs.YtahffafobdiogaaDoor
