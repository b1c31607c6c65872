/- Shortest ways, and cycles by their least vertex: plain. -/
import Derived.Test.YtahffafobdiogaaDoorGpc
namespace Go.Proofs.YtahffafobdiogaaDoor
set_option linter.unusedVariables false
set_option linter.unusedSimpArgs false
namespace gr
/-- a way of d edges from a vertex to t, by vertices from low on -/
inductive Pd (E : Nat → Nat → Bool) (n low t : Nat) : Nat → Nat → Prop
  | zero : Pd E n low t 0 t
  | succ {d u v : Nat} (hu : u < n) (hl : low ≤ u) (h : E u v = true) (k : Pd E n low t d v) : Pd E n low t (d + 1) u
/-- the shortest -/
def Ds (E : Nat → Nat → Bool) (n low t d w : Nat) : Prop := Pd E n low t d w ∧ ∀ e, Pd E n low t e w → d ≤ e
theorem Ds.ex {E : Nat → Nat → Bool} {n low t d w : Nat} (h : Pd E n low t d w) : ∃ e, e ≤ d ∧ Ds E n low t e w := by
  induction d using Nat.strongRecOn with
  | ind d ih =>
    rcases Classical.em (∃ e, e < d ∧ Pd E n low t e w) with ⟨e, he, hp⟩ | hn
    · obtain ⟨f, hf, hd⟩ := ih e he hp
      exact ⟨f, by omega, hd⟩
    · exact ⟨d, Nat.le_refl _, h, fun e he => Nat.le_of_not_lt fun hl => hn ⟨e, hl, he⟩⟩
theorem Ds.uniq {E : Nat → Nat → Bool} {n low t d e w : Nat} (h : Ds E n low t d w) (k : Ds E n low t e w) : d = e := Nat.le_antisymm (h.2 e k.1) (k.2 d h.1)
theorem Pd.zero_iff {E : Nat → Nat → Bool} {n low t w : Nat} : Pd E n low t 0 w ↔ w = t := by
  constructor
  · intro h
    cases h
    rfl
  · rintro rfl
    exact .zero
theorem Ds.zero_iff {E : Nat → Nat → Bool} {n low t w : Nat} : Ds E n low t 0 w ↔ w = t :=
  ⟨fun h => Pd.zero_iff.1 h.1, fun h => ⟨Pd.zero_iff.2 h, fun _ _ => Nat.zero_le _⟩⟩
/-- one level more: those that lead to the level d and are in none up to it -/
theorem Ds.succ_iff {E : Nat → Nat → Bool} {n low t d w : Nat} : Ds E n low t (d + 1) w ↔ w < n ∧ low ≤ w ∧ (∃ v, E w v = true ∧ Ds E n low t d v) ∧ ∀ e, e ≤ d → ¬ Ds E n low t e w := by
  constructor
  · rintro ⟨h, k⟩
    cases h with
    | @succ _ _ v hu hl he hk =>
      refine ⟨hu, hl, ⟨v, he, hk, fun e hp => ?_⟩, fun e hle hd => ?_⟩
      · have := k (e + 1) (.succ hu hl he hp)
        omega
      · have := k e hd.1
        omega
  · rintro ⟨hu, hl, ⟨v, he, hd⟩, hn⟩
    refine ⟨.succ hu hl he hd.1, fun e hp => Nat.le_of_not_lt fun hlt => ?_⟩
    obtain ⟨f, hf, hdf⟩ := Ds.ex hp
    exact hn f (by omega) hdf
/-- a shortest way passes d + 1 vertices -/
theorem Ds.chain {E : Nat → Nat → Bool} {n low t : Nat} (ht : t < n) : ∀ (d w : Nat), Ds E n low t d w → ∃ l : List Nat, l.length = d + 1 ∧ l.Nodup ∧ ∀ x ∈ l, x < n ∧ ∃ e, e ≤ d ∧ Ds E n low t e x
  | 0, w, h => ⟨[w], rfl, by simp, fun x hx => by
      rw [List.mem_singleton] at hx
      subst hx
      exact ⟨Ds.zero_iff.1 h ▸ ht, 0, Nat.le_refl _, h⟩⟩
  | d + 1, w, h => by
    obtain ⟨hu, hl, ⟨v, he, hd⟩, hn⟩ := Ds.succ_iff.1 h
    obtain ⟨l, h1, h2, h3⟩ := Ds.chain ht d v hd
    refine ⟨w :: l, by rw [List.length_cons, h1], List.nodup_cons.2 ⟨fun hm => ?_, h2⟩, fun x hx => ?_⟩
    · obtain ⟨_, e, hle, hde⟩ := h3 w hm
      exact hn e hle hde
    · rcases List.mem_cons.1 hx with rfl | hx
      · exact ⟨hu, d + 1, Nat.le_refl _, h⟩
      · obtain ⟨a, e, b, c⟩ := h3 x hx
        exact ⟨a, e, by omega, c⟩
theorem Ds.lt {E : Nat → Nat → Bool} {n low t d w : Nat} (ht : t < n) (h : Ds E n low t d w) : d < n := by
  obtain ⟨l, h1, h2, h3⟩ := Ds.chain ht d w h
  have := nodup_len' l (List.range n) h2 fun x hx => List.mem_range.2 (h3 x hx).1
  rw [List.length_range] at this
  omega
theorem Way.trans {E : Nat → Nat → Bool} {n : Nat} {u v w : Nat} (h : Way E n u v) (k : Way E n v w) : Way E n u w := by
  induction h with
  | one hu hv he => exact .more hu he k
  | more hu he _ ih => exact .more hu he (ih k)
theorem Way.lt {E : Nat → Nat → Bool} {n : Nat} {u v : Nat} (h : Way E n u v) : u < n ∧ v < n := by
  induction h with
  | one hu hv _ => exact ⟨hu, hv⟩
  | more hu _ _ ih => exact ⟨hu, ih.2⟩
theorem Pd.way {E : Nat → Nat → Bool} {n low t d w : Nat} (ht : t < n) (h : Pd E n low t d w) : w = t ∨ Way E n w t := by
  induction h with
  | zero => exact .inl rfl
  | succ hu hl he k ih =>
    rcases ih with rfl | ih
    · exact .inr (.one hu ht he)
    · exact .inr (.more hu he ih)
/-- there is a way that leads back exactly if there is one by its least vertex: an edge from v to one that leads to v by vertices from v on -/
theorem cycle_least {E : Nat → Nat → Bool} {n : Nat} : (∃ w, Way E n w w) ↔ ∃ v w d, v < n ∧ w < n ∧ E v w = true ∧ Ds E n v v d w := by
  constructor
  · rintro ⟨w, hw⟩
    -- the least vertex that leads back to itself
    have hmin : ∃ m, Way E n m m ∧ ∀ x, Way E n x x → m ≤ x := by
      induction w using Nat.strongRecOn with
      | ind w ih =>
        rcases Classical.em (∃ x, x < w ∧ Way E n x x) with ⟨x, hx, hp⟩ | hn
        · exact ih x hx hp
        · exact ⟨w, hw, fun x hx => Nat.le_of_not_lt fun hl => hn ⟨x, hl, hx⟩⟩
    obtain ⟨m, hm, hl⟩ := hmin
    have hmn := hm.lt.1
    have key : ∀ u, Way E n u m → (u = m ∨ Way E n m u) → ∃ w d, w < n ∧ E u w = true ∧ Pd E n m m d w := by
      intro u hk
      induction hk with
      | one hu hv he => exact fun _ => ⟨_, 0, hv, he, .zero⟩
      | @more u v w hu he k ih =>
        intro hb
        have hmv : Way E n w v := by
          rcases hb with rfl | hb
          · exact .one hu k.lt.1 he
          · exact hb.snoc k.lt.1 he
        obtain ⟨w', d, h1, h2, h3⟩ := ih hm hl hmn (.inr hmv)
        exact ⟨v, d + 1, k.lt.1, he, .succ k.lt.1 (hl v (k.trans hmv)) h2 h3⟩
    obtain ⟨w', d, h1, h2, h3⟩ := key m hm (.inl rfl)
    obtain ⟨e, _, he⟩ := Ds.ex h3
    exact ⟨m, w', e, hmn, h1, h2, he⟩
  · rintro ⟨v, w, d, hv, hw, he, hd⟩
    rcases hd.1.way hv with rfl | h
    · exact ⟨w, .one hv hv he⟩
    · exact ⟨v, .more hv he h⟩
end gr
end Go.Proofs.YtahffafobdiogaaDoor
