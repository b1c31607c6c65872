/- A search put together from parts; the members of a row of words, in order: plain. -/
import Derived.Test.YtahffafobdiogaaDoorGpg
namespace Go.Proofs.YtahffafobdiogaaDoor
set_option linter.unusedVariables false
set_option linter.unusedSimpArgs false
namespace gr
theorem Dfs.app {s : Nat → List Nat} {l m S L S1 L1 S2 L2 : List Nat} (h : Dfs s l S L S1 L1) (k : Dfs s m S1 L1 S2 L2) : Dfs s (l ++ m) S L S2 L2 := by
  induction h with
  | nil S L => exact k
  | skip h _ ih => exact .skip h (ih k)
  | go h k1 _ _ ih2 => exact .go h k1 (ih2 k)
theorem Dfs.skips {s : Nat → List Nat} {l S L : List Nat} (h : ∀ x ∈ l, x ∈ S) : Dfs s l S L S L := by
  induction l with
  | nil => exact .nil S L
  | cons a l ih => exact .skip (h a List.mem_cons_self) (ih fun x hx => h x (List.mem_cons_of_mem _ hx))
/-- those that were seen at some time before may be left out -/
theorem Dfs.filtered {s : Nat → List Nat} {p : Nat → Bool} : ∀ (l S L S' L' : List Nat), (∀ x ∈ l, p x = false → x ∈ S) → Dfs s (l.filter p) S L S' L' → Dfs s l S L S' L'
  | [], _, _, _, _, _, h => h
  | a :: l, S, L, S', L', hp, h => by
    rw [List.filter_cons] at h
    by_cases ha : p a = true
    · rw [if_pos ha] at h
      cases h with
      | skip h1 k => exact .skip h1 (Dfs.filtered l S L S' L' (fun x hx hf => hp x (List.mem_cons_of_mem _ hx) hf) k)
      | @go _ _ _ _ S1 L1 _ _ h1 k1 k2 =>
        exact .go h1 k1 (Dfs.filtered l S1 _ S' L' (fun x hx hf => k1.sub.1 x (List.mem_cons_of_mem _ (hp x (List.mem_cons_of_mem _ hx) hf))) k2)
    · rw [if_neg ha] at h
      exact .skip (hp a List.mem_cons_self (by simpa using ha)) (Dfs.filtered l S L S' L' (fun x hx hf => hp x (List.mem_cons_of_mem _ hx) hf) h)
/-- the members of a row of words: the i-th word holds those from 64 i on -/
def memW (l : List Nat) : List Nat := (List.range l.length).flatMap fun i => (bitsL (l.getD i 0)).map (i * 64 + ·)
theorem memW_mem {l : List Nat} {v : Nat} : v ∈ memW l ↔ v / 64 < l.length ∧ inW l v = true := by
  unfold memW inW
  rw [List.mem_flatMap]
  constructor
  · rintro ⟨i, hi, hv⟩
    obtain ⟨b, hb, rfl⟩ := List.mem_map.1 hv
    obtain ⟨h1, h2⟩ := bitsL_mem.1 hb
    rw [List.mem_range] at hi
    have e1 : (i * 64 + b) / 64 = i := by omega
    have e2 : (i * 64 + b) % 64 = b := by omega
    rw [e1, e2]
    exact ⟨hi, h2⟩
  · rintro ⟨h1, h2⟩
    refine ⟨v / 64, List.mem_range.2 h1, List.mem_map.2 ⟨v % 64, bitsL_mem.2 ⟨by omega, h2⟩, by omega⟩⟩
theorem bitsL_asc (x : Nat) : (bitsL x).Pairwise (· < ·) := List.Pairwise.filter _ List.pairwise_lt_range
theorem memW_asc (l : List Nat) : (memW l).Pairwise (· < ·) := by
  unfold memW
  rw [List.pairwise_flatMap]
  refine ⟨fun i _ => ?_, ?_⟩
  · rw [List.pairwise_map]
    exact (bitsL_asc _).imp fun {a b} h => by omega
  · refine List.pairwise_lt_range.imp fun {i j} hij a ha b hb => ?_
    obtain ⟨x, hx, rfl⟩ := List.mem_map.1 ha
    obtain ⟨y, hy, rfl⟩ := List.mem_map.1 hb
    have := (bitsL_mem.1 hx).1
    omega
end gr
end Go.Proofs.YtahffafobdiogaaDoor
