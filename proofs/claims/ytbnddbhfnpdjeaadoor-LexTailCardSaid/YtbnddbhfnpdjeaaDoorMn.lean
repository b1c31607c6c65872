/- Facts of scanning for the laws: identifiers, sizes. -/
import Derived.Test.YtbnddbhfnpdjeaaDoorMm
namespace Go.Proofs.YtbnddbhfnpdjeaaDoor
set_option linter.unusedVariables false
set_option linter.unusedSimpArgs false
open Go.RowKit
theorem fL_err0 (l : List UInt8) (h : (fL l).2.2.2 ≠ 0) : (fL l).1 = 0 := by
  rcases l with _ | ⟨c, r⟩
  · rfl
  cases hL : pL ((c.toNat : Nat) : Int)
  · cases hG : pG ((c.toNat : Nat) : Int)
    · by_cases hQ : c = 39
      · subst hQ
        rw [fL_wo rfl] at h ⊢
        split at h <;> simp_all
      · rw [fL_sy hL hG hQ] at h ⊢
        split at h
        · simp at h
        · rename_i h2
          rw [if_neg h2]
          split at h
          · simp at h
          · rename_i h3
            rw [if_neg h3]
    · rw [fL_nu hL hG rfl] at h ⊢
      split at h
      · rename_i h2
        rw [if_pos h2]
      · rename_i h2
        rw [if_neg h2]
        split at h
        · simp at h
        · rename_i h3
          rw [if_neg h3]
  · rw [fL_id hL rfl] at h ⊢
    split at h
    · simp at h
    · rename_i h2
      rw [if_neg h2]
theorem text_le (t : Tk) : t.2.1.size ≤ (jb t).length := by
  rw [jb, len_toList, jt]
  split
  · rw [ByteArray.size_append, ByteArray.size_append]; omega
  · exact Nat.le_refl _
theorem idP_scan {s : ByteArray} (h : idP s = true) : scanL s.data.toList 0 = ([(1, s, 0)], 0, 0) := by
  rw [idP, Bool.and_eq_true, Bool.and_eq_true, decide_eq_true_eq, beq_iff_eq, beq_iff_eq] at h
  obtain ⟨h0, h1, h2⟩ := h
  have hs : fst s = fL s.data.toList := by rw [fL, bt_of]
  rw [hs] at h1 h2
  have hl : s.data.toList ≠ [] := by rw [← List.length_pos_iff, len_toList]; exact h0
  have he : (fL s.data.toList).2.2.2 = 0 := by
    by_cases e : (fL s.data.toList).2.2.2 = 0
    · exact e
    · have := fL_err0 _ e
      rw [h1] at this
      cases this
  obtain ⟨⟨a, tx, n, e⟩, hf⟩ : ∃ f, fL s.data.toList = f := ⟨_, rfl⟩
  rw [hf] at h1 h2 he
  simp only at h1 h2 he
  subst h1; subst he
  have hn : n = s.size := by omega
  obtain ⟨g1, g2, g3⟩ := good_of hl hf 0
  have hj : jb (1, tx, 0) = tx.data.toList := by rw [jb, jt, if_neg (show ¬ (1 : Int) = 5 by decide)]
  rw [hn, List.take_of_length_le (by rw [len_toList]; exact Nat.le_refl _), hj] at g2
  obtain rfl := ba_ext g2
  have hg := g1.gap [] bl_nil
  rw [List.append_nil, hj] at hg
  rw [scanL_go (by rw [hg, len_toList]; exact h0) (by rw [hg, List.drop_zero]; exact hf), hg, hn, Nat.zero_add, Nat.zero_add, List.drop_of_length_le (by rw [len_toList]; exact Nat.le_refl _), scanL_end (by rw [gap_nil]; simp)]
  rfl
theorem scan_idP {s : ByteArray} {p : Int} {n : Nat} (h : scanL s.data.toList 0 = ([(1, s, p)], n, 0)) : idP s = true := by
  have hlt : gapN s.data.toList < s.data.toList.length := by
    by_cases h2 : gapN s.data.toList < s.data.toList.length
    · exact h2
    · rw [scanL_end h2] at h; simp at h
  obtain ⟨⟨a, tx, m, e⟩, hf⟩ : ∃ f, fL (s.data.toList.drop (gapN s.data.toList)) = f := ⟨_, rfl⟩
  by_cases he : e = 0
  · subst he
    rw [scanL_go hlt hf] at h
    split at h
    · injection h with h1 _
      injection h1 with h1 _
      injection h1 with h1 h2
      injection h2 with h2 _
      subst h1; subst h2
      have hne : tx.data.toList.drop (gapN tx.data.toList) ≠ [] := by rw [Ne, List.drop_eq_nil_iff]; omega
      obtain ⟨g1, g2, g3⟩ := good_of hne hf 0
      have hsz := fL_size hne (by rw [hf])
      rw [hf, List.length_drop, len_toList] at hsz
      simp only at hsz
      have hj : jb (1, tx, 0) = tx.data.toList := by rw [jb, jt, if_neg (show ¬ (1 : Int) = 5 by decide)]
      rw [hj, len_toList] at g3
      have hg0 : gapN tx.data.toList = 0 := by omega
      rw [hg0, List.drop_zero] at hf
      have hs : fst tx = fL tx.data.toList := by rw [fL, bt_of]
      rw [idP, hs, hf, Bool.and_eq_true, Bool.and_eq_true, decide_eq_true_eq]
      exact ⟨by omega, rfl, by simp; omega⟩
    · injection h with h1 _
      cases h1
  · rw [scanL_err hlt hf he] at h
    injection h with h1 _
    cases h1
theorem jl_len (l : List UInt8) : ∀ k, (jl (scanL l k).1).length ≤ 2 * l.length := by
  induction l using scan_ind with
  | h0 l h => intro k; rw [scanL_end h]; simp [jl, Lib.join_nil]
  | h1 l a tx n e h hf he => intro k; rw [scanL_err h hf he]; simp [jl, Lib.join_nil]
  | h2 l a tx n h hf hn hle ih =>
    intro k
    rw [scanL_go h hf]
    have := ih (k + (gapN l + n))
    rw [List.length_drop] at this
    simp only
    split
    · obtain ⟨g1, g2, g3⟩ := good_of (by rw [Ne, List.drop_eq_nil_iff]; omega) hf ((k + gapN l : Nat) : Int)
      rw [jl_cons, List.length_append, g3]
      generalize (scanL (l.drop (gapN l + n)) (k + (gapN l + n))).1 = x at *
      rcases x with _ | ⟨a, x⟩
      · simp; omega
      · simp only [List.length_cons]; omega
    · simp [jl, Lib.join_nil]
theorem scan_text (l : List UInt8) : ∀ k, ∀ t ∈ (scanL l k).1, t.2.1.size ≤ l.length := by
  induction l using scan_ind with
  | h0 l h => intro k t ht; rw [scanL_end h] at ht; cases ht
  | h1 l a tx n e h hf he => intro k t ht; rw [scanL_err h hf he] at ht; cases ht
  | h2 l a tx n h hf hn hle ih =>
    intro k t ht
    rw [scanL_go h hf] at ht
    by_cases e0 : (scanL (l.drop (gapN l + n)) (k + (gapN l + n))).2.2 = 0
    · rw [if_pos e0] at ht
      rcases List.mem_cons.1 ht with rfl | ht
      · obtain ⟨g1, g2, g3⟩ := good_of (by rw [Ne, List.drop_eq_nil_iff]; omega) hf ((k + gapN l : Nat) : Int)
        have := text_le (a, tx, ((k + gapN l : Nat) : Int))
        simp only at this ⊢
        omega
      · have := ih _ t ht
        rw [List.length_drop] at this
        omega
    · rw [if_neg e0] at ht
      cases ht
end Go.Proofs.YtbnddbhfnpdjeaaDoor
