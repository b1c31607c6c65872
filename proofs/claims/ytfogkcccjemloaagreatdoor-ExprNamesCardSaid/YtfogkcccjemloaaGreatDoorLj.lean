/- first, for every text. -/
import Derived.Test.YtfogkcccjemloaaGreatDoorLi
namespace Go.Proofs.YtfogkcccjemloaaGreatDoor
set_option linter.unusedVariables false
set_option linter.unusedSimpArgs false
open Go.RowKit
/-- the token in front: kind, text, how many bytes, error -/
def fst (s : ByteArray) : Int × ByteArray × Nat × Int :=
  if h : 0 < s.size then
    if pL ((s[0].toNat : Nat) : Int) = true then
      if sp pI s.data.toList ≤ 40 then (nmK (s.extract 0 (sp pI s.data.toList)), s.extract 0 (sp pI s.data.toList), sp pI s.data.toList, 0) else (0, ⟨#[]⟩, 0, 3)
    else if pG ((s[0].toNat : Nat) : Int) = true then
      if 2 ≤ sp pG s.data.toList ∧ ((s[0].toNat : Nat) : Int) = 48 then (0, ⟨#[]⟩, 0, 5)
      else if numOk (s.extract 0 (sp pG s.data.toList)).data.toList = true then (2, s.extract 0 (sp pG s.data.toList), sp pG s.data.toList, 0) else (0, ⟨#[]⟩, 0, 14)
    else if (((s[0].toNat : Nat) : Int) == 39) = true then
      if Lib.hasPrefix (s.data.toList.drop (1 + sp pW (s.data.toList.drop 1))) [39] = true then (5, s.extract 1 (1 + sp pW (s.data.toList.drop 1)), 1 + sp pW (s.data.toList.drop 1) + 1, 0) else (0, ⟨#[]⟩, 0, 5)
    else if 2 ≤ s.size ∧ isSy (s.extract 0 2) = true then (4, s.extract 0 2, 2, 0)
    else if isSy (s.extract 0 1) = true then (4, s.extract 0 1, 1, 0) else (0, ⟨#[]⟩, 0, 5)
  else (0, ⟨#[]⟩, 0, 0)
def FstR (f : Int × ByteArray × Nat × Int) (a : Int) : Value := .tuple #[tok f.1 f.2.1 a, .int .i64 f.2.2.1, .int .i64 f.2.2.2]
theorem ext_get {s : ByteArray} {k : Nat} (hk : 0 < k) (hs : k ≤ s.size) (h : 0 < (s.extract 0 k).size) (h' : 0 < s.size) : (s.extract 0 k)[0] = s[0] := by
  have e1 := byte_get (s.extract 0 k) 0 h
  have e2 := byte_get s 0 h'
  rw [head_extract, List.getElem?_take_of_lt hk, e2] at e1
  exact (Option.some.inj e1).symm
theorem ext_size (s : ByteArray) (k : Nat) (h : k ≤ s.size) : (s.extract 0 k).size = k := by rw [ByteArray.size_extract]; omega
theorem sp_pos {p : Int → Bool} {s : ByteArray} (h : 0 < s.size) (hp : p ((s[0].toNat : Nat) : Int) = true) : 0 < sp p s.data.toList := by
  have e := byte_get s 0 h
  rcases hl : s.data.toList with _ | ⟨c, r⟩
  · rw [hl] at e; cases e
  · rw [hl] at e
    obtain rfl : c = s[0] := by simpa using e
    rw [sp, List.takeWhile_cons, if_pos hp]
    simp
theorem first_any (s : ByteArray) (w : World) (hstd : Std w) (h : 0 < s.size) (h9 : s.size ≤ 140737488351232) : Calls Tryz.prog 57 #[.string s] w (Bel (FstR (fst s) 0) w) := by
  unfold fst
  rw [dif_pos h]
  have h1 : 1 ≤ s.size := h
  by_cases hL : pL ((s[0].toNat : Nat) : Int) = true
  · rw [if_pos hL]
    have hle := sp_le pI s
    by_cases hk : sp pI s.data.toList ≤ 40
    · rw [if_pos hk]
      refine first_name s _ _ _ _ _ w h1 h9 hL rfl (Lib.hid fun W => ?_)
      have := name_any (s.extract 0 (sp pI s.data.toList)) W (by rw [ext_size _ _ hle]; exact hk)
      rwa [ext_size _ _ hle] at this
    · rw [if_neg hk]
      exact first_name s _ _ _ _ _ w h1 h9 hL rfl (Lib.hid fun W => name_long _ W (by rw [ext_size _ _ hle]; omega) (by rw [ext_size _ _ hle]; omega))
  · rw [if_neg hL]
    rw [Bool.not_eq_true] at hL
    by_cases hG : pG ((s[0].toNat : Nat) : Int) = true
    · rw [if_pos hG]
      have hle := sp_le pG s
      have hp := sp_pos h hG
      have hz := ext_size s _ hle
      have hg : ((s.extract 0 (sp pG s.data.toList))[0]'(by omega)) = s[0] := ext_get hp hle (by omega) h
      by_cases hc : 2 ≤ sp pG s.data.toList ∧ ((s[0].toNat : Nat) : Int) = 48
      · rw [if_pos hc]
        exact first_num s _ _ _ _ w h1 h9 hL hG _ rfl (Lib.hid fun W _ => number_zero _ W (by omega) (by omega) (by rw [hg]; exact hc.2))
      · rw [if_neg hc]
        have kn : ∀ W, Below w.heap.size w W → _ := fun W hb => number_any (s.extract 0 (sp pG s.data.toList)) W (hstd.to hb) (by omega) (by omega) (by rw [hg, hz]; exact hc)
        by_cases hn : numOk (s.extract 0 (sp pG s.data.toList)).data.toList = true
        · rw [if_pos hn]
          refine first_num s _ _ _ _ w h1 h9 hL hG _ rfl (Lib.hid fun W hb => ?_)
          have := kn W hb
          rwa [if_pos hn, hz] at this
        · rw [if_neg hn]
          refine first_num s _ _ _ _ w h1 h9 hL hG _ rfl (Lib.hid fun W hb => ?_)
          have := kn W hb
          rwa [if_neg hn] at this
    · rw [if_neg hG]
      rw [Bool.not_eq_true] at hG
      by_cases hQ : (((s[0].toNat : Nat) : Int) == 39) = true
      · rw [if_pos hQ]
        have kw := fun W => word_any s _ W h9 h1 rfl
        by_cases hp : Lib.hasPrefix (s.data.toList.drop (1 + sp pW (s.data.toList.drop 1))) [39] = true
        · rw [if_pos hp]
          refine first_word s _ _ _ _ w h1 h9 hL hG hQ (Lib.hid fun W => ?_)
          have := kw W
          rwa [if_pos hp] at this
        · rw [if_neg hp]
          refine first_word s _ _ _ _ w h1 h9 hL hG hQ (Lib.hid fun W => ?_)
          have := kw W
          rwa [if_neg hp] at this
      · rw [if_neg hQ]
        rw [Bool.not_eq_true] at hQ
        by_cases h2 : 2 ≤ s.size ∧ isSy (s.extract 0 2) = true
        · rw [if_pos h2]
          exact first_sym s _ _ _ _ w h1 h9 hL hG hQ (Lib.hid fun W => symbol_two s W h2.1 h2.2)
        · rw [if_neg h2]
          by_cases hs : 2 ≤ s.size
          · have hn : isSy (s.extract 0 2) = false := by
              rw [← Bool.not_eq_true]
              exact fun e => h2 ⟨hs, e⟩
            by_cases hy : isSy (s.extract 0 1) = true
            · rw [if_pos hy]
              exact first_sym s _ _ _ _ w h1 h9 hL hG hQ (Lib.hid fun W => symbol_one2 s W hs hn hy)
            · rw [if_neg hy]
              rw [Bool.not_eq_true] at hy
              exact first_sym s _ _ _ _ w h1 h9 hL hG hQ (Lib.hid fun W => symbol_none2 s W hs hn hy)
          · by_cases hy : isSy (s.extract 0 1) = true
            · rw [if_pos hy]
              exact first_sym s _ _ _ _ w h1 h9 hL hG hQ (Lib.hid fun W => symbol_one1 s W (by omega) hy)
            · rw [if_neg hy]
              rw [Bool.not_eq_true] at hy
              exact first_sym s _ _ _ _ w h1 h9 hL hG hQ (Lib.hid fun W => symbol_none1 s W (by omega) hy)
theorem fst_size {s : ByteArray} (h : 0 < s.size) (he : (fst s).2.2.2 = 0) : 0 < (fst s).2.2.1 ∧ (fst s).2.2.1 ≤ s.size := by
  unfold fst at he ⊢
  rw [dif_pos h] at he ⊢
  by_cases hL : pL ((s[0].toNat : Nat) : Int) = true
  · rw [if_pos hL] at he ⊢
    by_cases hk : sp pI s.data.toList ≤ 40
    · rw [if_pos hk]
      exact ⟨sp_pos h (by rw [pI, hL]; rfl), sp_le _ _⟩
    · rw [if_neg hk] at he
      cases he
  · rw [if_neg hL] at he ⊢
    by_cases hG : pG ((s[0].toNat : Nat) : Int) = true
    · rw [if_pos hG] at he ⊢
      by_cases hc : 2 ≤ sp pG s.data.toList ∧ ((s[0].toNat : Nat) : Int) = 48
      · rw [if_pos hc] at he
        cases he
      · rw [if_neg hc] at he ⊢
        by_cases hn : numOk (s.extract 0 (sp pG s.data.toList)).data.toList = true
        · rw [if_pos hn]
          exact ⟨sp_pos h hG, sp_le _ _⟩
        · rw [if_neg hn] at he
          cases he
    · rw [if_neg hG] at he ⊢
      by_cases hQ : (((s[0].toNat : Nat) : Int) == 39) = true
      · rw [if_pos hQ] at he ⊢
        by_cases hp : Lib.hasPrefix (s.data.toList.drop (1 + sp pW (s.data.toList.drop 1))) [39] = true
        · rw [if_pos hp]
          refine ⟨Nat.succ_pos _, ?_⟩
          have hne : s.data.toList.drop (1 + sp pW (s.data.toList.drop 1)) ≠ [] := by
            intro e
            rw [e] at hp
            simp [Lib.hasPrefix] at hp
          have := List.length_pos_iff.2 hne
          rw [List.length_drop, len_toList] at this
          show 1 + sp pW (s.data.toList.drop 1) + 1 ≤ s.size
          omega
        · rw [if_neg hp] at he
          cases he
      · rw [if_neg hQ] at he ⊢
        by_cases h2 : 2 ≤ s.size ∧ isSy (s.extract 0 2) = true
        · rw [if_pos h2]
          exact ⟨Nat.succ_pos _, h2.1⟩
        · rw [if_neg h2] at he ⊢
          by_cases hy : isSy (s.extract 0 1) = true
          · rw [if_pos hy]
            exact ⟨Nat.succ_pos _, h⟩
          · rw [if_neg hy] at he
            cases he
end Go.Proofs.YtfogkcccjemloaaGreatDoor
