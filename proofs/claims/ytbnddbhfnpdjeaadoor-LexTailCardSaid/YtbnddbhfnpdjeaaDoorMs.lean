/- Facts of scanning for LexTail. -/
import Derived.Test.YtbnddbhfnpdjeaaDoorMn
namespace Go.Proofs.YtbnddbhfnpdjeaaDoor
set_option linter.unusedVariables false
set_option linter.unusedSimpArgs false
open Go.RowKit
theorem sp_stop {p : Int → Bool} (hp : p 10 = false) (l t : List UInt8) : sp p (l ++ 10 :: t) = sp p l := by
  induction l with
  | nil => exact sp_no hp
  | cons c l ih =>
    rw [List.cons_append]
    cases hc : p ((c.toNat : Nat) : Int)
    · rw [sp_no hc, sp_no hc]
    · rw [sp_yes hc, sp_yes hc, ih]
theorem take_stop (l t : List UInt8) {n : Nat} (h : n ≤ l.length) : (l ++ 10 :: t).take n = l.take n := List.take_append_of_le_length h
theorem drop_stop (l t : List UInt8) {n : Nat} (h : n ≤ l.length) : (l ++ 10 :: t).drop n = l.drop n ++ 10 :: t := List.drop_append_of_le_length h
/-- a token does not see what follows a line feed -/
theorem fL_stop (l t u : List UInt8) (hl : l ≠ []) : fL (l ++ 10 :: t) = fL (l ++ 10 :: u) := by
  rcases l with _ | ⟨c, r⟩
  · exact absurd rfl hl
  rw [List.cons_append, List.cons_append]
  cases hL : pL ((c.toNat : Nat) : Int)
  · cases hG : pG ((c.toNat : Nat) : Int)
    · by_cases hQ : c = 39
      · subst hQ
        have h1 : sp pW (r ++ 10 :: t) = sp pW r := sp_stop rfl r t
        have h2 : sp pW (r ++ 10 :: u) = sp pW r := sp_stop rfl r u
        have hle := sp_length pW r
        rw [fL_wo h1, fL_wo h2, drop_stop r t hle, drop_stop r u hle, take_stop r t hle, take_stop r u hle]
        have e : (r.drop (sp pW r) ++ 10 :: t).head? = (r.drop (sp pW r) ++ 10 :: u).head? := by
          rcases r.drop (sp pW r) with _ | ⟨a, x⟩ <;> rfl
        rw [e]
      · rw [fL_sy hL hG hQ, fL_sy hL hG hQ]
        have e : (c :: (r ++ 10 :: t)).take 2 = (c :: (r ++ 10 :: u)).take 2 := by
          rcases r with _ | ⟨a, x⟩ <;> rfl
        rw [e]
        have e2 : (r ++ 10 :: t ≠ []) = (r ++ 10 :: u ≠ []) := by
          rw [eq_iff_iff]; constructor <;> intro _ <;> simp
        by_cases hs : isSy (bt ((c :: (r ++ 10 :: u)).take 2)) = true
        · rw [if_pos ⟨by simp, hs⟩, if_pos ⟨by simp, hs⟩]
        · rw [if_neg (c := r ++ 10 :: t ≠ [] ∧ _) (fun h => hs h.2), if_neg (c := r ++ 10 :: u ≠ [] ∧ _) (fun h => hs h.2)]
    · have h1 : sp pG (c :: (r ++ 10 :: t)) = sp pG (c :: r) := by rw [← List.cons_append]; exact sp_stop rfl (c :: r) t
      have h2 : sp pG (c :: (r ++ 10 :: u)) = sp pG (c :: r) := by rw [← List.cons_append]; exact sp_stop rfl (c :: r) u
      have hle := sp_length pG (c :: r)
      rw [fL_nu hL hG h1, fL_nu hL hG h2, ← List.cons_append, ← List.cons_append, take_stop _ t hle, take_stop _ u hle]
  · have h1 : sp pI (c :: (r ++ 10 :: t)) = sp pI (c :: r) := by rw [← List.cons_append]; exact sp_stop rfl (c :: r) t
    have h2 : sp pI (c :: (r ++ 10 :: u)) = sp pI (c :: r) := by rw [← List.cons_append]; exact sp_stop rfl (c :: r) u
    have hle := sp_length pI (c :: r)
    rw [fL_id hL h1, fL_id hL h2, ← List.cons_append, ← List.cons_append, take_stop _ t hle, take_stop _ u hle]
/-- nor how long it is: it ends at the line feed at the latest -/
theorem fL_within (l t : List UInt8) (hl : l ≠ []) (he : (fL (l ++ 10 :: t)).2.2.2 = 0) : (fL (l ++ 10 :: t)).2.2.1 ≤ l.length := by
  rw [fL_stop l t [] hl] at he ⊢
  have hsz := fL_size (l := l ++ [10]) (by simp) he
  rw [List.length_append, List.length_singleton] at hsz
  obtain ⟨⟨a, tx, n, e⟩, hf⟩ : ∃ f, fL (l ++ [10]) = f := ⟨_, rfl⟩
  rw [hf] at he hsz ⊢
  simp only at he hsz ⊢
  subst he
  by_cases h : n ≤ l.length
  · exact h
  · obtain ⟨g1, g2, g3⟩ := good_of (by simp) hf 0
    have hn : n = l.length + 1 := by omega
    rw [hn, List.take_of_length_le (by simp)] at g2
    have hj : jb (a, tx, 0) = l ++ [10] := g2.symm
    have ho := g1.one [] bl_nil
    rw [List.append_nil, hj] at ho
    rw [hf] at ho
    -- the same token in front of the line feed alone
    have h3 := fL_stop l [] [120] hl
    rw [hf] at h3
    have hz := good_of (l := l ++ 10 :: [120]) (by simp) h3.symm 0
    exfalso
    have hlast : ∃ b, (l ++ [10]).getLast? = some b ∧ b = 10 := ⟨10, by simp, rfl⟩
    rcases l with _ | ⟨c, r⟩
    · exact hl rfl
    rw [List.cons_append] at hf
    cases hL : pL ((c.toNat : Nat) : Int)
    · cases hG : pG ((c.toNat : Nat) : Int)
      · by_cases hQ : c = 39
        · subst hQ
          rw [fL_wo (sp_stop rfl r [])] at hf
          have hle := sp_length pW r
          split at hf
          · rename_i hh
            injection hf with _ e2
            injection e2 with _ e3
            injection e3 with e3 _
            rw [drop_stop r [] hle] at hh
            simp only [List.length_cons] at hn
            have : sp pW r = r.length := by omega
            rw [this, List.drop_length] at hh
            simp at hh
          · injection hf with _ e2
            injection e2 with _ e3
            injection e3 with e3 _
            omega
        · rw [fL_sy hL hG hQ] at hf
          split at hf
          · rename_i hh
            injection hf with _ e2
            injection e2 with _ e3
            injection e3 with e3 _
            simp only [List.length_cons] at hn
            have h0 : r = [] := List.length_eq_zero_iff.1 (by omega)
            subst h0
            have := (sy_two (a := c) (b := 10) hh.2).1
            cases this
          · split at hf
            · injection hf with _ e2
              injection e2 with _ e3
              injection e3 with e3 _
              simp only [List.length_cons] at hn
              omega
            · injection hf with _ e2
              injection e2 with _ e3
              injection e3 with e3 _
              omega
      · have h1 : sp pG (c :: (r ++ [10])) = sp pG (c :: r) := by rw [← List.cons_append]; exact sp_stop rfl (c :: r) []
        have hle := sp_length pG (c :: r)
        rw [fL_nu hL hG h1] at hf
        split at hf
        · injection hf with _ e2; injection e2 with _ e3; injection e3 with e3 _; omega
        · split at hf
          · injection hf with _ e2; injection e2 with _ e3; injection e3 with e3 _; omega
          · injection hf with _ e2; injection e2 with _ e3; injection e3 with e3 _; omega
    · have h1 : sp pI (c :: (r ++ [10])) = sp pI (c :: r) := by rw [← List.cons_append]; exact sp_stop rfl (c :: r) []
      have hle := sp_length pI (c :: r)
      rw [fL_id hL h1] at hf
      split at hf
      · injection hf with _ e2; injection e2 with _ e3; injection e3 with e3 _; omega
      · injection hf with _ e2; injection e2 with _ e3; injection e3 with e3 _; omega
/-- blanks and remarks up to the line feed -/
theorem gap_stop (l t u : List UInt8) (h : gapN (l ++ 10 :: u) ≤ l.length) : gapN (l ++ 10 :: t) = gapN (l ++ 10 :: u) := by
  generalize hN : l.length = N
  induction N using Nat.strongRecOn generalizing l with
  | ind N ih =>
    subst hN
    rcases l with _ | ⟨c, r⟩
    · rw [List.nil_append, gap_blank rfl] at h
      simp at h
    rw [List.cons_append] at h ⊢
    rw [List.cons_append]
    cases hb : pB ((c.toNat : Nat) : Int)
    · have hpre : Lib.hasPrefix (c :: (r ++ 10 :: t)) [45, 45] = Lib.hasPrefix (c :: (r ++ 10 :: u)) [45, 45] := by
        rcases r with _ | ⟨a, x⟩ <;> rfl
      cases hd : Lib.hasPrefix (c :: (r ++ 10 :: u)) [45, 45]
      · rw [gap_none (fun c' r' e => by injection e with e _; rw [← e]; exact hb) hd, gap_none (fun c' r' e => by injection e with e _; rw [← e]; exact hb) (by rw [hpre]; exact hd)]
      · have h1 : sp pN (c :: (r ++ 10 :: t)) = sp pN (c :: r) := by rw [← List.cons_append]; exact sp_stop rfl (c :: r) t
        have h2 : sp pN (c :: (r ++ 10 :: u)) = sp pN (c :: r) := by rw [← List.cons_append]; exact sp_stop rfl (c :: r) u
        have hle := sp_length pN (c :: r)
        have hpos := sp_dash hd
        rw [h2] at hpos
        have e1 : gapN (c :: (r ++ 10 :: u)) = sp pN (c :: r) + gapN ((c :: r).drop (sp pN (c :: r)) ++ 10 :: u) := by
          rw [gap_dash hd, h2, ← List.cons_append, drop_stop _ u hle]
        have e2 : gapN (c :: (r ++ 10 :: t)) = sp pN (c :: r) + gapN ((c :: r).drop (sp pN (c :: r)) ++ 10 :: t) := by
          rw [gap_dash (by rw [hpre]; exact hd), h1, ← List.cons_append, drop_stop _ t hle]
        rw [e1] at h
        rw [e1, e2, ih ((c :: r).drop (sp pN (c :: r))).length (by rw [List.length_drop]; omega) _ (by rw [List.length_drop]; omega) rfl]
    · rw [gap_blank hb] at h ⊢
      rw [gap_blank hb, ih r.length (by simp) r (by simp at h; omega) rfl]
/-- an error stays where it is, whatever follows the line feed -/
theorem scan_stop (l : List UInt8) (t : List UInt8) : ∀ k, (scanL (l ++ [10]) k).2.2 ≠ 0 → (scanL (l ++ 10 :: t) k).2 = (scanL (l ++ [10]) k).2 := by
  generalize hN : l.length = N
  induction N using Nat.strongRecOn generalizing l with
  | ind N ih =>
    subst hN
    intro k hk
    have hlt : gapN (l ++ [10]) < (l ++ [10]).length := by
      by_cases h : gapN (l ++ [10]) < (l ++ [10]).length
      · exact h
      · rw [scanL_end h] at hk; exact absurd rfl hk
    rw [List.length_append, List.length_singleton] at hlt
    have hg := gap_stop l t [] (by omega)
    obtain ⟨g, hgg⟩ : ∃ g, gapN (l ++ [10]) = g := ⟨_, rfl⟩
    rw [hgg] at hg hlt
    have hgl : g ≤ l.length := by omega
    have hd1 : (l ++ [10]).drop g = l.drop g ++ [10] := drop_stop l [] hgl
    have hd2 : (l ++ 10 :: t).drop g = l.drop g ++ 10 :: t := drop_stop l t hgl
    have hne : l.drop g ≠ [] := by
      intro e
      have h0 := gap_after (l ++ [10])
      rw [hgg, hd1, e, List.nil_append, gap_blank rfl] at h0
      cases h0
    obtain ⟨⟨a, tx, n, e⟩, hf⟩ : ∃ f, fL (l.drop g ++ [10]) = f := ⟨_, rfl⟩
    have hf2 : fL (l.drop g ++ 10 :: t) = (a, tx, n, e) := by rw [fL_stop _ t [] hne]; exact hf
    have g1 : gapN (l ++ [10]) < (l ++ [10]).length := by rw [hgg, List.length_append, List.length_singleton]; omega
    have g2 : gapN (l ++ 10 :: t) < (l ++ 10 :: t).length := by rw [hg, List.length_append, List.length_cons]; omega
    by_cases he : e = 0
    · subst he
      have hn := fL_within (l.drop g) [] hne (by rw [hf])
      rw [hf, List.length_drop] at hn
      simp only at hn
      have hsz := fL_size (l := l.drop g ++ [10]) (by simp) (by rw [hf])
      rw [hf] at hsz
      have hnp : 0 < n := hsz.1
      have e1 := scanL_go (k := k) g1 (by rw [hgg, hd1]; exact hf)
      have e2 := scanL_go (k := k) g2 (by rw [hg, hd2]; exact hf2)
      rw [hgg, drop_stop l [] (by omega)] at e1
      rw [hg, drop_stop l t (by omega)] at e2
      rw [e1] at hk ⊢
      rw [e2]
      exact ih (l.drop (g + n)).length (by rw [List.length_drop]; omega) _ rfl _ hk
    · rw [scanL_err g1 (by rw [hgg, hd1]; exact hf) he, scanL_err g2 (by rw [hg, hd2]; exact hf2) he, hg, hgg]
/-- the places move with what stands in front -/
def mvT (d : Nat) (t : Tk) : Tk := (t.1, t.2.1, t.2.2 + (d : Int))
theorem scan_move (l : List UInt8) (d : Nat) : ∀ k, (scanL l (k + d)).2.2 = (scanL l k).2.2 ∧ (scanL l (k + d)).1 = (scanL l k).1.map (mvT d) ∧ ((scanL l k).2.2 ≠ 0 → (scanL l (k + d)).2.1 = (scanL l k).2.1 + d) := by
  induction l using scan_ind with
  | h0 l h => intro k; rw [scanL_end h, scanL_end h]; exact ⟨rfl, rfl, fun h => absurd rfl h⟩
  | h1 l a tx n e h hf he => intro k; rw [scanL_err h hf he, scanL_err h hf he]; exact ⟨rfl, rfl, fun _ => by simp only; omega⟩
  | h2 l a tx n h hf hn hle ih =>
    intro k
    obtain ⟨i1, i2, i3⟩ := ih (k + (gapN l + n))
    rw [scanL_go h hf, scanL_go h hf, show k + d + (gapN l + n) = k + (gapN l + n) + d by omega]
    refine ⟨i1, ?_, i3⟩
    simp only
    rw [i1]
    by_cases h0 : (scanL (l.drop (gapN l + n)) (k + (gapN l + n))).2.2 = 0
    · rw [if_pos h0, if_pos h0, List.map_cons, i2]
      congr 1
      simp only [mvT, Prod.mk.injEq, true_and]
      omega
    · rw [if_neg h0, if_neg h0]; rfl
theorem scan_blanks (d : Nat) (l : List UInt8) : ∀ k, scanL (List.replicate d 32 ++ l) k = scanL l (k + d) := by
  induction d with
  | zero => intro k; rfl
  | succ d ih =>
    intro k
    rw [List.replicate_succ, List.cons_append, scanL_blank, ih, show k + 1 + d = k + (d + 1) by omega]
end Go.Proofs.YtbnddbhfnpdjeaaDoor
