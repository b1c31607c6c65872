/- The tokens of joined tokens; all tokens of a text are good. -/
import Derived.Test.YtbnddbhfnpdjeaaDoorMj
namespace Go.Proofs.YtbnddbhfnpdjeaaDoor
set_option linter.unusedVariables false
set_option linter.unusedSimpArgs false
open Go.RowKit
theorem jl_cons (t : Tk) (l : List Tk) : jl (t :: l) = jb t ++ (match l with | [] => [] | _ :: _ => 32 :: jl l) := by
  unfold jl
  rcases l with _ | ⟨a, l⟩
  · rw [List.map_cons, List.map_nil, Lib.join_one]; simp
  · rw [List.map_cons, Lib.join_cons, List.map_cons, Lib.join_cons]
    simp [Lib.joinTail]
theorem scanL_blank (l : List UInt8) (k : Nat) : scanL (32 :: l) k = scanL l (k + 1) := by
  have hg : gapN (32 :: l) = gapN l + 1 := gap_blank rfl
  by_cases h : gapN l < l.length
  · obtain ⟨⟨a, tx, n, e⟩, hf⟩ : ∃ f, fL (l.drop (gapN l)) = f := ⟨_, rfl⟩
    have hf2 : fL ((32 :: l).drop (gapN (32 :: l))) = (a, tx, n, e) := by rw [hg, List.drop_succ_cons]; exact hf
    have h2 : gapN (32 :: l) < (32 :: l).length := by rw [hg, List.length_cons]; omega
    by_cases he : e = 0
    · subst he
      rw [scanL_go h hf, scanL_go h2 hf2, hg, show gapN l + 1 + n = (gapN l + n) + 1 by omega, List.drop_succ_cons, show k + (gapN l + n + 1) = k + 1 + (gapN l + n) by omega, show k + (gapN l + 1) = k + 1 + gapN l by omega]
    · rw [scanL_err h hf he, scanL_err h2 hf2 he, hg, show k + (gapN l + 1) = k + 1 + gapN l by omega]
  · rw [scanL_end h, scanL_end (by rw [hg, List.length_cons]; omega)]
/-- the same tokens, but for the places -/
def same0 (x y : List Tk) : Prop := sameT false x y = true
theorem same0_nil : same0 [] [] := rfl
theorem same0_cons {x y : List Tk} (h : same0 x y) (a : Int) (b : ByteArray) (i j : Int) : same0 ((a, b, i) :: x) ((a, b, j) :: y) := by
  unfold same0 sameT at h ⊢
  rw [Bool.and_eq_true] at h ⊢
  refine ⟨by simpa using h.1, ?_⟩
  rw [List.zip_cons_cons, List.all_cons, h.2, Bool.and_true]
  simp [tkE]
theorem good_scan (l : List Tk) (hl : ∀ t ∈ l, Good t) (k : Nat) : (scanL (jl l) k).2 = (0, 0) ∧ same0 l (scanL (jl l) k).1 := by
  induction l generalizing k with
  | nil =>
    rw [show jl [] = [] from rfl, scanL_end (by rw [gap_nil]; simp)]
    exact ⟨rfl, rfl⟩
  | cons t l ih =>
    have hg := hl t (by simp)
    obtain ⟨r, hr, hb⟩ : ∃ r, jl (t :: l) = jb t ++ r ∧ Bl r := by
      rw [jl_cons]
      rcases l with _ | ⟨a, l⟩
      · exact ⟨[], rfl, bl_nil⟩
      · exact ⟨_, rfl, bl_sp _⟩
    have h0 := hg.gap r hb
    have h1 := hg.one r hb
    have hlen : 0 < (jb t).length := List.length_pos_iff.2 hg.pos
    have hk : (jb t ++ r).drop (gapN (jb t ++ r)) = jb t ++ r := by rw [h0, List.drop_zero]
    have hgo := scanL_go (l := jb t ++ r) (k := k) (by rw [h0, List.length_append]; omega) (by rw [hk]; exact h1)
    rw [h0, Nat.zero_add, List.drop_left' rfl] at hgo
    have hrest : (scanL r (k + (jb t).length)).2 = (0, 0) ∧ same0 l (scanL r (k + (jb t).length)).1 := by
      rw [jl_cons] at hr
      have hr2 := List.append_cancel_left hr
      rw [← hr2]
      rcases l with _ | ⟨a, l⟩
      · simp only
        rw [scanL_end (by rw [gap_nil]; simp)]
        exact ⟨rfl, rfl⟩
      · simp only
        rw [scanL_blank]
        exact ih (fun u hu => hl u (by simp [hu])) _
    rw [hr, hgo]
    have e0 : (scanL r (k + (jb t).length)).2.2 = 0 := by rw [hrest.1]
    rw [if_pos e0]
    refine ⟨hrest.1, ?_⟩
    obtain ⟨a, b, i⟩ := t
    exact same0_cons hrest.2 a b i _
theorem gap_after (l : List UInt8) : gapN (l.drop (gapN l)) = 0 := by
  induction l using gapN.induct with
  | case1 l h ih =>
    rw [gapN_yes h]
    rw [List.drop_drop] at ih
    rw [Nat.add_comm] at ih
    rw [show sp pB l + sp pN (l.drop (sp pB l)) + gapN (l.drop (sp pB l + sp pN (l.drop (sp pB l)))) = gapN (l.drop (sp pB l + sp pN (l.drop (sp pB l)))) + (sp pB l + sp pN (l.drop (sp pB l))) by omega]
    exact ih
  | case2 l h =>
    rw [Bool.not_eq_true] at h
    rw [gapN_no h]
    refine gap_none (fun c r e => ?_) h
    have := tw_end (fun c : UInt8 => pB ((c.toNat : Nat) : Int)) l c (by
      show l[sp pB l]? = some c
      have h2 := congrArg (fun x : List UInt8 => x[0]?) e
      simpa [List.getElem?_drop] using h2)
    exact this
theorem scan_good (l : List UInt8) : ∀ k, ∀ t ∈ (scanL l k).1, Good t := by
  induction l using scan_ind with
  | h0 l h => intro k t ht; rw [scanL_end h] at ht; cases ht
  | h1 l a tx n e h hf he => intro k t ht; rw [scanL_err h hf he] at ht; cases ht
  | h2 l a tx n h hf hn hle ih =>
    intro k t ht
    rw [scanL_go h hf] at ht
    by_cases e0 : (scanL (l.drop (gapN l + n)) (k + (gapN l + n))).2.2 = 0
    · rw [if_pos e0] at ht
      rcases List.mem_cons.1 ht with rfl | ht
      · exact (good_of (by rw [Ne, List.drop_eq_nil_iff]; omega) hf _).1
      · exact ih _ t ht
    · rw [if_neg e0] at ht
      cases ht
/-- where there is an error, its place is within the text -/
theorem scan_place (l : List UInt8) : ∀ k, (scanL l k).2.2 ≠ 0 → k ≤ (scanL l k).2.1 ∧ (scanL l k).2.1 < k + l.length := by
  induction l using scan_ind with
  | h0 l h => intro k hk; rw [scanL_end h] at hk; exact absurd rfl hk
  | h1 l a tx n e h hf he => intro k hk; rw [scanL_err h hf he]; exact ⟨by simp, by simp only; omega⟩
  | h2 l a tx n h hf hn hle ih =>
    intro k hk
    rw [scanL_go h hf] at hk ⊢
    have := ih (k + (gapN l + n)) hk
    rw [List.length_drop] at this
    simp only
    omega
theorem scan_ok (l : List UInt8) : ∀ k, (scanL l k).2.2 = 0 → (scanL l k).2.1 = 0 := by
  induction l using scan_ind with
  | h0 l h => intro k hk; rw [scanL_end h]
  | h1 l a tx n e h hf he => intro k hk; rw [scanL_err h hf he] at hk; exact absurd hk he
  | h2 l a tx n h hf hn hle ih =>
    intro k hk
    rw [scanL_go h hf] at hk ⊢
    exact ih _ hk
end Go.Proofs.YtbnddbhfnpdjeaaDoor
