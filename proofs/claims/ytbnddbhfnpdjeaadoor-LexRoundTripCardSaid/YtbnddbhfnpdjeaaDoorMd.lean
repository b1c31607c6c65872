/- What is scanned, written again, is scanned again. -/
import Derived.Test.YtbnddbhfnpdjeaaDoorMc
import Derived.Test.YtbnddbhfnpdjeaaDoorLq
namespace Go.Proofs.YtbnddbhfnpdjeaaDoor
set_option linter.unusedVariables false
set_option linter.unusedSimpArgs false
open Go.RowKit
/-- nothing, or a blank in front -/
def Bl (r : List UInt8) : Prop := ∀ c r', r = c :: r' → pB ((c.toNat : Nat) : Int) = true
theorem bl_nil : Bl [] := fun _ _ h => by cases h
theorem bl_sp (r : List UInt8) : Bl (32 :: r) := fun c r' h => by injection h with h _; rw [← h]; rfl
theorem sp_app {p : Int → Bool} {l r : List UInt8} (hl : ∀ c ∈ l, p ((c.toNat : Nat) : Int) = true) (hr : ∀ c r', r = c :: r' → p ((c.toNat : Nat) : Int) = false) : sp p (l ++ r) = l.length := by
  induction l with
  | nil =>
    rcases r with _ | ⟨c, r⟩
    · rfl
    · exact sp_no (hr c r rfl)
  | cons a l ih =>
    rw [List.cons_append, sp_yes (hl a (by simp)), ih (fun c h => hl c (by simp [h])), List.length_cons]
theorem sp_take (p : Int → Bool) (l : List UInt8) : ∀ c ∈ l.take (sp p l), p ((c.toNat : Nat) : Int) = true := by
  induction l with
  | nil => intro c h; simp at h
  | cons a l ih =>
    cases ha : p ((a.toNat : Nat) : Int)
    · rw [sp_no ha]; intro c h; simp at h
    · rw [sp_yes ha]
      intro c h
      rw [List.take_succ_cons, List.mem_cons] at h
      rcases h with rfl | h
      · exact ha
      · exact ih c h
theorem blank_no {n : Int} (h : pB n = true) : pL n = false ∧ pG n = false ∧ pI n = false ∧ pW n = false ∧ n ≠ 39 ∧ n ≠ 45 := by
  have e : n = 32 ∨ n = 9 ∨ n = 10 ∨ n = 13 := by
    simp only [pB, Bool.or_eq_true, beq_iff_eq] at h
    omega
  rcases e with rfl | rfl | rfl | rfl <;> decide
theorem bl_not {p : Int → Bool} (hp : ∀ n, pB n = true → p n = false) {r : List UInt8} (h : Bl r) : ∀ c r', r = c :: r' → p ((c.toNat : Nat) : Int) = false := fun c r' e => hp _ (h c r' e)
/-- the bytes of a token as it is written -/
def jb (t : Tk) : List UInt8 := (jt t).data.toList
structure Good (t : Tk) : Prop where
  pos : jb t ≠ []
  one : ∀ r, Bl r → fL (jb t ++ r) = (t.1, t.2.1, (jb t).length, 0)
  gap : ∀ r, Bl r → gapN (jb t ++ r) = 0
theorem jb_plain {a : Int} {l : List UInt8} {k : Int} (h : a ≠ 5) : jb (a, bt l, k) = l := by
  rw [jb, jt, if_neg h]
  exact bt_list l
theorem jb_word {l : List UInt8} {k : Int} : jb (5, bt l, k) = 39 :: (l ++ [39]) := by
  rw [jb, jt, if_pos rfl, ByteArray.data_append, ByteArray.data_append, Array.toList_append, Array.toList_append]
  rfl
theorem nmK_ne (s : ByteArray) : nmK s ≠ 5 := by unfold nmK; split <;> decide
theorem gap_head {c : UInt8} {r : List UInt8} (hb : pB ((c.toNat : Nat) : Int) = false) (hd : c = 45 → ∀ d r', r = d :: r' → d ≠ 45) : gapN (c :: r) = 0 := by
  apply gap_none
  · intro c' r' e
    injection e with e1 _
    rw [← e1]; exact hb
  · rw [← Bool.not_eq_true]
    intro hp
    obtain ⟨r', hr⟩ := pre2 hp
    injection hr with e1 e2
    exact hd e1 45 r' e2 rfl
theorem letter_no {n : Int} (h : pL n = true) : pB n = false ∧ n ≠ 45 := by
  simp only [pL, decide_eq_true_eq] at h
  refine ⟨?_, by omega⟩
  simp only [pB, Bool.or_eq_false_iff, beq_eq_false_iff_ne]
  omega
theorem digit_no {n : Int} (h : pG n = true) : pB n = false ∧ n ≠ 45 := by
  simp only [pG, decide_eq_true_eq] at h
  refine ⟨?_, by omega⟩
  simp only [pB, Bool.or_eq_false_iff, beq_eq_false_iff_ne]
  omega
theorem ne45 {c : UInt8} (h : ((c.toNat : Nat) : Int) ≠ 45) : c ≠ 45 := by rintro rfl; exact h rfl
theorem sy_two {a b : UInt8} (h : isSy (bt [a, b]) = true) : pB ((b.toNat : Nat) : Int) = false ∧ b ≠ 45 ∧ pB ((a.toNat : Nat) : Int) = false := by
  obtain ⟨j, hj⟩ := isSy_mem h
  have hj17 : j < 17 := by have := (List.getElem?_eq_some_iff.1 hj).1; rwa [syB_len] at this
  have key : ∀ j : Fin 17, ∀ x, (syB.map (fun x : ByteArray => x.data.toList))[j.val]? = some x → (∀ a b, x = [a, b] → pB ((b.toNat : Nat) : Int) = false ∧ b ≠ 45 ∧ pB ((a.toNat : Nat) : Int) = false) ∧ (∀ a, x = [a] → pB ((a.toNat : Nat) : Int) = false) := by
    intro j x hx
    have hm := List.mem_of_getElem? hx
    simp only [syB, List.map_cons, List.map_nil, List.mem_cons, List.not_mem_nil, or_false] at hm
    rcases hm with rfl | rfl | rfl | rfl | rfl | rfl | rfl | rfl | rfl | rfl | rfl | rfl | rfl | rfl | rfl | rfl | rfl
    all_goals
      constructor
      · intro a b e
        first
          | (injection e with e1 e2; injection e2 with e2 _; subst e1; subst e2; decide)
          | (simp at e)
      · intro a e
        first
          | (injection e with e1 _; subst e1; decide)
          | (simp at e)
  exact (key ⟨j, hj17⟩ [a, b] (by rw [List.getElem?_map, hj]; rfl)).1 a b rfl
theorem sy_one {a : UInt8} (h : isSy (bt [a]) = true) : pB ((a.toNat : Nat) : Int) = false := by
  obtain ⟨j, hj⟩ := isSy_mem h
  have hj17 : j < 17 := by have := (List.getElem?_eq_some_iff.1 hj).1; rwa [syB_len] at this
  have key : ∀ x ∈ syB.map (fun x : ByteArray => x.data.toList), ∀ a, x = [a] → pB ((a.toNat : Nat) : Int) = false := by
    intro x hm
    simp only [syB, List.map_cons, List.map_nil, List.mem_cons, List.not_mem_nil, or_false] at hm
    rcases hm with rfl | rfl | rfl | rfl | rfl | rfl | rfl | rfl | rfl | rfl | rfl | rfl | rfl | rfl | rfl | rfl | rfl
    all_goals
      intro a e
      first
        | (injection e with e1 _; subst e1; decide)
        | (simp at e)
  exact key [a] (List.mem_map.2 ⟨_, List.mem_of_getElem? hj, rfl⟩) a rfl
theorem good_of {l : List UInt8} {a : Int} {tx : ByteArray} {n : Nat} (hl : l ≠ []) (hf : fL l = (a, tx, n, 0)) (k : Int) : Good (a, tx, k) ∧ l.take n = jb (a, tx, k) ∧ (jb (a, tx, k)).length = n := by
  rcases l with _ | ⟨c, r⟩
  · exact absurd rfl hl
  have hsz := fL_size hl (by rw [hf])
  rw [hf] at hsz
  simp only at hsz
  cases hL : pL ((c.toNat : Nat) : Int)
  · cases hG : pG ((c.toNat : Nat) : Int)
    · by_cases hQ : c = 39
      · subst hQ
        rw [fL_wo rfl] at hf
        by_cases hh : (r.drop (sp pW r)).head? = some 39
        · rw [if_pos hh] at hf
          injection hf with e1 e2
          injection e2 with e2 e3
          injection e3 with e3 _
          subst e1; subst e2; subst e3
          have hle := sp_length pW r
          obtain ⟨r2, hr2⟩ : ∃ r2, r.drop (sp pW r) = 39 :: r2 := by
            rcases hd : r.drop (sp pW r) with _ | ⟨b, r2⟩
            · rw [hd] at hh; cases hh
            · rw [hd] at hh
              obtain rfl : b = 39 := by simpa using hh
              exact ⟨r2, rfl⟩
          have hjb : jb (5, bt (r.take (sp pW r)), k) = 39 :: (r.take (sp pW r) ++ [39]) := jb_word
          have hlen : (r.take (sp pW r)).length = sp pW r := by rw [List.length_take]; omega
          refine ⟨⟨by rw [hjb]; simp, fun q hq => ?_, fun q hq => ?_⟩, ?_, ?_⟩
          · rw [hjb]
            have e : sp pW (r.take (sp pW r) ++ [39] ++ q) = sp pW r := by
              rw [List.append_assoc, sp_app (sp_take pW r) (fun c r' e => by simp at e; rw [← e.1]; rfl), hlen]
            rw [List.cons_append, fL_wo e]
            have e2 : (r.take (sp pW r) ++ [39] ++ q).drop (sp pW r) = 39 :: q := by
              rw [List.append_assoc]
              exact List.drop_left' hlen
            have e3 : (r.take (sp pW r) ++ [39] ++ q).take (sp pW r) = r.take (sp pW r) := by
              rw [List.append_assoc]
              rw [List.take_left' hlen]
            rw [e2, e3, List.head?_cons, if_pos rfl]
            simp [hlen]
          · rw [hjb, List.cons_append]
            exact gap_head (by decide) (fun e => by cases e)
          · rw [hjb]
            have h39 : r[sp pW r]? = some 39 := by
              have := congrArg (fun l : List UInt8 => l[0]?) hr2
              simpa [List.getElem?_drop] using this
            show (39 :: r).take (sp pW r + 1 + 1) = _
            rw [List.take_succ_cons, take_succ_of h39]
          · rw [hjb]
            simp [hlen]
        · rw [if_neg hh] at hf
          simp at hf
      · rw [fL_sy hL hG hQ] at hf
        have hno : ∀ q, fL (c :: q) = _ := fun q => fL_sy (r := q) hL hG hQ
        by_cases h2 : r ≠ [] ∧ isSy (bt ((c :: r).take 2)) = true
        · rw [if_pos h2] at hf
          injection hf with e1 e2
          injection e2 with e2 e3
          injection e3 with e3 _
          subst e1; subst e2; subst e3
          rcases r with _ | ⟨b, r⟩
          · exact absurd rfl h2.1
          have h2y : isSy (bt [c, b]) = true := h2.2
          have hjb : jb (4, bt ((c :: b :: r).take 2), k) = [c, b] := by rw [jb_plain (by decide)]; rfl
          have hb := sy_two h2y
          refine ⟨⟨by rw [hjb]; simp, fun q hq => ?_, fun q hq => ?_⟩, ?_, ?_⟩
          · rw [hjb]
            show fL (c :: b :: q) = _
            rw [hno, if_pos ⟨by simp, h2y⟩]
            rfl
          · rw [hjb]
            exact gap_head hb.2.2 (fun _ d r' e => by injection e with e _; rw [← e]; exact hb.2.1)
          · rw [hjb]; rfl
          · rw [hjb]; rfl
        · rw [if_neg h2] at hf
          by_cases h1 : isSy (bt [c]) = true
          · rw [if_pos h1] at hf
            injection hf with e1 e2
            injection e2 with e2 e3
            injection e3 with e3 _
            subst e1; subst e2; subst e3
            have hjb : jb (4, bt [c], k) = [c] := jb_plain (by decide)
            refine ⟨⟨by rw [hjb]; simp, fun q hq => ?_, fun q hq => ?_⟩, ?_, ?_⟩
            · rw [hjb]
              show fL (c :: q) = _
              rw [hno, if_neg, if_pos h1]
              · rfl
              · rintro ⟨hq1, hq2⟩
                rcases q with _ | ⟨b, q⟩
                · exact hq1 rfl
                · have := (sy_two (a := c) (b := b) hq2).1
                  rw [hq b q rfl] at this
                  cases this
            · rw [hjb]
              exact gap_head (sy_one h1) (fun _ d r' e => by
                have := (blank_no (hq d r' (by simpa using e))).2.2.2.2.2
                exact ne45 this)
            · rw [hjb]; rfl
            · rw [hjb]; rfl
          · rw [if_neg h1] at hf
            simp at hf
    · rw [fL_nu hL hG rfl] at hf
      by_cases h0 : 2 ≤ sp pG (c :: r) ∧ ((c.toNat : Nat) : Int) = 48
      · rw [if_pos h0] at hf
        simp at hf
      · rw [if_neg h0] at hf
        by_cases hn : numOk ((c :: r).take (sp pG (c :: r))) = true
        · rw [if_pos hn] at hf
          injection hf with e1 e2
          injection e2 with e2 e3
          injection e3 with e3 _
          subst e1; subst e2; subst e3
          have hle := sp_length pG (c :: r)
          have hlen : ((c :: r).take (sp pG (c :: r))).length = sp pG (c :: r) := by rw [List.length_take]; omega
          have hjb : jb (2, bt ((c :: r).take (sp pG (c :: r))), k) = (c :: r).take (sp pG (c :: r)) := jb_plain (by decide)
          obtain ⟨m, hm⟩ : ∃ m, sp pG (c :: r) = m + 1 := ⟨sp pG r, sp_yes hG⟩
          have hcons : (c :: r).take (sp pG (c :: r)) = c :: r.take m := by rw [hm, List.take_succ_cons]
          refine ⟨⟨by rw [hjb, hcons]; simp, fun q hq => ?_, fun q hq => ?_⟩, ?_, ?_⟩
          · rw [hjb]
            have e : sp pG ((c :: r).take (sp pG (c :: r)) ++ q) = sp pG (c :: r) := by
              rw [sp_app (sp_take pG _) (bl_not (fun n h => (blank_no h).2.1) hq), hlen]
            have e3 : ((c :: r).take (sp pG (c :: r)) ++ q).take (sp pG (c :: r)) = (c :: r).take (sp pG (c :: r)) := List.take_left' hlen
            rw [hlen]
            generalize sp pG (c :: r) = z at *
            rw [hcons] at e e3 hn ⊢
            rw [List.cons_append] at e e3 ⊢
            rw [fL_nu hL hG e, if_neg h0, e3, if_pos hn]
          · rw [hjb, hcons, List.cons_append]
            exact gap_head (digit_no hG).1 (fun e => absurd e (ne45 (digit_no hG).2))
          · rw [hjb]
          · rw [hjb, hlen]
        · rw [if_neg hn] at hf
          simp at hf
  · rw [fL_id hL rfl] at hf
    by_cases h4 : sp pI (c :: r) ≤ 40
    · rw [if_pos h4] at hf
      injection hf with e1 e2
      injection e2 with e2 e3
      injection e3 with e3 _
      subst e1; subst e2; subst e3
      have hle := sp_length pI (c :: r)
      have hlen : ((c :: r).take (sp pI (c :: r))).length = sp pI (c :: r) := by rw [List.length_take]; omega
      have hjb : jb (nmK (bt ((c :: r).take (sp pI (c :: r)))), bt ((c :: r).take (sp pI (c :: r))), k) = (c :: r).take (sp pI (c :: r)) := jb_plain (nmK_ne _)
      have hI : pI ((c.toNat : Nat) : Int) = true := by rw [pI, hL]; rfl
      obtain ⟨m, hm⟩ : ∃ m, sp pI (c :: r) = m + 1 := ⟨sp pI r, sp_yes hI⟩
      have hcons : (c :: r).take (sp pI (c :: r)) = c :: r.take m := by rw [hm, List.take_succ_cons]
      refine ⟨⟨by rw [hjb, hcons]; simp, fun q hq => ?_, fun q hq => ?_⟩, ?_, ?_⟩
      · rw [hjb]
        have e : sp pI ((c :: r).take (sp pI (c :: r)) ++ q) = sp pI (c :: r) := by
          rw [sp_app (sp_take pI _) (bl_not (fun n h => (blank_no h).2.2.1) hq), hlen]
        have e3 : ((c :: r).take (sp pI (c :: r)) ++ q).take (sp pI (c :: r)) = (c :: r).take (sp pI (c :: r)) := List.take_left' hlen
        rw [hlen]
        generalize sp pI (c :: r) = z at *
        rw [hcons] at e e3 ⊢
        rw [List.cons_append] at e e3 ⊢
        rw [fL_id hL e, e3, if_pos h4]
      · rw [hjb, hcons, List.cons_append]
        exact gap_head (letter_no hL).1 (fun e => absurd e (ne45 (letter_no hL).2))
      · rw [hjb]
      · rw [hjb, hlen]
    · rw [if_neg h4] at hf
      simp at hf
end Go.Proofs.YtbnddbhfnpdjeaaDoor
