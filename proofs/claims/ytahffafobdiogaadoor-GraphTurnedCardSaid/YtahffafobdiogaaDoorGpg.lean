/- A search in breadth by a queue: plain. -/
import Derived.Test.YtahffafobdiogaaDoorGpf
namespace Go.Proofs.YtahffafobdiogaaDoor
set_option linter.unusedVariables false
set_option linter.unusedSimpArgs false
namespace gr
abbrev Dst := Nat → Option Nat
def Dst.put (D : Dst) (w d : Nat) : Dst := fun x => if x = w then some d else D x
/-- while the neighbours of v (at distance dv) are looked at: those in rest are still to come; todo is the queue behind v -/
structure Bfs (E : Nat → Nat → Bool) (n low t : Nat) (D : Dst) (v dv : Nat) (rest todo : List Nat) : Prop where
  ht : t < n
  sound : ∀ w d, D w = some d → Ds E n low t d w ∧ w < n
  at_ : D v = some dv
  queue : ∀ x ∈ todo, ∃ e, D x = some e ∧ dv ≤ e ∧ e ≤ dv + 1
  sorted : todo.Pairwise (fun a b => ∀ d e, D a = some d → D b = some e → d ≤ e)
  full : ∀ w e, Ds E n low t e w → e ≤ dv → D w = some e
  closed : ∀ x d, D x = some d → x ∉ todo → x ≠ v → ∀ w, w < n → low ≤ w → E w x = true → D w ≠ none
  done : v ∉ todo → ∀ w, w < n → low ≤ w → E w v = true → w ∉ rest → D w ≠ none
/-- a neighbour that is known, or is not wanted -/
theorem Bfs.skip {E : Nat → Nat → Bool} {n low t : Nat} {D : Dst} {v dv w : Nat} {rest todo : List Nat} (h : Bfs E n low t D v dv (w :: rest) todo) (hw : D w ≠ none ∨ ¬ low ≤ w) : Bfs E n low t D v dv rest todo where
  ht := h.ht
  sound := h.sound
  at_ := h.at_
  queue := h.queue
  sorted := h.sorted
  full := h.full
  closed := h.closed
  done := fun hv x hx hl he hr => by
    by_cases e : x = w
    · subst e
      rcases hw with hw | hw
      · exact hw
      · exact absurd hl hw
    · exact h.done hv x hx hl he fun hm => by
        rcases List.mem_cons.1 hm with hm | hm
        · exact e hm
        · exact hr hm
/-- a new one -/
theorem Bfs.add {E : Nat → Nat → Bool} {n low t : Nat} {D : Dst} {v dv w : Nat} {rest todo : List Nat} (h : Bfs E n low t D v dv (w :: rest) todo) (hn : w < n) (hl : low ≤ w) (he : E w v = true) (hw : D w = none) :
    Bfs E n low t (D.put w (dv + 1)) v dv rest (todo ++ [w]) := by
  have hds : Ds E n low t (dv + 1) w := Ds.succ_iff.2 ⟨hn, hl, ⟨v, he, (h.sound v dv h.at_).1⟩, fun e hle hd => by
    have := h.full w e hd hle
    rw [hw] at this
    cases this⟩
  have hold : ∀ x, x ≠ w → D.put w (dv + 1) x = D x := fun x hx => by unfold Dst.put; rw [if_neg hx]
  have hnew : D.put w (dv + 1) w = some (dv + 1) := by unfold Dst.put; rw [if_pos rfl]
  have hne : ∀ x d, D x = some d → x ≠ w := fun x d hx e => by
    rw [e, hw] at hx
    cases hx
  have hnn : ∀ x, D x ≠ none → D.put w (dv + 1) x ≠ none := fun x hx => by
    by_cases e : x = w
    · rw [e, hnew]
      simp
    · rw [hold x e]
      exact hx
  refine ⟨h.ht, fun x d hx => ?_, ?_, fun x hx => ?_, ?_, fun x e hd hle => ?_, fun x d hx hq hv y hy hly hey => ?_, fun hv x hx hlx hex hr => ?_⟩
  · by_cases e : x = w
    · subst e
      rw [hnew] at hx
      obtain rfl := Option.some.inj hx
      exact ⟨hds, hn⟩
    · rw [hold x e] at hx
      exact h.sound x d hx
  · rw [hold v (hne v dv h.at_)]
    exact h.at_
  · rcases List.mem_append.1 hx with hx | hx
    · obtain ⟨e, a, b, c⟩ := h.queue x hx
      exact ⟨e, by rw [hold x (hne x e a)]; exact a, b, c⟩
    · rw [List.mem_singleton] at hx
      subst hx
      exact ⟨dv + 1, hnew, by omega, Nat.le_refl _⟩
  · rw [List.pairwise_append]
    refine ⟨?_, by simp, fun a ha b hb d e hd hde => ?_⟩
    · refine List.Pairwise.imp_of_mem (fun {a b} ha hb hab d e hd hde => ?_) h.sorted
      obtain ⟨d', a1, _⟩ := h.queue a ha
      obtain ⟨e', b1, _⟩ := h.queue b hb
      rw [hold a (hne a d' a1)] at hd
      rw [hold b (hne b e' b1)] at hde
      exact hab d e hd hde
    · rw [List.mem_singleton] at hb
      subst hb
      obtain ⟨d', a1, a2, a3⟩ := h.queue a ha
      rw [hold a (hne a d' a1), a1] at hd
      rw [hnew] at hde
      obtain rfl := Option.some.inj hd
      obtain rfl := Option.some.inj hde
      exact a3
  · have := h.full x e hd hle
    rw [hold x (hne x e this)]
    exact this
  · have hxw : x ≠ w := fun e => hq (by rw [e]; simp)
    rw [hold x hxw] at hx
    exact hnn y (h.closed x d hx (fun hm => hq (List.mem_append_left _ hm)) hv y hy hly hey)
  · by_cases e : x = w
    · rw [e, hnew]
      simp
    · exact hnn x (h.done (fun hm => hv (List.mem_append_left _ hm)) x hx hlx hex fun hm => by
        rcases List.mem_cons.1 hm with hm | hm
        · exact e hm
        · exact hr hm)
/-- the next one of the queue -/
theorem Bfs.pop {E : Nat → Nat → Bool} {n low t : Nat} {D : Dst} {v dv x : Nat} {todo rest : List Nat} (h : Bfs E n low t D v dv [] (x :: todo)) (hv : v ∉ x :: todo) (hr : ∀ w, w < n → low ≤ w → E w x = true → w ∈ rest) :
    ∃ e, D x = some e ∧ Bfs E n low t D x e rest todo := by
  obtain ⟨e, h1, h2, h3⟩ := h.queue x List.mem_cons_self
  have hs := h.sorted
  rw [List.pairwise_cons] at hs
  have hge : ∀ y ∈ todo, ∃ f, D y = some f ∧ e ≤ f ∧ f ≤ e + 1 := fun y hy => by
    obtain ⟨f, a, b, c⟩ := h.queue y (List.mem_cons_of_mem _ hy)
    exact ⟨f, a, hs.1 y hy e f h1 a, by omega⟩
  refine ⟨e, h1, h.ht, h.sound, h1, hge, hs.2, fun w f hd hle => ?_, fun y d hy hq hne w hw hl hE => ?_, fun _ w hw hl hE hn => absurd (hr w hw hl hE) hn⟩
  · rcases Nat.lt_or_ge dv f with hlt | hge2
    · -- a level more: what leads to it has been looked at
      have hf : f = dv + 1 := by omega
      subst hf
      obtain ⟨hw, hl, ⟨u, hE, hu⟩, _⟩ := Ds.succ_iff.1 hd
      have hu1 := h.full u dv hu (Nat.le_refl _)
      have hwn : D w ≠ none := by
        by_cases huv : u = v
        · subst huv
          exact h.done hv w hw hl hE (by simp)
        · refine h.closed u dv hu1 (fun hm => ?_) huv w hw hl hE
          -- all in the queue are at e = dv + 1 at least
          have he : e = dv + 1 := by omega
          rcases List.mem_cons.1 hm with rfl | hm
          · rw [h1] at hu1
            have := Option.some.inj hu1
            omega
          · obtain ⟨f, a, b, _⟩ := hge u hm
            rw [a] at hu1
            have := Option.some.inj hu1
            omega
      cases hD : D w with
      | none => exact absurd hD hwn
      | some g => rw [(h.sound w g hD).1.uniq hd]
    · exact h.full w f hd hge2
  · by_cases hyv : y = v
    · subst hyv
      exact h.done hv w hw hl hE (by simp)
    · exact h.closed y d hy (fun hm => by
        rcases List.mem_cons.1 hm with hm | hm
        · exact hne hm
        · exact hq hm) hyv w hw hl hE
/-- at the end all distances are right -/
theorem Bfs.fin {E : Nat → Nat → Bool} {n low t : Nat} {D : Dst} {v dv : Nat} (h : Bfs E n low t D v dv [] []) : ∀ w d, D w = some d ↔ Ds E n low t d w := by
  have key : ∀ d w, Ds E n low t d w → D w = some d := by
    intro d
    induction d with
    | zero => exact fun w hd => h.full w 0 hd (Nat.zero_le _)
    | succ d ih =>
      intro w hd
      obtain ⟨hw, hl, ⟨u, hE, hu⟩, _⟩ := Ds.succ_iff.1 hd
      have hu1 := ih u hu
      have hwn : D w ≠ none := by
        by_cases huv : u = v
        · subst huv
          exact h.done (by simp) w hw hl hE (by simp)
        · exact h.closed u d hu1 (by simp) huv w hw hl hE
      cases hD : D w with
      | none => exact absurd hD hwn
      | some g => rw [(h.sound w g hD).1.uniq hd]
  exact fun w d => ⟨fun hx => (h.sound w d hx).1, key d w⟩
/-- the start -/
theorem Bfs.start {E : Nat → Nat → Bool} {n low t : Nat} (ht : t < n) {rest : List Nat} (hr : ∀ w, w < n → low ≤ w → E w t = true → w ∈ rest) : Bfs E n low t (fun x => if x = t then some 0 else none) t 0 rest [] := by
  refine ⟨ht, fun w d hx => ?_, if_pos rfl, fun x hx => (by cases hx), List.Pairwise.nil, fun w e hd hle => ?_, fun x d hx _ hne => ?_, fun _ w hw hl hE hn => absurd (hr w hw hl hE) hn⟩
  · split at hx
    · rename_i e
      obtain rfl := Option.some.inj hx
      exact ⟨Ds.zero_iff.2 e, e ▸ ht⟩
    · cases hx
  · obtain rfl : e = 0 := by omega
    rw [if_pos (Ds.zero_iff.1 hd)]
  · rw [if_neg hne] at hx
    cases hx
end gr
end Go.Proofs.YtahffafobdiogaaDoor
