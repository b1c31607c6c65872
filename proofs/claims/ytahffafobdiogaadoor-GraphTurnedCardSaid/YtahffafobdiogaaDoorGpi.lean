/- What is counted on the way to an order: plain. -/
import Derived.Test.YtahffafobdiogaaDoorGph
namespace Go.Proofs.YtahffafobdiogaaDoor
set_option linter.unusedVariables false
set_option linter.unusedSimpArgs false
namespace gr
/-- from how many vertices that are not out an edge leads to w -/
def mis (E : Nat → Nat → Bool) (n : Nat) (out : List Nat) (w : Nat) : Nat := (List.range n).countP fun u => E u w && !out.contains u
/-- how many edges lead to w from what is not out -/
def wai (es : List (Nat × Nat)) (out : List Nat) (w : Nat) : Nat := es.countP fun e => decide (e.2 = w) && !out.contains e.1
theorem con_iff {l : List Nat} {x : Nat} : l.contains x = true ↔ x ∈ l := List.contains_iff_mem
theorem mis_zero {E : Nat → Nat → Bool} {n : Nat} {out : List Nat} {w : Nat} : mis E n out w = 0 ↔ ∀ u, u < n → E u w = true → u ∈ out := by
  unfold mis
  rw [List.countP_eq_zero]
  constructor
  · intro h u hu he
    have := h u (List.mem_range.2 hu)
    rw [he, Bool.true_and] at this
    refine con_iff.1 ?_
    cases hc : out.contains u
    · rw [hc] at this
      exact absurd rfl this
    · rfl
  · intro h u hu
    rw [Bool.and_eq_true]
    rintro ⟨a, b⟩
    have := con_iff.2 (h u (List.mem_range.1 hu) a)
    rw [this] at b
    cases b
theorem mis_rdy {E : Nat → Nat → Bool} {n : Nat} {out : List Nat} {w : Nat} : rdy E n out w = true ↔ w ∉ out ∧ mis E n out w = 0 := by
  rw [rdy_iff, mis_zero]
theorem wai_zero {E : Nat → Nat → Bool} {n : Nat} {es : List (Nat × Nat)} (hE : ∀ u w, E u w = true ↔ (u, w) ∈ es) (hn : ∀ e ∈ es, e.1 < n) {out : List Nat} {w : Nat} : wai es out w = 0 ↔ mis E n out w = 0 := by
  rw [mis_zero]
  unfold wai
  rw [List.countP_eq_zero]
  constructor
  · intro h u hu he
    have := h (u, w) ((hE u w).1 he)
    simp only [decide_true, Bool.true_and] at this
    refine con_iff.1 ?_
    cases hc : out.contains u
    · rw [hc] at this
      exact absurd rfl this
    · rfl
  · rintro h ⟨u, v⟩ he
    rw [Bool.and_eq_true]
    rintro ⟨a, b⟩
    have e1 : v = w := by simpa using a
    subst e1
    have := con_iff.2 (h u (hn _ he) ((hE u v).2 he))
    rw [this] at b
    cases b
theorem con_snoc (out : List Nat) (v u : Nat) : (out ++ [v]).contains u = (out.contains u || decide (u = v)) := by
  rw [Bool.eq_iff_iff, con_iff, Bool.or_eq_true, con_iff, decide_eq_true_eq, List.mem_append, List.mem_singleton]
theorem countP_split {α : Type} (p q : α → Bool) (l : List α) : l.countP p = l.countP (fun x => p x && !q x) + l.countP (fun x => p x && q x) := by
  induction l with
  | nil => rfl
  | cons a l ih =>
    rw [List.countP_cons, List.countP_cons, List.countP_cons, ih]
    cases p a <;> cases q a <;> simp <;> omega
/-- v comes out: what it leads to waits for one less -/
theorem mis_snoc {E : Nat → Nat → Bool} {n : Nat} {out : List Nat} {v : Nat} (hv : v < n) (ho : v ∉ out) (w : Nat) : mis E n out w = mis E n (out ++ [v]) w + if E v w = true then 1 else 0 := by
  unfold mis
  rw [countP_split (fun u => E u w && !out.contains u) (fun u => decide (u = v))]
  have hcf : out.contains v = false := by
    cases hc : out.contains v
    · rfl
    · exact absurd (con_iff.1 hc) ho
  congr 1
  · congr 1
    funext u
    rw [con_snoc]
    cases E u w <;> cases out.contains u <;> cases decide (u = v) <;> rfl
  · have h1 : ∀ u, (E u w && !out.contains u && decide (u = v)) = (decide (u = v) && E v w) := fun u => by
      by_cases h : u = v
      · subst h
        rw [hcf]
        cases E u w <;> simp
      · simp [h]
    simp only [h1]
    by_cases he : E v w = true
    · rw [if_pos he]
      simp only [he, Bool.and_true]
      have hc := List.count_range (a := v) (n := n)
      rw [if_pos hv] at hc
      have e : (fun u => decide (u = v)) = (· == v) := by
        funext u
        rw [Bool.eq_iff_iff]
        simp
      rw [e]
      exact hc
    · rw [if_neg he]
      have : E v w = false := by simpa using he
      rw [this]
      simp
theorem wai_snoc {es : List (Nat × Nat)} {out : List Nat} {v : Nat} (ho : v ∉ out) (w : Nat) : wai es out w = wai es (out ++ [v]) w + es.countP fun e => decide (e.2 = w) && decide (e.1 = v) := by
  unfold wai
  rw [countP_split (fun e : Nat × Nat => decide (e.2 = w) && !out.contains e.1) (fun e => decide (e.1 = v))]
  have hcf : out.contains v = false := by
    cases hc : out.contains v
    · rfl
    · exact absurd (con_iff.1 hc) ho
  congr 1
  · congr 1
    funext e
    rw [con_snoc]
    cases decide (e.2 = w) <;> cases out.contains e.1 <;> cases decide (e.1 = v) <;> rfl
  · congr 1
    funext e
    by_cases h : e.1 = v
    · rw [h, hcf]
      simp
    · simp [h]
end gr
end Go.Proofs.YtahffafobdiogaaDoor
