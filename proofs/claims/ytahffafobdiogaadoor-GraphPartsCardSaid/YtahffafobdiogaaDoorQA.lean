/- Texts of one chain, in one file. -/
import Derived.Test.YtahffafobdiogaaDoorRows
import Derived.WalkKit
import Derived.WalkLawsBesides
import Derived.Lib.Hide
import Derived.Deep.Draws
import Derived.Deep.QuietTactic
import Derived.BigQuiet
import Derived.Maps.AppendAt
import Derived.Deep.AppendLies
import Derived.Lib.TrailingZeros
import Derived.Laws.AppendOwn
import Derived.Below
import Derived.Shelf.Spec.TrailingZeros
import Derived.Ground.Names7Prog
import Derived.Test.YtahffafobdiogaaDoorProg
import Derived.Laws.Bits64b
import Derived.Laws.Shifts
import Derived.Deep.OwnRows
import Derived.OwnWalk
import Derived.Deep.Quiet
import Derived.StillTailTactics
import Derived.Shelf.GgClosure.Gives
/- Words for memory: a slice header whose cells read as a list of values, kept over what leaves the old blocks alone. -/
namespace Go.Proofs.YtahffafobdiogaaDoor
set_option linter.unusedVariables false
set_option linter.unusedSimpArgs false
open Go.RowKit

theorem add_block (a : Addr) (n : Nat) : (a.add n).block = a.block := by unfold Addr.add; split <;> rfl
theorem add_zero' (a : Addr) : a.add 0 = a := by simp [Addr.add]

/-- A and the length of xs are a slice whose elements (one cell each) are xs, in a block below B -/
def Rd (w : World) (B : Nat) (A : Option Addr) (xs : List Value) : Prop :=
  xs ≠ [] → ∃ ad, A = some ad ∧ ad.block < B ∧ ∀ j u, xs[j]? = some u → w.cell? (ad.add j) = some u

theorem Rd.nil (w : World) (B : Nat) (A : Option Addr) : Rd w B A [] := fun h => absurd rfl h
theorem Rd.keep {w w' : World} {B : Nat} {A : Option Addr} {xs : List Value} (h : Rd w B A xs) (hk : ∀ p : Addr, p.block < B → w'.cell? p = w.cell? p) : Rd w' B A xs := fun hn => by
  obtain ⟨ad, e, hb, hc⟩ := h hn
  exact ⟨ad, e, hb, fun j u hu => (hk _ (by rw [add_block]; exact hb)).trans (hc j u hu)⟩
theorem Rd.more {w : World} {B B' : Nat} {A : Option Addr} {xs : List Value} (h : Rd w B A xs) (hB : B ≤ B') : Rd w B' A xs := fun hn => by
  obtain ⟨ad, e, hb, hc⟩ := h hn
  exact ⟨ad, e, by omega, hc⟩
theorem Rd.below {w w' : World} {B : Nat} {A : Option Addr} {xs : List Value} (h : Rd w B A xs) (hb : Below B w w') : Rd w' B A xs := h.keep fun _ hp => hb.cell hp
theorem Rd.drewN {w : World} {B : Nat} {A : Option Addr} {xs : List Value} (h : Rd w B A xs) (k : Nat) : Rd (w.drewN k) B A xs := h
theorem below_drewN {B : Nat} {a w : World} (h : Below B a w) (n : Nat) : Below B a (w.drewN n) := ⟨h.os, h.tape, h.output, h.size, h.block⟩
theorem below_self (B : Nat) (w : World) (n : Nat) : Below B w (w.drewN n) := below_drewN (Below.refl _ _) n

def bls (l : List Bool) : List Value := l.map Value.bool
theorem take_succ_of {α : Type} {l : List α} {k : Nat} {b : α} (h : l[k]? = some b) : l.take (k + 1) = l.take k ++ [b] := by
  rw [List.take_add_one, h]; rfl
theorem Rd.of_own {w : World} {base : Nat} {e : TypeId} {A : Option Addr} {n c : Nat} {xs : List Value} (h : w.ownsRow base e 1 (.slice A n c) n xs) : Rd w w.heap.size A xs := fun hn => by
  have hl : xs.length = n := by simpa using h.1
  have hn' : 0 < n := by
    rcases Nat.eq_zero_or_pos n with h0 | h0
    · exact absurd (List.eq_nil_of_length_eq_zero (hl.trans h0)) hn
    · exact h0
  obtain ⟨g, cap, hv, _, hlt⟩ := h.form hn'
  have hA : A = some ⟨g, 0, none⟩ := by injection hv
  subst hA
  exact ⟨_, rfl, hlt, fun j u hu => h.cells (g := g) rfl j u hu⟩
/-- an owned value is a slice header -/
theorem own_form {w : World} {base n : Nat} {e : TypeId} {v : Value} {xs : List Value} (h : w.ownsRow base e 1 v n xs) : ∃ A c, v = .slice A n c := by
  rcases h.2 with ⟨rfl, rfl⟩ | ⟨g, cap, cur, rfl, _⟩
  · exact ⟨_, _, rfl⟩
  · exact ⟨_, _, rfl⟩
/-- one append onto what the call owns leaves the old blocks alone -/
theorem own_below {w wr w1 : World} {base n : Nat} {e : TypeId} {v : Value} {xs : List Value} {o : Obj} (hb : Below base w wr) (hbase : base ≤ wr.heap.size) (hown : wr.ownsRow base e 1 v n xs) (hg : (wr.alloc o).grownBy w1 v.ownBlock) : Below base w w1 :=
  (hb.alloc hbase o).grown hg (by simp; omega) (fun k hk => (hown.lt k hk).1)
theorem bel_box {w : World} (o : Obj) : Below w.heap.size w (w.alloc o) := (Below.refl _ _).alloc (Nat.le_refl _) _
theorem bel_step {w W w' : World} (h : Below w.heap.size w W) (hb : Below W.heap.size W w') : Below w.heap.size w w' := h.trans (hb.mono h.size)
theorem bel_alloc {w W : World} (h : Below w.heap.size w W) (o : Obj) : Below w.heap.size w (W.alloc o) := h.alloc h.size o
/-- a reading at the start is one later -/
theorem Rd.to {w W : World} {A : Option Addr} {xs : List Value} (h : Rd w w.heap.size A xs) (hb : Below w.heap.size w W) : Rd W W.heap.size A xs := (h.below hb).more hb.size
theorem add_add' (a : Addr) (i j : Nat) : (a.add i).add j = a.add (i + j) := by
  unfold Addr.add
  by_cases hi : i = 0 <;> by_cases hj : j = 0 <;> simp [hi, hj, Nat.add_assoc]
theorem Rd.drop {w : World} {B : Nat} {A : Option Addr} {l : List Bool} (h : Rd w B A (bls l)) (k : Nat) : Rd w B (A.map (·.add k)) (bls (l.drop k)) := fun hn => by
  obtain ⟨ad, e, hb, hc⟩ := h (by intro e; apply hn; simp [bls] at e; simp [bls, e])
  refine ⟨ad.add k, by rw [e]; rfl, by rw [add_block]; exact hb, fun j u hu => ?_⟩
  rw [add_add']
  apply hc
  rw [bls, List.getElem?_map, List.getElem?_drop] at hu
  rw [bls, List.getElem?_map]
  exact hu
/-- what is owned stays owned while its block is left alone -/
theorem own_keep {w w' : World} {base n : Nat} {e : TypeId} {v : Value} {xs : List Value} (h : w.ownsRow base e 1 v n xs) (hb : Below w.heap.size w w') : w'.ownsRow base e 1 v n xs := by
  refine ⟨h.1, ?_⟩
  rcases h.2 with hn | ⟨g, cap, cur, rfl, hbg, hg, rest⟩
  · exact .inl hn
  · have hlt : g < w.heap.size := by
      rcases Nat.lt_or_ge g w.heap.size with hlt | hge
      · exact hlt
      · rw [Array.getElem?_eq_none hge] at hg; cases hg
    exact .inr ⟨g, cap, cur, rfl, hbg, (hb.block g hlt).trans hg, rest⟩
/-- where there is something, it lies in a block from N on -/
def Nw (N : Nat) (A : Option Addr) (xs : List Value) : Prop := ∀ ad, A = some ad → xs ≠ [] → N ≤ ad.block
theorem Nw.nil (N : Nat) (A : Option Addr) : Nw N A [] := fun _ _ h => absurd rfl h
theorem Nw.mono {N N' : Nat} {A : Option Addr} {xs : List Value} (h : Nw N A xs) (hN : N' ≤ N) : Nw N' A xs := fun ad e hx => Nat.le_trans hN (h ad e hx)
/-- what a cell holds, whatever it is -/
def rc (w : World) (b i : Nat) : Value := (w.cell? ⟨b, i, none⟩).getD undef
attribute [irreducible] rc
end Go.Proofs.YtahffafobdiogaaDoor
/- Depth-first search, left in order: plain. What Kosaraju's way of finding the components rests on. -/
namespace Go.Proofs.YtahffafobdiogaaDoor
set_option linter.unusedVariables false
set_option linter.unusedSimpArgs false
namespace gr
/-- w is reached from v by the edges s -/
inductive Rch (s : Nat → List Nat) : Nat → Nat → Prop
  | refl (v : Nat) : Rch s v v
  | step {u v w : Nat} (h : v ∈ s u) (k : Rch s v w) : Rch s u w
theorem Rch.trans {s : Nat → List Nat} {u v w : Nat} (h : Rch s u v) (k : Rch s v w) : Rch s u w := by
  induction h with
  | refl => exact k
  | step h _ ih => exact .step h (ih k)
theorem Rch.one {s : Nat → List Nat} {u v : Nat} (h : v ∈ s u) : Rch s u v := .step h (.refl v)
/-- a search: the vertices to be visited, what is seen and what was left before and behind it -/
inductive Dfs (s : Nat → List Nat) : List Nat → List Nat → List Nat → List Nat → List Nat → Prop
  | nil (S L : List Nat) : Dfs s [] S L S L
  | skip {v : Nat} {vs S L S' L' : List Nat} (h : v ∈ S) (k : Dfs s vs S L S' L') : Dfs s (v :: vs) S L S' L'
  | go {v : Nat} {vs S L S1 L1 S' L' : List Nat} (h : v ∉ S) (k1 : Dfs s (s v) (v :: S) L S1 L1) (k2 : Dfs s vs S1 (L1 ++ [v]) S' L') : Dfs s (v :: vs) S L S' L'
theorem Dfs.sub {s : Nat → List Nat} {vs S L S' L' : List Nat} (h : Dfs s vs S L S' L') : (∀ x ∈ S, x ∈ S') ∧ (∀ x ∈ vs, x ∈ S') := by
  induction h with
  | nil S L => exact ⟨fun x h => h, fun x h => by cases h⟩
  | skip h k ih =>
    refine ⟨ih.1, fun x hx => ?_⟩
    rcases List.mem_cons.1 hx with rfl | hx
    · exact ih.1 _ h
    · exact ih.2 x hx
  | go h k1 k2 ih1 ih2 =>
    refine ⟨fun x hx => ih2.1 x (ih1.1 x (List.mem_cons_of_mem _ hx)), fun x hx => ?_⟩
    rcases List.mem_cons.1 hx with rfl | hx
    · exact ih2.1 _ (ih1.1 _ List.mem_cons_self)
    · exact ih2.2 x hx
/-- what is left anew is what is seen anew -/
theorem Dfs.left {s : Nat → List Nat} {vs S L S' L' : List Nat} (h : Dfs s vs S L S' L') : ∃ M, L' = L ++ M ∧ M.Nodup ∧ ∀ x, x ∈ M ↔ x ∈ S' ∧ x ∉ S := by
  induction h with
  | nil S L => exact ⟨[], by simp, List.nodup_nil, fun x => by simp⟩
  | skip h k ih => exact ih
  | @go v vs S L S1 L1 S' L' h k1 k2 ih1 ih2 =>
    obtain ⟨M1, rfl, n1, m1⟩ := ih1
    obtain ⟨M2, rfl, n2, m2⟩ := ih2
    have hv1 : v ∈ S1 := k1.sub.1 v List.mem_cons_self
    refine ⟨M1 ++ [v] ++ M2, by simp only [List.append_assoc], ?_, fun x => ?_⟩
    · rw [List.nodup_append, List.nodup_append]
      refine ⟨⟨n1, by simp, fun a ha b hb e => ?_⟩, n2, fun a ha b hb e => ?_⟩
      · rw [List.mem_singleton] at hb
        subst hb
        subst e
        exact ((m1 a).1 ha).2 List.mem_cons_self
      · subst e
        have h2 := ((m2 a).1 hb).2
        rcases List.mem_append.1 ha with ha | ha
        · exact h2 ((m1 a).1 ha).1
        · rw [List.mem_singleton] at ha
          exact h2 (ha ▸ hv1)
    · rw [List.mem_append, List.mem_append, List.mem_singleton, m1, m2]
      constructor
      · rintro ((⟨a, b⟩ | rfl) | ⟨a, b⟩)
        · exact ⟨k2.sub.1 x a, fun c => b (List.mem_cons_of_mem _ c)⟩
        · exact ⟨k2.sub.1 x hv1, h⟩
        · exact ⟨a, fun c => b (k1.sub.1 x (List.mem_cons_of_mem _ c))⟩
      · rintro ⟨a, b⟩
        by_cases h1 : x ∈ S1
        · by_cases h2 : x = v
          · exact .inl (.inr h2)
          · refine .inl (.inl ⟨h1, fun c => ?_⟩)
            rcases List.mem_cons.1 c with c | c
            · exact h2 c
            · exact b c
        · exact .inr ⟨a, h1⟩
/-- what is seen anew leads to nothing unseen -/
theorem Dfs.closed {s : Nat → List Nat} {vs S L S' L' : List Nat} (h : Dfs s vs S L S' L') : ∀ x, x ∈ S' → x ∉ S → ∀ y ∈ s x, y ∈ S' := by
  induction h with
  | nil S L => exact fun x a b => absurd a b
  | skip h k ih => exact ih
  | @go v vs S L S1 L1 S' L' h k1 k2 ih1 ih2 =>
    intro x hx hn y hy
    by_cases h1 : x ∈ S1
    · by_cases h2 : x = v
      · subst h2
        exact k2.sub.1 y (k1.sub.2 y hy)
      · refine k2.sub.1 y (ih1 x h1 (fun c => ?_) y hy)
        rcases List.mem_cons.1 c with c | c
        · exact h2 c
        · exact hn c
    · exact ih2 x hx h1 y hy
/-- reached by what was unseen -/
inductive Rcu (s : Nat → List Nat) (S : List Nat) : Nat → Nat → Prop
  | refl (v : Nat) (h : v ∉ S) : Rcu s S v v
  | step {u v w : Nat} (n : u ∉ S) (h : v ∈ s u) (k : Rcu s S v w) : Rcu s S u w
theorem Rcu.more {s : Nat → List Nat} {S T : List Nat} (hs : ∀ x ∈ S, x ∈ T) {u v : Nat} (h : Rcu s T u v) : Rcu s S u v := by
  induction h with
  | refl v h => exact .refl v fun c => h (hs v c)
  | step n h _ ih => exact .step (fun c => n (hs _ c)) h ih
theorem Rcu.rch {s : Nat → List Nat} {S : List Nat} {u v : Nat} (h : Rcu s S u v) : Rch s u v := by
  induction h with
  | refl v _ => exact .refl v
  | step _ h _ ih => exact .step h ih
/-- what is seen: what was, and what is reached by what was unseen -/
theorem Dfs.seen {s : Nat → List Nat} {vs S L S' L' : List Nat} (h : Dfs s vs S L S' L') (x : Nat) : x ∈ S' ↔ x ∈ S ∨ ∃ v ∈ vs, Rcu s S v x := by
  constructor
  · intro hx
    induction h with
    | nil S L => exact .inl hx
    | skip h k ih =>
      rcases ih hx with a | ⟨v, b, c⟩
      · exact .inl a
      · exact .inr ⟨v, List.mem_cons_of_mem _ b, c⟩
    | @go v vs S L S1 L1 S' L' h k1 k2 ih1 ih2 =>
      have hs1 : ∀ x ∈ S, x ∈ S1 := fun x hx => k1.sub.1 x (List.mem_cons_of_mem _ hx)
      rcases ih2 hx with a | ⟨u, b, c⟩
      · rcases ih1 a with a | ⟨u, b, c⟩
        · rcases List.mem_cons.1 a with rfl | a
          · exact .inr ⟨x, List.mem_cons_self, .refl x h⟩
          · exact .inl a
        · exact .inr ⟨v, List.mem_cons_self, .step h b (c.more fun x hx => List.mem_cons_of_mem _ hx)⟩
      · exact .inr ⟨u, List.mem_cons_of_mem _ b, c.more hs1⟩
  · rintro (hx | ⟨v, hv, hr⟩)
    · exact h.sub.1 x hx
    · have h1 := h.sub.2 v hv
      clear hv
      induction hr with
      | refl v _ => exact h1
      | step n hm k ih => exact ih (h.closed _ h1 n _ hm)
/-- b stands ahead of x in l -/
def Ahd (l : List Nat) (b x : Nat) : Prop := ∃ p q r, l = p ++ b :: q ++ x :: r
/-- the invariant of a search: from what was left nothing leads to something later but by way of what leads back -/
def Kos (s : Nat → List Nat) (S L : List Nat) : Prop :=
  (∀ b ∈ L, b ∈ S) ∧ (∀ b ∈ L, ∀ y ∈ s b, y ∈ S) ∧
  ∀ b ∈ L, ∀ x, Rch s b x → (x ∉ L ∨ Ahd L b x) → ∃ z, Rch s b z ∧ Rch s z b ∧ ((z ∈ S ∧ z ∉ L) ∨ (x ∈ L ∧ (z = x ∨ Ahd L x z)))
/-- on a path out of L, where L leads only to what is seen, stands one that is seen and not left -/
theorem out_gray {s : Nat → List Nat} {S L : List Nat} (h : ∀ b ∈ L, ∀ y ∈ s b, y ∈ S) {b x : Nat} (hr : Rch s b x) (hb : b ∈ L) (hx : x ∉ L) : ∃ g, Rch s b g ∧ g ∈ S ∧ g ∉ L := by
  induction hr with
  | refl v => exact absurd hb hx
  | @step u v w hm k ih =>
    by_cases hv : v ∈ L
    · obtain ⟨g, a, c⟩ := ih hv hx
      exact ⟨g, .step hm a, c⟩
    · exact ⟨v, Rch.one hm, h u hb v hm, hv⟩
theorem Ahd.mem {l : List Nat} {b x : Nat} (h : Ahd l b x) : b ∈ l ∧ x ∈ l := by
  obtain ⟨p, q, r, rfl⟩ := h
  simp
theorem Ahd.app {l : List Nat} {b x : Nat} (h : Ahd l b x) (m : List Nat) : Ahd (l ++ m) b x := by
  obtain ⟨p, q, r, rfl⟩ := h
  exact ⟨p, q, r ++ m, by simp⟩
theorem Ahd.last {l : List Nat} {b : Nat} (h : b ∈ l) (v : Nat) : Ahd (l ++ [v]) b v := by
  obtain ⟨p, q, rfl⟩ := List.append_of_mem h
  exact ⟨p, q, [], by simp⟩
/-- ahead of something in a list with v behind: in the list, or v itself -/
theorem Ahd.of_last {l : List Nat} {b x v : Nat} (h : Ahd (l ++ [v]) b x) : Ahd l b x ∨ (x = v ∧ b ∈ l) := by
  obtain ⟨p, q, r, e⟩ := h
  rcases List.eq_nil_or_concat r with rfl | ⟨r', y, rfl⟩
  · have e' : l ++ [v] = (p ++ b :: q) ++ [x] := by rw [e]
    obtain ⟨e1, e2⟩ := List.append_inj' e' rfl
    rw [List.cons.injEq] at e2
    exact .inr ⟨e2.1.symm, by rw [e1]; simp⟩
  · have e' : l ++ [v] = (p ++ b :: q ++ x :: r') ++ [y] := by rw [e]; simp
    obtain ⟨e1, _⟩ := List.append_inj' e' rfl
    exact .inl ⟨p, q, r', e1⟩
theorem Dfs.kos {s : Nat → List Nat} {vs S L S' L' : List Nat} (h : Dfs s vs S L S' L') : (∀ g ∈ S, g ∉ L → ∀ v ∈ vs, Rch s g v) → Kos s S L → Kos s S' L' := by
  induction h with
  | nil S L => exact fun _ h => h
  | skip h k ih => exact fun hg hk => ih (fun g a b v c => hg g a b v (List.mem_cons_of_mem _ c)) hk
  | @go v vs S L S1 L1 S' L' h k1 k2 ih1 ih2 =>
    intro hg hk
    have hvL : v ∉ L := fun c => h (hk.1 v c)
    have hk0 : Kos s (v :: S) L := ⟨fun b hb => List.mem_cons_of_mem _ (hk.1 b hb), fun b hb y hy => List.mem_cons_of_mem _ (hk.2.1 b hb y hy), fun b hb x hr hx => by
      obtain ⟨z, a, c, d⟩ := hk.2.2 b hb x hr hx
      refine ⟨z, a, c, ?_⟩
      rcases d with d | d
      · exact .inl ⟨List.mem_cons_of_mem _ d.1, d.2⟩
      · exact .inr d⟩
    have hg0 : ∀ g ∈ v :: S, g ∉ L → Rch s g v := fun g hgm hgl => by
      rcases List.mem_cons.1 hgm with rfl | hgm
      · exact .refl g
      · exact hg g hgm hgl v List.mem_cons_self
    have hK1 := ih1 (fun g a b y hy => (hg0 g a b).trans (Rch.one hy)) hk0
    obtain ⟨M, rfl, _, hM⟩ := k1.left
    have hv1 : v ∈ S1 := k1.sub.1 v List.mem_cons_self
    have hvM : v ∉ L ++ M := fun c => by
      rcases List.mem_append.1 c with c | c
      · exact hvL c
      · exact ((hM v).1 c).2 List.mem_cons_self
    -- what is seen and not left behind the search of v's is what was so before, or v
    have hgr : ∀ g ∈ S1, g ∉ L ++ M → g = v ∨ (g ∈ S ∧ g ∉ L) := fun g a b => by
      rw [List.mem_append, not_or] at b
      by_cases c : g ∈ v :: S
      · rcases List.mem_cons.1 c with c | c
        · exact .inl c
        · exact .inr ⟨c, b.1⟩
      · exact absurd ((hM g).2 ⟨a, c⟩) b.2
    have hgv : ∀ g ∈ S1, g ∉ L ++ M → Rch s g v := fun g a b => by
      rcases hgr g a b with rfl | c
      · exact .refl g
      · exact hg g c.1 c.2 v List.mem_cons_self
    generalize hL1 : L ++ M = L1 at *
    have hsv : ∀ y ∈ s v, y ∈ S1 := k1.sub.2
    have hcl : ∀ b ∈ L1 ++ [v], ∀ y ∈ s b, y ∈ S1 := fun b hb y hy => by
      rcases List.mem_append.1 hb with hb | hb
      · exact hK1.2.1 b hb y hy
      · rw [List.mem_singleton] at hb
        exact hsv y (hb ▸ hy)
    -- from v to something not left: there is one around that is seen, not left, and leads back
    have hvx : ∀ x, Rch s v x → x ∉ L1 ++ [v] → ∃ g, Rch s v g ∧ Rch s g v ∧ g ∈ S1 ∧ g ∉ L1 ++ [v] := fun x hr hx => by
      obtain ⟨g, a, b, c⟩ := out_gray hcl hr (by simp) hx
      exact ⟨g, a, hgv g b (fun d => c (List.mem_append_left _ d)), b, c⟩
    refine ih2 (fun g a b u hu => ?_) ⟨fun b hb => ?_, hcl, fun b hb x hr hx => ?_⟩
    · rw [List.mem_append, not_or] at b
      rcases hgr g a b.1 with c | c
      · exact absurd (c ▸ List.mem_singleton.2 rfl) b.2
      · exact hg g c.1 c.2 u (List.mem_cons_of_mem _ hu)
    · rcases List.mem_append.1 hb with hb | hb
      · exact hK1.1 b hb
      · rw [List.mem_singleton] at hb
        exact hb ▸ hv1
    · rcases List.mem_append.1 hb with hb | hb
      · -- b was left before v
        have hbv : b ≠ v := fun e => hvM (e ▸ hb)
        have old : ∀ x, Rch s b x → (x ∉ L1 ∨ Ahd L1 b x) → ∃ z, Rch s b z ∧ Rch s z b ∧ ((z ∈ S1 ∧ z ∉ L1) ∨ (x ∈ L1 ∧ (z = x ∨ Ahd L1 x z))) := hK1.2.2 b hb
        have cases3 : (x ∉ L1 ++ [v]) ∨ x = v ∨ Ahd L1 b x := by
          rcases hx with hx | hx
          · exact .inl hx
          · rcases hx.of_last with hx | hx
            · exact .inr (.inr hx)
            · exact .inr (.inl hx.1)
        rcases cases3 with hx | rfl | hx
        · have hx1 : x ∉ L1 := fun c => hx (List.mem_append_left _ c)
          obtain ⟨z, a, c, d⟩ := old x hr (.inl hx1)
          rcases d with d | d
          · by_cases e : z = v
            · subst e
              obtain ⟨g, g1, g2, g3, g4⟩ := hvx x (c.trans hr) hx
              exact ⟨g, a.trans g1, g2.trans c, .inl ⟨g3, g4⟩⟩
            · exact ⟨z, a, c, .inl ⟨d.1, fun f => by
                rcases List.mem_append.1 f with f | f
                · exact d.2 f
                · exact e (List.mem_singleton.1 f)⟩⟩
          · exact absurd d.1 hx1
        · obtain ⟨z, a, c, d⟩ := old x hr (.inl hvM)
          rcases d with d | d
          · by_cases e : z = x
            · exact ⟨z, a, c, .inr ⟨by simp, .inl e⟩⟩
            · exact ⟨z, a, c, .inl ⟨d.1, fun f => by
                rcases List.mem_append.1 f with f | f
                · exact d.2 f
                · exact e (List.mem_singleton.1 f)⟩⟩
          · exact absurd d.1 hvM
        · obtain ⟨z, a, c, d⟩ := old x hr (.inr hx)
          rcases d with d | d
          · by_cases e : z = v
            · exact ⟨z, a, c, .inr ⟨List.mem_append_left _ hx.mem.2, .inr (e ▸ Ahd.last hx.mem.2 v)⟩⟩
            · exact ⟨z, a, c, .inl ⟨d.1, fun f => by
                rcases List.mem_append.1 f with f | f
                · exact d.2 f
                · exact e (List.mem_singleton.1 f)⟩⟩
          · exact ⟨z, a, c, .inr ⟨List.mem_append_left _ d.1, d.2.imp id fun f => f.app _⟩⟩
      · -- b is v itself
        rw [List.mem_singleton] at hb
        subst hb
        rcases hx with hx | hx
        · obtain ⟨g, g1, g2, g3, g4⟩ := hvx x hr hx
          exact ⟨g, g1, g2, .inl ⟨g3, g4⟩⟩
        · rcases hx.of_last with hx | hx
          · exact absurd hx.mem.1 hvM
          · exact absurd hx.2 hvM
end gr
end Go.Proofs.YtahffafobdiogaaDoor
/- The components: a search against the edges, by what was left last. -/
namespace Go.Proofs.YtahffafobdiogaaDoor
set_option linter.unusedVariables false
set_option linter.unusedSimpArgs false
namespace gr
theorem Rch.snoc {s : Nat → List Nat} {u v w : Nat} (h : Rch s u v) (k : w ∈ s v) : Rch s u w := h.trans (Rch.one k)
/-- against the edges -/
theorem Rch.turn {s t : Nat → List Nat} (h : ∀ x y, y ∈ s x → x ∈ t y) {u v : Nat} (k : Rch s u v) : Rch t v u := by
  induction k with
  | refl v => exact .refl v
  | step m _ ih => exact ih.snoc (h _ _ m)
theorem Rcu.snoc {s : Nat → List Nat} {S : List Nat} {u v w : Nat} (h : Rcu s S u v) (k : w ∈ s v) (n : w ∉ S) : Rcu s S u w := by
  induction h with
  | refl v hv => exact .step hv k (.refl w n)
  | step a b _ ih => exact .step a b (ih k)
theorem Rcu.end_ {s : Nat → List Nat} {S : List Nat} {u v : Nat} (h : Rcu s S u v) : v ∉ S := by
  induction h with
  | refl v hv => exact hv
  | step _ _ _ ih => exact ih
/-- each reaches the other -/
def Mut (s : Nat → List Nat) (u v : Nat) : Prop := Rch s u v ∧ Rch s v u
theorem Mut.symm {s : Nat → List Nat} {u v : Nat} (h : Mut s u v) : Mut s v u := ⟨h.2, h.1⟩
theorem Mut.trans {s : Nat → List Nat} {u v w : Nat} (h : Mut s u v) (k : Mut s v w) : Mut s u w := ⟨h.1.trans k.1, k.2.trans h.2⟩
theorem Mut.refl (s : Nat → List Nat) (v : Nat) : Mut s v v := ⟨.refl v, .refl v⟩
/-- a whole search: all that is seen is left; what is left later and reached is around with one at least as late -/
theorem whole {s : Nat → List Nat} {vs S L : List Nat} (h : Dfs s vs [] [] S L) : (∀ x, x ∈ L ↔ x ∈ S) ∧ L.Nodup ∧ ∀ b x, Ahd L b x → Rch s b x → ∃ z, Mut s b z ∧ (z = x ∨ Ahd L x z) := by
  obtain ⟨M, hL, hn, hM⟩ := h.left
  rw [List.nil_append] at hL
  subst hL
  have hx : ∀ x, x ∈ L ↔ x ∈ S := fun x => by rw [hM]; simp
  refine ⟨hx, hn, fun b x ha hr => ?_⟩
  obtain ⟨z, a, c, d⟩ := (h.kos (fun g a => by cases a) ⟨fun b hb => (by cases hb), fun b hb => (by cases hb), fun b hb => (by cases hb)⟩).2.2 b ha.mem.1 x hr (.inr ha)
  rcases d with d | d
  · exact absurd ((hx z).2 d.1) d.2
  · exact ⟨z, ⟨a, c⟩, d.2⟩
/-- one search against the edges t from v, where what was left behind v is done with: it sees v's component -/
theorem part_step {s t : Nat → List Nat} (h1 : ∀ x y, y ∈ s x → x ∈ t y) (h2 : ∀ x y, x ∈ t y → y ∈ s x) {L A B : List Nat} {v : Nat} (hL : L = A ++ v :: B)
    (hW : ∀ b x, Ahd L b x → Rch s b x → ∃ z, Mut s b z ∧ (z = x ∨ Ahd L x z)) (hn : L.Nodup) (hall : ∀ x, Rch s x v → x ∈ L) {T P T' P' : List Nat} (hT : ∀ x, x ∈ T ↔ ∃ z ∈ B, Mut s x z) (hv : v ∉ T)
    (h : Dfs t [v] T P T' P') : (∀ x, x ∈ T' ↔ x ∈ T ∨ Mut s x v) ∧ ∃ M, P' = P ++ M ∧ M.Nodup ∧ ∀ x, x ∈ M ↔ Mut s x v := by
  have key : ∀ x, Rcu t T v x ↔ Mut s x v := fun x => by
    constructor
    · intro hr
      have hxv : Rch s x v := hr.rch.turn fun x y => h2 y x
      have hxT := hr.end_
      have hm := hall x hxv
      rw [hL, List.mem_append, List.mem_cons] at hm
      rcases hm with hm | rfl | hm
      · obtain ⟨p, q, rfl⟩ := List.append_of_mem hm
        obtain ⟨z, hz, hz2⟩ := hW x v ⟨p, q, B, by rw [hL]⟩ hxv
        rcases hz2 with rfl | hz2
        · exact hz
        · refine absurd ((hT x).2 ⟨z, ?_, hz⟩) hxT
          obtain ⟨p', q', r', e⟩ := hz2
          rw [hL] at e hn
          have e : p ++ x :: q ++ v :: B = p' ++ v :: (q' ++ z :: r') := by rw [e]; simp
          -- v stands once in L
          have hu : ∀ (a b c d : List Nat), a ++ v :: b = c ++ v :: d → v ∉ a → v ∉ c → b = d := by
            intro a
            induction a with
            | nil =>
              intro b c d e _ hc
              cases c with
              | nil => simpa using e
              | cons y c =>
                simp only [List.nil_append, List.cons_append, List.cons.injEq] at e
                exact absurd (e.1 ▸ List.mem_cons_self) hc
            | cons y a ih =>
              intro b c d e ha hc
              cases c with
              | nil =>
                simp only [List.nil_append, List.cons_append, List.cons.injEq] at e
                exact absurd (e.1 ▸ List.mem_cons_self) ha
              | cons w c =>
                simp only [List.cons_append, List.cons.injEq] at e
                exact ih b c d e.2 (fun k => ha (List.mem_cons_of_mem _ k)) (fun k => hc (List.mem_cons_of_mem _ k))
          have n1 : v ∉ p ++ x :: q := fun k => (List.nodup_append.1 hn).2.2 v k v List.mem_cons_self rfl
          have n2 : v ∉ p' := fun k => by
            rw [e] at hn
            exact (List.nodup_append.1 hn).2.2 v k v List.mem_cons_self rfl
          have := hu _ _ _ _ e n1 n2
          rw [this]
          simp
      · exact Mut.refl s x
      · exact absurd ((hT x).2 ⟨x, hm, Mut.refl s x⟩) hxT
    · intro hm
      have hnT : ∀ u, Mut s u v → u ∉ T := fun u hu hc => by
        obtain ⟨z, hz, hz2⟩ := (hT u).1 hc
        exact hv ((hT v).2 ⟨z, hz, hu.symm.trans hz2⟩)
      obtain ⟨hr, hb⟩ := hm
      -- along the path from x to v all are around v
      clear hall hW hT h hL
      induction hr with
      | refl v => exact .refl v hv
      | @step u y v hmem k ih =>
        have hyu : Rch s v y := hb.snoc hmem
        exact (ih hv hnT hyu).snoc (h1 _ _ hmem) (hnT u ⟨.step hmem k, hb⟩)
  have hs : ∀ x, x ∈ T' ↔ x ∈ T ∨ Mut s x v := fun x => by
    rw [h.seen x]
    constructor
    · rintro (a | ⟨w, hw, hr⟩)
      · exact .inl a
      · rw [List.mem_singleton] at hw
        exact .inr ((key x).1 (hw ▸ hr))
    · rintro (a | a)
      · exact .inl a
      · exact .inr ⟨v, by simp, (key x).2 a⟩
  refine ⟨hs, ?_⟩
  obtain ⟨M, e, n, m⟩ := h.left
  refine ⟨M, e, n, fun x => ?_⟩
  rw [m, hs]
  constructor
  · rintro ⟨a | a, b⟩
    · exact absurd a b
    · exact a
  · exact fun a => ⟨.inr a, ((key x).2 a).end_⟩
end gr
end Go.Proofs.YtahffafobdiogaaDoor
/- The topological order: plain. -/
namespace Go.Proofs.YtahffafobdiogaaDoor
set_option linter.unusedVariables false
set_option linter.unusedSimpArgs false
namespace gr
/-- v can come next: it is not out yet, and all from which an edge leads to it are -/
def rdy (E : Nat → Nat → Bool) (n : Nat) (out : List Nat) (v : Nat) : Bool := !out.contains v && (List.range n).all fun u => !E u v || out.contains u
theorem rdy_iff {E : Nat → Nat → Bool} {n : Nat} {out : List Nat} {v : Nat} : rdy E n out v = true ↔ v ∉ out ∧ ∀ u, u < n → E u v = true → u ∈ out := by
  unfold rdy
  rw [Bool.and_eq_true, List.all_eq_true]
  simp only [Bool.not_eq_true', List.mem_range, Bool.or_eq_true, List.contains_iff_mem]
  constructor
  · rintro ⟨a, b⟩
    refine ⟨fun c => ?_, fun u hu he => ?_⟩
    · rw [← List.contains_iff_mem] at c
      rw [c] at a
      cases a
    · rcases b u hu with h | h
      · rw [h] at he
        cases he
      · exact h
  · rintro ⟨a, b⟩
    refine ⟨?_, fun u hu => ?_⟩
    · cases h : out.contains v
      · rfl
      · exact absurd (List.contains_iff_mem.1 h) a
    · cases h : E u v
      · exact .inl rfl
      · exact .inr (b u hu h)
/-- the least that can come next -/
def nxt (E : Nat → Nat → Bool) (n : Nat) (out : List Nat) : Option Nat := (List.range n).find? (rdy E n out)
def kah (E : Nat → Nat → Bool) (n : Nat) : Nat → List Nat → List Nat
  | 0, out => out
  | k + 1, out => match nxt E n out with
    | none => out
    | some v => kah E n k (out ++ [v])
theorem nxt_some {E : Nat → Nat → Bool} {n : Nat} {out : List Nat} {v : Nat} (h : nxt E n out = some v) : v < n ∧ rdy E n out v = true :=
  ⟨List.mem_range.1 (List.mem_of_find?_eq_some h), List.find?_some h⟩
/-- what is out: each once, and behind all from which an edge leads to it -/
def Ord (E : Nat → Nat → Bool) (n : Nat) (out : List Nat) : Prop := out.Nodup ∧ (∀ v ∈ out, v < n) ∧ ∀ p v q, out = p ++ v :: q → ∀ u, u < n → E u v = true → u ∈ p
theorem Ord.nil (E : Nat → Nat → Bool) (n : Nat) : Ord E n [] := ⟨List.nodup_nil, fun v h => (by cases h), fun p v q h => (by simp at h)⟩
theorem Ord.add {E : Nat → Nat → Bool} {n : Nat} {out : List Nat} (h : Ord E n out) {v : Nat} (hv : v < n) (hr : rdy E n out v = true) : Ord E n (out ++ [v]) := by
  obtain ⟨h1, h2⟩ := rdy_iff.1 hr
  refine ⟨?_, fun w hw => ?_, fun p w q e u hu he => ?_⟩
  · rw [List.nodup_append]
    refine ⟨h.1, by simp, fun a ha b hb e => ?_⟩
    rw [List.mem_singleton] at hb
    exact h1 (hb ▸ e ▸ ha)
  · rcases List.mem_append.1 hw with hw | hw
    · exact h.2.1 w hw
    · rw [List.mem_singleton] at hw
      exact hw ▸ hv
  · rcases List.eq_nil_or_concat q with rfl | ⟨q', y, rfl⟩
    · obtain ⟨e1, e2⟩ := List.append_inj' e rfl
      rw [List.cons.injEq] at e2
      rw [← e1]
      exact h2 u hu (by rw [e2.1]; exact he)
    · have e' : out ++ [v] = (p ++ w :: q') ++ [y] := by rw [e]; simp
      obtain ⟨e1, _⟩ := List.append_inj' e' rfl
      exact h.2.2 p w q' e1 u hu he
theorem nodup_len' {α : Type} : ∀ (l m : List α), l.Nodup → (∀ x ∈ l, x ∈ m) → l.length ≤ m.length
  | [], _, _, _ => Nat.zero_le _
  | a :: l, m, hn, hs => by
    obtain ⟨s, t, rfl⟩ := List.append_of_mem (hs a List.mem_cons_self)
    rw [List.nodup_cons] at hn
    have := nodup_len' l (s ++ t) hn.2 fun x hx => by
      have h1 := hs x (List.mem_cons_of_mem _ hx)
      rw [List.mem_append, List.mem_cons] at h1
      rw [List.mem_append]
      rcases h1 with h | rfl | h
      · exact .inl h
      · exact absurd hx hn.1
      · exact .inr h
    simp only [List.length_append, List.length_cons] at this ⊢
    omega
theorem Ord.len {E : Nat → Nat → Bool} {n : Nat} {out : List Nat} (h : Ord E n out) : out.length ≤ n := by
  have := nodup_len' out (List.range n) h.1 fun x hx => List.mem_range.2 (h.2.1 x hx)
  rwa [List.length_range] at this
/-- a way of at least one edge -/
inductive Way (E : Nat → Nat → Bool) (n : Nat) : Nat → Nat → Prop
  | one {u v : Nat} (hu : u < n) (hv : v < n) (h : E u v = true) : Way E n u v
  | more {u v w : Nat} (hu : u < n) (h : E u v = true) (k : Way E n v w) : Way E n u w
theorem Way.snoc {E : Nat → Nat → Bool} {n : Nat} {u v w : Nat} (h : Way E n u v) (hw : w < n) (he : E v w = true) : Way E n u w := by
  induction h with
  | one hu hv k => exact .more hu k (.one hv hw he)
  | more hu k _ ih => exact .more hu k (ih he)
end gr
end Go.Proofs.YtahffafobdiogaaDoor
/- Shortest ways, and cycles by their least vertex: plain. -/
namespace Go.Proofs.YtahffafobdiogaaDoor
set_option linter.unusedVariables false
set_option linter.unusedSimpArgs false
namespace gr
/-- a way of d edges from a vertex to t, by vertices from low on -/
inductive Pd (E : Nat → Nat → Bool) (n low t : Nat) : Nat → Nat → Prop
  | zero : Pd E n low t 0 t
  | succ {d u v : Nat} (hu : u < n) (hl : low ≤ u) (h : E u v = true) (k : Pd E n low t d v) : Pd E n low t (d + 1) u
/-- the shortest -/
def Ds (E : Nat → Nat → Bool) (n low t d w : Nat) : Prop := Pd E n low t d w ∧ ∀ e, Pd E n low t e w → d ≤ e
theorem Ds.ex {E : Nat → Nat → Bool} {n low t d w : Nat} (h : Pd E n low t d w) : ∃ e, e ≤ d ∧ Ds E n low t e w := by
  induction d using Nat.strongRecOn with
  | ind d ih =>
    rcases Classical.em (∃ e, e < d ∧ Pd E n low t e w) with ⟨e, he, hp⟩ | hn
    · obtain ⟨f, hf, hd⟩ := ih e he hp
      exact ⟨f, by omega, hd⟩
    · exact ⟨d, Nat.le_refl _, h, fun e he => Nat.le_of_not_lt fun hl => hn ⟨e, hl, he⟩⟩
theorem Ds.uniq {E : Nat → Nat → Bool} {n low t d e w : Nat} (h : Ds E n low t d w) (k : Ds E n low t e w) : d = e := Nat.le_antisymm (h.2 e k.1) (k.2 d h.1)
theorem Pd.zero_iff {E : Nat → Nat → Bool} {n low t w : Nat} : Pd E n low t 0 w ↔ w = t := by
  constructor
  · intro h
    cases h
    rfl
  · rintro rfl
    exact .zero
theorem Ds.zero_iff {E : Nat → Nat → Bool} {n low t w : Nat} : Ds E n low t 0 w ↔ w = t :=
  ⟨fun h => Pd.zero_iff.1 h.1, fun h => ⟨Pd.zero_iff.2 h, fun _ _ => Nat.zero_le _⟩⟩
/-- one level more: those that lead to the level d and are in none up to it -/
theorem Ds.succ_iff {E : Nat → Nat → Bool} {n low t d w : Nat} : Ds E n low t (d + 1) w ↔ w < n ∧ low ≤ w ∧ (∃ v, E w v = true ∧ Ds E n low t d v) ∧ ∀ e, e ≤ d → ¬ Ds E n low t e w := by
  constructor
  · rintro ⟨h, k⟩
    cases h with
    | @succ _ _ v hu hl he hk =>
      refine ⟨hu, hl, ⟨v, he, hk, fun e hp => ?_⟩, fun e hle hd => ?_⟩
      · have := k (e + 1) (.succ hu hl he hp)
        omega
      · have := k e hd.1
        omega
  · rintro ⟨hu, hl, ⟨v, he, hd⟩, hn⟩
    refine ⟨.succ hu hl he hd.1, fun e hp => Nat.le_of_not_lt fun hlt => ?_⟩
    obtain ⟨f, hf, hdf⟩ := Ds.ex hp
    exact hn f (by omega) hdf
/-- a shortest way passes d + 1 vertices -/
theorem Ds.chain {E : Nat → Nat → Bool} {n low t : Nat} (ht : t < n) : ∀ (d w : Nat), Ds E n low t d w → ∃ l : List Nat, l.length = d + 1 ∧ l.Nodup ∧ ∀ x ∈ l, x < n ∧ ∃ e, e ≤ d ∧ Ds E n low t e x
  | 0, w, h => ⟨[w], rfl, by simp, fun x hx => by
      rw [List.mem_singleton] at hx
      subst hx
      exact ⟨Ds.zero_iff.1 h ▸ ht, 0, Nat.le_refl _, h⟩⟩
  | d + 1, w, h => by
    obtain ⟨hu, hl, ⟨v, he, hd⟩, hn⟩ := Ds.succ_iff.1 h
    obtain ⟨l, h1, h2, h3⟩ := Ds.chain ht d v hd
    refine ⟨w :: l, by rw [List.length_cons, h1], List.nodup_cons.2 ⟨fun hm => ?_, h2⟩, fun x hx => ?_⟩
    · obtain ⟨_, e, hle, hde⟩ := h3 w hm
      exact hn e hle hde
    · rcases List.mem_cons.1 hx with rfl | hx
      · exact ⟨hu, d + 1, Nat.le_refl _, h⟩
      · obtain ⟨a, e, b, c⟩ := h3 x hx
        exact ⟨a, e, by omega, c⟩
theorem Ds.lt {E : Nat → Nat → Bool} {n low t d w : Nat} (ht : t < n) (h : Ds E n low t d w) : d < n := by
  obtain ⟨l, h1, h2, h3⟩ := Ds.chain ht d w h
  have := nodup_len' l (List.range n) h2 fun x hx => List.mem_range.2 (h3 x hx).1
  rw [List.length_range] at this
  omega
theorem Way.trans {E : Nat → Nat → Bool} {n : Nat} {u v w : Nat} (h : Way E n u v) (k : Way E n v w) : Way E n u w := by
  induction h with
  | one hu hv he => exact .more hu he k
  | more hu he _ ih => exact .more hu he (ih k)
theorem Way.lt {E : Nat → Nat → Bool} {n : Nat} {u v : Nat} (h : Way E n u v) : u < n ∧ v < n := by
  induction h with
  | one hu hv _ => exact ⟨hu, hv⟩
  | more hu _ _ ih => exact ⟨hu, ih.2⟩
end gr
end Go.Proofs.YtahffafobdiogaaDoor
/- The bits of a word, the least first: plain. -/
namespace Go.Proofs.YtahffafobdiogaaDoor
set_option linter.unusedVariables false
set_option linter.unusedSimpArgs false
namespace gr
/-- the places of the bits of a word -/
def bitsL (x : Nat) : List Nat := (List.range 64).filter fun i => x.testBit i
theorem bitsL_mem {x i : Nat} : i ∈ bitsL x ↔ i < 64 ∧ x.testBit i = true := by
  unfold bitsL
  rw [List.mem_filter, List.mem_range]
theorem bitsL_zero : bitsL 0 = [] := by
  unfold bitsL
  rw [List.filter_eq_nil_iff]
  intro i _
  simp
theorem low_bits {x : Nat} (h0 : x ≠ 0) (hx : x < 18446744073709551616) : Lib.ctz 64 x < 64 ∧ x.testBit (Lib.ctz 64 x) = true ∧ (∀ i, i < Lib.ctz 64 x → x.testBit i = false) ∧ ∀ i, (x &&& (x - 1)).testBit i = (x.testBit i && decide (i ≠ Lib.ctz 64 x)) := by
  have hc : Lib.ctz 64 x = Lib.ctzFrom 64 x := by unfold Lib.ctz; rw [if_neg h0]
  obtain ⟨m, hm, hk⟩ := Lib.ctzFrom_spec 64 x (by omega) hx
  rw [hc]
  generalize Lib.ctzFrom 64 x = k at *
  have e1 : ∀ i, x.testBit i = (decide (k ≤ i) && (2 * m + 1).testBit (i - k)) := fun i => by
    rw [hm, Nat.mul_comm, Nat.testBit_mul_two_pow]
  have hp : 0 < 2 ^ k := Nat.two_pow_pos k
  have e0 : x - 1 = 2 ^ k * (2 * m) + (2 ^ k - 1) := by
    rw [hm, Nat.mul_add]
    omega
  have e2 : ∀ i, (x - 1).testBit i = if i < k then (2 ^ k - 1).testBit i else (2 * m).testBit (i - k) := fun i => by
    rw [e0, Nat.testBit_two_pow_mul_add _ (by omega)]
  refine ⟨hk, ?_, fun i hi => ?_, fun i => ?_⟩
  · rw [e1]
    simp
  · rw [e1, decide_eq_false (by omega), Bool.false_and]
  · rw [Nat.testBit_and, e1, e2]
    by_cases h1 : i < k
    · rw [decide_eq_false (by omega)]
      simp
    · rw [if_neg h1]
      by_cases h2 : i = k
      · subst h2
        simp
      · obtain ⟨j, rfl⟩ : ∃ j, i = k + (j + 1) := ⟨i - k - 1, by omega⟩
        have e3 : k + (j + 1) - k = j + 1 := by omega
        rw [e3, Nat.testBit_succ, Nat.testBit_succ]
        have d1 : (2 * m + 1) / 2 = m := by omega
        have d2 : 2 * m / 2 = m := by omega
        rw [d1, d2, decide_eq_true (by omega : k ≤ k + (j + 1)), decide_eq_true (by omega : k + (j + 1) ≠ k)]
        cases m.testBit j <;> rfl
/-- one round of 'for word != 0; word &= word - 1' -/
theorem bits_step {x : Nat} (h0 : x ≠ 0) (hx : x < 18446744073709551616) : bitsL x = Lib.ctz 64 x :: bitsL (x &&& (x - 1)) ∧ x &&& (x - 1) < x := by
  obtain ⟨h1, h2, h3, h4⟩ := low_bits h0 hx
  refine ⟨?_, ?_⟩
  · generalize Lib.ctz 64 x = k at *
    unfold bitsL
    have hr : List.range 64 = List.range k ++ k :: (List.range (63 - k)).map (· + (k + 1)) := by
      have := @List.range_add k (64 - k)
      rw [show k + (64 - k) = 64 by omega] at this
      rw [this, show 64 - k = (63 - k) + 1 by omega, List.range_succ_eq_map, List.map_cons, List.map_map]
      congr 2
      apply List.map_congr_left
      intro a _
      simp
      omega
    rw [hr, List.filter_append, List.filter_append, List.filter_cons, List.filter_cons]
    have f1 : (List.range k).filter (fun i => x.testBit i) = [] := by
      rw [List.filter_eq_nil_iff]
      intro i hi
      rw [h3 i (List.mem_range.1 hi)]
      simp
    have f2 : (List.range k).filter (fun i => (x &&& (x - 1)).testBit i) = [] := by
      rw [List.filter_eq_nil_iff]
      intro i hi
      rw [h4, h3 i (List.mem_range.1 hi)]
      simp
    have f3 : (x &&& (x - 1)).testBit k = false := by rw [h4]; simp
    rw [f1, f2, h2, f3]
    simp only [List.nil_append, if_true, Bool.false_eq_true, if_false]
    congr 1
    apply List.filter_congr
    intro i hi
    obtain ⟨a, _, rfl⟩ := List.mem_map.1 hi
    rw [h4, decide_eq_true (by omega : a + (k + 1) ≠ k), Bool.and_true]
  · have := @Nat.and_le_right x (x - 1)
    omega
/-- the members of a row of words -/
def inW (l : List Nat) (v : Nat) : Bool := (l.getD (v / 64) 0).testBit (v % 64)
/-- those of one row that are not in another, in order -/
theorem andn_bit (x y i : Nat) (hx : x < 18446744073709551616) : (x &&& (18446744073709551615 - y % 18446744073709551616)).testBit i = (x.testBit i && !y.testBit i) := by
  rw [Nat.testBit_and]
  by_cases hi : i < 64
  · have h := Nat.testBit_two_pow_sub_succ (x := y % 18446744073709551616) (n := 64) (by omega) i
    have e : 2 ^ 64 - (y % 18446744073709551616 + 1) = 18446744073709551615 - y % 18446744073709551616 := by omega
    rw [e] at h
    have h2 : (y % 18446744073709551616).testBit i = y.testBit i := by
      have := Nat.testBit_mod_two_pow y 64 i
      rw [show (2 : Nat) ^ 64 = 18446744073709551616 from rfl] at this
      rw [this, decide_eq_true hi, Bool.true_and]
    rw [h, decide_eq_true hi, Bool.true_and, h2]
  · have hb : x.testBit i = false := Nat.testBit_lt_two_pow (Nat.lt_of_lt_of_le hx (show 2 ^ 64 ≤ 2 ^ i from Nat.pow_le_pow_right (by omega) (by omega)))
    rw [hb]
    simp
end gr
end Go.Proofs.YtahffafobdiogaaDoor
/- Lists in order that hold the same are the same; the parts of a graph: plain. -/
namespace Go.Proofs.YtahffafobdiogaaDoor
set_option linter.unusedVariables false
set_option linter.unusedSimpArgs false
namespace gr
theorem asc_ext {α : Type} (f : α → Nat) : ∀ (l m : List α), l.Pairwise (fun a b => f a < f b) → m.Pairwise (fun a b => f a < f b) → (∀ x, x ∈ l ↔ x ∈ m) → l = m
  | [], [], _, _, _ => rfl
  | [], b :: m, _, _, h => absurd ((h b).2 List.mem_cons_self) (by simp)
  | a :: l, [], _, _, h => absurd ((h a).1 List.mem_cons_self) (by simp)
  | a :: l, b :: m, hl, hm, h => by
    rw [List.pairwise_cons] at hl hm
    have hab : a = b := by
      rcases List.mem_cons.1 ((h a).1 List.mem_cons_self) with e | e
      · exact e
      · rcases List.mem_cons.1 ((h b).2 List.mem_cons_self) with e2 | e2
        · exact e2.symm
        · have h1 := hm.1 a e
          have h2 := hl.1 b e2
          omega
    subst hab
    congr 1
    refine asc_ext f l m hl.2 hm.2 fun x => ⟨fun hx => ?_, fun hx => ?_⟩
    · rcases List.mem_cons.1 ((h x).1 (List.mem_cons_of_mem _ hx)) with e | e
      · have := hl.1 x hx
        rw [e] at this
        omega
      · exact e
    · rcases List.mem_cons.1 ((h x).2 (List.mem_cons_of_mem _ hx)) with e | e
      · have := hm.1 x hx
        rw [e] at this
        omega
      · exact e
/-- the component of v among the vertices below n, in order -/
noncomputable def cmp (s : Nat → List Nat) (n v : Nat) : List Nat := open Classical in (List.range n).filter fun w => decide (Mut s v w)
theorem cmp_mem {s : Nat → List Nat} {n v w : Nat} : w ∈ cmp s n v ↔ w < n ∧ Mut s v w := by
  unfold cmp
  simp only [List.mem_filter, List.mem_range, decide_eq_true_eq]
theorem cmp_asc (s : Nat → List Nat) (n v : Nat) : (cmp s n v).Pairwise (· < ·) := by
  unfold cmp
  exact List.Pairwise.filter _ List.pairwise_lt_range
theorem cmp_eq {s : Nat → List Nat} {n v w : Nat} (h : Mut s v w) : cmp s n v = cmp s n w :=
  asc_ext id _ _ (cmp_asc s n v) (cmp_asc s n w) fun x => by
    rw [cmp_mem, cmp_mem]
    exact ⟨fun k => ⟨k.1, h.symm.trans k.2⟩, fun k => ⟨k.1, h.trans k.2⟩⟩
/-- the least vertices of the components -/
noncomputable def lst1 (s : Nat → List Nat) (n : Nat) : List Nat := open Classical in (List.range n).filter fun v => decide (∀ w, w < n → Mut s v w → v ≤ w)
theorem lst1_mem {s : Nat → List Nat} {n v : Nat} : v ∈ lst1 s n ↔ v < n ∧ ∀ w, w < n → Mut s v w → v ≤ w := by
  unfold lst1
  simp only [List.mem_filter, List.mem_range, decide_eq_true_eq]
/-- the components, in the order of their least vertices -/
noncomputable def prts (s : Nat → List Nat) (n : Nat) : List (List Nat) := (lst1 s n).map (cmp s n)
theorem head_least {s : Nat → List Nat} {n v : Nat} (hv : v ∈ lst1 s n) : ∃ r, cmp s n v = v :: r := by
  obtain ⟨h1, h2⟩ := lst1_mem.1 hv
  have hm : v ∈ cmp s n v := cmp_mem.2 ⟨h1, Mut.refl s v⟩
  have ha := cmp_asc s n v
  have hh : ∀ w ∈ cmp s n v, v ≤ w := fun w hw => h2 w (cmp_mem.1 hw).1 (cmp_mem.1 hw).2
  cases hc : cmp s n v with
  | nil => rw [hc] at hm; cases hm
  | cons a r =>
    rw [hc] at hm ha hh
    rw [List.pairwise_cons] at ha
    rcases List.mem_cons.1 hm with rfl | hm
    · exact ⟨r, rfl⟩
    · have h3 := ha.1 v hm
      have h4 := hh a List.mem_cons_self
      omega
theorem prts_asc (s : Nat → List Nat) (n : Nat) : (prts s n).Pairwise (fun a b => a.headD 0 < b.headD 0) := by
  unfold prts
  rw [List.pairwise_map]
  have h : (lst1 s n).Pairwise (· < ·) := by
    unfold lst1
    exact List.Pairwise.filter _ List.pairwise_lt_range
  refine List.Pairwise.imp_of_mem (R := (· < ·)) (fun {a b} ha hb hab => ?_) h
  obtain ⟨r, e⟩ := head_least ha
  obtain ⟨q, f⟩ := head_least hb
  rw [e, f]
  exact hab
theorem prts_mem {s : Nat → List Nat} {n : Nat} {l : List Nat} : l ∈ prts s n ↔ ∃ v, v < n ∧ l = cmp s n v := by
  unfold prts
  rw [List.mem_map]
  constructor
  · rintro ⟨v, hv, rfl⟩
    exact ⟨v, (lst1_mem.1 hv).1, rfl⟩
  · rintro ⟨v, hv, rfl⟩
    -- the least of its component
    have : ∃ m, m < n ∧ Mut s v m ∧ ∀ w, w < n → Mut s v w → m ≤ w := by
      have key : ∀ k, k < n → Mut s v k → ∃ m, m < n ∧ Mut s v m ∧ ∀ w, w < n → Mut s v w → m ≤ w := by
        intro k
        induction k using Nat.strongRecOn with
        | ind k ih =>
          intro hk hm
          rcases Classical.em (∃ x, x < k ∧ Mut s v x) with ⟨x, hx, hp⟩ | hn
          · exact ih x hx (by omega) hp
          · exact ⟨k, hk, hm, fun w _ hw => Nat.le_of_not_lt fun hl => hn ⟨w, hl, hw⟩⟩
      exact key v hv (Mut.refl s v)
    obtain ⟨m, h1, h2, h3⟩ := this
    exact ⟨m, lst1_mem.2 ⟨h1, fun w hw hm => h3 w hw (h2.trans hm)⟩, (cmp_eq h2).symm⟩
/-- any list of ascending lists, by their heads in order, that are the components, is that -/
theorem prts_uniq {s : Nat → List Nat} {n : Nat} {ps : List (List Nat)} (h1 : ps.Pairwise (fun a b => a.headD 0 < b.headD 0)) (h2 : ∀ l, l ∈ ps ↔ ∃ v, v < n ∧ l = cmp s n v) : ps = prts s n :=
  asc_ext (fun l : List Nat => l.headD 0) _ _ h1 (prts_asc s n) fun l => by rw [h2, prts_mem]
end gr
end Go.Proofs.YtahffafobdiogaaDoor
/- A search in breadth by a queue: plain. -/
namespace Go.Proofs.YtahffafobdiogaaDoor
set_option linter.unusedVariables false
set_option linter.unusedSimpArgs false
namespace gr
abbrev Dst := Nat → Option Nat
def Dst.put (D : Dst) (w d : Nat) : Dst := fun x => if x = w then some d else D x
/-- while the neighbours of v (at distance dv) are looked at: those in rest are still to come; todo is the queue behind v -/
structure Bfs (E : Nat → Nat → Bool) (n low t : Nat) (D : Dst) (v dv : Nat) (rest todo : List Nat) : Prop where
  ht : t < n
  sound : ∀ w d, D w = some d → Ds E n low t d w ∧ w < n
  at_ : D v = some dv
  queue : ∀ x ∈ todo, ∃ e, D x = some e ∧ dv ≤ e ∧ e ≤ dv + 1
  sorted : todo.Pairwise (fun a b => ∀ d e, D a = some d → D b = some e → d ≤ e)
  full : ∀ w e, Ds E n low t e w → e ≤ dv → D w = some e
  closed : ∀ x d, D x = some d → x ∉ todo → x ≠ v → ∀ w, w < n → low ≤ w → E w x = true → D w ≠ none
  done : v ∉ todo → ∀ w, w < n → low ≤ w → E w v = true → w ∉ rest → D w ≠ none
/-- a neighbour that is known, or is not wanted -/
theorem Bfs.skip {E : Nat → Nat → Bool} {n low t : Nat} {D : Dst} {v dv w : Nat} {rest todo : List Nat} (h : Bfs E n low t D v dv (w :: rest) todo) (hw : D w ≠ none ∨ ¬ low ≤ w) : Bfs E n low t D v dv rest todo where
  ht := h.ht
  sound := h.sound
  at_ := h.at_
  queue := h.queue
  sorted := h.sorted
  full := h.full
  closed := h.closed
  done := fun hv x hx hl he hr => by
    by_cases e : x = w
    · subst e
      rcases hw with hw | hw
      · exact hw
      · exact absurd hl hw
    · exact h.done hv x hx hl he fun hm => by
        rcases List.mem_cons.1 hm with hm | hm
        · exact e hm
        · exact hr hm
/-- a new one -/
theorem Bfs.add {E : Nat → Nat → Bool} {n low t : Nat} {D : Dst} {v dv w : Nat} {rest todo : List Nat} (h : Bfs E n low t D v dv (w :: rest) todo) (hn : w < n) (hl : low ≤ w) (he : E w v = true) (hw : D w = none) :
    Bfs E n low t (D.put w (dv + 1)) v dv rest (todo ++ [w]) := by
  have hds : Ds E n low t (dv + 1) w := Ds.succ_iff.2 ⟨hn, hl, ⟨v, he, (h.sound v dv h.at_).1⟩, fun e hle hd => by
    have := h.full w e hd hle
    rw [hw] at this
    cases this⟩
  have hold : ∀ x, x ≠ w → D.put w (dv + 1) x = D x := fun x hx => by unfold Dst.put; rw [if_neg hx]
  have hnew : D.put w (dv + 1) w = some (dv + 1) := by unfold Dst.put; rw [if_pos rfl]
  have hne : ∀ x d, D x = some d → x ≠ w := fun x d hx e => by
    rw [e, hw] at hx
    cases hx
  have hnn : ∀ x, D x ≠ none → D.put w (dv + 1) x ≠ none := fun x hx => by
    by_cases e : x = w
    · rw [e, hnew]
      simp
    · rw [hold x e]
      exact hx
  refine ⟨h.ht, fun x d hx => ?_, ?_, fun x hx => ?_, ?_, fun x e hd hle => ?_, fun x d hx hq hv y hy hly hey => ?_, fun hv x hx hlx hex hr => ?_⟩
  · by_cases e : x = w
    · subst e
      rw [hnew] at hx
      obtain rfl := Option.some.inj hx
      exact ⟨hds, hn⟩
    · rw [hold x e] at hx
      exact h.sound x d hx
  · rw [hold v (hne v dv h.at_)]
    exact h.at_
  · rcases List.mem_append.1 hx with hx | hx
    · obtain ⟨e, a, b, c⟩ := h.queue x hx
      exact ⟨e, by rw [hold x (hne x e a)]; exact a, b, c⟩
    · rw [List.mem_singleton] at hx
      subst hx
      exact ⟨dv + 1, hnew, by omega, Nat.le_refl _⟩
  · rw [List.pairwise_append]
    refine ⟨?_, by simp, fun a ha b hb d e hd hde => ?_⟩
    · refine List.Pairwise.imp_of_mem (fun {a b} ha hb hab d e hd hde => ?_) h.sorted
      obtain ⟨d', a1, _⟩ := h.queue a ha
      obtain ⟨e', b1, _⟩ := h.queue b hb
      rw [hold a (hne a d' a1)] at hd
      rw [hold b (hne b e' b1)] at hde
      exact hab d e hd hde
    · rw [List.mem_singleton] at hb
      subst hb
      obtain ⟨d', a1, a2, a3⟩ := h.queue a ha
      rw [hold a (hne a d' a1), a1] at hd
      rw [hnew] at hde
      obtain rfl := Option.some.inj hd
      obtain rfl := Option.some.inj hde
      exact a3
  · have := h.full x e hd hle
    rw [hold x (hne x e this)]
    exact this
  · have hxw : x ≠ w := fun e => hq (by rw [e]; simp)
    rw [hold x hxw] at hx
    exact hnn y (h.closed x d hx (fun hm => hq (List.mem_append_left _ hm)) hv y hy hly hey)
  · by_cases e : x = w
    · rw [e, hnew]
      simp
    · exact hnn x (h.done (fun hm => hv (List.mem_append_left _ hm)) x hx hlx hex fun hm => by
        rcases List.mem_cons.1 hm with hm | hm
        · exact e hm
        · exact hr hm)
/-- the next one of the queue -/
theorem Bfs.pop {E : Nat → Nat → Bool} {n low t : Nat} {D : Dst} {v dv x : Nat} {todo rest : List Nat} (h : Bfs E n low t D v dv [] (x :: todo)) (hv : v ∉ x :: todo) (hr : ∀ w, w < n → low ≤ w → E w x = true → w ∈ rest) :
    ∃ e, D x = some e ∧ Bfs E n low t D x e rest todo := by
  obtain ⟨e, h1, h2, h3⟩ := h.queue x List.mem_cons_self
  have hs := h.sorted
  rw [List.pairwise_cons] at hs
  have hge : ∀ y ∈ todo, ∃ f, D y = some f ∧ e ≤ f ∧ f ≤ e + 1 := fun y hy => by
    obtain ⟨f, a, b, c⟩ := h.queue y (List.mem_cons_of_mem _ hy)
    exact ⟨f, a, hs.1 y hy e f h1 a, by omega⟩
  refine ⟨e, h1, h.ht, h.sound, h1, hge, hs.2, fun w f hd hle => ?_, fun y d hy hq hne w hw hl hE => ?_, fun _ w hw hl hE hn => absurd (hr w hw hl hE) hn⟩
  · rcases Nat.lt_or_ge dv f with hlt | hge2
    · -- a level more: what leads to it has been looked at
      have hf : f = dv + 1 := by omega
      subst hf
      obtain ⟨hw, hl, ⟨u, hE, hu⟩, _⟩ := Ds.succ_iff.1 hd
      have hu1 := h.full u dv hu (Nat.le_refl _)
      have hwn : D w ≠ none := by
        by_cases huv : u = v
        · subst huv
          exact h.done hv w hw hl hE (by simp)
        · refine h.closed u dv hu1 (fun hm => ?_) huv w hw hl hE
          -- all in the queue are at e = dv + 1 at least
          have he : e = dv + 1 := by omega
          rcases List.mem_cons.1 hm with rfl | hm
          · rw [h1] at hu1
            have := Option.some.inj hu1
            omega
          · obtain ⟨f, a, b, _⟩ := hge u hm
            rw [a] at hu1
            have := Option.some.inj hu1
            omega
      cases hD : D w with
      | none => exact absurd hD hwn
      | some g => rw [(h.sound w g hD).1.uniq hd]
    · exact h.full w f hd hge2
  · by_cases hyv : y = v
    · subst hyv
      exact h.done hv w hw hl hE (by simp)
    · exact h.closed y d hy (fun hm => by
        rcases List.mem_cons.1 hm with hm | hm
        · exact hne hm
        · exact hq hm) hyv w hw hl hE
/-- at the end all distances are right -/
theorem Bfs.fin {E : Nat → Nat → Bool} {n low t : Nat} {D : Dst} {v dv : Nat} (h : Bfs E n low t D v dv [] []) : ∀ w d, D w = some d ↔ Ds E n low t d w := by
  have key : ∀ d w, Ds E n low t d w → D w = some d := by
    intro d
    induction d with
    | zero => exact fun w hd => h.full w 0 hd (Nat.zero_le _)
    | succ d ih =>
      intro w hd
      obtain ⟨hw, hl, ⟨u, hE, hu⟩, _⟩ := Ds.succ_iff.1 hd
      have hu1 := ih u hu
      have hwn : D w ≠ none := by
        by_cases huv : u = v
        · subst huv
          exact h.done (by simp) w hw hl hE (by simp)
        · exact h.closed u d hu1 (by simp) huv w hw hl hE
      cases hD : D w with
      | none => exact absurd hD hwn
      | some g => rw [(h.sound w g hD).1.uniq hd]
  exact fun w d => ⟨fun hx => (h.sound w d hx).1, key d w⟩
/-- the start -/
theorem Bfs.start {E : Nat → Nat → Bool} {n low t : Nat} (ht : t < n) {rest : List Nat} (hr : ∀ w, w < n → low ≤ w → E w t = true → w ∈ rest) : Bfs E n low t (fun x => if x = t then some 0 else none) t 0 rest [] := by
  refine ⟨ht, fun w d hx => ?_, if_pos rfl, fun x hx => (by cases hx), List.Pairwise.nil, fun w e hd hle => ?_, fun x d hx _ hne => ?_, fun _ w hw hl hE hn => absurd (hr w hw hl hE) hn⟩
  · split at hx
    · rename_i e
      obtain rfl := Option.some.inj hx
      exact ⟨Ds.zero_iff.2 e, e ▸ ht⟩
    · cases hx
  · obtain rfl : e = 0 := by omega
    rw [if_pos (Ds.zero_iff.1 hd)]
  · rw [if_neg hne] at hx
    cases hx
end gr
end Go.Proofs.YtahffafobdiogaaDoor
/- A search put together from parts; the members of a row of words, in order: plain. -/
namespace Go.Proofs.YtahffafobdiogaaDoor
set_option linter.unusedVariables false
set_option linter.unusedSimpArgs false
namespace gr
theorem Dfs.app {s : Nat → List Nat} {l m S L S1 L1 S2 L2 : List Nat} (h : Dfs s l S L S1 L1) (k : Dfs s m S1 L1 S2 L2) : Dfs s (l ++ m) S L S2 L2 := by
  induction h with
  | nil S L => exact k
  | skip h _ ih => exact .skip h (ih k)
  | go h k1 _ _ ih2 => exact .go h k1 (ih2 k)
/-- those that were seen at some time before may be left out -/
theorem Dfs.filtered {s : Nat → List Nat} {p : Nat → Bool} : ∀ (l S L S' L' : List Nat), (∀ x ∈ l, p x = false → x ∈ S) → Dfs s (l.filter p) S L S' L' → Dfs s l S L S' L'
  | [], _, _, _, _, _, h => h
  | a :: l, S, L, S', L', hp, h => by
    rw [List.filter_cons] at h
    by_cases ha : p a = true
    · rw [if_pos ha] at h
      cases h with
      | skip h1 k => exact .skip h1 (Dfs.filtered l S L S' L' (fun x hx hf => hp x (List.mem_cons_of_mem _ hx) hf) k)
      | @go _ _ _ _ S1 L1 _ _ h1 k1 k2 =>
        exact .go h1 k1 (Dfs.filtered l S1 _ S' L' (fun x hx hf => k1.sub.1 x (List.mem_cons_of_mem _ (hp x (List.mem_cons_of_mem _ hx) hf))) k2)
    · rw [if_neg ha] at h
      exact .skip (hp a List.mem_cons_self (by simpa using ha)) (Dfs.filtered l S L S' L' (fun x hx hf => hp x (List.mem_cons_of_mem _ hx) hf) h)
/-- the members of a row of words: the i-th word holds those from 64 i on -/
def memW (l : List Nat) : List Nat := (List.range l.length).flatMap fun i => (bitsL (l.getD i 0)).map (i * 64 + ·)
theorem memW_mem {l : List Nat} {v : Nat} : v ∈ memW l ↔ v / 64 < l.length ∧ inW l v = true := by
  unfold memW inW
  rw [List.mem_flatMap]
  constructor
  · rintro ⟨i, hi, hv⟩
    obtain ⟨b, hb, rfl⟩ := List.mem_map.1 hv
    obtain ⟨h1, h2⟩ := bitsL_mem.1 hb
    rw [List.mem_range] at hi
    have e1 : (i * 64 + b) / 64 = i := by omega
    have e2 : (i * 64 + b) % 64 = b := by omega
    rw [e1, e2]
    exact ⟨hi, h2⟩
  · rintro ⟨h1, h2⟩
    refine ⟨v / 64, List.mem_range.2 h1, List.mem_map.2 ⟨v % 64, bitsL_mem.2 ⟨by omega, h2⟩, by omega⟩⟩
theorem bitsL_asc (x : Nat) : (bitsL x).Pairwise (· < ·) := List.Pairwise.filter _ List.pairwise_lt_range
theorem memW_asc (l : List Nat) : (memW l).Pairwise (· < ·) := by
  unfold memW
  rw [List.pairwise_flatMap]
  refine ⟨fun i _ => ?_, ?_⟩
  · rw [List.pairwise_map]
    exact (bitsL_asc _).imp fun {a b} h => by omega
  · refine List.pairwise_lt_range.imp fun {i j} hij a ha b hb => ?_
    obtain ⟨x, hx, rfl⟩ := List.mem_map.1 ha
    obtain ⟨y, hy, rfl⟩ := List.mem_map.1 hb
    have := (bitsL_mem.1 hx).1
    omega
end gr
end Go.Proofs.YtahffafobdiogaaDoor
/- What is counted on the way to an order: plain. -/
namespace Go.Proofs.YtahffafobdiogaaDoor
set_option linter.unusedVariables false
set_option linter.unusedSimpArgs false
namespace gr
/-- from how many vertices that are not out an edge leads to w -/
def mis (E : Nat → Nat → Bool) (n : Nat) (out : List Nat) (w : Nat) : Nat := (List.range n).countP fun u => E u w && !out.contains u
theorem con_iff {l : List Nat} {x : Nat} : l.contains x = true ↔ x ∈ l := List.contains_iff_mem
theorem mis_zero {E : Nat → Nat → Bool} {n : Nat} {out : List Nat} {w : Nat} : mis E n out w = 0 ↔ ∀ u, u < n → E u w = true → u ∈ out := by
  unfold mis
  rw [List.countP_eq_zero]
  constructor
  · intro h u hu he
    have := h u (List.mem_range.2 hu)
    rw [he, Bool.true_and] at this
    refine con_iff.1 ?_
    cases hc : out.contains u
    · rw [hc] at this
      exact absurd rfl this
    · rfl
  · intro h u hu
    rw [Bool.and_eq_true]
    rintro ⟨a, b⟩
    have := con_iff.2 (h u (List.mem_range.1 hu) a)
    rw [this] at b
    cases b
theorem mis_rdy {E : Nat → Nat → Bool} {n : Nat} {out : List Nat} {w : Nat} : rdy E n out w = true ↔ w ∉ out ∧ mis E n out w = 0 := by
  rw [rdy_iff, mis_zero]
theorem con_snoc (out : List Nat) (v u : Nat) : (out ++ [v]).contains u = (out.contains u || decide (u = v)) := by
  rw [Bool.eq_iff_iff, con_iff, Bool.or_eq_true, con_iff, decide_eq_true_eq, List.mem_append, List.mem_singleton]
theorem countP_split {α : Type} (p q : α → Bool) (l : List α) : l.countP p = l.countP (fun x => p x && !q x) + l.countP (fun x => p x && q x) := by
  induction l with
  | nil => rfl
  | cons a l ih =>
    rw [List.countP_cons, List.countP_cons, List.countP_cons, ih]
    cases p a <;> cases q a <;> simp <;> omega
/-- v comes out: what it leads to waits for one less -/
theorem mis_snoc {E : Nat → Nat → Bool} {n : Nat} {out : List Nat} {v : Nat} (hv : v < n) (ho : v ∉ out) (w : Nat) : mis E n out w = mis E n (out ++ [v]) w + if E v w = true then 1 else 0 := by
  unfold mis
  rw [countP_split (fun u => E u w && !out.contains u) (fun u => decide (u = v))]
  have hcf : out.contains v = false := by
    cases hc : out.contains v
    · rfl
    · exact absurd (con_iff.1 hc) ho
  congr 1
  · congr 1
    funext u
    rw [con_snoc]
    cases E u w <;> cases out.contains u <;> cases decide (u = v) <;> rfl
  · have h1 : ∀ u, (E u w && !out.contains u && decide (u = v)) = (decide (u = v) && E v w) := fun u => by
      by_cases h : u = v
      · subst h
        rw [hcf]
        cases E u w <;> simp
      · simp [h]
    simp only [h1]
    by_cases he : E v w = true
    · rw [if_pos he]
      simp only [he, Bool.and_true]
      have hc := List.count_range (a := v) (n := n)
      rw [if_pos hv] at hc
      have e : (fun u => decide (u = v)) = (· == v) := by
        funext u
        rw [Bool.eq_iff_iff]
        simp
      rw [e]
      exact hc
    · rw [if_neg he]
      have : E v w = false := by simpa using he
      rw [this]
      simp
end gr
end Go.Proofs.YtahffafobdiogaaDoor
/- The least cycle about a vertex: plain. -/
namespace Go.Proofs.YtahffafobdiogaaDoor
set_option linter.unusedVariables false
set_option linter.unusedSimpArgs false
namespace gr
/-- the least w with an edge from v and D w = d -/
def nea (E : Nat → Nat → Bool) (n : Nat) (D : Nat → Option Nat) (v d : Nat) : Option Nat := (List.range n).find? fun w => E v w && decide (D w = some d)
theorem nea_some {E : Nat → Nat → Bool} {n : Nat} {D : Nat → Option Nat} {v d w : Nat} (h : nea E n D v d = some w) : w < n ∧ E v w = true ∧ D w = some d := by
  have h1 := List.find?_some h
  rw [Bool.and_eq_true, decide_eq_true_eq] at h1
  exact ⟨List.mem_range.1 (List.mem_of_find?_eq_some h), h1.1, h1.2⟩
theorem nea_ex {E : Nat → Nat → Bool} {n : Nat} {D : Nat → Option Nat} {v d w : Nat} (hw : w < n) (he : E v w = true) (hd : D w = some d) : ∃ u, nea E n D v d = some u := by
  cases h : nea E n D v d with
  | some u => exact ⟨u, rfl⟩
  | none =>
    have := List.find?_eq_none.1 h w (List.mem_range.2 hw)
    rw [he, hd] at this
    simp at this
/-- two that agree up to d give the same way on -/
theorem nea_congr {E : Nat → Nat → Bool} {n : Nat} {D D' : Nat → Option Nat} {v d : Nat} (h : ∀ w, w < n → (D w = some d ↔ D' w = some d)) : nea E n D v d = nea E n D' v d := by
  unfold nea
  have : ∀ l : List Nat, (∀ w ∈ l, w < n) → l.find? (fun w => E v w && decide (D w = some d)) = l.find? (fun w => E v w && decide (D' w = some d)) := by
    intro l
    induction l with
    | nil => intro _; rfl
    | cons a l ih =>
      intro hl
      rw [List.find?_cons, List.find?_cons, ih fun w hw => hl w (List.mem_cons_of_mem _ hw)]
      have e : decide (D a = some d) = decide (D' a = some d) := by
        rw [Bool.eq_iff_iff, decide_eq_true_eq, decide_eq_true_eq]
        exact h a (hl a List.mem_cons_self)
      rw [e]
  exact this _ fun w hw => List.mem_range.1 hw
/-- the smallest distance among those to which an edge leads from v -/
def Mnd (E : Nat → Nat → Bool) (n : Nat) (D : Nat → Option Nat) (v d : Nat) : Prop := (∃ w, w < n ∧ E v w = true ∧ D w = some d) ∧ ∀ w e, w < n → E v w = true → D w = some e → d ≤ e
theorem Mnd.uniq {E : Nat → Nat → Bool} {n : Nat} {D : Nat → Option Nat} {v d e : Nat} (h : Mnd E n D v d) (k : Mnd E n D v e) : d = e := by
  obtain ⟨⟨w, a, b, c⟩, h2⟩ := h
  obtain ⟨⟨u, x, y, z⟩, k2⟩ := k
  exact Nat.le_antisymm (h2 u e x y z) (k2 w d a b c)
/-- distances that are known as far as m only say the same of all that is not farther -/
theorem Mnd.capped {E : Nat → Nat → Bool} {n : Nat} {D D' : Nat → Option Nat} {v d m : Nat} (h : ∀ w e, D' w = some e ↔ D w = some e ∧ e ≤ m) (hd : d ≤ m) : Mnd E n D v d ↔ Mnd E n D' v d := by
  constructor
  · rintro ⟨⟨w, a, b, c⟩, k⟩
    exact ⟨⟨w, a, b, (h w d).2 ⟨c, hd⟩⟩, fun u e x y z => k u e x y ((h u e).1 z).1⟩
  · rintro ⟨⟨w, a, b, c⟩, k⟩
    refine ⟨⟨w, a, b, ((h w d).1 c).1⟩, fun u e x y z => ?_⟩
    rcases Nat.lt_or_ge m e with h1 | h1
    · omega
    · exact k u e x y ((h u e).2 ⟨z, h1⟩)
end gr
end Go.Proofs.YtahffafobdiogaaDoor
/- Blocks of cells, and rows of words as sets of vertices. -/
namespace Go.Proofs.YtahffafobdiogaaDoor
set_option linter.unusedVariables false
set_option linter.unusedSimpArgs false
open Go.RowKit
namespace gr
/-- block b holds these cells, whole -/
def Blk (W : World) (b : Nat) (t : TypeId) (xs : List Value) : Prop := W.heap[b]? = some (.cells xs.toArray t (0, 0))
theorem Blk.lt {W : World} {b : Nat} {t : TypeId} {xs : List Value} (h : Blk W b t xs) : b < W.heap.size := (Array.getElem?_eq_some_iff.1 h).1
theorem Blk.cell {W : World} {b : Nat} {t : TypeId} {xs : List Value} (h : Blk W b t xs) {i : Nat} {v : Value} (hi : xs[i]? = some v) : W.cell? ⟨b, i, none⟩ = some v := by
  unfold World.cell?
  rw [h]
  simpa using hi
theorem Blk.frozen {W : World} {b : Nat} {t : TypeId} {xs : List Value} (h : Blk W b t xs) (i : Nat) : W.frozen? ⟨b, i, none⟩ = false := by
  unfold World.frozen?
  rw [h]
  simp
theorem Blk.set {W : World} {b : Nat} {t : TypeId} {xs : List Value} (h : Blk W b t xs) (i : Nat) (v : Value) : Blk (W.setCell ⟨b, i, none⟩ v) b t (xs.set i v) := by
  unfold Blk World.setCell
  simp only [Array.getElem?_modify, if_true]
  rw [h]
  simp
theorem Blk.to {W W' : World} {b : Nat} {t : TypeId} {xs : List Value} (h : Blk W b t xs) (hb : W'.heap[b]? = W.heap[b]?) : Blk W' b t xs := hb.trans h
theorem Blk.set_other {W : World} {b c : Nat} {t : TypeId} {xs : List Value} (h : Blk W b t xs) (hc : b ≠ c) (i : Nat) (v : Value) : Blk (W.setCell ⟨c, i, none⟩ v) b t xs := h.to (Below.heap_setCell _ _ _ _ hc)
theorem Blk.below {W W' : World} {B b : Nat} {t : TypeId} {xs : List Value} (h : Blk W b t xs) (hb : Below B W W') (hB : b < B) : Blk W' b t xs := h.to (hb.block b hB)
theorem Blk.keep {W W' : World} {b : Nat} {t : TypeId} {xs : List Value} (h : Blk W b t xs) (hb : Below W.heap.size W W') : Blk W' b t xs := h.below hb h.lt
theorem Blk.alloc {W : World} {b : Nat} {t : TypeId} {xs : List Value} (h : Blk W b t xs) (o : Obj) : Blk (W.alloc o) b t xs := h.to (Below.heap_alloc _ _ _ h.lt)
theorem Blk.new (W : World) (xs : List Value) (t : TypeId) : Blk (W.alloc (.cells xs.toArray t)) W.heap.size t xs := heap_alloc_new W _
theorem Blk.of_own {W : World} {base g n : Nat} {t : TypeId} {xs : List Value} (h : W.ownsRow base t 1 (.slice (some ⟨g, 0, none⟩) n n) n xs) : n = 0 ∨ Blk W g t xs := by
  obtain ⟨h0, h⟩ := h
  rcases h with ⟨h1, h2⟩ | ⟨g', cap, cur, h1, h2, h3, h4, h5, h6, h7⟩
  · exact .inl h2
  · injection h1 with e1 e2 e3
    injection e1 with e1
    injection e1 with e1
    subst e1
    subst e3
    right
    unfold Blk
    rw [h3]
    rw [Nat.mul_one] at h6 h7
    rw [List.take_of_length_le (by simp [h6])] at h7
    rw [← h7]
/-- words in cells -/
def uV (l : List Nat) : List Value := l.map fun (x : Nat) => Value.int .u64 ((x : Nat) : Int)
theorem uV_get {l : List Nat} {i : Nat} (h : i < l.length) : (uV l)[i]? = some (.int .u64 ((l.getD i 0 : Nat) : Int)) := by
  simp [uV, List.getElem?_map, List.getElem?_eq_getElem h, List.getD]
theorem uV_set (l : List Nat) (i x : Nat) : (uV l).set i (.int .u64 (x : Int)) = uV (l.set i x) := by simp [uV, List.map_set]
/-- a row of words is the set of the vertices that pass a test -/
structure St (m : Nat) (ws : List Nat) (p : Nat → Bool) : Prop where
  len : ws.length = m
  wf : ∀ i, ws.getD i 0 < 18446744073709551616
  iff : ∀ v, inW ws v = p v
theorem St.empty (m : Nat) : St m (List.replicate m 0) (fun _ => false) where
  len := by simp
  wf := fun i => by
    by_cases h : i < m
    · simp [List.getD, List.getElem?_replicate, h]
    · simp [List.getD, List.getElem?_replicate, h]
  iff := fun v => by
    unfold inW
    by_cases h : v / 64 < m
    · simp [List.getD, List.getElem?_replicate, h]
    · simp [List.getD, List.getElem?_replicate, h]
theorem getD_set {l : List Nat} {i j x : Nat} (h : i < l.length) : (l.set i x).getD j 0 = if j = i then x else l.getD j 0 := by
  simp only [List.getD, List.getElem?_set]
  by_cases e : i = j
  · subst e
    simp [h]
  · simp [e, Ne.symm e]
theorem or_bit (x b i : Nat) : (x ||| 2 ^ b).testBit i = (x.testBit i || decide (i = b)) := by
  rw [Nat.testBit_or, Nat.testBit_two_pow]
  congr 1
  simp only [eq_comm]
theorem or_lt {x b : Nat} (hx : x < 18446744073709551616) (hb : b < 64) : x ||| 2 ^ b < 18446744073709551616 :=
  Nat.or_lt_two_pow (n := 64) hx (Nat.pow_lt_pow_right (by omega) hb)
theorem St.add {m : Nat} {ws : List Nat} {p : Nat → Bool} (h : St m ws p) {v : Nat} (hv : v / 64 < m) : St m (ws.set (v / 64) (ws.getD (v / 64) 0 ||| 2 ^ (v % 64))) (fun u => p u || decide (u = v)) where
  len := by rw [List.length_set]; exact h.len
  wf := fun i => by
    rw [getD_set (by rw [h.len]; exact hv)]
    split
    · exact or_lt (h.wf _) (by omega)
    · exact h.wf i
  iff := fun u => by
    have h2 := h.iff u
    unfold inW at h2 ⊢
    rw [getD_set (by rw [h.len]; exact hv)]
    by_cases e : u / 64 = v / 64
    · rw [if_pos e, or_bit, ← e, h2]
      congr 1
      by_cases e2 : u % 64 = v % 64
      · have : u = v := by omega
        simp [this]
      · have : u ≠ v := fun x => e2 (by rw [x])
        simp [this, e2]
    · rw [if_neg e, h2]
      have : u ≠ v := fun x => e (by rw [x])
      simp [this]
theorem St.remove {m : Nat} {ws : List Nat} {p : Nat → Bool} (h : St m ws p) {v : Nat} (hv : v / 64 < m) : St m (ws.set (v / 64) (ws.getD (v / 64) 0 &&& (18446744073709551615 - 2 ^ (v % 64) % 18446744073709551616))) (fun u => p u && !decide (u = v)) where
  len := by rw [List.length_set]; exact h.len
  wf := fun i => by
    rw [getD_set (by rw [h.len]; exact hv)]
    split
    · have := @Nat.and_le_left (ws.getD (v / 64) 0) (18446744073709551615 - 2 ^ (v % 64) % 18446744073709551616)
      have := h.wf (v / 64)
      omega
    · exact h.wf i
  iff := fun u => by
    have h2 := h.iff u
    unfold inW at h2 ⊢
    rw [getD_set (by rw [h.len]; exact hv)]
    by_cases e : u / 64 = v / 64
    · rw [if_pos e, andn_bit _ _ _ (h.wf _), ← e, h2, Nat.testBit_two_pow]
      congr 2
      by_cases e2 : u % 64 = v % 64
      · have : u = v := by omega
        simp [this]
      · have : u ≠ v := fun x => e2 (by rw [x])
        simp [this, Ne.symm e2]
    · rw [if_neg e, h2]
      have : u ≠ v := fun x => e (by rw [x])
      simp [this]
theorem St.mem {m : Nat} {ws : List Nat} {p : Nat → Bool} (h : St m ws p) {v : Nat} : v ∈ memW ws ↔ p v = true := by
  rw [memW_mem, h.iff, h.len]
  constructor
  · exact fun x => x.2
  · intro hp
    refine ⟨?_, hp⟩
    rcases Nat.lt_or_ge (v / 64) m with h1 | h1
    · exact h1
    · rw [← h.iff] at hp
      unfold inW at hp
      rw [show ws.getD (v / 64) 0 = 0 from by simp only [List.getD]; rw [List.getElem?_eq_none (by rw [h.len]; exact h1)]; rfl] at hp
      simp at hp
theorem St.congr {m : Nat} {ws : List Nat} {p q : Nat → Bool} (h : St m ws p) (e : ∀ v, p v = q v) : St m ws q := ⟨h.len, h.wf, fun v => (h.iff v).trans (e v)⟩
/-- the members of a set, in order -/
theorem St.list {m n : Nat} {ws : List Nat} {p : Nat → Bool} (h : St m ws p) (hn : ∀ v, p v = true → v < n) : memW ws = (List.range n).filter p := by
  refine asc_ext id _ _ (memW_asc ws) (List.Pairwise.filter _ List.pairwise_lt_range) fun x => ?_
  rw [h.mem, List.mem_filter, List.mem_range]
  exact ⟨fun e => ⟨hn x e, e⟩, fun e => e.2⟩
end gr
end Go.Proofs.YtahffafobdiogaaDoor
/-
  DERIVED: THE SHELF's CONTRACTS AT THIS DUMP, IN PLAIN WORDS (tools/lay-plain.mjs out of 'TrydSha.lean', which tools/lay-shelf.mjs wrote): THE SAME DECLARATIONS UNDER THE SAME NAMES: 'import', 'namespace', 'open', 'def', 'theorem' AND NOTHING ELSE: no command of the shelf's: FOR A HAND-IN. Each laying: the table of numbers ('.._ren') and one theorem, a field a fact of the dump's own or the kernel's comparison; each contract: ONE APPLICATION.
-/
namespace Go.Proofs
open Go.Shelf
def Tryd.laysTz_ren : Go.Shelf.Ren := ⟨fun | 29 => 51 | n => n, fun | 22 => 69 | 3 => 3 | 4 => 4 | 25 => 77 | 54 => 80 | 0 => 0 | 5 => 5 | n => n, fun | 1 => 0 | n => n⟩
theorem Tryd.laysTz : Go.Proofs.Lays7.n29 Tryd.prog Tryd.laysTz_ren := {
  mixed := by kernel_rfl
  f29 := Tryd.func51.trans (congrArg some (by kernel_rfl))
  t0 := Tryd.underlying0
  a0 := Tryd.isAgg0
  z0 := Tryd.sizeOf0
  v0 := Tryd.zeroValue0
  i0 := by kernel_rfl
  t3 := Tryd.underlying3
  a3 := Tryd.isAgg3
  z3 := Tryd.sizeOf3
  v3 := Tryd.zeroValue3
  i3 := by kernel_rfl
  t4 := Tryd.underlying4
  a4 := Tryd.isAgg4
  z4 := Tryd.sizeOf4
  v4 := Tryd.zeroValue4
  i4 := by kernel_rfl
  t5 := Tryd.underlying5
  a5 := Tryd.isAgg5
  z5 := Tryd.sizeOf5
  v5 := Tryd.zeroValue5
  i5 := by kernel_rfl
  t22 := Tryd.underlying69
  a22 := Tryd.isAgg69
  z22 := Tryd.sizeOf69
  v22 := Tryd.zeroValue69
  i22 := by kernel_rfl
  t25 := Tryd.underlying77
  a25 := Tryd.isAgg77
  z25 := Tryd.sizeOf77
  v25 := Tryd.zeroValue77
  i25 := by kernel_rfl
  t54 := Tryd.underlying80
  a54 := Tryd.isAgg80
  z54 := Tryd.sizeOf80
  g1 := by kernel_rfl }
/-- TrailingZeros64 -/
theorem Tryd.bits_Tz (x : Nat) (hx : x < 18446744073709551616) (w : World) (hT : x ≠ 0 → TabAt (Tryd.laysTz_ren.g 1) Lib.deBruijn64tab w) : Calls Tryd.prog 51 #[.int .u64 x] w fun e w' => e = .returned (.int .i64 (Lib.ctz 64 x)) ∧ w' = w := Any7.bits_TrailingZeros64 Tryd.laysTz x hx w hT
end Go.Proofs
/- Sets of vertices: newSet, add, remove, has. -/
namespace Go.Proofs.YtahffafobdiogaaDoor
set_option linter.unusedVariables false
set_option linter.unusedSimpArgs false
open Go.RowKit
namespace gr
theorem andn_u64 (a b : Nat) (ha : a < 18446744073709551616) (hb : b < 18446744073709551616) : bits .andNot .u64 (a : Int) (b : Int) = ((a &&& (18446744073709551615 - b % 18446744073709551616) : Nat) : Int) := by
  have hx : a &&& (18446744073709551615 - b) < 2 ^ 64 := Nat.and_lt_two_pow _ (by omega)
  have h1 : (BitVec.ofInt 64 (a : Int)).toNat = a := by
    rw [BitVec.ofInt_natCast, BitVec.toNat_ofNat]; exact Nat.mod_eq_of_lt (by omega)
  have h2 : (BitVec.ofInt 64 (b : Int)).toNat = b := by
    rw [BitVec.ofInt_natCast, BitVec.toNat_ofNat]; exact Nat.mod_eq_of_lt (by omega)
  have e : b % 18446744073709551616 = b := Nat.mod_eq_of_lt hb
  show IntKind.u64.wrap ((BitVec.ofInt 64 (a : Int) &&& ~~~BitVec.ofInt 64 (b : Int)).toNat : Int) = _
  rw [BitVec.toNat_and, BitVec.toNat_not, h1, h2, IntKind.wrap_u64, e]
  have e2 : 2 ^ 64 - 1 - b = 18446744073709551615 - b := by omega
  rw [e2]
  omega
theorem bit_u64 {b : Nat} (hb : b < 64) : IntKind.u64.wrap (1 * 2 ^ ((b : Nat) : Int).toNat) = ((2 ^ b : Nat) : Int) := by
  have h : 2 ^ b < 2 ^ 64 := Nat.pow_lt_pow_right (by omega) hb
  rw [IntKind.wrap_u64, Int.toNat_natCast, Int.one_mul]
  have e : (2 : Int) ^ b = ((2 ^ b : Nat) : Int) := by push_cast; rfl
  rw [e]
  rw [show (2 : Nat) ^ 64 = 18446744073709551616 from rfl] at h
  generalize 2 ^ b = q at h
  omega
abbrev sizeW (n : Nat) : Nat := (n + 63) / 64
/-- the slice of a whole block -/
abbrev sl (b n : Nat) : Value := .slice (some ⟨b, 0, none⟩) n n
theorem infoU : ∃ i, Tryd.prog.info? 69 = some i ∧ i.zero = some (.int .u64 0) ∧ i.size = 1 ∧ i.bytes = 8 := info_parts (by kernel_rfl)
theorem made_list (z : Value) (n : Nat) : madeCells #[z] n = (List.replicate n z).toArray := by
  apply Array.ext
  · simp [size_madeCells]
  · intro i h1 h2
    simp [madeCells, Nat.mod_one]
theorem uV_zero (n : Nat) : List.replicate n (Value.int .u64 0) = uV (List.replicate n 0) := by simp [uV]
set_option maxHeartbeats 1000000 in
set_option maxRecDepth 100000 in
theorem newSet_any (n : Nat) (hn : n ≤ 4096) (w : World) : Calls Tryd.prog 27 #[.int .i64 n] w fun e w' => e = .returned (sl w.heap.size (sizeW n)) ∧ w' = w.alloc (.cells (uV (List.replicate (sizeW n) 0)).toArray 69) := by
  obtain ⟨i0, hi, iz, is, ib⟩ := infoU
  have e1 : Int.tdiv ((n : Int) + 64 - 1) 64 = ((sizeW n : Nat) : Int) := by rw [show (n : Int) + 64 - 1 = ((n + 63 : Nat) : Int) by omega]; rfl
  have hs : sizeW n ≤ 64 := by unfold sizeW; omega
  generalize sizeW n = m at *
  have hr := run_make_row (P := Tryd.prog) 49 69 i0 (.int .u64 0) Tryd.underlying49 hi iz is rfl .i64 .i64 m (by rw [ib]; omega) (by omega) w
  rw [made_list, uV_zero] at hr
  have dm : IntKind.i64.wrap (m : Int) = (m : Int) := by simp [IntKind.wrap, IntKind.bits, IntKind.signed]; omega
  clear hi iz is ib hs
  go_enter Tryd.func27, Tryd.ntmps27
  go_wp2
  go_ret
  exact ⟨rfl, rfl⟩
/-- what add and remove make of the words -/
abbrev addW (ws : List Nat) (v : Nat) : List Nat := ws.set (v / 64) (ws.getD (v / 64) 0 ||| 2 ^ (v % 64))
abbrev remW (ws : List Nat) (v : Nat) : List Nat := ws.set (v / 64) (ws.getD (v / 64) 0 &&& (18446744073709551615 - 2 ^ (v % 64) % 18446744073709551616))
theorem two_lt (v : Nat) : 2 ^ (v % 64) < 18446744073709551616 := Nat.pow_lt_pow_right (a := 2) (m := v % 64) (n := 64) (by omega) (by omega)
set_option maxRecDepth 100000 in
set_option maxHeartbeats 1000000 in
theorem add_any (b m v : Nat) (ws : List Nat) (p : Nat → Bool) (w : World) (hB : Blk w b 69 (uV ws)) (hS : St m ws p) (hm : m ≤ 4096) (hv : v / 64 < m) : Calls Tryd.prog 28 #[sl b m, .int .i64 v] w fun e w' => e = .returned (.tuple #[]) ∧ ∃ q, w' = ((w.setCell ⟨b, v / 64, none⟩ (.int .u64 ((ws.getD (v / 64) 0 ||| 2 ^ (v % 64) : Nat) : Int))).drewN q) := by
  have hl := hS.len
  have hc := hB.cell (uV_get (l := ws) (i := v / 64) (by omega))
  have hf := hB.frozen (v / 64)
  have hW := hS.wf (v / 64)
  have h2 := two_lt v
  obtain ⟨k, hk⟩ : ∃ k, v / 64 = k := ⟨_, rfl⟩
  obtain ⟨j, hj⟩ : ∃ j, v % 64 = j := ⟨_, rfl⟩
  obtain ⟨x, hx⟩ : ∃ x, ws.getD k 0 = x := ⟨_, rfl⟩
  have d0 : v = 64 * k + j := by omega
  have dj : j < 64 := by omega
  have d3 := bit_u64 (b := j) dj
  rw [hk] at hc hf hW hv ⊢
  rw [hj] at h2 ⊢
  rw [hx] at hc hW ⊢
  have d6 := bits_or_u64_nat x (2 ^ j) hW h2
  obtain ⟨y, hy⟩ : ∃ y, x ||| 2 ^ j = y := ⟨_, rfl⟩
  obtain ⟨z, hz⟩ : ∃ z, 2 ^ j = z := ⟨_, rfl⟩
  rw [hy] at d6 ⊢
  rw [hz] at d3 d6
  clear hW h2 hx hy hz hB hS hk hj
  have d1 : IntKind.i64.wrap (k : Int) = (k : Int) := by simp [IntKind.wrap, IntKind.bits, IntKind.signed]; omega
  have d2 : IntKind.i64.wrap (j : Int) = (j : Int) := by simp [IntKind.wrap, IntKind.bits, IntKind.signed]; omega
  have d7 : (v : Int) / 64 = (k : Int) := by omega
  have d8 : (v : Int) % 64 = (j : Int) := by omega
  have d9 : (0 : Int) ≤ (k : Int) := by omega
  have d10 : (k : Int) < (m : Int) := by omega
  clear hl d0
  go_enter Tryd.func28, Tryd.ntmps28
  go_region
  have d11 : bits BinOp.or IntKind.u64 (x : Int) (IntKind.u64.wrap (2 ^ j)) = (y : Int) := by
    rw [← d6, ← d3]
    simp
  rw [d11]
  refine bodyPost_end (v := .tuple #[]) (results_none rfl _ _ _) rfl ?_
  exact ⟨rfl, 1, rfl⟩
set_option maxRecDepth 100000 in
set_option maxHeartbeats 1000000 in
theorem remove_any (b m v : Nat) (ws : List Nat) (p : Nat → Bool) (w : World) (hB : Blk w b 69 (uV ws)) (hS : St m ws p) (hm : m ≤ 4096) (hv : v / 64 < m) : Calls Tryd.prog 30 #[sl b m, .int .i64 v] w fun e w' => e = .returned (.tuple #[]) ∧ ∃ q, w' = ((w.setCell ⟨b, v / 64, none⟩ (.int .u64 ((ws.getD (v / 64) 0 &&& (18446744073709551615 - 2 ^ (v % 64) % 18446744073709551616) : Nat) : Int))).drewN q) := by
  have hl := hS.len
  have hc := hB.cell (uV_get (l := ws) (i := v / 64) (by omega))
  have hf := hB.frozen (v / 64)
  have hW := hS.wf (v / 64)
  have h2 := two_lt v
  obtain ⟨k, hk⟩ : ∃ k, v / 64 = k := ⟨_, rfl⟩
  obtain ⟨j, hj⟩ : ∃ j, v % 64 = j := ⟨_, rfl⟩
  obtain ⟨x, hx⟩ : ∃ x, ws.getD k 0 = x := ⟨_, rfl⟩
  have d0 : v = 64 * k + j := by omega
  have dj : j < 64 := by omega
  have d3 := bit_u64 (b := j) dj
  rw [hk] at hc hf hW hv ⊢
  rw [hj] at h2 ⊢
  rw [hx] at hc hW ⊢
  have d6 := andn_u64 x (2 ^ j) hW h2
  obtain ⟨y, hy⟩ : ∃ y, x &&& (18446744073709551615 - 2 ^ j % 18446744073709551616) = y := ⟨_, rfl⟩
  obtain ⟨z, hz⟩ : ∃ z, 2 ^ j = z := ⟨_, rfl⟩
  rw [hy] at d6 ⊢
  rw [hz] at d3 d6
  clear hW h2 hx hy hz hB hS hk hj
  have d1 : IntKind.i64.wrap (k : Int) = (k : Int) := by simp [IntKind.wrap, IntKind.bits, IntKind.signed]; omega
  have d2 : IntKind.i64.wrap (j : Int) = (j : Int) := by simp [IntKind.wrap, IntKind.bits, IntKind.signed]; omega
  have d7 : (v : Int) / 64 = (k : Int) := by omega
  have d8 : (v : Int) % 64 = (j : Int) := by omega
  have d9 : (0 : Int) ≤ (k : Int) := by omega
  have d10 : (k : Int) < (m : Int) := by omega
  clear hl d0
  go_enter Tryd.func30, Tryd.ntmps30
  go_region
  have d11 : bits BinOp.andNot IntKind.u64 (x : Int) (IntKind.u64.wrap (2 ^ j)) = (y : Int) := by
    rw [← d6, ← d3]
    simp
  rw [d11]
  refine bodyPost_end (v := .tuple #[]) (results_none rfl _ _ _) rfl ?_
  exact ⟨rfl, 1, rfl⟩
theorem pow_cast (j : Nat) : (2 : Int) ^ j = ((2 ^ j : Nat) : Int) := by push_cast; rfl
set_option maxRecDepth 100000 in
set_option maxHeartbeats 1000000 in
theorem has_any (b m v : Nat) (ws : List Nat) (p : Nat → Bool) (w : World) (hB : Blk w b 69 (uV ws)) (hS : St m ws p) (hm : m ≤ 4096) (hv : v / 64 < m) : Calls Tryd.prog 57 #[sl b m, .int .i64 v] w fun e w' => e = .returned (.bool (p v)) ∧ w' = w := by
  have hl := hS.len
  have hc := hB.cell (uV_get (l := ws) (i := v / 64) (by omega))
  have hW := hS.wf (v / 64)
  have h2 := two_lt v
  have hp := hS.iff v
  unfold inW at hp
  obtain ⟨k, hk⟩ : ∃ k, v / 64 = k := ⟨_, rfl⟩
  obtain ⟨j, hj⟩ : ∃ j, v % 64 = j := ⟨_, rfl⟩
  obtain ⟨x, hx⟩ : ∃ x, ws.getD k 0 = x := ⟨_, rfl⟩
  have d0 : v = 64 * k + j := by omega
  have dj : j < 64 := by omega
  rw [hk] at hc hW hv hp
  rw [hj] at h2 hp
  rw [hx] at hc hW hp
  have hq : x / 2 ^ j < 18446744073709551616 := Nat.lt_of_le_of_lt (Nat.div_le_self _ _) hW
  have d6 := bits_and_u64_nat (x / 2 ^ j) 1 hq (by omega)
  rw [Nat.and_one_is_mod] at d6
  have d3 : (x : Int) / 2 ^ j = ((x / 2 ^ j : Nat) : Int) := by rw [pow_cast]; rfl
  have hr : (((x / 2 ^ j % 2 : Nat) : Int) == 1) = p v := by
    rw [← hp, Nat.testBit_eq_decide_div_mod_eq]
    rcases Nat.mod_two_eq_zero_or_one (x / 2 ^ j) with e | e <;> rw [e] <;> rfl
  obtain ⟨y, hy⟩ : ∃ y, x / 2 ^ j = y := ⟨_, rfl⟩
  rw [hy] at d6 d3 hr
  obtain ⟨u, hu⟩ : ∃ u, y % 2 = u := ⟨_, rfl⟩
  rw [hu] at d6 hr
  generalize p v = r at *
  clear hW h2 hx hy hB hS hk hj hp hq hu
  have d1 : IntKind.i64.wrap (k : Int) = (k : Int) := by simp [IntKind.wrap, IntKind.bits, IntKind.signed]; omega
  have d2 : IntKind.i64.wrap (j : Int) = (j : Int) := by simp [IntKind.wrap, IntKind.bits, IntKind.signed]; omega
  have d7 : (v : Int) / 64 = (k : Int) := by omega
  have d8 : (v : Int) % 64 = (j : Int) := by omega
  have d9 : (0 : Int) ≤ (k : Int) := by omega
  have d10 : (k : Int) < (m : Int) := by omega
  clear hl d0
  have d11 : bits BinOp.and IntKind.u64 (y : Int) 1 = (u : Int) := d6
  have D11 := Lib.hid d11
  have HR := Lib.hid hr
  clear d6 d11 hr
  go_enter Tryd.func57, Tryd.ntmps57
  go_wp2
  go_ret
  exact ⟨by rw [← HR.out, ← D11.out]; rfl, rfl⟩
/-- the table that TrailingZeros64 reads -/
def Tz (w : World) : Prop := TabAt (Tryd.laysTz_ren.g 1) Lib.deBruijn64tab w
theorem Tz.to {w w' : World} (h : Tz w) (hb : ∀ p : Addr, p.block < w.heap.size → w'.cell? p = w.cell? p) : Tz w' := fun j hj => by
  have h1 := h j hj
  exact (hb _ (World.block_lt_of_cell? w _ h1)).trans h1
theorem Tz.keep {w w' : World} (h : Tz w) (hb : Below w.heap.size w w') : Tz w' := h.to fun p hp => hb.cell hp
theorem tz_any (x : Nat) (hx : x < 18446744073709551616) (w : World) (hT : Tz w) : Calls Tryd.prog 51 #[.int .u64 x] w fun e w' => e = .returned (.int .i64 (Lib.ctz 64 x)) ∧ w' = w := Tryd.bits_Tz x hx w fun _ => hT
theorem memW_head {l : List Nat} {k : Nat} (h0 : ∀ i, i < k → l.getD i 0 = 0) (hk : k < l.length) (hx : l.getD k 0 ≠ 0) (hlt : l.getD k 0 < 18446744073709551616) : ∃ r, memW l = (k * 64 + Lib.ctz 64 (l.getD k 0)) :: r := by
  have e : memW l = (List.range k).flatMap (fun i => (bitsL (l.getD i 0)).map (i * 64 + ·)) ++ ((bitsL (l.getD k 0)).map (k * 64 + ·) ++ ((List.range (l.length - k - 1)).map (· + (k + 1))).flatMap (fun i => (bitsL (l.getD i 0)).map (i * 64 + ·))) := by
    unfold memW
    have hr : List.range l.length = List.range k ++ k :: (List.range (l.length - k - 1)).map (· + (k + 1)) := by
      have e1 : l.length = k + 1 + (l.length - k - 1) := by omega
      conv => lhs; rw [e1]
      rw [List.range_add, List.range_succ, List.append_assoc]
      congr 1
      rw [List.singleton_append]
      congr 1
      apply List.map_congr_left
      intro a _
      omega
    rw [hr, List.flatMap_append, List.flatMap_cons]
  have f1 : (List.range k).flatMap (fun i => (bitsL (l.getD i 0)).map (i * 64 + ·)) = [] := by
    rw [List.flatMap_eq_nil_iff]
    intro i hi
    rw [h0 i (List.mem_range.1 hi), bitsL_zero]
    rfl
  rw [e, f1, (bits_step hx hlt).1]
  exact ⟨_, rfl⟩
theorem memW_nil {l : List Nat} (h0 : ∀ i, i < l.length → l.getD i 0 = 0) : memW l = [] := by
  unfold memW
  rw [List.flatMap_eq_nil_iff]
  intro i hi
  rw [h0 i (List.mem_range.1 hi), bitsL_zero]
  rfl
set_option maxRecDepth 100000 in
set_option maxHeartbeats 1000000 in
theorem least_any (b m : Nat) (ws : List Nat) (p : Nat → Bool) (w : World) (hT : Tz w) (hB : Blk w b 69 (uV ws)) (hS : St m ws p) (hm : m ≤ 4096) : Calls Tryd.prog 29 #[sl b m] w fun e w' => e = .returned (.tuple #[.int .i64 ((memW ws).headD 0 : Nat), .bool (!(memW ws).isEmpty)]) ∧ w' = w := by
  have hl := hS.len
  have HC := Lib.hid (fun (k : Nat) (h : k < m) => hB.cell (uV_get (l := ws) (i := k) (by omega)))
  have HW := Lib.hid hS.wf
  have HH := Lib.hid (fun (k : Nat) => @memW_head ws k)
  have HN := Lib.hid (@memW_nil ws)
  have HZ := Lib.hid (fun x hx => tz_any x hx w hT)
  clear hT hB hS
  rw [hl] at HH HN
  clear hl
  generalize memW ws = M at *
  go_enter Tryd.func29, Tryd.ntmps29
  go_wp2
  go_loopw [8] (fun i wr => ∃ k : Nat, k ≤ m ∧ i = .int .i64 (k : Int) ∧ wr = w ∧ Hid (∀ i, i < k → ws.getD i 0 = 0)) (fun i _ => m - (intOf i).toNat)
  case atStart => exact ⟨0, by omega, rfl, rfl, Lib.hid fun i hi => absurd hi (Nat.not_lt_zero _)⟩
  case round =>
    obtain ⟨k, hk, rfl, rfl, hz⟩ := hrel
    by_cases hlt : k < m
    · have hc := HC.out k hlt
      have hW := HW.out k
      have HH2 := Lib.hid (HH.out k hz.out hlt)
      obtain ⟨x, hx⟩ : ∃ x, ws.getD k 0 = x := ⟨_, rfl⟩
      rw [hx] at hc hW HH2
      have HX := Lib.hid hx
      have dm : (k : Int) < (m : Int) := by omega
      clear hx
      by_cases h0 : x = 0
      · subst h0
        clear HH2
        go_wp2
        go_roundw
        case rel => exact ⟨k + 1, by omega, by go_num, (by first | trivial | rfl), Lib.hid fun i hi => by
          rcases Nat.lt_succ_iff_lt_or_eq.1 hi with h | rfl
          · exact hz.out i h
          · exact HX.out⟩
        case measure => simp [intOf]; omega
      · have d0 : ((x : Int) == 0) = false := by simp; omega
        have d1 : ¬ (x : Int) = 0 := by omega
        obtain ⟨r, hr⟩ := HH2.out h0 hW
        have HZ2 := Lib.hid (HZ.out x hW)
        have hcz : Lib.ctz 64 x ≤ 64 := Nat.le_of_lt (low_bits h0 hW).1
        generalize Lib.ctz 64 x = c at *
        subst hr
        go_wp2_with (go_at_call 51; refine HZ2.out.mono ?_; rintro e w1 ⟨rfl, rfl⟩)
        refine bodyPost_ret (results_tmp2 rfl _ _ _) rfl ?_
        exact ⟨by simp, rfl⟩
    · obtain rfl : k = m := by omega
      obtain rfl := HN.out hz.out
      clear HH HN
      go_wp2
      refine bodyPost_ret (results_tmp2 rfl _ _ _) rfl ?_
      exact ⟨rfl, rfl⟩
end gr
end Go.Proofs.YtahffafobdiogaaDoor
/- Links: unlinked, forward, backward. -/
namespace Go.Proofs.YtahffafobdiogaaDoor
set_option linter.unusedVariables false
set_option linter.unusedSimpArgs false
open Go.RowKit
namespace gr
theorem infoS : ∃ i, Tryd.prog.info? 49 = some i ∧ i.zero = some (.slice none 0 0) ∧ i.size = 1 ∧ i.bytes = 24 := info_parts (by kernel_rfl)
/-- the sets of n vertices stand in the blocks behind the row of them -/
def hdR (lb n k : Nat) : List Value := (List.range n).map fun v => if v < k then sl (lb + 1 + v) (sizeW n) else .slice none 0 0
theorem hdR_zero (lb n : Nat) : List.replicate n (Value.slice none 0 0) = hdR lb n 0 := by
  apply List.ext_getElem?
  intro i
  by_cases h : i < n <;> simp [hdR, h, List.getElem?_replicate]
theorem hdR_len (lb n k : Nat) : (hdR lb n k).length = n := by simp [hdR]
theorem hdR_get {lb n k v : Nat} (hv : v < n) : (hdR lb n k)[v]? = some (if v < k then sl (lb + 1 + v) (sizeW n) else .slice none 0 0) := by simp [hdR, hv]
theorem hdR_set {lb n k : Nat} (hk : k < n) : (hdR lb n k).set k (sl (lb + 1 + k) (sizeW n)) = hdR lb n (k + 1) := by
  apply List.ext_getElem?
  intro i
  rw [List.getElem?_set]
  by_cases h : i < n
  · rw [hdR_get h, hdR_get h, hdR_len]
    by_cases e : k = i
    · subst e
      simp [hk]
    · rw [if_neg e]
      by_cases h2 : i < k
      · rw [if_pos h2, if_pos (by omega)]
      · rw [if_neg h2, if_neg (by omega)]
  · rw [List.getElem?_eq_none (by rw [hdR_len]; omega), List.getElem?_eq_none (by rw [hdR_len]; omega), if_neg (by omega)]
structure Lnk (W : World) (lb n : Nat) (wss : Nat → List Nat) : Prop where
  row : Blk W lb 49 (hdR lb n n)
  sets : ∀ v, v < n → Blk W (lb + 1 + v) 69 (uV (wss v))
theorem Lnk.to {W W' : World} {lb n : Nat} {wss : Nat → List Nat} (h : Lnk W lb n wss) (hb : ∀ k, lb ≤ k → k ≤ lb + n → W'.heap[k]? = W.heap[k]?) : Lnk W' lb n wss :=
  ⟨h.row.to (hb _ (by omega) (by omega)), fun v hv => (h.sets v hv).to (hb _ (by omega) (by omega))⟩
theorem Lnk.keep {W W' : World} {lb n : Nat} {wss : Nat → List Nat} (h : Lnk W lb n wss) (hb : Below W.heap.size W W') : Lnk W' lb n wss :=
  ⟨h.row.keep hb, fun v hv => (h.sets v hv).keep hb⟩
theorem Lnk.hd {W : World} {lb n v : Nat} {wss : Nat → List Nat} (h : Lnk W lb n wss) (hv : v < n) : W.cell? ⟨lb, v, none⟩ = some (sl (lb + 1 + v) (sizeW n)) :=
  h.row.cell (by rw [hdR_get hv, if_pos hv])
set_option maxRecDepth 100000 in
set_option maxHeartbeats 1000000 in
theorem unlinked_any (n : Nat) (hn : n ≤ 4096) (w : World) : Calls Tryd.prog 49 #[.int .i64 n] w fun e w' => e = .returned (sl w.heap.size n) ∧ Lnk w' w.heap.size n (fun _ => List.replicate (sizeW n) 0) ∧ Below w.heap.size w w' := by
  obtain ⟨i0, hi, iz, is, ib⟩ := infoS
  have hr := run_make_row (P := Tryd.prog) 44 49 i0 (.slice none 0 0) Tryd.underlying44 hi iz is rfl .i64 .i64 n (by rw [ib]; omega) (by omega) w
  rw [made_list, hdR_zero w.heap.size] at hr
  clear hi iz is ib
  have HN := Lib.hid (newSet_any n hn)
  go_enter Tryd.func49, Tryd.ntmps49
  go_wp2
  clear hr
  go_loopw [9] (fun i wr => ∃ k : Nat, k ≤ n ∧ i = .int .i64 (k : Int) ∧ wr.heap.size = w.heap.size + 1 + k ∧ Blk wr w.heap.size 49 (hdR w.heap.size n k) ∧ Hid (∀ v, v < k → Blk wr (w.heap.size + 1 + v) 69 (uV (List.replicate (sizeW n) 0))) ∧ Below w.heap.size w wr) (fun i _ => n - (intOf i).toNat)
  case atStart => exact ⟨0, by omega, rfl, by simp, Blk.new _ _ _, Lib.hid fun v hv => absurd hv (Nat.not_lt_zero _), bel_box _⟩
  case round =>
    obtain ⟨k, hk, rfl, hz, hrow, hsets, hbl⟩ := hrel
    by_cases hlt : k < n
    · have dm : (k : Int) < (n : Int) := by omega
      have HR := Lib.hid hrow
      have hc : (wr.alloc (.cells (uV (List.replicate (sizeW n) 0)).toArray 69)).cell? ⟨w.heap.size, k, none⟩ = some (.slice none 0 0) := (hrow.alloc _).cell (by rw [hdR_get hlt, if_neg (Nat.lt_irrefl k)])
      have hf := (hrow.alloc (.cells (uV (List.replicate (sizeW n) 0)).toArray 69)).frozen k
      have hz2 := hz
      clear hrow
      go_wp2_with (go_at_call 27; refine (HN.out wr).mono ?_; rintro e w1 ⟨rfl, rfl⟩)
      refine ⟨⟨k + 1, by omega, by congr 1, by simp [hz]; omega, ?_, Lib.hid fun v hv => ?_, ?_⟩, by simp [intOf]; omega⟩
      · have h1 := (HR.out.alloc (.cells (uV (List.replicate (sizeW n) 0)).toArray 69)).set k (sl (w.heap.size + 1 + k) (sizeW n))
        rw [hdR_set hlt] at h1
        exact h1
      · rcases Nat.lt_succ_iff_lt_or_eq.1 hv with h | rfl
        · exact ((hsets.out v h).alloc _).set_other (by omega) _ _
        · have h1 := Blk.new wr (uV (List.replicate (sizeW n) 0)) 69
          rw [hz] at h1
          exact h1.set_other (by omega) _ _
      · exact (hbl.alloc (by omega) _).setCell (p := ⟨w.heap.size, k, none⟩) (Nat.le_refl _) _
    · obtain rfl : k = n := by omega
      go_wp2
      go_ret
      exact ⟨rfl, ⟨hrow, hsets.out⟩, hbl⟩
theorem cell_al {W : World} {a : Addr} {v : Value} (o : Obj) (h : W.cell? a = some v) : (W.alloc o).cell? a = some v := (World.cell?_alloc_lt _ _ _ (World.block_lt_of_cell? W a h)).trans h
/-- edges in memory -/
def RdE (w : World) (B : Nat) (A : Option Addr) (es : List (Int × Int)) : Prop := es ≠ [] → ∃ ad, A = some ad ∧ ad.block < B ∧ ∀ k e, es[k]? = some e → w.cell? (ad.add (k * 2)) = some (.int .i64 e.1) ∧ w.cell? ⟨(ad.add (k * 2)).block, (ad.add (k * 2)).off + 1, none⟩ = some (.int .i64 e.2)
theorem RdE.to {w w' : World} {B : Nat} {A : Option Addr} {es : List (Int × Int)} (h : RdE w B A es) (hb : ∀ p : Addr, p.block < B → w'.cell? p = w.cell? p) : RdE w' B A es := fun hn => by
  obtain ⟨ad, h1, h2, h3⟩ := h hn
  refine ⟨ad, h1, h2, fun k e he => ?_⟩
  obtain ⟨c0, c1⟩ := h3 k e he
  exact ⟨(hb _ (by rw [add_block]; exact h2)).trans c0, (hb _ (by simp only [add_block]; exact h2)).trans c1⟩
theorem RdE.below {w w' : World} {B : Nat} {A : Option Addr} {es : List (Int × Int)} (h : RdE w B A es) (hb : Below B w w') : RdE w' B A es := h.to fun _ hp => hb.cell hp
theorem RdE.more' {w : World} {B B' : Nat} {A : Option Addr} {es : List (Int × Int)} (h : RdE w B A es) (hB : B ≤ B') : RdE w B' A es := fun hn => by
  obtain ⟨ad, h1, h2, h3⟩ := h hn
  exact ⟨ad, h1, Nat.lt_of_lt_of_le h2 hB, h3⟩
theorem RdE.at_ {w : World} {B : Nat} {A : Option Addr} {es : List (Int × Int)} (h : RdE w B A es) {k : Nat} (hk : k < es.length) : ∃ ad f t, A = some ad ∧ ad.block < B ∧ es[k]? = some (f, t) ∧ w.cell? (ad.add (k * 2)) = some (.int .i64 f) ∧ w.cell? ⟨(ad.add (k * 2)).block, (ad.add (k * 2)).off + 1, none⟩ = some (.int .i64 t) := by
  obtain ⟨ad, h1, h2, h3⟩ := h (by intro e; rw [e] at hk; simp at hk)
  obtain ⟨c0, c1⟩ := h3 k es[k] (List.getElem?_eq_getElem hk)
  exact ⟨ad, _, _, h1, h2, List.getElem?_eq_getElem hk, c0, c1⟩
/-- edges between vertices -/
def eN (ns : List (Nat × Nat)) : List (Int × Int) := ns.map fun e => ((e.1 : Int), (e.2 : Int))
theorem eN_len (ns : List (Nat × Nat)) : (eN ns).length = ns.length := by simp [eN]
theorem eN_get (ns : List (Nat × Nat)) (k : Nat) : (eN ns)[k]? = (ns[k]?).map fun e => ((e.1 : Int), (e.2 : Int)) := by simp [eN]
/-- the neighbours by the edges -/
structure LkE (W : World) (lb n : Nat) (E : Nat → Nat → Bool) : Prop where
  ex : ∃ wss, Lnk W lb n wss ∧ ∀ v, v < n → St (sizeW n) (wss v) (E v)
theorem LkE.to {W W' : World} {lb n : Nat} {E : Nat → Nat → Bool} (h : LkE W lb n E) (hb : ∀ k, lb ≤ k → k ≤ lb + n → W'.heap[k]? = W.heap[k]?) : LkE W' lb n E := by
  obtain ⟨wss, h1, h2⟩ := h.ex
  exact ⟨wss, h1.to hb, h2⟩
theorem LkE.keep {W W' : World} {lb n : Nat} {E : Nat → Nat → Bool} (h : LkE W lb n E) (hb : Below W.heap.size W W') : LkE W' lb n E := by
  obtain ⟨wss, h1, h2⟩ := h.ex
  exact ⟨wss, h1.keep hb, h2⟩
theorem LkE.congr {W : World} {lb n : Nat} {E F : Nat → Nat → Bool} (h : LkE W lb n E) (e : ∀ u v, E u v = F u v) : LkE W lb n F := by
  obtain ⟨wss, h1, h2⟩ := h.ex
  exact ⟨wss, h1, fun v hv => (h2 v hv).congr (e v)⟩
/-- one more edge -/
theorem LkE.step {W : World} {lb n f t : Nat} {E : Nat → Nat → Bool} (h : LkE W lb n E) (hf : f < n) (ht : t / 64 < sizeW n) : ∃ ws, Blk W (lb + 1 + f) 69 (uV ws) ∧ St (sizeW n) ws (E f) ∧
    ∀ q, LkE ((W.setCell ⟨lb + 1 + f, t / 64, none⟩ (.int .u64 ((ws.getD (t / 64) 0 ||| 2 ^ (t % 64) : Nat) : Int))).drewN q) lb n (fun u v => E u v || (decide (u = f) && decide (v = t))) := by
  obtain ⟨wss, h1, h2⟩ := h.ex
  refine ⟨wss f, h1.sets f hf, h2 f hf, fun q => ⟨fun v => if v = f then addW (wss f) t else wss v, ⟨h1.row.set_other (by omega) _ _, fun v hv => ?_⟩, fun v hv => ?_⟩⟩
  · by_cases e : v = f
    · subst e
      simp only [if_true]
      have := (h1.sets v hv).set (t / 64) (.int .u64 (((wss v).getD (t / 64) 0 ||| 2 ^ (t % 64) : Nat) : Int))
      rw [uV_set] at this
      exact this
    · simp only [if_neg e]
      exact (h1.sets v hv).set_other (by omega) _ _
  · by_cases e : v = f
    · subst e
      simp only [if_true]
      exact ((h2 v hv).add ht).congr fun u => by simp
    · simp only [if_neg e]
      exact (h2 v hv).congr fun u => by simp [e]
/-- what k edges have brought -/
def eK (ns : List (Nat × Nat)) (u v : Nat) : Bool := ns.contains (u, v)
theorem eK_snoc (ns : List (Nat × Nat)) (a b u v : Nat) : eK (ns ++ [(a, b)]) u v = (eK ns u v || (decide (u = a) && decide (v = b))) := by
  unfold eK
  rw [Bool.eq_iff_iff]
  simp [List.contains_iff_mem]
theorem size_div {n t : Nat} (h : t < n) : t / 64 < sizeW n := by unfold sizeW; omega
set_option maxRecDepth 100000 in
set_option maxHeartbeats 1000000 in
theorem forward_any (n : Nat) (hn : n ≤ 4096) (A : Option Addr) (c : Nat) (ns : List (Nat × Nat)) (hr : ∀ e ∈ ns, e.1 < n ∧ e.2 < n) (hl : ns.length ≤ 1048576) (w : World) (hE : RdE w w.heap.size A (eN ns)) :
    Calls Tryd.prog 24 #[.int .i64 n, .slice A ns.length c] w fun e w' => e = .returned (sl w.heap.size n) ∧ LkE w' w.heap.size n (eK ns) ∧ Below w.heap.size w w' := by
  have HE := Lib.hid hE
  have HU := Lib.hid (unlinked_any n hn)
  have HM := Lib.hid hr
  clear hE hr
  go_enter Tryd.func24, Tryd.ntmps24
  go_wp2_with (go_at_call 49; refine (HU.out _).mono ?_; rintro e w1 ⟨rfl, hL1, hb1⟩)
  have hK1 : LkE w1 w.heap.size n (eK []) := ⟨_, hL1, fun v hv => (St.empty _).congr fun u => rfl⟩
  clear hL1
  go_loopw [12] (fun i wr => ∃ k : Nat, k ≤ ns.length ∧ i = .int .i64 (k : Int) ∧ LkE wr w.heap.size n (eK (ns.take k)) ∧ Below w.heap.size w wr) (fun i _ => ns.length - (intOf i).toNat)
  case atStart => exact ⟨0, by omega, rfl, hK1, hb1⟩
  case round =>
    obtain ⟨k, hk, rfl, hK, hbl⟩ := hrel
    by_cases hlt : k < ns.length
    · obtain ⟨ad, f0, t0, rfl, had, hg, c0, c1⟩ := (HE.out.below hbl).at_ (by rw [eN_len]; exact hlt)
      rw [eN_get, List.getElem?_eq_getElem hlt] at hg
      obtain ⟨⟨f, t⟩, hft⟩ : ∃ x, ns[k] = x := ⟨_, rfl⟩
      rw [hft] at hg
      simp only [Option.map_some, Option.some.injEq, Prod.mk.injEq] at hg
      obtain ⟨rfl, rfl⟩ := hg
      have hm := HM.out (f, t) (hft ▸ List.getElem_mem hlt)
      simp only at hm
      obtain ⟨hf, ht⟩ := hm
      have hd := (hK.ex.choose_spec.1).hd hf
      have HK := Lib.hid hK
      have x0 : (0 : Int) ≤ (f : Int) := by omega
      have x1 : (f : Int) < (n : Int) := by omega
      have x2 : (k : Int) < (ns.length : Int) := by omega
      have hA := Lib.hid (fun W (h : LkE W w.heap.size n (eK (ns.take k))) => h.step hf (size_div ht))
      have hsz := Lib.hid (show sizeW n ≤ 4096 by unfold sizeW; omega)
      have htd := Lib.hid (size_div ht)
      have hft2 := Lib.hid hft
      clear hft
      clear hK
      have dm : IntKind.i64.wrap (f : Int) = (f : Int) := by simp [IntKind.wrap, IntKind.bits, IntKind.signed]; omega
      have hd2 := (cell_al (.cells #[.int .i64 (f : Int), .int .i64 (t : Int)] 40) hd)
      go_wp2_with fail
      have hB2 : Below w.heap.size w (wr.alloc (.cells #[.int .i64 (f : Int), .int .i64 (t : Int)] 40)) := bel_alloc hbl _
      have hK2 := HK.out.keep (bel_box (.cells #[.int .i64 (f : Int), .int .i64 (t : Int)] 40))
      have b0 : (wr.alloc (.cells #[.int .i64 (f : Int), .int .i64 (t : Int)] 40)).cell? ⟨wr.heap.size, 0, none⟩ = some (.int .i64 (f : Int)) := by simp
      have b1 : (wr.alloc (.cells #[.int .i64 (f : Int), .int .i64 (t : Int)] 40)).cell? ⟨wr.heap.size, 1, none⟩ = some (.int .i64 (t : Int)) := by simp
      clear hd
      generalize wr.alloc (.cells #[.int .i64 (f : Int), .int .i64 (t : Int)] 40) = W2 at *
      generalize wr.heap.size = bx at *
      go_still_tail 7, (by kernel_rfl)
      change wpList _ _ _ _ _ W2.drew
      have hB3 : Below w.heap.size w W2.drew := hB2.drew
      have hK3 : LkE W2.drew w.heap.size n (eK (ns.take k)) := hK2.to fun _ _ _ => rfl
      clear hK2 hB2 b0 b1 hd2 c0 c1
      generalize W2.drew = W3 at *
      obtain ⟨ws, hws, hst, hnext⟩ := hA.out W3 hK3
      go_wp2_with (go_at_call 28; refine (add_any _ _ _ ws _ _ hws hst hsz.out htd.out).mono ?_; rintro e w4 ⟨rfl, q, rfl⟩)
      refine ⟨⟨k + 1, by omega, by congr 1, ?_, below_drewN (hB3.setCell (p := ⟨_, _, none⟩) (by simp only; omega) _) q⟩, by simp [intOf]; omega⟩
      have e1 : ns.take (k + 1) = ns.take k ++ [(f, t)] := take_succ_of (by rw [List.getElem?_eq_getElem hlt, hft2.out])
      rw [e1]
      exact (hnext q).congr fun u v => (eK_snoc _ _ _ _ _).symm
    · obtain rfl : k = ns.length := by omega
      rw [List.take_length] at hK
      go_wp2
      go_ret
      exact ⟨rfl, hK, hbl⟩
set_option maxRecDepth 100000 in
set_option maxHeartbeats 1000000 in
theorem backward_any (n : Nat) (hn : n ≤ 4096) (A : Option Addr) (c : Nat) (ns : List (Nat × Nat)) (hr : ∀ e ∈ ns, e.1 < n ∧ e.2 < n) (hl : ns.length ≤ 1048576) (w : World) (hE : RdE w w.heap.size A (eN ns)) :
    Calls Tryd.prog 34 #[.int .i64 n, .slice A ns.length c] w fun e w' => e = .returned (sl w.heap.size n) ∧ LkE w' w.heap.size n (fun u v => eK ns v u) ∧ Below w.heap.size w w' := by
  have HE := Lib.hid hE
  have HU := Lib.hid (unlinked_any n hn)
  have HM := Lib.hid hr
  clear hE hr
  go_enter Tryd.func34, Tryd.ntmps34
  go_wp2_with (go_at_call 49; refine (HU.out _).mono ?_; rintro e w1 ⟨rfl, hL1, hb1⟩)
  have hK1 : LkE w1 w.heap.size n (fun u v => eK [] v u) := ⟨_, hL1, fun v hv => (St.empty _).congr fun u => rfl⟩
  clear hL1
  go_loopw [12] (fun i wr => ∃ k : Nat, k ≤ ns.length ∧ i = .int .i64 (k : Int) ∧ LkE wr w.heap.size n (fun u v => eK (ns.take k) v u) ∧ Below w.heap.size w wr) (fun i _ => ns.length - (intOf i).toNat)
  case atStart => exact ⟨0, by omega, rfl, hK1, hb1⟩
  case round =>
    obtain ⟨k, hk, rfl, hK, hbl⟩ := hrel
    by_cases hlt : k < ns.length
    · obtain ⟨ad, f0, t0, rfl, had, hg, c0, c1⟩ := (HE.out.below hbl).at_ (by rw [eN_len]; exact hlt)
      rw [eN_get, List.getElem?_eq_getElem hlt] at hg
      obtain ⟨⟨f, t⟩, hft⟩ : ∃ x, ns[k] = x := ⟨_, rfl⟩
      rw [hft] at hg
      simp only [Option.map_some, Option.some.injEq, Prod.mk.injEq] at hg
      obtain ⟨rfl, rfl⟩ := hg
      have hm := HM.out (f, t) (hft ▸ List.getElem_mem hlt)
      simp only at hm
      obtain ⟨hf, ht⟩ := hm
      have hd := (hK.ex.choose_spec.1).hd ht
      have HK := Lib.hid hK
      have x0 : (0 : Int) ≤ (t : Int) := by omega
      have x1 : (t : Int) < (n : Int) := by omega
      have x2 : (k : Int) < (ns.length : Int) := by omega
      have hA := Lib.hid (fun W (h : LkE W w.heap.size n (fun u v => eK (ns.take k) v u)) => h.step ht (size_div hf))
      have hsz := Lib.hid (show sizeW n ≤ 4096 by unfold sizeW; omega)
      have htd := Lib.hid (size_div hf)
      have hft2 := Lib.hid hft
      clear hft
      clear hK
      have dm : IntKind.i64.wrap (t : Int) = (t : Int) := by simp [IntKind.wrap, IntKind.bits, IntKind.signed]; omega
      have hd2 := (cell_al (.cells #[.int .i64 (f : Int), .int .i64 (t : Int)] 40) hd)
      go_wp2_with fail
      have hB2 : Below w.heap.size w (wr.alloc (.cells #[.int .i64 (f : Int), .int .i64 (t : Int)] 40)) := bel_alloc hbl _
      have hK2 := HK.out.keep (bel_box (.cells #[.int .i64 (f : Int), .int .i64 (t : Int)] 40))
      have b0 : (wr.alloc (.cells #[.int .i64 (f : Int), .int .i64 (t : Int)] 40)).cell? ⟨wr.heap.size, 0, none⟩ = some (.int .i64 (f : Int)) := by simp
      have b1 : (wr.alloc (.cells #[.int .i64 (f : Int), .int .i64 (t : Int)] 40)).cell? ⟨wr.heap.size, 1, none⟩ = some (.int .i64 (t : Int)) := by simp
      clear hd
      generalize wr.alloc (.cells #[.int .i64 (f : Int), .int .i64 (t : Int)] 40) = W2 at *
      generalize wr.heap.size = bx at *
      go_still_tail 7, (by kernel_rfl)
      change wpList _ _ _ _ _ W2.drew
      have hB3 : Below w.heap.size w W2.drew := hB2.drew
      have hK3 : LkE W2.drew w.heap.size n (fun u v => eK (ns.take k) v u) := hK2.to fun _ _ _ => rfl
      clear hK2 hB2 b0 b1 hd2 c0 c1
      generalize W2.drew = W3 at *
      obtain ⟨ws, hws, hst, hnext⟩ := hA.out W3 hK3
      go_wp2_with (go_at_call 28; refine (add_any _ _ _ ws _ _ hws hst hsz.out htd.out).mono ?_; rintro e w4 ⟨rfl, q, rfl⟩)
      refine ⟨⟨k + 1, by omega, by congr 1, ?_, below_drewN (hB3.setCell (p := ⟨_, _, none⟩) (by simp only; omega) _) q⟩, by simp [intOf]; omega⟩
      have e1 : ns.take (k + 1) = ns.take k ++ [(f, t)] := take_succ_of (by rw [List.getElem?_eq_getElem hlt, hft2.out])
      rw [e1]
      exact (hnext q).congr fun u v => by rw [eK_snoc, Bool.and_comm]
    · obtain rfl : k = ns.length := by omega
      rw [List.take_length] at hK
      go_wp2
      go_ret
      exact ⟨rfl, hK, hbl⟩
end gr
end Go.Proofs.YtahffafobdiogaaDoor
/- The visits: eachNew, whatever is called. -/
namespace Go.Proofs.YtahffafobdiogaaDoor
set_option linter.unusedVariables false
set_option linter.unusedSimpArgs false
open Go.RowKit
namespace gr
theorem and_pred_u64 {y : Nat} (h0 : y ≠ 0) (hy : y < 18446744073709551616) : bits .and .u64 (y : Int) ((y : Int) - 1) = ((y &&& (y - 1) : Nat) : Int) := by
  have e : (y : Int) - 1 = ((y - 1 : Nat) : Int) := by omega
  rw [e, bits_and_u64_nat y (y - 1) hy (by omega)]
set_option maxRecDepth 100000 in
set_option maxHeartbeats 2000000 in
theorem eachNew_any (lb n v sb : Nat) (g : Nat) (cb : Array Value) (eg : ∀ args w, (callFunc g args).run Tryd.prog w = .ok (.enter g args) w) (ws : Nat → Nat) (hws : ∀ i, ws i < 18446744073709551616) (hn : n ≤ 4096) (hv : v < n)
    (I : Nat → World → Prop) (K : Nat → List Nat → World → Prop)
    (hI : ∀ i W, i < sizeW n → I i W → W.cell? ⟨lb + 1 + v, i, none⟩ = some (.int .u64 ((ws i : Nat) : Int)) ∧ ∃ x : Nat, x < 18446744073709551616 ∧ W.cell? ⟨sb, i, none⟩ = some (.int .u64 (x : Int)) ∧ K i (bitsL (ws i &&& (18446744073709551615 - x % 18446744073709551616))) W)
    (hT : ∀ i l W, K i l W → Tz W)
    (hS : ∀ i b l W, i < sizeW n → b < 64 → K i (b :: l) W → Calls Tryd.prog g (#[.int .i64 ((i * 64 + b : Nat) : Int)] ++ cb) W fun e W' => e = .returned (.tuple #[]) ∧ K i l W')
    (hE : ∀ i W, K i [] W → I (i + 1) W)
    (w : World) (hh : w.cell? ⟨lb, v, none⟩ = some (sl (lb + 1 + v) (sizeW n))) (h0 : I 0 w) :
    Calls Tryd.prog 50 #[sl lb n, .int .i64 v, sl sb (sizeW n), .func (.func g) #[] cb] w fun e w' => e = .returned (.tuple #[]) ∧ I (sizeW n) w' := by
  have hm : sizeW n ≤ 64 := by unfold sizeW; omega
  generalize sizeW n = m at *
  have dv : (v : Int) < (n : Int) := by omega
  have HI := Lib.hid hI
  have HT := Lib.hid hT
  have HS := Lib.hid hS
  have HE := Lib.hid hE
  have HW := Lib.hid hws
  clear hI hT hS hE hws
  go_enter Tryd.func50, Tryd.ntmps50
  go_wp2
  go_loopw [15] (fun i wr => ∃ k : Nat, k ≤ m ∧ i = .int .i64 (k : Int) ∧ I k wr) (fun i _ => m - (intOf i).toNat)
  case atStart => exact ⟨0, by omega, rfl, h0⟩
  case round =>
    obtain ⟨k, hk, rfl, hik⟩ := hrel
    by_cases hlt : k < m
    · have dk : (k : Int) < (m : Int) := by omega
      obtain ⟨hc1, x, hx, hc2, hK⟩ := HI.out k wr hlt hik
      have d6 := andn_u64 (ws k) x (HW.out k) hx
      have hy : ws k &&& (18446744073709551615 - x % 18446744073709551616) < 18446744073709551616 := Nat.lt_of_le_of_lt Nat.and_le_left (HW.out k)
      generalize ws k &&& (18446744073709551615 - x % 18446744073709551616) = y at *
      generalize ws k = a at *
      clear hik hh h0
      obtain ⟨U, rfl⟩ : ∃ U, U = wr := ⟨_, rfl⟩
      go_wp2_with fail
      clear hc1 hc2 d6
      go_loopw [9] (fun d wr => ∃ z : Nat, z < 18446744073709551616 ∧ d = .int .u64 (z : Int) ∧ K k (bitsL z) wr) (fun d _ => (intOf d).toNat)
      case atStart => exact ⟨y, hy, rfl, hK⟩
      case round =>
        obtain ⟨z, hz, rfl, hKz⟩ := hrel
        by_cases h0 : z = 0
        · subst h0
          rw [bitsL_zero] at hKz
          have hIn := HE.out k wr hKz
          go_wp2
          exact ⟨⟨k + 1, by omega, by congr 1, hIn⟩, by simp [intOf]; omega⟩
        · obtain ⟨hb, hlz⟩ := bits_step h0 hz
          rw [hb] at hKz
          have hcl := Lib.hid (HS.out k _ _ wr hlt (low_bits h0 hz).1 hKz)
          have htz := Lib.hid (tz_any z hz wr (HT.out k _ wr hKz))
          have hc64 : Lib.ctz 64 z < 64 := (low_bits h0 hz).1
          have dz : ¬ (z : Int) = 0 := by omega
          have d7 := and_pred_u64 h0 hz
          have hz2 : z &&& (z - 1) < 18446744073709551616 := by omega
          generalize z &&& (z - 1) = z2 at *
          obtain ⟨l2, hl2⟩ : ∃ l2, bitsL z2 = l2 := ⟨_, rfl⟩
          rw [hl2] at hcl
          have HL2 := Lib.hid hl2
          clear hl2
          generalize Lib.ctz 64 z = b at *
          obtain ⟨pl, hpl⟩ : ∃ pl, k * 64 + b = pl := ⟨_, rfl⟩
          rw [hpl] at hcl
          have e1 : ((k : Int) * 64 + (b : Int)) = (pl : Int) := by omega
          clear hpl
          clear hKz hb
          go_wp2_with (first | (go_at_call 51; refine htz.out.mono ?_; rintro e w1 ⟨rfl, rfl⟩) | (go_at_fn g; refine hcl.out.mono ?_; rintro e w2 ⟨rfl, hK2⟩))
          exact ⟨⟨z2, hz2, by first | rfl | (rw [d7]), by rw [HL2.out]; exact hK2⟩, by simp [intOf]; omega⟩
    · obtain rfl : k = m := by omega
      go_wp2
      refine bodyPost_end (v := .tuple #[]) (results_none rfl _ _ _) rfl ?_
      exact ⟨rfl, hik⟩
end gr
end Go.Proofs.YtahffafobdiogaaDoor
/- Frames; each, whatever is called. -/
namespace Go.Proofs.YtahffafobdiogaaDoor
set_option linter.unusedVariables false
set_option linter.unusedSimpArgs false
open Go.RowKit
namespace gr
/-- the streams are as they were -/
def Os (W W' : World) : Prop := W'.os = W.os ∧ W'.tape = W.tape ∧ W'.output = W.output
theorem Os.refl (W : World) : Os W W := ⟨rfl, rfl, rfl⟩
theorem Os.trans {A B C : World} (h : Os A B) (g : Os B C) : Os A C := ⟨g.1.trans h.1, g.2.1.trans h.2.1, g.2.2.trans h.2.2⟩
theorem Os.below {B : Nat} {W W' : World} (h : Below B W W') : Os W W' := ⟨h.os, h.tape, h.output⟩
/-- all blocks but those of S are as they were -/
structure Kp (S : Nat → Prop) (W W' : World) : Prop where
  size : W.heap.size ≤ W'.heap.size
  blocks : ∀ k, k < W.heap.size → ¬ S k → W'.heap[k]? = W.heap[k]?
  os : Os W W'
theorem Kp.refl (S : Nat → Prop) (W : World) : Kp S W W := ⟨Nat.le_refl _, fun _ _ _ => rfl, .refl W⟩
theorem Kp.trans {S : Nat → Prop} {A B C : World} (h : Kp S A B) (g : Kp S B C) : Kp S A C :=
  ⟨Nat.le_trans h.1 g.1, fun k hk hs => (g.2 k (Nat.lt_of_lt_of_le hk h.1) hs).trans (h.2 k hk hs), h.os.trans g.os⟩
theorem Kp.below {S : Nat → Prop} {W W' : World} (h : Below W.heap.size W W') : Kp S W W' := ⟨h.size, fun k hk _ => h.block k hk, .below h⟩
theorem Kp.set {S : Nat → Prop} (W : World) {a : Addr} (ha : S a.block) (v : Value) : Kp S W (W.setCell a v) :=
  ⟨by simp, fun k _ hs => Below.heap_setCell _ _ _ _ (fun e => hs (by rw [e]; exact ha)), ⟨rfl, rfl, rfl⟩⟩
theorem Kp.mono {S T : Nat → Prop} {W W' : World} (h : Kp S W W') (hs : ∀ k, S k → T k) : Kp T W W' := ⟨h.1, fun k hk ht => h.2 k hk fun x => ht (hs k x), h.os⟩
theorem Kp.blk {S : Nat → Prop} {W W' : World} (h : Kp S W W') {b : Nat} {t : TypeId} {xs : List Value} (hB : Blk W b t xs) (hs : ¬ S b) : Blk W' b t xs := hB.to (h.2 b hB.lt hs)
/-- what stands below all that may change -/
theorem Kp.low {S : Nat → Prop} {W W' : World} {B : Nat} (h : Kp S W W') (hB : B ≤ W.heap.size) (hs : ∀ k, S k → B ≤ k) : Below B W W' :=
  ⟨h.os.1, h.os.2.1, h.os.2.2, h.1, fun k hk => h.2 k (by omega) fun x => by have := hs k x; omega⟩
theorem Kp.own {S : Nat → Prop} {W W' : World} {base n : Nat} {t : TypeId} {v : Value} {xs : List Value} (h : Kp S W W') (ho : W.ownsRow base t 1 v n xs) (hs : ∀ k, S k → k < base) : W'.ownsRow base t 1 v n xs := by
  refine ⟨ho.1, ho.2.imp id fun ⟨g, cap, cur, e1, h1, h2, r⟩ => ⟨g, cap, cur, e1, h1, ?_, r⟩⟩
  rw [h.2 g (Array.getElem?_eq_some_iff.1 h2).1 (fun x => by have := hs g x; omega)]
  exact h2
/-- where the table of TrailingZeros64 lies -/
abbrev tzB : Nat := Tryd.laysTz_ren.g 1
theorem Tz.kp {S : Nat → Prop} {W W' : World} (h : Tz W) (hk : Kp S W W') (hs : ¬ S tzB) : Tz W' := fun j hj => by
  have h1 := h j hj
  exact (World.cell?_of_block (hk.2 _ (World.block_lt_of_cell? W _ h1) hs)).trans h1
theorem LkE.lt {W : World} {lb n : Nat} {E : Nat → Nat → Bool} (h : LkE W lb n E) {v : Nat} (hv : v < n) : lb + 1 + v < W.heap.size := by
  obtain ⟨wss, h1, _⟩ := h.ex
  exact (h1.sets v hv).lt
theorem LkE.lt0 {W : World} {lb n : Nat} {E : Nat → Nat → Bool} (h : LkE W lb n E) : lb < W.heap.size := by
  obtain ⟨wss, h1, _⟩ := h.ex
  exact h1.row.lt
theorem LkE.kp {S : Nat → Prop} {W W' : World} {lb n : Nat} {E : Nat → Nat → Bool} (h : LkE W lb n E) (hk : Kp S W W') (hs : ∀ k, lb ≤ k → k ≤ lb + n → ¬ S k) : LkE W' lb n E :=
  h.to fun k h1 h2 => hk.2 k (by
    rcases Nat.eq_or_lt_of_le h1 with e | e
    · rw [← e]; exact h.lt0
    · obtain ⟨v, rfl⟩ : ∃ v, k = lb + 1 + v := ⟨k - lb - 1, by omega⟩
      exact h.lt (by omega)) (hs k h1 h2)
/-- the neighbours, in order -/
def nbs (E : Nat → Nat → Bool) (n v : Nat) : List Nat := (List.range n).filter (E v)
/-- the members of the first words -/
def preW (ws : List Nat) (i : Nat) : List Nat := (List.range i).flatMap fun i => (bitsL (ws.getD i 0)).map (i * 64 + ·)
theorem preW_succ (ws : List Nat) (i : Nat) : preW ws (i + 1) = preW ws i ++ (bitsL (ws.getD i 0)).map (i * 64 + ·) := by
  unfold preW
  rw [List.range_succ, List.flatMap_append, List.flatMap_cons, List.flatMap_nil, List.append_nil]
theorem preW_all {m : Nat} {ws : List Nat} (h : ws.length = m) : preW ws m = memW ws := by rw [← h]; rfl
theorem bitsL_andn (x y : Nat) (hx : x < 18446744073709551616) : bitsL (x &&& (18446744073709551615 - y % 18446744073709551616)) = (bitsL x).filter fun b => !y.testBit b := by
  unfold bitsL
  rw [List.filter_filter]
  apply List.filter_congr
  intro b _
  rw [andn_bit x y b hx, Bool.and_comm]
theorem bitsL_andn0 (x : Nat) (hx : x < 18446744073709551616) : bitsL (x &&& (18446744073709551615 - 0 % 18446744073709551616)) = bitsL x := by
  rw [bitsL_andn x 0 hx]
  simp
theorem St.nbs {n v : Nat} {ws : List Nat} {E : Nat → Nat → Bool} (h : St (sizeW n) ws (E v)) (hE : ∀ u w, E u w = true → w < n) : memW ws = nbs E n v := h.list fun u hu => hE v u hu
set_option maxRecDepth 100000 in
set_option maxHeartbeats 2000000 in
theorem each_any (lb n v : Nat) (g : Nat) (cb : Array Value) (eg : ∀ args w, (callFunc g args).run Tryd.prog w = .ok (.enter g args) w) (E : Nat → Nat → Bool) (hEn : ∀ u w, E u w = true → w < n) (hn : n ≤ 4096) (hv : v < n)
    (S : Nat → Prop) (J : List Nat → World → Prop) (w : World) (hSb : ∀ k, S k → k < w.heap.size) (hSt : ¬ S tzB) (hSl : ∀ k, lb ≤ k → k ≤ lb + n → ¬ S k)
    (hJb : ∀ l W W', J l W → Below W.heap.size W W' → J l W')
    (hJ : ∀ pre b r W, pre ++ b :: r = nbs E n v → J pre W → Calls Tryd.prog g (#[.int .i64 (b : Int)] ++ cb) W fun e W' => e = .returned (.tuple #[]) ∧ J (pre ++ [b]) W' ∧ Kp S W W')
    (hT : Tz w) (hL : LkE w lb n E) (h0 : J [] w) :
    Calls Tryd.prog 25 #[sl lb n, .int .i64 v, .func (.func g) #[] cb] w fun e w' => e = .returned (.tuple #[]) ∧ J (nbs E n v) w' ∧ Kp S w w' := by
  obtain ⟨wss, hlk, hst⟩ := hL.ex
  have hsv := hst v hv
  have hnb : memW (wss v) = nbs E n v := hsv.nbs hEn
  obtain ⟨W1, hW1⟩ : ∃ W1, w.alloc (.cells (uV (List.replicate (sizeW n) 0)).toArray 69) = W1 := ⟨_, rfl⟩
  have hb1 : Below w.heap.size w W1 := by rw [← hW1]; exact bel_box _
  have hsn : Blk W1 w.heap.size 69 (uV (List.replicate (sizeW n) 0)) := by rw [← hW1]; exact Blk.new _ _ _
  have hSs : ¬ S w.heap.size := fun h => Nat.lt_irrefl _ (hSb _ h)
  have hl1 : Lnk W1 lb n wss := hlk.keep hb1
  have key := eachNew_any lb n v w.heap.size g cb eg (fun i => (wss v).getD i 0) hsv.wf hn hv
    (fun i W => J (preW (wss v) i) W ∧ Kp S W1 W)
    (fun i l W => ∃ d, bitsL ((wss v).getD i 0) = d ++ l ∧ J (preW (wss v) i ++ d.map (i * 64 + ·)) W ∧ Kp S W1 W ∧ i < sizeW n)
    (fun i W hi ⟨hj, hk⟩ => ⟨((hk.blk (hl1.sets v hv) (hSl _ (by omega) (by omega)))).cell (uV_get (by rw [hsv.len]; exact hi)), 0, by omega, by
        have := (hk.blk hsn hSs).cell (uV_get (l := List.replicate (sizeW n) 0) (i := i) (by simpa using hi))
        rw [this]
        simp [List.getD, List.getElem?_replicate, hi], [], by rw [bitsL_andn0 _ (hsv.wf i)]; rfl, by simpa using hj, hk, hi⟩)
    (fun i l W ⟨_, _, _, hk, _⟩ => (hT.keep hb1).kp hk hSt)
    (fun i b l W hi hb ⟨d, hd, hj, hk, _⟩ => by
      have hpre : ∃ r, preW (wss v) i ++ d.map (i * 64 + ·) ++ (i * 64 + b) :: r = nbs E n v := by
        rw [← hnb, ← preW_all hsv.len]
        have e1 : preW (wss v) (i + 1) = preW (wss v) i ++ d.map (i * 64 + ·) ++ (i * 64 + b) :: l.map (i * 64 + ·) := by
          rw [preW_succ, hd, List.map_append, List.map_cons, List.append_assoc]
        obtain ⟨r2, hr2⟩ : ∃ r2, preW (wss v) (sizeW n) = preW (wss v) (i + 1) ++ r2 := by
          unfold preW
          obtain ⟨q, hq⟩ : ∃ q, sizeW n = i + 1 + q := ⟨sizeW n - (i + 1), by omega⟩
          rw [hq, List.range_add, List.flatMap_append]
          exact ⟨_, rfl⟩
        exact ⟨l.map (i * 64 + ·) ++ r2, by rw [hr2, e1]; simp⟩
      obtain ⟨r, hr⟩ := hpre
      exact (hJ _ _ r W hr hj).mono fun e W' ⟨h1, h2, h3⟩ => ⟨h1, d ++ [b], by rw [hd]; simp, by rw [List.map_append, ← List.append_assoc]; exact h2, hk.trans h3, hi⟩)
    (fun i W ⟨d, hd, hj, hk, _⟩ => ⟨by rw [preW_succ, hd, List.append_nil]; exact hj, hk⟩)
    W1 (hl1.hd hv) ⟨hJb _ _ _ h0 hb1, Kp.refl _ _⟩
  rw [preW_all hsv.len, hnb] at key
  have KK := Lib.hid key
  have HN := Lib.hid (newSet_any n hn w)
  have HB := Lib.hid (Kp.below (S := S) hb1)
  rw [hW1] at HN
  clear key hsn hl1 hb1 hnb hsv hst hlk hL hT hJ hJb hSb hSt hSl h0 hSs hW1
  go_enter Tryd.func25, Tryd.ntmps25
  go_wp2_with (first | (go_at_call 27; refine HN.out.mono ?_; rintro e w1 ⟨rfl, rfl⟩) | (go_at_call 50; refine KK.out.mono ?_; rintro e w2 ⟨rfl, hj2, hk2⟩))
  refine bodyPost_end (v := .tuple #[]) (results_none rfl _ _ _) rfl ?_
  exact ⟨rfl, hj2, HB.out.trans hk2⟩
end gr
end Go.Proofs.YtahffafobdiogaaDoor
/- walk: a depth-first search, whatever is called on leaving. -/
namespace Go.Proofs.YtahffafobdiogaaDoor
set_option linter.unusedVariables false
set_option linter.unusedSimpArgs false
open Go.RowKit
namespace gr
/-- a block of numbers -/
def isI (o : Obj) : Prop := ∃ c f, o = .cells c 3 f
/-- all blocks but those of T, and those of numbers from B on, are as they were -/
structure KT (B : Nat) (T : Nat → Prop) (W W' : World) : Prop where
  size : W.heap.size ≤ W'.heap.size
  blocks : ∀ (k : Nat) (o : Obj), W.heap[k]? = some o → ¬ T k → (k < B ∨ ¬ isI o) → W'.heap[k]? = some o
  os : Os W W'
theorem KT.refl (B : Nat) (T : Nat → Prop) (W : World) : KT B T W W := ⟨Nat.le_refl _, fun _ _ h _ _ => h, .refl W⟩
theorem KT.trans {N : Nat} {T : Nat → Prop} {A B C : World} (h : KT N T A B) (g : KT N T B C) : KT N T A C := ⟨Nat.le_trans h.1 g.1, fun k o ho ht hi => g.2 k o (h.2 k o ho ht hi) ht hi, h.os.trans g.os⟩
theorem KT.below {B : Nat} {T : Nat → Prop} {W W' : World} (h : Below W.heap.size W W') : KT B T W W' := ⟨h.size, fun k o ho _ _ => (h.block k (Array.getElem?_eq_some_iff.1 ho).1).trans ho, .below h⟩
theorem KT.kp {B : Nat} {T : Nat → Prop} {W W' : World} (h : Kp T W W') : KT B T W W' := ⟨h.1, fun k o ho ht _ => (h.2 k (Array.getElem?_eq_some_iff.1 ho).1 ht).trans ho, h.os⟩
theorem KT.mono {B : Nat} {S T : Nat → Prop} {W W' : World} (h : KT B S W W') (hs : ∀ k, S k → T k) : KT B T W W' := ⟨h.1, fun k o ho ht hi => h.2 k o ho (fun x => ht (hs k x)) hi, h.os⟩
theorem KT.blk {B : Nat} {T : Nat → Prop} {W W' : World} (h : KT B T W W') {b : Nat} {t : TypeId} {xs : List Value} (hB : Blk W b t xs) (ht : ¬ T b) (hi : b < B ∨ t ≠ 3) : Blk W' b t xs :=
  h.2 b _ hB ht (hi.imp id fun hi ⟨c, f, e⟩ => by injection e with _ e2 _; exact hi e2)
/-- what stands below all that may change -/
theorem KT.low {B N : Nat} {T : Nat → Prop} {W W' : World} (h : KT B T W W') (hN : N ≤ W.heap.size) (hNB : N ≤ B) (ht : ∀ k, T k → N ≤ k) : Below N W W' :=
  ⟨h.os.1, h.os.2.1, h.os.2.2, h.1, fun k hk => by
    obtain ⟨o, ho⟩ : ∃ o, W.heap[k]? = some o := ⟨_, Array.getElem?_eq_getElem (by omega)⟩
    rw [ho]
    exact h.2 k o ho (fun x => by have := ht k x; omega) (.inl (by omega))⟩
theorem KT.lnk {B : Nat} {T : Nat → Prop} {W W' : World} (h : KT B T W W') {lb n : Nat} {wss : Nat → List Nat} (hL : Lnk W lb n wss) (ht : ∀ k, lb ≤ k → k ≤ lb + n → ¬ T k) : Lnk W' lb n wss :=
  ⟨h.blk hL.row (ht _ (by omega) (by omega)) (.inr (by decide)), fun v hv => h.blk (hL.sets v hv) (ht _ (by omega) (by omega)) (.inr (by decide))⟩
theorem KT.lke {B : Nat} {T : Nat → Prop} {W W' : World} (h : KT B T W W') {lb n : Nat} {E : Nat → Nat → Bool} (hL : LkE W lb n E) (ht : ∀ k, lb ≤ k → k ≤ lb + n → ¬ T k) : LkE W' lb n E := by
  obtain ⟨wss, h1, h2⟩ := hL.ex
  exact ⟨wss, h.lnk h1 ht, h2⟩
/-- the row of words in block sb holds the vertices of a list -/
def Seen (W : World) (sb n : Nat) (S : List Nat) : Prop := ∃ ws, Blk W sb 69 (uV ws) ∧ St (sizeW n) ws fun v => S.contains v
theorem Seen.kt {B : Nat} {T : Nat → Prop} {W W' : World} {sb n : Nat} {S : List Nat} (h : Seen W sb n S) (hk : KT B T W W') (ht : ¬ T sb) : Seen W' sb n S := by
  obtain ⟨ws, h1, h2⟩ := h
  exact ⟨ws, hk.blk h1 ht (.inr (by decide)), h2⟩
theorem Seen.keep {W W' : World} {sb n : Nat} {S : List Nat} (h : Seen W sb n S) (hb : Below W.heap.size W W') : Seen W' sb n S := by
  obtain ⟨ws, h1, h2⟩ := h
  exact ⟨ws, h1.keep hb, h2⟩
set_option maxHeartbeats 1000000 in
theorem walk1_any (u b0 b1 b2 : Nat) (x y z : Value) (R : World → Prop) (W : World) (c0 : W.cell? ⟨b0, 0, none⟩ = some x) (c1 : W.cell? ⟨b1, 0, none⟩ = some y) (c2 : W.cell? ⟨b2, 0, none⟩ = some z)
    (h : Calls Tryd.prog 38 #[x, .int .i64 u, y, z] W fun e W' => e = .returned (.tuple #[]) ∧ R W') :
    Calls Tryd.prog 58 #[.int .i64 u, .pointer (some ⟨b0, 0, none⟩), .pointer (some ⟨b1, 0, none⟩), .pointer (some ⟨b2, 0, none⟩)] W fun e W' => e = .returned (.tuple #[]) ∧ R W' := by
  have H := Lib.hid h
  clear h
  go_enter Tryd.func58, Tryd.ntmps58
  go_wp2_with (go_at_call 38; refine H.out.mono ?_; rintro e W2 ⟨rfl, hR⟩)
  refine bodyPost_end (v := .tuple #[]) (results_none rfl _ _ _) rfl ?_
  exact ⟨rfl, hR⟩
/-- how many are not seen yet -/
def uns (n : Nat) (S : List Nat) : Nat := (List.range n).countP fun v => !S.contains v
theorem uns_le {n : Nat} {S S' : List Nat} (h : ∀ x ∈ S, x ∈ S') : uns n S' ≤ uns n S := by
  unfold uns
  refine List.countP_mono_left fun v _ hv => ?_
  simp only [Bool.not_eq_true', List.contains_eq_mem, decide_eq_false_iff_not] at hv ⊢
  exact fun x => hv (h v x)
theorem uns_cons {n v : Nat} {S : List Nat} (hv : v < n) (hn : v ∉ S) : uns n (v :: S) < uns n S := by
  unfold uns
  rw [List.countP_eq_length_filter, List.countP_eq_length_filter]
  have e : ((List.range n).filter fun u => !(v :: S).contains u) = ((List.range n).filter fun u => !S.contains u).filter fun u => !decide (u = v) := by
    rw [List.filter_filter]
    apply List.filter_congr
    intro u _
    simp only [List.contains_eq_mem, List.mem_cons, Bool.decide_or, Bool.not_or]
  rw [e]
  refine List.length_filter_lt_length_iff_exists.2 ⟨v, ?_, by simp⟩
  rw [List.mem_filter, List.mem_range]
  exact ⟨hv, by simpa using hn⟩
theorem seen_add {W : World} {sb n v : Nat} {S : List Nat} {ws : List Nat} (h : Blk W sb 69 (uV ws)) (hS : St (sizeW n) ws fun v => S.contains v) (hv : v < n) (q : Nat) : Seen ((W.setCell ⟨sb, v / 64, none⟩ (.int .u64 ((ws.getD (v / 64) 0 ||| 2 ^ (v % 64) : Nat) : Int))).drewN q) sb n (v :: S) := by
  refine ⟨addW ws v, ?_, (hS.add (size_div hv)).congr fun u => ?_⟩
  · have := h.set (v / 64) (.int .u64 ((ws.getD (v / 64) 0 ||| 2 ^ (v % 64) : Nat) : Int))
    rw [uV_set] at this
    exact this
  · rw [Bool.eq_iff_iff]
    simp [or_comm]
/-- what a search keeps of what is left and seen -/
theorem dfs_inv {s : Nat → List Nat} {n : Nat} (hs : ∀ x, ∀ y ∈ s x, y < n) {vs S L S' L' : List Nat} (h : Dfs s vs S L S' L') : (∀ x ∈ vs, x < n) → (∀ x ∈ L, x ∈ S) → L.Nodup → (∀ x ∈ S, x < n) → (∀ x ∈ L', x ∈ S') ∧ L'.Nodup ∧ ∀ x ∈ S', x < n := by
  induction h with
  | nil S L => exact fun _ h1 h2 h3 => ⟨h1, h2, h3⟩
  | skip h k ih => exact fun hv h1 h2 h3 => ih (fun x hx => hv x (List.mem_cons_of_mem _ hx)) h1 h2 h3
  | @go v vs S L S1 L1 S' L' h k1 k2 ih1 ih2 =>
    intro hv h1 h2 h3
    obtain ⟨g1, g2, g3⟩ := ih1 (fun x hx => hs v x hx) (fun x hx => List.mem_cons_of_mem _ (h1 x hx)) h2 (fun x hx => by
      rcases List.mem_cons.1 hx with rfl | hx
      · exact hv _ List.mem_cons_self
      · exact h3 x hx)
    have hvS1 : v ∈ S1 := k1.sub.1 v List.mem_cons_self
    obtain ⟨M, hM, _, hm⟩ := k1.left
    have hvL1 : v ∉ L1 := fun hx => by
      rw [hM] at hx
      rcases List.mem_append.1 hx with hx | hx
      · exact h (h1 v hx)
      · exact ((hm v).1 hx).2 List.mem_cons_self
    refine ih2 (fun x hx => hv x (List.mem_cons_of_mem _ hx)) (fun x hx => ?_) ?_ g3
    · rcases List.mem_append.1 hx with hx | hx
      · exact g1 x hx
      · rw [List.mem_singleton.1 hx]; exact hvS1
    · rw [List.nodup_append]
      refine ⟨g2, by simp, fun x hx y hy e => ?_⟩
      rw [List.mem_singleton.1 hy] at e
      exact hvL1 (e ▸ hx)
theorem nbs_lt {E : Nat → Nat → Bool} {n : Nat} : ∀ x, ∀ y ∈ nbs E n x, y < n := fun x y hy => List.mem_range.1 (List.mem_filter.1 hy).1
set_option maxRecDepth 100000 in
set_option maxHeartbeats 4000000 in
theorem walk_any (lb n sb B0 : Nat) (lf : Nat) (cb : Array Value) (eg : ∀ args w, (callFunc lf args).run Tryd.prog w = .ok (.enter lf args) w) (E : Nat → Nat → Bool) (hEn : ∀ u w, E u w = true → w < n) (hn : n ≤ 4096)
    (T : Nat → Prop) (J : List Nat → World → Prop) (hTB : ∀ k, T k → k < B0) (hsB : sb < B0) (hTs : ¬ T sb) (hTl : ∀ k, lb ≤ k → k ≤ lb + n → ¬ T k) (hsl : ¬ (lb ≤ sb ∧ sb ≤ lb + n))
    (hJb : ∀ l W W', J l W → Below W.heap.size W W' → J l W')
    (hJs : ∀ l W i v, J l W → J l (W.setCell ⟨sb, i, none⟩ v))
    (hJt : ∀ l W, J l W → Tz W)
    (hJ : ∀ l v W, v < n → (l ++ [v]).Nodup → (∀ x ∈ l ++ [v], x < n) → J l W → B0 ≤ W.heap.size → Calls Tryd.prog lf (#[.int .i64 (v : Int)] ++ cb) W fun e W' => e = .returned (.tuple #[]) ∧ J (l ++ [v]) W' ∧ KT B0 T W W') :
    ∀ (m v : Nat) (S L : List Nat) (W : World), uns n S ≤ m → v < n → LkE W lb n E → Seen W sb n S → J L W → B0 ≤ W.heap.size → ((∀ x ∈ L, x ∈ S) ∧ L.Nodup ∧ ∀ x ∈ S, x < n) →
      Calls Tryd.prog 38 #[sl lb n, .int .i64 v, sl sb (sizeW n), .func (.func lf) #[] cb] W fun e W' => e = .returned (.tuple #[]) ∧ ∃ S' L', Dfs (nbs E n) [v] S L S' L' ∧ Seen W' sb n S' ∧ J L' W' ∧ KT B0 (fun k => T k ∨ k = sb) W W' := by
  intro m
  induction m using Nat.strongRecOn with
  | ind m ih =>
    intro v S L W hm hv hL hS hj hB hin
    obtain ⟨ws, hws, hst⟩ := hS
    have hTS : ∀ k, lb ≤ k → k ≤ lb + n → ¬ (T k ∨ k = sb) := fun k h1 h2 h => h.elim (hTl k h1 h2) fun e => hsl (e ▸ ⟨h1, h2⟩)
    -- the boxes
    obtain ⟨W3, hW3⟩ : ∃ W3, ((W.alloc (.cells #[sl lb n] 44)).alloc (.cells #[sl sb (sizeW n)] 49)).alloc (.cells #[.func (.func lf) #[] cb] 47) = W3 := ⟨_, rfl⟩
    have hb3 : Below W.heap.size W W3 := by rw [← hW3]; exact bel_alloc (bel_alloc (bel_box _) _) _
    have hz3 : W3.heap.size = W.heap.size + 3 := by rw [← hW3]; simp
    have b0 : Blk W3 W.heap.size 44 [sl lb n] := by rw [← hW3]; exact ((Blk.new W [sl lb n] _).alloc _).alloc _
    have b1 : Blk W3 (W.heap.size + 1) 49 [sl sb (sizeW n)] := by
      rw [← hW3]
      have h := Blk.new (W.alloc (.cells #[sl lb n] 44)) [sl sb (sizeW n)] 49
      rw [World.size_alloc] at h
      exact h.alloc _
    have b2 : Blk W3 (W.heap.size + 2) 47 [.func (.func lf) #[] cb] := by
      rw [← hW3]
      have h := Blk.new ((W.alloc (.cells #[sl lb n] 44)).alloc (.cells #[sl sb (sizeW n)] 49)) [.func (.func lf) #[] cb] 47
      rw [World.size_alloc, World.size_alloc] at h
      exact h
    have hws3 := hws.keep hb3
    have hL3 := hL.keep hb3
    have hj3 := hJb _ _ _ hj hb3
    have c0 := b0.cell (i := 0) rfl
    have c1 := b1.cell (i := 0) rfl
    have c2 := b2.cell (i := 0) rfl
    have hsz : sizeW n ≤ 4096 := by unfold sizeW; omega
    have KH := Lib.hid (has_any sb (sizeW n) v ws _ W3 hws3 hst hsz (size_div hv))
    have c2 : W3.cell? ⟨W.heap.size + 1 + 1, 0, none⟩ = some (.func (.func lf) #[] cb) := c2
    by_cases hvS : S.contains v = true
    · rw [hvS] at KH
      have R0 := Lib.hid (show ∃ S' L', Dfs (nbs E n) [v] S L S' L' ∧ Seen W3 sb n S' ∧ J L' W3 ∧ KT B0 (fun k => T k ∨ k = sb) W W3 from
        ⟨S, L, .skip (List.contains_iff_mem.1 hvS) (.nil S L), ⟨ws, hws3, hst⟩, hj3, .below hb3⟩)
      clear ih hJ hJs hJt hJb hin hTS hL hL3 hj hj3 hws hws3 hst b0 b1 b2 hb3 hTl hTs hsl hvS
      go_enter Tryd.func38, Tryd.ntmps38
      go_wp2_with (go_at_call 57; refine KH.out.mono ?_; rintro e w1 ⟨rfl, rfl⟩)
      refine bodyPost_ret (v := .tuple #[]) (results_none rfl _ _ _) rfl ?_
      exact ⟨rfl, R0.out⟩
    · have hvS' : S.contains v = false := by simpa using hvS
      have hvn : v ∉ S := fun h => hvS (List.contains_iff_mem.2 h)
      rw [hvS'] at KH
      have nT0 : ¬ (T W.heap.size ∨ W.heap.size = sb) := fun h => h.elim (fun h => by have := hTB _ h; omega) (fun e => by omega)
      have nT1 : ¬ (T (W.heap.size + 1) ∨ W.heap.size + 1 = sb) := fun h => h.elim (fun h => by have := hTB _ h; omega) (fun e => by omega)
      have nT2 : ¬ (T (W.heap.size + 2) ∨ W.heap.size + 2 = sb) := fun h => h.elim (fun h => by have := hTB _ h; omega) (fun e => by omega)
      have KA := Lib.hid ((add_any sb (sizeW n) v ws _ W3 hws3 hst hsz (size_div hv)).mono (R' := fun e w' => e = .returned (.tuple #[]) ∧ Seen w' sb n (v :: S) ∧ J L w' ∧ KT B0 (fun k => T k ∨ k = sb) W3 w' ∧ w'.cell? ⟨W.heap.size, 0, none⟩ = some (sl lb n) ∧ w'.cell? ⟨W.heap.size + 1, 0, none⟩ = some (sl sb (sizeW n)))
        fun e w' ⟨he, q, hw⟩ => by
          have hk : KT B0 (fun k => T k ∨ k = sb) W3 w' := by
            rw [hw]
            exact .kp ((Kp.set (S := fun k => T k ∨ k = sb) W3 (a := ⟨sb, v / 64, none⟩) (.inr rfl) _).trans (Kp.below (below_self _ _ q)))
          refine ⟨he, by rw [hw]; exact seen_add hws3 hst hv q, ?_, hk, (hk.blk b0 nT0 (.inr (by decide))).cell (i := 0) rfl, (hk.blk b1 nT1 (.inr (by decide))).cell (i := 0) rfl⟩
          rw [hw]
          exact hJb _ _ _ (hJs _ _ _ _ hj3) (below_self _ _ q))
      have KE := Lib.hid (fun W4 (hs4 : Seen W4 sb n (v :: S)) (hj4 : J L W4) (hk4 : KT B0 (fun k => T k ∨ k = sb) W3 W4) =>
        show Calls Tryd.prog 50 #[sl lb n, .int .i64 v, sl sb (sizeW n), .func (.func 58) #[] #[.pointer (some ⟨W.heap.size, 0, none⟩), .pointer (some ⟨W.heap.size + 1, 0, none⟩), .pointer (some ⟨W.heap.size + 1 + 1, 0, none⟩)]] W4 fun e w' => e = .returned (.tuple #[]) ∧ (∃ S1 L1, Dfs (nbs E n) (nbs E n v) (v :: S) L S1 L1 ∧ Seen w' sb n S1 ∧ J L1 w' ∧ KT B0 (fun k => T k ∨ k = sb) W3 w') ∧ w'.cell? ⟨W.heap.size + 1 + 1, 0, none⟩ = some (.func (.func lf) #[] cb) from by
          obtain ⟨wss, hlk, hstl⟩ := hL3.ex
          have hsv := hstl v hv
          have hnb : memW (wss v) = nbs E n v := hsv.nbs hEn
          have hlk4 := hk4.lnk hlk hTS
          refine (eachNew_any lb n v sb 58 _ (enters_of Tryd.func58 (by kernel_rfl) rfl) (fun i => (wss v).getD i 0) hsv.wf hn hv
            (fun i U => ∃ S1 L1, Dfs (nbs E n) (preW (wss v) i) (v :: S) L S1 L1 ∧ Seen U sb n S1 ∧ J L1 U ∧ KT B0 (fun k => T k ∨ k = sb) W3 U)
            (fun i l U => i < sizeW n ∧ ∃ S0 L0 x d S1 L1, Dfs (nbs E n) (preW (wss v) i) (v :: S) L S0 L0 ∧ (∀ b, b < 64 → Nat.testBit x b = S0.contains (i * 64 + b)) ∧ (bitsL ((wss v).getD i 0)).filter (fun b => !x.testBit b) = d ++ l ∧ Dfs (nbs E n) (d.map (i * 64 + ·)) S0 L0 S1 L1 ∧ Seen U sb n S1 ∧ J L1 U ∧ KT B0 (fun k => T k ∨ k = sb) W3 U)
            ?_ ?_ ?_ ?_ W4 (hlk4.hd hv) ⟨v :: S, L, .nil _ _, hs4, hj4, hk4⟩).mono ?_
          · rintro i U hi ⟨S1, L1, hd, hs, hj, hk⟩
            refine ⟨(((hk.lnk hlk hTS).sets v hv)).cell (uV_get (by rw [hsv.len]; exact hi)), ?_⟩
            obtain ⟨us, hu1, hu2⟩ := hs
            refine ⟨us.getD i 0, hu2.wf i, hu1.cell (uV_get (by rw [hu2.len]; exact hi)), hi, S1, L1, us.getD i 0, [], S1, L1, hd, fun b hb => ?_, by rw [bitsL_andn _ _ (hsv.wf i)]; rfl, .nil _ _, ⟨us, hu1, hu2⟩, hj, hk⟩
            have := hu2.iff (i * 64 + b)
            unfold inW at this
            rw [show (i * 64 + b) / 64 = i by omega, show (i * 64 + b) % 64 = b by omega] at this
            exact this
          · rintro i l U ⟨_, _, _, _, _, _, _, _, _, _, _, _, hj, _⟩
            exact hJt _ _ hj
          · rintro i b l U hi hb ⟨_, S0, L0, x, d, S1, L1, h1, h2, h3, h4, h5, h6, h7⟩
            have hmem : i * 64 + b ∈ nbs E n v := by
              rw [← hnb, memW_mem, hsv.len]
              have hb2 : b ∈ bitsL ((wss v).getD i 0) := (List.mem_filter.1 (h3 ▸ (by simp : b ∈ d ++ b :: l))).1
              unfold inW
              rw [show (i * 64 + b) / 64 = i by omega, show (i * 64 + b) % 64 = b by omega]
              exact ⟨hi, (bitsL_mem.1 hb2).2⟩
            have hlt : i * 64 + b < n := List.mem_range.1 (List.mem_filter.1 hmem).1
            have hsub : ∀ y ∈ v :: S, y ∈ S1 := fun y hy => h4.sub.1 y (h1.sub.1 y hy)
            have hun : uns n S1 < m := Nat.lt_of_le_of_lt (uns_le hsub) (Nat.lt_of_lt_of_le (uns_cons hv hvn) hm)
            have hBU : B0 ≤ U.heap.size := by have := h7.1; omega
            have hin1 : (∀ x ∈ L1, x ∈ S1) ∧ L1.Nodup ∧ ∀ x ∈ S1, x < n := by
              have hpl : ∀ x ∈ preW (wss v) i, x < n := fun x hx => by
                unfold preW at hx
                obtain ⟨i', hi', hx⟩ := List.mem_flatMap.1 hx
                obtain ⟨b', hb', rfl⟩ := List.mem_map.1 hx
                have hb3 := bitsL_mem.1 hb'
                rw [List.mem_range] at hi'
                refine hEn v _ ?_
                rw [← hsv.iff]
                unfold inW
                rw [show (i' * 64 + b') / 64 = i' by omega, show (i' * 64 + b') % 64 = b' by omega]
                exact hb3.2
              have hdl : ∀ x ∈ d.map (i * 64 + ·), x < n := fun x hx => by
                obtain ⟨b', hb', rfl⟩ := List.mem_map.1 hx
                have hb3 : b' ∈ bitsL ((wss v).getD i 0) := (List.mem_filter.1 (h3 ▸ List.mem_append_left _ hb')).1
                have hb4 := bitsL_mem.1 hb3
                refine hEn v _ ?_
                rw [← hsv.iff]
                unfold inW
                rw [show (i * 64 + b') / 64 = i by omega, show (i * 64 + b') % 64 = b' by omega]
                exact hb4.2
              refine dfs_inv (n := n) nbs_lt (h1.app h4) (fun x hx => (List.mem_append.1 hx).elim (hpl x) (hdl x)) (fun x hx => List.mem_cons_of_mem _ (hin.1 x hx)) hin.2.1 (fun x hx => ?_)
              rcases List.mem_cons.1 hx with rfl | hx
              · exact hv
              · exact hin.2.2 x hx
            have hcall := ih (uns n S1) hun (i * 64 + b) S1 L1 U (Nat.le_refl _) hlt (h7.lke hL3 hTS) h5 h6 hBU hin1
            refine (walk1_any (i * 64 + b) W.heap.size (W.heap.size + 1) (W.heap.size + 1 + 1) _ _ _ (fun w' => ∃ S' L', Dfs (nbs E n) [i * 64 + b] S1 L1 S' L' ∧ Seen w' sb n S' ∧ J L' w' ∧ KT B0 (fun k => T k ∨ k = sb) U w') U ((h7.blk b0 nT0 (.inr (by decide))).cell (i := 0) rfl) ((h7.blk b1 nT1 (.inr (by decide))).cell (i := 0) rfl) ((h7.blk b2 nT2 (.inr (by decide))).cell (i := 0) rfl) hcall).mono ?_
            rintro e U2 ⟨he, S2, L2, g1, g2, g3, g4⟩
            refine ⟨he, hi, S0, L0, x, d ++ [b], S2, L2, h1, h2, by rw [h3]; simp, ?_, g2, g3, h7.trans g4⟩
            rw [List.map_append]
            exact h4.app g1
          · rintro i U ⟨_, S0, L0, x, d, S1, L1, h1, h2, h3, h4, h5, h6, h7⟩
            refine ⟨S1, L1, ?_, h5, h6, h7⟩
            rw [preW_succ]
            refine h1.app (Dfs.filtered (p := fun u => !S0.contains u) _ _ _ _ _ (fun u hu hp => ?_) ?_)
            · exact List.contains_iff_mem.1 (by simpa using hp)
            · rw [List.append_nil] at h3
              have e1 : ((bitsL ((wss v).getD i 0)).map (i * 64 + ·)).filter (fun u => !S0.contains u) = ((bitsL ((wss v).getD i 0)).filter fun b => !x.testBit b).map (i * 64 + ·) := by
                rw [List.filter_map]
                congr 1
                apply List.filter_congr
                intro b hb
                simp only [Function.comp]
                rw [h2 b (bitsL_mem.1 hb).1]
              rw [e1, h3]
              exact h4
          · rintro e w' ⟨he, S1, L1, h1, h2, h3, h4⟩
            rw [preW_all hsv.len, hnb] at h1
            exact ⟨he, ⟨S1, L1, h1, h2, h3, h4⟩, (h4.blk b2 nT2 (.inr (by decide))).cell (i := 0) rfl⟩)
      have KF := Lib.hid (fun w5 (h : ∃ S1 L1, Dfs (nbs E n) (nbs E n v) (v :: S) L S1 L1 ∧ Seen w5 sb n S1 ∧ J L1 w5 ∧ KT B0 (fun k => T k ∨ k = sb) W3 w5) =>
        show Calls Tryd.prog lf (#[.int .i64 (v : Int)] ++ cb) w5 fun e w' => e = .returned (.tuple #[]) ∧ ∃ S' L', Dfs (nbs E n) [v] S L S' L' ∧ Seen w' sb n S' ∧ J L' w' ∧ KT B0 (fun k => T k ∨ k = sb) W w' from by
          obtain ⟨S1, L1, h1, h2, h3, h4⟩ := h
          have hin2 := dfs_inv (n := n) nbs_lt (Dfs.go hvn h1 (.nil S1 (L1 ++ [v]))) (fun x hx => by rw [List.mem_singleton.1 hx]; exact hv) hin.1 hin.2.1 hin.2.2
          refine (hJ L1 v w5 hv hin2.2.1 (fun x hx => hin2.2.2 x (hin2.1 x hx)) h3 (by have := h4.1; omega)).mono ?_
          rintro e w' ⟨he, g1, g2⟩
          exact ⟨he, S1, L1 ++ [v], .go hvn h1 (.nil _ _), h2.kt g2 hTs, g1, ((KT.below hb3).trans h4).trans (g2.mono fun k hk => .inl hk)⟩)
      clear ih hJ hJs hJt hJb hin hTS hL hL3 hj hj3 hws hws3 hst b0 b1 b2 hb3 hTl hTs hsl hvS hvS' hvn nT0 nT1 nT2
      go_enter Tryd.func38, Tryd.ntmps38
      go_wp2_with (first | (go_at_call 57; refine KH.out.mono ?_; rintro e w1 ⟨rfl, rfl⟩) | (go_at_call 28; refine KA.out.mono ?_; clear KA; rintro e w4 ⟨rfl, hs4, hj4, hk4, d0, d1⟩) | (go_at_call 50; refine (KE.out _ hs4 hj4 hk4).mono ?_; clear KE; rintro e w5 ⟨rfl, h5, d2⟩) | (go_at_fn lf; refine (KF.out _ h5).mono ?_; clear KF; rintro e w6 ⟨rfl, h6⟩))
      refine bodyPost_end (v := .tuple #[]) (results_none rfl _ _ _) rfl ?_
      exact ⟨rfl, h6⟩
end gr
end Go.Proofs.YtahffafobdiogaaDoor
/- valid. -/
namespace Go.Proofs.YtahffafobdiogaaDoor
set_option linter.unusedVariables false
set_option linter.unusedSimpArgs false
open Go.RowKit
namespace gr
def bad (n : Int) (e : Int × Int) : Bool := decide (min e.1 e.2 < 0) || decide (n ≤ max e.1 e.2)
set_option maxHeartbeats 1000000 in
theorem valid1_any (n f t : Int) (bn : Nat) (W : World) (hc : W.cell? ⟨bn, 0, none⟩ = some (.int .i64 n)) : Calls Tryd.prog 48 #[.agg #[.int .i64 f, .int .i64 t], .pointer (some ⟨bn, 0, none⟩)] W fun e w' => e = .returned (.bool (bad n (f, t))) ∧ Below W.heap.size W w' := by
  have hc2 := cell_al (.cells #[.int .i64 f, .int .i64 t] 40) hc
  unfold bad
  simp only
  by_cases h : min f t < 0
  · rw [decide_eq_true h]
    go_enter Tryd.func48, Tryd.ntmps48
    go_wp2
    go_ret
    exact ⟨by simp, bel_box _⟩
  · rw [decide_eq_false h]
    go_enter Tryd.func48, Tryd.ntmps48
    go_wp2
    go_ret
    exact ⟨by simp, bel_box _⟩
def badI (n : Int) (es : List (Int × Int)) : Bool := es.any (bad n)
set_option maxHeartbeats 2000000 in
theorem indexF_any (n : Int) (bn : Nat) (A : Option Addr) (c : Nat) (es : List (Int × Int)) (hl : es.length ≤ 1048576) (w : World) (hE : RdE w w.heap.size A es) (hc : w.cell? ⟨bn, 0, none⟩ = some (.int .i64 n)) :
    Calls Tryd.prog 63 #[.slice A es.length c, .func (.func 48) #[] #[.pointer (some ⟨bn, 0, none⟩)]] w fun e w' => (∃ r : Int, e = .returned (.int .i64 r) ∧ decide (0 ≤ r) = badI n es) ∧ Below w.heap.size w w' := by
  have HE := Lib.hid hE
  have hbn : bn < w.heap.size := World.block_lt_of_cell? w _ hc
  have HC := Lib.hid (fun W f t (hb : Below w.heap.size w W) => valid1_any n f t bn W ((hb.cell (p := ⟨bn, 0, none⟩) hbn).trans hc))
  clear hE hc
  go_enter Tryd.func63, Tryd.ntmps63
  go_wp2
  go_loopw [8] (fun i wr => ∃ k : Nat, k ≤ es.length ∧ i = .int .i64 (k : Int) ∧ Below w.heap.size w wr ∧ Hid (badI n (es.take k) = false)) (fun i _ => es.length - (intOf i).toNat)
  case atStart => exact ⟨0, by omega, rfl, Below.refl _ _, Lib.hid rfl⟩
  case round =>
    obtain ⟨k, hk, rfl, hbl, hz⟩ := hrel
    by_cases hlt : k < es.length
    · obtain ⟨ad, f, t, rfl, had, hg, c0, c1⟩ := (HE.out.below hbl).at_ hlt
      have hcl := Lib.hid (HC.out wr f t hbl)
      have HT : Hid (badI n (es.take (k + 1)) = bad n (f, t)) := Lib.hid (by
        rw [take_succ_of hg]
        unfold badI at hz ⊢
        rw [List.any_append, hz.out]
        simp)
      have HA : Hid (bad n (f, t) = true → badI n es = true) := Lib.hid fun h => List.any_eq_true.2 ⟨_, List.mem_of_getElem? hg, h⟩
      clear hg
      cases hq : bad n (f, t) with
      | true =>
        have HA2 := Lib.hid (HA.out hq)
        rw [hq] at hcl
        clear hq HA
        go_wp2_with (go_at_call 48; refine hcl.out.mono ?_; rintro e w1 ⟨rfl, hb1⟩)
        go_ret
        exact ⟨⟨_, rfl, by rw [HA2.out]; simp⟩, (by repeat (first | (with_reducible exact Below.refl _ _) | (with_reducible assumption) | (with_reducible exact bel_box _) | (with_reducible refine bel_step ?_ (by with_reducible assumption)) | (with_reducible refine Below.drew ?_) | (with_reducible refine below_drewN ?_ _) | (with_reducible refine bel_alloc ?_ _)))⟩
      | false =>
        rw [hq] at hcl HT
        clear hq
        go_wp2_with (go_at_call 48; refine hcl.out.mono ?_; rintro e w1 ⟨rfl, hb1⟩)
        exact ⟨⟨k + 1, by omega, by congr 1, (by repeat (first | (with_reducible exact Below.refl _ _) | (with_reducible assumption) | (with_reducible exact bel_box _) | (with_reducible refine bel_step ?_ (by with_reducible assumption)) | (with_reducible refine Below.drew ?_) | (with_reducible refine below_drewN ?_ _) | (with_reducible refine bel_alloc ?_ _))), HT⟩, by simp [intOf]; omega⟩
    · obtain rfl : k = es.length := by omega
      rw [List.take_length] at hz
      go_wp2
      go_ret
      exact ⟨⟨_, rfl, by rw [hz.out]; rfl⟩, hbl⟩
set_option maxHeartbeats 2000000 in
theorem containsF_any (n : Int) (bn : Nat) (A : Option Addr) (c : Nat) (es : List (Int × Int)) (hl : es.length ≤ 1048576) (w : World) (hE : RdE w w.heap.size A es) (hc : w.cell? ⟨bn, 0, none⟩ = some (.int .i64 n)) :
    Calls Tryd.prog 47 #[.slice A es.length c, .func (.func 48) #[] #[.pointer (some ⟨bn, 0, none⟩)]] w fun e w' => e = .returned (.bool (badI n es)) ∧ Below w.heap.size w w' := by
  have HC := Lib.hid (indexF_any n bn A c es hl w hE hc)
  clear hE hc
  go_enter Tryd.func47, Tryd.ntmps47
  go_wp2_with (go_at_call 63; refine HC.out.mono ?_; rintro e w1 ⟨⟨r, rfl, hr⟩, hb1⟩)
  go_ret
  exact ⟨by rw [← hr]; rfl, hb1⟩
/-- are these the edges of a graph -/
def valB (n : Int) (es : List (Int × Int)) : Bool := (decide (0 ≤ n) && decide (n ≤ 4096)) && !badI n es
set_option maxHeartbeats 2000000 in
theorem valid_any (n : Int) (A : Option Addr) (c : Nat) (es : List (Int × Int)) (hl : es.length ≤ 1048576) (w : World) (hE : RdE w w.heap.size A es) :
    Calls Tryd.prog 23 #[.int .i64 n, .slice A es.length c] w fun e w' => e = .returned (.bool (valB n es)) ∧ Below w.heap.size w w' := by
  have HC := Lib.hid (containsF_any n w.heap.size A c es hl (w.alloc (.cells #[.int .i64 n] 3)) ((hE.below (bel_box _)).more' (by simp)) (by simp))
  clear hE
  unfold valB
  generalize badI n es = b at *
  by_cases h0 : n < 0
  · rw [decide_eq_false (by omega)]
    go_enter Tryd.func23, Tryd.ntmps23
    go_wp2
    go_ret
    exact ⟨by simp, bel_box _⟩
  · rw [decide_eq_true (by omega : 0 ≤ n)]
    by_cases h1 : 4096 < n
    · rw [decide_eq_false (by omega)]
      go_enter Tryd.func23, Tryd.ntmps23
      go_wp2
      go_ret
      exact ⟨by simp, bel_box _⟩
    · rw [decide_eq_true (by omega : n ≤ 4096)]
      go_enter Tryd.func23, Tryd.ntmps23
      go_wp2_with (go_at_call 47; refine HC.out.mono ?_; rintro e w1 ⟨rfl, hb1⟩)
      go_ret
      exact ⟨by simp, (by repeat (first | (with_reducible exact Below.refl _ _) | (with_reducible assumption) | (with_reducible exact bel_box _) | (with_reducible refine bel_step ?_ (by with_reducible assumption)) | (with_reducible refine Below.drew ?_) | (with_reducible refine below_drewN ?_ _) | (with_reducible refine bel_alloc ?_ _)))⟩
theorem valB_nat {n : Int} {es : List (Int × Int)} (h : valB n es = true) : ∃ (m : Nat) (ns : List (Nat × Nat)), n = (m : Int) ∧ m ≤ 4096 ∧ es = eN ns ∧ ∀ e ∈ ns, e.1 < m ∧ e.2 < m := by
  unfold valB badI at h
  simp only [Bool.and_eq_true, decide_eq_true_eq, Bool.not_eq_true', List.any_eq_false] at h
  obtain ⟨⟨h0, h1⟩, h2⟩ := h
  obtain ⟨m, rfl⟩ := Int.eq_ofNat_of_zero_le h0
  have h3 : ∀ e ∈ es, 0 ≤ e.1 ∧ e.1 < (m : Int) ∧ 0 ≤ e.2 ∧ e.2 < (m : Int) := fun e he => by
    have := h2 e he
    unfold bad at this
    simp only [Bool.or_eq_true, decide_eq_true_eq] at this
    omega
  refine ⟨m, es.map fun e => (e.1.toNat, e.2.toNat), rfl, by omega, ?_, ?_⟩
  · unfold eN
    rw [List.map_map]
    conv => lhs; rw [← List.map_id es]
    apply List.map_congr_left
    intro e he
    obtain ⟨a, b, c, d⟩ := h3 e he
    simp only [id, Function.comp]
    apply Prod.ext
    · simp only; omega
    · simp only; omega
  · intro e he
    obtain ⟨x, hx, rfl⟩ := List.mem_map.1 he
    obtain ⟨a, b, c, d⟩ := h3 x hx
    simp only
    omega
end gr
end Go.Proofs.YtahffafobdiogaaDoor
