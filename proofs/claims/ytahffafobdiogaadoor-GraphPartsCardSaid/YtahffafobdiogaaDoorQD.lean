/- Texts of one chain, in one file. -/
import Derived.Laws.AppendOwnNone
import Derived.Deep.RegionHeld3
import Derived.ProofKit
import Derived.OpenShut
import Derived.Deep.Slices
import Derived.Deep.SlicePairs
import Derived.Stop.LaidErr
import Derived.Lib.LaidTab
import Derived.LaidMore
import Derived.ChangeSlices
import Derived.ChangeSame
import Derived.Stop.Joined
import Derived.Test.YtahffafobdiogaaDoorQC
/- The cycle, computed; the values of the examples: plain. -/
namespace Go.Proofs.YtahffafobdiogaaDoor
set_option linter.unusedVariables false
set_option linter.unusedSimpArgs false
namespace gr
def pdB (E : Nat → Nat → Bool) (n low t : Nat) : Nat → Nat → Bool
  | 0, w => decide (w = t)
  | d + 1, w => decide (w < n) && decide (low ≤ w) && (List.range n).any fun v => E w v && pdB E n low t d v
theorem Pd.ltn {E : Nat → Nat → Bool} {n low t d w : Nat} (ht : t < n) (h : Pd E n low t d w) : w < n := by
  cases h with
  | zero => exact ht
  | succ hu _ _ _ => exact hu
theorem pdB_iff {E : Nat → Nat → Bool} {n low t : Nat} (ht : t < n) : ∀ (d w : Nat), pdB E n low t d w = true ↔ Pd E n low t d w
  | 0, w => by
    rw [pdB, decide_eq_true_eq, Pd.zero_iff]
  | d + 1, w => by
    rw [pdB, Bool.and_eq_true, Bool.and_eq_true, decide_eq_true_eq, decide_eq_true_eq, List.any_eq_true]
    constructor
    · rintro ⟨⟨h1, h2⟩, v, _, h3⟩
      rw [Bool.and_eq_true, pdB_iff ht d v] at h3
      exact .succ h1 h2 h3.1 h3.2
    · intro h
      cases h with
      | succ hu hl h k => exact ⟨⟨hu, hl⟩, _, List.mem_range.2 (k.ltn ht), by rw [Bool.and_eq_true, pdB_iff ht d]; exact ⟨h, k⟩⟩
def dstB (E : Nat → Nat → Bool) (n v w : Nat) : Option Nat := (List.range n).find? fun d => pdB E n v v d w
theorem dstB_eq {E : Nat → Nat → Bool} {n v : Nat} (hv : v < n) : dstB E n v = dstS E n v := dst_eq fun w d => by
  unfold dstB
  rw [List.find?_range_eq_some, pdB_iff hv]
  constructor
  · rintro ⟨h1, h2, h3⟩
    refine ⟨h1, fun e he => ?_⟩
    rcases Nat.lt_or_ge e d with h | h
    · have := h3 e h
      rw [(pdB_iff hv e w).2 he] at this
      cases this
    · exact h
  · intro h
    refine ⟨h.1, List.mem_range.2 (h.lt hv), fun e he => ?_⟩
    cases hp : pdB E n v v e w with
    | false => rfl
    | true =>
      have := h.2 e ((pdB_iff hv e w).1 hp)
      omega
def mndB (E : Nat → Nat → Bool) (n : Nat) (D : Nat → Option Nat) (v : Nat) : Option Nat := (List.range n).find? fun d => (List.range n).any fun w => E v w && decide (D w = some d)
theorem mndB_eq {E : Nat → Nat → Bool} {n : Nat} {D : Nat → Option Nat} (hD : ∀ w d, D w = some d → d < n) (v : Nat) : mndO E n D v = mndB E n D v := by
  have hany : ∀ d, ((List.range n).any fun w => E v w && decide (D w = some d)) = true ↔ ∃ w, w < n ∧ E v w = true ∧ D w = some d := fun d => by
    rw [List.any_eq_true]
    constructor
    · rintro ⟨w, h1, h2⟩
      rw [Bool.and_eq_true, decide_eq_true_eq] at h2
      exact ⟨w, List.mem_range.1 h1, h2⟩
    · rintro ⟨w, h1, h2⟩
      exact ⟨w, List.mem_range.2 h1, by rw [Bool.and_eq_true, decide_eq_true_eq]; exact h2⟩
  cases hm : mndB E n D v with
  | some d =>
    unfold mndB at hm
    rw [List.find?_range_eq_some, hany] at hm
    refine mndO_some.2 ⟨hm.1, fun w e h1 h2 h3 => ?_⟩
    rcases Nat.lt_or_ge e d with h | h
    · have := hm.2.2 e h
      rw [(hany e).2 ⟨w, h1, h2, h3⟩] at this
      cases this
    · exact h
  | none =>
    unfold mndB at hm
    refine mndO_none.2 fun w h1 h2 => ?_
    cases hd : D w with
    | none => rfl
    | some d =>
      have := List.find?_eq_none.1 hm d (List.mem_range.2 (hD w d hd))
      exact absurd ((hany d).2 ⟨w, h1, h2, hd⟩) this
def cstB (E : Nat → Nat → Bool) (n : Nat) (best : List Nat) (v : Nat) : List Nat :=
  let l := match mndB E n (dstB E n v) v with | none => [] | some d => v :: folr (nea E n (dstB E n v)) d v
  if l ≠ [] ∧ (best = [] ∨ l.length < best.length) then l else best
theorem cstB_eq {E : Nat → Nat → Bool} {n v : Nat} (hv : v < n) (best : List Nat) : cstep E n best v = cstB E n best v := by
  unfold cstep cstB thrS
  rw [mndB_eq (fun w d h => (dstS_iff.1 h).lt hv) v, ← dstB_eq hv]
  rfl
theorem cycB_eq {E : Nat → Nat → Bool} {n : Nat} : ∀ k, k ≤ n → cycK E n k = (List.range k).foldl (cstB E n) []
  | 0, _ => rfl
  | k + 1, h => by rw [cycK_succ, cycB_eq k (by omega), cstB_eq (by omega), List.range_succ, List.foldl_append]; rfl
/-- the examples -/
theorem ex_ord : ordL 4 [(2, 0), (0, 3)] = [1, 2, 0, 3] ∧ ordX 4 [(2, 0), (0, 3)] = 0 := by decide +kernel
theorem ex_cyc : cycK (eK [(0, 1), (1, 2), (2, 0), (4, 3), (3, 4)]) 5 5 = [3, 4] := by
  rw [cycB_eq 5 (Nat.le_refl _)]
  decide +kernel
theorem ex_cycx : cycX (eK [(0, 1), (1, 2), (2, 0), (4, 3), (3, 4)]) 5 = 0 := by
  unfold cycX
  rw [ex_cyc]
  rfl
theorem ex_none : cycK (eK []) 3 3 = [] ∧ cycX (eK []) 3 = 8 := by
  have h : cycK (eK []) 3 3 = [] := by
    rw [cycB_eq 3 (Nat.le_refl _)]
    decide +kernel
  exact ⟨h, by unfold cycX; rw [h]; rfl⟩
theorem Rch.stay {s : Nat → List Nat} (S : List Nat) (hc : ∀ x ∈ S, ∀ y ∈ s x, y ∈ S) {u v : Nat} (h : Rch s u v) : u ∈ S → v ∈ S := by
  induction h with
  | refl _ => exact id
  | step h1 _ ih => exact fun hu => ih (hc _ hu _ h1)
theorem ex_rch : rowB 3 (rchB (nbs (eK [(1, 2)]) 3) 1) = [.bool false, .bool true, .bool true] := by
  have h0 : rchB (nbs (eK [(1, 2)]) 3) 1 0 = false := by
    cases h : rchB (nbs (eK [(1, 2)]) 3) 1 0 with
    | false => rfl
    | true =>
      have := (rchB_iff.1 h).stay [1, 2] (by decide +kernel) (by decide)
      exact absurd this (by decide)
  have h1 : rchB (nbs (eK [(1, 2)]) 3) 1 1 = true := rchB_iff.2 (.refl _)
  have h2 : rchB (nbs (eK [(1, 2)]) 3) 1 2 = true := rchB_iff.2 (Rch.one (by decide +kernel))
  unfold rowB
  simp only [List.range_succ, List.range_zero, List.nil_append, List.cons_append, List.map_cons, List.map_nil, h0, h1, h2]
theorem mut_no {s : Nat → List Nat} (S : List Nat) (hc : ∀ x ∈ S, ∀ y ∈ s x, y ∈ S) {u v : Nat} (hu : u ∈ S) (hv : v ∉ S) : ¬ Mut s u v := fun h => hv (h.1.stay S hc hu)
theorem ex_parts : prts (nbs (eK [(0, 2), (2, 0), (2, 1)]) 4) 4 = [[0, 2], [1], [3]] := by
  obtain ⟨s, hs⟩ : ∃ s, nbs (eK [(0, 2), (2, 0), (2, 1)]) 4 = s := ⟨_, rfl⟩
  rw [hs]
  have e02 : Mut s 0 2 := ⟨Rch.one (by rw [← hs]; decide +kernel), Rch.one (by rw [← hs]; decide +kernel)⟩
  have n1 : ∀ v, v ≠ 1 → ¬ Mut s 1 v := fun v hv => mut_no [1] (by rw [← hs]; decide +kernel) (by decide) (by simpa using hv)
  have n3 : ∀ v, v ≠ 3 → ¬ Mut s 3 v := fun v hv => mut_no [3] (by rw [← hs]; decide +kernel) (by decide) (by simpa using hv)
  have c : ∀ v l, l.Pairwise (fun a b : Nat => a < b) → (∀ x, x ∈ l ↔ x < 4 ∧ Mut s v x) → cmp s 4 v = l := fun v l h1 h2 => asc_ext id _ _ (cmp_asc s 4 v) h1 fun x => by rw [cmp_mem, h2]
  have c0 : cmp s 4 0 = [0, 2] := c 0 _ (by decide) fun x => by
    constructor
    · intro h
      simp only [List.mem_cons, List.not_mem_nil, or_false] at h
      rcases h with rfl | rfl
      · exact ⟨by omega, Mut.refl _ _⟩
      · exact ⟨by omega, e02⟩
    · rintro ⟨h1, h2⟩
      have h3 : x ≠ 1 := fun e => n1 0 (by omega) (by rw [e] at h2; exact h2.symm)
      have h4 : x ≠ 3 := fun e => n3 0 (by omega) (by rw [e] at h2; exact h2.symm)
      simp only [List.mem_cons, List.not_mem_nil, or_false]
      omega
  have c2 : cmp s 4 2 = [0, 2] := (cmp_eq e02.symm).trans c0
  have c1 : cmp s 4 1 = [1] := c 1 _ (by decide) fun x => by
    rw [List.mem_singleton]
    constructor
    · rintro rfl
      exact ⟨by omega, Mut.refl _ _⟩
    · rintro ⟨_, h2⟩
      exact Classical.byContradiction fun e => n1 x e h2
  have c3 : cmp s 4 3 = [3] := c 3 _ (by decide) fun x => by
    rw [List.mem_singleton]
    constructor
    · rintro rfl
      exact ⟨by omega, Mut.refl _ _⟩
    · rintro ⟨_, h2⟩
      exact Classical.byContradiction fun e => n3 x e h2
  refine (prts_uniq (by decide) fun l => ?_).symm
  simp only [List.mem_cons, List.not_mem_nil, or_false]
  constructor
  · rintro (rfl | rfl | rfl)
    · exact ⟨0, by omega, c0.symm⟩
    · exact ⟨1, by omega, c1.symm⟩
    · exact ⟨3, by omega, c3.symm⟩
  · rintro ⟨v, hv, rfl⟩
    rcases (show v = 0 ∨ v = 1 ∨ v = 2 ∨ v = 3 by omega) with rfl | rfl | rfl | rfl
    · exact .inl c0
    · exact .inr (.inl c1)
    · exact .inl c2
    · exact .inr (.inr c3)
end gr
end Go.Proofs.YtahffafobdiogaaDoor
/- Same and lists. -/
namespace Go.Proofs.YtahffafobdiogaaDoor
set_option linter.unusedVariables false
set_option linter.unusedSimpArgs false
open Go.RowKit
namespace gr
theorem rd_at {W : World} {B : Nat} {A : Option Addr} {l : List Nat} (h : Rd W B A (vV l)) {k : Nat} (hk : k < l.length) : ∃ ad, A = some ad ∧ ad.block < B ∧ W.cell? (ad.add k) = some (.int .i64 ((l.getD k 0 : Nat) : Int)) := by
  obtain ⟨ad, h1, h2, h3⟩ := h (fun e => by have := congrArg List.length e; simp [vV] at this; subst this; simp at hk)
  refine ⟨ad, h1, h2, h3 k _ ?_⟩
  unfold vV
  rw [List.getElem?_map, List.getElem?_eq_getElem hk, List.getD, List.getElem?_eq_getElem hk]
  rfl
theorem take_more {l m : List Nat} {k : Nat} (h1 : k < l.length) (h2 : k < m.length) (h : l.take k = m.take k) : l.take (k + 1) = m.take (k + 1) ↔ l.getD k 0 = m.getD k 0 := by
  have e1 := List.take_succ_eq_append_getElem h1
  have e2 := List.take_succ_eq_append_getElem h2
  rw [e1, e2, h, List.getD, List.getD, List.getElem?_eq_getElem h1, List.getElem?_eq_getElem h2, List.append_cancel_left_eq]
  simp
theorem take_ne {l m : List Nat} {k : Nat} (h : l.take k ≠ m.take k) : (decide (l = m)) = false := by
  rw [decide_eq_false_iff_not]
  exact fun e => h (by rw [e])
set_option maxRecDepth 100000 in
set_option maxHeartbeats 1000000 in
theorem same_any (A B : Option Addr) (c d : Nat) (l m : List Nat) (w : World) (hA : Rd w w.heap.size A (vV l)) (hB : Rd w w.heap.size B (vV m)) (hl : l.length ≤ 1048576) (hm : m.length ≤ 1048576) :
    Calls Tryd.prog 12 #[.slice A l.length c, .slice B m.length d] w fun e w' => e = .returned (.bool (decide (l = m))) ∧ ∃ q, w' = w.drewN q := by
  have HA := Lib.hid hA
  have HB := Lib.hid hB
  clear hA hB
  by_cases hlm : l.length = m.length
  · have Hlm := Lib.hid hlm
    obtain ⟨n, hn⟩ : ∃ n, m.length = n := ⟨_, rfl⟩
    rw [hlm, hn]
    rw [hn] at hm hlm
    have HN := Lib.hid hn
    have HL := Lib.hid hlm
    clear hn hl hlm
    go_enter Tryd.func12, Tryd.ntmps12
    go_wp2
    go_loopw [5] (fun i wr => ∃ k j : Nat, k ≤ n ∧ i = .int .i64 k ∧ wr = w.drewN j ∧ Hid (l.take k = m.take k)) (fun i _ => n - (intOf i).toNat)
    case atStart => exact ⟨0, 0, by omega, rfl, rfl, rfl⟩
    case round =>
      obtain ⟨k, j, hk, rfl, rfl, HT⟩ := hrel
      by_cases hlt : k < n
      · obtain ⟨ad, rfl, _, hc⟩ := rd_at HA.out (show k < l.length by rw [HL.out]; exact hlt)
        obtain ⟨ad', rfl, _, hc'⟩ := rd_at HB.out (show k < m.length by rw [HN.out]; exact hlt)
        have HX := Lib.hid (take_more (show k < l.length by rw [HL.out]; exact hlt) (show k < m.length by rw [HN.out]; exact hlt) HT.out)
        generalize l.getD k 0 = x at *
        generalize m.getD k 0 = y at *
        have e3 : (k : Int) < (n : Int) := by omega
        go_wp2
        go_quiet (fail)
        go_wp2
        · go_ret
          refine ⟨congrArg (fun b => Ending.returned (.bool b)) (Eq.symm (take_ne (k := k + 1) fun e => ?_)), _, World.drewN_drewN _ _ _⟩
          have hxy := HX.out.1 e
          subst hxy
          simp at *
        · go_roundw
          case rel => exact ⟨k + 1, _, by omega, by go_num, rfl, HX.out.2 (by simp at *; omega)⟩
          case measure => simp [intOf]; omega
      · go_wp2
        go_ret
        have hkn : k = n := by omega
        refine ⟨congrArg (fun b => Ending.returned (.bool b)) (Eq.symm (decide_eq_true ?_)), _, rfl⟩
        have h1 := HT.out
        rw [hkn, List.take_of_length_le (by rw [HL.out]; omega), List.take_of_length_le (by rw [HN.out]; omega)] at h1
        exact h1
  · have hne : ¬ l = m := fun e => hlm (by rw [e])
    rw [decide_eq_false hne]
    have h1 : ¬ ((l.length : Int) = (m.length : Int)) := by omega
    clear HA HB hne
    generalize l.length = x at *
    generalize m.length = y at *
    have h2 : ((x : Int) == (y : Int)) = false := by simpa using h1
    go_enter Tryd.func12, Tryd.ntmps12
    go_wp2
    go_ret
    exact ⟨rfl, 0, rfl⟩
end gr
end Go.Proofs.YtahffafobdiogaaDoor
/- lists of lists. -/
namespace Go.Proofs.YtahffafobdiogaaDoor
set_option linter.unusedVariables false
set_option linter.unusedSimpArgs false
open Go.RowKit
namespace gr
abbrev PR := Nat × List Nat × Nat
/-- a row of rows can be read -/
def Rp (W : World) (A : Option Addr) (fs : List PR) : Prop := Rd W W.heap.size A (fs.map encP) ∧ ∀ e ∈ fs, Rd W W.heap.size (some ⟨e.1, 0, none⟩) (vV e.2.1)
theorem Rp.to {W W' : World} {A : Option Addr} {fs : List PR} (h : Rp W A fs) (hb : Below W.heap.size W W') : Rp W' A fs := ⟨h.1.to hb, fun e he => (h.2 e he).to hb⟩
theorem rp_at {W : World} {A : Option Addr} {fs : List PR} (h : Rp W A fs) {k : Nat} (hk : k < fs.length) : ∃ ad e, A = some ad ∧ fs[k]? = some e ∧ W.cell? (ad.add k) = some (encP e) ∧ Rd W W.heap.size (some ⟨e.1, 0, none⟩) (vV e.2.1) := by
  obtain ⟨ad, h1, h2, h3⟩ := h.1 (fun e => by have := congrArg List.length e; simp at this; subst this; simp at hk)
  refine ⟨ad, fs[k], h1, List.getElem?_eq_getElem hk, h3 k _ (by rw [List.getElem?_map, List.getElem?_eq_getElem hk]; rfl), h.2 _ (List.getElem_mem hk)⟩
theorem take_more' {l m : List (List Nat)} {k : Nat} {x y : List Nat} (h1 : l[k]? = some x) (h2 : m[k]? = some y) (h : l.take k = m.take k) : l.take (k + 1) = m.take (k + 1) ↔ x = y := by
  have e1 : l.take (k + 1) = l.take k ++ [x] := by rw [List.take_add_one, h1]; rfl
  have e2 : m.take (k + 1) = m.take k ++ [y] := by rw [List.take_add_one, h2]; rfl
  rw [e1, e2, h, List.append_cancel_left_eq]
  simp
set_option maxRecDepth 100000 in
set_option maxHeartbeats 1000000 in
theorem lists_any (A B : Option Addr) (c d : Nat) (fs gs : List PR) (w : World) (hA : Rp w A fs) (hB : Rp w B gs) (hl : fs.length ≤ 1048576) (hm : gs.length ≤ 1048576) (hb : ∀ e, e ∈ fs ∨ e ∈ gs → e.2.1.length ≤ 1048576) :
    Calls Tryd.prog 20 #[.slice A fs.length c, .slice B gs.length d] w fun e w' => e = .returned (.bool (decide ((fs.map fun e => e.2.1) = gs.map fun e => e.2.1))) ∧ ∃ q, w' = w.drewN q := by
  obtain ⟨l, hl1⟩ : ∃ l, (fs.map fun e => e.2.1) = l := ⟨_, rfl⟩
  obtain ⟨m, hm1⟩ : ∃ m, (gs.map fun e => e.2.1) = m := ⟨_, rfl⟩
  have hll : l.length = fs.length := by rw [← hl1, List.length_map]
  have hml : m.length = gs.length := by rw [← hm1, List.length_map]
  have HF := Lib.hid (show ∀ k, k < fs.length → ∃ ad x g p, A = some ad ∧ l[k]? = some x ∧ w.cell? (ad.add k) = some (.slice (some ⟨g, 0, none⟩) x.length p) ∧ Rd w w.heap.size (some ⟨g, 0, none⟩) (vV x) ∧ x.length ≤ 1048576 from fun k hk => by
    obtain ⟨ad, e, h1, h2, h3, h4⟩ := rp_at hA hk
    exact ⟨ad, e.2.1, e.1, e.2.2, h1, by rw [← hl1, List.getElem?_map, h2]; rfl, h3, h4, hb e (.inl (List.mem_of_getElem? h2))⟩)
  have HG := Lib.hid (show ∀ k, k < gs.length → ∃ ad x g p, B = some ad ∧ m[k]? = some x ∧ w.cell? (ad.add k) = some (.slice (some ⟨g, 0, none⟩) x.length p) ∧ Rd w w.heap.size (some ⟨g, 0, none⟩) (vV x) ∧ x.length ≤ 1048576 from fun k hk => by
    obtain ⟨ad, e, h1, h2, h3, h4⟩ := rp_at hB hk
    exact ⟨ad, e.2.1, e.1, e.2.2, h1, by rw [← hm1, List.getElem?_map, h2]; rfl, h3, h4, hb e (.inr (List.mem_of_getElem? h2))⟩)
  rw [hl1, hm1]
  have hnn : fs.length ≤ 1048576 := hl
  generalize fs.length = n at *
  generalize gs.length = n' at *
  clear hA hB hb hl1 hm1
  by_cases hlm : n = n'
  · subst hlm
    have HL := Lib.hid hll
    have HN := Lib.hid hml
    clear hll hml hl hm
    go_enter Tryd.func20, Tryd.ntmps20
    go_wp2
    go_loopw [5] (fun i wr => ∃ k j : Nat, k ≤ n ∧ i = .int .i64 k ∧ wr = w.drewN j ∧ Hid (l.take k = m.take k)) (fun i _ => n - (intOf i).toNat)
    case atStart => exact ⟨0, 0, by omega, rfl, rfl, rfl⟩
    case round =>
      obtain ⟨k, j, hk, rfl, rfl, HT⟩ := hrel
      by_cases hlt : k < n
      · obtain ⟨ad, x, g, p, rfl, hx, hcx, r1, r2⟩ := HF.out k hlt
        obtain ⟨ad', y, g', p', rfl, hy, hcy, s1, s2⟩ := HG.out k hlt
        have HX := Lib.hid (take_more' hx hy HT.out)
        have KS := Lib.hid (fun q => (same_any (some ⟨g, 0, none⟩) (some ⟨g', 0, none⟩) p p' x y (w.drewN (j + q)) (r1.drewN _) (s1.drewN _) r2 s2).mono (R' := fun e w' => e = .returned (.bool (decide (x = y))) ∧ ∃ q, w' = w.drewN (j + q)) fun e w' ⟨h1, q', h2⟩ => ⟨h1, q + q', by rw [h2, World.drewN_drewN, Nat.add_assoc]⟩)
        have e3 : (k : Int) < (n : Int) := by omega
        clear r1 s1 hx hy
        generalize hxy : decide (x = y) = xy at *
        have HXY := Lib.hid hxy
        clear hxy
        generalize x.length = xl at *
        generalize y.length = yl at *
        go_wp2
        go_quiet ((go_at_call 12; exact KS.out _))
        go_wp2
        · go_ret
          refine ⟨congrArg (fun b => Ending.returned (.bool b)) (Eq.symm ?_), _, World.drewN_drewN _ _ _⟩
          rw [decide_eq_false_iff_not]
          intro e
          have h1 := HXY.out
          rw [decide_eq_true (HX.out.1 (by rw [e]))] at h1
          subst h1
          simp at *
        · go_roundw
          case rel => exact ⟨k + 1, _, by omega, by go_num, rfl, HX.out.2 (of_decide_eq_true (by rw [HXY.out]; simp at *; assumption))⟩
          case measure => simp [intOf]; omega
      · go_wp2
        go_ret
        have hkn : k = n := by omega
        refine ⟨congrArg (fun b => Ending.returned (.bool b)) (Eq.symm (decide_eq_true ?_)), _, rfl⟩
        have h1 := HT.out
        rw [hkn, List.take_of_length_le (by rw [HL.out]; omega), List.take_of_length_le (by rw [HN.out]; omega)] at h1
        exact h1
  · have hne : ¬ l = m := fun e => hlm (by rw [← hll, ← hml, e])
    rw [decide_eq_false hne]
    have h1 : ¬ ((n : Int) = (n' : Int)) := by omega
    clear HF HG hne
    have h2 : ((n : Int) == (n' : Int)) = false := by simpa using h1
    go_enter Tryd.func20, Tryd.ntmps20
    go_wp2
    go_ret
    exact ⟨rfl, 0, rfl⟩
end gr
end Go.Proofs.YtahffafobdiogaaDoor
/- awake. -/
namespace Go.Proofs.YtahffafobdiogaaDoor
set_option linter.unusedVariables false
set_option linter.unusedSimpArgs false
open Go.RowKit
namespace gr
/-- the cells of edges -/
def cE (ns : List (Nat × Nat)) : List Value := ns.flatMap fun e => [.int .i64 (e.1 : Int), .int .i64 (e.2 : Int)]
theorem cE_get : ∀ (ns : List (Nat × Nat)) (k : Nat), (cE ns)[k * 2]? = (ns[k]?).map (fun e => Value.int .i64 (e.1 : Int)) ∧ (cE ns)[k * 2 + 1]? = (ns[k]?).map (fun e => Value.int .i64 (e.2 : Int))
  | [], k => by simp [cE]
  | e :: r, 0 => by simp [cE]
  | e :: r, k + 1 => by
    have h := cE_get r k
    have e1 : cE (e :: r) = .int .i64 (e.1 : Int) :: .int .i64 (e.2 : Int) :: cE r := rfl
    rw [e1, show (k + 1) * 2 = k * 2 + 1 + 1 by omega]
    simp only [List.getElem?_cons_succ]
    exact h
theorem rdE_blk {W : World} {b : Nat} {t : TypeId} {ns : List (Nat × Nat)} (h : Blk W b t (cE ns)) : RdE W W.heap.size (some ⟨b, 0, none⟩) (eN ns) := fun _ => by
  refine ⟨_, rfl, h.lt, fun k e he => ?_⟩
  rw [eN_get] at he
  cases hx : ns[k]? with
  | none => rw [hx] at he; cases he
  | some x =>
    rw [hx] at he
    injection he with he
    subst he
    obtain ⟨h1, h2⟩ := cE_get ns k
    rw [hx] at h1 h2
    rw [off_add]
    exact ⟨h.cell h1, h.cell h2⟩
theorem ko_ex (w W : World) (hT : Tz w) (hb : Below w.heap.size w W) : Calls Tryd.prog 10 #[.int .i64 4, .slice (some ⟨W.heap.size, 0, none⟩) 2 2] (W.alloc (.cells #[.int .i64 2, .int .i64 0, .int .i64 0, .int .i64 3] 40)) fun e w' => ∃ A c, e = .returned (.tuple #[.slice A 4 c, .int .i64 0]) ∧ Rd w' w'.heap.size A (vV [1, 2, 0, 3]) ∧ Below w.heap.size w w' ∧ Below W.heap.size W w' := by
  have hblk : Blk (W.alloc (.cells #[.int .i64 2, .int .i64 0, .int .i64 0, .int .i64 3] 40)) W.heap.size _ (cE [(2, 0), (0, 3)]) := Blk.new W (cE [(2, 0), (0, 3)]) 40
  have hb2 : Below w.heap.size w (W.alloc (.cells #[.int .i64 2, .int .i64 0, .int .i64 0, .int .i64 3] 40)) := bel_alloc hb _
  refine (order_ok 4 (some ⟨W.heap.size, 0, none⟩) 2 [(2, 0), (0, 3)] (by decide) (by decide) (by decide) _ (hT.keep hb2) (rdE_blk hblk) (by decide +kernel)).mono ?_
  rintro e w' ⟨A, c, he, h1, h2⟩
  rw [ex_ord.1, ex_ord.2] at he
  rw [ex_ord.1] at h1
  exact ⟨A, c, he, h1, hb2.trans (h2.mono hb2.size), (bel_box _).trans (h2.mono (by simp))⟩
theorem kc_ex (w W : World) (hT : Tz w) (hb : Below w.heap.size w W) : Calls Tryd.prog 14 #[.int .i64 5, .slice (some ⟨W.heap.size, 0, none⟩) 5 5] (W.alloc (.cells #[.int .i64 0, .int .i64 1, .int .i64 1, .int .i64 2, .int .i64 2, .int .i64 0, .int .i64 4, .int .i64 3, .int .i64 3, .int .i64 4] 40)) fun e w' => ∃ A c, e = .returned (.tuple #[.slice A 2 c, .int .i64 0]) ∧ Rd w' w'.heap.size A (vV [3, 4]) ∧ Below w.heap.size w w' ∧ Below W.heap.size W w' := by
  have hblk : Blk (W.alloc (.cells #[.int .i64 0, .int .i64 1, .int .i64 1, .int .i64 2, .int .i64 2, .int .i64 0, .int .i64 4, .int .i64 3, .int .i64 3, .int .i64 4] 40)) W.heap.size _ (cE [(0, 1), (1, 2), (2, 0), (4, 3), (3, 4)]) := Blk.new W (cE [(0, 1), (1, 2), (2, 0), (4, 3), (3, 4)]) 40
  have hb2 : Below w.heap.size w (W.alloc (.cells #[.int .i64 0, .int .i64 1, .int .i64 1, .int .i64 2, .int .i64 2, .int .i64 0, .int .i64 4, .int .i64 3, .int .i64 3, .int .i64 4] 40)) := bel_alloc hb _
  refine (cycle_ok 5 (some ⟨W.heap.size, 0, none⟩) 5 [(0, 1), (1, 2), (2, 0), (4, 3), (3, 4)] (by decide) (by decide) (by decide) _ (hT.keep hb2) (rdE_blk hblk) (by decide +kernel)).mono ?_
  rintro e w' ⟨A, c, he, h1, h2⟩
  rw [ex_cyc, ex_cycx] at he
  rw [ex_cyc] at h1
  exact ⟨A, c, he, h1, hb2.trans (h2.mono hb2.size), (bel_box _).trans (h2.mono (by simp))⟩
theorem kn_ex (w W : World) (hT : Tz w) (hb : Below w.heap.size w W) : Calls Tryd.prog 14 #[.int .i64 3, .slice none 0 0] W fun e w' => ∃ A c, e = .returned (.tuple #[.slice A 0 c, .int .i64 8]) ∧ Below w.heap.size w w' ∧ Below W.heap.size W w' := by
  refine (cycle_ok 3 none 0 [] (by decide) (by decide) (by decide) _ (hT.keep hb) (fun h => absurd rfl h) (by decide +kernel)).mono ?_
  rintro e w' ⟨A, c, he, h1, h2⟩
  rw [ex_none.1, ex_none.2] at he
  exact ⟨A, c, he, hb.trans (h2.mono hb.size), h2⟩
theorem kr_ex (w W : World) (hT : Tz w) (hb : Below w.heap.size w W) : Calls Tryd.prog 16 #[.int .i64 3, .slice (some ⟨W.heap.size, 0, none⟩) 1 1, .int .i64 1] (W.alloc (.cells #[.int .i64 1, .int .i64 2] 40)) fun e w' => ∃ ad c, e = .returned (.tuple #[.slice (some ad) 3 c, .int .i64 0]) ∧ (ad.block < w'.heap.size ∧ w'.cell? (ad.add 0) = some (.bool false) ∧ w'.cell? (ad.add 1) = some (.bool true) ∧ w'.cell? (ad.add 2) = some (.bool true)) ∧ Below w.heap.size w w' ∧ Below W.heap.size W w' := by
  have hblk : Blk (W.alloc (.cells #[.int .i64 1, .int .i64 2] 40)) W.heap.size _ (cE [(1, 2)]) := Blk.new W (cE [(1, 2)]) 40
  have hb2 : Below w.heap.size w (W.alloc (.cells #[.int .i64 1, .int .i64 2] 40)) := bel_alloc hb _
  refine (reach_ok 3 1 (some ⟨W.heap.size, 0, none⟩) 1 [(1, 2)] (by decide) (by decide) (by decide) (by decide) _ (hT.keep hb2) (rdE_blk hblk) (by decide +kernel)).mono ?_
  rintro e w' ⟨A, c, he, h1, h2⟩
  rw [ex_rch] at h1
  obtain ⟨ad, rfl, h3, h4⟩ := h1 (by simp)
  exact ⟨ad, c, he, ⟨h3, h4 0 _ rfl, h4 1 _ rfl, h4 2 _ rfl⟩, hb2.trans (h2.mono hb2.size), (bel_box _).trans (h2.mono (by simp))⟩
theorem kp_ex (w W : World) (hT : Tz w) (hb : Below w.heap.size w W) : Calls Tryd.prog 18 #[.int .i64 4, .slice (some ⟨W.heap.size, 0, none⟩) 3 3] (W.alloc (.cells #[.int .i64 0, .int .i64 2, .int .i64 2, .int .i64 0, .int .i64 2, .int .i64 1] 40)) fun e w' => ∃ ad c g0 g1 g2 p0 p1 p2, e = .returned (.tuple #[.slice (some ad) 3 c, .int .i64 0]) ∧ (ad.block < w'.heap.size ∧ w'.cell? (ad.add 0) = some (.slice (some ⟨g0, 0, none⟩) 2 p0) ∧ w'.cell? (ad.add 1) = some (.slice (some ⟨g1, 0, none⟩) 1 p1) ∧ w'.cell? (ad.add 2) = some (.slice (some ⟨g2, 0, none⟩) 1 p2)) ∧ (Rd w' w'.heap.size (some ⟨g0, 0, none⟩) (vV [0, 2]) ∧ Rd w' w'.heap.size (some ⟨g1, 0, none⟩) (vV [1]) ∧ Rd w' w'.heap.size (some ⟨g2, 0, none⟩) (vV [3])) ∧ Below w.heap.size w w' ∧ Below W.heap.size W w' := by
  have hblk : Blk (W.alloc (.cells #[.int .i64 0, .int .i64 2, .int .i64 2, .int .i64 0, .int .i64 2, .int .i64 1] 40)) W.heap.size _ (cE [(0, 2), (2, 0), (2, 1)]) := Blk.new W (cE [(0, 2), (2, 0), (2, 1)]) 40
  have hb2 : Below w.heap.size w (W.alloc (.cells #[.int .i64 0, .int .i64 2, .int .i64 2, .int .i64 0, .int .i64 2, .int .i64 1] 40)) := bel_alloc hb _
  refine (parts_ok 4 (some ⟨W.heap.size, 0, none⟩) 3 [(0, 2), (2, 0), (2, 1)] (by decide) (by decide) (by decide) _ (hT.keep hb2) (rdE_blk hblk) (by decide +kernel)).mono ?_
  rintro e w' ⟨A, c, fs, he, h0, h1, h3, h2⟩
  rw [ex_parts] at h0
  obtain ⟨e0, e1, e2, rfl⟩ : ∃ e0 e1 e2, fs = [e0, e1, e2] := by
    rcases fs with _ | ⟨a, _ | ⟨b, _ | ⟨d, _ | ⟨f, r⟩⟩⟩⟩
    · simp at h0
    · simp at h0
    · simp at h0
    · exact ⟨_, _, _, rfl⟩
    · simp at h0
  simp only [List.map_cons, List.map_nil, List.cons.injEq, and_true] at h0
  obtain ⟨x0, x1, x2⟩ := h0
  obtain ⟨ad, rfl, h4, h5⟩ := h1 (by simp)
  have r0 := h3 e0 (by simp)
  have r1 := h3 e1 (by simp)
  have r2 := h3 e2 (by simp)
  have y0 := h5 0 _ rfl
  have y1 := h5 1 _ rfl
  have y2 := h5 2 _ rfl
  unfold encP at y0 y1 y2
  rw [x0] at r0 y0
  rw [x1] at r1 y1
  rw [x2] at r2 y2
  exact ⟨ad, c, e0.1, e1.1, e2.1, e0.2.2, e1.2.2, e2.2.2, he, ⟨h4, y0, y1, y2⟩, ⟨r0, r1, r2⟩, hb2.trans (h2.mono hb2.size), (bel_box _).trans (h2.mono (by simp))⟩
theorem same_new (A : Option Addr) (c : Nat) (l : List Nat) (W : World) (h : Rd W W.heap.size A (vV l)) (hl : l.length ≤ 1048576) : Calls Tryd.prog 12 #[.slice A l.length c, .slice (some ⟨W.heap.size, 0, none⟩) l.length l.length] (W.alloc (.cells (vV l).toArray 3)) fun e w' => e = .returned (.bool true) ∧ Below W.heap.size W w' := by
  have hblk := Blk.new W (vV l) 3
  have hbb : Below W.heap.size W (W.alloc (.cells (vV l).toArray 3)) := bel_box _
  refine (same_any A (some ⟨W.heap.size, 0, none⟩) c l.length l l _ (h.to hbb) (rd_nums fun j x hx => hblk.cell (by unfold vV; rw [List.getElem?_map, hx]; rfl)) hl hl).mono ?_
  rintro e w' ⟨he, q, rfl⟩
  rw [decide_eq_true rfl] at he
  exact ⟨he, below_drewN hbb q⟩
end gr
end Go.Proofs.YtahffafobdiogaaDoor
/- awake. -/
namespace Go.Proofs.YtahffafobdiogaaDoor
set_option linter.unusedVariables false
set_option linter.unusedSimpArgs false
open Go.RowKit
namespace gr
theorem addr0 (a : Addr) : a.add 0 = a := rfl
theorem addr1 (a : Addr) : a.add 1 = ⟨a.block, a.off + 1, none⟩ := by simp [Addr.add]
theorem addr2 (a : Addr) : a.add 2 = ⟨a.block, a.off + 2, none⟩ := by simp [Addr.add]
theorem cell_to {W W' : World} (hb : Below W.heap.size W W') {ad : Addr} {k : Nat} {v : Value} (h0 : ad.block < W.heap.size) (h : W.cell? (ad.add k) = some v) : W'.cell? (ad.add k) = some v := (hb.cell (by rw [add_block]; exact h0)).trans h
theorem keep3 {W W' : World} {ad : Addr} {v0 v1 v2 : Value} (h : ad.block < W.heap.size ∧ W.cell? (ad.add 0) = some v0 ∧ W.cell? (ad.add 1) = some v1 ∧ W.cell? (ad.add 2) = some v2) (hb : Below W.heap.size W W') : ad.block < W'.heap.size ∧ W'.cell? (ad.add 0) = some v0 ∧ W'.cell? (ad.add 1) = some v1 ∧ W'.cell? (ad.add 2) = some v2 := ⟨Nat.lt_of_lt_of_le h.1 hb.size, cell_to hb h.1 h.2.1, cell_to hb h.1 h.2.2.1, cell_to hb h.1 h.2.2.2⟩
theorem keep5 {W W' : World} {A B C : Option Addr} {a b c : List Value} (h : Rd W W.heap.size A a ∧ Rd W W.heap.size B b ∧ Rd W W.heap.size C c) (hb : Below W.heap.size W W') : Rd W' W'.heap.size A a ∧ Rd W' W'.heap.size B b ∧ Rd W' W'.heap.size C c := ⟨h.1.to hb, h.2.1.to hb, h.2.2.to hb⟩
set_option maxRecDepth 100000 in
set_option maxHeartbeats 8000000 in
theorem awake_any (w : World) (hT : Tz w) : Calls Tryd.prog 13 #[] w fun e w' => e = .returned (.bool true) ∧ Below w.heap.size w w' := by
  have HT := Lib.hid hT
  clear hT
  go_enter Tryd.func13, Tryd.ntmps13
  go_wp2_with (first
    | (go_at_call 10; refine (ko_ex w _ HT.out (Below.refl _ _)).mono ?_; rintro e w1 ⟨A1, c1, rfl, r1, b1, d1⟩; have R1 := Lib.hid r1; clear r1 d1)
    | (go_at_call 14; refine (kn_ex w _ HT.out b4).mono ?_; rintro e w5 ⟨A5, c5, rfl, b5, d5⟩; have R1 := Lib.hid (R1.out.to d5); have R2 := Lib.hid (R2.out.to d5); have R3 := Lib.hid (keep3 R3.out d5); have R4 := Lib.hid (keep3 R4.out d5); have R5 := Lib.hid (keep5 R5.out d5); clear d5 b4)
    | (go_at_call 14; refine (kc_ex w _ HT.out b1).mono ?_; rintro e w2 ⟨A2, c2, rfl, r2, b2, d2⟩; have R1 := Lib.hid (R1.out.to d2); have R2 := Lib.hid r2; clear r2 d2 b1)
    | (go_at_call 16; refine (kr_ex w _ HT.out b2).mono ?_; rintro e w3 ⟨ad3, c3, rfl, r3, b3, d3⟩; have R1 := Lib.hid (R1.out.to d3); have R2 := Lib.hid (R2.out.to d3); have R3 := Lib.hid r3; clear r3 d3 b2)
    | (go_at_call 18; refine (kp_ex w _ HT.out b3).mono ?_; rintro e w4 ⟨ad4, c4, g0, g1, g2, p0, p1, p2, rfl, r4, r5, b4, d4⟩; have R1 := Lib.hid (R1.out.to d4); have R2 := Lib.hid (R2.out.to d4); have R3 := Lib.hid (keep3 R3.out d4); have R4 := Lib.hid r4; have R5 := Lib.hid r5; clear r4 r5 d4 b3)
    | (have bb := b5; clear bb; go_at_call 12; refine (same_new A1 _ [1, 2, 0, 3] _ R1.out (by decide)).mono ?_; rintro e w6 ⟨rfl, d6⟩; have b6 := b5.trans (d6.mono b5.size); have R2 := Lib.hid (R2.out.to d6); have R3 := Lib.hid (keep3 R3.out d6); have R4 := Lib.hid (keep3 R4.out d6); have R5 := Lib.hid (keep5 R5.out d6); clear d6 b5)
    | (have bb := b6; clear bb; go_at_call 12; refine (same_new A2 _ [3, 4] _ R2.out (by decide)).mono ?_; rintro e w7 ⟨rfl, d7⟩; have b7 := b6.trans (d7.mono b6.size); obtain ⟨_, x0, x1, x2⟩ := keep3 R3.out d7; rw [addr0] at x0; rw [addr1] at x1; rw [addr2] at x2; have R4 := Lib.hid (keep3 R4.out d7); obtain ⟨_, y0, _, _⟩ := R4.out; rw [addr0] at y0; have R5 := Lib.hid (keep5 R5.out d7); clear d7 b6)
    | (have bb := b7; clear bb; go_at_call 12; refine (same_new _ _ [0, 2] _ R5.out.1 (by decide)).mono ?_; rintro e w8 ⟨rfl, d8⟩; have b8 := b7.trans (d8.mono b7.size); have R4 := Lib.hid (keep3 R4.out d8); obtain ⟨_, _, y1, _⟩ := R4.out; rw [addr1] at y1; have R5 := Lib.hid (keep5 R5.out d8); clear d8 b7 x0 x1 x2 y0)
    | (have bb := b8; clear bb; go_at_call 12; refine (same_new _ _ [1] _ R5.out.2.1 (by decide)).mono ?_; rintro e w9 ⟨rfl, d9⟩; have b9 := b8.trans (d9.mono b8.size); have R4 := Lib.hid (keep3 R4.out d9); obtain ⟨_, _, _, y2⟩ := R4.out; rw [addr2] at y2; have R5 := Lib.hid (keep5 R5.out d9); clear d9 b8 y1)
    | (have bb := b9; clear bb; go_at_call 12; refine (same_new _ _ [3] _ R5.out.2.2 (by decide)).mono ?_; rintro e w10 ⟨rfl, d10⟩; have b10 := b9.trans (d10.mono b9.size); clear d10 b9 y2))
  go_ret
  exact ⟨rfl, b10⟩
end gr
end Go.Proofs.YtahffafobdiogaaDoor
/- The order and the repetition of edges have no effect. -/
namespace Go.Proofs.YtahffafobdiogaaDoor
set_option linter.unusedVariables false
set_option linter.unusedSimpArgs false
open Go.RowKit
namespace gr
theorem cmp_len (s : Nat → List Nat) (n v : Nat) : (cmp s n v).length ≤ n := by
  have h := nodup_len' (cmp s n v) (List.range n) ((cmp_asc s n v).imp fun h => by omega) fun x hx => List.mem_range.2 (cmp_mem.1 hx).1
  rwa [List.length_range] at h
theorem prts_len (s : Nat → List Nat) (n : Nat) : (prts s n).length ≤ n ∧ ∀ l ∈ prts s n, l.length ≤ n := by
  refine ⟨?_, fun l hl => ?_⟩
  · unfold prts
    rw [List.length_map]
    have h := nodup_len' (lst1 s n) (List.range n) ?_ fun x hx => List.mem_range.2 (lst1_mem.1 hx).1
    · rwa [List.length_range] at h
    · unfold lst1
      exact List.Pairwise.filter _ List.nodup_range
  · obtain ⟨v, _, rfl⟩ := (prts_mem).1 hl
    exact cmp_len s n v
def ResP (ls : List (List Nat)) (x : Int) (w : World) (e : Ending) (w' : World) : Prop := ∃ (A : Option Addr) (c : Nat) (fs : List PR), e = .returned (.tuple #[.slice A fs.length c, .int .i64 x]) ∧ (fs.map fun e => e.2.1) = ls ∧ Rp w' A fs ∧ Below w.heap.size w w'
end gr
end Go.Proofs.YtahffafobdiogaaDoor
/- The law GraphTurned. -/
namespace Go.Proofs.YtahffafobdiogaaDoor
set_option linter.unusedVariables false
set_option linter.unusedSimpArgs false
open Go.RowKit
namespace gr
theorem kaw {w : World} (hT : Tz w) (W : World) (hb : Below w.heap.size w W) : Calls Tryd.prog 13 #[] W fun e w' => e = .returned (.bool true) ∧ Below w.heap.size w w' := (awake_any W (hT.keep hb)).mono fun e w' ⟨h1, h2⟩ => ⟨h1, hb.trans (h2.mono hb.size)⟩
theorem lists_self (A B : Option Addr) (c d : Nat) (fs gs : List PR) (ls : List (List Nat)) (W : World) (hA : Rp W A fs) (hB : Rp W B gs) (h1 : (fs.map fun e => e.2.1) = ls) (h2 : (gs.map fun e => e.2.1) = ls) (hl : ls.length ≤ 4096) (hb : ∀ l ∈ ls, l.length ≤ 4096) : Calls Tryd.prog 20 #[.slice A fs.length c, .slice B gs.length d] W fun e w' => e = .returned (.bool true) ∧ Below W.heap.size W w' := by
  have e1 : fs.length = ls.length := by rw [← h1, List.length_map]
  have e2 : gs.length = ls.length := by rw [← h2, List.length_map]
  refine (lists_any A B c d fs gs W hA hB (by omega) (by omega) fun e he => ?_).mono ?_
  · have hm : e.2.1 ∈ ls := by
      rcases he with he | he
      · rw [← h1]; exact List.mem_map.2 ⟨e, he, rfl⟩
      · rw [← h2]; exact List.mem_map.2 ⟨e, he, rfl⟩
    have := hb _ hm
    omega
  · rintro e w' ⟨he, q, rfl⟩
    rw [h1, h2, decide_eq_true rfl] at he
    exact ⟨he, below_drewN (Below.refl _ _) q⟩
end gr
end Go.Proofs.YtahffafobdiogaaDoor
/- An order and the places of the vertices in it; few. -/
namespace Go.Proofs.YtahffafobdiogaaDoor
set_option linter.unusedVariables false
set_option linter.unusedSimpArgs false
open Go.RowKit
namespace gr
theorem rdE_take {W : World} {B : Nat} {A : Option Addr} {es : List (Int × Int)} (h : RdE W B A es) (k : Nat) : RdE W B A (es.take k) := fun hn => by
  obtain ⟨ad, h1, h2, h3⟩ := h (fun e => hn (by rw [e]; simp))
  refine ⟨ad, h1, h2, fun j e he => h3 j e ?_⟩
  rw [List.getElem?_take] at he
  split at he
  · exact he
  · cases he
set_option maxHeartbeats 1000000 in
theorem few_any (A : Option Addr) (c : Nat) (es : List (Int × Int)) (w : World) (hA : A = none → es = []) (hc : es.length ≤ c) (hl : es.length ≤ 9223372036854775807) :
    Calls Tryd.prog 9 #[.slice A es.length c] w fun e w' => e = .returned (.slice A (es.take 400).length c) ∧ w' = w := by
  rw [List.length_take]
  by_cases h : 400 < es.length
  · rw [Nat.min_eq_left (by omega)]
    have h2 : (400 : Int) < (es.length : Int) := by omega
    have h3 : 400 ≤ c := by omega
    cases A with
    | none => rw [hA rfl] at h; simp at h
    | some ad =>
      clear hA
      generalize es.length = L at *
      go_enter Tryd.func9, Tryd.ntmps9
      go_wp2
      go_ret
      exact ⟨rfl, rfl⟩
  · rw [Nat.min_eq_right (by omega)]
    have h2 : ¬ (400 : Int) < (es.length : Int) := by omega
    clear hA
    generalize es.length = L at *
    go_enter Tryd.func9, Tryd.ntmps9
    go_wp2
    go_ret
    exact ⟨rfl, rfl⟩
end gr
end Go.Proofs.YtahffafobdiogaaDoor
/- Reach and the first loop of Parts of the reference. -/
namespace Go.Proofs.YtahffafobdiogaaDoor
set_option linter.unusedVariables false
set_option linter.unusedSimpArgs false
open Go.RowKit
namespace gr
set_option maxRecDepth 100000 in
set_option maxHeartbeats 2000000 in
theorem rReach_ok (n fr : Nat) (A : Option Addr) (c : Nat) (ns : List (Nat × Nat)) (hn : n ≤ 4096) (hfr : fr < n) (hr : ∀ e ∈ ns, e.1 < n ∧ e.2 < n) (hl : ns.length ≤ 1048576) (w : World) (hE : RdE w w.heap.size A (eN ns)) (hv : valB n (eN ns) = true) :
    Calls Tryd.prog 17 #[.int .i64 n, .slice A ns.length c, .int .i64 fr] w (NewB n (rchB (nbs (eK ns) n) fr) 0 w) := by
  have KV := Lib.hid (rright_any n A c (eN ns) (by rw [eN_len]; exact hl) w hE)
  rw [hv, eN_len] at KV
  have KN := Lib.hid (fun q => rnext_any n hn A c ns hr hl (w.drewN q) hE)
  have KR := Lib.hid (fun O W (h : NxR W O n (adj ns)) => rreach_any n fr O ns hn hfr hr hl W h)
  have HC := Lib.hid (rowB_congr (n := n) (f := rchB (adj ns) fr) (g := rchB (nbs (eK ns) n) fr) (fun v _ => rchB_adj hr fr v))
  have x1 : ¬ (fr : Int) < 0 := by omega
  have x2 : ¬ (n : Int) ≤ (fr : Int) := by omega
  clear hE hr hv
  generalize ns.length = L at *
  go_enter Tryd.func17, Tryd.ntmps17
  go_wp2_with (first
    | (go_at_call 32; refine KV.out.mono ?_; clear KV; rintro e w1 ⟨rfl, q, rfl⟩)
    | (go_at_call 33; refine (KN.out q).mono ?_; clear KN; rintro e w2 ⟨rfl, hN2, hb2'⟩; have hb2 : Below w.heap.size w w2 := ⟨hb2'.os, hb2'.tape, hb2'.output, hb2'.size, hb2'.block⟩; have HN2 : Hid (NxR w2 w.heap.size n (adj ns)) := Lib.hid hN2; clear hb2' hN2)
    | (go_at_call 40; refine (KR.out _ w2 HN2.out).mono ?_; clear KR; rintro e w3 ⟨rfl, hB3, hb3⟩))
  refine bodyPost_ret (results_tmp2 rfl _ _ _) rfl ?_
  rw [HC.out] at hB3
  exact ⟨_, _, rfl, rd_blk hB3, hb2.trans (hb3.mono hb2.size)⟩
set_option maxRecDepth 100000 in
set_option maxHeartbeats 2000000 in
theorem rReach_bad (n fr : Int) (A : Option Addr) (c : Nat) (es : List (Int × Int)) (hl : es.length ≤ 1048576) (w : World) (hE : RdE w w.heap.size A es) (hv : (valB n es && decide (0 ≤ fr) && decide (fr < n)) = false) : Calls Tryd.prog 17 #[.int .i64 n, .slice A es.length c, .int .i64 fr] w fun e w' => e = .returned (.tuple #[.slice none 0 0, .int .i64 2]) ∧ Below w.heap.size w w' := by
  have KV := Lib.hid (rright_any n A c es hl w hE)
  cases hb : valB n es with
  | false =>
    rw [hb] at KV
    clear hE hv hb
    go_enter Tryd.func17, Tryd.ntmps17
    go_wp2_with (go_at_call 32; refine KV.out.mono ?_; clear KV; rintro e w1 ⟨rfl, q, rfl⟩)
    refine bodyPost_ret (results_tmp2 rfl _ _ _) rfl ?_
    exact ⟨rfl, below_drewN (Below.refl _ _) _⟩
  | true =>
    rw [hb] at KV hv
    by_cases h0 : fr < 0
    · clear hE hv hb
      go_enter Tryd.func17, Tryd.ntmps17
      go_wp2_with (go_at_call 32; refine KV.out.mono ?_; clear KV; rintro e w1 ⟨rfl, q, rfl⟩)
      refine bodyPost_ret (results_tmp2 rfl _ _ _) rfl ?_
      exact ⟨rfl, below_drewN (Below.refl _ _) _⟩
    · have h1 : n ≤ fr := by
        simp at hv
        omega
      clear hE hv hb
      go_enter Tryd.func17, Tryd.ntmps17
      go_wp2_with (go_at_call 32; refine KV.out.mono ?_; clear KV; rintro e w1 ⟨rfl, q, rfl⟩)
      refine bodyPost_ret (results_tmp2 rfl _ _ _) rfl ?_
      exact ⟨rfl, below_drewN (Below.refl _ _) _⟩
theorem blk_grown {W w3 : World} {o : Obj} {t t' : TypeId} {B n g : Nat} {V : Value} {xs ys : List Value} (hne : t' ≠ t) (h : Blk W g t' xs) (ho : W.ownsRow B t 1 V n ys) (hg : (W.alloc o).grownBy w3 V.ownBlock) : Blk w3 g t' xs :=
  (h.alloc o).to (hg.block g (by rw [World.size_alloc]; have := h.lt; omega) (fun e => by
    rcases ho.2 with ⟨rfl, _⟩ | ⟨g', cap, cur, rfl, _, h3, _⟩
    · cases e
    · injection e with e
      have e : g = g' := e
      subst e
      unfold Blk at h
      rw [h3] at h
      injection h with h
      injection h with _ h _
      exact hne h.symm))
theorem own_grown {W w3 : World} {o : Obj} {t t' : TypeId} {B B' n n' : Nat} {V V' : Value} {xs ys : List Value} (hne : t' ≠ t) (h : W.ownsRow B' t' 1 V' n' xs) (ho : W.ownsRow B t 1 V n ys) (hg : (W.alloc o).grownBy w3 V.ownBlock) : w3.ownsRow B' t' 1 V' n' xs := by
  refine ⟨h.1, h.2.imp id fun ⟨g, cap, cur, e1, h1, h2, r⟩ => ⟨g, cap, cur, e1, h1, ?_, r⟩⟩
  have hb : Blk W g t' cur.toList := by unfold Blk; rw [h2]
  have := blk_grown hne hb ho hg
  unfold Blk at this
  rw [this]
theorem infoRB : ∃ i, Tryd.prog.info? 31 = some i ∧ i.zero = some (.slice none 0 0) ∧ i.size = 1 ∧ i.bytes = 24 := info_parts (by kernel_rfl)
theorem prts_congr {s s' : Nat → List Nat} {n : Nat} (h : ∀ u v, Mut s u v ↔ Mut s' u v) : prts s n = prts s' n := by
  have e : Mut s = Mut s' := by
    funext u v
    exact propext (h u v)
  unfold prts lst1 cmp
  rw [e]
theorem mut_adj {n : Nat} {ns : List (Nat × Nat)} (hr : ∀ e ∈ ns, e.1 < n ∧ e.2 < n) (u v : Nat) : Mut (adj ns) u v ↔ Mut (nbs (eK ns) n) u v := by
  rw [← mut_and, ← mut_and, rchB_adj hr, rchB_adj hr]
end gr
end Go.Proofs.YtahffafobdiogaaDoor
/- Parts of the reference. -/
namespace Go.Proofs.YtahffafobdiogaaDoor
set_option linter.unusedVariables false
set_option linter.unusedSimpArgs false
open Go.RowKit
namespace gr
theorem rowV_snoc (k : Nat) (f : Nat → Value) (x : Value) : rowV k f ++ [x] = rowV (k + 1) fun u => if u = k then x else f u := by
  unfold rowV
  rw [List.range_succ, List.map_append]
  congr 1
  · exact List.map_congr_left fun u hu => by rw [if_neg (by have := List.mem_range.1 hu; omega)]
  · simp
theorem one_sl9 (x : Value) (h : x.oneCell' = true) : ∀ u ∈ [x], u.oneCell' = true := fun u hu => by rw [List.mem_singleton.1 hu]; exact h
theorem own_base {W : World} {B B' n : Nat} {t : TypeId} {V : Value} {xs : List Value} (h : W.ownsRow B t 1 V n xs) (hB : B' ≤ B) : W.ownsRow B' t 1 V n xs := ⟨h.1, h.2.imp id fun ⟨g, cap, cur, e1, h1, r⟩ => ⟨g, cap, cur, e1, Nat.le_trans hB h1, r⟩⟩
theorem kp_low {S : Nat → Prop} {A B C : World} (h : Kp S A B) (g : Below A.heap.size B C) : Kp S A C :=
  ⟨Nat.le_trans h.1 g.size, fun k hk hs => (g.block k hk).trans (h.2 k hk hs), h.os.trans (.below g)⟩
set_option maxRecDepth 100000 in
set_option maxHeartbeats 8000000 in
theorem rparts_ok (n : Nat) (A : Option Addr) (c : Nat) (ns : List (Nat × Nat)) (hn : n ≤ 4096) (hr : ∀ e ∈ ns, e.1 < n ∧ e.2 < n) (hl : ns.length ≤ 1048576) (w : World) (hE : RdE w w.heap.size A (eN ns)) (hv : valB n (eN ns) = true) :
    Calls Tryd.prog 19 #[.int .i64 n, .slice A ns.length c] w (NewP (prts (nbs (eK ns) n) n) w) := by
  have KV := Lib.hid (rright_any n A c (eN ns) (by rw [eN_len]; exact hl) w hE)
  rw [hv, eN_len] at KV
  have KN := Lib.hid (fun q => rnext_any n hn A c ns hr hl (w.drewN q) hE)
  have KR := Lib.hid (fun u O W (hu : u < n) (h : NxR W O n (adj ns)) => rreach_any n u O ns hn hu hr hl W h)
  have hmk := fun W => make_bools n hn W
  rw [← prts_congr (mut_adj hr)]
  obtain ⟨R, hR⟩ : ∃ R, NewP (prts (adj ns) n) w = R := ⟨_, rfl⟩
  rw [hR]
  have HRR := Lib.hid hR
  obtain ⟨i1, hi1, iz1, is1, ib1⟩ := infoRB
  obtain ⟨i2, hi2, iz2, is2, ib2⟩ := infoR
  obtain ⟨i0, hi, iz, is, ib⟩ := infoI
  clear hE hr hv hR
  generalize ns.length = L at *
  obtain ⟨s, hs⟩ : ∃ s, adj ns = s := ⟨_, rfl⟩
  rw [hs] at KN KR HRR
  clear hs
  go_enter Tryd.func19, Tryd.ntmps19
  go_wp2_with (first
    | (go_at_call 32; refine KV.out.mono ?_; clear KV; rintro e w1 ⟨rfl, q, rfl⟩)
    | (go_at_call 33; refine (KN.out q).mono ?_; clear KN; rintro e w2 ⟨rfl, hN2, hb2'⟩; have hb2 : Below w.heap.size w w2 := ⟨hb2'.os, hb2'.tape, hb2'.output, hb2'.size, hb2'.block⟩; have HN2 : Hid (NxR w2 w.heap.size n s) := Lib.hid hN2; clear hb2' hN2))
  have hz2 := hb2.size
  go_loopw [7, 8] (fun V i wr => ∃ (k : Nat) (A' : Option Addr) (c' : Nat) (gs : Nat → Nat), k ≤ n ∧ i = .int .i64 (k : Int) ∧ V = .slice A' k c' ∧ Hid (wr.ownsRow w2.heap.size 31 1 (.slice A' k c') k (rowV k fun u => sl (gs u) n)) ∧ Hid (∀ u, u < k → Blk wr (gs u) 4 (rowB n (rchB s u))) ∧ Hid (Below w2.heap.size w2 wr)) (fun _ i _ => n - (intOf i).toNat)
  case atStart => exact ⟨0, none, 0, fun _ => 0, by omega, rfl, rfl, Lib.hid (World.ownsRow_nil _ _ _ _), Lib.hid (fun u hu => by omega), Lib.hid (Below.refl _ _)⟩
  case round =>
    obtain ⟨k, A1, c1, gs, hk, rfl, rfl, hO, hG, hbl⟩ := hrel
    by_cases hlt : k < n
    · have KRk := Lib.hid (KR.out k w.heap.size wr hlt (HN2.out.keep hbl.out))
      have hsz := hbl.out.size
      have e1 : (k : Int) < (n : Int) := by omega
      have H31 : 4 ≠ 31 := by decide
      go_wp2_with (first
        | (go_at_call 40; refine KRk.out.mono ?_; clear KRk; rintro e w4 ⟨rfl, hB4, hb4⟩; have HO4 := Lib.hid (own_keep hO.out hb4); have HG4 : Hid (∀ u, u < k + 1 → Blk w4 (if u = k then wr.heap.size else gs u) 4 (rowB n (rchB s u))) := Lib.hid (fun u hu => (by by_cases e : u = k; (rw [if_pos e, e]; exact hB4); (rw [if_neg e]; exact (hG.out u (by omega)).keep hb4))); have HW4 := Lib.hid (hbl.out.trans (hb4.mono hsz)); clear hB4 hb4)
        | (at_builtin; refine wpList_append_own_at _ rfl _ _ 65 rfl w2.heap.size 31 i1 (.slice none 0 0) 1 24 Tryd.underlying65 hi1 iz1 is1 ib1 rfl (by decide) _ k (rowV k fun u => sl (gs u) n) rfl (own_keep HO4.out (bel_box _)) ⟨w4.heap.size, 0, none⟩ 1 1 [sl wr.heap.size n] rfl rfl (row1 _ _ _) (one_sl9 _ rfl) (by unfold maxLen; omega) (by omega) (by rw [World.size_alloc]; have := HW4.out.size; omega) ?_; intro V3 w5 hown5 hgrow5 _ _; obtain ⟨A3, c3, rfl⟩ := own_form hown5; have HG5 := Lib.hid (fun u hu => blk_grown H31 (HG4.out u hu) HO4.out hgrow5); have HW5 := Lib.hid (HW4.out.trans (own_below (Below.refl _ _) HW4.out.size HO4.out hgrow5)); have HO5 := Lib.hid hown5; clear hgrow5 hown5))
      refine ⟨⟨k + 1, A3, c3, fun u => if u = k then wr.heap.size else gs u, by omega, by congr 1, rfl, Lib.hid ?_, HG5, HW5⟩, by simp [intOf]; omega⟩
      have h9 := HO5.out
      rw [rowV_snoc] at h9
      have e9 : (fun u => sl (if u = k then wr.heap.size else gs u) n) = fun u => if u = k then sl wr.heap.size n else sl (gs u) n := by
        funext u
        split <;> rfl
      rw [e9]
      exact h9
    · have hkn : k = n := by omega
      subst hkn
      obtain ⟨wp, hwp⟩ : ∃ wp, wp = wr := ⟨_, rfl⟩
      subst hwp
      have hsz := hbl.out.size
      have hm9 := hmk wp
      have HO1 := Lib.hid hO.out
      have HG1 := Lib.hid hG.out
      have HB0 : Hid (Blk (wp.alloc (.cells (rowB k fun _ => false).toArray 4)) wp.heap.size 4 (rowB k (dnB s 0))) := Lib.hid (by
        have e9 : rowB k (dnB s 0) = rowB k fun _ => false := rowB_congr fun v _ => by
          cases h : dnB s 0 v with
          | false => rfl
          | true => obtain ⟨u, h1, _⟩ := dnB_iff.1 h; omega
        rw [e9]
        exact Blk.new wp _ _)
      have HW0 : Hid (Below wp.heap.size wp (wp.alloc (.cells (rowB k fun _ => false).toArray 4))) := Lib.hid (bel_box _)
      clear hO hG
      go_wp2
      clear hmk hm9
      generalize wp.alloc (.cells (rowB k fun _ => false).toArray 4) = w6 at *
      go_loopw [10, 11] (fun V i wr => ∃ (v : Nat) (fs : List (Nat × List Nat × Nat)) (A' : Option Addr) (c' : Nat), v ≤ k ∧ i = .int .i64 (v : Int) ∧ V = .slice A' fs.length c' ∧ fs.length ≤ v ∧ Hid (wr.ownsRow (wp.heap.size + 1) 24 1 (.slice A' fs.length c') fs.length (fs.map encP)) ∧ Hid (∀ e ∈ fs, wr.ownsRow (wp.heap.size + 1) 3 1 (encP e) e.2.1.length (vV e.2.1)) ∧ Hid ((fs.map fun e => e.2.1) = prtk s k v) ∧ Hid (Blk wr wp.heap.size 4 (rowB k (dnB s v))) ∧ Hid (Below wp.heap.size wp wr)) (fun _ i _ => k - (intOf i).toNat)
      case atStart => exact ⟨0, [], none, 0, by omega, rfl, rfl, Nat.le_refl _, Lib.hid (World.ownsRow_nil _ _ _ _), Lib.hid (fun e he => by cases he), Lib.hid rfl, HB0, HW0⟩
      case round =>
        obtain ⟨v, fs, A2, c2, hvk, rfl, rfl, hfl, hF, hP, hE, hD, hb6⟩ := hrel
        by_cases hlt2 : v < k
        · have hcd := hD.out.cell (rowB_get (dnB s v) hlt2)
          have e1 : (v : Int) < (k : Int) := by omega
          cases hdn : dnB s v v with
          | true =>
            rw [hdn] at hcd
            obtain ⟨g1, g2⟩ := prtk_skip (s := s) hlt2 hdn
            have HE2 : Hid ((fs.map fun e => e.2.1) = prtk s k (v + 1)) := Lib.hid (by rw [g1]; exact hE.out)
            have HD2 : Hid (Blk wr wp.heap.size 4 (rowB k (dnB s (v + 1)))) := Lib.hid (by rw [rowB_congr (f := dnB s (v + 1)) (g := dnB s v) (fun x _ => g2 x)]; exact hD.out)
            clear g1 g2 hdn hE hD
            have HFL := Lib.hid (show ∃ fl, fs.length = fl from ⟨_, rfl⟩)
            obtain ⟨fl, hfl2⟩ := HFL.out
            rw [hfl2] at hF hfl ⊢
            have HFL := Lib.hid hfl2
            clear hfl2
            go_wp2
            exact ⟨⟨v + 1, fs, A2, c2, by omega, by congr 1, by rw [HFL.out], by rw [HFL.out]; omega, by rw [HFL.out]; exact hF, hP, HE2, HD2, hb6⟩, by simp [intOf]; omega⟩
          | false =>
            rw [hdn] at hcd
            obtain ⟨fl, hfl2⟩ : ∃ fl, fs.length = fl := ⟨_, rfl⟩
            rw [hfl2] at hF hfl ⊢
            have HFL := Lib.hid hfl2
            clear hfl2
            obtain ⟨wo, hwo⟩ : ∃ wo, wo = wr := ⟨_, rfl⟩
            subst hwo
            have hdl : wp.heap.size < wo.heap.size := hD.out.lt
            have HD0 : Hid (Blk wo wp.heap.size 4 (rowB k (dnW s v v))) := Lib.hid (by rw [dnW_start hlt2 hdn]; exact hD.out)
            have hst := cmk_start (s := s) hlt2 hdn
            have HNW := Lib.hid (prtk_new (s := s) (n := k) hdn)
            have HVM := Lib.hid (show v ∈ cmp s k v from cmp_mem.2 ⟨hlt2, Mut.refl s v⟩)
            clear hdn hD
            go_wp2
            go_loopw [12, 13] (fun V i W => ∃ (x : Nat) (A5 : Option Addr) (c5 : Nat), v ≤ x ∧ x ≤ k ∧ i = .int .i64 (x : Int) ∧ V = .slice A5 (cmk s v x).length c5 ∧ Hid (W.ownsRow wo.heap.size 3 1 (.slice A5 (cmk s v x).length c5) (cmk s v x).length (vV (cmk s v x))) ∧ Hid (Blk W wp.heap.size 4 (rowB k (dnW s v x))) ∧ Hid (Kp (fun j => j = wp.heap.size) wo W)) (fun _ i _ => k - (intOf i).toNat)
            case atStart => exact ⟨v, none, 0, by omega, by omega, rfl, by rw [hst]; rfl, Lib.hid (by rw [hst]; exact World.ownsRow_nil _ _ _ _), HD0, Lib.hid (Kp.refl _ _)⟩
            case round =>
              obtain ⟨x, A5, c5, hvx, hxk, rfl, rfl, hO5, hD5, hK5⟩ := hrel
              by_cases hlt3 : x < k
              · have hbW : Below wp.heap.size wp wr := hb6.out.trans (hK5.out.low (Nat.le_of_lt hdl) (fun j e => by omega))
                obtain ⟨ad, hA1, had, hca⟩ := (Rd.of_own (own_keep HO1.out hbW)) (fun e => by
                  have h9 := congrArg List.length e
                  rw [rowV_len] at h9
                  simp at h9
                  omega)
                subst hA1
                have c_v := hca v _ (rowV_get (fun u => sl (gs u) k) hlt2)
                have c_x := hca x _ (rowV_get (fun u => sl (gs u) k) hlt3)
                have b_v := ((HG1.out v hlt2).keep hbW).cell (rowB_get (rchB s v) hlt3)
                have b_x := ((HG1.out x hlt3).keep hbW).cell (rowB_get (rchB s x) hlt2)
                have hcx := hD5.out.cell (rowB_get (dnW s v x) hlt3)
                have hfx := hD5.out.frozen x
                have hKs := hK5.out.size
                have e3 : (x : Int) < (k : Int) := by omega
                have hcl := cmk_len s v x
                by_cases hm : Mut s v x
                · obtain ⟨h1, h2⟩ : rchB s v x = true ∧ rchB s x v = true := by
                    have h9 := mut_and.2 hm
                    rwa [Bool.and_eq_true] at h9
                  rw [h1] at b_v
                  rw [h2] at b_x
                  have HS : Hid (cmk s v (x + 1) = cmk s v x ++ [x]) := Lib.hid (by rw [cmk_succ, if_pos hm])
                  have HDW := Lib.hid (dnW_yes hm)
                  clear h1 h2 hm hca had
                  generalize dnW s v x x = z at *
                  generalize cmk s v x = l5 at *
                  obtain ⟨m5, hm5⟩ : ∃ m5, l5.length = m5 := ⟨_, rfl⟩
                  have HM5 := Lib.hid hm5
                  rw [hm5] at hO5 hcl ⊢
                  clear hm5
                  go_wp2_with (at_builtin; refine wpList_append_own_at _ rfl _ _ 24 rfl wo.heap.size 3 i0 (.int .i64 0) 1 8 Tryd.underlying24 hi iz is ib rfl (by decide) _ m5 (vV l5) rfl (own_keep hO5.out (bel_box _)) ⟨wr.heap.size, 0, none⟩ 1 1 [.int .i64 (x : Int)] rfl rfl (row1 _ _ _) (one_int _) (by unfold maxLen; omega) (by omega) (by rw [World.size_alloc]; omega) ?_; intro V3 w7 hown3 hgrow3 _ _; obtain ⟨A3, c3, rfl⟩ := own_form hown3; have hb7 : Below wo.heap.size wr w7 := own_below (Below.refl _ _) hKs hO5.out hgrow3; have v3 := (hb7.cell (p := ⟨wp.heap.size, x, none⟩) hdl).trans hcx; have r3 := (hb7.frozen (p := ⟨wp.heap.size, x, none⟩) hdl).trans hfx; have HO7 := Lib.hid hown3; clear hgrow3 hown3)
                  refine ⟨⟨x + 1, A3, c3, by omega, by omega, by congr 1, by rw [HS.out, List.length_append, HM5.out]; rfl, Lib.hid ?_, Lib.hid ?_, Lib.hid ((kp_low hK5.out hb7).trans (Kp.set (S := fun j => j = wp.heap.size) w7 (a := ⟨wp.heap.size, x, none⟩) rfl _))⟩, by simp [intOf]; omega⟩
                  · rw [HS.out, List.length_append, HM5.out]
                    have h9 := HO7.out
                    rw [vV_snoc] at h9
                    exact own_setCell h9 hdl
                  · have h9 := (hD5.out.below hb7 hdl).set x (.bool true)
                    rw [rowB_set, HDW.out] at h9
                    exact h9
                · have HS : Hid (cmk s v (x + 1) = cmk s v x) := Lib.hid (by rw [cmk_succ, if_neg hm, List.append_nil])
                  have HDW := Lib.hid (dnW_no hm)
                  cases h1 : rchB s v x with
                  | false =>
                    rw [h1] at b_v
                    clear hm hca had h1
                    generalize rchB s x v = y at *
                    generalize hlq : (cmk s v x).length = m5 at *
                    go_wp2
                    exact ⟨⟨x + 1, A5, c5, by omega, by omega, by congr 1, by rw [HS.out, hlq], by rw [HS.out, hlq]; exact hO5, by rw [← HDW.out]; exact hD5, hK5⟩, by simp [intOf]; omega⟩
                  | true =>
                    have h2 : rchB s x v = false := by
                      cases h2 : rchB s x v with
                      | false => rfl
                      | true => exact absurd (mut_and.1 (by rw [h1, h2]; rfl)) hm
                    rw [h1] at b_v
                    rw [h2] at b_x
                    clear hm hca had h1 h2
                    generalize hlq : (cmk s v x).length = m5 at *
                    go_wp2
                    exact ⟨⟨x + 1, A5, c5, by omega, by omega, by congr 1, by rw [HS.out, hlq], by rw [HS.out, hlq]; exact hO5, by rw [← HDW.out]; exact hD5, hK5⟩, by simp [intOf]; omega⟩
              · have hxk2 : x = k := by omega
                have hbW : Below wp.heap.size wp wr := hb6.out.trans (hK5.out.low (Nat.le_of_lt hdl) (fun j e => by omega))
                have HOc : Hid (wr.ownsRow wo.heap.size 3 1 (.slice A5 (cmp s k v).length c5) (cmp s k v).length (vV (cmp s k v))) := Lib.hid (by
                  have h9 := hO5.out
                  rw [hxk2, cmk_all] at h9
                  exact h9)
                have hl5 : (cmk s v x).length = (cmp s k v).length := by rw [hxk2, cmk_all]
                have HDe : Hid (Blk wr wp.heap.size 4 (rowB k (dnB s (v + 1)))) := Lib.hid (by
                  have h9 := hD5.out
                  rw [hxk2, rowB_congr (fun y hy => dnW_end hy)] at h9
                  exact h9)
                have HF5 := Lib.hid (hK5.out.own hF.out (fun j e => by omega))
                have HP5 := Lib.hid (fun e he => hK5.out.own (hP.out e he) (fun j e => by omega))
                have hKs := hK5.out.size
                have hcl : (cmp s k v).length ≤ k := cmp_len s k v
                have hpos : 0 < (cmp s k v).length := List.length_pos_of_mem HVM.out
                obtain ⟨g, cap, hA5, _, _⟩ := HOc.out.form hpos
                injection hA5 with hA5 _ hcap
                subst hA5
                subst hcap
                rw [hl5]
                have hne1 : 3 ≠ 24 := by decide
                have hne2 : 4 ≠ 24 := by decide
                clear hO5 hD5 hxk2 hl5
                obtain ⟨m5, hm5⟩ : ∃ m5, (cmp s k v).length = m5 := ⟨_, rfl⟩
                have HM5 := Lib.hid hm5
                rw [hm5] at hpos hcl ⊢
                clear hm5
                go_wp2_with (at_builtin; refine wpList_append_own_at _ rfl _ _ 34 rfl (wp.heap.size + 1) 24 i2 (.slice none 0 0) 1 24 Tryd.underlying34 hi2 iz2 is2 ib2 rfl (by decide) _ fl (fs.map encP) rfl (own_keep HF5.out (bel_box _)) ⟨wr.heap.size, 0, none⟩ 1 1 [.slice (some ⟨g, 0, none⟩) m5 c5] rfl rfl (row1 _ _ _) (one_sl9 _ rfl) (by unfold maxLen; omega) (by omega) (by rw [World.size_alloc]; omega) ?_; intro V3 w8 hown3 hgrow3 _ _; obtain ⟨A3, c3, rfl⟩ := own_form hown3; have HO8 := Lib.hid hown3; have HD8 := Lib.hid (blk_grown hne2 HDe.out HF5.out hgrow3); have HP8 := Lib.hid (fun e he => own_grown hne1 (HP5.out e he) HF5.out hgrow3); have HC8 := Lib.hid (own_grown hne1 (own_base (B' := wp.heap.size + 1) HOc.out hdl) HF5.out hgrow3); have HW8 := Lib.hid (hbW.trans ((own_below (Below.refl _ _) (by omega) HF5.out hgrow3).mono (Nat.le_succ _))); clear hgrow3 hown3)
                have e7 : (fs ++ [(g, cmp s k v, c5)]).length = fl + 1 := by rw [List.length_append, HFL.out]; rfl
                have e8 : encP (g, cmp s k v, c5) = .slice (some ⟨g, 0, none⟩) m5 c5 := by unfold encP; simp only; rw [HM5.out]
                refine ⟨⟨v + 1, fs ++ [(g, cmp s k v, c5)], A3, c3, by omega, by congr 1, by rw [e7], by rw [e7]; omega, Lib.hid ?_, Lib.hid ?_, Lib.hid ?_, HD8, HW8⟩, by simp [intOf]; omega⟩
                · rw [e7, List.map_append, List.map_cons, List.map_nil, e8]
                  exact HO8.out
                · intro e he
                  rcases List.mem_append.1 he with he | he
                  · exact HP8.out e he
                  · rw [List.mem_singleton.1 he]
                    exact HC8.out
                · rw [List.map_append, List.map_cons, List.map_nil, hE.out, HNW.out]
        · have hvk2 : v = k := by omega
          have h6 : R (.returned (.tuple #[.slice A2 fs.length c2, .int .i64 0])) wr := by
            rw [← HRR.out]
            refine ⟨A2, c2, fs, rfl, ?_, Rd.of_own hF.out, fun e he => ?_, hb2.trans ((hbl.out.mono hz2).trans (hb6.out.mono (Nat.le_trans hz2 hsz)))⟩
            · rw [hE.out, hvk2, prtk_all]
            · exact Rd.of_own (c := e.2.2) (hP.out e he)
          clear hF hP hE hD hvk2
          generalize fs.length = fl at *
          go_wp2
          exact h6
set_option maxHeartbeats 1000000 in
theorem rparts_bad (n : Int) (A : Option Addr) (c : Nat) (es : List (Int × Int)) (hl : es.length ≤ 1048576) (w : World) (hE : RdE w w.heap.size A es) (hv : valB n es = false) : Calls Tryd.prog 19 #[.int .i64 n, .slice A es.length c] w fun e w' => e = .returned (.tuple #[.slice none 0 0, .int .i64 2]) ∧ Below w.heap.size w w' := by
  have KV := Lib.hid (rright_any n A c es hl w hE)
  rw [hv] at KV
  clear hE hv
  go_enter Tryd.func19, Tryd.ntmps19
  go_wp2_with (go_at_call 32; refine KV.out.mono ?_; clear KV; rintro e w1 ⟨rfl, q, rfl⟩)
  refine bodyPost_ret (results_tmp2 rfl _ _ _) rfl ?_
  exact ⟨rfl, below_drewN (Below.refl _ _) _⟩
end gr
end Go.Proofs.YtahffafobdiogaaDoor
/- The law GraphParts. -/
namespace Go.Proofs.YtahffafobdiogaaDoor
set_option linter.unusedVariables false
set_option linter.unusedSimpArgs false
open Go.RowKit
namespace gr
theorem reach_both (n fr : Int) (es : List (Int × Int)) (hl : es.length ≤ 1048576) : ∃ (m : Nat) (p : Nat → Bool) (x : Int), m ≤ 4096 ∧ ∀ (W : World) (A : Option Addr) (c : Nat), Tz W → RdE W W.heap.size A es →
    Calls Tryd.prog 16 #[.int .i64 n, .slice A es.length c, .int .i64 fr] W (NewB m p x W) ∧ Calls Tryd.prog 17 #[.int .i64 n, .slice A es.length c, .int .i64 fr] W (NewB m p x W) := by
  cases hv : (valB n es && decide (0 ≤ fr) && decide (fr < n)) with
  | false =>
    have hb : ∀ (W : World) (e : Ending) (w' : World), (e = .returned (.tuple #[.slice none 0 0, .int .i64 2]) ∧ Below W.heap.size W w') → NewB 0 (fun _ => false) 2 W e w' := fun W e w' h => ⟨none, 0, h.1, fun h2 => absurd rfl h2, h.2⟩
    exact ⟨0, fun _ => false, 2, by omega, fun W A c hT hE => ⟨(reach_bad n fr A c es hl W hE hv).mono (hb W), (rReach_bad n fr A c es hl W hE hv).mono (hb W)⟩⟩
  | true =>
    rw [Bool.and_eq_true, Bool.and_eq_true, decide_eq_true_eq, decide_eq_true_eq] at hv
    obtain ⟨⟨hv, h0⟩, h1⟩ := hv
    obtain ⟨m, ns, rfl, hm, rfl, hr⟩ := valB_nat hv
    obtain ⟨f, rfl⟩ := Int.eq_ofNat_of_zero_le h0
    rw [eN_len] at hl ⊢
    exact ⟨m, rchB (nbs (eK ns) m) f, 0, hm, fun W A c hT hE => ⟨reach_ok m f A c ns hm (by omega) hr hl W hT hE hv, rReach_ok m f A c ns hm (by omega) hr hl W hE hv⟩⟩
theorem parts_both (n : Int) (es : List (Int × Int)) (hl : es.length ≤ 1048576) : ∃ (ls : List (List Nat)) (x : Int), ls.length ≤ 4096 ∧ (∀ l ∈ ls, l.length ≤ 4096) ∧ ∀ (W : World) (A : Option Addr) (c : Nat), Tz W → RdE W W.heap.size A es →
    Calls Tryd.prog 18 #[.int .i64 n, .slice A es.length c] W (ResP ls x W) ∧ Calls Tryd.prog 19 #[.int .i64 n, .slice A es.length c] W (ResP ls x W) := by
  cases hv : valB n es with
  | false =>
    have hb : ∀ (W : World) (e : Ending) (w' : World), (e = .returned (.tuple #[.slice none 0 0, .int .i64 2]) ∧ Below W.heap.size W w') → ResP [] 2 W e w' := fun W e w' h => ⟨none, 0, [], h.1, rfl, ⟨fun h2 => absurd rfl h2, fun e he => (by cases he)⟩, h.2⟩
    exact ⟨[], 2, by simp, fun l hl => (by cases hl), fun W A c hT hE => ⟨(parts_bad n A c es hl W hE hv).mono (hb W), (rparts_bad n A c es hl W hE hv).mono (hb W)⟩⟩
  | true =>
    obtain ⟨m, ns, rfl, hm, rfl, hr⟩ := valB_nat hv
    rw [eN_len] at hl ⊢
    have hp := prts_len (nbs (eK ns) m) m
    have hb : ∀ (W : World) (e : Ending) (w' : World), NewP (prts (nbs (eK ns) m) m) W e w' → ResP (prts (nbs (eK ns) m) m) 0 W e w' := fun W e w' ⟨A', c', fs, h1, h2, h3, h4, h5⟩ => ⟨A', c', fs, h1, h2, ⟨h3, h4⟩, h5⟩
    exact ⟨prts (nbs (eK ns) m) m, 0, Nat.le_trans hp.1 hm, fun l h => Nat.le_trans (hp.2 l h) hm, fun W A c hT hE => ⟨(parts_ok m A c ns hm hr hl W hT hE hv).mono (hb W), (rparts_ok m A c ns hm hr hl W hE hv).mono (hb W)⟩⟩
theorem rdb_at {W : World} {B : Nat} {A : Option Addr} {n : Nat} {p : Nat → Bool} (h : Rd W B A (rowB n p)) {k : Nat} (hk : k < n) : ∃ ad, A = some ad ∧ ad.block < B ∧ W.cell? (ad.add k) = some (.bool (p k)) := by
  obtain ⟨ad, h1, h2, h3⟩ := h (fun e => by have := congrArg List.length e; rw [rowB_len] at this; simp at this; omega)
  exact ⟨ad, h1, h2, h3 k _ (rowB_get p hk)⟩
set_option maxRecDepth 100000 in
set_option maxHeartbeats 8000000 in
theorem partsl_any (n : Int) (A : Option Addr) (c : Nat) (es : List (Int × Int)) (fr : Int) (w : World) (hT : Tz w) (hA : RdE w w.heap.size A es) (hcl : es.length ≤ c) (hl : es.length ≤ 9223372036854775807) :
    Calls Tryd.prog 5 #[.int .i64 n, .slice A es.length c, .int .i64 fr] w fun e w' => e = .returned (.bool true) ∧ Below w.heap.size w w' := by
  have KAW := Lib.hid (kaw hT)
  have KF := Lib.hid (few_any A c es w (fun h => Classical.byContradiction fun hne => by obtain ⟨_, h1, _⟩ := hA hne; rw [h] at h1; cases h1) hcl hl)
  have hA2 := rdE_take hA 400
  have hm : (es.take 400).length ≤ 400 := by rw [List.length_take]; omega
  clear hA hcl
  generalize es.take 400 = E at *
  generalize es.length = L at *
  by_cases hbig : 300 < n ∧ n ≤ 4096
  · obtain ⟨g1, g2⟩ := hbig
    clear hT hA2
    generalize E.length = m at *
    go_enter Tryd.func5, Tryd.ntmps5
    go_wp2_with (first
      | (go_at_call 9; refine KF.out.mono ?_; clear KF; rintro e w0 ⟨rfl, rfl⟩)
      | (go_at_call 13; refine (KAW.out _ (Below.refl _ _)).mono ?_; rintro e w1 ⟨rfl, hb1⟩))
    go_ret
    exact ⟨rfl, hb1⟩
  obtain ⟨m1, p, x, hm1, HB⟩ := reach_both n fr E (by omega)
  obtain ⟨ls, y, hl1, hl2, HB2⟩ := parts_both n E (by omega)
  have KO := Lib.hid (show ∀ W, Below w.heap.size w W → _ from fun W hb => (HB W A c (hT.keep hb) ((hA2.below hb).more' hb.size)).1)
  have KR := Lib.hid (show ∀ W, Below w.heap.size w W → _ from fun W hb => (HB W A c (hT.keep hb) ((hA2.below hb).more' hb.size)).2)
  have KP := Lib.hid (show ∀ W, Below w.heap.size w W → _ from fun W hb => (HB2 W A c (hT.keep hb) ((hA2.below hb).more' hb.size)).1)
  have KQ := Lib.hid (show ∀ W, Below w.heap.size w W → _ from fun W hb => (HB2 W A c (hT.keep hb) ((hA2.below hb).more' hb.size)).2)
  clear hT hA2 HB HB2
  generalize E.length = m at *
  by_cases g1 : 300 < n
  · have g2 : ¬ n ≤ 4096 := fun h => hbig ⟨g1, h⟩
    clear hbig
    go_enter Tryd.func5, Tryd.ntmps5
    go_wp2_with (first
      | (go_at_call 9; refine KF.out.mono ?_; clear KF; rintro e w0 ⟨rfl, rfl⟩)
      | (go_at_call 16; refine (KO.out _ (Below.refl _ _)).mono ?_; rintro e w1 ⟨A1, c1, rfl, r1, b1⟩; have R1 := Lib.hid r1; clear r1)
      | (go_at_call 17; refine (KR.out _ b1).mono ?_; rintro e w2 ⟨A2, c2, rfl, r2, d2⟩; have b2 := b1.trans (d2.mono b1.size); have R1 := Lib.hid (R1.out.to d2); have R2 := Lib.hid r2; clear r2 d2 b1)
      | (go_at_call 18; refine (KP.out _ b2).mono ?_; rintro e w3 ⟨A3, c3, fs3, rfl, f3, r3, d3⟩; have b3 := b2.trans (d3.mono b2.size); have R1 := Lib.hid (R1.out.to d3); have R2 := Lib.hid (R2.out.to d3); have R3 := Lib.hid r3; have F3 := Lib.hid f3; clear r3 d3 b2 f3)
      | (go_at_call 19; refine (KQ.out _ b3).mono ?_; rintro e w4 ⟨A4, c4, fs4, rfl, f4, r4, d4⟩; have b4 := b3.trans (d4.mono b3.size); have R1 := Lib.hid (R1.out.to d4); have R2 := Lib.hid (R2.out.to d4); have R3 := Lib.hid (R3.out.to d4); have R4 := Lib.hid r4; have F4 := Lib.hid f4; clear r4 d4 b3 f4)
      | (go_at_call 20; refine (lists_self _ _ _ _ fs3 fs4 ls _ R3.out R4.out F3.out F4.out hl1 hl2).mono ?_; rintro e w5 ⟨rfl, d5⟩; have b5 := b4.trans (d5.mono b4.size); have R1 := Lib.hid (R1.out.to d5); have R2 := Lib.hid (R2.out.to d5); clear d5 b4))
    clear KO KR KP KQ
    go_loopw [15] (fun i wr => ∃ k j : Nat, k ≤ m1 ∧ i = .int .i64 (k : Int) ∧ wr = w5.drewN j) (fun i _ => m1 - (intOf i).toNat)
    case atStart => exact ⟨0, 0, by omega, rfl, rfl⟩
    case round =>
      obtain ⟨k, j, hk, rfl, rfl⟩ := hrel
      by_cases hlt : k < m1
      · obtain ⟨ad, rfl, _, d1⟩ := rdb_at R1.out hlt
        obtain ⟨ad2, rfl, _, d2⟩ := rdb_at R2.out hlt
        have e1 : (k : Int) < (m1 : Int) := by omega
        cases hz : p k with
        | true =>
          rw [hz] at d1 d2
          clear hz
          go_wp2
          go_quiet (fail)
          go_wp2
          exact ⟨⟨k + 1, _, by omega, by congr 1, rfl⟩, by simp [intOf]; omega⟩
        | false =>
          rw [hz] at d1 d2
          clear hz
          go_wp2
          go_quiet (fail)
          go_wp2
          exact ⟨⟨k + 1, _, by omega, by congr 1, rfl⟩, by simp [intOf]; omega⟩
      · have KA2 := Lib.hid (KAW.out (w5.drewN j) (below_drewN b5 _))
        go_wp2_with (go_at_call 13; refine KA2.out.mono ?_; rintro e w9 ⟨rfl, b9⟩)
        go_ret
        exact ⟨rfl, b9⟩
  · clear hbig
    go_enter Tryd.func5, Tryd.ntmps5
    go_wp2_with (first
      | (go_at_call 9; refine KF.out.mono ?_; clear KF; rintro e w0 ⟨rfl, rfl⟩)
      | (go_at_call 16; refine (KO.out _ (Below.refl _ _)).mono ?_; rintro e w1 ⟨A1, c1, rfl, r1, b1⟩; have R1 := Lib.hid r1; clear r1)
      | (go_at_call 17; refine (KR.out _ b1).mono ?_; rintro e w2 ⟨A2, c2, rfl, r2, d2⟩; have b2 := b1.trans (d2.mono b1.size); have R1 := Lib.hid (R1.out.to d2); have R2 := Lib.hid r2; clear r2 d2 b1)
      | (go_at_call 18; refine (KP.out _ b2).mono ?_; rintro e w3 ⟨A3, c3, fs3, rfl, f3, r3, d3⟩; have b3 := b2.trans (d3.mono b2.size); have R1 := Lib.hid (R1.out.to d3); have R2 := Lib.hid (R2.out.to d3); have R3 := Lib.hid r3; have F3 := Lib.hid f3; clear r3 d3 b2 f3)
      | (go_at_call 19; refine (KQ.out _ b3).mono ?_; rintro e w4 ⟨A4, c4, fs4, rfl, f4, r4, d4⟩; have b4 := b3.trans (d4.mono b3.size); have R1 := Lib.hid (R1.out.to d4); have R2 := Lib.hid (R2.out.to d4); have R3 := Lib.hid (R3.out.to d4); have R4 := Lib.hid r4; have F4 := Lib.hid f4; clear r4 d4 b3 f4)
      | (go_at_call 20; refine (lists_self _ _ _ _ fs3 fs4 ls _ R3.out R4.out F3.out F4.out hl1 hl2).mono ?_; rintro e w5 ⟨rfl, d5⟩; have b5 := b4.trans (d5.mono b4.size); have R1 := Lib.hid (R1.out.to d5); have R2 := Lib.hid (R2.out.to d5); clear d5 b4))
    clear KO KR KP KQ
    go_loopw [15] (fun i wr => ∃ k j : Nat, k ≤ m1 ∧ i = .int .i64 (k : Int) ∧ wr = w5.drewN j) (fun i _ => m1 - (intOf i).toNat)
    case atStart => exact ⟨0, 0, by omega, rfl, rfl⟩
    case round =>
      obtain ⟨k, j, hk, rfl, rfl⟩ := hrel
      by_cases hlt : k < m1
      · obtain ⟨ad, rfl, _, d1⟩ := rdb_at R1.out hlt
        obtain ⟨ad2, rfl, _, d2⟩ := rdb_at R2.out hlt
        have e1 : (k : Int) < (m1 : Int) := by omega
        cases hz : p k with
        | true =>
          rw [hz] at d1 d2
          clear hz
          go_wp2
          go_quiet (fail)
          go_wp2
          exact ⟨⟨k + 1, _, by omega, by congr 1, rfl⟩, by simp [intOf]; omega⟩
        | false =>
          rw [hz] at d1 d2
          clear hz
          go_wp2
          go_quiet (fail)
          go_wp2
          exact ⟨⟨k + 1, _, by omega, by congr 1, rfl⟩, by simp [intOf]; omega⟩
      · have KA2 := Lib.hid (KAW.out (w5.drewN j) (below_drewN b5 _))
        go_wp2_with (go_at_call 13; refine KA2.out.mono ?_; rintro e w9 ⟨rfl, b9⟩)
        go_ret
        exact ⟨rfl, b9⟩
end gr
end Go.Proofs.YtahffafobdiogaaDoor
/- The frame of a law's row: a call that returns true and leaves the old blocks alone meets the row; arguments that are slices of bools are opened. -/
namespace Go.Proofs.YtahffafobdiogaaDoor
set_option linter.unusedVariables false
set_option linter.unusedSimpArgs false
open Go.ChangeShapes Go.WideShapes Go.ChangeAt Go.RowKit Go.Deep
section
variable {H : Type} {enc : TypeId × Value → H} {P : Program}
theorem trodAll_below (hl : laidOutB P = true) {W W' : World} (hb : Below W.heap.size W W') : ∀ {ts : List TypeId} {vs : List Value} {ds : List (DataW H)} {ps : List MemPlace},
    (∀ t ∈ ts, P.readableRec t = true ∧ t < P.types.size) → DataW.TrodAll enc P W 0 (fun _ => true) true ts vs ds ps → (∀ x ∈ ps, x.block < W.heap.size) →
    DataW.TrodAll enc P W' 0 (fun b => decide (b < W.heap.size)) true ts vs ds ps := by
  intro ts
  induction ts with
  | nil => intro vs ds ps _ h _; cases vs <;> cases ds <;> simp_all [DataW.TrodAll]
  | cons t ts ih =>
    intro vs ds ps ht h hlt
    match vs, ds, h with
    | v :: vs, d :: ds, ⟨p, q, h1, h2, e⟩ =>
      subst e
      obtain ⟨hr, hs⟩ := ht t (by simp)
      exact ⟨p, q, Below.trod hl hr hs h1 hb (fun x hx => hlt x (by simp [hx])), ih (fun u hu => ht u (by simp [hu])) h2 (fun x hx => hlt x (by simp [hx])), rfl⟩
theorem law_post {f : Func} {s : ChangeSpec} {W W' : World} {args : Array Value} {ds gs : List (DataW H)} {before : List MemPlace} {tb : TypeId}
    (hW : DataW.Whole enc P f.params.toList s.vars false W args.toList ds gs before) (hv : s.vars = [])
    (hs : (s.fn H (ds ++ gs)).results = [.lit (.bool true)] ∧ (s.fn H (ds ++ gs)).args = ds ∧ (s.fn H (ds ++ gs)).vars = [])
    (hf : f.resultTypes = #[tb]) (htb : P.underlying tb = some .bool) (hl : laidOutB P = true) (hts : ∀ t ∈ f.params.toList, P.readableRec t = true ∧ t < P.types.size)
    (hb : Below W.heap.size W W') : s.post enc P f false true false false W args (.bool true) W' := by
  have hW' := hW
  obtain ⟨p, q, hA, hV, rfl, _, _⟩ := hW
  rw [hv] at hV
  obtain ⟨rfl, rfl⟩ := trodVars_none hV
  refine ⟨ds, [], p ++ [], [], p, [], hW', ?_, ?_, ?_, hb.frame _, fun h => by cases h⟩
  · rw [hs.1, hf]
    exact trodAll_mk1 (shut_bool htb true)
  · rw [hs.2.1]
    exact trodAll_below hl hb hts hA (fun x hx => hW'.lt x (by simp [hx]))
  · rw [hv, hs.2.2]
    rfl
end
end Go.Proofs.YtahffafobdiogaaDoor
/- The frame of the rows of layer 4: what the listed variable gives; an argument of edges. -/
namespace Go.Proofs.YtahffafobdiogaaDoor
set_option linter.unusedVariables false
set_option linter.unusedSimpArgs false
open Go.ChangeShapes Go.WideShapes Go.ChangeAt Go.RowKit Go.Deep Go.WideElems
def laidL : List (String × DataW Unit) := [("math/bits.deBruijn64tab", Rows.laid_math_bits_deBruijn64tab)]
theorem gTab : Tryd.prog.globalNamed "math/bits.deBruijn64tab" = some 0 := by kernel_rfl
theorem tyTab : (Tryd.prog.globals[0]?).map (·.type) = some 80 := by kernel_rfl
theorem door_met (os : Os) (args : Array Value) : laidMetH Tryd.prog laidL ((World.doorLaid Tryd.prog 400 os).forCall (fun _ _ => 0) ⟨#[], args, []⟩).memory :=
  laidMetH_of_parts3 (fuel := 8) (laidMet_of_run' 8 (by kernel_rfl) (by kernel_rfl)) (by kernel_rfl) (by kernel_rfl)
theorem std_of_laid {W : World} (h : laidMetH Tryd.prog laidL W) : gr.Tz W := by
  rw [MakeChecks.laidMetH_plain _ _ _ (by kernel_rfl)] at h
  have h3 : laidMet Tryd.prog (("math/bits.deBruijn64tab", Lib.tabData .u8 (Lib.deBruijn64tab.map fun x : Nat => (x : Int))) :: []) W := h
  have ht := Lib.tabIs_of_head gTab tyTab Tryd.underlying80 Tryd.underlying5 (by kernel_rfl) (by kernel_rfl) h3
  intro j hj
  have hc := ht.cell gTab j (by rw [List.length_map]; exact hj)
  have e : ((Lib.deBruijn64tab.map fun x : Nat => (x : Int)).getD j 0 : Int) = ((Lib.deBruijn64tab.getD j 0 : Nat) : Int) := by
    rw [List.getD, List.getD, List.getElem?_map, List.getElem?_eq_getElem hj]
    rfl
  rw [e] at hc
  exact hc
theorem int_le {n : Int} (h : (Lit.int .i64 n).wf = true) : n ≤ 9223372036854775807 := by
  have h2 : n ≤ IntKind.i64.max := by simp only [Lit.wf, Bool.and_eq_true, decide_eq_true_eq] at h; exact h.2
  exact h2
theorem int_ge {n : Int} (h : (Lit.int .i64 n).wf = true) : -9223372036854775808 ≤ n := by
  have h2 : IntKind.i64.min ≤ n := by simp only [Lit.wf, Bool.and_eq_true, decide_eq_true_eq] at h; exact h.1
  exact h2
section
variable {H : Type} {enc : TypeId × Value → H} {P : Program} {w : World} {held : Bool} {base : Nat}
theorem choose_list {α : Type} {p : Nat → α → Prop} : ∀ n, (∀ i, i < n → ∃ e, p i e) → ∃ l : List α, l.length = n ∧ ∀ i e, l[i]? = some e → p i e := by
  intro n
  induction n with
  | zero => exact fun _ => ⟨[], rfl, fun i e h => by simp at h⟩
  | succ n ih =>
    intro h
    obtain ⟨l, hl, hp⟩ := ih fun i hi => h i (by omega)
    obtain ⟨e, he⟩ := h n (by omega)
    refine ⟨l ++ [e], by simp [hl], fun i x hx => ?_⟩
    rcases Nat.lt_or_ge i n with hi | hi
    · exact hp i x (by rwa [List.getElem?_append_left (by omega)] at hx)
    · rw [List.getElem?_append_right (by omega)] at hx
      have hi2 : i = n := by
        have := (List.getElem?_eq_some_iff.1 hx).1
        simp at this
        omega
      subst hi2
      rw [hl, Nat.sub_self] at hx
      obtain rfl : e = x := by simpa using hx
      exact he
theorem rd_edges {t e : TypeId} {f0 f1 : Field} {fuel : Nat} {v : Value} {x : DataW H × List MemPlace} (ht : P.underlying t = some (.slice e)) (he : P.underlying e = some (.struct #[f0, f1]))
    (ce : P.cellsOf e = 2) (o0 : f0.offset = 0) (o1 : f1.offset = 1) (c0 : P.cellsOf f0.type = 1) (c1 : P.cellsOf f1.type = 1) (i0 : P.underlying f0.type = some (.int .i64)) (i1 : P.underlying f1.type = some (.int .i64))
    (h : DataW.trod enc P w base (fun _ => true) held fuel t [v] = some x) :
    ∃ (A : Option Addr) (l : List (Int × Int)) (c : Nat), v = .slice A l.length c ∧ gr.RdE w w.heap.size A l ∧ (A = none → c = 0) ∧ l.length ≤ 9223372036854775807 ∧ l.length ≤ c := by
  rcases open_slice_pairs ht he ce o0 o1 c0 c1 h with ⟨hv, _⟩ | ⟨a, len, cap, m, n, V0, V1, D0, D1, P0, P1, hv, _, hl, hm, hmm, _, hx⟩
  · simp only [List.cons.injEq, and_true] at hv
    exact ⟨none, [], 0, hv, fun h => absurd rfl h, fun _ => rfl, by simp, by simp⟩
  · simp only [List.cons.injEq, and_true] at hv
    have hmc : m = cap := by simpa using hmm
    obtain ⟨l, hll, hp⟩ := choose_list (p := fun i (e : Int × Int) => w.cell? (a.add (i * 2)) = some (.int .i64 e.1) ∧ w.cell? (a.add (i * 2 + 1)) = some (.int .i64 e.2)) len fun i hi => by
      obtain ⟨h1, h2, h3, h4⟩ := hx i (by omega)
      obtain ⟨n0, e0, _⟩ := DataW.trod_int i0 h3
      obtain ⟨n1, e1, _⟩ := DataW.trod_int i1 h4
      simp only [List.cons.injEq, and_true] at e0 e1
      exact ⟨(n0, n1), by rw [h1, e0], by rw [h2, e1]⟩
    refine ⟨some a, l, cap, by rw [hll]; exact hv, fun hne => ⟨a, rfl, ?_, fun k e he => ?_⟩, fun h => (by cases h), by rw [hll]; unfold maxLen at hm; omega, by rw [hll]; exact hl⟩
    · have h0 : 0 < l.length := List.length_pos_iff.2 hne
      have := World.block_lt_of_cell? w _ (hp 0 _ (List.getElem?_eq_getElem h0)).1
      rwa [add_block] at this
    · obtain ⟨g1, g2⟩ := hp k e he
      have ee : ∀ i, a.add (i + 1) = ⟨(a.add i).block, (a.add i).off + 1, none⟩ := fun i => by simp [Addr.add]; by_cases h0 : i = 0 <;> simp [h0]; try omega
      exact ⟨g1, by rw [← ee]; exact g2⟩
end
end Go.Proofs.YtahffafobdiogaaDoor
