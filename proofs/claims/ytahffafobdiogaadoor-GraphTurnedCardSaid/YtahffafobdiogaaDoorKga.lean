/- Blocks of cells, and rows of words as sets of vertices. -/
import Derived.Test.YtahffafobdiogaaDoorGpj
import Derived.Test.YtahffafobdiogaaDoorGpi
import Derived.Test.YtahffafobdiogaaDoorGph
import Derived.Laws.AppendOwn
import Derived.Below
namespace Go.Proofs.YtahffafobdiogaaDoor
set_option linter.unusedVariables false
set_option linter.unusedSimpArgs false
open Go.RowKit
namespace gr
/-- block b holds these cells, whole -/
def Blk (W : World) (b : Nat) (t : TypeId) (xs : List Value) : Prop := W.heap[b]? = some (.cells xs.toArray t (0, 0))
theorem Blk.lt {W : World} {b : Nat} {t : TypeId} {xs : List Value} (h : Blk W b t xs) : b < W.heap.size := (Array.getElem?_eq_some_iff.1 h).1
theorem Blk.cell {W : World} {b : Nat} {t : TypeId} {xs : List Value} (h : Blk W b t xs) {i : Nat} {v : Value} (hi : xs[i]? = some v) : W.cell? ⟨b, i, none⟩ = some v := by
  unfold World.cell?
  rw [h]
  simpa using hi
theorem Blk.frozen {W : World} {b : Nat} {t : TypeId} {xs : List Value} (h : Blk W b t xs) (i : Nat) : W.frozen? ⟨b, i, none⟩ = false := by
  unfold World.frozen?
  rw [h]
  simp
theorem Blk.set {W : World} {b : Nat} {t : TypeId} {xs : List Value} (h : Blk W b t xs) (i : Nat) (v : Value) : Blk (W.setCell ⟨b, i, none⟩ v) b t (xs.set i v) := by
  unfold Blk World.setCell
  simp only [Array.getElem?_modify, if_true]
  rw [h]
  simp
theorem Blk.to {W W' : World} {b : Nat} {t : TypeId} {xs : List Value} (h : Blk W b t xs) (hb : W'.heap[b]? = W.heap[b]?) : Blk W' b t xs := hb.trans h
theorem Blk.set_other {W : World} {b c : Nat} {t : TypeId} {xs : List Value} (h : Blk W b t xs) (hc : b ≠ c) (i : Nat) (v : Value) : Blk (W.setCell ⟨c, i, none⟩ v) b t xs := h.to (Below.heap_setCell _ _ _ _ hc)
theorem Blk.below {W W' : World} {B b : Nat} {t : TypeId} {xs : List Value} (h : Blk W b t xs) (hb : Below B W W') (hB : b < B) : Blk W' b t xs := h.to (hb.block b hB)
theorem Blk.keep {W W' : World} {b : Nat} {t : TypeId} {xs : List Value} (h : Blk W b t xs) (hb : Below W.heap.size W W') : Blk W' b t xs := h.below hb h.lt
theorem Blk.alloc {W : World} {b : Nat} {t : TypeId} {xs : List Value} (h : Blk W b t xs) (o : Obj) : Blk (W.alloc o) b t xs := h.to (Below.heap_alloc _ _ _ h.lt)
theorem Blk.new (W : World) (xs : List Value) (t : TypeId) : Blk (W.alloc (.cells xs.toArray t)) W.heap.size t xs := heap_alloc_new W _
theorem Blk.of_own {W : World} {base g n : Nat} {t : TypeId} {xs : List Value} (h : W.ownsRow base t 1 (.slice (some ⟨g, 0, none⟩) n n) n xs) : n = 0 ∨ Blk W g t xs := by
  obtain ⟨h0, h⟩ := h
  rcases h with ⟨h1, h2⟩ | ⟨g', cap, cur, h1, h2, h3, h4, h5, h6, h7⟩
  · exact .inl h2
  · injection h1 with e1 e2 e3
    injection e1 with e1
    injection e1 with e1
    subst e1
    subst e3
    right
    unfold Blk
    rw [h3]
    rw [Nat.mul_one] at h6 h7
    rw [List.take_of_length_le (by simp [h6])] at h7
    rw [← h7]
/-- words in cells -/
def uV (l : List Nat) : List Value := l.map fun (x : Nat) => Value.int .u64 ((x : Nat) : Int)
theorem uV_len (l : List Nat) : (uV l).length = l.length := by simp [uV]
theorem uV_get {l : List Nat} {i : Nat} (h : i < l.length) : (uV l)[i]? = some (.int .u64 ((l.getD i 0 : Nat) : Int)) := by
  simp [uV, List.getElem?_map, List.getElem?_eq_getElem h, List.getD]
theorem uV_set (l : List Nat) (i x : Nat) : (uV l).set i (.int .u64 (x : Int)) = uV (l.set i x) := by simp [uV, List.map_set]
/-- numbers in cells -/
def nV (l : List Int) : List Value := l.map fun (x : Int) => Value.int .i64 x
theorem nV_len (l : List Int) : (nV l).length = l.length := by simp [nV]
theorem nV_get {l : List Int} {i : Nat} (h : i < l.length) : (nV l)[i]? = some (.int .i64 (l.getD i 0)) := by
  simp [nV, List.getElem?_map, List.getElem?_eq_getElem h, List.getD]
theorem nV_set (l : List Int) (i : Nat) (x : Int) : (nV l).set i (.int .i64 x) = nV (l.set i x) := by simp [nV, List.map_set]
/-- a row of words is the set of the vertices that pass a test -/
structure St (m : Nat) (ws : List Nat) (p : Nat → Bool) : Prop where
  len : ws.length = m
  wf : ∀ i, ws.getD i 0 < 18446744073709551616
  iff : ∀ v, inW ws v = p v
theorem St.empty (m : Nat) : St m (List.replicate m 0) (fun _ => false) where
  len := by simp
  wf := fun i => by
    by_cases h : i < m
    · simp [List.getD, List.getElem?_replicate, h]
    · simp [List.getD, List.getElem?_replicate, h]
  iff := fun v => by
    unfold inW
    by_cases h : v / 64 < m
    · simp [List.getD, List.getElem?_replicate, h]
    · simp [List.getD, List.getElem?_replicate, h]
theorem getD_set {l : List Nat} {i j x : Nat} (h : i < l.length) : (l.set i x).getD j 0 = if j = i then x else l.getD j 0 := by
  simp only [List.getD, List.getElem?_set]
  by_cases e : i = j
  · subst e
    simp [h]
  · simp [e, Ne.symm e]
theorem or_bit (x b i : Nat) : (x ||| 2 ^ b).testBit i = (x.testBit i || decide (i = b)) := by
  rw [Nat.testBit_or, Nat.testBit_two_pow]
  congr 1
  simp only [eq_comm]
theorem or_lt {x b : Nat} (hx : x < 18446744073709551616) (hb : b < 64) : x ||| 2 ^ b < 18446744073709551616 :=
  Nat.or_lt_two_pow (n := 64) hx (Nat.pow_lt_pow_right (by omega) hb)
theorem div_mod_eq {u v : Nat} : (u / 64 = v / 64 ∧ u % 64 = v % 64) ↔ u = v := by omega
theorem St.add {m : Nat} {ws : List Nat} {p : Nat → Bool} (h : St m ws p) {v : Nat} (hv : v / 64 < m) : St m (ws.set (v / 64) (ws.getD (v / 64) 0 ||| 2 ^ (v % 64))) (fun u => p u || decide (u = v)) where
  len := by rw [List.length_set]; exact h.len
  wf := fun i => by
    rw [getD_set (by rw [h.len]; exact hv)]
    split
    · exact or_lt (h.wf _) (by omega)
    · exact h.wf i
  iff := fun u => by
    have h2 := h.iff u
    unfold inW at h2 ⊢
    rw [getD_set (by rw [h.len]; exact hv)]
    by_cases e : u / 64 = v / 64
    · rw [if_pos e, or_bit, ← e, h2]
      congr 1
      by_cases e2 : u % 64 = v % 64
      · have : u = v := by omega
        simp [this]
      · have : u ≠ v := fun x => e2 (by rw [x])
        simp [this, e2]
    · rw [if_neg e, h2]
      have : u ≠ v := fun x => e (by rw [x])
      simp [this]
theorem St.remove {m : Nat} {ws : List Nat} {p : Nat → Bool} (h : St m ws p) {v : Nat} (hv : v / 64 < m) : St m (ws.set (v / 64) (ws.getD (v / 64) 0 &&& (18446744073709551615 - 2 ^ (v % 64) % 18446744073709551616))) (fun u => p u && !decide (u = v)) where
  len := by rw [List.length_set]; exact h.len
  wf := fun i => by
    rw [getD_set (by rw [h.len]; exact hv)]
    split
    · have := @Nat.and_le_left (ws.getD (v / 64) 0) (18446744073709551615 - 2 ^ (v % 64) % 18446744073709551616)
      have := h.wf (v / 64)
      omega
    · exact h.wf i
  iff := fun u => by
    have h2 := h.iff u
    unfold inW at h2 ⊢
    rw [getD_set (by rw [h.len]; exact hv)]
    by_cases e : u / 64 = v / 64
    · rw [if_pos e, andn_bit _ _ _ (h.wf _), ← e, h2, Nat.testBit_two_pow]
      congr 2
      by_cases e2 : u % 64 = v % 64
      · have : u = v := by omega
        simp [this]
      · have : u ≠ v := fun x => e2 (by rw [x])
        simp [this, Ne.symm e2]
    · rw [if_neg e, h2]
      have : u ≠ v := fun x => e (by rw [x])
      simp [this]
theorem St.mem {m : Nat} {ws : List Nat} {p : Nat → Bool} (h : St m ws p) {v : Nat} : v ∈ memW ws ↔ p v = true := by
  rw [memW_mem, h.iff, h.len]
  constructor
  · exact fun x => x.2
  · intro hp
    refine ⟨?_, hp⟩
    rcases Nat.lt_or_ge (v / 64) m with h1 | h1
    · exact h1
    · rw [← h.iff] at hp
      unfold inW at hp
      rw [show ws.getD (v / 64) 0 = 0 from by simp only [List.getD]; rw [List.getElem?_eq_none (by rw [h.len]; exact h1)]; rfl] at hp
      simp at hp
theorem St.congr {m : Nat} {ws : List Nat} {p q : Nat → Bool} (h : St m ws p) (e : ∀ v, p v = q v) : St m ws q := ⟨h.len, h.wf, fun v => (h.iff v).trans (e v)⟩
/-- the members of a set, in order -/
theorem St.list {m n : Nat} {ws : List Nat} {p : Nat → Bool} (h : St m ws p) (hn : ∀ v, p v = true → v < n) : memW ws = (List.range n).filter p := by
  refine asc_ext id _ _ (memW_asc ws) (List.Pairwise.filter _ List.pairwise_lt_range) fun x => ?_
  rw [h.mem, List.mem_filter, List.mem_range]
  exact ⟨fun e => ⟨hn x e, e⟩, fun e => e.2⟩
end gr
end Go.Proofs.YtahffafobdiogaaDoor
