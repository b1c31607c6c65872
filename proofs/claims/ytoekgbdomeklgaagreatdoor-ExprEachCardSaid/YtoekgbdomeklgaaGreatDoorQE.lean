/- Texts of one chain, in one file. -/
import Derived.SizedLaws
import Derived.RangeFuncWrites
import Derived.Maps.OwnIn
import Derived.Maps.AppendAt
import Derived.Maps.Views
import Derived.StringKeys
import Derived.Sort.CutIn
import Derived.Test.YtoekgbdomeklgaaGreatDoorRows
import Derived.Stop.LaidErr
import Derived.Lib.LaidTab
import Derived.LaidMore
import Derived.Lay
import Derived.LaidOnce
import Derived.ChangeSlices
import Derived.ChangeSame
import Derived.ChangeMaps
import Derived.Stop.Joined
import Derived.Test.YtoekgbdomeklgaaGreatDoorQD
/- An argument that is an expression, opened: a tree that lies in memory. -/
namespace Go.Proofs.YtoekgbdomeklgaaGreatDoor
set_option linter.unusedVariables false
set_option linter.unusedSimpArgs false
open Go.ChangeShapes Go.WideShapes Go.ChangeAt Go.RowKit Go.Deep Go.WideElems
theorem choose_list {α : Type} {p : Nat → α → Prop} : ∀ n, (∀ i, i < n → ∃ e, p i e) → ∃ l : List α, l.length = n ∧ ∀ i e, l[i]? = some e → p i e := by
  intro n
  induction n with
  | zero => exact fun _ => ⟨[], rfl, fun i e h => by simp at h⟩
  | succ n ih =>
    intro h
    obtain ⟨l, hl, hp⟩ := ih fun i hi => h i (by omega)
    obtain ⟨e, he⟩ := h n (by omega)
    refine ⟨l ++ [e], by simp [hl], fun i x hx => ?_⟩
    rcases Nat.lt_or_ge i n with hi | hi
    · exact hp i x (by rwa [List.getElem?_append_left (by omega)] at hx)
    · rw [List.getElem?_append_right (by omega)] at hx
      have hi2 : i = n := by
        have := (List.getElem?_eq_some_iff.1 hx).1
        simp at this
        omega
      subst hi2
      rw [hl, Nat.sub_self] at hx
      obtain rfl : e = x := by simpa using hx
      exact he
/-- names are no longer than what a machine holds -/
def NmB (x : Xt) : Prop := ∀ y ∈ x.list, y.nm.size ≤ 140737488351232
theorem NmB.kid {x y : Xt} (h : NmB x) (hy : y ∈ x.ar) : NmB y := fun z hz => h z (by rw [Xt.list_eq]; exact List.mem_cons.2 (.inr (List.mem_flatten.2 ⟨_, List.mem_map_of_mem hy, hz⟩)))
section
variable {H : Type} {enc : TypeId × Value → H} {P : Program} {w : World} {held : Bool}
theorem mem_wAll {e : TypeId} {l : List (DataW H)} {d : DataW H} (hd : d ∈ l) : ∀ n ∈ d.weights P e, n ∈ DataW.weightsAll P e l := by
  induction l with
  | nil => cases hd
  | cons a l ih =>
    intro n hn
    rw [DataW.weightsAll]
    rcases List.mem_cons.1 hd with rfl | hd
    · exact List.mem_append_left _ hn
    · exact List.mem_append_right _ (ih hd n hn)
theorem rd_expr {T : TypeId} {f0 f1 f2 f3 f4 f5 : Field} (hT : P.underlying T = some (.struct #[f0, f1, f2, f3, f4, f5])) (ce : P.cellsOf T = 6)
    (o0 : f0.offset = 0) (o1 : f1.offset = 1) (o2 : f2.offset = 2) (o3 : f3.offset = 3) (o4 : f4.offset = 4) (o5 : f5.offset = 5)
    (c0 : P.cellsOf f0.type = 1) (c1 : P.cellsOf f1.type = 1) (c2 : P.cellsOf f2.type = 1) (c3 : P.cellsOf f3.type = 1) (c4 : P.cellsOf f4.type = 1) (c5 : P.cellsOf f5.type = 1)
    (i0 : P.underlying f0.type = some (.int .i64)) (i1 : P.underlying f1.type = some (.int .i64)) (i2 : P.underlying f2.type = some (.int .i64)) (i3 : P.underlying f3.type = some (.int .i64)) (i4 : P.underlying f4.type = some .string) (i5 : P.underlying f5.type = some (.slice T)) :
    ∀ (fuel : Nat) (cs : List Value) (x : DataW H × List MemPlace), DataW.trod enc P w 0 (fun _ => true) held fuel T cs = some x → (∀ n ∈ x.1.weights P T, n ≤ reachBytes) →
      ∃ e : Xt, cs = [.int .i64 e.k, .int .i64 e.op, .int .i64 e.t, .int .i64 e.v, .string e.nm, .slice e.A e.ar.length e.c] ∧ RdX w w.heap.size e ∧ NmB e := by
  intro fuel
  induction fuel using Nat.strongRecOn with
  | ind fuel ih =>
    intro cs x h hw
    obtain ⟨xs, k, hk, hxy, hlen, hxl, hf⟩ := DataW.trod_struct hT h
    rw [ce] at hlen
    match xs, hxl, cs, hlen with
    | [y0, y1, y2, y3, y4, y5], _, [v0, v1, v2, v3, v4, v5], _ =>
      have g0 := hf 0 f0 rfl
      have g1 := hf 1 f1 rfl
      have g2 := hf 2 f2 rfl
      have g3 := hf 3 f3 rfl
      have g4 := hf 4 f4 rfl
      have g5 := hf 5 f5 rfl
      simp [o0, o1, o2, o3, o4, o5, c0, c1, c2, c3, c4, c5] at g0 g1 g2 g3 g4 g5
      obtain ⟨n0, z0, _⟩ := DataW.trod_int i0 g0
      obtain ⟨n1, z1, _⟩ := DataW.trod_int i1 g1
      obtain ⟨n2, z2, _⟩ := DataW.trod_int i2 g2
      obtain ⟨n3, z3, _⟩ := DataW.trod_int i3 g3
      obtain ⟨s, z4, zy4, hs⟩ := DataW.trod_string i4 g4
      simp only [List.cons.injEq, and_true] at z0 z1 z2 z3 z4
      subst z0; subst z1; subst z2; subst z3; subst z4
      subst hxy
      have hwe : DataW.weights P T (.agg [y0.1, y1.1, y2.1, y3.1, y4.1, y5.1]) = y0.1.weights P f0.type ++ (y1.1.weights P f1.type ++ (y2.1.weights P f2.type ++ (y3.1.weights P f3.type ++ (y4.1.weights P f4.type ++ (y5.1.weights P f5.type ++ []))))) := by
        simp [DataW.weights, DataW.weightsEach, hT]
      have hw4 : ∀ n ∈ y4.1.weights P f4.type, n ≤ reachBytes := fun n hn => hw n (by simp only [List.map_cons, List.map_nil]; rw [hwe]; simp [hn])
      have hw5 : ∀ n ∈ y5.1.weights P f5.type, n ≤ reachBytes := fun n hn => hw n (by simp only [List.map_cons, List.map_nil]; rw [hwe]; simp [hn])
      have hs2 : s.size ≤ 140737488351232 := by
        have := hw4 s.data.toList.length (by rw [zy4]; simp [DataW.weights])
        rw [Array.length_toList] at this
        exact this
      rcases DataW.trod_slice i5 g5 with ⟨hv, _⟩ | ⟨a, len, cap, elems, rest, n, hkn, hv, hx0, _, hl, hm, hel, hx, _, _⟩
      · simp only [List.cons.injEq, and_true] at hv
        subst hv
        refine ⟨.mk n0 n1 n2 n3 s none 0 [], rfl, .mk _ (fun h => absurd rfl h) (fun ad i y h => by cases h) (fun y h => by cases h) ⟨⟨by simp [Xt.ar], hs⟩, Nat.le_refl _⟩, fun y hy => ?_⟩
        rw [Xt.list_eq] at hy
        obtain rfl := List.mem_singleton.1 (show y ∈ [Xt.mk n0 n1 n2 n3 s none 0 []] from hy)
        exact hs2
      · simp only [List.cons.injEq, and_true] at hv
        subst hv
        have key : ∀ i, i < len → ∃ e : Xt, XC w (a.add (i * 6)) e ∧ RdX w w.heap.size e ∧ NmB e := by
          intro i hi
          have h1 := hx i hi
          rw [ce, List.getElem?_eq_getElem (by omega)] at h1
          obtain ⟨cs', h2, h3⟩ := Option.bind_eq_some_iff.1 h1
          obtain ⟨_, hlen', hcell⟩ := World.cells?_some h2
          obtain ⟨e, he, hR, hN⟩ := ih n (by omega) cs' _ h3 fun m hm => hw5 m (by
            rw [hx0]
            simp only [DataW.weights, i5, List.mem_cons, List.mem_append]
            exact .inr (.inl (mem_wAll (List.mem_map_of_mem (List.getElem_mem (by omega))) m hm)))
          subst he
          refine ⟨e, ⟨?_, ?_, ?_, ?_, ?_, ?_⟩, hR, hN⟩
          · have := hcell 0 (by decide); rw [add_add] at this; simpa using this
          · have := hcell 1 (by decide); generalize a.add (i * 6) = b at this ⊢; simpa [Addr.add] using this
          · have := hcell 2 (by decide); generalize a.add (i * 6) = b at this ⊢; simpa [Addr.add] using this
          · have := hcell 3 (by decide); generalize a.add (i * 6) = b at this ⊢; simpa [Addr.add] using this
          · have := hcell 4 (by decide); generalize a.add (i * 6) = b at this ⊢; simpa [Addr.add] using this
          · have := hcell 5 (by decide); generalize a.add (i * 6) = b at this ⊢; simpa [Addr.add] using this
        obtain ⟨l, hll, hp⟩ := choose_list len key
        refine ⟨.mk n0 n1 n2 n3 s (some a) cap l, by rw [show (Xt.mk n0 n1 n2 n3 s (some a) cap l).ar.length = len from hll]; rfl, .mk _ (fun hne => ⟨a, rfl, ?_⟩) (fun ad i y hA hy => ?_) (fun y hy => ?_) ⟨⟨?_, hs⟩, ?_⟩, fun y hy => ?_⟩
        · have hne2 : l ≠ [] := hne
          have h0 : 0 < l.length := List.length_pos_iff.2 hne2
          have := World.block_lt_of_cell? w _ (hp 0 _ (List.getElem?_eq_getElem h0)).1.1
          rwa [add_block] at this
        · obtain rfl : a = ad := Option.some.inj hA
          exact (hp i y hy).1
        · obtain ⟨j, hj⟩ := List.getElem?_of_mem (show y ∈ l from hy)
          exact (hp j y hj).2.1
        · show l.length ≤ maxLen
          omega
        · show l.length ≤ cap
          omega
        · rw [Xt.list_eq] at hy
          rcases List.mem_cons.1 hy with rfl | hy
          · exact hs2
          · obtain ⟨q, hq, hyq⟩ := List.mem_flatten.1 hy
            obtain ⟨z, hz, rfl⟩ := List.mem_map.1 hq
            obtain ⟨j, hj⟩ := List.getElem?_of_mem (show z ∈ l from hz)
            exact (hp j z hj).2.2 y hyq
end
end Go.Proofs.YtoekgbdomeklgaaGreatDoor
/- The example of the law. -/
namespace Go.Proofs.YtoekgbdomeklgaaGreatDoor
set_option linter.unusedVariables false
set_option linter.unusedSimpArgs false
open Go.RowKit
theorem RdX.leaf {w : World} {B : Nat} (k op t v : Int) (nm : ByteArray) (h : nm.size ≤ maxLen) : RdX w B (.mk k op t v nm none 0 []) :=
  .mk _ (fun h => absurd rfl h) (fun _ _ _ h => by cases h) (fun _ h => by cases h) ⟨⟨Nat.zero_le _, h⟩, Nat.le_refl _⟩
def vC : Xt := .mk 2 0 0 0 ⟨#[99]⟩ none 0 []
def vX : Xt := .mk 2 0 0 0 ⟨#[120]⟩ none 0 []
def k0 : Xt := .mk 1 0 2 0 ⟨#[]⟩ none 0 []
def fbyX (b : Nat) : Xt := .mk 7 0 0 0 ⟨#[]⟩ (some ⟨b, 0, none⟩) 2 [k0, vX]
/-- if c then x else 0 fby x -/
def exX (b : Nat) : Xt := .mk 4 0 0 0 ⟨#[]⟩ (some ⟨b + 1, 0, none⟩) 3 [vC, vX, fbyX b]
theorem nm1 (n : UInt8) : (ByteArray.mk #[n]).size ≤ maxLen := by show 1 ≤ maxLen; unfold maxLen; omega
theorem nm0 : (ByteArray.mk #[]).size ≤ maxLen := Nat.zero_le _
theorem fby_read {w : World} {B b : Nat} (h0 : XC w ⟨b, 0, none⟩ k0) (h1 : XC w ⟨b, 6, none⟩ vX) (hB : b < B) : RdX w B (fbyX b) := by
  refine .mk _ (fun _ => ⟨_, rfl, hB⟩) (fun ad i y hA hy => ?_) (fun y hy => ?_) ⟨⟨by show 2 ≤ maxLen; unfold maxLen; omega, nm0⟩, Nat.le_refl _⟩
  · obtain rfl := Option.some.inj hA
    rcases i with _ | _ | i
    · obtain rfl : k0 = y := Option.some.inj hy
      exact h0
    · obtain rfl : vX = y := Option.some.inj hy
      exact h1
    · cases hy
  · rcases List.mem_cons.1 (show y ∈ [k0, vX] from hy) with rfl | hy
    · exact RdX.leaf _ _ _ _ _ nm0
    · obtain rfl := List.mem_singleton.1 hy
      exact RdX.leaf _ _ _ _ _ (nm1 _)
theorem ex_read {w : World} {B b : Nat} (h0 : XC w ⟨b, 0, none⟩ k0) (h1 : XC w ⟨b, 6, none⟩ vX) (g0 : XC w ⟨b + 1, 0, none⟩ vC) (g1 : XC w ⟨b + 1, 6, none⟩ vX) (g2 : XC w ⟨b + 1, 12, none⟩ (fbyX b)) (hB : b + 1 < B) : RdX w B (exX b) := by
  refine .mk _ (fun _ => ⟨_, rfl, hB⟩) (fun ad i y hA hy => ?_) (fun y hy => ?_) ⟨⟨by show 3 ≤ maxLen; unfold maxLen; omega, nm0⟩, Nat.le_refl _⟩
  · obtain rfl := Option.some.inj hA
    rcases i with _ | _ | _ | i
    · obtain rfl : vC = y := Option.some.inj hy
      exact g0
    · obtain rfl : vX = y := Option.some.inj hy
      exact g1
    · obtain rfl : fbyX b = y := Option.some.inj hy
      exact g2
    · cases hy
  · rcases List.mem_cons.1 (show y ∈ [vC, vX, fbyX b] from hy) with rfl | hy
    · exact RdX.leaf _ _ _ _ _ (nm1 _)
    · rcases List.mem_cons.1 hy with rfl | hy
      · exact RdX.leaf _ _ _ _ _ (nm1 _)
      · obtain rfl := List.mem_singleton.1 hy
        exact fby_read h0 h1 (by omega)
set_option maxHeartbeats 1000000 in
set_option maxRecDepth 20000 in
theorem example_any (w : World) : Calls Tryz.prog 15 #[] w (fun e w' => e = .returned (xV (exX (w.heap.size + 3))) ∧ RdX w' w'.heap.size (exX (w.heap.size + 3)) ∧ Below w.heap.size w w' ∧ w'.heap.size = w.heap.size + 5) := by
  go_enter Tryz.func15, Tryz.ntmps15
  go_wp2
  refine bodyPost_ret (v := xV (exX (w.heap.size + 3))) (by simp [results, Tryz.f15, go_sem, xV, exX, Xt.k, Xt.op, Xt.t, Xt.v, Xt.nm, Xt.A, Xt.c, Xt.ar]) rfl ⟨rfl, ex_read ?_ ?_ ?_ ?_ ?_ (by simp only [World.size_alloc]; omega), (by repeat (first | (with_reducible exact Below.refl _ _) | (with_reducible assumption) | (with_reducible exact bel_box _) | (with_reducible refine bel_step ?_ (by with_reducible assumption)) | (with_reducible refine Below.drew ?_) | (with_reducible refine below_drewN ?_ _) | (with_reducible refine bel_alloc ?_ _))), by simp only [World.size_alloc]⟩
  all_goals (unfold XC; simp [go_sem, k0, vX, vC, fbyX, Xt.k, Xt.op, Xt.t, Xt.v, Xt.nm, Xt.A, Xt.c, Xt.ar])
end Go.Proofs.YtoekgbdomeklgaaGreatDoor
/- Has of the reference; rows of names. -/
namespace Go.Proofs.YtoekgbdomeklgaaGreatDoor
set_option linter.unusedVariables false
set_option linter.unusedSimpArgs false
open Go.RowKit Go.Sort
def nmC (l : List ByteArray) : List Value := l.map Value.string
/-- A reads as these names, below block B -/
def RdN (w : World) (B : Nat) (A : Option Addr) (l : List ByteArray) : Prop := l ≠ [] → ∃ ad, A = some ad ∧ ad.block < B ∧ ∀ (i : Nat) (y : ByteArray), l[i]? = some y → w.cell? (ad.add i) = some (.string y)
theorem RdN.to {w W : World} {A : Option Addr} {l : List ByteArray} (h : RdN w w.heap.size A l) (hb : Below w.heap.size w W) : RdN W W.heap.size A l := fun hn => by
  obtain ⟨ad, e, hB, hc⟩ := h hn
  have hs := hb.size
  exact ⟨ad, e, by omega, fun i t ht => (hb.cell (by rw [add_block]; exact hB)).trans (hc i t ht)⟩
theorem RdN.at_ {w : World} {B : Nat} {A : Option Addr} {l : List ByteArray} (h : RdN w B A l) {k : Nat} (hk : k < l.length) : ∃ ad y, A = some ad ∧ ad.block < B ∧ l[k]? = some y ∧ w.cell? (ad.add k) = some (.string y) := by
  have he : l[k]? = some l[k] := List.getElem?_eq_getElem hk
  obtain ⟨ad, e, hb, hc⟩ := h (by rintro rfl; simp at hk)
  exact ⟨ad, _, e, hb, he, hc k _ he⟩
theorem RdN.of_own {w : World} {base : Nat} {e : TypeId} {A : Option Addr} {c : Nat} {l : List ByteArray} (h : w.ownsRow base e 1 (.slice A l.length c) l.length (nmC l)) : RdN w w.heap.size A l := fun hn => by
  rcases h.2 with ⟨h1, h2⟩ | ⟨g, cap, cur, h1, h2, h3, h4, h5, h6, h7⟩
  · exact absurd (List.length_eq_zero_iff.1 h2) hn
  · have hA : A = some ⟨g, 0, none⟩ := by injection h1
    subst hA
    refine ⟨_, rfl, (Array.getElem?_eq_some_iff.1 h3).1, fun i y hy => ?_⟩
    have hj : (nmC l)[i]? = some (.string y) := by rw [nmC, List.getElem?_map, hy]; rfl
    rw [(add_add6 g i 0).2.2, cell_of_row w g i cur _ (0, 0) h3]
    rw [← h7, List.getElem?_take] at hj
    split at hj
    · rw [← Array.getElem?_toList]; exact hj
    · cases hj
def hasN (l : List ByteArray) (s : ByteArray) : Bool := l.any fun y => y.toList == s.toList
end Go.Proofs.YtoekgbdomeklgaaGreatDoor
/- variable, names of the reference. -/
namespace Go.Proofs.YtoekgbdomeklgaaGreatDoor
set_option linter.unusedVariables false
set_option linter.unusedSimpArgs false
open Go.RowKit Go.Sort
/-- the row l behind list, from the row v -/
def LqR (T : TypeId) (z : Nat) (w : World) (B : Nat) (v : Value) (n : Nat) (xs : List Value) (w' : World) (v' : Value) : Prop := w'.ownsRow B T z v' n xs ∧ w.grownBy w' v.ownBlock ∧ (v'.ownBlock = v.ownBlock ∨ ∃ j, v'.ownBlock = some j ∧ w.heap.size ≤ j)
/-- the row l while list is under way -/
def LqI (T : TypeId) (z : Nat) (w : World) (x : Xt) (B : Nat) (ob : Option Nat) (n : Nat) (xs : List Value) (v : Value) (wr : World) : Prop := wr.ownsRow B T z v n xs ∧ (bxW w x).grownBy wr ob ∧ (v.ownBlock = ob ∨ ∃ j, v.ownBlock = some j ∧ (bxW w x).heap.size ≤ j)
theorem LqI.open_ {T : TypeId} {z : Nat} {w wr : World} {x : Xt} {B n : Nat} {ob : Option Nat} {xs : List Value} {v : Value} (h : LqI T z w x B ob n xs v wr) (hB : B ≤ w.heap.size) (hl : ∀ j, ob = some j → B ≤ j ∧ j < w.heap.size) :
    Below B w wr ∧ (wr.cell? ⟨w.heap.size, 0, none⟩ = some (.int .i64 x.k) ∧ wr.cell? ⟨w.heap.size, 1, none⟩ = some (.int .i64 x.op) ∧ wr.cell? ⟨w.heap.size, 2, none⟩ = some (.int .i64 x.t) ∧ wr.cell? ⟨w.heap.size, 3, none⟩ = some (.int .i64 x.v) ∧ wr.cell? ⟨w.heap.size, 4, none⟩ = some (.string x.nm) ∧ wr.cell? ⟨w.heap.size, 5, none⟩ = some (.slice x.A x.ar.length x.c)) ∧ w.heap.size < wr.heap.size := by
  obtain ⟨_, hg, _⟩ := h
  have hz := hg.size
  rw [bxW_size] at hz
  have hne : some w.heap.size ≠ ob := fun e => by have := (hl _ e.symm).2; omega
  refine ⟨Below.grown ((bel_box _).mono hB) hg (by rw [bxW_size]; omega) (fun j hj => (hl j hj).1), ⟨?_, ?_, ?_, ?_, ?_, ?_⟩, by omega⟩ <;> exact hg.cell (by simp [go_sem]) hne
theorem LqI.next {T : TypeId} {z : Nat} {w wr w1 : World} {x : Xt} {B n m : Nat} {ob : Option Nat} {xs ys : List Value} {v v' : Value} (h : LqI T z w x B ob n xs v wr) (k : LqR T z wr B v m ys w1 v') : LqI T z w x B ob m ys v' w1 := by
  obtain ⟨_, hg, ha⟩ := h
  obtain ⟨k1, k2, k3⟩ := k
  have hz := hg.size
  refine ⟨k1, hg.andThen k2 fun j hj => ?_, ?_⟩
  · rcases ha with ha | ⟨j', e, hj'⟩
    · exact .inr (ha.symm.trans hj)
    · rw [e] at hj
      exact .inl (by have := Option.some.inj hj; omega)
  · rcases k3 with k3 | ⟨j, e, hj⟩
    · rw [k3]; exact ha
    · exact .inr ⟨j, e, by omega⟩
theorem LqI.first {T : TypeId} {z : Nat} {w W w3 : World} {x : Xt} {B m : Nat} {ob : Option Nat} {ys : List Value} {v' : Value} (hW : Below (bxW w x).heap.size (bxW w x) W) (h1 : w3.ownsRow B T z v' m ys) (h2 : W.grownBy w3 ob) (h3 : v'.ownBlock = ob ∨ v'.ownBlock = some W.heap.size) : LqI T z w x B ob m ys v' w3 := by
  refine ⟨h1, ?_, h3.imp id fun e => ⟨_, e, hW.size⟩⟩
  exact ((below_grown hW).but ob).andThen h2 fun j hj => .inr hj
theorem LqI.last {T : TypeId} {z : Nat} {w wr : World} {x : Xt} {B n : Nat} {v0 : Value} {xs : List Value} {v : Value} (h : LqI T z w x B v0.ownBlock n xs v wr) : LqR T z w B v0 n xs wr v := by
  obtain ⟨h1, h2, h3⟩ := h
  refine ⟨h1, (World.grownBy_alloc w _ _).trans h2, h3.imp id fun ⟨j, e, hj⟩ => ⟨j, e, by rw [bxW_size] at hj; omega⟩⟩
/-- the parts on which it depends at the same instant (or all) -/
def kidsI (b : Bool) (x : Xt) : List Xt := if (b && x.k == 5) = true then [] else if (b && x.k == 7) = true then x.ar.take 1 else x.ar
theorem kids_mem {b : Bool} {x y : Xt} (h : y ∈ kidsI b x) : y ∈ x.ar := by
  unfold kidsI at h
  split at h
  · cases h
  · split at h
    · exact List.mem_of_mem_take h
    · exact h
def Xt.lst (b : Bool) (x : Xt) : List Xt := x :: ((kidsI b x).attach.map fun a => Xt.lst b a.1).flatten
termination_by SizeOf.sizeOf x
decreasing_by exact Xt.lt_of_mem (kids_mem a.2)
theorem Xt.lst_eq (b : Bool) (x : Xt) : x.lst b = x :: ((kidsI b x).map (Xt.lst b)).flatten := by
  rw [Xt.lst]
  congr 2
  simp
def stepN (acc : List ByteArray) (x : Xt) : List ByteArray := if (hasVar x.k && !hasN acc x.nm) = true then acc ++ [x.nm] else acc
def nmS (b : Bool) (x : Xt) (acc : List ByteArray) : List ByteArray := (x.lst b).foldl stepN acc
theorem step_length (acc : List ByteArray) (x : Xt) : (stepN acc x).length ≤ acc.length + 1 := by
  unfold stepN; split <;> simp
theorem kids_size (b : Bool) (x : Xt) : ((kidsI b x).map Xt.size).sum ≤ (x.ar.map Xt.size).sum := by
  unfold kidsI
  split
  · simp
  · split
    · exact sum_take_le _ _ _
    · exact Nat.le_refl _
theorem stInfo : (Tryz.prog.info? 9).map (fun i => (i.zero, i.size, i.bytes)) = some (some (.string ⟨#[]⟩), 1, 16) := by kernel_rfl
end Go.Proofs.YtoekgbdomeklgaaGreatDoor
/- names of the reference. -/
namespace Go.Proofs.YtoekgbdomeklgaaGreatDoor
set_option linter.unusedVariables false
set_option linter.unusedSimpArgs false
open Go.RowKit Go.Sort
theorem nmC_snoc (l : List ByteArray) (s : ByteArray) : nmC (l ++ [s]) = nmC l ++ [Value.string s] := by simp [nmC]
theorem LqI.same {T : TypeId} {z : Nat} {w W : World} {x : Xt} {B n : Nat} {xs : List Value} {v : Value} (hW : Below (bxW w x).heap.size (bxW w x) W) (h : w.ownsRow B T z v n xs) : LqI T z w x B v.ownBlock n xs v W :=
  ⟨own_keep6 (own_keep6 h (bel_box _)) hW, (below_grown hW).but _, .inl rfl⟩
end Go.Proofs.YtoekgbdomeklgaaGreatDoor
/- Names, Instant, SameNames of the reference. -/
namespace Go.Proofs.YtoekgbdomeklgaaGreatDoor
set_option linter.unusedVariables false
set_option linter.unusedSimpArgs false
open Go.RowKit Go.Sort
/-- a list of names, new -/
def NewN (l : List ByteArray) (w : World) (e : Ending) (w' : World) : Prop := ∃ A c, e = .returned (.slice A l.length c) ∧ RdN w' w'.heap.size A l ∧ Below w.heap.size w w'
def sameN (a b : List ByteArray) : Bool := a.map ByteArray.toList == b.map ByteArray.toList
theorem same_step {a b : List ByteArray} {k : Nat} {y z : ByteArray} (ha : a[k]? = some y) (hb : b[k]? = some z) (h : (a.take k).map ByteArray.toList = (b.take k).map ByteArray.toList) (hy : (y.toList == z.toList) = true) : (a.take (k + 1)).map ByteArray.toList = (b.take (k + 1)).map ByteArray.toList := by
  rw [take_succ_of ha, take_succ_of hb, List.map_append, List.map_append, h, List.map_singleton, List.map_singleton, eq_of_beq hy]
theorem same_no {a b : List ByteArray} {k : Nat} {y z : ByteArray} (ha : a[k]? = some y) (hb : b[k]? = some z) (hy : (y.toList == z.toList) = false) : sameN a b = false := by
  rw [sameN, beq_eq_false_iff_ne]
  intro e
  have h := congrArg (fun l => l[k]?) e
  simp only [List.getElem?_map, ha, hb, Option.map_some] at h
  rw [Option.some.inj h] at hy
  simp at hy
set_option maxHeartbeats 1000000 in
set_option maxRecDepth 20000 in
theorem rsame_any (A A' : Option Addr) (c c' : Nat) (a b : List ByteArray) (w : World) (hA : RdN w w.heap.size A a) (hB : RdN w w.heap.size A' b) (ha : a.length ≤ 200000) (hb : b.length ≤ 200000) : Calls Tryz.prog 20 #[.slice A a.length c, .slice A' b.length c'] w (Bel (.bool (sameN a b)) w) := by
  have H1 := Lib.hid (fun k y z (p : a[k]? = some y) (q : b[k]? = some z) h => same_step p q h)
  have H2 := Lib.hid (fun k y z (p : a[k]? = some y) (q : b[k]? = some z) h => same_no p q h)
  by_cases hl : a.length = b.length
  · have H3 : Hid (a.map ByteArray.toList = b.map ByteArray.toList → sameN a b = true) := Lib.hid fun h => by rw [sameN, h]; exact beq_self_eq_true _
    generalize sameN a b = V at *
    obtain ⟨n, hn⟩ : ∃ n, a.length = n := ⟨_, rfl⟩
    have hm : b.length = n := hl ▸ hn
    rw [hn, hm]
    have HL := Lib.hid (And.intro hn hm)
    rw [hn] at ha
    clear hl hn hm hb
    go_enter Tryz.func20, Tryz.ntmps20
    go_wp2
    go_loopw [5] (fun i wr => ∃ k : Nat, k ≤ n ∧ i = .int .i64 (k : Int) ∧ Below w.heap.size w wr ∧ Hid ((a.take k).map ByteArray.toList = (b.take k).map ByteArray.toList)) (fun i _ => n - (intOf i).toNat)
    case atStart => exact ⟨0, by omega, rfl, Below.refl _ _, Lib.hid rfl⟩
    case round =>
      obtain ⟨k, hk, rfl, hbl, hno⟩ := hrel
      by_cases hlt : k < n
      · obtain ⟨ad, y, rfl, had, hy, c0⟩   := (hA.to hbl).at_ (k := k) (by rw [HL.out.1]; exact hlt)
        obtain ⟨ad', z, rfl, had', hz, c0'⟩ := (hB.to hbl).at_ (k := k) (by rw [HL.out.2]; exact hlt)
        have h1 := H1.out k y z hy hz hno.out
        have h2 := H2.out k y z hy hz
        clear hy hz
        cases q : (y.toList == z.toList)
        · have h3 := h2 q
          clear h1 h2
          go_wp2
          go_quiet (fail)
          go_wp2
          go_ret
          exact ⟨by rw [h3]; rfl, (by repeat (first | (with_reducible exact Below.refl _ _) | (with_reducible assumption) | (with_reducible exact bel_box _) | (with_reducible refine bel_step ?_ (by with_reducible assumption)) | (with_reducible refine Below.drew ?_) | (with_reducible refine below_drewN ?_ _) | (with_reducible refine bel_alloc ?_ _)))⟩
        · have H4 := Lib.hid (h1 q)
          clear h1 h2
          go_wp2
          go_quiet (fail)
          go_wp2
          exact ⟨⟨k + 1, by omega, by congr 1, (by repeat (first | (with_reducible exact Below.refl _ _) | (with_reducible assumption) | (with_reducible exact bel_box _) | (with_reducible refine bel_step ?_ (by with_reducible assumption)) | (with_reducible refine Below.drew ?_) | (with_reducible refine below_drewN ?_ _) | (with_reducible refine bel_alloc ?_ _))), H4⟩, by simp [intOf]; omega⟩
      · obtain rfl : k = n := by omega
        have h1 := hno.out
        rw [← HL.out.1, List.take_length, HL.out.1, ← HL.out.2, List.take_length] at h1
        have h2 := H3.out h1
        clear h1 hno
        go_wp2
        go_ret
        exact ⟨by rw [h2]; rfl, hbl⟩
  · have h3 : sameN a b = false := by
      rw [sameN, beq_eq_false_iff_ne]
      intro e
      have := congrArg List.length e
      simp at this
      omega
    rw [h3]
    have hl2 : (((a.length : Nat) : Int) != ((b.length : Nat) : Int)) = true := by simp; omega
    go_enter Tryz.func20, Tryz.ntmps20
    go_wp2
    go_ret
    exact ⟨rfl, Below.refl _ _⟩
end Go.Proofs.YtoekgbdomeklgaaGreatDoor
/- The iterator over what an expression depends on at the same instant. -/
namespace Go.Proofs.YtoekgbdomeklgaaGreatDoor
set_option linter.unusedVariables false
set_option linter.unusedSimpArgs false
open Go.RowKit Go.Shelf
attribute [local go_sem] Oper.semAt_some
def iA (x : Xt) : Option Addr := if x.k = 5 then none else x.A
def iC (x : Xt) : Nat := if x.k = 5 then 0 else x.c
theorem kids_length (b : Bool) (x : Xt) : (kidsI b x).length ≤ x.ar.length := by
  unfold kidsI
  split
  · simp
  · split
    · simp; omega
    · exact Nat.le_refl _
theorem lst_pos (x : Xt) : 1 ≤ (x.lst true).length := by rw [Xt.lst_eq]; simp
theorem RdX.at_kid {w : World} {B : Nat} {x : Xt} (h : RdX w B x) {k : Nat} (hk : k < (kidsI true x).length) : ∃ ad y, iA x = some ad ∧ ad.block < B ∧ (kidsI true x)[k]? = some y ∧ y ∈ x.ar ∧ XC w (ad.add (k * 6)) y ∧ RdX w B y := by
  have hl := kids_length true x
  obtain ⟨ad, y, hA, had, hy, hm, hc, hr⟩ := h.at_ (i := k) (by omega)
  have h5 : x.k ≠ 5 := by
    intro e
    rw [kidsI, if_pos (by rw [e]; rfl)] at hk
    simp at hk
  refine ⟨ad, y, by rw [iA, if_neg h5]; exact hA, had, ?_, hm, hc, hr⟩
  unfold kidsI at hk ⊢
  rw [if_neg (by simpa using h5)] at hk ⊢
  split
  · rename_i h7
    rw [if_pos h7] at hk
    rw [List.getElem?_take, if_pos (by simp at hk; omega)]
    exact hy
  · exact hy
theorem parts_lst (x : Xt) : ∃ L : Nat → List Xt, x.lst true = x :: L (kidsI true x).length ∧ L 0 = [] ∧ Hid (∀ (k : Nat) (y : Xt), (kidsI true x)[k]? = some y → L (k + 1) = L k ++ y.lst true ∧ (L k).length + (y.lst true).length + 1 ≤ (x.lst true).length ∧ ∃ r, L k ++ y.lst true ++ r = L (kidsI true x).length) := by
  refine ⟨fun k => (((kidsI true x).take k).map (Xt.lst true)).flatten, ?_, rfl, Lib.hid fun k y hy => ?_⟩
  · simp only [List.take_length]
    exact Xt.lst_eq true x
  · have e1 : (((kidsI true x).take (k + 1)).map (Xt.lst true)).flatten = (((kidsI true x).take k).map (Xt.lst true)).flatten ++ y.lst true := by
      rw [take_succ_of hy, List.map_append, List.flatten_append]
      simp
    have e2 : (((kidsI true x).take k).map (Xt.lst true)).flatten ++ y.lst true ++ (((kidsI true x).drop (k + 1)).map (Xt.lst true)).flatten = (((kidsI true x).take (kidsI true x).length).map (Xt.lst true)).flatten := by
      rw [← e1, ← List.flatten_append, ← List.map_append, List.take_append_drop, List.take_length]
    refine ⟨e1, ?_, _, e2⟩
    have h1 := congrArg List.length e2
    have h2 := congrArg List.length (Xt.lst_eq true x)
    rw [List.length_cons] at h2
    rw [List.take_length] at h1
    rw [List.length_append, List.length_append] at h1
    simp only
    omega
set_option maxHeartbeats 1000000 in
theorem instant_any (x : Xt) (w : World) (h9 : x.ar.length ≤ 2 ^ 63 - 1) (hcap : x.ar.length ≤ x.c) : Calls Tryz.prog 32 #[xV x] w (Bel (.slice (iA x) (kidsI true x).length (iC x)) w) := by
  by_cases h5 : x.k = 5
  · have e1 : iA x = none := if_pos h5
    have e2 : iC x = 0 := if_pos h5
    have e3 : kidsI true x = [] := by rw [kidsI, if_pos (by rw [h5]; rfl)]
    rw [e1, e2, e3]
    have h5' : (x.k == 5) = true := by rw [h5]; rfl
    simp only [xV]
    go_enter Tryz.func32, Tryz.ntmps32
    go_wp2
    all_goals go_ret
    all_goals exact ⟨rfl, (by repeat (first | (with_reducible exact Below.refl _ _) | (with_reducible assumption) | (with_reducible exact bel_box _) | (with_reducible refine bel_step ?_ (by with_reducible assumption)) | (with_reducible refine Below.drew ?_) | (with_reducible refine below_drewN ?_ _) | (with_reducible refine bel_alloc ?_ _)))⟩
  · have e1 : iA x = x.A := if_neg h5
    have e2 : iC x = x.c := if_neg h5
    have h5' : (x.k == 5) = false := by simpa using h5
    rw [e1, e2]
    by_cases h7 : x.k = 7
    · have e3 : (kidsI true x).length = min 1 x.ar.length := by
        rw [kidsI, if_neg (by rw [Bool.true_and, h5']; simp), if_pos (by rw [h7]; rfl), List.length_take]
      rw [e3]
      have h7' : (x.k == 7) = true := by rw [h7]; rfl
      simp only [xV]
      go_enter Tryz.func32, Tryz.ntmps32
      go_wp2
      all_goals first
        | (exfalso; omega)
        | (go_ret; exact ⟨by rw [show (min 1 (x.ar.length : Int)).toNat = min 1 x.ar.length by omega]; rfl, (by repeat (first | (with_reducible exact Below.refl _ _) | (with_reducible assumption) | (with_reducible exact bel_box _) | (with_reducible refine bel_step ?_ (by with_reducible assumption)) | (with_reducible refine Below.drew ?_) | (with_reducible refine below_drewN ?_ _) | (with_reducible refine bel_alloc ?_ _)))⟩)
    · have e3 : kidsI true x = x.ar := by
        rw [kidsI, if_neg (by rw [Bool.true_and, h5']; simp), if_neg (by simpa using h7)]
      rw [e3]
      have h7' : (x.k == 7) = false := by simpa using h7
      simp only [xV]
      go_enter Tryz.func32, Tryz.ntmps32
      go_wp2
      all_goals go_ret
      all_goals exact ⟨rfl, (by repeat (first | (with_reducible exact Below.refl _ _) | (with_reducible assumption) | (with_reducible exact bel_box _) | (with_reducible refine bel_step ?_ (by with_reducible assumption)) | (with_reducible refine Below.drew ?_) | (with_reducible refine below_drewN ?_ _) | (with_reducible refine bel_alloc ?_ _)))⟩
end Go.Proofs.YtoekgbdomeklgaaGreatDoor
/- What within hands back, for what an expression depends on at the same instant. -/
namespace Go.Proofs.YtoekgbdomeklgaaGreatDoor
set_option linter.unusedVariables false
set_option linter.unusedSimpArgs false
open Go.RowKit Go.Shelf
attribute [local go_sem] Oper.semAt_some
theorem lst_false (x : Xt) : x.lst false = x.list := by
  induction x using Xt.ind with
  | h x ih =>
    rw [Xt.lst_eq, Xt.list_eq]
    have e : kidsI false x = x.ar := rfl
    rw [e, List.map_congr_left ih]
theorem lst_len (x : Xt) : (x.lst true).length ≤ x.size := by
  induction x using Xt.ind with
  | h x ih =>
    rw [Xt.lst_eq, Xt.size_eq, List.length_cons, List.length_flatten, List.map_map]
    have h1 := kids_size true x
    have h2 : ((kidsI true x).map (List.length ∘ Xt.lst true)).sum ≤ ((kidsI true x).map Xt.size).sum := by
      have hm : ∀ y ∈ kidsI true x, (y.lst true).length ≤ y.size := fun y hy => ih y (kids_mem hy)
      generalize kidsI true x = l at hm
      induction l with
      | nil => simp
      | cons a l ih2 =>
        have h3 := hm a (by simp)
        have h4 := ih2 fun y hy => hm y (by simp [hy])
        simp only [List.map_cons, List.sum_cons, Function.comp_def] at h4 ⊢
        omega
    omega
end Go.Proofs.YtoekgbdomeklgaaGreatDoor
/- The iterators again, for a consumer that grows rows of names: what a round leaves are the cells that lay ahead, and the boxes of expressions. -/
namespace Go.Proofs.YtoekgbdomeklgaaGreatDoor
set_option linter.unusedVariables false
set_option linter.unusedSimpArgs false
open Go.RowKit Go.Shelf
attribute [local go_sem] Oper.semAt_some
/-- what a round leaves: the cells below n₀, and whatever box of an expression -/
def KY (n₀ : Nat) (W W' : World) : Prop := W.heap.size ≤ W'.heap.size ∧ ∀ k o, W.heap[k]? = some o → o.isCells = true → (k < n₀ ∨ ∃ cs fz, o = .cells cs 24 fz) → W'.heap[k]? = some o
theorem KY.refl (n₀ : Nat) (W : World) : KY n₀ W W := ⟨Nat.le_refl _, fun _ _ h _ _ => h⟩
theorem KY.trans {n₀ : Nat} {A B C : World} (h : KY n₀ A B) (g : KY n₀ B C) : KY n₀ A C := ⟨Nat.le_trans h.1 g.1, fun k o ho hc hd => g.2 k o (h.2 k o ho hc hd) hc hd⟩
theorem KY.of_below {n₀ : Nat} {W W' : World} (h : Below W.heap.size W W') : KY n₀ W W' := ⟨h.size, fun k o ho _ _ => (h.block k (Array.getElem?_eq_some_iff.1 ho).1).trans ho⟩
theorem KY.cell {n₀ : Nat} {W W' : World} (h : KY n₀ W W') {a : Addr} {v : Value} (hs : a.block < n₀) (hc : W.cell? a = some v) : W'.cell? a = some v := by
  obtain ⟨o, ho, hk⟩ := cells_of_cell hc
  exact (World.cell?_of_block ((h.2 _ o ho hk (.inl hs)).trans ho.symm)).trans hc
theorem KY.bx {n₀ : Nat} {W W2 : World} {x : Xt} (h : KY n₀ (bxW W x) W2) : W2.cell? ⟨W.heap.size, 0, none⟩ = some (.int .i64 x.k) ∧ W2.cell? ⟨W.heap.size, 1, none⟩ = some (.int .i64 x.op) ∧ W2.cell? ⟨W.heap.size, 2, none⟩ = some (.int .i64 x.t) ∧ W2.cell? ⟨W.heap.size, 3, none⟩ = some (.int .i64 x.v) ∧ W2.cell? ⟨W.heap.size, 4, none⟩ = some (.string x.nm) ∧ W2.cell? ⟨W.heap.size, 5, none⟩ = some (.slice x.A x.ar.length x.c) := by
  obtain ⟨b0, b1, b2, b3, b4, b5⟩ := bx_box W x
  have ho := World.alloc_heap_new W (.cells #[.int .i64 x.k, .int .i64 x.op, .int .i64 x.t, .int .i64 x.v, .string x.nm, .slice x.A x.ar.length x.c] 24)
  have key : W2.heap[W.heap.size]? = (bxW W x).heap[W.heap.size]? := (h.2 _ _ ho rfl (.inr ⟨_, _, rfl⟩)).trans ho.symm
  exact ⟨(World.cell?_of_block key).trans b0, (World.cell?_of_block key).trans b1, (World.cell?_of_block key).trans b2, (World.cell?_of_block key).trans b3, (World.cell?_of_block key).trans b4, (World.cell?_of_block key).trans b5⟩
theorem KY.put {n₀ : Nat} (W : World) (l : Nat) (o o' : Obj) (ho : W.heap[l]? = some o) (hc : o.isCells = false) : KY n₀ W (W.putObj l o') := by
  refine ⟨by simp, fun k q hq hqc _ => ?_⟩
  rw [World.putObj_heap_other (fun e => by subst e; rw [ho] at hq; injection hq with hq; subst hq; rw [hc] at hqc; cases hqc)]
  exact hq
theorem KY_t {n₀ : Nat} : ∀ {A B C : World}, KY n₀ A B → KY n₀ B C → KY n₀ A C := fun h g => h.trans g
theorem KY_b {n₀ N : Nat} : ∀ (W : World) (l : Nat) (o o' : Obj), N ≤ l → W.heap[l]? = some o → o.isCells = false → o.isWalk = false → KY n₀ W (W.putObj l o') := fun W l o o' _ ho hc _ => KY.put W l o o' ho hc
theorem RdX.ky {W W' : World} {n₀ : Nat} {x : Xt} (h : RdX W n₀ x) (hk : KY n₀ W W') : RdX W' n₀ x := by
  induction h with
  | mk x h0 h1 h2 h3 ih =>
    refine .mk x h0 (fun ad i y ha hy => ?_) ih h3
    obtain ⟨ad', e, hb⟩ := h0 (by intro e; rw [e] at hy; simp at hy)
    obtain rfl : ad = ad' := Option.some.inj (ha.symm.trans e)
    have hn : (ad.add (i * 6)).block < n₀ := by rw [add_block]; exact hb
    obtain ⟨c0, c1, c2, c3, c4, c5⟩ := h1 ad i y ha hy
    exact ⟨hk.cell hn c0, hk.cell (a := ⟨_, _, none⟩) hn c1, hk.cell (a := ⟨_, _, none⟩) hn c2, hk.cell (a := ⟨_, _, none⟩) hn c3, hk.cell (a := ⟨_, _, none⟩) hn c4, hk.cell (a := ⟨_, _, none⟩) hn c5⟩
set_option maxRecDepth 100000 in
set_option maxHeartbeats 4000000 in
theorem walkY_in (l n₀ B : Nat) (N : Nat) (J Jx : List Xt → World → Prop) (hJ : AbidesFrom B J) (P : Xt → Prop)
    (hY : ∀ m pre x W, P x → J pre W → pre.length < N → YieldAt Fence.wide m Tryz.prog l #[xV x] W fun e W' =>
      (e = .returned (.bool true) ∧ J (pre ++ [x]) W' ∧ KY n₀ W W') ∨ (e = .returned (.bool false) ∧ Jx (pre ++ [x]) W')) (x : Xt) :
    ∀ (n : Nat) (pre : List Xt) (W : World), (∀ y ∈ x.list, P y) → RdX W n₀ x → B ≤ W.heap.size → J pre W → pre.length + x.size ≤ N →
      CallsIn Fence.wide n Tryz.prog 26 #[xV x, .func (.func 11) #[] #[], .func (.yield l) #[] #[]] W fun e W' =>
        (e = .returned (.bool true) ∧ J (pre ++ x.list) W' ∧ KY n₀ W W') ∨ (e = .returned (.bool false) ∧ ∃ q, q <+: x.list ∧ Jx (pre ++ q) W') := by
  induction x using Xt.ind with
  | h x ih =>
    intro n pre W hP hX hB hj hN
    have hdd : ∀ k : Nat, (Fence.wide.depth.isSome = true → 1 ≤ k) := fun k h => by cases h
    have h9 := hX.len.1
    unfold maxLen at h9
    have hx1 := Xt.size_pos x
    obtain ⟨b0, b1, b2, b3, b4, b5⟩ := bx_box W x
    -- the round at x itself, with what the walk wants next beside it
    have hy0 := YieldAt.mono (R' := fun e W2 =>
        (e = .returned (.bool true) ∧ J (pre ++ [x]) W2 ∧ KY n₀ W W2 ∧ RdX W2 n₀ x ∧ W.heap.size < W2.heap.size ∧ W2.cell? ⟨W.heap.size, 0, none⟩ = some (.int .i64 x.k) ∧ W2.cell? ⟨W.heap.size, 1, none⟩ = some (.int .i64 x.op) ∧ W2.cell? ⟨W.heap.size, 2, none⟩ = some (.int .i64 x.t) ∧ W2.cell? ⟨W.heap.size, 3, none⟩ = some (.int .i64 x.v) ∧ W2.cell? ⟨W.heap.size, 4, none⟩ = some (.string x.nm) ∧ W2.cell? ⟨W.heap.size, 5, none⟩ = some (.slice x.A x.ar.length x.c)) ∨
        (e = .returned (.bool false) ∧ Jx (pre ++ [x]) W2)) (hY (n - 1) pre x (bxW W x) (hP x (by rw [Xt.list_eq]; simp)) (abides_below hJ hj (bel_box _)) (by omega)) fun e W2 h => h.elim (fun ⟨he, hj2, hk⟩ => .inl ⟨he, hj2, (KY.of_below (bel_box _)).trans hk, (hX.ky (KY.of_below (bel_box _))).ky hk, by have := hk.1; rw [bxW_size] at this; omega,
          hk.bx.1, hk.bx.2.1, hk.bx.2.2.1, hk.bx.2.2.2.1, hk.bx.2.2.2.2.1, hk.bx.2.2.2.2.2⟩) .inr
    have IH := Lib.hid ih
    have HX := Lib.hid hX
    have HP := Lib.hid hP
    obtain ⟨L, hL, hL0, HL⟩ := parts_list x
    rw [hL] at hP
    have HPL := Lib.hid hP
    clear hP HP
    rw [hL]
    have HA := Lib.hid (fun W => arguments_any x W)
    clear hX ih b0 b1 b2 b3 b4 b5 hY
    simp only [xV] at hy0 HA IH ⊢
    obtain ⟨fn, tmps, assign, body, hy, hR⟩ := hy0
    refine callsIn_of_wp Tryz.func26 rfl trivial ?_ rfl
    simp only [Tryz.ntmps26, List.size_toArray, List.length_cons, List.length_nil, Nat.reduceAdd, Nat.reduceSub, Array.replicate_succ, Array.replicate_zero, List.push_toArray, List.append_toArray, List.nil_append, List.cons_append]
    gi_wp2_with (first
      | ((try refine ⟨hdd _, ?_⟩); refine hR.mono ?_; clear hR; rintro e W2 (⟨rfl, hJ2, hk2, hX2, hz2, d0, d1, d2, d3, d4, d5⟩ | ⟨rfl, hx2⟩))
      | (refine ⟨trivial, hdd _, ?_⟩; gi_at_call 11; refine (callsIn_wide.2 (HA.out _)).mono ?_; rintro e W3 ⟨rfl, hb3⟩))
    · clear HA hy
      have hJ3 := abides_below hJ hJ2 hb3
      have hk3 : KY n₀ W W3 := hk2.trans (KY.of_below hb3)
      clear hX2 hz2 d0 d1 d2 d3 d4 d5 hJ2 hk2 hb3
      gi_loopw [17] (fun i wr => ∃ k : Nat, k ≤ x.ar.length ∧ i = .int .i64 (k : Int) ∧ J (pre ++ x :: L k) wr ∧ KY n₀ W wr) (fun i _ => x.ar.length - (intOf i).toNat)
      case atStart => exact ⟨0, by omega, rfl, by rw [hL0]; exact hJ3, hk3⟩
      case round =>
        obtain ⟨k, hk, rfl, hJk, hkk⟩ := hrel
        by_cases hlt : k < x.ar.length
        · have hXr := HX.out.ky hkk
          obtain ⟨ad, y, hA, had, hy, hm, ⟨c0, c1, c2, c3, c4, c5⟩, hr⟩ := hXr.at_ hlt
          obtain ⟨e1, e2, r, e3⟩ := HL.out k y hy
          have hcall := (IH.out y hm (n - 1) (pre ++ x :: L k) (bxW wr y) (fun z hz => HPL.out z (List.mem_cons.2 (.inr (by rw [← e3]; simp [hz])))) (hr.ky (KY.of_below (bel_box _))) (by rw [bxW_size]; have := hkk.1; omega) (abides_below hJ hJk (bel_box _)) (by simp only [List.length_append, List.length_cons]; omega)).mono (R' := fun e W5 =>
            (e = .returned (.bool true) ∧ J (pre ++ x :: L (k + 1)) W5 ∧ KY n₀ W W5) ∨ (e = .returned (.bool false) ∧ ∃ q, q <+: x :: L x.ar.length ∧ Jx (pre ++ q) W5)) (fun e W5 h => h.elim
              (fun ⟨he, hj5, hk5⟩ => .inl ⟨he, by rw [e1]; simpa [List.append_assoc] using hj5, (hkk.trans (KY.of_below (bel_box _))).trans hk5⟩)
              (fun ⟨he, q, ⟨t, ht⟩, hx5⟩ => .inr ⟨he, x :: L k ++ q, ⟨t ++ r, by rw [← e3, ← ht]; simp [List.append_assoc]⟩, by simpa [List.append_assoc] using hx5⟩))
          have HC := Lib.hid hcall
          clear hcall hXr hr e1 e2 e3 hy hJk hkk IH HL HPL
          rw [hA]
          clear hA
          gi_wp2_with (refine ⟨trivial, hdd _, ?_⟩; gi_at_call 26; refine HC.out.mono ?_; clear HC; rintro e W5 (⟨rfl, hJ5, hk5⟩ | ⟨rfl, q, hq, hx5⟩))
          · exact ⟨⟨k + 1, by omega, by congr 1, hJ5, hk5⟩, by simp [intOf]; omega⟩
          · go_ret
            exact .inr ⟨rfl, q, hq, hx5⟩
        · obtain rfl : k = x.ar.length := by omega
          gi_wp2
          go_ret
          exact .inl ⟨rfl, hJk, hkk⟩
    · go_ret
      exact .inr ⟨rfl, [x], ⟨L x.ar.length, rfl⟩, hx2⟩
set_option maxRecDepth 100000 in
set_option maxHeartbeats 4000000 in
theorem walkYI_in (l n₀ B : Nat) (N : Nat) (J Jx : List Xt → World → Prop) (hJ : AbidesFrom B J) (P : Xt → Prop)
    (hY : ∀ m pre x W, P x → J pre W → pre.length < N → YieldAt Fence.wide m Tryz.prog l #[xV x] W fun e W' =>
      (e = .returned (.bool true) ∧ J (pre ++ [x]) W' ∧ KY n₀ W W') ∨ (e = .returned (.bool false) ∧ Jx (pre ++ [x]) W')) (x : Xt) :
    ∀ (n : Nat) (pre : List Xt) (W : World), (∀ y ∈ x.lst true, P y) → RdX W n₀ x → B ≤ W.heap.size → J pre W → pre.length + (x.lst true).length ≤ N →
      CallsIn Fence.wide n Tryz.prog 26 #[xV x, .func (.func 32) #[] #[], .func (.yield l) #[] #[]] W fun e W' =>
        (e = .returned (.bool true) ∧ J (pre ++ x.lst true) W' ∧ KY n₀ W W') ∨ (e = .returned (.bool false) ∧ ∃ q, q <+: x.lst true ∧ Jx (pre ++ q) W') := by
  induction x using Xt.ind with
  | h x ih =>
    intro n pre W hP hX hB hj hN
    have hdd : ∀ k : Nat, (Fence.wide.depth.isSome = true → 1 ≤ k) := fun k h => by cases h
    have h9 := hX.len.1
    unfold maxLen at h9
    have hx1 := lst_pos x
    obtain ⟨b0, b1, b2, b3, b4, b5⟩ := bx_box W x
    -- the round at x itself, with what the walk wants next beside it
    have hy0 := YieldAt.mono (R' := fun e W2 =>
        (e = .returned (.bool true) ∧ J (pre ++ [x]) W2 ∧ KY n₀ W W2 ∧ RdX W2 n₀ x ∧ W.heap.size < W2.heap.size ∧ W2.cell? ⟨W.heap.size, 0, none⟩ = some (.int .i64 x.k) ∧ W2.cell? ⟨W.heap.size, 1, none⟩ = some (.int .i64 x.op) ∧ W2.cell? ⟨W.heap.size, 2, none⟩ = some (.int .i64 x.t) ∧ W2.cell? ⟨W.heap.size, 3, none⟩ = some (.int .i64 x.v) ∧ W2.cell? ⟨W.heap.size, 4, none⟩ = some (.string x.nm) ∧ W2.cell? ⟨W.heap.size, 5, none⟩ = some (.slice x.A x.ar.length x.c)) ∨
        (e = .returned (.bool false) ∧ Jx (pre ++ [x]) W2)) (hY (n - 1) pre x (bxW W x) (hP x (by rw [Xt.lst_eq]; simp)) (abides_below hJ hj (bel_box _)) (by omega)) fun e W2 h => h.elim (fun ⟨he, hj2, hk⟩ => .inl ⟨he, hj2, (KY.of_below (bel_box _)).trans hk, (hX.ky (KY.of_below (bel_box _))).ky hk, by have := hk.1; rw [bxW_size] at this; omega,
          hk.bx.1, hk.bx.2.1, hk.bx.2.2.1, hk.bx.2.2.2.1, hk.bx.2.2.2.2.1, hk.bx.2.2.2.2.2⟩) .inr
    have IH := Lib.hid ih
    have HX := Lib.hid hX
    have HP := Lib.hid hP
    obtain ⟨L, hL, hL0, HL⟩ := parts_lst x
    have hkl := kids_length true x
    have AK : Hid (∀ {w : World} {B : Nat}, RdX w B x → ∀ {k : Nat}, k < (kidsI true x).length → ∃ ad y, iA x = some ad ∧ ad.block < B ∧ (kidsI true x)[k]? = some y ∧ y ∈ x.ar ∧ XC w (ad.add (k * 6)) y ∧ RdX w B y) := Lib.hid fun h => h.at_kid
    rw [hL] at hP
    have HPL := Lib.hid hP
    clear hP HP
    rw [hL]
    have HA := Lib.hid (fun W => instant_any x W h9 HX.out.cap)
    obtain ⟨M, hM⟩ : ∃ M, (kidsI true x).length = M := ⟨_, rfl⟩
    rw [hM] at HA AK HL hkl HPL
    rw [hM]
    clear hX ih b0 b1 b2 b3 b4 b5 hY
    simp only [xV] at hy0 HA IH ⊢
    obtain ⟨fn, tmps, assign, body, hy, hR⟩ := hy0
    refine callsIn_of_wp Tryz.func26 rfl trivial ?_ rfl
    simp only [Tryz.ntmps26, List.size_toArray, List.length_cons, List.length_nil, Nat.reduceAdd, Nat.reduceSub, Array.replicate_succ, Array.replicate_zero, List.push_toArray, List.append_toArray, List.nil_append, List.cons_append]
    gi_wp2_with (first
      | ((try refine ⟨hdd _, ?_⟩); refine hR.mono ?_; clear hR; rintro e W2 (⟨rfl, hJ2, hk2, hX2, hz2, d0, d1, d2, d3, d4, d5⟩ | ⟨rfl, hx2⟩))
      | (refine ⟨trivial, hdd _, ?_⟩; gi_at_call 32; refine (callsIn_wide.2 (HA.out _)).mono ?_; rintro e W3 ⟨rfl, hb3⟩))
    · clear HA hy
      have hJ3 := abides_below hJ hJ2 hb3
      have hk3 : KY n₀ W W3 := hk2.trans (KY.of_below hb3)
      clear hX2 hz2 d0 d1 d2 d3 d4 d5 hJ2 hk2 hb3
      gi_loopw [17] (fun i wr => ∃ k : Nat, k ≤ M ∧ i = .int .i64 (k : Int) ∧ J (pre ++ x :: L k) wr ∧ KY n₀ W wr) (fun i _ => M - (intOf i).toNat)
      case atStart => exact ⟨0, by omega, rfl, by rw [hL0]; exact hJ3, hk3⟩
      case round =>
        obtain ⟨k, hk, rfl, hJk, hkk⟩ := hrel
        by_cases hlt : k < M
        · have hXr := HX.out.ky hkk
          obtain ⟨ad, y, hA, had, hy, hm, ⟨c0, c1, c2, c3, c4, c5⟩, hr⟩ := AK.out hXr hlt
          obtain ⟨e1, e2, r, e3⟩ := HL.out k y hy
          have hcall := (IH.out y hm (n - 1) (pre ++ x :: L k) (bxW wr y) (fun z hz => HPL.out z (List.mem_cons.2 (.inr (by rw [← e3]; simp [hz])))) (hr.ky (KY.of_below (bel_box _))) (by rw [bxW_size]; have := hkk.1; omega) (abides_below hJ hJk (bel_box _)) (by simp only [List.length_append, List.length_cons]; omega)).mono (R' := fun e W5 =>
            (e = .returned (.bool true) ∧ J (pre ++ x :: L (k + 1)) W5 ∧ KY n₀ W W5) ∨ (e = .returned (.bool false) ∧ ∃ q, q <+: x :: L M ∧ Jx (pre ++ q) W5)) (fun e W5 h => h.elim
              (fun ⟨he, hj5, hk5⟩ => .inl ⟨he, by rw [e1]; simpa [List.append_assoc] using hj5, (hkk.trans (KY.of_below (bel_box _))).trans hk5⟩)
              (fun ⟨he, q, ⟨t, ht⟩, hx5⟩ => .inr ⟨he, x :: L k ++ q, ⟨t ++ r, by rw [← e3, ← ht]; simp [List.append_assoc]⟩, by simpa [List.append_assoc] using hx5⟩))
          have HC := Lib.hid hcall
          clear hcall hXr hr e1 e2 e3 hy hJk hkk IH HL HPL AK
          rw [hA]
          clear hA
          gi_wp2_with (refine ⟨trivial, hdd _, ?_⟩; gi_at_call 26; refine HC.out.mono ?_; clear HC; rintro e W5 (⟨rfl, hJ5, hk5⟩ | ⟨rfl, q, hq, hx5⟩))
          · exact ⟨⟨k + 1, by omega, by congr 1, hJ5, hk5⟩, by simp [intOf]; omega⟩
          · go_ret
            exact .inr ⟨rfl, q, hq, hx5⟩
        · obtain rfl : k = M := by omega
          gi_wp2
          go_ret
          exact .inl ⟨rfl, hJk, hkk⟩
    · go_ret
      exact .inr ⟨rfl, [x], ⟨L M, rfl⟩, hx2⟩
end Go.Proofs.YtoekgbdomeklgaaGreatDoor
/- What within hands back, for a consumer that grows rows of names. -/
namespace Go.Proofs.YtoekgbdomeklgaaGreatDoor
set_option linter.unusedVariables false
set_option linter.unusedSimpArgs false
open Go.RowKit Go.Shelf
attribute [local go_sem] Oper.semAt_some
set_option maxHeartbeats 1000000 in
set_option maxRecDepth 100000 in
theorem withinY_stopsP (P : Xt → Prop) (n be bp n₀ : Nat) (x : Xt) (w : World) (hP : ∀ y ∈ x.list, P y) (hn₀ : n₀ ≤ w.heap.size) (hbe : be < w.heap.size) (hbp : bp < w.heap.size) (hX : RdX w n₀ x)
    (c0 : w.cell? ⟨be, 0, none⟩ = some (.int .i64 x.k)) (c1 : w.cell? ⟨be, 1, none⟩ = some (.int .i64 x.op)) (c2 : w.cell? ⟨be, 2, none⟩ = some (.int .i64 x.t)) (c3 : w.cell? ⟨be, 3, none⟩ = some (.int .i64 x.v)) (c4 : w.cell? ⟨be, 4, none⟩ = some (.string x.nm)) (c5 : w.cell? ⟨be, 5, none⟩ = some (.slice x.A x.ar.length x.c)) (cp : w.cell? ⟨bp, 0, none⟩ = some (.func (.func 11) #[] #[])) :
    SeqStopsK Fence.wide n Tryz.prog 25 #[.pointer (some ⟨be, 0, none⟩), .pointer (some ⟨bp, 0, none⟩)] (fun y : {y : Xt // P y} => #[xV y.1]) (KY n₀) (fun ys => ys.map (·.1) = x.list) (fun pre => pre.map (·.1) <+: x.list) x.size w := by
  intro l J Jx W hW hJ _ hY h0
  have hdd : ∀ k : Nat, (Fence.wide.depth.isSome = true → 1 ≤ k) := fun k h => by cases h
  have hWs := hW.size
  have d0 := (hW.cell (p := ⟨be, 0, none⟩) hbe).trans c0
  have d1 := (hW.cell (p := ⟨be, 1, none⟩) hbe).trans c1
  have d2 := (hW.cell (p := ⟨be, 2, none⟩) hbe).trans c2
  have d3 := (hW.cell (p := ⟨be, 3, none⟩) hbe).trans c3
  have d4 := (hW.cell (p := ⟨be, 4, none⟩) hbe).trans c4
  have d5 := (hW.cell (p := ⟨be, 5, none⟩) hbe).trans c5
  have dp := (hW.cell (p := ⟨bp, 0, none⟩) hbp).trans cp
  have hp := walkY_in l n₀ W.heap.size x.size (upJ J) (upJ Jx) (fun s A B row ⟨q, hq, hs⟩ hg hr => ⟨q, hq, hJ q A B row hs hg hr⟩) P
    (fun m pre y W1 hPy ⟨q, hq, hj⟩ hl => yield_any rfl m (YieldAt.mono (hY q ⟨y, hPy⟩ W1 hj (by rw [← hq, List.length_map] at hl; exact hl)) fun e W' h => h.elim
      (fun ⟨he, hj2, hk⟩ => .inl ⟨he, ⟨q ++ [⟨y, hPy⟩], by rw [List.map_append, hq]; rfl, hj2⟩, hk⟩) (fun ⟨he, hx⟩ => .inr ⟨he, q ++ [⟨y, hPy⟩], by rw [List.map_append, hq]; rfl, hx⟩))) x (n - 1) [] W hP (hX.blw (hW.mono hn₀) (Nat.le_refl _)) (Nat.le_refl _) ⟨[], rfl, h0⟩ (by simp)
  simp only [List.nil_append, xV] at hp
  clear hY c0 c1 c2 c3 c4 c5 cp
  simp only [List.append_toArray, List.cons_append, List.nil_append, Array.append_eq_append] at *
  refine callsIn_of_wp Tryz.func25 rfl trivial ?_ rfl
  simp only [Tryz.ntmps25, List.size_toArray, List.length_cons, List.length_nil, Nat.reduceAdd, Nat.reduceSub, Array.replicate_succ, Array.replicate_zero, List.push_toArray, List.append_toArray, List.nil_append, List.cons_append]
  gi_wp2_with (refine ⟨trivial, hdd _, ?_⟩; gi_at_call 26; refine hp.mono ?_; clear hp; rintro e W1 (⟨rfl, ⟨ys, hys, hJ1⟩, _⟩ | ⟨rfl, q, hq, ys, hys, hx⟩))
  · go_end0
    exact ⟨⟨_, rfl⟩, .inl ⟨ys, hys, hJ1⟩⟩
  · go_end0
    exact ⟨⟨_, rfl⟩, .inr ⟨ys, by rw [hys]; exact hq, hx⟩⟩
theorem withinY_atP (P : Xt → Prop) (n n₀ : Nat) (x : Xt) (w : World) (hP : ∀ y ∈ x.list, P y) (hn₀ : n₀ ≤ w.heap.size) (hX : RdX w n₀ x) :
    SeqStopsK Fence.wide n Tryz.prog 25 #[.pointer (some ⟨w.heap.size, 0, none⟩), .pointer (some ⟨w.heap.size + 1, 0, none⟩)] (fun y : {y : Xt // P y} => #[xV y.1]) (KY n₀) (fun ys => ys.map (·.1) = x.list) (fun pre => pre.map (·.1) <+: x.list) x.size (inW w x 11) := by
  obtain ⟨b0, b1, b2, b3, b4, b5, _⟩ := bxW_cells (w := w) (x := x) (W := inW w x 11) (bel_box _)
  exact withinY_stopsP P n w.heap.size (w.heap.size + 1) n₀ x _ hP (by rw [inW_size]; omega) (by rw [inW_size]; omega) (by rw [inW_size]; omega) (hX.blw ((inW_below w x _).mono hn₀) (Nat.le_refl _)) b0 b1 b2 b3 b4 b5 (by simp [go_sem])
set_option maxHeartbeats 1000000 in
set_option maxRecDepth 100000 in
theorem withinYI_stopsP (P : Xt → Prop) (n be bp n₀ : Nat) (x : Xt) (w : World) (hP : ∀ y ∈ x.lst true, P y) (hn₀ : n₀ ≤ w.heap.size) (hbe : be < w.heap.size) (hbp : bp < w.heap.size) (hX : RdX w n₀ x)
    (c0 : w.cell? ⟨be, 0, none⟩ = some (.int .i64 x.k)) (c1 : w.cell? ⟨be, 1, none⟩ = some (.int .i64 x.op)) (c2 : w.cell? ⟨be, 2, none⟩ = some (.int .i64 x.t)) (c3 : w.cell? ⟨be, 3, none⟩ = some (.int .i64 x.v)) (c4 : w.cell? ⟨be, 4, none⟩ = some (.string x.nm)) (c5 : w.cell? ⟨be, 5, none⟩ = some (.slice x.A x.ar.length x.c)) (cp : w.cell? ⟨bp, 0, none⟩ = some (.func (.func 32) #[] #[])) :
    SeqStopsK Fence.wide n Tryz.prog 25 #[.pointer (some ⟨be, 0, none⟩), .pointer (some ⟨bp, 0, none⟩)] (fun y : {y : Xt // P y} => #[xV y.1]) (KY n₀) (fun ys => ys.map (·.1) = x.lst true) (fun pre => pre.map (·.1) <+: x.lst true) (x.lst true).length w := by
  intro l J Jx W hW hJ _ hY h0
  have hdd : ∀ k : Nat, (Fence.wide.depth.isSome = true → 1 ≤ k) := fun k h => by cases h
  have hWs := hW.size
  have d0 := (hW.cell (p := ⟨be, 0, none⟩) hbe).trans c0
  have d1 := (hW.cell (p := ⟨be, 1, none⟩) hbe).trans c1
  have d2 := (hW.cell (p := ⟨be, 2, none⟩) hbe).trans c2
  have d3 := (hW.cell (p := ⟨be, 3, none⟩) hbe).trans c3
  have d4 := (hW.cell (p := ⟨be, 4, none⟩) hbe).trans c4
  have d5 := (hW.cell (p := ⟨be, 5, none⟩) hbe).trans c5
  have dp := (hW.cell (p := ⟨bp, 0, none⟩) hbp).trans cp
  have hp := walkYI_in l n₀ W.heap.size (x.lst true).length (upJ J) (upJ Jx) (fun s A B row ⟨q, hq, hs⟩ hg hr => ⟨q, hq, hJ q A B row hs hg hr⟩) P
    (fun m pre y W1 hPy ⟨q, hq, hj⟩ hl => yield_any rfl m (YieldAt.mono (hY q ⟨y, hPy⟩ W1 hj (by rw [← hq, List.length_map] at hl; exact hl)) fun e W' h => h.elim
      (fun ⟨he, hj2, hk⟩ => .inl ⟨he, ⟨q ++ [⟨y, hPy⟩], by rw [List.map_append, hq]; rfl, hj2⟩, hk⟩) (fun ⟨he, hx⟩ => .inr ⟨he, q ++ [⟨y, hPy⟩], by rw [List.map_append, hq]; rfl, hx⟩))) x (n - 1) [] W hP (hX.blw (hW.mono hn₀) (Nat.le_refl _)) (Nat.le_refl _) ⟨[], rfl, h0⟩ (by simp)
  simp only [List.nil_append, xV] at hp
  clear hY c0 c1 c2 c3 c4 c5 cp
  simp only [List.append_toArray, List.cons_append, List.nil_append, Array.append_eq_append] at *
  refine callsIn_of_wp Tryz.func25 rfl trivial ?_ rfl
  simp only [Tryz.ntmps25, List.size_toArray, List.length_cons, List.length_nil, Nat.reduceAdd, Nat.reduceSub, Array.replicate_succ, Array.replicate_zero, List.push_toArray, List.append_toArray, List.nil_append, List.cons_append]
  gi_wp2_with (refine ⟨trivial, hdd _, ?_⟩; gi_at_call 26; refine hp.mono ?_; clear hp; rintro e W1 (⟨rfl, ⟨ys, hys, hJ1⟩, _⟩ | ⟨rfl, q, hq, ys, hys, hx⟩))
  · go_end0
    exact ⟨⟨_, rfl⟩, .inl ⟨ys, hys, hJ1⟩⟩
  · go_end0
    exact ⟨⟨_, rfl⟩, .inr ⟨ys, by rw [hys]; exact hq, hx⟩⟩
theorem withinYI_atP (P : Xt → Prop) (n n₀ : Nat) (x : Xt) (w : World) (hP : ∀ y ∈ x.lst true, P y) (hn₀ : n₀ ≤ w.heap.size) (hX : RdX w n₀ x) :
    SeqStopsK Fence.wide n Tryz.prog 25 #[.pointer (some ⟨w.heap.size, 0, none⟩), .pointer (some ⟨w.heap.size + 1, 0, none⟩)] (fun y : {y : Xt // P y} => #[xV y.1]) (KY n₀) (fun ys => ys.map (·.1) = x.lst true) (fun pre => pre.map (·.1) <+: x.lst true) (x.lst true).length (inW w x 32) := by
  obtain ⟨b0, b1, b2, b3, b4, b5, _⟩ := bxW_cells (w := w) (x := x) (W := inW w x 32) (bel_box _)
  exact withinYI_stopsP P n w.heap.size (w.heap.size + 1) n₀ x _ hP (by rw [inW_size]; omega) (by rw [inW_size]; omega) (by rw [inW_size]; omega) (hX.blw ((inW_below w x _).mono hn₀) (Nat.le_refl _)) b0 b1 b2 b3 b4 b5 (by simp [go_sem])
end Go.Proofs.YtoekgbdomeklgaaGreatDoor
/- A look-up by value in a map of bools; the set of names that came. -/
namespace Go.Proofs.YtoekgbdomeklgaaGreatDoor
set_option linter.unusedVariables false
set_option linter.unusedSimpArgs false
open Go.RowKit Go.Shelf Go.Maps
theorem plainElem_bool_inv {H : Type} {P : Program} {e : TypeId} (he : P.underlying e = some .bool) {v : Value} {z : DataW H × List MemPlace} (h : plainElem P e v = some z) : ∃ a, v = .bool a ∧ z = (.lit (.bool a), []) := by
  unfold plainElem at h
  rw [he] at h
  cases v <;> simp at h
  exact ⟨_, rfl, h.symm⟩
theorem lookup_bool {H : Type} {P : Program} {w : World} {k t e : TypeId} {b n : Nat} {D : DataW H} (h : w.ownsMap P k (plainElem P e) b n D) (K : Keyed P k) (ht : P.underlying t = some (.map k e)) (he : P.underlying e = some .bool) (hz : (zeroValue e).run P w = .ok (.bool false) w)
    {key : Value} {kl : Lit} (hkey : keyOf P k key = some kl) : ∃ c, (Instr.lookup t (.map (some b)) key false).run P w = .ok (.bool c) w ∧ D.atKey kl (.lit (.bool false)) = .lit (.bool c) := by
  obtain ⟨v, ps, hrun, hv⟩ := h.lookup K ht hz (plainElem_bool he false) hkey
  obtain ⟨c, rfl, hc⟩ := plainElem_bool_inv he hv
  simp only [Prod.mk.injEq] at hc
  exact ⟨c, hrun, hc.1⟩
theorem seen_put {H : Type} {D : DataW H} (hD : IsMap D) (s t : ByteArray) (b : Bool) (h : D.atKey (.string t.data.toList) (.lit (.bool false)) = .lit (.bool b)) :
    (D.put (.string s.data.toList) (.lit (.bool true))).atKey (.string t.data.toList) (.lit (.bool false)) = .lit (.bool (b || (s.toList == t.toList))) := by
  rw [ByteArray.toList_eq, ByteArray.toList_eq]
  by_cases e : s.data.toList = t.data.toList
  · rw [e, atKey_put_same hD (by simp [WideAt.IsKeyLit])]
    simp
  · rw [atKey_put_other (fun h => e (by injection h with h; exact h.symm)), h]
    have : (s.data.toList == t.data.toList) = false := by simpa using e
    rw [this, Bool.or_false]
theorem has_snoc (l : List ByteArray) (s t : ByteArray) : hasN (l ++ [s]) t = (hasN l t || (s.toList == t.toList)) := by
  unfold hasN
  rw [List.any_append]
  simp
end Go.Proofs.YtoekgbdomeklgaaGreatDoor
/- variables of the program. -/
namespace Go.Proofs.YtoekgbdomeklgaaGreatDoor
set_option linter.unusedVariables false
set_option linter.unusedSimpArgs false
open Go.RowKit Go.Shelf Go.Maps
attribute [local go_sem] Oper.semAt_some
/-- the names that have come -/
def fN (pre : List Xt) : List ByteArray := pre.foldl stepN []
def VI (b : Nat) (pre : List Xt) (W : World) : Prop := Boxed W (b + 2) 52 (.map (some (b + 1))) ∧ ∃ n D, n ≤ pre.length ∧ IsMap D ∧ (∀ t : ByteArray, D.atKey (.string t.data.toList) (.lit (.bool false)) = .lit (.bool (hasN (fN pre) t))) ∧ W.ownsMap Tryz.prog 9 (plainElem (H := Unit) Tryz.prog 4) (b + 1) n D
theorem VI_own {b B : Nat} (hB : b + 3 ≤ B) {α : Type} (g : α → Xt) : OwnFrom B (fun (pre : List α) W => VI b (pre.map g) W) := by
  rintro s X Y row ⟨h1, n, D, h2, h3, h4, h5⟩ hg hr
  exact ⟨h1.kept hg (fun e => by have := (hr _ e.symm).1; omega), n, D, h2, h3, h4, h5.kept hg (fun e => by have := (hr _ e.symm).1; omega)⟩
theorem fN_snoc (pre : List Xt) (y : Xt) : fN (pre ++ [y]) = stepN (fN pre) y := by rw [fN, List.foldl_append]; rfl
theorem VI.below {b : Nat} {pre : List Xt} {W W' : World} (h : VI b pre W) (hb : Below W.heap.size W W') : VI b pre W' := by
  obtain ⟨h1, n, D, h2, h3, h4, h5⟩ := h
  exact ⟨h1.kept (below_grown hb) (by simp), n, D, h2, h3, h4, h5.kept (below_grown hb) (by simp)⟩
theorem VI.same {b : Nat} {pre : List Xt} {y : Xt} {W : World} (h : VI b pre W) (e : stepN (fN pre) y = fN pre) : VI b (pre ++ [y]) W := by
  obtain ⟨h1, n, D, h2, h3, h4, h5⟩ := h
  exact ⟨h1, n, D, by rw [List.length_append]; omega, h3, fun t => by rw [fN_snoc, e]; exact h4 t, h5⟩
theorem own_not_map {W : World} {b n size m ck : Nat} {e : TypeId} {v : Value} {xs : List Value} {es : Array MapEntry} (h : W.ownsRow b e size v n xs) (hh : W.heap[m]? = some (.map es ck)) : v.ownBlock ≠ some m := by
  rcases h.2 with ⟨rfl, _⟩ | ⟨g, cap, cur, rfl, _, hgb, _⟩
  · simp [Value.ownBlock]
  · intro e
    obtain rfl : g = m := by simpa [Value.ownBlock] using e
    rw [hh] at hgb
    cases hgb
theorem fN_length (pre : List Xt) : (fN pre).length ≤ pre.length := by
  have : ∀ (l : List Xt) (a : List ByteArray), (l.foldl stepN a).length ≤ a.length + l.length := by
    intro l
    induction l with
    | nil => intro a; simp
    | cons z l ih => intro a; have h1 := ih (stepN a z); have h2 := step_length a z; simp only [List.foldl_cons, List.length_cons]; omega
  have h := this pre []
  rw [List.length_nil, Nat.zero_add] at h
  exact h
theorem KY.appended {n₀ b k B : Nat} {W w1 : World} {v v' : Value} {xs : List Value} {tmp : Obj} (hv : Boxed W B 42 v) (hrow : W.ownsRow b 9 1 v k xs) (hb : n₀ ≤ b) (hB : n₀ ≤ B) (hg : (W.alloc tmp).grownBy w1 v.ownBlock) : KY n₀ W (w1.setCell ⟨B, 0, none⟩ v') := by
  have hz := hg.size
  rw [World.size_alloc] at hz
  refine ⟨by simp [World.setCell]; omega, fun j o ho hc hd => ?_⟩
  have hlt : j < W.heap.size := (Array.getElem?_eq_some_iff.1 ho).1
  have hjB : j ≠ B := by
    rintro rfl
    rcases hd with hd | ⟨cs, fz, rfl⟩
    · omega
    · have := ho.symm.trans hv
      simp at this
  have hjv : some j ≠ v.ownBlock := by
    rcases hrow.2 with ⟨rfl, _⟩ | ⟨g, cap, cur, rfl, hbg, hgb, _⟩
    · simp [Value.ownBlock]
    · intro e
      obtain rfl : j = g := by simpa [Value.ownBlock] using e
      rcases hd with hd | ⟨cs, fz, rfl⟩
      · omega
      · have := ho.symm.trans hgb
        simp at this
  rw [heap_setCell_other w1 _ j v' hjB]
  exact (hg.block j (by rw [World.size_alloc]; omega) hjv).trans ((Below.heap_alloc _ _ _ hlt).trans ho)
theorem KY.map {n₀ m : Nat} {W w1 : World} (hg : W.grownBy w1 (some m)) (hm : ∀ o, W.heap[m]? = some o → o.isCells = false) : KY n₀ W w1 := by
  refine ⟨hg.size, fun j o ho hc _ => ?_⟩
  exact (hg.block j (Array.getElem?_eq_some_iff.1 ho).1 (fun e => by obtain rfl := Option.some.inj e; rw [hm o ho] at hc; cases hc)).trans ho
set_option maxHeartbeats 2000000 in
set_option maxRecDepth 100000 in
theorem variables_any (xl : List Xt) (N n₀ be bp : Nat) (w : World) (hn₀ : n₀ ≤ w.heap.size) (hN : N ≤ 1048576) (hnm : ∀ y ∈ xl, y.nm.size ≤ maxLen)
    (hst : SeqStopsK Fence.wide 2 Tryz.prog 25 #[.pointer (some ⟨be, 0, none⟩), .pointer (some ⟨bp, 0, none⟩)] (fun y : {y : Xt // y ∈ xl} => #[xV y.1]) (KY n₀) (fun ys => ys.map (·.1) = xl) (fun pre => pre.map (·.1) <+: xl) N w) :
    Calls Tryz.prog 31 #[.func (.func 25) #[] #[.pointer (some ⟨be, 0, none⟩), .pointer (some ⟨bp, 0, none⟩)]] w (NewN (xl.foldl stepN []) w) := by
  have hmm := @run_makeMap Tryz.prog
  obtain ⟨i0, hi, iz, is, ib⟩ := info_parts stInfo
  refine (callsIn_wide (n := 3)).1 ?_
  refine callsIn_of_wp_marks Tryz.func31 rfl trivial ?_ rfl
  simp only [Tryz.ntmps31, List.size_toArray, List.length_cons, List.length_nil, Nat.reduceAdd, Nat.reduceSub, Array.replicate_succ, Array.replicate_zero, List.push_toArray, List.append_toArray, List.nil_append, List.cons_append]
  gi_wp2
  obtain ⟨Wb, hWb⟩ : ∃ Wb, ((w.alloc (.cells #[.slice none 0 0] 42)).alloc (.map #[] 0)).alloc (.cells #[.map (some (w.heap.size + 1))] 52) = Wb := ⟨_, rfl⟩
  have hzb : Wb.heap.size = w.heap.size + 3 := by rw [← hWb]; simp only [World.size_alloc]
  have hBb : Below w.heap.size w Wb := by rw [← hWb]; exact (((Below.refl _ w).alloc (Nat.le_refl _) _).alloc (by simp) _).alloc (by simp; omega) _
  have hb0 : Boxed Wb w.heap.size 42 (.slice none 0 0) := by rw [← hWb]; exact ((Boxed.new w _ _).alloc _).alloc _
  have hv0 : VI w.heap.size [] Wb := by
    rw [← hWb]
    refine ⟨?_, 0, .map [], Nat.le_refl _, ⟨[], rfl⟩, fun t => rfl, ?_⟩
    · have := Boxed.new ((w.alloc (.cells #[.slice none 0 0] 42)).alloc (.map #[] 0)) 52 (.map (some (w.heap.size + 1)))
      simpa only [World.size_alloc] using this
    · have := World.ownsMap_made (w.alloc (.cells #[.slice none 0 0] 42)) Tryz.prog 9 (plainElem (H := Unit) Tryz.prog 4)
      rw [World.size_alloc] at this
      exact this.alloc _
  rw [hWb]
  clear hWb
  have HNM := Lib.hid hnm
  clear hnm
  refine wpIn_rangeFunc_ownH rfl (by decide) (gf := 25) (lb := #[.pointer (some ⟨be, 0, none⟩), .pointer (some ⟨bp, 0, none⟩)]) rfl trivial (enters_of Tryz.func25 (by kernel_rfl) rfl)
    hst KY_t KY_b (hBb) (fun _ => rfl)
    (fun pre W => (VI w.heap.size (pre.map (·.1)) W ∧ ∃ v, Boxed W w.heap.size 42 v ∧ W.ownsRow w.heap.size 9 1 v (fN (pre.map (·.1))).length (nmC (fN (pre.map (·.1)))) ∧ True) ∧ Below w.heap.size w W)
    (fun _ _ _ => False)
    (OwnFrom.and (OwnFrom.and (VI_own (by omega) _) (Own.from (holdsRow_own w.heap.size w.heap.size 42 9 1 (fun pre : List {y : Xt // y ∈ xl} => (fN (pre.map (·.1))).length) (fun pre => nmC (fN (pre.map (·.1)))) (fun _ _ => True)) _)) (ownFrom_below (Nat.le_refl _) (by omega)))
    (fun _ _ _ _ _ hs _ _ => hs)
    ⟨⟨hv0, _, hb0, World.ownsRow_nil _ _ _ _, trivial⟩, hBb⟩
    (fun y a' W => ∃ Bx, (w.heap.size + 3 ≤ Bx ∧ W.cell? ⟨Bx, 0, none⟩ = some (.int .i64 y.1.k) ∧ W.cell? ⟨Bx, 4, none⟩ = some (.string y.1.nm)) ∧ a' = { tmps := #[.func (.func 25) #[] #[.pointer (some ⟨be, 0, none⟩), .pointer (some ⟨bp, 0, none⟩)], undef, .slice none 0 0, .pointer (some ⟨w.heap.size, 0, none⟩), .pointer (some ⟨w.heap.size + 1 + 1, 0, none⟩), .pointer (some ⟨Bx, 0, none⟩), .map (some (w.heap.size + 1)), .func (.func 25) #[] #[.pointer (some ⟨be, 0, none⟩), .pointer (some ⟨bp, 0, none⟩)], xV y.1, undef, undef, undef, undef, undef, undef, undef, undef, undef, undef, undef, undef, undef, undef, undef, undef, undef, undef, undef], defers := [] })
    (fun y a' s A B row hs hg hr => by
      obtain ⟨Bx, ⟨h1, h2, h3⟩, h4⟩ := hs
      exact ⟨Bx, ⟨h1, cell_kept h2 hg (fun r e => (hr r e).2), cell_kept h3 hg (fun r e => (hr r e).2)⟩, h4⟩) ?assign ?body ?done ?stop
  case assign =>
    rintro l pre y W K ⟨⟨i1, v, i2, i3, _⟩, hB⟩ hK
    rw [fold1]
    simp only [xV] at hK ⊢
    gi_wp2
    obtain ⟨d0, d1, d2, d3, d4, d5⟩ := bx_box W y.1
    have hlt := i1.1.lt
    obtain ⟨k1, n, D, k2, k3, k4, k5⟩ := i1
    exact hK _ _ ((KeepsOthers.alloc _ _).from _) (KY.of_below (bel_box _)) ⟨⟨⟨k1.alloc _, n, D, k2, k3, k4, k5.alloc _⟩, v, i2.alloc _, i3.alloc _, trivial⟩, bel_alloc hB _⟩ ⟨W.heap.size, ⟨by omega, d0, d4⟩, rfl⟩
  case body =>
    rintro l pre y a' W hl ⟨r, hr⟩ ⟨⟨i1, v, i2, i3, _⟩, hB⟩ ⟨Bx, ⟨hBx, d0, d4⟩, rfl⟩ hlt
    have hbk := World.block_lt_of_cell? W _ d0
    have KV := Lib.hid (hasvar_any y.1.k W)
    have hst : stepN (fN (pre.map (·.1))) y.1 = if (hasVar y.1.k && !hasN (fN (pre.map (·.1))) y.1.nm) = true then fN (pre.map (·.1)) ++ [y.1.nm] else fN (pre.map (·.1)) := rfl
    have hmp : (pre ++ [y]).map (·.1) = pre.map (·.1) ++ [y.1] := by rw [List.map_append]; rfl
    cases q1 : hasVar y.1.k
    · rw [q1] at KV hst
      have hs : stepN (fN (pre.map (·.1))) y.1 = fN (pre.map (·.1)) := hst
      gi_wp2_with (refine ⟨trivial, ?_⟩; gi_at_call 38; refine (CallsIn.inRound l (callsIn_wide.2 KV.out)).mono ?_; rintro e W5 ⟨rfl, hb5⟩)
      refine ⟨(KeepsOthers.of_grownBy (below_grown hb5) (fun j o e => by cases e)).from _, KY.of_below hb5, ⟨?_, v, i2.kept (below_grown hb5) (by simp), ?_, trivial⟩, hB.trans (hb5.mono hB.size)⟩
      · rw [hmp]; exact (i1.below hb5).same hs
      · rw [hmp, fN_snoc, hs]; exact own_keep6 i3 hb5
    · rw [q1] at KV hst
      obtain ⟨k1, n, D, k2, k3, k4, k5⟩ := i1
      have hsz := HNM.out y.1 y.2
      have hk := WideMaps.keyOf_string_mk (P := Tryz.prog) (k := 9) Tryz.underlying9 hsz
      have k4y := k4 y.1.nm
      cases q2 : hasN (fN (pre.map (·.1))) y.1.nm
      · rw [q2] at hst k4y
        have hs : stepN (fN (pre.map (·.1))) y.1 = fN (pre.map (·.1)) ++ [y.1.nm] := hst
        have hn : n < maxLen := by unfold maxLen; simp at k2; omega
        have hfl := fN_length (pre.map (·.1))
        rw [List.length_map] at hfl
        have hBs := hB.size
        gi_wp2_with (first
          | (refine ⟨trivial, ?_⟩; gi_at_call 38; refine (CallsIn.inRound l (callsIn_wide.2 KV.out)).mono ?_; rintro e W5 ⟨rfl, hb5⟩; have k1' := k1.kept (below_grown hb5) (by simp); have k5' := k5.kept (below_grown hb5) (by simp); obtain ⟨c, hrun, hat⟩ := lookup_bool k5' (string_keyed Tryz.underlying9) Tryz.underlying52 Tryz.underlying4 (Tryz.zeroValue4 _) hk; obtain rfl : c = false := (by have := hat.symm.trans k4y; simpa using this); have cs : W5.cell? ⟨w.heap.size + 1 + 1, 0, none⟩ = some (.map (some (w.heap.size + 1))) := k1'.cell; have d4' := (hb5.cell (p := ⟨Bx, 4, none⟩) hbk).trans d4; have hz5 := hb5.size)
          | (gi_at_mapUpdate; refine wpListIn_mapUpdate_own _ rfl _ _ _ 52 rfl 9 4 (string_keyed Tryz.underlying9) Tryz.underlying52 _ (w.heap.size + 1) n _ rfl k5' hn _ _ _ rfl rfl hk _ [] (plainElem_bool Tryz.underlying4 true) ?_; intro w6 k6 hgrow6; have hcm := k5'; obtain ⟨es, ck, hh, _⟩ := hcm; have d5' := cell_kept d4' hgrow6 (fun r e => by cases e; exact ⟨_, hh, rfl⟩); have hv6 := (i2.kept (below_grown hb5) (by simp)).kept hgrow6 (by simp); have hr6 := (own_keep6 i3 hb5).kept hgrow6 (.inr (own_not_map (own_keep6 i3 hb5) hh)); have c6 := hv6.cell; have hz6 := hgrow6.size)
          | (gi_at_builtin; refine wpListIn_append_own _ rfl _ _ 42 rfl w.heap.size 9 i0 (.string ⟨#[]⟩) 1 16 Tryz.underlying42 hi iz is ib rfl (by decide) _ _ _ rfl (hr6.alloc _) ⟨w6.heap.size, 0, none⟩ 1 1 [.string y.1.nm] rfl rfl (cell_one_new _ _ _) (by simp [Value.oneCell']) (by unfold maxLen; omega) (by omega) (by simp; omega) ?_; intro v' w7 hown7 hgrow7 _; obtain ⟨g', cap', rfl⟩ := ownsRow_succ hown7; obtain ⟨hv1, hv2, hr2, hk2, hb2⟩ := hv6.appended (by decide) hr6 (by omega) (Nat.le_refl _) hown7 hgrow7; have hy2 := KY.appended (n₀ := n₀) (v' := .slice (some ⟨g', 0, none⟩) ((fN (pre.map (·.1))).length + 1) cap') hv6 hr6 hn₀ hn₀ hgrow7; have hc1 := hv1.cell; have hf1 := hv1.frozen))
        have hg7 : (w6.alloc (.cells #[.string y.1.nm] 9)).grownBy w7 v.ownBlock := hgrow7
        have k16 := k1'.kept hgrow6 (by simp)
        have k66 := k6
        obtain ⟨es6, ck6, hh6, _⟩ := k66
        refine ⟨(((KeepsOthers.of_grownBy (below_grown hb5) (fun j o e => by cases e)).from _).trans (KeepsFrom.of_grownBy hgrow6 (fun j e => by cases e; omega))).trans (hk2.from _), ((KY.of_below hb5).trans (KY.map hgrow6 (fun o ho => by rw [hh] at ho; cases ho; rfl))).trans hy2, ⟨?_, _, hv2, ?_, trivial⟩, ((hB.trans (hb5.mono hB.size)).grown hgrow6 (by omega) (fun k e => by cases e; omega)).trans hb2⟩
        · rw [hmp]
          refine ⟨((k16.alloc _).kept hg7 (k16.not_row (by decide) hr6)).kept (grownBy_setCell' w7 _ _) (by simp), n + 1, _, by rw [List.length_append, List.length_singleton]; omega, k3.put _ _, fun t => ?_, ((k6.alloc _).kept hg7 (own_not_map hr6 hh6).symm).kept (grownBy_setCell' w7 _ _) (by simp)⟩
          rw [fN_snoc, hs, has_snoc]
          exact seen_put k3 _ t _ (k4 t)
        · rw [hmp, fN_snoc, hs, nmC_snoc, List.length_append]
          exact hr2
      · rw [q2] at hst k4y
        have hs : stepN (fN (pre.map (·.1))) y.1 = fN (pre.map (·.1)) := hst
        gi_wp2_with (refine ⟨trivial, ?_⟩; gi_at_call 38; refine (CallsIn.inRound l (callsIn_wide.2 KV.out)).mono ?_; rintro e W5 ⟨rfl, hb5⟩; have k1' := k1.kept (below_grown hb5) (by simp); have k5' := k5.kept (below_grown hb5) (by simp); obtain ⟨c, hrun, hat⟩ := lookup_bool k5' (string_keyed Tryz.underlying9) Tryz.underlying52 Tryz.underlying4 (Tryz.zeroValue4 _) hk; obtain rfl : c = true := (by have := hat.symm.trans k4y; simpa using this); have cs : W5.cell? ⟨w.heap.size + 1 + 1, 0, none⟩ = some (.map (some (w.heap.size + 1))) := k1'.cell; have d4' := (hb5.cell (p := ⟨Bx, 4, none⟩) hbk).trans d4)
        refine ⟨(KeepsOthers.of_grownBy (below_grown hb5) (fun j o e => by cases e)).from _, KY.of_below hb5, ⟨?_, v, i2.kept (below_grown hb5) (by simp), ?_, trivial⟩, hB.trans (hb5.mono hB.size)⟩
        · rw [hmp]; exact VI.same ⟨k1', n, D, k2, k3, k4, k5'⟩ hs
        · rw [hmp, fN_snoc, hs]; exact own_keep6 i3 hb5
  case done =>
    rintro D ys W hD hys ⟨⟨i1, v, i2, i3, _⟩, hB⟩ hK
    have hf : fN (ys.map (·.1)) = xl.foldl stepN [] := congrArg fN hys
    rw [hf] at i3
    obtain ⟨V, c, rfl⟩ := own_form6 i3
    have c0 := i2.cell
    gi_wp2
    refine ⟨by simp, .inl ⟨_, _, rfl, run_takeDeferred hK, ?_⟩⟩
    refine ⟨_, results_tmp rfl _ _ _, V, c, rfl, RdN.of_own (ownsRow_putObj i3 _ hK rfl), hB.trans (belowK_b (w := w) (Nat.le_refl _) W D _ _ (by omega) hK rfl rfl)⟩
  case stop =>
    rintro D c pre W _ _ h _
    exact h.elim
end Go.Proofs.YtoekgbdomeklgaaGreatDoor
/- Names and Instant of the program. -/
namespace Go.Proofs.YtoekgbdomeklgaaGreatDoor
set_option linter.unusedVariables false
set_option linter.unusedSimpArgs false
open Go.RowKit Go.Shelf Go.Maps
theorem RdX.nms {w : World} {B : Nat} {x : Xt} (h : RdX w B x) (b : Bool) : ∀ y ∈ x.lst b, y.nm.size ≤ maxLen := by
  induction x using Xt.ind with
  | h x ih =>
    intro y hy
    rw [Xt.lst_eq] at hy
    rcases List.mem_cons.1 hy with rfl | hy
    · exact h.len.2
    · obtain ⟨l, hl, hyl⟩ := List.mem_flatten.1 hy
      obtain ⟨z, hz, rfl⟩ := List.mem_map.1 hl
      exact ih z (kids_mem hz) (h.kid (kids_mem hz)) y hyl
theorem variables_names (x : Xt) (w : World) (hX : RdX w w.heap.size x) (hs : x.size ≤ 1048576) : Calls Tryz.prog 31 #[.func (.func 25) #[] #[.pointer (some ⟨w.heap.size, 0, none⟩), .pointer (some ⟨w.heap.size + 1, 0, none⟩)]] (inW w x 11) (NewN (nmS false x []) (inW w x 11)) := by
  have h := variables_any x.list x.size w.heap.size w.heap.size (w.heap.size + 1) (inW w x 11) (by rw [inW_size]; omega) hs (fun y hy => hX.nms false y (by rw [lst_false]; exact hy)) (withinY_atP (fun y => y ∈ x.list) 2 w.heap.size x w (fun y h => h) (Nat.le_refl _) hX)
  rwa [← lst_false] at h
theorem variables_instant (x : Xt) (w : World) (hX : RdX w w.heap.size x) (hs : x.size ≤ 1048576) : Calls Tryz.prog 31 #[.func (.func 25) #[] #[.pointer (some ⟨w.heap.size, 0, none⟩), .pointer (some ⟨w.heap.size + 1, 0, none⟩)]] (inW w x 32) (NewN (nmS true x []) (inW w x 32)) :=
  variables_any (x.lst true) (x.lst true).length w.heap.size w.heap.size (w.heap.size + 1) (inW w x 32) (by rw [inW_size]; omega) (Nat.le_trans (lst_len x) hs) (hX.nms true) (withinYI_atP (fun y => y ∈ x.lst true) 2 w.heap.size x w (fun y h => h) (Nat.le_refl _) hX)
end Go.Proofs.YtoekgbdomeklgaaGreatDoor
/- Names and Instant of the program. -/
namespace Go.Proofs.YtoekgbdomeklgaaGreatDoor
set_option linter.unusedVariables false
set_option linter.unusedSimpArgs false
open Go.RowKit Go.Shelf Go.Maps
set_option maxHeartbeats 1000000 in
set_option maxRecDepth 20000 in
theorem names_any (x : Xt) (w : World) (hX : RdX w w.heap.size x) (hs : x.size ≤ 1048576) : Calls Tryz.prog 21 #[xV x] w (NewN (nmS false x []) w) := by
  have KW := Lib.hid (fun W => within_any x 11 W)
  obtain ⟨W1, hW1⟩ : ∃ W1, bxW w x = W1 := ⟨_, rfl⟩
  have hb1 : Below w.heap.size w W1 := by rw [← hW1]; exact bel_box _
  obtain ⟨W0, hW0⟩ : ∃ W0, inW W1 x 11 = W0 := ⟨_, rfl⟩
  have hz : W1.heap.size = w.heap.size + 1 := by rw [← hW1, bxW_size]
  have hb0 : Below w.heap.size w W0 := by rw [← hW0]; exact hb1.trans ((inW_below W1 x _).mono (by rw [hz]; omega))
  have KV := variables_names x W1 (hX.to hb1) hs
  rw [hW0, hz] at KV
  have KV2 := Lib.hid KV
  have HW1 := Lib.hid hW1
  have HW0 := Lib.hid hW0
  clear KV hW1 hW0 hz
  simp only [xV] at KW ⊢
  go_enter Tryz.func21, Tryz.ntmps21
  go_wp2_with (go_at_call 10; (with_reducible refine (KW.out _).mono ?_); rintro e w1 ⟨rfl, rfl⟩)
  rw [show ((bxW (w.alloc (.cells #[.int .i64 x.k, .int .i64 x.op, .int .i64 x.t, .int .i64 x.v, .string x.nm, .slice x.A x.ar.length x.c] 24)) x).alloc (.cells #[.func (.func 11) #[] #[]] 30)) = W0 by rw [← HW0.out, ← HW1.out]]
  clear HW0 HW1 KW
  go_wp2_with (go_at_call 31; (with_reducible refine KV2.out.mono ?_); rintro e w2 ⟨A, c, rfl, hR, hb2⟩)
  go_ret
  exact ⟨A, c, rfl, hR, hb0.trans (hb2.mono hb0.size)⟩
set_option maxHeartbeats 1000000 in
set_option maxRecDepth 20000 in
theorem instants_any (x : Xt) (w : World) (hX : RdX w w.heap.size x) (hs : x.size ≤ 1048576) : Calls Tryz.prog 22 #[xV x] w (NewN (nmS true x []) w) := by
  have KW := Lib.hid (fun W => within_any x 32 W)
  obtain ⟨W1, hW1⟩ : ∃ W1, bxW w x = W1 := ⟨_, rfl⟩
  have hb1 : Below w.heap.size w W1 := by rw [← hW1]; exact bel_box _
  obtain ⟨W0, hW0⟩ : ∃ W0, inW W1 x 32 = W0 := ⟨_, rfl⟩
  have hz : W1.heap.size = w.heap.size + 1 := by rw [← hW1, bxW_size]
  have hb0 : Below w.heap.size w W0 := by rw [← hW0]; exact hb1.trans ((inW_below W1 x _).mono (by rw [hz]; omega))
  have KV := variables_instant x W1 (hX.to hb1) hs
  rw [hW0, hz] at KV
  have KV2 := Lib.hid KV
  have HW1 := Lib.hid hW1
  have HW0 := Lib.hid hW0
  clear KV hW1 hW0 hz
  simp only [xV] at KW ⊢
  go_enter Tryz.func22, Tryz.ntmps22
  go_wp2_with (go_at_call 10; (with_reducible refine (KW.out _).mono ?_); rintro e w1 ⟨rfl, rfl⟩)
  rw [show ((bxW (w.alloc (.cells #[.int .i64 x.k, .int .i64 x.op, .int .i64 x.t, .int .i64 x.v, .string x.nm, .slice x.A x.ar.length x.c] 24)) x).alloc (.cells #[.func (.func 32) #[] #[]] 30)) = W0 by rw [← HW0.out, ← HW1.out]]
  clear HW0 HW1 KW
  go_wp2_with (go_at_call 31; (with_reducible refine KV2.out.mono ?_); rintro e w2 ⟨A, c, rfl, hR, hb2⟩)
  go_ret
  exact ⟨A, c, rfl, hR, hb0.trans (hb2.mono hb0.size)⟩
end Go.Proofs.YtoekgbdomeklgaaGreatDoor
/- lives. -/
namespace Go.Proofs.YtoekgbdomeklgaaGreatDoor
set_option linter.unusedVariables false
set_option linter.unusedSimpArgs false
open Go.RowKit
theorem leaf_list (k op t v : Int) (nm : ByteArray) : (Xt.mk k op t v nm none 0 []).list = [.mk k op t v nm none 0 []] := by rw [Xt.list_eq]; rfl
theorem leaf_size (k op t v : Int) (nm : ByteArray) : (Xt.mk k op t v nm none 0 []).size = 1 := by rw [Xt.size_eq]; rfl
theorem leaf_depth (k op t v : Int) (nm : ByteArray) : (Xt.mk k op t v nm none 0 []).depth = 1 := by rw [Xt.depth_eq]; rfl
theorem leaf_lst (k op t v : Int) (nm : ByteArray) (b : Bool) : (Xt.mk k op t v nm none 0 []).lst b = [.mk k op t v nm none 0 []] := by
  rw [Xt.lst_eq]
  cases hk : kidsI b (Xt.mk k op t v nm none 0 []) with
  | nil => rfl
  | cons y r => have := kids_mem (b := b) (x := Xt.mk k op t v nm none 0 []) (y := y) (by rw [hk]; simp); cases this
theorem fby_list (b : Nat) : (fbyX b).list = [fbyX b, k0, vX] := by
  rw [Xt.list_eq]
  show _ :: ([k0, vX].map Xt.list).flatten = _
  simp only [List.map_cons, List.map_nil, k0, vX, leaf_list]
  rfl
theorem ex_list (b : Nat) : (exX b).list = [exX b, vC, vX, fbyX b, k0, vX] := by
  rw [Xt.list_eq]
  show _ :: ([vC, vX, fbyX b].map Xt.list).flatten = _
  simp only [List.map_cons, List.map_nil, fby_list]
  simp only [vC, vX, leaf_list]
  rfl
theorem ex_size (b : Nat) : (exX b).size = 6 := by
  rw [← list_length, ex_list]; rfl
theorem fby_size (b : Nat) : (fbyX b).size = 3 := by
  rw [← list_length, fby_list]; rfl
theorem fby_depth (b : Nat) : (fbyX b).depth = 2 := by
  rw [Xt.depth_eq]
  show 1 + ([k0, vX].map Xt.depth).foldl max 0 = _
  simp only [List.map_cons, List.map_nil, k0, vX, leaf_depth]
  rfl
theorem ex_depth (b : Nat) : (exX b).depth = 3 := by
  rw [Xt.depth_eq]
  show 1 + ([vC, vX, fbyX b].map Xt.depth).foldl max 0 = _
  simp only [List.map_cons, List.map_nil, vC, vX, leaf_depth, fby_depth]
  rfl
theorem ex_count (b : Nat) : ((exX b).list.countP fun y => y.k == 2) = 3 := by rw [ex_list]; rfl
theorem ex_state (b : Nat) : ((exX b).list.any fun y => stK y.k) = true := by rw [ex_list]; rfl
theorem st_c : stepN [] vC = [⟨#[99]⟩] := by
  simp only [stepN, hasN, List.any_nil]
  decide +kernel
theorem st_x : stepN [⟨#[99]⟩] vX = [⟨#[99]⟩, ⟨#[120]⟩] := by
  simp only [stepN, hasN, List.any_cons, List.any_nil, ByteArray.toList_eq]
  decide +kernel
theorem st_x2 : stepN [⟨#[99]⟩, ⟨#[120]⟩] vX = [⟨#[99]⟩, ⟨#[120]⟩] := by
  simp only [stepN, hasN, List.any_cons, List.any_nil, ByteArray.toList_eq]
  decide +kernel
theorem st_no {acc : List ByteArray} {x : Xt} (h : hasVar x.k = false) : stepN acc x = acc := by
  unfold stepN
  rw [h, Bool.false_and, if_neg (by simp)]
theorem ex_names (b : Nat) : nmS false (exX b) [] = [⟨#[99]⟩, ⟨#[120]⟩] := by
  unfold nmS
  rw [lst_false, ex_list]
  simp only [List.foldl_cons, List.foldl_nil]
  rw [st_no (x := exX b) rfl, st_c, st_x, st_no (x := fbyX b) rfl, st_no (x := k0) rfl, st_x2]
theorem fby_inst (b : Nat) : nmS true (fbyX b) [] = [] := by
  unfold nmS
  rw [Xt.lst_eq]
  have : kidsI true (fbyX b) = [k0] := rfl
  rw [this]
  simp only [List.map_cons, List.map_nil, k0, leaf_lst, List.flatten_cons, List.flatten_nil, List.append_nil]
  simp only [List.foldl_cons, List.foldl_nil]
  rw [st_no (x := fbyX b) rfl, st_no rfl]
def vIf : Xt := .mk 2 0 0 0 ⟨#[105, 102]⟩ none 0 []
def ifX (b : Nat) (c : Nat) : Xt := .mk 4 0 0 0 ⟨#[]⟩ (some ⟨b + 1, 0, none⟩) c [vC, vX]
theorem if_list (b c : Nat) : (ifX b c).list = [ifX b c, vC, vX] := by
  rw [Xt.list_eq]
  show _ :: ([vC, vX].map Xt.list).flatten = _
  simp only [List.map_cons, List.map_nil, vC, vX, leaf_list]
  rfl
theorem if_depth (b c : Nat) : (ifX b c).depth = 2 := by
  rw [Xt.depth_eq]
  show 1 + ([vC, vX].map Xt.depth).foldl max 0 = _
  simp only [List.map_cons, List.map_nil, vC, vX, leaf_depth]
  rfl
end Go.Proofs.YtoekgbdomeklgaaGreatDoor
/- lives: the walk. -/
namespace Go.Proofs.YtoekgbdomeklgaaGreatDoor
set_option linter.unusedVariables false
set_option linter.unusedSimpArgs false
open Go.RowKit
def chkF (k op t v : Int) (n : Nat) (nm : ByteArray) (q : Bool) : Int := if 64 < n then 3 else if (formedP k op t v n q && onlyP k op t v (nm.data.toList == [])) = false then 5 else if (hasIdn k && !idP nm) = true then 6 else 0
theorem chk1_F (wok : ByteArray → Bool) (x : Xt) : chk1 wok x = chkF x.k x.op x.t x.v x.ar.length x.nm (wok x.nm) := by
  rw [chk1, chkF, ByteArray.toList_eq]
theorem f_if3 (q : Bool) : chkF 4 0 0 0 3 ⟨#[]⟩ q = 0 := by cases q <;> decide +kernel
theorem f_if2 (q : Bool) : chkF 4 0 0 0 2 ⟨#[]⟩ q = 5 := by cases q <;> decide +kernel
theorem f_fby (q : Bool) : chkF 7 0 0 0 2 ⟨#[]⟩ q = 0 := by cases q <;> decide +kernel
theorem f_c (q : Bool) : chkF 2 0 0 0 0 ⟨#[99]⟩ q = 0 := by cases q <;> decide +kernel
theorem f_x (q : Bool) : chkF 2 0 0 0 0 ⟨#[120]⟩ q = 0 := by cases q <;> decide +kernel
theorem f_k (q : Bool) : chkF 1 0 2 0 0 ⟨#[]⟩ q = 0 := by cases q <;> decide +kernel
theorem f_n (q : Bool) : chkF 2 0 0 0 0 ⟨#[105, 102]⟩ q = 6 := by cases q <;> decide +kernel
theorem chk_ex (wok : ByteArray → Bool) (b : Nat) : chkAll wok (exX b) = 0 := by
  rw [chkAll, if_neg (by rw [ex_size, ex_depth]; omega), ex_list]
  have h1 : chk1 wok (exX b) = 0 := (chk1_F _ _).trans (f_if3 _)
  have h2 : chk1 wok (fbyX b) = 0 := (chk1_F _ _).trans (f_fby _)
  have h3 : chk1 wok vC = 0 := (chk1_F _ _).trans (f_c _)
  have h4 : chk1 wok vX = 0 := (chk1_F _ _).trans (f_x _)
  have h5 : chk1 wok k0 = 0 := (chk1_F _ _).trans (f_k _)
  simp only [firstE, h1, h2, h3, h4, h5, if_pos]
theorem chk_vIf (wok : ByteArray → Bool) : chkAll wok vIf = 6 := by
  rw [chkAll, if_neg (by rw [vIf, leaf_size, leaf_depth]; omega), vIf, leaf_list]
  have h' : chk1 wok (.mk 2 0 0 0 ⟨#[105, 102]⟩ none 0 []) = 6 := (chk1_F _ _).trans (f_n _)
  simp only [firstE, h']
  rfl
theorem chk_if2 (wok : ByteArray → Bool) (b c : Nat) : chkAll wok (ifX b c) = 5 := by
  rw [chkAll, if_neg (by rw [← list_length, if_list, if_depth]; show ¬ (400 < 3 ∨ 32 < 2); omega), if_list]
  have h : chk1 wok (ifX b c) = 5 := (chk1_F _ _).trans (f_if2 _)
  simp only [firstE, h]
  rfl
theorem nmok_of {wok : ByteArray → Bool} {w : World} (hs : Std w) (y : Xt) (hk : y.k ≠ 11) (hn : y.nm.size ≤ 140737488351232) : NmOk wok w y :=
  ⟨fun h => absurd h hk, fun _ => Lib.hid fun W hb => ident_any y.nm W (hs.to hb) hn⟩
theorem rdn_lit (W : World) (x y : ByteArray) (t : TypeId) : RdN (W.alloc (.cells #[.string x, .string y] t)) (W.alloc (.cells #[.string x, .string y] t)).heap.size (some ⟨W.heap.size, 0, none⟩) [x, y] := fun _ => ⟨_, rfl, by rw [World.size_alloc]; exact Nat.lt_succ_self _, fun i z hz => by
  rcases i with _ | _ | i
  · obtain rfl : x = z := Option.some.inj hz
    rw [show (Addr.add ⟨W.heap.size, 0, none⟩ 0) = ⟨W.heap.size, 0, none⟩ from rfl]
    simp [go_sem]
  · obtain rfl : y = z := Option.some.inj hz
    simp [go_sem, Addr.add]
  · cases hz⟩
theorem sameN_refl (l : List ByteArray) : sameN l l = true := by rw [sameN]; exact beq_self_eq_true _
abbrev exL (b : Nat) : Value := .agg #[.int .i64 4, .int .i64 0, .int .i64 0, .int .i64 0, .string ⟨#[]⟩, .slice (some ⟨b + 1, 0, none⟩) 3 3]
abbrev fbL (b : Nat) : Value := .agg #[.int .i64 7, .int .i64 0, .int .i64 0, .int .i64 0, .string ⟨#[]⟩, .slice (some ⟨b, 0, none⟩) 2 2]
set_option maxHeartbeats 2000000 in
set_option maxRecDepth 20000 in
theorem lives_any (w : World) (hs : Std w) : Calls Tryz.prog 6 #[] w (Bel (.bool true) w) := by
  have KE : Hid (∀ W, Calls Tryz.prog 15 #[] W (fun e w' => e = .returned (exL (W.heap.size + 3)) ∧ RdX w' w'.heap.size (exX (W.heap.size + 3)) ∧ Below W.heap.size W w' ∧ w'.heap.size = W.heap.size + 5)) := Lib.hid fun W => example_any W
  have HS := Lib.hid hs
  clear hs
  go_enter Tryz.func6, Tryz.ntmps6
  go_wp2_with (go_at_call 15; refine (KE.out _).mono ?_; rintro e w1 ⟨rfl, hR, hb1, hz1⟩)
  obtain ⟨b, hb⟩ : ∃ b, w.heap.size + 3 = b := ⟨_, rfl⟩
  have hs1 := HS.out.to hb1
  rw [hb] at hR ⊢
  have hz2 : w1.heap.size = b + 2 := by omega
  have hbb : w.heap.size + 5 = b + 2 := by omega
  rw [hbb]
  obtain ⟨W1, hW1⟩ : ∃ W1, w1.alloc (.cells #[.int .i64 4, .int .i64 0, .int .i64 0, .int .i64 0, .string ⟨#[]⟩, .slice (some ⟨b + 1, 0, none⟩) 3 3] 24) = W1 := ⟨_, rfl⟩
  have hW : Below w1.heap.size w1 W1 := by rw [← hW1]; exact bel_box _
  have BX : Hid (∀ W, Below W1.heap.size W1 W → W.cell? ⟨b + 2, 0, none⟩ = some (.int .i64 4) ∧ W.cell? ⟨b + 2, 1, none⟩ = some (.int .i64 0) ∧ W.cell? ⟨b + 2, 2, none⟩ = some (.int .i64 0) ∧ W.cell? ⟨b + 2, 3, none⟩ = some (.int .i64 0) ∧ W.cell? ⟨b + 2, 4, none⟩ = some (.string ⟨#[]⟩) ∧ W.cell? ⟨b + 2, 5, none⟩ = some (.slice (some ⟨b + 1, 0, none⟩) 3 3)) := Lib.hid fun W h => by
    rw [← hW1] at h
    have := bxW_cells (w := w1) (x := exX b) h
    rw [hz2] at this
    exact ⟨this.1, this.2.1, this.2.2.1, this.2.2.2.1, this.2.2.2.2.1, this.2.2.2.2.2.1⟩
  have FX : Hid (∀ W, Below W1.heap.size W1 W → W.cell? ⟨b + 1, 12, none⟩ = some (.int .i64 7) ∧ W.cell? ⟨b + 1, 13, none⟩ = some (.int .i64 0) ∧ W.cell? ⟨b + 1, 14, none⟩ = some (.int .i64 0) ∧ W.cell? ⟨b + 1, 15, none⟩ = some (.int .i64 0) ∧ W.cell? ⟨b + 1, 16, none⟩ = some (.string ⟨#[]⟩) ∧ W.cell? ⟨b + 1, 17, none⟩ = some (.slice (some ⟨b, 0, none⟩) 2 2)) := Lib.hid fun W h => by
    have h2 := hR.to (hW.trans (h.mono hW.size))
    obtain ⟨ad, y, hA, _, hy, _, hc, _⟩ := h2.at_ (i := 2) (show 2 < 3 by decide)
    obtain rfl := Option.some.inj hA
    obtain rfl : fbyX b = y := Option.some.inj hy
    exact hc
  have up : ∀ {W}, Below W1.heap.size W1 W → Below w1.heap.size w1 W := fun h => hW.trans (h.mono hW.size)
  have K1 : Hid (∀ W, Below W1.heap.size W1 W → Calls Tryz.prog 16 #[exL b] W (Bel (.int .i64 0) W)) := Lib.hid fun W h => by
    have := check_any (fun _ => false) (exX b) W (hR.to (up h)) (fun y hy => by
      rw [ex_list] at hy
      refine nmok_of (hs1.to (up h)) y ?_ ?_
      · rcases List.mem_cons.1 hy with rfl | hy
        · show (4 : Int) ≠ 11; decide
        · simp only [List.mem_cons, List.not_mem_nil, or_false] at hy
          rcases hy with rfl | rfl | rfl | rfl | rfl <;> first | decide | (show (7 : Int) ≠ 11; decide) | exact Nat.zero_le _
      · rcases List.mem_cons.1 hy with rfl | hy
        · exact Nat.zero_le _
        · simp only [List.mem_cons, List.not_mem_nil, or_false] at hy
          rcases hy with rfl | rfl | rfl | rfl | rfl <;> first | decide | (show (7 : Int) ≠ 11; decide) | exact Nat.zero_le _)
    rwa [chk_ex] at this
  have K2 : Hid (∀ W, Below W1.heap.size W1 W → Calls Tryz.prog 17 #[exL b] W (Bel (.int .i64 6) W)) := Lib.hid fun W h => by
    have := size_any (exX b) W (hR.to (up h)) (by rw [ex_size]; omega)
    rwa [ex_size] at this
  have K3 : Hid (∀ W, Below W1.heap.size W1 W → Calls Tryz.prog 18 #[exL b] W (Bel (.int .i64 3) W)) := Lib.hid fun W h => by
    have := depth_any (exX b) W (hR.to (up h)) (by rw [ex_size]; omega)
    rwa [ex_depth] at this
  have K4 : Hid (∀ W, Below W1.heap.size W1 W → Calls Tryz.prog 19 #[exL b, .int .i64 2] W (Bel (.int .i64 3) W)) := Lib.hid fun W h => by
    have := count_any (exX b) 2 W (hR.to (up h)) (by rw [ex_size]; omega)
    rwa [ex_count] at this
  have K5 : Hid (∀ W, Below W1.heap.size W1 W → Calls Tryz.prog 21 #[exL b] W (NewN [⟨#[99]⟩, ⟨#[120]⟩] W)) := Lib.hid fun W h => by
    have := names_any (exX b) W (hR.to (up h)) (by rw [ex_size]; omega)
    rwa [ex_names] at this
  have K6 : Hid (∀ W, Below W1.heap.size W1 W → Calls Tryz.prog 22 #[fbL b] W (NewN [] W)) := Lib.hid fun W h => by
    have hk := (hR.to (up h)).kid (y := fbyX b) (by show fbyX b ∈ [vC, vX, fbyX b]; simp)
    have := instants_any (fbyX b) W hk (by rw [fby_size]; omega)
    rwa [fby_inst] at this
  have K7 : Hid (∀ W, Below W1.heap.size W1 W → Calls Tryz.prog 23 #[exL b] W (Bel (.bool false) W)) := Lib.hid fun W h => by
    have := stateless_any (exX b) W (hR.to (up h)) (by rw [ex_size]; omega)
    rwa [ex_state] at this
  have K8 : Hid (∀ W, Below W1.heap.size W1 W → Calls Tryz.prog 16 #[.agg #[.int .i64 2, .int .i64 0, .int .i64 0, .int .i64 0, .string ⟨#[105, 102]⟩, .slice none 0 0]] W (Bel (.int .i64 6) W)) := Lib.hid fun W h => by
    have := check_any (fun _ => false) vIf W (RdX.leaf _ _ _ _ _ (by show 2 ≤ maxLen; unfold maxLen; omega)) (fun y hy => by
      rw [vIf, leaf_list] at hy
      obtain rfl := List.mem_singleton.1 hy
      exact nmok_of (hs1.to (up h)) _ (by decide) (by decide))
    rwa [chk_vIf] at this
  have K9 : Hid (∀ W, Below W1.heap.size W1 W → Calls Tryz.prog 16 #[.agg #[.int .i64 4, .int .i64 0, .int .i64 0, .int .i64 0, .string ⟨#[]⟩, .slice (some ⟨b + 1, 0, none⟩) 2 3]] W (Bel (.int .i64 5) W)) := Lib.hid fun W h => by
    have hX : RdX W W.heap.size (ifX b 3) := by
      have h2 := hR.to (up h)
      cases h2 with
      | mk x h0 h1 h2 h3 =>
        refine .mk _ (fun _ => h0 (List.cons_ne_nil _ _)) (fun ad i y hA hy => ?_) (fun y hy => h2 y ?_) ⟨⟨by show 2 ≤ maxLen; unfold maxLen; omega, nm0⟩, by show 2 ≤ 3; decide⟩
        · refine h1 ad i y hA ?_
          rcases i with _ | _ | i
          · exact hy
          · exact hy
          · cases hy
        · rcases List.mem_cons.1 (show y ∈ [vC, vX] from hy) with rfl | hy
          · show vC ∈ [vC, vX, fbyX b]; simp
          · obtain rfl := List.mem_singleton.1 hy
            show vX ∈ [vC, vX, fbyX b]; simp
    have := check_any (fun _ => false) (ifX b 3) W hX (fun y hy => by
      rw [if_list] at hy
      refine nmok_of (hs1.to (up h)) y ?_ ?_
      · rcases List.mem_cons.1 hy with rfl | hy
        · show (4 : Int) ≠ 11; decide
        · simp only [List.mem_cons, List.not_mem_nil, or_false] at hy
          rcases hy with rfl | rfl <;> decide
      · rcases List.mem_cons.1 hy with rfl | hy
        · exact Nat.zero_le _
        · simp only [List.mem_cons, List.not_mem_nil, or_false] at hy
          rcases hy with rfl | rfl <;> decide)
    rwa [chk_if2] at this
  have S1 : Hid (∀ (A A' : Option Addr) (c : Nat) W, RdN W W.heap.size A [⟨#[99]⟩, ⟨#[120]⟩] → RdN W W.heap.size A' [⟨#[99]⟩, ⟨#[120]⟩] → Calls Tryz.prog 20 #[.slice A 2 c, .slice A' 2 2] W (Bel (.bool true) W)) := Lib.hid fun A A' c W h h' => by
    have := rsame_any A A' c 2 [⟨#[99]⟩, ⟨#[120]⟩] [⟨#[99]⟩, ⟨#[120]⟩] W h h' (by decide) (by decide)
    rwa [sameN_refl] at this
  have S2 : Hid (∀ (A : Option Addr) (c : Nat) W, Calls Tryz.prog 20 #[.slice A 0 c, .slice none 0 0] W (Bel (.bool true) W)) := Lib.hid fun A c W =>
    rsame_any A none c 0 [] [] W (fun h => absurd rfl h) (fun h => absurd rfl h) (by decide) (by decide)
  have HB : Hid (Below w.heap.size w W1) := Lib.hid (hb1.trans (hW.mono hb1.size))
  obtain ⟨a0, a1, a2, a3, a4, a5⟩ := BX.out W1 (Below.refl _ _)
  have HW1 := Lib.hid hW1
  rw [hW1]
  clear hW1 hW up hR hb1 hz1 hz2 hbb hs1 hb KE HS
  go_wp2_with (first
    | (go_at_call 16; (with_reducible refine (K1.out _ ?_).mono ?_); (focus ((repeat (first | (with_reducible exact Below.refl _ _) | (with_reducible assumption) | (with_reducible exact bel_box _) | (with_reducible refine bel_step ?_ (by with_reducible assumption)) | (with_reducible refine Below.drew ?_) | (with_reducible refine below_drewN ?_ _) | (with_reducible refine bel_alloc ?_ _))); done)); rintro e w2 ⟨rfl, hb2⟩; obtain ⟨a0, a1, a2, a3, a4, a5⟩ := BX.out w2 (by repeat (first | (with_reducible exact Below.refl _ _) | (with_reducible assumption) | (with_reducible exact bel_box _) | (with_reducible refine bel_step ?_ (by with_reducible assumption)) | (with_reducible refine Below.drew ?_) | (with_reducible refine below_drewN ?_ _) | (with_reducible refine bel_alloc ?_ _))))
    | (go_at_call 17; (with_reducible refine (K2.out _ ?_).mono ?_); (focus ((repeat (first | (with_reducible exact Below.refl _ _) | (with_reducible assumption) | (with_reducible exact bel_box _) | (with_reducible refine bel_step ?_ (by with_reducible assumption)) | (with_reducible refine Below.drew ?_) | (with_reducible refine below_drewN ?_ _) | (with_reducible refine bel_alloc ?_ _))); done)); rintro e w3 ⟨rfl, hb3⟩; obtain ⟨a0, a1, a2, a3, a4, a5⟩ := BX.out w3 (by repeat (first | (with_reducible exact Below.refl _ _) | (with_reducible assumption) | (with_reducible exact bel_box _) | (with_reducible refine bel_step ?_ (by with_reducible assumption)) | (with_reducible refine Below.drew ?_) | (with_reducible refine below_drewN ?_ _) | (with_reducible refine bel_alloc ?_ _))))
    | (go_at_call 18; (with_reducible refine (K3.out _ ?_).mono ?_); (focus ((repeat (first | (with_reducible exact Below.refl _ _) | (with_reducible assumption) | (with_reducible exact bel_box _) | (with_reducible refine bel_step ?_ (by with_reducible assumption)) | (with_reducible refine Below.drew ?_) | (with_reducible refine below_drewN ?_ _) | (with_reducible refine bel_alloc ?_ _))); done)); rintro e w4 ⟨rfl, hb4⟩; obtain ⟨a0, a1, a2, a3, a4, a5⟩ := BX.out w4 (by repeat (first | (with_reducible exact Below.refl _ _) | (with_reducible assumption) | (with_reducible exact bel_box _) | (with_reducible refine bel_step ?_ (by with_reducible assumption)) | (with_reducible refine Below.drew ?_) | (with_reducible refine below_drewN ?_ _) | (with_reducible refine bel_alloc ?_ _))))
    | (go_at_call 19; (with_reducible refine (K4.out _ ?_).mono ?_); (focus ((repeat (first | (with_reducible exact Below.refl _ _) | (with_reducible assumption) | (with_reducible exact bel_box _) | (with_reducible refine bel_step ?_ (by with_reducible assumption)) | (with_reducible refine Below.drew ?_) | (with_reducible refine below_drewN ?_ _) | (with_reducible refine bel_alloc ?_ _))); done)); rintro e w5 ⟨rfl, hb5⟩; obtain ⟨a0, a1, a2, a3, a4, a5⟩ := BX.out w5 (by repeat (first | (with_reducible exact Below.refl _ _) | (with_reducible assumption) | (with_reducible exact bel_box _) | (with_reducible refine bel_step ?_ (by with_reducible assumption)) | (with_reducible refine Below.drew ?_) | (with_reducible refine below_drewN ?_ _) | (with_reducible refine bel_alloc ?_ _))))
    | (go_at_call 21; (with_reducible refine (K5.out _ ?_).mono ?_); (focus ((repeat (first | (with_reducible exact Below.refl _ _) | (with_reducible assumption) | (with_reducible exact bel_box _) | (with_reducible refine bel_step ?_ (by with_reducible assumption)) | (with_reducible refine Below.drew ?_) | (with_reducible refine below_drewN ?_ _) | (with_reducible refine bel_alloc ?_ _))); done)); rintro e w6 ⟨A6, c6, rfl, hR6, hb6⟩; obtain ⟨a0, a1, a2, a3, a4, a5⟩ := BX.out w6 (by repeat (first | (with_reducible exact Below.refl _ _) | (with_reducible assumption) | (with_reducible exact bel_box _) | (with_reducible refine bel_step ?_ (by with_reducible assumption)) | (with_reducible refine Below.drew ?_) | (with_reducible refine below_drewN ?_ _) | (with_reducible refine bel_alloc ?_ _))))
    | (go_at_call 20; (with_reducible refine (S1.out _ _ _ _ ?_ ?_).mono ?_); (focus (exact hR6.to (by repeat (first | (with_reducible exact Below.refl _ _) | (with_reducible assumption) | (with_reducible exact bel_box _) | (with_reducible refine bel_step ?_ (by with_reducible assumption)) | (with_reducible refine Below.drew ?_) | (with_reducible refine below_drewN ?_ _) | (with_reducible refine bel_alloc ?_ _))); done)); (focus (exact rdn_lit _ _ _ _; done)); rintro e w7 ⟨rfl, hb7⟩; obtain ⟨a0, a1, a2, a3, a4, a5⟩ := BX.out w7 (by repeat (first | (with_reducible exact Below.refl _ _) | (with_reducible assumption) | (with_reducible exact bel_box _) | (with_reducible refine bel_step ?_ (by with_reducible assumption)) | (with_reducible refine Below.drew ?_) | (with_reducible refine below_drewN ?_ _) | (with_reducible refine bel_alloc ?_ _))); obtain ⟨d0, d1, d2, d3, d4, d5⟩ := FX.out w7 (by repeat (first | (with_reducible exact Below.refl _ _) | (with_reducible assumption) | (with_reducible exact bel_box _) | (with_reducible refine bel_step ?_ (by with_reducible assumption)) | (with_reducible refine Below.drew ?_) | (with_reducible refine below_drewN ?_ _) | (with_reducible refine bel_alloc ?_ _))))
    | (go_at_call 22; (with_reducible refine (K6.out _ ?_).mono ?_); (focus ((repeat (first | (with_reducible exact Below.refl _ _) | (with_reducible assumption) | (with_reducible exact bel_box _) | (with_reducible refine bel_step ?_ (by with_reducible assumption)) | (with_reducible refine Below.drew ?_) | (with_reducible refine below_drewN ?_ _) | (with_reducible refine bel_alloc ?_ _))); done)); rintro e w8 ⟨A8, c8, rfl, hR8, hb8⟩; obtain ⟨a0, a1, a2, a3, a4, a5⟩ := BX.out w8 (by repeat (first | (with_reducible exact Below.refl _ _) | (with_reducible assumption) | (with_reducible exact bel_box _) | (with_reducible refine bel_step ?_ (by with_reducible assumption)) | (with_reducible refine Below.drew ?_) | (with_reducible refine below_drewN ?_ _) | (with_reducible refine bel_alloc ?_ _))))
    | (go_at_call 20; (with_reducible refine (S2.out _ _ _).mono ?_); rintro e w9 ⟨rfl, hb9⟩; obtain ⟨a0, a1, a2, a3, a4, a5⟩ := BX.out w9 (by repeat (first | (with_reducible exact Below.refl _ _) | (with_reducible assumption) | (with_reducible exact bel_box _) | (with_reducible refine bel_step ?_ (by with_reducible assumption)) | (with_reducible refine Below.drew ?_) | (with_reducible refine below_drewN ?_ _) | (with_reducible refine bel_alloc ?_ _))))
    | (go_at_call 23; (with_reducible refine (K7.out _ ?_).mono ?_); (focus ((repeat (first | (with_reducible exact Below.refl _ _) | (with_reducible assumption) | (with_reducible exact bel_box _) | (with_reducible refine bel_step ?_ (by with_reducible assumption)) | (with_reducible refine Below.drew ?_) | (with_reducible refine below_drewN ?_ _) | (with_reducible refine bel_alloc ?_ _))); done)); rintro e w10 ⟨rfl, hb10⟩; obtain ⟨a0, a1, a2, a3, a4, a5⟩ := BX.out w10 (by repeat (first | (with_reducible exact Below.refl _ _) | (with_reducible assumption) | (with_reducible exact bel_box _) | (with_reducible refine bel_step ?_ (by with_reducible assumption)) | (with_reducible refine Below.drew ?_) | (with_reducible refine below_drewN ?_ _) | (with_reducible refine bel_alloc ?_ _))))
    | (go_at_call 16; (with_reducible refine (K8.out _ ?_).mono ?_); (focus ((repeat (first | (with_reducible exact Below.refl _ _) | (with_reducible assumption) | (with_reducible exact bel_box _) | (with_reducible refine bel_step ?_ (by with_reducible assumption)) | (with_reducible refine Below.drew ?_) | (with_reducible refine below_drewN ?_ _) | (with_reducible refine bel_alloc ?_ _))); done)); rintro e w11 ⟨rfl, hb11⟩; obtain ⟨a0, a1, a2, a3, a4, a5⟩ := BX.out w11 (by repeat (first | (with_reducible exact Below.refl _ _) | (with_reducible assumption) | (with_reducible exact bel_box _) | (with_reducible refine bel_step ?_ (by with_reducible assumption)) | (with_reducible refine Below.drew ?_) | (with_reducible refine below_drewN ?_ _) | (with_reducible refine bel_alloc ?_ _))))
    | (go_at_call 16; (with_reducible refine (K9.out _ ?_).mono ?_); (focus ((repeat (first | (with_reducible exact Below.refl _ _) | (with_reducible assumption) | (with_reducible exact bel_box _) | (with_reducible refine bel_step ?_ (by with_reducible assumption)) | (with_reducible refine Below.drew ?_) | (with_reducible refine below_drewN ?_ _) | (with_reducible refine bel_alloc ?_ _))); done)); rintro e w12 ⟨rfl, hb12⟩))
  go_ret
  exact ⟨rfl, HB.out.trans (Below.mono (by repeat (first | (with_reducible exact Below.refl _ _) | (with_reducible assumption) | (with_reducible exact bel_box _) | (with_reducible refine bel_step ?_ (by with_reducible assumption)) | (with_reducible refine Below.drew ?_) | (with_reducible refine below_drewN ?_ _) | (with_reducible refine bel_alloc ?_ _))) HB.out.size)⟩
end Go.Proofs.YtoekgbdomeklgaaGreatDoor
/- heavy; the walk of ExprCounts. -/
namespace Go.Proofs.YtoekgbdomeklgaaGreatDoor
set_option linter.unusedVariables false
set_option linter.unusedSimpArgs false
open Go.RowKit Go.Sort
set_option maxHeartbeats 1000000 in
set_option maxRecDepth 20000 in
theorem heavy_any (x : Xt) (w : World) (hX : RdX w w.heap.size x) : Calls Tryz.prog 5 #[xV x] w (Bel (.bool (decide (500 < x.size))) w) := by
  obtain ⟨m, hm⟩ : ∃ m, min x.size 501 = m := ⟨_, rfl⟩
  have KW : Hid (∀ W, Below w.heap.size w W → Calls Tryz.prog 14 #[xV x, .int .i64 501] W (Bel (.int .i64 (m : Nat)) W)) := Lib.hid fun W h => by
    have := weigh_any x 501 W (hX.to h) (by omega) (by omega)
    rwa [hm] at this
  have hq : decide (500 < x.size) = decide (500 < m) := by rw [← hm, decide_eq_decide]; omega
  rw [hq]
  clear hq hm hX
  simp only [xV] at KW ⊢
  by_cases h : 500 < m
  · rw [decide_eq_true h]
    have u : (500 : Int) < (m : Int) := by omega
    go_enter Tryz.func5, Tryz.ntmps5
    go_wp2_with (go_at_call 14; (with_reducible refine (KW.out _ ?_).mono ?_); (focus ((repeat (first | (with_reducible exact Below.refl _ _) | (with_reducible assumption) | (with_reducible exact bel_box _) | (with_reducible refine bel_step ?_ (by with_reducible assumption)) | (with_reducible refine Below.drew ?_) | (with_reducible refine below_drewN ?_ _) | (with_reducible refine bel_alloc ?_ _))); done)); rintro e w1 ⟨rfl, hb1⟩)
    go_ret
    exact ⟨rfl, (by repeat (first | (with_reducible exact Below.refl _ _) | (with_reducible assumption) | (with_reducible exact bel_box _) | (with_reducible refine bel_step ?_ (by with_reducible assumption)) | (with_reducible refine Below.drew ?_) | (with_reducible refine below_drewN ?_ _) | (with_reducible refine bel_alloc ?_ _)))⟩
  · rw [decide_eq_false h]
    have u : (m : Int) ≤ (500 : Int) := by omega
    go_enter Tryz.func5, Tryz.ntmps5
    go_wp2_with (go_at_call 14; (with_reducible refine (KW.out _ ?_).mono ?_); (focus ((repeat (first | (with_reducible exact Below.refl _ _) | (with_reducible assumption) | (with_reducible exact bel_box _) | (with_reducible refine bel_step ?_ (by with_reducible assumption)) | (with_reducible refine Below.drew ?_) | (with_reducible refine below_drewN ?_ _) | (with_reducible refine bel_alloc ?_ _))); done)); rintro e w1 ⟨rfl, hb1⟩)
    go_ret
    exact ⟨ret_bool (decide_eq_false (by omega)), (by repeat (first | (with_reducible exact Below.refl _ _) | (with_reducible assumption) | (with_reducible exact bel_box _) | (with_reducible refine bel_step ?_ (by with_reducible assumption)) | (with_reducible refine Below.drew ?_) | (with_reducible refine below_drewN ?_ _) | (with_reducible refine bel_alloc ?_ _)))⟩
end Go.Proofs.YtoekgbdomeklgaaGreatDoor
/- The walk of ExprEach. -/
namespace Go.Proofs.YtoekgbdomeklgaaGreatDoor
set_option linter.unusedVariables false
set_option linter.unusedSimpArgs false
open Go.RowKit Go.Shelf Go.Sort
attribute [local go_sem] Oper.semAt_some
theorem flat_ct : ∀ (l m : List Xt), (∀ a ∈ l, ∀ b : Xt, a.ct = b.ct → a.list.map Xt.ct = b.list.map Xt.ct) → l.map Xt.ct = m.map Xt.ct → ((l.map Xt.list).flatten).map Xt.ct = ((m.map Xt.list).flatten).map Xt.ct := by
  intro l
  induction l with
  | nil =>
    intro m _ h
    cases m with
    | nil => rfl
    | cons b m => cases h
  | cons a l ih =>
    intro m hl h
    cases m with
    | nil => cases h
    | cons b m =>
      simp only [List.map_cons, List.cons.injEq] at h
      simp only [List.map_cons, List.flatten_cons, List.map_append]
      rw [hl a (by simp) b h.1, ih m (fun c hc => hl c (by simp [hc])) h.2]
theorem ct_list (x : Xt) : ∀ y : Xt, x.ct = y.ct → x.list.map Xt.ct = y.list.map Xt.ct := by
  induction x using Xt.ind with
  | h x ih =>
    intro y h
    obtain ⟨_, _, _, _, _, h6, _⟩ := ct_parts h
    rw [Xt.list_eq, Xt.list_eq y, List.map_cons, List.map_cons, h, flat_ct x.ar y.ar ih h6]
theorem ct_size {x y : Xt} (h : x.ct = y.ct) : x.size = y.size := by
  have := congrArg List.length (ct_list x y h)
  rw [List.length_map, List.length_map, list_length, list_length] at this
  exact this
/-- the first k of a list, and one more -/
theorem pre_next {α : Type} {p l : List α} {a : α} {k : Nat} {b : α} (hp : p <+: l) (hk : k = p.length) (hb : l[k]? = some b) : (p ++ [a] <+: l) ↔ a = b := by
  subst hk
  obtain ⟨t, rfl⟩ := hp
  rw [List.getElem?_append_right (Nat.le_refl _), Nat.sub_self] at hb
  cases t with
  | nil => cases hb
  | cons c t =>
    obtain rfl : c = b := by simpa using hb
    rw [List.prefix_append_right_inj]
    constructor
    · rintro ⟨u, hu⟩
      simp at hu
      exact hu.1
    · rintro rfl
      exact ⟨t, rfl⟩
theorem run_eqlIn_fn_nil {P : Program} (w : World) (n : Nat) (t : TypeId) {ps rs : Array TypeId} {v : Bool} (f : Fn) (b c : Array Value) (h : P.underlying t = some (.func ps rs v)) :
    (Op.equalIn (n + 1) t (.func f b c) .nilFunc).run P w = .ok false w := by
  simp [Op.equalIn, run_underlying h]
theorem run_eql_fn_nil {P : Program} (w : World) (t : TypeId) {ps rs : Array TypeId} {v : Bool} (f : Fn) (b c : Array Value) (h : P.underlying t = some (.func ps rs v)) :
    (binOp .eql t (.func f b c) .nilFunc).run P w = .ok (.bool false) w := by
  simp only [binOp]
  simp [Op.equal, Op.maxDepth, run_eqlIn_fn_nil w 9999 t f b c h]
theorem EachR.some {x : Xt} {w w' : World} {e : Ending} (h : EachR x w e w') : Below w.heap.size w w' ∧ ∃ f c, e = .returned (.func (.func f) #[] c) := by
  obtain ⟨hb, (⟨_, f, c, rfl⟩ | ⟨_, x', be, rfl, _⟩)⟩ := h
  · exact ⟨hb, f, c, rfl⟩
  · exact ⟨hb, _, _, rfl⟩
/-- the boxes of the law: the expression's, stop's, the result's -/
theorem ev_box {w W : World} {x : Xt} {s : Int} (h : Below (((bxW w x).alloc (.cells #[.int .u8 s] 5)).alloc (.cells #[.bool false] 4)).heap.size (((bxW w x).alloc (.cells #[.int .u8 s] 5)).alloc (.cells #[.bool false] 4)) W) :
    (W.cell? ⟨w.heap.size, 0, none⟩ = some (.int .i64 x.k) ∧ W.cell? ⟨w.heap.size, 1, none⟩ = some (.int .i64 x.op) ∧ W.cell? ⟨w.heap.size, 2, none⟩ = some (.int .i64 x.t) ∧ W.cell? ⟨w.heap.size, 3, none⟩ = some (.int .i64 x.v) ∧ W.cell? ⟨w.heap.size, 4, none⟩ = some (.string x.nm) ∧ W.cell? ⟨w.heap.size, 5, none⟩ = some (.slice x.A x.ar.length x.c)) ∧
    W.cell? ⟨w.heap.size + 1, 0, none⟩ = some (.int .u8 s) ∧ (W.cell? ⟨w.heap.size + 1 + 1, 0, none⟩ = some (.bool false) ∧ W.frozen? ⟨w.heap.size + 1 + 1, 0, none⟩ = false) ∧ w.heap.size + 3 ≤ W.heap.size ∧ Below w.heap.size w W := by
  have hz : (((bxW w x).alloc (.cells #[.int .u8 s] 5)).alloc (.cells #[.bool false] 4)).heap.size = w.heap.size + 3 := by simp only [World.size_alloc]
  have hsz := h.size
  rw [hz] at hsz
  have hb : Below (bxW w x).heap.size (bxW w x) W := (bel_alloc (bel_box _) _).trans (h.mono (by rw [hz, bxW_size]; omega))
  obtain ⟨b0, b1, b2, b3, b4, b5, _⟩ := bxW_cells hb
  refine ⟨⟨b0, b1, b2, b3, b4, b5⟩, ?_, ⟨?_, ?_⟩, hsz, bxW_below hb⟩
  · exact (h.cell (p := ⟨w.heap.size + 1, 0, none⟩) (by rw [hz]; simp)).trans (by simp [go_sem])
  · exact (h.cell (p := ⟨w.heap.size + 1 + 1, 0, none⟩) (by rw [hz]; simp)).trans (by simp [go_sem])
  · exact (h.frozen (p := ⟨w.heap.size + 1 + 1, 0, none⟩) (by rw [hz]; simp)).trans (by simp [go_sem])
/-- a round goes on: what has come are the first contents, no more than s, and n says how many -/
def EvI (x : Xt) (s q : Nat) (w V : World) (pre : List Xt) (W : World) : Prop :=
  (pre.map Xt.ct <+: x.list.map Xt.ct ∧ pre.length ≤ s) ∧ ((W.cell? ⟨q, 0, none⟩ = some (.int .i64 (pre.length : Int)) ∧ W.frozen? ⟨q, 0, none⟩ = false) ∧ KX (fun k => k = q) V W) ∧ Below w.heap.size w W
theorem EvI.own {x : Xt} {s q : Nat} {w V : World} {B : Nat} (h : w.heap.size ≤ B) : OwnFrom B (EvI x s q w V) :=
  OwnFrom.and (ownFrom_pure _ _) (OwnFrom.and (OwnFrom.and (Own.from (fun s A B row hs hg hr => ⟨cell_kept hs.1 hg hr, (frozen_kept hs.1 hg hr).trans hs.2⟩) _) (own_kx _)) (ownFrom_below (Nat.le_refl _) h))
/-- .. or is left: by a return, where something else has come; by the break, where s + 1 have come -/
def EvX (x : Xt) (s q : Nat) (w V : World) (c : Code) (pre : List Xt) (W : World) : Prop :=
  (c = .ret ∧ ¬ pre.map Xt.ct <+: x.list.map Xt.ct) ∨ (c = .exit 0 ∧ EvI x (s + 1) q w V pre W ∧ pre.length = s + 1)
theorem EvX.own {x : Xt} {s q : Nat} {w V : World} {B : Nat} (h : w.heap.size ≤ B) (c : Code) : OwnFrom B (EvX x s q w V c) := fun pre X Y row hs hg hr =>
  hs.elim .inl fun ⟨h1, h2, h3⟩ => .inr ⟨h1, EvI.own h pre X Y row h2 hg hr, h3⟩
theorem RdXs.kx {S : Nat → Prop} {W W' : World} {B : Nat} {A : Option Addr} {l : List Xt} (h : RdXs W B A l) (hk : KX S W W') (hS : ∀ k, S k → B ≤ k) : RdXs W' B A l := fun hn => by
  obtain ⟨ad, e, hb, hc⟩ := h hn
  refine ⟨ad, e, hb, fun i y hy => ?_⟩
  have hne : ¬ S (ad.add (i * 6)).block := fun hs => by have := hS _ hs; rw [add_block] at this; omega
  obtain ⟨c0, c1, c2, c3, c4, c5⟩ := hc i y hy
  exact ⟨hk.cell hne c0, hk.cell (a := ⟨_, _, none⟩) hne c1, hk.cell (a := ⟨_, _, none⟩) hne c2, hk.cell (a := ⟨_, _, none⟩) hne c3, hk.cell (a := ⟨_, _, none⟩) hne c4, hk.cell (a := ⟨_, _, none⟩) hne c5⟩
theorem RdX.up {W : World} {B B' : Nat} {x : Xt} (h : RdX W B x) (hB : B ≤ B') : RdX W B' x := h.blw (Below.refl _ _) hB
set_option maxHeartbeats 4000000 in
set_option maxRecDepth 100000 in
theorem expreach_any (x : Xt) (s : Nat) (h8 : s ≤ 255) (w : World) (hs : Std w) (hX : RdX w w.heap.size x) : Calls Tryz.prog 3 #[xV x, .int .u8 (s : Int)] w (Bel (.bool true) w) := by
  have KE := Lib.hid (fun W (h : Below w.heap.size w W) => each_any x W (hX.to h))
  have KH := Lib.hid (fun W (h : Below w.heap.size w W) => heavy_any x W (hX.to h))
  have KL := Lib.hid (fun W (h : Below w.heap.size w W) => lives_any W (hs.to h))
  have KR : x.size ≤ 500 → Hid (∀ W, Below w.heap.size w W → Calls Tryz.prog 7 #[xV x] W (NewX x.list W)) := fun h => Lib.hid fun W hb => rList_any x W (hX.to hb) (by omega)
  have hsm := spare_small x 1 29826161 (by omega)
  have qn := fun (w : World) (f : FuncId) (c : Array Value) => run_eql_fn_nil (P := Tryz.prog) w 26 (.func f) #[] c Tryz.underlying26
  have HX := Lib.hid hX
  clear hs hX
  by_cases z : 500 < x.size
  · rw [decide_eq_true z] at KH
    clear KR hsm
    simp only [xV] at KE KH ⊢
    go_enter Tryz.func3, Tryz.ntmps3
    go_wp2_with (first
      | (go_at_call 4; (with_reducible refine (KE.out _ ?_).mono ?_); (focus ((repeat (first | (with_reducible exact Below.refl _ _) | (with_reducible assumption) | (with_reducible exact bel_box _) | (with_reducible refine bel_step ?_ (by with_reducible assumption)) | (with_reducible refine Below.drew ?_) | (with_reducible refine below_drewN ?_ _) | (with_reducible refine bel_alloc ?_ _))); done)); rintro e w1 hp1; obtain ⟨hb1, f, c, rfl⟩ := hp1.some; clear hp1; (try clear hBw b0 b1 b2 b3 b4 b5 u0 r0 r1 bz); obtain ⟨⟨b0, b1, b2, b3, b4, b5⟩, u0, ⟨r0, r1⟩, bz, hBw⟩ := ev_box (w := w) (x := x) (s := (s : Int)) (W := w1) (by repeat (first | (with_reducible exact Below.refl _ _) | (with_reducible assumption) | (with_reducible exact bel_box _) | (with_reducible refine bel_step ?_ (by with_reducible assumption)) | (with_reducible refine Below.drew ?_) | (with_reducible refine below_drewN ?_ _) | (with_reducible refine bel_alloc ?_ _))))
      | (go_at_call 5; (with_reducible refine (KH.out _ ?_).mono ?_); (focus ((repeat (first | (with_reducible exact Below.refl _ _) | (with_reducible assumption) | (with_reducible exact bel_box _) | (with_reducible refine bel_step ?_ (by with_reducible assumption)) | (with_reducible refine Below.drew ?_) | (with_reducible refine below_drewN ?_ _) | (with_reducible refine bel_alloc ?_ _))); done)); rintro e w2 ⟨rfl, hb2⟩; (try clear hBw b0 b1 b2 b3 b4 b5 u0 r0 r1 bz); obtain ⟨⟨b0, b1, b2, b3, b4, b5⟩, u0, ⟨r0, r1⟩, bz, hBw⟩ := ev_box (w := w) (x := x) (s := (s : Int)) (W := w2) (by repeat (first | (with_reducible exact Below.refl _ _) | (with_reducible assumption) | (with_reducible exact bel_box _) | (with_reducible refine bel_step ?_ (by with_reducible assumption)) | (with_reducible refine Below.drew ?_) | (with_reducible refine below_drewN ?_ _) | (with_reducible refine bel_alloc ?_ _))))
      | (go_at_call 6; (with_reducible refine (KL.out _ ?_).mono ?_); (focus ((repeat (first | (with_reducible exact Below.refl _ _) | (with_reducible assumption) | (with_reducible exact bel_box _) | (with_reducible refine bel_step ?_ (by with_reducible assumption)) | (with_reducible refine Below.drew ?_) | (with_reducible refine below_drewN ?_ _) | (with_reducible refine bel_alloc ?_ _))); done)); rintro e w3 ⟨rfl, hb3⟩; (try clear hBw b0 b1 b2 b3 b4 b5 u0 r0 r1 bz); obtain ⟨⟨b0, b1, b2, b3, b4, b5⟩, u0, ⟨r0, r1⟩, bz, hBw⟩ := ev_box (w := w) (x := x) (s := (s : Int)) (W := w3) (by repeat (first | (with_reducible exact Below.refl _ _) | (with_reducible assumption) | (with_reducible exact bel_box _) | (with_reducible refine bel_step ?_ (by with_reducible assumption)) | (with_reducible refine Below.drew ?_) | (with_reducible refine below_drewN ?_ _) | (with_reducible refine bel_alloc ?_ _)))))
    have hc5 := World.cell?_setCell_same' w3 ⟨w.heap.size + 1 + 1, 0, none⟩ (.bool true) (by rw [r0]; rfl)
    refine bodyPost_ret (v := .bool true) (by simp [results, Tryz.f3, go_sem, hc5]) rfl ?_
    exact ⟨rfl, hBw.setCell (p := ⟨w.heap.size + 1 + 1, 0, none⟩) (show w.heap.size ≤ w.heap.size + 1 + 1 by omega) _⟩
  · rw [decide_eq_false z] at KH
    have hsz : x.size ≤ 500 := by omega
    have KR := KR hsz
    have hsp : 0 ≤ x.sp 1 29826161 := by
      have h1 : (x.size : Int) * (1 + x.size) ≤ 500 * 501 := Int.mul_le_mul (by omega) (by omega) (by omega) (by omega)
      have := hsm (by omega)
      omega
    clear z hsm
    simp only [xV] at KE KH KR ⊢
    refine (callsIn_wide (n := 5)).1 ?_
    refine callsIn_of_wp_marks Tryz.func3 rfl trivial ?_ rfl
    simp only [Tryz.ntmps3, List.size_toArray, List.length_cons, List.length_nil, Nat.reduceAdd, Nat.reduceSub, Array.replicate_succ, Array.replicate_zero, List.push_toArray, List.append_toArray, List.nil_append, List.cons_append]
    gi_wp2_with (first
      | (refine ⟨trivial, ?_⟩; gi_at_call 4; refine (callsIn_wide.2 (KE.out _ ?_)).mono ?_; (focus ((repeat (first | (with_reducible exact Below.refl _ _) | (with_reducible assumption) | (with_reducible exact bel_box _) | (with_reducible refine bel_step ?_ (by with_reducible assumption)) | (with_reducible refine Below.drew ?_) | (with_reducible refine below_drewN ?_ _) | (with_reducible refine bel_alloc ?_ _))); done)); rintro e w1 ⟨hb1, (⟨h, _⟩ | ⟨_, x', be, rfl, hct, hx', hbe, hcs⟩)⟩; (first | (exact absurd h (by omega)) | skip); have HCS := Lib.hid hcs; clear hcs; (try clear hBw b0 b1 b2 b3 b4 b5 u0 r0 r1 bz); obtain ⟨⟨b0, b1, b2, b3, b4, b5⟩, u0, ⟨r0, r1⟩, bz, hBw⟩ := ev_box (w := w) (x := x) (s := (s : Int)) (W := w1) (by repeat (first | (with_reducible exact Below.refl _ _) | (with_reducible assumption) | (with_reducible exact bel_box _) | (with_reducible refine bel_step ?_ (by with_reducible assumption)) | (with_reducible refine Below.drew ?_) | (with_reducible refine below_drewN ?_ _) | (with_reducible refine bel_alloc ?_ _))))
      | (refine ⟨trivial, ?_⟩; gi_at_call 5; refine (callsIn_wide.2 (KH.out _ ?_)).mono ?_; (focus ((repeat (first | (with_reducible exact Below.refl _ _) | (with_reducible assumption) | (with_reducible exact bel_box _) | (with_reducible refine bel_step ?_ (by with_reducible assumption)) | (with_reducible refine Below.drew ?_) | (with_reducible refine below_drewN ?_ _) | (with_reducible refine bel_alloc ?_ _))); done)); rintro e w2 ⟨rfl, hb2⟩; (try clear hBw b0 b1 b2 b3 b4 b5 u0 r0 r1 bz); obtain ⟨⟨b0, b1, b2, b3, b4, b5⟩, u0, ⟨r0, r1⟩, bz, hBw⟩ := ev_box (w := w) (x := x) (s := (s : Int)) (W := w2) (by repeat (first | (with_reducible exact Below.refl _ _) | (with_reducible assumption) | (with_reducible exact bel_box _) | (with_reducible refine bel_step ?_ (by with_reducible assumption)) | (with_reducible refine Below.drew ?_) | (with_reducible refine below_drewN ?_ _) | (with_reducible refine bel_alloc ?_ _))))
      | (refine ⟨trivial, ?_⟩; gi_at_call 7; refine (callsIn_wide.2 (KR.out _ ?_)).mono ?_; (focus ((repeat (first | (with_reducible exact Below.refl _ _) | (with_reducible assumption) | (with_reducible exact bel_box _) | (with_reducible refine bel_step ?_ (by with_reducible assumption)) | (with_reducible refine Below.drew ?_) | (with_reducible refine below_drewN ?_ _) | (with_reducible refine bel_alloc ?_ _))); done)); rintro e w3 ⟨A, c, rfl, hA, hb3⟩; (try clear hBw b0 b1 b2 b3 b4 b5 u0 r0 r1 bz); obtain ⟨⟨b0, b1, b2, b3, b4, b5⟩, u0, ⟨r0, r1⟩, bz, hBw⟩ := ev_box (w := w) (x := x) (s := (s : Int)) (W := w3) (by repeat (first | (with_reducible exact Below.refl _ _) | (with_reducible assumption) | (with_reducible exact bel_box _) | (with_reducible refine bel_step ?_ (by with_reducible assumption)) | (with_reducible refine Below.drew ?_) | (with_reducible refine below_drewN ?_ _) | (with_reducible refine bel_alloc ?_ _)))))
    obtain ⟨V, hV⟩ : ∃ V, (w3.alloc (.cells #[.slice A x.list.length c] 22)).alloc (.cells #[.int .i64 0] 3) = V := ⟨_, rfl⟩
    rw [hV]
    have hVz : V.heap.size = w3.heap.size + 2 := by rw [← hV]; simp only [World.size_alloc]
    have hV3 : Below w3.heap.size w3 V := by rw [← hV]; exact bel_alloc (bel_box _) _
    have hV1 : Below w1.heap.size w1 V := (bel_step hb2 hb3).trans (hV3.mono (bel_step hb2 hb3).size)
    have h13 : w1.heap.size ≤ w3.heap.size := (bel_step hb2 hb3).size
    have vp : V.cell? ⟨w3.heap.size, 0, none⟩ = some (.slice A x.list.length c) := by rw [← hV]; simp [go_sem]
    have vq : V.cell? ⟨w3.heap.size + 1, 0, none⟩ = some (.int .i64 0) := by rw [← hV]; simp [go_sem]
    have vf : V.frozen? ⟨w3.heap.size + 1, 0, none⟩ = false := by rw [← hV]; simp [go_sem]
    have vu := (hV3.cell (p := ⟨w.heap.size + 1, 0, none⟩) (show w.heap.size + 1 < w3.heap.size by omega)).trans u0
    have vr := (hV3.cell (p := ⟨w.heap.size + 1 + 1, 0, none⟩) (show w.heap.size + 1 + 1 < w3.heap.size by omega)).trans r0
    have vg := (hV3.frozen (p := ⟨w.heap.size + 1 + 1, 0, none⟩) (show w.heap.size + 1 + 1 < w3.heap.size by omega)).trans r1
    have hVw : Below w.heap.size w V := hBw.trans (hV3.mono hBw.size)
    have hVA : RdXs V w3.heap.size A x.list := fun hn => by
      obtain ⟨ad, e, hb, hc⟩ := hA hn
      exact ⟨ad, e, hb, fun i y hy => (hc i y hy).keep fun p hp => hV3.cell (by rw [hp, add_block]; exact hb)⟩
    have HVX := Lib.hid (HX.out.blw hVw (Nat.le_refl _))
    have HVA := Lib.hid hVA
    obtain ⟨c0, c1, c2, c3, c4, c5⟩ := HCS.out
    have hyd := each1_yields (5 - 1) be w1.heap.size (fun k => k = w3.heap.size + 1) x' V (fun k hk => by subst hk; omega) (by omega) hbe (hx'.blw hV1 (Nat.le_refl _)) (by rw [ct_size hct]; omega)
      ((hV1.cell (p := ⟨be, 0, none⟩) hbe).trans c0) ((hV1.cell (p := ⟨be, 1, none⟩) hbe).trans c1) ((hV1.cell (p := ⟨be, 2, none⟩) hbe).trans c2) ((hV1.cell (p := ⟨be, 3, none⟩) hbe).trans c3) ((hV1.cell (p := ⟨be, 4, none⟩) hbe).trans c4) ((hV1.cell (p := ⟨be, 5, none⟩) hbe).trans c5)
    rw [ct_list x' x hct] at hyd
    have HLL := Lib.hid (list_length x)
    have HLV := Lib.hid (And.intro hV3 hVw)
    clear hV hV1 hVA hA hx' hct HCS c0 c1 c2 c3 c4 c5 hb1 hb2 hb3 b0 b1 b2 b3 b4 b5 u0 r0 r1 hBw KE KH KR qn
    refine range_yields (by decide) (gf := 13) (lb := #[.pointer (some ⟨be, 0, none⟩)]) rfl (enters_of Tryz.func13 (by kernel_rfl) rfl) hyd (Below.refl _ _) (fun _ => rfl)
      (EvI x s (w3.heap.size + 1) w V) (EvX x s (w3.heap.size + 1) w V) (EvI.own (by omega)) (EvX.own (by omega))
      ⟨⟨List.nil_prefix, Nat.zero_le _⟩, ⟨⟨vq, vf⟩, KX.refl _ _⟩, hVw⟩
      (fun y a' W => ∃ Bx, (W.cell? ⟨Bx, 0, none⟩ = some (.int .i64 y.k) ∧ W.cell? ⟨Bx, 1, none⟩ = some (.int .i64 y.op) ∧ W.cell? ⟨Bx, 2, none⟩ = some (.int .i64 y.t) ∧ W.cell? ⟨Bx, 3, none⟩ = some (.int .i64 y.v) ∧ W.cell? ⟨Bx, 4, none⟩ = some (.string y.nm) ∧ W.cell? ⟨Bx, 5, none⟩ = some (.slice y.A y.ar.length y.c)) ∧ RdX W W.heap.size y ∧ a' = { tmps := #[.agg #[.int .i64 x.k, .int .i64 x.op, .int .i64 x.t, .int .i64 x.v, .string x.nm, .slice x.A x.ar.length x.c], .int .u8 (s : Int), .pointer (some ⟨w.heap.size, 0, none⟩), .pointer (some ⟨w.heap.size + 1, 0, none⟩), .pointer (some ⟨w.heap.size + 1 + 1, 0, none⟩), .func (.func 13) #[] #[.pointer (some ⟨be, 0, none⟩)], .pointer (some ⟨w3.heap.size, 0, none⟩), .pointer (some ⟨w3.heap.size + 1, 0, none⟩), .pointer (some ⟨Bx, 0, none⟩), .agg #[.int .i64 x.k, .int .i64 x.op, .int .i64 x.t, .int .i64 x.v, .string x.nm, .slice x.A x.ar.length x.c], .func (.func 13) #[] #[.pointer (some ⟨be, 0, none⟩)], .func (.func 13) #[] #[.pointer (some ⟨be, 0, none⟩)], .bool false, .agg #[.int .i64 x.k, .int .i64 x.op, .int .i64 x.t, .int .i64 x.v, .string x.nm, .slice x.A x.ar.length x.c], .bool false, undef, .agg #[.int .i64 x.k, .int .i64 x.op, .int .i64 x.t, .int .i64 x.v, .string x.nm, .slice x.A x.ar.length x.c], .slice A x.list.length c, .func (.func 13) #[] #[.pointer (some ⟨be, 0, none⟩)], xV y, undef, undef, undef, undef, undef, undef, undef, undef, undef, undef, undef, undef, undef, undef, undef, undef, undef, undef, undef, undef, undef, undef, undef, undef, undef, undef, undef, undef, undef, undef], defers := [] })
      (fun y a' s A B row hs hg hr => by
        obtain ⟨Bx, ⟨h2, h3, h4, h5, h6, h7⟩, h8, h9⟩ := hs
        exact ⟨Bx, ⟨cell_kept h2 hg (fun r e => (hr r e).2), cell_kept h3 hg (fun r e => (hr r e).2), cell_kept h4 hg (fun r e => (hr r e).2), cell_kept h5 hg (fun r e => (hr r e).2), cell_kept h6 hg (fun r e => (hr r e).2), cell_kept h7 hg (fun r e => (hr r e).2)⟩, (h8.kx (S := fun _ => False) (KX.grown hg fun r e => (hr r e).2) (fun _ h => h.elim)).up hg.size, h9⟩) ?assign ?body ?done ?stop
    case assign =>
      rintro l2 pre y X K hi hq hK
      rw [fold1]
      simp only [xV] at hK ⊢
      gi_wp2
      obtain ⟨d0, d1, d2, d3, d4, d5⟩ := bx_box X y
      exact hK _ _ ((KeepsOthers.alloc _ _).from _) (KX.of_below (bel_box _)) ((EvI.own (B := V.heap.size) (by omega)).alloc _ hi) ⟨X.heap.size, ⟨d0, d1, d2, d3, d4, d5⟩, hq.to (bel_box _), rfl⟩
    case body =>
      rintro l2 pre y a' X ⟨⟨i1, i2⟩, ⟨⟨i3, i4⟩, i5⟩, i6⟩ ⟨Bx, ⟨d0, d1, d2, d3, d4, d5⟩, hyr, rfl⟩
      have mixed : Tryz.prog.follows .mixedOrders = true := by kernel_rfl
      have xp := i5.cell (a := ⟨_, _, none⟩) (fun hs => by simp at hs) vp
      have xu := i5.cell (a := ⟨_, _, none⟩) (fun hs => by simp only at hs; omega) vu
      have xr := i5.cell (a := ⟨_, _, none⟩) (fun hs => by simp only at hs; omega) vr
      have xg := (i5.frozen (a := ⟨_, _, none⟩) (fun hs => by simp only at hs; omega) vr).trans vg
      have hpl : pre.length ≤ x.list.length := by have := i1.length_le; simpa using this
      have HI := Lib.hid i1
      have HK := Lib.hid (And.intro i5 i6)
      clear vp vq vf vu vr vg i1 i5 i6 hyd
      have hbx : w3.heap.size + 1 < X.heap.size := by have := World.block_lt_of_cell? X _ i3; exact this
      have HUP : Hid (∀ W, Below X.heap.size X W → W.cell? ⟨w3.heap.size + 1, 0, none⟩ = some (.int .i64 (pre.length : Int)) ∧ W.frozen? ⟨w3.heap.size + 1, 0, none⟩ = false ∧ W.cell? ⟨w.heap.size + 1, 0, none⟩ = some (.int .u8 (s : Int)) ∧ W.cell? ⟨w.heap.size + 1 + 1, 0, none⟩ = some (.bool false) ∧ W.frozen? ⟨w.heap.size + 1 + 1, 0, none⟩ = false) := Lib.hid fun W h =>
        ⟨(h.cell (p := ⟨_, 0, none⟩) hbx).trans i3, (h.frozen (p := ⟨_, 0, none⟩) hbx).trans i4, (h.cell (p := ⟨w.heap.size + 1, 0, none⟩) (show w.heap.size + 1 < X.heap.size by omega)).trans xu, (h.cell (p := ⟨w.heap.size + 1 + 1, 0, none⟩) (show w.heap.size + 1 + 1 < X.heap.size by omega)).trans xr, (h.frozen (p := ⟨w.heap.size + 1 + 1, 0, none⟩) (show w.heap.size + 1 + 1 < X.heap.size by omega)).trans xg⟩
      by_cases hlt : pre.length < x.list.length
      · obtain ⟨ad, z, hA, had, hz, hzm, ⟨c0, c1, c2, c3, c4, c5⟩⟩ := (HVA.out.kx HK.out.1 (fun k hk => by subst hk; omega)).at_ hlt
        have hzr : RdX X X.heap.size z := ((HVX.out.kx HK.out.1 (fun k hk => by subst hk; omega)).mem z hzm).up (by omega)
        have hnx := pre_next (p := pre.map Xt.ct) (l := x.list.map Xt.ct) (a := y.ct) (k := pre.length) (b := z.ct) HI.out (by simp) (by rw [List.getElem?_map, hz]; rfl)
        have KS := Lib.hid (fun W (h : Below X.heap.size X W) => rsameX_all y z W (hyr.to h) (hzr.to h))
        have HS2 : Hid (sameX y z = true ↔ (pre ++ [y]).map Xt.ct <+: x.list.map Xt.ct) := Lib.hid (by rw [sameX_iff, List.map_append]; exact hnx.symm)
        have hp5 : pre.length ≤ 500 := by have := HLL.out; omega
        subst hA
        clear hz hzr hnx hyr hzm had xu xr xg i4
        simp only [xV] at KS
        generalize sameX y z = b at *
        have hd : decide (x.list.length ≤ pre.length) = false := by simp; omega
        gi_wp2
        gi_cut [32] from 20 (fun s W => s = .bool (!b) ∧ Below X.heap.size X W)
        case first =>
          gi_region_with_o (refine ⟨trivial, ?_⟩; gi_at_call 8; refine (CallsIn.inRound l2 (callsIn_wide.2 (KS.out _ ?_))).mono ?_; (focus ((repeat (first | (with_reducible exact Below.refl _ _) | (with_reducible assumption) | (with_reducible exact bel_box _) | (with_reducible refine bel_step ?_ (by with_reducible assumption)) | (with_reducible refine Below.drew ?_) | (with_reducible refine below_drewN ?_ _) | (with_reducible refine bel_alloc ?_ _))); done)); rintro e w5 ⟨rfl, hb5⟩; have HB5 := Lib.hid (show Below X.heap.size X w5 from (by repeat (first | (with_reducible exact Below.refl _ _) | (with_reducible assumption) | (with_reducible exact bel_box _) | (with_reducible refine bel_step ?_ (by with_reducible assumption)) | (with_reducible refine Below.drew ?_) | (with_reducible refine below_drewN ?_ _) | (with_reducible refine bel_alloc ?_ _)))); clear hb5)
          all_goals
            (try gi_wp2_with (fail))
            gi_meet
            exact ⟨rfl, HB5.out⟩
        case rest =>
          obtain ⟨rfl, hbc⟩ := hcut
          obtain ⟨y3, y4, yu, yr, yg⟩ := HUP.out wc hbc
          have HB5 := Lib.hid hbc
          clear c0 c1 c2 c3 c4 c5 d0 d1 d2 d3 d4 d5 xp i3 hbc KS
          cases b
          · have nb : (!false) = true := rfl
            have HC : Hid (¬ (pre ++ [y]).map Xt.ct <+: x.list.map Xt.ct) := Lib.hid fun h => by have := HS2.out.2 h; cases this
            clear HS2
            gi_wp2
            exact ⟨(((KeepsOthers.of_grownBy (below_grown HB5.out) (fun j o e => by cases e))).trans (KeepsOthers.setCell _ _ _)).from _, .inl ⟨rfl, HC.out⟩⟩
          · have nb : (!true) = false := rfl
            have HC := Lib.hid (HS2.out.1 rfl)
            clear HS2
            have HKF := Lib.hid (((KeepsOthers.of_grownBy (below_grown HB5.out) (fun j o e => by cases e)).trans (KeepsOthers.setCell wc ⟨w3.heap.size + 1, 0, none⟩ (Value.int .i64 ((pre.length : Int) + 1)))).from V.heap.size)
            have HKX := Lib.hid ((KX.of_below HB5.out).trans (KX.set (S := fun k => k = w3.heap.size + 1) (W := wc) (a := ⟨w3.heap.size + 1, 0, none⟩) rfl (Value.int .i64 ((pre.length : Int) + 1))))
            have HBL := Lib.hid ((HK.out.2.trans (HB5.out.mono HK.out.2.size)).setCell (p := ⟨w3.heap.size + 1, 0, none⟩) (show w.heap.size ≤ w3.heap.size + 1 by omega) (Value.int .i64 ((pre.length : Int) + 1)))
            have HCN : Hid ((wc.setCell ⟨w3.heap.size + 1, 0, none⟩ (Value.int .i64 ((pre.length : Int) + 1))).cell? ⟨w3.heap.size + 1, 0, none⟩ = some (.int .i64 (((pre ++ [y]).length : Nat) : Int))) := Lib.hid (by rw [show (((pre ++ [y]).length : Nat) : Int) = (pre.length : Int) + 1 by simp]; exact World.cell?_setCell_same' _ _ _ (by rw [y3]; rfl))
            have HFN : Hid ((wc.setCell ⟨w3.heap.size + 1, 0, none⟩ (Value.int .i64 ((pre.length : Int) + 1))).frozen? ⟨w3.heap.size + 1, 0, none⟩ = false) := Lib.hid ((World.frozen?_setCell _ _ _ _).trans y4)
            by_cases hst : pre.length + 1 ≤ s
            · have HST : Hid ((pre ++ [y]).length ≤ s) := Lib.hid (by simp; omega)
              gi_wp2
              exact ⟨HKF.out, HKX.out, ⟨HC.out, HST.out⟩, ⟨⟨HCN.out, HFN.out⟩, HK.out.1.trans HKX.out⟩, HBL.out⟩
            · have HST : Hid ((pre ++ [y]).length = s + 1) := Lib.hid (by simp; omega)
              gi_wp2
              exact ⟨HKF.out, .inr ⟨rfl, ⟨⟨HC.out, Nat.le_of_eq HST.out⟩, ⟨⟨HCN.out, HFN.out⟩, HK.out.1.trans HKX.out⟩, HBL.out⟩, HST.out⟩⟩
      · have q0 : (x.list.length : Int) ≤ (pre.length : Int) := by omega
        have HC : Hid (¬ (pre ++ [y]).map Xt.ct <+: x.list.map Xt.ct) := Lib.hid fun h => by have := h.length_le; simp at this; omega
        clear hlt
        gi_wp2
        gi_cut [32] from 20 (fun s W => s = .bool true ∧ Below X.heap.size X W)
        case first =>
          gi_region_with_o (refine ⟨trivial, ?_⟩)
          all_goals
            (try gi_wp2_with (fail))
            gi_meet
            exact ⟨rfl, (by repeat (first | (with_reducible exact Below.refl _ _) | (with_reducible assumption) | (with_reducible exact bel_box _) | (with_reducible refine bel_step ?_ (by with_reducible assumption)) | (with_reducible refine Below.drew ?_) | (with_reducible refine below_drewN ?_ _) | (with_reducible refine bel_alloc ?_ _)))⟩
        case rest =>
          obtain ⟨rfl, hbc⟩ := hcut
          obtain ⟨y3, y4, yu, yr, yg⟩ := HUP.out wc hbc
          have HB5 := Lib.hid hbc
          clear d0 d1 d2 d3 d4 d5 xp xr xu xg i3 i4 hbc
          gi_wp2
          exact ⟨(((KeepsOthers.of_grownBy (below_grown HB5.out) (fun j o e => by cases e))).trans (KeepsOthers.setCell _ _ _)).from _, .inl ⟨rfl, HC.out⟩⟩
    case done =>
      rintro D zs X hD hz ⟨⟨i1, i2⟩, ⟨⟨i3, i4⟩, i5⟩, i6⟩ hK
      have q9 : ((zs.length : Int) == min (x.list.length : Int) ((s : Int) + 1)) = true := by
        have h1 := congrArg List.length hz
        simp only [List.length_map] at h1
        rw [beq_iff_eq]
        omega
      have xp := i5.cell (a := ⟨_, _, none⟩) (fun hs => by simp at hs) vp
      have xu := i5.cell (a := ⟨_, _, none⟩) (fun hs => by simp only at hs; omega) vu
      have xr := i5.cell (a := ⟨_, _, none⟩) (fun hs => by simp only at hs; omega) vr
      have xg := (i5.frozen (a := ⟨_, _, none⟩) (fun hs => by simp only at hs; omega) vr).trans vg
      have hBX := i6
      have hDX := (Array.getElem?_eq_some_iff.1 hK).1
      have hrz : w.heap.size + 1 + 1 < X.heap.size := World.block_lt_of_cell? X _ xr
      have HI6 := Lib.hid i6
      have HIK := Lib.hid hK
      clear vp vq vf vu vr vg hyd i1 i2 i4 i5 i6 hBX hK hz
      gi_wp2_with (refine ⟨trivial, ?_⟩; gi_at_call 6; refine (callsIn_wide.2 (KL.out _ ?_)).mono ?_; (focus (exact HI6.out; done)); rintro e w9 ⟨rfl, hb9⟩; have y0 := (hb9.cell (p := ⟨w.heap.size + 1 + 1, 0, none⟩) hrz).trans xr; have y1 := (hb9.frozen (p := ⟨w.heap.size + 1 + 1, 0, none⟩) hrz).trans xg)
      have hK9 := (hb9.block D hDX).trans HIK.out
      have hB9 := HI6.out.trans (hb9.mono HI6.out.size)
      have hK' := (KeepsOthers.setCell w9 ⟨w.heap.size + 1 + 1, 0, none⟩ (Value.bool true)).same D _ hK9 rfl
      refine ⟨by simp, .inl ⟨_, _, rfl, run_takeDeferred hK', ?_⟩⟩
      have hc5 := cell_kept (World.cell?_setCell_same' w9 ⟨w.heap.size + 1 + 1, 0, none⟩ (Value.bool true) (by rw [y0]; rfl)) (grownBy_putObj' _ D (.deferred none)) (fun r e => by cases e; exact ⟨_, hK', rfl⟩)
      refine ⟨.bool true, ?_, rfl, (hB9.setCell (p := ⟨w.heap.size + 1 + 1, 0, none⟩) (show w.heap.size ≤ w.heap.size + 1 + 1 by omega) _).trans (belowK_b (w := w) (Nat.le_refl _) _ D _ _ (by omega) hK' rfl rfl)⟩
      simp [results, Tryz.f3, go_sem, hc5]
    case stop =>
      rintro D c zs X hD hz hx hK
      obtain ⟨rfl, h⟩ | ⟨rfl, ⟨⟨i1, i2⟩, ⟨⟨i3, i4⟩, i5⟩, i6⟩, hl⟩ := hx
      · exact absurd hz h
      have q9 : ((zs.length : Int) == min (x.list.length : Int) ((s : Int) + 1)) = true := by
        have h1 := i1.length_le
        simp only [List.length_map] at h1
        rw [beq_iff_eq]
        omega
      clear hl
      have xp := i5.cell (a := ⟨_, _, none⟩) (fun hs => by simp at hs) vp
      have xu := i5.cell (a := ⟨_, _, none⟩) (fun hs => by simp only at hs; omega) vu
      have xr := i5.cell (a := ⟨_, _, none⟩) (fun hs => by simp only at hs; omega) vr
      have xg := (i5.frozen (a := ⟨_, _, none⟩) (fun hs => by simp only at hs; omega) vr).trans vg
      have hBX := i6
      have hDX := (Array.getElem?_eq_some_iff.1 hK).1
      have hrz : w.heap.size + 1 + 1 < X.heap.size := World.block_lt_of_cell? X _ xr
      have HI6 := Lib.hid i6
      have HIK := Lib.hid hK
      clear vp vq vf vu vr vg hyd i1 i2 i4 i5 i6 hBX hK hz
      gi_wp2_with (refine ⟨trivial, ?_⟩; gi_at_call 6; refine (callsIn_wide.2 (KL.out _ ?_)).mono ?_; (focus (exact HI6.out; done)); rintro e w9 ⟨rfl, hb9⟩; have y0 := (hb9.cell (p := ⟨w.heap.size + 1 + 1, 0, none⟩) hrz).trans xr; have y1 := (hb9.frozen (p := ⟨w.heap.size + 1 + 1, 0, none⟩) hrz).trans xg)
      have hK9 := (hb9.block D hDX).trans HIK.out
      have hB9 := HI6.out.trans (hb9.mono HI6.out.size)
      have hK' := (KeepsOthers.setCell w9 ⟨w.heap.size + 1 + 1, 0, none⟩ (Value.bool true)).same D _ hK9 rfl
      refine ⟨by simp, .inl ⟨_, _, rfl, run_takeDeferred hK', ?_⟩⟩
      have hc5 := cell_kept (World.cell?_setCell_same' w9 ⟨w.heap.size + 1 + 1, 0, none⟩ (Value.bool true) (by rw [y0]; rfl)) (grownBy_putObj' _ D (.deferred none)) (fun r e => by cases e; exact ⟨_, hK', rfl⟩)
      refine ⟨.bool true, ?_, rfl, (hB9.setCell (p := ⟨w.heap.size + 1 + 1, 0, none⟩) (show w.heap.size ≤ w.heap.size + 1 + 1 by omega) _).trans (belowK_b (w := w) (Nat.le_refl _) _ D _ _ (by omega) hK' rfl rfl)⟩
      simp [results, Tryz.f3, go_sem, hc5]
end Go.Proofs.YtoekgbdomeklgaaGreatDoor
/- ExprEach at whatever byte. -/
namespace Go.Proofs.YtoekgbdomeklgaaGreatDoor
set_option linter.unusedVariables false
set_option linter.unusedSimpArgs false
open Go.RowKit
theorem expreach_int (x : Xt) (a : Int) (h0 : 0 ≤ a) (h1 : a ≤ 255) (w : World) (hs : Std w) (hX : RdX w w.heap.size x) : Calls Tryz.prog 3 #[xV x, .int .u8 a] w (Bel (.bool true) w) := by
  obtain ⟨s, rfl⟩ : ∃ s : Nat, a = s := ⟨a.toNat, by omega⟩
  exact expreach_any x s (by omega) w hs hX
end Go.Proofs.YtoekgbdomeklgaaGreatDoor
/- The frame of the rows of layer 6: what the listed variables give; an argument that is an expression. -/
namespace Go.Proofs.YtoekgbdomeklgaaGreatDoor
set_option linter.unusedVariables false
set_option linter.unusedSimpArgs false
open Go.ChangeShapes Go.WideShapes Go.ChangeAt Go.RowKit Go.Deep Go.WideElems
def laidL : List (String × DataW Unit) := [("math/bits.deBruijn32tab", Rows.laid_math_bits_deBruijn32tab), ("math/bits.deBruijn64tab", Rows.laid_math_bits_deBruijn64tab), ("internal/strconv.uint64pow10", Rows.laid_internal_strconv_uint64pow10), ("unicode/utf8.acceptRanges", Rows.laid_unicode_utf8_acceptRanges), ("strconv.ErrRange", Rows.laid_strconv_ErrRange), ("strconv.ErrSyntax", Rows.laid_strconv_ErrSyntax), ("unicode/utf8.first", Rows.laid_unicode_utf8_first)]
theorem tyTab : (Tryz.prog.globals[5]?).map (·.type) = some 130 := by kernel_rfl
theorem tySyn : (Tryz.prog.globals[1]?).map (·.type) = some 76 := by kernel_rfl
theorem tyRng : (Tryz.prog.globals[2]?).map (·.type) = some 76 := by kernel_rfl
theorem star : "*" ++ "errors.errorString" = "*errors.errorString" := by decide
theorem rowES (u : TypeId) (h : Tryz.prog.typeName? 3 u = some "*errors.errorString") : u = 120 :=
  typeName_ptr_named (nm := "errors.errorString") (by rw [star]; kernel_rfl) (by kernel_rfl) (by decide) u (by rw [star]; exact h)
theorem std_of_laid {W : World} (h : laidMetH Tryz.prog laidL W) : Std W := by
  rw [MakeChecks.laidMetH_plain _ _ _ (by kernel_rfl)] at h
  have h3 : laidMet Tryz.prog (("internal/strconv.uint64pow10", Lib.tabData .u64 Lib.pow10Tab) :: [("unicode/utf8.acceptRanges", Rows.laid_unicode_utf8_acceptRanges), ("strconv.ErrRange", Rows.laid_strconv_ErrRange), ("strconv.ErrSyntax", Rows.laid_strconv_ErrSyntax), ("unicode/utf8.first", Rows.laid_unicode_utf8_first)]) W := h.tail.tail
  have h4 := h3.tail.tail
  have h5 := h4.tail
  refine ⟨Lib.tabIs_of_head gTab tyTab Tryz.underlying130 Tryz.underlying105 (by kernel_rfl) (by kernel_rfl) h3, ?_, ?_⟩
  · obtain ⟨a, s, hv, _⟩ := laid_sentinel h5 gSyn tySyn Tryz.underlying76 rowES Tryz.underlying120 Tryz.underlying122 rfl rfl Tryz.underlying9 (by kernel_rfl) (by kernel_rfl)
    exact ⟨_, _, hv⟩
  · obtain ⟨a, s, hv, _⟩ := laid_sentinel h4 gRng tyRng Tryz.underlying76 rowES Tryz.underlying120 Tryz.underlying122 rfl rfl Tryz.underlying9 (by kernel_rfl) (by kernel_rfl)
    exact ⟨_, _, hv⟩
theorem u8_le {n : Int} (h : (Lit.int .u8 n).wf = true) : n ≤ 255 := by
  have h2 : n ≤ IntKind.u8.max := by simp only [Lit.wf, Bool.and_eq_true, decide_eq_true_eq] at h; exact h.2
  exact h2
theorem u8_ge {n : Int} (h : (Lit.int .u8 n).wf = true) : 0 ≤ n := by
  have h2 : IntKind.u8.min ≤ n := by simp only [Lit.wf, Bool.and_eq_true, decide_eq_true_eq] at h; exact h.1
  exact h2
section
variable {H : Type} {enc : TypeId × Value → H} {w : World} {held : Bool}
set_option maxRecDepth 100000 in
/-- an expression, opened -/
theorem open_expr {b0 : Nat} {r : Reach} {v : Value} {d : DataW H} {p : List MemPlace} (hv : Value.okWide Tryz.prog w r b0 24 v) (h : DataW.Trod enc Tryz.prog w 0 (fun _ => true) held 24 v d p) (hsz : ∀ n ∈ d.weights Tryz.prog 24, n ≤ reachBytes) :
    ∃ x : Xt, v = xV x ∧ RdX w w.heap.size x ∧ NmB x := by
  obtain ⟨cs, rfl, hs⟩ := okWide_struct Tryz.underlying24 hv
  obtain ⟨fuel, hf⟩ := h
  obtain ⟨x, hx, hR, hN⟩ := rd_expr Tryz.underlying24 (by kernel_rfl) rfl rfl rfl rfl rfl rfl (by kernel_rfl) (by kernel_rfl) (by kernel_rfl) (by kernel_rfl) (by kernel_rfl) (by kernel_rfl) Tryz.underlying3 Tryz.underlying3 Tryz.underlying3 Tryz.underlying3 Tryz.underlying9 Tryz.underlying22 fuel _ _ hf hsz
  refine ⟨x, ?_, hR, hN⟩
  have : cs.toList = _ := hx
  unfold xV
  congr 1
  exact Array.toList_inj.1 this
end
end Go.Proofs.YtoekgbdomeklgaaGreatDoor
