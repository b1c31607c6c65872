/- List, Count, Stateless of the reference. -/
import Derived.Test.YtfogkcccjemloaaGreatDoorFg
import Derived.Test.YtfogkcccjemloaaGreatDoorEz
import Derived.Lib.QuietBelow
namespace Go.Proofs.YtfogkcccjemloaaGreatDoor
set_option linter.unusedVariables false
set_option linter.unusedSimpArgs false
open Go.RowKit Go.Sort
/-- A reads as these expressions, below block B -/
def RdXs (w : World) (B : Nat) (A : Option Addr) (l : List Xt) : Prop := l ≠ [] → ∃ ad, A = some ad ∧ ad.block < B ∧ ∀ (i : Nat) (y : Xt), l[i]? = some y → XC w (ad.add (i * 6)) y
theorem RdXs.to {w W : World} {A : Option Addr} {l : List Xt} (h : RdXs w w.heap.size A l) (hb : Below w.heap.size w W) : RdXs W W.heap.size A l := fun hn => by
  obtain ⟨ad, e, hB, hc⟩ := h hn
  have hs := hb.size
  exact ⟨ad, e, by omega, fun i t ht => (hc i t ht).keep fun p hp => hb.cell (by rw [hp, add_block]; exact hB)⟩
theorem RdXs.at_ {w : World} {B : Nat} {A : Option Addr} {l : List Xt} (h : RdXs w B A l) {k : Nat} (hk : k < l.length) : ∃ ad y, A = some ad ∧ ad.block < B ∧ l[k]? = some y ∧ y ∈ l ∧ XC w (ad.add (k * 6)) y := by
  have he : l[k]? = some l[k] := List.getElem?_eq_getElem hk
  obtain ⟨ad, e, hb, hc⟩ := h (by rintro rfl; simp at hk)
  exact ⟨ad, _, e, hb, he, List.mem_of_getElem? he, hc k _ he⟩
theorem xsC_get (l : List Xt) (i : Nat) (y : Xt) (h : l[i]? = some y) (j : Nat) (hj : j < 6) : (xsC l)[i * 6 + j]? = (xCs y)[j]? := by
  induction l generalizing i with
  | nil => simp at h
  | cons a r ih =>
    have e : xsC (a :: r) = xCs a ++ xsC r := rfl
    have hl : (xCs a).length = 6 := rfl
    rw [e]
    rcases i with _ | i
    · obtain rfl : a = y := by simpa using h
      rw [Nat.zero_mul, Nat.zero_add, List.getElem?_append_left (by rw [hl]; exact hj)]
    · rw [List.getElem?_append_right (by rw [hl]; omega), hl, show (i + 1) * 6 + j - 6 = i * 6 + j by omega]
      exact ih i (by simpa using h)
theorem add_add6 (g n j : Nat) : ((⟨g, 0, none⟩ : Addr).add n).off + j = n + j ∧ ((⟨g, 0, none⟩ : Addr).add n).block = g ∧ (⟨g, 0, none⟩ : Addr).add n = ⟨g, n, none⟩ := by
  unfold Addr.add
  by_cases h : n = 0
  · subst h; simp
  · simp [h]
theorem RdXs.of_own {w : World} {base : Nat} {e : TypeId} {A : Option Addr} {c : Nat} {l : List Xt} (h : w.ownsRow base e 6 (.slice A l.length c) l.length (xsC l)) : RdXs w w.heap.size A l := fun hn => by
  rcases h.2 with ⟨h1, h2⟩ | ⟨g, cap, cur, h1, h2, h3, h4, h5, h6, h7⟩
  · exact absurd (List.length_eq_zero_iff.1 h2) hn
  · have hA : A = some ⟨g, 0, none⟩ := by injection h1
    subst hA
    refine ⟨_, rfl, (Array.getElem?_eq_some_iff.1 h3).1, fun i y hy => ?_⟩
    have key : ∀ j u, j < 6 → (xCs y)[j]? = some u → w.cell? ⟨g, i * 6 + j, none⟩ = some u := fun j u hj6 hj => by
      rw [← xsC_get l i y hy j hj6] at hj
      rw [cell_of_row w g (i * 6 + j) cur _ (0, 0) h3]
      rw [← h7, List.getElem?_take] at hj
      split at hj
      · rw [← Array.getElem?_toList]; exact hj
      · cases hj
    unfold XC
    rw [(add_add6 g (i * 6) 1).1, (add_add6 g (i * 6) 2).1, (add_add6 g (i * 6) 3).1, (add_add6 g (i * 6) 4).1, (add_add6 g (i * 6) 5).1, (add_add6 g (i * 6) 1).2.1, (add_add6 g (i * 6) 1).2.2]
    exact ⟨key 0 _ (by omega) rfl, key 1 _ (by omega) rfl, key 2 _ (by omega) rfl, key 3 _ (by omega) rfl, key 4 _ (by omega) rfl, key 5 _ (by omega) rfl⟩
/-- a list of expressions, new -/
def NewX (l : List Xt) (w : World) (e : Ending) (w' : World) : Prop := ∃ A c, e = .returned (.slice A l.length c) ∧ RdXs w' w'.heap.size A l ∧ Below w.heap.size w w'
set_option maxHeartbeats 1000000 in
set_option maxRecDepth 20000 in
theorem rList_any (x : Xt) (w : World) (hX : RdX w w.heap.size x) (hs : x.size ≤ 100000) : Calls Tryz.prog 33 #[xV x] w (NewX x.list w) := by
  have K : Hid (∀ W, Below w.heap.size w W → Calls Tryz.prog 56 #[xV x, .slice none 0 0] W (NewX x.list W)) := Lib.hid fun W hb => by
    have := rlist_any x W W.heap.size (.slice none 0 0) 0 [] (Nat.le_refl _) (hX.to hb) (World.ownsRow_nil _ _ _ _) (by omega)
    rw [Nat.zero_add, List.nil_append, ← list_length x] at this
    refine this.mono fun e w1 ⟨v', he, h1, h2, h3⟩ => ?_
    obtain ⟨A, c, rfl⟩ := own_form6 h1
    exact ⟨A, c, he, RdXs.of_own h1, ⟨h2.os, h2.tape, h2.output, h2.size, fun k hk => h2.block k hk (by intro e; cases e)⟩⟩
  simp only [xV] at K ⊢
  go_enter Tryz.func33, Tryz.ntmps33
  go_wp2_with (go_at_call 56; (with_reducible refine (K.out _ ?_).mono ?_); (focus ((repeat (first | (with_reducible exact Below.refl _ _) | (with_reducible assumption) | (with_reducible exact bel_box _) | (with_reducible refine bel_step ?_ (by with_reducible assumption)) | (with_reducible refine Below.drew ?_) | (with_reducible refine below_drewN ?_ _) | (with_reducible refine bel_alloc ?_ _))); done)); rintro e w1 ⟨A, c, rfl, hR, hb1⟩)
  go_ret
  exact ⟨A, c, rfl, hR, (by repeat (first | (with_reducible exact Below.refl _ _) | (with_reducible assumption) | (with_reducible exact bel_box _) | (with_reducible refine bel_step ?_ (by with_reducible assumption)) | (with_reducible refine Below.drew ?_) | (with_reducible refine below_drewN ?_ _) | (with_reducible refine bel_alloc ?_ _)))⟩
theorem parts_count (l : List Xt) (p : Xt → Bool) : ∃ C : Nat → Nat, l.countP p = C l.length ∧ C 0 = 0 ∧ (∀ k, C k ≤ k) ∧ Hid (∀ (k : Nat) (y : Xt), l[k]? = some y → C (k + 1) = C k + if p y then 1 else 0) := by
  refine ⟨fun k => (l.take k).countP p, by simp, by simp, fun k => ?_, Lib.hid fun k y hy => ?_⟩
  · exact Nat.le_trans List.countP_le_length (by simp [List.length_take]; omega)
  · show (l.take (k + 1)).countP p = _
    rw [take_succ_of hy, List.countP_append]
    simp [List.countP_cons]
set_option maxHeartbeats 1000000 in
set_option maxRecDepth 20000 in
theorem rcount_any (x : Xt) (kd : Int) (w : World) (hX : RdX w w.heap.size x) (hs : x.size ≤ 100000) : Calls Tryz.prog 19 #[xV x, .int .i64 kd] w (Bel (.int .i64 ((x.list.countP fun y => y.k == kd) : Nat)) w) := by
  have K : Hid (∀ W, Below w.heap.size w W → Calls Tryz.prog 33 #[xV x] W (NewX x.list W)) := Lib.hid fun W hb => rList_any x W (hX.to hb) hs
  have hl := list_length x
  obtain ⟨l, hL⟩ : ∃ l, x.list = l := ⟨_, rfl⟩
  rw [hL] at K hl ⊢
  clear hL hX
  obtain ⟨C, hC, hC0, hCl, HC⟩ := parts_count l (fun y => y.k == kd)
  rw [hC]
  clear hC
  have HCl := Lib.hid hCl
  clear hCl
  simp only [xV] at K ⊢
  go_enter Tryz.func19, Tryz.ntmps19
  go_wp2_with (go_at_call 33; (with_reducible refine (K.out _ ?_).mono ?_); (focus ((repeat (first | (with_reducible exact Below.refl _ _) | (with_reducible assumption) | (with_reducible exact bel_box _) | (with_reducible refine bel_step ?_ (by with_reducible assumption)) | (with_reducible refine Below.drew ?_) | (with_reducible refine below_drewN ?_ _) | (with_reducible refine bel_alloc ?_ _))); done)); rintro e w1 ⟨A, c, rfl, hR, hb1⟩)
  rw [← hl]
  go_loopw [5, 7] (fun n i wr => ∃ k : Nat, k ≤ l.length ∧ i = .int .i64 (k : Int) ∧ n = .int .i64 (C k : Nat) ∧ wr = w1) (fun _ i _ => l.length - (intOf i).toNat)
  case atStart => exact ⟨0, by omega, rfl, by rw [hC0]; rfl, rfl⟩
  case round =>
    obtain ⟨k, hk, rfl, rfl, rfl⟩ := hrel
    have hCk := HCl.out k
    by_cases hlt : k < l.length
    · obtain ⟨ad, y, rfl, had, hy, hm, ⟨c0, c1, c2, c3, c4, c5⟩⟩ := hR.at_ hlt
      have hn := HC.out k y hy
      clear hy
      by_cases hq : (y.k == kd) = true
      · rw [if_pos hq] at hn
        go_wp2
        exact ⟨⟨k + 1, by omega, by congr 1, by congr 1; omega, trivial⟩, by simp [intOf]; omega⟩
      · rw [if_neg hq] at hn
        rw [Bool.not_eq_true] at hq
        go_wp2
        exact ⟨⟨k + 1, by omega, by congr 1, by congr 1; omega, trivial⟩, by simp [intOf]; omega⟩
    · obtain rfl : k = l.length := by omega
      go_wp2
      go_ret
      exact ⟨rfl, (by repeat (first | (with_reducible exact Below.refl _ _) | (with_reducible assumption) | (with_reducible exact bel_box _) | (with_reducible refine bel_step ?_ (by with_reducible assumption)) | (with_reducible refine Below.drew ?_) | (with_reducible refine below_drewN ?_ _) | (with_reducible refine bel_alloc ?_ _)))⟩
theorem any_of_counts (l : List Xt) : (!l.any fun y => stK y.k) = (((((l.countP (fun y => y.k == 5) + l.countP (fun y => y.k == 6)) + l.countP (fun y => y.k == 7)) + l.countP (fun y => y.k == 10)) + l.countP (fun y => y.k == 11)) == 0) := by
  induction l with
  | nil => rfl
  | cons a l ih =>
    rw [List.any_cons, Bool.not_or, ih]
    have e : stK a.k = (a.k == 5 || a.k == 6 || a.k == 7 || a.k == 10 || a.k == 11) := rfl
    rw [e]
    simp only [List.countP_cons]
    generalize l.countP (fun y => y.k == 5) = n1
    generalize l.countP (fun y => y.k == 6) = n2
    generalize l.countP (fun y => y.k == 7) = n3
    generalize l.countP (fun y => y.k == 10) = n4
    generalize l.countP (fun y => y.k == 11) = n5
    cases a.k == 5 <;> cases a.k == 6 <;> cases a.k == 7 <;> cases a.k == 10 <;> cases a.k == 11 <;> simp (config := { decide := false }) only [if_true, if_false, Bool.false_eq_true, Bool.or_false, Bool.false_or, Bool.or_true, Bool.true_or, Bool.not_true, Bool.not_false, Bool.false_and, Bool.true_and, Nat.add_zero] <;> exact (beq_eq_false_iff_ne.2 (by omega)).symm
set_option maxHeartbeats 1000000 in
set_option maxRecDepth 20000 in
theorem rstateless_any (x : Xt) (w : World) (hX : RdX w w.heap.size x) (hs : x.size ≤ 100000) : Calls Tryz.prog 21 #[xV x] w (Bel (.bool (!x.list.any fun y => stK y.k)) w) := by
  have hl := list_length x
  have KC : ∀ kd : Int, ∃ n : Nat, n ≤ 100000 ∧ (x.list.countP fun y => y.k == kd) = n ∧ Hid (∀ W, Below w.heap.size w W → Calls Tryz.prog 19 #[xV x, .int .i64 kd] W (Bel (.int .i64 n) W)) := fun kd => ⟨_, Nat.le_trans List.countP_le_length (by omega), rfl, Lib.hid fun W hb => rcount_any x kd W (hX.to hb) hs⟩
  rw [any_of_counts]
  obtain ⟨a, ha, ea, K1⟩ := KC 5
  obtain ⟨b, hb, eb, K2⟩ := KC 6
  obtain ⟨c, hc, ec, K3⟩ := KC 7
  obtain ⟨d, hd, ed, K4⟩ := KC 10
  obtain ⟨f, hf, ef, K5⟩ := KC 11
  rw [ea, eb, ec, ed, ef]
  clear ea eb ec ed ef KC hX
  obtain ⟨s1, e1⟩ : ∃ s : Nat, a + b = s := ⟨_, rfl⟩
  obtain ⟨s2, e2⟩ : ∃ s : Nat, s1 + c = s := ⟨_, rfl⟩
  obtain ⟨s3, e3⟩ : ∃ s : Nat, s2 + d = s := ⟨_, rfl⟩
  obtain ⟨s4, e4⟩ : ∃ s : Nat, s3 + f = s := ⟨_, rfl⟩
  rw [e1, e2, e3, e4]
  have f1 : (a : Int) + (b : Int) = (s1 : Int) := by omega
  have f2 : (s1 : Int) + (c : Int) = (s2 : Int) := by omega
  have f3 : (s2 : Int) + (d : Int) = (s3 : Int) := by omega
  have f4 : (s3 : Int) + (f : Int) = (s4 : Int) := by omega
  have g1 : IntKind.i64.wrap (s1 : Int) = (s1 : Int) := Go.IntWalk.i64_in _ ⟨by omega, by omega⟩
  have g2 : IntKind.i64.wrap (s2 : Int) = (s2 : Int) := Go.IntWalk.i64_in _ ⟨by omega, by omega⟩
  have g3 : IntKind.i64.wrap (s3 : Int) = (s3 : Int) := Go.IntWalk.i64_in _ ⟨by omega, by omega⟩
  have g4 : IntKind.i64.wrap (s4 : Int) = (s4 : Int) := Go.IntWalk.i64_in _ ⟨by omega, by omega⟩
  simp only [xV] at K1 K2 K3 K4 K5 ⊢
  go_enter Tryz.func21, Tryz.ntmps21
  obtain ⟨b0, b1, b2, b3, b4, b5, _⟩ := bxW_cells (w := w) (x := x) (Below.refl _ _)
  have hBx := bxW_below (w := w) (x := x) (Below.refl _ _)
  go_wp2
  obtain ⟨W0, hW0⟩ : ∃ W0, bxW w x = W0 := ⟨_, rfl⟩
  rw [hW0] at b0 b1 b2 b3 b4 b5 hBx
  rw [show w.alloc (.cells #[.int .i64 x.k, .int .i64 x.op, .int .i64 x.t, .int .i64 x.v, .string x.nm, .slice x.A x.ar.length x.c] 24) = W0 from hW0]
  clear hW0
  have k0 := cell_regrown b0
  have k1 := cell_regrown b1
  have k2 := cell_regrown b2
  have k3 := cell_regrown b3
  have k4 := cell_regrown b4
  have k5 := cell_regrown b5
  have c1 := fun dd os => Calls.regrown_of (K1.out (grow (redrawn W0 dd) os) (hBx.trans ((below_regrown W0 dd os).mono hBx.size)))
  have c2 := fun dd os => Calls.regrown_of (K2.out (grow (redrawn W0 dd) os) (hBx.trans ((below_regrown W0 dd os).mono hBx.size)))
  have c3 := fun dd os => Calls.regrown_of (K3.out (grow (redrawn W0 dd) os) (hBx.trans ((below_regrown W0 dd os).mono hBx.size)))
  have c4 := fun dd os => Calls.regrown_of (K4.out (grow (redrawn W0 dd) os) (hBx.trans ((below_regrown W0 dd os).mono hBx.size)))
  have c5 := fun dd os => Calls.regrown_of (K5.out (grow (redrawn W0 dd) os) (hBx.trans ((below_regrown W0 dd os).mono hBx.size)))
  clear K1 K2 K3 K4 K5 b0 b1 b2 b3 b4 b5
  refine wp_region_quiet_below (by kernel_rfl) (by kernel_rfl) ?_
  repeat (quiet_step (first | with_reducible exact c1 _ _ | with_reducible exact c2 _ _ | with_reducible exact c3 _ _ | with_reducible exact c4 _ _ | with_reducible exact c5 _ _))
  refine wpQuiet_nil ?_
  intro _ hw'
  obtain ⟨⟨dq, osq⟩, hw''⟩ := hw'
  subst hw''
  go_wp2
  go_ret
  refine ⟨?_, hBx.trans ((below_regrown W0 dq osq).mono hBx.size)⟩
  have hq : ((s4 : Int) == 0) = (s4 == 0) := by rw [Bool.eq_iff_iff]; simp
  rw [← hq]
  rfl
end Go.Proofs.YtfogkcccjemloaaGreatDoor
