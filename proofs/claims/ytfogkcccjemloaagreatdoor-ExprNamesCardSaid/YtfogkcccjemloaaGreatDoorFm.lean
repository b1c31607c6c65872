/- The iterator over what an expression depends on at the same instant. -/
import Derived.Test.YtfogkcccjemloaaGreatDoorFl
import Derived.Test.YtfogkcccjemloaaGreatDoorFf
namespace Go.Proofs.YtfogkcccjemloaaGreatDoor
set_option linter.unusedVariables false
set_option linter.unusedSimpArgs false
open Go.RowKit Go.Shelf
attribute [local go_sem] Oper.semAt_some
def iA (x : Xt) : Option Addr := if x.k = 5 then none else x.A
def iC (x : Xt) : Nat := if x.k = 5 then 0 else x.c
theorem kids_length (b : Bool) (x : Xt) : (kidsI b x).length ≤ x.ar.length := by
  unfold kidsI
  split
  · simp
  · split
    · simp; omega
    · exact Nat.le_refl _
theorem lst_pos (x : Xt) : 1 ≤ (x.lst true).length := by rw [Xt.lst_eq]; simp
theorem RdX.at_kid {w : World} {B : Nat} {x : Xt} (h : RdX w B x) {k : Nat} (hk : k < (kidsI true x).length) : ∃ ad y, iA x = some ad ∧ ad.block < B ∧ (kidsI true x)[k]? = some y ∧ y ∈ x.ar ∧ XC w (ad.add (k * 6)) y ∧ RdX w B y := by
  have hl := kids_length true x
  obtain ⟨ad, y, hA, had, hy, hm, hc, hr⟩ := h.at_ (i := k) (by omega)
  have h5 : x.k ≠ 5 := by
    intro e
    rw [kidsI, if_pos (by rw [e]; rfl)] at hk
    simp at hk
  refine ⟨ad, y, by rw [iA, if_neg h5]; exact hA, had, ?_, hm, hc, hr⟩
  unfold kidsI at hk ⊢
  rw [if_neg (by simpa using h5)] at hk ⊢
  split
  · rename_i h7
    rw [if_pos h7] at hk
    rw [List.getElem?_take, if_pos (by simp at hk; omega)]
    exact hy
  · exact hy
theorem parts_lst (x : Xt) : ∃ L : Nat → List Xt, x.lst true = x :: L (kidsI true x).length ∧ L 0 = [] ∧ Hid (∀ (k : Nat) (y : Xt), (kidsI true x)[k]? = some y → L (k + 1) = L k ++ y.lst true ∧ (L k).length + (y.lst true).length + 1 ≤ (x.lst true).length ∧ ∃ r, L k ++ y.lst true ++ r = L (kidsI true x).length) := by
  refine ⟨fun k => (((kidsI true x).take k).map (Xt.lst true)).flatten, ?_, rfl, Lib.hid fun k y hy => ?_⟩
  · simp only [List.take_length]
    exact Xt.lst_eq true x
  · have e1 : (((kidsI true x).take (k + 1)).map (Xt.lst true)).flatten = (((kidsI true x).take k).map (Xt.lst true)).flatten ++ y.lst true := by
      rw [take_succ_of hy, List.map_append, List.flatten_append]
      simp
    have e2 : (((kidsI true x).take k).map (Xt.lst true)).flatten ++ y.lst true ++ (((kidsI true x).drop (k + 1)).map (Xt.lst true)).flatten = (((kidsI true x).take (kidsI true x).length).map (Xt.lst true)).flatten := by
      rw [← e1, ← List.flatten_append, ← List.map_append, List.take_append_drop, List.take_length]
    refine ⟨e1, ?_, _, e2⟩
    have h1 := congrArg List.length e2
    have h2 := congrArg List.length (Xt.lst_eq true x)
    rw [List.length_cons] at h2
    rw [List.take_length] at h1
    rw [List.length_append, List.length_append] at h1
    simp only
    omega
set_option maxHeartbeats 1000000 in
theorem instant_any (x : Xt) (w : World) (h9 : x.ar.length ≤ 2 ^ 63 - 1) (hcap : x.ar.length ≤ x.c) : Calls Tryz.prog 46 #[xV x] w (Bel (.slice (iA x) (kidsI true x).length (iC x)) w) := by
  by_cases h5 : x.k = 5
  · have e1 : iA x = none := if_pos h5
    have e2 : iC x = 0 := if_pos h5
    have e3 : kidsI true x = [] := by rw [kidsI, if_pos (by rw [h5]; rfl)]
    rw [e1, e2, e3]
    have h5' : (x.k == 5) = true := by rw [h5]; rfl
    simp only [xV]
    go_enter Tryz.func46, Tryz.ntmps46
    go_wp2
    all_goals go_ret
    all_goals exact ⟨rfl, (by repeat (first | (with_reducible exact Below.refl _ _) | (with_reducible assumption) | (with_reducible exact bel_box _) | (with_reducible refine bel_step ?_ (by with_reducible assumption)) | (with_reducible refine Below.drew ?_) | (with_reducible refine below_drewN ?_ _) | (with_reducible refine bel_alloc ?_ _)))⟩
  · have e1 : iA x = x.A := if_neg h5
    have e2 : iC x = x.c := if_neg h5
    have h5' : (x.k == 5) = false := by simpa using h5
    rw [e1, e2]
    by_cases h7 : x.k = 7
    · have e3 : (kidsI true x).length = min 1 x.ar.length := by
        rw [kidsI, if_neg (by rw [Bool.true_and, h5']; simp), if_pos (by rw [h7]; rfl), List.length_take]
      rw [e3]
      have h7' : (x.k == 7) = true := by rw [h7]; rfl
      simp only [xV]
      go_enter Tryz.func46, Tryz.ntmps46
      go_wp2
      all_goals first
        | (exfalso; omega)
        | (go_ret; exact ⟨by rw [show (min 1 (x.ar.length : Int)).toNat = min 1 x.ar.length by omega]; rfl, (by repeat (first | (with_reducible exact Below.refl _ _) | (with_reducible assumption) | (with_reducible exact bel_box _) | (with_reducible refine bel_step ?_ (by with_reducible assumption)) | (with_reducible refine Below.drew ?_) | (with_reducible refine below_drewN ?_ _) | (with_reducible refine bel_alloc ?_ _)))⟩)
    · have e3 : kidsI true x = x.ar := by
        rw [kidsI, if_neg (by rw [Bool.true_and, h5']; simp), if_neg (by simpa using h7)]
      rw [e3]
      have h7' : (x.k == 7) = false := by simpa using h7
      simp only [xV]
      go_enter Tryz.func46, Tryz.ntmps46
      go_wp2
      all_goals go_ret
      all_goals exact ⟨rfl, (by repeat (first | (with_reducible exact Below.refl _ _) | (with_reducible assumption) | (with_reducible exact bel_box _) | (with_reducible refine bel_step ?_ (by with_reducible assumption)) | (with_reducible refine Below.drew ?_) | (with_reducible refine below_drewN ?_ _) | (with_reducible refine bel_alloc ?_ _)))⟩
set_option maxRecDepth 100000 in
set_option maxHeartbeats 4000000 in
theorem walkI_in (l n₀ B : Nat) (N : Nat) (S : Nat → Prop) (hS : ∀ k, S k → n₀ ≤ k ∧ k < B) (J Jx : List Xt → World → Prop) (hJ : AbidesFrom B J) (P : Xt → Prop)
    (hY : ∀ m pre x W, P x → J pre W → pre.length < N → YieldAt Fence.wide m Tryz.prog l #[xV x] W fun e W' =>
      (e = .returned (.bool true) ∧ J (pre ++ [x]) W' ∧ KX S W W') ∨ (e = .returned (.bool false) ∧ Jx (pre ++ [x]) W')) (x : Xt) :
    ∀ (n : Nat) (pre : List Xt) (W : World), (∀ y ∈ x.lst true, P y) → RdX W n₀ x → B ≤ W.heap.size → J pre W → pre.length + (x.lst true).length ≤ N →
      CallsIn Fence.wide n Tryz.prog 63 #[xV x, .func (.func 46) #[] #[], .func (.yield l) #[] #[]] W fun e W' =>
        (e = .returned (.bool true) ∧ J (pre ++ x.lst true) W' ∧ KX S W W') ∨ (e = .returned (.bool false) ∧ ∃ q, q <+: x.lst true ∧ Jx (pre ++ q) W') := by
  induction x using Xt.ind with
  | h x ih =>
    intro n pre W hP hX hB hj hN
    have hdd : ∀ k : Nat, (Fence.wide.depth.isSome = true → 1 ≤ k) := fun k h => by cases h
    have h9 := hX.len.1
    unfold maxLen at h9
    have hx1 := lst_pos x
    have hns : ∀ k, B ≤ k → ¬ S k := fun k hk hs => by have := (hS k hs).2; omega
    obtain ⟨b0, b1, b2, b3, b4, b5⟩ := bx_box W x
    -- the round at x itself, with what the walk wants next beside it
    have hy0 := YieldAt.mono (R' := fun e W2 =>
        (e = .returned (.bool true) ∧ J (pre ++ [x]) W2 ∧ KX S W W2 ∧ RdX W2 n₀ x ∧ W.heap.size < W2.heap.size ∧ W2.cell? ⟨W.heap.size, 0, none⟩ = some (.int .i64 x.k) ∧ W2.cell? ⟨W.heap.size, 1, none⟩ = some (.int .i64 x.op) ∧ W2.cell? ⟨W.heap.size, 2, none⟩ = some (.int .i64 x.t) ∧ W2.cell? ⟨W.heap.size, 3, none⟩ = some (.int .i64 x.v) ∧ W2.cell? ⟨W.heap.size, 4, none⟩ = some (.string x.nm) ∧ W2.cell? ⟨W.heap.size, 5, none⟩ = some (.slice x.A x.ar.length x.c)) ∨
        (e = .returned (.bool false) ∧ Jx (pre ++ [x]) W2)) (hY (n - 1) pre x (bxW W x) (hP x (by rw [Xt.lst_eq]; simp)) (abides_below hJ hj (bel_box _)) (by omega)) fun e W2 h => h.elim (fun ⟨he, hj2, hk⟩ => .inl ⟨he, hj2, (KX.of_below (bel_box _)).trans hk, (hX.kx (KX.of_below (bel_box _)) (fun k hs => (hS k hs).1)).kx hk (fun k hs => (hS k hs).1), by have := hk.1; rw [bxW_size] at this; omega,
          hk.cell (a := ⟨_, _, none⟩) (hns _ hB) b0, hk.cell (a := ⟨_, _, none⟩) (hns _ hB) b1, hk.cell (a := ⟨_, _, none⟩) (hns _ hB) b2, hk.cell (a := ⟨_, _, none⟩) (hns _ hB) b3, hk.cell (a := ⟨_, _, none⟩) (hns _ hB) b4, hk.cell (a := ⟨_, _, none⟩) (hns _ hB) b5⟩) .inr
    have IH := Lib.hid ih
    have HX := Lib.hid hX
    have HP := Lib.hid hP
    obtain ⟨L, hL, hL0, HL⟩ := parts_lst x
    have hkl := kids_length true x
    have AK : Hid (∀ {w : World} {B : Nat}, RdX w B x → ∀ {k : Nat}, k < (kidsI true x).length → ∃ ad y, iA x = some ad ∧ ad.block < B ∧ (kidsI true x)[k]? = some y ∧ y ∈ x.ar ∧ XC w (ad.add (k * 6)) y ∧ RdX w B y) := Lib.hid fun h => h.at_kid
    rw [hL] at hP
    have HPL := Lib.hid hP
    clear hP HP
    rw [hL]
    have HA := Lib.hid (fun W => instant_any x W h9 HX.out.cap)
    obtain ⟨M, hM⟩ : ∃ M, (kidsI true x).length = M := ⟨_, rfl⟩
    rw [hM] at HA AK HL hkl HPL
    rw [hM]
    clear hX ih b0 b1 b2 b3 b4 b5 hY
    simp only [xV] at hy0 HA IH ⊢
    obtain ⟨fn, tmps, assign, body, hy, hR⟩ := hy0
    refine callsIn_of_wp Tryz.func63 rfl trivial ?_ rfl
    simp only [Tryz.ntmps63, List.size_toArray, List.length_cons, List.length_nil, Nat.reduceAdd, Nat.reduceSub, Array.replicate_succ, Array.replicate_zero, List.push_toArray, List.append_toArray, List.nil_append, List.cons_append]
    gi_wp2_with (first
      | ((try refine ⟨hdd _, ?_⟩); refine hR.mono ?_; clear hR; rintro e W2 (⟨rfl, hJ2, hk2, hX2, hz2, d0, d1, d2, d3, d4, d5⟩ | ⟨rfl, hx2⟩))
      | (refine ⟨trivial, hdd _, ?_⟩; gi_at_call 46; refine (callsIn_wide.2 (HA.out _)).mono ?_; rintro e W3 ⟨rfl, hb3⟩))
    · clear HA hy
      have hJ3 := abides_below hJ hJ2 hb3
      have hk3 : KX S W W3 := hk2.trans (KX.of_below hb3)
      clear hX2 hz2 d0 d1 d2 d3 d4 d5 hJ2 hk2 hb3
      gi_loopw [17] (fun i wr => ∃ k : Nat, k ≤ M ∧ i = .int .i64 (k : Int) ∧ J (pre ++ x :: L k) wr ∧ KX S W wr) (fun i _ => M - (intOf i).toNat)
      case atStart => exact ⟨0, by omega, rfl, by rw [hL0]; exact hJ3, hk3⟩
      case round =>
        obtain ⟨k, hk, rfl, hJk, hkk⟩ := hrel
        by_cases hlt : k < M
        · have hXr := HX.out.kx hkk (fun k hs => (hS k hs).1)
          obtain ⟨ad, y, hA, had, hy, hm, ⟨c0, c1, c2, c3, c4, c5⟩, hr⟩ := AK.out hXr hlt
          obtain ⟨e1, e2, r, e3⟩ := HL.out k y hy
          have hcall := (IH.out y hm (n - 1) (pre ++ x :: L k) (bxW wr y) (fun z hz => HPL.out z (List.mem_cons.2 (.inr (by rw [← e3]; simp [hz])))) (hr.kx (KX.of_below (S := S) (bel_box _)) (fun k hs => (hS k hs).1)) (by rw [bxW_size]; have := hkk.1; omega) (abides_below hJ hJk (bel_box _)) (by simp only [List.length_append, List.length_cons]; omega)).mono (R' := fun e W5 =>
            (e = .returned (.bool true) ∧ J (pre ++ x :: L (k + 1)) W5 ∧ KX S W W5) ∨ (e = .returned (.bool false) ∧ ∃ q, q <+: x :: L M ∧ Jx (pre ++ q) W5)) (fun e W5 h => h.elim
              (fun ⟨he, hj5, hk5⟩ => .inl ⟨he, by rw [e1]; simpa [List.append_assoc] using hj5, (hkk.trans (KX.of_below (bel_box _))).trans hk5⟩)
              (fun ⟨he, q, ⟨t, ht⟩, hx5⟩ => .inr ⟨he, x :: L k ++ q, ⟨t ++ r, by rw [← e3, ← ht]; simp [List.append_assoc]⟩, by simpa [List.append_assoc] using hx5⟩))
          have HC := Lib.hid hcall
          clear hcall hXr hr e1 e2 e3 hy hJk hkk IH HL HPL AK
          rw [hA]
          clear hA
          gi_wp2_with (refine ⟨trivial, hdd _, ?_⟩; gi_at_call 63; refine HC.out.mono ?_; clear HC; rintro e W5 (⟨rfl, hJ5, hk5⟩ | ⟨rfl, q, hq, hx5⟩))
          · exact ⟨⟨k + 1, by omega, by congr 1, hJ5, hk5⟩, by simp [intOf]; omega⟩
          · go_ret
            exact .inr ⟨rfl, q, hq, hx5⟩
        · obtain rfl : k = M := by omega
          gi_wp2
          go_ret
          exact .inl ⟨rfl, hJk, hkk⟩
    · go_ret
      exact .inr ⟨rfl, [x], ⟨L M, rfl⟩, hx2⟩
end Go.Proofs.YtfogkcccjemloaaGreatDoor
