/- Size, Depth, Weigh of the reference. -/
import Derived.Test.YtfogkcccjemloaaGreatDoorEa
namespace Go.Proofs.YtfogkcccjemloaaGreatDoor
set_option linter.unusedVariables false
set_option linter.unusedSimpArgs false
open Go.RowKit
/-- the world in which an expression that came in has its box -/
abbrev bxW (w : World) (x : Xt) : World := w.alloc (.cells #[.int .i64 x.k, .int .i64 x.op, .int .i64 x.t, .int .i64 x.v, .string x.nm, .slice x.A x.ar.length x.c] 24)
theorem bxW_size (w : World) (x : Xt) : (bxW w x).heap.size = w.heap.size + 1 := World.size_alloc _ _
theorem bxW_below {w W : World} {x : Xt} (h : Below (bxW w x).heap.size (bxW w x) W) : Below w.heap.size w W := (bel_box _).trans (h.mono (by rw [bxW_size]; omega))
theorem bxW_cells {w W : World} {x : Xt} (h : Below (bxW w x).heap.size (bxW w x) W) :
    W.cell? ⟨w.heap.size, 0, none⟩ = some (.int .i64 x.k) ∧ W.cell? ⟨w.heap.size, 1, none⟩ = some (.int .i64 x.op) ∧ W.cell? ⟨w.heap.size, 2, none⟩ = some (.int .i64 x.t) ∧ W.cell? ⟨w.heap.size, 3, none⟩ = some (.int .i64 x.v) ∧ W.cell? ⟨w.heap.size, 4, none⟩ = some (.string x.nm) ∧ W.cell? ⟨w.heap.size, 5, none⟩ = some (.slice x.A x.ar.length x.c) ∧ w.heap.size < W.heap.size := by
  have hz := h.size
  rw [bxW_size] at hz
  obtain ⟨hc, _, _⟩ := bcell h
  rw [hc _ _ (by rw [bxW_size]; simp), hc _ _ (by rw [bxW_size]; simp), hc _ _ (by rw [bxW_size]; simp), hc _ _ (by rw [bxW_size]; simp), hc _ _ (by rw [bxW_size]; simp), hc _ _ (by rw [bxW_size]; simp)]
  refine ⟨?_, ?_, ?_, ?_, ?_, ?_, by omega⟩ <;> simp [go_sem]
set_option maxHeartbeats 1000000 in
set_option maxRecDepth 20000 in
theorem rsize_any (x : Xt) : ∀ w, RdX w w.heap.size x → x.size ≤ 100000 → Calls Tryz.prog 15 #[xV x] w (Bel (.int .i64 (x.size : Nat)) w) := by
  induction x using Xt.ind with
  | h x ih =>
    intro w hX hS
    have HX := Lib.hid hX
    have IH := Lib.hid ih
    clear hX ih
    rw [Xt.size_eq] at hS ⊢
    have hts := fun k => sum_take_le x.ar Xt.size k
    have hal : (x.ar.map Xt.size).sum = ((x.ar.take x.ar.length).map Xt.size).sum := by rw [List.take_length]
    have hcl : x.ar.length ≤ (x.ar.map Xt.size).sum := by
      generalize x.ar = l
      induction l with
      | nil => simp
      | cons a l ih => have := Xt.size_pos a; simp; omega
    rw [hal] at hS hcl ⊢
    clear hal
    generalize hF : (fun k => ((x.ar.take k).map Xt.size).sum) = F at *
    have hFk : ∀ k, ((x.ar.take k).map Xt.size).sum = F k := fun k => by rw [← hF]
    have HN : Hid (∀ (k : Nat) (y : Xt), x.ar[k]? = some y → F (k + 1) = F k + y.size) := Lib.hid fun k y hy => by rw [← hFk, ← hFk]; exact sum_take_succ hy
    have hle : ∀ k, F k ≤ F x.ar.length := fun k => by
      rw [← hFk, ← hFk, List.take_length]; exact sum_take_le x.ar Xt.size k
    have hF0 : F 0 = 0 := by rw [← hFk]; rfl
    simp only [hFk] at hS hcl ⊢
    clear hF hFk hts
    simp only [xV] at IH ⊢
    have HL := Lib.hid hle
    go_enter Tryz.func15, Tryz.ntmps15
    go_wp2
    go_loopw [3, 4] (fun n i wr => ∃ k : Nat, k ≤ x.ar.length ∧ i = .int .i64 (k : Int) ∧ n = .int .i64 ((1 + F k : Nat) : Int) ∧ Below (bxW w x).heap.size (bxW w x) wr) (fun _ i _ => x.ar.length - (intOf i).toNat)
    case atStart => exact ⟨0, by omega, rfl, by rw [hF0]; rfl, Below.refl _ _⟩
    case round =>
      obtain ⟨k, hk, rfl, rfl, hbl⟩ := hrel
      obtain ⟨b0, b1, b2, b3, b4, b5, b6⟩ := bxW_cells hbl
      have hBW := bxW_below hbl
      by_cases hlt : k < x.ar.length
      · obtain ⟨ad, y, hA, had, hy, hm, ⟨c0, c1, c2, c3, c4, c5⟩, hr⟩ := (HX.out.to hBW).at_ hlt
        rw [hA] at b5
        clear hA
        have hn1 := HN.out k y hy
        have hn2 := HL.out (k + 1)
        have hcells := Lib.hid hy
        clear hy
        have u1 : IntKind.i64.wrap (((1 + F k : Nat) : Int) + (y.size : Int)) = ((1 + F (k + 1) : Nat) : Int) := by rw [Go.IntWalk.i64_in _ ⟨by omega, by omega⟩]; omega
        go_wp2_with (go_at_call 15; (with_reducible refine (IH.out y hm _ (hr.to ?_) (by omega)).mono ?_); (focus ((repeat (first | (with_reducible exact Below.refl _ _) | (with_reducible assumption) | (with_reducible exact bel_box _) | (with_reducible refine bel_step ?_ (by with_reducible assumption)) | (with_reducible refine Below.drew ?_) | (with_reducible refine below_drewN ?_ _) | (with_reducible refine bel_alloc ?_ _))); done)); rintro e w1 ⟨rfl, hb1⟩)
        exact ⟨⟨k + 1, by omega, by congr 1, by congr 1; omega, (by repeat (first | (with_reducible exact Below.refl _ _) | (with_reducible assumption) | (with_reducible exact bel_box _) | (with_reducible refine bel_step ?_ (by with_reducible assumption)) | (with_reducible refine Below.drew ?_) | (with_reducible refine below_drewN ?_ _) | (with_reducible refine bel_alloc ?_ _)))⟩, by simp [intOf]; omega⟩
      · obtain rfl : k = x.ar.length := by omega
        go_wp2
        go_ret
        exact ⟨rfl, hBW⟩
/-- what a sum over the arguments needs, by its partial sums -/
theorem parts_sum (x : Xt) : ∃ F : Nat → Nat, x.size = 1 + F x.ar.length ∧ F 0 = 0 ∧ x.ar.length ≤ F x.ar.length ∧ Hid (∀ (k : Nat) (y : Xt), x.ar[k]? = some y → F (k + 1) = F k + y.size) ∧ Hid (∀ k, F k ≤ F x.ar.length) := by
  refine ⟨fun k => ((x.ar.take k).map Xt.size).sum, ?_, rfl, ?_, Lib.hid fun k y hy => sum_take_succ hy, Lib.hid fun k => ?_⟩
  · simp only [List.take_length]
    exact Xt.size_eq x
  · simp only [List.take_length]
    generalize x.ar = l
    induction l with
    | nil => simp
    | cons a l ih => have := Xt.size_pos a; simp; omega
  · simp only [List.take_length]
    exact sum_take_le x.ar Xt.size k
set_option maxHeartbeats 1000000 in
set_option maxRecDepth 20000 in
theorem weigh_any (x : Xt) : ∀ (m : Nat) w, RdX w w.heap.size x → 1 ≤ m → m ≤ 100000 → Calls Tryz.prog 37 #[xV x, .int .i64 (m : Int)] w (Bel (.int .i64 ((min x.size m : Nat) : Int)) w) := by
  induction x using Xt.ind with
  | h x ih =>
    intro m w hX h1 h2
    have h9 := hX.len.1
    unfold maxLen at h9
    have HX := Lib.hid hX
    have IH := Lib.hid ih
    clear hX ih
    obtain ⟨F, hFx, hF0, _, HN, HL⟩ := parts_sum x
    rw [hFx]
    clear hFx
    obtain ⟨V, hV⟩ : ∃ V, min (1 + F x.ar.length) m = V := ⟨_, rfl⟩
    have HV := Lib.hid hV
    rw [hV]
    clear hV
    simp only [xV] at IH ⊢
    go_enter Tryz.func37, Tryz.ntmps37
    go_wp2
    go_loopw [5, 6] (fun n i wr => ∃ k N : Nat, k ≤ x.ar.length ∧ i = .int .i64 (k : Int) ∧ n = .int .i64 (N : Int) ∧ Hid (N = min (1 + F k) m) ∧ N ≤ m ∧ Below (bxW w x).heap.size (bxW w x) wr) (fun _ i _ => x.ar.length - (intOf i).toNat)
    case atStart => exact ⟨0, 1, by omega, rfl, rfl, Lib.hid (by rw [hF0]; omega), by omega, Below.refl _ _⟩
    case round =>
      obtain ⟨k, N, hk, rfl, rfl, hN, hNle, hbl⟩ := hrel
      obtain ⟨b0, b1, b2, b3, b4, b5, b6⟩ := bxW_cells hbl
      have hBW := bxW_below hbl
      by_cases hlt : k < x.ar.length
      · by_cases hNm : N < m
        · obtain ⟨ad, y, hA, had, hy, hm, ⟨c0, c1, c2, c3, c4, c5⟩, hr⟩ := (HX.out.to hBW).at_ hlt
          rw [hA] at b5
          clear hA
          have hn1 := HN.out k y hy
          have hy1 := Xt.size_pos y
          clear hy
          have hNe : N = 1 + F k := by have := hN.out; omega
          obtain ⟨d, hd⟩ : ∃ d, m - N = d := ⟨_, rfl⟩
          obtain ⟨r, hr2⟩ : ∃ r, min y.size d = r := ⟨_, rfl⟩
          have K1 : Hid (∀ W, Below wr.heap.size wr W → Calls Tryz.prog 37 #[.agg #[.int .i64 y.k, .int .i64 y.op, .int .i64 y.t, .int .i64 y.v, .string y.nm, .slice y.A y.ar.length y.c], .int .i64 (d : Int)] W (Bel (.int .i64 (r : Nat)) W)) := Lib.hid fun W hb => by
            have := IH.out y hm d W (hr.to hb) (by omega) (by omega)
            rwa [hr2] at this
          have HN2 : Hid (N + r = min (1 + F (k + 1)) m) := Lib.hid (by omega)
          have g1 : N + r ≤ m := by omega
          have u1 : (m : Int) - (N : Int) = (d : Int) := by omega
          have u2 : IntKind.i64.wrap (d : Int) = (d : Int) := Go.IntWalk.i64_in _ ⟨by omega, by omega⟩
          have u3 : (N : Int) < (m : Int) := by omega
          clear hN hn1 hNe hd hr2 hy1
          go_wp2_with (go_at_call 37; (with_reducible refine (K1.out _ ?_).mono ?_); (focus ((repeat (first | (with_reducible exact Below.refl _ _) | (with_reducible assumption) | (with_reducible exact bel_box _) | (with_reducible refine bel_step ?_ (by with_reducible assumption)) | (with_reducible refine Below.drew ?_) | (with_reducible refine below_drewN ?_ _) | (with_reducible refine bel_alloc ?_ _))); done)); rintro e w1 ⟨rfl, hb1⟩)
          exact ⟨⟨k + 1, N + r, by omega, by congr 1, by congr 1, HN2, g1, (by repeat (first | (with_reducible exact Below.refl _ _) | (with_reducible assumption) | (with_reducible exact bel_box _) | (with_reducible refine bel_step ?_ (by with_reducible assumption)) | (with_reducible refine Below.drew ?_) | (with_reducible refine below_drewN ?_ _) | (with_reducible refine bel_alloc ?_ _)))⟩, by simp [intOf]; omega⟩
        · have hv : N = V := by
            have h1 := hN.out
            have h2 := HV.out
            have h3 := HL.out k
            omega
          subst hv
          have u3 : (m : Int) ≤ (N : Int) := by omega
          have u4 : (N : Int) ≤ (m : Int) := by omega
          clear hN HV
          go_wp2
          go_ret
          refine ⟨?_, hBW⟩
          congr 2
      · obtain rfl : k = x.ar.length := by omega
        obtain rfl : N = V := hN.out.trans HV.out
        have u4 : (N : Int) ≤ (m : Int) := by omega
        clear hN HV
        go_wp2
        go_ret
        refine ⟨?_, hBW⟩
        congr 2
end Go.Proofs.YtfogkcccjemloaaGreatDoor
