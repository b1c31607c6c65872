/- The walk of ExprNames. -/
import Derived.Test.YtfogkcccjemloaaGreatDoorGe
import Derived.Deep.RegionWith
namespace Go.Proofs.YtfogkcccjemloaaGreatDoor
set_option linter.unusedVariables false
set_option linter.unusedSimpArgs false
open Go.RowKit Go.Sort
theorem has_snoc_any (l : List ByteArray) (s t : ByteArray) (h : hasN l t = true) : hasN (l ++ [s]) t = true := by
  rw [has_snoc, h, Bool.true_or]
theorem has_step (acc : List ByteArray) (x : Xt) (t : ByteArray) (h : hasN acc t = true) : hasN (stepN acc x) t = true := by
  unfold stepN
  split
  · exact has_snoc_any _ _ _ h
  · exact h
theorem has_fold (l : List Xt) (acc : List ByteArray) (t : ByteArray) (h : hasN acc t = true) : hasN (l.foldl stepN acc) t = true := by
  induction l generalizing acc with
  | nil => exact h
  | cons y l ih => exact ih _ (has_step acc y t h)
theorem has_var (l : List Xt) (acc : List ByteArray) (y : Xt) (hy : y ∈ l) (hv : hasVar y.k = true) : hasN (l.foldl stepN acc) y.nm = true := by
  induction l generalizing acc with
  | nil => cases hy
  | cons z l ih =>
    rw [List.foldl_cons]
    rcases List.mem_cons.1 hy with rfl | hy
    · refine has_fold l _ _ ?_
      unfold stepN
      cases q : hasN acc y.nm
      · rw [hv, if_pos (by simp), has_snoc]; simp
      · rw [hv, if_neg (by simp)]; exact q
    · exact ih _ hy
theorem fold_mem (l : List Xt) (acc : List ByteArray) (s : ByteArray) (h : s ∈ l.foldl stepN acc) : s ∈ acc ∨ ∃ y ∈ l, hasVar y.k = true ∧ y.nm = s := by
  induction l generalizing acc with
  | nil => exact .inl h
  | cons y l ih =>
    rw [List.foldl_cons] at h
    rcases ih _ h with h | ⟨z, hz, h1, h2⟩
    · unfold stepN at h
      split at h
      · rename_i hq
        rcases List.mem_append.1 h with h | h
        · exact .inl h
        · refine .inr ⟨y, by simp, ?_, (List.mem_singleton.1 h).symm⟩
          rw [Bool.and_eq_true] at hq
          exact hq.1
      · exact .inl h
    · exact .inr ⟨z, by simp [hz], h1, h2⟩
theorem lst_sub (b : Bool) (x : Xt) : ∀ y ∈ x.lst b, y ∈ x.list := by
  induction x using Xt.ind with
  | h x ih =>
    intro y hy
    rw [Xt.lst_eq] at hy
    rw [Xt.list_eq]
    rcases List.mem_cons.1 hy with rfl | hy
    · simp
    · obtain ⟨l, hl, hyl⟩ := List.mem_flatten.1 hy
      obtain ⟨z, hz, rfl⟩ := List.mem_map.1 hl
      exact List.mem_cons.2 (.inr (List.mem_flatten.2 ⟨_, List.mem_map_of_mem (kids_mem hz), ih z (kids_mem hz) y hyl⟩))
theorem inst_sub (x : Xt) (s : ByteArray) (h : s ∈ nmS true x []) : hasN (nmS false x []) s = true := by
  rcases fold_mem _ _ _ h with h | ⟨y, hy, hv, rfl⟩
  · cases h
  · have := lst_sub true x y hy
    unfold nmS
    rw [lst_false]
    exact has_var _ _ y this hv
set_option maxHeartbeats 2000000 in
set_option maxRecDepth 20000 in
theorem exprnames_any (x : Xt) (w : World) (hs : Std w) (hX : RdX w w.heap.size x) : Calls Tryz.prog 5 #[xV x] w (Bel (.bool true) w) := by
  have KL : Hid (∀ W, Below w.heap.size w W → Calls Tryz.prog 11 #[] W (Bel (.bool true) W)) := Lib.hid fun W h => lives_any W (hs.to h)
  have KH : Hid (∀ W, Below w.heap.size w W → Calls Tryz.prog 10 #[xV x] W (Bel (.bool (decide (500 < x.size))) W)) := Lib.hid fun W h => heavy_any x W (hX.to h)
  by_cases h5 : 500 < x.size
  · rw [decide_eq_true h5] at KH
    simp only [xV] at KH ⊢
    clear h5 hX hs
    go_enter Tryz.func5, Tryz.ntmps5
    go_wp2_with (first
      | (go_at_call 10; (with_reducible refine (KH.out _ ?_).mono ?_); (focus ((repeat (first | (with_reducible exact Below.refl _ _) | (with_reducible assumption) | (with_reducible exact bel_box _) | (with_reducible refine bel_step ?_ (by with_reducible assumption)) | (with_reducible refine Below.drew ?_) | (with_reducible refine below_drewN ?_ _) | (with_reducible refine bel_alloc ?_ _))); done)); rintro e w1 ⟨rfl, hb1⟩)
      | (go_at_call 11; (with_reducible refine (KL.out _ ?_).mono ?_); (focus ((repeat (first | (with_reducible exact Below.refl _ _) | (with_reducible assumption) | (with_reducible exact bel_box _) | (with_reducible refine bel_step ?_ (by with_reducible assumption)) | (with_reducible refine Below.drew ?_) | (with_reducible refine below_drewN ?_ _) | (with_reducible refine bel_alloc ?_ _))); done)); rintro e w2 ⟨rfl, hb2⟩))
    go_ret
    exact ⟨rfl, (by repeat (first | (with_reducible exact Below.refl _ _) | (with_reducible assumption) | (with_reducible exact bel_box _) | (with_reducible refine bel_step ?_ (by with_reducible assumption)) | (with_reducible refine Below.drew ?_) | (with_reducible refine below_drewN ?_ _) | (with_reducible refine bel_alloc ?_ _)))⟩
  rw [decide_eq_false h5] at KH
  have KN : Hid (∀ W, Below w.heap.size w W → Calls Tryz.prog 22 #[xV x] W (NewN (nmS false x []) W)) := Lib.hid fun W h => names_any x W (hX.to h) (by omega)
  have KI : Hid (∀ W, Below w.heap.size w W → Calls Tryz.prog 23 #[xV x] W (NewN (nmS true x []) W)) := Lib.hid fun W h => instants_any x W (hX.to h) (by omega)
  have RN : Hid (∀ W, Below w.heap.size w W → Calls Tryz.prog 26 #[xV x] W (NewN (nmS false x []) W)) := Lib.hid fun W h => rNames_any x W (hX.to h) (by omega)
  have RI : Hid (∀ W, Below w.heap.size w W → Calls Tryz.prog 27 #[xV x] W (NewN (nmS true x []) W)) := Lib.hid fun W h => rInstant_any x W (hX.to h) (by omega)
  have hl1 := nm_length false x []
  have hl2 := nm_length true x []
  have HM : Hid (∀ (k : Nat) s, (nmS true x [])[k]? = some s → hasN (nmS false x []) s = true) := Lib.hid fun k s h => inst_sub x s (List.mem_of_getElem? h)
  rw [List.length_nil, Nat.zero_add] at hl1 hl2
  generalize nmS false x [] = N at *
  generalize nmS true x [] = M at *
  have HL := Lib.hid (show N.length ≤ 500 ∧ M.length ≤ 500 by omega)
  simp only [xV] at KN KI RN RI KH ⊢
  clear hX hs h5 hl1 hl2
  go_enter Tryz.func5, Tryz.ntmps5
  go_wp2_with (go_at_call 10; (with_reducible refine (KH.out _ ?_).mono ?_); (focus ((repeat (first | (with_reducible exact Below.refl _ _) | (with_reducible assumption) | (with_reducible exact bel_box _) | (with_reducible refine bel_step ?_ (by with_reducible assumption)) | (with_reducible refine Below.drew ?_) | (with_reducible refine below_drewN ?_ _) | (with_reducible refine bel_alloc ?_ _))); done)); rintro e w1 ⟨rfl, hv1⟩; obtain ⟨b0, b1, b2, b3, b4, b5, _⟩ := bxW_cells (w := w) (x := x) (W := w1) hv1)
  clear KH
  go_region_with (first
    | (go_at_call 22; (with_reducible refine (KN.out _ ?_).mono ?_); (focus ((repeat (first | (with_reducible exact Below.refl _ _) | (with_reducible assumption) | (with_reducible exact bel_box _) | (with_reducible refine bel_step ?_ (by with_reducible assumption)) | (with_reducible refine Below.drew ?_) | (with_reducible refine below_drewN ?_ _) | (with_reducible refine bel_alloc ?_ _))); done)); rintro e w2 ⟨A2, c2, rfl, hR2, hb2⟩; obtain ⟨d0, d1, d2, d3, d4, d5, _⟩ := bxW_cells (w := w) (x := x) (W := w2) (by repeat (first | (with_reducible exact Below.refl _ _) | (with_reducible assumption) | (with_reducible exact bel_box _) | (with_reducible refine bel_step ?_ (by with_reducible assumption)) | (with_reducible refine Below.drew ?_) | (with_reducible refine below_drewN ?_ _) | (with_reducible refine bel_alloc ?_ _))))
    | (go_at_call 23; (with_reducible refine (KI.out _ ?_).mono ?_); (focus ((repeat (first | (with_reducible exact Below.refl _ _) | (with_reducible assumption) | (with_reducible exact bel_box _) | (with_reducible refine bel_step ?_ (by with_reducible assumption)) | (with_reducible refine Below.drew ?_) | (with_reducible refine below_drewN ?_ _) | (with_reducible refine bel_alloc ?_ _))); done)); rintro e w3 ⟨A3, c3, rfl, hR3, hb3⟩; obtain ⟨e0, e1, e2, e3, e4, e5, _⟩ := bxW_cells (w := w) (x := x) (W := w3) (by repeat (first | (with_reducible exact Below.refl _ _) | (with_reducible assumption) | (with_reducible exact bel_box _) | (with_reducible refine bel_step ?_ (by with_reducible assumption)) | (with_reducible refine Below.drew ?_) | (with_reducible refine below_drewN ?_ _) | (with_reducible refine bel_alloc ?_ _)))))
  all_goals clear b0 b1 b2 b3 b4 b5 d0 d1 d2 d3 d4 d5 KN KI
  all_goals go_wp2
  all_goals go_loopw [5] (fun i wr => ∃ k : Nat, k ≤ M.length ∧ i = .int .i64 (k : Int) ∧ Below w3.heap.size w3 wr) (fun i _ => M.length - (intOf i).toNat)
  all_goals first
    | exact ⟨0, by omega, rfl, Below.refl _ _⟩
    | skip
  all_goals
    obtain ⟨k, hk, rfl, hbl⟩ := hrel
    have HBW : Hid (Below (bxW w x).heap.size (bxW w x) wr) := Lib.hid (by repeat (first | (with_reducible exact Below.refl _ _) | (with_reducible assumption) | (with_reducible exact bel_box _) | (with_reducible refine bel_step ?_ (by with_reducible assumption)) | (with_reducible refine Below.drew ?_) | (with_reducible refine below_drewN ?_ _) | (with_reducible refine bel_alloc ?_ _)))
    obtain ⟨hL1, hL2⟩ := HL.out
    by_cases hlt : k < M.length
    · obtain ⟨ad, s, rfl, had, hs, c0⟩ := (hR3.to hbl).at_ hlt
      have hm := HM.out k s hs
      have KS : Hid (∀ W, RdN W W.heap.size A2 N → Calls Tryz.prog 24 #[.slice A2 N.length c2, .string s] W (Bel (.bool true) W)) := Lib.hid fun W h => by
        have := rhas_any A2 c2 N s W h (by omega)
        rwa [hm] at this
      have hR2r : RdN wr wr.heap.size A2 N := hR2.to (by repeat (first | (with_reducible exact Below.refl _ _) | (with_reducible assumption) | (with_reducible exact bel_box _) | (with_reducible refine bel_step ?_ (by with_reducible assumption)) | (with_reducible refine Below.drew ?_) | (with_reducible refine below_drewN ?_ _) | (with_reducible refine bel_alloc ?_ _)))
      clear hs hm
      go_wp2_with (go_at_call 24; (with_reducible refine (KS.out _ ?_).mono ?_); (focus (first | exact hR2r | exact hR2r.to (by repeat (first | (with_reducible exact Below.refl _ _) | (with_reducible assumption) | (with_reducible exact bel_box _) | (with_reducible refine bel_step ?_ (by with_reducible assumption)) | (with_reducible refine Below.drew ?_) | (with_reducible refine below_drewN ?_ _) | (with_reducible refine bel_alloc ?_ _))); done)); rintro e w4 ⟨rfl, hb4⟩)
      exact ⟨⟨k + 1, by omega, by congr 1, (by repeat (first | (with_reducible exact Below.refl _ _) | (with_reducible assumption) | (with_reducible exact bel_box _) | (with_reducible refine bel_step ?_ (by with_reducible assumption)) | (with_reducible refine Below.drew ?_) | (with_reducible refine below_drewN ?_ _) | (with_reducible refine bel_alloc ?_ _)))⟩, by simp [intOf]; omega⟩
    · obtain rfl : k = M.length := by omega
      obtain ⟨f0, f1, f2, f3, f4, f5, _⟩ := bxW_cells (w := w) (x := x) (W := wr) HBW.out
      have hv4 := bxW_below HBW.out
      clear e0 e1 e2 e3 e4 e5
      have HV4 := Lib.hid hv4
      clear hv4
      have RN2 : Hid (∀ W, Below wr.heap.size wr W → Calls Tryz.prog 26 #[.agg #[.int .i64 x.k, .int .i64 x.op, .int .i64 x.t, .int .i64 x.v, .string x.nm, .slice x.A x.ar.length x.c]] W (NewN N W)) := Lib.hid fun W h => RN.out W (HV4.out.trans (h.mono HV4.out.size))
      have RI2 : Hid (∀ W, Below wr.heap.size wr W → Calls Tryz.prog 27 #[.agg #[.int .i64 x.k, .int .i64 x.op, .int .i64 x.t, .int .i64 x.v, .string x.nm, .slice x.A x.ar.length x.c]] W (NewN M W)) := Lib.hid fun W h => RI.out W (HV4.out.trans (h.mono HV4.out.size))
      have KL2 : Hid (∀ W, Below wr.heap.size wr W → Calls Tryz.prog 11 #[] W (Bel (.bool true) W)) := Lib.hid fun W h => KL.out W (HV4.out.trans (h.mono HV4.out.size))
      have BX : Hid (∀ W, Below wr.heap.size wr W → W.cell? ⟨w.heap.size, 0, none⟩ = some (.int .i64 x.k) ∧ W.cell? ⟨w.heap.size, 1, none⟩ = some (.int .i64 x.op) ∧ W.cell? ⟨w.heap.size, 2, none⟩ = some (.int .i64 x.t) ∧ W.cell? ⟨w.heap.size, 3, none⟩ = some (.int .i64 x.v) ∧ W.cell? ⟨w.heap.size, 4, none⟩ = some (.string x.nm) ∧ W.cell? ⟨w.heap.size, 5, none⟩ = some (.slice x.A x.ar.length x.c)) := Lib.hid fun W h => by
        obtain ⟨q0, q1, q2, q3, q4, q5, _⟩ := bxW_cells (w := w) (x := x) (W := W) (HBW.out.trans (h.mono HBW.out.size))
        exact ⟨q0, q1, q2, q3, q4, q5⟩
      have R2 : RdN wr wr.heap.size A2 N := hR2.to (by repeat (first | (with_reducible exact Below.refl _ _) | (with_reducible assumption) | (with_reducible exact bel_box _) | (with_reducible refine bel_step ?_ (by with_reducible assumption)) | (with_reducible refine Below.drew ?_) | (with_reducible refine below_drewN ?_ _) | (with_reducible refine bel_alloc ?_ _)))
      have R3 : RdN wr wr.heap.size A3 M := hR3.to (by repeat (first | (with_reducible exact Below.refl _ _) | (with_reducible assumption) | (with_reducible exact bel_box _) | (with_reducible refine bel_step ?_ (by with_reducible assumption)) | (with_reducible refine Below.drew ?_) | (with_reducible refine below_drewN ?_ _) | (with_reducible refine bel_alloc ?_ _)))
      have S1 : Hid (∀ (A : Option Addr) (c : Nat) W, RdN W W.heap.size A2 N → RdN W W.heap.size A N → Calls Tryz.prog 25 #[.slice A2 N.length c2, .slice A N.length c] W (Bel (.bool true) W)) := Lib.hid fun A c W h h' => by
        have := rsame_any A2 A c2 c N N W h h' (by omega) (by omega)
        rwa [sameN_refl] at this
      have S2 : Hid (∀ (A : Option Addr) (c : Nat) W, RdN W W.heap.size A3 M → RdN W W.heap.size A M → Calls Tryz.prog 25 #[.slice A3 M.length c3, .slice A M.length c] W (Bel (.bool true) W)) := Lib.hid fun A c W h h' => by
        have := rsame_any A3 A c3 c M M W h h' (by omega) (by omega)
        rwa [sameN_refl] at this
      clear hR2 hR3 hb2 hb3 hbl hv1 RN RI KL HM
      go_wp2_with (first
        | (go_at_call 26; (with_reducible refine (RN2.out _ ?_).mono ?_); (focus ((repeat (first | (with_reducible exact Below.refl _ _) | (with_reducible assumption) | (with_reducible exact bel_box _) | (with_reducible refine bel_step ?_ (by with_reducible assumption)) | (with_reducible refine Below.drew ?_) | (with_reducible refine below_drewN ?_ _) | (with_reducible refine bel_alloc ?_ _))); done)); rintro e w5 ⟨A5, c5, rfl, hR5, hb5⟩)
        | (go_at_call 25; (with_reducible refine (S1.out _ _ _ ?_ hR5).mono ?_); (focus (exact R2.to (by repeat (first | (with_reducible exact Below.refl _ _) | (with_reducible assumption) | (with_reducible exact bel_box _) | (with_reducible refine bel_step ?_ (by with_reducible assumption)) | (with_reducible refine Below.drew ?_) | (with_reducible refine below_drewN ?_ _) | (with_reducible refine bel_alloc ?_ _))); done)); rintro e w6 ⟨rfl, hb6⟩; obtain ⟨f0, f1, f2, f3, f4, f5⟩ := BX.out w6 (by repeat (first | (with_reducible exact Below.refl _ _) | (with_reducible assumption) | (with_reducible exact bel_box _) | (with_reducible refine bel_step ?_ (by with_reducible assumption)) | (with_reducible refine Below.drew ?_) | (with_reducible refine below_drewN ?_ _) | (with_reducible refine bel_alloc ?_ _))))
        | (go_at_call 27; (with_reducible refine (RI2.out _ ?_).mono ?_); (focus ((repeat (first | (with_reducible exact Below.refl _ _) | (with_reducible assumption) | (with_reducible exact bel_box _) | (with_reducible refine bel_step ?_ (by with_reducible assumption)) | (with_reducible refine Below.drew ?_) | (with_reducible refine below_drewN ?_ _) | (with_reducible refine bel_alloc ?_ _))); done)); rintro e w7 ⟨A7, c7, rfl, hR7, hb7⟩)
        | (go_at_call 25; (with_reducible refine (S2.out _ _ _ ?_ hR7).mono ?_); (focus (exact R3.to (by repeat (first | (with_reducible exact Below.refl _ _) | (with_reducible assumption) | (with_reducible exact bel_box _) | (with_reducible refine bel_step ?_ (by with_reducible assumption)) | (with_reducible refine Below.drew ?_) | (with_reducible refine below_drewN ?_ _) | (with_reducible refine bel_alloc ?_ _))); done)); rintro e w8 ⟨rfl, hb8⟩)
        | (go_at_call 11; (with_reducible refine (KL2.out _ ?_).mono ?_); (focus ((repeat (first | (with_reducible exact Below.refl _ _) | (with_reducible assumption) | (with_reducible exact bel_box _) | (with_reducible refine bel_step ?_ (by with_reducible assumption)) | (with_reducible refine Below.drew ?_) | (with_reducible refine below_drewN ?_ _) | (with_reducible refine bel_alloc ?_ _))); done)); rintro e w9 ⟨rfl, hb9⟩))
      go_ret
      exact ⟨rfl, HV4.out.trans (Below.mono (by repeat (first | (with_reducible exact Below.refl _ _) | (with_reducible assumption) | (with_reducible exact bel_box _) | (with_reducible refine bel_step ?_ (by with_reducible assumption)) | (with_reducible refine Below.drew ?_) | (with_reducible refine below_drewN ?_ _) | (with_reducible refine bel_alloc ?_ _))) HV4.out.size)⟩
end Go.Proofs.YtfogkcccjemloaaGreatDoor
