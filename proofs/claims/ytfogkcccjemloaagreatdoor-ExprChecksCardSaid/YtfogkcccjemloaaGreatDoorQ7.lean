/- Texts of one chain, in one file. -/
import Derived.Test.YtfogkcccjemloaaGreatDoorQ4
import Derived.Test.YtfogkcccjemloaaGreatDoorQ5
import Derived.Test.YtfogkcccjemloaaGreatDoorQ6
import Derived.Test.YtfogkcccjemloaaGreatDoorRows
import Derived.Stop.LaidErr
import Derived.Lib.LaidTab
import Derived.LaidMore
import Derived.Lay
import Derived.LaidOnce
import Derived.ChangeSlices
import Derived.ChangeSame
import Derived.ChangeMaps
import Derived.Stop.Joined
/- The words of both; names of both; the walk of ExprChecks. -/
namespace Go.Proofs.YtfogkcccjemloaaGreatDoor
set_option linter.unusedVariables false
set_option linter.unusedSimpArgs false
open Go.RowKit Go.Sort
open Classical in
/-- whether a text is that of a word -/
noncomputable def wokP (s : ByteArray) : Bool := decide (s.size ≤ 66 ∧ ∃ h l, s = bw.wtx h l ∧ bw.ck h l = 0)
open Classical in
theorem wokP_yes {s : ByteArray} (h : s.size ≤ 66 ∧ ∃ h l, s = bw.wtx h l ∧ bw.ck h l = 0) : wokP s = true := by
  unfold wokP; exact decide_eq_true_iff.2 h
open Classical in
theorem wokP_no {s : ByteArray} (h : ¬ (s.size ≤ 66 ∧ ∃ h l, s = bw.wtx h l ∧ bw.ck h l = 0)) : wokP s = false := by
  unfold wokP; exact decide_eq_false_iff_not.2 h
theorem wx_form {x y : List Bool} {er : Int} {w w' : World} {e : Ending} {b : Bool} (h : bw.NewWX x y er w e w') (hb : (er == 0) = b) : ∃ (A1 A2 : Option Addr) (n1 c1 n2 c2 : Nat) (er : Int), e = .returned (.tuple #[.agg #[.slice A1 n1 c1, .slice A2 n2 c2], .int .i64 er]) ∧ (er == 0) = b ∧ Below w.heap.size w w' := by
  obtain ⟨A, B, c, d, h1, _, _, _, _, h2, _, _⟩ := h
  exact ⟨A, B, _, c, _, d, er, h1, hb, h2⟩
theorem parse_ok (s : ByteArray) (w : World) (hs : s.size ≤ 140737488351232) : Calls Tryz.prog 36 #[.string s] w (fun e w' => ∃ (A1 A2 : Option Addr) (n1 c1 n2 c2 : Nat) (er : Int), e = .returned (.tuple #[.agg #[.slice A1 n1 c1, .slice A2 n2 c2], .int .i64 er]) ∧ (er == 0) = wokP s ∧ Below w.heap.size w w') := by
  by_cases h66 : s.size ≤ 66
  · by_cases hw : ∃ h l, s = bw.wtx h l ∧ bw.ck h l = 0
    · have h1 := wokP_yes ⟨h66, hw⟩
      obtain ⟨h, l, rfl, hc⟩ := hw
      exact (bw.pparse_ok h l w hc).mono fun e w' hn => wx_form hn h1.symm
    · exact (bw.pparse_no s w h66 hw).mono fun e w' hn => wx_form hn (wokP_no fun h => hw h.2).symm
  · exact (bw.plong s w (by omega) (by omega)).mono fun e w' hn => wx_form hn (wokP_no fun h => h66 h.1).symm
theorem rparse_ok (s : ByteArray) (w : World) (hs : s.size ≤ 140737488351232) : Calls Tryz.prog 69 #[.string s] w (fun e w' => ∃ (A1 A2 : Option Addr) (n1 c1 n2 c2 : Nat) (er : Int), e = .returned (.tuple #[.agg #[.slice A1 n1 c1, .slice A2 n2 c2], .int .i64 er]) ∧ (er == 0) = wokP s ∧ Below w.heap.size w w') := by
  by_cases h66 : s.size ≤ 66
  · by_cases hw : ∃ h l, s = bw.wtx h l ∧ bw.ck h l = 0
    · have h1 := wokP_yes ⟨h66, hw⟩
      obtain ⟨h, l, rfl, hc⟩ := hw
      exact (bw.rparse_ok h l w hc).mono fun e w' hn => wx_form hn h1.symm
    · exact (bw.rparse_no s w h66 hw).mono fun e w' hn => wx_form hn (wokP_no fun h => hw h.2).symm
  · exact (bw.rlong s w (by omega) (by omega)).mono fun e w' hn => wx_form hn (wokP_no fun h => h66 h.1).symm
theorem nm_prog {x : Xt} {w : World} (hs : Std w) (hN : NmB x) : ∀ y ∈ x.list, NmOk wokP w y := fun y hy =>
  ⟨fun _ => Lib.hid fun W _ => parse_ok y.nm W (hN y hy), fun _ => Lib.hid fun W hb => ident_any y.nm W (hs.to hb) (hN y hy)⟩
theorem nm_ref {x : Xt} {w : World} (hN : NmB x) : ∀ y ∈ x.list, NmR wokP w y := fun y hy =>
  ⟨fun _ => Lib.hid fun W _ => rparse_ok y.nm W (hN y hy), fun _ => Lib.hid fun W _ => by
    have := rident_any y.nm W (hN y hy)
    rwa [← id_eq] at this⟩
set_option maxHeartbeats 2000000 in
set_option maxRecDepth 20000 in
theorem exprchecks_any (x : Xt) (w : World) (hs : Std w) (hX : RdX w w.heap.size x) (hN : NmB x) : Calls Tryz.prog 3 #[xV x] w (Bel (.bool true) w) := by
  have KL : Hid (∀ W, Below w.heap.size w W → Calls Tryz.prog 11 #[] W (Bel (.bool true) W)) := Lib.hid fun W h => lives_any W (hs.to h)
  have KH : Hid (∀ W, Below w.heap.size w W → Calls Tryz.prog 10 #[xV x] W (Bel (.bool (decide (500 < x.size))) W)) := Lib.hid fun W h => heavy_any x W (hX.to h)
  by_cases h5 : 500 < x.size
  · rw [decide_eq_true h5] at KH
    simp only [xV] at KH ⊢
    clear h5 hX hs hN
    go_enter Tryz.func3, Tryz.ntmps3
    go_wp2_with (first
      | (go_at_call 10; (with_reducible refine (KH.out _ ?_).mono ?_); (focus ((repeat (first | (with_reducible exact Below.refl _ _) | (with_reducible assumption) | (with_reducible exact bel_box _) | (with_reducible refine bel_step ?_ (by with_reducible assumption)) | (with_reducible refine Below.drew ?_) | (with_reducible refine below_drewN ?_ _) | (with_reducible refine bel_alloc ?_ _))); done)); rintro e w1 ⟨rfl, hb1⟩)
      | (go_at_call 11; (with_reducible refine (KL.out _ ?_).mono ?_); (focus ((repeat (first | (with_reducible exact Below.refl _ _) | (with_reducible assumption) | (with_reducible exact bel_box _) | (with_reducible refine bel_step ?_ (by with_reducible assumption)) | (with_reducible refine Below.drew ?_) | (with_reducible refine below_drewN ?_ _) | (with_reducible refine bel_alloc ?_ _))); done)); rintro e w2 ⟨rfl, hb2⟩))
    go_ret
    exact ⟨rfl, (by repeat (first | (with_reducible exact Below.refl _ _) | (with_reducible assumption) | (with_reducible exact bel_box _) | (with_reducible refine bel_step ?_ (by with_reducible assumption)) | (with_reducible refine Below.drew ?_) | (with_reducible refine below_drewN ?_ _) | (with_reducible refine bel_alloc ?_ _)))⟩
  rw [decide_eq_false h5] at KH
  have K1 : Hid (∀ W, Below w.heap.size w W → Calls Tryz.prog 12 #[xV x] W (Bel (.int .i64 (chkAll wokP x)) W)) := Lib.hid fun W h => check_any wokP x W (hX.to h) (nm_prog (hs.to h) hN)
  have K2 : Hid (∀ W, Below w.heap.size w W → Calls Tryz.prog 13 #[xV x] W (Bel (.int .i64 (chkAll wokP x)) W)) := Lib.hid fun W h => rcheck_any wokP x W (hX.to h) (by omega) (nm_ref hN)
  generalize chkAll wokP x = n1 at K1 K2
  simp only [xV] at K1 K2 KH ⊢
  clear hX hs hN h5
  go_enter Tryz.func3, Tryz.ntmps3
  go_wp2_with (go_at_call 10; (with_reducible refine (KH.out _ ?_).mono ?_); (focus ((repeat (first | (with_reducible exact Below.refl _ _) | (with_reducible assumption) | (with_reducible exact bel_box _) | (with_reducible refine bel_step ?_ (by with_reducible assumption)) | (with_reducible refine Below.drew ?_) | (with_reducible refine below_drewN ?_ _) | (with_reducible refine bel_alloc ?_ _))); done)); rintro e w1 ⟨rfl, hv1⟩)
  obtain ⟨b0, b1, b2, b3, b4, b5, _⟩ := bxW_cells (w := w) (x := x) (W := w1) hv1
  have hB1 := bxW_below (w := w) (x := x) hv1
  have k0 := cell_regrown b0
  have k1 := cell_regrown b1
  have k2 := cell_regrown b2
  have k3 := cell_regrown b3
  have k4 := cell_regrown b4
  have k5 := cell_regrown b5
  have c1 := fun dd os => Calls.regrown_of (K1.out (grow (redrawn w1 dd) os) (hB1.trans ((below_regrown w1 dd os).mono hB1.size)))
  have c2 := fun dd os => Calls.regrown_of (K2.out (grow (redrawn w1 dd) os) (hB1.trans ((below_regrown w1 dd os).mono hB1.size)))
  have c3 := fun dd os => Calls.regrown_of (KL.out (grow (redrawn w1 dd) os) (hB1.trans ((below_regrown w1 dd os).mono hB1.size)))
  refine wp_region_quiet_below (by kernel_rfl) (by kernel_rfl) ?_
  repeat (quiet_step (first | with_reducible exact c1 _ _ | with_reducible exact c2 _ _ | with_reducible exact c3 _ _))
  refine wpQuiet_nil ?_
  intro _ hw'
  obtain ⟨⟨dq, osq⟩, hw''⟩ := hw'
  subst hw''
  go_wp2
  go_ret
  exact ⟨rfl, hB1.trans ((below_regrown w1 dq osq).mono hB1.size)⟩
end Go.Proofs.YtfogkcccjemloaaGreatDoor
/- The walk of ExprParts. -/
namespace Go.Proofs.YtfogkcccjemloaaGreatDoor
set_option linter.unusedVariables false
set_option linter.unusedSimpArgs false
open Go.RowKit Go.Sort
theorem firstE_zero {f : Xt → Int} : ∀ {l : List Xt}, firstE f l = 0 → ∀ y ∈ l, f y = 0
  | [], _, _, h => by cases h
  | a :: l, h, y, hy => by
    rw [firstE] at h
    by_cases ha : f a = 0
    · rw [if_pos ha] at h
      rcases List.mem_cons.1 hy with rfl | hy
      · exact ha
      · exact firstE_zero h y hy
    · rw [if_neg ha] at h
      exact absurd h ha
theorem chk_zero {wok : ByteArray → Bool} {x : Xt} (h : chkAll wok x = 0) : x.size ≤ 400 ∧ x.depth ≤ 32 ∧ ∀ y ∈ x.list, chk1 wok y = 0 := by
  unfold chkAll at h
  by_cases hc : 400 < x.size ∨ 32 < x.depth
  · rw [if_pos hc] at h; cases h
  · rw [if_neg hc] at h
    exact ⟨by omega, by omega, firstE_zero h⟩
theorem kid_list {x a : Xt} (ha : a ∈ x.ar) : ∀ y ∈ a.list, y ∈ x.list := fun y hy => by
  rw [Xt.list_eq]
  exact List.mem_cons.2 (.inr (List.mem_flatten.2 ⟨_, List.mem_map_of_mem ha, hy⟩))
theorem kid_size {x a : Xt} (ha : a ∈ x.ar) : a.size < x.size := by
  obtain ⟨j, hj⟩ := List.getElem?_of_mem ha
  obtain ⟨F, hF, _, _, HN, HL⟩ := parts_sum x
  have := HN.out j a hj
  have := HL.out (j + 1)
  omega
theorem max_mem {l : List Nat} {n m : Nat} (h : m ∈ l) : m ≤ l.foldl max n := by
  induction l generalizing n with
  | nil => cases h
  | cons a l ih =>
    rw [List.foldl_cons]
    rcases List.mem_cons.1 h with rfl | h
    · have : ∀ (l : List Nat) k, k ≤ l.foldl max k := by
        intro l
        induction l with
        | nil => intro k; exact Nat.le_refl _
        | cons b l ih => intro k; rw [List.foldl_cons]; exact Nat.le_trans (Nat.le_max_left _ _) (ih _)
      exact Nat.le_trans (Nat.le_max_right _ _) (this _ _)
    · exact ih h
theorem kid_depth {x a : Xt} (ha : a ∈ x.ar) : a.depth < x.depth := by
  rw [Xt.depth_eq x]
  have := max_mem (n := 0) (List.mem_map_of_mem (f := Xt.depth) ha)
  omega
theorem kid_chk {wok : ByteArray → Bool} {x a : Xt} (h : chkAll wok x = 0) (ha : a ∈ x.ar) : chkAll wok a = 0 := by
  obtain ⟨h1, h2, h3⟩ := chk_zero h
  have h4 := kid_size ha
  have h5 := kid_depth ha
  rw [chkAll, if_neg (by omega)]
  exact firstE_ok fun y hy => h3 y (kid_list ha y hy)
theorem chk1_zero {wok : ByteArray → Bool} {y : Xt} (h : chk1 wok y = 0) : (hasIdn y.k = true → idP y.nm = true) ∧ (y.k = 11 → wok y.nm = true) := by
  unfold chk1 at h
  by_cases h1 : 64 < y.ar.length
  · rw [if_pos h1] at h; cases h
  rw [if_neg h1] at h
  by_cases h2 : (formedP y.k y.op y.t y.v y.ar.length (wok y.nm) && onlyP y.k y.op y.t y.v (y.nm.toList == [])) = false
  · rw [if_pos h2] at h; cases h
  rw [if_neg h2] at h
  by_cases h3 : (hasIdn y.k && !idP y.nm) = true
  · rw [if_pos h3] at h; cases h
  refine ⟨fun hi => ?_, fun hk => ?_⟩
  · rw [hi, Bool.true_and] at h3
    simpa using h3
  · rw [Bool.not_eq_false, Bool.and_eq_true] at h2
    have h4 := h2.1
    rw [hk] at h4
    simp [formedP] at h4
    exact h4.2
set_option maxHeartbeats 4000000 in
set_option maxRecDepth 20000 in
theorem exprparts_any (x : Xt) (w : World) (hs : Std w) (hX : RdX w w.heap.size x) (hN : NmB x) : Calls Tryz.prog 9 #[xV x] w (Bel (.bool true) w) := by
  have KL : Hid (∀ W, Below w.heap.size w W → Calls Tryz.prog 11 #[] W (Bel (.bool true) W)) := Lib.hid fun W h => lives_any W (hs.to h)
  have KH : Hid (∀ W, Below w.heap.size w W → Calls Tryz.prog 10 #[xV x] W (Bel (.bool (decide (500 < x.size))) W)) := Lib.hid fun W h => heavy_any x W (hX.to h)
  by_cases h5 : 500 < x.size
  · rw [decide_eq_true h5] at KH
    simp only [xV] at KH ⊢
    clear h5 hX hs hN
    go_enter Tryz.func9, Tryz.ntmps9
    go_wp2_with (first
      | (go_at_call 10; (with_reducible refine (KH.out _ ?_).mono ?_); (focus ((repeat (first | (with_reducible exact Below.refl _ _) | (with_reducible assumption) | (with_reducible exact bel_box _) | (with_reducible refine bel_step ?_ (by with_reducible assumption)) | (with_reducible refine Below.drew ?_) | (with_reducible refine below_drewN ?_ _) | (with_reducible refine bel_alloc ?_ _))); done)); rintro e w1 ⟨rfl, hb1⟩)
      | (go_at_call 11; (with_reducible refine (KL.out _ ?_).mono ?_); (focus ((repeat (first | (with_reducible exact Below.refl _ _) | (with_reducible assumption) | (with_reducible exact bel_box _) | (with_reducible refine bel_step ?_ (by with_reducible assumption)) | (with_reducible refine Below.drew ?_) | (with_reducible refine below_drewN ?_ _) | (with_reducible refine bel_alloc ?_ _))); done)); rintro e w2 ⟨rfl, hb2⟩))
    go_ret
    exact ⟨rfl, (by repeat (first | (with_reducible exact Below.refl _ _) | (with_reducible assumption) | (with_reducible exact bel_box _) | (with_reducible refine bel_step ?_ (by with_reducible assumption)) | (with_reducible refine Below.drew ?_) | (with_reducible refine below_drewN ?_ _) | (with_reducible refine bel_alloc ?_ _)))⟩
  rw [decide_eq_false h5] at KH
  have K1 : Hid (∀ W, Below w.heap.size w W → Calls Tryz.prog 12 #[xV x] W (Bel (.int .i64 (chkAll wokP x)) W)) := Lib.hid fun W h => check_any wokP x W (hX.to h) (nm_prog (hs.to h) hN)
  by_cases hz : chkAll wokP x = 0
  · have h9 := hX.len.1
    unfold maxLen at h9
    obtain ⟨z1, z2, z3⟩ := chk_zero hz
    rw [hz] at K1
    have KA : Hid (∀ a ∈ x.ar, ∀ W, RdX W W.heap.size a → Std W → Calls Tryz.prog 12 #[xV a] W (Bel (.int .i64 0) W)) := Lib.hid fun a ha W h hst => by
      have := check_any wokP a W h (nm_prog hst (hN.kid ha))
      rwa [kid_chk hz ha] at this
    have KLi : Hid (∀ W, Below w.heap.size w W → Calls Tryz.prog 33 #[xV x] W (NewX x.list W)) := Lib.hid fun W h => rList_any x W (hX.to h) (by omega)
    have hll := list_length x
    have HY : Hid (∀ y ∈ x.list, y.nm.size ≤ 140737488351232 ∧ (hasIdn y.k = true → idP y.nm = true) ∧ (y.k = 11 → wokP y.nm = true)) := Lib.hid fun y hy => ⟨hN y hy, chk1_zero (z3 y hy)⟩
    have hl4 : x.list.length ≤ 400 := by omega
    generalize x.list = l at KLi HY hl4
    have HS := Lib.hid hs
    have HX := Lib.hid hX
    simp only [xV] at KA K1 KH KLi ⊢
    clear hX hs hN h5 hz z1 z2 z3 hll
    go_enter Tryz.func9, Tryz.ntmps9
    go_wp2_with (first
      | (go_at_call 10; (with_reducible refine (KH.out _ ?_).mono ?_); (focus ((repeat (first | (with_reducible exact Below.refl _ _) | (with_reducible assumption) | (with_reducible exact bel_box _) | (with_reducible refine bel_step ?_ (by with_reducible assumption)) | (with_reducible refine Below.drew ?_) | (with_reducible refine below_drewN ?_ _) | (with_reducible refine bel_alloc ?_ _))); done)); rintro e w1 ⟨rfl, hb1⟩; obtain ⟨b0, b1, b2, b3, b4, b5, _⟩ := bxW_cells (w := w) (x := x) (W := w1) (by repeat (first | (with_reducible exact Below.refl _ _) | (with_reducible assumption) | (with_reducible exact bel_box _) | (with_reducible refine bel_step ?_ (by with_reducible assumption)) | (with_reducible refine Below.drew ?_) | (with_reducible refine below_drewN ?_ _) | (with_reducible refine bel_alloc ?_ _))))
      | (go_at_call 12; (with_reducible refine (K1.out _ ?_).mono ?_); (focus ((repeat (first | (with_reducible exact Below.refl _ _) | (with_reducible assumption) | (with_reducible exact bel_box _) | (with_reducible refine bel_step ?_ (by with_reducible assumption)) | (with_reducible refine Below.drew ?_) | (with_reducible refine below_drewN ?_ _) | (with_reducible refine bel_alloc ?_ _))); done)); rintro e w2 ⟨rfl, hb2⟩))
    have HV2 : Hid (Below (bxW w x).heap.size (bxW w x) w2) := Lib.hid (by repeat (first | (with_reducible exact Below.refl _ _) | (with_reducible assumption) | (with_reducible exact bel_box _) | (with_reducible refine bel_step ?_ (by with_reducible assumption)) | (with_reducible refine Below.drew ?_) | (with_reducible refine below_drewN ?_ _) | (with_reducible refine bel_alloc ?_ _)))
    clear b0 b1 b2 b3 b4 b5 hb1 hb2 KH K1
    go_loopw [3] (fun i wr => ∃ k : Nat, k ≤ x.ar.length ∧ i = .int .i64 (k : Int) ∧ Below w2.heap.size w2 wr) (fun i _ => x.ar.length - (intOf i).toNat)
    case atStart => exact ⟨0, by omega, rfl, Below.refl _ _⟩
    case round =>
      obtain ⟨k, hk, rfl, hbl⟩ := hrel
      have HVR : Hid (Below (bxW w x).heap.size (bxW w x) wr) := Lib.hid (HV2.out.trans (hbl.mono HV2.out.size))
      obtain ⟨b0, b1, b2, b3, b4, b5, _⟩ := bxW_cells (w := w) (x := x) (W := wr) HVR.out
      have HBR := Lib.hid (bxW_below HVR.out)
      by_cases hlt : k < x.ar.length
      · obtain ⟨ad, y, hA, had, hy, hm, ⟨c0, c1, c2, c3, c4, c5⟩, hr⟩ := (HX.out.to HBR.out).at_ hlt
        rw [hA] at b5
        have KC : Hid (∀ W, Below wr.heap.size wr W → Calls Tryz.prog 12 #[.agg #[.int .i64 y.k, .int .i64 y.op, .int .i64 y.t, .int .i64 y.v, .string y.nm, .slice y.A y.ar.length y.c]] W (Bel (.int .i64 0) W)) := Lib.hid fun W h => KA.out y hm W (hr.to h) (HS.out.to (HBR.out.trans (h.mono HBR.out.size)))
        clear hA hy hm hr KA
        go_wp2_with (go_at_call 12; (with_reducible refine (KC.out _ ?_).mono ?_); (focus ((repeat (first | (with_reducible exact Below.refl _ _) | (with_reducible assumption) | (with_reducible exact bel_box _) | (with_reducible refine bel_step ?_ (by with_reducible assumption)) | (with_reducible refine Below.drew ?_) | (with_reducible refine below_drewN ?_ _) | (with_reducible refine bel_alloc ?_ _))); done)); rintro e w3 ⟨rfl, hb3⟩)
        exact ⟨⟨k + 1, by omega, by congr 1, (by repeat (first | (with_reducible exact Below.refl _ _) | (with_reducible assumption) | (with_reducible exact bel_box _) | (with_reducible refine bel_step ?_ (by with_reducible assumption)) | (with_reducible refine Below.drew ?_) | (with_reducible refine below_drewN ?_ _) | (with_reducible refine bel_alloc ?_ _)))⟩, by simp [intOf]; omega⟩
      · obtain rfl : k = x.ar.length := by omega
        have u4 : (l.length : Int) ≤ 400 := by omega
        clear KA
        go_wp2_with (go_at_call 33; (with_reducible refine (KLi.out _ ?_).mono ?_); (focus (exact HBR.out; done)); rintro e w4 ⟨A, c, rfl, hR, hb4⟩)
        have HB4 : Hid (Below w.heap.size w w4) := Lib.hid (HBR.out.trans (hb4.mono HBR.out.size))
        clear b0 b1 b2 b3 b4 b5 hb4 hbl KLi
        clear HVR HV2
        go_loopw [5] (fun i wr => ∃ k : Nat, k ≤ l.length ∧ i = .int .i64 (k : Int) ∧ Below w4.heap.size w4 wr) (fun i _ => l.length - (intOf i).toNat)
        case atStart => exact ⟨0, by omega, rfl, Below.refl _ _⟩
        case round =>
          obtain ⟨k, hk, rfl, hbl⟩ := hrel
          have HBR2 : Hid (Below w.heap.size w wr) := Lib.hid (HB4.out.trans (hbl.mono HB4.out.size))
          by_cases hlt2 : k < l.length
          · obtain ⟨ad, y, rfl, had, hy, hm, ⟨c0, c1, c2, c3, c4, c5⟩⟩ := (hR.to hbl).at_ hlt2
            obtain ⟨hy1, hy2, hy3⟩ := HY.out y hm
            have KN := Lib.hid (fun W => named_any y.k W)
            have KP := Lib.hid (fun W => parse_ok y.nm W hy1)
            have HC : Hid (∀ W, Below wr.heap.size wr W → XC W (ad.add (k * 6)) y) := Lib.hid fun W h => (show XC wr (ad.add (k * 6)) y from ⟨c0, c1, c2, c3, c4, c5⟩).keep fun p hp => h.cell (by rw [hp, add_block]; exact had)
            have HK : Hid (∀ er : Int, (er == 0) = wokP y.nm → (y.k = 11 → (er != 0) = false) ∧ True) := Lib.hid fun er h => ⟨fun hk => by rw [hy3 hk] at h; simpa using h, trivial⟩
            have KI' : hasIdn y.k = true → Hid (∀ W, Below wr.heap.size wr W → Calls Tryz.prog 35 #[.string y.nm] W (Bel (.bool true) W)) := fun hi => Lib.hid fun W h => by
              have := ident_any y.nm W (HS.out.to (HBR2.out.trans (h.mono HBR2.out.size))) hy1
              rwa [hy2 hi] at this
            clear hy hm hy1 hy2 hy3 HY hR
            cases hbn : hasIdn y.k
            · rw [hbn] at KN
              clear KI'
              by_cases hk11 : y.k = 11
              · have HK2 : Hid (∀ er : Int, (er == 0) = wokP y.nm → (er != 0) = false) := Lib.hid fun er h => (HK.out er h).1 hk11
                have q11 : (y.k == 11) = true := by rw [hk11]; rfl
                clear hk11 hbn HK
                go_wp2_with (first
                  | (go_at_call 34; (with_reducible refine (KN.out _).mono ?_); rintro e w5 ⟨rfl, hb5⟩; obtain ⟨e0, e1, e2, e3, e4, e5⟩ := HC.out w5 (by repeat (first | (with_reducible exact Below.refl _ _) | (with_reducible assumption) | (with_reducible exact bel_box _) | (with_reducible refine bel_step ?_ (by with_reducible assumption)) | (with_reducible refine Below.drew ?_) | (with_reducible refine below_drewN ?_ _) | (with_reducible refine bel_alloc ?_ _))))
                  | (go_at_call 36; (with_reducible refine (KP.out _).mono ?_); rintro e w7 ⟨A1, A2, n1, c1', n2, c2', er, rfl, her, hb7⟩; obtain ⟨m0, m1, m2, m3, m4, m5⟩ := HC.out w7 (by repeat (first | (with_reducible exact Below.refl _ _) | (with_reducible assumption) | (with_reducible exact bel_box _) | (with_reducible refine bel_step ?_ (by with_reducible assumption)) | (with_reducible refine Below.drew ?_) | (with_reducible refine below_drewN ?_ _) | (with_reducible refine bel_alloc ?_ _))); have m0' := fun o => cell_al o m0; have qe := HK2.out er her; clear her))
                exact ⟨⟨k + 1, by omega, by congr 1, (by repeat (first | (with_reducible exact Below.refl _ _) | (with_reducible assumption) | (with_reducible exact bel_box _) | (with_reducible refine bel_step ?_ (by with_reducible assumption)) | (with_reducible refine Below.drew ?_) | (with_reducible refine below_drewN ?_ _) | (with_reducible refine bel_alloc ?_ _)))⟩, by simp [intOf]; omega⟩
              · have q11 : (y.k == 11) = false := by simpa using hk11
                clear hk11 hbn HK
                go_wp2_with (first
                  | (go_at_call 34; (with_reducible refine (KN.out _).mono ?_); rintro e w5 ⟨rfl, hb5⟩; obtain ⟨e0, e1, e2, e3, e4, e5⟩ := HC.out w5 (by repeat (first | (with_reducible exact Below.refl _ _) | (with_reducible assumption) | (with_reducible exact bel_box _) | (with_reducible refine bel_step ?_ (by with_reducible assumption)) | (with_reducible refine Below.drew ?_) | (with_reducible refine below_drewN ?_ _) | (with_reducible refine bel_alloc ?_ _))))
                  | (go_at_call 36; (with_reducible refine (KP.out _).mono ?_); rintro e w7 ⟨A1, A2, n1, c1', n2, c2', er, rfl, her, hb7⟩; obtain ⟨m0, m1, m2, m3, m4, m5⟩ := HC.out w7 (by repeat (first | (with_reducible exact Below.refl _ _) | (with_reducible assumption) | (with_reducible exact bel_box _) | (with_reducible refine bel_step ?_ (by with_reducible assumption)) | (with_reducible refine Below.drew ?_) | (with_reducible refine below_drewN ?_ _) | (with_reducible refine bel_alloc ?_ _))); have m0' := fun o => cell_al o m0; clear her))
                exact ⟨⟨k + 1, by omega, by congr 1, (by repeat (first | (with_reducible exact Below.refl _ _) | (with_reducible assumption) | (with_reducible exact bel_box _) | (with_reducible refine bel_step ?_ (by with_reducible assumption)) | (with_reducible refine Below.drew ?_) | (with_reducible refine below_drewN ?_ _) | (with_reducible refine bel_alloc ?_ _)))⟩, by simp [intOf]; omega⟩
            · rw [hbn] at KN
              have KI := KI' hbn
              have q11 : (y.k == 11) = false := by
                rw [beq_eq_false_iff_ne]
                intro e
                rw [e] at hbn
                cases hbn
              clear KI' hbn HK
              go_wp2_with (first
                | (go_at_call 34; (with_reducible refine (KN.out _).mono ?_); rintro e w5 ⟨rfl, hb5⟩; obtain ⟨e0, e1, e2, e3, e4, e5⟩ := HC.out w5 (by repeat (first | (with_reducible exact Below.refl _ _) | (with_reducible assumption) | (with_reducible exact bel_box _) | (with_reducible refine bel_step ?_ (by with_reducible assumption)) | (with_reducible refine Below.drew ?_) | (with_reducible refine below_drewN ?_ _) | (with_reducible refine bel_alloc ?_ _))))
                | (go_at_call 35; (with_reducible refine (KI.out _ ?_).mono ?_); (focus ((repeat (first | (with_reducible exact Below.refl _ _) | (with_reducible assumption) | (with_reducible exact bel_box _) | (with_reducible refine bel_step ?_ (by with_reducible assumption)) | (with_reducible refine Below.drew ?_) | (with_reducible refine below_drewN ?_ _) | (with_reducible refine bel_alloc ?_ _))); done)); rintro e w6 ⟨rfl, hb6⟩; obtain ⟨g0, g1, g2, g3, g4, g5⟩ := HC.out w6 (by repeat (first | (with_reducible exact Below.refl _ _) | (with_reducible assumption) | (with_reducible exact bel_box _) | (with_reducible refine bel_step ?_ (by with_reducible assumption)) | (with_reducible refine Below.drew ?_) | (with_reducible refine below_drewN ?_ _) | (with_reducible refine bel_alloc ?_ _))))
                | (go_at_call 36; (with_reducible refine (KP.out _).mono ?_); rintro e w7 ⟨A1, A2, n1, c1', n2, c2', er, rfl, her, hb7⟩; obtain ⟨m0, m1, m2, m3, m4, m5⟩ := HC.out w7 (by repeat (first | (with_reducible exact Below.refl _ _) | (with_reducible assumption) | (with_reducible exact bel_box _) | (with_reducible refine bel_step ?_ (by with_reducible assumption)) | (with_reducible refine Below.drew ?_) | (with_reducible refine below_drewN ?_ _) | (with_reducible refine bel_alloc ?_ _))); have m0' := fun o => cell_al o m0; clear her))
              exact ⟨⟨k + 1, by omega, by congr 1, (by repeat (first | (with_reducible exact Below.refl _ _) | (with_reducible assumption) | (with_reducible exact bel_box _) | (with_reducible refine bel_step ?_ (by with_reducible assumption)) | (with_reducible refine Below.drew ?_) | (with_reducible refine below_drewN ?_ _) | (with_reducible refine bel_alloc ?_ _)))⟩, by simp [intOf]; omega⟩
          · obtain rfl : k = l.length := by omega
            clear hR HY
            go_wp2_with (go_at_call 11; (with_reducible refine (KL.out _ ?_).mono ?_); (focus (exact HBR2.out; done)); rintro e w8 ⟨rfl, hb8⟩)
            go_ret
            exact ⟨rfl, HBR2.out.trans (Below.mono hb8 HBR2.out.size)⟩
  · obtain ⟨n1, hn1⟩ : ∃ n1, chkAll wokP x = n1 := ⟨_, rfl⟩
    rw [hn1] at K1 hz
    have q : (n1 != 0) = true := by simpa using hz
    simp only [xV] at K1 KH ⊢
    clear hX hs hN h5 hn1 hz
    go_enter Tryz.func9, Tryz.ntmps9
    go_wp2_with (first
      | (go_at_call 10; (with_reducible refine (KH.out _ ?_).mono ?_); (focus ((repeat (first | (with_reducible exact Below.refl _ _) | (with_reducible assumption) | (with_reducible exact bel_box _) | (with_reducible refine bel_step ?_ (by with_reducible assumption)) | (with_reducible refine Below.drew ?_) | (with_reducible refine below_drewN ?_ _) | (with_reducible refine bel_alloc ?_ _))); done)); rintro e w1 ⟨rfl, hb1⟩; obtain ⟨b0, b1, b2, b3, b4, b5, _⟩ := bxW_cells (w := w) (x := x) (W := w1) (by repeat (first | (with_reducible exact Below.refl _ _) | (with_reducible assumption) | (with_reducible exact bel_box _) | (with_reducible refine bel_step ?_ (by with_reducible assumption)) | (with_reducible refine Below.drew ?_) | (with_reducible refine below_drewN ?_ _) | (with_reducible refine bel_alloc ?_ _))))
      | (go_at_call 12; (with_reducible refine (K1.out _ ?_).mono ?_); (focus ((repeat (first | (with_reducible exact Below.refl _ _) | (with_reducible assumption) | (with_reducible exact bel_box _) | (with_reducible refine bel_step ?_ (by with_reducible assumption)) | (with_reducible refine Below.drew ?_) | (with_reducible refine below_drewN ?_ _) | (with_reducible refine bel_alloc ?_ _))); done)); rintro e w2 ⟨rfl, hb2⟩)
      | (go_at_call 11; (with_reducible refine (KL.out _ ?_).mono ?_); (focus ((repeat (first | (with_reducible exact Below.refl _ _) | (with_reducible assumption) | (with_reducible exact bel_box _) | (with_reducible refine bel_step ?_ (by with_reducible assumption)) | (with_reducible refine Below.drew ?_) | (with_reducible refine below_drewN ?_ _) | (with_reducible refine bel_alloc ?_ _))); done)); rintro e w3 ⟨rfl, hb3⟩))
    go_ret
    exact ⟨rfl, (by repeat (first | (with_reducible exact Below.refl _ _) | (with_reducible assumption) | (with_reducible exact bel_box _) | (with_reducible refine bel_step ?_ (by with_reducible assumption)) | (with_reducible refine Below.drew ?_) | (with_reducible refine below_drewN ?_ _) | (with_reducible refine bel_alloc ?_ _)))⟩
end Go.Proofs.YtfogkcccjemloaaGreatDoor
/- The frame of the rows of layer 6: what the listed variables give; an argument that is an expression. -/
namespace Go.Proofs.YtfogkcccjemloaaGreatDoor
set_option linter.unusedVariables false
set_option linter.unusedSimpArgs false
open Go.ChangeShapes Go.WideShapes Go.ChangeAt Go.RowKit Go.Deep Go.WideElems
def laidL : List (String × DataW Unit) := [("math/bits.deBruijn32tab", Rows.laid_math_bits_deBruijn32tab), ("math/bits.deBruijn64tab", Rows.laid_math_bits_deBruijn64tab), ("internal/strconv.uint64pow10", Rows.laid_internal_strconv_uint64pow10), ("unicode/utf8.acceptRanges", Rows.laid_unicode_utf8_acceptRanges), ("strconv.ErrRange", Rows.laid_strconv_ErrRange), ("strconv.ErrSyntax", Rows.laid_strconv_ErrSyntax), ("unicode/utf8.first", Rows.laid_unicode_utf8_first)]
theorem tyTab : (Tryz.prog.globals[5]?).map (·.type) = some 137 := by kernel_rfl
theorem tySyn : (Tryz.prog.globals[1]?).map (·.type) = some 83 := by kernel_rfl
theorem tyRng : (Tryz.prog.globals[2]?).map (·.type) = some 83 := by kernel_rfl
theorem star : "*" ++ "errors.errorString" = "*errors.errorString" := by decide
theorem rowES (u : TypeId) (h : Tryz.prog.typeName? 3 u = some "*errors.errorString") : u = 127 :=
  typeName_ptr_named (nm := "errors.errorString") (by rw [star]; kernel_rfl) (by kernel_rfl) (by decide) u (by rw [star]; exact h)
theorem std_of_laid {W : World} (h : laidMetH Tryz.prog laidL W) : Std W := by
  rw [MakeChecks.laidMetH_plain _ _ _ (by kernel_rfl)] at h
  have h3 : laidMet Tryz.prog (("internal/strconv.uint64pow10", Lib.tabData .u64 Lib.pow10Tab) :: [("unicode/utf8.acceptRanges", Rows.laid_unicode_utf8_acceptRanges), ("strconv.ErrRange", Rows.laid_strconv_ErrRange), ("strconv.ErrSyntax", Rows.laid_strconv_ErrSyntax), ("unicode/utf8.first", Rows.laid_unicode_utf8_first)]) W := h.tail.tail
  have h4 := h3.tail.tail
  have h5 := h4.tail
  refine ⟨Lib.tabIs_of_head gTab tyTab Tryz.underlying137 Tryz.underlying112 (by kernel_rfl) (by kernel_rfl) h3, ?_, ?_⟩
  · obtain ⟨a, s, hv, _⟩ := laid_sentinel h5 gSyn tySyn Tryz.underlying83 rowES Tryz.underlying127 Tryz.underlying129 rfl rfl Tryz.underlying9 (by kernel_rfl) (by kernel_rfl)
    exact ⟨_, _, hv⟩
  · obtain ⟨a, s, hv, _⟩ := laid_sentinel h4 gRng tyRng Tryz.underlying83 rowES Tryz.underlying127 Tryz.underlying129 rfl rfl Tryz.underlying9 (by kernel_rfl) (by kernel_rfl)
    exact ⟨_, _, hv⟩
theorem int_le {n : Int} (h : (Lit.int .i64 n).wf = true) : n ≤ 9223372036854775807 := by
  have h2 : n ≤ IntKind.i64.max := by simp only [Lit.wf, Bool.and_eq_true, decide_eq_true_eq] at h; exact h.2
  exact h2
theorem int_ge {n : Int} (h : (Lit.int .i64 n).wf = true) : -9223372036854775808 ≤ n := by
  have h2 : IntKind.i64.min ≤ n := by simp only [Lit.wf, Bool.and_eq_true, decide_eq_true_eq] at h; exact h.1
  exact h2
theorem u8_le {n : Int} (h : (Lit.int .u8 n).wf = true) : n ≤ 255 := by
  have h2 : n ≤ IntKind.u8.max := by simp only [Lit.wf, Bool.and_eq_true, decide_eq_true_eq] at h; exact h.2
  exact h2
theorem u8_ge {n : Int} (h : (Lit.int .u8 n).wf = true) : 0 ≤ n := by
  have h2 : IntKind.u8.min ≤ n := by simp only [Lit.wf, Bool.and_eq_true, decide_eq_true_eq] at h; exact h.1
  exact h2
section
variable {H : Type} {enc : TypeId × Value → H} {w : World} {held : Bool}
theorem array6 {cs : Array Value} (h : cs.size = 6) : ∃ a b c d e f, cs = #[a, b, c, d, e, f] := by
  rcases cs with ⟨l⟩
  match l, h with
  | [a, b, c, d, e, f], _ => exact ⟨a, b, c, d, e, f, rfl⟩
set_option maxRecDepth 100000 in
/-- an expression, opened -/
theorem open_expr {b0 : Nat} {r : Reach} {v : Value} {d : DataW H} {p : List MemPlace} (hv : Value.okWide Tryz.prog w r b0 24 v) (h : DataW.Trod enc Tryz.prog w 0 (fun _ => true) held 24 v d p) (hsz : ∀ n ∈ d.weights Tryz.prog 24, n ≤ reachBytes) :
    ∃ x : Xt, v = xV x ∧ RdX w w.heap.size x ∧ NmB x := by
  obtain ⟨cs, rfl, hs⟩ := okWide_struct Tryz.underlying24 hv
  obtain ⟨fuel, hf⟩ := h
  obtain ⟨x, hx, hR, hN⟩ := rd_expr Tryz.underlying24 (by kernel_rfl) rfl rfl rfl rfl rfl rfl (by kernel_rfl) (by kernel_rfl) (by kernel_rfl) (by kernel_rfl) (by kernel_rfl) (by kernel_rfl) Tryz.underlying3 Tryz.underlying3 Tryz.underlying3 Tryz.underlying3 Tryz.underlying9 Tryz.underlying22 fuel _ _ hf hsz
  refine ⟨x, ?_, hR, hN⟩
  have : cs.toList = _ := hx
  unfold xV
  congr 1
  exact Array.toList_inj.1 this
end
end Go.Proofs.YtfogkcccjemloaaGreatDoor
