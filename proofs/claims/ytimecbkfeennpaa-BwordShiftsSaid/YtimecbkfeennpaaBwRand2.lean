/- And of the reference. -/
import Derived.Test.YtimecbkfeennpaaBwRand
namespace Go.Proofs.Ytimecbkfeennpaa
set_option linter.unusedVariables false
set_option linter.unusedSimpArgs false
open Go.RowKit
set_option maxHeartbeats 4000000 in
theorem rand_good (A B A' B' : Option Addr) (c d c' d' : Nat) (h l h' l' : List Bool) (w : World) (hA : Rd w w.heap.size A (bls h)) (hB : Rd w w.heap.size B (bls l)) (hA' : Rd w w.heap.size A' (bls h')) (hB' : Rd w w.heap.size B' (bls l'))
    (hh : h.length ≤ 140737488355328) (hl : l.length ≤ 140737488355328) (hh' : h'.length ≤ 140737488355328) (hl' : l'.length ≤ 140737488355328) (hck : ck2 h l h' l' = 0) :
    Calls Try.prog 27 #[.agg #[.slice A h.length c, .slice B l.length d], .agg #[.slice A' h'.length c', .slice B' l'.length d']] w (NewWE (fit (andW h l h' l')) (fitE (andW h l h' l')) w) := by
  obtain ⟨i0, hi, iz, is, ib⟩ := info_parts Try.boolInfo
  have HA := Lib.hid hA
  have HB := Lib.hid hB
  have HA' := Lib.hid hA'
  have HB' := Lib.hid hB'
  have HCK := Lib.hid hck
  have hk := ck2_iff.1 hck
  have g1 := lens hk.1
  have g2 := lens hk.2
  clear hk hck hA hB hA' hB'
  have bo := Lib.hid (rboth_any A B A' B' c d c' d' h l h' l')
  obtain ⟨G, hG⟩ : ∃ G, Nat.gcd l.length l'.length = G := ⟨_, rfl⟩
  have hG0 : 0 < G := by rw [← hG]; exact Nat.gcd_pos_of_pos_left _ g1.1
  have hG1 : G ≤ 64 := by rw [← hG]; exact Nat.le_trans (Nat.gcd_le_left _ g1.1) (by omega)
  obtain ⟨q, hq⟩ : ∃ q, l.length / G = q := ⟨_, rfl⟩
  have eq : (l.length : Int) / (G : Int) = (q : Int) := by rw [← hq]; rfl
  have hq1 : q ≤ 64 := by rw [← hq]; exact Nat.le_trans (Nat.div_le_self _ _) (by omega)
  obtain ⟨P, hP⟩ : ∃ P, q * l'.length = P := ⟨_, rfl⟩
  have eP : (q : Int) * (l'.length : Int) = (P : Int) := by rw [← hP]; simp
  have hPL : lcL l l' = P := by rw [lcL, hG, hq, hP]
  have hP0 : 0 < P := by rw [← hPL]; exact lcL_pos g1.1 g2.1
  have hP1 : P ≤ 4096 := by rw [← hP]; exact Nat.le_trans (Nat.mul_le_mul hq1 (show l'.length ≤ 64 by omega)) (by decide)
  have eqt : (l.length : Int).tdiv (G : Int) = (q : Int) := by rw [← hq]; rfl
  have eG0 : ¬ ((G : Int) = 0) := by omega
  have ePw : IntKind.i64.wrap (P : Int) = (P : Int) := IntWalk.i64_in _ (by omega)
  have eqw : IntKind.i64.wrap (q : Int) = (q : Int) := IntWalk.i64_in _ (by omega)
  obtain ⟨P2, hP2⟩ : ∃ P2, P2 = 2 * P := ⟨_, rfl⟩
  have eP2 : (2 * (P : Int)) = (P2 : Int) := by omega
  have kg : Hid (∀ W, Calls Try.prog 48 #[.int .i64 (l.length : Nat), .int .i64 (l'.length : Nat)] W (Drw (.int .i64 (G : Nat)) W)) := fun W => by rw [← hG]; exact rgcd_any l.length l'.length W (by omega) (by omega)
  obtain ⟨X, Y, hXY⟩ : ∃ X Y, andW h l h' l' = (X, Y) := ⟨_, _, rfl⟩
  have hlc := and_lc (h := h) (h' := h') g1.1 g2.1
  have hpl := per_lc h l h' l'
  rw [hPL] at hlc hpl
  rw [hXY] at hlc ⊢
  have hle := nf_len hpl hP0
  rw [hlc] at hle
  simp only at hle
  have hX1 : X.length ≤ 65536 := by omega
  have hY1 : Y.length ≤ 65536 := by omega
  obtain ⟨F1, F2, hF⟩ : ∃ F1 F2, fit (X, Y) = (F1, F2) := ⟨_, _, rfl⟩
  obtain ⟨E, hE⟩ : ∃ E, fitE (X, Y) = E := ⟨_, rfl⟩
  have fi := Lib.hid (fun V U cv cu W h1 h2 h3 h4 N h5 h6 => rfits_new V U cv cu X Y W h1 h2 hX1 hY1 h3 h4 N h5 h6)
  rw [hF, hE] at fi
  rw [hF, hE]
  simp only at fi
  have HBox : Hid (∀ W, Below ((w.alloc (.cells #[.slice A h.length c, .slice B l.length d] 24)).alloc (.cells #[.slice A' h'.length c', .slice B' l'.length d'] 24) |>.alloc (.cells #[.slice none 0 0, .slice none 0 0] 24)).heap.size ((w.alloc (.cells #[.slice A h.length c, .slice B l.length d] 24)).alloc (.cells #[.slice A' h'.length c', .slice B' l'.length d'] 24) |>.alloc (.cells #[.slice none 0 0, .slice none 0 0] 24)) W →
      W.cell? ⟨w.heap.size, 0, none⟩ = some (.slice A h.length c) ∧ W.cell? ⟨w.heap.size, 1, none⟩ = some (.slice B l.length d) ∧ W.cell? ⟨w.heap.size + 1, 0, none⟩ = some (.slice A' h'.length c') ∧ W.cell? ⟨w.heap.size + 1, 1, none⟩ = some (.slice B' l'.length d')) := by
    intro W hb
    refine ⟨(hb.cell (p := ⟨w.heap.size, 0, none⟩) (by simp; omega)).trans ?_, (hb.cell (p := ⟨w.heap.size, 1, none⟩) (by simp; omega)).trans ?_, (hb.cell (p := ⟨w.heap.size + 1, 0, none⟩) (by simp)).trans ?_, (hb.cell (p := ⟨w.heap.size + 1, 1, none⟩) (by simp)).trans ?_⟩ <;> simp [go_sem]
  clear hG hq hP hXY hF hE hle
  by_cases hm : h.length < h'.length
  · have hH : (h.length : Int) < (h'.length : Int) := by omega
    rw [Nat.max_eq_right (show h.length ≤ h'.length by omega)] at hlc hpl
    obtain ⟨N, hN⟩ : ∃ N, N = h'.length + P2 := ⟨_, rfl⟩
    have eN : (h'.length : Int) + (P2 : Int) = (N : Int) := by omega
    have hN1 : N ≤ 65536 := by omega
    have sho : Hid (∀ (V : Option Addr) (cv : Nat) W, Rd W W.heap.size V (bls (fL (fun i => lt h l i && lt h' l' i) N)) → N ≤ cv → Calls Try.prog 40 #[.slice V N cv, .int .i64 (h'.length : Nat), .int .i64 (P : Nat)] W (NewW X Y W)) := fun V cv W h1 h2 => by
      have := rshortest_any V cv h'.length P N (fun i => lt h l i && lt h' l' i) W h1 (by omega) (by omega) h2 hP0 hpl
      rwa [hlc] at this
    clear hN hlc hpl hP2
    go_enter Try.func27, Try.ntmps27
    go_wp2_with (first
      | (go_at_call 47; refine (bo.out _ hh hl hh' hl').mono ?_; rintro e w1 ⟨rfl, hb1⟩; rw [HCK.out]; obtain ⟨x1, x2, x3, x4⟩ := HBox.out w1 hb1))
    go_quiet ((go_at_call 48; exact Calls.quiet_of (kg.out _)))
    go_wp2
    have hsz1 : w.heap.size + 3 ≤ w1.heap.size := by have := hb1.size; simp at this; omega
    go_loopw [9, 10] (fun v i wr => ∃ k : Nat, k ≤ N ∧ i = .int .i64 k ∧ wr.ownsRow w1.heap.size 4 1 v k (bls (fL (fun i => lt h l i && lt h' l' i) k)) ∧ Below w1.heap.size w1 wr) (fun _ i _ => N - (intOf i).toNat)
    case atStart => exact ⟨0, by omega, rfl, World.ownsRow_nil _ _ _ _, (by repeat (first | (with_reducible exact Below.refl _ _) | (with_reducible assumption) | (with_reducible exact bel_box _) | (with_reducible refine bel_step ?_ (by with_reducible assumption)) | (with_reducible refine Below.drew ?_) | (with_reducible refine below_drewN ?_ _) | (with_reducible refine bel_alloc ?_ _)))⟩
    case round =>
      obtain ⟨k, hk, rfl, hown, hbl⟩ := hrel
      have hbw : Below ((w.alloc (.cells #[.slice A h.length c, .slice B l.length d] 24)).alloc (.cells #[.slice A' h'.length c', .slice B' l'.length d'] 24) |>.alloc (.cells #[.slice none 0 0, .slice none 0 0] 24)).heap.size ((w.alloc (.cells #[.slice A h.length c, .slice B l.length d] 24)).alloc (.cells #[.slice A' h'.length c', .slice B' l'.length d'] 24) |>.alloc (.cells #[.slice none 0 0, .slice none 0 0] 24)) wr := bel_step hb1 hbl
      obtain ⟨y1, y2, y3, y4⟩ := HBox.out wr hbw
      have HOW := Lib.hid hown
      clear hown
      by_cases hlt : k < N
      · obtain ⟨x, hx⟩ : ∃ x, lt h l k = x := ⟨_, rfl⟩
        obtain ⟨y, hy⟩ : ∃ y, lt h' l' k = y := ⟨_, rfl⟩
        have HX := Lib.hid hx
        have HY := Lib.hid hy
        have hset := fL_succ (fun i => lt h l i && lt h' l' i) k
        simp only [hx, hy] at hset
        have HSET := Lib.hid hset
        clear hx hy hset
        cases x
        all_goals
          go_wp2_with (first
            | (go_at_call_of 35 (Value.agg #[Value.slice A h.length c, Value.slice B l.length d]); refine (rletter_any A B c d k h l _ (HA.out.to ?_) (HB.out.to ?_) g1.1 hh hl (by omega)).mono ?_; (focus ((repeat (first | (with_reducible exact Below.refl _ _) | (with_reducible assumption) | (with_reducible exact bel_box _) | (with_reducible refine bel_step ?_ (by with_reducible assumption)) | (with_reducible refine Below.drew ?_) | (with_reducible refine below_drewN ?_ _) | (with_reducible refine bel_alloc ?_ _))); done)); (focus ((repeat (first | (with_reducible exact Below.refl _ _) | (with_reducible assumption) | (with_reducible exact bel_box _) | (with_reducible refine bel_step ?_ (by with_reducible assumption)) | (with_reducible refine Below.drew ?_) | (with_reducible refine below_drewN ?_ _) | (with_reducible refine bel_alloc ?_ _))); done)); rintro e w3 ⟨rfl, hb3⟩; rw [HX.out]; obtain ⟨z1, z2, z3, z4⟩ := HBox.out w3 (bel_step hbw hb3); have HO3 := Lib.hid (own_keep HOW.out hb3); have hsz3 : w1.heap.size ≤ w3.heap.size := Nat.le_trans hbl.size hb3.size)
            | (go_at_call 35; refine (rletter_any A' B' c' d' k h' l' _ (HA'.out.to ?_) (HB'.out.to ?_) g2.1 hh' hl' (by omega)).mono ?_; (focus ((repeat (first | (with_reducible exact Below.refl _ _) | (with_reducible assumption) | (with_reducible exact bel_box _) | (with_reducible refine bel_step ?_ (by with_reducible assumption)) | (with_reducible refine Below.drew ?_) | (with_reducible refine below_drewN ?_ _) | (with_reducible refine bel_alloc ?_ _))); done)); (focus ((repeat (first | (with_reducible exact Below.refl _ _) | (with_reducible assumption) | (with_reducible exact bel_box _) | (with_reducible refine bel_step ?_ (by with_reducible assumption)) | (with_reducible refine Below.drew ?_) | (with_reducible refine below_drewN ?_ _) | (with_reducible refine bel_alloc ?_ _))); done)); rintro e w4 ⟨rfl, hb4⟩; rw [HY.out]; have HO4 := Lib.hid (own_keep HO3.out hb4); have hsz4 : w1.heap.size ≤ w4.heap.size := Nat.le_trans hsz3 hb4.size)
            | (at_builtin; refine wpList_append_rd _ rfl _ _ 22 rfl w1.heap.size 4 i0 (.bool false) 1 Try.underlying22 hi iz is ib rfl _ k (bls (fL (fun i => lt h l i && lt h' l' i) k)) rfl (HO4.out.alloc _) (w4.heap.size + 1) _ 1 1 _ rfl rfl (Rd.one_new _ _ _) (one_cell_bool _) (by unfold maxLen; omega) (by omega) (by simp; omega) ?_; intro v1 w5 hown1 hgrow1 hat1)
            | (at_builtin; refine wpList_append_rd _ rfl _ _ 22 rfl w1.heap.size 4 i0 (.bool false) 1 Try.underlying22 hi iz is ib rfl _ k (bls (fL (fun i => lt h l i && lt h' l' i) k)) rfl (HO3.out.alloc _) (w3.heap.size + 1) _ 1 1 _ rfl rfl (Rd.one_new _ _ _) (one_cell_bool _) (by unfold maxLen; omega) (by omega) (by simp; omega) ?_; intro v1 w5 hown1 hgrow1 hat1))
        · have hb5 := grow_one hsz3 HO3.out hgrow1
          have hs5 : bls (fL (fun i => lt h l i && lt h' l' i) (k + 1)) = bls (fL (fun i => lt h l i && lt h' l' i) k) ++ [.bool false] := by rw [HSET.out, bls_snoc]; rfl
          rw [← hs5] at hown1
          go_roundw
          case rel => exact ⟨k + 1, by omega, by go_num, hown1, hbl.trans ((hb3.mono hbl.size).trans hb5)⟩
          case measure => simp [intOf]; omega
        · have hb5 := grow_one hsz4 HO4.out hgrow1
          have hs5 : bls (fL (fun i => lt h l i && lt h' l' i) (k + 1)) = bls (fL (fun i => lt h l i && lt h' l' i) k) ++ [.bool y] := by rw [HSET.out, bls_snoc]; simp
          rw [← hs5] at hown1
          go_roundw
          case rel => exact ⟨k + 1, by omega, by go_num, hown1, hbl.trans ((hb3.mono hbl.size).trans ((hb4.mono hsz3).trans hb5))⟩
          case measure => simp [intOf]; omega
      · obtain rfl : k = N := by omega
        have hr0 : wr.cell? ⟨w.heap.size + 2, 0, none⟩ = some (.slice none 0 0) := (hbw.cell (p := ⟨w.heap.size + 2, 0, none⟩) (by simp)).trans (by simp [go_sem])
        have hr1 : wr.cell? ⟨w.heap.size + 2, 1, none⟩ = some (.slice none 0 0) := (hbw.cell (p := ⟨w.heap.size + 2, 1, none⟩) (by simp)).trans (by simp [go_sem])
        have hr3 : wr.frozen? ⟨w.heap.size + 2, 0, none⟩ = false := (hbw.frozen (p := ⟨w.heap.size + 2, 0, none⟩) (by simp)).trans (by simp [go_sem])
        have hr4 : wr.frozen? ⟨w.heap.size + 2, 1, none⟩ = false := (hbw.frozen (p := ⟨w.heap.size + 2, 1, none⟩) (by simp)).trans (by simp [go_sem])
        have hres := res4_of hr0 hr1 hr3 hr4
        clear hr0 hr1 hr3 hr4
        obtain ⟨VL, cvl, hvl⟩ := own_form HOW.out
        subst hvl
        have hRL := Lib.hid (Rd.of_own HOW.out)
        have hcl : k ≤ cvl := own_cap HOW.out
        have hsz4 : w.heap.size + 3 ≤ wr.heap.size := Nat.le_trans hsz1 hbl.size
        go_wp2_with (first
          | (go_at_call 40; refine (sho.out _ _ _ (hto hRL ?_) hcl).mono ?_; (focus ((repeat (first | (with_reducible exact Below.refl _ _) | (with_reducible assumption) | (with_reducible exact bel_box _) | (with_reducible refine bel_step ?_ (by with_reducible assumption)) | (with_reducible refine Below.drew ?_) | (with_reducible refine below_drewN ?_ _) | (with_reducible refine bel_alloc ?_ _))); done)); rintro e w6 ⟨V1, V2, cv1, cv2, rfl, hR1, hR2, hv1, hv2, hb6, hn1, hn2⟩; have HR1 := Lib.hid hR1; have HR2 := Lib.hid hR2; clear hR1 hR2)
          | (go_at_call 49; go_loud (refine (fi.out _ _ _ _ _ (hto HR1 ?_) (hto HR2 ?_) hv1 hv2 (w.heap.size + 3) (hn1.mono hsz4) (hn2.mono hsz4)).mono ?_; (focus ((repeat (first | (with_reducible exact Below.refl _ _) | (with_reducible assumption) | (with_reducible exact bel_box _) | (with_reducible refine bel_step ?_ (by with_reducible assumption)) | (with_reducible refine Below.drew ?_) | (with_reducible refine below_drewN ?_ _) | (with_reducible refine bel_alloc ?_ _))); done)); (focus ((repeat (first | (with_reducible exact Below.refl _ _) | (with_reducible assumption) | (with_reducible exact bel_box _) | (with_reducible refine bel_step ?_ (by with_reducible assumption)) | (with_reducible refine Below.drew ?_) | (with_reducible refine below_drewN ?_ _) | (with_reducible refine bel_alloc ?_ _))); done)); rintro e w7 ⟨V3, V4, cv3, cv4, rfl, hR3, hR4, hv3, hv4, hb7, hn3, hn4⟩; have HR3 := Lib.hid hR3; have HR4 := Lib.hid hR4; clear hR3 hR4; have hw7 := res4_below (W' := w7) hres (by repeat (first | (with_reducible exact Below.refl _ _) | (with_reducible assumption) | (with_reducible exact bel_box _) | (with_reducible refine bel_step ?_ (by with_reducible assumption)) | (with_reducible refine Below.drew ?_) | (with_reducible refine below_drewN ?_ _) | (with_reducible refine bel_alloc ?_ _))); obtain ⟨z1, z2, z3, z4⟩ := id hw7)))
        obtain ⟨k0, k1⟩ := set2_cells hw7.1 hw7.2.1 (.slice V3 F1.length cv3) (.slice V4 F2.length cv4)
        refine bodyPost_ret (v := .tuple #[.agg #[.slice V3 F1.length cv3, .slice V4 F2.length cv4], .int .i64 E]) (by simp [results, Try.results27, go_sem, k0, k1]) rfl ?_
        exact ⟨V3, V4, cv3, cv4, rfl, HR3.out.set2_lo hn3 (by omega) _ _, HR4.out.set2_lo hn4 (by omega) _ _, hv3, hv4, bel_set2 (by repeat (first | (with_reducible exact Below.refl _ _) | (with_reducible assumption) | (with_reducible exact bel_box _) | (with_reducible refine bel_step ?_ (by with_reducible assumption)) | (with_reducible refine Below.drew ?_) | (with_reducible refine below_drewN ?_ _) | (with_reducible refine bel_alloc ?_ _))) (by omega) _ _, hn3.mono (by omega), hn4.mono (by omega)⟩

  · have hH : (h'.length : Int) ≤ (h.length : Int) := by omega
    have hH2 : ¬ (h.length : Int) < (h'.length : Int) := by omega
    rw [Nat.max_eq_left (show h'.length ≤ h.length by omega)] at hlc hpl
    obtain ⟨N, hN⟩ : ∃ N, N = h.length + P2 := ⟨_, rfl⟩
    have eN : (h.length : Int) + (P2 : Int) = (N : Int) := by omega
    have hN1 : N ≤ 65536 := by omega
    have sho : Hid (∀ (V : Option Addr) (cv : Nat) W, Rd W W.heap.size V (bls (fL (fun i => lt h l i && lt h' l' i) N)) → N ≤ cv → Calls Try.prog 40 #[.slice V N cv, .int .i64 (h.length : Nat), .int .i64 (P : Nat)] W (NewW X Y W)) := fun V cv W h1 h2 => by
      have := rshortest_any V cv h.length P N (fun i => lt h l i && lt h' l' i) W h1 (by omega) (by omega) h2 hP0 hpl
      rwa [hlc] at this
    clear hN hlc hpl hP2
    go_enter Try.func27, Try.ntmps27
    go_wp2_with (first
      | (go_at_call 47; refine (bo.out _ hh hl hh' hl').mono ?_; rintro e w1 ⟨rfl, hb1⟩; rw [HCK.out]; obtain ⟨x1, x2, x3, x4⟩ := HBox.out w1 hb1))
    go_quiet ((go_at_call 48; exact Calls.quiet_of (kg.out _)))
    go_wp2
    have hsz1 : w.heap.size + 3 ≤ w1.heap.size := by have := hb1.size; simp at this; omega
    go_loopw [9, 10] (fun v i wr => ∃ k : Nat, k ≤ N ∧ i = .int .i64 k ∧ wr.ownsRow w1.heap.size 4 1 v k (bls (fL (fun i => lt h l i && lt h' l' i) k)) ∧ Below w1.heap.size w1 wr) (fun _ i _ => N - (intOf i).toNat)
    case atStart => exact ⟨0, by omega, rfl, World.ownsRow_nil _ _ _ _, (by repeat (first | (with_reducible exact Below.refl _ _) | (with_reducible assumption) | (with_reducible exact bel_box _) | (with_reducible refine bel_step ?_ (by with_reducible assumption)) | (with_reducible refine Below.drew ?_) | (with_reducible refine below_drewN ?_ _) | (with_reducible refine bel_alloc ?_ _)))⟩
    case round =>
      obtain ⟨k, hk, rfl, hown, hbl⟩ := hrel
      have hbw : Below ((w.alloc (.cells #[.slice A h.length c, .slice B l.length d] 24)).alloc (.cells #[.slice A' h'.length c', .slice B' l'.length d'] 24) |>.alloc (.cells #[.slice none 0 0, .slice none 0 0] 24)).heap.size ((w.alloc (.cells #[.slice A h.length c, .slice B l.length d] 24)).alloc (.cells #[.slice A' h'.length c', .slice B' l'.length d'] 24) |>.alloc (.cells #[.slice none 0 0, .slice none 0 0] 24)) wr := bel_step hb1 hbl
      obtain ⟨y1, y2, y3, y4⟩ := HBox.out wr hbw
      have HOW := Lib.hid hown
      clear hown
      by_cases hlt : k < N
      · obtain ⟨x, hx⟩ : ∃ x, lt h l k = x := ⟨_, rfl⟩
        obtain ⟨y, hy⟩ : ∃ y, lt h' l' k = y := ⟨_, rfl⟩
        have HX := Lib.hid hx
        have HY := Lib.hid hy
        have hset := fL_succ (fun i => lt h l i && lt h' l' i) k
        simp only [hx, hy] at hset
        have HSET := Lib.hid hset
        clear hx hy hset
        cases x
        all_goals
          go_wp2_with (first
            | (go_at_call_of 35 (Value.agg #[Value.slice A h.length c, Value.slice B l.length d]); refine (rletter_any A B c d k h l _ (HA.out.to ?_) (HB.out.to ?_) g1.1 hh hl (by omega)).mono ?_; (focus ((repeat (first | (with_reducible exact Below.refl _ _) | (with_reducible assumption) | (with_reducible exact bel_box _) | (with_reducible refine bel_step ?_ (by with_reducible assumption)) | (with_reducible refine Below.drew ?_) | (with_reducible refine below_drewN ?_ _) | (with_reducible refine bel_alloc ?_ _))); done)); (focus ((repeat (first | (with_reducible exact Below.refl _ _) | (with_reducible assumption) | (with_reducible exact bel_box _) | (with_reducible refine bel_step ?_ (by with_reducible assumption)) | (with_reducible refine Below.drew ?_) | (with_reducible refine below_drewN ?_ _) | (with_reducible refine bel_alloc ?_ _))); done)); rintro e w3 ⟨rfl, hb3⟩; rw [HX.out]; obtain ⟨z1, z2, z3, z4⟩ := HBox.out w3 (bel_step hbw hb3); have HO3 := Lib.hid (own_keep HOW.out hb3); have hsz3 : w1.heap.size ≤ w3.heap.size := Nat.le_trans hbl.size hb3.size)
            | (go_at_call 35; refine (rletter_any A' B' c' d' k h' l' _ (HA'.out.to ?_) (HB'.out.to ?_) g2.1 hh' hl' (by omega)).mono ?_; (focus ((repeat (first | (with_reducible exact Below.refl _ _) | (with_reducible assumption) | (with_reducible exact bel_box _) | (with_reducible refine bel_step ?_ (by with_reducible assumption)) | (with_reducible refine Below.drew ?_) | (with_reducible refine below_drewN ?_ _) | (with_reducible refine bel_alloc ?_ _))); done)); (focus ((repeat (first | (with_reducible exact Below.refl _ _) | (with_reducible assumption) | (with_reducible exact bel_box _) | (with_reducible refine bel_step ?_ (by with_reducible assumption)) | (with_reducible refine Below.drew ?_) | (with_reducible refine below_drewN ?_ _) | (with_reducible refine bel_alloc ?_ _))); done)); rintro e w4 ⟨rfl, hb4⟩; rw [HY.out]; have HO4 := Lib.hid (own_keep HO3.out hb4); have hsz4 : w1.heap.size ≤ w4.heap.size := Nat.le_trans hsz3 hb4.size)
            | (at_builtin; refine wpList_append_rd _ rfl _ _ 22 rfl w1.heap.size 4 i0 (.bool false) 1 Try.underlying22 hi iz is ib rfl _ k (bls (fL (fun i => lt h l i && lt h' l' i) k)) rfl (HO4.out.alloc _) (w4.heap.size + 1) _ 1 1 _ rfl rfl (Rd.one_new _ _ _) (one_cell_bool _) (by unfold maxLen; omega) (by omega) (by simp; omega) ?_; intro v1 w5 hown1 hgrow1 hat1)
            | (at_builtin; refine wpList_append_rd _ rfl _ _ 22 rfl w1.heap.size 4 i0 (.bool false) 1 Try.underlying22 hi iz is ib rfl _ k (bls (fL (fun i => lt h l i && lt h' l' i) k)) rfl (HO3.out.alloc _) (w3.heap.size + 1) _ 1 1 _ rfl rfl (Rd.one_new _ _ _) (one_cell_bool _) (by unfold maxLen; omega) (by omega) (by simp; omega) ?_; intro v1 w5 hown1 hgrow1 hat1))
        · have hb5 := grow_one hsz3 HO3.out hgrow1
          have hs5 : bls (fL (fun i => lt h l i && lt h' l' i) (k + 1)) = bls (fL (fun i => lt h l i && lt h' l' i) k) ++ [.bool false] := by rw [HSET.out, bls_snoc]; rfl
          rw [← hs5] at hown1
          go_roundw
          case rel => exact ⟨k + 1, by omega, by go_num, hown1, hbl.trans ((hb3.mono hbl.size).trans hb5)⟩
          case measure => simp [intOf]; omega
        · have hb5 := grow_one hsz4 HO4.out hgrow1
          have hs5 : bls (fL (fun i => lt h l i && lt h' l' i) (k + 1)) = bls (fL (fun i => lt h l i && lt h' l' i) k) ++ [.bool y] := by rw [HSET.out, bls_snoc]; simp
          rw [← hs5] at hown1
          go_roundw
          case rel => exact ⟨k + 1, by omega, by go_num, hown1, hbl.trans ((hb3.mono hbl.size).trans ((hb4.mono hsz3).trans hb5))⟩
          case measure => simp [intOf]; omega
      · obtain rfl : k = N := by omega
        have hr0 : wr.cell? ⟨w.heap.size + 2, 0, none⟩ = some (.slice none 0 0) := (hbw.cell (p := ⟨w.heap.size + 2, 0, none⟩) (by simp)).trans (by simp [go_sem])
        have hr1 : wr.cell? ⟨w.heap.size + 2, 1, none⟩ = some (.slice none 0 0) := (hbw.cell (p := ⟨w.heap.size + 2, 1, none⟩) (by simp)).trans (by simp [go_sem])
        have hr3 : wr.frozen? ⟨w.heap.size + 2, 0, none⟩ = false := (hbw.frozen (p := ⟨w.heap.size + 2, 0, none⟩) (by simp)).trans (by simp [go_sem])
        have hr4 : wr.frozen? ⟨w.heap.size + 2, 1, none⟩ = false := (hbw.frozen (p := ⟨w.heap.size + 2, 1, none⟩) (by simp)).trans (by simp [go_sem])
        have hres := res4_of hr0 hr1 hr3 hr4
        clear hr0 hr1 hr3 hr4
        obtain ⟨VL, cvl, hvl⟩ := own_form HOW.out
        subst hvl
        have hRL := Lib.hid (Rd.of_own HOW.out)
        have hcl : k ≤ cvl := own_cap HOW.out
        have hsz4 : w.heap.size + 3 ≤ wr.heap.size := Nat.le_trans hsz1 hbl.size
        go_wp2_with (first
          | (go_at_call 40; refine (sho.out _ _ _ (hto hRL ?_) hcl).mono ?_; (focus ((repeat (first | (with_reducible exact Below.refl _ _) | (with_reducible assumption) | (with_reducible exact bel_box _) | (with_reducible refine bel_step ?_ (by with_reducible assumption)) | (with_reducible refine Below.drew ?_) | (with_reducible refine below_drewN ?_ _) | (with_reducible refine bel_alloc ?_ _))); done)); rintro e w6 ⟨V1, V2, cv1, cv2, rfl, hR1, hR2, hv1, hv2, hb6, hn1, hn2⟩; have HR1 := Lib.hid hR1; have HR2 := Lib.hid hR2; clear hR1 hR2)
          | (go_at_call 49; go_loud (refine (fi.out _ _ _ _ _ (hto HR1 ?_) (hto HR2 ?_) hv1 hv2 (w.heap.size + 3) (hn1.mono hsz4) (hn2.mono hsz4)).mono ?_; (focus ((repeat (first | (with_reducible exact Below.refl _ _) | (with_reducible assumption) | (with_reducible exact bel_box _) | (with_reducible refine bel_step ?_ (by with_reducible assumption)) | (with_reducible refine Below.drew ?_) | (with_reducible refine below_drewN ?_ _) | (with_reducible refine bel_alloc ?_ _))); done)); (focus ((repeat (first | (with_reducible exact Below.refl _ _) | (with_reducible assumption) | (with_reducible exact bel_box _) | (with_reducible refine bel_step ?_ (by with_reducible assumption)) | (with_reducible refine Below.drew ?_) | (with_reducible refine below_drewN ?_ _) | (with_reducible refine bel_alloc ?_ _))); done)); rintro e w7 ⟨V3, V4, cv3, cv4, rfl, hR3, hR4, hv3, hv4, hb7, hn3, hn4⟩; have HR3 := Lib.hid hR3; have HR4 := Lib.hid hR4; clear hR3 hR4; have hw7 := res4_below (W' := w7) hres (by repeat (first | (with_reducible exact Below.refl _ _) | (with_reducible assumption) | (with_reducible exact bel_box _) | (with_reducible refine bel_step ?_ (by with_reducible assumption)) | (with_reducible refine Below.drew ?_) | (with_reducible refine below_drewN ?_ _) | (with_reducible refine bel_alloc ?_ _))); obtain ⟨z1, z2, z3, z4⟩ := id hw7)))
        obtain ⟨k0, k1⟩ := set2_cells hw7.1 hw7.2.1 (.slice V3 F1.length cv3) (.slice V4 F2.length cv4)
        refine bodyPost_ret (v := .tuple #[.agg #[.slice V3 F1.length cv3, .slice V4 F2.length cv4], .int .i64 E]) (by simp [results, Try.results27, go_sem, k0, k1]) rfl ?_
        exact ⟨V3, V4, cv3, cv4, rfl, HR3.out.set2_lo hn3 (by omega) _ _, HR4.out.set2_lo hn4 (by omega) _ _, hv3, hv4, bel_set2 (by repeat (first | (with_reducible exact Below.refl _ _) | (with_reducible assumption) | (with_reducible exact bel_box _) | (with_reducible refine bel_step ?_ (by with_reducible assumption)) | (with_reducible refine Below.drew ?_) | (with_reducible refine below_drewN ?_ _) | (with_reducible refine bel_alloc ?_ _))) (by omega) _ _, hn3.mono (by omega), hn4.mono (by omega)⟩

end Go.Proofs.Ytimecbkfeennpaa
