/- On of the reference. -/
import Derived.Test.YtimecbkfeennpaaBwRand2
namespace Go.Proofs.Ytimecbkfeennpaa
set_option linter.unusedVariables false
set_option linter.unusedSimpArgs false
open Go.RowKit
set_option maxHeartbeats 4000000 in
theorem ron_good (A B A' B' : Option Addr) (c d c' d' : Nat) (h l h' l' : List Bool) (w : World) (hA : Rd w w.heap.size A (bls h)) (hB : Rd w w.heap.size B (bls l)) (hA' : Rd w w.heap.size A' (bls h')) (hB' : Rd w w.heap.size B' (bls l'))
    (hh : h.length ≤ 140737488355328) (hl : l.length ≤ 140737488355328) (hh' : h'.length ≤ 140737488355328) (hl' : l'.length ≤ 140737488355328) (hck : ck2 h l h' l' = 0) :
    Calls Try.prog 29 #[.agg #[.slice A h.length c, .slice B l.length d], .agg #[.slice A' h'.length c', .slice B' l'.length d']] w (NewWE (fit (onW h l h' l')) (fitE (onW h l h' l')) w) := by
  obtain ⟨i0, hi, iz, is, ib⟩ := info_parts Try.boolInfo
  have HA := Lib.hid hA
  have HB := Lib.hid hB
  have HA' := Lib.hid hA'
  have HB' := Lib.hid hB'
  have HCK := Lib.hid hck
  have hk := ck2_iff.1 hck
  have g1 := lens hk.1
  have g2 := lens hk.2
  clear hk hck hA hB hA' hB'
  have bo := Lib.hid (rboth_any A B A' B' c d c' d' h l h' l')
  have hcl1 := cnt_le l
  have hch1 := cnt_le h
  obtain ⟨kk, hkk⟩ : ∃ k, cnt l = k := ⟨_, rfl⟩
  obtain ⟨kh, hkh⟩ : ∃ k, cnt h = k := ⟨_, rfl⟩
  have kcl : Hid (∀ W, Rd W W.heap.size B (bls l) → Calls Try.prog 37 #[.slice B l.length d] W fun e w' => e = .returned (.int .i64 (kk : Nat)) ∧ W = w') := fun W hr => by rw [← hkk]; exact rcount_any B d l W hr hl
  have kch : Hid (∀ W, Rd W W.heap.size A (bls h) → Calls Try.prog 37 #[.slice A h.length c] W fun e w' => e = .returned (.int .i64 (kh : Nat)) ∧ W = w') := fun W hr => by rw [← hkh]; exact rcount_any A c h W hr hh
  obtain ⟨X, Y, hXY⟩ : ∃ X Y, onW h l h' l' = (X, Y) := ⟨_, _, rfl⟩
  have hle := nf_len (per_on h l h' l') (Nat.mul_pos g1.1 g2.1)
  have hQ : onH h l h' ≤ 65536 := by
    unfold onH
    have := Nat.mul_le_mul (show h'.length ≤ 64 by omega) (show l.length ≤ 64 by omega)
    omega
  have hQ2 : l.length * l'.length ≤ 4096 := Nat.le_trans (Nat.mul_le_mul (show l.length ≤ 64 by omega) (show l'.length ≤ 64 by omega)) (by decide)
  rw [show nf (onF h l h' l') (onH h l h') (l.length * l'.length) = (X, Y) from hXY] at hle
  simp only at hle
  have hX1 : X.length ≤ 65536 := by omega
  have hY1 : Y.length ≤ 65536 := by omega
  have hron : Hid (∀ m p, 0 < p → (0 < cnt l → turns h l h' m) → (0 < cnt l → ∃ t, p * cnt l = t * l'.length) → per (onF h l h' l') (h.length + m * l.length) (p * l.length) ∧ nf (onF h l h' l') (h.length + m * l.length) (p * l.length) = (X, Y)) := fun m p h0 h1 h2 => ⟨per_ron h1 h2, (ron_nf g1.1 g2.1 h0 h1 h2).trans hXY⟩
  rw [hXY]
  obtain ⟨F1, F2, hF⟩ : ∃ F1 F2, fit (X, Y) = (F1, F2) := ⟨_, _, rfl⟩
  obtain ⟨E, hE⟩ : ∃ E, fitE (X, Y) = E := ⟨_, rfl⟩
  have fi := Lib.hid (fun V U cv cu W h1 h2 h3 h4 N h5 h6 => rfits_new V U cv cu X Y W h1 h2 hX1 hY1 h3 h4 N h5 h6)
  rw [hF, hE] at fi
  rw [hF, hE]
  simp only at fi
  have HBox : Hid (∀ W, Below ((w.alloc (.cells #[.slice A h.length c, .slice B l.length d] 24)).alloc (.cells #[.slice A' h'.length c', .slice B' l'.length d'] 24) |>.alloc (.cells #[.slice none 0 0, .slice none 0 0] 24)).heap.size ((w.alloc (.cells #[.slice A h.length c, .slice B l.length d] 24)).alloc (.cells #[.slice A' h'.length c', .slice B' l'.length d'] 24) |>.alloc (.cells #[.slice none 0 0, .slice none 0 0] 24)) W →
      W.cell? ⟨w.heap.size, 0, none⟩ = some (.slice A h.length c) ∧ W.cell? ⟨w.heap.size, 1, none⟩ = some (.slice B l.length d) ∧ W.cell? ⟨w.heap.size + 1, 0, none⟩ = some (.slice A' h'.length c') ∧ W.cell? ⟨w.heap.size + 1, 1, none⟩ = some (.slice B' l'.length d')) := by
    intro W hb
    refine ⟨(hb.cell (p := ⟨w.heap.size, 0, none⟩) (by simp; omega)).trans ?_, (hb.cell (p := ⟨w.heap.size, 1, none⟩) (by simp; omega)).trans ?_, (hb.cell (p := ⟨w.heap.size + 1, 0, none⟩) (by simp)).trans ?_, (hb.cell (p := ⟨w.heap.size + 1, 1, none⟩) (by simp)).trans ?_⟩ <;> simp [go_sem]
  have HKK := Lib.hid hkk
  have HKH := Lib.hid hkh
  rw [hkk] at hcl1
  rw [hkh] at hch1
  clear hXY hF hE hle hQ hQ2 hkk hkh
  by_cases hk0 : kk = 0
  · subst hk0
    have hr := hron.out 0 1 (by decide) (fun h => absurd HKK.out (by omega)) (fun h => absurd HKK.out (by omega))
    rw [Nat.zero_mul, Nat.one_mul, Nat.add_zero] at hr
    have hpl := Lib.hid hr.1
    have hlc := Lib.hid hr.2
    have hP0 := g1.1
    clear hr
    go_enter Try.func29, Try.ntmps29
    go_wp2_with (first
      | (go_at_call 47; refine (bo.out _ hh hl hh' hl').mono ?_; rintro e w1 ⟨rfl, hb1⟩; rw [HCK.out]; obtain ⟨x1, x2, x3, x4⟩ := HBox.out w1 hb1)
      | (go_at_call_of 37 (Value.slice B l.length d); refine (kcl.out _ (hto HB ?_)).mono ?_; (focus ((repeat (first | (with_reducible exact Below.refl _ _) | (with_reducible assumption) | (with_reducible exact bel_box _) | (with_reducible refine bel_step ?_ (by with_reducible assumption)) | (with_reducible refine Below.drew ?_) | (with_reducible refine below_drewN ?_ _) | (with_reducible refine bel_alloc ?_ _))); done)); rintro e w2 ⟨rfl, rfl⟩))
    have hsz1 : w.heap.size + 3 ≤ w1.heap.size := by have := hb1.size; simp at this; omega
    obtain ⟨P2, hP2⟩ : ∃ P2, P2 = 2 * l.length := ⟨_, rfl⟩
    have eP2 : (2 * (l.length : Int)) = (P2 : Int) := by omega
    obtain ⟨N, hN⟩ : ∃ N, N = h.length + P2 := ⟨_, rfl⟩
    have eN : (h.length : Int) + (P2 : Int) = (N : Int) := by omega
    have hN1 : N ≤ 65536 := by omega
    have sho : Hid (∀ (V : Option Addr) (cv : Nat) W, Rd W W.heap.size V (bls (fL (onF h l h' l') N)) → N ≤ cv → Calls Try.prog 40 #[.slice V N cv, .int .i64 (h.length : Nat), .int .i64 (l.length : Nat)] W (NewW X Y W)) := fun V cv W h1 h2 => by
      have := rshortest_any V cv h.length l.length N (onF h l h' l') W h1 (by omega) (by omega) h2 hP0 hpl.out
      rwa [hlc.out] at this
    clear hN hP2
    go_wp2
    go_loopw [11, 12, 13] (fun v n i wr => ∃ k : Nat, k ≤ N ∧ i = .int .i64 k ∧ n = .int .i64 (oc h l k : Nat) ∧ wr.ownsRow w1.heap.size 4 1 v k (bls (fL (onF h l h' l') k)) ∧ Below w1.heap.size w1 wr) (fun _ _ i _ => N - (intOf i).toNat)
    case atStart => exact ⟨0, by omega, rfl, rfl, World.ownsRow_nil _ _ _ _, (by repeat (first | (with_reducible exact Below.refl _ _) | (with_reducible assumption) | (with_reducible exact bel_box _) | (with_reducible refine bel_step ?_ (by with_reducible assumption)) | (with_reducible refine Below.drew ?_) | (with_reducible refine below_drewN ?_ _) | (with_reducible refine bel_alloc ?_ _)))⟩
    case round =>
      obtain ⟨k, hk, rfl, rfl, hown, hbl⟩ := hrel
      have hbw : Below ((w.alloc (.cells #[.slice A h.length c, .slice B l.length d] 24)).alloc (.cells #[.slice A' h'.length c', .slice B' l'.length d'] 24) |>.alloc (.cells #[.slice none 0 0, .slice none 0 0] 24)).heap.size ((w.alloc (.cells #[.slice A h.length c, .slice B l.length d] 24)).alloc (.cells #[.slice A' h'.length c', .slice B' l'.length d'] 24) |>.alloc (.cells #[.slice none 0 0, .slice none 0 0] 24)) wr := bel_step hb1 hbl
      obtain ⟨y1, y2, y3, y4⟩ := HBox.out wr hbw
      have HOW := Lib.hid hown
      clear hown
      have hoc := oc_le h l k
      by_cases hlt : k < N
      · obtain ⟨x, hx⟩ : ∃ x, lt h l k = x := ⟨_, rfl⟩
        obtain ⟨y, hy⟩ : ∃ y, lt h' l' (oc h l k) = y := ⟨_, rfl⟩
        have HX := Lib.hid hx
        have HY := Lib.hid hy
        have hset := fL_succ (onF h l h' l') k
        simp only [onF, hx, hy] at hset
        have HSET := Lib.hid hset
        have hos : oc h l (k + 1) = oc h l k + if x then 1 else 0 := by rw [oc, hx]
        have HOS := Lib.hid hos
        clear hx hy hset hos
        cases x
        all_goals
          go_wp2_with (first
            | (go_at_call_of 35 (Value.agg #[Value.slice A h.length c, Value.slice B l.length d]); refine (rletter_any A B c d k h l _ (HA.out.to ?_) (HB.out.to ?_) g1.1 hh hl (by omega)).mono ?_; (focus ((repeat (first | (with_reducible exact Below.refl _ _) | (with_reducible assumption) | (with_reducible exact bel_box _) | (with_reducible refine bel_step ?_ (by with_reducible assumption)) | (with_reducible refine Below.drew ?_) | (with_reducible refine below_drewN ?_ _) | (with_reducible refine bel_alloc ?_ _))); done)); (focus ((repeat (first | (with_reducible exact Below.refl _ _) | (with_reducible assumption) | (with_reducible exact bel_box _) | (with_reducible refine bel_step ?_ (by with_reducible assumption)) | (with_reducible refine Below.drew ?_) | (with_reducible refine below_drewN ?_ _) | (with_reducible refine bel_alloc ?_ _))); done)); rintro e w3 ⟨rfl, hb3⟩; rw [HX.out]; obtain ⟨z1, z2, z3, z4⟩ := HBox.out w3 (bel_step hbw hb3); have HO3 := Lib.hid (own_keep HOW.out hb3); have hsz3 : w1.heap.size ≤ w3.heap.size := Nat.le_trans hbl.size hb3.size)
            | (go_at_call 35; refine (rletter_any A' B' c' d' (oc h l k) h' l' _ (HA'.out.to ?_) (HB'.out.to ?_) g2.1 hh' hl' (by omega)).mono ?_; (focus ((repeat (first | (with_reducible exact Below.refl _ _) | (with_reducible assumption) | (with_reducible exact bel_box _) | (with_reducible refine bel_step ?_ (by with_reducible assumption)) | (with_reducible refine Below.drew ?_) | (with_reducible refine below_drewN ?_ _) | (with_reducible refine bel_alloc ?_ _))); done)); (focus ((repeat (first | (with_reducible exact Below.refl _ _) | (with_reducible assumption) | (with_reducible exact bel_box _) | (with_reducible refine bel_step ?_ (by with_reducible assumption)) | (with_reducible refine Below.drew ?_) | (with_reducible refine below_drewN ?_ _) | (with_reducible refine bel_alloc ?_ _))); done)); rintro e w4 ⟨rfl, hb4⟩; rw [HY.out]; have HO4 := Lib.hid (own_keep HO3.out hb4); have hsz4 : w1.heap.size ≤ w4.heap.size := Nat.le_trans hsz3 hb4.size)
            | (at_builtin; refine wpList_append_rd _ rfl _ _ 22 rfl w1.heap.size 4 i0 (.bool false) 1 Try.underlying22 hi iz is ib rfl _ k (bls (fL (onF h l h' l') k)) rfl (HO4.out.alloc _) (w4.heap.size + 1) _ 1 1 _ rfl rfl (Rd.one_new _ _ _) (one_cell_bool _) (by unfold maxLen; omega) (by omega) (by simp; omega) ?_; intro v1 w5 hown1 hgrow1 hat1)
            | (at_builtin; refine wpList_append_rd _ rfl _ _ 22 rfl w1.heap.size 4 i0 (.bool false) 1 Try.underlying22 hi iz is ib rfl _ k (bls (fL (onF h l h' l') k)) rfl (HO3.out.alloc _) (w3.heap.size + 1) _ 1 1 _ rfl rfl (Rd.one_new _ _ _) (one_cell_bool _) (by unfold maxLen; omega) (by omega) (by simp; omega) ?_; intro v1 w5 hown1 hgrow1 hat1))
        · have hb5 := grow_one hsz3 HO3.out hgrow1
          have hs5 : bls (fL (onF h l h' l') (k + 1)) = bls (fL (onF h l h' l') k) ++ [.bool false] := by rw [HSET.out, bls_snoc]; rfl
          rw [← hs5] at hown1
          go_roundw
          case rel => exact ⟨k + 1, by omega, by go_num, by rw [HOS.out]; rfl, hown1, hbl.trans ((hb3.mono hbl.size).trans hb5)⟩
          case measure => simp [intOf]; omega
        · have hb5 := grow_one hsz4 HO4.out hgrow1
          have hs5 : bls (fL (onF h l h' l') (k + 1)) = bls (fL (onF h l h' l') k) ++ [.bool y] := by rw [HSET.out, bls_snoc]; simp
          rw [← hs5] at hown1
          go_roundw
          case rel => exact ⟨k + 1, by omega, by go_num, by rw [HOS.out]; simp, hown1, hbl.trans ((hb3.mono hbl.size).trans ((hb4.mono hsz3).trans hb5))⟩
          case measure => simp [intOf]; omega
      · obtain rfl : k = N := by omega
        have hr0 : wr.cell? ⟨w.heap.size + 2, 0, none⟩ = some (.slice none 0 0) := (hbw.cell (p := ⟨w.heap.size + 2, 0, none⟩) (by simp)).trans (by simp [go_sem])
        have hr1 : wr.cell? ⟨w.heap.size + 2, 1, none⟩ = some (.slice none 0 0) := (hbw.cell (p := ⟨w.heap.size + 2, 1, none⟩) (by simp)).trans (by simp [go_sem])
        have hr3 : wr.frozen? ⟨w.heap.size + 2, 0, none⟩ = false := (hbw.frozen (p := ⟨w.heap.size + 2, 0, none⟩) (by simp)).trans (by simp [go_sem])
        have hr4 : wr.frozen? ⟨w.heap.size + 2, 1, none⟩ = false := (hbw.frozen (p := ⟨w.heap.size + 2, 1, none⟩) (by simp)).trans (by simp [go_sem])
        have hres := res4_of hr0 hr1 hr3 hr4
        clear hr0 hr1 hr3 hr4
        obtain ⟨VL, cvl, hvl⟩ := own_form HOW.out
        subst hvl
        have hRL := Lib.hid (Rd.of_own HOW.out)
        have hcl : k ≤ cvl := own_cap HOW.out
        have hsz4 : w.heap.size + 3 ≤ wr.heap.size := Nat.le_trans hsz1 hbl.size
        go_wp2_with (first
          | (go_at_call 40; refine (sho.out _ _ _ (hto hRL ?_) hcl).mono ?_; (focus ((repeat (first | (with_reducible exact Below.refl _ _) | (with_reducible assumption) | (with_reducible exact bel_box _) | (with_reducible refine bel_step ?_ (by with_reducible assumption)) | (with_reducible refine Below.drew ?_) | (with_reducible refine below_drewN ?_ _) | (with_reducible refine bel_alloc ?_ _))); done)); rintro e w6 ⟨V1, V2, cv1, cv2, rfl, hR1, hR2, hv1, hv2, hb6, hn1, hn2⟩; have HR1 := Lib.hid hR1; have HR2 := Lib.hid hR2; clear hR1 hR2)
          | (go_at_call 49; refine (fi.out _ _ _ _ _ (hto HR1 ?_) (hto HR2 ?_) hv1 hv2 (w.heap.size + 3) (hn1.mono hsz4) (hn2.mono hsz4)).mono ?_; (focus ((repeat (first | (with_reducible exact Below.refl _ _) | (with_reducible assumption) | (with_reducible exact bel_box _) | (with_reducible refine bel_step ?_ (by with_reducible assumption)) | (with_reducible refine Below.drew ?_) | (with_reducible refine below_drewN ?_ _) | (with_reducible refine bel_alloc ?_ _))); done)); (focus ((repeat (first | (with_reducible exact Below.refl _ _) | (with_reducible assumption) | (with_reducible exact bel_box _) | (with_reducible refine bel_step ?_ (by with_reducible assumption)) | (with_reducible refine Below.drew ?_) | (with_reducible refine below_drewN ?_ _) | (with_reducible refine bel_alloc ?_ _))); done)); rintro e w7 ⟨V3, V4, cv3, cv4, rfl, hR3, hR4, hv3, hv4, hb7, hn3, hn4⟩; have HR3 := Lib.hid hR3; have HR4 := Lib.hid hR4; clear hR3 hR4; have hw7 := res4_below (W' := w7) hres (by repeat (first | (with_reducible exact Below.refl _ _) | (with_reducible assumption) | (with_reducible exact bel_box _) | (with_reducible refine bel_step ?_ (by with_reducible assumption)) | (with_reducible refine Below.drew ?_) | (with_reducible refine below_drewN ?_ _) | (with_reducible refine bel_alloc ?_ _))); obtain ⟨z1, z2, z3, z4⟩ := id hw7))
        obtain ⟨k0, k1⟩ := set2_cells hw7.1 hw7.2.1 (.slice V3 F1.length cv3) (.slice V4 F2.length cv4)
        refine bodyPost_ret (v := .tuple #[.agg #[.slice V3 F1.length cv3, .slice V4 F2.length cv4], .int .i64 E]) (by simp [results, Try.results29, go_sem, k0, k1]) rfl ?_
        exact ⟨V3, V4, cv3, cv4, rfl, HR3.out.set2_lo hn3 (by omega) _ _, HR4.out.set2_lo hn4 (by omega) _ _, hv3, hv4, bel_set2 (by repeat (first | (with_reducible exact Below.refl _ _) | (with_reducible assumption) | (with_reducible exact bel_box _) | (with_reducible refine bel_step ?_ (by with_reducible assumption)) | (with_reducible refine Below.drew ?_) | (with_reducible refine below_drewN ?_ _) | (with_reducible refine bel_alloc ?_ _))) (by omega) _ _, hn3.mono (by omega), hn4.mono (by omega)⟩
  · obtain ⟨G, hG⟩ : ∃ G, Nat.gcd kk l'.length = G := ⟨_, rfl⟩
    have hG0 : 0 < G := by rw [← hG]; exact Nat.gcd_pos_of_pos_right _ g2.1
    have hG1 : G ≤ 64 := by rw [← hG]; exact Nat.le_trans (Nat.gcd_le_right _ g2.1) (by omega)
    obtain ⟨p, hp⟩ : ∃ p, l'.length / G = p := ⟨_, rfl⟩
    have hpp : 0 < p := by rw [← hp, ← hG]; exact Nat.div_pos (Nat.gcd_le_right _ g2.1) (by rw [hG]; exact hG0)
    have hp1 : p ≤ 64 := by rw [← hp]; exact Nat.le_trans (Nat.div_le_self _ _) (by omega)
    have hpk : ∃ t, p * kk = t * l'.length := ⟨kk / G, by rw [← hp, ← hG, Nat.mul_comm, ← gcd_loop]⟩
    have ep : (l'.length : Int) / (G : Int) = (p : Int) := by rw [← hp]; rfl
    have ept : (l'.length : Int).tdiv (G : Int) = (p : Int) := by rw [← hp]; rfl
    have eG0 : ¬ ((G : Int) = 0) := by omega
    have epw : IntKind.i64.wrap (p : Int) = (p : Int) := IntWalk.i64_in _ (by omega)
    obtain ⟨P, hP⟩ : ∃ P, p * l.length = P := ⟨_, rfl⟩
    have eP : (l.length : Int) * (p : Int) = (P : Int) := by rw [← hP]; simp [Int.mul_comm]
    have hP0 : 0 < P := by rw [← hP]; exact Nat.mul_pos hpp g1.1
    have hP1 : P ≤ 4096 := by rw [← hP]; exact Nat.le_trans (Nat.mul_le_mul hp1 (show l.length ≤ 64 by omega)) (by decide)
    have ePw : IntKind.i64.wrap (P : Int) = (P : Int) := IntWalk.i64_in _ (by omega)
    have HP := Lib.hid hP
    have HPK := Lib.hid hpk
    have kg : Hid (∀ W, Calls Try.prog 48 #[.int .i64 (kk : Nat), .int .i64 (l'.length : Nat)] W (Drw (.int .i64 (G : Nat)) W)) := fun W => by rw [← hG]; exact rgcd_any kk l'.length W (by omega) (by omega)
    have hk1 : (0 : Int) < (kk : Int) := by omega
    have hk2 : decide ((0 : Int) < (kk : Int)) = true := by simp; omega
    clear hG hp hP hpk
    go_enter Try.func29, Try.ntmps29
    go_wp2_with (first
      | (go_at_call 47; refine (bo.out _ hh hl hh' hl').mono ?_; rintro e w1 ⟨rfl, hb1⟩; rw [HCK.out]; obtain ⟨x1, x2, x3, x4⟩ := HBox.out w1 hb1)
      | (go_at_call_of 37 (Value.slice B l.length d); refine (kcl.out _ (hto HB ?_)).mono ?_; (focus ((repeat (first | (with_reducible exact Below.refl _ _) | (with_reducible assumption) | (with_reducible exact bel_box _) | (with_reducible refine bel_step ?_ (by with_reducible assumption)) | (with_reducible refine Below.drew ?_) | (with_reducible refine below_drewN ?_ _) | (with_reducible refine bel_alloc ?_ _))); done)); rintro e w2 ⟨rfl, rfl⟩)
      | (go_at_call 37; refine (kch.out _ (hto HA ?_)).mono ?_; (focus ((repeat (first | (with_reducible exact Below.refl _ _) | (with_reducible assumption) | (with_reducible exact bel_box _) | (with_reducible refine bel_step ?_ (by with_reducible assumption)) | (with_reducible refine Below.drew ?_) | (with_reducible refine below_drewN ?_ _) | (with_reducible refine bel_alloc ?_ _))); done)); rintro e w2 ⟨rfl, rfl⟩))
    have hsz1 : w.heap.size + 3 ≤ w1.heap.size := by have := hb1.size; simp at this; omega
    go_loopw [7, 10] (fun hd n wr => ∃ m H nn : Nat, m ≤ h'.length ∧ m ≤ nn ∧ H ≤ 64 + m * 64 ∧ nn ≤ 64 + m * 64 ∧ hd = .int .i64 H ∧ n = .int .i64 nn ∧ Hid (H = h.length + m * l.length) ∧ Hid (nn = kh + m * kk) ∧ Below w1.heap.size w1 wr) (fun _ n _ => h'.length - (intOf n).toNat)
    case atStart => exact ⟨0, h.length, kh, by omega, by omega, by omega, by omega, rfl, rfl, by show _ = _; omega, by show _ = _; omega, (by repeat (first | (with_reducible exact Below.refl _ _) | (with_reducible assumption) | (with_reducible exact bel_box _) | (with_reducible refine bel_step ?_ (by with_reducible assumption)) | (with_reducible refine Below.drew ?_) | (with_reducible refine below_drewN ?_ _) | (with_reducible refine bel_alloc ?_ _)))⟩
    case round =>
      obtain ⟨m, H, nn, hm1, hm2, hH1, hn1, rfl, rfl, HH, HN, hbl⟩ := hrel
      have hbw : Below ((w.alloc (.cells #[.slice A h.length c, .slice B l.length d] 24)).alloc (.cells #[.slice A' h'.length c', .slice B' l'.length d'] 24) |>.alloc (.cells #[.slice none 0 0, .slice none 0 0] 24)).heap.size ((w.alloc (.cells #[.slice A h.length c, .slice B l.length d] 24)).alloc (.cells #[.slice A' h'.length c', .slice B' l'.length d'] 24) |>.alloc (.cells #[.slice none 0 0, .slice none 0 0] 24)) wr := bel_step hb1 hbl
      obtain ⟨y1, y2, y3, y4⟩ := HBox.out wr hbw
      by_cases hlt : nn < h'.length
      · have HH2 : Hid (H + l.length = h.length + (m + 1) * l.length) := by show _ = _; rw [Nat.succ_mul, HH.out, Nat.add_assoc]
        have HN2 : Hid (nn + kk = kh + (m + 1) * kk) := by show _ = _; rw [Nat.succ_mul, HN.out, Nat.add_assoc]
        go_wp2
        go_roundw
        case rel => exact ⟨m + 1, H + l.length, nn + kk, by omega, by omega, by omega, by omega, by go_num, by go_num, HH2, HN2, (by repeat (first | (with_reducible exact Below.refl _ _) | (with_reducible assumption) | (with_reducible exact bel_box _) | (with_reducible refine bel_step ?_ (by with_reducible assumption)) | (with_reducible refine Below.drew ?_) | (with_reducible refine below_drewN ?_ _) | (with_reducible refine bel_alloc ?_ _)))⟩
        case measure => simp [intOf]; omega
      · have hr := hron.out m p hpp (fun _ => by unfold turns; rw [HKH.out, HKK.out, ← HN.out]; omega) (fun _ => by rw [HKK.out]; exact HPK.out)
        rw [← HH.out, HP.out] at hr
        have hpl := Lib.hid hr.1
        have hlc := Lib.hid hr.2
        have hH2 : H ≤ 4160 := by omega
        clear hr hron HH HN
        go_wp2
        go_quiet ((go_at_call 48; exact Calls.quiet_of (kg.out _)))
        obtain ⟨P2, hP2⟩ : ∃ P2, P2 = 2 * P := ⟨_, rfl⟩
        have eP2 : (2 * (P : Int)) = (P2 : Int) := by omega
        obtain ⟨N, hN⟩ : ∃ N, N = H + P2 := ⟨_, rfl⟩
        have eN : (H : Int) + (P2 : Int) = (N : Int) := by omega
        have hN1 : N ≤ 65536 := by omega
        have sho : Hid (∀ (V : Option Addr) (cv : Nat) W, Rd W W.heap.size V (bls (fL (onF h l h' l') N)) → N ≤ cv → Calls Try.prog 40 #[.slice V N cv, .int .i64 (H : Nat), .int .i64 (P : Nat)] W (NewW X Y W)) := fun V cv W h1 h2 => by
          have := rshortest_any V cv H P N (onF h l h' l') W h1 (by omega) (by omega) h2 hP0 hpl.out
          rwa [hlc.out] at this
        clear hN hP2
        go_wp2
        go_loopw [11, 12, 13] (fun v n i wr => ∃ k : Nat, k ≤ N ∧ i = .int .i64 k ∧ n = .int .i64 (oc h l k : Nat) ∧ wr.ownsRow w1.heap.size 4 1 v k (bls (fL (onF h l h' l') k)) ∧ Below w1.heap.size w1 wr) (fun _ _ i _ => N - (intOf i).toNat)
        case atStart => exact ⟨0, by omega, rfl, rfl, World.ownsRow_nil _ _ _ _, (by repeat (first | (with_reducible exact Below.refl _ _) | (with_reducible assumption) | (with_reducible exact bel_box _) | (with_reducible refine bel_step ?_ (by with_reducible assumption)) | (with_reducible refine Below.drew ?_) | (with_reducible refine below_drewN ?_ _) | (with_reducible refine bel_alloc ?_ _)))⟩
        case round =>
          obtain ⟨k, hk, rfl, rfl, hown, hbl⟩ := hrel
          have hbw : Below ((w.alloc (.cells #[.slice A h.length c, .slice B l.length d] 24)).alloc (.cells #[.slice A' h'.length c', .slice B' l'.length d'] 24) |>.alloc (.cells #[.slice none 0 0, .slice none 0 0] 24)).heap.size ((w.alloc (.cells #[.slice A h.length c, .slice B l.length d] 24)).alloc (.cells #[.slice A' h'.length c', .slice B' l'.length d'] 24) |>.alloc (.cells #[.slice none 0 0, .slice none 0 0] 24)) wr := bel_step hb1 hbl
          obtain ⟨y1, y2, y3, y4⟩ := HBox.out wr hbw
          have HOW := Lib.hid hown
          clear hown
          have hoc := oc_le h l k
          by_cases hlt : k < N
          · obtain ⟨x, hx⟩ : ∃ x, lt h l k = x := ⟨_, rfl⟩
            obtain ⟨y, hy⟩ : ∃ y, lt h' l' (oc h l k) = y := ⟨_, rfl⟩
            have HX := Lib.hid hx
            have HY := Lib.hid hy
            have hset := fL_succ (onF h l h' l') k
            simp only [onF, hx, hy] at hset
            have HSET := Lib.hid hset
            have hos : oc h l (k + 1) = oc h l k + if x then 1 else 0 := by rw [oc, hx]
            have HOS := Lib.hid hos
            clear hx hy hset hos
            cases x
            all_goals
              go_wp2_with (first
                | (go_at_call_of 35 (Value.agg #[Value.slice A h.length c, Value.slice B l.length d]); refine (rletter_any A B c d k h l _ (HA.out.to ?_) (HB.out.to ?_) g1.1 hh hl (by omega)).mono ?_; (focus ((repeat (first | (with_reducible exact Below.refl _ _) | (with_reducible assumption) | (with_reducible exact bel_box _) | (with_reducible refine bel_step ?_ (by with_reducible assumption)) | (with_reducible refine Below.drew ?_) | (with_reducible refine below_drewN ?_ _) | (with_reducible refine bel_alloc ?_ _))); done)); (focus ((repeat (first | (with_reducible exact Below.refl _ _) | (with_reducible assumption) | (with_reducible exact bel_box _) | (with_reducible refine bel_step ?_ (by with_reducible assumption)) | (with_reducible refine Below.drew ?_) | (with_reducible refine below_drewN ?_ _) | (with_reducible refine bel_alloc ?_ _))); done)); rintro e w3 ⟨rfl, hb3⟩; rw [HX.out]; obtain ⟨z1, z2, z3, z4⟩ := HBox.out w3 (bel_step hbw hb3); have HO3 := Lib.hid (own_keep HOW.out hb3); have hsz3 : w1.heap.size ≤ w3.heap.size := Nat.le_trans hbl.size hb3.size)
                | (go_at_call 35; refine (rletter_any A' B' c' d' (oc h l k) h' l' _ (HA'.out.to ?_) (HB'.out.to ?_) g2.1 hh' hl' (by omega)).mono ?_; (focus ((repeat (first | (with_reducible exact Below.refl _ _) | (with_reducible assumption) | (with_reducible exact bel_box _) | (with_reducible refine bel_step ?_ (by with_reducible assumption)) | (with_reducible refine Below.drew ?_) | (with_reducible refine below_drewN ?_ _) | (with_reducible refine bel_alloc ?_ _))); done)); (focus ((repeat (first | (with_reducible exact Below.refl _ _) | (with_reducible assumption) | (with_reducible exact bel_box _) | (with_reducible refine bel_step ?_ (by with_reducible assumption)) | (with_reducible refine Below.drew ?_) | (with_reducible refine below_drewN ?_ _) | (with_reducible refine bel_alloc ?_ _))); done)); rintro e w4 ⟨rfl, hb4⟩; rw [HY.out]; have HO4 := Lib.hid (own_keep HO3.out hb4); have hsz4 : w1.heap.size ≤ w4.heap.size := Nat.le_trans hsz3 hb4.size)
                | (at_builtin; refine wpList_append_rd _ rfl _ _ 22 rfl w1.heap.size 4 i0 (.bool false) 1 Try.underlying22 hi iz is ib rfl _ k (bls (fL (onF h l h' l') k)) rfl (HO4.out.alloc _) (w4.heap.size + 1) _ 1 1 _ rfl rfl (Rd.one_new _ _ _) (one_cell_bool _) (by unfold maxLen; omega) (by omega) (by simp; omega) ?_; intro v1 w5 hown1 hgrow1 hat1)
                | (at_builtin; refine wpList_append_rd _ rfl _ _ 22 rfl w1.heap.size 4 i0 (.bool false) 1 Try.underlying22 hi iz is ib rfl _ k (bls (fL (onF h l h' l') k)) rfl (HO3.out.alloc _) (w3.heap.size + 1) _ 1 1 _ rfl rfl (Rd.one_new _ _ _) (one_cell_bool _) (by unfold maxLen; omega) (by omega) (by simp; omega) ?_; intro v1 w5 hown1 hgrow1 hat1))
            · have hb5 := grow_one hsz3 HO3.out hgrow1
              have hs5 : bls (fL (onF h l h' l') (k + 1)) = bls (fL (onF h l h' l') k) ++ [.bool false] := by rw [HSET.out, bls_snoc]; rfl
              rw [← hs5] at hown1
              go_roundw
              case rel => exact ⟨k + 1, by omega, by go_num, by rw [HOS.out]; rfl, hown1, hbl.trans ((hb3.mono hbl.size).trans hb5)⟩
              case measure => simp [intOf]; omega
            · have hb5 := grow_one hsz4 HO4.out hgrow1
              have hs5 : bls (fL (onF h l h' l') (k + 1)) = bls (fL (onF h l h' l') k) ++ [.bool y] := by rw [HSET.out, bls_snoc]; simp
              rw [← hs5] at hown1
              go_roundw
              case rel => exact ⟨k + 1, by omega, by go_num, by rw [HOS.out]; simp, hown1, hbl.trans ((hb3.mono hbl.size).trans ((hb4.mono hsz3).trans hb5))⟩
              case measure => simp [intOf]; omega
          · obtain rfl : k = N := by omega
            have hr0 : wr.cell? ⟨w.heap.size + 2, 0, none⟩ = some (.slice none 0 0) := (hbw.cell (p := ⟨w.heap.size + 2, 0, none⟩) (by simp)).trans (by simp [go_sem])
            have hr1 : wr.cell? ⟨w.heap.size + 2, 1, none⟩ = some (.slice none 0 0) := (hbw.cell (p := ⟨w.heap.size + 2, 1, none⟩) (by simp)).trans (by simp [go_sem])
            have hr3 : wr.frozen? ⟨w.heap.size + 2, 0, none⟩ = false := (hbw.frozen (p := ⟨w.heap.size + 2, 0, none⟩) (by simp)).trans (by simp [go_sem])
            have hr4 : wr.frozen? ⟨w.heap.size + 2, 1, none⟩ = false := (hbw.frozen (p := ⟨w.heap.size + 2, 1, none⟩) (by simp)).trans (by simp [go_sem])
            have hres := res4_of hr0 hr1 hr3 hr4
            clear hr0 hr1 hr3 hr4
            obtain ⟨VL, cvl, hvl⟩ := own_form HOW.out
            subst hvl
            have hRL := Lib.hid (Rd.of_own HOW.out)
            have hcl : k ≤ cvl := own_cap HOW.out
            have hsz4 : w.heap.size + 3 ≤ wr.heap.size := Nat.le_trans hsz1 hbl.size
            go_wp2_with (first
              | (go_at_call 40; refine (sho.out _ _ _ (hto hRL ?_) hcl).mono ?_; (focus ((repeat (first | (with_reducible exact Below.refl _ _) | (with_reducible assumption) | (with_reducible exact bel_box _) | (with_reducible refine bel_step ?_ (by with_reducible assumption)) | (with_reducible refine Below.drew ?_) | (with_reducible refine below_drewN ?_ _) | (with_reducible refine bel_alloc ?_ _))); done)); rintro e w6 ⟨V1, V2, cv1, cv2, rfl, hR1, hR2, hv1, hv2, hb6, hn1, hn2⟩; have HR1 := Lib.hid hR1; have HR2 := Lib.hid hR2; clear hR1 hR2)
              | (go_at_call 49; refine (fi.out _ _ _ _ _ (hto HR1 ?_) (hto HR2 ?_) hv1 hv2 (w.heap.size + 3) (hn1.mono hsz4) (hn2.mono hsz4)).mono ?_; (focus ((repeat (first | (with_reducible exact Below.refl _ _) | (with_reducible assumption) | (with_reducible exact bel_box _) | (with_reducible refine bel_step ?_ (by with_reducible assumption)) | (with_reducible refine Below.drew ?_) | (with_reducible refine below_drewN ?_ _) | (with_reducible refine bel_alloc ?_ _))); done)); (focus ((repeat (first | (with_reducible exact Below.refl _ _) | (with_reducible assumption) | (with_reducible exact bel_box _) | (with_reducible refine bel_step ?_ (by with_reducible assumption)) | (with_reducible refine Below.drew ?_) | (with_reducible refine below_drewN ?_ _) | (with_reducible refine bel_alloc ?_ _))); done)); rintro e w7 ⟨V3, V4, cv3, cv4, rfl, hR3, hR4, hv3, hv4, hb7, hn3, hn4⟩; have HR3 := Lib.hid hR3; have HR4 := Lib.hid hR4; clear hR3 hR4; have hw7 := res4_below (W' := w7) hres (by repeat (first | (with_reducible exact Below.refl _ _) | (with_reducible assumption) | (with_reducible exact bel_box _) | (with_reducible refine bel_step ?_ (by with_reducible assumption)) | (with_reducible refine Below.drew ?_) | (with_reducible refine below_drewN ?_ _) | (with_reducible refine bel_alloc ?_ _))); obtain ⟨z1, z2, z3, z4⟩ := id hw7))
            obtain ⟨k0, k1⟩ := set2_cells hw7.1 hw7.2.1 (.slice V3 F1.length cv3) (.slice V4 F2.length cv4)
            refine bodyPost_ret (v := .tuple #[.agg #[.slice V3 F1.length cv3, .slice V4 F2.length cv4], .int .i64 E]) (by simp [results, Try.results29, go_sem, k0, k1]) rfl ?_
            exact ⟨V3, V4, cv3, cv4, rfl, HR3.out.set2_lo hn3 (by omega) _ _, HR4.out.set2_lo hn4 (by omega) _ _, hv3, hv4, bel_set2 (by repeat (first | (with_reducible exact Below.refl _ _) | (with_reducible assumption) | (with_reducible exact bel_box _) | (with_reducible refine bel_step ?_ (by with_reducible assumption)) | (with_reducible refine Below.drew ?_) | (with_reducible refine below_drewN ?_ _) | (with_reducible refine bel_alloc ?_ _))) (by omega) _ _, hn3.mono (by omega), hn4.mono (by omega)⟩
/-- And and On of the reference, whatever they are given -/
theorem rand_bad (A B A' B' : Option Addr) (c d c' d' : Nat) (h l h' l' : List Bool) (w : World)
    (hh : h.length ≤ 140737488355328) (hl : l.length ≤ 140737488355328) (hh' : h'.length ≤ 140737488355328) (hl' : l'.length ≤ 140737488355328) (hck : ¬ ck2 h l h' l' = 0) :
    Calls Try.prog 27 #[.agg #[.slice A h.length c, .slice B l.length d], .agg #[.slice A' h'.length c', .slice B' l'.length d']] w (NewWE ([], []) (ck2 h l h' l') w) := by
  have hd : (ck2 h l h' l' != 0) = true := by simpa using hck
  have bo := Lib.hid (rboth_any A B A' B' c d c' d' h l h' l')
  generalize ck2 h l h' l' = er at *
  clear hck
  go_enter Try.func27, Try.ntmps27
  go_wp2_with (go_at_call 47; refine (bo.out _ hh hl hh' hl').mono ?_; rintro e w1 ⟨rfl, hb1⟩; obtain ⟨hr0, hr1, hr2, hr3⟩ := box3r hb1)
  obtain ⟨k0, k1⟩ := set2_cells hr0 hr1 (.slice none 0 0) (.slice none 0 0)
  refine bodyPost_ret (v := .tuple #[.agg #[.slice none 0 0, .slice none 0 0], .int .i64 er]) (by simp [results, Try.results27, go_sem, k0, k1]) rfl ?_
  exact ⟨none, none, 0, 0, rfl, Rd.nil _ _ _, Rd.nil _ _ _, Nat.zero_le _, Nat.zero_le _, bel_set2 (by repeat (first | (with_reducible exact Below.refl _ _) | (with_reducible assumption) | (with_reducible exact bel_box _) | (with_reducible refine bel_step ?_ (by with_reducible assumption)) | (with_reducible refine Below.drew ?_) | (with_reducible refine below_drewN ?_ _) | (with_reducible refine bel_alloc ?_ _))) (by omega) _ _, Nw.nil _ _, Nw.nil _ _⟩
theorem ron_bad (A B A' B' : Option Addr) (c d c' d' : Nat) (h l h' l' : List Bool) (w : World)
    (hh : h.length ≤ 140737488355328) (hl : l.length ≤ 140737488355328) (hh' : h'.length ≤ 140737488355328) (hl' : l'.length ≤ 140737488355328) (hck : ¬ ck2 h l h' l' = 0) :
    Calls Try.prog 29 #[.agg #[.slice A h.length c, .slice B l.length d], .agg #[.slice A' h'.length c', .slice B' l'.length d']] w (NewWE ([], []) (ck2 h l h' l') w) := by
  have hd : (ck2 h l h' l' != 0) = true := by simpa using hck
  have bo := Lib.hid (rboth_any A B A' B' c d c' d' h l h' l')
  generalize ck2 h l h' l' = er at *
  clear hck
  go_enter Try.func29, Try.ntmps29
  go_wp2_with (go_at_call 47; refine (bo.out _ hh hl hh' hl').mono ?_; rintro e w1 ⟨rfl, hb1⟩; obtain ⟨hr0, hr1, hr2, hr3⟩ := box3r hb1)
  obtain ⟨k0, k1⟩ := set2_cells hr0 hr1 (.slice none 0 0) (.slice none 0 0)
  refine bodyPost_ret (v := .tuple #[.agg #[.slice none 0 0, .slice none 0 0], .int .i64 er]) (by simp [results, Try.results29, go_sem, k0, k1]) rfl ?_
  exact ⟨none, none, 0, 0, rfl, Rd.nil _ _ _, Rd.nil _ _ _, Nat.zero_le _, Nat.zero_le _, bel_set2 (by repeat (first | (with_reducible exact Below.refl _ _) | (with_reducible assumption) | (with_reducible exact bel_box _) | (with_reducible refine bel_step ?_ (by with_reducible assumption)) | (with_reducible refine Below.drew ?_) | (with_reducible refine below_drewN ?_ _) | (with_reducible refine bel_alloc ?_ _))) (by omega) _ _, Nw.nil _ _, Nw.nil _ _⟩
theorem rand_any (A B A' B' : Option Addr) (c d c' d' : Nat) (h l h' l' : List Bool) (w : World) (hA : Rd w w.heap.size A (bls h)) (hB : Rd w w.heap.size B (bls l)) (hA' : Rd w w.heap.size A' (bls h')) (hB' : Rd w w.heap.size B' (bls l'))
    (hh : h.length ≤ 140737488355328) (hl : l.length ≤ 140737488355328) (hh' : h'.length ≤ 140737488355328) (hl' : l'.length ≤ 140737488355328) :
    Calls Try.prog 27 #[.agg #[.slice A h.length c, .slice B l.length d], .agg #[.slice A' h'.length c', .slice B' l'.length d']] w (NewWE (andR h l h' l') (andE h l h' l') w) := by
  by_cases e : ck2 h l h' l' = 0
  · rw [andR, andE, if_pos e, if_pos e]
    exact rand_good A B A' B' c d c' d' h l h' l' w hA hB hA' hB' hh hl hh' hl' e
  · rw [andR, andE, if_neg e, if_neg e]
    exact rand_bad A B A' B' c d c' d' h l h' l' w hh hl hh' hl' e
theorem ron_any (A B A' B' : Option Addr) (c d c' d' : Nat) (h l h' l' : List Bool) (w : World) (hA : Rd w w.heap.size A (bls h)) (hB : Rd w w.heap.size B (bls l)) (hA' : Rd w w.heap.size A' (bls h')) (hB' : Rd w w.heap.size B' (bls l'))
    (hh : h.length ≤ 140737488355328) (hl : l.length ≤ 140737488355328) (hh' : h'.length ≤ 140737488355328) (hl' : l'.length ≤ 140737488355328) :
    Calls Try.prog 29 #[.agg #[.slice A h.length c, .slice B l.length d], .agg #[.slice A' h'.length c', .slice B' l'.length d']] w (NewWE (onR h l h' l') (onE h l h' l') w) := by
  by_cases e : ck2 h l h' l' = 0
  · rw [onR, onE, if_pos e, if_pos e]
    exact ron_good A B A' B' c d c' d' h l h' l' w hA hB hA' hB' hh hl hh' hl' e
  · rw [onR, onE, if_neg e, if_neg e]
    exact ron_bad A B A' B' c d c' d' h l h' l' w hh hl hh' hl' e
end Go.Proofs.Ytimecbkfeennpaa
