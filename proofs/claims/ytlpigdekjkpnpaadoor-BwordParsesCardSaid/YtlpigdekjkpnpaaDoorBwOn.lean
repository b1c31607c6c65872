/- On of package bword. -/
import Derived.Test.YtlpigdekjkpnpaaDoorBwAnd
namespace Go.Proofs.YtlpigdekjkpnpaaDoor
set_option linter.unusedVariables false
set_option linter.unusedSimpArgs false
open Go.RowKit
/-- the number of ones among the first k letters -/
def oc (h l : List Bool) : Nat → Nat
  | 0 => 0
  | k + 1 => oc h l k + if lt h l k then 1 else 0
theorem oc_le (h l : List Bool) (k : Nat) : oc h l k ≤ k := by
  induction k with
  | zero => simp [oc]
  | succ k ih => simp only [oc]; split <;> omega
def onF (h l h' l' : List Bool) (i : Nat) : Bool := lt h l i && lt h' l' (oc h l i)
def onH (h l h' : List Bool) : Nat := h.length + h'.length * l.length
def onW (h l h' l' : List Bool) : List Bool × List Bool := nf (onF h l h' l') (onH h l h') (l.length * l'.length)
/-- ones in whole turns -/
theorem oc_turn (h l : List Bool) (m : Nat) : ∀ i, h.length ≤ i → oc h l (i + m * l.length) = oc h l i + m * (oc h l (h.length + l.length) - oc h l h.length) := by
  have shift : ∀ j, oc h l (h.length + l.length + j) + oc h l h.length = oc h l (h.length + l.length) + oc h l (h.length + j) := by
    intro j
    induction j with
    | zero => simp
    | succ j ih =>
      have e := per_lt h l (h.length + j) (by omega)
      rw [← Nat.add_assoc, ← Nat.add_assoc]
      simp only [oc]
      rw [show h.length + l.length + j = h.length + j + l.length by omega] at ih ⊢
      rw [e]
      omega
  have one : ∀ i, h.length ≤ i → oc h l (i + l.length) = oc h l i + (oc h l (h.length + l.length) - oc h l h.length) := by
    intro i hi
    obtain ⟨j, rfl⟩ : ∃ j, i = h.length + j := ⟨i - h.length, by omega⟩
    have s := shift j
    have s0 : oc h l h.length ≤ oc h l (h.length + l.length) := by
      generalize l.length = n
      induction n with
      | zero => simp
      | succ n ih => rw [← Nat.add_assoc]; simp only [oc]; omega
    rw [show h.length + j + l.length = h.length + l.length + j by omega]
    omega
  induction m with
  | zero => intro i _; simp
  | succ m ih =>
    intro i hi
    rw [Nat.succ_mul, ← Nat.add_assoc, one _ (by omega), ih i hi, Nat.succ_mul]
    omega
theorem per_on (h l h' l' : List Bool) : per (onF h l h' l') (onH h l h') (l.length * l'.length) := by
  intro i hi
  unfold onH at hi
  have hih : h.length ≤ i := by omega
  have e1 : lt h l (i + l.length * l'.length) = lt h l i := by
    have := per_mul (per_lt h l) l'.length i hih
    rwa [Nat.mul_comm l'.length] at this
  have e2 := oc_turn h l l'.length i hih
  show (lt h l _ && lt h' l' _) = (lt h l _ && lt h' l' _)
  rw [e1, show i + l.length * l'.length = i + l'.length * l.length by rw [Nat.mul_comm l.length], e2]
  generalize hq : oc h l (h.length + l.length) - oc h l h.length = q
  rcases Nat.eq_zero_or_pos q with h0 | h0
  · rw [h0]; simp
  · congr 1
    have big : h'.length ≤ oc h l i := by
      have hj := oc_turn h l h'.length h.length (Nat.le_refl _)
      rw [hq] at hj
      have mono : ∀ a b, oc h l a ≤ oc h l (a + b) := by
        intro a b
        induction b with
        | zero => simp
        | succ b ih => rw [← Nat.add_assoc]; simp only [oc]; omega
      have := mono (h.length + h'.length * l.length) (i - (h.length + h'.length * l.length))
      rw [show h.length + h'.length * l.length + (i - (h.length + h'.length * l.length)) = i by omega] at this
      have hm : h'.length ≤ h'.length * q := Nat.le_mul_of_pos_right _ h0
      omega
    have := per_mul (per_lt h' l') q (oc h l i) big
    rwa [Nat.mul_comm q] at this
theorem andK_skip {f : Nat → Bool} {n k : Nat} (hf : f k = false) : andK f n k = andK f n (k + 1) := by
  unfold andK
  apply List.map_congr_left
  intro i _
  by_cases e : i = k
  · subst e; simp [hf]
  · have ht : decide (i < k) = decide (i < k + 1) := by rw [decide_eq_decide]; omega
    rw [ht]
set_option maxHeartbeats 2000000 in
theorem on_any (A B A' B' : Option Addr) (c d c' d' : Nat) (h l h' l' : List Bool) (w : World) (hA : Rd w w.heap.size A (bls h)) (hB : Rd w w.heap.size B (bls l)) (hA' : Rd w w.heap.size A' (bls h')) (hB' : Rd w w.heap.size B' (bls l'))
    (hh : h.length ≤ 140737488355328) (hl : l.length ≤ 140737488355328) (hh' : h'.length ≤ 140737488355328) (hl' : l'.length ≤ 140737488355328) (hck : ck2 h l h' l' = 0) :
    Calls Tryd.prog 12 #[.agg #[.slice A h.length c, .slice B l.length d], .agg #[.slice A' h'.length c', .slice B' l'.length d']] w (NewWE (fit (onW h l h' l')) (fitE (onW h l h' l')) w) := by
  obtain ⟨i0, hi, iz, is, ib⟩ := info_parts Tryd.boolInfo
  have HA := Lib.hid hA
  have HB := Lib.hid hB
  have HA' := Lib.hid hA'
  have HB' := Lib.hid hB'
  have HCK := Lib.hid hck
  have hk1 : ck h l = 0 := by unfold ck2 at hck; split at hck <;> assumption
  have hk2 : ck h' l' = 0 := by unfold ck2 at hck; rw [if_pos hk1] at hck; exact hck
  have g1 := lens hk1
  have g2 := lens hk2
  obtain ⟨Pr, hPr⟩ : ∃ P, P = l.length * l'.length := ⟨_, rfl⟩
  have hPr1 : Pr ≤ 4096 := by rw [hPr]; exact Nat.le_trans (Nat.mul_le_mul (show l.length ≤ 64 by omega) (show l'.length ≤ 64 by omega)) (by decide)
  have hPr2 : 0 < Pr := by rw [hPr]; exact Nat.mul_pos g1.1 g2.1
  have eP : (l.length : Int) * (l'.length : Int) = (Pr : Int) := by rw [← Int.natCast_mul, ← hPr]
  obtain ⟨Q, hQ⟩ : ∃ Q, Q = h'.length * l.length := ⟨_, rfl⟩
  have hQ1 : Q ≤ 4096 := by rw [hQ]; exact Nat.le_trans (Nat.mul_le_mul (show h'.length ≤ 64 by omega) (show l.length ≤ 64 by omega)) (by decide)
  have eQ : (h'.length : Int) * (l.length : Int) = (Q : Int) := by rw [← Int.natCast_mul, ← hQ]
  obtain ⟨H, hH⟩ : ∃ H, H = h.length + Q := ⟨_, rfl⟩
  have hH1 : H ≤ 4160 := by omega
  have eH : (h.length : Int) + (Q : Int) = (H : Int) := by omega
  obtain ⟨n, hn⟩ : ∃ n, n = H + Pr := ⟨_, rfl⟩
  have en : (H : Int) + (Pr : Int) = (n : Int) := by omega
  have hn1 : n ≤ 8256 := by omega
  have HN : Hid (n = H + l.length * l'.length) := by show _ = _; rw [hn, hPr]
  have HH : Hid (H = onH h l h') := by show _ = _; rw [hH, hQ, onH]
  clear hn hH hPr hQ
  have bo := Lib.hid (both_any A B A' B' c d c' d' h l h' l')
  have HBox : Hid (∀ W, Below ((w.alloc (.cells #[.slice A h.length c, .slice B l.length d] 24)).alloc (.cells #[.slice A' h'.length c', .slice B' l'.length d'] 24) |>.alloc (.cells #[.slice none 0 0, .slice none 0 0] 24)).heap.size ((w.alloc (.cells #[.slice A h.length c, .slice B l.length d] 24)).alloc (.cells #[.slice A' h'.length c', .slice B' l'.length d'] 24) |>.alloc (.cells #[.slice none 0 0, .slice none 0 0] 24)) W →
      W.cell? ⟨w.heap.size, 0, none⟩ = some (.slice A h.length c) ∧ W.cell? ⟨w.heap.size, 1, none⟩ = some (.slice B l.length d) ∧ W.cell? ⟨w.heap.size + 1, 0, none⟩ = some (.slice A' h'.length c') ∧ W.cell? ⟨w.heap.size + 1, 1, none⟩ = some (.slice B' l'.length d')) := by
    intro W hb
    refine ⟨(hb.cell (p := ⟨w.heap.size, 0, none⟩) (by simp; omega)).trans ?_, (hb.cell (p := ⟨w.heap.size, 1, none⟩) (by simp; omega)).trans ?_, (hb.cell (p := ⟨w.heap.size + 1, 0, none⟩) (by simp)).trans ?_, (hb.cell (p := ⟨w.heap.size + 1, 1, none⟩) (by simp)).trans ?_⟩ <;> simp [go_sem]
  clear hA hB hA' hB' hk1 hk2 hck
  go_enter Tryd.func12, Tryd.ntmps12
  go_wp2_with (first
    | (go_at_call 26; refine (bo.out _ hh hl hh' hl').mono ?_; rintro e w1 ⟨rfl, hb1⟩; rw [HCK.out]; obtain ⟨x1, x2, x3, x4⟩ := HBox.out w1 hb1)
    | (at_make; refine wpList_make_full _ rfl _ _ 22 rfl w1.heap.size 4 i0 (.bool false) 1 Tryd.underlying22 hi iz is _ _ _ _ n rfl rfl rfl rfl (by rw [ib]; omega) (by unfold maxLen; omega) (Nat.le_refl _) ?_; intro w2 hown2 hgrow2))
  have hb2 : Below w1.heap.size w1 w2 := (Below.refl _ _).grown hgrow2 (Nat.le_refl _) (fun k hk => by cases hk)
  rw [andK_zero (onF h l h' l') n] at hown2
  have HO2 := Lib.hid hown2
  clear hown2 hgrow2
  go_loopw [9, 10, 41] (fun o u i wr => ∃ k : Nat, k ≤ n ∧ i = .int .i64 k ∧ o = .int .i64 (oc h l k : Nat) ∧ wr.ownsRow w1.heap.size 4 1 (.slice (some ⟨w1.heap.size, 0, none⟩) n n) n (bls (andK (onF h l h' l') n k)) ∧ Below w1.heap.size w1 wr) (fun _ _ i _ => n - (intOf i).toNat)
  case atStart => exact ⟨0, by omega, rfl, rfl, HO2.out, hb2⟩
  case round =>
    obtain ⟨k, hk, rfl, rfl, hown, hbl⟩ := hrel
    have hbw : Below ((w.alloc (.cells #[.slice A h.length c, .slice B l.length d] 24)).alloc (.cells #[.slice A' h'.length c', .slice B' l'.length d'] 24) |>.alloc (.cells #[.slice none 0 0, .slice none 0 0] 24)).heap.size ((w.alloc (.cells #[.slice A h.length c, .slice B l.length d] 24)).alloc (.cells #[.slice A' h'.length c', .slice B' l'.length d'] 24) |>.alloc (.cells #[.slice none 0 0, .slice none 0 0] 24)) wr := bel_step hb1 hbl
    obtain ⟨y1, y2, y3, y4⟩ := HBox.out wr hbw
    have HOW := Lib.hid hown
    clear hown
    have hoc := oc_le h l k
    by_cases hlt : k < n
    · obtain ⟨x, hx⟩ : ∃ x, lt h l k = x := ⟨_, rfl⟩
      obtain ⟨y, hy⟩ : ∃ y, lt h' l' (oc h l k) = y := ⟨_, rfl⟩
      have HX := Lib.hid hx
      have HY := Lib.hid hy
      have hset := andK_set (onF h l h' l') n k hlt
      simp only [onF, hx, hy] at hset
      have HSET := Lib.hid hset
      have hfk : (onF h l h' l') k = (x && y) := by simp only [onF, hx, hy]
      have HFK := Lib.hid hfk
      have hos : oc h l (k + 1) = oc h l k + if x then 1 else 0 := by rw [oc, hx]
      have HOS := Lib.hid hos
      clear hx hy hset hfk hos
      cases x
      all_goals
        go_wp2_with (first
          | (go_at_call_of 27 (Value.agg #[Value.slice A h.length c, Value.slice B l.length d]); refine (letter_any A B c d k h l _ (HA.out.to ?_) (HB.out.to ?_) g1.1 hh hl (by omega)).mono ?_; (focus ((repeat (first | (with_reducible exact Below.refl _ _) | (with_reducible assumption) | (with_reducible exact bel_box _) | (with_reducible refine bel_step ?_ (by with_reducible assumption)) | (with_reducible refine Below.drew ?_) | (with_reducible refine below_drewN ?_ _) | (with_reducible refine bel_alloc ?_ _))); done)); (focus ((repeat (first | (with_reducible exact Below.refl _ _) | (with_reducible assumption) | (with_reducible exact bel_box _) | (with_reducible refine bel_step ?_ (by with_reducible assumption)) | (with_reducible refine Below.drew ?_) | (with_reducible refine below_drewN ?_ _) | (with_reducible refine bel_alloc ?_ _))); done)); rintro e w3 ⟨rfl, hb3⟩; rw [HX.out]; obtain ⟨z1, z2, z3, z4⟩ := HBox.out w3 (bel_step hbw hb3); have ho3 := own_keep HOW.out hb3; have HO3 := Lib.hid ho3; clear ho3)
          | (go_at_call 27; refine (letter_any A' B' c' d' (oc h l k) h' l' _ (HA'.out.to ?_) (HB'.out.to ?_) g2.1 hh' hl' (by omega)).mono ?_; (focus ((repeat (first | (with_reducible exact Below.refl _ _) | (with_reducible assumption) | (with_reducible exact bel_box _) | (with_reducible refine bel_step ?_ (by with_reducible assumption)) | (with_reducible refine Below.drew ?_) | (with_reducible refine below_drewN ?_ _) | (with_reducible refine bel_alloc ?_ _))); done)); (focus ((repeat (first | (with_reducible exact Below.refl _ _) | (with_reducible assumption) | (with_reducible exact bel_box _) | (with_reducible refine bel_step ?_ (by with_reducible assumption)) | (with_reducible refine Below.drew ?_) | (with_reducible refine below_drewN ?_ _) | (with_reducible refine bel_alloc ?_ _))); done)); rintro e w4 ⟨rfl, hb4⟩; rw [HY.out]; have ho4 := own_keep HO3.out hb4; have hc4 := (ho4.cellAt k (by omega)).trans (andK_get _ n k k hlt); have hf4 := ho4.frozenAt k; have HO4 := Lib.hid ho4; clear ho4))
      · go_roundw
        case rel =>
          refine ⟨k + 1, by omega, by go_num, by rw [HOS.out]; rfl, ?_, bel_step hbl hb3⟩
          rw [← andK_skip (f := (onF h l h' l')) (n := n) (k := k) (by rw [HFK.out]; rfl)]
          exact HO3.out
        case measure => simp [intOf]; omega
      · have hst := (HO4.out.stored k (.bool (true && y))).1
        rw [HSET.out] at hst
        go_roundw
        case rel => exact ⟨k + 1, by omega, by go_num, by rw [HOS.out]; simp, hst, (bel_step (bel_step hbl hb3) hb4).setCell (p := ⟨w1.heap.size, k, none⟩) (Nat.le_refl _) _⟩
        case measure => simp [intOf]; omega
    · obtain rfl : k = n := by omega
      have hr0 : wr.cell? ⟨w.heap.size + 2, 0, none⟩ = some (.slice none 0 0) := (hbw.cell (p := ⟨w.heap.size + 2, 0, none⟩) (by simp)).trans (by simp [go_sem])
      have hr1 : wr.cell? ⟨w.heap.size + 2, 1, none⟩ = some (.slice none 0 0) := (hbw.cell (p := ⟨w.heap.size + 2, 1, none⟩) (by simp)).trans (by simp [go_sem])
      have hr3 : wr.frozen? ⟨w.heap.size + 2, 0, none⟩ = false := (hbw.frozen (p := ⟨w.heap.size + 2, 0, none⟩) (by simp)).trans (by simp [go_sem])
      have hr4 : wr.frozen? ⟨w.heap.size + 2, 1, none⟩ = false := (hbw.frozen (p := ⟨w.heap.size + 2, 1, none⟩) (by simp)).trans (by simp [go_sem])
      have hres := res4_of hr0 hr1 hr3 hr4
      clear hr0 hr1 hr3 hr4
      have b1 : (0 : Int) ≤ (H : Int) := by omega
      have b2 : (H : Int) ≤ (k : Int) := by omega
      have b3 : ¬ k = H := by omega
      have hRL := Lib.hid (Rd.of_own HOW.out)
      have hkP : k = H + l.length * l'.length := HN.out
      have hPp := Nat.mul_pos g1.1 g2.1
      have L1 : ((andK (onF h l h' l') k k).take H).length = H := by rw [List.length_take, andK_length]; omega
      have L2 : ((andK (onF h l h' l') k k).drop H).length = k - H := by rw [List.length_drop, andK_length]
      have L3 : 0 < k - H := by omega
      have RD2 : Hid (Rd wr wr.heap.size (some ⟨w1.heap.size, H, none⟩) (bls ((andK (onF h l h' l') k k).drop H))) := by
        have h := hRL.out.drop_some H
        rw [add_off] at h
        exact h
      have NF : Hid (nfw ((andK (onF h l h' l') k k).take H) ((andK (onF h l h' l') k k).drop H) = onW h l h' l') := by
        show _ = _
        rw [hkP, nf_cut (by have := per_on h l h' l'; rwa [← HH.out] at this) hPp, onW, ← HH.out]
      clear hkP hPp
      go_wp2
      go_region_held3 (fun w' => w'.cell? ⟨w.heap.size + 2, 0, none⟩ = some (rc w' (w.heap.size + 2) 0) ∧ w'.cell? ⟨w.heap.size + 2, 1, none⟩ = some (rc w' (w.heap.size + 2) 1) ∧ w'.frozen? ⟨w.heap.size + 2, 0, none⟩ = false ∧ w'.frozen? ⟨w.heap.size + 2, 1, none⟩ = false)
        (first
          | (refine res4_below hres ?_; (repeat (first | (with_reducible exact Below.refl _ _) | (with_reducible assumption) | (with_reducible exact bel_box _) | (with_reducible refine bel_step ?_ (by with_reducible assumption)) | (with_reducible refine Below.drew ?_) | (with_reducible refine below_drewN ?_ _) | (with_reducible refine bel_alloc ?_ _))); done)
          | (refine res4_set (res4_below hres ?_) _ _; (repeat (first | (with_reducible exact Below.refl _ _) | (with_reducible assumption) | (with_reducible exact bel_box _) | (with_reducible refine bel_step ?_ (by with_reducible assumption)) | (with_reducible refine Below.drew ?_) | (with_reducible refine below_drewN ?_ _) | (with_reducible refine bel_alloc ?_ _))); done))
        (first
          | (go_at_call 28; refine (fitted_n _ _ H (k - H) k (k - H) ((andK (onF h l h' l') k k).take H) ((andK (onF h l h' l') k k).drop H) _ L1 L2 ((hRL.out.to ?_).cut _) (RD2.out.to ?_) (by omega) (by omega) (by omega) (Nat.le_refl _) L3).mono ?_; (focus ((repeat (first | (with_reducible exact Below.refl _ _) | (with_reducible assumption) | (with_reducible exact bel_box _) | (with_reducible refine bel_step ?_ (by with_reducible assumption)) | (with_reducible refine Below.drew ?_) | (with_reducible refine below_drewN ?_ _) | (with_reducible refine bel_alloc ?_ _))); done)); (focus ((repeat (first | (with_reducible exact Below.refl _ _) | (with_reducible assumption) | (with_reducible exact bel_box _) | (with_reducible refine bel_step ?_ (by with_reducible assumption)) | (with_reducible refine Below.drew ?_) | (with_reducible refine below_drewN ?_ _) | (with_reducible refine bel_alloc ?_ _))); done)); rintro e w5 ⟨V1, V2, cv1, cv2, rfl, hR1, hR2, hv1, hv2, hb5, hn1, hn2⟩; rw [NF.out] at hR1 hR2 hv1 hv2 hn1 hn2 ⊢; have HR1 := Lib.hid hR1; have HR2 := Lib.hid hR2; clear hR1 hR2))
      go_wp2
      have hw5 := res4_below (W' := w5) hres (by repeat (first | (with_reducible exact Below.refl _ _) | (with_reducible assumption) | (with_reducible exact bel_box _) | (with_reducible refine bel_step ?_ (by with_reducible assumption)) | (with_reducible refine Below.drew ?_) | (with_reducible refine below_drewN ?_ _) | (with_reducible refine bel_alloc ?_ _)))
      obtain ⟨k0, k1⟩ := set2_cells hw5.1 hw5.2.1 (.slice V1 (fit (onW h l h' l')).1.length cv1) (.slice V2 (fit (onW h l h' l')).2.length cv2)
      clear hw5
      refine bodyPost_ret (v := .tuple #[.agg #[.slice V1 (fit (onW h l h' l')).1.length cv1, .slice V2 (fit (onW h l h' l')).2.length cv2], .int .i64 (fitE (onW h l h' l'))]) (by simp [results, Tryd.results12, go_sem, k0, k1]) rfl ?_
      have q1 := hbw.size
      have q2 := hb5.size
      simp at q1 q2
      exact ⟨V1, V2, cv1, cv2, rfl, HR1.out.set2_lo hn1 (by simp; omega) _ _, HR2.out.set2_lo hn2 (by simp; omega) _ _, hv1, hv2, bel_set2 (by repeat (first | (with_reducible exact Below.refl _ _) | (with_reducible assumption) | (with_reducible exact bel_box _) | (with_reducible refine bel_step ?_ (by with_reducible assumption)) | (with_reducible refine Below.drew ?_) | (with_reducible refine below_drewN ?_ _) | (with_reducible refine bel_alloc ?_ _))) (by omega) _ _, hn1.mono (by simp; omega), hn2.mono (by simp; omega)⟩
end Go.Proofs.YtlpigdekjkpnpaaDoor
