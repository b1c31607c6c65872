import Derived.Lib.QuietBelow
import Derived.Test.YtoimjcfdiljkjaaGreatDoorQK
set_option linter.unusedVariables false
set_option linter.unusedSimpArgs false
namespace Go.Proofs.YtoimjcfdiljkjaaGreatDoor
open Go.RowKit Go.Sort
set_option maxHeartbeats 3000000 in
set_option maxRecDepth 20000 in
theorem rv_equation (E : Rw va.En) (q : Qt) (w : World) (hE : RsE w w.heap.size E) (hq : RsQ w w.heap.size q) (hsz : q.r.size ≤ 1048576) :
    Calls Tryz.prog 58 #[.slice E.A E.l.length E.c, qV q] w (Bel (.int .i64 (eqnE E.l q)) w) := by
  have KO : Hid (∀ y ∈ q.lf.l, ∀ W, Below w.heap.size w W → Calls Tryz.prog 96 #[.string y] W (Bel (.bool (idP y)) W)) := Lib.hid fun y hy W h => rv_ident y W (hq.1.2 y hy)
  have KE := Lib.hid (fun W (h : Below w.heap.size w W) => rv_expr E q.r W (hE.blw h h.size) (hq.2.blw h h.size) hsz)
  have h9 := hq.1.1.len
  unfold maxLen at h9
  have HR := Lib.hid hq.1.1
  unfold eqnE
  generalize expE E.l q.r = u at *
  simp only [xV] at KE
  clear hE hq hsz
  by_cases z0 : q.lf.l.length = 0
  · have q0 : ((q.lf.l.length : Int) == 0) = true := by simp [z0]
    rw [if_pos z0]
    clear z0
    go_enter Tryz.func58, Tryz.ntmps58
    go_wp2
    go_ret
    exact ⟨rfl, bl⟩
  have q0 : ((q.lf.l.length : Int) == 0) = false := by simp [z0]
  rw [if_neg z0]
  by_cases z1 : 64 < q.lf.l.length
  · have q1 : (64 : Int) < (q.lf.l.length : Int) := by omega
    rw [if_pos z1]
    clear z0 z1
    go_enter Tryz.func58, Tryz.ntmps58
    go_wp2
    go_ret
    exact ⟨rfl, bl⟩
  have q1 : (q.lf.l.length : Int) ≤ (64 : Int) := by omega
  rw [if_neg z1]
  clear z0 z1
  obtain ⟨F, hF0, hFl, HF⟩ := errs_steps q.lf.l (idE)
  rw [← hF0]
  obtain ⟨V, hV⟩ : ∃ V, F 0 = V := ⟨_, rfl⟩
  have HV := Lib.hid hV
  have HL := Lib.hid hFl
  rw [hV]
  clear hF0 hFl hV
  obtain ⟨T, hT⟩ : ∃ T, orE V (orE u (if 1 < q.lf.l.length ∧ q.r.k ≠ 10 then 5 else 0)) = T := ⟨_, rfl⟩
  have HT := Lib.hid hT
  rw [hT]
  clear hT
  go_enter Tryz.func58, Tryz.ntmps58
  go_wp2
  go_loopw [5] (fun i wr => ∃ k : Nat, k ≤ q.lf.l.length ∧ i = .int .i64 (k : Int) ∧ Hid (F k = V) ∧ Below ((w.alloc (.cells #[.slice q.lf.A q.lf.l.length q.lf.c, .int .i64 q.r.k, .int .i64 q.r.op, .int .i64 q.r.t, .int .i64 q.r.v, .string q.r.nm, .slice q.r.A q.r.ar.length q.r.c] 54))).heap.size ((w.alloc (.cells #[.slice q.lf.A q.lf.l.length q.lf.c, .int .i64 q.r.k, .int .i64 q.r.op, .int .i64 q.r.t, .int .i64 q.r.v, .string q.r.nm, .slice q.r.A q.r.ar.length q.r.c] 54))) wr) (fun i _ => q.lf.l.length - (intOf i).toNat)
  case atStart => exact ⟨0, by omega, rfl, HV, bl⟩
  case round =>
    obtain ⟨k, hk, rfl, hK, hbl⟩ := hrel
    obtain ⟨wr, rfl⟩ : ∃ wo : World, wo = wr := ⟨_, rfl⟩
    have hBW : Below w.heap.size w wr := bl
    obtain ⟨g0, g1, g2, g3, g4, g5, g6, g7⟩ := B1Q (w := w) (W := wr) q hbl
    by_cases hlt : k < q.lf.l.length
    · obtain ⟨ad, y, hA, had, hy, hm, c0⟩ := (HR.out.blw oneB_B hBW hBW.size).at_ hlt
      unfold BC at c0
      rw [Nat.mul_one] at c0
      rw [hA] at g0
      clear hA
      have hst := HF.out k y hy
      have KY := Lib.hid (KO.out y hm)
      clear hy hm HF
      unfold idE at hst
      generalize idP y = b at *
      cases b
      · rw [if_neg (by simp), orEn (by decide)] at hst
        have hv1 : 6 = V := hst.symm.trans hK.out
        have hT : T = 6 := by rw [← HT.out, ← hv1, orEn (by decide)]
        subst hT
        clear hst hK HV
        go_wp2_with (go_at_call 96; (with_reducible refine (KY.out _ ?_).mono ?_); (exact bl); rintro e w5 ⟨rfl, hb5⟩)
        go_ret
        exact ⟨rfl, bl⟩
      · rw [if_pos rfl, orE0] at hst
        have hn : Hid (F (k + 1) = V) := Lib.hid (hst.symm.trans hK.out)
        clear hst hK
        go_wp2_with (go_at_call 96; (with_reducible refine (KY.out _ ?_).mono ?_); (exact bl); rintro e w5 ⟨rfl, hb5⟩)
        exact ⟨⟨k + 1, by omega, by congr 1, hn, bl⟩, by simp [intOf]; omega⟩
    · obtain rfl : k = q.lf.l.length := by omega
      have hE0 : V = 0 := hK.out.symm.trans HL.out
      subst hE0
      clear hK HF HV HL hlt
      have HT' : orE u (if 1 < q.lf.l.length ∧ q.r.k ≠ 10 then 5 else 0) = T := by rw [← HT.out, orE0]
      clear HT
      by_cases hu : u = 0
      · subst hu
        rw [orE0] at HT'
        by_cases z2 : 1 < q.lf.l.length
        · have q2 : (1 : Int) < (q.lf.l.length : Int) := by omega
          by_cases z3 : q.r.k = 10
          · have q3 : (q.r.k == 10) = true := by simp [z3]
            have q4 : (q.r.k != 10) = false := by simp [z3]
            rw [if_neg (by intro h; exact h.2 z3)] at HT'
            subst HT'
            clear z2 z3
            go_wp2_with (first | (go_at_call 37; (with_reducible refine (KE.out _ ?_).mono ?_); (exact bl); rintro e w6 ⟨rfl, hb6⟩; obtain ⟨g0, g1, g2, g3, g4, g5, g6, g7⟩ := B1Q (w := w) (W := w6) q bl))
            go_ret
            exact ⟨rfl, bl⟩
          · have q3 : (q.r.k == 10) = false := by simp [z3]
            have q4 : (q.r.k != 10) = true := by simp [z3]
            rw [if_pos ⟨z2, z3⟩] at HT'
            subst HT'
            clear z2 z3
            go_wp2_with (first | (go_at_call 37; (with_reducible refine (KE.out _ ?_).mono ?_); (exact bl); rintro e w6 ⟨rfl, hb6⟩; obtain ⟨g0, g1, g2, g3, g4, g5, g6, g7⟩ := B1Q (w := w) (W := w6) q bl))
            go_ret
            exact ⟨rfl, bl⟩
        · have q2 : (q.lf.l.length : Int) ≤ (1 : Int) := by omega
          rw [if_neg (by intro h; exact z2 h.1)] at HT'
          subst HT'
          clear z2
          go_wp2_with (first | (go_at_call 37; (with_reducible refine (KE.out _ ?_).mono ?_); (exact bl); rintro e w6 ⟨rfl, hb6⟩; obtain ⟨g0, g1, g2, g3, g4, g5, g6, g7⟩ := B1Q (w := w) (W := w6) q bl))
          go_ret
          exact ⟨rfl, bl⟩
      · have q2 : (u == 0) = false := by simp [hu]
        rw [orEn hu] at HT'
        subst HT'
        clear hu
        go_wp2_with (first | (go_at_call 37; (with_reducible refine (KE.out _ ?_).mono ?_); (exact bl); rintro e w6 ⟨rfl, hb6⟩; obtain ⟨g0, g1, g2, g3, g4, g5, g6, g7⟩ := B1Q (w := w) (W := w6) q bl))
        go_ret
        exact ⟨rfl, bl⟩
set_option maxHeartbeats 3000000 in
set_option maxRecDepth 20000 in
theorem rv_trans_t (E : Rw va.En) (r : Rw Tt) (n : Int) (w : World) (hE : RsE w w.heap.size E) (hR : RsTs w w.heap.size r) (hsz : ∀ y ∈ r.l, y.cd.size ≤ 1048576) :
    Calls Tryz.prog 169 #[.slice E.A E.l.length E.c, .slice r.A r.l.length r.c, .int .i64 n, .bool true] w (Bel (.int .i64 (errs (r.l.map (trnE E.l n true)))) w) := by
  have KO : Hid (∀ y ∈ r.l, ∀ W, Below w.heap.size w W → Calls Tryz.prog 37 #[.slice E.A E.l.length E.c, xV y.cd] W (Bel (.int .i64 (expE E.l y.cd)) W)) := Lib.hid fun y hy W h => rv_expr E y.cd W (hE.blw h h.size) ((hR.blw h h.size).2 y hy) (hsz y hy)
  have KS : Hid (∀ y ∈ r.l, ∀ W, Below w.heap.size w W → Calls Tryz.prog 187 #[xV y.cd] W (Bel (.bool (!y.cd.list.any fun z => stK z.k)) W)) := Lib.hid fun y hy W h => rstateless_any y.cd W ((hR.blw h h.size).2 y hy).1 (hsz y hy)
  have h9 := hR.1.len
  unfold maxLen at h9
  have HR := Lib.hid hR.1
  clear hE hR hsz
  obtain ⟨F, hF0, hFl, HF⟩ := errs_steps r.l (trnE E.l n true)
  rw [← hF0]
  obtain ⟨V, hV⟩ : ∃ V, F 0 = V := ⟨_, rfl⟩
  have HV := Lib.hid hV
  have HL := Lib.hid hFl
  rw [hV]
  clear hF0 hFl hV
  go_enter Tryz.func169, Tryz.ntmps169
  go_wp2
  go_loopw [9] (fun i wr => ∃ k : Nat, k ≤ r.l.length ∧ i = .int .i64 (k : Int) ∧ Hid (F k = V) ∧ Below (w).heap.size (w) wr) (fun i _ => r.l.length - (intOf i).toNat)
  case atStart => exact ⟨0, by omega, rfl, HV, bl⟩
  case round =>
    obtain ⟨k, hk, rfl, hK, hbl⟩ := hrel
    obtain ⟨wr, rfl⟩ : ∃ wo : World, wo = wr := ⟨_, rfl⟩
    have hBW : Below w.heap.size w wr := bl
    by_cases hlt : k < r.l.length
    · obtain ⟨ad, y, hA, had, hy, hm, ⟨⟨c0, c1, c2, c3, c4, c5⟩, c6, c7⟩⟩ := (HR.out.blw oneB_T hBW hBW.size).at_ hlt
      have hst := HF.out k y hy
      have TC : Hid (∀ W, Below w.heap.size w W → (W.cell? (ad.add (k * 8)) = some (.int .i64 y.cd.k) ∧ W.cell? ⟨(ad.add (k * 8)).block, (ad.add (k * 8)).off + 1, none⟩ = some (.int .i64 y.cd.op) ∧ W.cell? ⟨(ad.add (k * 8)).block, (ad.add (k * 8)).off + 2, none⟩ = some (.int .i64 y.cd.t) ∧ W.cell? ⟨(ad.add (k * 8)).block, (ad.add (k * 8)).off + 3, none⟩ = some (.int .i64 y.cd.v) ∧ W.cell? ⟨(ad.add (k * 8)).block, (ad.add (k * 8)).off + 4, none⟩ = some (.string y.cd.nm) ∧ W.cell? ⟨(ad.add (k * 8)).block, (ad.add (k * 8)).off + 5, none⟩ = some (.slice y.cd.A y.cd.ar.length y.cd.c) ∧ W.cell? ⟨(ad.add (k * 8)).block, (ad.add (k * 8)).off + 6, none⟩ = some (.int .i64 y.to) ∧ W.cell? ⟨(ad.add (k * 8)).block, (ad.add (k * 8)).off + 7, none⟩ = some (.bool y.re))) := Lib.hid fun W h => by
        obtain ⟨⟨x0, x1, x2, x3, x4, x5⟩, x6, x7⟩ := (HR.out.blw oneB_T h h.size).2.1 ad k y hA hy
        exact ⟨x0, x1, x2, x3, x4, x5, x6, x7⟩
      rw [hA]
      clear hA
      have KY := Lib.hid (KO.out y hm)
      have KZ := Lib.hid (KS.out y hm)
      clear hy hm HF
      unfold trnE at hst
      generalize expE E.l y.cd = u at *
      generalize (y.cd.list.any fun z => stK z.k) = sb at *
      simp only [xV] at KY KZ
      by_cases z0 : y.to < 0
      · rw [if_pos (.inl z0), orEn (by decide)] at hst
        obtain rfl : 14 = V := hst.symm.trans hK.out
        clear hst hK HV
        go_wp2_with (first | (go_at_call 37; (with_reducible refine (KY.out _ ?_).mono ?_); (exact bl); rintro e w5 ⟨rfl, hb5⟩; obtain ⟨c0, c1, c2, c3, c4, c5, c6, c7⟩ := TC.out w5 bl) | (go_at_call 187; (with_reducible refine (KZ.out _ ?_).mono ?_); (exact bl); rintro e w6 ⟨rfl, hb6⟩))
        go_ret
        exact ⟨rfl, bl⟩
      have z0' : 0 ≤ y.to := by omega
      by_cases z1 : n ≤ y.to
      · rw [if_pos (.inr z1), orEn (by decide)] at hst
        obtain rfl : 14 = V := hst.symm.trans hK.out
        clear hst hK HV
        go_wp2_with (first | (go_at_call 37; (with_reducible refine (KY.out _ ?_).mono ?_); (exact bl); rintro e w5 ⟨rfl, hb5⟩; obtain ⟨c0, c1, c2, c3, c4, c5, c6, c7⟩ := TC.out w5 bl) | (go_at_call 187; (with_reducible refine (KZ.out _ ?_).mono ?_); (exact bl); rintro e w6 ⟨rfl, hb6⟩))
        go_ret
        exact ⟨rfl, bl⟩
      have z1' : y.to < n := by omega
      rw [if_neg (by omega)] at hst
      clear z0 z1
      by_cases hu : u = 0
      · subst hu
        rw [orE0] at hst
        cases sb
        · rw [if_neg (by simp), orE0] at hst
          have hn : Hid (F (k + 1) = V) := Lib.hid (hst.symm.trans hK.out)
          clear hst hK
          go_wp2_with (first | (go_at_call 37; (with_reducible refine (KY.out _ ?_).mono ?_); (exact bl); rintro e w5 ⟨rfl, hb5⟩; obtain ⟨c0, c1, c2, c3, c4, c5, c6, c7⟩ := TC.out w5 bl) | (go_at_call 187; (with_reducible refine (KZ.out _ ?_).mono ?_); (exact bl); rintro e w6 ⟨rfl, hb6⟩))
          exact ⟨⟨k + 1, by omega, by congr 1, hn, bl⟩, by simp [intOf]; omega⟩
        · rw [if_pos ⟨rfl, rfl⟩, orEn (by decide)] at hst
          obtain rfl : 5 = V := hst.symm.trans hK.out
          clear hst hK HV
          go_wp2_with (first | (go_at_call 37; (with_reducible refine (KY.out _ ?_).mono ?_); (exact bl); rintro e w5 ⟨rfl, hb5⟩; obtain ⟨c0, c1, c2, c3, c4, c5, c6, c7⟩ := TC.out w5 bl) | (go_at_call 187; (with_reducible refine (KZ.out _ ?_).mono ?_); (exact bl); rintro e w6 ⟨rfl, hb6⟩))
          go_ret
          exact ⟨rfl, bl⟩
      · have q2 : (u == 0) = false := by simp [hu]
        rw [orEn hu, orEn hu] at hst
        clear hu
        obtain rfl : u = V := hst.symm.trans hK.out
        clear hst hK HV
        go_wp2_with (first | (go_at_call 37; (with_reducible refine (KY.out _ ?_).mono ?_); (exact bl); rintro e w5 ⟨rfl, hb5⟩; obtain ⟨c0, c1, c2, c3, c4, c5, c6, c7⟩ := TC.out w5 bl) | (go_at_call 187; (with_reducible refine (KZ.out _ ?_).mono ?_); (exact bl); rintro e w6 ⟨rfl, hb6⟩))
        go_ret
        exact ⟨rfl, bl⟩
    · obtain rfl : k = r.l.length := by omega
      have hE0 : V = 0 := hK.out.symm.trans HL.out
      subst hE0
      clear hK HF HV HL hlt
      go_wp2
      go_ret
      exact ⟨rfl, bl⟩
set_option maxHeartbeats 3000000 in
set_option maxRecDepth 20000 in
theorem rv_trans_f (E : Rw va.En) (r : Rw Tt) (n : Int) (w : World) (hE : RsE w w.heap.size E) (hR : RsTs w w.heap.size r) (hsz : ∀ y ∈ r.l, y.cd.size ≤ 1048576) :
    Calls Tryz.prog 169 #[.slice E.A E.l.length E.c, .slice r.A r.l.length r.c, .int .i64 n, .bool false] w (Bel (.int .i64 (errs (r.l.map (trnE E.l n false)))) w) := by
  have KO : Hid (∀ y ∈ r.l, ∀ W, Below w.heap.size w W → Calls Tryz.prog 37 #[.slice E.A E.l.length E.c, xV y.cd] W (Bel (.int .i64 (expE E.l y.cd)) W)) := Lib.hid fun y hy W h => rv_expr E y.cd W (hE.blw h h.size) ((hR.blw h h.size).2 y hy) (hsz y hy)
  have h9 := hR.1.len
  unfold maxLen at h9
  have HR := Lib.hid hR.1
  clear hE hR hsz
  obtain ⟨F, hF0, hFl, HF⟩ := errs_steps r.l (trnE E.l n false)
  rw [← hF0]
  obtain ⟨V, hV⟩ : ∃ V, F 0 = V := ⟨_, rfl⟩
  have HV := Lib.hid hV
  have HL := Lib.hid hFl
  rw [hV]
  clear hF0 hFl hV
  go_enter Tryz.func169, Tryz.ntmps169
  go_wp2
  go_loopw [9] (fun i wr => ∃ k : Nat, k ≤ r.l.length ∧ i = .int .i64 (k : Int) ∧ Hid (F k = V) ∧ Below (w).heap.size (w) wr) (fun i _ => r.l.length - (intOf i).toNat)
  case atStart => exact ⟨0, by omega, rfl, HV, bl⟩
  case round =>
    obtain ⟨k, hk, rfl, hK, hbl⟩ := hrel
    obtain ⟨wr, rfl⟩ : ∃ wo : World, wo = wr := ⟨_, rfl⟩
    have hBW : Below w.heap.size w wr := bl
    by_cases hlt : k < r.l.length
    · obtain ⟨ad, y, hA, had, hy, hm, ⟨⟨c0, c1, c2, c3, c4, c5⟩, c6, c7⟩⟩ := (HR.out.blw oneB_T hBW hBW.size).at_ hlt
      have hst := HF.out k y hy
      have TC : Hid (∀ W, Below w.heap.size w W → (W.cell? (ad.add (k * 8)) = some (.int .i64 y.cd.k) ∧ W.cell? ⟨(ad.add (k * 8)).block, (ad.add (k * 8)).off + 1, none⟩ = some (.int .i64 y.cd.op) ∧ W.cell? ⟨(ad.add (k * 8)).block, (ad.add (k * 8)).off + 2, none⟩ = some (.int .i64 y.cd.t) ∧ W.cell? ⟨(ad.add (k * 8)).block, (ad.add (k * 8)).off + 3, none⟩ = some (.int .i64 y.cd.v) ∧ W.cell? ⟨(ad.add (k * 8)).block, (ad.add (k * 8)).off + 4, none⟩ = some (.string y.cd.nm) ∧ W.cell? ⟨(ad.add (k * 8)).block, (ad.add (k * 8)).off + 5, none⟩ = some (.slice y.cd.A y.cd.ar.length y.cd.c) ∧ W.cell? ⟨(ad.add (k * 8)).block, (ad.add (k * 8)).off + 6, none⟩ = some (.int .i64 y.to) ∧ W.cell? ⟨(ad.add (k * 8)).block, (ad.add (k * 8)).off + 7, none⟩ = some (.bool y.re))) := Lib.hid fun W h => by
        obtain ⟨⟨x0, x1, x2, x3, x4, x5⟩, x6, x7⟩ := (HR.out.blw oneB_T h h.size).2.1 ad k y hA hy
        exact ⟨x0, x1, x2, x3, x4, x5, x6, x7⟩
      rw [hA]
      clear hA
      have KY := Lib.hid (KO.out y hm)
      clear hy hm HF
      unfold trnE at hst
      generalize expE E.l y.cd = u at *
      simp only [xV] at KY
      by_cases z0 : y.to < 0
      · rw [if_pos (.inl z0), orEn (by decide)] at hst
        obtain rfl : 14 = V := hst.symm.trans hK.out
        clear hst hK HV
        go_wp2_with (first | (go_at_call 37; (with_reducible refine (KY.out _ ?_).mono ?_); (exact bl); rintro e w5 ⟨rfl, hb5⟩; obtain ⟨c0, c1, c2, c3, c4, c5, c6, c7⟩ := TC.out w5 bl))
        go_ret
        exact ⟨rfl, bl⟩
      have z0' : 0 ≤ y.to := by omega
      by_cases z1 : n ≤ y.to
      · rw [if_pos (.inr z1), orEn (by decide)] at hst
        obtain rfl : 14 = V := hst.symm.trans hK.out
        clear hst hK HV
        go_wp2_with (first | (go_at_call 37; (with_reducible refine (KY.out _ ?_).mono ?_); (exact bl); rintro e w5 ⟨rfl, hb5⟩; obtain ⟨c0, c1, c2, c3, c4, c5, c6, c7⟩ := TC.out w5 bl))
        go_ret
        exact ⟨rfl, bl⟩
      have z1' : y.to < n := by omega
      rw [if_neg (by omega)] at hst
      clear z0 z1
      by_cases hu : u = 0
      · subst hu
        rw [orE0] at hst
        rw [if_neg (by simp), orE0] at hst
        have hn : Hid (F (k + 1) = V) := Lib.hid (hst.symm.trans hK.out)
        clear hst hK
        go_wp2_with (first | (go_at_call 37; (with_reducible refine (KY.out _ ?_).mono ?_); (exact bl); rintro e w5 ⟨rfl, hb5⟩; obtain ⟨c0, c1, c2, c3, c4, c5, c6, c7⟩ := TC.out w5 bl))
        exact ⟨⟨k + 1, by omega, by congr 1, hn, bl⟩, by simp [intOf]; omega⟩
      · have q2 : (u == 0) = false := by simp [hu]
        rw [orEn hu, orEn hu] at hst
        clear hu
        obtain rfl : u = V := hst.symm.trans hK.out
        clear hst hK HV
        go_wp2_with (first | (go_at_call 37; (with_reducible refine (KY.out _ ?_).mono ?_); (exact bl); rintro e w5 ⟨rfl, hb5⟩; obtain ⟨c0, c1, c2, c3, c4, c5, c6, c7⟩ := TC.out w5 bl))
        go_ret
        exact ⟨rfl, bl⟩
    · obtain rfl : k = r.l.length := by omega
      have hE0 : V = 0 := hK.out.symm.trans HL.out
      subst hE0
      clear hK HF HV HL hlt
      go_wp2
      go_ret
      exact ⟨rfl, bl⟩
end Go.Proofs.YtoimjcfdiljkjaaGreatDoor
namespace Go.Proofs.YtoimjcfdiljkjaaGreatDoor
open Go.RowKit
variable {Bd : Nat}
inductive SmS (B : Nat) : St → Prop
  | mk (s : St) (h1 : ∀ q ∈ s.qs.l, q.r.size ≤ B) (h2 : ∀ t ∈ s.un.l, t.cd.size ≤ B) (h3 : ∀ t ∈ s.ut.l, t.cd.size ≤ B) (h4 : ∀ a ∈ s.au.l, ∀ t ∈ a.l, SmS B t) : SmS B s
theorem SmS.of {B : Nat} {s : St} (h : SmS B s) : (∀ q ∈ s.qs.l, q.r.size ≤ B) ∧ (∀ t ∈ s.un.l, t.cd.size ≤ B) ∧ (∀ t ∈ s.ut.l, t.cd.size ≤ B) ∧ ∀ a ∈ s.au.l, ∀ t ∈ a.l, SmS B t := by
  cases h with
  | mk s h1 h2 h3 h4 => exact ⟨h1, h2, h3, h4⟩
structure SmN (B : Nat) (n : Nt) : Prop where
  qs : ∀ q ∈ n.qs.l, q.r.size ≤ B
  au : ∀ a ∈ n.au.l, ∀ t ∈ a.l, SmS B t
  asm : ∀ x ∈ n.asm.l, x.size ≤ B
  ens : ∀ x ∈ n.ens.l, x.size ≤ B
end Go.Proofs.YtoimjcfdiljkjaaGreatDoor
namespace Go.Proofs.YtoimjcfdiljkjaaGreatDoor
open Go.RowKit Go.Sort
def AutR (r : Nat) : Prop := ∀ (E : Rw va.En) (a : Rw St) (w : World), (∀ t, va.valB E.l t = decide (0 < va.sizeT E.l t)) → RsE w w.heap.size E → RsA w w.heap.size a → (∀ t ∈ a.l, SmS 1048576 t) →
    Calls Tryz.prog 98 #[.slice E.A E.l.length E.c, aV a, .int .i64 ((3 : Int) - (r : Int))] w (Bel (.int .i64 (autE E.l r a)) w)
set_option maxHeartbeats 3000000 in
set_option maxRecDepth 20000 in
theorem rv_state (r : Nat) (hr : r + 1 ≤ 3) (IH : Hid (AutR r)) (E : Rw va.En) (n : Int) (s : St) (w : World) (hV : ∀ t, va.valB E.l t = decide (0 < va.sizeT E.l t)) (hE : RsE w w.heap.size E) (hS : RsS w w.heap.size s) (hm : SmS 1048576 s) :
    Calls Tryz.prog 132 #[.slice E.A E.l.length E.c, sV s, .int .i64 n, .int .i64 ((3 : Int) - ((r + 1 : Nat) : Int))] w (Bel (.int .i64 (staE E.l (autE E.l r) n s)) w) := by
  obtain ⟨h1, h2, h3, h4, h5, h6, h7, h8⟩ := hS.of
  obtain ⟨m1, m2, m3, m4⟩ := hm.of
  have hau : RsAs w w.heap.size s.au := ⟨h4, fun a ha => ⟨h5 a ha, h6 a ha⟩⟩
  obtain ⟨m, hmm⟩ : ∃ m : Int, (3 : Int) - ((r + 1 : Nat) : Int) = m := ⟨_, rfl⟩
  have hm1 : (3 : Int) - (r : Int) = m + 1 := by omega
  rw [hmm]
  have u1 : IntKind.i64.wrap (m + 1) = m + 1 := Go.IntWalk.i64_in _ ⟨by omega, by omega⟩
  have u2 : wrap64 (m + 1) = m + 1 := IntWalk.wrap64_in _ (by omega)
  have KI := Lib.hid (fun W (h : Below w.heap.size w W) => rv_ident s.nm W h1)
  have KL := Lib.hid (fun W (h : Below w.heap.size w W) => rv_decls_f E s.lc W hV (hE.blw h h.size) (h2.blw h h.size))
  have KQ : Hid (∀ y ∈ s.qs.l, ∀ W, Below w.heap.size w W → Calls Tryz.prog 58 #[.slice E.A E.l.length E.c, qV y] W (Bel (.int .i64 (eqnE E.l y)) W)) := Lib.hid fun y hy W h => rv_equation E y W (hE.blw h h.size) ((h3.blw h h.size).2 y hy) (m1 y hy)
  have KA : Hid (∀ y ∈ s.au.l, ∀ W, Below w.heap.size w W → Calls Tryz.prog 98 #[.slice E.A E.l.length E.c, aV y, .int .i64 (m + 1)] W (Bel (.int .i64 (autE E.l r y)) W)) := Lib.hid fun y hy W h => by rw [← hm1]; exact IH.out E y W hV (hE.blw h h.size) ((hau.blw h h.size).2 y hy) (m4 y hy)
  have KU := Lib.hid (fun W (h : Below w.heap.size w W) => rv_trans_t E s.un n W (hE.blw h h.size) (h7.blw h h.size) m2)
  have KT := Lib.hid (fun W (h : Below w.heap.size w W) => rv_trans_f E s.ut n W (hE.blw h h.size) (h8.blw h h.size) m3)
  have h9 := h3.1.len
  have h9a := hau.1.len
  unfold maxLen at h9 h9a
  have HR1 := Lib.hid h3.1
  have HR2 := Lib.hid hau.1
  unfold staE
  generalize errs (s.lc.l.map (locE E.l)) = u1 at *
  generalize errs (s.un.l.map (trnE E.l n true)) = u4 at *
  generalize errs (s.ut.l.map (trnE E.l n false)) = u5 at *
  generalize idP s.nm = b at *
  clear hV hE hS hm h1 h2 h3 h4 h5 h6 h7 h8 hau m1 m2 m3 m4 hmm hm1 IH hr
  cases b
  · rw [if_neg (by simp)]
    go_enter Tryz.func132, Tryz.ntmps132
    go_wp2_with (first | (go_at_call 96; (with_reducible refine (KI.out _ ?_).mono ?_); (exact bl); rintro e w1 ⟨rfl, hb1⟩; obtain ⟨g0, g1, g2, g3, g4, g5, g6⟩ := B1S (w := w) (W := w1) s bl) | (go_at_call 97; (with_reducible refine (KL.out _ ?_).mono ?_); (exact bl); rintro e w2 ⟨rfl, hb2⟩; obtain ⟨g0, g1, g2, g3, g4, g5, g6⟩ := B1S (w := w) (W := w2) s bl))
    go_ret
    exact ⟨rfl, bl⟩
  rw [if_pos rfl]
  by_cases z0 : 256 < s.lc.l.length
  · have q0 : (256 : Int) < (s.lc.l.length : Int) := by omega
    rw [if_pos (by omega)]
    clear z0
    go_enter Tryz.func132, Tryz.ntmps132
    go_wp2_with (first | (go_at_call 96; (with_reducible refine (KI.out _ ?_).mono ?_); (exact bl); rintro e w1 ⟨rfl, hb1⟩; obtain ⟨g0, g1, g2, g3, g4, g5, g6⟩ := B1S (w := w) (W := w1) s bl) | (go_at_call 97; (with_reducible refine (KL.out _ ?_).mono ?_); (exact bl); rintro e w2 ⟨rfl, hb2⟩; obtain ⟨g0, g1, g2, g3, g4, g5, g6⟩ := B1S (w := w) (W := w2) s bl))
    go_ret
    exact ⟨rfl, bl⟩
  have q0 : (s.lc.l.length : Int) ≤ (256 : Int) := by omega
  by_cases z1 : 256 < s.qs.l.length
  · have q1 : (256 : Int) < (s.qs.l.length : Int) := by omega
    rw [if_pos (by omega)]
    clear z0 z1
    go_enter Tryz.func132, Tryz.ntmps132
    go_wp2_with (first | (go_at_call 96; (with_reducible refine (KI.out _ ?_).mono ?_); (exact bl); rintro e w1 ⟨rfl, hb1⟩; obtain ⟨g0, g1, g2, g3, g4, g5, g6⟩ := B1S (w := w) (W := w1) s bl) | (go_at_call 97; (with_reducible refine (KL.out _ ?_).mono ?_); (exact bl); rintro e w2 ⟨rfl, hb2⟩; obtain ⟨g0, g1, g2, g3, g4, g5, g6⟩ := B1S (w := w) (W := w2) s bl))
    go_ret
    exact ⟨rfl, bl⟩
  have q1 : (s.qs.l.length : Int) ≤ (256 : Int) := by omega
  by_cases z2 : 8 < s.au.l.length
  · have q2 : (8 : Int) < (s.au.l.length : Int) := by omega
    rw [if_pos (by omega)]
    clear z0 z1 z2
    go_enter Tryz.func132, Tryz.ntmps132
    go_wp2_with (first | (go_at_call 96; (with_reducible refine (KI.out _ ?_).mono ?_); (exact bl); rintro e w1 ⟨rfl, hb1⟩; obtain ⟨g0, g1, g2, g3, g4, g5, g6⟩ := B1S (w := w) (W := w1) s bl) | (go_at_call 97; (with_reducible refine (KL.out _ ?_).mono ?_); (exact bl); rintro e w2 ⟨rfl, hb2⟩; obtain ⟨g0, g1, g2, g3, g4, g5, g6⟩ := B1S (w := w) (W := w2) s bl))
    go_ret
    exact ⟨rfl, bl⟩
  have q2 : (s.au.l.length : Int) ≤ (8 : Int) := by omega
  by_cases z3 : 4 < s.un.l.length
  · have q3 : (4 : Int) < (s.un.l.length : Int) := by omega
    rw [if_pos (by omega)]
    clear z0 z1 z2 z3
    go_enter Tryz.func132, Tryz.ntmps132
    go_wp2_with (first | (go_at_call 96; (with_reducible refine (KI.out _ ?_).mono ?_); (exact bl); rintro e w1 ⟨rfl, hb1⟩; obtain ⟨g0, g1, g2, g3, g4, g5, g6⟩ := B1S (w := w) (W := w1) s bl) | (go_at_call 97; (with_reducible refine (KL.out _ ?_).mono ?_); (exact bl); rintro e w2 ⟨rfl, hb2⟩; obtain ⟨g0, g1, g2, g3, g4, g5, g6⟩ := B1S (w := w) (W := w2) s bl))
    go_ret
    exact ⟨rfl, bl⟩
  have q3 : (s.un.l.length : Int) ≤ (4 : Int) := by omega
  by_cases z4 : 4 < s.ut.l.length
  · have q4 : (4 : Int) < (s.ut.l.length : Int) := by omega
    rw [if_pos (by omega)]
    clear z0 z1 z2 z3 z4
    go_enter Tryz.func132, Tryz.ntmps132
    go_wp2_with (first | (go_at_call 96; (with_reducible refine (KI.out _ ?_).mono ?_); (exact bl); rintro e w1 ⟨rfl, hb1⟩; obtain ⟨g0, g1, g2, g3, g4, g5, g6⟩ := B1S (w := w) (W := w1) s bl) | (go_at_call 97; (with_reducible refine (KL.out _ ?_).mono ?_); (exact bl); rintro e w2 ⟨rfl, hb2⟩; obtain ⟨g0, g1, g2, g3, g4, g5, g6⟩ := B1S (w := w) (W := w2) s bl))
    go_ret
    exact ⟨rfl, bl⟩
  have q4 : (s.ut.l.length : Int) ≤ (4 : Int) := by omega
  rw [if_neg (by omega)]
  clear z0 z1 z2 z3 z4
  by_cases hu1 : u1 = 0
  case neg =>
    have e1 : (u1 == 0) = false := by simp [hu1]
    rw [orEn hu1]
    clear hu1
    go_enter Tryz.func132, Tryz.ntmps132
    go_wp2_with (first | (go_at_call 96; (with_reducible refine (KI.out _ ?_).mono ?_); (exact bl); rintro e w1 ⟨rfl, hb1⟩; obtain ⟨g0, g1, g2, g3, g4, g5, g6⟩ := B1S (w := w) (W := w1) s bl) | (go_at_call 97; (with_reducible refine (KL.out _ ?_).mono ?_); (exact bl); rintro e w2 ⟨rfl, hb2⟩; obtain ⟨g0, g1, g2, g3, g4, g5, g6⟩ := B1S (w := w) (W := w2) s bl))
    go_ret
    exact ⟨rfl, bl⟩
  subst hu1
  rw [orE0]
  obtain ⟨F1, hF0, hFl, HF1⟩ := errs_steps s.qs.l (eqnE E.l)
  rw [← hF0]
  obtain ⟨V1, hV⟩ : ∃ V, F1 0 = V := ⟨_, rfl⟩
  have HV1 := Lib.hid hV
  have HL1 := Lib.hid hFl
  rw [hV]
  clear hF0 hFl hV
  obtain ⟨F2, hF0, hFl, HF2⟩ := errs_steps s.au.l (autE E.l r)
  rw [← hF0]
  obtain ⟨V2, hV⟩ : ∃ V, F2 0 = V := ⟨_, rfl⟩
  have HV2 := Lib.hid hV
  have HL2 := Lib.hid hFl
  rw [hV]
  clear hF0 hFl hV
  obtain ⟨T, hT⟩ : ∃ T, orE V1 (orE V2 (orE u4 u5)) = T := ⟨_, rfl⟩
  have HT1 := Lib.hid hT
  rw [hT]
  clear hT
  go_enter Tryz.func132, Tryz.ntmps132
  go_wp2_with (first | (go_at_call 96; (with_reducible refine (KI.out _ ?_).mono ?_); (exact bl); rintro e w1 ⟨rfl, hb1⟩; obtain ⟨g0, g1, g2, g3, g4, g5, g6⟩ := B1S (w := w) (W := w1) s bl) | (go_at_call 97; (with_reducible refine (KL.out _ ?_).mono ?_); (exact bl); rintro e w2 ⟨rfl, hb2⟩; obtain ⟨g0, g1, g2, g3, g4, g5, g6⟩ := B1S (w := w) (W := w2) s bl))
  go_loopw [10] (fun i wr => ∃ k : Nat, k ≤ s.qs.l.length ∧ i = .int .i64 (k : Int) ∧ Hid (F1 k = V1) ∧ Below ((w.alloc (.cells #[.string s.nm, .slice s.lc.A s.lc.l.length s.lc.c, .slice s.qs.A s.qs.l.length s.qs.c, .slice s.au.A s.au.l.length s.au.c, .slice s.un.A s.un.l.length s.un.c, .slice s.ut.A s.ut.l.length s.ut.c] 95))).heap.size ((w.alloc (.cells #[.string s.nm, .slice s.lc.A s.lc.l.length s.lc.c, .slice s.qs.A s.qs.l.length s.qs.c, .slice s.au.A s.au.l.length s.au.c, .slice s.un.A s.un.l.length s.un.c, .slice s.ut.A s.ut.l.length s.ut.c] 95))) wr) (fun i _ => s.qs.l.length - (intOf i).toNat)
  case atStart => exact ⟨0, by omega, rfl, HV1, bl⟩
  case round =>
    obtain ⟨k1, hk1, rfl, hK1, hbl1⟩ := hrel
    obtain ⟨wr1, rfl⟩ : ∃ wo : World, wo = wr := ⟨_, rfl⟩
    have hBW1 : Below w.heap.size w wr1 := bl
    obtain ⟨g0, g1, g2, g3, g4, g5, g6⟩ := B1S (w := w) (W := wr1) s hbl1
    by_cases hlt : k1 < s.qs.l.length
    · obtain ⟨ad1, y1, hA, had1, hy, hm, ⟨c0, c1, c2, c3, c4, c5, c6⟩⟩ := (HR1.out.blw oneB_Q hBW1 hBW1.size).at_ hlt
      rw [hA] at g2
      clear hA
      have hst := HF1.out k1 y1 hy
      have KY := Lib.hid (KQ.out y1 hm)
      clear hy hm HF1
      generalize eqnE E.l y1 = v at *
      by_cases hv : v = 0
      · subst hv
        rw [orE0] at hst
        have hn : Hid (F1 (k1 + 1) = V1) := Lib.hid (hst.symm.trans hK1.out)
        clear hst hK1
        go_wp2_with (go_at_call 58; (with_reducible refine (KY.out _ ?_).mono ?_); (exact bl); rintro e w5 ⟨rfl, hb5⟩)
        exact ⟨⟨k1 + 1, by omega, by congr 1, hn, bl⟩, by simp [intOf]; omega⟩
      · rw [orEn hv] at hst
        have hv1 : v = V1 := hst.symm.trans hK1.out
        have hT : v = T := by rw [← HT1.out, ← hv1, orEn hv]
        clear hv1
        subst hT
        have e0 : (v == 0) = false := by simp [hv]
        clear hst hK1 hv HV1
        go_wp2_with (go_at_call 58; (with_reducible refine (KY.out _ ?_).mono ?_); (exact bl); rintro e w5 ⟨rfl, hb5⟩)
        go_ret
        exact ⟨rfl, bl⟩
    · obtain rfl : k1 = s.qs.l.length := by omega
      have hE0 : V1 = 0 := hK1.out.symm.trans HL1.out
      subst hE0
      clear hK1 HF1 HV1 HL1 hlt
      have HT2 : Hid (orE V2 (orE u4 u5) = T) := Lib.hid (by rw [← HT1.out, orE0])
      clear HT1
      go_wp2
      go_loopw [11] (fun i wr => ∃ k : Nat, k ≤ s.au.l.length ∧ i = .int .i64 (k : Int) ∧ Hid (F2 k = V2) ∧ Below ((w.alloc (.cells #[.string s.nm, .slice s.lc.A s.lc.l.length s.lc.c, .slice s.qs.A s.qs.l.length s.qs.c, .slice s.au.A s.au.l.length s.au.c, .slice s.un.A s.un.l.length s.un.c, .slice s.ut.A s.ut.l.length s.ut.c] 95))).heap.size ((w.alloc (.cells #[.string s.nm, .slice s.lc.A s.lc.l.length s.lc.c, .slice s.qs.A s.qs.l.length s.qs.c, .slice s.au.A s.au.l.length s.au.c, .slice s.un.A s.un.l.length s.un.c, .slice s.ut.A s.ut.l.length s.ut.c] 95))) wr) (fun i _ => s.au.l.length - (intOf i).toNat)
      case atStart => exact ⟨0, by omega, rfl, HV2, bl⟩
      case round =>
        obtain ⟨k2, hk2, rfl, hK2, hbl2⟩ := hrel
        obtain ⟨wr2, rfl⟩ : ∃ wo : World, wo = wr := ⟨_, rfl⟩
        have hBW2 : Below w.heap.size w wr2 := bl
        obtain ⟨g0, g1, g2, g3, g4, g5, g6⟩ := B1S (w := w) (W := wr2) s hbl2
        by_cases hlt : k2 < s.au.l.length
        · obtain ⟨ad2, y2, hA, had2, hy, hm, c0⟩ := (HR2.out.blw oneB_A hBW2 hBW2.size).at_ hlt
          unfold AC at c0
          rw [Nat.mul_one] at c0
          rw [hA] at g3
          clear hA
          have hst := HF2.out k2 y2 hy
          have KY := Lib.hid (KA.out y2 hm)
          clear hy hm HF2
          generalize autE E.l r y2 = v at *
          by_cases hv : v = 0
          · subst hv
            rw [orE0] at hst
            have hn : Hid (F2 (k2 + 1) = V2) := Lib.hid (hst.symm.trans hK2.out)
            clear hst hK2
            go_wp2_with (go_at_call 98; (with_reducible refine (KY.out _ ?_).mono ?_); (exact bl); rintro e w6 ⟨rfl, hb6⟩)
            exact ⟨⟨k2 + 1, by omega, by congr 1, hn, bl⟩, by simp [intOf]; omega⟩
          · rw [orEn hv] at hst
            have hv1 : v = V2 := hst.symm.trans hK2.out
            have hT : v = T := by rw [← HT2.out, ← hv1, orEn hv]
            clear hv1
            subst hT
            have e0 : (v == 0) = false := by simp [hv]
            clear hst hK2 hv HV2
            go_wp2_with (go_at_call 98; (with_reducible refine (KY.out _ ?_).mono ?_); (exact bl); rintro e w6 ⟨rfl, hb6⟩)
            go_ret
            exact ⟨rfl, bl⟩
        · obtain rfl : k2 = s.au.l.length := by omega
          have hE0 : V2 = 0 := hK2.out.symm.trans HL2.out
          subst hE0
          clear hK2 HF2 HV2 HL2 hlt
          have hT : orE u4 u5 = T := by rw [← HT2.out, orE0]
          clear HT2
          by_cases hu4 : u4 = 0
          · subst hu4
            rw [orE0] at hT
            subst hT
            go_wp2_with (first | (go_at_call 169; (with_reducible refine (KU.out _ ?_).mono ?_); (exact bl); rintro e w7 ⟨rfl, hb7⟩; obtain ⟨g0, g1, g2, g3, g4, g5, g6⟩ := B1S (w := w) (W := w7) s bl) | (go_at_call 169; (with_reducible refine (KT.out _ ?_).mono ?_); (exact bl); rintro e w8 ⟨rfl, hb8⟩; obtain ⟨g0, g1, g2, g3, g4, g5, g6⟩ := B1S (w := w) (W := w8) s bl))
            go_ret
            exact ⟨rfl, bl⟩
          · have e4 : (u4 == 0) = false := by simp [hu4]
            rw [orEn hu4] at hT
            subst hT
            clear hu4
            go_wp2_with (first | (go_at_call 169; (with_reducible refine (KU.out _ ?_).mono ?_); (exact bl); rintro e w7 ⟨rfl, hb7⟩; obtain ⟨g0, g1, g2, g3, g4, g5, g6⟩ := B1S (w := w) (W := w7) s bl) | (go_at_call 169; (with_reducible refine (KT.out _ ?_).mono ?_); (exact bl); rintro e w8 ⟨rfl, hb8⟩; obtain ⟨g0, g1, g2, g3, g4, g5, g6⟩ := B1S (w := w) (W := w8) s bl))
            go_ret
            exact ⟨rfl, bl⟩
set_option maxHeartbeats 3000000 in
set_option maxRecDepth 20000 in
theorem rv_auto : ∀ r, r ≤ 3 → AutR r
  | 0, _ => by
    intro E a w hV hE hA hm
    show Calls _ _ _ _ (Bel (.int .i64 3) w)
    rw [show (3 : Int) - ((0 : Nat) : Int) = 3 from rfl]
    clear hV hE hA hm
    go_enter Tryz.func98, Tryz.ntmps98
    go_wp2
    go_ret
    exact ⟨rfl, bl⟩
  | r + 1, hr => by
    intro E a w hV hE hA hm
    have IH := Lib.hid (rv_auto r (by omega))
    have KO : Hid (∀ y ∈ a.l, ∀ W, Below w.heap.size w W → Calls Tryz.prog 132 #[.slice E.A E.l.length E.c, sV y, .int .i64 (a.l.length : Int), .int .i64 ((3 : Int) - ((r + 1 : Nat) : Int))] W (Bel (.int .i64 (staE E.l (autE E.l r) (a.l.length : Int) y)) W)) := Lib.hid fun y hy W h => rv_state r hr IH E (a.l.length : Int) y W hV (hE.blw h h.size) ((hA.blw h h.size).2 y hy) (hm y hy)
    have h9 := hA.1.len
    unfold maxLen at h9
    have HR := Lib.hid hA.1
    obtain ⟨m, hmm⟩ : ∃ m : Int, (3 : Int) - ((r + 1 : Nat) : Int) = m := ⟨_, rfl⟩
    have hm2 : m ≤ 2 := by omega
    rw [hmm] at KO ⊢
    unfold autE
    clear hV hE hA hm IH hmm hr
    by_cases z0 : a.l.length = 0
    · have q0 : ((a.l.length : Int) == 0) = true := by simp [z0]
      rw [if_pos z0]
      clear z0
      go_enter Tryz.func98, Tryz.ntmps98
      go_wp2
      go_ret
      exact ⟨rfl, bl⟩
    have q0 : ((a.l.length : Int) == 0) = false := by simp [z0]
    rw [if_neg z0]
    by_cases z1 : 8 < a.l.length
    · have q1 : (8 : Int) < (a.l.length : Int) := by omega
      rw [if_pos z1]
      clear z0 z1
      go_enter Tryz.func98, Tryz.ntmps98
      go_wp2
      go_ret
      exact ⟨rfl, bl⟩
    have q1 : (a.l.length : Int) ≤ (8 : Int) := by omega
    rw [if_neg z1]
    clear z0 z1
    obtain ⟨F, hF0, hFl, HF⟩ := errs_steps a.l (staE E.l (autE E.l r) (a.l.length : Int))
    rw [← hF0]
    obtain ⟨V, hV⟩ : ∃ V, F 0 = V := ⟨_, rfl⟩
    have HV := Lib.hid hV
    have HL := Lib.hid hFl
    rw [hV]
    clear hF0 hFl hV
    go_enter Tryz.func98, Tryz.ntmps98
    go_wp2
    go_loopw [7] (fun i wr => ∃ k : Nat, k ≤ a.l.length ∧ i = .int .i64 (k : Int) ∧ Hid (F k = V) ∧ Below ((w.alloc (.cells #[.slice a.A a.l.length a.c] 92))).heap.size ((w.alloc (.cells #[.slice a.A a.l.length a.c] 92))) wr) (fun i _ => a.l.length - (intOf i).toNat)
    case atStart => exact ⟨0, by omega, rfl, HV, bl⟩
    case round =>
      obtain ⟨k, hk, rfl, hK, hbl⟩ := hrel
      obtain ⟨wr, rfl⟩ : ∃ wo : World, wo = wr := ⟨_, rfl⟩
      have hBW : Below w.heap.size w wr := bl
      obtain ⟨g0, g1⟩ := B1A (w := w) (W := wr) a hbl
      by_cases hlt : k < a.l.length
      · obtain ⟨ad, y, hA, had, hy, hm, ⟨c0, c1, c2, c3, c4, c5⟩⟩ := (HR.out.blw oneB_S hBW hBW.size).at_ hlt
        rw [hA] at g0
        clear hA
        have hst := HF.out k y hy
        have KY := Lib.hid (KO.out y hm)
        clear hy hm HF
        generalize staE E.l (autE E.l r) (a.l.length : Int) y = v at *
        by_cases hv : v = 0
        · subst hv
          rw [orE0] at hst
          have hn : Hid (F (k + 1) = V) := Lib.hid (hst.symm.trans hK.out)
          clear hst hK
          have fg0 := cell_regrown g0
          have fc0 := cell_regrown c0
          have fc1 := cell_regrown c1
          have fc2 := cell_regrown c2
          have fc3 := cell_regrown c3
          have fc4 := cell_regrown c4
          have fc5 := cell_regrown c5
          have cq' := fun dd os => Calls.regrown_of (KY.out (grow (redrawn wr dd) os) (hBW.trans ((below_regrown wr dd os).mono hBW.size)))
          go_wp2
          refine wp_region_quiet_below (by kernel_rfl) (by kernel_rfl) ?_
          repeat (quiet_step (with_reducible exact cq' _ _))
          refine wpQuiet_nil ?_
          intro _ hw'
          obtain ⟨⟨dq, osq⟩, hw''⟩ := hw'
          subst hw''
          have hbw5 : Below wr.heap.size wr (grow (redrawn wr dq) osq) := below_regrown wr dq osq
          generalize grow (redrawn wr dq) osq = w5 at hbw5 ⊢
          clear cq' fg0 fc0 fc1 fc2 fc3 fc4 fc5
          go_wp2
          exact ⟨⟨k + 1, by omega, by congr 1, hn, bl⟩, by simp [intOf]; omega⟩
        · rw [orEn hv] at hst
          obtain rfl : v = V := hst.symm.trans hK.out
          have e0 : (v == 0) = false := by simp [hv]
          clear hst hK hv HV
          have fg0 := cell_regrown g0
          have fc0 := cell_regrown c0
          have fc1 := cell_regrown c1
          have fc2 := cell_regrown c2
          have fc3 := cell_regrown c3
          have fc4 := cell_regrown c4
          have fc5 := cell_regrown c5
          have cq' := fun dd os => Calls.regrown_of (KY.out (grow (redrawn wr dd) os) (hBW.trans ((below_regrown wr dd os).mono hBW.size)))
          go_wp2
          refine wp_region_quiet_below (by kernel_rfl) (by kernel_rfl) ?_
          repeat (quiet_step (with_reducible exact cq' _ _))
          refine wpQuiet_nil ?_
          intro _ hw'
          obtain ⟨⟨dq, osq⟩, hw''⟩ := hw'
          subst hw''
          have hbw5 : Below wr.heap.size wr (grow (redrawn wr dq) osq) := below_regrown wr dq osq
          generalize grow (redrawn wr dq) osq = w5 at hbw5 ⊢
          clear cq' fg0 fc0 fc1 fc2 fc3 fc4 fc5
          go_wp2
          go_ret
          exact ⟨rfl, bl⟩
      · obtain rfl : k = a.l.length := by omega
        have hE0 : V = 0 := hK.out.symm.trans HL.out
        subst hE0
        clear hK HF HV HL hlt
        go_wp2
        go_ret
        exact ⟨rfl, bl⟩
end Go.Proofs.YtoimjcfdiljkjaaGreatDoor
