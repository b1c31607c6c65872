import Derived.Test.YtoimjcfdiljkjaaGreatDoorQL
set_option linter.unusedVariables false
set_option linter.unusedSimpArgs false
namespace Go.Proofs.YtoimjcfdiljkjaaGreatDoor
open Go.RowKit Go.Sort
set_option maxHeartbeats 3000000 in
set_option maxRecDepth 20000 in
theorem rv_enum (e : va.En) (w : World) (hR : Rd w w.heap.size e.A (va.ss e.tags)) (h1 : e.name.size ≤ 140737488351232) (h2 : e.tags.length ≤ maxLen ∧ e.tags.length ≤ e.c) (h3 : ∀ b ∈ e.tags, b.size ≤ 140737488351232) :
    Calls Tryz.prog 56 #[.agg #[.string e.name, .slice e.A e.tags.length e.c]] w (Bel (.int .i64 (enumE e)) w) := by
  have K := Lib.hid (fun W (h : Below w.heap.size w W) => rv_ident e.name W h1)
  have KO : Hid (∀ y ∈ e.tags, ∀ W, Below w.heap.size w W → Calls Tryz.prog 96 #[.string y] W (Bel (.bool (idP y)) W)) := Lib.hid fun y hy W h => rv_ident y W (h3 y hy)
  have h9 := h2.1
  unfold maxLen at h9
  obtain ⟨r, hr⟩ : ∃ r : Rw ByteArray, r = ⟨e.A, e.c, e.tags⟩ := ⟨_, rfl⟩
  have HR : Hid (RdR w w.heap.size 1 BC r) := Lib.hid (by rw [hr]; exact rdr_of_ss hR h2.1 h2.2)
  unfold enumE
  have e1 : e.A = r.A := by rw [hr]
  have e2 : e.c = r.c := by rw [hr]
  have e3 : e.tags = r.l := by rw [hr]
  obtain ⟨nm, hnm⟩ : ∃ nm, e.name = nm := ⟨_, rfl⟩
  have B1 : Hid (∀ W, Below (w.alloc (.cells #[.string nm, .slice r.A r.l.length r.c] 73)).heap.size (w.alloc (.cells #[.string nm, .slice r.A r.l.length r.c] 73)) W → W.cell? ⟨w.heap.size, 0, none⟩ = some (.string nm) ∧ W.cell? ⟨w.heap.size, 1, none⟩ = some (.slice r.A r.l.length r.c) ∧ w.heap.size < W.heap.size) := Lib.hid fun W h => by
    rw [← e1, ← e2, ← e3, ← hnm] at h ⊢
    exact B1E e h
  rw [e1, e2, e3, hnm]
  rw [e3] at KO h9
  rw [hnm] at K
  clear hR h3 h2 h1 e1 e2 e3 hnm hr
  generalize idP nm = b at *
  cases b
  · rw [if_neg (by simp)]
    go_enter Tryz.func56, Tryz.ntmps56
    go_wp2_with (go_at_call 96; (with_reducible refine (K.out _ ?_).mono ?_); (exact bl); rintro e w1 ⟨rfl, hb1⟩; obtain ⟨g0, g1, g2⟩ := B1.out w1 bl)
    go_ret
    exact ⟨rfl, bl⟩
  rw [if_pos rfl]
  by_cases z0 : r.l.length = 0
  · have q0 : ((r.l.length : Int) == 0) = true := by simp [z0]
    rw [if_pos z0]
    clear z0
    go_enter Tryz.func56, Tryz.ntmps56
    go_wp2_with (go_at_call 96; (with_reducible refine (K.out _ ?_).mono ?_); (exact bl); rintro e w1 ⟨rfl, hb1⟩; obtain ⟨g0, g1, g2⟩ := B1.out w1 bl)
    go_ret
    exact ⟨rfl, bl⟩
  have q0 : ((r.l.length : Int) == 0) = false := by simp [z0]
  rw [if_neg z0]
  by_cases z1 : 16 < r.l.length
  · have q1 : (16 : Int) < (r.l.length : Int) := by omega
    rw [if_pos z1]
    clear z0 z1
    go_enter Tryz.func56, Tryz.ntmps56
    go_wp2_with (go_at_call 96; (with_reducible refine (K.out _ ?_).mono ?_); (exact bl); rintro e w1 ⟨rfl, hb1⟩; obtain ⟨g0, g1, g2⟩ := B1.out w1 bl)
    go_ret
    exact ⟨rfl, bl⟩
  have q1 : (r.l.length : Int) ≤ (16 : Int) := by omega
  rw [if_neg z1]
  clear z0 z1
  obtain ⟨F, hF0, hFl, HF⟩ := errs_steps r.l (idE)
  rw [← hF0]
  obtain ⟨V, hV⟩ : ∃ V, F 0 = V := ⟨_, rfl⟩
  have HV := Lib.hid hV
  have HL := Lib.hid hFl
  rw [hV]
  clear hF0 hFl hV
  go_enter Tryz.func56, Tryz.ntmps56
  go_wp2_with (go_at_call 96; (with_reducible refine (K.out _ ?_).mono ?_); (exact bl); rintro e w1 ⟨rfl, hb1⟩; obtain ⟨g0, g1, g2⟩ := B1.out w1 bl)
  go_loopw [3] (fun i wr => ∃ k : Nat, k ≤ r.l.length ∧ i = .int .i64 (k : Int) ∧ Hid (F k = V) ∧ Below (w.alloc (.cells #[.string nm, .slice r.A r.l.length r.c] 73)).heap.size (w.alloc (.cells #[.string nm, .slice r.A r.l.length r.c] 73)) wr) (fun i _ => r.l.length - (intOf i).toNat)
  case atStart => exact ⟨0, by omega, rfl, HV, bl⟩
  case round =>
    obtain ⟨k, hk, rfl, hK, hbl⟩ := hrel
    obtain ⟨wr, rfl⟩ : ∃ wo : World, wo = wr := ⟨_, rfl⟩
    have hBW : Below w.heap.size w wr := bl
    obtain ⟨g0, g1, g2⟩ := B1.out wr hbl
    by_cases hlt : k < r.l.length
    · obtain ⟨ad, y, hA, had, hy, hm, c0⟩ := (HR.out.blw oneB_B hBW hBW.size).at_ hlt
      unfold BC at c0
      rw [Nat.mul_one] at c0
      rw [hA] at g1
      clear hA
      have hst := HF.out k y hy
      have KY := Lib.hid (KO.out y hm)
      clear hy hm HF
      unfold idE at hst
      generalize idP y = b at *
      cases b
      · rw [if_neg (by simp), orEn (by decide)] at hst
        obtain rfl : 6 = V := hst.symm.trans hK.out
        clear hst hK HV
        go_wp2_with (go_at_call 96; (with_reducible refine (KY.out _ ?_).mono ?_); (exact bl); rintro e w5 ⟨rfl, hb5⟩)
        go_ret
        exact ⟨rfl, bl⟩
      · rw [if_pos rfl, orE0] at hst
        have hn : Hid (F (k + 1) = V) := Lib.hid (hst.symm.trans hK.out)
        clear hst hK
        go_wp2_with (go_at_call 96; (with_reducible refine (KY.out _ ?_).mono ?_); (exact bl); rintro e w5 ⟨rfl, hb5⟩)
        exact ⟨⟨k + 1, by omega, by congr 1, hn, bl⟩, by simp [intOf]; omega⟩
    · obtain rfl : k = r.l.length := by omega
      have hE0 : V = 0 := hK.out.symm.trans HL.out
      subst hE0
      clear hK HF HV HL hlt
      go_wp2
      go_ret
      exact ⟨rfl, bl⟩
set_option maxHeartbeats 3000000 in
set_option maxRecDepth 20000 in
theorem rv_head (E : Rw va.En) (n : Nt) (w : World) (hV : ∀ t, va.valB E.l t = decide (0 < va.sizeT E.l t)) (hE : RsE w w.heap.size E) (hn : RsN w w.heap.size n) :
    Calls Tryz.prog 57 #[.slice E.A E.l.length E.c, nV n] w (Bel (.int .i64 (hedE E.l n)) w) := by
  obtain ⟨h1, h2, h3, h4, h5, h6, h7, h8⟩ := hn
  have KI := Lib.hid (fun W (h : Below w.heap.size w W) => rv_ident n.nm W h1)
  have K1 := Lib.hid (fun W (h : Below w.heap.size w W) => rv_decls_t E n.ins W hV (hE.blw h h.size) (h2.blw h h.size))
  have K2 := Lib.hid (fun W (h : Below w.heap.size w W) => rv_decls_t E n.outs W hV (hE.blw h h.size) (h3.blw h h.size))
  have K3 := Lib.hid (fun W (h : Below w.heap.size w W) => rv_decls_f E n.locs W hV (hE.blw h h.size) (h4.blw h h.size))
  unfold hedE
  generalize errs (n.ins.l.map (portE E.l)) = u at *
  generalize errs (n.outs.l.map (portE E.l)) = v at *
  generalize errs (n.locs.l.map (locE E.l)) = x at *
  generalize idP n.nm = b at *
  clear hV hE h1 h2 h3 h4 h5 h6 h7 h8
  cases b
  · rw [if_neg (by simp)]
    go_enter Tryz.func57, Tryz.ntmps57
    go_wp2_with (first | (go_at_call 96; (with_reducible refine (KI.out _ ?_).mono ?_); (exact bl); rintro e w1 ⟨rfl, hb1⟩; obtain ⟨g0, g1, g2, g3, g4, g5, g6, g7, g8⟩ := B1N (w := w) (W := w1) n bl) | (go_at_call 97; (with_reducible refine (K1.out _ ?_).mono ?_); (exact bl); rintro e w2 ⟨rfl, hb2⟩; obtain ⟨g0, g1, g2, g3, g4, g5, g6, g7, g8⟩ := B1N (w := w) (W := w2) n bl) | (go_at_call 97; (with_reducible refine (K2.out _ ?_).mono ?_); (exact bl); rintro e w3 ⟨rfl, hb3⟩; obtain ⟨g0, g1, g2, g3, g4, g5, g6, g7, g8⟩ := B1N (w := w) (W := w3) n bl) | (go_at_call 97; (with_reducible refine (K3.out _ ?_).mono ?_); (exact bl); rintro e w4 ⟨rfl, hb4⟩; obtain ⟨g0, g1, g2, g3, g4, g5, g6, g7, g8⟩ := B1N (w := w) (W := w4) n bl))
    go_ret
    exact ⟨rfl, bl⟩
  rw [if_pos rfl]
  by_cases z0 : 64 < n.ins.l.length
  · have q0 : (64 : Int) < (n.ins.l.length : Int) := by omega
    rw [if_pos (by omega)]
    clear z0
    go_enter Tryz.func57, Tryz.ntmps57
    go_wp2_with (first | (go_at_call 96; (with_reducible refine (KI.out _ ?_).mono ?_); (exact bl); rintro e w1 ⟨rfl, hb1⟩; obtain ⟨g0, g1, g2, g3, g4, g5, g6, g7, g8⟩ := B1N (w := w) (W := w1) n bl) | (go_at_call 97; (with_reducible refine (K1.out _ ?_).mono ?_); (exact bl); rintro e w2 ⟨rfl, hb2⟩; obtain ⟨g0, g1, g2, g3, g4, g5, g6, g7, g8⟩ := B1N (w := w) (W := w2) n bl) | (go_at_call 97; (with_reducible refine (K2.out _ ?_).mono ?_); (exact bl); rintro e w3 ⟨rfl, hb3⟩; obtain ⟨g0, g1, g2, g3, g4, g5, g6, g7, g8⟩ := B1N (w := w) (W := w3) n bl) | (go_at_call 97; (with_reducible refine (K3.out _ ?_).mono ?_); (exact bl); rintro e w4 ⟨rfl, hb4⟩; obtain ⟨g0, g1, g2, g3, g4, g5, g6, g7, g8⟩ := B1N (w := w) (W := w4) n bl))
    go_ret
    exact ⟨rfl, bl⟩
  have q0 : (n.ins.l.length : Int) ≤ (64 : Int) := by omega
  by_cases z1 : 64 < n.outs.l.length
  · have q1 : (64 : Int) < (n.outs.l.length : Int) := by omega
    rw [if_pos (by omega)]
    clear z0 z1
    go_enter Tryz.func57, Tryz.ntmps57
    go_wp2_with (first | (go_at_call 96; (with_reducible refine (KI.out _ ?_).mono ?_); (exact bl); rintro e w1 ⟨rfl, hb1⟩; obtain ⟨g0, g1, g2, g3, g4, g5, g6, g7, g8⟩ := B1N (w := w) (W := w1) n bl) | (go_at_call 97; (with_reducible refine (K1.out _ ?_).mono ?_); (exact bl); rintro e w2 ⟨rfl, hb2⟩; obtain ⟨g0, g1, g2, g3, g4, g5, g6, g7, g8⟩ := B1N (w := w) (W := w2) n bl) | (go_at_call 97; (with_reducible refine (K2.out _ ?_).mono ?_); (exact bl); rintro e w3 ⟨rfl, hb3⟩; obtain ⟨g0, g1, g2, g3, g4, g5, g6, g7, g8⟩ := B1N (w := w) (W := w3) n bl) | (go_at_call 97; (with_reducible refine (K3.out _ ?_).mono ?_); (exact bl); rintro e w4 ⟨rfl, hb4⟩; obtain ⟨g0, g1, g2, g3, g4, g5, g6, g7, g8⟩ := B1N (w := w) (W := w4) n bl))
    go_ret
    exact ⟨rfl, bl⟩
  have q1 : (n.outs.l.length : Int) ≤ (64 : Int) := by omega
  by_cases z2 : 256 < n.locs.l.length
  · have q2 : (256 : Int) < (n.locs.l.length : Int) := by omega
    rw [if_pos (by omega)]
    clear z0 z1 z2
    go_enter Tryz.func57, Tryz.ntmps57
    go_wp2_with (first | (go_at_call 96; (with_reducible refine (KI.out _ ?_).mono ?_); (exact bl); rintro e w1 ⟨rfl, hb1⟩; obtain ⟨g0, g1, g2, g3, g4, g5, g6, g7, g8⟩ := B1N (w := w) (W := w1) n bl) | (go_at_call 97; (with_reducible refine (K1.out _ ?_).mono ?_); (exact bl); rintro e w2 ⟨rfl, hb2⟩; obtain ⟨g0, g1, g2, g3, g4, g5, g6, g7, g8⟩ := B1N (w := w) (W := w2) n bl) | (go_at_call 97; (with_reducible refine (K2.out _ ?_).mono ?_); (exact bl); rintro e w3 ⟨rfl, hb3⟩; obtain ⟨g0, g1, g2, g3, g4, g5, g6, g7, g8⟩ := B1N (w := w) (W := w3) n bl) | (go_at_call 97; (with_reducible refine (K3.out _ ?_).mono ?_); (exact bl); rintro e w4 ⟨rfl, hb4⟩; obtain ⟨g0, g1, g2, g3, g4, g5, g6, g7, g8⟩ := B1N (w := w) (W := w4) n bl))
    go_ret
    exact ⟨rfl, bl⟩
  have q2 : (n.locs.l.length : Int) ≤ (256 : Int) := by omega
  by_cases z3 : 256 < n.qs.l.length
  · have q3 : (256 : Int) < (n.qs.l.length : Int) := by omega
    rw [if_pos (by omega)]
    clear z0 z1 z2 z3
    go_enter Tryz.func57, Tryz.ntmps57
    go_wp2_with (first | (go_at_call 96; (with_reducible refine (KI.out _ ?_).mono ?_); (exact bl); rintro e w1 ⟨rfl, hb1⟩; obtain ⟨g0, g1, g2, g3, g4, g5, g6, g7, g8⟩ := B1N (w := w) (W := w1) n bl) | (go_at_call 97; (with_reducible refine (K1.out _ ?_).mono ?_); (exact bl); rintro e w2 ⟨rfl, hb2⟩; obtain ⟨g0, g1, g2, g3, g4, g5, g6, g7, g8⟩ := B1N (w := w) (W := w2) n bl) | (go_at_call 97; (with_reducible refine (K2.out _ ?_).mono ?_); (exact bl); rintro e w3 ⟨rfl, hb3⟩; obtain ⟨g0, g1, g2, g3, g4, g5, g6, g7, g8⟩ := B1N (w := w) (W := w3) n bl) | (go_at_call 97; (with_reducible refine (K3.out _ ?_).mono ?_); (exact bl); rintro e w4 ⟨rfl, hb4⟩; obtain ⟨g0, g1, g2, g3, g4, g5, g6, g7, g8⟩ := B1N (w := w) (W := w4) n bl))
    go_ret
    exact ⟨rfl, bl⟩
  have q3 : (n.qs.l.length : Int) ≤ (256 : Int) := by omega
  by_cases z4 : 8 < n.au.l.length
  · have q4 : (8 : Int) < (n.au.l.length : Int) := by omega
    rw [if_pos (by omega)]
    clear z0 z1 z2 z3 z4
    go_enter Tryz.func57, Tryz.ntmps57
    go_wp2_with (first | (go_at_call 96; (with_reducible refine (KI.out _ ?_).mono ?_); (exact bl); rintro e w1 ⟨rfl, hb1⟩; obtain ⟨g0, g1, g2, g3, g4, g5, g6, g7, g8⟩ := B1N (w := w) (W := w1) n bl) | (go_at_call 97; (with_reducible refine (K1.out _ ?_).mono ?_); (exact bl); rintro e w2 ⟨rfl, hb2⟩; obtain ⟨g0, g1, g2, g3, g4, g5, g6, g7, g8⟩ := B1N (w := w) (W := w2) n bl) | (go_at_call 97; (with_reducible refine (K2.out _ ?_).mono ?_); (exact bl); rintro e w3 ⟨rfl, hb3⟩; obtain ⟨g0, g1, g2, g3, g4, g5, g6, g7, g8⟩ := B1N (w := w) (W := w3) n bl) | (go_at_call 97; (with_reducible refine (K3.out _ ?_).mono ?_); (exact bl); rintro e w4 ⟨rfl, hb4⟩; obtain ⟨g0, g1, g2, g3, g4, g5, g6, g7, g8⟩ := B1N (w := w) (W := w4) n bl))
    go_ret
    exact ⟨rfl, bl⟩
  have q4 : (n.au.l.length : Int) ≤ (8 : Int) := by omega
  by_cases z5 : 8 < n.asm.l.length
  · have q5 : (8 : Int) < (n.asm.l.length : Int) := by omega
    rw [if_pos (by omega)]
    clear z0 z1 z2 z3 z4 z5
    go_enter Tryz.func57, Tryz.ntmps57
    go_wp2_with (first | (go_at_call 96; (with_reducible refine (KI.out _ ?_).mono ?_); (exact bl); rintro e w1 ⟨rfl, hb1⟩; obtain ⟨g0, g1, g2, g3, g4, g5, g6, g7, g8⟩ := B1N (w := w) (W := w1) n bl) | (go_at_call 97; (with_reducible refine (K1.out _ ?_).mono ?_); (exact bl); rintro e w2 ⟨rfl, hb2⟩; obtain ⟨g0, g1, g2, g3, g4, g5, g6, g7, g8⟩ := B1N (w := w) (W := w2) n bl) | (go_at_call 97; (with_reducible refine (K2.out _ ?_).mono ?_); (exact bl); rintro e w3 ⟨rfl, hb3⟩; obtain ⟨g0, g1, g2, g3, g4, g5, g6, g7, g8⟩ := B1N (w := w) (W := w3) n bl) | (go_at_call 97; (with_reducible refine (K3.out _ ?_).mono ?_); (exact bl); rintro e w4 ⟨rfl, hb4⟩; obtain ⟨g0, g1, g2, g3, g4, g5, g6, g7, g8⟩ := B1N (w := w) (W := w4) n bl))
    go_ret
    exact ⟨rfl, bl⟩
  have q5 : (n.asm.l.length : Int) ≤ (8 : Int) := by omega
  by_cases z6 : 8 < n.ens.l.length
  · have q6 : (8 : Int) < (n.ens.l.length : Int) := by omega
    rw [if_pos (by omega)]
    clear z0 z1 z2 z3 z4 z5 z6
    go_enter Tryz.func57, Tryz.ntmps57
    go_wp2_with (first | (go_at_call 96; (with_reducible refine (KI.out _ ?_).mono ?_); (exact bl); rintro e w1 ⟨rfl, hb1⟩; obtain ⟨g0, g1, g2, g3, g4, g5, g6, g7, g8⟩ := B1N (w := w) (W := w1) n bl) | (go_at_call 97; (with_reducible refine (K1.out _ ?_).mono ?_); (exact bl); rintro e w2 ⟨rfl, hb2⟩; obtain ⟨g0, g1, g2, g3, g4, g5, g6, g7, g8⟩ := B1N (w := w) (W := w2) n bl) | (go_at_call 97; (with_reducible refine (K2.out _ ?_).mono ?_); (exact bl); rintro e w3 ⟨rfl, hb3⟩; obtain ⟨g0, g1, g2, g3, g4, g5, g6, g7, g8⟩ := B1N (w := w) (W := w3) n bl) | (go_at_call 97; (with_reducible refine (K3.out _ ?_).mono ?_); (exact bl); rintro e w4 ⟨rfl, hb4⟩; obtain ⟨g0, g1, g2, g3, g4, g5, g6, g7, g8⟩ := B1N (w := w) (W := w4) n bl))
    go_ret
    exact ⟨rfl, bl⟩
  have q6 : (n.ens.l.length : Int) ≤ (8 : Int) := by omega
  rw [if_neg (by omega)]
  clear z0 z1 z2 z3 z4 z5 z6
  by_cases z : n.outs.l.length = 0
  · have q : ((n.outs.l.length : Int) == 0) = true := by simp [z]
    rw [if_pos z]
    clear z
    go_enter Tryz.func57, Tryz.ntmps57
    go_wp2_with (first | (go_at_call 96; (with_reducible refine (KI.out _ ?_).mono ?_); (exact bl); rintro e w1 ⟨rfl, hb1⟩; obtain ⟨g0, g1, g2, g3, g4, g5, g6, g7, g8⟩ := B1N (w := w) (W := w1) n bl) | (go_at_call 97; (with_reducible refine (K1.out _ ?_).mono ?_); (exact bl); rintro e w2 ⟨rfl, hb2⟩; obtain ⟨g0, g1, g2, g3, g4, g5, g6, g7, g8⟩ := B1N (w := w) (W := w2) n bl) | (go_at_call 97; (with_reducible refine (K2.out _ ?_).mono ?_); (exact bl); rintro e w3 ⟨rfl, hb3⟩; obtain ⟨g0, g1, g2, g3, g4, g5, g6, g7, g8⟩ := B1N (w := w) (W := w3) n bl) | (go_at_call 97; (with_reducible refine (K3.out _ ?_).mono ?_); (exact bl); rintro e w4 ⟨rfl, hb4⟩; obtain ⟨g0, g1, g2, g3, g4, g5, g6, g7, g8⟩ := B1N (w := w) (W := w4) n bl))
    go_ret
    exact ⟨rfl, bl⟩
  have q : ((n.outs.l.length : Int) == 0) = false := by simp [z]
  rw [if_neg z]
  clear z
  by_cases h_u : u = 0
  · subst h_u
    rw [orE0]
    by_cases h_v : v = 0
    · subst h_v
      rw [orE0]
      go_enter Tryz.func57, Tryz.ntmps57
      go_wp2_with (first | (go_at_call 96; (with_reducible refine (KI.out _ ?_).mono ?_); (exact bl); rintro e w1 ⟨rfl, hb1⟩; obtain ⟨g0, g1, g2, g3, g4, g5, g6, g7, g8⟩ := B1N (w := w) (W := w1) n bl) | (go_at_call 97; (with_reducible refine (K1.out _ ?_).mono ?_); (exact bl); rintro e w2 ⟨rfl, hb2⟩; obtain ⟨g0, g1, g2, g3, g4, g5, g6, g7, g8⟩ := B1N (w := w) (W := w2) n bl) | (go_at_call 97; (with_reducible refine (K2.out _ ?_).mono ?_); (exact bl); rintro e w3 ⟨rfl, hb3⟩; obtain ⟨g0, g1, g2, g3, g4, g5, g6, g7, g8⟩ := B1N (w := w) (W := w3) n bl) | (go_at_call 97; (with_reducible refine (K3.out _ ?_).mono ?_); (exact bl); rintro e w4 ⟨rfl, hb4⟩; obtain ⟨g0, g1, g2, g3, g4, g5, g6, g7, g8⟩ := B1N (w := w) (W := w4) n bl))
      go_ret
      exact ⟨rfl, bl⟩
    · have y_v : (v == 0) = false := by simp [h_v]
      rw [orEn h_v]
      clear h_v
      go_enter Tryz.func57, Tryz.ntmps57
      go_wp2_with (first | (go_at_call 96; (with_reducible refine (KI.out _ ?_).mono ?_); (exact bl); rintro e w1 ⟨rfl, hb1⟩; obtain ⟨g0, g1, g2, g3, g4, g5, g6, g7, g8⟩ := B1N (w := w) (W := w1) n bl) | (go_at_call 97; (with_reducible refine (K1.out _ ?_).mono ?_); (exact bl); rintro e w2 ⟨rfl, hb2⟩; obtain ⟨g0, g1, g2, g3, g4, g5, g6, g7, g8⟩ := B1N (w := w) (W := w2) n bl) | (go_at_call 97; (with_reducible refine (K2.out _ ?_).mono ?_); (exact bl); rintro e w3 ⟨rfl, hb3⟩; obtain ⟨g0, g1, g2, g3, g4, g5, g6, g7, g8⟩ := B1N (w := w) (W := w3) n bl) | (go_at_call 97; (with_reducible refine (K3.out _ ?_).mono ?_); (exact bl); rintro e w4 ⟨rfl, hb4⟩; obtain ⟨g0, g1, g2, g3, g4, g5, g6, g7, g8⟩ := B1N (w := w) (W := w4) n bl))
      go_ret
      exact ⟨rfl, bl⟩
  · have y_u : (u == 0) = false := by simp [h_u]
    rw [orEn h_u]
    clear h_u
    go_enter Tryz.func57, Tryz.ntmps57
    go_wp2_with (first | (go_at_call 96; (with_reducible refine (KI.out _ ?_).mono ?_); (exact bl); rintro e w1 ⟨rfl, hb1⟩; obtain ⟨g0, g1, g2, g3, g4, g5, g6, g7, g8⟩ := B1N (w := w) (W := w1) n bl) | (go_at_call 97; (with_reducible refine (K1.out _ ?_).mono ?_); (exact bl); rintro e w2 ⟨rfl, hb2⟩; obtain ⟨g0, g1, g2, g3, g4, g5, g6, g7, g8⟩ := B1N (w := w) (W := w2) n bl) | (go_at_call 97; (with_reducible refine (K2.out _ ?_).mono ?_); (exact bl); rintro e w3 ⟨rfl, hb3⟩; obtain ⟨g0, g1, g2, g3, g4, g5, g6, g7, g8⟩ := B1N (w := w) (W := w3) n bl) | (go_at_call 97; (with_reducible refine (K3.out _ ?_).mono ?_); (exact bl); rintro e w4 ⟨rfl, hb4⟩; obtain ⟨g0, g1, g2, g3, g4, g5, g6, g7, g8⟩ := B1N (w := w) (W := w4) n bl))
    go_ret
    exact ⟨rfl, bl⟩
set_option maxHeartbeats 3000000 in
set_option maxRecDepth 20000 in
theorem rv_tail (E : Rw va.En) (n : Nt) (w : World) (hV : ∀ t, va.valB E.l t = decide (0 < va.sizeT E.l t)) (hE : RsE w w.heap.size E) (hn : RsN w w.heap.size n) (hm : SmN 1048576 n) :
    Calls Tryz.prog 59 #[.slice E.A E.l.length E.c, nV n] w (Bel (.int .i64 (talE E.l n)) w) := by
  obtain ⟨h1, h2, h3, h4, h5, h6, h7, h8⟩ := hn
  have KA : Hid (∀ y ∈ n.au.l, ∀ W, Below w.heap.size w W → Calls Tryz.prog 98 #[.slice E.A E.l.length E.c, aV y, .int .i64 0] W (Bel (.int .i64 (autE E.l 3 y)) W)) := Lib.hid fun y hy W h => rv_auto 3 (Nat.le_refl _) E y W hV (hE.blw h h.size) ((h6.blw h h.size).2 y hy) (hm.au y hy)
  have KX : Hid (∀ y ∈ n.asm.l, ∀ W, Below w.heap.size w W → Calls Tryz.prog 37 #[.slice E.A E.l.length E.c, xV y] W (Bel (.int .i64 (expE E.l y)) W)) := Lib.hid fun y hy W h => rv_expr E y W (hE.blw h h.size) ((h7.blw h h.size).2 y hy) (hm.asm y hy)
  have KY' : Hid (∀ y ∈ n.ens.l, ∀ W, Below w.heap.size w W → Calls Tryz.prog 37 #[.slice E.A E.l.length E.c, xV y] W (Bel (.int .i64 (expE E.l y)) W)) := Lib.hid fun y hy W h => rv_expr E y W (hE.blw h h.size) ((h8.blw h h.size).2 y hy) (hm.ens y hy)
  simp only [xV] at KX KY'
  have h9 := h6.1.len
  have h9a := h7.1.len
  have h9b := h8.1.len
  unfold maxLen at h9 h9a h9b
  have HR1 := Lib.hid h6.1
  have HR2 := Lib.hid h7.1
  have HR3 := Lib.hid h8.1
  unfold talE
  clear hV hE hm h1 h2 h3 h4 h5 h6 h7 h8
  obtain ⟨F1, hF0, hFl, HF1⟩ := errs_steps n.au.l (autE E.l 3)
  rw [← hF0]
  obtain ⟨V1, hV⟩ : ∃ V, F1 0 = V := ⟨_, rfl⟩
  have HV1 := Lib.hid hV
  have HL1 := Lib.hid hFl
  rw [hV]
  clear hF0 hFl hV
  obtain ⟨F2, hF0, hFl, HF2⟩ := errs_steps n.asm.l (expE E.l)
  rw [← hF0]
  obtain ⟨V2, hV⟩ : ∃ V, F2 0 = V := ⟨_, rfl⟩
  have HV2 := Lib.hid hV
  have HL2 := Lib.hid hFl
  rw [hV]
  clear hF0 hFl hV
  obtain ⟨F3, hF0, hFl, HF3⟩ := errs_steps n.ens.l (expE E.l)
  rw [← hF0]
  obtain ⟨V3, hV⟩ : ∃ V, F3 0 = V := ⟨_, rfl⟩
  have HV3 := Lib.hid hV
  have HL3 := Lib.hid hFl
  rw [hV]
  clear hF0 hFl hV
  obtain ⟨T, hT⟩ : ∃ T, orE V1 (orE V2 V3) = T := ⟨_, rfl⟩
  have HT1 := Lib.hid hT
  rw [hT]
  clear hT
  go_enter Tryz.func59, Tryz.ntmps59
  go_wp2
  go_loopw [5] (fun i wr => ∃ k : Nat, k ≤ n.au.l.length ∧ i = .int .i64 (k : Int) ∧ Hid (F1 k = V1) ∧ Below ((w.alloc (.cells #[.string n.nm, .slice n.ins.A n.ins.l.length n.ins.c, .slice n.outs.A n.outs.l.length n.outs.c, .slice n.locs.A n.locs.l.length n.locs.c, .slice n.qs.A n.qs.l.length n.qs.c, .slice n.au.A n.au.l.length n.au.c, .slice n.asm.A n.asm.l.length n.asm.c, .slice n.ens.A n.ens.l.length n.ens.c] 45))).heap.size ((w.alloc (.cells #[.string n.nm, .slice n.ins.A n.ins.l.length n.ins.c, .slice n.outs.A n.outs.l.length n.outs.c, .slice n.locs.A n.locs.l.length n.locs.c, .slice n.qs.A n.qs.l.length n.qs.c, .slice n.au.A n.au.l.length n.au.c, .slice n.asm.A n.asm.l.length n.asm.c, .slice n.ens.A n.ens.l.length n.ens.c] 45))) wr) (fun i _ => n.au.l.length - (intOf i).toNat)
  case atStart => exact ⟨0, by omega, rfl, HV1, bl⟩
  case round =>
    obtain ⟨k1, hk1, rfl, hK1, hbl1⟩ := hrel
    obtain ⟨wr1, rfl⟩ : ∃ wo : World, wo = wr := ⟨_, rfl⟩
    have hBW1 : Below w.heap.size w wr1 := bl
    obtain ⟨g0, g1, g2, g3, g4, g5, g6, g7, g8⟩ := B1N (w := w) (W := wr1) n hbl1
    by_cases hlt : k1 < n.au.l.length
    · obtain ⟨ad1, y1, hA, had1, hy, hm, c0⟩ := (HR1.out.blw oneB_A hBW1 hBW1.size).at_ hlt
      unfold AC at c0
      rw [Nat.mul_one] at c0
      rw [hA] at g5
      clear hA
      have hst := HF1.out k1 y1 hy
      have KY := Lib.hid (KA.out y1 hm)
      clear hy hm HF1
      generalize autE E.l 3 y1 = v at *
      by_cases hv : v = 0
      · subst hv
        rw [orE0] at hst
        have hn : Hid (F1 (k1 + 1) = V1) := Lib.hid (hst.symm.trans hK1.out)
        clear hst hK1
        go_wp2_with (go_at_call 98; (with_reducible refine (KY.out _ ?_).mono ?_); (exact bl); rintro e w5 ⟨rfl, hb5⟩)
        exact ⟨⟨k1 + 1, by omega, by congr 1, hn, bl⟩, by simp [intOf]; omega⟩
      · rw [orEn hv] at hst
        have hv1 : v = V1 := hst.symm.trans hK1.out
        have hT : v = T := by rw [← HT1.out, ← hv1, orEn hv]
        clear hv1
        subst hT
        have e0 : (v == 0) = false := by simp [hv]
        clear hst hK1 hv HV1
        go_wp2_with (go_at_call 98; (with_reducible refine (KY.out _ ?_).mono ?_); (exact bl); rintro e w5 ⟨rfl, hb5⟩)
        go_ret
        exact ⟨rfl, bl⟩
    · obtain rfl : k1 = n.au.l.length := by omega
      have hE0 : V1 = 0 := hK1.out.symm.trans HL1.out
      subst hE0
      clear hK1 HF1 HV1 HL1 hlt
      have HT2 : Hid (orE V2 V3 = T) := Lib.hid (by rw [← HT1.out, orE0])
      clear HT1
      go_wp2
      go_loopw [7] (fun i wr => ∃ k : Nat, k ≤ n.asm.l.length ∧ i = .int .i64 (k : Int) ∧ Hid (F2 k = V2) ∧ Below ((w.alloc (.cells #[.string n.nm, .slice n.ins.A n.ins.l.length n.ins.c, .slice n.outs.A n.outs.l.length n.outs.c, .slice n.locs.A n.locs.l.length n.locs.c, .slice n.qs.A n.qs.l.length n.qs.c, .slice n.au.A n.au.l.length n.au.c, .slice n.asm.A n.asm.l.length n.asm.c, .slice n.ens.A n.ens.l.length n.ens.c] 45))).heap.size ((w.alloc (.cells #[.string n.nm, .slice n.ins.A n.ins.l.length n.ins.c, .slice n.outs.A n.outs.l.length n.outs.c, .slice n.locs.A n.locs.l.length n.locs.c, .slice n.qs.A n.qs.l.length n.qs.c, .slice n.au.A n.au.l.length n.au.c, .slice n.asm.A n.asm.l.length n.asm.c, .slice n.ens.A n.ens.l.length n.ens.c] 45))) wr) (fun i _ => n.asm.l.length - (intOf i).toNat)
      case atStart => exact ⟨0, by omega, rfl, HV2, bl⟩
      case round =>
        obtain ⟨k2, hk2, rfl, hK2, hbl2⟩ := hrel
        obtain ⟨wr2, rfl⟩ : ∃ wo : World, wo = wr := ⟨_, rfl⟩
        have hBW2 : Below w.heap.size w wr2 := bl
        obtain ⟨g0, g1, g2, g3, g4, g5, g6, g7, g8⟩ := B1N (w := w) (W := wr2) n hbl2
        by_cases hlt : k2 < n.asm.l.length
        · obtain ⟨ad2, y2, hA, had2, hy, hm, ⟨c0, c1, c2, c3, c4, c5⟩⟩ := (HR2.out.blw oneB_X hBW2 hBW2.size).at_ hlt
          rw [hA] at g6
          clear hA
          have hst := HF2.out k2 y2 hy
          have KY := Lib.hid (KX.out y2 hm)
          clear hy hm HF2
          generalize expE E.l y2 = v at *
          by_cases hv : v = 0
          · subst hv
            rw [orE0] at hst
            have hn : Hid (F2 (k2 + 1) = V2) := Lib.hid (hst.symm.trans hK2.out)
            clear hst hK2
            go_wp2_with (go_at_call 37; (with_reducible refine (KY.out _ ?_).mono ?_); (exact bl); rintro e w6 ⟨rfl, hb6⟩)
            exact ⟨⟨k2 + 1, by omega, by congr 1, hn, bl⟩, by simp [intOf]; omega⟩
          · rw [orEn hv] at hst
            have hv1 : v = V2 := hst.symm.trans hK2.out
            have hT : v = T := by rw [← HT2.out, ← hv1, orEn hv]
            clear hv1
            subst hT
            have e0 : (v == 0) = false := by simp [hv]
            clear hst hK2 hv HV2
            go_wp2_with (go_at_call 37; (with_reducible refine (KY.out _ ?_).mono ?_); (exact bl); rintro e w6 ⟨rfl, hb6⟩)
            go_ret
            exact ⟨rfl, bl⟩
        · obtain rfl : k2 = n.asm.l.length := by omega
          have hE0 : V2 = 0 := hK2.out.symm.trans HL2.out
          subst hE0
          clear hK2 HF2 HV2 HL2 hlt
          have HT3 : Hid (V3 = T) := Lib.hid (by rw [← HT2.out, orE0])
          clear HT2
          go_wp2
          go_loopw [9] (fun i wr => ∃ k : Nat, k ≤ n.ens.l.length ∧ i = .int .i64 (k : Int) ∧ Hid (F3 k = V3) ∧ Below ((w.alloc (.cells #[.string n.nm, .slice n.ins.A n.ins.l.length n.ins.c, .slice n.outs.A n.outs.l.length n.outs.c, .slice n.locs.A n.locs.l.length n.locs.c, .slice n.qs.A n.qs.l.length n.qs.c, .slice n.au.A n.au.l.length n.au.c, .slice n.asm.A n.asm.l.length n.asm.c, .slice n.ens.A n.ens.l.length n.ens.c] 45))).heap.size ((w.alloc (.cells #[.string n.nm, .slice n.ins.A n.ins.l.length n.ins.c, .slice n.outs.A n.outs.l.length n.outs.c, .slice n.locs.A n.locs.l.length n.locs.c, .slice n.qs.A n.qs.l.length n.qs.c, .slice n.au.A n.au.l.length n.au.c, .slice n.asm.A n.asm.l.length n.asm.c, .slice n.ens.A n.ens.l.length n.ens.c] 45))) wr) (fun i _ => n.ens.l.length - (intOf i).toNat)
          case atStart => exact ⟨0, by omega, rfl, HV3, bl⟩
          case round =>
            obtain ⟨k3, hk3, rfl, hK3, hbl3⟩ := hrel
            obtain ⟨wr3, rfl⟩ : ∃ wo : World, wo = wr := ⟨_, rfl⟩
            have hBW3 : Below w.heap.size w wr3 := bl
            obtain ⟨g0, g1, g2, g3, g4, g5, g6, g7, g8⟩ := B1N (w := w) (W := wr3) n hbl3
            by_cases hlt : k3 < n.ens.l.length
            · obtain ⟨ad3, y3, hA, had3, hy, hm, ⟨c0, c1, c2, c3, c4, c5⟩⟩ := (HR3.out.blw oneB_X hBW3 hBW3.size).at_ hlt
              rw [hA] at g7
              clear hA
              have hst := HF3.out k3 y3 hy
              have KY := Lib.hid (KY'.out y3 hm)
              clear hy hm HF3
              generalize expE E.l y3 = v at *
              by_cases hv : v = 0
              · subst hv
                rw [orE0] at hst
                have hn : Hid (F3 (k3 + 1) = V3) := Lib.hid (hst.symm.trans hK3.out)
                clear hst hK3
                go_wp2_with (go_at_call 37; (with_reducible refine (KY.out _ ?_).mono ?_); (exact bl); rintro e w7 ⟨rfl, hb7⟩)
                exact ⟨⟨k3 + 1, by omega, by congr 1, hn, bl⟩, by simp [intOf]; omega⟩
              · rw [orEn hv] at hst
                have hv1 : v = V3 := hst.symm.trans hK3.out
                have hT : v = T := by rw [← HT3.out, ← hv1]
                clear hv1
                subst hT
                have e0 : (v == 0) = false := by simp [hv]
                clear hst hK3 hv HV3
                go_wp2_with (go_at_call 37; (with_reducible refine (KY.out _ ?_).mono ?_); (exact bl); rintro e w7 ⟨rfl, hb7⟩)
                go_ret
                exact ⟨rfl, bl⟩
            · obtain rfl : k3 = n.ens.l.length := by omega
              have hE0 : V3 = 0 := hK3.out.symm.trans HL3.out
              subst hE0
              clear hK3 HF3 HV3 HL3 hlt
              have hT : 0 = T := HT3.out
              subst hT
              clear HT3
              go_wp2
              go_ret
              exact ⟨rfl, bl⟩
end Go.Proofs.YtoimjcfdiljkjaaGreatDoor
namespace Go.Proofs.YtoimjcfdiljkjaaGreatDoor
open Go.RowKit Go.Sort
theorem valB_of {es : List va.En} (h : errs (es.map enumE) = 0) (t : Int) : va.valB es t = decide (0 < va.sizeT es t) := by
  have hz : ∀ e ∈ es, enumE e = 0 := fun e he => errs_zero.1 h _ (List.mem_map.2 ⟨e, he, rfl⟩)
  by_cases h2 : t = 2
  · subst h2
    simp [va.valB, va.sizeT]
  by_cases h1 : t = 1
  · subst h1
    simp [va.valB, va.sizeT, va.tagsOf]
  cases hb : va.enuB es t
  · simp [va.valB, va.sizeT, va.tagsOf, hb, h1, h2]
  · have hr : 3 ≤ t ∧ t - 3 < es.length := by simpa [va.enuB] using hb
    obtain ⟨e, he⟩ : ∃ e, es[(t - 3).toNat]? = some e := ⟨_, List.getElem?_eq_getElem (by omega)⟩
    have hne : 0 < e.tags.length := by
      have := hz e (List.mem_of_getElem? he)
      unfold enumE at this
      by_cases hid : idP e.name = true
      · rw [if_pos hid] at this
        by_cases hl : e.tags.length = 0
        · rw [if_pos hl] at this
          omega
        · omega
      · rw [if_neg hid] at this
        omega
    have hs : va.sizeT es t = (e.tags.length : Int) := by
      unfold va.sizeT va.tagsOf
      rw [if_neg h2, if_neg h1, if_pos hb, he]
      rfl
    rw [hs, show va.valB es t = true by simp [va.valB, hb]]
    exact (decide_eq_true (by omega)).symm
set_option maxHeartbeats 6000000 in
set_option maxRecDepth 20000 in
theorem rv_check (p : Pt) (w : World) (hp : RsP w w.heap.size p) (hm : ∀ n ∈ p.ns.l, SmN 1048576 n) :
    Calls Tryz.prog 27 #[pV p] w (Bel (.tuple #[.agg #[.int .i64 (chkE p).1.1, .int .i64 (chkE p).1.2], .int .i64 (chkE p).2]) w) := by
  obtain ⟨hE, hN⟩ := hp
  have HN : Hid (RsP w w.heap.size p) := Lib.hid ⟨hE, hN⟩
  have h9 := hN.1.len
  have h9e := hE.2.1.1
  unfold maxLen at h9 h9e
  have KE : Hid (∀ y ∈ p.es.l, ∀ W, Below w.heap.size w W → Calls Tryz.prog 56 #[.agg #[.string y.name, .slice y.A y.tags.length y.c]] W (Bel (.int .i64 (enumE y)) W)) := Lib.hid fun y hy W h => by
    have hE' := hE.blw h h.size
    obtain ⟨i, hi⟩ := List.getElem?_of_mem hy
    exact rv_enum y W (hE'.1.2 i y hi) (hE.2.2 y hy).1 (hE.2.2 y hy).2.1 (hE.2.2 y hy).2.2
  have TB : Hid (∀ W, Below (((w.alloc (.cells #[.slice p.es.A p.es.l.length p.es.c, .slice p.ns.A p.ns.l.length p.ns.c] 25)).alloc (.cells #[.int .i64 0, .int .i64 0] 59)).alloc (.cells #[.int .i64 (-1), .int .i64 (-1)] 59)).heap.size (((w.alloc (.cells #[.slice p.es.A p.es.l.length p.es.c, .slice p.ns.A p.ns.l.length p.ns.c] 25)).alloc (.cells #[.int .i64 0, .int .i64 0] 59)).alloc (.cells #[.int .i64 (-1), .int .i64 (-1)] 59)) W → (W.cell? ⟨w.heap.size, 0, none⟩ = some (.slice p.es.A p.es.l.length p.es.c) ∧ W.cell? ⟨w.heap.size, 1, none⟩ = some (.slice p.ns.A p.ns.l.length p.ns.c) ∧ W.cell? ⟨w.heap.size + 1, 0, none⟩ = some (.int .i64 0) ∧ W.cell? ⟨w.heap.size + 1, 1, none⟩ = some (.int .i64 0) ∧ W.frozen? ⟨w.heap.size + 1, 0, none⟩ = false ∧ W.frozen? ⟨w.heap.size + 1, 1, none⟩ = false ∧ W.cell? ⟨w.heap.size + 1 + 1, 0, none⟩ = some (.int .i64 (-1)) ∧ W.cell? ⟨w.heap.size + 1 + 1, 1, none⟩ = some (.int .i64 (-1)) ∧ w.heap.size + 1 + 1 < W.heap.size)) := Lib.hid fun W h => by
    have hz : (((w.alloc (.cells #[.slice p.es.A p.es.l.length p.es.c, .slice p.ns.A p.ns.l.length p.ns.c] 25)).alloc (.cells #[.int .i64 0, .int .i64 0] 59)).alloc (.cells #[.int .i64 (-1), .int .i64 (-1)] 59)).heap.size = w.heap.size + 1 + 1 + 1 := by simp only [World.size_alloc]
    have hsz := h.size
    rw [hz] at hsz
    have hc : ∀ q : Addr, q.block < w.heap.size + 1 + 1 + 1 → W.cell? q = _ := fun q hq => h.cell (by rw [hz]; exact hq)
    have hf : ∀ q : Addr, q.block < w.heap.size + 1 + 1 + 1 → W.frozen? q = _ := fun q hq => h.frozen (by rw [hz]; exact hq)
    refine ⟨?_, ?_, ?_, ?_, ?_, ?_, ?_, ?_, by omega⟩
    all_goals (first | (rw [hc _ (by first | omega | (simp; done) | (simp; omega))]; simp [go_sem]; done) | (rw [hf _ (by first | omega | (simp; done) | (simp; omega))]; simp [go_sem]; done))
  have HRE : Hid (va.RdE w w.heap.size p.es.A p.es.l) := Lib.hid hE.1
  have KK : errs (p.es.l.map enumE) = 0 → Hid (∀ y ∈ p.ns.l, ∀ W, Below w.heap.size w W → Calls Tryz.prog 57 #[.slice p.es.A p.es.l.length p.es.c, nV y] W (Bel (.int .i64 (hedE p.es.l y)) W)) ∧
      Hid (∀ y ∈ p.ns.l, ∀ z ∈ y.qs.l, ∀ W, Below w.heap.size w W → Calls Tryz.prog 58 #[.slice p.es.A p.es.l.length p.es.c, qV z] W (Bel (.int .i64 (eqnE p.es.l z)) W)) ∧
      Hid (∀ y ∈ p.ns.l, ∀ W, Below w.heap.size w W → Calls Tryz.prog 59 #[.slice p.es.A p.es.l.length p.es.c, nV y] W (Bel (.int .i64 (talE p.es.l y)) W)) := fun h0 =>
    ⟨Lib.hid fun y hy W h => rv_head p.es y W (valB_of h0) (hE.blw h h.size) ((hN.2 y hy).blw h h.size),
     Lib.hid fun y hy z hz W h => rv_equation p.es z W (hE.blw h h.size) ((((hN.2 y hy).2.2.2.2.1).2 z hz |> fun k => ⟨k.1.blw h h.size, k.2.blw h h.size⟩)) ((hm y hy).qs z hz),
     Lib.hid fun y hy W h => rv_tail p.es y W (valB_of h0) (hE.blw h h.size) ((hN.2 y hy).blw h h.size) (hm y hy)⟩
  unfold chkE
  clear hE hN hm
  by_cases z0 : 24 < p.es.l.length
  · have q0 : (24 : Int) < (p.es.l.length : Int) := by omega
    rw [if_pos (.inl z0)]
    clear z0
    go_enter Tryz.func27, Tryz.ntmps27
    go_wp2
    refine bodyPost_ret (v := .tuple #[.agg #[.int .i64 (-1), .int .i64 (-1)], .int .i64 (3)]) (by simp [results, Tryz.results27, go_sem]) rfl ?_
    exact ⟨rfl, bl⟩
  have q0 : (p.es.l.length : Int) ≤ (24 : Int) := by omega
  by_cases z1 : 96 < p.ns.l.length
  · have q1 : (96 : Int) < (p.ns.l.length : Int) := by omega
    rw [if_pos (.inr z1)]
    clear z0 z1
    go_enter Tryz.func27, Tryz.ntmps27
    go_wp2
    refine bodyPost_ret (v := .tuple #[.agg #[.int .i64 (-1), .int .i64 (-1)], .int .i64 (3)]) (by simp [results, Tryz.results27, go_sem]) rfl ?_
    exact ⟨rfl, bl⟩
  have q1 : (p.ns.l.length : Int) ≤ (96 : Int) := by omega
  rw [if_neg (by omega)]
  clear z0 z1
  by_cases hz : errs (p.es.l.map enumE) = 0
  · obtain ⟨KH, KQ, KT⟩ := KK hz
    clear KK
    have HZ : Hid (∀ e ∈ p.es.l, enumE e = 0) := Lib.hid fun e he => errs_zero.1 hz _ (List.mem_map.2 ⟨e, he, rfl⟩)
    rw [if_pos hz]
    clear hz
    obtain ⟨F, hF0, hFl, HF⟩ := ndsE_steps p.es.l p.ns.l
    rw [← hF0]
    have HR : Hid (∀ q, wheR (some q) = (((q.1 : Int), q.2.1), q.2.2)) := Lib.hid fun q => rfl
    have HRn : Hid (wheR none = ((0, 0), 0)) := Lib.hid rfl
    obtain ⟨V, hV⟩ : ∃ V, wheR (F 0) = V := ⟨_, rfl⟩
    have HV := Lib.hid hV
    have HL := Lib.hid hFl
    rw [hV]
    clear hV hF0 hFl
    have HV1 : Hid True := Lib.hid trivial
    go_enter Tryz.func27, Tryz.ntmps27
    go_wp2
    go_loopw [5] (fun i wr => ∃ k : Nat, k ≤ p.es.l.length ∧ i = .int .i64 (k : Int) ∧ Hid True ∧ Below (((w.alloc (.cells #[.slice p.es.A p.es.l.length p.es.c, .slice p.ns.A p.ns.l.length p.ns.c] 25)).alloc (.cells #[.int .i64 0, .int .i64 0] 59)).alloc (.cells #[.int .i64 (-1), .int .i64 (-1)] 59)).heap.size (((w.alloc (.cells #[.slice p.es.A p.es.l.length p.es.c, .slice p.ns.A p.ns.l.length p.ns.c] 25)).alloc (.cells #[.int .i64 0, .int .i64 0] 59)).alloc (.cells #[.int .i64 (-1), .int .i64 (-1)] 59)) wr) (fun i _ => p.es.l.length - (intOf i).toNat)
    case atStart => exact ⟨0, by omega, rfl, HV1, bl⟩
    case round =>
      obtain ⟨k1, hk1, rfl, hK1, hbl1⟩ := hrel
      obtain ⟨wr1, rfl⟩ : ∃ wo : World, wo = wr := ⟨_, rfl⟩
      have hBW1 : Below w.heap.size w wr1 := bl
      obtain ⟨g0, g1, g2, g3, g4, g5, g6, g7, g8⟩ := TB.out wr1 hbl1
      have b0 := fun o => cell_al o g0
      have b1 := fun o => cell_al o g1
      by_cases hlt : k1 < p.es.l.length
      · obtain ⟨ad, y, hA, had, hy, c0, c1, _⟩ := (HRE.out.to hBW1).at_ hlt
        have hm := List.mem_of_getElem? hy
        rw [hA] at g0
        clear hA b0
        have b0 := fun o => cell_al o g0
        have KY := Lib.hid (KE.out y hm)
        rw [HZ.out y hm] at KY
        clear hy hm
        go_wp2_with (go_at_call 56; (with_reducible refine (KY.out _ ?_).mono ?_); (exact bl); rintro e w3 ⟨rfl, hb3⟩; obtain ⟨g0, g1, g2, g3, g4, g5, g6, g7, g8⟩ := TB.out w3 bl; have b0 := fun o => cell_al o g0; have b1 := fun o => cell_al o g1)
        exact ⟨⟨k1 + 1, by omega, by congr 1, HV1, bl⟩, by simp [intOf]; omega⟩
      · obtain rfl : k1 = p.es.l.length := by omega
        go_wp2
        go_loopw [7] (fun i wr => ∃ k : Nat, k ≤ p.ns.l.length ∧ i = .int .i64 (k : Int) ∧ Hid (wheR (F k) = V) ∧ Below (((w.alloc (.cells #[.slice p.es.A p.es.l.length p.es.c, .slice p.ns.A p.ns.l.length p.ns.c] 25)).alloc (.cells #[.int .i64 0, .int .i64 0] 59)).alloc (.cells #[.int .i64 (-1), .int .i64 (-1)] 59)).heap.size (((w.alloc (.cells #[.slice p.es.A p.es.l.length p.es.c, .slice p.ns.A p.ns.l.length p.ns.c] 25)).alloc (.cells #[.int .i64 0, .int .i64 0] 59)).alloc (.cells #[.int .i64 (-1), .int .i64 (-1)] 59)) wr) (fun i _ => p.ns.l.length - (intOf i).toNat)
        case atStart => exact ⟨0, by omega, rfl, HV, bl⟩
        case round =>
          obtain ⟨k2, hk2, rfl, hK2, hbl2⟩ := hrel
          obtain ⟨wr2, rfl⟩ : ∃ wo : World, wo = wr := ⟨_, rfl⟩
          have hBW2 : Below w.heap.size w wr2 := bl
          obtain ⟨g0, g1, g2, g3, g4, g5, g6, g7, g8⟩ := TB.out wr2 bl; have b0 := fun o => cell_al o g0; have b1 := fun o => cell_al o g1
          by_cases hlt : k2 < p.ns.l.length
          · obtain ⟨ad, y, hA, had, hy, hm, ⟨c0, c1, c2, c3, c4, c5, c6, c7⟩⟩ := ((HN.out.blw hBW2 hBW2.size).2.1).at_ hlt
            have HQ : Hid (RdR w w.heap.size 7 QC y.qs) := Lib.hid ((HN.out.2.2 y hm).2.2.2.2.1).1
            have h9q := HQ.out.len
            unfold maxLen at h9q
            rw [hA] at g1
            clear hA b1
            have b1 := fun o => cell_al o g1
            have hst := HF.out k2 y hy
            have KY := Lib.hid (KH.out y hm)
            have KQ' := Lib.hid (KQ.out y hm)
            have KL := Lib.hid (KT.out y hm)
            clear hy hm HF
            rw [nodE_eq] at hst
            generalize hedE p.es.l y = hv at *
            by_cases hz0 : hv = 0
            · subst hz0
              rw [if_pos rfl] at hst
              obtain ⟨G, hG0, hGl, HG⟩ := eqsE_steps p.es.l y.qs.l
              rw [← hG0] at hst
              have HRp : Hid (∀ q, nodR p.es.l y (some q) = ((q.1 : Int), q.2)) := Lib.hid fun q => rfl
              have HRn' : Hid (nodR p.es.l y none = (-1, talE p.es.l y)) := Lib.hid rfl
              obtain ⟨U, hU⟩ : ∃ U, nodR p.es.l y (G 0) = U := ⟨_, rfl⟩
              have HU := Lib.hid hU
              have HGl := Lib.hid hGl
              rw [hU] at hst
              clear hU hG0 hGl
              have hst := Lib.hid hst
              go_wp2_with (go_at_call 57; (with_reducible refine (KY.out _ ?_).mono ?_); (exact bl); rintro e w4 ⟨rfl, hb4⟩; obtain ⟨n0, n1, n2, n3, n4, n5, n6, n7, n8⟩ := B1N (w := wr2) (W := w4) y bl; have a4 := fun o => cell_al o n4; obtain ⟨g0, g1, g2, g3, g4, g5, g6, g7, g8⟩ := TB.out w4 bl; have b0 := fun o => cell_al o g0; have b1 := fun o => cell_al o g1)
              have hst := hst.out
              go_loopw [10] (fun i wr => ∃ k : Nat, k ≤ y.qs.l.length ∧ i = .int .i64 (k : Int) ∧ Hid (nodR p.es.l y (G k) = U) ∧ Below (wr2.alloc (.cells #[.string y.nm, .slice y.ins.A y.ins.l.length y.ins.c, .slice y.outs.A y.outs.l.length y.outs.c, .slice y.locs.A y.locs.l.length y.locs.c, .slice y.qs.A y.qs.l.length y.qs.c, .slice y.au.A y.au.l.length y.au.c, .slice y.asm.A y.asm.l.length y.asm.c, .slice y.ens.A y.ens.l.length y.ens.c] 45)).heap.size (wr2.alloc (.cells #[.string y.nm, .slice y.ins.A y.ins.l.length y.ins.c, .slice y.outs.A y.outs.l.length y.outs.c, .slice y.locs.A y.locs.l.length y.locs.c, .slice y.qs.A y.qs.l.length y.qs.c, .slice y.au.A y.au.l.length y.au.c, .slice y.asm.A y.asm.l.length y.asm.c, .slice y.ens.A y.ens.l.length y.ens.c] 45)) wr) (fun i _ => y.qs.l.length - (intOf i).toNat)
              case atStart => exact ⟨0, by omega, rfl, HU, bl⟩
              case round =>
                obtain ⟨j, hj, rfl, hJ, hbl3⟩ := hrel
                obtain ⟨wr3, rfl⟩ : ∃ wo : World, wo = wr := ⟨_, rfl⟩
                have hBX3 : Below (((w.alloc (.cells #[.slice p.es.A p.es.l.length p.es.c, .slice p.ns.A p.ns.l.length p.ns.c] 25)).alloc (.cells #[.int .i64 0, .int .i64 0] 59)).alloc (.cells #[.int .i64 (-1), .int .i64 (-1)] 59)).heap.size (((w.alloc (.cells #[.slice p.es.A p.es.l.length p.es.c, .slice p.ns.A p.ns.l.length p.ns.c] 25)).alloc (.cells #[.int .i64 0, .int .i64 0] 59)).alloc (.cells #[.int .i64 (-1), .int .i64 (-1)] 59)) wr3 := bl
                have hBW3 : Below w.heap.size w wr3 := bl
                obtain ⟨g0, g1, g2, g3, g4, g5, g6, g7, g8⟩ := TB.out wr3 bl; have b0 := fun o => cell_al o g0; have b1 := fun o => cell_al o g1
                obtain ⟨n0, n1, n2, n3, n4, n5, n6, n7, n8⟩ := B1N (w := wr2) (W := wr3) y bl; have a4 := fun o => cell_al o n4
                by_cases hlj : j < y.qs.l.length
                · obtain ⟨aq, z, hA, haq, hz, hmz, ⟨d0, d1, d2, d3, d4, d5, d6⟩⟩ := (HQ.out.blw oneB_Q hBW3 hBW3.size).at_ hlj
                  rw [hA] at n4
                  clear hA a4
                  have a4 := fun o => cell_al o n4
                  have hsj := HG.out j z hz
                  have KZ := Lib.hid (KQ'.out z hmz)
                  clear hz hmz HG
                  generalize eqnE p.es.l z = v at *
                  by_cases hv : v = 0
                  · subst hv
                    rw [if_pos rfl] at hsj
                    have hn' : Hid (nodR p.es.l y (G (j + 1)) = U) := Lib.hid (by rw [← hsj]; exact hJ.out)
                    clear hsj hJ
                    have fg0 := cell_regrown g0
                    have fn4 := cell_regrown n4
                    have fd0 := cell_regrown d0
                    have fd1 := cell_regrown d1
                    have fd2 := cell_regrown d2
                    have fd3 := cell_regrown d3
                    have fd4 := cell_regrown d4
                    have fd5 := cell_regrown d5
                    have fd6 := cell_regrown d6
                    have cq' := fun dd os => Calls.regrown_of (KZ.out (grow (redrawn wr3 dd) os) (hBW3.trans ((below_regrown wr3 dd os).mono hBW3.size)))
                    go_wp2
                    refine wp_region_quiet_below (by kernel_rfl) (by kernel_rfl) ?_
                    repeat (quiet_step (with_reducible exact cq' _ _))
                    refine wpQuiet_nil ?_
                    intro _ hw'
                    obtain ⟨⟨dq, osq⟩, hw''⟩ := hw'
                    subst hw''
                    have hbw6' : Below wr3.heap.size wr3 (grow (redrawn wr3 dq) osq) := below_regrown wr3 dq osq
                    generalize grow (redrawn wr3 dq) osq = w6 at hbw6' ⊢
                    clear cq' fg0 fn4 fd0 fd1 fd2 fd3 fd4 fd5 fd6
                    have hbw6 : Below w.heap.size w w6 := hBW3.trans (hbw6'.mono hBW3.size)
                    have hbx6 : Below (((w.alloc (.cells #[.slice p.es.A p.es.l.length p.es.c, .slice p.ns.A p.ns.l.length p.ns.c] 25)).alloc (.cells #[.int .i64 0, .int .i64 0] 59)).alloc (.cells #[.int .i64 (-1), .int .i64 (-1)] 59)).heap.size (((w.alloc (.cells #[.slice p.es.A p.es.l.length p.es.c, .slice p.ns.A p.ns.l.length p.ns.c] 25)).alloc (.cells #[.int .i64 0, .int .i64 0] 59)).alloc (.cells #[.int .i64 (-1), .int .i64 (-1)] 59)) w6 := hBX3.trans (hbw6'.mono hBX3.size)
                    have hbn6 : Below (wr2.alloc (.cells #[.string y.nm, .slice y.ins.A y.ins.l.length y.ins.c, .slice y.outs.A y.outs.l.length y.outs.c, .slice y.locs.A y.locs.l.length y.locs.c, .slice y.qs.A y.qs.l.length y.qs.c, .slice y.au.A y.au.l.length y.au.c, .slice y.asm.A y.asm.l.length y.asm.c, .slice y.ens.A y.ens.l.length y.ens.c] 45)).heap.size (wr2.alloc (.cells #[.string y.nm, .slice y.ins.A y.ins.l.length y.ins.c, .slice y.outs.A y.outs.l.length y.outs.c, .slice y.locs.A y.locs.l.length y.locs.c, .slice y.qs.A y.qs.l.length y.qs.c, .slice y.au.A y.au.l.length y.au.c, .slice y.asm.A y.asm.l.length y.asm.c, .slice y.ens.A y.ens.l.length y.ens.c] 45)) w6 := hbl3.trans (hbw6'.mono hbl3.size)
                    obtain ⟨g0, g1, g2, g3, g4, g5, g6, g7, g8⟩ := TB.out w6 hbx6
                    go_wp2
                    exact ⟨⟨j + 1, by omega, by congr 1, hn', bl⟩, by simp [intOf]; omega⟩
                  · rw [if_neg hv] at hsj
                    have hU : U = ((j : Int), v) := by rw [← hJ.out, hsj, HRp.out]
                    have e0 : (v == 0) = false := by simp [hv]
                    have hV2 : V = (((k2 : Int), (j : Int)), v) := by rw [← hK2.out, hst, if_neg (by rw [hU]; exact hv), HR.out, hU]
                    subst hV2
                    clear hst hK2 hsj hJ HV HU hU hv
                    have fg0 := cell_regrown g0
                    have fn4 := cell_regrown n4
                    have fd0 := cell_regrown d0
                    have fd1 := cell_regrown d1
                    have fd2 := cell_regrown d2
                    have fd3 := cell_regrown d3
                    have fd4 := cell_regrown d4
                    have fd5 := cell_regrown d5
                    have fd6 := cell_regrown d6
                    have cq' := fun dd os => Calls.regrown_of (KZ.out (grow (redrawn wr3 dd) os) (hBW3.trans ((below_regrown wr3 dd os).mono hBW3.size)))
                    go_wp2
                    refine wp_region_quiet_below (by kernel_rfl) (by kernel_rfl) ?_
                    repeat (quiet_step (with_reducible exact cq' _ _))
                    refine wpQuiet_nil ?_
                    intro _ hw'
                    obtain ⟨⟨dq, osq⟩, hw''⟩ := hw'
                    subst hw''
                    have hbw6' : Below wr3.heap.size wr3 (grow (redrawn wr3 dq) osq) := below_regrown wr3 dq osq
                    generalize grow (redrawn wr3 dq) osq = w6 at hbw6' ⊢
                    clear cq' fg0 fn4 fd0 fd1 fd2 fd3 fd4 fd5 fd6
                    have hbw6 : Below w.heap.size w w6 := hBW3.trans (hbw6'.mono hBW3.size)
                    have hbx6 : Below (((w.alloc (.cells #[.slice p.es.A p.es.l.length p.es.c, .slice p.ns.A p.ns.l.length p.ns.c] 25)).alloc (.cells #[.int .i64 0, .int .i64 0] 59)).alloc (.cells #[.int .i64 (-1), .int .i64 (-1)] 59)).heap.size (((w.alloc (.cells #[.slice p.es.A p.es.l.length p.es.c, .slice p.ns.A p.ns.l.length p.ns.c] 25)).alloc (.cells #[.int .i64 0, .int .i64 0] 59)).alloc (.cells #[.int .i64 (-1), .int .i64 (-1)] 59)) w6 := hBX3.trans (hbw6'.mono hBX3.size)
                    have hbn6 : Below (wr2.alloc (.cells #[.string y.nm, .slice y.ins.A y.ins.l.length y.ins.c, .slice y.outs.A y.outs.l.length y.outs.c, .slice y.locs.A y.locs.l.length y.locs.c, .slice y.qs.A y.qs.l.length y.qs.c, .slice y.au.A y.au.l.length y.au.c, .slice y.asm.A y.asm.l.length y.asm.c, .slice y.ens.A y.ens.l.length y.ens.c] 45)).heap.size (wr2.alloc (.cells #[.string y.nm, .slice y.ins.A y.ins.l.length y.ins.c, .slice y.outs.A y.outs.l.length y.outs.c, .slice y.locs.A y.locs.l.length y.locs.c, .slice y.qs.A y.qs.l.length y.qs.c, .slice y.au.A y.au.l.length y.au.c, .slice y.asm.A y.asm.l.length y.asm.c, .slice y.ens.A y.ens.l.length y.ens.c] 45)) w6 := hbl3.trans (hbw6'.mono hbl3.size)
                    obtain ⟨g0, g1, g2, g3, g4, g5, g6, g7, g8⟩ := TB.out w6 hbx6
                    go_wp2
                    obtain ⟨k0, k1⟩ := set2w_cells g2 g3 (.int .i64 (k2)) (.int .i64 (j))
                    refine bodyPost_ret (v := .tuple #[.agg #[.int .i64 (k2), .int .i64 (j)], .int .i64 (v)]) (by simp [results, Tryz.results27, go_sem, k0, k1]) rfl ?_
                    exact ⟨rfl, bel_set2w bl (by omega) _ _⟩
                · obtain rfl : j = y.qs.l.length := by omega
                  have hU : U = (-1, talE p.es.l y) := by rw [← hJ.out, HGl.out, HRn'.out]
                  clear hJ HG HGl HU
                  generalize talE p.es.l y = v at *
                  subst hU
                  by_cases hv : v = 0
                  · subst hv
                    rw [if_pos rfl] at hst
                    have hn' : Hid (wheR (F (k2 + 1)) = V) := Lib.hid (by rw [← hst]; exact hK2.out)
                    clear hst hK2
                    go_wp2_with (go_at_call 59; (with_reducible refine (KL.out _ ?_).mono ?_); (exact bl); rintro e w7 ⟨rfl, hb7⟩; obtain ⟨n0, n1, n2, n3, n4, n5, n6, n7, n8⟩ := B1N (w := wr2) (W := w7) y bl; have a4 := fun o => cell_al o n4; obtain ⟨g0, g1, g2, g3, g4, g5, g6, g7, g8⟩ := TB.out w7 bl; have b0 := fun o => cell_al o g0; have b1 := fun o => cell_al o g1)
                    exact ⟨⟨k2 + 1, by omega, by congr 1, hn', bl⟩, by simp [intOf]; omega⟩
                  · rw [if_neg hv] at hst
                    have hv2 : V = (((k2 : Int), -1), v) := by rw [← hK2.out, hst, HR.out]
                    have e0 : (v == 0) = false := by simp [hv]
                    subst hv2
                    clear hst hK2 hv HV
                    go_wp2_with (go_at_call 59; (with_reducible refine (KL.out _ ?_).mono ?_); (exact bl); rintro e w7 ⟨rfl, hb7⟩; obtain ⟨n0, n1, n2, n3, n4, n5, n6, n7, n8⟩ := B1N (w := wr2) (W := w7) y bl; have a4 := fun o => cell_al o n4; obtain ⟨g0, g1, g2, g3, g4, g5, g6, g7, g8⟩ := TB.out w7 bl; have b0 := fun o => cell_al o g0; have b1 := fun o => cell_al o g1)
                    obtain ⟨k0, k1⟩ := set2w_cells g2 g3 (.int .i64 (k2)) (.int .i64 (-1))
                    refine bodyPost_ret (v := .tuple #[.agg #[.int .i64 (k2), .int .i64 (-1)], .int .i64 (v)]) (by simp [results, Tryz.results27, go_sem, k0, k1]) rfl ?_
                    exact ⟨rfl, bel_set2w bl (by omega) _ _⟩
            · rw [if_neg hz0] at hst
              have e0 : (hv == 0) = false := by simp [hz0]
              have hv2 : V = (((k2 : Int), -1), hv) := by rw [← hK2.out, hst, if_neg hz0, HR.out]
              subst hv2
              clear hst hK2 hz0 HV
              go_wp2_with (go_at_call 57; (with_reducible refine (KY.out _ ?_).mono ?_); (exact bl); rintro e w4 ⟨rfl, hb4⟩; obtain ⟨n0, n1, n2, n3, n4, n5, n6, n7, n8⟩ := B1N (w := wr2) (W := w4) y bl; have a4 := fun o => cell_al o n4; obtain ⟨g0, g1, g2, g3, g4, g5, g6, g7, g8⟩ := TB.out w4 bl; have b0 := fun o => cell_al o g0; have b1 := fun o => cell_al o g1)
              obtain ⟨k0, k1⟩ := set2w_cells g2 g3 (.int .i64 (k2)) (.int .i64 (-1))
              refine bodyPost_ret (v := .tuple #[.agg #[.int .i64 (k2), .int .i64 (-1)], .int .i64 (hv)]) (by simp [results, Tryz.results27, go_sem, k0, k1]) rfl ?_
              exact ⟨rfl, bel_set2w bl (by omega) _ _⟩
          · obtain rfl : k2 = p.ns.l.length := by omega
            have hv2 : V = ((0, 0), 0) := by rw [← hK2.out, HL.out, HRn.out]
            subst hv2
            clear hK2 HF HV HL
            go_wp2
            obtain ⟨k0, k1⟩ := set2w_cells g2 g3 (.int .i64 (0)) (.int .i64 (0))
            refine bodyPost_ret (v := .tuple #[.agg #[.int .i64 (0), .int .i64 (0)], .int .i64 (0)]) (by simp [results, Tryz.results27, go_sem, k0, k1]) rfl ?_
            exact ⟨rfl, bel_set2w bl (by omega) _ _⟩
  · rw [if_neg hz]
    clear KK
    obtain ⟨F1, hF0, hFl, HF1⟩ := errs_steps p.es.l enumE
    rw [← hF0] at hz ⊢
    obtain ⟨V1, hV⟩ : ∃ V, F1 0 = V := ⟨_, rfl⟩
    have HV1 := Lib.hid hV
    have HL1 := Lib.hid hFl
    rw [hV] at hz ⊢
    clear hF0 hFl hV
    have HZ := Lib.hid hz
    clear hz
    go_enter Tryz.func27, Tryz.ntmps27
    go_wp2
    go_loopw [5] (fun i wr => ∃ k : Nat, k ≤ p.es.l.length ∧ i = .int .i64 (k : Int) ∧ Hid (F1 k = V1) ∧ Below (((w.alloc (.cells #[.slice p.es.A p.es.l.length p.es.c, .slice p.ns.A p.ns.l.length p.ns.c] 25)).alloc (.cells #[.int .i64 0, .int .i64 0] 59)).alloc (.cells #[.int .i64 (-1), .int .i64 (-1)] 59)).heap.size (((w.alloc (.cells #[.slice p.es.A p.es.l.length p.es.c, .slice p.ns.A p.ns.l.length p.ns.c] 25)).alloc (.cells #[.int .i64 0, .int .i64 0] 59)).alloc (.cells #[.int .i64 (-1), .int .i64 (-1)] 59)) wr) (fun i _ => p.es.l.length - (intOf i).toNat)
    case atStart => exact ⟨0, by omega, rfl, HV1, bl⟩
    case round =>
      obtain ⟨k1, hk1, rfl, hK1, hbl1⟩ := hrel
      obtain ⟨wr1, rfl⟩ : ∃ wo : World, wo = wr := ⟨_, rfl⟩
      have hBW1 : Below w.heap.size w wr1 := bl
      obtain ⟨g0, g1, g2, g3, g4, g5, g6, g7, g8⟩ := TB.out wr1 hbl1
      have b0 := fun o => cell_al o g0
      have b1 := fun o => cell_al o g1
      by_cases hlt : k1 < p.es.l.length
      · obtain ⟨ad, y, hA, had, hy, c0, c1, _⟩ := (HRE.out.to hBW1).at_ hlt
        have hm := List.mem_of_getElem? hy
        rw [hA] at g0
        clear hA b0
        have b0 := fun o => cell_al o g0
        have hst := HF1.out k1 y hy
        have KY := Lib.hid (KE.out y hm)
        clear hy hm HF1
        generalize enumE y = v at *
        by_cases hv : v = 0
        · subst hv
          rw [orE0] at hst
          have hn : Hid (F1 (k1 + 1) = V1) := Lib.hid (hst.symm.trans hK1.out)
          clear hst hK1
          go_wp2_with (go_at_call 56; (with_reducible refine (KY.out _ ?_).mono ?_); (exact bl); rintro e w3 ⟨rfl, hb3⟩; obtain ⟨g0, g1, g2, g3, g4, g5, g6, g7, g8⟩ := TB.out w3 bl; have b0 := fun o => cell_al o g0; have b1 := fun o => cell_al o g1)
          exact ⟨⟨k1 + 1, by omega, by congr 1, hn, bl⟩, by simp [intOf]; omega⟩
        · rw [orEn hv] at hst
          obtain rfl : v = V1 := hst.symm.trans hK1.out
          have e0 : (v == 0) = false := by simp [hv]
          clear hst hK1 hv HV1
          go_wp2_with (go_at_call 56; (with_reducible refine (KY.out _ ?_).mono ?_); (exact bl); rintro e w3 ⟨rfl, hb3⟩; obtain ⟨g0, g1, g2, g3, g4, g5, g6, g7, g8⟩ := TB.out w3 bl; have b0 := fun o => cell_al o g0; have b1 := fun o => cell_al o g1)
          obtain ⟨k0, k1⟩ := set2w_cells g2 g3 (.int .i64 (-1)) (.int .i64 (-1))
          refine bodyPost_ret (v := .tuple #[.agg #[.int .i64 (-1), .int .i64 (-1)], .int .i64 (v)]) (by simp [results, Tryz.results27, go_sem, k0, k1]) rfl ?_
          exact ⟨rfl, bel_set2w bl (by omega) _ _⟩
      · obtain rfl : k1 = p.es.l.length := by omega
        exact absurd (hK1.out.symm.trans HL1.out) HZ.out
end Go.Proofs.YtoimjcfdiljkjaaGreatDoor
namespace Go.Proofs.YtoimjcfdiljkjaaGreatDoor
open Go.RowKit Go.Sort
def enmS (e : va.En) : List UInt8 := linS 0 ([116, 121, 112, 101, 32] ++ bsT e.name ++ [32, 61, 32] ++ Lib.join (e.tags.map bsT) [32, 124, 32] ++ [59])
def nodeS (es : List va.En) (x : Nt) : List UInt8 := linS 0 ([110, 111, 100, 101, 32] ++ bsT x.nm ++ [40] ++ dcsS es x.ins.l ++ [41, 32, 114, 101, 116, 117, 114, 110, 115, 32, 40] ++ dcsS es x.outs.l ++ [41]) ++ lcsS es 1 x.locs.l ++ cmsS es ⟨#[97, 115, 115, 117, 109, 101, 32]⟩ x.asm.l ++ cmsS es ⟨#[101, 110, 115, 117, 114, 101, 32]⟩ x.ens.l ++ linS 0 [108, 101, 116] ++ (x.qs.l.map (eq1S es 1)).flatten ++ (x.au.l.map (auS es 1)).flatten ++ linS 0 [116, 101, 108]
def prgS (p : Pt) : List UInt8 := (p.es.l.map enmS).flatten ++ (p.ns.l.map (nodeS p.es.l)).flatten
theorem rd_of_rdr_inv {w : World} {B : Nat} {A : Option Addr} {c : Nat} {l : List ByteArray} (h : Rd w B A (va.ss l)) (h1 : l.length ≤ maxLen) (h2 : l.length ≤ c) : RdR w B 1 BC ⟨A, c, l⟩ := by
  have hne : l ≠ [] → va.ss l ≠ [] := by
    cases l with
    | nil => intro h; exact absurd rfl h
    | cons a b => intro _; simp [va.ss]
  refine ⟨fun hn => ?_, fun ad i y hA hy => ?_, h1, h2⟩
  · obtain ⟨ad, e, hb, _⟩ := h (hne hn)
    exact ⟨ad, e, hb⟩
  · obtain ⟨ad', e, _, hc⟩ := h (hne (by rintro rfl; simp at hy))
    obtain rfl : ad = ad' := Option.some.inj (hA.symm.trans e)
    unfold BC
    rw [Nat.mul_one]
    exact hc i _ (by rw [va.ss, List.getElem?_map, hy]; rfl)
end Go.Proofs.YtoimjcfdiljkjaaGreatDoor
namespace Go.Proofs.YtoimjcfdiljkjaaGreatDoor
open Go.RowKit Go.Sort
structure NdR (x : Nt) : Prop where
  ds : ∀ r : Rw Dt, r = x.ins ∨ r = x.outs ∨ r = x.locs → r.l.length ≤ 1048576 ∧ ∀ d ∈ r.l, d.ck.l.length ≤ 1048576
  qs : ∀ q ∈ x.qs.l, ∀ y ∈ q.r.list, wfK y
  cs : ∀ r : Rw Xt, r = x.asm ∨ r = x.ens → ∀ y ∈ r.l, ∀ z ∈ y.list, wfK z
  au : ∀ a ∈ x.au.l, ∀ t ∈ a.l, WfR a.l.length t
theorem au_size (a : Rw St) : ∃ m, ∀ t ∈ a.l, SizeOf.sizeOf t < m := by
  refine ⟨SizeOf.sizeOf a.l, fun t ht => List.sizeOf_lt_of_mem ht⟩
set_option maxHeartbeats 2000000 in
set_option maxRecDepth 20000 in
theorem vr_Program (p : Pt) (w : World) (hp : RsP w w.heap.size p) (hm : ∀ n ∈ p.ns.l, SmN 1048576 n) (hwf : (chkE p).2 = 0 → (∀ n ∈ p.ns.l, NdR n) ∧ (prgS p).length ≤ 140737488355328) :
    Calls Tryz.prog 10 #[pV p] w (Bel (.tuple #[.string (if (chkE p).2 = 0 then tB (prgS p) else ⟨#[]⟩), .int .i64 (chkE p).2]) w) := by
  have KC : Hid (∀ W, Below w.heap.size w W → Calls Tryz.prog 27 #[pV p] W (Bel (.tuple #[.agg #[.int .i64 (chkE p).1.1, .int .i64 (chkE p).1.2], .int .i64 (chkE p).2]) W)) := Lib.hid fun W hb => rv_check p W (hp.blw hb hb.size) hm
  obtain ⟨u, hu⟩ : ∃ u, chkE p = u := ⟨_, rfl⟩
  rw [hu] at KC hwf ⊢
  clear hu
  obtain ⟨⟨u1, u2⟩, v⟩ := u
  simp only at KC hwf ⊢
  by_cases h0 : v = 0
  · subst h0
    rw [if_pos rfl]
    obtain ⟨hnd, h⟩ := hwf rfl
    clear hwf hm
    obtain ⟨hE, hN, hNs⟩ := hp
    have HNR := Lib.hid hN
    have h9 := hN.len
    have h9e := hE.2.1.1
    unfold maxLen at h9 h9e
    have HEE : Hid (RsE w w.heap.size p.es) := Lib.hid hE
    have KLL : Hid (∀ e ∈ p.es.l, (Lib.join (e.tags.map bsT) [32, 124, 32]).length ≤ 140737488355328 → ∀ W, Below w.heap.size w W → Calls Tryz.prog 29 #[.slice e.A e.tags.length e.c, .string ⟨#[32, 124, 32]⟩] W (Bel (.string (tB (Lib.join (e.tags.map bsT) [32, 124, 32]))) W)) := Lib.hid fun e he hl W hb => by
      have hE' := hE.blw hb hb.size
      obtain ⟨i, hi⟩ := List.getElem?_of_mem he
      exact vr_list ⟨e.A, e.c, e.tags⟩ ⟨#[32, 124, 32]⟩ W (rd_of_rdr_inv (hE'.1.2 i e hi) (hE'.2.2 e he).2.1.1 (hE'.2.2 e he).2.1.2) hl
    obtain ⟨P0, hP0⟩ : ∃ q, (p.es.l.map enmS).flatten = q := ⟨_, rfl⟩
    obtain ⟨F, hF⟩ : ∃ F : Nat → List UInt8, F = fun k => ((p.es.l.take k).map enmS).flatten := ⟨_, rfl⟩
    have hpl : P0.length ≤ 140737488355328 := by rw [← hP0]; unfold prgS at h; simp only [List.length_append] at h; omega
    have HF : Hid (∀ (k : Nat) e, p.es.l[k]? = some e → F (k + 1) = F k ++ enmS e ∧ (F (k + 1)).length ≤ 140737488355328) := Lib.hid fun k e he => by
      rw [hF]
      refine ⟨flat_take enmS p.es.l he, Nat.le_trans (flat_le enmS p.es.l (k + 1)) ?_⟩
      rw [hP0]; exact hpl
    have hF0 : F 0 = [] := by rw [hF]; rfl
    have HFl : Hid (F p.es.l.length = P0) := Lib.hid (by rw [hF]; simp only [List.take_length]; exact hP0)
    obtain ⟨G, hG⟩ : ∃ G : Nat → List UInt8, G = fun k => P0 ++ ((p.ns.l.take k).map (nodeS p.es.l)).flatten := ⟨_, rfl⟩
    have HG : Hid (∀ (k : Nat) y, p.ns.l[k]? = some y → G (k + 1) = G k ++ nodeS p.es.l y ∧ (G (k + 1)).length ≤ 140737488355328) := Lib.hid fun k y hy => by
      rw [hG]
      refine ⟨?_, ?_⟩
      · simp only
        rw [flat_take (nodeS p.es.l) p.ns.l hy, List.append_assoc]
      · have := flat_le (nodeS p.es.l) p.ns.l (k + 1)
        unfold prgS at h
        rw [hP0] at h
        simp only [List.length_append] at h ⊢
        omega
    have HG0 : Hid (G 0 = P0) := Lib.hid (by rw [hG]; simp)
    have hGl : G p.ns.l.length = prgS p := by rw [hG]; unfold prgS; simp only [List.take_length, hP0]
    have HF0 := Lib.hid hF0
    rw [← hGl]
    have HND := Lib.hid hnd
    have HNS := Lib.hid hNs
    clear h hP0 hF hF0 hpl hG hGl hE hN hnd hNs
    have KC0 : Hid (Calls Tryz.prog 27 #[pV p] (w.alloc (.cells #[.slice p.es.A p.es.l.length p.es.c, .slice p.ns.A p.ns.l.length p.ns.c] 25)) (Bel (.tuple #[.agg #[.int .i64 u1, .int .i64 u2], .int .i64 0]) (w.alloc (.cells #[.slice p.es.A p.es.l.length p.es.c, .slice p.ns.A p.ns.l.length p.ns.c] 25)))) := Lib.hid (KC.out _ (bel_box _))
    go_enter Tryz.func10, Tryz.ntmps10
    go_wp2_with (go_at_call 27; (with_reducible refine (KC0.out).mono ?_); rintro e w1 ⟨rfl, hb1⟩)
    obtain ⟨W1, hW1⟩ : ∃ W1, (w1.alloc (.cells #[.int .i64 u1, .int .i64 u2] 59)) = W1 := ⟨_, rfl⟩
    have hB1 : Below w.heap.size w W1 := by rw [← hW1]; exact bel_alloc (bel_step (bel_box _) hb1) _
    have g0 : W1.cell? ⟨w.heap.size, 0, none⟩ = some (.slice p.es.A p.es.l.length p.es.c) := by rw [← hW1]; exact cell_below (bel_box _) (cell_below hb1 (by simp [go_sem]))
    have g1 : W1.cell? ⟨w.heap.size, 1, none⟩ = some (.slice p.ns.A p.ns.l.length p.ns.c) := by rw [← hW1]; exact cell_below (bel_box _) (cell_below hb1 (by simp [go_sem]))
    have HW1 := Lib.hid hW1
    rw [hW1]
    clear hW1 HW1 hb1 KC0
    go_loopw [6, 7] (fun s i wr => ∃ k : Nat, k ≤ p.es.l.length ∧ i = .int .i64 (k : Int) ∧ s = .string (tB (F k)) ∧ Below W1.heap.size W1 wr) (fun _ i _ => p.es.l.length - (intOf i).toNat)
    case atStart => exact ⟨0, by omega, rfl, by rw [HF0.out]; rfl, Below.refl _ _⟩
    case round =>
      obtain ⟨k, hk, rfl, rfl, hbl⟩ := hrel
      have hbw : Below w.heap.size w wr := hB1.trans (hbl.mono hB1.size)
      have g0 := cell_below hbl g0
      have g1 := cell_below hbl g1
      by_cases hlt : k < p.es.l.length
      · obtain ⟨ad, e, hA, had, he, c0, c1, _⟩ := ((HEE.out.blw hbw hbw.size).1).at_ hlt
        have hm := List.mem_of_getElem? he
        obtain ⟨hj, hle⟩ := HF.out k e he
        obtain ⟨s1, hs1⟩ : ∃ q, F (k + 1) = q := ⟨_, rfl⟩
        have HS1 := Lib.hid hs1
        rw [hs1] at hj hle
        clear hs1
        obtain ⟨s0, hs0⟩ : ∃ q, F k = q := ⟨_, rfl⟩
        rw [hs0] at hj ⊢
        clear hs0
        rw [hA] at g0
        clear hA he
        have hik : (k : Int) < (p.es.l.length : Int) := by omega
        obtain ⟨jj, hjj⟩ : ∃ q, Lib.join (e.tags.map bsT) [32, 124, 32] = q := ⟨_, rfl⟩
        unfold enmS at hj
        rw [hjj] at hj
        have hcn : ([116, 121, 112, 101, 32] ++ bsT e.name ++ [32, 61, 32] ++ jj ++ [59]).length ≤ 140737488355328 := by rw [hj] at hle; simp only [List.length_append] at hle; unfold linS at hle; simp only [List.length_append] at hle ⊢; omega
        have hln : (linS 0 ([116, 121, 112, 101, 32] ++ bsT e.name ++ [32, 61, 32] ++ jj ++ [59])).length ≤ 140737488355328 := by rw [hj, List.length_append] at hle; omega
        have KL0 := KLL.out e hm
        rw [hjj] at KL0
        have KL := Lib.hid (KL0 (by simp only [List.length_append] at hcn; omega))
        have KN : Hid (∀ W, Below w.heap.size w W → Calls Tryz.prog 28 #[.int .i64 0, .string (tB ([116, 121, 112, 101, 32] ++ bsT e.name ++ [32, 61, 32] ++ jj ++ [59]))] W (Bel (.string (tB (linS 0 ([116, 121, 112, 101, 32] ++ bsT e.name ++ [32, 61, 32] ++ jj ++ [59])))) W)) := Lib.hid fun W _ => vr_line 0 _ W (by omega) hln
        obtain ⟨z1, hz1⟩ : ∃ q, ([116, 121, 112, 101, 32]) ++ (bsT e.name) = q := ⟨_, rfl⟩
        have lz1 := congrArg List.length hz1
        rw [List.length_append] at lz1
        obtain ⟨z2, hz2⟩ : ∃ q, (z1) ++ ([32, 61, 32]) = q := ⟨_, rfl⟩
        have lz2 := congrArg List.length hz2
        rw [List.length_append] at lz2
        obtain ⟨z3, hz3⟩ : ∃ q, (z2) ++ (jj) = q := ⟨_, rfl⟩
        have lz3 := congrArg List.length hz3
        rw [List.length_append] at lz3
        obtain ⟨z4, hz4⟩ : ∃ q, (z3) ++ ([59]) = q := ⟨_, rfl⟩
        have lz4 := congrArg List.length hz4
        rw [List.length_append] at lz4
        have heq : z4 = [116, 121, 112, 101, 32] ++ bsT e.name ++ [32, 61, 32] ++ jj ++ [59] := by
          subst hz1 hz2 hz3 hz4
          rfl
        have hll : z4.length ≤ 140737488355328 := by rw [heq]; exact hcn
        have kaz1 := fun w => add_tB (P := Tryz.prog) w (A := ⟨#[116, 121, 112, 101, 32]⟩) (B := e.name) rfl (tB_bsT _).symm hz1 (by (try simp only [List.length_cons, List.length_nil] at *); omega)
        have kaz2 := fun w => add_tB (P := Tryz.prog) w (A := tB z1) (B := ⟨#[32, 61, 32]⟩) rfl rfl hz2 (by (try simp only [List.length_cons, List.length_nil] at *); omega)
        have kaz3 := fun w => add_tB (P := Tryz.prog) w (A := tB z2) (B := tB jj) rfl rfl hz3 (by (try simp only [List.length_cons, List.length_nil] at *); omega)
        have kaz4 := fun w => add_tB (P := Tryz.prog) w (A := tB z3) (B := ⟨#[59]⟩) rfl rfl hz4 (by (try simp only [List.length_cons, List.length_nil] at *); omega)
        have HZ := Lib.hid heq
        clear heq hll hz1 hz2 hz3 hz4 lz1 lz2 lz3 lz4
        rw [← HZ.out] at KN hj hln
        clear HZ hcn hjj KL0 KLL hm
        generalize linS 0 z4 = ln at *
        rw [hj] at hle
        obtain ⟨z5, hz5⟩ : ∃ q, (s0) ++ (ln) = q := ⟨_, rfl⟩
        have lz5 := congrArg List.length hz5
        rw [List.length_append] at lz5
        have heq9 : z5 = s0 ++ ln := by
          subst hz5
          rfl
        have hll : z5.length ≤ 140737488355328 := by rw [heq9]; exact hle
        have kaz5 := fun w => add_tB (P := Tryz.prog) w (A := tB s0) (B := tB ln) rfl rfl hz5 (by (try simp only [List.length_cons, List.length_nil] at *); omega)
        have HZ9 := Lib.hid heq9
        clear heq9 hll hz5 lz5
        have HN : Hid (F (k + 1) = z5) := Lib.hid (HS1.out.trans (hj.trans HZ9.out.symm))
        clear hj hle hln HZ9 HS1 HF
        go_wp2
        have q_g0 := cell_regrown g0
        have q_c0 := cell_regrown c0
        have q_c1 := cell_regrown c1
        have k_0 := fun dd os => Calls.regrown_of (KL.out (grow (redrawn wr dd) os) (hbw.trans ((below_regrown wr dd os).mono hbw.size)))
        have k_1 := fun dd os => Calls.regrown_of (KN.out (grow (redrawn wr dd) os) (hbw.trans ((below_regrown wr dd os).mono hbw.size)))
        refine wp_region_quiet_below (by kernel_rfl) (by kernel_rfl) ?_
        repeat (quiet_step (first | with_reducible exact k_0 _ _ | with_reducible exact k_1 _ _))
        refine wpQuiet_nil ?_
        intro _ hw'
        obtain ⟨⟨dq, osq⟩, hw''⟩ := hw'
        subst hw''
        have hrw9 : Below wr.heap.size wr (grow (redrawn wr dq) osq) := below_regrown wr dq osq
        have hw9 : Below w.heap.size w (grow (redrawn wr dq) osq) := hbw.trans (hrw9.mono hbw.size)
        generalize grow (redrawn wr dq) osq = w9 at hw9 hrw9 ⊢
        clear q_g0 q_c0 q_c1 k_0 k_1
        go_wp2
        exact ⟨⟨k + 1, by omega, by congr 1, by rw [HN.out], hbl.trans (hrw9.mono hbl.size)⟩, by simp [intOf]; omega⟩
      · obtain rfl : k = p.es.l.length := by omega
        rw [HFl.out, ← HG0.out]
        clear KLL HF HF0 HFl
        go_wp2
        have HWR : Hid True := Lib.hid trivial
        obtain ⟨WR, rfl⟩ : ∃ q : World, q = wr := ⟨_, rfl⟩
        go_loopw [6, 8] (fun s i wr => ∃ k : Nat, k ≤ p.ns.l.length ∧ i = .int .i64 (k : Int) ∧ s = .string (tB (G k)) ∧ Below WR.heap.size WR wr) (fun _ i _ => p.ns.l.length - (intOf i).toNat)
        case atStart => exact ⟨0, by omega, rfl, rfl, Below.refl _ _⟩
        case round =>
          obtain ⟨k, hk, rfl, rfl, hbl⟩ := hrel
          have hbw : Below w.heap.size w wr := hbw.trans (hbl.mono hbw.size)
          have g0 := cell_below hbl g0
          have g1 := cell_below hbl g1
          by_cases hlt : k < p.ns.l.length
          · obtain ⟨ad, y, hA, had, hy, hm, ⟨c0, c1, c2, c3, c4, c5, c6, c7⟩⟩ := (HNR.out.blw oneB_N hbw hbw.size).at_ hlt
            obtain ⟨n1, n2, n3, n4, n5, n6, n7, n8⟩ := HNS.out y hm
            have f := HND.out y hm
            have hE := HEE.out
            obtain ⟨hj, hle⟩ := HG.out k y hy
            obtain ⟨s1, hs1⟩ : ∃ q, G (k + 1) = q := ⟨_, rfl⟩
            have HS1 := Lib.hid hs1
            rw [hs1] at hj hle
            clear hs1
            obtain ⟨s0, hs0⟩ : ∃ q, G k = q := ⟨_, rfl⟩
            rw [hs0] at hj ⊢
            clear hs0
            unfold nodeS at hj
            have hps : (linS 0 ([110, 111, 100, 101, 32] ++ bsT y.nm ++ [40] ++ dcsS p.es.l y.ins.l ++ [41, 32, 114, 101, 116, 117, 114, 110, 115, 32, 40] ++ dcsS p.es.l y.outs.l ++ [41])).length ≤ 140737488355328 ∧ (lcsS p.es.l 1 y.locs.l).length ≤ 140737488355328 ∧ (cmsS p.es.l ⟨#[97, 115, 115, 117, 109, 101, 32]⟩ y.asm.l).length ≤ 140737488355328 ∧ (cmsS p.es.l ⟨#[101, 110, 115, 117, 114, 101, 32]⟩ y.ens.l).length ≤ 140737488355328 ∧ (linS 0 [108, 101, 116]).length ≤ 140737488355328 ∧ ((y.qs.l.map (eq1S p.es.l 1)).flatten).length ≤ 140737488355328 ∧ ((y.au.l.map (auS p.es.l 1)).flatten).length ≤ 140737488355328 ∧ (linS 0 [116, 101, 108]).length ≤ 140737488355328 := by
              rw [hj] at hle
              simp only [List.length_append] at hle
              refine ⟨?_, ?_, ?_, ?_, ?_, ?_, ?_, ?_⟩ <;> omega
            obtain ⟨hp1, hp2, hp3, hp4, hp5, hp6, hp7, hp8⟩ := hps
            have K2 : Hid (∀ W, Below w.heap.size w W → Calls Tryz.prog 31 #[.slice p.es.A p.es.l.length p.es.c, .int .i64 1, .slice y.locs.A y.locs.l.length y.locs.c] W (Bel (.string (tB (lcsS p.es.l 1 y.locs.l))) W)) := Lib.hid fun W hb => by
              exact vr_locals p.es 1 y.locs W (hE.blw hb hb.size) (n4.blw hb hb.size) (f.ds y.locs (.inr (.inr rfl))).1 (f.ds y.locs (.inr (.inr rfl))).2 (by omega) hp2
            have K3 : Hid (∀ W, Below w.heap.size w W → Calls Tryz.prog 32 #[.slice p.es.A p.es.l.length p.es.c, .string ⟨#[97, 115, 115, 117, 109, 101]⟩, .slice y.asm.A y.asm.l.length y.asm.c] W (Bel (.string (tB (cmsS p.es.l ⟨#[97, 115, 115, 117, 109, 101, 32]⟩ y.asm.l))) W)) := Lib.hid fun W hb => by
              exact vr_claims p.es ⟨#[97, 115, 115, 117, 109, 101]⟩ y.asm W (hE.blw hb hb.size) (n7.blw hb hb.size) (f.cs y.asm (.inl rfl)) hp3
            have K4 : Hid (∀ W, Below w.heap.size w W → Calls Tryz.prog 32 #[.slice p.es.A p.es.l.length p.es.c, .string ⟨#[101, 110, 115, 117, 114, 101]⟩, .slice y.ens.A y.ens.l.length y.ens.c] W (Bel (.string (tB (cmsS p.es.l ⟨#[101, 110, 115, 117, 114, 101, 32]⟩ y.ens.l))) W)) := Lib.hid fun W hb => by
              exact vr_claims p.es ⟨#[101, 110, 115, 117, 114, 101]⟩ y.ens W (hE.blw hb hb.size) (n8.blw hb hb.size) (f.cs y.ens (.inr rfl)) hp4
            have K5 : Hid (∀ W, Below w.heap.size w W → Calls Tryz.prog 28 #[.int .i64 0, .string ⟨#[108, 101, 116]⟩] W (Bel (.string (tB (linS 0 [108, 101, 116]))) W)) := Lib.hid fun W hb => by
              exact vr_line 0 [108, 101, 116] W (by omega) hp5
            have K6 : Hid (∀ W, Below w.heap.size w W → Calls Tryz.prog 33 #[.slice p.es.A p.es.l.length p.es.c, .int .i64 1, .slice y.qs.A y.qs.l.length y.qs.c] W (Bel (.string (tB ((y.qs.l.map (eq1S p.es.l 1)).flatten))) W)) := Lib.hid fun W hb => by
              exact vr_equations p.es 1 y.qs W (hE.blw hb hb.size) (n5.blw hb hb.size) (by omega) f.qs hp6
            have K7 : Hid (∀ W, Below w.heap.size w W → Calls Tryz.prog 34 #[.slice p.es.A p.es.l.length p.es.c, .int .i64 1, .slice y.au.A y.au.l.length y.au.c] W (Bel (.string (tB ((y.au.l.map (auS p.es.l 1)).flatten))) W)) := Lib.hid fun W hb => by
              refine vr_autos p.es 1 (auS p.es.l 1) y.au W (n6.1.blw oneB_A hb hb.size) (Lib.hid fun a' ha' hl' W' hb' => ?_) hp7
              obtain ⟨m, hm'⟩ := au_size a'
              have hb2 := hb.trans (hb'.mono hb.size)
              exact vr_auto p.es m a' hm' 1 W' (hE.blw hb2 hb2.size) ((n6.2 a' ha').blw hb2 hb2.size) (f.au a' ha') hl'
            have K8 : Hid (∀ W, Below w.heap.size w W → Calls Tryz.prog 28 #[.int .i64 0, .string ⟨#[116, 101, 108]⟩] W (Bel (.string (tB (linS 0 [116, 101, 108]))) W)) := Lib.hid fun W hb => by
              exact vr_line 0 [116, 101, 108] W (by omega) hp8
            have KI : Hid (∀ W, Below w.heap.size w W → Calls Tryz.prog 30 #[.slice p.es.A p.es.l.length p.es.c, .slice y.ins.A y.ins.l.length y.ins.c] W (Bel (.string (tB (dcsS p.es.l y.ins.l))) W)) := Lib.hid fun W hb => vr_decls p.es y.ins W (hE.blw hb hb.size) (n2.blw hb hb.size) (f.ds y.ins (.inl rfl)).1 (f.ds y.ins (.inl rfl)).2 (by unfold linS at hp1; simp only [List.length_append] at hp1; omega)
            have KO : Hid (∀ W, Below w.heap.size w W → Calls Tryz.prog 30 #[.slice p.es.A p.es.l.length p.es.c, .slice y.outs.A y.outs.l.length y.outs.c] W (Bel (.string (tB (dcsS p.es.l y.outs.l))) W)) := Lib.hid fun W hb => vr_decls p.es y.outs W (hE.blw hb hb.size) (n3.blw hb hb.size) (f.ds y.outs (.inr (.inl rfl))).1 (f.ds y.outs (.inr (.inl rfl))).2 (by unfold linS at hp1; simp only [List.length_append] at hp1; omega)
            have hj' : s1 = s0 ++ (linS 0 ([110, 111, 100, 101, 32] ++ bsT y.nm ++ [40] ++ dcsS p.es.l y.ins.l ++ [41, 32, 114, 101, 116, 117, 114, 110, 115, 32, 40] ++ dcsS p.es.l y.outs.l ++ [41])) ++ (lcsS p.es.l 1 y.locs.l) ++ (cmsS p.es.l ⟨#[97, 115, 115, 117, 109, 101, 32]⟩ y.asm.l) ++ (cmsS p.es.l ⟨#[101, 110, 115, 117, 114, 101, 32]⟩ y.ens.l) ++ (linS 0 [108, 101, 116]) ++ ((y.qs.l.map (eq1S p.es.l 1)).flatten) ++ ((y.au.l.map (auS p.es.l 1)).flatten) ++ (linS 0 [116, 101, 108]) := by rw [hj]; simp only [List.append_assoc]
            rw [hj'] at hle
            rw [hA] at g1
            clear hj hy hm hA HG n1 n2 n3 n4 n5 n6 n7 n8 f hE hp2 hp3 hp4 hp5 hp6 hp7 hp8 HEE HNS HND
            generalize dcsS p.es.l y.ins.l = di at *
            generalize dcsS p.es.l y.outs.l = do' at *
            have hh1 : ([110, 111, 100, 101, 32] ++ bsT y.nm ++ [40] ++ di ++ [41, 32, 114, 101, 116, 117, 114, 110, 115, 32, 40] ++ do' ++ [41]).length ≤ 140737488355328 := by unfold linS at hp1; simp only [List.length_append] at hp1 ⊢; omega
            have K1 : Hid (∀ W, Below w.heap.size w W → Calls Tryz.prog 28 #[.int .i64 0, .string (tB ([110, 111, 100, 101, 32] ++ bsT y.nm ++ [40] ++ di ++ [41, 32, 114, 101, 116, 117, 114, 110, 115, 32, 40] ++ do' ++ [41]))] W (Bel (.string (tB (linS 0 ([110, 111, 100, 101, 32] ++ bsT y.nm ++ [40] ++ di ++ [41, 32, 114, 101, 116, 117, 114, 110, 115, 32, 40] ++ do' ++ [41])))) W)) := Lib.hid fun W _ => vr_line 0 _ W (by omega) hp1
            obtain ⟨x1, hx1⟩ : ∃ q, ([110, 111, 100, 101, 32]) ++ (bsT y.nm) = q := ⟨_, rfl⟩
            have lx1 := congrArg List.length hx1
            rw [List.length_append] at lx1
            obtain ⟨x2, hx2⟩ : ∃ q, (x1) ++ ([40]) = q := ⟨_, rfl⟩
            have lx2 := congrArg List.length hx2
            rw [List.length_append] at lx2
            obtain ⟨x3, hx3⟩ : ∃ q, (x2) ++ (di) = q := ⟨_, rfl⟩
            have lx3 := congrArg List.length hx3
            rw [List.length_append] at lx3
            obtain ⟨x4, hx4⟩ : ∃ q, (x3) ++ ([41, 32, 114, 101, 116, 117, 114, 110, 115, 32, 40]) = q := ⟨_, rfl⟩
            have lx4 := congrArg List.length hx4
            rw [List.length_append] at lx4
            obtain ⟨x5, hx5⟩ : ∃ q, (x4) ++ (do') = q := ⟨_, rfl⟩
            have lx5 := congrArg List.length hx5
            rw [List.length_append] at lx5
            obtain ⟨x6, hx6⟩ : ∃ q, (x5) ++ ([41]) = q := ⟨_, rfl⟩
            have lx6 := congrArg List.length hx6
            rw [List.length_append] at lx6
            have heq : x6 = [110, 111, 100, 101, 32] ++ bsT y.nm ++ [40] ++ di ++ [41, 32, 114, 101, 116, 117, 114, 110, 115, 32, 40] ++ do' ++ [41] := by
              subst hx1 hx2 hx3 hx4 hx5 hx6
              rfl
            have hll : x6.length ≤ 140737488355328 := by rw [heq]; exact hh1
            have kax1 := fun w => add_tB (P := Tryz.prog) w (A := ⟨#[110, 111, 100, 101, 32]⟩) (B := y.nm) rfl (tB_bsT _).symm hx1 (by (try simp only [List.length_cons, List.length_nil] at *); omega)
            have kax2 := fun w => add_tB (P := Tryz.prog) w (A := tB x1) (B := ⟨#[40]⟩) rfl rfl hx2 (by (try simp only [List.length_cons, List.length_nil] at *); omega)
            have kax3 := fun w => add_tB (P := Tryz.prog) w (A := tB x2) (B := tB di) rfl rfl hx3 (by (try simp only [List.length_cons, List.length_nil] at *); omega)
            have kax4 := fun w => add_tB (P := Tryz.prog) w (A := tB x3) (B := ⟨#[41, 32, 114, 101, 116, 117, 114, 110, 115, 32, 40]⟩) rfl rfl hx4 (by (try simp only [List.length_cons, List.length_nil] at *); omega)
            have kax5 := fun w => add_tB (P := Tryz.prog) w (A := tB x4) (B := tB do') rfl rfl hx5 (by (try simp only [List.length_cons, List.length_nil] at *); omega)
            have kax6 := fun w => add_tB (P := Tryz.prog) w (A := tB x5) (B := ⟨#[41]⟩) rfl rfl hx6 (by (try simp only [List.length_cons, List.length_nil] at *); omega)
            have HZ := Lib.hid heq
            clear heq hll hx1 hx2 hx3 hx4 hx5 hx6 lx1 lx2 lx3 lx4 lx5 lx6
            rw [← HZ.out] at K1 hj' hle
            clear HZ hh1 hp1
            generalize linS 0 x6 = p1 at *
            generalize lcsS p.es.l 1 y.locs.l = p2 at *
            generalize cmsS p.es.l ⟨#[97, 115, 115, 117, 109, 101, 32]⟩ y.asm.l = p3 at *
            generalize cmsS p.es.l ⟨#[101, 110, 115, 117, 114, 101, 32]⟩ y.ens.l = p4 at *
            generalize linS 0 [108, 101, 116] = p5 at *
            generalize (y.qs.l.map (eq1S p.es.l 1)).flatten = p6 at *
            generalize (y.au.l.map (auS p.es.l 1)).flatten = p7 at *
            generalize linS 0 [116, 101, 108] = p8 at *
            obtain ⟨z1, hz1⟩ : ∃ q, (s0) ++ (p1) = q := ⟨_, rfl⟩
            have lz1 := congrArg List.length hz1
            rw [List.length_append] at lz1
            obtain ⟨z2, hz2⟩ : ∃ q, (z1) ++ (p2) = q := ⟨_, rfl⟩
            have lz2 := congrArg List.length hz2
            rw [List.length_append] at lz2
            obtain ⟨z3, hz3⟩ : ∃ q, (z2) ++ (p3) = q := ⟨_, rfl⟩
            have lz3 := congrArg List.length hz3
            rw [List.length_append] at lz3
            obtain ⟨z4, hz4⟩ : ∃ q, (z3) ++ (p4) = q := ⟨_, rfl⟩
            have lz4 := congrArg List.length hz4
            rw [List.length_append] at lz4
            obtain ⟨z5, hz5⟩ : ∃ q, (z4) ++ (p5) = q := ⟨_, rfl⟩
            have lz5 := congrArg List.length hz5
            rw [List.length_append] at lz5
            obtain ⟨z6, hz6⟩ : ∃ q, (z5) ++ (p6) = q := ⟨_, rfl⟩
            have lz6 := congrArg List.length hz6
            rw [List.length_append] at lz6
            obtain ⟨z7, hz7⟩ : ∃ q, (z6) ++ (p7) = q := ⟨_, rfl⟩
            have lz7 := congrArg List.length hz7
            rw [List.length_append] at lz7
            obtain ⟨z8, hz8⟩ : ∃ q, (z7) ++ (p8) = q := ⟨_, rfl⟩
            have lz8 := congrArg List.length hz8
            rw [List.length_append] at lz8
            have heq9 : z8 = s0 ++ p1 ++ p2 ++ p3 ++ p4 ++ p5 ++ p6 ++ p7 ++ p8 := by
              subst hz1 hz2 hz3 hz4 hz5 hz6 hz7 hz8
              rfl
            have hll : z8.length ≤ 140737488355328 := by rw [heq9]; exact hle
            have kaz1 := fun w => add_tB (P := Tryz.prog) w (A := tB s0) (B := tB p1) rfl rfl hz1 (by (try simp only [List.length_cons, List.length_nil] at *); omega)
            have kaz2 := fun w => add_tB (P := Tryz.prog) w (A := tB z1) (B := tB p2) rfl rfl hz2 (by (try simp only [List.length_cons, List.length_nil] at *); omega)
            have kaz3 := fun w => add_tB (P := Tryz.prog) w (A := tB z2) (B := tB p3) rfl rfl hz3 (by (try simp only [List.length_cons, List.length_nil] at *); omega)
            have kaz4 := fun w => add_tB (P := Tryz.prog) w (A := tB z3) (B := tB p4) rfl rfl hz4 (by (try simp only [List.length_cons, List.length_nil] at *); omega)
            have kaz5 := fun w => add_tB (P := Tryz.prog) w (A := tB z4) (B := tB p5) rfl rfl hz5 (by (try simp only [List.length_cons, List.length_nil] at *); omega)
            have kaz6 := fun w => add_tB (P := Tryz.prog) w (A := tB z5) (B := tB p6) rfl rfl hz6 (by (try simp only [List.length_cons, List.length_nil] at *); omega)
            have kaz7 := fun w => add_tB (P := Tryz.prog) w (A := tB z6) (B := tB p7) rfl rfl hz7 (by (try simp only [List.length_cons, List.length_nil] at *); omega)
            have kaz8 := fun w => add_tB (P := Tryz.prog) w (A := tB z7) (B := tB p8) rfl rfl hz8 (by (try simp only [List.length_cons, List.length_nil] at *); omega)
            have HZ9 := Lib.hid heq9
            clear heq9 hll hz1 hz2 hz3 hz4 hz5 hz6 hz7 hz8 lz1 lz2 lz3 lz4 lz5 lz6 lz7 lz8
            have HN : Hid (G (k + 1) = z8) := Lib.hid (HS1.out.trans (hj'.trans HZ9.out.symm))
            clear hj' hle HZ9 HS1
            go_wp2
            obtain ⟨WX, hWX⟩ : ∃ WX, (wr.alloc (.cells #[.string y.nm, .slice y.ins.A y.ins.l.length y.ins.c, .slice y.outs.A y.outs.l.length y.outs.c, .slice y.locs.A y.locs.l.length y.locs.c, .slice y.qs.A y.qs.l.length y.qs.c, .slice y.au.A y.au.l.length y.au.c, .slice y.asm.A y.asm.l.length y.asm.c, .slice y.ens.A y.ens.l.length y.ens.c] 45)) = WX := ⟨_, rfl⟩
            have hBX : Below wr.heap.size wr WX := by rw [← hWX]; exact bel_box _
            have hXw : Below w.heap.size w WX := hbw.trans (hBX.mono hbw.size)
            have x00 : WX.cell? ⟨wr.heap.size, 0, none⟩ = some (.string y.nm) := by rw [← hWX]; simp [go_sem]
            have x10 : WX.cell? ⟨wr.heap.size, 1, none⟩ = some (.slice y.ins.A y.ins.l.length y.ins.c) := by rw [← hWX]; simp [go_sem]
            have x20 : WX.cell? ⟨wr.heap.size, 2, none⟩ = some (.slice y.outs.A y.outs.l.length y.outs.c) := by rw [← hWX]; simp [go_sem]
            have x30 : WX.cell? ⟨wr.heap.size, 3, none⟩ = some (.slice y.locs.A y.locs.l.length y.locs.c) := by rw [← hWX]; simp [go_sem]
            have x40 : WX.cell? ⟨wr.heap.size, 4, none⟩ = some (.slice y.qs.A y.qs.l.length y.qs.c) := by rw [← hWX]; simp [go_sem]
            have x50 : WX.cell? ⟨wr.heap.size, 5, none⟩ = some (.slice y.au.A y.au.l.length y.au.c) := by rw [← hWX]; simp [go_sem]
            have x60 : WX.cell? ⟨wr.heap.size, 6, none⟩ = some (.slice y.asm.A y.asm.l.length y.asm.c) := by rw [← hWX]; simp [go_sem]
            have x70 : WX.cell? ⟨wr.heap.size, 7, none⟩ = some (.slice y.ens.A y.ens.l.length y.ens.c) := by rw [← hWX]; simp [go_sem]
            have g0 := cell_below hBX g0
            have HWX := Lib.hid hWX
            clear hWX
            rw [HWX.out]
            clear HWX
            have q_g0 := cell_regrown g0
            have q_x00 := cell_regrown x00
            have q_x10 := cell_regrown x10
            have q_x20 := cell_regrown x20
            have k_0 := fun dd os => Calls.regrown_of (KI.out (grow (redrawn WX dd) os) (hXw.trans ((below_regrown WX dd os).mono hXw.size)))
            have k_1 := fun dd os => Calls.regrown_of (KO.out (grow (redrawn WX dd) os) (hXw.trans ((below_regrown WX dd os).mono hXw.size)))
            have k_2 := fun dd os => Calls.regrown_of (K1.out (grow (redrawn WX dd) os) (hXw.trans ((below_regrown WX dd os).mono hXw.size)))
            refine wp_region_quiet_below (by kernel_rfl) (by kernel_rfl) ?_
            repeat (quiet_step (first | with_reducible exact k_0 _ _ | with_reducible exact k_1 _ _ | with_reducible exact k_2 _ _))
            refine wpQuiet_nil ?_
            intro _ hw'
            obtain ⟨⟨dq, osq⟩, hw''⟩ := hw'
            subst hw''
            have hrw4 : Below WX.heap.size WX (grow (redrawn WX dq) osq) := below_regrown WX dq osq
            have hw4 : Below w.heap.size w (grow (redrawn WX dq) osq) := hXw.trans (hrw4.mono hXw.size)
            generalize grow (redrawn WX dq) osq = w4 at hw4 hrw4 ⊢
            clear q_g0 q_x00 q_x10 q_x20 k_0 k_1 k_2
            have g0 := cell_below hrw4 g0
            have x00 := cell_below hrw4 x00
            have x10 := cell_below hrw4 x10
            have x20 := cell_below hrw4 x20
            have x30 := cell_below hrw4 x30
            have x40 := cell_below hrw4 x40
            have x50 := cell_below hrw4 x50
            have x60 := cell_below hrw4 x60
            have x70 := cell_below hrw4 x70
            go_wp2
            have q_g0 := cell_regrown g0
            have q_x30 := cell_regrown x30
            have q_x60 := cell_regrown x60
            have q_x70 := cell_regrown x70
            have k_0 := fun dd os => Calls.regrown_of (K2.out (grow (redrawn w4 dd) os) (hw4.trans ((below_regrown w4 dd os).mono hw4.size)))
            have k_1 := fun dd os => Calls.regrown_of (K3.out (grow (redrawn w4 dd) os) (hw4.trans ((below_regrown w4 dd os).mono hw4.size)))
            have k_2 := fun dd os => Calls.regrown_of (K4.out (grow (redrawn w4 dd) os) (hw4.trans ((below_regrown w4 dd os).mono hw4.size)))
            refine wp_region_quiet_below (by kernel_rfl) (by kernel_rfl) ?_
            repeat (quiet_step (first | with_reducible exact k_0 _ _ | with_reducible exact k_1 _ _ | with_reducible exact k_2 _ _))
            refine wpQuiet_nil ?_
            intro _ hw'
            obtain ⟨⟨dq, osq⟩, hw''⟩ := hw'
            subst hw''
            have hrw5 : Below w4.heap.size w4 (grow (redrawn w4 dq) osq) := below_regrown w4 dq osq
            have hw5 : Below w.heap.size w (grow (redrawn w4 dq) osq) := hw4.trans (hrw5.mono hw4.size)
            generalize grow (redrawn w4 dq) osq = w5 at hw5 hrw5 ⊢
            clear q_g0 q_x30 q_x60 q_x70 k_0 k_1 k_2
            have g0 := cell_below hrw5 g0
            have x00 := cell_below hrw5 x00
            have x10 := cell_below hrw5 x10
            have x20 := cell_below hrw5 x20
            have x30 := cell_below hrw5 x30
            have x40 := cell_below hrw5 x40
            have x50 := cell_below hrw5 x50
            have x60 := cell_below hrw5 x60
            have x70 := cell_below hrw5 x70
            go_wp2
            have q_g0 := cell_regrown g0
            have q_x40 := cell_regrown x40
            have q_x50 := cell_regrown x50
            have k_0 := fun dd os => Calls.regrown_of (K5.out (grow (redrawn w5 dd) os) (hw5.trans ((below_regrown w5 dd os).mono hw5.size)))
            have k_1 := fun dd os => Calls.regrown_of (K6.out (grow (redrawn w5 dd) os) (hw5.trans ((below_regrown w5 dd os).mono hw5.size)))
            have k_2 := fun dd os => Calls.regrown_of (K7.out (grow (redrawn w5 dd) os) (hw5.trans ((below_regrown w5 dd os).mono hw5.size)))
            have k_3 := fun dd os => Calls.regrown_of (K8.out (grow (redrawn w5 dd) os) (hw5.trans ((below_regrown w5 dd os).mono hw5.size)))
            refine wp_region_quiet_below (by kernel_rfl) (by kernel_rfl) ?_
            repeat (quiet_step (first | with_reducible exact k_0 _ _ | with_reducible exact k_1 _ _ | with_reducible exact k_2 _ _ | with_reducible exact k_3 _ _))
            refine wpQuiet_nil ?_
            intro _ hw'
            obtain ⟨⟨dq, osq⟩, hw''⟩ := hw'
            subst hw''
            have hrw6 : Below w5.heap.size w5 (grow (redrawn w5 dq) osq) := below_regrown w5 dq osq
            have hw6 : Below w.heap.size w (grow (redrawn w5 dq) osq) := hw5.trans (hrw6.mono hw5.size)
            generalize grow (redrawn w5 dq) osq = w6 at hw6 hrw6 ⊢
            clear q_g0 q_x40 q_x50 k_0 k_1 k_2 k_3
            go_wp2
            exact ⟨⟨k + 1, by omega, by congr 1, by rw [HN.out], hbl.trans ((hBX.trans ((hrw4.trans ((hrw5.trans (hrw6.mono hrw5.size)).mono hrw4.size)).mono hBX.size)).mono hbl.size)⟩, by simp [intOf]; omega⟩
          · obtain rfl : k = p.ns.l.length := by omega
            go_wp2
            go_ret2
            exact ⟨rfl, hbw⟩
  · have q0 : (v != 0) = true := by simp [h0]
    have q1 : (v == 0) = false := by simp [h0]
    rw [if_neg h0]
    clear h0 hwf hm hp
    go_enter Tryz.func10, Tryz.ntmps10
    go_wp2_with (go_at_call 27; (with_reducible refine (KC.out _ ?_).mono ?_); (exact bl); rintro e w1 ⟨rfl, hb1⟩)
    go_ret2
    exact ⟨rfl, bl⟩
end Go.Proofs.YtoimjcfdiljkjaaGreatDoor
