import Derived.Test.YtoimjcfdiljkjaaGreatDoorQJ
set_option linter.unusedVariables false
set_option linter.unusedSimpArgs false
namespace Go.Proofs.YtoimjcfdiljkjaaGreatDoor
open Go.RowKit
theorem eqsE_steps (es : List va.En) (l : List Qt) : ∃ F : Nat → Option (Nat × Int), F 0 = eqsE es l ∧ F l.length = none ∧ Hid (∀ (k : Nat) (y : Qt), l[k]? = some y → F k = if eqnE es y = 0 then F (k + 1) else some (k, eqnE es y)) := by
  refine ⟨fun k => (eqsE es (l.drop k)).map fun p => (p.1 + k, p.2), by simp, by simp [eqsE], Lib.hid fun k y hy => ?_⟩
  obtain ⟨hk, rfl⟩ := List.getElem?_eq_some_iff.1 hy
  show (eqsE es (l.drop k)).map _ = _
  rw [List.drop_eq_getElem_cons hk, eqsE]
  split
  · rw [Option.map_map]
    congr 1
    funext p
    simp [Nat.add_assoc, Nat.add_comm 1 k]
  · simp
noncomputable def nodR (es : List va.En) (n : Nt) : Option (Nat × Int) → Int × Int
  | some p => ((p.1 : Int), p.2)
  | none => (-1, talE es n)
theorem nodE_eq (es : List va.En) (n : Nt) : nodE es n = if hedE es n = 0 then nodR es n (eqsE es n.qs.l) else (-1, hedE es n) := by
  unfold nodE nodR
  split
  · cases eqsE es n.qs.l <;> rfl
  · rfl
set_option maxHeartbeats 4000000 in
set_option maxRecDepth 20000 in
theorem sh_node (E : Rw va.En) (n : Nt) (w : World) (hs : Std w) (hE : RsE w w.heap.size E) (hn : RsN w w.heap.size n) :
    Calls Tryz.prog 49 #[ckV E, nV n] w (Bel (.tuple #[.int .i64 (nodE E.l n).1, .int .i64 (nodE E.l n).2]) w) := by
  have KH := Lib.hid (fun W (h : Below w.heap.size w W) => sh_head E n W (hs.to h) (hE.blw h h.size) (hn.blw h h.size))
  obtain ⟨h1, h2, h3, h4, h5, h6, h7, h8⟩ := hn
  have h9 := h5.1.len
  unfold maxLen at h9
  have HQ := Lib.hid h5
  have KQ : Hid (∀ y ∈ n.qs.l, ∀ W, Below w.heap.size w W → Calls Tryz.prog 85 #[ckV E, qV y] W (Bel (.int .i64 (eqnE E.l y)) W)) := Lib.hid fun y hy W h => sh_equation E y W (hs.to h) (hE.blw h h.size) ((h5.blw h h.size).2 y hy)
  have KA := Lib.hid (fun W => sh_automaton E 0 W)
  have KFA : Hid (∀ p' q' W, Cap W p' (.int .i64 0) → Cap W q' (.slice E.A E.l.length E.c) → Below w.heap.size w W → Calls Tryz.prog 86 #[.slice n.au.A n.au.l.length n.au.c, .func (.func 121) #[] #[.pointer (some p'), .pointer (some q')]] W (Bel (.int .i64 (errs (n.au.l.map (autE E.l 3)))) W)) := Lib.hid fun p' q' W kp kq h =>
    first_Auto_automaton1 _ _ n.au (autE E.l 3) W ((h6.blw h h.size).1) (Lib.hid fun y hy W' h' => sh_aut1 3 (Nat.le_refl _) E y p' q' W' (hs.to (h.trans (h'.mono h.size))) (hE.blw (h.trans (h'.mono h.size)) (Nat.le_trans h.size h'.size)) ((h6.blw (h.trans (h'.mono h.size)) (Nat.le_trans h.size h'.size)).2 y hy) (kp.to h') (kq.to h'))
  have KX1 : Hid (∀ W, Below w.heap.size w W → Calls Tryz.prog 88 #[.slice n.asm.A n.asm.l.length n.asm.c, .func (.func 62) #[ckV E] #[]] W (Bel (.int .i64 (errs (n.asm.l.map (expE E.l)))) W)) := Lib.hid fun W h =>
    first_Expr_expr (ckV E) n.asm (expE E.l) W ((h7.blw h h.size).1) (Lib.hid fun y hy W' h' => sh_expr E y W' (hs.to (h.trans (h'.mono h.size))) (hE.blw (h.trans (h'.mono h.size)) (Nat.le_trans h.size h'.size)) ((h7.blw (h.trans (h'.mono h.size)) (Nat.le_trans h.size h'.size)).2 y hy))
  have KX2 : Hid (∀ W, Below w.heap.size w W → Calls Tryz.prog 88 #[.slice n.ens.A n.ens.l.length n.ens.c, .func (.func 62) #[ckV E] #[]] W (Bel (.int .i64 (errs (n.ens.l.map (expE E.l)))) W)) := Lib.hid fun W h =>
    first_Expr_expr (ckV E) n.ens (expE E.l) W ((h8.blw h h.size).1) (Lib.hid fun y hy W' h' => sh_expr E y W' (hs.to (h.trans (h'.mono h.size))) (hE.blw (h.trans (h'.mono h.size)) (Nat.le_trans h.size h'.size)) ((h8.blw (h.trans (h'.mono h.size)) (Nat.le_trans h.size h'.size)).2 y hy))
  have TB : Hid (∀ W, Below ((w.alloc (.cells #[.slice E.A E.l.length E.c] 103)).alloc (.cells #[.string n.nm, .slice n.ins.A n.ins.l.length n.ins.c, .slice n.outs.A n.outs.l.length n.outs.c, .slice n.locs.A n.locs.l.length n.locs.c, .slice n.qs.A n.qs.l.length n.qs.c, .slice n.au.A n.au.l.length n.au.c, .slice n.asm.A n.asm.l.length n.asm.c, .slice n.ens.A n.ens.l.length n.ens.c] 45)).heap.size ((w.alloc (.cells #[.slice E.A E.l.length E.c] 103)).alloc (.cells #[.string n.nm, .slice n.ins.A n.ins.l.length n.ins.c, .slice n.outs.A n.outs.l.length n.outs.c, .slice n.locs.A n.locs.l.length n.locs.c, .slice n.qs.A n.qs.l.length n.qs.c, .slice n.au.A n.au.l.length n.au.c, .slice n.asm.A n.asm.l.length n.asm.c, .slice n.ens.A n.ens.l.length n.ens.c] 45)) W → W.cell? ⟨w.heap.size, 0, none⟩ = some (.slice E.A E.l.length E.c) ∧ W.cell? ⟨w.heap.size + 1, 0, none⟩ = some (.string n.nm) ∧ W.cell? ⟨w.heap.size + 1, 1, none⟩ = some (.slice n.ins.A n.ins.l.length n.ins.c) ∧ W.cell? ⟨w.heap.size + 1, 2, none⟩ = some (.slice n.outs.A n.outs.l.length n.outs.c) ∧ W.cell? ⟨w.heap.size + 1, 3, none⟩ = some (.slice n.locs.A n.locs.l.length n.locs.c) ∧ W.cell? ⟨w.heap.size + 1, 4, none⟩ = some (.slice n.qs.A n.qs.l.length n.qs.c) ∧ W.cell? ⟨w.heap.size + 1, 5, none⟩ = some (.slice n.au.A n.au.l.length n.au.c) ∧ W.cell? ⟨w.heap.size + 1, 6, none⟩ = some (.slice n.asm.A n.asm.l.length n.asm.c) ∧ W.cell? ⟨w.heap.size + 1, 7, none⟩ = some (.slice n.ens.A n.ens.l.length n.ens.c)) := Lib.hid fun W h => by
    obtain ⟨g0, g1, g2, g3, g4, g5, g6, g7, g8, _⟩ := B2N E n h
    exact ⟨g0, g1, g2, g3, g4, g5, g6, g7, g8⟩
  rw [nodE_eq]
  obtain ⟨F, hF0, hFl, HF⟩ := eqsE_steps E.l n.qs.l
  rw [← hF0]
  have HR : Hid (∀ p, nodR E.l n (some p) = ((p.1 : Int), p.2)) := Lib.hid fun p => rfl
  have HRn : Hid (nodR E.l n none = (-1, orE (errs (n.au.l.map (autE E.l 3))) (orE (errs (n.asm.l.map (expE E.l))) (errs (n.ens.l.map (expE E.l)))))) := Lib.hid rfl
  generalize errs (n.au.l.map (autE E.l 3)) = t1 at *
  generalize errs (n.asm.l.map (expE E.l)) = t2 at *
  generalize errs (n.ens.l.map (expE E.l)) = t3 at *
  generalize hedE E.l n = hv at *
  clear hs hE h1 h2 h3 h4 h5 h6 h7 h8
  by_cases hz : hv = 0
  · subst hz
    rw [if_pos rfl]
    obtain ⟨V, hV⟩ : ∃ V, nodR E.l n (F 0) = V := ⟨_, rfl⟩
    have HV := Lib.hid hV
    have HL := Lib.hid hFl
    rw [hV]
    clear hV hF0 hFl
    go_enter Tryz.func49, Tryz.ntmps49
    go_wp2_with (go_at_call 84; (with_reducible refine (KH.out _ ?_).mono ?_); (exact bl); rintro e w1 ⟨rfl, hb1⟩; obtain ⟨g0, g1, g2, g3, g4, g5, g6, g7, g8⟩ := TB.out w1 bl)
    go_loopw [21] (fun i wr => ∃ k : Nat, k ≤ n.qs.l.length ∧ i = .int .i64 (k : Int) ∧ Hid (nodR E.l n (F k) = V) ∧ Below ((w.alloc (.cells #[.slice E.A E.l.length E.c] 103)).alloc (.cells #[.string n.nm, .slice n.ins.A n.ins.l.length n.ins.c, .slice n.outs.A n.outs.l.length n.outs.c, .slice n.locs.A n.locs.l.length n.locs.c, .slice n.qs.A n.qs.l.length n.qs.c, .slice n.au.A n.au.l.length n.au.c, .slice n.asm.A n.asm.l.length n.asm.c, .slice n.ens.A n.ens.l.length n.ens.c] 45)).heap.size ((w.alloc (.cells #[.slice E.A E.l.length E.c] 103)).alloc (.cells #[.string n.nm, .slice n.ins.A n.ins.l.length n.ins.c, .slice n.outs.A n.outs.l.length n.outs.c, .slice n.locs.A n.locs.l.length n.locs.c, .slice n.qs.A n.qs.l.length n.qs.c, .slice n.au.A n.au.l.length n.au.c, .slice n.asm.A n.asm.l.length n.asm.c, .slice n.ens.A n.ens.l.length n.ens.c] 45)) wr) (fun i _ => n.qs.l.length - (intOf i).toNat)
    case atStart => exact ⟨0, by omega, rfl, HV, bl⟩
    case round =>
      obtain ⟨k, hk, rfl, hK, hbl⟩ := hrel
      have hBW : Below w.heap.size w wr := (bel_alloc (bel_box _) _).trans (hbl.mono (by simp only [World.size_alloc]; omega))
      obtain ⟨g0, g1, g2, g3, g4, g5, g6, g7, g8⟩ := TB.out wr hbl
      have a0 := fun o => cell_al o g0
      by_cases hlt : k < n.qs.l.length
      · obtain ⟨ad, y, hA, had, hy, hm, ⟨c0, c1, c2, c3, c4, c5, c6⟩⟩ := ((HQ.out.blw hBW hBW.size).1).at_ hlt
        have HG := Lib.hid g5
        rw [hA] at g5 hbl ⊢
        clear hA
        have hst := HF.out k y hy
        have KY := Lib.hid (KQ.out y hm)
        clear hy hm HF
        generalize eqnE E.l y = v at *
        by_cases hv : v = 0
        · subst hv
          rw [if_pos rfl] at hst
          have hn' : Hid (nodR E.l n (F (k + 1)) = V) := Lib.hid (by rw [← hst]; exact hK.out)
          clear hst hK
          go_wp2_with (go_at_call 85; (with_reducible refine (KY.out _ ?_).mono ?_); (exact bl); rintro e w2 ⟨rfl, hb2⟩)
          exact ⟨⟨k + 1, by omega, by congr 1, hn', bl⟩, by simp [intOf]; omega⟩
        · rw [if_neg hv] at hst
          have hv2 : V = ((k : Int), v) := by rw [← hK.out, hst, HR.out]
          have e0 : (v == 0) = false := by simp [hv]
          subst hv2
          clear hst hK hv HV
          go_wp2_with (go_at_call 85; (with_reducible refine (KY.out _ ?_).mono ?_); (exact bl); rintro e w2 ⟨rfl, hb2⟩)
          refine bodyPost_ret (v := .tuple #[.int .i64 (k), .int .i64 (v)]) (by simp [results, Tryz.results49, go_sem]) rfl ?_
          exact ⟨(by first | rfl | (simp [orE, H1.out]; done) | (simp [orE, H2.out]; done)), bl⟩
      · obtain rfl : k = n.qs.l.length := by omega
        have hv2 : V = (-1, orE t1 (orE t2 t3)) := by rw [← hK.out, HL.out, HRn.out]
        subst hv2
        clear hK HF HV HL
        by_cases y1 : t1 = 0
        · subst y1
          rw [orE0]
          by_cases y2 : t2 = 0
          · subst y2
            rw [orE0]
            go_wp2
            go_region_held3 (fun w' => w'.cell? ⟨w.heap.size, 0, none⟩ = some (.slice E.A E.l.length E.c) ∧ w'.cell? ⟨w.heap.size + 1, 0, none⟩ = some (.string n.nm) ∧ w'.cell? ⟨w.heap.size + 1, 1, none⟩ = some (.slice n.ins.A n.ins.l.length n.ins.c) ∧ w'.cell? ⟨w.heap.size + 1, 2, none⟩ = some (.slice n.outs.A n.outs.l.length n.outs.c) ∧ w'.cell? ⟨w.heap.size + 1, 3, none⟩ = some (.slice n.locs.A n.locs.l.length n.locs.c) ∧ w'.cell? ⟨w.heap.size + 1, 4, none⟩ = some (.slice n.qs.A n.qs.l.length n.qs.c) ∧ w'.cell? ⟨w.heap.size + 1, 5, none⟩ = some (.slice n.au.A n.au.l.length n.au.c) ∧ w'.cell? ⟨w.heap.size + 1, 6, none⟩ = some (.slice n.asm.A n.asm.l.length n.asm.c) ∧ w'.cell? ⟨w.heap.size + 1, 7, none⟩ = some (.slice n.ens.A n.ens.l.length n.ens.c))
              ((refine TB.out _ ?_; (exact bl)))
              (first | (go_at_call 87; (with_reducible refine (KA.out _).mono ?_); rintro e w3 ⟨p3, q3, rfl, hp3, hq3, hb3⟩) | (go_at_call 86; (with_reducible refine (KFA.out _ _ _ hp3 hq3 ?_).mono ?_); (exact bl); rintro e w4 ⟨rfl, hb4⟩; obtain ⟨g0, g1, g2, g3, g4, g5, g6, g7, g8⟩ := TB.out w4 bl))
            all_goals
              go_wp2_with (first | (go_at_call 88; (with_reducible refine (KX1.out _ ?_).mono ?_); (exact bl); rintro e w5 ⟨rfl, hb5⟩; obtain ⟨g0, g1, g2, g3, g4, g5, g6, g7, g8⟩ := TB.out w5 bl) | (go_at_call 88; (with_reducible refine (KX2.out _ ?_).mono ?_); (exact bl); rintro e w6 ⟨rfl, hb6⟩; obtain ⟨g0, g1, g2, g3, g4, g5, g6, g7, g8⟩ := TB.out w6 bl))
              refine bodyPost_ret (v := .tuple #[.int .i64 (-1), .int .i64 (t3)]) (by simp [results, Tryz.results49, go_sem]) rfl ?_
              exact ⟨(by first | rfl | (simp [orE, H1.out]; done) | (simp [orE, H2.out]; done)), bl⟩
          · have z2 : (t2 == 0) = false := by simp [y2]
            have H2 := Lib.hid y2
            try rw [orEn y2]
            clear y2
            go_wp2
            go_region_held3 (fun w' => w'.cell? ⟨w.heap.size, 0, none⟩ = some (.slice E.A E.l.length E.c) ∧ w'.cell? ⟨w.heap.size + 1, 0, none⟩ = some (.string n.nm) ∧ w'.cell? ⟨w.heap.size + 1, 1, none⟩ = some (.slice n.ins.A n.ins.l.length n.ins.c) ∧ w'.cell? ⟨w.heap.size + 1, 2, none⟩ = some (.slice n.outs.A n.outs.l.length n.outs.c) ∧ w'.cell? ⟨w.heap.size + 1, 3, none⟩ = some (.slice n.locs.A n.locs.l.length n.locs.c) ∧ w'.cell? ⟨w.heap.size + 1, 4, none⟩ = some (.slice n.qs.A n.qs.l.length n.qs.c) ∧ w'.cell? ⟨w.heap.size + 1, 5, none⟩ = some (.slice n.au.A n.au.l.length n.au.c) ∧ w'.cell? ⟨w.heap.size + 1, 6, none⟩ = some (.slice n.asm.A n.asm.l.length n.asm.c) ∧ w'.cell? ⟨w.heap.size + 1, 7, none⟩ = some (.slice n.ens.A n.ens.l.length n.ens.c))
              ((refine TB.out _ ?_; (exact bl)))
              (first | (go_at_call 87; (with_reducible refine (KA.out _).mono ?_); rintro e w3 ⟨p3, q3, rfl, hp3, hq3, hb3⟩) | (go_at_call 86; (with_reducible refine (KFA.out _ _ _ hp3 hq3 ?_).mono ?_); (exact bl); rintro e w4 ⟨rfl, hb4⟩; obtain ⟨g0, g1, g2, g3, g4, g5, g6, g7, g8⟩ := TB.out w4 bl))
            all_goals
              go_wp2_with (go_at_call 88; (with_reducible refine (KX1.out _ ?_).mono ?_); (exact bl); rintro e w5 ⟨rfl, hb5⟩; obtain ⟨g0, g1, g2, g3, g4, g5, g6, g7, g8⟩ := TB.out w5 bl)
              refine bodyPost_ret (v := .tuple #[.int .i64 (-1), .int .i64 (t2)]) (by simp [results, Tryz.results49, go_sem]) rfl ?_
              exact ⟨(by first | rfl | (simp [orE, H1.out]; done) | (simp [orE, H2.out]; done)), bl⟩
        · have z1 : (t1 == 0) = false := by simp [y1]
          have H1 := Lib.hid y1
          try rw [orEn y1]
          clear y1
          go_wp2
          go_region_held3 (fun w' => w'.cell? ⟨w.heap.size, 0, none⟩ = some (.slice E.A E.l.length E.c) ∧ w'.cell? ⟨w.heap.size + 1, 0, none⟩ = some (.string n.nm) ∧ w'.cell? ⟨w.heap.size + 1, 1, none⟩ = some (.slice n.ins.A n.ins.l.length n.ins.c) ∧ w'.cell? ⟨w.heap.size + 1, 2, none⟩ = some (.slice n.outs.A n.outs.l.length n.outs.c) ∧ w'.cell? ⟨w.heap.size + 1, 3, none⟩ = some (.slice n.locs.A n.locs.l.length n.locs.c) ∧ w'.cell? ⟨w.heap.size + 1, 4, none⟩ = some (.slice n.qs.A n.qs.l.length n.qs.c) ∧ w'.cell? ⟨w.heap.size + 1, 5, none⟩ = some (.slice n.au.A n.au.l.length n.au.c) ∧ w'.cell? ⟨w.heap.size + 1, 6, none⟩ = some (.slice n.asm.A n.asm.l.length n.asm.c) ∧ w'.cell? ⟨w.heap.size + 1, 7, none⟩ = some (.slice n.ens.A n.ens.l.length n.ens.c))
            ((refine TB.out _ ?_; (exact bl)))
            (first | (go_at_call 87; (with_reducible refine (KA.out _).mono ?_); rintro e w3 ⟨p3, q3, rfl, hp3, hq3, hb3⟩) | (go_at_call 86; (with_reducible refine (KFA.out _ _ _ hp3 hq3 ?_).mono ?_); (exact bl); rintro e w4 ⟨rfl, hb4⟩; obtain ⟨g0, g1, g2, g3, g4, g5, g6, g7, g8⟩ := TB.out w4 bl))
          all_goals
            go_wp2
            refine bodyPost_ret (v := .tuple #[.int .i64 (-1), .int .i64 (t1)]) (by simp [results, Tryz.results49, go_sem]) rfl ?_
            exact ⟨(by first | rfl | (simp [orE, H1.out]; done) | (simp [orE, H2.out]; done)), bl⟩
  · have z0 : (hv == 0) = false := by simp [hz]
    rw [if_neg hz]
    clear hz
    go_enter Tryz.func49, Tryz.ntmps49
    go_wp2_with (go_at_call 84; (with_reducible refine (KH.out _ ?_).mono ?_); (exact bl); rintro e w1 ⟨rfl, hb1⟩; obtain ⟨g0, g1, g2, g3, g4, g5, g6, g7, g8⟩ := TB.out w1 bl)
    refine bodyPost_ret (v := .tuple #[.int .i64 (-1), .int .i64 (hv)]) (by simp [results, Tryz.results49, go_sem]) rfl ?_
    exact ⟨(by first | rfl | (simp [orE, H1.out]; done) | (simp [orE, H2.out]; done)), bl⟩
end Go.Proofs.YtoimjcfdiljkjaaGreatDoor
namespace Go.Proofs.YtoimjcfdiljkjaaGreatDoor
open Go.RowKit
theorem set2w_cells {W : World} {b : Nat} {u v : Value} (h0 : W.cell? ⟨b, 0, none⟩ = some u) (h1 : W.cell? ⟨b, 1, none⟩ = some v) (x0 x1 : Value) :
    ((W.setCell ⟨b, 0, none⟩ x0).setCell ⟨b, 1, none⟩ x1).cell? ⟨b, 0, none⟩ = some x0 ∧ ((W.setCell ⟨b, 0, none⟩ x0).setCell ⟨b, 1, none⟩ x1).cell? ⟨b, 1, none⟩ = some x1 := by
  refine ⟨?_, ?_⟩
  · rw [World.cell?_setCell_other _ _ _ _ (by simp)]; exact World.cell?_setCell_same _ _ _ h0
  · exact World.cell?_setCell_same _ _ _ (by rw [World.cell?_setCell_other _ _ _ _ (by simp)]; exact h1)
theorem bel_set2w {w W : World} (h : Below w.heap.size w W) {b : Nat} (hb : w.heap.size ≤ b) (x y : Value) : Below w.heap.size w ((W.setCell ⟨b, 0, none⟩ x).setCell ⟨b, 1, none⟩ y) :=
  (h.setCell (p := ⟨b, 0, none⟩) hb _).setCell (p := ⟨b, 1, none⟩) hb _
noncomputable def ndsE (es : List va.En) : List Nt → Option (Nat × (Int × Int))
  | [] => none
  | n :: l => if (nodE es n).2 = 0 then (ndsE es l).map (fun q => (q.1 + 1, q.2)) else some (0, nodE es n)
theorem ndsE_steps (es : List va.En) (l : List Nt) : ∃ F : Nat → Option (Nat × (Int × Int)), F 0 = ndsE es l ∧ F l.length = none ∧ Hid (∀ (k : Nat) (y : Nt), l[k]? = some y → F k = if (nodE es y).2 = 0 then F (k + 1) else some (k, nodE es y)) := by
  refine ⟨fun k => (ndsE es (l.drop k)).map fun p => (p.1 + k, p.2), by simp, by simp [ndsE], Lib.hid fun k y hy => ?_⟩
  obtain ⟨hk, rfl⟩ := List.getElem?_eq_some_iff.1 hy
  show (ndsE es (l.drop k)).map _ = _
  rw [List.drop_eq_getElem_cons hk, ndsE]
  split
  · rw [Option.map_map]
    congr 1
    funext p
    simp [Nat.add_assoc, Nat.add_comm 1 k]
  · simp
def wheR : Option (Nat × (Int × Int)) → (Int × Int) × Int
  | some q => (((q.1 : Int), q.2.1), q.2.2)
  | none => ((0, 0), 0)
noncomputable def chkE (p : Pt) : (Int × Int) × Int :=
  if 24 < p.es.l.length ∨ 96 < p.ns.l.length then ((-1, -1), 3) else if errs (p.es.l.map enumE) = 0 then wheR (ndsE p.es.l p.ns.l) else ((-1, -1), errs (p.es.l.map enumE))
set_option maxHeartbeats 4000000 in
set_option maxRecDepth 20000 in
theorem sh_check (p : Pt) (w : World) (hs : Std w) (hp : RsP w w.heap.size p) :
    Calls Tryz.prog 22 #[pV p] w (Bel (.tuple #[.agg #[.int .i64 (chkE p).1.1, .int .i64 (chkE p).1.2], .int .i64 (chkE p).2]) w) := by
  obtain ⟨hE, hN⟩ := hp
  have HN : Hid (RsP w w.heap.size p) := Lib.hid ⟨hE, hN⟩
  have h9 := hN.1.len
  unfold maxLen at h9
  have KF : Hid (∀ W, Below w.heap.size w W → Calls Tryz.prog 47 #[.slice p.es.A p.es.l.length p.es.c, .func (.func 48) #[] #[]] W (Bel (.int .i64 (errs (p.es.l.map enumE))) W)) := Lib.hid fun W h =>
    first_Enum_checkEnum p.es.A p.es.c p.es.l enumE W ((hE.blw h h.size).1) (by have := hE.2.1.1; unfold maxLen at this; omega) (Lib.hid fun y hy W' h' => by
      have hE' := hE.blw (h.trans (h'.mono h.size)) (Nat.le_trans h.size h'.size)
      obtain ⟨i, hi⟩ := List.getElem?_of_mem hy
      exact sh_enum y W' (hs.to (h.trans (h'.mono h.size))) (hE'.1.2 i y hi) (hE.2.2 y hy).1 (hE.2.2 y hy).2.1 (hE.2.2 y hy).2.2)
  have KN : Hid (∀ y ∈ p.ns.l, ∀ W, Below w.heap.size w W → Calls Tryz.prog 49 #[ckV p.es, nV y] W (Bel (.tuple #[.int .i64 (nodE p.es.l y).1, .int .i64 (nodE p.es.l y).2]) W)) := Lib.hid fun y hy W h =>
    sh_node p.es y W (hs.to h) (hE.blw h h.size) ((hN.2 y hy).blw h h.size)
  have TB : Hid (∀ W, Below (((w.alloc (.cells #[.slice p.es.A p.es.l.length p.es.c, .slice p.ns.A p.ns.l.length p.ns.c] 25)).alloc (.cells #[.int .i64 0, .int .i64 0] 59)).alloc (.cells #[.int .i64 (-1), .int .i64 (-1)] 59)).heap.size (((w.alloc (.cells #[.slice p.es.A p.es.l.length p.es.c, .slice p.ns.A p.ns.l.length p.ns.c] 25)).alloc (.cells #[.int .i64 0, .int .i64 0] 59)).alloc (.cells #[.int .i64 (-1), .int .i64 (-1)] 59)) W → (W.cell? ⟨w.heap.size, 0, none⟩ = some (.slice p.es.A p.es.l.length p.es.c) ∧ W.cell? ⟨w.heap.size, 1, none⟩ = some (.slice p.ns.A p.ns.l.length p.ns.c) ∧ W.cell? ⟨w.heap.size + 1, 0, none⟩ = some (.int .i64 0) ∧ W.cell? ⟨w.heap.size + 1, 1, none⟩ = some (.int .i64 0) ∧ W.frozen? ⟨w.heap.size + 1, 0, none⟩ = false ∧ W.frozen? ⟨w.heap.size + 1, 1, none⟩ = false ∧ W.cell? ⟨w.heap.size + 1 + 1, 0, none⟩ = some (.int .i64 (-1)) ∧ W.cell? ⟨w.heap.size + 1 + 1, 1, none⟩ = some (.int .i64 (-1)) ∧ w.heap.size + 1 + 1 < W.heap.size)) := Lib.hid fun W h => by
    have hz : (((w.alloc (.cells #[.slice p.es.A p.es.l.length p.es.c, .slice p.ns.A p.ns.l.length p.ns.c] 25)).alloc (.cells #[.int .i64 0, .int .i64 0] 59)).alloc (.cells #[.int .i64 (-1), .int .i64 (-1)] 59)).heap.size = w.heap.size + 1 + 1 + 1 := by simp only [World.size_alloc]
    have hsz := h.size
    rw [hz] at hsz
    have hc : ∀ q : Addr, q.block < w.heap.size + 1 + 1 + 1 → W.cell? q = _ := fun q hq => h.cell (by rw [hz]; exact hq)
    have hf : ∀ q : Addr, q.block < w.heap.size + 1 + 1 + 1 → W.frozen? q = _ := fun q hq => h.frozen (by rw [hz]; exact hq)
    refine ⟨?_, ?_, ?_, ?_, ?_, ?_, ?_, ?_, by omega⟩
    all_goals (first | (rw [hc _ (by first | omega | (simp; done) | (simp; omega))]; simp [go_sem]; done) | (rw [hf _ (by first | omega | (simp; done) | (simp; omega))]; simp [go_sem]; done))
  unfold chkE
  obtain ⟨F, hF0, hFl, HF⟩ := ndsE_steps p.es.l p.ns.l
  rw [← hF0]
  have HR : Hid (∀ q, wheR (some q) = (((q.1 : Int), q.2.1), q.2.2)) := Lib.hid fun q => rfl
  have HRn : Hid (wheR none = ((0, 0), 0)) := Lib.hid rfl
  generalize errs (p.es.l.map enumE) = u at *
  clear hs hE hN
  by_cases z0 : 24 < p.es.l.length
  · have q0 : (24 : Int) < (p.es.l.length : Int) := by omega
    rw [if_pos (.inl z0)]
    clear z0
    go_enter Tryz.func22, Tryz.ntmps22
    go_wp2
    refine bodyPost_ret (v := .tuple #[.agg #[.int .i64 (-1), .int .i64 (-1)], .int .i64 (3)]) (by simp [results, Tryz.results22, go_sem]) rfl ?_
    exact ⟨rfl, bl⟩
  have q0 : (p.es.l.length : Int) ≤ (24 : Int) := by omega
  by_cases z1 : 96 < p.ns.l.length
  · have q1 : (96 : Int) < (p.ns.l.length : Int) := by omega
    rw [if_pos (.inr z1)]
    clear z0 z1
    go_enter Tryz.func22, Tryz.ntmps22
    go_wp2
    refine bodyPost_ret (v := .tuple #[.agg #[.int .i64 (-1), .int .i64 (-1)], .int .i64 (3)]) (by simp [results, Tryz.results22, go_sem]) rfl ?_
    exact ⟨rfl, bl⟩
  have q1 : (p.ns.l.length : Int) ≤ (96 : Int) := by omega
  rw [if_neg (by omega)]
  clear z0 z1
  by_cases hz : u = 0
  · subst hz
    rw [if_pos rfl]
    obtain ⟨V, hV⟩ : ∃ V, wheR (F 0) = V := ⟨_, rfl⟩
    have HV := Lib.hid hV
    have HL := Lib.hid hFl
    rw [hV]
    clear hV hF0 hFl
    go_enter Tryz.func22, Tryz.ntmps22
    go_wp2_with (go_at_call 47; (with_reducible refine (KF.out _ ?_).mono ?_); (exact bl); rintro e w1 ⟨rfl, hb1⟩; obtain ⟨g0, g1, g2, g3, g4, g5, g6, g7, g8⟩ := TB.out w1 bl; have b0 := fun o => cell_al o g0; have b1 := fun o => cell_al o g1)
    have TC : Hid (∀ W, Below (w1.alloc (.cells #[.slice p.es.A p.es.l.length p.es.c] 103)).heap.size (w1.alloc (.cells #[.slice p.es.A p.es.l.length p.es.c] 103)) W → W.cell? ⟨w1.heap.size, 0, none⟩ = some (.slice p.es.A p.es.l.length p.es.c) ∧ (W.cell? ⟨w.heap.size, 0, none⟩ = some (.slice p.es.A p.es.l.length p.es.c) ∧ W.cell? ⟨w.heap.size, 1, none⟩ = some (.slice p.ns.A p.ns.l.length p.ns.c) ∧ W.cell? ⟨w.heap.size + 1, 0, none⟩ = some (.int .i64 0) ∧ W.cell? ⟨w.heap.size + 1, 1, none⟩ = some (.int .i64 0) ∧ W.frozen? ⟨w.heap.size + 1, 0, none⟩ = false ∧ W.frozen? ⟨w.heap.size + 1, 1, none⟩ = false ∧ W.cell? ⟨w.heap.size + 1 + 1, 0, none⟩ = some (.int .i64 (-1)) ∧ W.cell? ⟨w.heap.size + 1 + 1, 1, none⟩ = some (.int .i64 (-1)) ∧ w.heap.size + 1 + 1 < W.heap.size)) := Lib.hid fun W h =>
      ⟨(B1K p.es h).1, TB.out W (hb1.trans (((bel_box _).trans (h.mono (by rw [World.size_alloc]; omega))).mono hb1.size))⟩
    go_loopw [36] (fun i wr => ∃ k : Nat, k ≤ p.ns.l.length ∧ i = .int .i64 (k : Int) ∧ Hid (wheR (F k) = V) ∧ Below (w1.alloc (.cells #[.slice p.es.A p.es.l.length p.es.c] 103)).heap.size (w1.alloc (.cells #[.slice p.es.A p.es.l.length p.es.c] 103)) wr) (fun i _ => p.ns.l.length - (intOf i).toNat)
    case atStart => exact ⟨0, by omega, rfl, HV, bl⟩
    case round =>
      obtain ⟨k, hk, rfl, hK, hbl⟩ := hrel
      have hBW : Below w.heap.size w wr := bl
      obtain ⟨c9, g0, g1, g2, g3, g4, g5, g6, g7, g8⟩ := TC.out wr hbl
      have a0 := fun o => cell_al o c9
      by_cases hlt : k < p.ns.l.length
      · obtain ⟨ad, y, hA, had, hy, hm, ⟨c0, c1, c2, c3, c4, c5, c6, c7⟩⟩ := ((HN.out.blw hBW hBW.size).2.1).at_ hlt
        have TP := Lib.hid (fun W h => (TB.out W h).2.2)
        rw [hA]
        clear hA
        have hst := HF.out k y hy
        have KY := Lib.hid (KN.out y hm)
        clear hy hm HF
        generalize nodE p.es.l y = v at *
        obtain ⟨v1, v2⟩ := v
        simp only at KY hst
        by_cases hv : v2 = 0
        · subst hv
          rw [if_pos rfl] at hst
          have hn' : Hid (wheR (F (k + 1)) = V) := Lib.hid (by rw [← hst]; exact hK.out)
          clear hst hK
          go_wp2_with (go_at_call 49; (with_reducible refine (KY.out _ ?_).mono ?_); (exact bl); rintro e w2 ⟨rfl, hb2⟩)
          exact ⟨⟨k + 1, by omega, by congr 1, hn', bl⟩, by simp [intOf]; omega⟩
        · rw [if_neg hv] at hst
          have hv2 : V = (((k : Int), v1), v2) := by rw [← hK.out, hst, HR.out]
          have e0 : (v2 == 0) = false := by simp [hv]
          subst hv2
          clear hst hK hv HV
          go_wp2_with (go_at_call 49; (with_reducible refine (KY.out _ ?_).mono ?_); (exact bl); rintro e w2 ⟨rfl, hb2⟩; obtain ⟨c9, g0, g1, g2, g3, g4, g5, g6, g7, g8⟩ := TC.out w2 bl)
          obtain ⟨k0, k1⟩ := set2w_cells g2 g3 (.int .i64 (k)) (.int .i64 (v1))
          refine bodyPost_ret (v := .tuple #[.agg #[.int .i64 (k), .int .i64 (v1)], .int .i64 (v2)]) (by simp [results, Tryz.results22, go_sem, k0, k1]) rfl ?_
          exact ⟨rfl, bel_set2w bl (by omega) _ _⟩
      · obtain rfl : k = p.ns.l.length := by omega
        have hv2 : V = ((0, 0), 0) := by rw [← hK.out, HL.out, HRn.out]
        subst hv2
        clear hK HF HV HL
        go_wp2
        obtain ⟨k0, k1⟩ := set2w_cells g2 g3 (.int .i64 (0)) (.int .i64 (0))
        refine bodyPost_ret (v := .tuple #[.agg #[.int .i64 (0), .int .i64 (0)], .int .i64 (0)]) (by simp [results, Tryz.results22, go_sem, k0, k1]) rfl ?_
        exact ⟨rfl, bel_set2w bl (by omega) _ _⟩
  · have z0 : (u == 0) = false := by simp [hz]
    rw [if_neg hz]
    clear hz
    go_enter Tryz.func22, Tryz.ntmps22
    go_wp2_with (go_at_call 47; (with_reducible refine (KF.out _ ?_).mono ?_); (exact bl); rintro e w1 ⟨rfl, hb1⟩; obtain ⟨g0, g1, g2, g3, g4, g5, g6, g7, g8⟩ := TB.out w1 bl; have b0 := fun o => cell_al o g0; have b1 := fun o => cell_al o g1)
    obtain ⟨k0, k1⟩ := set2w_cells g2 g3 (.int .i64 (-1)) (.int .i64 (-1))
    refine bodyPost_ret (v := .tuple #[.agg #[.int .i64 (-1), .int .i64 (-1)], .int .i64 (u)]) (by simp [results, Tryz.results22, go_sem, k0, k1]) rfl ?_
    exact ⟨rfl, bel_set2w bl (by omega) _ _⟩
set_option maxHeartbeats 400000 in
theorem sh_Expr (E : Rw va.En) (x : Xt) (w : World) (hs : Std w) (hE : RsE w w.heap.size E) (hX : RsX w w.heap.size x) :
    Calls Tryz.prog 35 #[.slice E.A E.l.length E.c, xV x] w (Bel (.int .i64 (expE E.l x)) w) := by
  have KE := Lib.hid (fun W (h : Below w.heap.size w W) => sh_expr E x W (hs.to h) (hE.blw h h.size) (hX.blw h h.size))
  simp only [xV, ckV] at KE ⊢
  go_enter Tryz.func35, Tryz.ntmps35
  go_wp2_with (go_at_call 62; (with_reducible refine (KE.out _ ?_).mono ?_); (exact bl); rintro e w1 ⟨rfl, hb1⟩)
  go_ret
  exact ⟨rfl, bl⟩
end Go.Proofs.YtoimjcfdiljkjaaGreatDoor
namespace Go.Proofs.YtoimjcfdiljkjaaGreatDoor
open Go.RowKit Go.Sort
set_option maxHeartbeats 1500000 in
set_option maxRecDepth 20000 in
theorem rv_valid (E : Rw va.En) (t : Int) (w : World) (hE : RsE w w.heap.size E) (ht : t ≤ 9223372036854775807) :
    Calls Tryz.prog 113 #[.slice E.A E.l.length E.c, .int .i64 t] w (Bel (.bool (decide (0 < va.sizeT E.l t))) w) := by
  have KS := Lib.hid (fun W (h : Below w.heap.size w W) => va.rsize_any E.A E.c E.l t W (hE.blw h h.size).1 hE.len ht)
  generalize va.sizeT E.l t = v at *
  clear hE ht
  by_cases h : 0 < v
  · have q : decide (0 < v) = true := decide_eq_true h
    rw [q]
    clear q
    go_enter Tryz.func113, Tryz.ntmps113
    go_wp2_with (first | (go_at_call 79; (with_reducible refine (KS.out _ ?_).mono ?_); (exact bl); rintro e w1 ⟨rfl, hb1⟩))
    go_ret
    exact ⟨(by first | rfl | (simp [h]; done)), bl⟩
  · have q : decide (0 < v) = false := decide_eq_false h
    have h2 : v ≤ 0 := by omega
    rw [q]
    clear q h
    go_enter Tryz.func113, Tryz.ntmps113
    go_wp2_with (first | (go_at_call 79; (with_reducible refine (KS.out _ ?_).mono ?_); (exact bl); rintro e w1 ⟨rfl, hb1⟩))
    go_ret
    exact ⟨(by first | rfl | (simp; omega)), bl⟩
theorem wpQuiet_no {P : Program} {ops : Array Oper} {C : World → Prop} {Q : Act → Prop} {a : Act} {o : Oper} {rest : List Oper} (h : Region.wanted o (yielded ops a.tmps) = false) : wpQuiet P ops C Q (o :: rest) a = wpQuiet P ops C Q rest (a.put o.dst undef) := by
  rw [wpQuiet, h]
  rfl
theorem size_nn (es : List va.En) (t : Int) : 0 ≤ va.sizeT es t := by
  unfold va.sizeT
  split <;> omega
set_option maxHeartbeats 1500000 in
set_option maxRecDepth 20000 in
theorem rv_inside (E : Rw va.En) (x : Xt) : ∀ w, RsE w w.heap.size E → RsX w w.heap.size x →
    Calls Tryz.prog 71 #[.slice E.A E.l.length E.c, xV x] w (Bel (.int .i64 (insE E.l x)) w) := by
  induction x using Xt.ind with
  | h x ih =>
    intro w hE hX
    have ht := (hX.2 x (mem_list_self x)).2
    have KV := Lib.hid (fun W (h : Below w.heap.size w W) => rv_valid E x.t W (hE.blw h h.size) ht)
    have KS := Lib.hid (fun W (h : Below w.heap.size w W) => va.rsize_any E.A E.c E.l x.t W (hE.blw h h.size).1 hE.len ht)
    have KH := Lib.hid (fun W (h : Below w.heap.size w W) => va.rhas_any E.A E.c E.l x.t x.v W (hE.blw h h.size).1 hE.len ht)
    have HX := Lib.hid hX
    have KR : Hid (∀ y ∈ x.ar, ∀ W, Below w.heap.size w W → Calls Tryz.prog 71 #[.slice E.A E.l.length E.c, xV y] W (Bel (.int .i64 (insE E.l y)) W)) := Lib.hid fun y hy W h => ih y hy W (hE.blw h h.size) ((hX.kid hy).blw h h.size)
    have h9 := hX.1.len.1
    unfold maxLen at h9
    rw [insE_eq]
    unfold typE
    have hnn := size_nn E.l x.t
    generalize va.hasB E.l x.t x.v = hb at *
    generalize va.sizeT E.l x.t = sz at *
    obtain ⟨F, hF0, hFl, HF⟩ := errs_steps x.ar (insE E.l)
    rw [← hF0]
    obtain ⟨V, hV⟩ : ∃ V, F 0 = V := ⟨_, rfl⟩
    have HV := Lib.hid hV
    have HL := Lib.hid hFl
    rw [hV]
    clear ht hE hX ih hF0 hFl hV
    simp only [xV] at KR ⊢
    by_cases k0 : x.k = 1 ∨ x.k = 8 ∨ x.k = 9
    · rw [if_pos k0]
      have kk : ((x.k == 1) = true ∧ (x.k == 8) = false ∧ (x.k == 9) = false ∧ (x.k != 9) = true ∧ x.k ≠ 9) ∨ ((x.k == 1) = false ∧ (x.k == 8) = true ∧ (x.k == 9) = false ∧ (x.k != 9) = true ∧ x.k ≠ 9) ∨ ((x.k == 1) = false ∧ (x.k == 8) = false ∧ (x.k == 9) = true ∧ (x.k != 9) = false ∧ x.k = 9) := by
        rcases k0 with k | k | k <;> rw [k] <;> simp
      clear k0
      by_cases z0 : sz = 0
      · subst z0
        rw [if_pos rfl, orEn (by decide)]
        rw [show decide ((0 : Int) < 0) = false from rfl] at KV
        clear hnn
        rcases kk with ⟨k1, k2, k3, k5, k4⟩ | ⟨k1, k2, k3, k5, k4⟩ | ⟨k1, k2, k3, k5, k4⟩
        all_goals
          clear k4
          go_enter Tryz.func71, Tryz.ntmps71
          go_wp2_with (first | (go_at_call 113; (with_reducible refine (KV.out _ ?_).mono ?_); (exact bl); rintro e w1 ⟨rfl, hb1⟩; obtain ⟨g0, g1, g2, g3, g4, g5, g6⟩ := B1X (w := w) (W := w1) x bl) | (go_at_call 41; (with_reducible refine (KH.out _ ?_).mono ?_); (exact bl); rintro e w2 ⟨rfl, hb2⟩; obtain ⟨g0, g1, g2, g3, g4, g5, g6⟩ := B1X (w := w) (W := w2) x bl) | (go_at_call 79; (with_reducible refine (KS.out _ ?_).mono ?_); (exact bl); rintro e w3 ⟨rfl, hb3⟩; obtain ⟨g0, g1, g2, g3, g4, g5, g6⟩ := B1X (w := w) (W := w3) x bl))
          go_ret
          exact ⟨rfl, bl⟩
      · rw [if_neg z0]
        rw [show decide ((0 : Int) < sz) = true from decide_eq_true (by omega)] at KV
        rcases kk with ⟨k1, k2, k3, k5, k4⟩ | ⟨k1, k2, k3, k5, k4⟩ | ⟨k1, k2, k3, k5, k4⟩
        · rw [if_neg (by intro h; exact k4 h.1)]
          clear hnn
          cases hb
          · rw [if_pos ⟨k4, rfl⟩, orEn (by decide)]
            clear k4 z0
            go_enter Tryz.func71, Tryz.ntmps71
            go_wp2_with (first | (go_at_call 113; (with_reducible refine (KV.out _ ?_).mono ?_); (exact bl); rintro e w1 ⟨rfl, hb1⟩; obtain ⟨g0, g1, g2, g3, g4, g5, g6⟩ := B1X (w := w) (W := w1) x bl) | (go_at_call 41; (with_reducible refine (KH.out _ ?_).mono ?_); (exact bl); rintro e w2 ⟨rfl, hb2⟩; obtain ⟨g0, g1, g2, g3, g4, g5, g6⟩ := B1X (w := w) (W := w2) x bl) | (go_at_call 79; (with_reducible refine (KS.out _ ?_).mono ?_); (exact bl); rintro e w3 ⟨rfl, hb3⟩; obtain ⟨g0, g1, g2, g3, g4, g5, g6⟩ := B1X (w := w) (W := w3) x bl))
            go_ret
            exact ⟨rfl, bl⟩
          · rw [if_neg (by simp), orE0]
            clear k4 z0
            go_enter Tryz.func71, Tryz.ntmps71
            go_wp2_with (first | (go_at_call 113; (with_reducible refine (KV.out _ ?_).mono ?_); (exact bl); rintro e w1 ⟨rfl, hb1⟩; obtain ⟨g0, g1, g2, g3, g4, g5, g6⟩ := B1X (w := w) (W := w1) x bl) | (go_at_call 41; (with_reducible refine (KH.out _ ?_).mono ?_); (exact bl); rintro e w2 ⟨rfl, hb2⟩; obtain ⟨g0, g1, g2, g3, g4, g5, g6⟩ := B1X (w := w) (W := w2) x bl) | (go_at_call 79; (with_reducible refine (KS.out _ ?_).mono ?_); (exact bl); rintro e w3 ⟨rfl, hb3⟩; obtain ⟨g0, g1, g2, g3, g4, g5, g6⟩ := B1X (w := w) (W := w3) x bl))
            have hvq : Below w.heap.size w w2 := bl
            have m0 := fun dd os => cell_regrown (w := w2) g0 dd os
            have m1 := fun dd os => cell_regrown (w := w2) g1 dd os
            have m2 := fun dd os => cell_regrown (w := w2) g2 dd os
            have m3 := fun dd os => cell_regrown (w := w2) g3 dd os
            have m4 := fun dd os => cell_regrown (w := w2) g4 dd os
            have m5 := fun dd os => cell_regrown (w := w2) g5 dd os
            have cc := fun dd os => Calls.regrown_of (KS.out (grow (redrawn w2 dd) os) (hvq.trans ((below_regrown w2 dd os).mono hvq.size)))
            clear hvq
            have hud : undef = .tuple #[] := rfl
            refine wp_region_quiet_below (by kernel_rfl) (by kernel_rfl) ?_
            quiet_step (fail)
            quiet_step (fail)
            quiet_step (fail)
            quiet_step (fail)
            rw [wpQuiet_no]
            rotate_left
            (focus (go_simp; done))
            rw [wpQuiet_no]
            rotate_left
            (focus (go_simp; done))
            rw [wpQuiet_no]
            rotate_left
            (focus (go_simp; done))
            rw [wpQuiet_no]
            rotate_left
            (focus (go_simp; done))
            rw [wpQuiet_no]
            rotate_left
            (focus (go_simp; done))
            rw [wpQuiet_no]
            rotate_left
            (focus (go_simp; done))
            rw [wpQuiet_no]
            rotate_left
            (focus (go_simp; done))
            rw [wpQuiet_no]
            rotate_left
            (focus (go_simp; done))
            repeat (quiet_step (fail))
            refine wpQuiet_nil ?_
            intro _ hw'
            obtain ⟨⟨dq, osq⟩, hw''⟩ := hw'
            subst hw''
            clear cc hud m0 m1 m2 m3 m4 m5
            obtain ⟨wq, hwq⟩ : ∃ wq, grow (redrawn w2 dq) osq = wq := ⟨_, rfl⟩
            have hbq : Below w2.heap.size w2 wq := by rw [← hwq]; exact below_regrown _ _ _
            simp only [hwq]
            clear hwq
            obtain ⟨g0, g1, g2, g3, g4, g5, g6⟩ := B1X (w := w) (W := wq) x bl
            go_wp2
            go_loopw [5] (fun i wr => ∃ k : Nat, k ≤ x.ar.length ∧ i = .int .i64 (k : Int) ∧ Hid (F k = V) ∧ Below (bxW w x).heap.size (bxW w x) wr) (fun i _ => x.ar.length - (intOf i).toNat)
            case atStart => exact ⟨0, by omega, rfl, HV, bl⟩
            case round =>
              obtain ⟨k, hk, rfl, hK, hbl⟩ := hrel
              obtain ⟨g0, g1, g2, g3, g4, g5, g6⟩ := bxW_cells hbl
              have hBW := bxW_below hbl
              by_cases hlt : k < x.ar.length
              · obtain ⟨ad, y, hA, had, hy, hm, ⟨c0, c1, c2, c3, c4, c5⟩, _⟩ := (HX.out.1.to hBW).at_ hlt
                rw [hA] at g5
                clear hA
                have hst := HF.out k y hy
                have KY := Lib.hid (KR.out y hm)
                clear hy hm HF
                generalize insE E.l y = v at *
                by_cases hv : v = 0
                · subst hv
                  rw [orE0] at hst
                  have hn : Hid (F (k + 1) = V) := Lib.hid (hst.symm.trans hK.out)
                  clear hst hK
                  go_wp2_with (go_at_call 71; (with_reducible refine (KY.out _ ?_).mono ?_); (exact bl); rintro e w5 ⟨rfl, hb5⟩)
                  exact ⟨⟨k + 1, by omega, by congr 1, hn, bl⟩, by simp [intOf]; omega⟩
                · rw [orEn hv] at hst
                  obtain rfl : v = V := hst.symm.trans hK.out
                  have e0 : (v == 0) = false := by simp [hv]
                  clear hst hK hv HV
                  go_wp2_with (go_at_call 71; (with_reducible refine (KY.out _ ?_).mono ?_); (exact bl); rintro e w5 ⟨rfl, hb5⟩)
                  go_ret
                  exact ⟨rfl, bl⟩
              · obtain rfl : k = x.ar.length := by omega
                obtain rfl : (0 : Int) = V := HL.out.symm.trans hK.out
                clear hK HF HV HL
                go_wp2
                go_ret
                exact ⟨rfl, hBW⟩
        · rw [if_neg (by intro h; exact k4 h.1)]
          clear hnn
          cases hb
          · rw [if_pos ⟨k4, rfl⟩, orEn (by decide)]
            clear k4 z0
            go_enter Tryz.func71, Tryz.ntmps71
            go_wp2_with (first | (go_at_call 113; (with_reducible refine (KV.out _ ?_).mono ?_); (exact bl); rintro e w1 ⟨rfl, hb1⟩; obtain ⟨g0, g1, g2, g3, g4, g5, g6⟩ := B1X (w := w) (W := w1) x bl) | (go_at_call 41; (with_reducible refine (KH.out _ ?_).mono ?_); (exact bl); rintro e w2 ⟨rfl, hb2⟩; obtain ⟨g0, g1, g2, g3, g4, g5, g6⟩ := B1X (w := w) (W := w2) x bl) | (go_at_call 79; (with_reducible refine (KS.out _ ?_).mono ?_); (exact bl); rintro e w3 ⟨rfl, hb3⟩; obtain ⟨g0, g1, g2, g3, g4, g5, g6⟩ := B1X (w := w) (W := w3) x bl))
            go_ret
            exact ⟨rfl, bl⟩
          · rw [if_neg (by simp), orE0]
            clear k4 z0
            go_enter Tryz.func71, Tryz.ntmps71
            go_wp2_with (first | (go_at_call 113; (with_reducible refine (KV.out _ ?_).mono ?_); (exact bl); rintro e w1 ⟨rfl, hb1⟩; obtain ⟨g0, g1, g2, g3, g4, g5, g6⟩ := B1X (w := w) (W := w1) x bl) | (go_at_call 41; (with_reducible refine (KH.out _ ?_).mono ?_); (exact bl); rintro e w2 ⟨rfl, hb2⟩; obtain ⟨g0, g1, g2, g3, g4, g5, g6⟩ := B1X (w := w) (W := w2) x bl) | (go_at_call 79; (with_reducible refine (KS.out _ ?_).mono ?_); (exact bl); rintro e w3 ⟨rfl, hb3⟩; obtain ⟨g0, g1, g2, g3, g4, g5, g6⟩ := B1X (w := w) (W := w3) x bl))
            have hvq : Below w.heap.size w w2 := bl
            have m0 := fun dd os => cell_regrown (w := w2) g0 dd os
            have m1 := fun dd os => cell_regrown (w := w2) g1 dd os
            have m2 := fun dd os => cell_regrown (w := w2) g2 dd os
            have m3 := fun dd os => cell_regrown (w := w2) g3 dd os
            have m4 := fun dd os => cell_regrown (w := w2) g4 dd os
            have m5 := fun dd os => cell_regrown (w := w2) g5 dd os
            have cc := fun dd os => Calls.regrown_of (KS.out (grow (redrawn w2 dd) os) (hvq.trans ((below_regrown w2 dd os).mono hvq.size)))
            clear hvq
            have hud : undef = .tuple #[] := rfl
            refine wp_region_quiet_below (by kernel_rfl) (by kernel_rfl) ?_
            quiet_step (fail)
            quiet_step (fail)
            quiet_step (fail)
            quiet_step (fail)
            rw [wpQuiet_no]
            rotate_left
            (focus (go_simp; done))
            rw [wpQuiet_no]
            rotate_left
            (focus (go_simp; done))
            rw [wpQuiet_no]
            rotate_left
            (focus (go_simp; done))
            rw [wpQuiet_no]
            rotate_left
            (focus (go_simp; done))
            rw [wpQuiet_no]
            rotate_left
            (focus (go_simp; done))
            rw [wpQuiet_no]
            rotate_left
            (focus (go_simp; done))
            rw [wpQuiet_no]
            rotate_left
            (focus (go_simp; done))
            rw [wpQuiet_no]
            rotate_left
            (focus (go_simp; done))
            repeat (quiet_step (fail))
            refine wpQuiet_nil ?_
            intro _ hw'
            obtain ⟨⟨dq, osq⟩, hw''⟩ := hw'
            subst hw''
            clear cc hud m0 m1 m2 m3 m4 m5
            obtain ⟨wq, hwq⟩ : ∃ wq, grow (redrawn w2 dq) osq = wq := ⟨_, rfl⟩
            have hbq : Below w2.heap.size w2 wq := by rw [← hwq]; exact below_regrown _ _ _
            simp only [hwq]
            clear hwq
            obtain ⟨g0, g1, g2, g3, g4, g5, g6⟩ := B1X (w := w) (W := wq) x bl
            go_wp2
            go_loopw [5] (fun i wr => ∃ k : Nat, k ≤ x.ar.length ∧ i = .int .i64 (k : Int) ∧ Hid (F k = V) ∧ Below (bxW w x).heap.size (bxW w x) wr) (fun i _ => x.ar.length - (intOf i).toNat)
            case atStart => exact ⟨0, by omega, rfl, HV, bl⟩
            case round =>
              obtain ⟨k, hk, rfl, hK, hbl⟩ := hrel
              obtain ⟨g0, g1, g2, g3, g4, g5, g6⟩ := bxW_cells hbl
              have hBW := bxW_below hbl
              by_cases hlt : k < x.ar.length
              · obtain ⟨ad, y, hA, had, hy, hm, ⟨c0, c1, c2, c3, c4, c5⟩, _⟩ := (HX.out.1.to hBW).at_ hlt
                rw [hA] at g5
                clear hA
                have hst := HF.out k y hy
                have KY := Lib.hid (KR.out y hm)
                clear hy hm HF
                generalize insE E.l y = v at *
                by_cases hv : v = 0
                · subst hv
                  rw [orE0] at hst
                  have hn : Hid (F (k + 1) = V) := Lib.hid (hst.symm.trans hK.out)
                  clear hst hK
                  go_wp2_with (go_at_call 71; (with_reducible refine (KY.out _ ?_).mono ?_); (exact bl); rintro e w5 ⟨rfl, hb5⟩)
                  exact ⟨⟨k + 1, by omega, by congr 1, hn, bl⟩, by simp [intOf]; omega⟩
                · rw [orEn hv] at hst
                  obtain rfl : v = V := hst.symm.trans hK.out
                  have e0 : (v == 0) = false := by simp [hv]
                  clear hst hK hv HV
                  go_wp2_with (go_at_call 71; (with_reducible refine (KY.out _ ?_).mono ?_); (exact bl); rintro e w5 ⟨rfl, hb5⟩)
                  go_ret
                  exact ⟨rfl, bl⟩
              · obtain rfl : k = x.ar.length := by omega
                obtain rfl : (0 : Int) = V := HL.out.symm.trans hK.out
                clear hK HF HV HL
                go_wp2
                go_ret
                exact ⟨rfl, hBW⟩
        · by_cases z1 : (x.ar.length : Int) = sz
          · rw [if_neg (by intro h; exact h.2 z1), if_neg (by intro h; exact h.1 k4), orE0]
            have q1 : ((x.ar.length : Int) != sz) = false := by simp [z1]
            clear k4 z0 z1 hnn
            go_enter Tryz.func71, Tryz.ntmps71
            go_wp2_with (first | (go_at_call 113; (with_reducible refine (KV.out _ ?_).mono ?_); (exact bl); rintro e w1 ⟨rfl, hb1⟩; obtain ⟨g0, g1, g2, g3, g4, g5, g6⟩ := B1X (w := w) (W := w1) x bl) | (go_at_call 41; (with_reducible refine (KH.out _ ?_).mono ?_); (exact bl); rintro e w2 ⟨rfl, hb2⟩; obtain ⟨g0, g1, g2, g3, g4, g5, g6⟩ := B1X (w := w) (W := w2) x bl) | (go_at_call 79; (with_reducible refine (KS.out _ ?_).mono ?_); (exact bl); rintro e w3 ⟨rfl, hb3⟩; obtain ⟨g0, g1, g2, g3, g4, g5, g6⟩ := B1X (w := w) (W := w3) x bl))
            have hvq : Below w.heap.size w w1 := bl
            have m0 := fun dd os => cell_regrown (w := w1) g0 dd os
            have m1 := fun dd os => cell_regrown (w := w1) g1 dd os
            have m2 := fun dd os => cell_regrown (w := w1) g2 dd os
            have m3 := fun dd os => cell_regrown (w := w1) g3 dd os
            have m4 := fun dd os => cell_regrown (w := w1) g4 dd os
            have m5 := fun dd os => cell_regrown (w := w1) g5 dd os
            have cc := fun dd os => Calls.regrown_of (KS.out (grow (redrawn w1 dd) os) (hvq.trans ((below_regrown w1 dd os).mono hvq.size)))
            clear hvq
            have hud : undef = .tuple #[] := rfl
            refine wp_region_quiet_below (by kernel_rfl) (by kernel_rfl) ?_
            repeat (quiet_step (first | with_reducible exact cc _ _))
            refine wpQuiet_nil ?_
            intro _ hw'
            obtain ⟨⟨dq, osq⟩, hw''⟩ := hw'
            subst hw''
            clear cc hud m0 m1 m2 m3 m4 m5
            obtain ⟨wq, hwq⟩ : ∃ wq, grow (redrawn w1 dq) osq = wq := ⟨_, rfl⟩
            have hbq : Below w1.heap.size w1 wq := by rw [← hwq]; exact below_regrown _ _ _
            simp only [hwq]
            clear hwq
            obtain ⟨g0, g1, g2, g3, g4, g5, g6⟩ := B1X (w := w) (W := wq) x bl
            go_wp2
            go_loopw [5] (fun i wr => ∃ k : Nat, k ≤ x.ar.length ∧ i = .int .i64 (k : Int) ∧ Hid (F k = V) ∧ Below (bxW w x).heap.size (bxW w x) wr) (fun i _ => x.ar.length - (intOf i).toNat)
            case atStart => exact ⟨0, by omega, rfl, HV, bl⟩
            case round =>
              obtain ⟨k, hk, rfl, hK, hbl⟩ := hrel
              obtain ⟨g0, g1, g2, g3, g4, g5, g6⟩ := bxW_cells hbl
              have hBW := bxW_below hbl
              by_cases hlt : k < x.ar.length
              · obtain ⟨ad, y, hA, had, hy, hm, ⟨c0, c1, c2, c3, c4, c5⟩, _⟩ := (HX.out.1.to hBW).at_ hlt
                rw [hA] at g5
                clear hA
                have hst := HF.out k y hy
                have KY := Lib.hid (KR.out y hm)
                clear hy hm HF
                generalize insE E.l y = v at *
                by_cases hv : v = 0
                · subst hv
                  rw [orE0] at hst
                  have hn : Hid (F (k + 1) = V) := Lib.hid (hst.symm.trans hK.out)
                  clear hst hK
                  go_wp2_with (go_at_call 71; (with_reducible refine (KY.out _ ?_).mono ?_); (exact bl); rintro e w5 ⟨rfl, hb5⟩)
                  exact ⟨⟨k + 1, by omega, by congr 1, hn, bl⟩, by simp [intOf]; omega⟩
                · rw [orEn hv] at hst
                  obtain rfl : v = V := hst.symm.trans hK.out
                  have e0 : (v == 0) = false := by simp [hv]
                  clear hst hK hv HV
                  go_wp2_with (go_at_call 71; (with_reducible refine (KY.out _ ?_).mono ?_); (exact bl); rintro e w5 ⟨rfl, hb5⟩)
                  go_ret
                  exact ⟨rfl, bl⟩
              · obtain rfl : k = x.ar.length := by omega
                obtain rfl : (0 : Int) = V := HL.out.symm.trans hK.out
                clear hK HF HV HL
                go_wp2
                go_ret
                exact ⟨rfl, hBW⟩
          · rw [if_pos ⟨k4, z1⟩, orEn (by decide)]
            have q1 : ((x.ar.length : Int) != sz) = true := by simp [z1]
            clear k4 z0 z1 hnn
            go_enter Tryz.func71, Tryz.ntmps71
            go_wp2_with (first | (go_at_call 113; (with_reducible refine (KV.out _ ?_).mono ?_); (exact bl); rintro e w1 ⟨rfl, hb1⟩; obtain ⟨g0, g1, g2, g3, g4, g5, g6⟩ := B1X (w := w) (W := w1) x bl) | (go_at_call 41; (with_reducible refine (KH.out _ ?_).mono ?_); (exact bl); rintro e w2 ⟨rfl, hb2⟩; obtain ⟨g0, g1, g2, g3, g4, g5, g6⟩ := B1X (w := w) (W := w2) x bl) | (go_at_call 79; (with_reducible refine (KS.out _ ?_).mono ?_); (exact bl); rintro e w3 ⟨rfl, hb3⟩; obtain ⟨g0, g1, g2, g3, g4, g5, g6⟩ := B1X (w := w) (W := w3) x bl))
            have hvq : Below w.heap.size w w1 := bl
            have m0 := fun dd os => cell_regrown (w := w1) g0 dd os
            have m1 := fun dd os => cell_regrown (w := w1) g1 dd os
            have m2 := fun dd os => cell_regrown (w := w1) g2 dd os
            have m3 := fun dd os => cell_regrown (w := w1) g3 dd os
            have m4 := fun dd os => cell_regrown (w := w1) g4 dd os
            have m5 := fun dd os => cell_regrown (w := w1) g5 dd os
            have cc := fun dd os => Calls.regrown_of (KS.out (grow (redrawn w1 dd) os) (hvq.trans ((below_regrown w1 dd os).mono hvq.size)))
            clear hvq
            have hud : undef = .tuple #[] := rfl
            refine wp_region_quiet_below (by kernel_rfl) (by kernel_rfl) ?_
            repeat (quiet_step (first | with_reducible exact cc _ _))
            refine wpQuiet_nil ?_
            intro _ hw'
            obtain ⟨⟨dq, osq⟩, hw''⟩ := hw'
            subst hw''
            clear cc hud m0 m1 m2 m3 m4 m5
            obtain ⟨wq, hwq⟩ : ∃ wq, grow (redrawn w1 dq) osq = wq := ⟨_, rfl⟩
            have hbq : Below w1.heap.size w1 wq := by rw [← hwq]; exact below_regrown _ _ _
            simp only [hwq]
            clear hwq
            obtain ⟨g0, g1, g2, g3, g4, g5, g6⟩ := B1X (w := w) (W := wq) x bl
            go_wp2
            go_ret
            exact ⟨rfl, bl⟩
    · rw [if_neg k0, orE0]
      have k1 : (x.k == 1) = false := by rw [beq_eq_false_iff_ne]; omega
      have k2 : (x.k == 8) = false := by rw [beq_eq_false_iff_ne]; omega
      have k3 : (x.k == 9) = false := by rw [beq_eq_false_iff_ne]; omega
      clear k0 hnn
      go_enter Tryz.func71, Tryz.ntmps71
      go_wp2_with (first | (go_at_call 113; (with_reducible refine (KV.out _ ?_).mono ?_); (exact bl); rintro e w1 ⟨rfl, hb1⟩; obtain ⟨g0, g1, g2, g3, g4, g5, g6⟩ := B1X (w := w) (W := w1) x bl) | (go_at_call 41; (with_reducible refine (KH.out _ ?_).mono ?_); (exact bl); rintro e w2 ⟨rfl, hb2⟩; obtain ⟨g0, g1, g2, g3, g4, g5, g6⟩ := B1X (w := w) (W := w2) x bl) | (go_at_call 79; (with_reducible refine (KS.out _ ?_).mono ?_); (exact bl); rintro e w3 ⟨rfl, hb3⟩; obtain ⟨g0, g1, g2, g3, g4, g5, g6⟩ := B1X (w := w) (W := w3) x bl))
      go_loopw [5] (fun i wr => ∃ k : Nat, k ≤ x.ar.length ∧ i = .int .i64 (k : Int) ∧ Hid (F k = V) ∧ Below (bxW w x).heap.size (bxW w x) wr) (fun i _ => x.ar.length - (intOf i).toNat)
      case atStart => exact ⟨0, by omega, rfl, HV, bl⟩
      case round =>
        obtain ⟨k, hk, rfl, hK, hbl⟩ := hrel
        obtain ⟨g0, g1, g2, g3, g4, g5, g6⟩ := bxW_cells hbl
        have hBW := bxW_below hbl
        by_cases hlt : k < x.ar.length
        · obtain ⟨ad, y, hA, had, hy, hm, ⟨c0, c1, c2, c3, c4, c5⟩, _⟩ := (HX.out.1.to hBW).at_ hlt
          rw [hA] at g5
          clear hA
          have hst := HF.out k y hy
          have KY := Lib.hid (KR.out y hm)
          clear hy hm HF
          generalize insE E.l y = v at *
          by_cases hv : v = 0
          · subst hv
            rw [orE0] at hst
            have hn : Hid (F (k + 1) = V) := Lib.hid (hst.symm.trans hK.out)
            clear hst hK
            go_wp2_with (go_at_call 71; (with_reducible refine (KY.out _ ?_).mono ?_); (exact bl); rintro e w5 ⟨rfl, hb5⟩)
            exact ⟨⟨k + 1, by omega, by congr 1, hn, bl⟩, by simp [intOf]; omega⟩
          · rw [orEn hv] at hst
            obtain rfl : v = V := hst.symm.trans hK.out
            have e0 : (v == 0) = false := by simp [hv]
            clear hst hK hv HV
            go_wp2_with (go_at_call 71; (with_reducible refine (KY.out _ ?_).mono ?_); (exact bl); rintro e w5 ⟨rfl, hb5⟩)
            go_ret
            exact ⟨rfl, bl⟩
        · obtain rfl : k = x.ar.length := by omega
          obtain rfl : (0 : Int) = V := HL.out.symm.trans hK.out
          clear hK HF HV HL
          go_wp2
          go_ret
          exact ⟨rfl, hBW⟩
set_option maxHeartbeats 1500000 in
set_option maxRecDepth 20000 in
theorem rv_expr (E : Rw va.En) (x : Xt) (w : World) (hE : RsE w w.heap.size E) (hX : RsX w w.heap.size x) (hs : x.size ≤ 1048576) :
    Calls Tryz.prog 37 #[.slice E.A E.l.length E.c, xV x] w (Bel (.int .i64 (expE E.l x)) w) := by
  have KT := Lib.hid (fun W (h : Below w.heap.size w W) => rv_inside E x W (hE.blw h h.size) (hX.blw h h.size))
  have KC := Lib.hid (fun W (h : Below w.heap.size w W) => rcheck_any wokP x W (hX.blw h h.size).1 hs (nm_ref hX.nmb))
  unfold expE
  generalize insE E.l x = u at *
  generalize chkAll wokP x = v at *
  clear hE hX
  simp only [xV] at KT KC ⊢
  by_cases hv : v = 0
  · subst hv
    rw [orE0]
    go_enter Tryz.func37, Tryz.ntmps37
    go_wp2_with (first | (go_at_call 70; (with_reducible refine (KC.out _ ?_).mono ?_); (exact bl); rintro e w1 ⟨rfl, hb1⟩; obtain ⟨g0, g1, g2, g3, g4, g5, g6⟩ := B1X (w := w) (W := w1) x bl) | (go_at_call 71; (with_reducible refine (KT.out _ ?_).mono ?_); (exact bl); rintro e w2 ⟨rfl, hb2⟩))
    go_ret
    exact ⟨rfl, bl⟩
  · have q : (v == 0) = false := by simp [hv]
    rw [orEn hv]
    clear hv
    go_enter Tryz.func37, Tryz.ntmps37
    go_wp2_with (first | (go_at_call 70; (with_reducible refine (KC.out _ ?_).mono ?_); (exact bl); rintro e w1 ⟨rfl, hb1⟩; obtain ⟨g0, g1, g2, g3, g4, g5, g6⟩ := B1X (w := w) (W := w1) x bl) | (go_at_call 71; (with_reducible refine (KT.out _ ?_).mono ?_); (exact bl); rintro e w2 ⟨rfl, hb2⟩))
    go_ret
    exact ⟨rfl, bl⟩
end Go.Proofs.YtoimjcfdiljkjaaGreatDoor
namespace Go.Proofs.YtoimjcfdiljkjaaGreatDoor
open Go.RowKit Go.Sort
set_option maxHeartbeats 3000000 in
set_option maxRecDepth 20000 in
theorem rv_ident (s : ByteArray) (w : World) (h9 : s.size ≤ 140737488351232) : Calls Tryz.prog 96 #[.string s] w (Bel (.bool (idP s)) w) := by
  rw [id_eq]
  exact rident_any s w h9
set_option maxHeartbeats 3000000 in
set_option maxRecDepth 20000 in
theorem rv_decl_t (E : Rw va.En) (d : Dt) (w : World) (hV : ∀ t, va.valB E.l t = decide (0 < va.sizeT E.l t)) (hE : RsE w w.heap.size E) (hd : RsD w w.heap.size d) :
    Calls Tryz.prog 131 #[.slice E.A E.l.length E.c, dV d, .bool true] w (Bel (.int .i64 (portE E.l d)) w) := by
  have KI := Lib.hid (fun W (h : Below w.heap.size w W) => rv_ident d.nm W hd.1.1)
  have KV := Lib.hid (fun W (h : Below w.heap.size w W) => rv_valid E d.ty W (hE.blw h h.size) hd.1.2)
  have KO : Hid (∀ y ∈ d.ck.l, ∀ W, Below w.heap.size w W → Calls Tryz.prog 96 #[.string y.nm] W (Bel (.bool (idP y.nm)) W)) := Lib.hid fun y hy W h => rv_ident y.nm W (hd.2.2 y hy).1
  have KH : Hid (∀ y ∈ d.ck.l, ∀ W, Below w.heap.size w W → Calls Tryz.prog 41 #[.slice E.A E.l.length E.c, .int .i64 y.t, .int .i64 y.tag] W (Bel (.bool (va.hasB E.l y.t y.tag)) W)) := Lib.hid fun y hy W h => va.rhas_any E.A E.c E.l y.t y.tag W (hE.blw h h.size).1 hE.len (hd.2.2 y hy).2
  have h9 := hd.2.1.len
  unfold maxLen at h9
  have HR : Hid (RdR w w.heap.size 3 OC d.ck) := Lib.hid hd.2.1
  unfold portE dclE
  rw [hV]
  generalize decide (0 < va.sizeT E.l d.ty) = b2 at *
  generalize idP d.nm = b1 at *
  clear hE hd hV
  cases b1
  · rw [if_neg (by simp), orEn (by decide)]
    go_enter Tryz.func131, Tryz.ntmps131
    go_wp2_with (first | (go_at_call 96; (with_reducible refine (KI.out _ ?_).mono ?_); (exact bl); rintro e w1 ⟨rfl, hb1⟩; obtain ⟨g0, g1, g2, g3⟩ := B1D (w := w) (W := w1) d bl) | (go_at_call 113; (with_reducible refine (KV.out _ ?_).mono ?_); (exact bl); rintro e w2 ⟨rfl, hb2⟩; obtain ⟨g0, g1, g2, g3⟩ := B1D (w := w) (W := w2) d bl))
    go_ret
    exact ⟨rfl, bl⟩
  rw [if_pos rfl]
  cases b2
  · rw [if_neg (by simp), orEn (by decide)]
    go_enter Tryz.func131, Tryz.ntmps131
    go_wp2_with (first | (go_at_call 96; (with_reducible refine (KI.out _ ?_).mono ?_); (exact bl); rintro e w1 ⟨rfl, hb1⟩; obtain ⟨g0, g1, g2, g3⟩ := B1D (w := w) (W := w1) d bl) | (go_at_call 113; (with_reducible refine (KV.out _ ?_).mono ?_); (exact bl); rintro e w2 ⟨rfl, hb2⟩; obtain ⟨g0, g1, g2, g3⟩ := B1D (w := w) (W := w2) d bl))
    go_ret
    exact ⟨rfl, bl⟩
  rw [if_pos rfl, orE0]
  by_cases z : 0 < d.ck.l.length
  · have q0 : (0 : Int) < (d.ck.l.length : Int) := by omega
    rw [if_pos z]
    clear z
    go_enter Tryz.func131, Tryz.ntmps131
    go_wp2_with (first | (go_at_call 96; (with_reducible refine (KI.out _ ?_).mono ?_); (exact bl); rintro e w1 ⟨rfl, hb1⟩; obtain ⟨g0, g1, g2, g3⟩ := B1D (w := w) (W := w1) d bl) | (go_at_call 113; (with_reducible refine (KV.out _ ?_).mono ?_); (exact bl); rintro e w2 ⟨rfl, hb2⟩; obtain ⟨g0, g1, g2, g3⟩ := B1D (w := w) (W := w2) d bl))
    go_ret
    exact ⟨rfl, bl⟩
  have q0 : (d.ck.l.length : Int) ≤ (0 : Int) := by omega
  have q4 : (d.ck.l.length : Int) ≤ (4 : Int) := by omega
  rw [if_neg z]
  rw [show (0 : Int) = errs (d.ck.l.map (onE E.l)) by rw [List.length_eq_zero_iff.1 (by omega : d.ck.l.length = 0)]; rfl]
  obtain ⟨F, hF0, hFl, HF⟩ := errs_steps d.ck.l (onE E.l)
  rw [← hF0]
  obtain ⟨V, hV⟩ : ∃ V, F 0 = V := ⟨_, rfl⟩
  have HV := Lib.hid hV
  have HL := Lib.hid hFl
  rw [hV]
  clear hF0 hFl hV
  clear z
  go_enter Tryz.func131, Tryz.ntmps131
  go_wp2_with (first | (go_at_call 96; (with_reducible refine (KI.out _ ?_).mono ?_); (exact bl); rintro e w1 ⟨rfl, hb1⟩; obtain ⟨g0, g1, g2, g3⟩ := B1D (w := w) (W := w1) d bl) | (go_at_call 113; (with_reducible refine (KV.out _ ?_).mono ?_); (exact bl); rintro e w2 ⟨rfl, hb2⟩; obtain ⟨g0, g1, g2, g3⟩ := B1D (w := w) (W := w2) d bl))
  go_loopw [7] (fun i wr => ∃ k : Nat, k ≤ d.ck.l.length ∧ i = .int .i64 (k : Int) ∧ Hid (F k = V) ∧ Below ((w.alloc (.cells #[.string d.nm, .int .i64 d.ty, .slice d.ck.A d.ck.l.length d.ck.c] 50))).heap.size ((w.alloc (.cells #[.string d.nm, .int .i64 d.ty, .slice d.ck.A d.ck.l.length d.ck.c] 50))) wr) (fun i _ => d.ck.l.length - (intOf i).toNat)
  case atStart => exact ⟨0, by omega, rfl, HV, bl⟩
  case round =>
    obtain ⟨k, hk, rfl, hK, hbl⟩ := hrel
    obtain ⟨wr, rfl⟩ : ∃ wo : World, wo = wr := ⟨_, rfl⟩
    have hBW : Below w.heap.size w wr := bl
    obtain ⟨g0, g1, g2, g3⟩ := B1D (w := w) (W := wr) d hbl
    by_cases hlt : k < d.ck.l.length
    · obtain ⟨ad, y, hA, had, hy, hm, ⟨c0, c1, c2⟩⟩ := (HR.out.blw oneB_O hBW hBW.size).at_ hlt
      rw [hA] at g2
      clear hA
      have hst := HF.out k y hy
      exact absurd hlt (by omega)
    · obtain rfl : k = d.ck.l.length := by omega
      have hE0 : V = 0 := hK.out.symm.trans HL.out
      subst hE0
      clear hK HF HV HL hlt
      go_wp2
      go_ret
      exact ⟨rfl, bl⟩
set_option maxHeartbeats 3000000 in
set_option maxRecDepth 20000 in
theorem rv_decl_f (E : Rw va.En) (d : Dt) (w : World) (hV : ∀ t, va.valB E.l t = decide (0 < va.sizeT E.l t)) (hE : RsE w w.heap.size E) (hd : RsD w w.heap.size d) :
    Calls Tryz.prog 131 #[.slice E.A E.l.length E.c, dV d, .bool false] w (Bel (.int .i64 (locE E.l d)) w) := by
  have KI := Lib.hid (fun W (h : Below w.heap.size w W) => rv_ident d.nm W hd.1.1)
  have KV := Lib.hid (fun W (h : Below w.heap.size w W) => rv_valid E d.ty W (hE.blw h h.size) hd.1.2)
  have KO : Hid (∀ y ∈ d.ck.l, ∀ W, Below w.heap.size w W → Calls Tryz.prog 96 #[.string y.nm] W (Bel (.bool (idP y.nm)) W)) := Lib.hid fun y hy W h => rv_ident y.nm W (hd.2.2 y hy).1
  have KH : Hid (∀ y ∈ d.ck.l, ∀ W, Below w.heap.size w W → Calls Tryz.prog 41 #[.slice E.A E.l.length E.c, .int .i64 y.t, .int .i64 y.tag] W (Bel (.bool (va.hasB E.l y.t y.tag)) W)) := Lib.hid fun y hy W h => va.rhas_any E.A E.c E.l y.t y.tag W (hE.blw h h.size).1 hE.len (hd.2.2 y hy).2
  have h9 := hd.2.1.len
  unfold maxLen at h9
  have HR : Hid (RdR w w.heap.size 3 OC d.ck) := Lib.hid hd.2.1
  unfold locE dclE
  rw [hV]
  generalize decide (0 < va.sizeT E.l d.ty) = b2 at *
  generalize idP d.nm = b1 at *
  clear hE hd hV
  cases b1
  · rw [if_neg (by simp), orEn (by decide)]
    go_enter Tryz.func131, Tryz.ntmps131
    go_wp2_with (first | (go_at_call 96; (with_reducible refine (KI.out _ ?_).mono ?_); (exact bl); rintro e w1 ⟨rfl, hb1⟩; obtain ⟨g0, g1, g2, g3⟩ := B1D (w := w) (W := w1) d bl) | (go_at_call 113; (with_reducible refine (KV.out _ ?_).mono ?_); (exact bl); rintro e w2 ⟨rfl, hb2⟩; obtain ⟨g0, g1, g2, g3⟩ := B1D (w := w) (W := w2) d bl))
    go_ret
    exact ⟨rfl, bl⟩
  rw [if_pos rfl]
  cases b2
  · rw [if_neg (by simp), orEn (by decide)]
    go_enter Tryz.func131, Tryz.ntmps131
    go_wp2_with (first | (go_at_call 96; (with_reducible refine (KI.out _ ?_).mono ?_); (exact bl); rintro e w1 ⟨rfl, hb1⟩; obtain ⟨g0, g1, g2, g3⟩ := B1D (w := w) (W := w1) d bl) | (go_at_call 113; (with_reducible refine (KV.out _ ?_).mono ?_); (exact bl); rintro e w2 ⟨rfl, hb2⟩; obtain ⟨g0, g1, g2, g3⟩ := B1D (w := w) (W := w2) d bl))
    go_ret
    exact ⟨rfl, bl⟩
  rw [if_pos rfl, orE0]
  by_cases z : 4 < d.ck.l.length
  · have q0 : (4 : Int) < (d.ck.l.length : Int) := by omega
    rw [if_pos z]
    clear z
    go_enter Tryz.func131, Tryz.ntmps131
    go_wp2_with (first | (go_at_call 96; (with_reducible refine (KI.out _ ?_).mono ?_); (exact bl); rintro e w1 ⟨rfl, hb1⟩; obtain ⟨g0, g1, g2, g3⟩ := B1D (w := w) (W := w1) d bl) | (go_at_call 113; (with_reducible refine (KV.out _ ?_).mono ?_); (exact bl); rintro e w2 ⟨rfl, hb2⟩; obtain ⟨g0, g1, g2, g3⟩ := B1D (w := w) (W := w2) d bl))
    go_ret
    exact ⟨rfl, bl⟩
  have q4 : (d.ck.l.length : Int) ≤ (4 : Int) := by omega
  rw [if_neg z]
  obtain ⟨F, hF0, hFl, HF⟩ := errs_steps d.ck.l (onE E.l)
  rw [← hF0]
  obtain ⟨V, hV⟩ : ∃ V, F 0 = V := ⟨_, rfl⟩
  have HV := Lib.hid hV
  have HL := Lib.hid hFl
  rw [hV]
  clear hF0 hFl hV
  clear z
  go_enter Tryz.func131, Tryz.ntmps131
  go_wp2_with (first | (go_at_call 96; (with_reducible refine (KI.out _ ?_).mono ?_); (exact bl); rintro e w1 ⟨rfl, hb1⟩; obtain ⟨g0, g1, g2, g3⟩ := B1D (w := w) (W := w1) d bl) | (go_at_call 113; (with_reducible refine (KV.out _ ?_).mono ?_); (exact bl); rintro e w2 ⟨rfl, hb2⟩; obtain ⟨g0, g1, g2, g3⟩ := B1D (w := w) (W := w2) d bl))
  go_loopw [7] (fun i wr => ∃ k : Nat, k ≤ d.ck.l.length ∧ i = .int .i64 (k : Int) ∧ Hid (F k = V) ∧ Below ((w.alloc (.cells #[.string d.nm, .int .i64 d.ty, .slice d.ck.A d.ck.l.length d.ck.c] 50))).heap.size ((w.alloc (.cells #[.string d.nm, .int .i64 d.ty, .slice d.ck.A d.ck.l.length d.ck.c] 50))) wr) (fun i _ => d.ck.l.length - (intOf i).toNat)
  case atStart => exact ⟨0, by omega, rfl, HV, bl⟩
  case round =>
    obtain ⟨k, hk, rfl, hK, hbl⟩ := hrel
    obtain ⟨wr, rfl⟩ : ∃ wo : World, wo = wr := ⟨_, rfl⟩
    have hBW : Below w.heap.size w wr := bl
    obtain ⟨g0, g1, g2, g3⟩ := B1D (w := w) (W := wr) d hbl
    by_cases hlt : k < d.ck.l.length
    · obtain ⟨ad, y, hA, had, hy, hm, ⟨c0, c1, c2⟩⟩ := (HR.out.blw oneB_O hBW hBW.size).at_ hlt
      rw [hA] at g2
      clear hA
      have hst := HF.out k y hy
      have KY := Lib.hid (KO.out y hm)
      have KZ := Lib.hid (KH.out y hm)
      clear hy hm HF
      unfold onE at hst
      generalize idP y.nm = b at *
      generalize va.hasB E.l y.t y.tag = bb at *
      cases b
      · rw [if_neg (by simp), orEn (by decide)] at hst
        obtain rfl : 6 = V := hst.symm.trans hK.out
        clear hst hK HV
        go_wp2_with (first | (go_at_call 96; (with_reducible refine (KY.out _ ?_).mono ?_); (exact bl); rintro e w5 ⟨rfl, hb5⟩; obtain ⟨o0, o1, o2, o3⟩ := B1O (w := wr) (W := w5) y bl; obtain ⟨g0, g1, g2, g3⟩ := B1D (w := w) (W := w5) d bl) | (go_at_call 41; (with_reducible refine (KZ.out _ ?_).mono ?_); (exact bl); rintro e w6 ⟨rfl, hb6⟩))
        go_ret
        exact ⟨rfl, bl⟩
      rw [if_pos rfl] at hst
      by_cases z2 : y.t = 2
      · have q2 : (y.t == 2) = true := by simp [z2]
        rw [if_pos (.inl z2), orEn (by decide)] at hst
        obtain rfl : 5 = V := hst.symm.trans hK.out
        clear hst hK HV z2
        go_wp2_with (first | (go_at_call 96; (with_reducible refine (KY.out _ ?_).mono ?_); (exact bl); rintro e w5 ⟨rfl, hb5⟩; obtain ⟨o0, o1, o2, o3⟩ := B1O (w := wr) (W := w5) y bl; obtain ⟨g0, g1, g2, g3⟩ := B1D (w := w) (W := w5) d bl) | (go_at_call 41; (with_reducible refine (KZ.out _ ?_).mono ?_); (exact bl); rintro e w6 ⟨rfl, hb6⟩))
        go_ret
        exact ⟨rfl, bl⟩
      have q2 : (y.t == 2) = false := by simp [z2]
      cases bb
      · rw [if_pos (.inr rfl), orEn (by decide)] at hst
        obtain rfl : 5 = V := hst.symm.trans hK.out
        clear hst hK HV z2
        go_wp2_with (first | (go_at_call 96; (with_reducible refine (KY.out _ ?_).mono ?_); (exact bl); rintro e w5 ⟨rfl, hb5⟩; obtain ⟨o0, o1, o2, o3⟩ := B1O (w := wr) (W := w5) y bl; obtain ⟨g0, g1, g2, g3⟩ := B1D (w := w) (W := w5) d bl) | (go_at_call 41; (with_reducible refine (KZ.out _ ?_).mono ?_); (exact bl); rintro e w6 ⟨rfl, hb6⟩))
        go_ret
        exact ⟨rfl, bl⟩
      · rw [if_neg (by simp [z2]), orE0] at hst
        have hn : Hid (F (k + 1) = V) := Lib.hid (hst.symm.trans hK.out)
        clear hst hK z2
        go_wp2_with (first | (go_at_call 96; (with_reducible refine (KY.out _ ?_).mono ?_); (exact bl); rintro e w5 ⟨rfl, hb5⟩; obtain ⟨o0, o1, o2, o3⟩ := B1O (w := wr) (W := w5) y bl; obtain ⟨g0, g1, g2, g3⟩ := B1D (w := w) (W := w5) d bl) | (go_at_call 41; (with_reducible refine (KZ.out _ ?_).mono ?_); (exact bl); rintro e w6 ⟨rfl, hb6⟩))
        exact ⟨⟨k + 1, by omega, by congr 1, hn, bl⟩, by simp [intOf]; omega⟩
    · obtain rfl : k = d.ck.l.length := by omega
      have hE0 : V = 0 := hK.out.symm.trans HL.out
      subst hE0
      clear hK HF HV HL hlt
      go_wp2
      go_ret
      exact ⟨rfl, bl⟩
set_option maxHeartbeats 3000000 in
set_option maxRecDepth 20000 in
theorem rv_decls_t (E : Rw va.En) (r : Rw Dt) (w : World) (hV : ∀ t, va.valB E.l t = decide (0 < va.sizeT E.l t)) (hE : RsE w w.heap.size E) (hR : RsDs w w.heap.size r) :
    Calls Tryz.prog 97 #[.slice E.A E.l.length E.c, .slice r.A r.l.length r.c, .bool true] w (Bel (.int .i64 (errs (r.l.map (portE E.l)))) w) := by
  have KO : Hid (∀ y ∈ r.l, ∀ W, Below w.heap.size w W → Calls Tryz.prog 131 #[.slice E.A E.l.length E.c, dV y, .bool true] W (Bel (.int .i64 (portE E.l y)) W)) := Lib.hid fun y hy W h => rv_decl_t E y W hV (hE.blw h h.size) ((hR.blw h h.size).2 y hy)
  have h9 := hR.1.len
  unfold maxLen at h9
  have HR := Lib.hid hR.1
  clear hE hR hV
  obtain ⟨F, hF0, hFl, HF⟩ := errs_steps r.l (portE E.l)
  rw [← hF0]
  obtain ⟨V, hV⟩ : ∃ V, F 0 = V := ⟨_, rfl⟩
  have HV := Lib.hid hV
  have HL := Lib.hid hFl
  rw [hV]
  clear hF0 hFl hV
  go_enter Tryz.func97, Tryz.ntmps97
  go_wp2
  go_loopw [7] (fun i wr => ∃ k : Nat, k ≤ r.l.length ∧ i = .int .i64 (k : Int) ∧ Hid (F k = V) ∧ Below (w).heap.size (w) wr) (fun i _ => r.l.length - (intOf i).toNat)
  case atStart => exact ⟨0, by omega, rfl, HV, bl⟩
  case round =>
    obtain ⟨k, hk, rfl, hK, hbl⟩ := hrel
    obtain ⟨wr, rfl⟩ : ∃ wo : World, wo = wr := ⟨_, rfl⟩
    have hBW : Below w.heap.size w wr := bl
    by_cases hlt : k < r.l.length
    · obtain ⟨ad, y, hA, had, hy, hm, ⟨c0, c1, c2⟩⟩ := (HR.out.blw oneB_D hBW hBW.size).at_ hlt
      rw [hA]
      clear hA
      have hst := HF.out k y hy
      have KY := Lib.hid (KO.out y hm)
      clear hy hm HF
      generalize portE E.l y = v at *
      by_cases hv : v = 0
      · subst hv
        rw [orE0] at hst
        have hn : Hid (F (k + 1) = V) := Lib.hid (hst.symm.trans hK.out)
        clear hst hK
        go_wp2_with (go_at_call 131; (with_reducible refine (KY.out _ ?_).mono ?_); (exact bl); rintro e w5 ⟨rfl, hb5⟩)
        exact ⟨⟨k + 1, by omega, by congr 1, hn, bl⟩, by simp [intOf]; omega⟩
      · rw [orEn hv] at hst
        obtain rfl : v = V := hst.symm.trans hK.out
        have e0 : (v == 0) = false := by simp [hv]
        clear hst hK hv HV
        go_wp2_with (go_at_call 131; (with_reducible refine (KY.out _ ?_).mono ?_); (exact bl); rintro e w5 ⟨rfl, hb5⟩)
        go_ret
        exact ⟨rfl, bl⟩
    · obtain rfl : k = r.l.length := by omega
      have hE0 : V = 0 := hK.out.symm.trans HL.out
      subst hE0
      clear hK HF HV HL hlt
      go_wp2
      go_ret
      exact ⟨rfl, bl⟩
set_option maxHeartbeats 3000000 in
set_option maxRecDepth 20000 in
theorem rv_decls_f (E : Rw va.En) (r : Rw Dt) (w : World) (hV : ∀ t, va.valB E.l t = decide (0 < va.sizeT E.l t)) (hE : RsE w w.heap.size E) (hR : RsDs w w.heap.size r) :
    Calls Tryz.prog 97 #[.slice E.A E.l.length E.c, .slice r.A r.l.length r.c, .bool false] w (Bel (.int .i64 (errs (r.l.map (locE E.l)))) w) := by
  have KO : Hid (∀ y ∈ r.l, ∀ W, Below w.heap.size w W → Calls Tryz.prog 131 #[.slice E.A E.l.length E.c, dV y, .bool false] W (Bel (.int .i64 (locE E.l y)) W)) := Lib.hid fun y hy W h => rv_decl_f E y W hV (hE.blw h h.size) ((hR.blw h h.size).2 y hy)
  have h9 := hR.1.len
  unfold maxLen at h9
  have HR := Lib.hid hR.1
  clear hE hR hV
  obtain ⟨F, hF0, hFl, HF⟩ := errs_steps r.l (locE E.l)
  rw [← hF0]
  obtain ⟨V, hV⟩ : ∃ V, F 0 = V := ⟨_, rfl⟩
  have HV := Lib.hid hV
  have HL := Lib.hid hFl
  rw [hV]
  clear hF0 hFl hV
  go_enter Tryz.func97, Tryz.ntmps97
  go_wp2
  go_loopw [7] (fun i wr => ∃ k : Nat, k ≤ r.l.length ∧ i = .int .i64 (k : Int) ∧ Hid (F k = V) ∧ Below (w).heap.size (w) wr) (fun i _ => r.l.length - (intOf i).toNat)
  case atStart => exact ⟨0, by omega, rfl, HV, bl⟩
  case round =>
    obtain ⟨k, hk, rfl, hK, hbl⟩ := hrel
    obtain ⟨wr, rfl⟩ : ∃ wo : World, wo = wr := ⟨_, rfl⟩
    have hBW : Below w.heap.size w wr := bl
    by_cases hlt : k < r.l.length
    · obtain ⟨ad, y, hA, had, hy, hm, ⟨c0, c1, c2⟩⟩ := (HR.out.blw oneB_D hBW hBW.size).at_ hlt
      rw [hA]
      clear hA
      have hst := HF.out k y hy
      have KY := Lib.hid (KO.out y hm)
      clear hy hm HF
      generalize locE E.l y = v at *
      by_cases hv : v = 0
      · subst hv
        rw [orE0] at hst
        have hn : Hid (F (k + 1) = V) := Lib.hid (hst.symm.trans hK.out)
        clear hst hK
        go_wp2_with (go_at_call 131; (with_reducible refine (KY.out _ ?_).mono ?_); (exact bl); rintro e w5 ⟨rfl, hb5⟩)
        exact ⟨⟨k + 1, by omega, by congr 1, hn, bl⟩, by simp [intOf]; omega⟩
      · rw [orEn hv] at hst
        obtain rfl : v = V := hst.symm.trans hK.out
        have e0 : (v == 0) = false := by simp [hv]
        clear hst hK hv HV
        go_wp2_with (go_at_call 131; (with_reducible refine (KY.out _ ?_).mono ?_); (exact bl); rintro e w5 ⟨rfl, hb5⟩)
        go_ret
        exact ⟨rfl, bl⟩
    · obtain rfl : k = r.l.length := by omega
      have hE0 : V = 0 := hK.out.symm.trans HL.out
      subst hE0
      clear hK HF HV HL hlt
      go_wp2
      go_ret
      exact ⟨rfl, bl⟩
end Go.Proofs.YtoimjcfdiljkjaaGreatDoor
