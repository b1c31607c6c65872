/- Texts of one chain, in one file. -/
import Derived.Lib.QuietBelow
import Derived.Test.YtoimjcfdiljkjaaGreatDoorQI
/- node of the program. -/
namespace Go.Proofs.YtoimjcfdiljkjaaGreatDoor
set_option linter.unusedVariables false
set_option linter.unusedSimpArgs false
open Go.RowKit
theorem eqsE_steps (es : List va.En) (l : List Qt) : ∃ F : Nat → Option (Nat × Int), F 0 = eqsE es l ∧ F l.length = none ∧ Hid (∀ (k : Nat) (y : Qt), l[k]? = some y → F k = if eqnE es y = 0 then F (k + 1) else some (k, eqnE es y)) := by
  refine ⟨fun k => (eqsE es (l.drop k)).map fun p => (p.1 + k, p.2), by simp, by simp [eqsE], Lib.hid fun k y hy => ?_⟩
  obtain ⟨hk, rfl⟩ := List.getElem?_eq_some_iff.1 hy
  show (eqsE es (l.drop k)).map _ = _
  rw [List.drop_eq_getElem_cons hk, eqsE]
  split
  · rw [Option.map_map]
    congr 1
    funext p
    simp [Nat.add_assoc, Nat.add_comm 1 k]
  · simp
/-- what a node answers, by what is found first -/
noncomputable def nodR (es : List va.En) (n : Nt) : Option (Nat × Int) → Int × Int
  | some p => ((p.1 : Int), p.2)
  | none => (-1, talE es n)
theorem nodE_eq (es : List va.En) (n : Nt) : nodE es n = if hedE es n = 0 then nodR es n (eqsE es n.qs.l) else (-1, hedE es n) := by
  unfold nodE nodR
  split
  · cases eqsE es n.qs.l <;> rfl
  · rfl
set_option maxHeartbeats 4000000 in
set_option maxRecDepth 20000 in
theorem sh_node (E : Rw va.En) (n : Nt) (w : World) (hs : Std w) (hE : RsE w w.heap.size E) (hn : RsN w w.heap.size n) :
    Calls Tryz.prog 49 #[ckV E, nV n] w (Bel (.tuple #[.int .i64 (nodE E.l n).1, .int .i64 (nodE E.l n).2]) w) := by
  have KH := Lib.hid (fun W (h : Below w.heap.size w W) => sh_head E n W (hs.to h) (hE.blw h h.size) (hn.blw h h.size))
  obtain ⟨h1, h2, h3, h4, h5, h6, h7, h8⟩ := hn
  have h9 := h5.1.len
  unfold maxLen at h9
  have HQ := Lib.hid h5
  have KQ : Hid (∀ y ∈ n.qs.l, ∀ W, Below w.heap.size w W → Calls Tryz.prog 85 #[ckV E, qV y] W (Bel (.int .i64 (eqnE E.l y)) W)) := Lib.hid fun y hy W h => sh_equation E y W (hs.to h) (hE.blw h h.size) ((h5.blw h h.size).2 y hy)
  have KA := Lib.hid (fun W => sh_automaton E 0 W)
  have KFA : Hid (∀ p' q' W, Cap W p' (.int .i64 0) → Cap W q' (.slice E.A E.l.length E.c) → Below w.heap.size w W → Calls Tryz.prog 86 #[.slice n.au.A n.au.l.length n.au.c, .func (.func 121) #[] #[.pointer (some p'), .pointer (some q')]] W (Bel (.int .i64 (errs (n.au.l.map (autE E.l 3)))) W)) := Lib.hid fun p' q' W kp kq h =>
    first_Auto_automaton1 _ _ n.au (autE E.l 3) W ((h6.blw h h.size).1) (Lib.hid fun y hy W' h' => sh_aut1 3 (Nat.le_refl _) E y p' q' W' (hs.to (h.trans (h'.mono h.size))) (hE.blw (h.trans (h'.mono h.size)) (Nat.le_trans h.size h'.size)) ((h6.blw (h.trans (h'.mono h.size)) (Nat.le_trans h.size h'.size)).2 y hy) (kp.to h') (kq.to h'))
  have KX1 : Hid (∀ W, Below w.heap.size w W → Calls Tryz.prog 88 #[.slice n.asm.A n.asm.l.length n.asm.c, .func (.func 62) #[ckV E] #[]] W (Bel (.int .i64 (errs (n.asm.l.map (expE E.l)))) W)) := Lib.hid fun W h =>
    first_Expr_expr (ckV E) n.asm (expE E.l) W ((h7.blw h h.size).1) (Lib.hid fun y hy W' h' => sh_expr E y W' (hs.to (h.trans (h'.mono h.size))) (hE.blw (h.trans (h'.mono h.size)) (Nat.le_trans h.size h'.size)) ((h7.blw (h.trans (h'.mono h.size)) (Nat.le_trans h.size h'.size)).2 y hy))
  have KX2 : Hid (∀ W, Below w.heap.size w W → Calls Tryz.prog 88 #[.slice n.ens.A n.ens.l.length n.ens.c, .func (.func 62) #[ckV E] #[]] W (Bel (.int .i64 (errs (n.ens.l.map (expE E.l)))) W)) := Lib.hid fun W h =>
    first_Expr_expr (ckV E) n.ens (expE E.l) W ((h8.blw h h.size).1) (Lib.hid fun y hy W' h' => sh_expr E y W' (hs.to (h.trans (h'.mono h.size))) (hE.blw (h.trans (h'.mono h.size)) (Nat.le_trans h.size h'.size)) ((h8.blw (h.trans (h'.mono h.size)) (Nat.le_trans h.size h'.size)).2 y hy))
  have TB : Hid (∀ W, Below ((w.alloc (.cells #[.slice E.A E.l.length E.c] 103)).alloc (.cells #[.string n.nm, .slice n.ins.A n.ins.l.length n.ins.c, .slice n.outs.A n.outs.l.length n.outs.c, .slice n.locs.A n.locs.l.length n.locs.c, .slice n.qs.A n.qs.l.length n.qs.c, .slice n.au.A n.au.l.length n.au.c, .slice n.asm.A n.asm.l.length n.asm.c, .slice n.ens.A n.ens.l.length n.ens.c] 45)).heap.size ((w.alloc (.cells #[.slice E.A E.l.length E.c] 103)).alloc (.cells #[.string n.nm, .slice n.ins.A n.ins.l.length n.ins.c, .slice n.outs.A n.outs.l.length n.outs.c, .slice n.locs.A n.locs.l.length n.locs.c, .slice n.qs.A n.qs.l.length n.qs.c, .slice n.au.A n.au.l.length n.au.c, .slice n.asm.A n.asm.l.length n.asm.c, .slice n.ens.A n.ens.l.length n.ens.c] 45)) W → W.cell? ⟨w.heap.size, 0, none⟩ = some (.slice E.A E.l.length E.c) ∧ W.cell? ⟨w.heap.size + 1, 0, none⟩ = some (.string n.nm) ∧ W.cell? ⟨w.heap.size + 1, 1, none⟩ = some (.slice n.ins.A n.ins.l.length n.ins.c) ∧ W.cell? ⟨w.heap.size + 1, 2, none⟩ = some (.slice n.outs.A n.outs.l.length n.outs.c) ∧ W.cell? ⟨w.heap.size + 1, 3, none⟩ = some (.slice n.locs.A n.locs.l.length n.locs.c) ∧ W.cell? ⟨w.heap.size + 1, 4, none⟩ = some (.slice n.qs.A n.qs.l.length n.qs.c) ∧ W.cell? ⟨w.heap.size + 1, 5, none⟩ = some (.slice n.au.A n.au.l.length n.au.c) ∧ W.cell? ⟨w.heap.size + 1, 6, none⟩ = some (.slice n.asm.A n.asm.l.length n.asm.c) ∧ W.cell? ⟨w.heap.size + 1, 7, none⟩ = some (.slice n.ens.A n.ens.l.length n.ens.c)) := Lib.hid fun W h => by
    obtain ⟨g0, g1, g2, g3, g4, g5, g6, g7, g8, _⟩ := B2N E n h
    exact ⟨g0, g1, g2, g3, g4, g5, g6, g7, g8⟩
  rw [nodE_eq]
  obtain ⟨F, hF0, hFl, HF⟩ := eqsE_steps E.l n.qs.l
  rw [← hF0]
  have HR : Hid (∀ p, nodR E.l n (some p) = ((p.1 : Int), p.2)) := Lib.hid fun p => rfl
  have HRn : Hid (nodR E.l n none = (-1, orE (errs (n.au.l.map (autE E.l 3))) (orE (errs (n.asm.l.map (expE E.l))) (errs (n.ens.l.map (expE E.l)))))) := Lib.hid rfl
  generalize errs (n.au.l.map (autE E.l 3)) = t1 at *
  generalize errs (n.asm.l.map (expE E.l)) = t2 at *
  generalize errs (n.ens.l.map (expE E.l)) = t3 at *
  generalize hedE E.l n = hv at *
  clear hs hE h1 h2 h3 h4 h5 h6 h7 h8
  by_cases hz : hv = 0
  · subst hz
    rw [if_pos rfl]
    obtain ⟨V, hV⟩ : ∃ V, nodR E.l n (F 0) = V := ⟨_, rfl⟩
    have HV := Lib.hid hV
    have HL := Lib.hid hFl
    rw [hV]
    clear hV hF0 hFl
    go_enter Tryz.func49, Tryz.ntmps49
    go_wp2_with (go_at_call 84; (with_reducible refine (KH.out _ ?_).mono ?_); (focus ((repeat (first | (with_reducible exact Below.refl _ _) | (with_reducible assumption) | (with_reducible exact bel_box _) | (with_reducible refine bel_step ?_ (by with_reducible assumption)) | (with_reducible refine Below.drew ?_) | (with_reducible refine below_drewN ?_ _) | (with_reducible refine bel_alloc ?_ _))); done)); rintro e w1 ⟨rfl, hb1⟩; obtain ⟨g0, g1, g2, g3, g4, g5, g6, g7, g8⟩ := TB.out w1 (by repeat (first | (with_reducible exact Below.refl _ _) | (with_reducible assumption) | (with_reducible exact bel_box _) | (with_reducible refine bel_step ?_ (by with_reducible assumption)) | (with_reducible refine Below.drew ?_) | (with_reducible refine below_drewN ?_ _) | (with_reducible refine bel_alloc ?_ _))))
    go_loopw [21] (fun i wr => ∃ k : Nat, k ≤ n.qs.l.length ∧ i = .int .i64 (k : Int) ∧ Hid (nodR E.l n (F k) = V) ∧ Below ((w.alloc (.cells #[.slice E.A E.l.length E.c] 103)).alloc (.cells #[.string n.nm, .slice n.ins.A n.ins.l.length n.ins.c, .slice n.outs.A n.outs.l.length n.outs.c, .slice n.locs.A n.locs.l.length n.locs.c, .slice n.qs.A n.qs.l.length n.qs.c, .slice n.au.A n.au.l.length n.au.c, .slice n.asm.A n.asm.l.length n.asm.c, .slice n.ens.A n.ens.l.length n.ens.c] 45)).heap.size ((w.alloc (.cells #[.slice E.A E.l.length E.c] 103)).alloc (.cells #[.string n.nm, .slice n.ins.A n.ins.l.length n.ins.c, .slice n.outs.A n.outs.l.length n.outs.c, .slice n.locs.A n.locs.l.length n.locs.c, .slice n.qs.A n.qs.l.length n.qs.c, .slice n.au.A n.au.l.length n.au.c, .slice n.asm.A n.asm.l.length n.asm.c, .slice n.ens.A n.ens.l.length n.ens.c] 45)) wr) (fun i _ => n.qs.l.length - (intOf i).toNat)
    case atStart => exact ⟨0, by omega, rfl, HV, (by repeat (first | (with_reducible exact Below.refl _ _) | (with_reducible assumption) | (with_reducible exact bel_box _) | (with_reducible refine bel_step ?_ (by with_reducible assumption)) | (with_reducible refine Below.drew ?_) | (with_reducible refine below_drewN ?_ _) | (with_reducible refine bel_alloc ?_ _)))⟩
    case round =>
      obtain ⟨k, hk, rfl, hK, hbl⟩ := hrel
      have hBW : Below w.heap.size w wr := (bel_alloc (bel_box _) _).trans (hbl.mono (by simp only [World.size_alloc]; omega))
      obtain ⟨g0, g1, g2, g3, g4, g5, g6, g7, g8⟩ := TB.out wr hbl
      have a0 := fun o => cell_al o g0
      by_cases hlt : k < n.qs.l.length
      · obtain ⟨ad, y, hA, had, hy, hm, ⟨c0, c1, c2, c3, c4, c5, c6⟩⟩ := ((HQ.out.blw hBW hBW.size).1).at_ hlt
        have HG := Lib.hid g5
        rw [hA] at g5 hbl ⊢
        clear hA
        have hst := HF.out k y hy
        have KY := Lib.hid (KQ.out y hm)
        clear hy hm HF
        generalize eqnE E.l y = v at *
        by_cases hv : v = 0
        · subst hv
          rw [if_pos rfl] at hst
          have hn' : Hid (nodR E.l n (F (k + 1)) = V) := Lib.hid (by rw [← hst]; exact hK.out)
          clear hst hK
          go_wp2_with (go_at_call 85; (with_reducible refine (KY.out _ ?_).mono ?_); (focus ((repeat (first | (with_reducible exact Below.refl _ _) | (with_reducible assumption) | (with_reducible exact bel_box _) | (with_reducible refine bel_step ?_ (by with_reducible assumption)) | (with_reducible refine Below.drew ?_) | (with_reducible refine below_drewN ?_ _) | (with_reducible refine bel_alloc ?_ _))); done)); rintro e w2 ⟨rfl, hb2⟩)
          exact ⟨⟨k + 1, by omega, by congr 1, hn', (by repeat (first | (with_reducible exact Below.refl _ _) | (with_reducible assumption) | (with_reducible exact bel_box _) | (with_reducible refine bel_step ?_ (by with_reducible assumption)) | (with_reducible refine Below.drew ?_) | (with_reducible refine below_drewN ?_ _) | (with_reducible refine bel_alloc ?_ _)))⟩, by simp [intOf]; omega⟩
        · rw [if_neg hv] at hst
          have hv2 : V = ((k : Int), v) := by rw [← hK.out, hst, HR.out]
          have e0 : (v == 0) = false := by simp [hv]
          subst hv2
          clear hst hK hv HV
          go_wp2_with (go_at_call 85; (with_reducible refine (KY.out _ ?_).mono ?_); (focus ((repeat (first | (with_reducible exact Below.refl _ _) | (with_reducible assumption) | (with_reducible exact bel_box _) | (with_reducible refine bel_step ?_ (by with_reducible assumption)) | (with_reducible refine Below.drew ?_) | (with_reducible refine below_drewN ?_ _) | (with_reducible refine bel_alloc ?_ _))); done)); rintro e w2 ⟨rfl, hb2⟩)
          refine bodyPost_ret (v := .tuple #[.int .i64 (k), .int .i64 (v)]) (by simp [results, Tryz.results49, go_sem]) rfl ?_
          exact ⟨(by first | rfl | (simp [orE, H1.out]; done) | (simp [orE, H2.out]; done)), (by repeat (first | (with_reducible exact Below.refl _ _) | (with_reducible assumption) | (with_reducible exact bel_box _) | (with_reducible refine bel_step ?_ (by with_reducible assumption)) | (with_reducible refine Below.drew ?_) | (with_reducible refine below_drewN ?_ _) | (with_reducible refine bel_alloc ?_ _)))⟩
      · obtain rfl : k = n.qs.l.length := by omega
        have hv2 : V = (-1, orE t1 (orE t2 t3)) := by rw [← hK.out, HL.out, HRn.out]
        subst hv2
        clear hK HF HV HL
        by_cases y1 : t1 = 0
        · subst y1
          rw [orE0]
          by_cases y2 : t2 = 0
          · subst y2
            rw [orE0]
            go_wp2
            go_region_held3 (fun w' => w'.cell? ⟨w.heap.size, 0, none⟩ = some (.slice E.A E.l.length E.c) ∧ w'.cell? ⟨w.heap.size + 1, 0, none⟩ = some (.string n.nm) ∧ w'.cell? ⟨w.heap.size + 1, 1, none⟩ = some (.slice n.ins.A n.ins.l.length n.ins.c) ∧ w'.cell? ⟨w.heap.size + 1, 2, none⟩ = some (.slice n.outs.A n.outs.l.length n.outs.c) ∧ w'.cell? ⟨w.heap.size + 1, 3, none⟩ = some (.slice n.locs.A n.locs.l.length n.locs.c) ∧ w'.cell? ⟨w.heap.size + 1, 4, none⟩ = some (.slice n.qs.A n.qs.l.length n.qs.c) ∧ w'.cell? ⟨w.heap.size + 1, 5, none⟩ = some (.slice n.au.A n.au.l.length n.au.c) ∧ w'.cell? ⟨w.heap.size + 1, 6, none⟩ = some (.slice n.asm.A n.asm.l.length n.asm.c) ∧ w'.cell? ⟨w.heap.size + 1, 7, none⟩ = some (.slice n.ens.A n.ens.l.length n.ens.c))
              ((refine TB.out _ ?_; (focus ((repeat (first | (with_reducible exact Below.refl _ _) | (with_reducible assumption) | (with_reducible exact bel_box _) | (with_reducible refine bel_step ?_ (by with_reducible assumption)) | (with_reducible refine Below.drew ?_) | (with_reducible refine below_drewN ?_ _) | (with_reducible refine bel_alloc ?_ _))); done))))
              (first | (go_at_call 87; (with_reducible refine (KA.out _).mono ?_); rintro e w3 ⟨p3, q3, rfl, hp3, hq3, hb3⟩) | (go_at_call 86; (with_reducible refine (KFA.out _ _ _ hp3 hq3 ?_).mono ?_); (focus ((repeat (first | (with_reducible exact Below.refl _ _) | (with_reducible assumption) | (with_reducible exact bel_box _) | (with_reducible refine bel_step ?_ (by with_reducible assumption)) | (with_reducible refine Below.drew ?_) | (with_reducible refine below_drewN ?_ _) | (with_reducible refine bel_alloc ?_ _))); done)); rintro e w4 ⟨rfl, hb4⟩; obtain ⟨g0, g1, g2, g3, g4, g5, g6, g7, g8⟩ := TB.out w4 (by repeat (first | (with_reducible exact Below.refl _ _) | (with_reducible assumption) | (with_reducible exact bel_box _) | (with_reducible refine bel_step ?_ (by with_reducible assumption)) | (with_reducible refine Below.drew ?_) | (with_reducible refine below_drewN ?_ _) | (with_reducible refine bel_alloc ?_ _)))))
            all_goals
              go_wp2_with (first | (go_at_call 88; (with_reducible refine (KX1.out _ ?_).mono ?_); (focus ((repeat (first | (with_reducible exact Below.refl _ _) | (with_reducible assumption) | (with_reducible exact bel_box _) | (with_reducible refine bel_step ?_ (by with_reducible assumption)) | (with_reducible refine Below.drew ?_) | (with_reducible refine below_drewN ?_ _) | (with_reducible refine bel_alloc ?_ _))); done)); rintro e w5 ⟨rfl, hb5⟩; obtain ⟨g0, g1, g2, g3, g4, g5, g6, g7, g8⟩ := TB.out w5 (by repeat (first | (with_reducible exact Below.refl _ _) | (with_reducible assumption) | (with_reducible exact bel_box _) | (with_reducible refine bel_step ?_ (by with_reducible assumption)) | (with_reducible refine Below.drew ?_) | (with_reducible refine below_drewN ?_ _) | (with_reducible refine bel_alloc ?_ _)))) | (go_at_call 88; (with_reducible refine (KX2.out _ ?_).mono ?_); (focus ((repeat (first | (with_reducible exact Below.refl _ _) | (with_reducible assumption) | (with_reducible exact bel_box _) | (with_reducible refine bel_step ?_ (by with_reducible assumption)) | (with_reducible refine Below.drew ?_) | (with_reducible refine below_drewN ?_ _) | (with_reducible refine bel_alloc ?_ _))); done)); rintro e w6 ⟨rfl, hb6⟩; obtain ⟨g0, g1, g2, g3, g4, g5, g6, g7, g8⟩ := TB.out w6 (by repeat (first | (with_reducible exact Below.refl _ _) | (with_reducible assumption) | (with_reducible exact bel_box _) | (with_reducible refine bel_step ?_ (by with_reducible assumption)) | (with_reducible refine Below.drew ?_) | (with_reducible refine below_drewN ?_ _) | (with_reducible refine bel_alloc ?_ _)))))
              refine bodyPost_ret (v := .tuple #[.int .i64 (-1), .int .i64 (t3)]) (by simp [results, Tryz.results49, go_sem]) rfl ?_
              exact ⟨(by first | rfl | (simp [orE, H1.out]; done) | (simp [orE, H2.out]; done)), (by repeat (first | (with_reducible exact Below.refl _ _) | (with_reducible assumption) | (with_reducible exact bel_box _) | (with_reducible refine bel_step ?_ (by with_reducible assumption)) | (with_reducible refine Below.drew ?_) | (with_reducible refine below_drewN ?_ _) | (with_reducible refine bel_alloc ?_ _)))⟩
          · have z2 : (t2 == 0) = false := by simp [y2]
            have H2 := Lib.hid y2
            try rw [orEn y2]
            clear y2
            go_wp2
            go_region_held3 (fun w' => w'.cell? ⟨w.heap.size, 0, none⟩ = some (.slice E.A E.l.length E.c) ∧ w'.cell? ⟨w.heap.size + 1, 0, none⟩ = some (.string n.nm) ∧ w'.cell? ⟨w.heap.size + 1, 1, none⟩ = some (.slice n.ins.A n.ins.l.length n.ins.c) ∧ w'.cell? ⟨w.heap.size + 1, 2, none⟩ = some (.slice n.outs.A n.outs.l.length n.outs.c) ∧ w'.cell? ⟨w.heap.size + 1, 3, none⟩ = some (.slice n.locs.A n.locs.l.length n.locs.c) ∧ w'.cell? ⟨w.heap.size + 1, 4, none⟩ = some (.slice n.qs.A n.qs.l.length n.qs.c) ∧ w'.cell? ⟨w.heap.size + 1, 5, none⟩ = some (.slice n.au.A n.au.l.length n.au.c) ∧ w'.cell? ⟨w.heap.size + 1, 6, none⟩ = some (.slice n.asm.A n.asm.l.length n.asm.c) ∧ w'.cell? ⟨w.heap.size + 1, 7, none⟩ = some (.slice n.ens.A n.ens.l.length n.ens.c))
              ((refine TB.out _ ?_; (focus ((repeat (first | (with_reducible exact Below.refl _ _) | (with_reducible assumption) | (with_reducible exact bel_box _) | (with_reducible refine bel_step ?_ (by with_reducible assumption)) | (with_reducible refine Below.drew ?_) | (with_reducible refine below_drewN ?_ _) | (with_reducible refine bel_alloc ?_ _))); done))))
              (first | (go_at_call 87; (with_reducible refine (KA.out _).mono ?_); rintro e w3 ⟨p3, q3, rfl, hp3, hq3, hb3⟩) | (go_at_call 86; (with_reducible refine (KFA.out _ _ _ hp3 hq3 ?_).mono ?_); (focus ((repeat (first | (with_reducible exact Below.refl _ _) | (with_reducible assumption) | (with_reducible exact bel_box _) | (with_reducible refine bel_step ?_ (by with_reducible assumption)) | (with_reducible refine Below.drew ?_) | (with_reducible refine below_drewN ?_ _) | (with_reducible refine bel_alloc ?_ _))); done)); rintro e w4 ⟨rfl, hb4⟩; obtain ⟨g0, g1, g2, g3, g4, g5, g6, g7, g8⟩ := TB.out w4 (by repeat (first | (with_reducible exact Below.refl _ _) | (with_reducible assumption) | (with_reducible exact bel_box _) | (with_reducible refine bel_step ?_ (by with_reducible assumption)) | (with_reducible refine Below.drew ?_) | (with_reducible refine below_drewN ?_ _) | (with_reducible refine bel_alloc ?_ _)))))
            all_goals
              go_wp2_with (go_at_call 88; (with_reducible refine (KX1.out _ ?_).mono ?_); (focus ((repeat (first | (with_reducible exact Below.refl _ _) | (with_reducible assumption) | (with_reducible exact bel_box _) | (with_reducible refine bel_step ?_ (by with_reducible assumption)) | (with_reducible refine Below.drew ?_) | (with_reducible refine below_drewN ?_ _) | (with_reducible refine bel_alloc ?_ _))); done)); rintro e w5 ⟨rfl, hb5⟩; obtain ⟨g0, g1, g2, g3, g4, g5, g6, g7, g8⟩ := TB.out w5 (by repeat (first | (with_reducible exact Below.refl _ _) | (with_reducible assumption) | (with_reducible exact bel_box _) | (with_reducible refine bel_step ?_ (by with_reducible assumption)) | (with_reducible refine Below.drew ?_) | (with_reducible refine below_drewN ?_ _) | (with_reducible refine bel_alloc ?_ _))))
              refine bodyPost_ret (v := .tuple #[.int .i64 (-1), .int .i64 (t2)]) (by simp [results, Tryz.results49, go_sem]) rfl ?_
              exact ⟨(by first | rfl | (simp [orE, H1.out]; done) | (simp [orE, H2.out]; done)), (by repeat (first | (with_reducible exact Below.refl _ _) | (with_reducible assumption) | (with_reducible exact bel_box _) | (with_reducible refine bel_step ?_ (by with_reducible assumption)) | (with_reducible refine Below.drew ?_) | (with_reducible refine below_drewN ?_ _) | (with_reducible refine bel_alloc ?_ _)))⟩
        · have z1 : (t1 == 0) = false := by simp [y1]
          have H1 := Lib.hid y1
          try rw [orEn y1]
          clear y1
          go_wp2
          go_region_held3 (fun w' => w'.cell? ⟨w.heap.size, 0, none⟩ = some (.slice E.A E.l.length E.c) ∧ w'.cell? ⟨w.heap.size + 1, 0, none⟩ = some (.string n.nm) ∧ w'.cell? ⟨w.heap.size + 1, 1, none⟩ = some (.slice n.ins.A n.ins.l.length n.ins.c) ∧ w'.cell? ⟨w.heap.size + 1, 2, none⟩ = some (.slice n.outs.A n.outs.l.length n.outs.c) ∧ w'.cell? ⟨w.heap.size + 1, 3, none⟩ = some (.slice n.locs.A n.locs.l.length n.locs.c) ∧ w'.cell? ⟨w.heap.size + 1, 4, none⟩ = some (.slice n.qs.A n.qs.l.length n.qs.c) ∧ w'.cell? ⟨w.heap.size + 1, 5, none⟩ = some (.slice n.au.A n.au.l.length n.au.c) ∧ w'.cell? ⟨w.heap.size + 1, 6, none⟩ = some (.slice n.asm.A n.asm.l.length n.asm.c) ∧ w'.cell? ⟨w.heap.size + 1, 7, none⟩ = some (.slice n.ens.A n.ens.l.length n.ens.c))
            ((refine TB.out _ ?_; (focus ((repeat (first | (with_reducible exact Below.refl _ _) | (with_reducible assumption) | (with_reducible exact bel_box _) | (with_reducible refine bel_step ?_ (by with_reducible assumption)) | (with_reducible refine Below.drew ?_) | (with_reducible refine below_drewN ?_ _) | (with_reducible refine bel_alloc ?_ _))); done))))
            (first | (go_at_call 87; (with_reducible refine (KA.out _).mono ?_); rintro e w3 ⟨p3, q3, rfl, hp3, hq3, hb3⟩) | (go_at_call 86; (with_reducible refine (KFA.out _ _ _ hp3 hq3 ?_).mono ?_); (focus ((repeat (first | (with_reducible exact Below.refl _ _) | (with_reducible assumption) | (with_reducible exact bel_box _) | (with_reducible refine bel_step ?_ (by with_reducible assumption)) | (with_reducible refine Below.drew ?_) | (with_reducible refine below_drewN ?_ _) | (with_reducible refine bel_alloc ?_ _))); done)); rintro e w4 ⟨rfl, hb4⟩; obtain ⟨g0, g1, g2, g3, g4, g5, g6, g7, g8⟩ := TB.out w4 (by repeat (first | (with_reducible exact Below.refl _ _) | (with_reducible assumption) | (with_reducible exact bel_box _) | (with_reducible refine bel_step ?_ (by with_reducible assumption)) | (with_reducible refine Below.drew ?_) | (with_reducible refine below_drewN ?_ _) | (with_reducible refine bel_alloc ?_ _)))))
          all_goals
            go_wp2
            refine bodyPost_ret (v := .tuple #[.int .i64 (-1), .int .i64 (t1)]) (by simp [results, Tryz.results49, go_sem]) rfl ?_
            exact ⟨(by first | rfl | (simp [orE, H1.out]; done) | (simp [orE, H2.out]; done)), (by repeat (first | (with_reducible exact Below.refl _ _) | (with_reducible assumption) | (with_reducible exact bel_box _) | (with_reducible refine bel_step ?_ (by with_reducible assumption)) | (with_reducible refine Below.drew ?_) | (with_reducible refine below_drewN ?_ _) | (with_reducible refine bel_alloc ?_ _)))⟩
  · have z0 : (hv == 0) = false := by simp [hz]
    rw [if_neg hz]
    clear hz
    go_enter Tryz.func49, Tryz.ntmps49
    go_wp2_with (go_at_call 84; (with_reducible refine (KH.out _ ?_).mono ?_); (focus ((repeat (first | (with_reducible exact Below.refl _ _) | (with_reducible assumption) | (with_reducible exact bel_box _) | (with_reducible refine bel_step ?_ (by with_reducible assumption)) | (with_reducible refine Below.drew ?_) | (with_reducible refine below_drewN ?_ _) | (with_reducible refine bel_alloc ?_ _))); done)); rintro e w1 ⟨rfl, hb1⟩; obtain ⟨g0, g1, g2, g3, g4, g5, g6, g7, g8⟩ := TB.out w1 (by repeat (first | (with_reducible exact Below.refl _ _) | (with_reducible assumption) | (with_reducible exact bel_box _) | (with_reducible refine bel_step ?_ (by with_reducible assumption)) | (with_reducible refine Below.drew ?_) | (with_reducible refine below_drewN ?_ _) | (with_reducible refine bel_alloc ?_ _))))
    refine bodyPost_ret (v := .tuple #[.int .i64 (-1), .int .i64 (hv)]) (by simp [results, Tryz.results49, go_sem]) rfl ?_
    exact ⟨(by first | rfl | (simp [orE, H1.out]; done) | (simp [orE, H2.out]; done)), (by repeat (first | (with_reducible exact Below.refl _ _) | (with_reducible assumption) | (with_reducible exact bel_box _) | (with_reducible refine bel_step ?_ (by with_reducible assumption)) | (with_reducible refine Below.drew ?_) | (with_reducible refine below_drewN ?_ _) | (with_reducible refine bel_alloc ?_ _)))⟩
end Go.Proofs.YtoimjcfdiljkjaaGreatDoor
/- Check, Expr of the program. -/
namespace Go.Proofs.YtoimjcfdiljkjaaGreatDoor
set_option linter.unusedVariables false
set_option linter.unusedSimpArgs false
open Go.RowKit
theorem set2w_cells {W : World} {b : Nat} {u v : Value} (h0 : W.cell? ⟨b, 0, none⟩ = some u) (h1 : W.cell? ⟨b, 1, none⟩ = some v) (x0 x1 : Value) :
    ((W.setCell ⟨b, 0, none⟩ x0).setCell ⟨b, 1, none⟩ x1).cell? ⟨b, 0, none⟩ = some x0 ∧ ((W.setCell ⟨b, 0, none⟩ x0).setCell ⟨b, 1, none⟩ x1).cell? ⟨b, 1, none⟩ = some x1 := by
  refine ⟨?_, ?_⟩
  · rw [World.cell?_setCell_other _ _ _ _ (by simp)]; exact World.cell?_setCell_same _ _ _ h0
  · exact World.cell?_setCell_same _ _ _ (by rw [World.cell?_setCell_other _ _ _ _ (by simp)]; exact h1)
theorem bel_set2w {w W : World} (h : Below w.heap.size w W) {b : Nat} (hb : w.heap.size ≤ b) (x y : Value) : Below w.heap.size w ((W.setCell ⟨b, 0, none⟩ x).setCell ⟨b, 1, none⟩ y) :=
  (h.setCell (p := ⟨b, 0, none⟩) hb _).setCell (p := ⟨b, 1, none⟩) hb _
/-- the first node with an error -/
noncomputable def ndsE (es : List va.En) : List Nt → Option (Nat × (Int × Int))
  | [] => none
  | n :: l => if (nodE es n).2 = 0 then (ndsE es l).map (fun q => (q.1 + 1, q.2)) else some (0, nodE es n)
theorem ndsE_steps (es : List va.En) (l : List Nt) : ∃ F : Nat → Option (Nat × (Int × Int)), F 0 = ndsE es l ∧ F l.length = none ∧ Hid (∀ (k : Nat) (y : Nt), l[k]? = some y → F k = if (nodE es y).2 = 0 then F (k + 1) else some (k, nodE es y)) := by
  refine ⟨fun k => (ndsE es (l.drop k)).map fun p => (p.1 + k, p.2), by simp, by simp [ndsE], Lib.hid fun k y hy => ?_⟩
  obtain ⟨hk, rfl⟩ := List.getElem?_eq_some_iff.1 hy
  show (ndsE es (l.drop k)).map _ = _
  rw [List.drop_eq_getElem_cons hk, ndsE]
  split
  · rw [Option.map_map]
    congr 1
    funext p
    simp [Nat.add_assoc, Nat.add_comm 1 k]
  · simp
/-- the place and the error -/
def wheR : Option (Nat × (Int × Int)) → (Int × Int) × Int
  | some q => (((q.1 : Int), q.2.1), q.2.2)
  | none => ((0, 0), 0)
noncomputable def chkE (p : Pt) : (Int × Int) × Int :=
  if 24 < p.es.l.length ∨ 96 < p.ns.l.length then ((-1, -1), 3) else if errs (p.es.l.map enumE) = 0 then wheR (ndsE p.es.l p.ns.l) else ((-1, -1), errs (p.es.l.map enumE))
set_option maxHeartbeats 4000000 in
set_option maxRecDepth 20000 in
theorem sh_check (p : Pt) (w : World) (hs : Std w) (hp : RsP w w.heap.size p) :
    Calls Tryz.prog 22 #[pV p] w (Bel (.tuple #[.agg #[.int .i64 (chkE p).1.1, .int .i64 (chkE p).1.2], .int .i64 (chkE p).2]) w) := by
  obtain ⟨hE, hN⟩ := hp
  have HN : Hid (RsP w w.heap.size p) := Lib.hid ⟨hE, hN⟩
  have h9 := hN.1.len
  unfold maxLen at h9
  have KF : Hid (∀ W, Below w.heap.size w W → Calls Tryz.prog 47 #[.slice p.es.A p.es.l.length p.es.c, .func (.func 48) #[] #[]] W (Bel (.int .i64 (errs (p.es.l.map enumE))) W)) := Lib.hid fun W h =>
    first_Enum_checkEnum p.es.A p.es.c p.es.l enumE W ((hE.blw h h.size).1) (by have := hE.2.1.1; unfold maxLen at this; omega) (Lib.hid fun y hy W' h' => by
      have hE' := hE.blw (h.trans (h'.mono h.size)) (Nat.le_trans h.size h'.size)
      obtain ⟨i, hi⟩ := List.getElem?_of_mem hy
      exact sh_enum y W' (hs.to (h.trans (h'.mono h.size))) (hE'.1.2 i y hi) (hE.2.2 y hy).1 (hE.2.2 y hy).2.1 (hE.2.2 y hy).2.2)
  have KN : Hid (∀ y ∈ p.ns.l, ∀ W, Below w.heap.size w W → Calls Tryz.prog 49 #[ckV p.es, nV y] W (Bel (.tuple #[.int .i64 (nodE p.es.l y).1, .int .i64 (nodE p.es.l y).2]) W)) := Lib.hid fun y hy W h =>
    sh_node p.es y W (hs.to h) (hE.blw h h.size) ((hN.2 y hy).blw h h.size)
  have TB : Hid (∀ W, Below (((w.alloc (.cells #[.slice p.es.A p.es.l.length p.es.c, .slice p.ns.A p.ns.l.length p.ns.c] 25)).alloc (.cells #[.int .i64 0, .int .i64 0] 59)).alloc (.cells #[.int .i64 (-1), .int .i64 (-1)] 59)).heap.size (((w.alloc (.cells #[.slice p.es.A p.es.l.length p.es.c, .slice p.ns.A p.ns.l.length p.ns.c] 25)).alloc (.cells #[.int .i64 0, .int .i64 0] 59)).alloc (.cells #[.int .i64 (-1), .int .i64 (-1)] 59)) W → (W.cell? ⟨w.heap.size, 0, none⟩ = some (.slice p.es.A p.es.l.length p.es.c) ∧ W.cell? ⟨w.heap.size, 1, none⟩ = some (.slice p.ns.A p.ns.l.length p.ns.c) ∧ W.cell? ⟨w.heap.size + 1, 0, none⟩ = some (.int .i64 0) ∧ W.cell? ⟨w.heap.size + 1, 1, none⟩ = some (.int .i64 0) ∧ W.frozen? ⟨w.heap.size + 1, 0, none⟩ = false ∧ W.frozen? ⟨w.heap.size + 1, 1, none⟩ = false ∧ W.cell? ⟨w.heap.size + 1 + 1, 0, none⟩ = some (.int .i64 (-1)) ∧ W.cell? ⟨w.heap.size + 1 + 1, 1, none⟩ = some (.int .i64 (-1)) ∧ w.heap.size + 1 + 1 < W.heap.size)) := Lib.hid fun W h => by
    have hz : (((w.alloc (.cells #[.slice p.es.A p.es.l.length p.es.c, .slice p.ns.A p.ns.l.length p.ns.c] 25)).alloc (.cells #[.int .i64 0, .int .i64 0] 59)).alloc (.cells #[.int .i64 (-1), .int .i64 (-1)] 59)).heap.size = w.heap.size + 1 + 1 + 1 := by simp only [World.size_alloc]
    have hsz := h.size
    rw [hz] at hsz
    have hc : ∀ q : Addr, q.block < w.heap.size + 1 + 1 + 1 → W.cell? q = _ := fun q hq => h.cell (by rw [hz]; exact hq)
    have hf : ∀ q : Addr, q.block < w.heap.size + 1 + 1 + 1 → W.frozen? q = _ := fun q hq => h.frozen (by rw [hz]; exact hq)
    refine ⟨?_, ?_, ?_, ?_, ?_, ?_, ?_, ?_, by omega⟩
    all_goals (first | (rw [hc _ (by first | omega | (simp; done) | (simp; omega))]; simp [go_sem]; done) | (rw [hf _ (by first | omega | (simp; done) | (simp; omega))]; simp [go_sem]; done))
  unfold chkE
  obtain ⟨F, hF0, hFl, HF⟩ := ndsE_steps p.es.l p.ns.l
  rw [← hF0]
  have HR : Hid (∀ q, wheR (some q) = (((q.1 : Int), q.2.1), q.2.2)) := Lib.hid fun q => rfl
  have HRn : Hid (wheR none = ((0, 0), 0)) := Lib.hid rfl
  generalize errs (p.es.l.map enumE) = u at *
  clear hs hE hN
  by_cases z0 : 24 < p.es.l.length
  · have q0 : (24 : Int) < (p.es.l.length : Int) := by omega
    rw [if_pos (.inl z0)]
    clear z0
    go_enter Tryz.func22, Tryz.ntmps22
    go_wp2
    refine bodyPost_ret (v := .tuple #[.agg #[.int .i64 (-1), .int .i64 (-1)], .int .i64 (3)]) (by simp [results, Tryz.results22, go_sem]) rfl ?_
    exact ⟨rfl, (by repeat (first | (with_reducible exact Below.refl _ _) | (with_reducible assumption) | (with_reducible exact bel_box _) | (with_reducible refine bel_step ?_ (by with_reducible assumption)) | (with_reducible refine Below.drew ?_) | (with_reducible refine below_drewN ?_ _) | (with_reducible refine bel_alloc ?_ _)))⟩
  have q0 : (p.es.l.length : Int) ≤ (24 : Int) := by omega
  by_cases z1 : 96 < p.ns.l.length
  · have q1 : (96 : Int) < (p.ns.l.length : Int) := by omega
    rw [if_pos (.inr z1)]
    clear z0 z1
    go_enter Tryz.func22, Tryz.ntmps22
    go_wp2
    refine bodyPost_ret (v := .tuple #[.agg #[.int .i64 (-1), .int .i64 (-1)], .int .i64 (3)]) (by simp [results, Tryz.results22, go_sem]) rfl ?_
    exact ⟨rfl, (by repeat (first | (with_reducible exact Below.refl _ _) | (with_reducible assumption) | (with_reducible exact bel_box _) | (with_reducible refine bel_step ?_ (by with_reducible assumption)) | (with_reducible refine Below.drew ?_) | (with_reducible refine below_drewN ?_ _) | (with_reducible refine bel_alloc ?_ _)))⟩
  have q1 : (p.ns.l.length : Int) ≤ (96 : Int) := by omega
  rw [if_neg (by omega)]
  clear z0 z1
  by_cases hz : u = 0
  · subst hz
    rw [if_pos rfl]
    obtain ⟨V, hV⟩ : ∃ V, wheR (F 0) = V := ⟨_, rfl⟩
    have HV := Lib.hid hV
    have HL := Lib.hid hFl
    rw [hV]
    clear hV hF0 hFl
    go_enter Tryz.func22, Tryz.ntmps22
    go_wp2_with (go_at_call 47; (with_reducible refine (KF.out _ ?_).mono ?_); (focus ((repeat (first | (with_reducible exact Below.refl _ _) | (with_reducible assumption) | (with_reducible exact bel_box _) | (with_reducible refine bel_step ?_ (by with_reducible assumption)) | (with_reducible refine Below.drew ?_) | (with_reducible refine below_drewN ?_ _) | (with_reducible refine bel_alloc ?_ _))); done)); rintro e w1 ⟨rfl, hb1⟩; obtain ⟨g0, g1, g2, g3, g4, g5, g6, g7, g8⟩ := TB.out w1 (by repeat (first | (with_reducible exact Below.refl _ _) | (with_reducible assumption) | (with_reducible exact bel_box _) | (with_reducible refine bel_step ?_ (by with_reducible assumption)) | (with_reducible refine Below.drew ?_) | (with_reducible refine below_drewN ?_ _) | (with_reducible refine bel_alloc ?_ _))); have b0 := fun o => cell_al o g0; have b1 := fun o => cell_al o g1)
    have TC : Hid (∀ W, Below (w1.alloc (.cells #[.slice p.es.A p.es.l.length p.es.c] 103)).heap.size (w1.alloc (.cells #[.slice p.es.A p.es.l.length p.es.c] 103)) W → W.cell? ⟨w1.heap.size, 0, none⟩ = some (.slice p.es.A p.es.l.length p.es.c) ∧ (W.cell? ⟨w.heap.size, 0, none⟩ = some (.slice p.es.A p.es.l.length p.es.c) ∧ W.cell? ⟨w.heap.size, 1, none⟩ = some (.slice p.ns.A p.ns.l.length p.ns.c) ∧ W.cell? ⟨w.heap.size + 1, 0, none⟩ = some (.int .i64 0) ∧ W.cell? ⟨w.heap.size + 1, 1, none⟩ = some (.int .i64 0) ∧ W.frozen? ⟨w.heap.size + 1, 0, none⟩ = false ∧ W.frozen? ⟨w.heap.size + 1, 1, none⟩ = false ∧ W.cell? ⟨w.heap.size + 1 + 1, 0, none⟩ = some (.int .i64 (-1)) ∧ W.cell? ⟨w.heap.size + 1 + 1, 1, none⟩ = some (.int .i64 (-1)) ∧ w.heap.size + 1 + 1 < W.heap.size)) := Lib.hid fun W h =>
      ⟨(B1K p.es h).1, TB.out W (hb1.trans (((bel_box _).trans (h.mono (by rw [World.size_alloc]; omega))).mono hb1.size))⟩
    go_loopw [36] (fun i wr => ∃ k : Nat, k ≤ p.ns.l.length ∧ i = .int .i64 (k : Int) ∧ Hid (wheR (F k) = V) ∧ Below (w1.alloc (.cells #[.slice p.es.A p.es.l.length p.es.c] 103)).heap.size (w1.alloc (.cells #[.slice p.es.A p.es.l.length p.es.c] 103)) wr) (fun i _ => p.ns.l.length - (intOf i).toNat)
    case atStart => exact ⟨0, by omega, rfl, HV, (by repeat (first | (with_reducible exact Below.refl _ _) | (with_reducible assumption) | (with_reducible exact bel_box _) | (with_reducible refine bel_step ?_ (by with_reducible assumption)) | (with_reducible refine Below.drew ?_) | (with_reducible refine below_drewN ?_ _) | (with_reducible refine bel_alloc ?_ _)))⟩
    case round =>
      obtain ⟨k, hk, rfl, hK, hbl⟩ := hrel
      have hBW : Below w.heap.size w wr := (by repeat (first | (with_reducible exact Below.refl _ _) | (with_reducible assumption) | (with_reducible exact bel_box _) | (with_reducible refine bel_step ?_ (by with_reducible assumption)) | (with_reducible refine Below.drew ?_) | (with_reducible refine below_drewN ?_ _) | (with_reducible refine bel_alloc ?_ _)))
      obtain ⟨c9, g0, g1, g2, g3, g4, g5, g6, g7, g8⟩ := TC.out wr hbl
      have a0 := fun o => cell_al o c9
      by_cases hlt : k < p.ns.l.length
      · obtain ⟨ad, y, hA, had, hy, hm, ⟨c0, c1, c2, c3, c4, c5, c6, c7⟩⟩ := ((HN.out.blw hBW hBW.size).2.1).at_ hlt
        have TP := Lib.hid (fun W h => (TB.out W h).2.2)
        rw [hA]
        clear hA
        have hst := HF.out k y hy
        have KY := Lib.hid (KN.out y hm)
        clear hy hm HF
        generalize nodE p.es.l y = v at *
        obtain ⟨v1, v2⟩ := v
        simp only at KY hst
        by_cases hv : v2 = 0
        · subst hv
          rw [if_pos rfl] at hst
          have hn' : Hid (wheR (F (k + 1)) = V) := Lib.hid (by rw [← hst]; exact hK.out)
          clear hst hK
          go_wp2_with (go_at_call 49; (with_reducible refine (KY.out _ ?_).mono ?_); (focus ((repeat (first | (with_reducible exact Below.refl _ _) | (with_reducible assumption) | (with_reducible exact bel_box _) | (with_reducible refine bel_step ?_ (by with_reducible assumption)) | (with_reducible refine Below.drew ?_) | (with_reducible refine below_drewN ?_ _) | (with_reducible refine bel_alloc ?_ _))); done)); rintro e w2 ⟨rfl, hb2⟩)
          exact ⟨⟨k + 1, by omega, by congr 1, hn', (by repeat (first | (with_reducible exact Below.refl _ _) | (with_reducible assumption) | (with_reducible exact bel_box _) | (with_reducible refine bel_step ?_ (by with_reducible assumption)) | (with_reducible refine Below.drew ?_) | (with_reducible refine below_drewN ?_ _) | (with_reducible refine bel_alloc ?_ _)))⟩, by simp [intOf]; omega⟩
        · rw [if_neg hv] at hst
          have hv2 : V = (((k : Int), v1), v2) := by rw [← hK.out, hst, HR.out]
          have e0 : (v2 == 0) = false := by simp [hv]
          subst hv2
          clear hst hK hv HV
          go_wp2_with (go_at_call 49; (with_reducible refine (KY.out _ ?_).mono ?_); (focus ((repeat (first | (with_reducible exact Below.refl _ _) | (with_reducible assumption) | (with_reducible exact bel_box _) | (with_reducible refine bel_step ?_ (by with_reducible assumption)) | (with_reducible refine Below.drew ?_) | (with_reducible refine below_drewN ?_ _) | (with_reducible refine bel_alloc ?_ _))); done)); rintro e w2 ⟨rfl, hb2⟩; obtain ⟨c9, g0, g1, g2, g3, g4, g5, g6, g7, g8⟩ := TC.out w2 (by repeat (first | (with_reducible exact Below.refl _ _) | (with_reducible assumption) | (with_reducible exact bel_box _) | (with_reducible refine bel_step ?_ (by with_reducible assumption)) | (with_reducible refine Below.drew ?_) | (with_reducible refine below_drewN ?_ _) | (with_reducible refine bel_alloc ?_ _))))
          obtain ⟨k0, k1⟩ := set2w_cells g2 g3 (.int .i64 (k)) (.int .i64 (v1))
          refine bodyPost_ret (v := .tuple #[.agg #[.int .i64 (k), .int .i64 (v1)], .int .i64 (v2)]) (by simp [results, Tryz.results22, go_sem, k0, k1]) rfl ?_
          exact ⟨rfl, bel_set2w (by repeat (first | (with_reducible exact Below.refl _ _) | (with_reducible assumption) | (with_reducible exact bel_box _) | (with_reducible refine bel_step ?_ (by with_reducible assumption)) | (with_reducible refine Below.drew ?_) | (with_reducible refine below_drewN ?_ _) | (with_reducible refine bel_alloc ?_ _))) (by omega) _ _⟩
      · obtain rfl : k = p.ns.l.length := by omega
        have hv2 : V = ((0, 0), 0) := by rw [← hK.out, HL.out, HRn.out]
        subst hv2
        clear hK HF HV HL
        go_wp2
        obtain ⟨k0, k1⟩ := set2w_cells g2 g3 (.int .i64 (0)) (.int .i64 (0))
        refine bodyPost_ret (v := .tuple #[.agg #[.int .i64 (0), .int .i64 (0)], .int .i64 (0)]) (by simp [results, Tryz.results22, go_sem, k0, k1]) rfl ?_
        exact ⟨rfl, bel_set2w (by repeat (first | (with_reducible exact Below.refl _ _) | (with_reducible assumption) | (with_reducible exact bel_box _) | (with_reducible refine bel_step ?_ (by with_reducible assumption)) | (with_reducible refine Below.drew ?_) | (with_reducible refine below_drewN ?_ _) | (with_reducible refine bel_alloc ?_ _))) (by omega) _ _⟩
  · have z0 : (u == 0) = false := by simp [hz]
    rw [if_neg hz]
    clear hz
    go_enter Tryz.func22, Tryz.ntmps22
    go_wp2_with (go_at_call 47; (with_reducible refine (KF.out _ ?_).mono ?_); (focus ((repeat (first | (with_reducible exact Below.refl _ _) | (with_reducible assumption) | (with_reducible exact bel_box _) | (with_reducible refine bel_step ?_ (by with_reducible assumption)) | (with_reducible refine Below.drew ?_) | (with_reducible refine below_drewN ?_ _) | (with_reducible refine bel_alloc ?_ _))); done)); rintro e w1 ⟨rfl, hb1⟩; obtain ⟨g0, g1, g2, g3, g4, g5, g6, g7, g8⟩ := TB.out w1 (by repeat (first | (with_reducible exact Below.refl _ _) | (with_reducible assumption) | (with_reducible exact bel_box _) | (with_reducible refine bel_step ?_ (by with_reducible assumption)) | (with_reducible refine Below.drew ?_) | (with_reducible refine below_drewN ?_ _) | (with_reducible refine bel_alloc ?_ _))); have b0 := fun o => cell_al o g0; have b1 := fun o => cell_al o g1)
    obtain ⟨k0, k1⟩ := set2w_cells g2 g3 (.int .i64 (-1)) (.int .i64 (-1))
    refine bodyPost_ret (v := .tuple #[.agg #[.int .i64 (-1), .int .i64 (-1)], .int .i64 (u)]) (by simp [results, Tryz.results22, go_sem, k0, k1]) rfl ?_
    exact ⟨rfl, bel_set2w (by repeat (first | (with_reducible exact Below.refl _ _) | (with_reducible assumption) | (with_reducible exact bel_box _) | (with_reducible refine bel_step ?_ (by with_reducible assumption)) | (with_reducible refine Below.drew ?_) | (with_reducible refine below_drewN ?_ _) | (with_reducible refine bel_alloc ?_ _))) (by omega) _ _⟩
set_option maxHeartbeats 400000 in
theorem sh_Expr (E : Rw va.En) (x : Xt) (w : World) (hs : Std w) (hE : RsE w w.heap.size E) (hX : RsX w w.heap.size x) :
    Calls Tryz.prog 35 #[.slice E.A E.l.length E.c, xV x] w (Bel (.int .i64 (expE E.l x)) w) := by
  have KE := Lib.hid (fun W (h : Below w.heap.size w W) => sh_expr E x W (hs.to h) (hE.blw h h.size) (hX.blw h h.size))
  simp only [xV, ckV] at KE ⊢
  go_enter Tryz.func35, Tryz.ntmps35
  go_wp2_with (go_at_call 62; (with_reducible refine (KE.out _ ?_).mono ?_); (focus ((repeat (first | (with_reducible exact Below.refl _ _) | (with_reducible assumption) | (with_reducible exact bel_box _) | (with_reducible refine bel_step ?_ (by with_reducible assumption)) | (with_reducible refine Below.drew ?_) | (with_reducible refine below_drewN ?_ _) | (with_reducible refine bel_alloc ?_ _))); done)); rintro e w1 ⟨rfl, hb1⟩)
  go_ret
  exact ⟨rfl, (by repeat (first | (with_reducible exact Below.refl _ _) | (with_reducible assumption) | (with_reducible exact bel_box _) | (with_reducible refine bel_step ?_ (by with_reducible assumption)) | (with_reducible refine Below.drew ?_) | (with_reducible refine below_drewN ?_ _) | (with_reducible refine bel_alloc ?_ _)))⟩
end Go.Proofs.YtoimjcfdiljkjaaGreatDoor
/- The reference of shape: valid, inside, Expr, enumeration. -/
namespace Go.Proofs.YtoimjcfdiljkjaaGreatDoor
set_option linter.unusedVariables false
set_option linter.unusedSimpArgs false
open Go.RowKit Go.Sort
set_option maxHeartbeats 1500000 in
set_option maxRecDepth 20000 in
theorem rv_valid (E : Rw va.En) (t : Int) (w : World) (hE : RsE w w.heap.size E) (ht : t ≤ 9223372036854775807) :
    Calls Tryz.prog 113 #[.slice E.A E.l.length E.c, .int .i64 t] w (Bel (.bool (decide (0 < va.sizeT E.l t))) w) := by
  have KS := Lib.hid (fun W (h : Below w.heap.size w W) => va.rsize_any E.A E.c E.l t W (hE.blw h h.size).1 hE.len ht)
  generalize va.sizeT E.l t = v at *
  clear hE ht
  by_cases h : 0 < v
  · have q : decide (0 < v) = true := decide_eq_true h
    rw [q]
    clear q
    go_enter Tryz.func113, Tryz.ntmps113
    go_wp2_with (first | (go_at_call 79; (with_reducible refine (KS.out _ ?_).mono ?_); (focus ((repeat (first | (with_reducible exact Below.refl _ _) | (with_reducible assumption) | (with_reducible exact bel_box _) | (with_reducible refine bel_step ?_ (by with_reducible assumption)) | (with_reducible refine Below.drew ?_) | (with_reducible refine below_drewN ?_ _) | (with_reducible refine bel_alloc ?_ _))); done)); rintro e w1 ⟨rfl, hb1⟩))
    go_ret
    exact ⟨(by first | rfl | (simp [h]; done)), (by repeat (first | (with_reducible exact Below.refl _ _) | (with_reducible assumption) | (with_reducible exact bel_box _) | (with_reducible refine bel_step ?_ (by with_reducible assumption)) | (with_reducible refine Below.drew ?_) | (with_reducible refine below_drewN ?_ _) | (with_reducible refine bel_alloc ?_ _)))⟩
  · have q : decide (0 < v) = false := decide_eq_false h
    have h2 : v ≤ 0 := by omega
    rw [q]
    clear q h
    go_enter Tryz.func113, Tryz.ntmps113
    go_wp2_with (first | (go_at_call 79; (with_reducible refine (KS.out _ ?_).mono ?_); (focus ((repeat (first | (with_reducible exact Below.refl _ _) | (with_reducible assumption) | (with_reducible exact bel_box _) | (with_reducible refine bel_step ?_ (by with_reducible assumption)) | (with_reducible refine Below.drew ?_) | (with_reducible refine below_drewN ?_ _) | (with_reducible refine bel_alloc ?_ _))); done)); rintro e w1 ⟨rfl, hb1⟩))
    go_ret
    exact ⟨(by first | rfl | (simp; omega)), (by repeat (first | (with_reducible exact Below.refl _ _) | (with_reducible assumption) | (with_reducible exact bel_box _) | (with_reducible refine bel_step ?_ (by with_reducible assumption)) | (with_reducible refine Below.drew ?_) | (with_reducible refine below_drewN ?_ _) | (with_reducible refine bel_alloc ?_ _)))⟩
theorem wpQuiet_no {P : Program} {ops : Array Oper} {C : World → Prop} {Q : Act → Prop} {a : Act} {o : Oper} {rest : List Oper} (h : Region.wanted o (yielded ops a.tmps) = false) : wpQuiet P ops C Q (o :: rest) a = wpQuiet P ops C Q rest (a.put o.dst undef) := by
  rw [wpQuiet, h]
  rfl
theorem size_nn (es : List va.En) (t : Int) : 0 ≤ va.sizeT es t := by
  unfold va.sizeT
  split <;> omega
set_option maxHeartbeats 1500000 in
set_option maxRecDepth 20000 in
theorem rv_inside (E : Rw va.En) (x : Xt) : ∀ w, RsE w w.heap.size E → RsX w w.heap.size x →
    Calls Tryz.prog 71 #[.slice E.A E.l.length E.c, xV x] w (Bel (.int .i64 (insE E.l x)) w) := by
  induction x using Xt.ind with
  | h x ih =>
    intro w hE hX
    have ht := (hX.2 x (mem_list_self x)).2
    have KV := Lib.hid (fun W (h : Below w.heap.size w W) => rv_valid E x.t W (hE.blw h h.size) ht)
    have KS := Lib.hid (fun W (h : Below w.heap.size w W) => va.rsize_any E.A E.c E.l x.t W (hE.blw h h.size).1 hE.len ht)
    have KH := Lib.hid (fun W (h : Below w.heap.size w W) => va.rhas_any E.A E.c E.l x.t x.v W (hE.blw h h.size).1 hE.len ht)
    have HX := Lib.hid hX
    have KR : Hid (∀ y ∈ x.ar, ∀ W, Below w.heap.size w W → Calls Tryz.prog 71 #[.slice E.A E.l.length E.c, xV y] W (Bel (.int .i64 (insE E.l y)) W)) := Lib.hid fun y hy W h => ih y hy W (hE.blw h h.size) ((hX.kid hy).blw h h.size)
    have h9 := hX.1.len.1
    unfold maxLen at h9
    rw [insE_eq]
    unfold typE
    have hnn := size_nn E.l x.t
    generalize va.hasB E.l x.t x.v = hb at *
    generalize va.sizeT E.l x.t = sz at *
    obtain ⟨F, hF0, hFl, HF⟩ := errs_steps x.ar (insE E.l)
    rw [← hF0]
    obtain ⟨V, hV⟩ : ∃ V, F 0 = V := ⟨_, rfl⟩
    have HV := Lib.hid hV
    have HL := Lib.hid hFl
    rw [hV]
    clear ht hE hX ih hF0 hFl hV
    simp only [xV] at KR ⊢
    by_cases k0 : x.k = 1 ∨ x.k = 8 ∨ x.k = 9
    · rw [if_pos k0]
      have kk : ((x.k == 1) = true ∧ (x.k == 8) = false ∧ (x.k == 9) = false ∧ (x.k != 9) = true ∧ x.k ≠ 9) ∨ ((x.k == 1) = false ∧ (x.k == 8) = true ∧ (x.k == 9) = false ∧ (x.k != 9) = true ∧ x.k ≠ 9) ∨ ((x.k == 1) = false ∧ (x.k == 8) = false ∧ (x.k == 9) = true ∧ (x.k != 9) = false ∧ x.k = 9) := by
        rcases k0 with k | k | k <;> rw [k] <;> simp
      clear k0
      by_cases z0 : sz = 0
      · subst z0
        rw [if_pos rfl, orEn (by decide)]
        rw [show decide ((0 : Int) < 0) = false from rfl] at KV
        clear hnn
        rcases kk with ⟨k1, k2, k3, k5, k4⟩ | ⟨k1, k2, k3, k5, k4⟩ | ⟨k1, k2, k3, k5, k4⟩
        all_goals
          clear k4
          go_enter Tryz.func71, Tryz.ntmps71
          go_wp2_with (first | (go_at_call 113; (with_reducible refine (KV.out _ ?_).mono ?_); (focus ((repeat (first | (with_reducible exact Below.refl _ _) | (with_reducible assumption) | (with_reducible exact bel_box _) | (with_reducible refine bel_step ?_ (by with_reducible assumption)) | (with_reducible refine Below.drew ?_) | (with_reducible refine below_drewN ?_ _) | (with_reducible refine bel_alloc ?_ _))); done)); rintro e w1 ⟨rfl, hb1⟩; obtain ⟨g0, g1, g2, g3, g4, g5, g6⟩ := B1X (w := w) (W := w1) x (by repeat (first | (with_reducible exact Below.refl _ _) | (with_reducible assumption) | (with_reducible exact bel_box _) | (with_reducible refine bel_step ?_ (by with_reducible assumption)) | (with_reducible refine Below.drew ?_) | (with_reducible refine below_drewN ?_ _) | (with_reducible refine bel_alloc ?_ _)))) | (go_at_call 41; (with_reducible refine (KH.out _ ?_).mono ?_); (focus ((repeat (first | (with_reducible exact Below.refl _ _) | (with_reducible assumption) | (with_reducible exact bel_box _) | (with_reducible refine bel_step ?_ (by with_reducible assumption)) | (with_reducible refine Below.drew ?_) | (with_reducible refine below_drewN ?_ _) | (with_reducible refine bel_alloc ?_ _))); done)); rintro e w2 ⟨rfl, hb2⟩; obtain ⟨g0, g1, g2, g3, g4, g5, g6⟩ := B1X (w := w) (W := w2) x (by repeat (first | (with_reducible exact Below.refl _ _) | (with_reducible assumption) | (with_reducible exact bel_box _) | (with_reducible refine bel_step ?_ (by with_reducible assumption)) | (with_reducible refine Below.drew ?_) | (with_reducible refine below_drewN ?_ _) | (with_reducible refine bel_alloc ?_ _)))) | (go_at_call 79; (with_reducible refine (KS.out _ ?_).mono ?_); (focus ((repeat (first | (with_reducible exact Below.refl _ _) | (with_reducible assumption) | (with_reducible exact bel_box _) | (with_reducible refine bel_step ?_ (by with_reducible assumption)) | (with_reducible refine Below.drew ?_) | (with_reducible refine below_drewN ?_ _) | (with_reducible refine bel_alloc ?_ _))); done)); rintro e w3 ⟨rfl, hb3⟩; obtain ⟨g0, g1, g2, g3, g4, g5, g6⟩ := B1X (w := w) (W := w3) x (by repeat (first | (with_reducible exact Below.refl _ _) | (with_reducible assumption) | (with_reducible exact bel_box _) | (with_reducible refine bel_step ?_ (by with_reducible assumption)) | (with_reducible refine Below.drew ?_) | (with_reducible refine below_drewN ?_ _) | (with_reducible refine bel_alloc ?_ _)))))
          go_ret
          exact ⟨rfl, (by repeat (first | (with_reducible exact Below.refl _ _) | (with_reducible assumption) | (with_reducible exact bel_box _) | (with_reducible refine bel_step ?_ (by with_reducible assumption)) | (with_reducible refine Below.drew ?_) | (with_reducible refine below_drewN ?_ _) | (with_reducible refine bel_alloc ?_ _)))⟩
      · rw [if_neg z0]
        rw [show decide ((0 : Int) < sz) = true from decide_eq_true (by omega)] at KV
        rcases kk with ⟨k1, k2, k3, k5, k4⟩ | ⟨k1, k2, k3, k5, k4⟩ | ⟨k1, k2, k3, k5, k4⟩
        · rw [if_neg (by intro h; exact k4 h.1)]
          clear hnn
          cases hb
          · rw [if_pos ⟨k4, rfl⟩, orEn (by decide)]
            clear k4 z0
            go_enter Tryz.func71, Tryz.ntmps71
            go_wp2_with (first | (go_at_call 113; (with_reducible refine (KV.out _ ?_).mono ?_); (focus ((repeat (first | (with_reducible exact Below.refl _ _) | (with_reducible assumption) | (with_reducible exact bel_box _) | (with_reducible refine bel_step ?_ (by with_reducible assumption)) | (with_reducible refine Below.drew ?_) | (with_reducible refine below_drewN ?_ _) | (with_reducible refine bel_alloc ?_ _))); done)); rintro e w1 ⟨rfl, hb1⟩; obtain ⟨g0, g1, g2, g3, g4, g5, g6⟩ := B1X (w := w) (W := w1) x (by repeat (first | (with_reducible exact Below.refl _ _) | (with_reducible assumption) | (with_reducible exact bel_box _) | (with_reducible refine bel_step ?_ (by with_reducible assumption)) | (with_reducible refine Below.drew ?_) | (with_reducible refine below_drewN ?_ _) | (with_reducible refine bel_alloc ?_ _)))) | (go_at_call 41; (with_reducible refine (KH.out _ ?_).mono ?_); (focus ((repeat (first | (with_reducible exact Below.refl _ _) | (with_reducible assumption) | (with_reducible exact bel_box _) | (with_reducible refine bel_step ?_ (by with_reducible assumption)) | (with_reducible refine Below.drew ?_) | (with_reducible refine below_drewN ?_ _) | (with_reducible refine bel_alloc ?_ _))); done)); rintro e w2 ⟨rfl, hb2⟩; obtain ⟨g0, g1, g2, g3, g4, g5, g6⟩ := B1X (w := w) (W := w2) x (by repeat (first | (with_reducible exact Below.refl _ _) | (with_reducible assumption) | (with_reducible exact bel_box _) | (with_reducible refine bel_step ?_ (by with_reducible assumption)) | (with_reducible refine Below.drew ?_) | (with_reducible refine below_drewN ?_ _) | (with_reducible refine bel_alloc ?_ _)))) | (go_at_call 79; (with_reducible refine (KS.out _ ?_).mono ?_); (focus ((repeat (first | (with_reducible exact Below.refl _ _) | (with_reducible assumption) | (with_reducible exact bel_box _) | (with_reducible refine bel_step ?_ (by with_reducible assumption)) | (with_reducible refine Below.drew ?_) | (with_reducible refine below_drewN ?_ _) | (with_reducible refine bel_alloc ?_ _))); done)); rintro e w3 ⟨rfl, hb3⟩; obtain ⟨g0, g1, g2, g3, g4, g5, g6⟩ := B1X (w := w) (W := w3) x (by repeat (first | (with_reducible exact Below.refl _ _) | (with_reducible assumption) | (with_reducible exact bel_box _) | (with_reducible refine bel_step ?_ (by with_reducible assumption)) | (with_reducible refine Below.drew ?_) | (with_reducible refine below_drewN ?_ _) | (with_reducible refine bel_alloc ?_ _)))))
            go_ret
            exact ⟨rfl, (by repeat (first | (with_reducible exact Below.refl _ _) | (with_reducible assumption) | (with_reducible exact bel_box _) | (with_reducible refine bel_step ?_ (by with_reducible assumption)) | (with_reducible refine Below.drew ?_) | (with_reducible refine below_drewN ?_ _) | (with_reducible refine bel_alloc ?_ _)))⟩
          · rw [if_neg (by simp), orE0]
            clear k4 z0
            go_enter Tryz.func71, Tryz.ntmps71
            go_wp2_with (first | (go_at_call 113; (with_reducible refine (KV.out _ ?_).mono ?_); (focus ((repeat (first | (with_reducible exact Below.refl _ _) | (with_reducible assumption) | (with_reducible exact bel_box _) | (with_reducible refine bel_step ?_ (by with_reducible assumption)) | (with_reducible refine Below.drew ?_) | (with_reducible refine below_drewN ?_ _) | (with_reducible refine bel_alloc ?_ _))); done)); rintro e w1 ⟨rfl, hb1⟩; obtain ⟨g0, g1, g2, g3, g4, g5, g6⟩ := B1X (w := w) (W := w1) x (by repeat (first | (with_reducible exact Below.refl _ _) | (with_reducible assumption) | (with_reducible exact bel_box _) | (with_reducible refine bel_step ?_ (by with_reducible assumption)) | (with_reducible refine Below.drew ?_) | (with_reducible refine below_drewN ?_ _) | (with_reducible refine bel_alloc ?_ _)))) | (go_at_call 41; (with_reducible refine (KH.out _ ?_).mono ?_); (focus ((repeat (first | (with_reducible exact Below.refl _ _) | (with_reducible assumption) | (with_reducible exact bel_box _) | (with_reducible refine bel_step ?_ (by with_reducible assumption)) | (with_reducible refine Below.drew ?_) | (with_reducible refine below_drewN ?_ _) | (with_reducible refine bel_alloc ?_ _))); done)); rintro e w2 ⟨rfl, hb2⟩; obtain ⟨g0, g1, g2, g3, g4, g5, g6⟩ := B1X (w := w) (W := w2) x (by repeat (first | (with_reducible exact Below.refl _ _) | (with_reducible assumption) | (with_reducible exact bel_box _) | (with_reducible refine bel_step ?_ (by with_reducible assumption)) | (with_reducible refine Below.drew ?_) | (with_reducible refine below_drewN ?_ _) | (with_reducible refine bel_alloc ?_ _)))) | (go_at_call 79; (with_reducible refine (KS.out _ ?_).mono ?_); (focus ((repeat (first | (with_reducible exact Below.refl _ _) | (with_reducible assumption) | (with_reducible exact bel_box _) | (with_reducible refine bel_step ?_ (by with_reducible assumption)) | (with_reducible refine Below.drew ?_) | (with_reducible refine below_drewN ?_ _) | (with_reducible refine bel_alloc ?_ _))); done)); rintro e w3 ⟨rfl, hb3⟩; obtain ⟨g0, g1, g2, g3, g4, g5, g6⟩ := B1X (w := w) (W := w3) x (by repeat (first | (with_reducible exact Below.refl _ _) | (with_reducible assumption) | (with_reducible exact bel_box _) | (with_reducible refine bel_step ?_ (by with_reducible assumption)) | (with_reducible refine Below.drew ?_) | (with_reducible refine below_drewN ?_ _) | (with_reducible refine bel_alloc ?_ _)))))
            have hvq : Below w.heap.size w w2 := (by repeat (first | (with_reducible exact Below.refl _ _) | (with_reducible assumption) | (with_reducible exact bel_box _) | (with_reducible refine bel_step ?_ (by with_reducible assumption)) | (with_reducible refine Below.drew ?_) | (with_reducible refine below_drewN ?_ _) | (with_reducible refine bel_alloc ?_ _)))
            have m0 := fun dd os => cell_regrown (w := w2) g0 dd os
            have m1 := fun dd os => cell_regrown (w := w2) g1 dd os
            have m2 := fun dd os => cell_regrown (w := w2) g2 dd os
            have m3 := fun dd os => cell_regrown (w := w2) g3 dd os
            have m4 := fun dd os => cell_regrown (w := w2) g4 dd os
            have m5 := fun dd os => cell_regrown (w := w2) g5 dd os
            have cc := fun dd os => Calls.regrown_of (KS.out (grow (redrawn w2 dd) os) (hvq.trans ((below_regrown w2 dd os).mono hvq.size)))
            clear hvq
            have hud : undef = .tuple #[] := rfl
            refine wp_region_quiet_below (by kernel_rfl) (by kernel_rfl) ?_
            quiet_step (fail)
            quiet_step (fail)
            quiet_step (fail)
            quiet_step (fail)
            rw [wpQuiet_no]
            rotate_left
            (focus (go_simp; done))
            rw [wpQuiet_no]
            rotate_left
            (focus (go_simp; done))
            rw [wpQuiet_no]
            rotate_left
            (focus (go_simp; done))
            rw [wpQuiet_no]
            rotate_left
            (focus (go_simp; done))
            rw [wpQuiet_no]
            rotate_left
            (focus (go_simp; done))
            rw [wpQuiet_no]
            rotate_left
            (focus (go_simp; done))
            rw [wpQuiet_no]
            rotate_left
            (focus (go_simp; done))
            rw [wpQuiet_no]
            rotate_left
            (focus (go_simp; done))
            repeat (quiet_step (fail))
            refine wpQuiet_nil ?_
            intro _ hw'
            obtain ⟨⟨dq, osq⟩, hw''⟩ := hw'
            subst hw''
            clear cc hud m0 m1 m2 m3 m4 m5
            obtain ⟨wq, hwq⟩ : ∃ wq, grow (redrawn w2 dq) osq = wq := ⟨_, rfl⟩
            have hbq : Below w2.heap.size w2 wq := by rw [← hwq]; exact below_regrown _ _ _
            simp only [hwq]
            clear hwq
            obtain ⟨g0, g1, g2, g3, g4, g5, g6⟩ := B1X (w := w) (W := wq) x (by repeat (first | (with_reducible exact Below.refl _ _) | (with_reducible assumption) | (with_reducible exact bel_box _) | (with_reducible refine bel_step ?_ (by with_reducible assumption)) | (with_reducible refine Below.drew ?_) | (with_reducible refine below_drewN ?_ _) | (with_reducible refine bel_alloc ?_ _)))
            go_wp2
            go_loopw [5] (fun i wr => ∃ k : Nat, k ≤ x.ar.length ∧ i = .int .i64 (k : Int) ∧ Hid (F k = V) ∧ Below (bxW w x).heap.size (bxW w x) wr) (fun i _ => x.ar.length - (intOf i).toNat)
            case atStart => exact ⟨0, by omega, rfl, HV, (by repeat (first | (with_reducible exact Below.refl _ _) | (with_reducible assumption) | (with_reducible exact bel_box _) | (with_reducible refine bel_step ?_ (by with_reducible assumption)) | (with_reducible refine Below.drew ?_) | (with_reducible refine below_drewN ?_ _) | (with_reducible refine bel_alloc ?_ _)))⟩
            case round =>
              obtain ⟨k, hk, rfl, hK, hbl⟩ := hrel
              obtain ⟨g0, g1, g2, g3, g4, g5, g6⟩ := bxW_cells hbl
              have hBW := bxW_below hbl
              by_cases hlt : k < x.ar.length
              · obtain ⟨ad, y, hA, had, hy, hm, ⟨c0, c1, c2, c3, c4, c5⟩, _⟩ := (HX.out.1.to hBW).at_ hlt
                rw [hA] at g5
                clear hA
                have hst := HF.out k y hy
                have KY := Lib.hid (KR.out y hm)
                clear hy hm HF
                generalize insE E.l y = v at *
                by_cases hv : v = 0
                · subst hv
                  rw [orE0] at hst
                  have hn : Hid (F (k + 1) = V) := Lib.hid (hst.symm.trans hK.out)
                  clear hst hK
                  go_wp2_with (go_at_call 71; (with_reducible refine (KY.out _ ?_).mono ?_); (focus ((repeat (first | (with_reducible exact Below.refl _ _) | (with_reducible assumption) | (with_reducible exact bel_box _) | (with_reducible refine bel_step ?_ (by with_reducible assumption)) | (with_reducible refine Below.drew ?_) | (with_reducible refine below_drewN ?_ _) | (with_reducible refine bel_alloc ?_ _))); done)); rintro e w5 ⟨rfl, hb5⟩)
                  exact ⟨⟨k + 1, by omega, by congr 1, hn, (by repeat (first | (with_reducible exact Below.refl _ _) | (with_reducible assumption) | (with_reducible exact bel_box _) | (with_reducible refine bel_step ?_ (by with_reducible assumption)) | (with_reducible refine Below.drew ?_) | (with_reducible refine below_drewN ?_ _) | (with_reducible refine bel_alloc ?_ _)))⟩, by simp [intOf]; omega⟩
                · rw [orEn hv] at hst
                  obtain rfl : v = V := hst.symm.trans hK.out
                  have e0 : (v == 0) = false := by simp [hv]
                  clear hst hK hv HV
                  go_wp2_with (go_at_call 71; (with_reducible refine (KY.out _ ?_).mono ?_); (focus ((repeat (first | (with_reducible exact Below.refl _ _) | (with_reducible assumption) | (with_reducible exact bel_box _) | (with_reducible refine bel_step ?_ (by with_reducible assumption)) | (with_reducible refine Below.drew ?_) | (with_reducible refine below_drewN ?_ _) | (with_reducible refine bel_alloc ?_ _))); done)); rintro e w5 ⟨rfl, hb5⟩)
                  go_ret
                  exact ⟨rfl, (by repeat (first | (with_reducible exact Below.refl _ _) | (with_reducible assumption) | (with_reducible exact bel_box _) | (with_reducible refine bel_step ?_ (by with_reducible assumption)) | (with_reducible refine Below.drew ?_) | (with_reducible refine below_drewN ?_ _) | (with_reducible refine bel_alloc ?_ _)))⟩
              · obtain rfl : k = x.ar.length := by omega
                obtain rfl : (0 : Int) = V := HL.out.symm.trans hK.out
                clear hK HF HV HL
                go_wp2
                go_ret
                exact ⟨rfl, hBW⟩
        · rw [if_neg (by intro h; exact k4 h.1)]
          clear hnn
          cases hb
          · rw [if_pos ⟨k4, rfl⟩, orEn (by decide)]
            clear k4 z0
            go_enter Tryz.func71, Tryz.ntmps71
            go_wp2_with (first | (go_at_call 113; (with_reducible refine (KV.out _ ?_).mono ?_); (focus ((repeat (first | (with_reducible exact Below.refl _ _) | (with_reducible assumption) | (with_reducible exact bel_box _) | (with_reducible refine bel_step ?_ (by with_reducible assumption)) | (with_reducible refine Below.drew ?_) | (with_reducible refine below_drewN ?_ _) | (with_reducible refine bel_alloc ?_ _))); done)); rintro e w1 ⟨rfl, hb1⟩; obtain ⟨g0, g1, g2, g3, g4, g5, g6⟩ := B1X (w := w) (W := w1) x (by repeat (first | (with_reducible exact Below.refl _ _) | (with_reducible assumption) | (with_reducible exact bel_box _) | (with_reducible refine bel_step ?_ (by with_reducible assumption)) | (with_reducible refine Below.drew ?_) | (with_reducible refine below_drewN ?_ _) | (with_reducible refine bel_alloc ?_ _)))) | (go_at_call 41; (with_reducible refine (KH.out _ ?_).mono ?_); (focus ((repeat (first | (with_reducible exact Below.refl _ _) | (with_reducible assumption) | (with_reducible exact bel_box _) | (with_reducible refine bel_step ?_ (by with_reducible assumption)) | (with_reducible refine Below.drew ?_) | (with_reducible refine below_drewN ?_ _) | (with_reducible refine bel_alloc ?_ _))); done)); rintro e w2 ⟨rfl, hb2⟩; obtain ⟨g0, g1, g2, g3, g4, g5, g6⟩ := B1X (w := w) (W := w2) x (by repeat (first | (with_reducible exact Below.refl _ _) | (with_reducible assumption) | (with_reducible exact bel_box _) | (with_reducible refine bel_step ?_ (by with_reducible assumption)) | (with_reducible refine Below.drew ?_) | (with_reducible refine below_drewN ?_ _) | (with_reducible refine bel_alloc ?_ _)))) | (go_at_call 79; (with_reducible refine (KS.out _ ?_).mono ?_); (focus ((repeat (first | (with_reducible exact Below.refl _ _) | (with_reducible assumption) | (with_reducible exact bel_box _) | (with_reducible refine bel_step ?_ (by with_reducible assumption)) | (with_reducible refine Below.drew ?_) | (with_reducible refine below_drewN ?_ _) | (with_reducible refine bel_alloc ?_ _))); done)); rintro e w3 ⟨rfl, hb3⟩; obtain ⟨g0, g1, g2, g3, g4, g5, g6⟩ := B1X (w := w) (W := w3) x (by repeat (first | (with_reducible exact Below.refl _ _) | (with_reducible assumption) | (with_reducible exact bel_box _) | (with_reducible refine bel_step ?_ (by with_reducible assumption)) | (with_reducible refine Below.drew ?_) | (with_reducible refine below_drewN ?_ _) | (with_reducible refine bel_alloc ?_ _)))))
            go_ret
            exact ⟨rfl, (by repeat (first | (with_reducible exact Below.refl _ _) | (with_reducible assumption) | (with_reducible exact bel_box _) | (with_reducible refine bel_step ?_ (by with_reducible assumption)) | (with_reducible refine Below.drew ?_) | (with_reducible refine below_drewN ?_ _) | (with_reducible refine bel_alloc ?_ _)))⟩
          · rw [if_neg (by simp), orE0]
            clear k4 z0
            go_enter Tryz.func71, Tryz.ntmps71
            go_wp2_with (first | (go_at_call 113; (with_reducible refine (KV.out _ ?_).mono ?_); (focus ((repeat (first | (with_reducible exact Below.refl _ _) | (with_reducible assumption) | (with_reducible exact bel_box _) | (with_reducible refine bel_step ?_ (by with_reducible assumption)) | (with_reducible refine Below.drew ?_) | (with_reducible refine below_drewN ?_ _) | (with_reducible refine bel_alloc ?_ _))); done)); rintro e w1 ⟨rfl, hb1⟩; obtain ⟨g0, g1, g2, g3, g4, g5, g6⟩ := B1X (w := w) (W := w1) x (by repeat (first | (with_reducible exact Below.refl _ _) | (with_reducible assumption) | (with_reducible exact bel_box _) | (with_reducible refine bel_step ?_ (by with_reducible assumption)) | (with_reducible refine Below.drew ?_) | (with_reducible refine below_drewN ?_ _) | (with_reducible refine bel_alloc ?_ _)))) | (go_at_call 41; (with_reducible refine (KH.out _ ?_).mono ?_); (focus ((repeat (first | (with_reducible exact Below.refl _ _) | (with_reducible assumption) | (with_reducible exact bel_box _) | (with_reducible refine bel_step ?_ (by with_reducible assumption)) | (with_reducible refine Below.drew ?_) | (with_reducible refine below_drewN ?_ _) | (with_reducible refine bel_alloc ?_ _))); done)); rintro e w2 ⟨rfl, hb2⟩; obtain ⟨g0, g1, g2, g3, g4, g5, g6⟩ := B1X (w := w) (W := w2) x (by repeat (first | (with_reducible exact Below.refl _ _) | (with_reducible assumption) | (with_reducible exact bel_box _) | (with_reducible refine bel_step ?_ (by with_reducible assumption)) | (with_reducible refine Below.drew ?_) | (with_reducible refine below_drewN ?_ _) | (with_reducible refine bel_alloc ?_ _)))) | (go_at_call 79; (with_reducible refine (KS.out _ ?_).mono ?_); (focus ((repeat (first | (with_reducible exact Below.refl _ _) | (with_reducible assumption) | (with_reducible exact bel_box _) | (with_reducible refine bel_step ?_ (by with_reducible assumption)) | (with_reducible refine Below.drew ?_) | (with_reducible refine below_drewN ?_ _) | (with_reducible refine bel_alloc ?_ _))); done)); rintro e w3 ⟨rfl, hb3⟩; obtain ⟨g0, g1, g2, g3, g4, g5, g6⟩ := B1X (w := w) (W := w3) x (by repeat (first | (with_reducible exact Below.refl _ _) | (with_reducible assumption) | (with_reducible exact bel_box _) | (with_reducible refine bel_step ?_ (by with_reducible assumption)) | (with_reducible refine Below.drew ?_) | (with_reducible refine below_drewN ?_ _) | (with_reducible refine bel_alloc ?_ _)))))
            have hvq : Below w.heap.size w w2 := (by repeat (first | (with_reducible exact Below.refl _ _) | (with_reducible assumption) | (with_reducible exact bel_box _) | (with_reducible refine bel_step ?_ (by with_reducible assumption)) | (with_reducible refine Below.drew ?_) | (with_reducible refine below_drewN ?_ _) | (with_reducible refine bel_alloc ?_ _)))
            have m0 := fun dd os => cell_regrown (w := w2) g0 dd os
            have m1 := fun dd os => cell_regrown (w := w2) g1 dd os
            have m2 := fun dd os => cell_regrown (w := w2) g2 dd os
            have m3 := fun dd os => cell_regrown (w := w2) g3 dd os
            have m4 := fun dd os => cell_regrown (w := w2) g4 dd os
            have m5 := fun dd os => cell_regrown (w := w2) g5 dd os
            have cc := fun dd os => Calls.regrown_of (KS.out (grow (redrawn w2 dd) os) (hvq.trans ((below_regrown w2 dd os).mono hvq.size)))
            clear hvq
            have hud : undef = .tuple #[] := rfl
            refine wp_region_quiet_below (by kernel_rfl) (by kernel_rfl) ?_
            quiet_step (fail)
            quiet_step (fail)
            quiet_step (fail)
            quiet_step (fail)
            rw [wpQuiet_no]
            rotate_left
            (focus (go_simp; done))
            rw [wpQuiet_no]
            rotate_left
            (focus (go_simp; done))
            rw [wpQuiet_no]
            rotate_left
            (focus (go_simp; done))
            rw [wpQuiet_no]
            rotate_left
            (focus (go_simp; done))
            rw [wpQuiet_no]
            rotate_left
            (focus (go_simp; done))
            rw [wpQuiet_no]
            rotate_left
            (focus (go_simp; done))
            rw [wpQuiet_no]
            rotate_left
            (focus (go_simp; done))
            rw [wpQuiet_no]
            rotate_left
            (focus (go_simp; done))
            repeat (quiet_step (fail))
            refine wpQuiet_nil ?_
            intro _ hw'
            obtain ⟨⟨dq, osq⟩, hw''⟩ := hw'
            subst hw''
            clear cc hud m0 m1 m2 m3 m4 m5
            obtain ⟨wq, hwq⟩ : ∃ wq, grow (redrawn w2 dq) osq = wq := ⟨_, rfl⟩
            have hbq : Below w2.heap.size w2 wq := by rw [← hwq]; exact below_regrown _ _ _
            simp only [hwq]
            clear hwq
            obtain ⟨g0, g1, g2, g3, g4, g5, g6⟩ := B1X (w := w) (W := wq) x (by repeat (first | (with_reducible exact Below.refl _ _) | (with_reducible assumption) | (with_reducible exact bel_box _) | (with_reducible refine bel_step ?_ (by with_reducible assumption)) | (with_reducible refine Below.drew ?_) | (with_reducible refine below_drewN ?_ _) | (with_reducible refine bel_alloc ?_ _)))
            go_wp2
            go_loopw [5] (fun i wr => ∃ k : Nat, k ≤ x.ar.length ∧ i = .int .i64 (k : Int) ∧ Hid (F k = V) ∧ Below (bxW w x).heap.size (bxW w x) wr) (fun i _ => x.ar.length - (intOf i).toNat)
            case atStart => exact ⟨0, by omega, rfl, HV, (by repeat (first | (with_reducible exact Below.refl _ _) | (with_reducible assumption) | (with_reducible exact bel_box _) | (with_reducible refine bel_step ?_ (by with_reducible assumption)) | (with_reducible refine Below.drew ?_) | (with_reducible refine below_drewN ?_ _) | (with_reducible refine bel_alloc ?_ _)))⟩
            case round =>
              obtain ⟨k, hk, rfl, hK, hbl⟩ := hrel
              obtain ⟨g0, g1, g2, g3, g4, g5, g6⟩ := bxW_cells hbl
              have hBW := bxW_below hbl
              by_cases hlt : k < x.ar.length
              · obtain ⟨ad, y, hA, had, hy, hm, ⟨c0, c1, c2, c3, c4, c5⟩, _⟩ := (HX.out.1.to hBW).at_ hlt
                rw [hA] at g5
                clear hA
                have hst := HF.out k y hy
                have KY := Lib.hid (KR.out y hm)
                clear hy hm HF
                generalize insE E.l y = v at *
                by_cases hv : v = 0
                · subst hv
                  rw [orE0] at hst
                  have hn : Hid (F (k + 1) = V) := Lib.hid (hst.symm.trans hK.out)
                  clear hst hK
                  go_wp2_with (go_at_call 71; (with_reducible refine (KY.out _ ?_).mono ?_); (focus ((repeat (first | (with_reducible exact Below.refl _ _) | (with_reducible assumption) | (with_reducible exact bel_box _) | (with_reducible refine bel_step ?_ (by with_reducible assumption)) | (with_reducible refine Below.drew ?_) | (with_reducible refine below_drewN ?_ _) | (with_reducible refine bel_alloc ?_ _))); done)); rintro e w5 ⟨rfl, hb5⟩)
                  exact ⟨⟨k + 1, by omega, by congr 1, hn, (by repeat (first | (with_reducible exact Below.refl _ _) | (with_reducible assumption) | (with_reducible exact bel_box _) | (with_reducible refine bel_step ?_ (by with_reducible assumption)) | (with_reducible refine Below.drew ?_) | (with_reducible refine below_drewN ?_ _) | (with_reducible refine bel_alloc ?_ _)))⟩, by simp [intOf]; omega⟩
                · rw [orEn hv] at hst
                  obtain rfl : v = V := hst.symm.trans hK.out
                  have e0 : (v == 0) = false := by simp [hv]
                  clear hst hK hv HV
                  go_wp2_with (go_at_call 71; (with_reducible refine (KY.out _ ?_).mono ?_); (focus ((repeat (first | (with_reducible exact Below.refl _ _) | (with_reducible assumption) | (with_reducible exact bel_box _) | (with_reducible refine bel_step ?_ (by with_reducible assumption)) | (with_reducible refine Below.drew ?_) | (with_reducible refine below_drewN ?_ _) | (with_reducible refine bel_alloc ?_ _))); done)); rintro e w5 ⟨rfl, hb5⟩)
                  go_ret
                  exact ⟨rfl, (by repeat (first | (with_reducible exact Below.refl _ _) | (with_reducible assumption) | (with_reducible exact bel_box _) | (with_reducible refine bel_step ?_ (by with_reducible assumption)) | (with_reducible refine Below.drew ?_) | (with_reducible refine below_drewN ?_ _) | (with_reducible refine bel_alloc ?_ _)))⟩
              · obtain rfl : k = x.ar.length := by omega
                obtain rfl : (0 : Int) = V := HL.out.symm.trans hK.out
                clear hK HF HV HL
                go_wp2
                go_ret
                exact ⟨rfl, hBW⟩
        · by_cases z1 : (x.ar.length : Int) = sz
          · rw [if_neg (by intro h; exact h.2 z1), if_neg (by intro h; exact h.1 k4), orE0]
            have q1 : ((x.ar.length : Int) != sz) = false := by simp [z1]
            clear k4 z0 z1 hnn
            go_enter Tryz.func71, Tryz.ntmps71
            go_wp2_with (first | (go_at_call 113; (with_reducible refine (KV.out _ ?_).mono ?_); (focus ((repeat (first | (with_reducible exact Below.refl _ _) | (with_reducible assumption) | (with_reducible exact bel_box _) | (with_reducible refine bel_step ?_ (by with_reducible assumption)) | (with_reducible refine Below.drew ?_) | (with_reducible refine below_drewN ?_ _) | (with_reducible refine bel_alloc ?_ _))); done)); rintro e w1 ⟨rfl, hb1⟩; obtain ⟨g0, g1, g2, g3, g4, g5, g6⟩ := B1X (w := w) (W := w1) x (by repeat (first | (with_reducible exact Below.refl _ _) | (with_reducible assumption) | (with_reducible exact bel_box _) | (with_reducible refine bel_step ?_ (by with_reducible assumption)) | (with_reducible refine Below.drew ?_) | (with_reducible refine below_drewN ?_ _) | (with_reducible refine bel_alloc ?_ _)))) | (go_at_call 41; (with_reducible refine (KH.out _ ?_).mono ?_); (focus ((repeat (first | (with_reducible exact Below.refl _ _) | (with_reducible assumption) | (with_reducible exact bel_box _) | (with_reducible refine bel_step ?_ (by with_reducible assumption)) | (with_reducible refine Below.drew ?_) | (with_reducible refine below_drewN ?_ _) | (with_reducible refine bel_alloc ?_ _))); done)); rintro e w2 ⟨rfl, hb2⟩; obtain ⟨g0, g1, g2, g3, g4, g5, g6⟩ := B1X (w := w) (W := w2) x (by repeat (first | (with_reducible exact Below.refl _ _) | (with_reducible assumption) | (with_reducible exact bel_box _) | (with_reducible refine bel_step ?_ (by with_reducible assumption)) | (with_reducible refine Below.drew ?_) | (with_reducible refine below_drewN ?_ _) | (with_reducible refine bel_alloc ?_ _)))) | (go_at_call 79; (with_reducible refine (KS.out _ ?_).mono ?_); (focus ((repeat (first | (with_reducible exact Below.refl _ _) | (with_reducible assumption) | (with_reducible exact bel_box _) | (with_reducible refine bel_step ?_ (by with_reducible assumption)) | (with_reducible refine Below.drew ?_) | (with_reducible refine below_drewN ?_ _) | (with_reducible refine bel_alloc ?_ _))); done)); rintro e w3 ⟨rfl, hb3⟩; obtain ⟨g0, g1, g2, g3, g4, g5, g6⟩ := B1X (w := w) (W := w3) x (by repeat (first | (with_reducible exact Below.refl _ _) | (with_reducible assumption) | (with_reducible exact bel_box _) | (with_reducible refine bel_step ?_ (by with_reducible assumption)) | (with_reducible refine Below.drew ?_) | (with_reducible refine below_drewN ?_ _) | (with_reducible refine bel_alloc ?_ _)))))
            have hvq : Below w.heap.size w w1 := (by repeat (first | (with_reducible exact Below.refl _ _) | (with_reducible assumption) | (with_reducible exact bel_box _) | (with_reducible refine bel_step ?_ (by with_reducible assumption)) | (with_reducible refine Below.drew ?_) | (with_reducible refine below_drewN ?_ _) | (with_reducible refine bel_alloc ?_ _)))
            have m0 := fun dd os => cell_regrown (w := w1) g0 dd os
            have m1 := fun dd os => cell_regrown (w := w1) g1 dd os
            have m2 := fun dd os => cell_regrown (w := w1) g2 dd os
            have m3 := fun dd os => cell_regrown (w := w1) g3 dd os
            have m4 := fun dd os => cell_regrown (w := w1) g4 dd os
            have m5 := fun dd os => cell_regrown (w := w1) g5 dd os
            have cc := fun dd os => Calls.regrown_of (KS.out (grow (redrawn w1 dd) os) (hvq.trans ((below_regrown w1 dd os).mono hvq.size)))
            clear hvq
            have hud : undef = .tuple #[] := rfl
            refine wp_region_quiet_below (by kernel_rfl) (by kernel_rfl) ?_
            repeat (quiet_step (first | with_reducible exact cc _ _))
            refine wpQuiet_nil ?_
            intro _ hw'
            obtain ⟨⟨dq, osq⟩, hw''⟩ := hw'
            subst hw''
            clear cc hud m0 m1 m2 m3 m4 m5
            obtain ⟨wq, hwq⟩ : ∃ wq, grow (redrawn w1 dq) osq = wq := ⟨_, rfl⟩
            have hbq : Below w1.heap.size w1 wq := by rw [← hwq]; exact below_regrown _ _ _
            simp only [hwq]
            clear hwq
            obtain ⟨g0, g1, g2, g3, g4, g5, g6⟩ := B1X (w := w) (W := wq) x (by repeat (first | (with_reducible exact Below.refl _ _) | (with_reducible assumption) | (with_reducible exact bel_box _) | (with_reducible refine bel_step ?_ (by with_reducible assumption)) | (with_reducible refine Below.drew ?_) | (with_reducible refine below_drewN ?_ _) | (with_reducible refine bel_alloc ?_ _)))
            go_wp2
            go_loopw [5] (fun i wr => ∃ k : Nat, k ≤ x.ar.length ∧ i = .int .i64 (k : Int) ∧ Hid (F k = V) ∧ Below (bxW w x).heap.size (bxW w x) wr) (fun i _ => x.ar.length - (intOf i).toNat)
            case atStart => exact ⟨0, by omega, rfl, HV, (by repeat (first | (with_reducible exact Below.refl _ _) | (with_reducible assumption) | (with_reducible exact bel_box _) | (with_reducible refine bel_step ?_ (by with_reducible assumption)) | (with_reducible refine Below.drew ?_) | (with_reducible refine below_drewN ?_ _) | (with_reducible refine bel_alloc ?_ _)))⟩
            case round =>
              obtain ⟨k, hk, rfl, hK, hbl⟩ := hrel
              obtain ⟨g0, g1, g2, g3, g4, g5, g6⟩ := bxW_cells hbl
              have hBW := bxW_below hbl
              by_cases hlt : k < x.ar.length
              · obtain ⟨ad, y, hA, had, hy, hm, ⟨c0, c1, c2, c3, c4, c5⟩, _⟩ := (HX.out.1.to hBW).at_ hlt
                rw [hA] at g5
                clear hA
                have hst := HF.out k y hy
                have KY := Lib.hid (KR.out y hm)
                clear hy hm HF
                generalize insE E.l y = v at *
                by_cases hv : v = 0
                · subst hv
                  rw [orE0] at hst
                  have hn : Hid (F (k + 1) = V) := Lib.hid (hst.symm.trans hK.out)
                  clear hst hK
                  go_wp2_with (go_at_call 71; (with_reducible refine (KY.out _ ?_).mono ?_); (focus ((repeat (first | (with_reducible exact Below.refl _ _) | (with_reducible assumption) | (with_reducible exact bel_box _) | (with_reducible refine bel_step ?_ (by with_reducible assumption)) | (with_reducible refine Below.drew ?_) | (with_reducible refine below_drewN ?_ _) | (with_reducible refine bel_alloc ?_ _))); done)); rintro e w5 ⟨rfl, hb5⟩)
                  exact ⟨⟨k + 1, by omega, by congr 1, hn, (by repeat (first | (with_reducible exact Below.refl _ _) | (with_reducible assumption) | (with_reducible exact bel_box _) | (with_reducible refine bel_step ?_ (by with_reducible assumption)) | (with_reducible refine Below.drew ?_) | (with_reducible refine below_drewN ?_ _) | (with_reducible refine bel_alloc ?_ _)))⟩, by simp [intOf]; omega⟩
                · rw [orEn hv] at hst
                  obtain rfl : v = V := hst.symm.trans hK.out
                  have e0 : (v == 0) = false := by simp [hv]
                  clear hst hK hv HV
                  go_wp2_with (go_at_call 71; (with_reducible refine (KY.out _ ?_).mono ?_); (focus ((repeat (first | (with_reducible exact Below.refl _ _) | (with_reducible assumption) | (with_reducible exact bel_box _) | (with_reducible refine bel_step ?_ (by with_reducible assumption)) | (with_reducible refine Below.drew ?_) | (with_reducible refine below_drewN ?_ _) | (with_reducible refine bel_alloc ?_ _))); done)); rintro e w5 ⟨rfl, hb5⟩)
                  go_ret
                  exact ⟨rfl, (by repeat (first | (with_reducible exact Below.refl _ _) | (with_reducible assumption) | (with_reducible exact bel_box _) | (with_reducible refine bel_step ?_ (by with_reducible assumption)) | (with_reducible refine Below.drew ?_) | (with_reducible refine below_drewN ?_ _) | (with_reducible refine bel_alloc ?_ _)))⟩
              · obtain rfl : k = x.ar.length := by omega
                obtain rfl : (0 : Int) = V := HL.out.symm.trans hK.out
                clear hK HF HV HL
                go_wp2
                go_ret
                exact ⟨rfl, hBW⟩
          · rw [if_pos ⟨k4, z1⟩, orEn (by decide)]
            have q1 : ((x.ar.length : Int) != sz) = true := by simp [z1]
            clear k4 z0 z1 hnn
            go_enter Tryz.func71, Tryz.ntmps71
            go_wp2_with (first | (go_at_call 113; (with_reducible refine (KV.out _ ?_).mono ?_); (focus ((repeat (first | (with_reducible exact Below.refl _ _) | (with_reducible assumption) | (with_reducible exact bel_box _) | (with_reducible refine bel_step ?_ (by with_reducible assumption)) | (with_reducible refine Below.drew ?_) | (with_reducible refine below_drewN ?_ _) | (with_reducible refine bel_alloc ?_ _))); done)); rintro e w1 ⟨rfl, hb1⟩; obtain ⟨g0, g1, g2, g3, g4, g5, g6⟩ := B1X (w := w) (W := w1) x (by repeat (first | (with_reducible exact Below.refl _ _) | (with_reducible assumption) | (with_reducible exact bel_box _) | (with_reducible refine bel_step ?_ (by with_reducible assumption)) | (with_reducible refine Below.drew ?_) | (with_reducible refine below_drewN ?_ _) | (with_reducible refine bel_alloc ?_ _)))) | (go_at_call 41; (with_reducible refine (KH.out _ ?_).mono ?_); (focus ((repeat (first | (with_reducible exact Below.refl _ _) | (with_reducible assumption) | (with_reducible exact bel_box _) | (with_reducible refine bel_step ?_ (by with_reducible assumption)) | (with_reducible refine Below.drew ?_) | (with_reducible refine below_drewN ?_ _) | (with_reducible refine bel_alloc ?_ _))); done)); rintro e w2 ⟨rfl, hb2⟩; obtain ⟨g0, g1, g2, g3, g4, g5, g6⟩ := B1X (w := w) (W := w2) x (by repeat (first | (with_reducible exact Below.refl _ _) | (with_reducible assumption) | (with_reducible exact bel_box _) | (with_reducible refine bel_step ?_ (by with_reducible assumption)) | (with_reducible refine Below.drew ?_) | (with_reducible refine below_drewN ?_ _) | (with_reducible refine bel_alloc ?_ _)))) | (go_at_call 79; (with_reducible refine (KS.out _ ?_).mono ?_); (focus ((repeat (first | (with_reducible exact Below.refl _ _) | (with_reducible assumption) | (with_reducible exact bel_box _) | (with_reducible refine bel_step ?_ (by with_reducible assumption)) | (with_reducible refine Below.drew ?_) | (with_reducible refine below_drewN ?_ _) | (with_reducible refine bel_alloc ?_ _))); done)); rintro e w3 ⟨rfl, hb3⟩; obtain ⟨g0, g1, g2, g3, g4, g5, g6⟩ := B1X (w := w) (W := w3) x (by repeat (first | (with_reducible exact Below.refl _ _) | (with_reducible assumption) | (with_reducible exact bel_box _) | (with_reducible refine bel_step ?_ (by with_reducible assumption)) | (with_reducible refine Below.drew ?_) | (with_reducible refine below_drewN ?_ _) | (with_reducible refine bel_alloc ?_ _)))))
            have hvq : Below w.heap.size w w1 := (by repeat (first | (with_reducible exact Below.refl _ _) | (with_reducible assumption) | (with_reducible exact bel_box _) | (with_reducible refine bel_step ?_ (by with_reducible assumption)) | (with_reducible refine Below.drew ?_) | (with_reducible refine below_drewN ?_ _) | (with_reducible refine bel_alloc ?_ _)))
            have m0 := fun dd os => cell_regrown (w := w1) g0 dd os
            have m1 := fun dd os => cell_regrown (w := w1) g1 dd os
            have m2 := fun dd os => cell_regrown (w := w1) g2 dd os
            have m3 := fun dd os => cell_regrown (w := w1) g3 dd os
            have m4 := fun dd os => cell_regrown (w := w1) g4 dd os
            have m5 := fun dd os => cell_regrown (w := w1) g5 dd os
            have cc := fun dd os => Calls.regrown_of (KS.out (grow (redrawn w1 dd) os) (hvq.trans ((below_regrown w1 dd os).mono hvq.size)))
            clear hvq
            have hud : undef = .tuple #[] := rfl
            refine wp_region_quiet_below (by kernel_rfl) (by kernel_rfl) ?_
            repeat (quiet_step (first | with_reducible exact cc _ _))
            refine wpQuiet_nil ?_
            intro _ hw'
            obtain ⟨⟨dq, osq⟩, hw''⟩ := hw'
            subst hw''
            clear cc hud m0 m1 m2 m3 m4 m5
            obtain ⟨wq, hwq⟩ : ∃ wq, grow (redrawn w1 dq) osq = wq := ⟨_, rfl⟩
            have hbq : Below w1.heap.size w1 wq := by rw [← hwq]; exact below_regrown _ _ _
            simp only [hwq]
            clear hwq
            obtain ⟨g0, g1, g2, g3, g4, g5, g6⟩ := B1X (w := w) (W := wq) x (by repeat (first | (with_reducible exact Below.refl _ _) | (with_reducible assumption) | (with_reducible exact bel_box _) | (with_reducible refine bel_step ?_ (by with_reducible assumption)) | (with_reducible refine Below.drew ?_) | (with_reducible refine below_drewN ?_ _) | (with_reducible refine bel_alloc ?_ _)))
            go_wp2
            go_ret
            exact ⟨rfl, (by repeat (first | (with_reducible exact Below.refl _ _) | (with_reducible assumption) | (with_reducible exact bel_box _) | (with_reducible refine bel_step ?_ (by with_reducible assumption)) | (with_reducible refine Below.drew ?_) | (with_reducible refine below_drewN ?_ _) | (with_reducible refine bel_alloc ?_ _)))⟩
    · rw [if_neg k0, orE0]
      have k1 : (x.k == 1) = false := by rw [beq_eq_false_iff_ne]; omega
      have k2 : (x.k == 8) = false := by rw [beq_eq_false_iff_ne]; omega
      have k3 : (x.k == 9) = false := by rw [beq_eq_false_iff_ne]; omega
      clear k0 hnn
      go_enter Tryz.func71, Tryz.ntmps71
      go_wp2_with (first | (go_at_call 113; (with_reducible refine (KV.out _ ?_).mono ?_); (focus ((repeat (first | (with_reducible exact Below.refl _ _) | (with_reducible assumption) | (with_reducible exact bel_box _) | (with_reducible refine bel_step ?_ (by with_reducible assumption)) | (with_reducible refine Below.drew ?_) | (with_reducible refine below_drewN ?_ _) | (with_reducible refine bel_alloc ?_ _))); done)); rintro e w1 ⟨rfl, hb1⟩; obtain ⟨g0, g1, g2, g3, g4, g5, g6⟩ := B1X (w := w) (W := w1) x (by repeat (first | (with_reducible exact Below.refl _ _) | (with_reducible assumption) | (with_reducible exact bel_box _) | (with_reducible refine bel_step ?_ (by with_reducible assumption)) | (with_reducible refine Below.drew ?_) | (with_reducible refine below_drewN ?_ _) | (with_reducible refine bel_alloc ?_ _)))) | (go_at_call 41; (with_reducible refine (KH.out _ ?_).mono ?_); (focus ((repeat (first | (with_reducible exact Below.refl _ _) | (with_reducible assumption) | (with_reducible exact bel_box _) | (with_reducible refine bel_step ?_ (by with_reducible assumption)) | (with_reducible refine Below.drew ?_) | (with_reducible refine below_drewN ?_ _) | (with_reducible refine bel_alloc ?_ _))); done)); rintro e w2 ⟨rfl, hb2⟩; obtain ⟨g0, g1, g2, g3, g4, g5, g6⟩ := B1X (w := w) (W := w2) x (by repeat (first | (with_reducible exact Below.refl _ _) | (with_reducible assumption) | (with_reducible exact bel_box _) | (with_reducible refine bel_step ?_ (by with_reducible assumption)) | (with_reducible refine Below.drew ?_) | (with_reducible refine below_drewN ?_ _) | (with_reducible refine bel_alloc ?_ _)))) | (go_at_call 79; (with_reducible refine (KS.out _ ?_).mono ?_); (focus ((repeat (first | (with_reducible exact Below.refl _ _) | (with_reducible assumption) | (with_reducible exact bel_box _) | (with_reducible refine bel_step ?_ (by with_reducible assumption)) | (with_reducible refine Below.drew ?_) | (with_reducible refine below_drewN ?_ _) | (with_reducible refine bel_alloc ?_ _))); done)); rintro e w3 ⟨rfl, hb3⟩; obtain ⟨g0, g1, g2, g3, g4, g5, g6⟩ := B1X (w := w) (W := w3) x (by repeat (first | (with_reducible exact Below.refl _ _) | (with_reducible assumption) | (with_reducible exact bel_box _) | (with_reducible refine bel_step ?_ (by with_reducible assumption)) | (with_reducible refine Below.drew ?_) | (with_reducible refine below_drewN ?_ _) | (with_reducible refine bel_alloc ?_ _)))))
      go_loopw [5] (fun i wr => ∃ k : Nat, k ≤ x.ar.length ∧ i = .int .i64 (k : Int) ∧ Hid (F k = V) ∧ Below (bxW w x).heap.size (bxW w x) wr) (fun i _ => x.ar.length - (intOf i).toNat)
      case atStart => exact ⟨0, by omega, rfl, HV, (by repeat (first | (with_reducible exact Below.refl _ _) | (with_reducible assumption) | (with_reducible exact bel_box _) | (with_reducible refine bel_step ?_ (by with_reducible assumption)) | (with_reducible refine Below.drew ?_) | (with_reducible refine below_drewN ?_ _) | (with_reducible refine bel_alloc ?_ _)))⟩
      case round =>
        obtain ⟨k, hk, rfl, hK, hbl⟩ := hrel
        obtain ⟨g0, g1, g2, g3, g4, g5, g6⟩ := bxW_cells hbl
        have hBW := bxW_below hbl
        by_cases hlt : k < x.ar.length
        · obtain ⟨ad, y, hA, had, hy, hm, ⟨c0, c1, c2, c3, c4, c5⟩, _⟩ := (HX.out.1.to hBW).at_ hlt
          rw [hA] at g5
          clear hA
          have hst := HF.out k y hy
          have KY := Lib.hid (KR.out y hm)
          clear hy hm HF
          generalize insE E.l y = v at *
          by_cases hv : v = 0
          · subst hv
            rw [orE0] at hst
            have hn : Hid (F (k + 1) = V) := Lib.hid (hst.symm.trans hK.out)
            clear hst hK
            go_wp2_with (go_at_call 71; (with_reducible refine (KY.out _ ?_).mono ?_); (focus ((repeat (first | (with_reducible exact Below.refl _ _) | (with_reducible assumption) | (with_reducible exact bel_box _) | (with_reducible refine bel_step ?_ (by with_reducible assumption)) | (with_reducible refine Below.drew ?_) | (with_reducible refine below_drewN ?_ _) | (with_reducible refine bel_alloc ?_ _))); done)); rintro e w5 ⟨rfl, hb5⟩)
            exact ⟨⟨k + 1, by omega, by congr 1, hn, (by repeat (first | (with_reducible exact Below.refl _ _) | (with_reducible assumption) | (with_reducible exact bel_box _) | (with_reducible refine bel_step ?_ (by with_reducible assumption)) | (with_reducible refine Below.drew ?_) | (with_reducible refine below_drewN ?_ _) | (with_reducible refine bel_alloc ?_ _)))⟩, by simp [intOf]; omega⟩
          · rw [orEn hv] at hst
            obtain rfl : v = V := hst.symm.trans hK.out
            have e0 : (v == 0) = false := by simp [hv]
            clear hst hK hv HV
            go_wp2_with (go_at_call 71; (with_reducible refine (KY.out _ ?_).mono ?_); (focus ((repeat (first | (with_reducible exact Below.refl _ _) | (with_reducible assumption) | (with_reducible exact bel_box _) | (with_reducible refine bel_step ?_ (by with_reducible assumption)) | (with_reducible refine Below.drew ?_) | (with_reducible refine below_drewN ?_ _) | (with_reducible refine bel_alloc ?_ _))); done)); rintro e w5 ⟨rfl, hb5⟩)
            go_ret
            exact ⟨rfl, (by repeat (first | (with_reducible exact Below.refl _ _) | (with_reducible assumption) | (with_reducible exact bel_box _) | (with_reducible refine bel_step ?_ (by with_reducible assumption)) | (with_reducible refine Below.drew ?_) | (with_reducible refine below_drewN ?_ _) | (with_reducible refine bel_alloc ?_ _)))⟩
        · obtain rfl : k = x.ar.length := by omega
          obtain rfl : (0 : Int) = V := HL.out.symm.trans hK.out
          clear hK HF HV HL
          go_wp2
          go_ret
          exact ⟨rfl, hBW⟩
set_option maxHeartbeats 1500000 in
set_option maxRecDepth 20000 in
theorem rv_expr (E : Rw va.En) (x : Xt) (w : World) (hE : RsE w w.heap.size E) (hX : RsX w w.heap.size x) (hs : x.size ≤ 1048576) :
    Calls Tryz.prog 37 #[.slice E.A E.l.length E.c, xV x] w (Bel (.int .i64 (expE E.l x)) w) := by
  have KT := Lib.hid (fun W (h : Below w.heap.size w W) => rv_inside E x W (hE.blw h h.size) (hX.blw h h.size))
  have KC := Lib.hid (fun W (h : Below w.heap.size w W) => rcheck_any wokP x W (hX.blw h h.size).1 hs (nm_ref hX.nmb))
  unfold expE
  generalize insE E.l x = u at *
  generalize chkAll wokP x = v at *
  clear hE hX
  simp only [xV] at KT KC ⊢
  by_cases hv : v = 0
  · subst hv
    rw [orE0]
    go_enter Tryz.func37, Tryz.ntmps37
    go_wp2_with (first | (go_at_call 70; (with_reducible refine (KC.out _ ?_).mono ?_); (focus ((repeat (first | (with_reducible exact Below.refl _ _) | (with_reducible assumption) | (with_reducible exact bel_box _) | (with_reducible refine bel_step ?_ (by with_reducible assumption)) | (with_reducible refine Below.drew ?_) | (with_reducible refine below_drewN ?_ _) | (with_reducible refine bel_alloc ?_ _))); done)); rintro e w1 ⟨rfl, hb1⟩; obtain ⟨g0, g1, g2, g3, g4, g5, g6⟩ := B1X (w := w) (W := w1) x (by repeat (first | (with_reducible exact Below.refl _ _) | (with_reducible assumption) | (with_reducible exact bel_box _) | (with_reducible refine bel_step ?_ (by with_reducible assumption)) | (with_reducible refine Below.drew ?_) | (with_reducible refine below_drewN ?_ _) | (with_reducible refine bel_alloc ?_ _)))) | (go_at_call 71; (with_reducible refine (KT.out _ ?_).mono ?_); (focus ((repeat (first | (with_reducible exact Below.refl _ _) | (with_reducible assumption) | (with_reducible exact bel_box _) | (with_reducible refine bel_step ?_ (by with_reducible assumption)) | (with_reducible refine Below.drew ?_) | (with_reducible refine below_drewN ?_ _) | (with_reducible refine bel_alloc ?_ _))); done)); rintro e w2 ⟨rfl, hb2⟩))
    go_ret
    exact ⟨rfl, (by repeat (first | (with_reducible exact Below.refl _ _) | (with_reducible assumption) | (with_reducible exact bel_box _) | (with_reducible refine bel_step ?_ (by with_reducible assumption)) | (with_reducible refine Below.drew ?_) | (with_reducible refine below_drewN ?_ _) | (with_reducible refine bel_alloc ?_ _)))⟩
  · have q : (v == 0) = false := by simp [hv]
    rw [orEn hv]
    clear hv
    go_enter Tryz.func37, Tryz.ntmps37
    go_wp2_with (first | (go_at_call 70; (with_reducible refine (KC.out _ ?_).mono ?_); (focus ((repeat (first | (with_reducible exact Below.refl _ _) | (with_reducible assumption) | (with_reducible exact bel_box _) | (with_reducible refine bel_step ?_ (by with_reducible assumption)) | (with_reducible refine Below.drew ?_) | (with_reducible refine below_drewN ?_ _) | (with_reducible refine bel_alloc ?_ _))); done)); rintro e w1 ⟨rfl, hb1⟩; obtain ⟨g0, g1, g2, g3, g4, g5, g6⟩ := B1X (w := w) (W := w1) x (by repeat (first | (with_reducible exact Below.refl _ _) | (with_reducible assumption) | (with_reducible exact bel_box _) | (with_reducible refine bel_step ?_ (by with_reducible assumption)) | (with_reducible refine Below.drew ?_) | (with_reducible refine below_drewN ?_ _) | (with_reducible refine bel_alloc ?_ _)))) | (go_at_call 71; (with_reducible refine (KT.out _ ?_).mono ?_); (focus ((repeat (first | (with_reducible exact Below.refl _ _) | (with_reducible assumption) | (with_reducible exact bel_box _) | (with_reducible refine bel_step ?_ (by with_reducible assumption)) | (with_reducible refine Below.drew ?_) | (with_reducible refine below_drewN ?_ _) | (with_reducible refine bel_alloc ?_ _))); done)); rintro e w2 ⟨rfl, hb2⟩))
    go_ret
    exact ⟨rfl, (by repeat (first | (with_reducible exact Below.refl _ _) | (with_reducible assumption) | (with_reducible exact bel_box _) | (with_reducible refine bel_step ?_ (by with_reducible assumption)) | (with_reducible refine Below.drew ?_) | (with_reducible refine below_drewN ?_ _) | (with_reducible refine bel_alloc ?_ _)))⟩
end Go.Proofs.YtoimjcfdiljkjaaGreatDoor
/- Same of both, by the content of a tree. -/
namespace Go.Proofs.YtoimjcfdiljkjaaGreatDoor
set_option linter.unusedVariables false
set_option linter.unusedSimpArgs false
open Go.RowKit Go.Sort
/-- what a tree says, without its addresses -/
inductive Xc where
  | mk (k op t v : Int) (nm : List UInt8) (ar : List Xc)
def Xt.ct (x : Xt) : Xc := .mk x.k x.op x.t x.v x.nm.toList (x.ar.attach.map fun a => Xt.ct a.1)
termination_by SizeOf.sizeOf x
decreasing_by exact Xt.lt_of_mem a.2
end Go.Proofs.YtoimjcfdiljkjaaGreatDoor
/- sameEq, sameState, sameAuto of the program. -/
namespace Go.Proofs.YtoimjcfdiljkjaaGreatDoor
set_option linter.unusedVariables false
set_option linter.unusedSimpArgs false
open Go.RowKit
variable {Bd : Nat}
/-- how many expressions, at most -/
inductive SmS (B : Nat) : St → Prop
  | mk (s : St) (h1 : ∀ q ∈ s.qs.l, q.r.size ≤ B) (h2 : ∀ t ∈ s.un.l, t.cd.size ≤ B) (h3 : ∀ t ∈ s.ut.l, t.cd.size ≤ B) (h4 : ∀ a ∈ s.au.l, ∀ t ∈ a.l, SmS B t) : SmS B s
theorem SmS.of {B : Nat} {s : St} (h : SmS B s) : (∀ q ∈ s.qs.l, q.r.size ≤ B) ∧ (∀ t ∈ s.un.l, t.cd.size ≤ B) ∧ (∀ t ∈ s.ut.l, t.cd.size ≤ B) ∧ ∀ a ∈ s.au.l, ∀ t ∈ a.l, SmS B t := by
  cases h with
  | mk s h1 h2 h3 h4 => exact ⟨h1, h2, h3, h4⟩
end Go.Proofs.YtoimjcfdiljkjaaGreatDoor
/- The text of a program. -/
namespace Go.Proofs.YtoimjcfdiljkjaaGreatDoor
set_option linter.unusedVariables false
set_option linter.unusedSimpArgs false
open Go.RowKit Go.Sort
/-- the text of a program -/
def enmS (e : va.En) : List UInt8 := linS 0 ([116, 121, 112, 101, 32] ++ bsT e.name ++ [32, 61, 32] ++ Lib.join (e.tags.map bsT) [32, 124, 32] ++ [59])
def nodeS (es : List va.En) (x : Nt) : List UInt8 := linS 0 ([110, 111, 100, 101, 32] ++ bsT x.nm ++ [40] ++ dcsS es x.ins.l ++ [41, 32, 114, 101, 116, 117, 114, 110, 115, 32, 40] ++ dcsS es x.outs.l ++ [41]) ++ lcsS es 1 x.locs.l ++ cmsS es ⟨#[97, 115, 115, 117, 109, 101, 32]⟩ x.asm.l ++ cmsS es ⟨#[101, 110, 115, 117, 114, 101, 32]⟩ x.ens.l ++ linS 0 [108, 101, 116] ++ (x.qs.l.map (eq1S es 1)).flatten ++ (x.au.l.map (auS es 1)).flatten ++ linS 0 [116, 101, 108]
def prgS (p : Pt) : List UInt8 := (p.es.l.map enmS).flatten ++ (p.ns.l.map (nodeS p.es.l)).flatten
theorem rd_of_rdr_inv {w : World} {B : Nat} {A : Option Addr} {c : Nat} {l : List ByteArray} (h : Rd w B A (va.ss l)) (h1 : l.length ≤ maxLen) (h2 : l.length ≤ c) : RdR w B 1 BC ⟨A, c, l⟩ := by
  have hne : l ≠ [] → va.ss l ≠ [] := by
    cases l with
    | nil => intro h; exact absurd rfl h
    | cons a b => intro _; simp [va.ss]
  refine ⟨fun hn => ?_, fun ad i y hA hy => ?_, h1, h2⟩
  · obtain ⟨ad, e, hb, _⟩ := h (hne hn)
    exact ⟨ad, e, hb⟩
  · obtain ⟨ad', e, _, hc⟩ := h (hne (by rintro rfl; simp at hy))
    obtain rfl : ad = ad' := Option.some.inj (hA.symm.trans e)
    unfold BC
    rw [Nat.mul_one]
    exact hc i _ (by rw [va.ss, List.getElem?_map, hy]; rfl)
end Go.Proofs.YtoimjcfdiljkjaaGreatDoor
/- Program, Expr, Clock of the reference. -/
namespace Go.Proofs.YtoimjcfdiljkjaaGreatDoor
set_option linter.unusedVariables false
set_option linter.unusedSimpArgs false
open Go.RowKit Go.Sort
set_option maxHeartbeats 2000000 in
set_option maxRecDepth 20000 in
theorem vr_Expr (E : Rw va.En) (x : Xt) (w : World) (hE : RsE w w.heap.size E) (hX : RsX w w.heap.size x) (hsz : x.size ≤ 1048576) (hwf : expE E.l x = 0 → (∀ y ∈ x.list, wfK y) ∧ (x.tx E.l).length ≤ 140737488355328) :
    Calls Tryz.prog 14 #[.slice E.A E.l.length E.c, xV x] w (Bel (.tuple #[.string (if expE E.l x = 0 then tB (x.tx E.l) else ⟨#[]⟩), .int .i64 (expE E.l x)]) w) := by
  have KE : Hid (∀ W, Below w.heap.size w W → Calls Tryz.prog 37 #[.slice E.A E.l.length E.c, xV x] W (Bel (.int .i64 (expE E.l x)) W)) := Lib.hid fun W h => rv_expr E x W (hE.blw h h.size) (hX.blw h h.size) hsz
  have KX : Hid (expE E.l x = 0 → ∀ W, Below w.heap.size w W → Calls Tryz.prog 38 #[.slice E.A E.l.length E.c, xV x] W (Bel (.string (tB (x.tx E.l))) W)) := Lib.hid fun h0 W h =>
    vr_text E x (hwf h0).1 W (hE.blw h h.size) (hX.blw h h.size).1 (hwf h0).2
  clear hE hX hwf hsz
  generalize tB (x.tx E.l) = z at *
  generalize expE E.l x = v at *
  simp only [xV] at KE KX ⊢
  by_cases h0 : v = 0
  · subst h0
    have KX2 := Lib.hid (KX.out rfl)
    clear KX
    rw [if_pos rfl]
    go_enter Tryz.func14, Tryz.ntmps14
    go_wp2_with (first | (go_at_call 37; (with_reducible refine (KE.out _ ?_).mono ?_); (focus ((repeat (first | (with_reducible exact Below.refl _ _) | (with_reducible assumption) | (with_reducible exact bel_box _) | (with_reducible refine bel_step ?_ (by with_reducible assumption)) | (with_reducible refine Below.drew ?_) | (with_reducible refine below_drewN ?_ _) | (with_reducible refine bel_alloc ?_ _))); done)); rintro e w1 ⟨rfl, hb1⟩; obtain ⟨g0, g1, g2, g3, g4, g5, _⟩ := B1X x (w := w) (W := w1) (by repeat (first | (with_reducible exact Below.refl _ _) | (with_reducible assumption) | (with_reducible exact bel_box _) | (with_reducible refine bel_step ?_ (by with_reducible assumption)) | (with_reducible refine Below.drew ?_) | (with_reducible refine below_drewN ?_ _) | (with_reducible refine bel_alloc ?_ _)))) | (go_at_call 38; (with_reducible refine (KX2.out _ ?_).mono ?_); (focus ((repeat (first | (with_reducible exact Below.refl _ _) | (with_reducible assumption) | (with_reducible exact bel_box _) | (with_reducible refine bel_step ?_ (by with_reducible assumption)) | (with_reducible refine Below.drew ?_) | (with_reducible refine below_drewN ?_ _) | (with_reducible refine bel_alloc ?_ _))); done)); rintro e w2 ⟨rfl, hb2⟩))
    go_ret2
    exact ⟨rfl, (by repeat (first | (with_reducible exact Below.refl _ _) | (with_reducible assumption) | (with_reducible exact bel_box _) | (with_reducible refine bel_step ?_ (by with_reducible assumption)) | (with_reducible refine Below.drew ?_) | (with_reducible refine below_drewN ?_ _) | (with_reducible refine bel_alloc ?_ _)))⟩
  · have q0 : (v != 0) = true := by simp [h0]
    have q1 : (v == 0) = false := by simp [h0]
    rw [if_neg h0]
    clear h0 KX
    go_enter Tryz.func14, Tryz.ntmps14
    go_wp2_with (go_at_call 37; (with_reducible refine (KE.out _ ?_).mono ?_); (focus ((repeat (first | (with_reducible exact Below.refl _ _) | (with_reducible assumption) | (with_reducible exact bel_box _) | (with_reducible refine bel_step ?_ (by with_reducible assumption)) | (with_reducible refine Below.drew ?_) | (with_reducible refine below_drewN ?_ _) | (with_reducible refine bel_alloc ?_ _))); done)); rintro e w1 ⟨rfl, hb1⟩)
    go_ret2
    exact ⟨rfl, (by repeat (first | (with_reducible exact Below.refl _ _) | (with_reducible assumption) | (with_reducible exact bel_box _) | (with_reducible refine bel_step ?_ (by with_reducible assumption)) | (with_reducible refine Below.drew ?_) | (with_reducible refine below_drewN ?_ _) | (with_reducible refine bel_alloc ?_ _)))⟩
end Go.Proofs.YtoimjcfdiljkjaaGreatDoor
/- The writer's text: String of the builder that is its last field. -/
namespace Go.Proofs.YtoimjcfdiljkjaaGreatDoor
set_option linter.unusedVariables false
set_option linter.unusedSimpArgs false
open Go.RowKit Go.Sort
set_option maxHeartbeats 1000000 in
set_option maxRecDepth 100000 in
theorem wr_text (B b m : Nat) (E : Rw va.En) (l : List UInt8) (w : World) (h : Wr B b E m (Lib.byteCells l) w) (h0 : l ≠ []) :
    Calls Tryz.prog 26 #[.pointer (some ⟨b, 2, none⟩)] w fun e w' => e = .returned (.string (tB l)) ∧ Below B w w' := by
  obtain ⟨p, hB, v, hbk, hown, hne⟩ : ∃ p, WrP B b E m p (Lib.byteCells l) w := by
    rcases h with h | h
    · exact ⟨_, h⟩
    · exact ⟨_, h⟩
  have hl0 : l.length ≠ 0 := by simpa using h0
  rw [Lib.byteCells_length] at hown
  obtain ⟨g, cap, cur, rfl, hbg, hg, hnc, hcm, hcs, htake⟩ : ∃ g cap cur, v = .slice (some ⟨g, 0, none⟩) l.length cap ∧ B ≤ g ∧ w.heap[g]? = some (.cells cur 5 (0, 0)) ∧ l.length ≤ cap ∧ cap ≤ maxLen ∧ cur.size = cap * 1 ∧ cur.toList.take (l.length * 1) = Lib.byteCells l := by
    rcases hown.2 with ⟨_, hz⟩ | ⟨g, cap, cur, hv, r⟩
    · exact absurd hz hl0
    · exact ⟨g, cap, cur, hv, r⟩
  have c3 : w.drew.cell? ⟨b, 3, none⟩ = some (.slice (some ⟨g, 0, none⟩) l.length cap) := by
    have : w.drew.heap[b]? = some (.cells #[.slice E.A E.l.length E.c, .map (some m), p, .slice (some ⟨g, 0, none⟩) l.length cap] 71 (0, 0)) := hbk
    rw [Lib.cell_of_heap this]; rfl
  have hSD : (Builtin.unsafeSliceData_ #[67] 112 #[.slice (some ⟨g, 0, none⟩) l.length cap]).run Tryz.prog w.drew = .ok (.pointer (some ⟨g, 0, none⟩)) w.drew :=
    Lib.run_unsafeSliceData_row _ _ _ _ _ _ (by omega)
  have hUS : (Builtin.unsafeString_ #[112, 3] 9 #[.pointer (some ⟨g, 0, none⟩), .int .i64 l.length]).run Tryz.prog w.drew = .ok (.string (tB l)) (w.drew.freeze ⟨g, 0, none⟩ l.length) := by
    refine Lib.run_unsafeString_row w.drew 112 3 9 5 Tryz.underlying112 (by kernel_rfl) g cur.size (by have hg' : w.drew.heap[g]? = some (.cells cur 5 (0, 0)) := hg; simp [World.shape?, hg']) l h0 (by omega) (by unfold maxLen at hcm; omega) ?_
    intro j x hx
    have := hown.cells (g := g) rfl j (.int .u8 x.toNat) (by simp [Lib.byteCells, hx])
    exact this
  clear h hbk hown hne hg htake hcs
  go_enter Tryz.func26, Tryz.ntmps26
  go_wp2
  go_region
  all_goals (go_wp2; go_ret; exact ⟨rfl, Lib.below_freeze (Below.drew (Below.refl B w)) (p := ⟨g, 0, none⟩) hbg _⟩)
end Go.Proofs.YtoimjcfdiljkjaaGreatDoor
/- Expr, Clock of the program. -/
namespace Go.Proofs.YtoimjcfdiljkjaaGreatDoor
set_option linter.unusedVariables false
set_option linter.unusedSimpArgs false
open Go.RowKit Go.Sort
set_option maxHeartbeats 2000000 in
set_option maxRecDepth 20000 in
theorem sw_Expr (E : Rw va.En) (x : Xt) (w : World) (hs : Std w) (hE : RsE w w.heap.size E) (hX : RsX w w.heap.size x) (hwf : expE E.l x = 0 → (∀ y ∈ x.list, wfX y) ∧ (x.tx E.l).length ≤ 140737488355328) :
    Calls Tryz.prog 13 #[.slice E.A E.l.length E.c, xV x] w (Bel (.tuple #[.string (if expE E.l x = 0 then tB (x.tx E.l) else ⟨#[]⟩), .int .i64 (expE E.l x)]) w) := by
  have KE : Hid (∀ W, Below w.heap.size w W → Calls Tryz.prog 35 #[.slice E.A E.l.length E.c, xV x] W (Bel (.int .i64 (expE E.l x)) W)) := Lib.hid fun W h => sh_Expr E x W (hs.to h) (hE.blw h h.size) (hX.blw h h.size)
  have KN := Lib.hid (fun W => new_any E W)
  have KX : Hid (expE E.l x = 0 → ∀ b W, Below w.heap.size w W → SymM W b → Calls Tryz.prog 36 #[phV E b, xV x] W (Bel (.string (tB (x.tx E.l))) W)) := Lib.hid fun h0 b W h hM =>
    ph_expr E b x (hwf h0).1 W (hs.to h) (hE.blw h h.size) hM (hX.blw h h.size).1 (hwf h0).2
  clear hs hE hX hwf
  generalize tB (x.tx E.l) = z at *
  generalize expE E.l x = v at *
  simp only [xV] at KE KX ⊢
  by_cases h0 : v = 0
  · subst h0
    have KX2 := Lib.hid (KX.out rfl)
    clear KX
    rw [if_pos rfl]
    go_enter Tryz.func13, Tryz.ntmps13
    go_wp2_with (go_at_call 35; (with_reducible refine (KE.out _ ?_).mono ?_); (focus ((repeat (first | (with_reducible exact Below.refl _ _) | (with_reducible assumption) | (with_reducible exact bel_box _) | (with_reducible refine bel_step ?_ (by with_reducible assumption)) | (with_reducible refine Below.drew ?_) | (with_reducible refine below_drewN ?_ _) | (with_reducible refine bel_alloc ?_ _))); done)); rintro e w1 ⟨rfl, hb1⟩; obtain ⟨g0, g1, g2, g3, g4, g5, _⟩ := B1X x (w := w) (W := w1) (by repeat (first | (with_reducible exact Below.refl _ _) | (with_reducible assumption) | (with_reducible exact bel_box _) | (with_reducible refine bel_step ?_ (by with_reducible assumption)) | (with_reducible refine Below.drew ?_) | (with_reducible refine below_drewN ?_ _) | (with_reducible refine bel_alloc ?_ _))); have hB1 : Below w.heap.size w w1 := (by repeat (first | (with_reducible exact Below.refl _ _) | (with_reducible assumption) | (with_reducible exact bel_box _) | (with_reducible refine bel_step ?_ (by with_reducible assumption)) | (with_reducible refine Below.drew ?_) | (with_reducible refine below_drewN ?_ _) | (with_reducible refine bel_alloc ?_ _))))
    go_region_with
      (first
        | (go_at_call 23; (with_reducible refine (KN.out _).mono ?_); rintro e w2 ⟨b, rfl, hM2, hb2⟩; have hX2 : Below w1.heap.size w1 w2 := (by repeat (first | (with_reducible exact Below.refl _ _) | (with_reducible assumption) | (with_reducible exact bel_box _) | (with_reducible refine bel_step ?_ (by with_reducible assumption)) | (with_reducible refine Below.drew ?_) | (with_reducible refine below_drewN ?_ _) | (with_reducible refine bel_alloc ?_ _))); have hB2 : Below w.heap.size w w2 := hB1.trans (hX2.mono hB1.size); have f0 := cell_below hX2 g0; have f1 := cell_below hX2 g1; have f2 := cell_below hX2 g2; have f3 := cell_below hX2 g3; have f4 := cell_below hX2 g4; have f5 := cell_below hX2 g5)
        | (go_at_call 36; (with_reducible refine (KX2.out _ _ hB2 hM2).mono ?_); rintro e w3 ⟨rfl, hb3⟩))
    all_goals (go_wp2; go_ret2; exact ⟨rfl, hB2.trans (hb3.mono hB2.size)⟩)
  · have q0 : (v != 0) = true := by simp [h0]
    have q1 : (v == 0) = false := by simp [h0]
    rw [if_neg h0]
    clear h0 KX
    go_enter Tryz.func13, Tryz.ntmps13
    go_wp2_with (go_at_call 35; (with_reducible refine (KE.out _ ?_).mono ?_); (focus ((repeat (first | (with_reducible exact Below.refl _ _) | (with_reducible assumption) | (with_reducible exact bel_box _) | (with_reducible refine bel_step ?_ (by with_reducible assumption)) | (with_reducible refine Below.drew ?_) | (with_reducible refine below_drewN ?_ _) | (with_reducible refine bel_alloc ?_ _))); done)); rintro e w1 ⟨rfl, hb1⟩)
    go_ret2
    exact ⟨rfl, (by repeat (first | (with_reducible exact Below.refl _ _) | (with_reducible assumption) | (with_reducible exact bel_box _) | (with_reducible refine bel_step ?_ (by with_reducible assumption)) | (with_reducible refine Below.drew ?_) | (with_reducible refine below_drewN ?_ _) | (with_reducible refine bel_alloc ?_ _)))⟩
def clkB (es : List va.En) (l : List Ot) : Bool := l.all fun o => va.hasB es o.t o.tag
set_option maxHeartbeats 2000000 in
set_option maxRecDepth 20000 in
theorem sw_Clock (E : Rw va.En) (r : Rw Ot) (w : World) (hs : Std w) (hE : RsE w w.heap.size E) (hR : RsO w w.heap.size r) (hl : r.l.length ≤ 17592186044416) (hlen : clkB E.l r.l = true → (clkS E.l r.l).length ≤ 140737488355328) :
    Calls Tryz.prog 15 #[.slice E.A E.l.length E.c, .slice r.A r.l.length r.c] w (Bel (.tuple #[.string (if clkB E.l r.l = true then tB (clkS E.l r.l) else ⟨#[]⟩), .int .i64 (if clkB E.l r.l = true then 0 else 5)]) w) := by
  have KH : Hid (∀ y ∈ r.l, ∀ W, Below w.heap.size w W → Calls Tryz.prog 39 #[.slice E.A E.l.length E.c, .int .i64 y.t, .int .i64 y.tag] W (Bel (.bool (va.hasB E.l y.t y.tag)) W)) := Lib.hid fun y hy W h => va.has_any E.A E.c E.l y.t y.tag W (hE.blw h h.size).1 hE.len (hR.2 y hy).2
  have KN := Lib.hid (fun W => new_any E W)
  have KC : Hid (clkB E.l r.l = true → ∀ b W, Below w.heap.size w W → SymM W b → Calls Tryz.prog 40 #[phV E b, .slice r.A r.l.length r.c] W (Bel (.string (tB (clkS E.l r.l))) W)) := Lib.hid fun h0 b W h hM =>
    ph_clock E b r W (hs.to h) (hE.blw h h.size) (hR.blw h h.size) hl (hlen h0)
  have HR := Lib.hid hR.1
  have HA : Hid (∀ (k : Nat) (y : Ot), r.l[k]? = some y → va.hasB E.l y.t y.tag = false → clkB E.l r.l = false) := Lib.hid fun k y hy h => by
    unfold clkB
    rw [← Bool.not_eq_true, List.all_eq_true]
    intro hh
    have := hh y (List.mem_of_getElem? hy)
    rw [h] at this
    cases this
  have HT : Hid ((∀ y ∈ r.l, va.hasB E.l y.t y.tag = true) → clkB E.l r.l = true) := Lib.hid fun h => by
    unfold clkB
    rw [List.all_eq_true]
    exact h
  generalize clkB E.l r.l = b at *
  generalize tB (clkS E.l r.l) = z at *
  clear hs hE hR hlen
  obtain ⟨s, hs⟩ : ∃ s, (if b = true then z else ⟨#[]⟩) = s := ⟨_, rfl⟩
  obtain ⟨er, her⟩ : ∃ er : Int, (if b = true then 0 else 5) = er := ⟨_, rfl⟩
  rw [hs, her]
  have HS1 : Hid (b = true → s = z ∧ er = 0) := Lib.hid fun h => by subst h; exact ⟨hs.symm, her.symm⟩
  have HS0 : Hid (b = false → s = ⟨#[]⟩ ∧ er = 5) := Lib.hid fun h => by subst h; exact ⟨hs.symm, her.symm⟩
  clear hs her
  go_enter Tryz.func15, Tryz.ntmps15
  go_wp2
  go_loopw [10] (fun i wr => ∃ k : Nat, k ≤ r.l.length ∧ i = .int .i64 (k : Int) ∧ Hid (∀ (j : Nat) (y : Ot), j < k → r.l[j]? = some y → va.hasB E.l y.t y.tag = true) ∧ Below w.heap.size w wr) (fun i _ => r.l.length - (intOf i).toNat)
  case atStart => exact ⟨0, by omega, rfl, Lib.hid (fun j y h => by omega), Below.refl _ _⟩
  case round =>
    obtain ⟨k, hk, rfl, hA, hbl⟩ := hrel
    by_cases hlt : k < r.l.length
    · obtain ⟨ad, y, hAd, had, hy, hm, ⟨c0, c1, c2⟩⟩ := (HR.out.blw oneB_O hbl hbl.size).at_ hlt
      have KY := Lib.hid (KH.out y hm)
      have HY := Lib.hid (HA.out k y hy)
      have HY2 : Hid (va.hasB E.l y.t y.tag = true → ∀ (j : Nat) (u : Ot), j < k + 1 → r.l[j]? = some u → va.hasB E.l u.t u.tag = true) := Lib.hid fun h j u hj hu => by
        rcases Nat.lt_or_ge j k with h1 | h1
        · exact hA.out j u h1 hu
        · obtain rfl : j = k := by omega
          obtain rfl : y = u := Option.some.inj (hy.symm.trans hu)
          exact h
      rw [hAd]
      clear hAd hy hm hA HA HT KC
      generalize va.hasB E.l y.t y.tag = q at *
      cases q
      · have hb0 : b = false := HY.out rfl
        obtain ⟨rfl, rfl⟩ := HS0.out hb0
        clear HS0 HS1 hb0 HY HY2
        go_wp2_with (go_at_call 39; (with_reducible refine (KY.out _ ?_).mono ?_); (focus ((repeat (first | (with_reducible exact Below.refl _ _) | (with_reducible assumption) | (with_reducible exact bel_box _) | (with_reducible refine bel_step ?_ (by with_reducible assumption)) | (with_reducible refine Below.drew ?_) | (with_reducible refine below_drewN ?_ _) | (with_reducible refine bel_alloc ?_ _))); done)); rintro e w1 ⟨rfl, hb1⟩)
        go_ret2
        exact ⟨rfl, (by repeat (first | (with_reducible exact Below.refl _ _) | (with_reducible assumption) | (with_reducible exact bel_box _) | (with_reducible refine bel_step ?_ (by with_reducible assumption)) | (with_reducible refine Below.drew ?_) | (with_reducible refine below_drewN ?_ _) | (with_reducible refine bel_alloc ?_ _)))⟩
      · go_wp2_with (go_at_call 39; (with_reducible refine (KY.out _ ?_).mono ?_); (focus ((repeat (first | (with_reducible exact Below.refl _ _) | (with_reducible assumption) | (with_reducible exact bel_box _) | (with_reducible refine bel_step ?_ (by with_reducible assumption)) | (with_reducible refine Below.drew ?_) | (with_reducible refine below_drewN ?_ _) | (with_reducible refine bel_alloc ?_ _))); done)); rintro e w1 ⟨rfl, hb1⟩)
        exact ⟨⟨k + 1, by omega, by congr 1, Lib.hid (HY2.out (by first | trivial | rfl)), (by repeat (first | (with_reducible exact Below.refl _ _) | (with_reducible assumption) | (with_reducible exact bel_box _) | (with_reducible refine bel_step ?_ (by with_reducible assumption)) | (with_reducible refine Below.drew ?_) | (with_reducible refine below_drewN ?_ _) | (with_reducible refine bel_alloc ?_ _)))⟩, by simp [intOf]; omega⟩
    · obtain rfl : k = r.l.length := by omega
      have hb1 : b = true := HT.out fun y hy => by
        obtain ⟨j, hj⟩ := List.getElem?_of_mem hy
        exact hA.out j y (List.getElem?_eq_some_iff.1 hj).1 hj
      obtain ⟨rfl, rfl⟩ := HS1.out hb1
      have KC2 := Lib.hid (KC.out hb1)
      clear HS0 HS1 hb1
      clear HT HA hA KC
      go_wp2_with (first
        | (go_at_call 23; (with_reducible refine (KN.out _).mono ?_); rintro e w2 ⟨b, rfl, hM2, hb2⟩; have hB2 : Below w.heap.size w w2 := (by repeat (first | (with_reducible exact Below.refl _ _) | (with_reducible assumption) | (with_reducible exact bel_box _) | (with_reducible refine bel_step ?_ (by with_reducible assumption)) | (with_reducible refine Below.drew ?_) | (with_reducible refine below_drewN ?_ _) | (with_reducible refine bel_alloc ?_ _))))
        | (go_at_call 40; (with_reducible refine (KC2.out _ _ hB2 hM2).mono ?_); rintro e w3 ⟨rfl, hb3⟩))
      go_ret2
      exact ⟨rfl, hB2.trans (hb3.mono hB2.size)⟩
end Go.Proofs.YtoimjcfdiljkjaaGreatDoor
/- Clock of the reference. -/
namespace Go.Proofs.YtoimjcfdiljkjaaGreatDoor
set_option linter.unusedVariables false
set_option linter.unusedSimpArgs false
open Go.RowKit Go.Sort
set_option maxHeartbeats 2000000 in
set_option maxRecDepth 20000 in
theorem vr_Clock (E : Rw va.En) (r : Rw Ot) (w : World) (hE : RsE w w.heap.size E) (hR : RsO w w.heap.size r) (hl : r.l.length ≤ 1048576) (hlen : clkB E.l r.l = true → (clkS E.l r.l).length ≤ 140737488355328) :
    Calls Tryz.prog 16 #[.slice E.A E.l.length E.c, .slice r.A r.l.length r.c] w (Bel (.tuple #[.string (if clkB E.l r.l = true then tB (clkS E.l r.l) else ⟨#[]⟩), .int .i64 (if clkB E.l r.l = true then 0 else 5)]) w) := by
  have KH : Hid (∀ y ∈ r.l, ∀ W, Below w.heap.size w W → Calls Tryz.prog 41 #[.slice E.A E.l.length E.c, .int .i64 y.t, .int .i64 y.tag] W (Bel (.bool (va.hasB E.l y.t y.tag)) W)) := Lib.hid fun y hy W h => va.rhas_any E.A E.c E.l y.t y.tag W (hE.blw h h.size).1 hE.len (hR.2 y hy).2
  have KC : Hid (clkB E.l r.l = true → ∀ W, Below w.heap.size w W → Calls Tryz.prog 42 #[.slice E.A E.l.length E.c, .slice r.A r.l.length r.c] W (Bel (.string (tB (clkS E.l r.l))) W)) := Lib.hid fun h0 W h =>
    vr_clock E r W (hE.blw h h.size) (hR.blw h h.size) hl (hlen h0)
  have HR := Lib.hid hR.1
  have HA : Hid (∀ (k : Nat) (y : Ot), r.l[k]? = some y → va.hasB E.l y.t y.tag = false → clkB E.l r.l = false) := Lib.hid fun k y hy h => by
    unfold clkB
    rw [← Bool.not_eq_true, List.all_eq_true]
    intro hh
    have := hh y (List.mem_of_getElem? hy)
    rw [h] at this
    cases this
  have HT : Hid ((∀ y ∈ r.l, va.hasB E.l y.t y.tag = true) → clkB E.l r.l = true) := Lib.hid fun h => by
    unfold clkB
    rw [List.all_eq_true]
    exact h
  generalize clkB E.l r.l = b at *
  generalize tB (clkS E.l r.l) = z at *
  clear hE hR hlen
  obtain ⟨s, hs⟩ : ∃ s, (if b = true then z else ⟨#[]⟩) = s := ⟨_, rfl⟩
  obtain ⟨er, her⟩ : ∃ er : Int, (if b = true then 0 else 5) = er := ⟨_, rfl⟩
  rw [hs, her]
  have HS1 : Hid (b = true → s = z ∧ er = 0) := Lib.hid fun h => by subst h; exact ⟨hs.symm, her.symm⟩
  have HS0 : Hid (b = false → s = ⟨#[]⟩ ∧ er = 5) := Lib.hid fun h => by subst h; exact ⟨hs.symm, her.symm⟩
  clear hs her
  go_enter Tryz.func16, Tryz.ntmps16
  go_wp2
  go_loopw [6] (fun i wr => ∃ k : Nat, k ≤ r.l.length ∧ i = .int .i64 (k : Int) ∧ Hid (∀ (j : Nat) (y : Ot), j < k → r.l[j]? = some y → va.hasB E.l y.t y.tag = true) ∧ Below w.heap.size w wr) (fun i _ => r.l.length - (intOf i).toNat)
  case atStart => exact ⟨0, by omega, rfl, Lib.hid (fun j y h => by omega), Below.refl _ _⟩
  case round =>
    obtain ⟨k, hk, rfl, hA, hbl⟩ := hrel
    by_cases hlt : k < r.l.length
    · obtain ⟨ad, y, hAd, had, hy, hm, ⟨c0, c1, c2⟩⟩ := (HR.out.blw oneB_O hbl hbl.size).at_ hlt
      have KY := Lib.hid (KH.out y hm)
      have HY := Lib.hid (HA.out k y hy)
      have HY2 : Hid (va.hasB E.l y.t y.tag = true → ∀ (j : Nat) (u : Ot), j < k + 1 → r.l[j]? = some u → va.hasB E.l u.t u.tag = true) := Lib.hid fun h j u hj hu => by
        rcases Nat.lt_or_ge j k with h1 | h1
        · exact hA.out j u h1 hu
        · obtain rfl : j = k := by omega
          obtain rfl : y = u := Option.some.inj (hy.symm.trans hu)
          exact h
      rw [hAd]
      have hik : (k : Int) < (r.l.length : Int) := by omega
      clear hAd hy hm hA HA HT KC
      generalize va.hasB E.l y.t y.tag = q at *
      cases q
      · have hb0 : b = false := HY.out rfl
        obtain ⟨rfl, rfl⟩ := HS0.out hb0
        clear HS0 HS1 hb0 HY HY2
        go_wp2
        have q_c1 := cell_regrown c1
        have q_c2 := cell_regrown c2
        have k_0 := fun dd os => Calls.regrown_of (KY.out (grow (redrawn wr dd) os) (hbl.trans ((below_regrown wr dd os).mono hbl.size)))
        refine wp_region_quiet_below (by kernel_rfl) (by kernel_rfl) ?_
        repeat (quiet_step (first | with_reducible exact k_0 _ _))
        refine wpQuiet_nil ?_
        intro _ hw'
        obtain ⟨⟨dq, osq⟩, hw''⟩ := hw'
        subst hw''
        have hrw9 : Below wr.heap.size wr (grow (redrawn wr dq) osq) := below_regrown wr dq osq
        have hw9 : Below w.heap.size w (grow (redrawn wr dq) osq) := hbl.trans (hrw9.mono hbl.size)
        generalize grow (redrawn wr dq) osq = w9 at hw9 hrw9 ⊢
        clear q_c1 q_c2 k_0
        go_wp2
        go_ret2
        exact ⟨rfl, hw9⟩
      · go_wp2
        have q_c1 := cell_regrown c1
        have q_c2 := cell_regrown c2
        have k_0 := fun dd os => Calls.regrown_of (KY.out (grow (redrawn wr dd) os) (hbl.trans ((below_regrown wr dd os).mono hbl.size)))
        refine wp_region_quiet_below (by kernel_rfl) (by kernel_rfl) ?_
        repeat (quiet_step (first | with_reducible exact k_0 _ _))
        refine wpQuiet_nil ?_
        intro _ hw'
        obtain ⟨⟨dq, osq⟩, hw''⟩ := hw'
        subst hw''
        have hrw9 : Below wr.heap.size wr (grow (redrawn wr dq) osq) := below_regrown wr dq osq
        have hw9 : Below w.heap.size w (grow (redrawn wr dq) osq) := hbl.trans (hrw9.mono hbl.size)
        generalize grow (redrawn wr dq) osq = w9 at hw9 hrw9 ⊢
        clear q_c1 q_c2 k_0
        go_wp2
        exact ⟨⟨k + 1, by omega, by congr 1, Lib.hid (HY2.out (by first | trivial | rfl)), hw9⟩, by simp [intOf]; omega⟩
    · obtain rfl : k = r.l.length := by omega
      have hb1 : b = true := HT.out fun y hy => by
        obtain ⟨j, hj⟩ := List.getElem?_of_mem hy
        exact hA.out j y (List.getElem?_eq_some_iff.1 hj).1 hj
      obtain ⟨rfl, rfl⟩ := HS1.out hb1
      have KC2 := Lib.hid (KC.out hb1)
      clear HS0 HS1 hb1 HT HA hA KC
      go_wp2_with (go_at_call 42; (with_reducible refine (KC2.out _ ?_).mono ?_); (focus ((repeat (first | (with_reducible exact Below.refl _ _) | (with_reducible assumption) | (with_reducible exact bel_box _) | (with_reducible refine bel_step ?_ (by with_reducible assumption)) | (with_reducible refine Below.drew ?_) | (with_reducible refine below_drewN ?_ _) | (with_reducible refine bel_alloc ?_ _))); done)); rintro e w3 ⟨rfl, hb3⟩)
      go_ret2
      exact ⟨rfl, (by repeat (first | (with_reducible exact Below.refl _ _) | (with_reducible assumption) | (with_reducible exact bel_box _) | (with_reducible refine bel_step ?_ (by with_reducible assumption)) | (with_reducible refine Below.drew ?_) | (with_reducible refine below_drewN ?_ _) | (with_reducible refine bel_alloc ?_ _)))⟩
end Go.Proofs.YtoimjcfdiljkjaaGreatDoor
/- Program of the program. -/
namespace Go.Proofs.YtoimjcfdiljkjaaGreatDoor
set_option linter.unusedVariables false
set_option linter.unusedSimpArgs false
open Go.RowKit Go.Sort
/-- what the writer asks of a node -/
structure NdW (x : Nt) : Prop where
  ds : ∀ r : Rw Dt, r = x.ins ∨ r = x.outs ∨ r = x.locs → r.l.length ≤ 17592186044416 ∧ ∀ d ∈ r.l, d.ck.l.length ≤ 17592186044416
  qs : ∀ q ∈ x.qs.l, wfQ q
  cs : ∀ r : Rw Xt, r = x.asm ∨ r = x.ens → ∀ y ∈ r.l, ∀ z ∈ y.list, wfX z
  au : ∀ a ∈ x.au.l, ∀ t ∈ a.l, WfS a.l.length t
theorem lin_ne (n : Nat) (s : List UInt8) : linS n s ≠ [] := by
  unfold linS
  simp
theorem enm_ne (e : va.En) : enmS e ≠ [] := lin_ne _ _
theorem node_ne (es : List va.En) (x : Nt) : nodeS es x ≠ [] := by
  unfold nodeS
  simp [lin_ne]
/-- a writer that has not written -/
def Fre (b : Nat) (E : Rw va.En) (m : Nat) (w : World) : Prop := w.heap[b]? = some (.cells #[.slice E.A E.l.length E.c, .map (some m), .pointer none, .slice none 0 0] 71 (0, 0))
set_option maxHeartbeats 1000000 in
set_option maxRecDepth 100000 in
theorem wr_text0 (B b m : Nat) (E : Rw va.En) (w : World) (h : Fre b E m w) :
    Calls Tryz.prog 26 #[.pointer (some ⟨b, 2, none⟩)] w fun e w' => e = .returned (.string (tB [])) ∧ Below B w w' := by
  have c3 : w.drew.cell? ⟨b, 3, none⟩ = some (.slice none 0 0) := by
    have : w.drew.heap[b]? = some (.cells #[.slice E.A E.l.length E.c, .map (some m), .pointer none, .slice none 0 0] 71 (0, 0)) := h
    rw [Lib.cell_of_heap this]; rfl
  have hSD : (Builtin.unsafeSliceData_ #[67] 112 #[.slice none 0 0]).run Tryz.prog w.drew = .ok (.pointer none) w.drew := Lib.run_unsafeSliceData_nil _ _ _ _ _
  have hUS : (Builtin.unsafeString_ #[112, 3] 9 #[.pointer none, .int .i64 0]).run Tryz.prog w.drew = .ok (.string (tB [])) w.drew := Lib.run_unsafeString_none _ _ _ _ _
  clear h
  go_enter Tryz.func26, Tryz.ntmps26
  go_wp2
  go_region
  all_goals (go_wp2; go_ret; exact ⟨rfl, Below.drew (Below.refl B w)⟩)
set_option maxHeartbeats 2000000 in
set_option maxRecDepth 20000 in
theorem sw_Program (p : Pt) (w : World) (hs : Std w) (hp : RsP w w.heap.size p) (hwf : (chkE p).2 = 0 → ((∀ e ∈ p.es.l, e.tags.length ≤ 17592186044416) ∧ ∀ n ∈ p.ns.l, NdW n) ∧ (prgS p).length ≤ 140737488355328) :
    Calls Tryz.prog 9 #[pV p] w (Bel (.tuple #[.string (if (chkE p).2 = 0 then tB (prgS p) else ⟨#[]⟩), .int .i64 (chkE p).2]) w) := by
  have KC : Hid (∀ W, Below w.heap.size w W → Calls Tryz.prog 22 #[pV p] W (Bel (.tuple #[.agg #[.int .i64 (chkE p).1.1, .int .i64 (chkE p).1.2], .int .i64 (chkE p).2]) W)) := Lib.hid fun W hb => sh_check p W (hs.to hb) (hp.blw hb hb.size)
  have KNW := Lib.hid (fun W => new_any p.es W)
  have HP := Lib.hid hp
  have HS := Lib.hid hs
  obtain ⟨u, hu⟩ : ∃ u, chkE p = u := ⟨_, rfl⟩
  rw [hu] at KC hwf ⊢
  clear hu hp hs
  obtain ⟨⟨u1, u2⟩, v⟩ := u
  simp only at KC hwf ⊢
  by_cases h0 : v = 0
  · subst h0
    rw [if_pos rfl]
    obtain ⟨⟨htg, hnd⟩, h⟩ := hwf rfl
    have HTG := Lib.hid htg
    have HND := Lib.hid hnd
    clear hwf htg hnd
    have h9 := HP.out.2.1.len
    have h9e := HP.out.1.2.1.1
    unfold maxLen at h9 h9e
    obtain ⟨P0, hP0⟩ : ∃ q, (p.es.l.map enmS).flatten = q := ⟨_, rfl⟩
    obtain ⟨F, hF⟩ : ∃ F : Nat → List UInt8, F = fun k => ((p.es.l.take k).map enmS).flatten := ⟨_, rfl⟩
    have hpl : P0.length ≤ 140737488355328 := by rw [← hP0]; unfold prgS at h; simp only [List.length_append] at h; omega
    have HF : Hid (∀ (k : Nat) e, p.es.l[k]? = some e → F (k + 1) = F k ++ enmS e ∧ (F (k + 1)).length ≤ 140737488355328) := Lib.hid fun k e he => by
      rw [hF]
      refine ⟨flat_take enmS p.es.l he, Nat.le_trans (flat_le enmS p.es.l (k + 1)) ?_⟩
      rw [hP0]; exact hpl
    have hF0 : F 0 = [] := by rw [hF]; rfl
    have HFl : Hid (F p.es.l.length = P0) := Lib.hid (by rw [hF]; simp only [List.take_length]; exact hP0)
    obtain ⟨G, hG⟩ : ∃ G : Nat → List UInt8, G = fun k => P0 ++ ((p.ns.l.take k).map (nodeS p.es.l)).flatten := ⟨_, rfl⟩
    have HG : Hid (∀ (k : Nat) y, p.ns.l[k]? = some y → G (k + 1) = G k ++ nodeS p.es.l y ∧ (G (k + 1)).length ≤ 140737488355328) := Lib.hid fun k y hy => by
      rw [hG]
      refine ⟨?_, ?_⟩
      · simp only
        rw [flat_take (nodeS p.es.l) p.ns.l hy, List.append_assoc]
      · have := flat_le (nodeS p.es.l) p.ns.l (k + 1)
        unfold prgS at h
        rw [hP0] at h
        simp only [List.length_append] at h ⊢
        omega
    have HG0 : Hid (G 0 = P0) := Lib.hid (by rw [hG]; simp)
    have hGl : G p.ns.l.length = prgS p := by rw [hG]; unfold prgS; simp only [List.take_length, hP0]
    have HF0 := Lib.hid hF0
    rw [← hGl]
    clear h hP0 hF hF0 hpl hG hGl
    have KC0 : Hid (Calls Tryz.prog 22 #[pV p] (w.alloc (.cells #[.slice p.es.A p.es.l.length p.es.c, .slice p.ns.A p.ns.l.length p.ns.c] 25)) (Bel (.tuple #[.agg #[.int .i64 u1, .int .i64 u2], .int .i64 0]) (w.alloc (.cells #[.slice p.es.A p.es.l.length p.es.c, .slice p.ns.A p.ns.l.length p.ns.c] 25)))) := Lib.hid (KC.out _ (bel_box _))
    go_enter Tryz.func9, Tryz.ntmps9
    go_wp2_with (first
      | (go_at_call 22; (with_reducible refine (KC0.out).mono ?_); rintro e w1 ⟨rfl, hb1⟩; have g0 : w1.cell? ⟨w.heap.size, 0, none⟩ = some (.slice p.es.A p.es.l.length p.es.c) := cell_below hb1 (by simp [go_sem]); have b0 := fun o => cell_al o g0)
      | (go_at_call 23; (with_reducible refine (KNW.out _).mono ?_); rintro e w2 ⟨m, rfl, hM2, hb2⟩; have hB2 : Below w.heap.size w w2 := (by repeat (first | (with_reducible exact Below.refl _ _) | (with_reducible assumption) | (with_reducible exact bel_box _) | (with_reducible refine bel_step ?_ (by with_reducible assumption)) | (with_reducible refine Below.drew ?_) | (with_reducible refine below_drewN ?_ _) | (with_reducible refine bel_alloc ?_ _))); have g0 := cell_below hb2 (b0 _); have b0 := fun o => cell_al o g0))
    have g1 : w2.cell? ⟨w.heap.size, 1, none⟩ = some (.slice p.ns.A p.ns.l.length p.ns.c) := cell_below hb2 (cell_below (bel_box _) (cell_below hb1 (by simp [go_sem])))
    have HG1 := Lib.hid g1
    obtain ⟨W3, hW3⟩ : ∃ W3, (w2.alloc (.cells #[.slice p.es.A p.es.l.length p.es.c, .map (some m), .pointer none, .slice none 0 0] 71)) = W3 := ⟨_, rfl⟩
    have hB3 : Below w2.heap.size w2 W3 := by rw [← hW3]; exact bel_box _
    have hf3 : Fre w2.heap.size p.es m W3 := by rw [← hW3]; exact heap_alloc_new w2 _
    have hw3 : Wr w2.heap.size w2.heap.size p.es m (Lib.byteCells []) W3 := .inl ⟨Nat.le_refl _, .slice none 0 0, hf3, World.ownsRow_nil _ _ _ _, by simp [Value.ownBlock]⟩
    rw [hW3]
    have HW3 := Lib.hid hw3
    have HF3 := Lib.hid hf3
    have HM := Lib.hid hM2
    clear hW3 hw3 hf3 hM2 g0 g1 b0 KC KC0 KNW hb1 hb2
    go_loopw [26] (fun i wr => ∃ k : Nat, k ≤ p.es.l.length ∧ i = .int .i64 (k : Int) ∧ Hid (Wr w2.heap.size w2.heap.size p.es m (Lib.byteCells (F k)) wr) ∧ Below w2.heap.size w2 wr ∧ Hid (F k = [] → Fre w2.heap.size p.es m wr)) (fun i _ => p.es.l.length - (intOf i).toNat)
    case atStart => exact ⟨0, by omega, rfl, Lib.hid (by rw [HF0.out]; exact HW3.out), hB3, Lib.hid fun _ => HF3.out⟩
    case round =>
      clear HW3 HF3 hB3
      obtain ⟨k, hk, rfl, hW, hbl, hfr⟩ := hrel
      have hszr := hbl.size
      have hbw : Below w.heap.size w wr := hB2.trans (hbl.mono hB2.size)
      by_cases hlt : k < p.es.l.length
      · obtain ⟨ad, e, hA, had, he, c0, c1, _⟩ := ((HP.out.1.blw hbw hbw.size).1).at_ hlt
        have hm := List.mem_of_getElem? he
        obtain ⟨hj, hle⟩ := HF.out k e he
        rw [hj] at hle
        have HJ : Hid (F (k + 1) = F k ++ enmS e) := Lib.hid hj
        have KY : Hid (∀ W, Below wr.heap.size wr W → Calls Tryz.prog 24 #[.pointer (some ⟨w2.heap.size, 0, none⟩), .agg #[.string e.name, .slice e.A e.tags.length e.c]] W (fun e' w' => e' = .returned (.tuple #[]) ∧ Wr w2.heap.size w2.heap.size p.es m (Lib.byteCells (F k ++ enmS e)) w' ∧ Below w2.heap.size W w' ∧ Oth w2.heap.size W w')) := Lib.hid fun W hb => by
          have hE' := HP.out.1.blw (hbw.trans (hb.mono hbw.size)) (Nat.le_trans hbw.size hb.size)
          obtain ⟨q1, q2, q3⟩ := hE'.2.2 e hm
          exact wr_enum w2.heap.size w2.heap.size m p.es (F k) e W (hW.out.below hb) (Nat.le_trans hszr hb.size) ⟨rd_of_rdr_inv (hE'.1.2 k e he) q2.1 q2.2, q3⟩ (HTG.out e hm) hle
        rw [hA]
        clear hA he hm hj hle hfr
        go_wp2_with (go_at_call 24; (with_reducible refine (KY.out _ ?_).mono ?_); (focus ((repeat (first | (with_reducible exact Below.refl _ _) | (with_reducible assumption) | (with_reducible exact bel_box _) | (with_reducible refine bel_step ?_ (by with_reducible assumption)) | (with_reducible refine Below.drew ?_) | (with_reducible refine below_drewN ?_ _) | (with_reducible refine bel_alloc ?_ _))); done)); rintro e' w4 ⟨rfl, hw4, hb4, ho4⟩)
        exact ⟨⟨k + 1, by omega, by congr 1, Lib.hid (by rw [HJ.out]; exact hw4), (hbl.trans (Below.mono (bel_box _) hszr)).trans hb4, Lib.hid fun h => absurd (HJ.out.symm.trans h) (by simp [enm_ne])⟩, by simp [intOf]; omega⟩
      · obtain rfl : k = p.es.l.length := by omega
        have g1 := cell_below hbl HG1.out
        have hW0 : Hid (Wr w2.heap.size w2.heap.size p.es m (Lib.byteCells (G 0)) wr) := Lib.hid (by rw [HG0.out, ← HFl.out]; exact hW.out)
        have hfr0 : Hid (G 0 = [] → Fre w2.heap.size p.es m wr) := Lib.hid (by rw [HG0.out, ← HFl.out]; exact hfr.out)
        clear HF HF0 HFl hW hfr HTG
        go_wp2
        obtain ⟨WR, rfl⟩ : ∃ q : World, q = wr := ⟨_, rfl⟩
        go_loopw [36] (fun i wr => ∃ k : Nat, k ≤ p.ns.l.length ∧ i = .int .i64 (k : Int) ∧ Hid (Wr w2.heap.size w2.heap.size p.es m (Lib.byteCells (G k)) wr) ∧ Below w2.heap.size w2 wr ∧ Hid (G k = [] → Fre w2.heap.size p.es m wr)) (fun i _ => p.ns.l.length - (intOf i).toNat)
        case atStart => exact ⟨0, by omega, rfl, hW0, hbl, hfr0⟩
        case round =>
          clear hW0 hfr0
          obtain ⟨k, hk, rfl, hW, hbl, hfr⟩ := hrel
          have hszr := hbl.size
          have hbw : Below w.heap.size w wr := hB2.trans (hbl.mono hB2.size)
          by_cases hlt : k < p.ns.l.length
          · obtain ⟨ad, y, hA, had, hy, hm, ⟨c0, c1, c2, c3, c4, c5, c6, c7⟩⟩ := (HP.out.2.1.blw oneB_N hbw hbw.size).at_ hlt
            obtain ⟨hj, hle⟩ := HG.out k y hy
            rw [hj] at hle
            have HJ : Hid (G (k + 1) = G k ++ nodeS p.es.l y) := Lib.hid hj
            have KY : Hid (∀ W, Below wr.heap.size wr W → Calls Tryz.prog 25 #[.pointer (some ⟨w2.heap.size, 0, none⟩), nV y] W (fun e' w' => e' = .returned (.tuple #[]) ∧ Wr w2.heap.size w2.heap.size p.es m (Lib.byteCells (G k ++ nodeS p.es.l y)) w' ∧ Below w2.heap.size W w' ∧ Oth w2.heap.size W w')) := Lib.hid fun W hb => by
              have hn := HND.out y hm
              have en : G k ++ nodeS p.es.l y = G k ++ linS 0 ([110, 111, 100, 101, 32] ++ bsT y.nm ++ [40] ++ dcsS p.es.l y.ins.l ++ [41, 32, 114, 101, 116, 117, 114, 110, 115, 32, 40] ++ dcsS p.es.l y.outs.l ++ [41]) ++ lcsS p.es.l 1 y.locs.l ++ cmsS p.es.l ⟨#[97, 115, 115, 117, 109, 101, 32]⟩ y.asm.l ++ cmsS p.es.l ⟨#[101, 110, 115, 117, 114, 101, 32]⟩ y.ens.l ++ linS 0 ([108, 101, 116]) ++ (y.qs.l.map (eq1S p.es.l 1)).flatten ++ (y.au.l.map (auS p.es.l 1)).flatten ++ linS 0 ([116, 101, 108]) := by
                unfold nodeS
                simp only [List.append_assoc]
              rw [en] at hle ⊢
              exact wr_node w2 w2.heap.size m p.es (G k) y W (HS.out.to hB2) (HP.out.1.blw hB2 hB2.size) HM.out ((HP.out.2.2 y hm).blw hB2 hB2.size) hn.ds hn.qs hn.cs hn.au (hbl.trans (hb.mono hszr)) (hW.out.below hb) hle
            rw [hA]
            clear hA hy hm hj hle hfr
            go_wp2_with (go_at_call 25; (with_reducible refine (KY.out _ ?_).mono ?_); (focus ((repeat (first | (with_reducible exact Below.refl _ _) | (with_reducible assumption) | (with_reducible exact bel_box _) | (with_reducible refine bel_step ?_ (by with_reducible assumption)) | (with_reducible refine Below.drew ?_) | (with_reducible refine below_drewN ?_ _) | (with_reducible refine bel_alloc ?_ _))); done)); rintro e' w4 ⟨rfl, hw4, hb4, ho4⟩)
            exact ⟨⟨k + 1, by omega, by congr 1, Lib.hid (by rw [HJ.out]; exact hw4), (hbl.trans (Below.mono (bel_box _) hszr)).trans hb4, Lib.hid fun h => absurd (HJ.out.symm.trans h) (by simp [node_ne])⟩, by simp [intOf]; omega⟩
          · obtain rfl : k = p.ns.l.length := by omega
            have KT : Hid (Calls Tryz.prog 26 #[.pointer (some ⟨w2.heap.size, 2, none⟩)] wr (fun e w' => e = .returned (.string (tB (G p.ns.l.length))) ∧ Below w2.heap.size wr w')) := Lib.hid (by
              by_cases hz : G p.ns.l.length = []
              · rw [hz]
                exact wr_text0 w2.heap.size w2.heap.size m p.es wr (hfr.out hz)
              · exact wr_text w2.heap.size w2.heap.size m p.es _ wr hW.out hz)
            clear hW hfr HG
            generalize G p.ns.l.length = z at *
            go_wp2_with (go_at_call 26; (with_reducible refine KT.out.mono ?_); rintro e w5 ⟨rfl, hb5⟩)
            go_ret2
            exact ⟨rfl, hB2.trans ((hbl.trans hb5).mono hB2.size)⟩
  · have q0 : (v != 0) = true := by simp [h0]
    have q1 : (v == 0) = false := by simp [h0]
    rw [if_neg h0]
    clear h0 hwf HP HS KNW
    go_enter Tryz.func9, Tryz.ntmps9
    go_wp2_with (go_at_call 22; (with_reducible refine (KC.out _ ?_).mono ?_); (focus ((repeat (first | (with_reducible exact Below.refl _ _) | (with_reducible assumption) | (with_reducible exact bel_box _) | (with_reducible refine bel_step ?_ (by with_reducible assumption)) | (with_reducible refine Below.drew ?_) | (with_reducible refine below_drewN ?_ _) | (with_reducible refine bel_alloc ?_ _))); done)); rintro e w1 ⟨rfl, hb1⟩)
    go_ret2
    exact ⟨rfl, (by repeat (first | (with_reducible exact Below.refl _ _) | (with_reducible assumption) | (with_reducible exact bel_box _) | (with_reducible refine bel_step ?_ (by with_reducible assumption)) | (with_reducible refine Below.drew ?_) | (with_reducible refine below_drewN ?_ _) | (with_reducible refine bel_alloc ?_ _)))⟩
end Go.Proofs.YtoimjcfdiljkjaaGreatDoor
/- A program that is well-formed: what its parts are. -/
namespace Go.Proofs.YtoimjcfdiljkjaaGreatDoor
set_option linter.unusedVariables false
set_option linter.unusedSimpArgs false
open Go.RowKit
theorem orE_zero {a b : Int} : orE a b = 0 ↔ a = 0 ∧ b = 0 := by
  unfold orE
  split
  · rename_i h; simp [h]
  · rename_i h; simp [h]
theorem RsP.take {w : World} {B : Nat} {p : Pt} (h : RsP w B p) (k : Nat) : RsP w B ⟨p.es, p.ns.A, p.ns.c, p.ns.l.take k⟩ := by
  obtain ⟨h1, ⟨h2, h3, h4, h5⟩, h6⟩ := h
  refine ⟨h1, ⟨fun hn => h2 fun e => hn (by simp [e]), fun ad i y hA hy => h3 ad i y hA ?_, ?_, ?_⟩, fun n hn => h6 n (List.mem_of_mem_take hn)⟩
  · have hy' : (p.ns.l.take k)[i]? = some y := hy
    rw [List.getElem?_take] at hy'
    split at hy'
    · exact hy'
    · cases hy'
  · simp only [List.length_take]; omega
  · simp only [List.length_take]; omega
end Go.Proofs.YtoimjcfdiljkjaaGreatDoor
/- The law's examples: what is said of them. -/
namespace Go.Proofs.YtoimjcfdiljkjaaGreatDoor
set_option linter.unusedVariables false
set_option linter.unusedSimpArgs false
open Go.RowKit
abbrev aA : ByteArray := ⟨#[97]⟩
abbrev aB : ByteArray := ⟨#[98]⟩
abbrev aF : ByteArray := ⟨#[102]⟩
theorem id_aA : idP aA = true := by decide +kernel
theorem id_aB : idP aB = true := by decide +kernel
theorem id_aF : idP aF = true := by decide +kernel
abbrev varA : Xt := .mk 2 0 0 0 aA none 0 []
abbrev notX (g : Addr) : Xt := .mk 3 1 0 0 ⟨#[]⟩ (some g) 1 [varA]
abbrev numX (v : Int) : Xt := .mk 1 0 2 v ⟨#[]⟩ none 0 []
abbrev mulX (g : Addr) : Xt := .mk 3 8 0 0 ⟨#[]⟩ (some g) 2 [varA, numX (-2)]
abbrev addX (g g' : Addr) : Xt := .mk 3 6 0 0 ⟨#[]⟩ (some g') 2 [numX 1, mulX g]
abbrev awD (s : ByteArray) : Dt := ⟨s, 1, ⟨none, 0, []⟩⟩
abbrev awQ (g3 g5 : Addr) : Qt := ⟨⟨some g3, 1, [aB]⟩, notX g5⟩
abbrev awN (g1 g2 g3 g4 g5 : Addr) : Nt := ⟨aF, ⟨some g1, 1, [awD aA]⟩, ⟨some g2, 1, [awD aB]⟩, ⟨none, 0, []⟩, ⟨some g4, 1, [awQ g3 g5]⟩, ⟨none, 0, []⟩, ⟨none, 0, []⟩, ⟨none, 0, []⟩⟩
abbrev awP (g1 g2 g3 g4 g5 g6 : Addr) : Pt := ⟨⟨none, 0, []⟩, ⟨some g6, 1, [awN g1 g2 g3 g4 g5]⟩⟩
theorem list_varA : varA.list = [varA] := by rw [Xt.list_eq]; rfl
theorem list_num (v : Int) : (numX v).list = [numX v] := by rw [Xt.list_eq]; rfl
theorem list_not (g : Addr) : (notX g).list = [notX g, varA] := by rw [Xt.list_eq]; simp [Xt.ar, list_varA]
theorem list_mul (g : Addr) : (mulX g).list = [mulX g, varA, numX (-2)] := by rw [Xt.list_eq]; simp [Xt.ar, list_varA, list_num]
theorem list_add (g g' : Addr) : (addX g g').list = [addX g g', numX 1, mulX g, varA, numX (-2)] := by rw [Xt.list_eq]; simp [Xt.ar, list_num, list_mul]
theorem tx_varA : varA.tx [] = [97] := by rw [Xt.tx_eq]; rfl
theorem tx_num1 : (numX 1).tx [] = [49] := by rw [Xt.tx_eq]; decide +kernel
theorem tx_num2 : (numX (-2)).tx [] = [45, 50] := by rw [Xt.tx_eq]; decide +kernel
theorem tx_not (g : Addr) : (notX g).tx [] = [110, 111, 116, 32, 97] := by rw [Xt.tx_eq]; simp [Xt.ar, tx_varA]; rfl
theorem tx_mul (g : Addr) : (mulX g).tx [] = [97, 32, 42, 32, 40, 45, 50, 41] := by rw [Xt.tx_eq]; simp [Xt.ar, tx_varA, tx_num2]; rfl
theorem tx_add (g g' : Addr) : (addX g g').tx [] = [49, 32, 43, 32, 40, 97, 32, 42, 32, 40, 45, 50, 41, 41] := by rw [Xt.tx_eq]; simp [Xt.ar, tx_num1, tx_mul]; rfl
theorem clk_aw : clkS [] [⟨aA, 1, 1⟩, ⟨aB, 2, 0⟩] = [119, 104, 101, 110, 32, 116, 114, 117, 101, 40, 97, 41, 32, 119, 104, 101, 110, 32, 48, 40, 98, 41] := by decide +kernel
theorem clkB_aw : clkB [] [⟨aA, 1, 1⟩, ⟨aB, 2, 0⟩] = true := by decide +kernel
theorem c1_var : chk1 wokP varA = 0 := by
  unfold chk1
  simp [Xt.k, Xt.op, Xt.t, Xt.v, Xt.nm, Xt.ar, formedP, onlyP, hasVal, hasIdn, hasVar, opnds, id_aA]
theorem c1_num (v : Int) (h : -32768 ≤ v ∧ v ≤ 32767) : chk1 wokP (numX v) = 0 := by
  unfold chk1
  simp [Xt.k, Xt.op, Xt.t, Xt.v, Xt.nm, Xt.ar, formedP, onlyP, hasVal, hasIdn, hasVar, opnds]
  exact h
theorem c1_not (g : Addr) : chk1 wokP (notX g) = 0 := by
  unfold chk1
  simp [Xt.k, Xt.op, Xt.t, Xt.v, Xt.nm, Xt.ar, formedP, onlyP, hasVal, hasIdn, hasVar, opnds]
theorem c1_mul (g : Addr) : chk1 wokP (mulX g) = 0 := by
  unfold chk1
  simp [Xt.k, Xt.op, Xt.t, Xt.v, Xt.nm, Xt.ar, formedP, onlyP, hasVal, hasIdn, hasVar, opnds]
theorem c1_add (g g' : Addr) : chk1 wokP (addX g g') = 0 := by
  unfold chk1
  simp [Xt.k, Xt.op, Xt.t, Xt.v, Xt.nm, Xt.ar, formedP, onlyP, hasVal, hasIdn, hasVar, opnds]
theorem size_varA : varA.size = 1 := by rw [Xt.size_eq]; rfl
theorem size_num (v : Int) : (numX v).size = 1 := by rw [Xt.size_eq]; rfl
theorem size_not (g : Addr) : (notX g).size = 2 := by rw [Xt.size_eq]; simp [Xt.ar, size_varA]
theorem size_mul (g : Addr) : (mulX g).size = 3 := by rw [Xt.size_eq]; simp [Xt.ar, size_varA, size_num]
theorem size_add (g g' : Addr) : (addX g g').size = 5 := by rw [Xt.size_eq]; simp [Xt.ar, size_num, size_mul]
theorem dep_varA : varA.depth = 1 := by rw [Xt.depth_eq]; rfl
theorem dep_num (v : Int) : (numX v).depth = 1 := by rw [Xt.depth_eq]; rfl
theorem dep_not (g : Addr) : (notX g).depth = 2 := by rw [Xt.depth_eq]; simp [Xt.ar, dep_varA]
theorem dep_mul (g : Addr) : (mulX g).depth = 2 := by rw [Xt.depth_eq]; simp [Xt.ar, dep_varA, dep_num]
theorem dep_add (g g' : Addr) : (addX g g').depth = 3 := by rw [Xt.depth_eq]; simp [Xt.ar, dep_num, dep_mul]
theorem all_not (g : Addr) : chkAll wokP (notX g) = 0 := by
  unfold chkAll
  rw [size_not, dep_not, list_not, if_neg (by omega)]
  simp [firstE, c1_not, c1_var]
theorem all_add (g g' : Addr) : chkAll wokP (addX g g') = 0 := by
  unfold chkAll
  rw [size_add, dep_add, list_add, if_neg (by omega)]
  simp [firstE, c1_add, c1_mul, c1_var, c1_num]
theorem ins_var : insE [] varA = 0 := by rw [insE_eq]; rfl
theorem ins_num (v : Int) (h : -32768 ≤ v ∧ v ≤ 32767) : insE [] (numX v) = 0 := by
  rw [insE_eq]
  simp [typE, va.hasB, va.sizeT, errs_nil, orE, Xt.k, Xt.t, Xt.v, Xt.ar, h]
theorem ins_not (g : Addr) : insE [] (notX g) = 0 := by rw [insE_eq]; simp [Xt.ar, ins_var]; rfl
theorem ins_mul (g : Addr) : insE [] (mulX g) = 0 := by rw [insE_eq]; simp [Xt.ar, ins_var, ins_num]; rfl
theorem ins_add (g g' : Addr) : insE [] (addX g g') = 0 := by rw [insE_eq]; simp [Xt.ar, ins_num, ins_mul]; rfl
theorem exp_not (g : Addr) : expE [] (notX g) = 0 := by unfold expE; rw [all_not, ins_not]; rfl
theorem exp_add (g g' : Addr) : expE [] (addX g g') = 0 := by unfold expE; rw [all_add, ins_add]; rfl
theorem node_aw (g1 g2 g3 g4 g5 : Addr) : nodE [] (awN g1 g2 g3 g4 g5) = (-1, 0) := by
  have hp : ∀ s, idP s = true → portE [] (awD s) = 0 := fun s hs => by
    unfold portE dclE
    simp only
    rw [hs, if_pos rfl]
    rfl
  have hh : hedE [] (awN g1 g2 g3 g4 g5) = 0 := by
    unfold hedE
    rw [show (awN g1 g2 g3 g4 g5).nm = aF from rfl, id_aF, if_pos rfl, if_neg (by simp), if_neg (by simp)]
    show orE (errs [portE [] (awD aA)]) (orE (errs [portE [] (awD aB)]) 0) = 0
    rw [hp _ id_aA, hp _ id_aB]
    rfl
  rw [nodE_eq, hh, if_pos rfl]
  have hx : eqnE [] (awQ g3 g5) = 0 := by
    unfold eqnE
    simp only
    rw [if_neg (by simp), if_neg (by simp), exp_not]
    show orE (errs [idE aB]) (orE 0 (if 1 < 1 ∧ (notX g5).k ≠ 10 then 5 else 0)) = 0
    rw [if_neg (show ¬ (1 < 1 ∧ (notX g5).k ≠ 10) by omega), show idE aB = 0 by unfold idE; rw [id_aB]; rfl]
    rfl
  have hq : eqsE [] (awN g1 g2 g3 g4 g5).qs.l = none := by
    show eqsE [] [awQ g3 g5] = none
    rw [eqsE, hx, if_pos rfl]
    rfl
  rw [hq]
  rfl
theorem chk_aw (g1 g2 g3 g4 g5 g6 : Addr) : chkE (awP g1 g2 g3 g4 g5 g6) = ((0, 0), 0) := by
  unfold chkE
  rw [if_neg (by simp)]
  show (if errs [] = 0 then _ else _) = _
  rw [if_pos (show errs [] = 0 from rfl)]
  show wheR (ndsE [] [awN g1 g2 g3 g4 g5]) = _
  rw [ndsE, node_aw, if_pos rfl]
  rfl
theorem prg_aw (g1 g2 g3 g4 g5 g6 : Addr) : prgS (awP g1 g2 g3 g4 g5 g6) = [110, 111, 100, 101, 32, 102, 40, 97, 58, 32, 98, 111, 111, 108, 41, 32, 114, 101, 116, 117, 114, 110, 115, 32, 40, 98, 58, 32, 98, 111, 111, 108, 41, 10, 108, 101, 116, 10, 32, 32, 98, 32, 61, 32, 110, 111, 116, 32, 97, 59, 10, 116, 101, 108, 10] := by
  have hn : nodeS [] (awN g1 g2 g3 g4 g5) = [110, 111, 100, 101, 32, 102, 40, 97, 58, 32, 98, 111, 111, 108, 41, 32, 114, 101, 116, 117, 114, 110, 115, 32, 40, 98, 58, 32, 98, 111, 111, 108, 41, 10, 108, 101, 116, 10, 32, 32, 98, 32, 61, 32, 110, 111, 116, 32, 97, 59, 10, 116, 101, 108, 10] := by
    unfold nodeS
    have he : eq1S [] 1 (awQ g3 g5) = [32, 32, 98, 32, 61, 32, 110, 111, 116, 32, 97, 59, 10] := by
      unfold eq1S eqnS
      rw [tx_not]
      kernel_rfl
    show linS 0 _ ++ _ ++ _ ++ _ ++ _ ++ ([eq1S [] 1 (awQ g3 g5)]).flatten ++ _ ++ _ = _
    rw [he]
    kernel_rfl
  unfold prgS
  show [] ++ [nodeS [] (awN g1 g2 g3 g4 g5)].flatten = _
  rw [hn]
  rfl
theorem wf1_of0 {x : Xt} (h : chk1 wokP x = 0) (ht : x.t ≤ 9223372036854775807) (hl : x.ar.length ≤ 1048576) : wfX x := ⟨wf1_of h, ht, Nat.le_trans hl (by decide)⟩
theorem aw_wfX (g : Addr) : ∀ y ∈ (notX g).list, wfX y := fun y hy => by
  rw [list_not] at hy
  rcases List.mem_cons.1 hy with rfl | hy
  · exact wf1_of0 (c1_not g) (by simp [Xt.t]) (by simp [Xt.ar])
  · obtain rfl := List.mem_singleton.1 hy
    exact wf1_of0 c1_var (by decide) (by decide)
theorem aw_NdW (g1 g2 g3 g4 g5 : Addr) : NdW (awN g1 g2 g3 g4 g5) := by
  refine ⟨fun r hr => ?_, fun q hq => ?_, fun r hr y hy => ?_, fun a ha => by cases ha⟩
  · rcases hr with rfl | rfl | rfl
    · exact ⟨by simp, fun d hd => by obtain rfl := List.mem_singleton.1 hd; decide⟩
    · exact ⟨by simp, fun d hd => by obtain rfl := List.mem_singleton.1 hd; decide⟩
    · exact ⟨by simp, fun d hd => by cases hd⟩
  · obtain rfl := List.mem_singleton.1 hq
    exact ⟨by simp, aw_wfX g5⟩
  · rcases hr with rfl | rfl
    · cases hy
    · cases hy
theorem add_wfX (g g' : Addr) : ∀ y ∈ (addX g g').list, wfX y := fun y hy => by
  rw [list_add] at hy
  simp only [List.mem_cons, List.not_mem_nil, or_false] at hy
  rcases hy with rfl | rfl | rfl | rfl | rfl
  · exact wf1_of0 (c1_add g g') (by simp [Xt.t]) (by simp [Xt.ar])
  · exact wf1_of0 (c1_num 1 (by decide)) (by decide) (by decide)
  · exact wf1_of0 (c1_mul g) (by simp [Xt.t]) (by simp [Xt.ar])
  · exact wf1_of0 c1_var (by decide) (by decide)
  · exact wf1_of0 (c1_num (-2) (by decide)) (by decide) (by decide)
end Go.Proofs.YtoimjcfdiljkjaaGreatDoor
