/- Texts of one chain, in one file. -/
import Derived.ArgAppend
import Derived.Maps.AppendAt
import Derived.Deep.RegionLaw
import Derived.Laws.OwnMore
import Derived.Test.YthlapepjebidgaaGreatDoorRows
import Derived.Stop.LaidErr
import Derived.Lib.LaidTab
import Derived.LaidMore
import Derived.Lay
import Derived.LaidOnce
import Derived.ChangeSlices
import Derived.ChangeSame
import Derived.ChangeMaps
import Derived.Stop.Joined
import Derived.Test.YthlapepjebidgaaGreatDoorQE
/- node of the program. -/
namespace Go.Proofs.YthlapepjebidgaaGreatDoor
set_option linter.unusedVariables false
set_option linter.unusedSimpArgs false
open Go.RowKit
theorem eqsE_steps (es : List va.En) (l : List Qt) : ∃ F : Nat → Option (Nat × Int), F 0 = eqsE es l ∧ F l.length = none ∧ Hid (∀ (k : Nat) (y : Qt), l[k]? = some y → F k = if eqnE es y = 0 then F (k+1) else some (k, eqnE es y)) := by
  refine ⟨fun k => (eqsE es (l.drop k)).map fun p => (p.1 + k, p.2), by simp, by simp [eqsE], Lib.hid fun k y hy => ?_⟩
  obtain ⟨hk, rfl⟩ := List.getElem?_eq_some_iff.1 hy
  show (eqsE es (l.drop k)).map _ = _
  rw [List.drop_eq_getElem_cons hk, eqsE]
  split
  · rw [Option.map_map]
    congr 1
    funext p
    simp [Nat.add_assoc, Nat.add_comm 1 k]
  · simp
/-- what a node answers, by what is found first -/
noncomputable def nodR (es : List va.En) (n : Nt) : Option (Nat × Int) → Int × Int
  | some p => ((p.1 : Int), p.2)
  | none => (-1, talE es n)
theorem nodE_eq (es : List va.En) (n : Nt) : nodE es n = if hedE es n = 0 then nodR es n (eqsE es n.qs.l) else (-1, hedE es n) := by
  unfold nodE nodR
  split
  · cases eqsE es n.qs.l <;> rfl
  · rfl
set_option maxHeartbeats 4000000 in
set_option maxRecDepth 20000 in
theorem sh_node (E : Rw va.En) (n : Nt) (w : World) (hs : Std w) (hE : RsE w w.heap.size E) (hn : RsN w w.heap.size n) :
    Calls Tryz.prog 45 #[ckV E, nV n] w (Bel (.tuple #[.int .i64 (nodE E.l n).1, .int .i64 (nodE E.l n).2]) w) := by
  have KH := Lib.hid (fun W (h : Below w.heap.size w W) => sh_head E n W (hs.to h) (hE.blw h h.size) (hn.blw h h.size))
  obtain ⟨h1, h2, h3, h4, h5, h6, h7, h8⟩ := hn
  have h9 := h5.1.len
  unfold maxLen at h9
  have HQ := Lib.hid h5
  have KQ : Hid (∀ y ∈ n.qs.l, ∀ W, Below w.heap.size w W → Calls Tryz.prog 79 #[ckV E, qV y] W (Bel (.int .i64 (eqnE E.l y)) W)) := Lib.hid fun y hy W h => sh_equation E y W (hs.to h) (hE.blw h h.size) ((h5.blw h h.size).2 y hy)
  have KA := Lib.hid (fun W => sh_automaton E 0 W)
  have KFA : Hid (∀ p' q' W, Cap W p' (.int .i64 0) → Cap W q' (.slice E.A E.l.length E.c) → Below w.heap.size w W → Calls Tryz.prog 80 #[.slice n.au.A n.au.l.length n.au.c, .func (.func 114) #[] #[.pointer (some p'), .pointer (some q')]] W (Bel (.int .i64 (errs (n.au.l.map (autE E.l 3)))) W)) := Lib.hid fun p' q' W kp kq h =>
    first_Auto_automaton1 _ _ n.au (autE E.l 3) W ((h6.blw h h.size).1) (Lib.hid fun y hy W' h' => sh_aut1 3 (Nat.le_refl _) E y p' q' W' (hs.to (h.trans (h'.mono h.size))) (hE.blw (h.trans (h'.mono h.size)) (Nat.le_trans h.size h'.size)) ((h6.blw (h.trans (h'.mono h.size)) (Nat.le_trans h.size h'.size)).2 y hy) (kp.to h') (kq.to h'))
  have KX1 : Hid (∀ W, Below w.heap.size w W → Calls Tryz.prog 82 #[.slice n.asm.A n.asm.l.length n.asm.c, .func (.func 55) #[ckV E] #[]] W (Bel (.int .i64 (errs (n.asm.l.map (expE E.l)))) W)) := Lib.hid fun W h =>
    first_Expr_expr (ckV E) n.asm (expE E.l) W ((h7.blw h h.size).1) (Lib.hid fun y hy W' h' => sh_expr E y W' (hs.to (h.trans (h'.mono h.size))) (hE.blw (h.trans (h'.mono h.size)) (Nat.le_trans h.size h'.size)) ((h7.blw (h.trans (h'.mono h.size)) (Nat.le_trans h.size h'.size)).2 y hy))
  have KX2 : Hid (∀ W, Below w.heap.size w W → Calls Tryz.prog 82 #[.slice n.ens.A n.ens.l.length n.ens.c, .func (.func 55) #[ckV E] #[]] W (Bel (.int .i64 (errs (n.ens.l.map (expE E.l)))) W)) := Lib.hid fun W h =>
    first_Expr_expr (ckV E) n.ens (expE E.l) W ((h8.blw h h.size).1) (Lib.hid fun y hy W' h' => sh_expr E y W' (hs.to (h.trans (h'.mono h.size))) (hE.blw (h.trans (h'.mono h.size)) (Nat.le_trans h.size h'.size)) ((h8.blw (h.trans (h'.mono h.size)) (Nat.le_trans h.size h'.size)).2 y hy))
  have TB : Hid (∀ W, Below ((w.alloc (.cells #[.slice E.A E.l.length E.c] 75)).alloc (.cells #[.string n.nm, .slice n.ins.A n.ins.l.length n.ins.c, .slice n.outs.A n.outs.l.length n.outs.c, .slice n.locs.A n.locs.l.length n.locs.c, .slice n.qs.A n.qs.l.length n.qs.c, .slice n.au.A n.au.l.length n.au.c, .slice n.asm.A n.asm.l.length n.asm.c, .slice n.ens.A n.ens.l.length n.ens.c] 56)).heap.size ((w.alloc (.cells #[.slice E.A E.l.length E.c] 75)).alloc (.cells #[.string n.nm, .slice n.ins.A n.ins.l.length n.ins.c, .slice n.outs.A n.outs.l.length n.outs.c, .slice n.locs.A n.locs.l.length n.locs.c, .slice n.qs.A n.qs.l.length n.qs.c, .slice n.au.A n.au.l.length n.au.c, .slice n.asm.A n.asm.l.length n.asm.c, .slice n.ens.A n.ens.l.length n.ens.c] 56)) W → W.cell? ⟨w.heap.size, 0, none⟩ = some (.slice E.A E.l.length E.c) ∧ W.cell? ⟨w.heap.size+1, 0, none⟩ = some (.string n.nm) ∧ W.cell? ⟨w.heap.size+1, 1, none⟩ = some (.slice n.ins.A n.ins.l.length n.ins.c) ∧ W.cell? ⟨w.heap.size+1, 2, none⟩ = some (.slice n.outs.A n.outs.l.length n.outs.c) ∧ W.cell? ⟨w.heap.size+1, 3, none⟩ = some (.slice n.locs.A n.locs.l.length n.locs.c) ∧ W.cell? ⟨w.heap.size+1, 4, none⟩ = some (.slice n.qs.A n.qs.l.length n.qs.c) ∧ W.cell? ⟨w.heap.size+1, 5, none⟩ = some (.slice n.au.A n.au.l.length n.au.c) ∧ W.cell? ⟨w.heap.size+1, 6, none⟩ = some (.slice n.asm.A n.asm.l.length n.asm.c) ∧ W.cell? ⟨w.heap.size+1, 7, none⟩ = some (.slice n.ens.A n.ens.l.length n.ens.c)) := Lib.hid fun W h => by
    obtain ⟨g0, g1, g2, g3, g4, g5, g6, g7, g8, _⟩ := B2N E n h
    exact ⟨g0, g1, g2, g3, g4, g5, g6, g7, g8⟩
  rw [nodE_eq]
  obtain ⟨F, hF0, hFl, HF⟩ := eqsE_steps E.l n.qs.l
  rw [← hF0]
  have HR : Hid (∀ p, nodR E.l n (some p) = ((p.1 : Int), p.2)) := Lib.hid fun p => rfl
  have HRn : Hid (nodR E.l n none = (-1, orE (errs (n.au.l.map (autE E.l 3))) (orE (errs (n.asm.l.map (expE E.l))) (errs (n.ens.l.map (expE E.l)))))) := Lib.hid rfl
  generalize errs (n.au.l.map (autE E.l 3)) = t1 at *
  generalize errs (n.asm.l.map (expE E.l)) = t2 at *
  generalize errs (n.ens.l.map (expE E.l)) = t3 at *
  generalize hedE E.l n = hv at *
  clear hs hE h1 h2 h3 h4 h5 h6 h7 h8
  by_cases hz : hv = 0
  · subst hz
    rw [if_pos rfl]
    obtain ⟨V, hV⟩ : ∃ V, nodR E.l n (F 0) = V := ⟨_, rfl⟩
    have HV := Lib.hid hV
    have HL := Lib.hid hFl
    rw [hV]
    clear hV hF0 hFl
    go_enter Tryz.func45, Tryz.ntmps45
    go_wp2_with (go_at_call 78; (with_reducible refine (KH.out _ ?_).mono ?_); (focus ((repeat (first | (with_reducible exact Below.refl _ _) | (with_reducible assumption) | (with_reducible exact bel_box _) | (with_reducible refine bel_step ?_ (by with_reducible assumption)) | (with_reducible refine Below.drew ?_) | (with_reducible refine below_drewN ?_ _) | (with_reducible refine bel_alloc ?_ _))); done)); rintro e w1 ⟨rfl, hb1⟩; obtain ⟨g0, g1, g2, g3, g4, g5, g6, g7, g8⟩ := TB.out w1 (by repeat (first | (with_reducible exact Below.refl _ _) | (with_reducible assumption) | (with_reducible exact bel_box _) | (with_reducible refine bel_step ?_ (by with_reducible assumption)) | (with_reducible refine Below.drew ?_) | (with_reducible refine below_drewN ?_ _) | (with_reducible refine bel_alloc ?_ _))))
    go_loopw [21] (fun i wr => ∃ k : Nat, k ≤ n.qs.l.length ∧ i = .int .i64 (k : Int) ∧ Hid (nodR E.l n (F k) = V) ∧ Below ((w.alloc (.cells #[.slice E.A E.l.length E.c] 75)).alloc (.cells #[.string n.nm, .slice n.ins.A n.ins.l.length n.ins.c, .slice n.outs.A n.outs.l.length n.outs.c, .slice n.locs.A n.locs.l.length n.locs.c, .slice n.qs.A n.qs.l.length n.qs.c, .slice n.au.A n.au.l.length n.au.c, .slice n.asm.A n.asm.l.length n.asm.c, .slice n.ens.A n.ens.l.length n.ens.c] 56)).heap.size ((w.alloc (.cells #[.slice E.A E.l.length E.c] 75)).alloc (.cells #[.string n.nm, .slice n.ins.A n.ins.l.length n.ins.c, .slice n.outs.A n.outs.l.length n.outs.c, .slice n.locs.A n.locs.l.length n.locs.c, .slice n.qs.A n.qs.l.length n.qs.c, .slice n.au.A n.au.l.length n.au.c, .slice n.asm.A n.asm.l.length n.asm.c, .slice n.ens.A n.ens.l.length n.ens.c] 56)) wr) (fun i _ => n.qs.l.length - (intOf i).toNat)
    case atStart => exact ⟨0, by omega, rfl, HV, (by repeat (first | (with_reducible exact Below.refl _ _) | (with_reducible assumption) | (with_reducible exact bel_box _) | (with_reducible refine bel_step ?_ (by with_reducible assumption)) | (with_reducible refine Below.drew ?_) | (with_reducible refine below_drewN ?_ _) | (with_reducible refine bel_alloc ?_ _)))⟩
    case round =>
      obtain ⟨k, hk, rfl, hK, hbl⟩ := hrel
      have hBW : Below w.heap.size w wr := (bel_alloc (bel_box _) _).trans (hbl.mono (by simp only [World.size_alloc]; omega))
      obtain ⟨g0, g1, g2, g3, g4, g5, g6, g7, g8⟩ := TB.out wr hbl
      have a0 := fun o => cell_al o g0
      by_cases hlt : k < n.qs.l.length
      · obtain ⟨ad, y, hA, had, hy, hm, ⟨c0, c1, c2, c3, c4, c5, c6⟩⟩ := ((HQ.out.blw hBW hBW.size).1).at_ hlt
        have HG := Lib.hid g5
        rw [hA] at g5 hbl ⊢
        clear hA
        have hst := HF.out k y hy
        have KY := Lib.hid (KQ.out y hm)
        clear hy hm HF
        generalize eqnE E.l y = v at *
        by_cases hv : v = 0
        · subst hv
          rw [if_pos rfl] at hst
          have hn' : Hid (nodR E.l n (F (k+1)) = V) := Lib.hid (by rw [← hst]; exact hK.out)
          clear hst hK
          go_wp2_with (go_at_call 79; (with_reducible refine (KY.out _ ?_).mono ?_); (focus ((repeat (first | (with_reducible exact Below.refl _ _) | (with_reducible assumption) | (with_reducible exact bel_box _) | (with_reducible refine bel_step ?_ (by with_reducible assumption)) | (with_reducible refine Below.drew ?_) | (with_reducible refine below_drewN ?_ _) | (with_reducible refine bel_alloc ?_ _))); done)); rintro e w2 ⟨rfl, hb2⟩)
          exact ⟨⟨k+1, by omega, by congr 1, hn', (by repeat (first | (with_reducible exact Below.refl _ _) | (with_reducible assumption) | (with_reducible exact bel_box _) | (with_reducible refine bel_step ?_ (by with_reducible assumption)) | (with_reducible refine Below.drew ?_) | (with_reducible refine below_drewN ?_ _) | (with_reducible refine bel_alloc ?_ _)))⟩, by simp [intOf]; omega⟩
        · rw [if_neg hv] at hst
          have hv2 : V = ((k : Int), v) := by rw [← hK.out, hst, HR.out]
          have e0 : (v == 0) = false := by simp [hv]
          subst hv2
          clear hst hK hv HV
          go_wp2_with (go_at_call 79; (with_reducible refine (KY.out _ ?_).mono ?_); (focus ((repeat (first | (with_reducible exact Below.refl _ _) | (with_reducible assumption) | (with_reducible exact bel_box _) | (with_reducible refine bel_step ?_ (by with_reducible assumption)) | (with_reducible refine Below.drew ?_) | (with_reducible refine below_drewN ?_ _) | (with_reducible refine bel_alloc ?_ _))); done)); rintro e w2 ⟨rfl, hb2⟩)
          refine bodyPost_ret (v := .tuple #[.int .i64 (k), .int .i64 (v)]) (by simp [results, Tryz.results45, go_sem]) rfl ?_
          exact ⟨(by first | rfl | (simp [orE, H1.out]; done) | (simp [orE, H2.out]; done)), (by repeat (first | (with_reducible exact Below.refl _ _) | (with_reducible assumption) | (with_reducible exact bel_box _) | (with_reducible refine bel_step ?_ (by with_reducible assumption)) | (with_reducible refine Below.drew ?_) | (with_reducible refine below_drewN ?_ _) | (with_reducible refine bel_alloc ?_ _)))⟩
      · obtain rfl : k = n.qs.l.length := by omega
        have hv2 : V = (-1, orE t1 (orE t2 t3)) := by rw [← hK.out, HL.out, HRn.out]
        subst hv2
        clear hK HF HV HL
        by_cases y1 : t1 = 0
        · subst y1
          rw [orE0]
          by_cases y2 : t2 = 0
          · subst y2
            rw [orE0]
            go_wp2
            go_region_held3 (fun w' => w'.cell? ⟨w.heap.size, 0, none⟩ = some (.slice E.A E.l.length E.c) ∧ w'.cell? ⟨w.heap.size+1, 0, none⟩ = some (.string n.nm) ∧ w'.cell? ⟨w.heap.size+1, 1, none⟩ = some (.slice n.ins.A n.ins.l.length n.ins.c) ∧ w'.cell? ⟨w.heap.size+1, 2, none⟩ = some (.slice n.outs.A n.outs.l.length n.outs.c) ∧ w'.cell? ⟨w.heap.size+1, 3, none⟩ = some (.slice n.locs.A n.locs.l.length n.locs.c) ∧ w'.cell? ⟨w.heap.size+1, 4, none⟩ = some (.slice n.qs.A n.qs.l.length n.qs.c) ∧ w'.cell? ⟨w.heap.size+1, 5, none⟩ = some (.slice n.au.A n.au.l.length n.au.c) ∧ w'.cell? ⟨w.heap.size+1, 6, none⟩ = some (.slice n.asm.A n.asm.l.length n.asm.c) ∧ w'.cell? ⟨w.heap.size+1, 7, none⟩ = some (.slice n.ens.A n.ens.l.length n.ens.c))
              ((refine TB.out _ ?_; (focus ((repeat (first | (with_reducible exact Below.refl _ _) | (with_reducible assumption) | (with_reducible exact bel_box _) | (with_reducible refine bel_step ?_ (by with_reducible assumption)) | (with_reducible refine Below.drew ?_) | (with_reducible refine below_drewN ?_ _) | (with_reducible refine bel_alloc ?_ _))); done))))
              (first | (go_at_call 81; (with_reducible refine (KA.out _).mono ?_); rintro e w3 ⟨p3, q3, rfl, hp3, hq3, hb3⟩) | (go_at_call 80; (with_reducible refine (KFA.out _ _ _ hp3 hq3 ?_).mono ?_); (focus ((repeat (first | (with_reducible exact Below.refl _ _) | (with_reducible assumption) | (with_reducible exact bel_box _) | (with_reducible refine bel_step ?_ (by with_reducible assumption)) | (with_reducible refine Below.drew ?_) | (with_reducible refine below_drewN ?_ _) | (with_reducible refine bel_alloc ?_ _))); done)); rintro e w4 ⟨rfl, hb4⟩; obtain ⟨g0, g1, g2, g3, g4, g5, g6, g7, g8⟩ := TB.out w4 (by repeat (first | (with_reducible exact Below.refl _ _) | (with_reducible assumption) | (with_reducible exact bel_box _) | (with_reducible refine bel_step ?_ (by with_reducible assumption)) | (with_reducible refine Below.drew ?_) | (with_reducible refine below_drewN ?_ _) | (with_reducible refine bel_alloc ?_ _)))))
            all_goals
              go_wp2_with (first | (go_at_call 82; (with_reducible refine (KX1.out _ ?_).mono ?_); (focus ((repeat (first | (with_reducible exact Below.refl _ _) | (with_reducible assumption) | (with_reducible exact bel_box _) | (with_reducible refine bel_step ?_ (by with_reducible assumption)) | (with_reducible refine Below.drew ?_) | (with_reducible refine below_drewN ?_ _) | (with_reducible refine bel_alloc ?_ _))); done)); rintro e w5 ⟨rfl, hb5⟩; obtain ⟨g0, g1, g2, g3, g4, g5, g6, g7, g8⟩ := TB.out w5 (by repeat (first | (with_reducible exact Below.refl _ _) | (with_reducible assumption) | (with_reducible exact bel_box _) | (with_reducible refine bel_step ?_ (by with_reducible assumption)) | (with_reducible refine Below.drew ?_) | (with_reducible refine below_drewN ?_ _) | (with_reducible refine bel_alloc ?_ _)))) | (go_at_call 82; (with_reducible refine (KX2.out _ ?_).mono ?_); (focus ((repeat (first | (with_reducible exact Below.refl _ _) | (with_reducible assumption) | (with_reducible exact bel_box _) | (with_reducible refine bel_step ?_ (by with_reducible assumption)) | (with_reducible refine Below.drew ?_) | (with_reducible refine below_drewN ?_ _) | (with_reducible refine bel_alloc ?_ _))); done)); rintro e w6 ⟨rfl, hb6⟩; obtain ⟨g0, g1, g2, g3, g4, g5, g6, g7, g8⟩ := TB.out w6 (by repeat (first | (with_reducible exact Below.refl _ _) | (with_reducible assumption) | (with_reducible exact bel_box _) | (with_reducible refine bel_step ?_ (by with_reducible assumption)) | (with_reducible refine Below.drew ?_) | (with_reducible refine below_drewN ?_ _) | (with_reducible refine bel_alloc ?_ _)))))
              refine bodyPost_ret (v := .tuple #[.int .i64 (-1), .int .i64 (t3)]) (by simp [results, Tryz.results45, go_sem]) rfl ?_
              exact ⟨(by first | rfl | (simp [orE, H1.out]; done) | (simp [orE, H2.out]; done)), (by repeat (first | (with_reducible exact Below.refl _ _) | (with_reducible assumption) | (with_reducible exact bel_box _) | (with_reducible refine bel_step ?_ (by with_reducible assumption)) | (with_reducible refine Below.drew ?_) | (with_reducible refine below_drewN ?_ _) | (with_reducible refine bel_alloc ?_ _)))⟩
          · have z2 : (t2 == 0) = false := by simp [y2]
            have H2 := Lib.hid y2
            try rw [orEn y2]
            clear y2
            go_wp2
            go_region_held3 (fun w' => w'.cell? ⟨w.heap.size, 0, none⟩ = some (.slice E.A E.l.length E.c) ∧ w'.cell? ⟨w.heap.size+1, 0, none⟩ = some (.string n.nm) ∧ w'.cell? ⟨w.heap.size+1, 1, none⟩ = some (.slice n.ins.A n.ins.l.length n.ins.c) ∧ w'.cell? ⟨w.heap.size+1, 2, none⟩ = some (.slice n.outs.A n.outs.l.length n.outs.c) ∧ w'.cell? ⟨w.heap.size+1, 3, none⟩ = some (.slice n.locs.A n.locs.l.length n.locs.c) ∧ w'.cell? ⟨w.heap.size+1, 4, none⟩ = some (.slice n.qs.A n.qs.l.length n.qs.c) ∧ w'.cell? ⟨w.heap.size+1, 5, none⟩ = some (.slice n.au.A n.au.l.length n.au.c) ∧ w'.cell? ⟨w.heap.size+1, 6, none⟩ = some (.slice n.asm.A n.asm.l.length n.asm.c) ∧ w'.cell? ⟨w.heap.size+1, 7, none⟩ = some (.slice n.ens.A n.ens.l.length n.ens.c))
              ((refine TB.out _ ?_; (focus ((repeat (first | (with_reducible exact Below.refl _ _) | (with_reducible assumption) | (with_reducible exact bel_box _) | (with_reducible refine bel_step ?_ (by with_reducible assumption)) | (with_reducible refine Below.drew ?_) | (with_reducible refine below_drewN ?_ _) | (with_reducible refine bel_alloc ?_ _))); done))))
              (first | (go_at_call 81; (with_reducible refine (KA.out _).mono ?_); rintro e w3 ⟨p3, q3, rfl, hp3, hq3, hb3⟩) | (go_at_call 80; (with_reducible refine (KFA.out _ _ _ hp3 hq3 ?_).mono ?_); (focus ((repeat (first | (with_reducible exact Below.refl _ _) | (with_reducible assumption) | (with_reducible exact bel_box _) | (with_reducible refine bel_step ?_ (by with_reducible assumption)) | (with_reducible refine Below.drew ?_) | (with_reducible refine below_drewN ?_ _) | (with_reducible refine bel_alloc ?_ _))); done)); rintro e w4 ⟨rfl, hb4⟩; obtain ⟨g0, g1, g2, g3, g4, g5, g6, g7, g8⟩ := TB.out w4 (by repeat (first | (with_reducible exact Below.refl _ _) | (with_reducible assumption) | (with_reducible exact bel_box _) | (with_reducible refine bel_step ?_ (by with_reducible assumption)) | (with_reducible refine Below.drew ?_) | (with_reducible refine below_drewN ?_ _) | (with_reducible refine bel_alloc ?_ _)))))
            all_goals
              go_wp2_with (go_at_call 82; (with_reducible refine (KX1.out _ ?_).mono ?_); (focus ((repeat (first | (with_reducible exact Below.refl _ _) | (with_reducible assumption) | (with_reducible exact bel_box _) | (with_reducible refine bel_step ?_ (by with_reducible assumption)) | (with_reducible refine Below.drew ?_) | (with_reducible refine below_drewN ?_ _) | (with_reducible refine bel_alloc ?_ _))); done)); rintro e w5 ⟨rfl, hb5⟩; obtain ⟨g0, g1, g2, g3, g4, g5, g6, g7, g8⟩ := TB.out w5 (by repeat (first | (with_reducible exact Below.refl _ _) | (with_reducible assumption) | (with_reducible exact bel_box _) | (with_reducible refine bel_step ?_ (by with_reducible assumption)) | (with_reducible refine Below.drew ?_) | (with_reducible refine below_drewN ?_ _) | (with_reducible refine bel_alloc ?_ _))))
              refine bodyPost_ret (v := .tuple #[.int .i64 (-1), .int .i64 (t2)]) (by simp [results, Tryz.results45, go_sem]) rfl ?_
              exact ⟨(by first | rfl | (simp [orE, H1.out]; done) | (simp [orE, H2.out]; done)), (by repeat (first | (with_reducible exact Below.refl _ _) | (with_reducible assumption) | (with_reducible exact bel_box _) | (with_reducible refine bel_step ?_ (by with_reducible assumption)) | (with_reducible refine Below.drew ?_) | (with_reducible refine below_drewN ?_ _) | (with_reducible refine bel_alloc ?_ _)))⟩
        · have z1 : (t1 == 0) = false := by simp [y1]
          have H1 := Lib.hid y1
          try rw [orEn y1]
          clear y1
          go_wp2
          go_region_held3 (fun w' => w'.cell? ⟨w.heap.size, 0, none⟩ = some (.slice E.A E.l.length E.c) ∧ w'.cell? ⟨w.heap.size+1, 0, none⟩ = some (.string n.nm) ∧ w'.cell? ⟨w.heap.size+1, 1, none⟩ = some (.slice n.ins.A n.ins.l.length n.ins.c) ∧ w'.cell? ⟨w.heap.size+1, 2, none⟩ = some (.slice n.outs.A n.outs.l.length n.outs.c) ∧ w'.cell? ⟨w.heap.size+1, 3, none⟩ = some (.slice n.locs.A n.locs.l.length n.locs.c) ∧ w'.cell? ⟨w.heap.size+1, 4, none⟩ = some (.slice n.qs.A n.qs.l.length n.qs.c) ∧ w'.cell? ⟨w.heap.size+1, 5, none⟩ = some (.slice n.au.A n.au.l.length n.au.c) ∧ w'.cell? ⟨w.heap.size+1, 6, none⟩ = some (.slice n.asm.A n.asm.l.length n.asm.c) ∧ w'.cell? ⟨w.heap.size+1, 7, none⟩ = some (.slice n.ens.A n.ens.l.length n.ens.c))
            ((refine TB.out _ ?_; (focus ((repeat (first | (with_reducible exact Below.refl _ _) | (with_reducible assumption) | (with_reducible exact bel_box _) | (with_reducible refine bel_step ?_ (by with_reducible assumption)) | (with_reducible refine Below.drew ?_) | (with_reducible refine below_drewN ?_ _) | (with_reducible refine bel_alloc ?_ _))); done))))
            (first | (go_at_call 81; (with_reducible refine (KA.out _).mono ?_); rintro e w3 ⟨p3, q3, rfl, hp3, hq3, hb3⟩) | (go_at_call 80; (with_reducible refine (KFA.out _ _ _ hp3 hq3 ?_).mono ?_); (focus ((repeat (first | (with_reducible exact Below.refl _ _) | (with_reducible assumption) | (with_reducible exact bel_box _) | (with_reducible refine bel_step ?_ (by with_reducible assumption)) | (with_reducible refine Below.drew ?_) | (with_reducible refine below_drewN ?_ _) | (with_reducible refine bel_alloc ?_ _))); done)); rintro e w4 ⟨rfl, hb4⟩; obtain ⟨g0, g1, g2, g3, g4, g5, g6, g7, g8⟩ := TB.out w4 (by repeat (first | (with_reducible exact Below.refl _ _) | (with_reducible assumption) | (with_reducible exact bel_box _) | (with_reducible refine bel_step ?_ (by with_reducible assumption)) | (with_reducible refine Below.drew ?_) | (with_reducible refine below_drewN ?_ _) | (with_reducible refine bel_alloc ?_ _)))))
          all_goals
            go_wp2
            refine bodyPost_ret (v := .tuple #[.int .i64 (-1), .int .i64 (t1)]) (by simp [results, Tryz.results45, go_sem]) rfl ?_
            exact ⟨(by first | rfl | (simp [orE, H1.out]; done) | (simp [orE, H2.out]; done)), (by repeat (first | (with_reducible exact Below.refl _ _) | (with_reducible assumption) | (with_reducible exact bel_box _) | (with_reducible refine bel_step ?_ (by with_reducible assumption)) | (with_reducible refine Below.drew ?_) | (with_reducible refine below_drewN ?_ _) | (with_reducible refine bel_alloc ?_ _)))⟩
  · have z0 : (hv == 0) = false := by simp [hz]
    rw [if_neg hz]
    clear hz
    go_enter Tryz.func45, Tryz.ntmps45
    go_wp2_with (go_at_call 78; (with_reducible refine (KH.out _ ?_).mono ?_); (focus ((repeat (first | (with_reducible exact Below.refl _ _) | (with_reducible assumption) | (with_reducible exact bel_box _) | (with_reducible refine bel_step ?_ (by with_reducible assumption)) | (with_reducible refine Below.drew ?_) | (with_reducible refine below_drewN ?_ _) | (with_reducible refine bel_alloc ?_ _))); done)); rintro e w1 ⟨rfl, hb1⟩; obtain ⟨g0, g1, g2, g3, g4, g5, g6, g7, g8⟩ := TB.out w1 (by repeat (first | (with_reducible exact Below.refl _ _) | (with_reducible assumption) | (with_reducible exact bel_box _) | (with_reducible refine bel_step ?_ (by with_reducible assumption)) | (with_reducible refine Below.drew ?_) | (with_reducible refine below_drewN ?_ _) | (with_reducible refine bel_alloc ?_ _))))
    refine bodyPost_ret (v := .tuple #[.int .i64 (-1), .int .i64 (hv)]) (by simp [results, Tryz.results45, go_sem]) rfl ?_
    exact ⟨(by first | rfl | (simp [orE, H1.out]; done) | (simp [orE, H2.out]; done)), (by repeat (first | (with_reducible exact Below.refl _ _) | (with_reducible assumption) | (with_reducible exact bel_box _) | (with_reducible refine bel_step ?_ (by with_reducible assumption)) | (with_reducible refine Below.drew ?_) | (with_reducible refine below_drewN ?_ _) | (with_reducible refine bel_alloc ?_ _)))⟩
end Go.Proofs.YthlapepjebidgaaGreatDoor
/- Check, Expr of the program. -/
namespace Go.Proofs.YthlapepjebidgaaGreatDoor
set_option linter.unusedVariables false
set_option linter.unusedSimpArgs false
open Go.RowKit
theorem set2w_cells {W : World} {b : Nat} {u v : Value} (h0 : W.cell? ⟨b, 0, none⟩ = some u) (h1 : W.cell? ⟨b, 1, none⟩ = some v) (x0 x1 : Value) :
    ((W.setCell ⟨b, 0, none⟩ x0).setCell ⟨b, 1, none⟩ x1).cell? ⟨b, 0, none⟩ = some x0 ∧ ((W.setCell ⟨b, 0, none⟩ x0).setCell ⟨b, 1, none⟩ x1).cell? ⟨b, 1, none⟩ = some x1 := by
  refine ⟨?_, ?_⟩
  · rw [World.cell?_setCell_other _ _ _ _ (by simp)]; exact World.cell?_setCell_same _ _ _ h0
  · exact World.cell?_setCell_same _ _ _ (by rw [World.cell?_setCell_other _ _ _ _ (by simp)]; exact h1)
theorem bel_set2w {w W : World} (h : Below w.heap.size w W) {b : Nat} (hb : w.heap.size ≤ b) (x y : Value) : Below w.heap.size w ((W.setCell ⟨b, 0, none⟩ x).setCell ⟨b, 1, none⟩ y) :=
  (h.setCell (p := ⟨b, 0, none⟩) hb _).setCell (p := ⟨b, 1, none⟩) hb _
/-- the first node with an error -/
noncomputable def ndsE (es : List va.En) : List Nt → Option (Nat × (Int × Int))
  | [] => none
  | n :: l => if (nodE es n).2 = 0 then (ndsE es l).map (fun q => (q.1+1, q.2)) else some (0, nodE es n)
theorem ndsE_steps (es : List va.En) (l : List Nt) : ∃ F : Nat → Option (Nat × (Int × Int)), F 0 = ndsE es l ∧ F l.length = none ∧ Hid (∀ (k : Nat) (y : Nt), l[k]? = some y → F k = if (nodE es y).2 = 0 then F (k+1) else some (k, nodE es y)) := by
  refine ⟨fun k => (ndsE es (l.drop k)).map fun p => (p.1 + k, p.2), by simp, by simp [ndsE], Lib.hid fun k y hy => ?_⟩
  obtain ⟨hk, rfl⟩ := List.getElem?_eq_some_iff.1 hy
  show (ndsE es (l.drop k)).map _ = _
  rw [List.drop_eq_getElem_cons hk, ndsE]
  split
  · rw [Option.map_map]
    congr 1
    funext p
    simp [Nat.add_assoc, Nat.add_comm 1 k]
  · simp
/-- the place and the error -/
def wheR : Option (Nat × (Int × Int)) → (Int × Int) × Int
  | some q => (((q.1 : Int), q.2.1), q.2.2)
  | none => ((0, 0), 0)
noncomputable def chkE (p : Pt) : (Int × Int) × Int :=
  if 24 < p.es.l.length ∨ 96 < p.ns.l.length then ((-1, -1), 3) else if errs (p.es.l.map enumE) = 0 then wheR (ndsE p.es.l p.ns.l) else ((-1, -1), errs (p.es.l.map enumE))
set_option maxHeartbeats 4000000 in
set_option maxRecDepth 20000 in
theorem sh_check (p : Pt) (w : World) (hs : Std w) (hp : RsP w w.heap.size p) :
    Calls Tryz.prog 15 #[pV p] w (Bel (.tuple #[.agg #[.int .i64 (chkE p).1.1, .int .i64 (chkE p).1.2], .int .i64 (chkE p).2]) w) := by
  obtain ⟨hE, hN⟩ := hp
  have HN : Hid (RsP w w.heap.size p) := Lib.hid ⟨hE, hN⟩
  have h9 := hN.1.len
  unfold maxLen at h9
  have KF : Hid (∀ W, Below w.heap.size w W → Calls Tryz.prog 43 #[.slice p.es.A p.es.l.length p.es.c, .func (.func 44) #[] #[]] W (Bel (.int .i64 (errs (p.es.l.map enumE))) W)) := Lib.hid fun W h =>
    first_Enum_checkEnum p.es.A p.es.c p.es.l enumE W ((hE.blw h h.size).1) (by have := hE.2.1.1; unfold maxLen at this; omega) (Lib.hid fun y hy W' h' => by
      have hE' := hE.blw (h.trans (h'.mono h.size)) (Nat.le_trans h.size h'.size)
      obtain ⟨i, hi⟩ := List.getElem?_of_mem hy
      exact sh_enum y W' (hs.to (h.trans (h'.mono h.size))) (hE'.1.2 i y hi) (hE.2.2 y hy).1 (hE.2.2 y hy).2.1 (hE.2.2 y hy).2.2)
  have KN : Hid (∀ y ∈ p.ns.l, ∀ W, Below w.heap.size w W → Calls Tryz.prog 45 #[ckV p.es, nV y] W (Bel (.tuple #[.int .i64 (nodE p.es.l y).1, .int .i64 (nodE p.es.l y).2]) W)) := Lib.hid fun y hy W h =>
    sh_node p.es y W (hs.to h) (hE.blw h h.size) ((hN.2 y hy).blw h h.size)
  have TB : Hid (∀ W, Below (((w.alloc (.cells #[.slice p.es.A p.es.l.length p.es.c, .slice p.ns.A p.ns.l.length p.ns.c] 36)).alloc (.cells #[.int .i64 0, .int .i64 0] 38)).alloc (.cells #[.int .i64 (-1), .int .i64 (-1)] 38)).heap.size (((w.alloc (.cells #[.slice p.es.A p.es.l.length p.es.c, .slice p.ns.A p.ns.l.length p.ns.c] 36)).alloc (.cells #[.int .i64 0, .int .i64 0] 38)).alloc (.cells #[.int .i64 (-1), .int .i64 (-1)] 38)) W → (W.cell? ⟨w.heap.size, 0, none⟩ = some (.slice p.es.A p.es.l.length p.es.c) ∧ W.cell? ⟨w.heap.size, 1, none⟩ = some (.slice p.ns.A p.ns.l.length p.ns.c) ∧ W.cell? ⟨w.heap.size+1, 0, none⟩ = some (.int .i64 0) ∧ W.cell? ⟨w.heap.size+1, 1, none⟩ = some (.int .i64 0) ∧ W.frozen? ⟨w.heap.size+1, 0, none⟩ = false ∧ W.frozen? ⟨w.heap.size+1, 1, none⟩ = false ∧ W.cell? ⟨w.heap.size+1+1, 0, none⟩ = some (.int .i64 (-1)) ∧ W.cell? ⟨w.heap.size+1+1, 1, none⟩ = some (.int .i64 (-1)) ∧ w.heap.size+1+1 < W.heap.size)) := Lib.hid fun W h => by
    have hz : (((w.alloc (.cells #[.slice p.es.A p.es.l.length p.es.c, .slice p.ns.A p.ns.l.length p.ns.c] 36)).alloc (.cells #[.int .i64 0, .int .i64 0] 38)).alloc (.cells #[.int .i64 (-1), .int .i64 (-1)] 38)).heap.size = w.heap.size+1+1+1 := by simp only [World.size_alloc]
    have hsz := h.size
    rw [hz] at hsz
    have hc : ∀ q : Addr, q.block < w.heap.size+1+1+1 → W.cell? q = _ := fun q hq => h.cell (by rw [hz]; exact hq)
    have hf : ∀ q : Addr, q.block < w.heap.size+1+1+1 → W.frozen? q = _ := fun q hq => h.frozen (by rw [hz]; exact hq)
    refine ⟨?_, ?_, ?_, ?_, ?_, ?_, ?_, ?_, by omega⟩
    all_goals (first | (rw [hc _ (by first | omega | (simp; done) | (simp; omega))]; simp [go_sem]; done) | (rw [hf _ (by first | omega | (simp; done) | (simp; omega))]; simp [go_sem]; done))
  unfold chkE
  obtain ⟨F, hF0, hFl, HF⟩ := ndsE_steps p.es.l p.ns.l
  rw [← hF0]
  have HR : Hid (∀ q, wheR (some q) = (((q.1 : Int), q.2.1), q.2.2)) := Lib.hid fun q => rfl
  have HRn : Hid (wheR none = ((0, 0), 0)) := Lib.hid rfl
  generalize errs (p.es.l.map enumE) = u at *
  clear hs hE hN
  by_cases z0 : 24 < p.es.l.length
  · have q0 : (24 : Int) < (p.es.l.length : Int) := by omega
    rw [if_pos (.inl z0)]
    clear z0
    go_enter Tryz.func15, Tryz.ntmps15
    go_wp2
    refine bodyPost_ret (v := .tuple #[.agg #[.int .i64 (-1), .int .i64 (-1)], .int .i64 (3)]) (by simp [results, Tryz.results15, go_sem]) rfl ?_
    exact ⟨rfl, (by repeat (first | (with_reducible exact Below.refl _ _) | (with_reducible assumption) | (with_reducible exact bel_box _) | (with_reducible refine bel_step ?_ (by with_reducible assumption)) | (with_reducible refine Below.drew ?_) | (with_reducible refine below_drewN ?_ _) | (with_reducible refine bel_alloc ?_ _)))⟩
  have q0 : (p.es.l.length : Int) ≤ (24 : Int) := by omega
  by_cases z1 : 96 < p.ns.l.length
  · have q1 : (96 : Int) < (p.ns.l.length : Int) := by omega
    rw [if_pos (.inr z1)]
    clear z0 z1
    go_enter Tryz.func15, Tryz.ntmps15
    go_wp2
    refine bodyPost_ret (v := .tuple #[.agg #[.int .i64 (-1), .int .i64 (-1)], .int .i64 (3)]) (by simp [results, Tryz.results15, go_sem]) rfl ?_
    exact ⟨rfl, (by repeat (first | (with_reducible exact Below.refl _ _) | (with_reducible assumption) | (with_reducible exact bel_box _) | (with_reducible refine bel_step ?_ (by with_reducible assumption)) | (with_reducible refine Below.drew ?_) | (with_reducible refine below_drewN ?_ _) | (with_reducible refine bel_alloc ?_ _)))⟩
  have q1 : (p.ns.l.length : Int) ≤ (96 : Int) := by omega
  rw [if_neg (by omega)]
  clear z0 z1
  by_cases hz : u = 0
  · subst hz
    rw [if_pos rfl]
    obtain ⟨V, hV⟩ : ∃ V, wheR (F 0) = V := ⟨_, rfl⟩
    have HV := Lib.hid hV
    have HL := Lib.hid hFl
    rw [hV]
    clear hV hF0 hFl
    go_enter Tryz.func15, Tryz.ntmps15
    go_wp2_with (go_at_call 43; (with_reducible refine (KF.out _ ?_).mono ?_); (focus ((repeat (first | (with_reducible exact Below.refl _ _) | (with_reducible assumption) | (with_reducible exact bel_box _) | (with_reducible refine bel_step ?_ (by with_reducible assumption)) | (with_reducible refine Below.drew ?_) | (with_reducible refine below_drewN ?_ _) | (with_reducible refine bel_alloc ?_ _))); done)); rintro e w1 ⟨rfl, hb1⟩; obtain ⟨g0, g1, g2, g3, g4, g5, g6, g7, g8⟩ := TB.out w1 (by repeat (first | (with_reducible exact Below.refl _ _) | (with_reducible assumption) | (with_reducible exact bel_box _) | (with_reducible refine bel_step ?_ (by with_reducible assumption)) | (with_reducible refine Below.drew ?_) | (with_reducible refine below_drewN ?_ _) | (with_reducible refine bel_alloc ?_ _))); have b0 := fun o => cell_al o g0; have b1 := fun o => cell_al o g1)
    have TC : Hid (∀ W, Below (w1.alloc (.cells #[.slice p.es.A p.es.l.length p.es.c] 75)).heap.size (w1.alloc (.cells #[.slice p.es.A p.es.l.length p.es.c] 75)) W → W.cell? ⟨w1.heap.size, 0, none⟩ = some (.slice p.es.A p.es.l.length p.es.c) ∧ (W.cell? ⟨w.heap.size, 0, none⟩ = some (.slice p.es.A p.es.l.length p.es.c) ∧ W.cell? ⟨w.heap.size, 1, none⟩ = some (.slice p.ns.A p.ns.l.length p.ns.c) ∧ W.cell? ⟨w.heap.size+1, 0, none⟩ = some (.int .i64 0) ∧ W.cell? ⟨w.heap.size+1, 1, none⟩ = some (.int .i64 0) ∧ W.frozen? ⟨w.heap.size+1, 0, none⟩ = false ∧ W.frozen? ⟨w.heap.size+1, 1, none⟩ = false ∧ W.cell? ⟨w.heap.size+1+1, 0, none⟩ = some (.int .i64 (-1)) ∧ W.cell? ⟨w.heap.size+1+1, 1, none⟩ = some (.int .i64 (-1)) ∧ w.heap.size+1+1 < W.heap.size)) := Lib.hid fun W h =>
      ⟨(B1K p.es h).1, TB.out W (hb1.trans (((bel_box _).trans (h.mono (by rw [World.size_alloc]; omega))).mono hb1.size))⟩
    go_loopw [36] (fun i wr => ∃ k : Nat, k ≤ p.ns.l.length ∧ i = .int .i64 (k : Int) ∧ Hid (wheR (F k) = V) ∧ Below (w1.alloc (.cells #[.slice p.es.A p.es.l.length p.es.c] 75)).heap.size (w1.alloc (.cells #[.slice p.es.A p.es.l.length p.es.c] 75)) wr) (fun i _ => p.ns.l.length - (intOf i).toNat)
    case atStart => exact ⟨0, by omega, rfl, HV, (by repeat (first | (with_reducible exact Below.refl _ _) | (with_reducible assumption) | (with_reducible exact bel_box _) | (with_reducible refine bel_step ?_ (by with_reducible assumption)) | (with_reducible refine Below.drew ?_) | (with_reducible refine below_drewN ?_ _) | (with_reducible refine bel_alloc ?_ _)))⟩
    case round =>
      obtain ⟨k, hk, rfl, hK, hbl⟩ := hrel
      have hBW : Below w.heap.size w wr := (by repeat (first | (with_reducible exact Below.refl _ _) | (with_reducible assumption) | (with_reducible exact bel_box _) | (with_reducible refine bel_step ?_ (by with_reducible assumption)) | (with_reducible refine Below.drew ?_) | (with_reducible refine below_drewN ?_ _) | (with_reducible refine bel_alloc ?_ _)))
      obtain ⟨c9, g0, g1, g2, g3, g4, g5, g6, g7, g8⟩ := TC.out wr hbl
      have a0 := fun o => cell_al o c9
      by_cases hlt : k < p.ns.l.length
      · obtain ⟨ad, y, hA, had, hy, hm, ⟨c0, c1, c2, c3, c4, c5, c6, c7⟩⟩ := ((HN.out.blw hBW hBW.size).2.1).at_ hlt
        have TP := Lib.hid (fun W h => (TB.out W h).2.2)
        rw [hA]
        clear hA
        have hst := HF.out k y hy
        have KY := Lib.hid (KN.out y hm)
        clear hy hm HF
        generalize nodE p.es.l y = v at *
        obtain ⟨v1, v2⟩ := v
        simp only at KY hst
        by_cases hv : v2 = 0
        · subst hv
          rw [if_pos rfl] at hst
          have hn' : Hid (wheR (F (k+1)) = V) := Lib.hid (by rw [← hst]; exact hK.out)
          clear hst hK
          go_wp2_with (go_at_call 45; (with_reducible refine (KY.out _ ?_).mono ?_); (focus ((repeat (first | (with_reducible exact Below.refl _ _) | (with_reducible assumption) | (with_reducible exact bel_box _) | (with_reducible refine bel_step ?_ (by with_reducible assumption)) | (with_reducible refine Below.drew ?_) | (with_reducible refine below_drewN ?_ _) | (with_reducible refine bel_alloc ?_ _))); done)); rintro e w2 ⟨rfl, hb2⟩)
          exact ⟨⟨k+1, by omega, by congr 1, hn', (by repeat (first | (with_reducible exact Below.refl _ _) | (with_reducible assumption) | (with_reducible exact bel_box _) | (with_reducible refine bel_step ?_ (by with_reducible assumption)) | (with_reducible refine Below.drew ?_) | (with_reducible refine below_drewN ?_ _) | (with_reducible refine bel_alloc ?_ _)))⟩, by simp [intOf]; omega⟩
        · rw [if_neg hv] at hst
          have hv2 : V = (((k : Int), v1), v2) := by rw [← hK.out, hst, HR.out]
          have e0 : (v2 == 0) = false := by simp [hv]
          subst hv2
          clear hst hK hv HV
          go_wp2_with (go_at_call 45; (with_reducible refine (KY.out _ ?_).mono ?_); (focus ((repeat (first | (with_reducible exact Below.refl _ _) | (with_reducible assumption) | (with_reducible exact bel_box _) | (with_reducible refine bel_step ?_ (by with_reducible assumption)) | (with_reducible refine Below.drew ?_) | (with_reducible refine below_drewN ?_ _) | (with_reducible refine bel_alloc ?_ _))); done)); rintro e w2 ⟨rfl, hb2⟩; obtain ⟨c9, g0, g1, g2, g3, g4, g5, g6, g7, g8⟩ := TC.out w2 (by repeat (first | (with_reducible exact Below.refl _ _) | (with_reducible assumption) | (with_reducible exact bel_box _) | (with_reducible refine bel_step ?_ (by with_reducible assumption)) | (with_reducible refine Below.drew ?_) | (with_reducible refine below_drewN ?_ _) | (with_reducible refine bel_alloc ?_ _))))
          obtain ⟨k0, k1⟩ := set2w_cells g2 g3 (.int .i64 (k)) (.int .i64 (v1))
          refine bodyPost_ret (v := .tuple #[.agg #[.int .i64 (k), .int .i64 (v1)], .int .i64 (v2)]) (by simp [results, Tryz.results15, go_sem, k0, k1]) rfl ?_
          exact ⟨rfl, bel_set2w (by repeat (first | (with_reducible exact Below.refl _ _) | (with_reducible assumption) | (with_reducible exact bel_box _) | (with_reducible refine bel_step ?_ (by with_reducible assumption)) | (with_reducible refine Below.drew ?_) | (with_reducible refine below_drewN ?_ _) | (with_reducible refine bel_alloc ?_ _))) (by omega) _ _⟩
      · obtain rfl : k = p.ns.l.length := by omega
        have hv2 : V = ((0, 0), 0) := by rw [← hK.out, HL.out, HRn.out]
        subst hv2
        clear hK HF HV HL
        go_wp2
        obtain ⟨k0, k1⟩ := set2w_cells g2 g3 (.int .i64 (0)) (.int .i64 (0))
        refine bodyPost_ret (v := .tuple #[.agg #[.int .i64 (0), .int .i64 (0)], .int .i64 (0)]) (by simp [results, Tryz.results15, go_sem, k0, k1]) rfl ?_
        exact ⟨rfl, bel_set2w (by repeat (first | (with_reducible exact Below.refl _ _) | (with_reducible assumption) | (with_reducible exact bel_box _) | (with_reducible refine bel_step ?_ (by with_reducible assumption)) | (with_reducible refine Below.drew ?_) | (with_reducible refine below_drewN ?_ _) | (with_reducible refine bel_alloc ?_ _))) (by omega) _ _⟩
  · have z0 : (u == 0) = false := by simp [hz]
    rw [if_neg hz]
    clear hz
    go_enter Tryz.func15, Tryz.ntmps15
    go_wp2_with (go_at_call 43; (with_reducible refine (KF.out _ ?_).mono ?_); (focus ((repeat (first | (with_reducible exact Below.refl _ _) | (with_reducible assumption) | (with_reducible exact bel_box _) | (with_reducible refine bel_step ?_ (by with_reducible assumption)) | (with_reducible refine Below.drew ?_) | (with_reducible refine below_drewN ?_ _) | (with_reducible refine bel_alloc ?_ _))); done)); rintro e w1 ⟨rfl, hb1⟩; obtain ⟨g0, g1, g2, g3, g4, g5, g6, g7, g8⟩ := TB.out w1 (by repeat (first | (with_reducible exact Below.refl _ _) | (with_reducible assumption) | (with_reducible exact bel_box _) | (with_reducible refine bel_step ?_ (by with_reducible assumption)) | (with_reducible refine Below.drew ?_) | (with_reducible refine below_drewN ?_ _) | (with_reducible refine bel_alloc ?_ _))); have b0 := fun o => cell_al o g0; have b1 := fun o => cell_al o g1)
    obtain ⟨k0, k1⟩ := set2w_cells g2 g3 (.int .i64 (-1)) (.int .i64 (-1))
    refine bodyPost_ret (v := .tuple #[.agg #[.int .i64 (-1), .int .i64 (-1)], .int .i64 (u)]) (by simp [results, Tryz.results15, go_sem, k0, k1]) rfl ?_
    exact ⟨rfl, bel_set2w (by repeat (first | (with_reducible exact Below.refl _ _) | (with_reducible assumption) | (with_reducible exact bel_box _) | (with_reducible refine bel_step ?_ (by with_reducible assumption)) | (with_reducible refine Below.drew ?_) | (with_reducible refine below_drewN ?_ _) | (with_reducible refine bel_alloc ?_ _))) (by omega) _ _⟩
set_option maxHeartbeats 400000 in
theorem sh_Expr (E : Rw va.En) (x : Xt) (w : World) (hs : Std w) (hE : RsE w w.heap.size E) (hX : RsX w w.heap.size x) :
    Calls Tryz.prog 22 #[.slice E.A E.l.length E.c, xV x] w (Bel (.int .i64 (expE E.l x)) w) := by
  have KE := Lib.hid (fun W (h : Below w.heap.size w W) => sh_expr E x W (hs.to h) (hE.blw h h.size) (hX.blw h h.size))
  simp only [xV, ckV] at KE ⊢
  go_enter Tryz.func22, Tryz.ntmps22
  go_wp2_with (go_at_call 55; (with_reducible refine (KE.out _ ?_).mono ?_); (focus ((repeat (first | (with_reducible exact Below.refl _ _) | (with_reducible assumption) | (with_reducible exact bel_box _) | (with_reducible refine bel_step ?_ (by with_reducible assumption)) | (with_reducible refine Below.drew ?_) | (with_reducible refine below_drewN ?_ _) | (with_reducible refine bel_alloc ?_ _))); done)); rintro e w1 ⟨rfl, hb1⟩)
  go_ret
  exact ⟨rfl, (by repeat (first | (with_reducible exact Below.refl _ _) | (with_reducible assumption) | (with_reducible exact bel_box _) | (with_reducible refine bel_step ?_ (by with_reducible assumption)) | (with_reducible refine Below.drew ?_) | (with_reducible refine below_drewN ?_ _) | (with_reducible refine bel_alloc ?_ _)))⟩
end Go.Proofs.YthlapepjebidgaaGreatDoor
/- The law's example, in memory. -/
namespace Go.Proofs.YthlapepjebidgaaGreatDoor
set_option linter.unusedVariables false
set_option linter.unusedSimpArgs false
open Go.RowKit
theorem rdr_one {α : Type} {w : World} {B sz : Nat} {C : World → Addr → α → Prop} {ad : Addr} {y : α} (hb : ad.block < B) (hc : C w ad y) (c : Nat) (h1 : 1 ≤ c) : RdR w B sz C ⟨some ad, c, [y]⟩ := by
  refine ⟨fun _ => ⟨ad, rfl, hb⟩, fun a i z hA hz => ?_, by simp [maxLen], h1⟩
  obtain rfl : ad = a := Option.some.inj hA
  cases i with
  | zero =>
    obtain rfl : y = z := by simpa using hz
    rw [Nat.zero_mul, add_zero']
    exact hc
  | succ i => simp at hz
/-- the constant of the example -/
abbrev redX : Xt := .mk 1 0 3 0 ⟨#[]⟩ none 0 []
abbrev sX : ByteArray := ⟨#[120]⟩
abbrev sF : ByteArray := ⟨#[102]⟩
abbrev sLi : ByteArray := ⟨#[76, 105, 103, 104, 116]⟩
abbrev sRe : ByteArray := ⟨#[82, 101, 100]⟩
abbrev sGr : ByteArray := ⟨#[71, 114, 101, 101, 110]⟩
abbrev liE (h : Nat) : va.En := ⟨sLi, some ⟨h+1+1+1+1+1+1, 0, none⟩, 2, [sRe, sGr]⟩
abbrev liN (h : Nat) : Nt := ⟨sF, ⟨none, 0, []⟩, ⟨some ⟨h+1+1, 0, none⟩, 1, [⟨sX, 3, ⟨none, 0, []⟩⟩]⟩, ⟨none, 0, []⟩, ⟨some ⟨h+1+1+1+1, 0, none⟩, 1, [⟨⟨some ⟨h+1+1+1, 0, none⟩, 1, [sX]⟩, redX⟩]⟩, ⟨none, 0, []⟩, ⟨none, 0, []⟩, ⟨none, 0, []⟩⟩
abbrev liP (h : Nat) : Pt := ⟨⟨some ⟨h+1+1+1+1+1+1+1, 0, none⟩, 1, [liE h]⟩, ⟨some ⟨h+1+1+1+1+1+1+1+1, 0, none⟩, 1, [liN h]⟩⟩
theorem red_rd (w : World) (B : Nat) : RsX w B redX := by
  refine ⟨.mk _ (fun h => absurd rfl h) (fun ad i y h => by cases h) (fun y h => by cases h) ⟨⟨Nat.zero_le _, Nat.zero_le _⟩, Nat.le_refl _⟩, fun y hy => ?_⟩
  rw [Xt.list_eq] at hy
  obtain rfl : y = redX := by simpa [Xt.ar] using hy
  exact ⟨Nat.zero_le _, by decide⟩
theorem rsn_nil {w : World} {B : Nat} : RsDs w B ⟨none, 0, []⟩ := ⟨RdR.nil _ _ _ _ _, fun d h => by cases h⟩
theorem heap_at {w : World} {o : Obj} {g : Nat} (h : g = w.heap.size) : (w.alloc o).heap[g]? = some o := by rw [h]; exact heap_alloc_new w o
/-- a node's cells -/
def nCs (n : Nt) : List Value := [.string n.nm, .slice n.ins.A n.ins.l.length n.ins.c, .slice n.outs.A n.outs.l.length n.outs.c, .slice n.locs.A n.locs.l.length n.locs.c, .slice n.qs.A n.qs.l.length n.qs.c, .slice n.au.A n.au.l.length n.au.c, .slice n.asm.A n.asm.l.length n.asm.c, .slice n.ens.A n.ens.l.length n.ens.c]
def NewLi (w : World) (e : Ending) (w' : World) : Prop := ∃ h, e = .returned (pV (liP h)) ∧ RsP w' w'.heap.size (liP h) ∧ Below w.heap.size w w' ∧ w'.ownsRow w.heap.size 56 8 (.slice (some ⟨h+1+1+1+1+1+1+1+1, 0, none⟩) 1 1) 1 (nCs (liN h))
set_option maxHeartbeats 1000000 in
set_option maxRecDepth 20000 in
theorem light_any (w : World) : Calls Tryz.prog 54 #[] w (NewLi w) := by
  go_enter Tryz.func54, Tryz.ntmps54
  go_wp2
  refine bodyPost_ret (v := pV (liP w.heap.size)) (by simp [results, Tryz.f54, go_sem]) rfl ⟨w.heap.size, rfl, ?_, (by repeat (first | (with_reducible exact Below.refl _ _) | (with_reducible assumption) | (with_reducible exact bel_box _) | (with_reducible refine bel_step ?_ (by with_reducible assumption)) | (with_reducible refine Below.drew ?_) | (with_reducible refine below_drewN ?_ _) | (with_reducible refine bel_alloc ?_ _))), ?_⟩
  rotate_left
  · refine ⟨rfl, .inr ⟨_, 1, #[.string sF, .slice none 0 0, .slice (some ⟨w.heap.size+1+1, 0, none⟩) 1 1, .slice none 0 0, .slice (some ⟨w.heap.size+1+1+1+1, 0, none⟩) 1 1, .slice none 0 0, .slice none 0 0, .slice none 0 0], rfl, by omega, ?_, Nat.le_refl _, by simp [maxLen], rfl, rfl⟩⟩
    exact heap_at (by simp only [World.size_alloc])
  obtain ⟨W, hW⟩ : ∃ W, (((((((((w.alloc (.cells #[.slice (some ⟨w.heap.size+1+1+1+1+1+1+1, 0, none⟩) 1 1, .slice (some ⟨w.heap.size+1+1+1+1+1+1+1+1, 0, none⟩) 1 1] 36)).alloc (.cells #[.int .i64 1, .int .i64 0, .int .i64 3, .int .i64 0, .string ⟨#[]⟩, .slice none 0 0] 24)).alloc (.cells #[.string sX, .int .i64 3, .slice none 0 0] 98)).alloc (.cells #[.string sX] 9)).alloc (.cells #[.slice (some ⟨w.heap.size+1+1+1, 0, none⟩) 1 1, .int .i64 1, .int .i64 0, .int .i64 3, .int .i64 0, .string ⟨#[]⟩, .slice none 0 0] 59)).alloc (.cells #[.string sF, .slice none 0 0, .slice (some ⟨w.heap.size+1+1, 0, none⟩) 1 1, .slice none 0 0, .slice (some ⟨w.heap.size+1+1+1+1, 0, none⟩) 1 1, .slice none 0 0, .slice none 0 0, .slice none 0 0] 56)).alloc (.cells #[.string sRe, .string sGr] 9)).alloc (.cells #[.string sLi, .slice (some ⟨w.heap.size+1+1+1+1+1+1, 0, none⟩) 2 2] 72)).alloc (.cells #[.string sF, .slice none 0 0, .slice (some ⟨w.heap.size+1+1, 0, none⟩) 1 1, .slice none 0 0, .slice (some ⟨w.heap.size+1+1+1+1, 0, none⟩) 1 1, .slice none 0 0, .slice none 0 0, .slice none 0 0] 56)) = W := ⟨_, rfl⟩
  have hz : W.heap.size = w.heap.size + 9 := by rw [← hW]; simp only [World.size_alloc]
  have hd : DC W ⟨w.heap.size+1+1, 0, none⟩ ⟨sX, 3, ⟨none, 0, []⟩⟩ := by
    rw [← hW]
    refine ⟨?_, ?_, ?_⟩ <;> simp [go_sem]
  have hl : BC W ⟨w.heap.size+1+1+1, 0, none⟩ sX := by
    rw [← hW]
    unfold BC
    simp [go_sem]
  have hq : QC W ⟨w.heap.size+1+1+1+1, 0, none⟩ ⟨⟨some ⟨w.heap.size+1+1+1, 0, none⟩, 1, [sX]⟩, redX⟩ := by
    rw [← hW]
    refine ⟨?_, ?_, ?_, ?_, ?_, ?_, ?_⟩ <;> simp [go_sem, Xt.k, Xt.op, Xt.t, Xt.v, Xt.nm, Xt.A, Xt.ar, Xt.c]
  have ht : Rd W W.heap.size (some ⟨w.heap.size+1+1+1+1+1+1, 0, none⟩) (va.ss [sRe, sGr]) := by
    intro _
    refine ⟨_, rfl, by simp only; omega, fun j u hu => ?_⟩
    rw [va.add_off, ← hW]
    rcases j with _ | _ | j
    · obtain rfl : Value.string sRe = u := by simpa [va.ss] using hu
      simp [go_sem]
    · obtain rfl : Value.string sGr = u := by simpa [va.ss] using hu
      simp [go_sem]
    · simp [va.ss] at hu
  have hn : NC W ⟨w.heap.size+1+1+1+1+1+1+1+1, 0, none⟩ (liN w.heap.size) := by
    rw [← hW]
    refine ⟨?_, ?_, ?_, ?_, ?_, ?_, ?_, ?_⟩ <;> simp [go_sem]
  have he : W.cell? ⟨w.heap.size+1+1+1+1+1+1+1, 0, none⟩ = some (.string sLi) ∧ W.cell? ⟨w.heap.size+1+1+1+1+1+1+1, 1, none⟩ = some (.slice (some ⟨w.heap.size+1+1+1+1+1+1, 0, none⟩) 2 2) := by
    rw [← hW]
    refine ⟨?_, ?_⟩ <;> simp [go_sem]
  show RsP _ _ _
  rw [show (((((((((w.alloc (.cells #[.slice (some ⟨w.heap.size+1+1+1+1+1+1+1, 0, none⟩) 1 1, .slice (some ⟨w.heap.size+1+1+1+1+1+1+1+1, 0, none⟩) 1 1] 36)).alloc (.cells #[.int .i64 1, .int .i64 0, .int .i64 3, .int .i64 0, .string ⟨#[]⟩, .slice none 0 0] 24)).alloc (.cells #[.string sX, .int .i64 3, .slice none 0 0] 98)).alloc (.cells #[.string sX] 9)).alloc (.cells #[.slice (some ⟨w.heap.size+1+1+1, 0, none⟩) 1 1, .int .i64 1, .int .i64 0, .int .i64 3, .int .i64 0, .string ⟨#[]⟩, .slice none 0 0] 59)).alloc (.cells #[.string sF, .slice none 0 0, .slice (some ⟨w.heap.size+1+1, 0, none⟩) 1 1, .slice none 0 0, .slice (some ⟨w.heap.size+1+1+1+1, 0, none⟩) 1 1, .slice none 0 0, .slice none 0 0, .slice none 0 0] 56)).alloc (.cells #[.string sRe, .string sGr] 9)).alloc (.cells #[.string sLi, .slice (some ⟨w.heap.size+1+1+1+1+1+1, 0, none⟩) 2 2] 72)).alloc (.cells #[.string sF, .slice none 0 0, .slice (some ⟨w.heap.size+1+1, 0, none⟩) 1 1, .slice none 0 0, .slice (some ⟨w.heap.size+1+1+1+1, 0, none⟩) 1 1, .slice none 0 0, .slice none 0 0, .slice none 0 0] 56)) = W from hW]
  clear hW
  refine ⟨⟨⟨fun _ => ⟨_, rfl, by simp only; omega, fun i e hi => ?_⟩, fun i e hi => ?_⟩, ⟨by simp [maxLen], Nat.le_refl _⟩, fun e he => ?_⟩, rdr_one (by simp only; omega) hn 1 (Nat.le_refl _), fun n hn => ?_⟩
  · rcases i with _ | i
    · obtain rfl : liE w.heap.size = e := by simpa using hi
      refine ⟨?_, ?_⟩
      · rw [Nat.zero_mul, add_zero']; exact he.1
      · rw [Nat.zero_mul, va.add_off]; exact he.2
    · simp at hi
  · rcases i with _ | i
    · obtain rfl : liE w.heap.size = e := by simpa using hi
      exact ht
    · simp at hi
  · obtain rfl : e = liE w.heap.size := by simpa using he
    exact ⟨show sLi.size ≤ 140737488351232 by decide, ⟨by simp [maxLen], Nat.le_refl _⟩, show ∀ b ∈ [sRe, sGr], b.size ≤ 140737488351232 by decide⟩
  · obtain rfl : n = liN w.heap.size := by simpa using hn
    refine ⟨show sF.size ≤ 140737488351232 by decide, rsn_nil, ⟨rdr_one (by simp only; omega) hd 1 (Nat.le_refl _), fun d hd => ?_⟩, rsn_nil, ⟨rdr_one (by simp only; omega) hq 1 (Nat.le_refl _), fun q hq => ?_⟩, ⟨RdR.nil _ _ _ _ _, fun d h => by cases h⟩, ⟨RdR.nil _ _ _ _ _, fun d h => by cases h⟩, ⟨RdR.nil _ _ _ _ _, fun d h => by cases h⟩⟩
    · obtain rfl : d = ⟨sX, 3, ⟨none, 0, []⟩⟩ := by simpa using hd
      exact ⟨⟨by decide, by decide⟩, RdR.nil _ _ _ _ _, fun d h => by cases h⟩
    · obtain rfl : q = ⟨⟨some ⟨w.heap.size+1+1+1, 0, none⟩, 1, [sX]⟩, redX⟩ := by simpa using hq
      exact ⟨⟨rdr_one (by simp only; omega) hl 1 (Nat.le_refl _), show ∀ b ∈ [sX], b.size ≤ 140737488351232 by decide⟩, red_rd _ _⟩
end Go.Proofs.YthlapepjebidgaaGreatDoor
/- A leaf. -/
namespace Go.Proofs.YthlapepjebidgaaGreatDoor
set_option linter.unusedVariables false
set_option linter.unusedSimpArgs false
open Go.RowKit
theorem leaf_list (k op t v : Int) (nm : ByteArray) : (Xt.mk k op t v nm none 0 []).list = [.mk k op t v nm none 0 []] := by rw [Xt.list_eq]; rfl
theorem leaf_size (k op t v : Int) (nm : ByteArray) : (Xt.mk k op t v nm none 0 []).size = 1 := by rw [Xt.size_eq]; rfl
theorem leaf_depth (k op t v : Int) (nm : ByteArray) : (Xt.mk k op t v nm none 0 []).depth = 1 := by rw [Xt.depth_eq]; rfl
end Go.Proofs.YthlapepjebidgaaGreatDoor
/- The law's example: what is said of it. -/
namespace Go.Proofs.YthlapepjebidgaaGreatDoor
set_option linter.unusedVariables false
set_option linter.unusedSimpArgs false
open Go.RowKit
abbrev sG : ByteArray := ⟨#[103]⟩
theorem id_x : idP sX = true := by decide +kernel
theorem id_f : idP sF = true := by decide +kernel
theorem id_g : idP sG = true := by decide +kernel
theorem id_li : idP sLi = true := by decide +kernel
theorem id_re : idP sRe = true := by decide +kernel
theorem id_gr : idP sGr = true := by decide +kernel
/-- the constant with the value v -/
abbrev cX (v : Int) : Xt := .mk 1 0 3 v ⟨#[]⟩ none 0 []
theorem chk_cX (v : Int) (h0 : 0 ≤ v) (h1 : v < 16) : chkAll wokP (cX v) = 0 := by
  unfold chkAll
  rw [leaf_size, leaf_depth, leaf_list, if_neg (by omega), firstE, if_pos]
  · rfl
  · unfold chk1
    simp [Xt.k, Xt.op, Xt.t, Xt.v, Xt.nm, Xt.ar, formedP, onlyP, hasVal, hasIdn, hasVar, h0, h1]
theorem tags_li (h : Nat) : va.tagsOf [liE h] 3 = [sRe, sGr] := va.tagsOf_enu (es := [liE h]) (k := 0) rfl
theorem size_li (h : Nat) : va.sizeT [liE h] 3 = 2 := by
  unfold va.sizeT
  rw [if_neg (by decide), tags_li]
  rfl
theorem has_li (h : Nat) (v : Int) : va.hasB [liE h] 3 v = (decide (0 ≤ v) && decide (v < 2)) := by
  unfold va.hasB
  rw [if_neg (by decide), size_li]
theorem ins_cX (h : Nat) (v : Int) (h0 : 0 ≤ v) : insE [liE h] (cX v) = if v < 2 then 0 else 14 := by
  rw [insE_eq]
  have h1 : typE [liE h] (cX v) = if v < 2 then 0 else 14 := by
    by_cases hv : v < 2
    · simp [typE, Xt.k, Xt.t, Xt.v, Xt.ar, size_li, has_li, h0, hv]
    · simp [typE, Xt.k, Xt.t, Xt.v, Xt.ar, size_li, has_li, h0, hv]
  rw [h1]
  show orE _ (errs ([].map _)) = _
  by_cases hv : v < 2
  · rw [if_pos hv]; rfl
  · rw [if_neg hv]; rfl
theorem exp_cX (h : Nat) (v : Int) (h0 : 0 ≤ v) (h1 : v < 16) : expE [liE h] (cX v) = if v < 2 then 0 else 14 := by
  unfold expE
  rw [chk_cX v h0 h1, orE0, ins_cX h v h0]
theorem enum_li (h : Nat) : enumE (liE h) = 0 := by
  unfold enumE
  rw [show (liE h).name = sLi from rfl, id_li, if_pos rfl, if_neg (show ¬ ([sRe, sGr].length = 0) by decide), if_neg (show ¬ (16 < [sRe, sGr].length) by decide)]
  show errs [idE sRe, idE sGr] = 0
  unfold idE
  rw [id_re, id_gr]
  rfl
theorem node_li (h k : Nat) : nodE [liE h] (liN k) = (-1, 0) := by
  have hh : hedE [liE h] (liN k) = 0 := by
    unfold hedE
    rw [show (liN k).nm = sF from rfl, id_f, if_pos rfl, if_neg (by simp), if_neg (by simp)]
    show orE 0 (orE (errs [portE [liE h] ⟨sX, 3, ⟨none, 0, []⟩⟩]) 0) = 0
    have hp : portE [liE h] ⟨sX, 3, ⟨none, 0, []⟩⟩ = 0 := by
      unfold portE dclE
      simp only
      rw [id_x, if_pos rfl]
      rfl
    rw [hp]
    rfl
  rw [nodE_eq, hh, if_pos rfl]
  have hq : eqsE [liE h] (liN k).qs.l = none := by
    show eqsE [liE h] [⟨⟨some _, 1, [sX]⟩, redX⟩] = none
    have hx : eqnE [liE h] ⟨⟨some ⟨k+1+1+1, 0, none⟩, 1, [sX]⟩, redX⟩ = 0 := by
      unfold eqnE
      simp only
      rw [if_neg (by simp), if_neg (by simp), exp_cX h 0 (by decide) (by decide), if_pos (by decide)]
      show orE (errs [idE sX]) (orE 0 (if 1 < 1 ∧ redX.k ≠ 10 then 5 else 0)) = 0
      rw [if_neg (show ¬ (1 < 1 ∧ redX.k ≠ 10) by omega), show idE sX = 0 by unfold idE; rw [id_x]; rfl]
      rfl
    rw [eqsE, hx, if_pos rfl]
    rfl
  rw [hq]
  rfl
theorem chk_li (h : Nat) : chkE (liP h) = ((0, 0), 0) := by
  unfold chkE
  rw [if_neg (by simp)]
  show (if errs [enumE (liE h)] = 0 then _ else _) = _
  rw [enum_li, if_pos (show errs [0] = 0 from rfl)]
  show wheR (ndsE [liE h] [liN h]) = _
  rw [ndsE, node_li, if_pos rfl]
  rfl
/-- the node that is added -/
abbrev gN : Nt := ⟨sG, ⟨none, 0, []⟩, ⟨none, 0, []⟩, ⟨none, 0, []⟩, ⟨none, 0, []⟩, ⟨none, 0, []⟩, ⟨none, 0, []⟩, ⟨none, 0, []⟩⟩
abbrev liQ (h g c : Nat) : Pt := ⟨(liP h).es, ⟨some ⟨g, 0, none⟩, c, [liN h, gN]⟩⟩
theorem node_g (h : Nat) : nodE [liE h] gN = (-1, 8) := by
  have hh : hedE [liE h] gN = 8 := by
    unfold hedE
    rw [show gN.nm = sG from rfl, id_g, if_pos rfl, if_neg (by simp), if_pos (show gN.outs.l.length = 0 from rfl)]
  rw [nodE_eq, hh, if_neg (by decide)]
theorem chk_liQ (h g c : Nat) : chkE (liQ h g c) = ((1, -1), 8) := by
  unfold chkE
  rw [if_neg (by simp)]
  show (if errs [enumE (liE h)] = 0 then _ else _) = _
  rw [enum_li, if_pos (show errs [0] = 0 from rfl)]
  show wheR (ndsE [liE h] [liN h, gN]) = _
  rw [ndsE, node_li, if_pos rfl, ndsE, node_g, if_neg (by decide)]
  rfl
theorem find_liQ (h g c : Nat) : fndI (liQ h g c) sG = 1 := by
  unfold fndI
  show idxF _ [liN h, gN] 0 = 1
  rw [idxF, if_neg (show ¬ (sF.toList == sG.toList) = true by decide +kernel), idxF, if_pos (show (sG.toList == sG.toList) = true by decide +kernel)]
  rfl
theorem same_red : sameX redX redX = true := sameX_yes rfl
theorem same_liN (h k : Nat) : samN (liN h) (liN k) = true := by
  unfold samN
  have h1 : all2 samD (liN h).outs.l (liN k).outs.l = true := by
    show all2 samD [⟨sX, 3, ⟨none, 0, []⟩⟩] [⟨sX, 3, ⟨none, 0, []⟩⟩] = true
    decide +kernel
  have h2 : all2 samQ (liN h).qs.l (liN k).qs.l = true := by
    show (samQ _ _ && true) = true
    unfold samQ
    rw [show sameX redX redX = true from same_red, Bool.and_true, Bool.and_true]
    show all2 samB [sX] [sX] = true
    decide +kernel
  rw [h1, h2]
  show (sF.toList == sF.toList && _) = true
  rw [show (sF.toList == sF.toList) = true by decide +kernel]
  rfl
theorem same_li (h k : Nat) : samP (liP h) (liP k) = true := by
  unfold samP
  show (all2 samE [liE h] [liE k] && all2 samN [liN h] [liN k]) = true
  rw [all2, all2, all2, all2, same_liN]
  unfold samE
  show ((sLi.toList == sLi.toList && all2 samB [sRe, sGr] [sRe, sGr]) && true && (true && true)) = true
  decide +kernel
theorem same_liQ (h k g c : Nat) : samP (liP h) (liQ k g c) = false := by
  unfold samP
  rw [all2_len (show (liP h).ns.l.length ≠ (liQ k g c).ns.l.length by show 1 ≠ 2; decide), Bool.and_false]
theorem sm_liN (h : Nat) : SmN 1048576 (liN h) := by
  refine ⟨fun q hq => ?_, (fun a ha => by cases ha), (fun x hx => by cases hx), (fun x hx => by cases hx)⟩
  obtain rfl : q = ⟨⟨some ⟨h+1+1+1, 0, none⟩, 1, [sX]⟩, redX⟩ := by simpa using hq
  show redX.size ≤ _
  rw [leaf_size]
  decide
end Go.Proofs.YthlapepjebidgaaGreatDoor
/- awake: the walk. -/
namespace Go.Proofs.YthlapepjebidgaaGreatDoor
set_option linter.unusedVariables false
set_option linter.unusedSimpArgs false
open Go.RowKit
abbrev esV (h : Nat) : Value := .slice (some ⟨h+1+1+1+1+1+1+1, 0, none⟩) 1 1
abbrev nsV (h : Nat) : Value := .slice (some ⟨h+1+1+1+1+1+1+1+1, 0, none⟩) 1 1
theorem ndInfo : (Tryz.prog.info? 56).map (fun i => (i.zero, i.size, i.bytes)) = some (some (.agg #[.string ⟨#[]⟩, .slice none 0 0, .slice none 0 0, .slice none 0 0, .slice none 0 0, .slice none 0 0, .slice none 0 0, .slice none 0 0]), 8, 184) := by kernel_rfl
theorem nCs_one (n : Nt) : ∀ u ∈ nCs n, u.oneCell' = true := by
  intro u hu
  simp [nCs] at hu
  rcases hu with rfl | rfl | rfl | rfl | rfl | rfl | rfl | rfl <;> rfl
theorem nc_cells {w : World} {a : Addr} {n : Nt} (h : NC w a n) : ∀ j u, (nCs n)[j]? = some u → w.cell? (a.add j) = some u := by
  obtain ⟨h0, h1, h2, h3, h4, h5, h6, h7⟩ := h
  have ad : ∀ k, a.add (k+1) = ⟨a.block, a.off + (k+1), none⟩ := fun k => by simp [Addr.add]
  intro j u hu
  rcases j with _ | _ | _ | _ | _ | _ | _ | _ | j
  · obtain rfl := Option.some.inj hu; rw [add_zero']; exact h0
  · obtain rfl := Option.some.inj hu; rw [ad]; exact h1
  · obtain rfl := Option.some.inj hu; rw [ad]; exact h2
  · obtain rfl := Option.some.inj hu; rw [ad]; exact h3
  · obtain rfl := Option.some.inj hu; rw [ad]; exact h4
  · obtain rfl := Option.some.inj hu; rw [ad]; exact h5
  · obtain rfl := Option.some.inj hu; rw [ad]; exact h6
  · obtain rfl := Option.some.inj hu; rw [ad]; exact h7
  · simp [nCs] at hu
theorem gN_cells (w : World) (T : TypeId) : ∀ j u, (nCs gN)[j]? = some u → (w.alloc (.cells #[.string sG, .slice none 0 0, .slice none 0 0, .slice none 0 0, .slice none 0 0, .slice none 0 0, .slice none 0 0, .slice none 0 0] T)).cell? ((⟨w.heap.size, 0, none⟩ : Addr).add j) = some u := by
  intro j u hu
  rw [va.add_off]
  rcases j with _ | _ | _ | _ | _ | _ | _ | _ | j
  all_goals (first | (obtain rfl := Option.some.inj hu; simp [go_sem]; done) | (simp [nCs] at hu))
theorem own_nodes {w : World} {base : Nat} {v : Value} {a b : Nt} (h : w.ownsRow base 56 8 v 2 (nCs a ++ nCs b)) : ∃ g c, v = .slice (some ⟨g, 0, none⟩) 2 c ∧ 2 ≤ c ∧ base ≤ g ∧ g < w.heap.size ∧ NC w ⟨g, 0, none⟩ a ∧ NC w ⟨g, 8, none⟩ b := by
  rcases h.2 with ⟨_, h2⟩ | ⟨g, cap, cur, rfl, hb, hg, hn, _, _, ht⟩
  · cases h2
  · have key : ∀ j u, j < 16 → (nCs a ++ nCs b)[j]? = some u → w.cell? ⟨g, j, none⟩ = some u := fun j u hj hu => by
      rw [cell_of_row w g j cur _ (0, 0) hg]
      rw [← ht, List.getElem?_take_of_lt (by omega)] at hu
      rw [← Array.getElem?_toList]; exact hu
    exact ⟨g, cap, rfl, hn, hb, (Array.getElem?_eq_some_iff.1 hg).1, ⟨key 0 _ (by omega) rfl, key 1 _ (by omega) rfl, key 2 _ (by omega) rfl, key 3 _ (by omega) rfl, key 4 _ (by omega) rfl, key 5 _ (by omega) rfl, key 6 _ (by omega) rfl, key 7 _ (by omega) rfl⟩,
      ⟨key 8 _ (by omega) rfl, key 9 _ (by omega) rfl, key 10 _ (by omega) rfl, key 11 _ (by omega) rfl, key 12 _ (by omega) rfl, key 13 _ (by omega) rfl, key 14 _ (by omega) rfl, key 15 _ (by omega) rfl⟩⟩
theorem gN_rs (w : World) (B : Nat) : RsN w B gN :=
  ⟨show sG.size ≤ 140737488351232 by decide, rsn_nil, rsn_nil, rsn_nil, ⟨RdR.nil _ _ _ _ _, fun d h => by cases h⟩, ⟨RdR.nil _ _ _ _ _, fun d h => by cases h⟩, ⟨RdR.nil _ _ _ _ _, fun d h => by cases h⟩, ⟨RdR.nil _ _ _ _ _, fun d h => by cases h⟩⟩
theorem liQ_rs {w W : World} {h g c : Nat} (hR : RsP w w.heap.size (liP h)) (hb : Below w.heap.size w W) (hg : g < W.heap.size) (hc : 2 ≤ c) (h1 : NC W ⟨g, 0, none⟩ (liN h)) (h2 : NC W ⟨g, 8, none⟩ gN) : RsP W W.heap.size (liQ h g c) := by
  refine ⟨hR.1.blw hb hb.size, ⟨fun _ => ⟨_, rfl, hg⟩, fun a i y hA hy => ?_, by simp [maxLen], hc⟩, fun n hn => ?_⟩
  · obtain rfl := Option.some.inj hA
    rcases i with _ | _ | i
    · obtain rfl : liN h = y := by simpa using hy
      rw [Nat.zero_mul, add_zero']
      exact h1
    · obtain rfl : gN = y := by simpa using hy
      rw [va.add_off]
      exact h2
    · simp at hy
  · rcases List.mem_cons.1 hn with rfl | hn
    · exact (hR.2.2 (liN h) (by simp)).blw hb hb.size
    · obtain rfl := List.mem_singleton.1 hn
      exact gN_rs _ _
theorem grown_below {w w' : World} (h : w.grownBy w' none) : Below w.heap.size w w' := ⟨h.os, h.tape, h.output, h.size, fun k hk => h.block k hk (by intro e; cases e)⟩
/-- a box of two cells in any later world -/
theorem bx2' {w W : World} {x y : Value} {T : TypeId} (h : Below (w.alloc (.cells #[x, y] T)).heap.size (w.alloc (.cells #[x, y] T)) W) : W.cell? ⟨w.heap.size, 0, none⟩ = some x ∧ W.cell? ⟨w.heap.size, 1, none⟩ = some y ∧ w.heap.size < W.heap.size := by
  have hs := h.size
  rw [World.size_alloc] at hs
  have hc : ∀ q : Addr, q.block < w.heap.size+1 → W.cell? q = _ := fun q hq => h.cell (by rw [World.size_alloc]; exact hq)
  refine ⟨?_, ?_, hs⟩
  all_goals (rw [hc _ (by simp)]; simp [go_sem])
def LiW (w : World) (e : Ending) (w' : World) : Prop := ∃ h, e = .returned (.agg #[esV h, nsV h]) ∧ RsP w' w'.heap.size (liP h) ∧ Below w.heap.size w w'
structure AwK (w : World) : Prop where
  L : Hid (∀ W, Below w.heap.size w W → Calls Tryz.prog 54 #[] W (LiW W))
  C1 : Hid (∀ h W, RsP W W.heap.size (liP h) → Below w.heap.size w W → Calls Tryz.prog 15 #[.agg #[esV h, nsV h]] W (Bel (.tuple #[.agg #[.int .i64 0, .int .i64 0], .int .i64 0]) W))
  C2 : Hid (∀ h g c W, RsP W W.heap.size (liQ h g c) → Below w.heap.size w W → Calls Tryz.prog 15 #[.agg #[esV h, .slice (some ⟨g, 0, none⟩) 2 c]] W (Bel (.tuple #[.agg #[.int .i64 1, .int .i64 (-1)], .int .i64 8]) W))
  F : Hid (∀ h g c W, RsP W W.heap.size (liQ h g c) → Below w.heap.size w W → Calls Tryz.prog 19 #[.agg #[esV h, .slice (some ⟨g, 0, none⟩) 2 c], .string sG] W (Bel (.tuple #[.int .i64 1, .bool true]) W))
  P : Hid (∀ h W, RsP W W.heap.size (liP h) → Below w.heap.size w W → Calls Tryz.prog 17 #[.agg #[esV h, nsV h]] W (Bel (.bool true) W))
  S1 : Hid (∀ h k W, RsP W W.heap.size (liP h) → RsP W W.heap.size (liP k) → Below w.heap.size w W → Calls Tryz.prog 24 #[.agg #[esV h, nsV h], .agg #[esV k, nsV k]] W (Bel (.bool true) W))
  S2 : Hid (∀ h k g c W, RsP W W.heap.size (liP h) → RsP W W.heap.size (liQ k g c) → Below w.heap.size w W → Calls Tryz.prog 24 #[.agg #[esV h, nsV h], .agg #[esV k, .slice (some ⟨g, 0, none⟩) 2 c]] W (Bel (.bool false) W))
  E : Hid (∀ h W, RsP W W.heap.size (liP h) → Below w.heap.size w W → Calls Tryz.prog 22 #[esV h, .agg #[.int .i64 1, .int .i64 0, .int .i64 3, .int .i64 2, .string ⟨#[]⟩, .slice none 0 0]] W (Bel (.int .i64 14) W))
theorem cX_rs (v : Int) (w : World) (B : Nat) : RsX w B (cX v) := by
  refine ⟨.mk _ (fun h => absurd rfl h) (fun ad i y h => by cases h) (fun y h => by cases h) ⟨⟨Nat.zero_le _, Nat.zero_le _⟩, Nat.le_refl _⟩, fun y hy => ?_⟩
  rw [Xt.list_eq] at hy
  obtain rfl : y = cX v := by simpa [Xt.ar] using hy
  exact ⟨Nat.zero_le _, show (3 : Int) ≤ 9223372036854775807 by decide⟩
theorem awk (w : World) (hs : Std w) : AwK w where
  L := Lib.hid fun W _ => (light_any W).mono fun e w' ⟨h, he, hR, hb, _⟩ => ⟨h, he, hR, hb⟩
  C1 := Lib.hid fun h W hR hb => by
    have := sh_check (liP h) W (hs.to hb) hR
    rw [chk_li] at this
    exact this
  C2 := Lib.hid fun h g c W hR hb => by
    have := sh_check (liQ h g c) W (hs.to hb) hR
    rw [chk_liQ] at this
    exact this
  F := Lib.hid fun h g c W hR hb => by
    have := sh_find (liQ h g c) sG W hR.2.1
    rw [find_liQ] at this
    exact this
  P := Lib.hid fun h W hR hb => sh_plain (liP h) W hR.2.1
  S1 := Lib.hid fun h k W hR hK hb => by
    have := sh_same (liP h) (liP k) W hR hK (fun n hn => by obtain rfl := List.mem_singleton.1 hn; exact sm_liN h)
    rw [same_li] at this
    exact this
  S2 := Lib.hid fun h k g c W hR hK hb => by
    have := sh_same (liP h) (liQ k g c) W hR hK (fun n hn => by obtain rfl := List.mem_singleton.1 hn; exact sm_liN h)
    rw [same_liQ] at this
    exact this
  E := Lib.hid fun h W hR hb => by
    have := sh_Expr (liP h).es (cX 2) W (hs.to hb) hR.1 (cX_rs 2 _ _)
    rw [show (liP h).es.l = [liE h] from rfl, exp_cX h 2 (by decide) (by decide), if_neg (by decide)] at this
    exact this
end Go.Proofs.YthlapepjebidgaaGreatDoor
/- awake: the walk. -/
namespace Go.Proofs.YthlapepjebidgaaGreatDoor
set_option linter.unusedVariables false
set_option linter.unusedSimpArgs false
open Go.RowKit
theorem RsP.to {w W : World} {p : Pt} (h : RsP w w.heap.size p) (hb : Below w.heap.size w W) : RsP W W.heap.size p := h.blw hb hb.size
theorem li_olds {w W : World} {h : Nat} (hR : RsP w w.heap.size (liP h)) (hb : Below w.heap.size w W) : ∀ b, some (⟨h+1+1+1+1+1+1+1+1, 0, none⟩ : Addr) = some b → ∀ j u, (nCs (liN h))[j]? = some u → W.cell? (b.add j) = some u := by
  intro b hb' j u hu
  obtain rfl := Option.some.inj hb'
  have := (hR.to hb).2.1.2.1 ⟨h+1+1+1+1+1+1+1+1, 0, none⟩ 0 (liN h) rfl rfl
  rw [Nat.zero_mul, add_zero'] at this
  exact nc_cells this j u hu
theorem gN_cells2 (w : World) (o : Obj) (T : TypeId) : ∀ j u, (nCs gN)[j]? = some u → ((w.alloc o).alloc (.cells #[.string sG, .slice none 0 0, .slice none 0 0, .slice none 0 0, .slice none 0 0, .slice none 0 0, .slice none 0 0, .slice none 0 0] T)).cell? ((⟨w.heap.size+1, 0, none⟩ : Addr).add j) = some u := by
  have e : w.heap.size+1 = (w.alloc o).heap.size := (World.size_alloc _ _).symm
  rw [e]
  exact gN_cells _ _
/-- behind the append and the store into q -/
theorem li_after {w3 w4 : World} {h base : Nat} {v4 : Value} {T : TypeId} (hR : RsP w3 w3.heap.size (liP h)) (hb : Below (w3.alloc (.cells #[esV h, nsV h] T)).heap.size (w3.alloc (.cells #[esV h, nsV h] T)) w4) (hB : w3.heap.size < base) (hown : w4.ownsRow base 56 8 v4 2 (nCs (liN h) ++ nCs gN)) :
    ∃ g c, v4 = .slice (some ⟨g, 0, none⟩) 2 c ∧ w4.cell? ⟨w3.heap.size, 0, none⟩ = some (esV h) ∧ w4.cell? ⟨w3.heap.size, 1, none⟩ = some (nsV h) ∧ w4.frozen? ⟨w3.heap.size, 1, none⟩ = false ∧
      Hid (RsP (w4.setCell ⟨w3.heap.size, 1, none⟩ (.slice (some ⟨g, 0, none⟩) 2 c)) (w4.setCell ⟨w3.heap.size, 1, none⟩ (.slice (some ⟨g, 0, none⟩) 2 c)).heap.size (liQ h g c)) ∧ Hid (Below w3.heap.size w3 (w4.setCell ⟨w3.heap.size, 1, none⟩ (.slice (some ⟨g, 0, none⟩) 2 c))) ∧
      Cap (w4.setCell ⟨w3.heap.size, 1, none⟩ (.slice (some ⟨g, 0, none⟩) 2 c)) ⟨w3.heap.size, 0, none⟩ (esV h) ∧ Cap (w4.setCell ⟨w3.heap.size, 1, none⟩ (.slice (some ⟨g, 0, none⟩) 2 c)) ⟨w3.heap.size, 1, none⟩ (.slice (some ⟨g, 0, none⟩) 2 c) := by
  obtain ⟨g, c, rfl, hc, hg, hg2, n1, n2⟩ := own_nodes hown
  obtain ⟨b0, b1, b2⟩ := bx2' hb
  have hf : w4.frozen? ⟨w3.heap.size, 1, none⟩ = false := by
    rw [hb.frozen (p := ⟨w3.heap.size, 1, none⟩) (by rw [World.size_alloc]; exact Nat.lt_succ_self _)]
    simp [go_sem]
  have hz : (w4.setCell ⟨w3.heap.size, 1, none⟩ (.slice (some ⟨g, 0, none⟩) 2 c)).heap.size = w4.heap.size := by simp [World.setCell]
  have hbq : Below w3.heap.size w3 (w4.setCell ⟨w3.heap.size, 1, none⟩ (.slice (some ⟨g, 0, none⟩) 2 c)) := ((bel_box _).trans (hb.mono (by rw [World.size_alloc]; omega))).setCell (p := ⟨w3.heap.size, 1, none⟩) (Nat.le_refl _) _
  have hne : ∀ p : Addr, p.block = g → (w4.setCell ⟨w3.heap.size, 1, none⟩ (.slice (some ⟨g, 0, none⟩) 2 c)).cell? p = w4.cell? p := fun p hp => World.cell?_setCell_other _ _ _ _ (by intro e; rw [← e] at hp; simp at hp; omega)
  refine ⟨g, c, rfl, b0, b1, hf, Lib.hid (liQ_rs hR hbq (by rw [hz]; exact hg2) hc (oneB_N _ _ _ _ n1 hne) (oneB_N _ _ _ _ n2 hne)), Lib.hid hbq, ⟨?_, by rw [hz]; exact b2⟩, ⟨World.cell?_setCell_same' _ _ _ (by rw [b1]; rfl), by rw [hz]; exact b2⟩⟩
  rw [World.cell?_setCell_other _ _ _ _ (by simp)]
  exact b0
set_option maxHeartbeats 4000000 in
set_option maxRecDepth 20000 in
theorem awake_any (w : World) (hs : Std w) : Calls Tryz.prog 21 #[] w (Bel (.bool true) w) := by
  obtain ⟨KL, KC1, KC2, KF, KP, KS1, KS2, KE⟩ := awk w hs
  obtain ⟨i0, hi, iz, is, ib⟩ := info_parts ndInfo
  clear hs
  go_enter Tryz.func21, Tryz.ntmps21
  go_wp2_with (first
    | (have tag := hR1; go_at_call 54; (with_reducible refine (KL.out _ ?_).mono ?_); (focus ((repeat (first | (with_reducible exact Below.refl _ _) | (with_reducible assumption) | (with_reducible exact bel_box _) | (with_reducible refine bel_step ?_ (by with_reducible assumption)) | (with_reducible refine Below.drew ?_) | (with_reducible refine below_drewN ?_ _) | (with_reducible refine bel_alloc ?_ _))); done)); rintro e w3 ⟨h3, rfl, hR3, hb3⟩)
    | (go_at_call 54; (with_reducible refine (KL.out _ ?_).mono ?_); (focus ((repeat (first | (with_reducible exact Below.refl _ _) | (with_reducible assumption) | (with_reducible exact bel_box _) | (with_reducible refine bel_step ?_ (by with_reducible assumption)) | (with_reducible refine Below.drew ?_) | (with_reducible refine below_drewN ?_ _) | (with_reducible refine bel_alloc ?_ _))); done)); rintro e w1 ⟨h1, rfl, hR1, hb1⟩)
    | (go_at_call 15; (with_reducible refine (KC1.out h1 _ ?_ ?_).mono ?_); (focus (exact hR1.to (bel_box _); done)); (focus ((repeat (first | (with_reducible exact Below.refl _ _) | (with_reducible assumption) | (with_reducible exact bel_box _) | (with_reducible refine bel_step ?_ (by with_reducible assumption)) | (with_reducible refine Below.drew ?_) | (with_reducible refine below_drewN ?_ _) | (with_reducible refine bel_alloc ?_ _))); done)); rintro e w2 ⟨rfl, hb2⟩)
    | (at_builtin; (refine wpList_append_grows _ rfl _ _ 34 rfl 56 i0 (.agg #[.string ⟨#[]⟩, .slice none 0 0, .slice none 0 0, .slice none 0 0, .slice none 0 0, .slice none 0 0, .slice none 0 0, .slice none 0 0]) 8 184 Tryz.underlying34 hi iz is ib rfl (by decide) (some ⟨h3+1+1+1+1+1+1+1+1, 0, none⟩) 1 1 (nCs (liN h3)) rfl (by intro e; cases e) rfl ?_ ⟨w3.heap.size+1, 0, none⟩ 1 1 (nCs gN) rfl rfl (gN_cells2 _ _ _) (nCs_one _) (by decide) (by decide) (by decide) ?_; (focus (refine li_olds hR3 ?_; (repeat (first | (with_reducible exact Below.refl _ _) | (with_reducible assumption) | (with_reducible exact bel_box _) | (with_reducible refine bel_step ?_ (by with_reducible assumption)) | (with_reducible refine Below.drew ?_) | (with_reducible refine below_drewN ?_ _) | (with_reducible refine bel_alloc ?_ _))); done)); intro v4 w4 hown4 hgrow4; have hb4 := grown_below hgrow4; obtain ⟨g, c, rfl, q0, q1, qf, HQ, HB, Cq0, Cq1⟩ := li_after (T := 36) hR3 (by repeat (first | (with_reducible exact Below.refl _ _) | (with_reducible assumption) | (with_reducible exact bel_box _) | (with_reducible refine bel_step ?_ (by with_reducible assumption)) | (with_reducible refine Below.drew ?_) | (with_reducible refine below_drewN ?_ _) | (with_reducible refine bel_alloc ?_ _))) (by simp only [World.size_alloc]; omega) hown4; have hB5 : Below w.heap.size w (w4.setCell ⟨w3.heap.size, 1, none⟩ (.slice (some ⟨g, 0, none⟩) 2 c)) := (show Below w.heap.size w w3 from (by repeat (first | (with_reducible exact Below.refl _ _) | (with_reducible assumption) | (with_reducible exact bel_box _) | (with_reducible refine bel_step ?_ (by with_reducible assumption)) | (with_reducible refine Below.drew ?_) | (with_reducible refine below_drewN ?_ _) | (with_reducible refine bel_alloc ?_ _)))).trans (HB.out.mono (show Below w.heap.size w w3 from (by repeat (first | (with_reducible exact Below.refl _ _) | (with_reducible assumption) | (with_reducible exact bel_box _) | (with_reducible refine bel_step ?_ (by with_reducible assumption)) | (with_reducible refine Below.drew ?_) | (with_reducible refine below_drewN ?_ _) | (with_reducible refine bel_alloc ?_ _)))).size); have hB6 : Below (w1.alloc (.cells #[esV h1, nsV h1] 36)).heap.size (w1.alloc (.cells #[esV h1, nsV h1] 36)) (w4.setCell ⟨w3.heap.size, 1, none⟩ (.slice (some ⟨g, 0, none⟩) 2 c)) := (show Below (w1.alloc (.cells #[esV h1, nsV h1] 36)).heap.size (w1.alloc (.cells #[esV h1, nsV h1] 36)) w3 from (by repeat (first | (with_reducible exact Below.refl _ _) | (with_reducible assumption) | (with_reducible exact bel_box _) | (with_reducible refine bel_step ?_ (by with_reducible assumption)) | (with_reducible refine Below.drew ?_) | (with_reducible refine below_drewN ?_ _) | (with_reducible refine bel_alloc ?_ _)))).trans (HB.out.mono (show Below (w1.alloc (.cells #[esV h1, nsV h1] 36)).heap.size (w1.alloc (.cells #[esV h1, nsV h1] 36)) w3 from (by repeat (first | (with_reducible exact Below.refl _ _) | (with_reducible assumption) | (with_reducible exact bel_box _) | (with_reducible refine bel_step ?_ (by with_reducible assumption)) | (with_reducible refine Below.drew ?_) | (with_reducible refine below_drewN ?_ _) | (with_reducible refine bel_alloc ?_ _)))).size); have Cp0 : Cap (w4.setCell ⟨w3.heap.size, 1, none⟩ (.slice (some ⟨g, 0, none⟩) 2 c)) ⟨w1.heap.size, 0, none⟩ (esV h1) := ⟨(bx2' hB6).1, (bx2' hB6).2.2⟩; have Cp1 : Cap (w4.setCell ⟨w3.heap.size, 1, none⟩ (.slice (some ⟨g, 0, none⟩) 2 c)) ⟨w1.heap.size, 1, none⟩ (nsV h1) := ⟨(bx2' hB6).2.1, (bx2' hB6).2.2⟩; have HR1 := Lib.hid ((show RsP (w4.setCell ⟨w3.heap.size, 1, none⟩ (.slice (some ⟨g, 0, none⟩) 2 c)) (w4.setCell ⟨w3.heap.size, 1, none⟩ (.slice (some ⟨g, 0, none⟩) 2 c)).heap.size (liP h1) from hR1.to ((bel_box _).trans (hB6.mono (by rw [World.size_alloc]; omega))))); clear hown4 hgrow4 hR3 hb1 hb2 hb3 hb4 hB6 HB hR1))
    | (go_at_call 15; (with_reducible refine (KC2.out _ _ _ _ HQ.out ?_).mono ?_); (focus ((repeat (first | (with_reducible exact Below.refl _ _) | (with_reducible assumption) | (with_reducible exact bel_box _) | (with_reducible refine bel_step ?_ (by with_reducible assumption)) | (with_reducible refine Below.drew ?_) | (with_reducible refine below_drewN ?_ _) | (with_reducible refine bel_alloc ?_ _))); done)); rintro e w5 ⟨rfl, hb5⟩; have p0 := (Cp0.to (w := (w4.setCell ⟨w3.heap.size, 1, none⟩ (.slice (some ⟨g, 0, none⟩) 2 c))) (W := w5) (by repeat (first | (with_reducible exact Below.refl _ _) | (with_reducible assumption) | (with_reducible exact bel_box _) | (with_reducible refine bel_step ?_ (by with_reducible assumption)) | (with_reducible refine Below.drew ?_) | (with_reducible refine below_drewN ?_ _) | (with_reducible refine bel_alloc ?_ _)))).1; have p1 := (Cp1.to (w := (w4.setCell ⟨w3.heap.size, 1, none⟩ (.slice (some ⟨g, 0, none⟩) 2 c))) (W := w5) (by repeat (first | (with_reducible exact Below.refl _ _) | (with_reducible assumption) | (with_reducible exact bel_box _) | (with_reducible refine bel_step ?_ (by with_reducible assumption)) | (with_reducible refine Below.drew ?_) | (with_reducible refine below_drewN ?_ _) | (with_reducible refine bel_alloc ?_ _)))).1; have q0 := (Cq0.to (w := (w4.setCell ⟨w3.heap.size, 1, none⟩ (.slice (some ⟨g, 0, none⟩) 2 c))) (W := w5) (by repeat (first | (with_reducible exact Below.refl _ _) | (with_reducible assumption) | (with_reducible exact bel_box _) | (with_reducible refine bel_step ?_ (by with_reducible assumption)) | (with_reducible refine Below.drew ?_) | (with_reducible refine below_drewN ?_ _) | (with_reducible refine bel_alloc ?_ _)))).1; have q1 := (Cq1.to (w := (w4.setCell ⟨w3.heap.size, 1, none⟩ (.slice (some ⟨g, 0, none⟩) 2 c))) (W := w5) (by repeat (first | (with_reducible exact Below.refl _ _) | (with_reducible assumption) | (with_reducible exact bel_box _) | (with_reducible refine bel_step ?_ (by with_reducible assumption)) | (with_reducible refine Below.drew ?_) | (with_reducible refine below_drewN ?_ _) | (with_reducible refine bel_alloc ?_ _)))).1; have p0a := fun o => cell_al o p0; have p1a := fun o => cell_al o p1; have q0a := fun o => cell_al o q0; have q1a := fun o => cell_al o q1)
    | (go_at_call 19; (with_reducible refine (KF.out _ _ _ _ (HQ.out.to ?_) ?_).mono ?_); (focus ((repeat (first | (with_reducible exact Below.refl _ _) | (with_reducible assumption) | (with_reducible exact bel_box _) | (with_reducible refine bel_step ?_ (by with_reducible assumption)) | (with_reducible refine Below.drew ?_) | (with_reducible refine below_drewN ?_ _) | (with_reducible refine bel_alloc ?_ _))); done)); (focus ((repeat (first | (with_reducible exact Below.refl _ _) | (with_reducible assumption) | (with_reducible exact bel_box _) | (with_reducible refine bel_step ?_ (by with_reducible assumption)) | (with_reducible refine Below.drew ?_) | (with_reducible refine below_drewN ?_ _) | (with_reducible refine bel_alloc ?_ _))); done)); rintro e w6 ⟨rfl, hb6⟩; have p0 := (Cp0.to (w := (w4.setCell ⟨w3.heap.size, 1, none⟩ (.slice (some ⟨g, 0, none⟩) 2 c))) (W := w6) (by repeat (first | (with_reducible exact Below.refl _ _) | (with_reducible assumption) | (with_reducible exact bel_box _) | (with_reducible refine bel_step ?_ (by with_reducible assumption)) | (with_reducible refine Below.drew ?_) | (with_reducible refine below_drewN ?_ _) | (with_reducible refine bel_alloc ?_ _)))).1; have p1 := (Cp1.to (w := (w4.setCell ⟨w3.heap.size, 1, none⟩ (.slice (some ⟨g, 0, none⟩) 2 c))) (W := w6) (by repeat (first | (with_reducible exact Below.refl _ _) | (with_reducible assumption) | (with_reducible exact bel_box _) | (with_reducible refine bel_step ?_ (by with_reducible assumption)) | (with_reducible refine Below.drew ?_) | (with_reducible refine below_drewN ?_ _) | (with_reducible refine bel_alloc ?_ _)))).1; have q0 := (Cq0.to (w := (w4.setCell ⟨w3.heap.size, 1, none⟩ (.slice (some ⟨g, 0, none⟩) 2 c))) (W := w6) (by repeat (first | (with_reducible exact Below.refl _ _) | (with_reducible assumption) | (with_reducible exact bel_box _) | (with_reducible refine bel_step ?_ (by with_reducible assumption)) | (with_reducible refine Below.drew ?_) | (with_reducible refine below_drewN ?_ _) | (with_reducible refine bel_alloc ?_ _)))).1; have q1 := (Cq1.to (w := (w4.setCell ⟨w3.heap.size, 1, none⟩ (.slice (some ⟨g, 0, none⟩) 2 c))) (W := w6) (by repeat (first | (with_reducible exact Below.refl _ _) | (with_reducible assumption) | (with_reducible exact bel_box _) | (with_reducible refine bel_step ?_ (by with_reducible assumption)) | (with_reducible refine Below.drew ?_) | (with_reducible refine below_drewN ?_ _) | (with_reducible refine bel_alloc ?_ _)))).1; have p0a := fun o => cell_al o p0; have p1a := fun o => cell_al o p1; have q0a := fun o => cell_al o q0; have q1a := fun o => cell_al o q1)
    )
  have hw := bx2' (w := w5) (W := w6) hb6
  have r0 := hw.1
  have r1 := hw.2.1
  have TB : Hid (∀ W, Below (w6.alloc (.cells #[.int .i64 1, .int .i64 0, .int .i64 3, .int .i64 2, .string ⟨#[]⟩, .slice none 0 0] 24)).heap.size (w6.alloc (.cells #[.int .i64 1, .int .i64 0, .int .i64 3, .int .i64 2, .string ⟨#[]⟩, .slice none 0 0] 24)) W → (W.cell? ⟨w1.heap.size, 0, none⟩ = some (esV h1) ∧ W.cell? ⟨w1.heap.size, 1, none⟩ = some (nsV h1) ∧ W.cell? ⟨w3.heap.size, 0, none⟩ = some (esV h3) ∧ W.cell? ⟨w3.heap.size, 1, none⟩ = some (.slice (some ⟨g, 0, none⟩) 2 c) ∧ W.cell? ⟨w5.heap.size, 0, none⟩ = some (.int .i64 1) ∧ W.cell? ⟨w5.heap.size, 1, none⟩ = some (.int .i64 (-1)) ∧ W.cell? ⟨w6.heap.size, 0, none⟩ = some (.int .i64 1) ∧ W.cell? ⟨w6.heap.size, 1, none⟩ = some (.int .i64 0) ∧ W.cell? ⟨w6.heap.size, 2, none⟩ = some (.int .i64 3) ∧ W.cell? ⟨w6.heap.size, 3, none⟩ = some (.int .i64 2) ∧ W.cell? ⟨w6.heap.size, 4, none⟩ = some (.string ⟨#[]⟩) ∧ W.cell? ⟨w6.heap.size, 5, none⟩ = some (.slice none 0 0))) := Lib.hid fun W h => by
    have h6 : Below w6.heap.size w6 W := (bel_box _).trans (h.mono (by rw [World.size_alloc]; omega))
    have hc : ∀ q : Addr, q.block < w6.heap.size+1 → W.cell? q = _ := fun q hq => h.cell (by rw [World.size_alloc]; exact hq)
    refine ⟨(h6.cell (World.block_lt_of_cell? w6 _ p0)).trans p0, (h6.cell (World.block_lt_of_cell? w6 _ p1)).trans p1, (h6.cell (World.block_lt_of_cell? w6 _ q0)).trans q0, (h6.cell (World.block_lt_of_cell? w6 _ q1)).trans q1, (h6.cell (World.block_lt_of_cell? w6 _ r0)).trans r0, (h6.cell (World.block_lt_of_cell? w6 _ r1)).trans r1, ?_, ?_, ?_, ?_, ?_, ?_⟩
    all_goals (rw [hc _ (by simp)]; simp [go_sem])
  clear hw p0a p1a q0a q1a
  go_region_held3 (fun w' => (w'.cell? ⟨w1.heap.size, 0, none⟩ = some (esV h1) ∧ w'.cell? ⟨w1.heap.size, 1, none⟩ = some (nsV h1) ∧ w'.cell? ⟨w3.heap.size, 0, none⟩ = some (esV h3) ∧ w'.cell? ⟨w3.heap.size, 1, none⟩ = some (.slice (some ⟨g, 0, none⟩) 2 c) ∧ w'.cell? ⟨w5.heap.size, 0, none⟩ = some (.int .i64 1) ∧ w'.cell? ⟨w5.heap.size, 1, none⟩ = some (.int .i64 (-1)) ∧ w'.cell? ⟨w6.heap.size, 0, none⟩ = some (.int .i64 1) ∧ w'.cell? ⟨w6.heap.size, 1, none⟩ = some (.int .i64 0) ∧ w'.cell? ⟨w6.heap.size, 2, none⟩ = some (.int .i64 3) ∧ w'.cell? ⟨w6.heap.size, 3, none⟩ = some (.int .i64 2) ∧ w'.cell? ⟨w6.heap.size, 4, none⟩ = some (.string ⟨#[]⟩) ∧ w'.cell? ⟨w6.heap.size, 5, none⟩ = some (.slice none 0 0)))
    ((refine TB.out _ ?_; (focus ((repeat (first | (with_reducible exact Below.refl _ _) | (with_reducible assumption) | (with_reducible exact bel_box _) | (with_reducible refine bel_step ?_ (by with_reducible assumption)) | (with_reducible refine Below.drew ?_) | (with_reducible refine below_drewN ?_ _) | (with_reducible refine bel_alloc ?_ _))); done))))
    (first
      | (go_at_call 54; (with_reducible refine (KL.out _ ?_).mono ?_); (focus ((repeat (first | (with_reducible exact Below.refl _ _) | (with_reducible assumption) | (with_reducible exact bel_box _) | (with_reducible refine bel_step ?_ (by with_reducible assumption)) | (with_reducible refine Below.drew ?_) | (with_reducible refine below_drewN ?_ _) | (with_reducible refine bel_alloc ?_ _))); done)); rintro e w8 ⟨h8, rfl, hR8, hb8⟩)
      | (go_at_call 17; (with_reducible refine (KP.out _ _ (HR1.out.to ?_) ?_).mono ?_); (focus ((repeat (first | (with_reducible exact Below.refl _ _) | (with_reducible assumption) | (with_reducible exact bel_box _) | (with_reducible refine bel_step ?_ (by with_reducible assumption)) | (with_reducible refine Below.drew ?_) | (with_reducible refine below_drewN ?_ _) | (with_reducible refine bel_alloc ?_ _))); done)); (focus ((repeat (first | (with_reducible exact Below.refl _ _) | (with_reducible assumption) | (with_reducible exact bel_box _) | (with_reducible refine bel_step ?_ (by with_reducible assumption)) | (with_reducible refine Below.drew ?_) | (with_reducible refine below_drewN ?_ _) | (with_reducible refine bel_alloc ?_ _))); done)); rintro e w7 ⟨rfl, hb7⟩)
      | (go_at_call 24; (with_reducible refine (KS1.out _ _ _ (HR1.out.to ?_) (hR8.to ?_) ?_).mono ?_); (focus ((repeat (first | (with_reducible exact Below.refl _ _) | (with_reducible assumption) | (with_reducible exact bel_box _) | (with_reducible refine bel_step ?_ (by with_reducible assumption)) | (with_reducible refine Below.drew ?_) | (with_reducible refine below_drewN ?_ _) | (with_reducible refine bel_alloc ?_ _))); done)); (focus ((repeat (first | (with_reducible exact Below.refl _ _) | (with_reducible assumption) | (with_reducible exact bel_box _) | (with_reducible refine bel_step ?_ (by with_reducible assumption)) | (with_reducible refine Below.drew ?_) | (with_reducible refine below_drewN ?_ _) | (with_reducible refine bel_alloc ?_ _))); done)); (focus ((repeat (first | (with_reducible exact Below.refl _ _) | (with_reducible assumption) | (with_reducible exact bel_box _) | (with_reducible refine bel_step ?_ (by with_reducible assumption)) | (with_reducible refine Below.drew ?_) | (with_reducible refine below_drewN ?_ _) | (with_reducible refine bel_alloc ?_ _))); done)); rintro e w9 ⟨rfl, hb9⟩)
      | (go_at_call 24; (with_reducible refine (KS2.out _ _ _ _ _ (HR1.out.to ?_) (HQ.out.to ?_) ?_).mono ?_); (focus ((repeat (first | (with_reducible exact Below.refl _ _) | (with_reducible assumption) | (with_reducible exact bel_box _) | (with_reducible refine bel_step ?_ (by with_reducible assumption)) | (with_reducible refine Below.drew ?_) | (with_reducible refine below_drewN ?_ _) | (with_reducible refine bel_alloc ?_ _))); done)); (focus ((repeat (first | (with_reducible exact Below.refl _ _) | (with_reducible assumption) | (with_reducible exact bel_box _) | (with_reducible refine bel_step ?_ (by with_reducible assumption)) | (with_reducible refine Below.drew ?_) | (with_reducible refine below_drewN ?_ _) | (with_reducible refine bel_alloc ?_ _))); done)); (focus ((repeat (first | (with_reducible exact Below.refl _ _) | (with_reducible assumption) | (with_reducible exact bel_box _) | (with_reducible refine bel_step ?_ (by with_reducible assumption)) | (with_reducible refine Below.drew ?_) | (with_reducible refine below_drewN ?_ _) | (with_reducible refine bel_alloc ?_ _))); done)); rintro e w10 ⟨rfl, hb10⟩)
      | (go_at_call 22; (with_reducible refine (KE.out _ _ (HR1.out.to ?_) ?_).mono ?_); (focus ((repeat (first | (with_reducible exact Below.refl _ _) | (with_reducible assumption) | (with_reducible exact bel_box _) | (with_reducible refine bel_step ?_ (by with_reducible assumption)) | (with_reducible refine Below.drew ?_) | (with_reducible refine below_drewN ?_ _) | (with_reducible refine bel_alloc ?_ _))); done)); (focus ((repeat (first | (with_reducible exact Below.refl _ _) | (with_reducible assumption) | (with_reducible exact bel_box _) | (with_reducible refine bel_step ?_ (by with_reducible assumption)) | (with_reducible refine Below.drew ?_) | (with_reducible refine below_drewN ?_ _) | (with_reducible refine bel_alloc ?_ _))); done)); rintro e w11 ⟨rfl, hb11⟩)
    )
  all_goals
    go_wp2
    go_ret
    exact ⟨rfl, (by repeat (first | (with_reducible exact Below.refl _ _) | (with_reducible assumption) | (with_reducible exact bel_box _) | (with_reducible refine bel_step ?_ (by with_reducible assumption)) | (with_reducible refine Below.drew ?_) | (with_reducible refine below_drewN ?_ _) | (with_reducible refine bel_alloc ?_ _)))⟩
end Go.Proofs.YthlapepjebidgaaGreatDoor
/- A row in a field that grows: what a round of 'x.F = append(x.F, ..)' leaves. -/
namespace Go.Proofs.YthlapepjebidgaaGreatDoor
set_option linter.unusedVariables false
set_option linter.unusedSimpArgs false
open Go.RowKit
/-- a slice's length, out of a cell -/
def lenC : Option Value → Nat
  | some (.slice _ n _) => n
  | _ => 0
/-- the field at a holds the row v of n elements; G0 is the block where it lay at first; all else that lay below U in u is as it was -/
structure Lim (Lo : Nat) (w u : World) (H U : Nat) (a : Addr) (G0 : Nat) (e : TypeId) (sz : Nat) (wr : World) (v : Value) (n : Nat) (xs : List Value) : Prop where
  bel : Below H w wr
  size : U ≤ wr.heap.size
  keep : ∀ p : Addr, Lo ≤ p.block → p.block < U → p.block ≠ G0 → p ≠ a → wr.cell? p = u.cell? p
  fro : ∀ p : Addr, Lo ≤ p.block → p.block < U → p.block ≠ G0 → wr.frozen? p = u.frozen? p
  cell : wr.cell? a = some v
  own : wr.ownsRow H e sz v n xs
  blk : ∀ g, v.ownBlock = some g → g = G0 ∨ U ≤ g
theorem row_set {w : World} {base n size : Nat} {e : TypeId} {v : Value} {xs : List Value} (h : w.ownsRow base e size v n xs) {a : Addr} (ha : some a.block ≠ v.ownBlock) (x : Value) : (w.setCell a x).ownsRow base e size v n xs := by
  refine ⟨h.1, h.2.imp id fun ⟨g, cap, cur, e1, h1, h2, r⟩ => ⟨g, cap, cur, e1, h1, ?_, r⟩⟩
  rw [Below.heap_setCell _ _ _ _ (fun e2 => ha (by rw [e1, e2]; rfl))]
  exact h2
theorem Lim.step {Lo : Nat} {w u : World} {H U : Nat} {a : Addr} {G0 : Nat} {e : TypeId} {sz : Nat} {wr : World} {v : Value} {n : Nat} {xs : List Value} (L : Lim Lo w u H U a G0 e sz wr v n xs)
    {W w4 : World} {v4 : Value} {n' : Nat} {xs' : List Value} (hW : Below wr.heap.size wr W) (hown4 : w4.ownsRow H e sz v4 n' xs') (hg : W.grownBy w4 v.ownBlock) (hb4 : v4.ownBlock = v.ownBlock ∨ v4.ownBlock = some W.heap.size)
    (ha : a.block < U) (ha0 : a.block ≠ G0) (haH : H ≤ a.block) (hUH : H ≤ U) :
    Lim Lo w u H U a G0 e sz (w4.setCell a v4) v4 n' xs' := by
  have hne : ∀ p : Addr, p.block < U → p.block ≠ G0 → some p.block ≠ v.ownBlock := fun p hp h0 e => by
    rcases L.blk _ e.symm with h | h <;> omega
  have hUW : U ≤ W.heap.size := Nat.le_trans L.size hW.size
  have hc : ∀ p : Addr, p.block < U → p.block ≠ G0 → w4.cell? p = wr.cell? p := fun p hp h0 =>
    (hg.cell_far p (by omega) (hne p hp h0)).trans (hW.cell (Nat.lt_of_lt_of_le hp L.size))
  have hf : ∀ p : Addr, p.block < U → p.block ≠ G0 → w4.frozen? p = wr.frozen? p := fun p hp h0 =>
    (hg.frozen_far p (by omega) (hne p hp h0)).trans (hW.frozen (Nat.lt_of_lt_of_le hp L.size))
  have hb : Below H w w4 := (L.bel.trans (hW.mono (Nat.le_trans hUH L.size))).grown hg (Nat.le_trans hUH hUW) (fun k hk => (L.own.lt k hk).1)
  have hca : w4.cell? a = some v := (hc a ha ha0).trans L.cell
  have hbk : ∀ g, v4.ownBlock = some g → g = G0 ∨ U ≤ g := fun g hg4 => by
    rcases hb4 with h | h
    · exact L.blk g (h.symm.trans hg4)
    · rw [h] at hg4
      injection hg4 with hg4
      omega
  refine ⟨hb.setCell haH _, ?_, fun p hlo hp h0 hpa => ?_, fun p hlo hp h0 => ?_, World.cell?_setCell_same _ _ _ hca, row_set hown4 (fun e4 => ?_) _, hbk⟩
  · have := hg.size
    simp only [World.size_setCell]
    omega
  · rw [World.cell?_setCell_other _ _ _ _ (fun e => hpa e.symm)]
    exact (hc p hp h0).trans (L.keep p hlo hp h0 hpa)
  · rw [World.frozen?_setCell]
    exact (hf p hp h0).trans (L.fro p hlo hp h0)
  · rcases hbk _ e4.symm with h | h <;> omega
theorem Lim.mid {Lo : Nat} {w u : World} {H U : Nat} {a : Addr} {G0 : Nat} {e : TypeId} {sz : Nat} {wr : World} {v : Value} {n : Nat} {xs : List Value} (L : Lim Lo w u H U a G0 e sz wr v n xs)
    {W w4 : World} (hW : Below wr.heap.size wr W) (hg : W.grownBy w4 v.ownBlock) : ∀ p : Addr, p.block < U → p.block ≠ G0 → w4.cell? p = wr.cell? p ∧ w4.frozen? p = wr.frozen? p := fun p hp h0 => by
  have hne : some p.block ≠ v.ownBlock := fun e => by
    rcases L.blk _ e.symm with h | h <;> omega
  have hUW : U ≤ W.heap.size := Nat.le_trans L.size hW.size
  exact ⟨(hg.cell_far p (by omega) hne).trans (hW.cell (Nat.lt_of_lt_of_le hp L.size)), (hg.frozen_far p (by omega) hne).trans (hW.frozen (Nat.lt_of_lt_of_le hp L.size))⟩
/-- behind the stores into the result's box, block H -/
theorem Lim.fin {w u : World} {H U : Nat} {a : Addr} {G0 : Nat} {e : TypeId} {sz : Nat} {wr : World} {v : Value} {n : Nat} {xs : List Value} (L : Lim 0 w u H U a G0 e sz wr v n xs) (haH : a.block ≠ H) (hGH : G0 ≠ H) (hUH : H < U) (x y : Value) :
    Lim (H+1) w u H U a G0 e sz ((wr.setCell ⟨H, 0, none⟩ x).setCell ⟨H, 1, none⟩ y) v n xs := by
  have hv : some H ≠ v.ownBlock := fun e => by
    rcases L.blk _ e.symm with h | h <;> omega
  have hc : ∀ p : Addr, p.block ≠ H → ((wr.setCell ⟨H, 0, none⟩ x).setCell ⟨H, 1, none⟩ y).cell? p = wr.cell? p := fun p hp => by
    rw [World.cell?_setCell_other _ _ _ _ (fun e => hp (by rw [← e])), World.cell?_setCell_other _ _ _ _ (fun e => hp (by rw [← e]))]
  refine ⟨(L.bel.setCell (p := ⟨H, 0, none⟩) (Nat.le_refl _) _).setCell (p := ⟨H, 1, none⟩) (Nat.le_refl _) _, by simpa only [World.size_setCell] using L.size, fun p hlo hp h0 hpa => (hc p (by omega)).trans (L.keep p (Nat.zero_le _) hp h0 hpa), fun p hlo hp h0 => by rw [World.frozen?_setCell, World.frozen?_setCell]; exact L.fro p (Nat.zero_le _) hp h0, (hc a haH).trans L.cell, row_set (row_set L.own hv _) hv _, L.blk⟩
theorem lit_cells (w : World) (cs : List Value) (T : TypeId) : ∀ j u, cs[j]? = some u → (w.alloc (.cells cs.toArray T)).cell? ((⟨w.heap.size, 0, none⟩ : Addr).add j) = some u := fun j u hu => by
  have e : (⟨w.heap.size, 0, none⟩ : Addr).add j = ⟨w.heap.size, j, none⟩ := by cases j <;> simp [Addr.add]
  rw [e, World.cell?_alloc_new]
  simpa using hu
section
variable {P : Program} {w : World}
theorem step_append_own_at {ops : Array Oper} {o : Oper} {a : Act} {K : Act → World → Prop} {Q : Exit → Act → World → Prop} {E : Prop} (hgd : o.guard = none) (s x : Operand) (t : TypeId)
    (ho : o.op = .call { callee := .builtin .append, args := #[s, x], argTypes := #[t, t] })
    (base : Nat) (e : TypeId) (i : TypeInfo) (z : Value) (size bytes : Nat) (ht : P.underlying t = some (.slice e)) (hi : P.info? e = some i) (hz : i.zero = some z)
    (hsize : i.size = size) (hby : i.bytes = bytes) (hzs : z.cells.size = size) (hsz : 0 < size)
    (v : Value) (n : Nat) (xs : List Value) (hs : a.eval s = v) (hown : w.ownsRow base e size v n xs)
    (ad : Addr) (m c : Nat) (news : List Value) (hx : a.eval x = .slice (some ad) m c) (hl : news.length = m * size) (hnews : ∀ j u, news[j]? = some u → w.cell? (ad.add j) = some u) (h1 : ∀ u ∈ news, u.oneCell' = true)
    (h63 : n + m ≤ maxLen) (hbytes : (n + m) * bytes ≤ 140737488355328) (hbase : base ≤ w.heap.size)
    (h : ∀ v' w', w'.ownsRow base e size v' (n + m) (xs ++ news) → w.grownBy w' v.ownBlock → (v'.ownBlock = v.ownBlock ∨ v'.ownBlock = some w.heap.size) → K (a.put o.dst v') w') :
    if Region.wanted o (yielded ops a.tmps) = true then Oper.wp P o a w K Q else E := by
  have hw : Region.wanted o (yielded ops a.tmps) = true := by simp [Region.wanted, hgd]
  rw [if_pos hw]
  obtain ⟨v', w', hr, h2, h3, _, h5⟩ := run_append_own_at (P := P) (w := w) base t o.type e i z size bytes ht hi hz hsize hby hzs hsz v n xs hown ad m c news hl hnews h1 h63 hbytes hbase
  unfold Oper.wp execOp
  simp only [ho, resolve, invoke, builtin, Sem.run_bind, Sem.run_pure, Result.andThen_ok, List.map_toArray, List.map_cons, List.map_nil, hs, hx, hr]
  exact h v' w' h2 h3 h5
end
theorem one_list (l : List Value) (h : l.all (fun u => u.oneCell') = true) : ∀ u ∈ l, u.oneCell' = true := List.all_eq_true.1 h
theorem lit_cellsd (w : World) (cs : List Value) (T : TypeId) : ∀ j u, cs[j]? = some u → (w.alloc (.cells cs.toArray T)).drew.cell? ((⟨w.heap.size, 0, none⟩ : Addr).add j) = some u := fun j u hu => lit_cells w cs T j u hu
theorem bel_boxd (w : World) (o : Obj) : Below w.heap.size w (w.alloc o).drew := Below.drew (bel_box _)
theorem own_pos {w : World} {base n size : Nat} {e : TypeId} {v : Value} {xs : List Value} (h : w.ownsRow base e size v (n+1) xs) : ∃ g c, v = .slice (some ⟨g, 0, none⟩) (n+1) c := by
  rcases h.2 with ⟨_, h0⟩ | ⟨g, cap, cur, rfl, _⟩
  · omega
  · exact ⟨_, _, rfl⟩
/-- values stored one behind another -/
def putL (w : World) (g : Nat) : Nat → List Value → World
  | _, [] => w
  | m, v :: vs => putL (w.setCell ⟨g, m, none⟩ v) g (m+1) vs
theorem put_own {base n size c g : Nat} {e : TypeId} (vs : List Value) : ∀ {w : World} {xs zs : List Value}, w.ownsRow base e size (.slice (some ⟨g, 0, none⟩) n c) n (xs ++ zs) → zs.length = vs.length →
    (putL w g xs.length vs).ownsRow base e size (.slice (some ⟨g, 0, none⟩) n c) n (xs ++ vs) ∧ w.grownBy (putL w g xs.length vs) (some g) := by
  induction vs with
  | nil =>
    intro w xs zs h hl
    obtain rfl : zs = [] := List.length_eq_zero_iff.1 hl
    exact ⟨h, World.grownBy.refl _ _⟩
  | cons v vs ih =>
    intro w xs zs h hl
    cases zs with
    | nil => simp at hl
    | cons z zs =>
      obtain ⟨h1, h2⟩ := h.stored xs.length v
      rw [show (xs ++ z :: zs).set xs.length v = (xs ++ [v]) ++ zs by simp] at h1
      obtain ⟨h3, h4⟩ := ih h1 (by simpa using hl)
      rw [show (xs ++ [v]).length = xs.length+1 by simp] at h3 h4
      refine ⟨?_, h2.trans h4⟩
      rw [List.append_assoc] at h3
      exact h3
theorem own_last {w : World} {H size n c g : Nat} {e : TypeId} {xs zs : List Value} (h : w.ownsRow H e size (.slice (some ⟨g, 0, none⟩) (n+1) c) (n+1) (xs ++ zs)) (hx : xs.length = n * size) (hz : zs.length = size) (j : Nat) (u : Value) (hu : zs[j]? = some u) : w.cell? ⟨g, n * size + j, none⟩ = some u := by
  have hj : j < size := by rw [← hz]; exact (List.getElem?_eq_some_iff.1 hu).1
  rw [h.cellAt (n * size + j) (by rw [Nat.succ_mul]; omega), List.getElem?_append_right (by omega), hx, Nat.add_sub_cancel_left]
  exact hu
theorem Lim.ne4 {Lo : Nat} {w u : World} {H U : Nat} {a : Addr} {G0 : Nat} {e : TypeId} {sz : Nat} {wr : World} {v : Value} {n : Nat} {xs : List Value} (L : Lim Lo w u H U a G0 e sz wr v n xs) {W : World} {v4 : Value} {g : Nat} (hW : Below wr.heap.size wr W)
    (hb4 : v4.ownBlock = v.ownBlock ∨ v4.ownBlock = some W.heap.size) (hv : v4.ownBlock = some g) : g = G0 ∨ U ≤ g := by
  rcases hb4 with h | h
  · exact L.blk g (h.symm.trans hv)
  · rw [h] at hv
    injection hv with hv
    have := L.size
    have := hW.size
    omega
/-- as step, with a struct stored into the row behind the append -/
theorem Lim.step2 {Lo : Nat} {w u : World} {H U : Nat} {a : Addr} {G0 : Nat} {e : TypeId} {sz : Nat} {wr : World} {v : Value} {n : Nat} {xs : List Value} (L : Lim Lo w u H U a G0 e sz wr v n xs)
    {W w4 w5 : World} {g c n' : Nat} {xs' : List Value} (hW : Below wr.heap.size wr W) (hg : W.grownBy w4 v.ownBlock) (hb4 : (Value.slice (some ⟨g, 0, none⟩) n' c).ownBlock = v.ownBlock ∨ (Value.slice (some ⟨g, 0, none⟩) n' c).ownBlock = some W.heap.size)
    (h5 : w4.grownBy w5 (some g)) (hH : H ≤ g) (hown5 : w5.ownsRow H e sz (.slice (some ⟨g, 0, none⟩) n' c) n' xs') (ha : a.block < U) (ha0 : a.block ≠ G0) (haH : H ≤ a.block) (hUH : H ≤ U) :
    Lim Lo w u H U a G0 e sz (w5.setCell a (.slice (some ⟨g, 0, none⟩) n' c)) (.slice (some ⟨g, 0, none⟩) n' c) n' xs' := by
  have hgU : g = G0 ∨ U ≤ g := L.ne4 hW hb4 rfl
  have hm := L.mid hW hg
  have hUW : U ≤ w4.heap.size := Nat.le_trans (Nat.le_trans L.size hW.size) hg.size
  have hc : ∀ p : Addr, p.block < U → p.block ≠ G0 → w5.cell? p = wr.cell? p ∧ w5.frozen? p = wr.frozen? p := fun p hp h0 =>
    ⟨(h5.cell_far p (by omega) (fun hh => by have := Option.some.inj hh; omega)).trans (hm p hp h0).1, (h5.frozen_far p (by omega) (fun hh => by have := Option.some.inj hh; omega)).trans (hm p hp h0).2⟩
  have hb : Below H w w5 := ((L.bel.trans (hW.mono (Nat.le_trans hUH L.size))).grown hg (Nat.le_trans hUH (Nat.le_trans L.size hW.size)) (fun k hk => (L.own.lt k hk).1)).grown h5 (Nat.le_trans hUH hUW) (fun k hk => by injection hk with hk; omega)
  refine ⟨hb.setCell haH _, ?_, fun p hlo hp h0 hpa => ?_, fun p hlo hp h0 => ?_, World.cell?_setCell_same _ _ _ ((hc a ha ha0).1.trans L.cell), row_set hown5 (fun e4 => ?_) _, fun k hk => ?_⟩
  · have := h5.size
    simp only [World.size_setCell]
    omega
  · rw [World.cell?_setCell_other _ _ _ _ (fun e => hpa e.symm)]
    exact (hc p hp h0).1.trans (L.keep p hlo hp h0 hpa)
  · rw [World.frozen?_setCell]
    exact (hc p hp h0).2.trans (L.fro p hlo hp h0)
  · have e5 : a.block = g := Option.some.inj e4
    omega
  · have e5 : g = k := Option.some.inj hk
    omega
theorem flat_get {α : Type} {enc : α → List Value} {sz : Nat} (hl : ∀ y, (enc y).length = sz) (l : List α) (i : Nat) (y : α) (h : l[i]? = some y) (j : Nat) (hj : j < sz) : (l.flatMap enc)[i * sz + j]? = (enc y)[j]? := by
  induction l generalizing i with
  | nil => simp at h
  | cons x l ih =>
    rw [List.flatMap_cons]
    cases i with
    | zero =>
      obtain rfl : x = y := by simpa using h
      rw [Nat.zero_mul, Nat.zero_add, List.getElem?_append_left (by rw [hl]; exact hj)]
    | succ i =>
      have h2 : l[i]? = some y := by simpa using h
      rw [List.getElem?_append_right (by rw [hl, Nat.succ_mul]; omega), hl, show (i+1) * sz + j - sz = i * sz + j by rw [Nat.succ_mul]; omega]
      exact ih i h2
theorem flat_len {α : Type} {enc : α → List Value} {sz : Nat} (hl : ∀ y, (enc y).length = sz) (l : List α) : (l.flatMap enc).length = l.length * sz := by
  induction l with
  | nil => simp
  | cons x l ih => rw [List.flatMap_cons, List.length_append, ih, hl, List.length_cons, Nat.succ_mul, Nat.add_comm]
/-- the cells of an element of a row -/
theorem own_at {α : Type} {w : World} {H sz c : Nat} {e : TypeId} {A : Option Addr} {enc : α → List Value} (hl : ∀ y, (enc y).length = sz) {l : List α} (hown : w.ownsRow H e sz (.slice A l.length c) l.length (l.flatMap enc)) {i : Nat} {y : α} (hy : l[i]? = some y) :
    ∃ g, A = some ⟨g, 0, none⟩ ∧ H ≤ g ∧ g < w.heap.size ∧ l.length ≤ c ∧ ∀ j u, (enc y)[j]? = some u → w.cell? ((⟨g, i * sz, none⟩ : Addr).add j) = some u := by
  have hi : i < l.length := (List.getElem?_eq_some_iff.1 hy).1
  rcases hown.2 with ⟨h0, h1⟩ | ⟨g, cap, cur, e1, hb, hg, hn, hm, hs, ht⟩
  · omega
  · injection e1 with e1 e2 e3
    refine ⟨g, e1, hb, (Array.getElem?_eq_some_iff.1 hg).1, by rw [e3]; exact hn, fun j u hu => ?_⟩
    have hj : j < sz := by
      rw [← hl y]
      exact (List.getElem?_eq_some_iff.1 hu).1
    have hlt : i * sz + j < l.length * sz := by
      have : (i+1) * sz ≤ l.length * sz := Nat.mul_le_mul_right sz hi
      rw [Nat.succ_mul] at this
      omega
    have hown' : w.ownsRow H e sz (.slice (some ⟨g, 0, none⟩) l.length c) l.length (l.flatMap enc) := by rw [← e1]; exact hown
    have h := hown'.cellAt (i * sz + j) hlt
    rw [flat_get hl l i y hy j hj, hu] at h
    have e : (⟨g, i * sz, none⟩ : Addr).add j = ⟨g, i * sz + j, none⟩ := by cases j <;> simp [Addr.add]
    rw [e]
    exact h
theorem own_len {w : World} {H sz c m : Nat} {e : TypeId} {A : Option Addr} {n : Nat} {xs : List Value} (hown : w.ownsRow H e sz (.slice A m c) n xs) : m = n ∧ (n ≤ c) ∧ n ≤ maxLen := by
  rcases hown.2 with ⟨h0, h1⟩ | ⟨g, cap, cur, e1, hb, hg, hn, hm, hs, ht⟩
  · injection h0 with e1 e2 e3
    subst e2 e3 h1
    exact ⟨rfl, Nat.le_refl _, Nat.zero_le _⟩
  · injection e1 with e1 e2 e3
    subst e2 e3
    exact ⟨rfl, hn, Nat.le_trans hn hm⟩
end Go.Proofs.YthlapepjebidgaaGreatDoor
/- The world that light leaves. -/
namespace Go.Proofs.YthlapepjebidgaaGreatDoor
set_option linter.unusedVariables false
set_option linter.unusedSimpArgs false
open Go.RowKit
def liW (w : World) : World := (((((((((w.alloc (.cells #[.slice (some ⟨w.heap.size+1+1+1+1+1+1+1, 0, none⟩) 1 1, .slice (some ⟨w.heap.size+1+1+1+1+1+1+1+1, 0, none⟩) 1 1] 36)).alloc (.cells #[.int .i64 1, .int .i64 0, .int .i64 3, .int .i64 0, .string ⟨#[]⟩, .slice none 0 0] 24)).alloc (.cells #[.string sX, .int .i64 3, .slice none 0 0] 98)).alloc (.cells #[.string sX] 9)).alloc (.cells #[.slice (some ⟨w.heap.size+1+1+1, 0, none⟩) 1 1, .int .i64 1, .int .i64 0, .int .i64 3, .int .i64 0, .string ⟨#[]⟩, .slice none 0 0] 59)).alloc (.cells #[.string sF, .slice none 0 0, .slice (some ⟨w.heap.size+1+1, 0, none⟩) 1 1, .slice none 0 0, .slice (some ⟨w.heap.size+1+1+1+1, 0, none⟩) 1 1, .slice none 0 0, .slice none 0 0, .slice none 0 0] 56)).alloc (.cells #[.string sRe, .string sGr] 9)).alloc (.cells #[.string sLi, .slice (some ⟨w.heap.size+1+1+1+1+1+1, 0, none⟩) 2 2] 72)).alloc (.cells #[.string sF, .slice none 0 0, .slice (some ⟨w.heap.size+1+1, 0, none⟩) 1 1, .slice none 0 0, .slice (some ⟨w.heap.size+1+1+1+1, 0, none⟩) 1 1, .slice none 0 0, .slice none 0 0, .slice none 0 0] 56))
set_option maxHeartbeats 2000000 in
set_option maxRecDepth 20000 in
theorem light_at (w : World) : Calls Tryz.prog 54 #[] w (fun e W => e = .returned (pV (liP w.heap.size)) ∧ W = liW w) := by
  go_enter Tryz.func54, Tryz.ntmps54
  go_wp2
  exact bodyPost_ret (v := pV (liP w.heap.size)) (by simp [results, Tryz.f54, go_sem]) rfl ⟨rfl, rfl⟩
theorem liW_size (w : World) : (liW w).heap.size = w.heap.size + 9 := by unfold liW; simp only [World.size_alloc]
theorem liW_below (w : World) : Below w.heap.size w (liW w) := by unfold liW; exact (by repeat (first | (with_reducible exact Below.refl _ _) | (with_reducible assumption) | (with_reducible exact bel_box _) | (with_reducible refine bel_step ?_ (by with_reducible assumption)) | (with_reducible refine Below.drew ?_) | (with_reducible refine below_drewN ?_ _) | (with_reducible refine bel_alloc ?_ _)))
/-- an enumeration's cells -/
def eCs (e : va.En) : List Value := [.string e.name, .slice e.A e.tags.length e.c]
def bCs (b : ByteArray) : List Value := [.string b]
def xCs' (x : Xt) : List Value := [.int .i64 x.k, .int .i64 x.op, .int .i64 x.t, .int .i64 x.v, .string x.nm, .slice x.A x.ar.length x.c]
def qCs (q : Qt) : List Value := .slice q.lf.A q.lf.l.length q.lf.c :: xCs' q.r
set_option maxHeartbeats 2000000 in
set_option maxRecDepth 20000 in
theorem own_es (w : World) : (liW w).ownsRow w.heap.size 72 2 (.slice (some ⟨w.heap.size+1+1+1+1+1+1+1, 0, none⟩) 1 1) 1 (eCs (liE w.heap.size)) := by
  refine ⟨rfl, .inr ⟨_, 1, #[.string sLi, .slice (some ⟨w.heap.size+1+1+1+1+1+1, 0, none⟩) 2 2], rfl, by omega, ?_, Nat.le_refl _, by simp [maxLen], ?_, ?_⟩⟩
  rotate_left 3
  · unfold liW
    rw [Below.heap_alloc _ _ _ (by simp only [World.size_alloc]; omega)]
    exact heap_at (by simp only [World.size_alloc])
  · rfl
  · rfl
set_option maxHeartbeats 2000000 in
set_option maxRecDepth 20000 in
theorem own_tg (w : World) : (liW w).ownsRow w.heap.size 9 1 (.slice (some ⟨w.heap.size+1+1+1+1+1+1, 0, none⟩) 2 2) 2 (bCs sRe ++ bCs sGr) := by
  refine ⟨rfl, .inr ⟨_, 2, #[.string sRe, .string sGr], rfl, by omega, ?_, Nat.le_refl _, by simp [maxLen], ?_, ?_⟩⟩
  rotate_left 3
  · unfold liW
    rw [Below.heap_alloc _ _ _ (by simp only [World.size_alloc]; omega)]
    rw [Below.heap_alloc _ _ _ (by simp only [World.size_alloc]; omega)]
    exact heap_at (by simp only [World.size_alloc])
  · rfl
  · rfl
set_option maxHeartbeats 2000000 in
set_option maxRecDepth 20000 in
theorem own_qs (w : World) : (liW w).ownsRow w.heap.size 59 7 (.slice (some ⟨w.heap.size+1+1+1+1, 0, none⟩) 1 1) 1 (qCs ⟨⟨some ⟨w.heap.size+1+1+1, 0, none⟩, 1, [sX]⟩, redX⟩) := by
  refine ⟨rfl, .inr ⟨_, 1, #[.slice (some ⟨w.heap.size+1+1+1, 0, none⟩) 1 1, .int .i64 1, .int .i64 0, .int .i64 3, .int .i64 0, .string ⟨#[]⟩, .slice none 0 0], rfl, by omega, ?_, Nat.le_refl _, by simp [maxLen], ?_, ?_⟩⟩
  rotate_left 3
  · unfold liW
    rw [Below.heap_alloc _ _ _ (by simp only [World.size_alloc]; omega)]
    rw [Below.heap_alloc _ _ _ (by simp only [World.size_alloc]; omega)]
    rw [Below.heap_alloc _ _ _ (by simp only [World.size_alloc]; omega)]
    rw [Below.heap_alloc _ _ _ (by simp only [World.size_alloc]; omega)]
    exact heap_at (by simp only [World.size_alloc])
  · rfl
  · rfl
set_option maxHeartbeats 2000000 in
set_option maxRecDepth 20000 in
theorem own_ns (w : World) : (liW w).ownsRow w.heap.size 56 8 (.slice (some ⟨w.heap.size+1+1+1+1+1+1+1+1, 0, none⟩) 1 1) 1 (nCs (liN w.heap.size)) := by
  refine ⟨rfl, .inr ⟨_, 1, #[.string sF, .slice none 0 0, .slice (some ⟨w.heap.size+1+1, 0, none⟩) 1 1, .slice none 0 0, .slice (some ⟨w.heap.size+1+1+1+1, 0, none⟩) 1 1, .slice none 0 0, .slice none 0 0, .slice none 0 0], rfl, by omega, ?_, Nat.le_refl _, by simp [maxLen], ?_, ?_⟩⟩
  rotate_left 3
  · unfold liW
    exact heap_at (by simp only [World.size_alloc])
  · rfl
  · rfl
end Go.Proofs.YthlapepjebidgaaGreatDoor
/- wide: the world at its switch. -/
namespace Go.Proofs.YthlapepjebidgaaGreatDoor
set_option linter.unusedVariables false
set_option linter.unusedSimpArgs false
open Go.RowKit
/-- what wide hands back: a program with so many of something, of which MX are allowed -/
def Wide (m MX : Nat) (w : World) (e : Ending) (W : World) : Prop := ∃ p, e = .returned (pV p) ∧ RsP W W.heap.size p ∧ Below w.heap.size w W ∧ (chkE p).2 = if m ≤ MX then 0 else 3
def rbW (w : World) : World := w.alloc (.cells #[.slice none 0 0, .slice none 0 0] 36)
theorem rbW_size (w : World) : (rbW w).heap.size = w.heap.size+1 := by unfold rbW; simp only [World.size_alloc]
def uW (w : World) : World := (((((liW (w.alloc (.cells #[.slice none 0 0, .slice none 0 0] 36))).alloc (.cells #[.slice (some ⟨w.heap.size+1+1+1+1+1+1+1+1, 0, none⟩) 1 1, .slice (some ⟨w.heap.size+1+1+1+1+1+1+1+1+1, 0, none⟩) 1 1] 36)).alloc (.cells #[.slice (some ⟨w.heap.size+1+1+1+1, 0, none⟩) 1 1, .int .i64 1, .int .i64 0, .int .i64 3, .int .i64 0, .string ⟨#[]⟩, .slice none 0 0] 59)).alloc (.cells #[.int .i64 1, .int .i64 0, .int .i64 1, .int .i64 1, .string ⟨#[]⟩, .slice none 0 0] 24)).alloc (.cells #[.slice (some ⟨w.heap.size+1+1+1+1, 0, none⟩) 1 1, .int .i64 1, .int .i64 0, .int .i64 3, .int .i64 0, .string ⟨#[]⟩, .slice none 0 0] 59)).alloc (.cells #[.string ⟨#[65]⟩, .slice none 0 0, .slice (some ⟨w.heap.size+1+1+1+1+1+1+1+1+1+1+1+1+1, 0, none⟩) 1 1, .slice none 0 0, .slice none 0 0, .slice none 0 0] 95)
theorem uW_size (w : World) : (uW w).heap.size = w.heap.size+1+1+1+1+1+1+1+1+1+1+1+1+1+1+1 := by unfold uW; simp only [World.size_alloc, liW_size]
theorem uW_li (w : World) : Below (liW (rbW w)).heap.size (liW (rbW w)) (uW w) := by unfold uW; show Below (liW (w.alloc (.cells #[.slice none 0 0, .slice none 0 0] 36))).heap.size (liW (w.alloc (.cells #[.slice none 0 0, .slice none 0 0] 36))) _; exact (by repeat (first | (with_reducible exact Below.refl _ _) | (with_reducible assumption) | (with_reducible exact bel_box _) | (with_reducible refine bel_step ?_ (by with_reducible assumption)) | (with_reducible refine Below.drew ?_) | (with_reducible refine below_drewN ?_ _) | (with_reducible refine bel_alloc ?_ _)))
theorem uW_below (w : World) : Below w.heap.size w (uW w) := ((bel_box _).trans ((liW_below (rbW w)).mono (by rw [rbW_size]; omega))).trans ((uW_li w).mono (by rw [liW_size, rbW_size]; omega))
set_option maxHeartbeats 4000000 in
set_option maxRecDepth 20000 in
theorem uW_cells (w : World) : (uW w).cell? ⟨w.heap.size, 0, none⟩ = some (.slice none 0 0) ∧ (uW w).cell? ⟨w.heap.size, 1, none⟩ = some (.slice none 0 0) ∧ (uW w).cell? ⟨w.heap.size+1+1, 0, none⟩ = some (.int .i64 1) ∧ (uW w).cell? ⟨w.heap.size+1+1, 1, none⟩ = some (.int .i64 0) ∧ (uW w).cell? ⟨w.heap.size+1+1, 2, none⟩ = some (.int .i64 3) ∧ (uW w).cell? ⟨w.heap.size+1+1, 3, none⟩ = some (.int .i64 0) ∧ (uW w).cell? ⟨w.heap.size+1+1, 4, none⟩ = some (.string ⟨#[]⟩) ∧ (uW w).cell? ⟨w.heap.size+1+1, 5, none⟩ = some (.slice none 0 0) ∧ (uW w).cell? ⟨w.heap.size+1+1+1, 0, none⟩ = some (.string sX) ∧ (uW w).cell? ⟨w.heap.size+1+1+1, 1, none⟩ = some (.int .i64 3) ∧ (uW w).cell? ⟨w.heap.size+1+1+1, 2, none⟩ = some (.slice none 0 0) ∧ (uW w).cell? ⟨w.heap.size+1+1+1+1, 0, none⟩ = some (.string sX) ∧ (uW w).cell? ⟨w.heap.size+1+1+1+1+1, 0, none⟩ = some (.slice (some ⟨w.heap.size+1+1+1+1, 0, none⟩) 1 1) ∧ (uW w).cell? ⟨w.heap.size+1+1+1+1+1, 1, none⟩ = some (.int .i64 1) ∧ (uW w).cell? ⟨w.heap.size+1+1+1+1+1, 2, none⟩ = some (.int .i64 0) ∧ (uW w).cell? ⟨w.heap.size+1+1+1+1+1, 3, none⟩ = some (.int .i64 3) ∧ (uW w).cell? ⟨w.heap.size+1+1+1+1+1, 4, none⟩ = some (.int .i64 0) ∧ (uW w).cell? ⟨w.heap.size+1+1+1+1+1, 5, none⟩ = some (.string ⟨#[]⟩) ∧ (uW w).cell? ⟨w.heap.size+1+1+1+1+1, 6, none⟩ = some (.slice none 0 0) ∧ (uW w).cell? ⟨w.heap.size+1+1+1+1+1+1+1, 0, none⟩ = some (.string sRe) ∧ (uW w).cell? ⟨w.heap.size+1+1+1+1+1+1+1, 1, none⟩ = some (.string sGr) ∧ (uW w).cell? ⟨w.heap.size+1+1+1+1+1+1+1+1, 0, none⟩ = some (.string sLi) ∧ (uW w).cell? ⟨w.heap.size+1+1+1+1+1+1+1+1, 1, none⟩ = some (.slice (some ⟨w.heap.size+1+1+1+1+1+1+1, 0, none⟩) 2 2) ∧ (uW w).cell? ⟨w.heap.size+1+1+1+1+1+1+1+1+1, 0, none⟩ = some (.string sF) ∧ (uW w).cell? ⟨w.heap.size+1+1+1+1+1+1+1+1+1, 1, none⟩ = some (.slice none 0 0) ∧ (uW w).cell? ⟨w.heap.size+1+1+1+1+1+1+1+1+1, 2, none⟩ = some (.slice (some ⟨w.heap.size+1+1+1, 0, none⟩) 1 1) ∧ (uW w).cell? ⟨w.heap.size+1+1+1+1+1+1+1+1+1, 3, none⟩ = some (.slice none 0 0) ∧ (uW w).cell? ⟨w.heap.size+1+1+1+1+1+1+1+1+1, 4, none⟩ = some (.slice (some ⟨w.heap.size+1+1+1+1+1, 0, none⟩) 1 1) ∧ (uW w).cell? ⟨w.heap.size+1+1+1+1+1+1+1+1+1, 5, none⟩ = some (.slice none 0 0) ∧ (uW w).cell? ⟨w.heap.size+1+1+1+1+1+1+1+1+1, 6, none⟩ = some (.slice none 0 0) ∧ (uW w).cell? ⟨w.heap.size+1+1+1+1+1+1+1+1+1, 7, none⟩ = some (.slice none 0 0) ∧ (uW w).cell? ⟨w.heap.size+1+1+1+1+1+1+1+1+1+1, 0, none⟩ = some (.slice (some ⟨w.heap.size+1+1+1+1+1+1+1+1, 0, none⟩) 1 1) ∧ (uW w).cell? ⟨w.heap.size+1+1+1+1+1+1+1+1+1+1, 1, none⟩ = some (.slice (some ⟨w.heap.size+1+1+1+1+1+1+1+1+1, 0, none⟩) 1 1) ∧ (uW w).cell? ⟨w.heap.size+1+1+1+1+1+1+1+1+1+1+1, 0, none⟩ = some (.slice (some ⟨w.heap.size+1+1+1+1, 0, none⟩) 1 1) ∧ (uW w).cell? ⟨w.heap.size+1+1+1+1+1+1+1+1+1+1+1, 1, none⟩ = some (.int .i64 1) ∧ (uW w).cell? ⟨w.heap.size+1+1+1+1+1+1+1+1+1+1+1, 2, none⟩ = some (.int .i64 0) ∧ (uW w).cell? ⟨w.heap.size+1+1+1+1+1+1+1+1+1+1+1, 3, none⟩ = some (.int .i64 3) ∧ (uW w).cell? ⟨w.heap.size+1+1+1+1+1+1+1+1+1+1+1, 4, none⟩ = some (.int .i64 0) ∧ (uW w).cell? ⟨w.heap.size+1+1+1+1+1+1+1+1+1+1+1, 5, none⟩ = some (.string ⟨#[]⟩) ∧ (uW w).cell? ⟨w.heap.size+1+1+1+1+1+1+1+1+1+1+1, 6, none⟩ = some (.slice none 0 0) ∧ (uW w).cell? ⟨w.heap.size+1+1+1+1+1+1+1+1+1+1+1+1, 0, none⟩ = some (.int .i64 1) ∧ (uW w).cell? ⟨w.heap.size+1+1+1+1+1+1+1+1+1+1+1+1, 1, none⟩ = some (.int .i64 0) ∧ (uW w).cell? ⟨w.heap.size+1+1+1+1+1+1+1+1+1+1+1+1, 2, none⟩ = some (.int .i64 1) ∧ (uW w).cell? ⟨w.heap.size+1+1+1+1+1+1+1+1+1+1+1+1, 3, none⟩ = some (.int .i64 1) ∧ (uW w).cell? ⟨w.heap.size+1+1+1+1+1+1+1+1+1+1+1+1, 4, none⟩ = some (.string ⟨#[]⟩) ∧ (uW w).cell? ⟨w.heap.size+1+1+1+1+1+1+1+1+1+1+1+1, 5, none⟩ = some (.slice none 0 0) ∧ (uW w).cell? ⟨w.heap.size+1+1+1+1+1+1+1+1+1+1+1+1+1, 0, none⟩ = some (.slice (some ⟨w.heap.size+1+1+1+1, 0, none⟩) 1 1) ∧ (uW w).cell? ⟨w.heap.size+1+1+1+1+1+1+1+1+1+1+1+1+1, 1, none⟩ = some (.int .i64 1) ∧ (uW w).cell? ⟨w.heap.size+1+1+1+1+1+1+1+1+1+1+1+1+1, 2, none⟩ = some (.int .i64 0) ∧ (uW w).cell? ⟨w.heap.size+1+1+1+1+1+1+1+1+1+1+1+1+1, 3, none⟩ = some (.int .i64 3) ∧ (uW w).cell? ⟨w.heap.size+1+1+1+1+1+1+1+1+1+1+1+1+1, 4, none⟩ = some (.int .i64 0) ∧ (uW w).cell? ⟨w.heap.size+1+1+1+1+1+1+1+1+1+1+1+1+1, 5, none⟩ = some (.string ⟨#[]⟩) ∧ (uW w).cell? ⟨w.heap.size+1+1+1+1+1+1+1+1+1+1+1+1+1, 6, none⟩ = some (.slice none 0 0) ∧ (uW w).cell? ⟨w.heap.size+1+1+1+1+1+1+1+1+1+1+1+1+1+1, 0, none⟩ = some (.string ⟨#[65]⟩) ∧ (uW w).cell? ⟨w.heap.size+1+1+1+1+1+1+1+1+1+1+1+1+1+1, 1, none⟩ = some (.slice none 0 0) ∧ (uW w).cell? ⟨w.heap.size+1+1+1+1+1+1+1+1+1+1+1+1+1+1, 2, none⟩ = some (.slice (some ⟨w.heap.size+1+1+1+1+1+1+1+1+1+1+1+1+1, 0, none⟩) 1 1) ∧ (uW w).cell? ⟨w.heap.size+1+1+1+1+1+1+1+1+1+1+1+1+1+1, 3, none⟩ = some (.slice none 0 0) ∧ (uW w).cell? ⟨w.heap.size+1+1+1+1+1+1+1+1+1+1+1+1+1+1, 4, none⟩ = some (.slice none 0 0) ∧ (uW w).cell? ⟨w.heap.size+1+1+1+1+1+1+1+1+1+1+1+1+1+1, 5, none⟩ = some (.slice none 0 0) := by
  unfold uW liW
  refine ⟨?_, ?_, ?_, ?_, ?_, ?_, ?_, ?_, ?_, ?_, ?_, ?_, ?_, ?_, ?_, ?_, ?_, ?_, ?_, ?_, ?_, ?_, ?_, ?_, ?_, ?_, ?_, ?_, ?_, ?_, ?_, ?_, ?_, ?_, ?_, ?_, ?_, ?_, ?_, ?_, ?_, ?_, ?_, ?_, ?_, ?_, ?_, ?_, ?_, ?_, ?_, ?_, ?_, ?_, ?_, ?_, ?_, ?_, ?_⟩ <;> simp [go_sem]
set_option maxHeartbeats 4000000 in
set_option maxRecDepth 20000 in
theorem uW_fro (w : World) : (uW w).frozen? ⟨w.heap.size, 0, none⟩ = false ∧ (uW w).frozen? ⟨w.heap.size, 1, none⟩ = false ∧ (uW w).frozen? ⟨w.heap.size+1+1+1+1+1+1+1+1, 0, none⟩ = false ∧ (uW w).frozen? ⟨w.heap.size+1+1+1+1+1+1+1+1, 1, none⟩ = false ∧ (uW w).frozen? ⟨w.heap.size+1+1+1+1+1+1+1+1+1, 0, none⟩ = false ∧ (uW w).frozen? ⟨w.heap.size+1+1+1+1+1+1+1+1+1, 1, none⟩ = false ∧ (uW w).frozen? ⟨w.heap.size+1+1+1+1+1+1+1+1+1, 2, none⟩ = false ∧ (uW w).frozen? ⟨w.heap.size+1+1+1+1+1+1+1+1+1, 3, none⟩ = false ∧ (uW w).frozen? ⟨w.heap.size+1+1+1+1+1+1+1+1+1, 4, none⟩ = false ∧ (uW w).frozen? ⟨w.heap.size+1+1+1+1+1+1+1+1+1, 5, none⟩ = false ∧ (uW w).frozen? ⟨w.heap.size+1+1+1+1+1+1+1+1+1, 6, none⟩ = false ∧ (uW w).frozen? ⟨w.heap.size+1+1+1+1+1+1+1+1+1, 7, none⟩ = false ∧ (uW w).frozen? ⟨w.heap.size+1+1+1+1+1+1+1+1+1+1, 0, none⟩ = false ∧ (uW w).frozen? ⟨w.heap.size+1+1+1+1+1+1+1+1+1+1, 1, none⟩ = false ∧ (uW w).frozen? ⟨w.heap.size+1+1+1+1+1+1+1+1+1+1+1+1+1+1, 0, none⟩ = false ∧ (uW w).frozen? ⟨w.heap.size+1+1+1+1+1+1+1+1+1+1+1+1+1+1, 1, none⟩ = false ∧ (uW w).frozen? ⟨w.heap.size+1+1+1+1+1+1+1+1+1+1+1+1+1+1, 2, none⟩ = false ∧ (uW w).frozen? ⟨w.heap.size+1+1+1+1+1+1+1+1+1+1+1+1+1+1, 3, none⟩ = false ∧ (uW w).frozen? ⟨w.heap.size+1+1+1+1+1+1+1+1+1+1+1+1+1+1, 4, none⟩ = false ∧ (uW w).frozen? ⟨w.heap.size+1+1+1+1+1+1+1+1+1+1+1+1+1+1, 5, none⟩ = false := by
  unfold uW liW
  refine ⟨?_, ?_, ?_, ?_, ?_, ?_, ?_, ?_, ?_, ?_, ?_, ?_, ?_, ?_, ?_, ?_, ?_, ?_, ?_, ?_⟩ <;> simp [go_sem]
end Go.Proofs.YthlapepjebidgaaGreatDoor
/- The frame of the rows of layer 6: what the listed variables give; an argument that is an expression. -/
namespace Go.Proofs.YthlapepjebidgaaGreatDoor
set_option linter.unusedVariables false
set_option linter.unusedSimpArgs false
open Go.ChangeShapes Go.WideShapes Go.ChangeAt Go.RowKit Go.Deep Go.WideElems
def laidL : List (String × DataW Unit) := [("math/bits.deBruijn32tab", Rows.laid_math_bits_deBruijn32tab), ("math/bits.deBruijn64tab", Rows.laid_math_bits_deBruijn64tab), ("internal/strconv.uint64pow10", Rows.laid_internal_strconv_uint64pow10), ("unicode/utf8.acceptRanges", Rows.laid_unicode_utf8_acceptRanges), ("strconv.ErrRange", Rows.laid_strconv_ErrRange), ("strconv.ErrSyntax", Rows.laid_strconv_ErrSyntax), ("unicode/utf8.first", Rows.laid_unicode_utf8_first)]
theorem tyTab : (Tryz.prog.globals[5]?).map (·.type) = some 236 := by kernel_rfl
theorem tySyn : (Tryz.prog.globals[1]?).map (·.type) = some 178 := by kernel_rfl
theorem tyRng : (Tryz.prog.globals[2]?).map (·.type) = some 178 := by kernel_rfl
theorem star : "*" ++ "errors.errorString" = "*errors.errorString" := by decide
theorem rowES (u : TypeId) (h : Tryz.prog.typeName? 3 u = some "*errors.errorString") : u = 221 :=
  typeName_ptr_named (nm := "errors.errorString") (by rw [star]; kernel_rfl) (by kernel_rfl) (by decide) u (by rw [star]; exact h)
theorem std_of_laid {W : World} (h : laidMetH Tryz.prog laidL W) : Std W := by
  rw [MakeChecks.laidMetH_plain _ _ _ (by kernel_rfl)] at h
  have h3 : laidMet Tryz.prog (("internal/strconv.uint64pow10", Lib.tabData .u64 Lib.pow10Tab) :: [("unicode/utf8.acceptRanges", Rows.laid_unicode_utf8_acceptRanges), ("strconv.ErrRange", Rows.laid_strconv_ErrRange), ("strconv.ErrSyntax", Rows.laid_strconv_ErrSyntax), ("unicode/utf8.first", Rows.laid_unicode_utf8_first)]) W := h.tail.tail
  have h4 := h3.tail.tail
  have h5 := h4.tail
  refine ⟨Lib.tabIs_of_head gTab tyTab Tryz.underlying236 Tryz.underlying207 (by kernel_rfl) (by kernel_rfl) h3, ?_, ?_⟩
  · obtain ⟨a, s, hv, _⟩ := laid_sentinel h5 gSyn tySyn Tryz.underlying178 rowES Tryz.underlying221 Tryz.underlying223 rfl rfl Tryz.underlying9 (by kernel_rfl) (by kernel_rfl)
    exact ⟨_, _, hv⟩
  · obtain ⟨a, s, hv, _⟩ := laid_sentinel h4 gRng tyRng Tryz.underlying178 rowES Tryz.underlying221 Tryz.underlying223 rfl rfl Tryz.underlying9 (by kernel_rfl) (by kernel_rfl)
    exact ⟨_, _, hv⟩
theorem int_le {n : Int} (h : (Lit.int .i64 n).wf = true) : n ≤ 9223372036854775807 := by
  have h2 : n ≤ IntKind.i64.max := by simp only [Lit.wf, Bool.and_eq_true, decide_eq_true_eq] at h; exact h.2
  exact h2
theorem int_ge {n : Int} (h : (Lit.int .i64 n).wf = true) : -9223372036854775808 ≤ n := by
  have h2 : IntKind.i64.min ≤ n := by simp only [Lit.wf, Bool.and_eq_true, decide_eq_true_eq] at h; exact h.1
  exact h2
theorem u8_le {n : Int} (h : (Lit.int .u8 n).wf = true) : n ≤ 255 := by
  have h2 : n ≤ IntKind.u8.max := by simp only [Lit.wf, Bool.and_eq_true, decide_eq_true_eq] at h; exact h.2
  exact h2
theorem u8_ge {n : Int} (h : (Lit.int .u8 n).wf = true) : 0 ≤ n := by
  have h2 : IntKind.u8.min ≤ n := by simp only [Lit.wf, Bool.and_eq_true, decide_eq_true_eq] at h; exact h.1
  exact h2
section
variable {H : Type} {enc : TypeId × Value → H} {w : World} {held : Bool}
end
end Go.Proofs.YthlapepjebidgaaGreatDoor
/- A program that comes in, opened, with what the bound on its bulk gives. -/
namespace Go.Proofs.YthlapepjebidgaaGreatDoor
set_option linter.unusedVariables false
set_option linter.unusedSimpArgs false
open Go.ChangeShapes Go.WideShapes Go.ChangeAt Go.RowKit Go.Deep Go.WideElems
/-- whatever comes in at type T is the cells L of a y with R, R speaking of its bulk -/
def Opn {H : Type} (enc : TypeId × Value → H) (P : Program) (w : World) (held : Bool) {α : Type} (N : Nat) (T : TypeId) (L : α → List Value) (R : Nat → α → Prop) : Prop :=
  ∀ fuel, fuel < N → ∀ (cs : List Value) (x : DataW H × List MemPlace), DataW.trod enc P w 0 (fun _ => true) held fuel T cs = some x → (∀ n ∈ x.1.weights P T, n ≤ reachBytes) → ∃ y : α, cs = L y ∧ R (Rows.uptoBulk x.1) y
abbrev rowL {α : Type} (r : Rw α) : List Value := [.slice r.A r.l.length r.c]
section
variable {H : Type} {enc : TypeId × Value → H} {P : Program} {w : World} {held : Bool}
theorem Opn.mono {α : Type} {N M : Nat} {T : TypeId} {L : α → List Value} {R : Nat → α → Prop} (h : Opn enc P w held N T L R) (hM : M ≤ N) : Opn enc P w held M T L R := fun fuel hf => h fuel (by omega)
theorem Opn.imp {α : Type} {N : Nat} {T : TypeId} {L : α → List Value} {R S : Nat → α → Prop} (h : Opn enc P w held N T L R) (hM : ∀ b y, R b y → S b y) : Opn enc P w held N T L S := fun fuel hf cs x h1 h2 => by
  obtain ⟨y, hy, hr⟩ := h fuel hf cs x h1 h2
  exact ⟨y, hy, hM _ _ hr⟩
theorem Opn.map {α β : Type} {N : Nat} {T : TypeId} {L : α → List Value} {R : Nat → α → Prop} {L' : β → List Value} {R' : Nat → β → Prop} (h : Opn enc P w held N T L R) (g : α → β) (hL : ∀ y, L' (g y) = L y) (hR : ∀ b y, R b y → R' b (g y)) : Opn enc P w held N T L' R' := fun fuel hf cs x h1 h2 => by
  obtain ⟨y, hy, hr⟩ := h fuel hf cs x h1 h2
  exact ⟨g y, hy.trans (hL y).symm, hR _ _ hr⟩
end
section
variable {H : Type} {enc : TypeId × Value → H} {w : World} {held : Bool}
abbrev xL (e : Xt) : List Value := [.int .i64 e.k, .int .i64 e.op, .int .i64 e.t, .int .i64 e.v, .string e.nm, .slice e.A e.ar.length e.c]
theorem ofcX (a : Addr) (y : Xt) (h : ∀ j u, (xL y)[j]? = some u → w.cell? (a.add j) = some u) : XC w a y :=
  ⟨by have := h 0 _ rfl; rwa [add_zero'] at this, by have := h 1 _ rfl; simpa [Addr.add] using this, by have := h 2 _ rfl; simpa [Addr.add] using this, by have := h 3 _ rfl; simpa [Addr.add] using this, by have := h 4 _ rfl; simpa [Addr.add] using this, by have := h 5 _ rfl; simpa [Addr.add] using this⟩
abbrev dL (o : Dt) : List Value := [.string o.nm, .int .i64 o.ty, .slice o.ck.A o.ck.l.length o.ck.c]
theorem ofcD (a : Addr) (y : Dt) (h : ∀ j u, (dL y)[j]? = some u → w.cell? (a.add j) = some u) : DC w a y :=
  ⟨by have := h 0 _ rfl; rwa [add_zero'] at this, by have := h 1 _ rfl; simpa [Addr.add] using this, by have := h 2 _ rfl; simpa [Addr.add] using this⟩
theorem ofcB (a : Addr) (y : ByteArray) (h : ∀ j u, [Value.string y][j]? = some u → w.cell? (a.add j) = some u) : BC w a y := by have := h 0 _ rfl; rwa [add_zero'] at this
abbrev qL (q : Qt) : List Value := [.slice q.lf.A q.lf.l.length q.lf.c, .int .i64 q.r.k, .int .i64 q.r.op, .int .i64 q.r.t, .int .i64 q.r.v, .string q.r.nm, .slice q.r.A q.r.ar.length q.r.c]
theorem ofcQ (a : Addr) (y : Qt) (h : ∀ j u, (qL y)[j]? = some u → w.cell? (a.add j) = some u) : QC w a y :=
  ⟨by have := h 0 _ rfl; rwa [add_zero'] at this, by have := h 1 _ rfl; simpa [Addr.add] using this, by have := h 2 _ rfl; simpa [Addr.add] using this, by have := h 3 _ rfl; simpa [Addr.add] using this, by have := h 4 _ rfl; simpa [Addr.add] using this, by have := h 5 _ rfl; simpa [Addr.add] using this, by have := h 6 _ rfl; simpa [Addr.add] using this⟩
abbrev tL (t : Tt) : List Value := [.int .i64 t.cd.k, .int .i64 t.cd.op, .int .i64 t.cd.t, .int .i64 t.cd.v, .string t.cd.nm, .slice t.cd.A t.cd.ar.length t.cd.c, .int .i64 t.to, .bool t.re]
theorem ofcT (a : Addr) (y : Tt) (h : ∀ j u, (tL y)[j]? = some u → w.cell? (a.add j) = some u) : TC w a y :=
  ⟨⟨by have := h 0 _ rfl; rwa [add_zero'] at this, by have := h 1 _ rfl; simpa [Addr.add] using this, by have := h 2 _ rfl; simpa [Addr.add] using this, by have := h 3 _ rfl; simpa [Addr.add] using this, by have := h 4 _ rfl; simpa [Addr.add] using this, by have := h 5 _ rfl; simpa [Addr.add] using this⟩, by have := h 6 _ rfl; simpa [Addr.add] using this, by have := h 7 _ rfl; simpa [Addr.add] using this⟩
abbrev sL (s : St) : List Value := [.string s.nm, .slice s.lc.A s.lc.l.length s.lc.c, .slice s.qs.A s.qs.l.length s.qs.c, .slice s.au.A s.au.l.length s.au.c, .slice s.un.A s.un.l.length s.un.c, .slice s.ut.A s.ut.l.length s.ut.c]
theorem SmS.mono {a b : Nat} {s : St} (h : SmS a s) (hab : a ≤ b) : SmS b s := by
  induction h with
  | mk s h1 h2 h3 h4 ih => exact .mk s (fun q hq => Nat.le_trans (h1 q hq) hab) (fun q hq => Nat.le_trans (h2 q hq) hab) (fun q hq => Nat.le_trans (h3 q hq) hab) ih
theorem ofcS (a : Addr) (y : St) (h : ∀ j u, (sL y)[j]? = some u → w.cell? (a.add j) = some u) : SC w a y :=
  ⟨by have := h 0 _ rfl; rwa [add_zero'] at this, by have := h 1 _ rfl; simpa [Addr.add] using this, by have := h 2 _ rfl; simpa [Addr.add] using this, by have := h 3 _ rfl; simpa [Addr.add] using this, by have := h 4 _ rfl; simpa [Addr.add] using this, by have := h 5 _ rfl; simpa [Addr.add] using this⟩
theorem ofcA (a : Addr) (y : Rw St) (h : ∀ j u, (rowL y)[j]? = some u → w.cell? (a.add j) = some u) : AC w a y := by have := h 0 _ rfl; rwa [add_zero'] at this
abbrev nL (n : Nt) : List Value := [.string n.nm, .slice n.ins.A n.ins.l.length n.ins.c, .slice n.outs.A n.outs.l.length n.outs.c, .slice n.locs.A n.locs.l.length n.locs.c, .slice n.qs.A n.qs.l.length n.qs.c, .slice n.au.A n.au.l.length n.au.c, .slice n.asm.A n.asm.l.length n.asm.c, .slice n.ens.A n.ens.l.length n.ens.c]
theorem ofcN (a : Addr) (y : Nt) (h : ∀ j u, (nL y)[j]? = some u → w.cell? (a.add j) = some u) : NC w a y :=
  ⟨by have := h 0 _ rfl; rwa [add_zero'] at this, by have := h 1 _ rfl; simpa [Addr.add] using this, by have := h 2 _ rfl; simpa [Addr.add] using this, by have := h 3 _ rfl; simpa [Addr.add] using this, by have := h 4 _ rfl; simpa [Addr.add] using this, by have := h 5 _ rfl; simpa [Addr.add] using this, by have := h 6 _ rfl; simpa [Addr.add] using this, by have := h 7 _ rfl; simpa [Addr.add] using this⟩
end
end Go.Proofs.YthlapepjebidgaaGreatDoor
/- A program that is well-formed: what its parts are. -/
namespace Go.Proofs.YthlapepjebidgaaGreatDoor
set_option linter.unusedVariables false
set_option linter.unusedSimpArgs false
open Go.RowKit
theorem ndsE_none {es : List va.En} : ∀ {l : List Nt}, ndsE es l = none ↔ ∀ n ∈ l, (nodE es n).2 = 0
  | [] => by simp [ndsE]
  | n :: l => by
    unfold ndsE
    split
    · rename_i h0
      rw [Option.map_eq_none_iff, ndsE_none]
      simp [h0]
    · rename_i h0
      simp [h0]
theorem eqsE_none {es : List va.En} : ∀ {l : List Qt}, eqsE es l = none ↔ ∀ q ∈ l, eqnE es q = 0
  | [] => by simp [eqsE]
  | n :: l => by
    unfold eqsE
    split
    · rename_i h0
      rw [Option.map_eq_none_iff, eqsE_none]
      simp [h0]
    · rename_i h0
      simp [h0]
theorem RsP.take {w : World} {B : Nat} {p : Pt} (h : RsP w B p) (k : Nat) : RsP w B ⟨p.es, p.ns.A, p.ns.c, p.ns.l.take k⟩ := by
  obtain ⟨h1, ⟨h2, h3, h4, h5⟩, h6⟩ := h
  refine ⟨h1, ⟨fun hn => h2 fun e => hn (by simp [e]), fun ad i y hA hy => h3 ad i y hA ?_, ?_, ?_⟩, fun n hn => h6 n (List.mem_of_mem_take hn)⟩
  · have hy' : (p.ns.l.take k)[i]? = some y := hy
    rw [List.getElem?_take] at hy'
    split at hy'
    · exact hy'
    · cases hy'
  · simp only [List.length_take]; omega
  · simp only [List.length_take]; omega
end Go.Proofs.YthlapepjebidgaaGreatDoor
/- Wide programs: rows that have grown, read; what Check says of them. -/
namespace Go.Proofs.YthlapepjebidgaaGreatDoor
set_option linter.unusedVariables false
set_option linter.unusedSimpArgs false
open Go.RowKit
theorem rdr_own {α : Type} {W : World} {H sz c : Nat} {e : TypeId} {A : Option Addr} {C : World → Addr → α → Prop} {enc : α → List Value} (hC : ∀ a y, (∀ j u, (enc y)[j]? = some u → W.cell? (a.add j) = some u) → C W a y) (hl : ∀ y, (enc y).length = sz) {l : List α}
    (hown : W.ownsRow H e sz (.slice A l.length c) l.length (l.flatMap enc)) : RdR W W.heap.size sz C ⟨A, c, l⟩ := by
  refine ⟨fun hn => ?_, fun ad i y hA hy => ?_, (own_len hown).2.2, (own_len hown).2.1⟩
  · obtain ⟨y, hy⟩ : ∃ y, l[0]? = some y := ⟨_, List.getElem?_eq_getElem (List.length_pos_iff.2 hn)⟩
    obtain ⟨g, e1, _, h2, _⟩ := own_at hl hown hy
    exact ⟨_, e1, h2⟩
  · obtain ⟨g, e1, _, _, _, h⟩ := own_at hl hown hy
    obtain rfl : ad = ⟨g, 0, none⟩ := Option.some.inj (Eq.trans (Eq.symm hA) e1)
    rw [va.add_off]
    exact hC _ _ h
/-- a row of texts -/
theorem ss_own {W : World} {H c : Nat} {e : TypeId} {A : Option Addr} {l : List ByteArray} (hown : W.ownsRow H e 1 (.slice A l.length c) l.length (l.flatMap fun b => [.string b])) : Rd W W.heap.size A (va.ss l) := by
  have h := rdr_own (C := BC) (fun a y h => ofcB a y h) (fun _ => rfl) hown
  intro hn
  obtain ⟨ad, e1, hb⟩ := h.1 (by intro e; have e' : l = [] := e; rw [e'] at hn; exact hn rfl)
  refine ⟨ad, e1, hb, fun j u hu => ?_⟩
  obtain ⟨y, hy, rfl⟩ : ∃ y, l[j]? = some y ∧ Value.string y = u := by simpa [va.ss] using hu
  have := h.2.1 ad j y e1 hy
  unfold BC at this
  rwa [Nat.mul_one] at this
abbrev eL (e : va.En) : List Value := [.string e.name, .slice e.A e.tags.length e.c]
/-- enumerations that are all e -/
theorem rse_own {W : World} {H c : Nat} {T : TypeId} {A : Option Addr} {l : List va.En} {e : va.En} (hl : ∀ y ∈ l, y = e) (hown : W.ownsRow H T 2 (.slice A l.length c) l.length (l.flatMap eL))
    (ht : Rd W W.heap.size e.A (va.ss e.tags)) (h1 : e.name.size ≤ 140737488351232) (h2 : e.tags.length ≤ maxLen ∧ e.tags.length ≤ e.c) (h3 : ∀ b ∈ e.tags, b.size ≤ 140737488351232) : RsE W W.heap.size ⟨A, c, l⟩ := by
  refine ⟨⟨fun hn => ?_, fun i y hy => ?_⟩, ⟨(own_len hown).2.2, (own_len hown).2.1⟩, fun y hy => ?_⟩
  · obtain ⟨y, hy⟩ : ∃ y, l[0]? = some y := ⟨_, List.getElem?_eq_getElem (List.length_pos_iff.2 hn)⟩
    obtain ⟨g, e1, _, h2, _⟩ := own_at (sz := 2) (enc := eL) (fun _ => rfl) hown hy
    refine ⟨_, e1, h2, fun i y hy => ?_⟩
    obtain ⟨g', e1', _, _, _, h⟩ := own_at (sz := 2) (enc := eL) (fun _ => rfl) hown hy
    obtain rfl : g = g' := by
      have := Option.some.inj (e1.symm.trans e1')
      injection this
    rw [va.add_off, va.add_off]
    refine ⟨?_, ?_⟩
    · have := h 0 _ rfl
      rwa [add_zero'] at this
    · have := h 1 _ rfl
      simpa [Addr.add] using this
  · rw [hl y (List.mem_of_getElem? hy)]
    exact ht
  · rw [hl y hy]
    exact ⟨h1, h2, h3⟩
theorem li_small : sLi.size ≤ 140737488351232 ∧ (∀ b ∈ [sRe, sGr], b.size ≤ 140737488351232) := by decide
/-- the one enumeration, with whatever tags -/
theorem rse_one {W : World} {g c : Nat} {A : Option Addr} {l : List ByteArray} (hg : g < W.heap.size) (c0 : W.cell? ⟨g, 0, none⟩ = some (.string sLi)) (c1 : W.cell? ⟨g, 1, none⟩ = some (.slice A l.length c)) (ht : Rd W W.heap.size A (va.ss l)) (h2 : l.length ≤ maxLen ∧ l.length ≤ c)
    (h3 : ∀ b ∈ l, b.size ≤ 140737488351232) : RsE W W.heap.size ⟨some ⟨g, 0, none⟩, 1, [⟨sLi, A, c, l⟩]⟩ := by
  refine ⟨⟨fun _ => ⟨_, rfl, hg, fun i e hi => ?_⟩, fun i e hi => ?_⟩, ⟨by simp [maxLen], Nat.le_refl _⟩, fun e he => ?_⟩
  · rcases i with _ | i
    · obtain rfl : (⟨sLi, A, c, l⟩ : va.En) = e := by simpa using hi
      refine ⟨?_, ?_⟩
      · rw [Nat.zero_mul, add_zero']; exact c0
      · rw [Nat.zero_mul, va.add_off]; exact c1
    · simp at hi
  · rcases i with _ | i
    · obtain rfl : (⟨sLi, A, c, l⟩ : va.En) = e := by simpa using hi
      exact ht
    · simp at hi
  · obtain rfl : e = ⟨sLi, A, c, l⟩ := by simpa using he
    exact ⟨li_small.1, h2, h3⟩
theorem rd_two {W : World} {g : Nat} (hg : g < W.heap.size) (t0 : W.cell? ⟨g, 0, none⟩ = some (.string sRe)) (t1 : W.cell? ⟨g, 1, none⟩ = some (.string sGr)) : Rd W W.heap.size (some ⟨g, 0, none⟩) (va.ss [sRe, sGr]) := by
  intro _
  refine ⟨_, rfl, hg, fun j u hu => ?_⟩
  rw [va.add_off]
  rcases j with _ | _ | j
  · obtain rfl : Value.string sRe = u := by simpa [va.ss] using hu
    exact t0
  · obtain rfl : Value.string sGr = u := by simpa [va.ss] using hu
    exact t1
  · simp [va.ss] at hu
theorem rsd_out {W : World} {g : Nat} (hg : g < W.heap.size) (h : DC W ⟨g, 0, none⟩ ⟨sX, 3, ⟨none, 0, []⟩⟩) : RsDs W W.heap.size ⟨some ⟨g, 0, none⟩, 1, [⟨sX, 3, ⟨none, 0, []⟩⟩]⟩ := by
  refine ⟨rdr_one hg h 1 (Nat.le_refl _), fun d hd => ?_⟩
  obtain rfl : d = ⟨sX, 3, ⟨none, 0, []⟩⟩ := by simpa using hd
  exact ⟨⟨by decide, by decide⟩, RdR.nil _ _ _ _ _, fun d h => by cases h⟩
/-- the example's equation, its left side in block g -/
abbrev liEq (g : Nat) : Qt := ⟨⟨some ⟨g, 0, none⟩, 1, [sX]⟩, redX⟩
theorem rsq_el {W : World} {g : Nat} (hg : g < W.heap.size) (h : BC W ⟨g, 0, none⟩ sX) : RsQ W W.heap.size (liEq g) := ⟨⟨rdr_one hg h 1 (Nat.le_refl _), show ∀ b ∈ [sX], b.size ≤ 140737488351232 by decide⟩, red_rd _ _⟩
theorem rsq_all {W : World} {r : Rw Qt} {g : Nat} (hr : RdR W W.heap.size 7 QC r) (hl : ∀ q ∈ r.l, q = liEq g) (hg : g < W.heap.size) (h : BC W ⟨g, 0, none⟩ sX) : RsQs W W.heap.size r := ⟨hr, fun q hq => by rw [hl q hq]; exact rsq_el hg h⟩
/- what is said of them -/
theorem errs_all {α : Type} {l : List α} {f : α → Int} (h : ∀ x ∈ l, f x = 0) : errs (l.map f) = 0 := errs_zero.2 fun x hx => by
  obtain ⟨y, hy, rfl⟩ := List.mem_map.1 hx
  exact h y hy
theorem eqs_all {es : List va.En} {l : List Qt} (h : ∀ q ∈ l, eqnE es q = 0) : eqsE es l = none := eqsE_none.2 h
theorem eqn_li (h g : Nat) : eqnE [liE h] (liEq g) = 0 := by
  unfold eqnE
  simp only
  rw [if_neg (by simp), if_neg (by simp), exp_cX h 0 (by decide) (by decide), if_pos (by decide)]
  show orE (errs [idE sX]) (orE 0 (if 1 < 1 ∧ redX.k ≠ 10 then 5 else 0)) = 0
  rw [if_neg (show ¬ (1 < 1 ∧ redX.k ≠ 10) by omega), show idE sX = 0 by unfold idE; rw [id_x]; rfl]
  rfl
theorem port_li (h : Nat) : portE [liE h] ⟨sX, 3, ⟨none, 0, []⟩⟩ = 0 := by
  unfold portE dclE
  simp only
  rw [id_x, if_pos rfl]
  rfl
/-- a node like the example's: right at its limits -/
theorem nod_ok {h : Nat} {n : Nt} (h0 : n.nm = sF) (h1 : n.outs.l = [⟨sX, 3, ⟨none, 0, []⟩⟩]) (l1 : n.ins.l.length ≤ 64) (l2 : n.locs.l.length ≤ 256) (l3 : n.qs.l.length ≤ 256) (l4 : n.au.l.length ≤ 8) (l5 : n.asm.l = []) (l6 : n.ens.l.length ≤ 8)
    (e1 : ∀ d ∈ n.ins.l, portE [liE h] d = 0) (e2 : ∀ d ∈ n.locs.l, locE [liE h] d = 0) (e3 : ∀ q ∈ n.qs.l, eqnE [liE h] q = 0) (e4 : ∀ a ∈ n.au.l, autE [liE h] 3 a = 0) (e5 : ∀ x ∈ n.ens.l, expE [liE h] x = 0) : nodE [liE h] n = (-1, 0) := by
  have hh : hedE [liE h] n = 0 := by
    unfold hedE
    rw [h0, id_f, if_pos rfl, if_neg (by rw [h1, l5]; simp; omega), if_neg (by rw [h1]; simp), errs_all e1, errs_all e2, h1]
    show orE 0 (orE (errs [portE [liE h] ⟨sX, 3, ⟨none, 0, []⟩⟩]) 0) = 0
    rw [port_li]
    rfl
  rw [nodE_eq, hh, if_pos rfl, eqs_all e3]
  show ((-1 : Int), talE [liE h] n) = _
  unfold talE
  rw [errs_all e4, l5, errs_all e5]
  rfl
/-- .. and with more than they allow -/
theorem nod_lim {h : Nat} {n : Nt} (h0 : n.nm = sF) (hl : 64 < n.ins.l.length ∨ 64 < n.outs.l.length ∨ 256 < n.locs.l.length ∨ 256 < n.qs.l.length ∨ 8 < n.au.l.length ∨ 8 < n.asm.l.length ∨ 8 < n.ens.l.length) : nodE [liE h] n = (-1, 3) := by
  have hh : hedE [liE h] n = 3 := by
    unfold hedE
    rw [h0, id_f, if_pos rfl, if_pos hl]
  rw [nodE_eq, hh, if_neg (by decide)]
theorem chk_node {h c : Nat} {A : Option Addr} {n : Nt} {b : Int} (hb : nodE [liE h] n = (-1, b)) : (chkE ⟨(liP h).es, ⟨A, c, [n]⟩⟩).2 = b := by
  unfold chkE
  rw [if_neg (by simp)]
  show (if errs [enumE (liE h)] = 0 then wheR (ndsE [liE h] [n]) else ((-1, -1), errs [enumE (liE h)])).2 = _
  rw [enum_li, if_pos (show errs [0] = 0 from rfl)]
  show (wheR (ndsE [liE h] [n])).2 = _
  rw [ndsE, hb]
  by_cases h0 : b = 0
  · subst h0
    rfl
  · rw [if_neg h0]
    rfl
end Go.Proofs.YthlapepjebidgaaGreatDoor
