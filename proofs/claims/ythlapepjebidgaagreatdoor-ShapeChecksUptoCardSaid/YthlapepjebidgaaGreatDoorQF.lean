/- Texts of one chain, in one file. -/
import Derived.Test.YthlapepjebidgaaGreatDoorQE
/- head, state and automaton of the program. -/
namespace Go.Proofs.YthlapepjebidgaaGreatDoor
set_option linter.unusedVariables false
set_option linter.unusedSimpArgs false
open Go.RowKit
set_option maxHeartbeats 4000000 in
set_option maxRecDepth 20000 in
theorem sh_head (E : Rw va.En) (n : Nt) (w : World) (hs : Std w) (hE : RsE w w.heap.size E) (hn : RsN w w.heap.size n) :
    Calls Tryz.prog 78 #[ckV E, nV n] w (Bel (.int .i64 (hedE E.l n)) w) := by
  obtain ⟨h1, h2, h3, h4, h5, h6, h7, h8⟩ := hn
  have K := Lib.hid (fun W (h : Below w.heap.size w W) => ident_any n.nm W (hs.to h) h1)
  have KI : Hid (∀ W, Below w.heap.size w W → Calls Tryz.prog 111 #[.slice n.ins.A n.ins.l.length n.ins.c, .func (.func 112) #[ckV E] #[]] W (Bel (.int .i64 (errs (n.ins.l.map (portE E.l)))) W)) := Lib.hid fun W h =>
    first_Decl_port (ckV E) n.ins (portE E.l) W ((h2.blw h h.size).1) (Lib.hid fun y hy W' h' => sh_port E y W' (hs.to (h.trans (h'.mono h.size))) (hE.blw (h.trans (h'.mono h.size)) (Nat.le_trans h.size h'.size)) ((h2.blw (h.trans (h'.mono h.size)) (Nat.le_trans h.size h'.size)).2 y hy))
  have KO : Hid (∀ W, Below w.heap.size w W → Calls Tryz.prog 111 #[.slice n.outs.A n.outs.l.length n.outs.c, .func (.func 112) #[ckV E] #[]] W (Bel (.int .i64 (errs (n.outs.l.map (portE E.l)))) W)) := Lib.hid fun W h =>
    first_Decl_port (ckV E) n.outs (portE E.l) W ((h3.blw h h.size).1) (Lib.hid fun y hy W' h' => sh_port E y W' (hs.to (h.trans (h'.mono h.size))) (hE.blw (h.trans (h'.mono h.size)) (Nat.le_trans h.size h'.size)) ((h3.blw (h.trans (h'.mono h.size)) (Nat.le_trans h.size h'.size)).2 y hy))
  have KL : Hid (∀ W, Below w.heap.size w W → Calls Tryz.prog 111 #[.slice n.locs.A n.locs.l.length n.locs.c, .func (.func 113) #[ckV E] #[]] W (Bel (.int .i64 (errs (n.locs.l.map (locE E.l)))) W)) := Lib.hid fun W h =>
    first_Decl_local (ckV E) n.locs (locE E.l) W ((h4.blw h h.size).1) (Lib.hid fun y hy W' h' => sh_local E y W' (hs.to (h.trans (h'.mono h.size))) (hE.blw (h.trans (h'.mono h.size)) (Nat.le_trans h.size h'.size)) ((h4.blw (h.trans (h'.mono h.size)) (Nat.le_trans h.size h'.size)).2 y hy))
  unfold hedE
  generalize errs (n.ins.l.map (portE E.l)) = u at *
  generalize errs (n.outs.l.map (portE E.l)) = v at *
  generalize errs (n.locs.l.map (locE E.l)) = x at *
  generalize idP n.nm = b at *
  clear hs hE h1 h2 h3 h4 h5 h6 h7 h8
  cases b
  · rw [if_neg (by simp)]
    go_enter Tryz.func78, Tryz.ntmps78
    go_wp2_with (first | (go_at_call 75; (with_reducible refine (K.out _ ?_).mono ?_); (focus ((repeat (first | (with_reducible exact Below.refl _ _) | (with_reducible assumption) | (with_reducible exact bel_box _) | (with_reducible refine bel_step ?_ (by with_reducible assumption)) | (with_reducible refine Below.drew ?_) | (with_reducible refine below_drewN ?_ _) | (with_reducible refine bel_alloc ?_ _))); done)); rintro e w1 ⟨rfl, hb1⟩; obtain ⟨g0, g1, g2, g3, g4, g5, g6, g7, g8, g9⟩ := B2N (w := w) (W := w1) E n (by repeat (first | (with_reducible exact Below.refl _ _) | (with_reducible assumption) | (with_reducible exact bel_box _) | (with_reducible refine bel_step ?_ (by with_reducible assumption)) | (with_reducible refine Below.drew ?_) | (with_reducible refine below_drewN ?_ _) | (with_reducible refine bel_alloc ?_ _)))))
    go_ret
    exact ⟨(by first | rfl | assumption), (by repeat (first | (with_reducible exact Below.refl _ _) | (with_reducible assumption) | (with_reducible exact bel_box _) | (with_reducible refine bel_step ?_ (by with_reducible assumption)) | (with_reducible refine Below.drew ?_) | (with_reducible refine below_drewN ?_ _) | (with_reducible refine bel_alloc ?_ _)))⟩
  rw [if_pos rfl]
  by_cases z0 : 64 < n.ins.l.length
  · have q0 : (64 : Int) < (n.ins.l.length : Int) := by omega
    rw [if_pos (by omega)]
    clear z0
    go_enter Tryz.func78, Tryz.ntmps78
    go_wp2_with (first | (go_at_call 75; (with_reducible refine (K.out _ ?_).mono ?_); (focus ((repeat (first | (with_reducible exact Below.refl _ _) | (with_reducible assumption) | (with_reducible exact bel_box _) | (with_reducible refine bel_step ?_ (by with_reducible assumption)) | (with_reducible refine Below.drew ?_) | (with_reducible refine below_drewN ?_ _) | (with_reducible refine bel_alloc ?_ _))); done)); rintro e w1 ⟨rfl, hb1⟩; obtain ⟨g0, g1, g2, g3, g4, g5, g6, g7, g8, g9⟩ := B2N (w := w) (W := w1) E n (by repeat (first | (with_reducible exact Below.refl _ _) | (with_reducible assumption) | (with_reducible exact bel_box _) | (with_reducible refine bel_step ?_ (by with_reducible assumption)) | (with_reducible refine Below.drew ?_) | (with_reducible refine below_drewN ?_ _) | (with_reducible refine bel_alloc ?_ _)))))
    go_ret
    exact ⟨(by first | rfl | assumption), (by repeat (first | (with_reducible exact Below.refl _ _) | (with_reducible assumption) | (with_reducible exact bel_box _) | (with_reducible refine bel_step ?_ (by with_reducible assumption)) | (with_reducible refine Below.drew ?_) | (with_reducible refine below_drewN ?_ _) | (with_reducible refine bel_alloc ?_ _)))⟩
  have q0 : (n.ins.l.length : Int) ≤ (64 : Int) := by omega
  by_cases z1 : 64 < n.outs.l.length
  · have q1 : (64 : Int) < (n.outs.l.length : Int) := by omega
    rw [if_pos (by omega)]
    clear z0 z1
    go_enter Tryz.func78, Tryz.ntmps78
    go_wp2_with (first | (go_at_call 75; (with_reducible refine (K.out _ ?_).mono ?_); (focus ((repeat (first | (with_reducible exact Below.refl _ _) | (with_reducible assumption) | (with_reducible exact bel_box _) | (with_reducible refine bel_step ?_ (by with_reducible assumption)) | (with_reducible refine Below.drew ?_) | (with_reducible refine below_drewN ?_ _) | (with_reducible refine bel_alloc ?_ _))); done)); rintro e w1 ⟨rfl, hb1⟩; obtain ⟨g0, g1, g2, g3, g4, g5, g6, g7, g8, g9⟩ := B2N (w := w) (W := w1) E n (by repeat (first | (with_reducible exact Below.refl _ _) | (with_reducible assumption) | (with_reducible exact bel_box _) | (with_reducible refine bel_step ?_ (by with_reducible assumption)) | (with_reducible refine Below.drew ?_) | (with_reducible refine below_drewN ?_ _) | (with_reducible refine bel_alloc ?_ _)))))
    go_ret
    exact ⟨(by first | rfl | assumption), (by repeat (first | (with_reducible exact Below.refl _ _) | (with_reducible assumption) | (with_reducible exact bel_box _) | (with_reducible refine bel_step ?_ (by with_reducible assumption)) | (with_reducible refine Below.drew ?_) | (with_reducible refine below_drewN ?_ _) | (with_reducible refine bel_alloc ?_ _)))⟩
  have q1 : (n.outs.l.length : Int) ≤ (64 : Int) := by omega
  by_cases z2 : 256 < n.locs.l.length
  · have q2 : (256 : Int) < (n.locs.l.length : Int) := by omega
    rw [if_pos (by omega)]
    clear z0 z1 z2
    go_enter Tryz.func78, Tryz.ntmps78
    go_wp2_with (first | (go_at_call 75; (with_reducible refine (K.out _ ?_).mono ?_); (focus ((repeat (first | (with_reducible exact Below.refl _ _) | (with_reducible assumption) | (with_reducible exact bel_box _) | (with_reducible refine bel_step ?_ (by with_reducible assumption)) | (with_reducible refine Below.drew ?_) | (with_reducible refine below_drewN ?_ _) | (with_reducible refine bel_alloc ?_ _))); done)); rintro e w1 ⟨rfl, hb1⟩; obtain ⟨g0, g1, g2, g3, g4, g5, g6, g7, g8, g9⟩ := B2N (w := w) (W := w1) E n (by repeat (first | (with_reducible exact Below.refl _ _) | (with_reducible assumption) | (with_reducible exact bel_box _) | (with_reducible refine bel_step ?_ (by with_reducible assumption)) | (with_reducible refine Below.drew ?_) | (with_reducible refine below_drewN ?_ _) | (with_reducible refine bel_alloc ?_ _)))))
    go_ret
    exact ⟨(by first | rfl | assumption), (by repeat (first | (with_reducible exact Below.refl _ _) | (with_reducible assumption) | (with_reducible exact bel_box _) | (with_reducible refine bel_step ?_ (by with_reducible assumption)) | (with_reducible refine Below.drew ?_) | (with_reducible refine below_drewN ?_ _) | (with_reducible refine bel_alloc ?_ _)))⟩
  have q2 : (n.locs.l.length : Int) ≤ (256 : Int) := by omega
  by_cases z3 : 256 < n.qs.l.length
  · have q3 : (256 : Int) < (n.qs.l.length : Int) := by omega
    rw [if_pos (by omega)]
    clear z0 z1 z2 z3
    go_enter Tryz.func78, Tryz.ntmps78
    go_wp2_with (first | (go_at_call 75; (with_reducible refine (K.out _ ?_).mono ?_); (focus ((repeat (first | (with_reducible exact Below.refl _ _) | (with_reducible assumption) | (with_reducible exact bel_box _) | (with_reducible refine bel_step ?_ (by with_reducible assumption)) | (with_reducible refine Below.drew ?_) | (with_reducible refine below_drewN ?_ _) | (with_reducible refine bel_alloc ?_ _))); done)); rintro e w1 ⟨rfl, hb1⟩; obtain ⟨g0, g1, g2, g3, g4, g5, g6, g7, g8, g9⟩ := B2N (w := w) (W := w1) E n (by repeat (first | (with_reducible exact Below.refl _ _) | (with_reducible assumption) | (with_reducible exact bel_box _) | (with_reducible refine bel_step ?_ (by with_reducible assumption)) | (with_reducible refine Below.drew ?_) | (with_reducible refine below_drewN ?_ _) | (with_reducible refine bel_alloc ?_ _)))))
    go_ret
    exact ⟨(by first | rfl | assumption), (by repeat (first | (with_reducible exact Below.refl _ _) | (with_reducible assumption) | (with_reducible exact bel_box _) | (with_reducible refine bel_step ?_ (by with_reducible assumption)) | (with_reducible refine Below.drew ?_) | (with_reducible refine below_drewN ?_ _) | (with_reducible refine bel_alloc ?_ _)))⟩
  have q3 : (n.qs.l.length : Int) ≤ (256 : Int) := by omega
  by_cases z4 : 8 < n.au.l.length
  · have q4 : (8 : Int) < (n.au.l.length : Int) := by omega
    rw [if_pos (by omega)]
    clear z0 z1 z2 z3 z4
    go_enter Tryz.func78, Tryz.ntmps78
    go_wp2_with (first | (go_at_call 75; (with_reducible refine (K.out _ ?_).mono ?_); (focus ((repeat (first | (with_reducible exact Below.refl _ _) | (with_reducible assumption) | (with_reducible exact bel_box _) | (with_reducible refine bel_step ?_ (by with_reducible assumption)) | (with_reducible refine Below.drew ?_) | (with_reducible refine below_drewN ?_ _) | (with_reducible refine bel_alloc ?_ _))); done)); rintro e w1 ⟨rfl, hb1⟩; obtain ⟨g0, g1, g2, g3, g4, g5, g6, g7, g8, g9⟩ := B2N (w := w) (W := w1) E n (by repeat (first | (with_reducible exact Below.refl _ _) | (with_reducible assumption) | (with_reducible exact bel_box _) | (with_reducible refine bel_step ?_ (by with_reducible assumption)) | (with_reducible refine Below.drew ?_) | (with_reducible refine below_drewN ?_ _) | (with_reducible refine bel_alloc ?_ _)))))
    go_ret
    exact ⟨(by first | rfl | assumption), (by repeat (first | (with_reducible exact Below.refl _ _) | (with_reducible assumption) | (with_reducible exact bel_box _) | (with_reducible refine bel_step ?_ (by with_reducible assumption)) | (with_reducible refine Below.drew ?_) | (with_reducible refine below_drewN ?_ _) | (with_reducible refine bel_alloc ?_ _)))⟩
  have q4 : (n.au.l.length : Int) ≤ (8 : Int) := by omega
  by_cases z5 : 8 < n.asm.l.length
  · have q5 : (8 : Int) < (n.asm.l.length : Int) := by omega
    rw [if_pos (by omega)]
    clear z0 z1 z2 z3 z4 z5
    go_enter Tryz.func78, Tryz.ntmps78
    go_wp2_with (first | (go_at_call 75; (with_reducible refine (K.out _ ?_).mono ?_); (focus ((repeat (first | (with_reducible exact Below.refl _ _) | (with_reducible assumption) | (with_reducible exact bel_box _) | (with_reducible refine bel_step ?_ (by with_reducible assumption)) | (with_reducible refine Below.drew ?_) | (with_reducible refine below_drewN ?_ _) | (with_reducible refine bel_alloc ?_ _))); done)); rintro e w1 ⟨rfl, hb1⟩; obtain ⟨g0, g1, g2, g3, g4, g5, g6, g7, g8, g9⟩ := B2N (w := w) (W := w1) E n (by repeat (first | (with_reducible exact Below.refl _ _) | (with_reducible assumption) | (with_reducible exact bel_box _) | (with_reducible refine bel_step ?_ (by with_reducible assumption)) | (with_reducible refine Below.drew ?_) | (with_reducible refine below_drewN ?_ _) | (with_reducible refine bel_alloc ?_ _)))))
    go_ret
    exact ⟨(by first | rfl | assumption), (by repeat (first | (with_reducible exact Below.refl _ _) | (with_reducible assumption) | (with_reducible exact bel_box _) | (with_reducible refine bel_step ?_ (by with_reducible assumption)) | (with_reducible refine Below.drew ?_) | (with_reducible refine below_drewN ?_ _) | (with_reducible refine bel_alloc ?_ _)))⟩
  have q5 : (n.asm.l.length : Int) ≤ (8 : Int) := by omega
  by_cases z6 : 8 < n.ens.l.length
  · have q6 : (8 : Int) < (n.ens.l.length : Int) := by omega
    rw [if_pos (by omega)]
    clear z0 z1 z2 z3 z4 z5 z6
    go_enter Tryz.func78, Tryz.ntmps78
    go_wp2_with (first | (go_at_call 75; (with_reducible refine (K.out _ ?_).mono ?_); (focus ((repeat (first | (with_reducible exact Below.refl _ _) | (with_reducible assumption) | (with_reducible exact bel_box _) | (with_reducible refine bel_step ?_ (by with_reducible assumption)) | (with_reducible refine Below.drew ?_) | (with_reducible refine below_drewN ?_ _) | (with_reducible refine bel_alloc ?_ _))); done)); rintro e w1 ⟨rfl, hb1⟩; obtain ⟨g0, g1, g2, g3, g4, g5, g6, g7, g8, g9⟩ := B2N (w := w) (W := w1) E n (by repeat (first | (with_reducible exact Below.refl _ _) | (with_reducible assumption) | (with_reducible exact bel_box _) | (with_reducible refine bel_step ?_ (by with_reducible assumption)) | (with_reducible refine Below.drew ?_) | (with_reducible refine below_drewN ?_ _) | (with_reducible refine bel_alloc ?_ _)))))
    go_ret
    exact ⟨(by first | rfl | assumption), (by repeat (first | (with_reducible exact Below.refl _ _) | (with_reducible assumption) | (with_reducible exact bel_box _) | (with_reducible refine bel_step ?_ (by with_reducible assumption)) | (with_reducible refine Below.drew ?_) | (with_reducible refine below_drewN ?_ _) | (with_reducible refine bel_alloc ?_ _)))⟩
  have q6 : (n.ens.l.length : Int) ≤ (8 : Int) := by omega
  rw [if_neg (by omega)]
  clear z0 z1 z2 z3 z4 z5 z6
  by_cases z : n.outs.l.length = 0
  · have q : ((n.outs.l.length : Int) == 0) = true := by simp [z]
    rw [if_pos z]
    clear z
    go_enter Tryz.func78, Tryz.ntmps78
    go_wp2_with (first | (go_at_call 75; (with_reducible refine (K.out _ ?_).mono ?_); (focus ((repeat (first | (with_reducible exact Below.refl _ _) | (with_reducible assumption) | (with_reducible exact bel_box _) | (with_reducible refine bel_step ?_ (by with_reducible assumption)) | (with_reducible refine Below.drew ?_) | (with_reducible refine below_drewN ?_ _) | (with_reducible refine bel_alloc ?_ _))); done)); rintro e w1 ⟨rfl, hb1⟩; obtain ⟨g0, g1, g2, g3, g4, g5, g6, g7, g8, g9⟩ := B2N (w := w) (W := w1) E n (by repeat (first | (with_reducible exact Below.refl _ _) | (with_reducible assumption) | (with_reducible exact bel_box _) | (with_reducible refine bel_step ?_ (by with_reducible assumption)) | (with_reducible refine Below.drew ?_) | (with_reducible refine below_drewN ?_ _) | (with_reducible refine bel_alloc ?_ _)))))
    go_ret
    exact ⟨(by first | rfl | assumption), (by repeat (first | (with_reducible exact Below.refl _ _) | (with_reducible assumption) | (with_reducible exact bel_box _) | (with_reducible refine bel_step ?_ (by with_reducible assumption)) | (with_reducible refine Below.drew ?_) | (with_reducible refine below_drewN ?_ _) | (with_reducible refine bel_alloc ?_ _)))⟩
  have q : ((n.outs.l.length : Int) == 0) = false := by simp [z]
  rw [if_neg z]
  clear z
  by_cases h_u : u = 0
  · subst h_u
    rw [orE0]
    by_cases h_v : v = 0
    · subst h_v
      rw [orE0]
      go_enter Tryz.func78, Tryz.ntmps78
      go_wp2_with (first | (go_at_call 75; (with_reducible refine (K.out _ ?_).mono ?_); (focus ((repeat (first | (with_reducible exact Below.refl _ _) | (with_reducible assumption) | (with_reducible exact bel_box _) | (with_reducible refine bel_step ?_ (by with_reducible assumption)) | (with_reducible refine Below.drew ?_) | (with_reducible refine below_drewN ?_ _) | (with_reducible refine bel_alloc ?_ _))); done)); rintro e w1 ⟨rfl, hb1⟩; obtain ⟨g0, g1, g2, g3, g4, g5, g6, g7, g8, g9⟩ := B2N (w := w) (W := w1) E n (by repeat (first | (with_reducible exact Below.refl _ _) | (with_reducible assumption) | (with_reducible exact bel_box _) | (with_reducible refine bel_step ?_ (by with_reducible assumption)) | (with_reducible refine Below.drew ?_) | (with_reducible refine below_drewN ?_ _) | (with_reducible refine bel_alloc ?_ _)))) | (go_at_call 111; (with_reducible refine (KI.out _ ?_).mono ?_); (focus ((repeat (first | (with_reducible exact Below.refl _ _) | (with_reducible assumption) | (with_reducible exact bel_box _) | (with_reducible refine bel_step ?_ (by with_reducible assumption)) | (with_reducible refine Below.drew ?_) | (with_reducible refine below_drewN ?_ _) | (with_reducible refine bel_alloc ?_ _))); done)); rintro e w2 ⟨rfl, hb2⟩; obtain ⟨g0, g1, g2, g3, g4, g5, g6, g7, g8, g9⟩ := B2N (w := w) (W := w2) E n (by repeat (first | (with_reducible exact Below.refl _ _) | (with_reducible assumption) | (with_reducible exact bel_box _) | (with_reducible refine bel_step ?_ (by with_reducible assumption)) | (with_reducible refine Below.drew ?_) | (with_reducible refine below_drewN ?_ _) | (with_reducible refine bel_alloc ?_ _)))) | (go_at_call 111; (with_reducible refine (KO.out _ ?_).mono ?_); (focus ((repeat (first | (with_reducible exact Below.refl _ _) | (with_reducible assumption) | (with_reducible exact bel_box _) | (with_reducible refine bel_step ?_ (by with_reducible assumption)) | (with_reducible refine Below.drew ?_) | (with_reducible refine below_drewN ?_ _) | (with_reducible refine bel_alloc ?_ _))); done)); rintro e w3 ⟨rfl, hb3⟩; obtain ⟨g0, g1, g2, g3, g4, g5, g6, g7, g8, g9⟩ := B2N (w := w) (W := w3) E n (by repeat (first | (with_reducible exact Below.refl _ _) | (with_reducible assumption) | (with_reducible exact bel_box _) | (with_reducible refine bel_step ?_ (by with_reducible assumption)) | (with_reducible refine Below.drew ?_) | (with_reducible refine below_drewN ?_ _) | (with_reducible refine bel_alloc ?_ _)))) | (go_at_call 111; (with_reducible refine (KL.out _ ?_).mono ?_); (focus ((repeat (first | (with_reducible exact Below.refl _ _) | (with_reducible assumption) | (with_reducible exact bel_box _) | (with_reducible refine bel_step ?_ (by with_reducible assumption)) | (with_reducible refine Below.drew ?_) | (with_reducible refine below_drewN ?_ _) | (with_reducible refine bel_alloc ?_ _))); done)); rintro e w4 ⟨rfl, hb4⟩; obtain ⟨g0, g1, g2, g3, g4, g5, g6, g7, g8, g9⟩ := B2N (w := w) (W := w4) E n (by repeat (first | (with_reducible exact Below.refl _ _) | (with_reducible assumption) | (with_reducible exact bel_box _) | (with_reducible refine bel_step ?_ (by with_reducible assumption)) | (with_reducible refine Below.drew ?_) | (with_reducible refine below_drewN ?_ _) | (with_reducible refine bel_alloc ?_ _)))))
      go_ret
      exact ⟨(by first | rfl | assumption), (by repeat (first | (with_reducible exact Below.refl _ _) | (with_reducible assumption) | (with_reducible exact bel_box _) | (with_reducible refine bel_step ?_ (by with_reducible assumption)) | (with_reducible refine Below.drew ?_) | (with_reducible refine below_drewN ?_ _) | (with_reducible refine bel_alloc ?_ _)))⟩
    · have y_v : (v == 0) = false := by simp [h_v]
      rw [orEn h_v]
      clear h_v
      go_enter Tryz.func78, Tryz.ntmps78
      go_wp2_with (first | (go_at_call 75; (with_reducible refine (K.out _ ?_).mono ?_); (focus ((repeat (first | (with_reducible exact Below.refl _ _) | (with_reducible assumption) | (with_reducible exact bel_box _) | (with_reducible refine bel_step ?_ (by with_reducible assumption)) | (with_reducible refine Below.drew ?_) | (with_reducible refine below_drewN ?_ _) | (with_reducible refine bel_alloc ?_ _))); done)); rintro e w1 ⟨rfl, hb1⟩; obtain ⟨g0, g1, g2, g3, g4, g5, g6, g7, g8, g9⟩ := B2N (w := w) (W := w1) E n (by repeat (first | (with_reducible exact Below.refl _ _) | (with_reducible assumption) | (with_reducible exact bel_box _) | (with_reducible refine bel_step ?_ (by with_reducible assumption)) | (with_reducible refine Below.drew ?_) | (with_reducible refine below_drewN ?_ _) | (with_reducible refine bel_alloc ?_ _)))) | (go_at_call 111; (with_reducible refine (KI.out _ ?_).mono ?_); (focus ((repeat (first | (with_reducible exact Below.refl _ _) | (with_reducible assumption) | (with_reducible exact bel_box _) | (with_reducible refine bel_step ?_ (by with_reducible assumption)) | (with_reducible refine Below.drew ?_) | (with_reducible refine below_drewN ?_ _) | (with_reducible refine bel_alloc ?_ _))); done)); rintro e w2 ⟨rfl, hb2⟩; obtain ⟨g0, g1, g2, g3, g4, g5, g6, g7, g8, g9⟩ := B2N (w := w) (W := w2) E n (by repeat (first | (with_reducible exact Below.refl _ _) | (with_reducible assumption) | (with_reducible exact bel_box _) | (with_reducible refine bel_step ?_ (by with_reducible assumption)) | (with_reducible refine Below.drew ?_) | (with_reducible refine below_drewN ?_ _) | (with_reducible refine bel_alloc ?_ _)))) | (go_at_call 111; (with_reducible refine (KO.out _ ?_).mono ?_); (focus ((repeat (first | (with_reducible exact Below.refl _ _) | (with_reducible assumption) | (with_reducible exact bel_box _) | (with_reducible refine bel_step ?_ (by with_reducible assumption)) | (with_reducible refine Below.drew ?_) | (with_reducible refine below_drewN ?_ _) | (with_reducible refine bel_alloc ?_ _))); done)); rintro e w3 ⟨rfl, hb3⟩; obtain ⟨g0, g1, g2, g3, g4, g5, g6, g7, g8, g9⟩ := B2N (w := w) (W := w3) E n (by repeat (first | (with_reducible exact Below.refl _ _) | (with_reducible assumption) | (with_reducible exact bel_box _) | (with_reducible refine bel_step ?_ (by with_reducible assumption)) | (with_reducible refine Below.drew ?_) | (with_reducible refine below_drewN ?_ _) | (with_reducible refine bel_alloc ?_ _)))) | (go_at_call 111; (with_reducible refine (KL.out _ ?_).mono ?_); (focus ((repeat (first | (with_reducible exact Below.refl _ _) | (with_reducible assumption) | (with_reducible exact bel_box _) | (with_reducible refine bel_step ?_ (by with_reducible assumption)) | (with_reducible refine Below.drew ?_) | (with_reducible refine below_drewN ?_ _) | (with_reducible refine bel_alloc ?_ _))); done)); rintro e w4 ⟨rfl, hb4⟩; obtain ⟨g0, g1, g2, g3, g4, g5, g6, g7, g8, g9⟩ := B2N (w := w) (W := w4) E n (by repeat (first | (with_reducible exact Below.refl _ _) | (with_reducible assumption) | (with_reducible exact bel_box _) | (with_reducible refine bel_step ?_ (by with_reducible assumption)) | (with_reducible refine Below.drew ?_) | (with_reducible refine below_drewN ?_ _) | (with_reducible refine bel_alloc ?_ _)))))
      go_ret
      exact ⟨(by first | rfl | assumption), (by repeat (first | (with_reducible exact Below.refl _ _) | (with_reducible assumption) | (with_reducible exact bel_box _) | (with_reducible refine bel_step ?_ (by with_reducible assumption)) | (with_reducible refine Below.drew ?_) | (with_reducible refine below_drewN ?_ _) | (with_reducible refine bel_alloc ?_ _)))⟩
  · have y_u : (u == 0) = false := by simp [h_u]
    rw [orEn h_u]
    clear h_u
    go_enter Tryz.func78, Tryz.ntmps78
    go_wp2_with (first | (go_at_call 75; (with_reducible refine (K.out _ ?_).mono ?_); (focus ((repeat (first | (with_reducible exact Below.refl _ _) | (with_reducible assumption) | (with_reducible exact bel_box _) | (with_reducible refine bel_step ?_ (by with_reducible assumption)) | (with_reducible refine Below.drew ?_) | (with_reducible refine below_drewN ?_ _) | (with_reducible refine bel_alloc ?_ _))); done)); rintro e w1 ⟨rfl, hb1⟩; obtain ⟨g0, g1, g2, g3, g4, g5, g6, g7, g8, g9⟩ := B2N (w := w) (W := w1) E n (by repeat (first | (with_reducible exact Below.refl _ _) | (with_reducible assumption) | (with_reducible exact bel_box _) | (with_reducible refine bel_step ?_ (by with_reducible assumption)) | (with_reducible refine Below.drew ?_) | (with_reducible refine below_drewN ?_ _) | (with_reducible refine bel_alloc ?_ _)))) | (go_at_call 111; (with_reducible refine (KI.out _ ?_).mono ?_); (focus ((repeat (first | (with_reducible exact Below.refl _ _) | (with_reducible assumption) | (with_reducible exact bel_box _) | (with_reducible refine bel_step ?_ (by with_reducible assumption)) | (with_reducible refine Below.drew ?_) | (with_reducible refine below_drewN ?_ _) | (with_reducible refine bel_alloc ?_ _))); done)); rintro e w2 ⟨rfl, hb2⟩; obtain ⟨g0, g1, g2, g3, g4, g5, g6, g7, g8, g9⟩ := B2N (w := w) (W := w2) E n (by repeat (first | (with_reducible exact Below.refl _ _) | (with_reducible assumption) | (with_reducible exact bel_box _) | (with_reducible refine bel_step ?_ (by with_reducible assumption)) | (with_reducible refine Below.drew ?_) | (with_reducible refine below_drewN ?_ _) | (with_reducible refine bel_alloc ?_ _)))) | (go_at_call 111; (with_reducible refine (KO.out _ ?_).mono ?_); (focus ((repeat (first | (with_reducible exact Below.refl _ _) | (with_reducible assumption) | (with_reducible exact bel_box _) | (with_reducible refine bel_step ?_ (by with_reducible assumption)) | (with_reducible refine Below.drew ?_) | (with_reducible refine below_drewN ?_ _) | (with_reducible refine bel_alloc ?_ _))); done)); rintro e w3 ⟨rfl, hb3⟩; obtain ⟨g0, g1, g2, g3, g4, g5, g6, g7, g8, g9⟩ := B2N (w := w) (W := w3) E n (by repeat (first | (with_reducible exact Below.refl _ _) | (with_reducible assumption) | (with_reducible exact bel_box _) | (with_reducible refine bel_step ?_ (by with_reducible assumption)) | (with_reducible refine Below.drew ?_) | (with_reducible refine below_drewN ?_ _) | (with_reducible refine bel_alloc ?_ _)))) | (go_at_call 111; (with_reducible refine (KL.out _ ?_).mono ?_); (focus ((repeat (first | (with_reducible exact Below.refl _ _) | (with_reducible assumption) | (with_reducible exact bel_box _) | (with_reducible refine bel_step ?_ (by with_reducible assumption)) | (with_reducible refine Below.drew ?_) | (with_reducible refine below_drewN ?_ _) | (with_reducible refine bel_alloc ?_ _))); done)); rintro e w4 ⟨rfl, hb4⟩; obtain ⟨g0, g1, g2, g3, g4, g5, g6, g7, g8, g9⟩ := B2N (w := w) (W := w4) E n (by repeat (first | (with_reducible exact Below.refl _ _) | (with_reducible assumption) | (with_reducible exact bel_box _) | (with_reducible refine bel_step ?_ (by with_reducible assumption)) | (with_reducible refine Below.drew ?_) | (with_reducible refine below_drewN ?_ _) | (with_reducible refine bel_alloc ?_ _)))))
    go_ret
    exact ⟨(by first | rfl | assumption), (by repeat (first | (with_reducible exact Below.refl _ _) | (with_reducible assumption) | (with_reducible exact bel_box _) | (with_reducible refine bel_step ?_ (by with_reducible assumption)) | (with_reducible refine Below.drew ?_) | (with_reducible refine below_drewN ?_ _) | (with_reducible refine bel_alloc ?_ _)))⟩
/-- what automaton's closure answers, nested 3 - r times -/
def AutC (r : Nat) : Prop := ∀ (E : Rw va.En) (a : Rw St) (p q : Addr) (w : World), Std w → RsE w w.heap.size E → RsA w w.heap.size a → Cap w p (.int .i64 ((3 : Int) - (r : Int))) → Cap w q (.slice E.A E.l.length E.c) →
    Calls Tryz.prog 114 #[aV a, .pointer (some p), .pointer (some q)] w (Bel (.int .i64 (autE E.l r a)) w)
set_option maxHeartbeats 4000000 in
set_option maxRecDepth 20000 in
theorem sh_state1 (r : Nat) (hr : r + 1 ≤ 3) (IH : Hid (AutC r)) (E : Rw va.En) (n : Int) (s : St) (c p q : Addr) (w : World) (hs : Std w) (hE : RsE w w.heap.size E) (hS : RsS w w.heap.size s)
    (hc : Cap w c (.slice E.A E.l.length E.c)) (hp : Cap w p (.int .i64 ((3 : Int) - ((r + 1 : Nat) : Int)))) (hq : Cap w q (.int .i64 n)) :
    Calls Tryz.prog 145 #[sV s, .pointer (some c), .pointer (some p), .pointer (some q)] w (Bel (.int .i64 (staE E.l (autE E.l r) n s)) w) := by
  obtain ⟨h1, h2, h3, h4, h5, h6, h7, h8⟩ := hS.of
  have hau : RsAs w w.heap.size s.au := ⟨h4, fun a ha => ⟨h5 a ha, h6 a ha⟩⟩
  obtain ⟨m, hm⟩ : ∃ m : Int, (3 : Int) - ((r + 1 : Nat) : Int) = m := ⟨_, rfl⟩
  have hm1 : (3 : Int) - (r : Int) = m + 1 := by omega
  rw [hm] at hp
  have u1 : IntKind.i64.wrap (m + 1) = m + 1 := Go.IntWalk.i64_in _ ⟨by omega, by omega⟩
  have K := Lib.hid (fun W (h : Below w.heap.size w W) => ident_any s.nm W (hs.to h) h1)
  have KL : Hid (∀ W, Below w.heap.size w W → Calls Tryz.prog 111 #[.slice s.lc.A s.lc.l.length s.lc.c, .func (.func 113) #[ckV E] #[]] W (Bel (.int .i64 (errs (s.lc.l.map (locE E.l)))) W)) := Lib.hid fun W h =>
    first_Decl_local (ckV E) s.lc (locE E.l) W ((h2.blw h h.size).1) (Lib.hid fun y hy W' h' => sh_local E y W' (hs.to (h.trans (h'.mono h.size))) (hE.blw (h.trans (h'.mono h.size)) (Nat.le_trans h.size h'.size)) ((h2.blw (h.trans (h'.mono h.size)) (Nat.le_trans h.size h'.size)).2 y hy))
  have KQ : Hid (∀ W, Below w.heap.size w W → Calls Tryz.prog 146 #[.slice s.qs.A s.qs.l.length s.qs.c, .func (.func 79) #[ckV E] #[]] W (Bel (.int .i64 (errs (s.qs.l.map (eqnE E.l)))) W)) := Lib.hid fun W h =>
    first_Eq_equation (ckV E) s.qs (eqnE E.l) W ((h3.blw h h.size).1) (Lib.hid fun y hy W' h' => sh_equation E y W' (hs.to (h.trans (h'.mono h.size))) (hE.blw (h.trans (h'.mono h.size)) (Nat.le_trans h.size h'.size)) ((h3.blw (h.trans (h'.mono h.size)) (Nat.le_trans h.size h'.size)).2 y hy))
  have KA := Lib.hid (fun W => sh_automaton E (m + 1) W)
  have KU := Lib.hid (fun W => sh_unless E n W)
  have KT := Lib.hid (fun W => sh_transition E n W)
  have KFA : Hid (∀ p' q' W, Cap W p' (.int .i64 (m + 1)) → Cap W q' (.slice E.A E.l.length E.c) → Below w.heap.size w W → Calls Tryz.prog 80 #[.slice s.au.A s.au.l.length s.au.c, .func (.func 114) #[] #[.pointer (some p'), .pointer (some q')]] W (Bel (.int .i64 (errs (s.au.l.map (autE E.l r)))) W)) := Lib.hid fun p' q' W kp kq h =>
    first_Auto_automaton1 _ _ s.au (autE E.l r) W ((hau.blw h h.size).1) (Lib.hid fun y hy W' h' => IH.out E y p' q' W' (hs.to (h.trans (h'.mono h.size))) (hE.blw (h.trans (h'.mono h.size)) (Nat.le_trans h.size h'.size)) ((hau.blw (h.trans (h'.mono h.size)) (Nat.le_trans h.size h'.size)).2 y hy) (by rw [hm1]; exact kp.to h') (kq.to h'))
  have KFU : Hid (∀ c' p' q' W, Cap W c' (.func (.func 171) #[] #[.pointer (some p'), .pointer (some q')]) → Cap W p' (.int .i64 n) → Cap W q' (.slice E.A E.l.length E.c) → Below w.heap.size w W → Calls Tryz.prog 147 #[.slice s.un.A s.un.l.length s.un.c, .func (.func 170) #[] #[.pointer (some c')]] W (Bel (.int .i64 (errs (s.un.l.map (trnE E.l n true)))) W)) := Lib.hid fun c' p' q' W kc kp kq h =>
    first_Trans_unless1 _ s.un (trnE E.l n true) W ((h7.blw h h.size).1) (Lib.hid fun y hy W' h' => sh_unless1 E n y c' p' q' W' (hs.to (h.trans (h'.mono h.size))) (hE.blw (h.trans (h'.mono h.size)) (Nat.le_trans h.size h'.size)) ((h7.blw (h.trans (h'.mono h.size)) (Nat.le_trans h.size h'.size)).2 y hy) (kc.to h') (kp.to h') (kq.to h'))
  have KFT : Hid (∀ p' q' W, Cap W p' (.int .i64 n) → Cap W q' (.slice E.A E.l.length E.c) → Below w.heap.size w W → Calls Tryz.prog 147 #[.slice s.ut.A s.ut.l.length s.ut.c, .func (.func 171) #[] #[.pointer (some p'), .pointer (some q')]] W (Bel (.int .i64 (errs (s.ut.l.map (trnE E.l n false)))) W)) := Lib.hid fun p' q' W kp kq h =>
    first_Trans_transition1 _ _ s.ut (trnE E.l n false) W ((h8.blw h h.size).1) (Lib.hid fun y hy W' h' => sh_trans1 E n y p' q' W' (hs.to (h.trans (h'.mono h.size))) (hE.blw (h.trans (h'.mono h.size)) (Nat.le_trans h.size h'.size)) ((h8.blw (h.trans (h'.mono h.size)) (Nat.le_trans h.size h'.size)).2 y hy) (kp.to h') (kq.to h'))
  have HC : Hid (∀ W, Below w.heap.size w W → W.cell? c = some (.slice E.A E.l.length E.c) ∧ W.cell? p = some (.int .i64 m) ∧ W.cell? q = some (.int .i64 n)) := Lib.hid fun W h => ⟨(hc.to h).1, (hp.to h).1, (hq.to h).1⟩
  have TB : Hid (∀ W, Below (w.alloc (.cells #[.string s.nm, .slice s.lc.A s.lc.l.length s.lc.c, .slice s.qs.A s.qs.l.length s.qs.c, .slice s.au.A s.au.l.length s.au.c, .slice s.un.A s.un.l.length s.un.c, .slice s.ut.A s.ut.l.length s.ut.c] 95)).heap.size (w.alloc (.cells #[.string s.nm, .slice s.lc.A s.lc.l.length s.lc.c, .slice s.qs.A s.qs.l.length s.qs.c, .slice s.au.A s.au.l.length s.au.c, .slice s.un.A s.un.l.length s.un.c, .slice s.ut.A s.ut.l.length s.ut.c] 95)) W → W.cell? ⟨w.heap.size, 0, none⟩ = some (.string s.nm) ∧ W.cell? ⟨w.heap.size, 1, none⟩ = some (.slice s.lc.A s.lc.l.length s.lc.c) ∧ W.cell? ⟨w.heap.size, 2, none⟩ = some (.slice s.qs.A s.qs.l.length s.qs.c) ∧ W.cell? ⟨w.heap.size, 3, none⟩ = some (.slice s.au.A s.au.l.length s.au.c) ∧ W.cell? ⟨w.heap.size, 4, none⟩ = some (.slice s.un.A s.un.l.length s.un.c) ∧ W.cell? ⟨w.heap.size, 5, none⟩ = some (.slice s.ut.A s.ut.l.length s.ut.c) ∧ W.cell? c = some (.slice E.A E.l.length E.c) ∧ W.cell? p = some (.int .i64 m) ∧ W.cell? q = some (.int .i64 n)) := Lib.hid fun W h => by
    obtain ⟨g0, g1, g2, g3, g4, g5, g6⟩ := B1S s h
    have hb : Below w.heap.size w W := (bel_box _).trans (h.mono (by rw [World.size_alloc]; omega))
    obtain ⟨k0, k1, k2⟩ := HC.out W hb
    exact ⟨g0, g1, g2, g3, g4, g5, k0, k1, k2⟩
  have a0 := hc.al
  have a1 := hp.al
  have a2 := hq.al
  unfold staE
  generalize errs (s.lc.l.map (locE E.l)) = v1 at *
  generalize errs (s.qs.l.map (eqnE E.l)) = v2 at *
  generalize errs (s.au.l.map (autE E.l r)) = v3 at *
  generalize errs (s.un.l.map (trnE E.l n true)) = v4 at *
  generalize errs (s.ut.l.map (trnE E.l n false)) = v5 at *
  generalize idP s.nm = b at *
  clear hs hE hS h1 h2 h3 h4 h5 h6 h7 h8 hau hc hp hq hm hm1 IH hr
  cases b
  · rw [if_neg (by simp)]
    go_enter Tryz.func145, Tryz.ntmps145
    go_wp2_with (first | (go_at_call 75; (with_reducible refine (K.out _ ?_).mono ?_); (focus ((repeat (first | (with_reducible exact Below.refl _ _) | (with_reducible assumption) | (with_reducible exact bel_box _) | (with_reducible refine bel_step ?_ (by with_reducible assumption)) | (with_reducible refine Below.drew ?_) | (with_reducible refine below_drewN ?_ _) | (with_reducible refine bel_alloc ?_ _))); done)); rintro e w1 ⟨rfl, hb1⟩; obtain ⟨g0, g1, g2, g3, g4, g5, g6⟩ := B1S (w := w) (W := w1) s (by repeat (first | (with_reducible exact Below.refl _ _) | (with_reducible assumption) | (with_reducible exact bel_box _) | (with_reducible refine bel_step ?_ (by with_reducible assumption)) | (with_reducible refine Below.drew ?_) | (with_reducible refine below_drewN ?_ _) | (with_reducible refine bel_alloc ?_ _))); obtain ⟨k0, k1, k2⟩ := HC.out w1 (by repeat (first | (with_reducible exact Below.refl _ _) | (with_reducible assumption) | (with_reducible exact bel_box _) | (with_reducible refine bel_step ?_ (by with_reducible assumption)) | (with_reducible refine Below.drew ?_) | (with_reducible refine below_drewN ?_ _) | (with_reducible refine bel_alloc ?_ _)))))
    go_ret
    exact ⟨(by first | rfl | assumption), (by repeat (first | (with_reducible exact Below.refl _ _) | (with_reducible assumption) | (with_reducible exact bel_box _) | (with_reducible refine bel_step ?_ (by with_reducible assumption)) | (with_reducible refine Below.drew ?_) | (with_reducible refine below_drewN ?_ _) | (with_reducible refine bel_alloc ?_ _)))⟩
  rw [if_pos rfl]
  by_cases z0 : 256 < s.lc.l.length
  · have q0 : (256 : Int) < (s.lc.l.length : Int) := by omega
    rw [if_pos (by omega)]
    clear z0
    go_enter Tryz.func145, Tryz.ntmps145
    go_wp2_with (first | (go_at_call 75; (with_reducible refine (K.out _ ?_).mono ?_); (focus ((repeat (first | (with_reducible exact Below.refl _ _) | (with_reducible assumption) | (with_reducible exact bel_box _) | (with_reducible refine bel_step ?_ (by with_reducible assumption)) | (with_reducible refine Below.drew ?_) | (with_reducible refine below_drewN ?_ _) | (with_reducible refine bel_alloc ?_ _))); done)); rintro e w1 ⟨rfl, hb1⟩; obtain ⟨g0, g1, g2, g3, g4, g5, g6⟩ := B1S (w := w) (W := w1) s (by repeat (first | (with_reducible exact Below.refl _ _) | (with_reducible assumption) | (with_reducible exact bel_box _) | (with_reducible refine bel_step ?_ (by with_reducible assumption)) | (with_reducible refine Below.drew ?_) | (with_reducible refine below_drewN ?_ _) | (with_reducible refine bel_alloc ?_ _))); obtain ⟨k0, k1, k2⟩ := HC.out w1 (by repeat (first | (with_reducible exact Below.refl _ _) | (with_reducible assumption) | (with_reducible exact bel_box _) | (with_reducible refine bel_step ?_ (by with_reducible assumption)) | (with_reducible refine Below.drew ?_) | (with_reducible refine below_drewN ?_ _) | (with_reducible refine bel_alloc ?_ _)))))
    go_ret
    exact ⟨(by first | rfl | assumption), (by repeat (first | (with_reducible exact Below.refl _ _) | (with_reducible assumption) | (with_reducible exact bel_box _) | (with_reducible refine bel_step ?_ (by with_reducible assumption)) | (with_reducible refine Below.drew ?_) | (with_reducible refine below_drewN ?_ _) | (with_reducible refine bel_alloc ?_ _)))⟩
  have q0 : (s.lc.l.length : Int) ≤ (256 : Int) := by omega
  by_cases z1 : 256 < s.qs.l.length
  · have q1 : (256 : Int) < (s.qs.l.length : Int) := by omega
    rw [if_pos (by omega)]
    clear z0 z1
    go_enter Tryz.func145, Tryz.ntmps145
    go_wp2_with (first | (go_at_call 75; (with_reducible refine (K.out _ ?_).mono ?_); (focus ((repeat (first | (with_reducible exact Below.refl _ _) | (with_reducible assumption) | (with_reducible exact bel_box _) | (with_reducible refine bel_step ?_ (by with_reducible assumption)) | (with_reducible refine Below.drew ?_) | (with_reducible refine below_drewN ?_ _) | (with_reducible refine bel_alloc ?_ _))); done)); rintro e w1 ⟨rfl, hb1⟩; obtain ⟨g0, g1, g2, g3, g4, g5, g6⟩ := B1S (w := w) (W := w1) s (by repeat (first | (with_reducible exact Below.refl _ _) | (with_reducible assumption) | (with_reducible exact bel_box _) | (with_reducible refine bel_step ?_ (by with_reducible assumption)) | (with_reducible refine Below.drew ?_) | (with_reducible refine below_drewN ?_ _) | (with_reducible refine bel_alloc ?_ _))); obtain ⟨k0, k1, k2⟩ := HC.out w1 (by repeat (first | (with_reducible exact Below.refl _ _) | (with_reducible assumption) | (with_reducible exact bel_box _) | (with_reducible refine bel_step ?_ (by with_reducible assumption)) | (with_reducible refine Below.drew ?_) | (with_reducible refine below_drewN ?_ _) | (with_reducible refine bel_alloc ?_ _)))))
    go_ret
    exact ⟨(by first | rfl | assumption), (by repeat (first | (with_reducible exact Below.refl _ _) | (with_reducible assumption) | (with_reducible exact bel_box _) | (with_reducible refine bel_step ?_ (by with_reducible assumption)) | (with_reducible refine Below.drew ?_) | (with_reducible refine below_drewN ?_ _) | (with_reducible refine bel_alloc ?_ _)))⟩
  have q1 : (s.qs.l.length : Int) ≤ (256 : Int) := by omega
  by_cases z2 : 8 < s.au.l.length
  · have q2 : (8 : Int) < (s.au.l.length : Int) := by omega
    rw [if_pos (by omega)]
    clear z0 z1 z2
    go_enter Tryz.func145, Tryz.ntmps145
    go_wp2_with (first | (go_at_call 75; (with_reducible refine (K.out _ ?_).mono ?_); (focus ((repeat (first | (with_reducible exact Below.refl _ _) | (with_reducible assumption) | (with_reducible exact bel_box _) | (with_reducible refine bel_step ?_ (by with_reducible assumption)) | (with_reducible refine Below.drew ?_) | (with_reducible refine below_drewN ?_ _) | (with_reducible refine bel_alloc ?_ _))); done)); rintro e w1 ⟨rfl, hb1⟩; obtain ⟨g0, g1, g2, g3, g4, g5, g6⟩ := B1S (w := w) (W := w1) s (by repeat (first | (with_reducible exact Below.refl _ _) | (with_reducible assumption) | (with_reducible exact bel_box _) | (with_reducible refine bel_step ?_ (by with_reducible assumption)) | (with_reducible refine Below.drew ?_) | (with_reducible refine below_drewN ?_ _) | (with_reducible refine bel_alloc ?_ _))); obtain ⟨k0, k1, k2⟩ := HC.out w1 (by repeat (first | (with_reducible exact Below.refl _ _) | (with_reducible assumption) | (with_reducible exact bel_box _) | (with_reducible refine bel_step ?_ (by with_reducible assumption)) | (with_reducible refine Below.drew ?_) | (with_reducible refine below_drewN ?_ _) | (with_reducible refine bel_alloc ?_ _)))))
    go_ret
    exact ⟨(by first | rfl | assumption), (by repeat (first | (with_reducible exact Below.refl _ _) | (with_reducible assumption) | (with_reducible exact bel_box _) | (with_reducible refine bel_step ?_ (by with_reducible assumption)) | (with_reducible refine Below.drew ?_) | (with_reducible refine below_drewN ?_ _) | (with_reducible refine bel_alloc ?_ _)))⟩
  have q2 : (s.au.l.length : Int) ≤ (8 : Int) := by omega
  by_cases z3 : 4 < s.un.l.length
  · have q3 : (4 : Int) < (s.un.l.length : Int) := by omega
    rw [if_pos (by omega)]
    clear z0 z1 z2 z3
    go_enter Tryz.func145, Tryz.ntmps145
    go_wp2_with (first | (go_at_call 75; (with_reducible refine (K.out _ ?_).mono ?_); (focus ((repeat (first | (with_reducible exact Below.refl _ _) | (with_reducible assumption) | (with_reducible exact bel_box _) | (with_reducible refine bel_step ?_ (by with_reducible assumption)) | (with_reducible refine Below.drew ?_) | (with_reducible refine below_drewN ?_ _) | (with_reducible refine bel_alloc ?_ _))); done)); rintro e w1 ⟨rfl, hb1⟩; obtain ⟨g0, g1, g2, g3, g4, g5, g6⟩ := B1S (w := w) (W := w1) s (by repeat (first | (with_reducible exact Below.refl _ _) | (with_reducible assumption) | (with_reducible exact bel_box _) | (with_reducible refine bel_step ?_ (by with_reducible assumption)) | (with_reducible refine Below.drew ?_) | (with_reducible refine below_drewN ?_ _) | (with_reducible refine bel_alloc ?_ _))); obtain ⟨k0, k1, k2⟩ := HC.out w1 (by repeat (first | (with_reducible exact Below.refl _ _) | (with_reducible assumption) | (with_reducible exact bel_box _) | (with_reducible refine bel_step ?_ (by with_reducible assumption)) | (with_reducible refine Below.drew ?_) | (with_reducible refine below_drewN ?_ _) | (with_reducible refine bel_alloc ?_ _)))))
    go_ret
    exact ⟨(by first | rfl | assumption), (by repeat (first | (with_reducible exact Below.refl _ _) | (with_reducible assumption) | (with_reducible exact bel_box _) | (with_reducible refine bel_step ?_ (by with_reducible assumption)) | (with_reducible refine Below.drew ?_) | (with_reducible refine below_drewN ?_ _) | (with_reducible refine bel_alloc ?_ _)))⟩
  have q3 : (s.un.l.length : Int) ≤ (4 : Int) := by omega
  by_cases z4 : 4 < s.ut.l.length
  · have q4 : (4 : Int) < (s.ut.l.length : Int) := by omega
    rw [if_pos (by omega)]
    clear z0 z1 z2 z3 z4
    go_enter Tryz.func145, Tryz.ntmps145
    go_wp2_with (first | (go_at_call 75; (with_reducible refine (K.out _ ?_).mono ?_); (focus ((repeat (first | (with_reducible exact Below.refl _ _) | (with_reducible assumption) | (with_reducible exact bel_box _) | (with_reducible refine bel_step ?_ (by with_reducible assumption)) | (with_reducible refine Below.drew ?_) | (with_reducible refine below_drewN ?_ _) | (with_reducible refine bel_alloc ?_ _))); done)); rintro e w1 ⟨rfl, hb1⟩; obtain ⟨g0, g1, g2, g3, g4, g5, g6⟩ := B1S (w := w) (W := w1) s (by repeat (first | (with_reducible exact Below.refl _ _) | (with_reducible assumption) | (with_reducible exact bel_box _) | (with_reducible refine bel_step ?_ (by with_reducible assumption)) | (with_reducible refine Below.drew ?_) | (with_reducible refine below_drewN ?_ _) | (with_reducible refine bel_alloc ?_ _))); obtain ⟨k0, k1, k2⟩ := HC.out w1 (by repeat (first | (with_reducible exact Below.refl _ _) | (with_reducible assumption) | (with_reducible exact bel_box _) | (with_reducible refine bel_step ?_ (by with_reducible assumption)) | (with_reducible refine Below.drew ?_) | (with_reducible refine below_drewN ?_ _) | (with_reducible refine bel_alloc ?_ _)))))
    go_ret
    exact ⟨(by first | rfl | assumption), (by repeat (first | (with_reducible exact Below.refl _ _) | (with_reducible assumption) | (with_reducible exact bel_box _) | (with_reducible refine bel_step ?_ (by with_reducible assumption)) | (with_reducible refine Below.drew ?_) | (with_reducible refine below_drewN ?_ _) | (with_reducible refine bel_alloc ?_ _)))⟩
  have q4 : (s.ut.l.length : Int) ≤ (4 : Int) := by omega
  rw [if_neg (by omega)]
  clear z0 z1 z2 z3 z4
  by_cases h_v1 : v1 = 0
  · subst h_v1
    rw [orE0]
    by_cases h_v2 : v2 = 0
    · subst h_v2
      rw [orE0]
      by_cases h_v3 : v3 = 0
      · subst h_v3
        rw [orE0]
        by_cases h_v4 : v4 = 0
        · subst h_v4
          rw [orE0]
          go_enter Tryz.func145, Tryz.ntmps145
          go_wp2_with (first | (go_at_call 75; (with_reducible refine (K.out _ ?_).mono ?_); (focus ((repeat (first | (with_reducible exact Below.refl _ _) | (with_reducible assumption) | (with_reducible exact bel_box _) | (with_reducible refine bel_step ?_ (by with_reducible assumption)) | (with_reducible refine Below.drew ?_) | (with_reducible refine below_drewN ?_ _) | (with_reducible refine bel_alloc ?_ _))); done)); rintro e w1 ⟨rfl, hb1⟩; obtain ⟨g0, g1, g2, g3, g4, g5, g6⟩ := B1S (w := w) (W := w1) s (by repeat (first | (with_reducible exact Below.refl _ _) | (with_reducible assumption) | (with_reducible exact bel_box _) | (with_reducible refine bel_step ?_ (by with_reducible assumption)) | (with_reducible refine Below.drew ?_) | (with_reducible refine below_drewN ?_ _) | (with_reducible refine bel_alloc ?_ _))); obtain ⟨k0, k1, k2⟩ := HC.out w1 (by repeat (first | (with_reducible exact Below.refl _ _) | (with_reducible assumption) | (with_reducible exact bel_box _) | (with_reducible refine bel_step ?_ (by with_reducible assumption)) | (with_reducible refine Below.drew ?_) | (with_reducible refine below_drewN ?_ _) | (with_reducible refine bel_alloc ?_ _)))) | (go_at_call 111; (with_reducible refine (KL.out _ ?_).mono ?_); (focus ((repeat (first | (with_reducible exact Below.refl _ _) | (with_reducible assumption) | (with_reducible exact bel_box _) | (with_reducible refine bel_step ?_ (by with_reducible assumption)) | (with_reducible refine Below.drew ?_) | (with_reducible refine below_drewN ?_ _) | (with_reducible refine bel_alloc ?_ _))); done)); rintro e w2 ⟨rfl, hb2⟩; obtain ⟨g0, g1, g2, g3, g4, g5, g6⟩ := B1S (w := w) (W := w2) s (by repeat (first | (with_reducible exact Below.refl _ _) | (with_reducible assumption) | (with_reducible exact bel_box _) | (with_reducible refine bel_step ?_ (by with_reducible assumption)) | (with_reducible refine Below.drew ?_) | (with_reducible refine below_drewN ?_ _) | (with_reducible refine bel_alloc ?_ _))); obtain ⟨k0, k1, k2⟩ := HC.out w2 (by repeat (first | (with_reducible exact Below.refl _ _) | (with_reducible assumption) | (with_reducible exact bel_box _) | (with_reducible refine bel_step ?_ (by with_reducible assumption)) | (with_reducible refine Below.drew ?_) | (with_reducible refine below_drewN ?_ _) | (with_reducible refine bel_alloc ?_ _)))) | (go_at_call 146; (with_reducible refine (KQ.out _ ?_).mono ?_); (focus ((repeat (first | (with_reducible exact Below.refl _ _) | (with_reducible assumption) | (with_reducible exact bel_box _) | (with_reducible refine bel_step ?_ (by with_reducible assumption)) | (with_reducible refine Below.drew ?_) | (with_reducible refine below_drewN ?_ _) | (with_reducible refine bel_alloc ?_ _))); done)); rintro e w3 ⟨rfl, hb3⟩; obtain ⟨g0, g1, g2, g3, g4, g5, g6⟩ := B1S (w := w) (W := w3) s (by repeat (first | (with_reducible exact Below.refl _ _) | (with_reducible assumption) | (with_reducible exact bel_box _) | (with_reducible refine bel_step ?_ (by with_reducible assumption)) | (with_reducible refine Below.drew ?_) | (with_reducible refine below_drewN ?_ _) | (with_reducible refine bel_alloc ?_ _))); obtain ⟨k0, k1, k2⟩ := HC.out w3 (by repeat (first | (with_reducible exact Below.refl _ _) | (with_reducible assumption) | (with_reducible exact bel_box _) | (with_reducible refine bel_step ?_ (by with_reducible assumption)) | (with_reducible refine Below.drew ?_) | (with_reducible refine below_drewN ?_ _) | (with_reducible refine bel_alloc ?_ _)))))
          go_region_held3 (fun w' => w'.cell? ⟨w.heap.size, 0, none⟩ = some (.string s.nm) ∧ w'.cell? ⟨w.heap.size, 1, none⟩ = some (.slice s.lc.A s.lc.l.length s.lc.c) ∧ w'.cell? ⟨w.heap.size, 2, none⟩ = some (.slice s.qs.A s.qs.l.length s.qs.c) ∧ w'.cell? ⟨w.heap.size, 3, none⟩ = some (.slice s.au.A s.au.l.length s.au.c) ∧ w'.cell? ⟨w.heap.size, 4, none⟩ = some (.slice s.un.A s.un.l.length s.un.c) ∧ w'.cell? ⟨w.heap.size, 5, none⟩ = some (.slice s.ut.A s.ut.l.length s.ut.c) ∧ w'.cell? c = some (.slice E.A E.l.length E.c) ∧ w'.cell? p = some (.int .i64 m) ∧ w'.cell? q = some (.int .i64 n))
            ((refine TB.out _ ?_; (focus ((repeat (first | (with_reducible exact Below.refl _ _) | (with_reducible assumption) | (with_reducible exact bel_box _) | (with_reducible refine bel_step ?_ (by with_reducible assumption)) | (with_reducible refine Below.drew ?_) | (with_reducible refine below_drewN ?_ _) | (with_reducible refine bel_alloc ?_ _))); done))))
            (first | (go_at_call 81; (with_reducible refine (KA.out _).mono ?_); rintro e w4 ⟨p4, q4, rfl, hp4, hq4, hb4⟩) | (go_at_call 80; (with_reducible refine (KFA.out _ _ _ hp4 hq4 ?_).mono ?_); (focus ((repeat (first | (with_reducible exact Below.refl _ _) | (with_reducible assumption) | (with_reducible exact bel_box _) | (with_reducible refine bel_step ?_ (by with_reducible assumption)) | (with_reducible refine Below.drew ?_) | (with_reducible refine below_drewN ?_ _) | (with_reducible refine bel_alloc ?_ _))); done)); rintro e w5 ⟨rfl, hb5⟩))
          go_wp2
          go_region_held3 (fun w' => w'.cell? ⟨w.heap.size, 0, none⟩ = some (.string s.nm) ∧ w'.cell? ⟨w.heap.size, 1, none⟩ = some (.slice s.lc.A s.lc.l.length s.lc.c) ∧ w'.cell? ⟨w.heap.size, 2, none⟩ = some (.slice s.qs.A s.qs.l.length s.qs.c) ∧ w'.cell? ⟨w.heap.size, 3, none⟩ = some (.slice s.au.A s.au.l.length s.au.c) ∧ w'.cell? ⟨w.heap.size, 4, none⟩ = some (.slice s.un.A s.un.l.length s.un.c) ∧ w'.cell? ⟨w.heap.size, 5, none⟩ = some (.slice s.ut.A s.ut.l.length s.ut.c) ∧ w'.cell? c = some (.slice E.A E.l.length E.c) ∧ w'.cell? p = some (.int .i64 m) ∧ w'.cell? q = some (.int .i64 n))
            ((refine TB.out _ ?_; (focus ((repeat (first | (with_reducible exact Below.refl _ _) | (with_reducible assumption) | (with_reducible exact bel_box _) | (with_reducible refine bel_step ?_ (by with_reducible assumption)) | (with_reducible refine Below.drew ?_) | (with_reducible refine below_drewN ?_ _) | (with_reducible refine bel_alloc ?_ _))); done))))
            (first | (go_at_call 148; (with_reducible refine (KU.out _).mono ?_); rintro e w6 ⟨c6, p6, q6, rfl, hc6, hp6, hq6, hb6⟩) | (go_at_call 147; (with_reducible refine (KFU.out _ _ _ _ hc6 hp6 hq6 ?_).mono ?_); (focus ((repeat (first | (with_reducible exact Below.refl _ _) | (with_reducible assumption) | (with_reducible exact bel_box _) | (with_reducible refine bel_step ?_ (by with_reducible assumption)) | (with_reducible refine Below.drew ?_) | (with_reducible refine below_drewN ?_ _) | (with_reducible refine bel_alloc ?_ _))); done)); rintro e w7 ⟨rfl, hb7⟩))
          go_wp2
          go_region_held3 (fun w' => w'.cell? ⟨w.heap.size, 0, none⟩ = some (.string s.nm) ∧ w'.cell? ⟨w.heap.size, 1, none⟩ = some (.slice s.lc.A s.lc.l.length s.lc.c) ∧ w'.cell? ⟨w.heap.size, 2, none⟩ = some (.slice s.qs.A s.qs.l.length s.qs.c) ∧ w'.cell? ⟨w.heap.size, 3, none⟩ = some (.slice s.au.A s.au.l.length s.au.c) ∧ w'.cell? ⟨w.heap.size, 4, none⟩ = some (.slice s.un.A s.un.l.length s.un.c) ∧ w'.cell? ⟨w.heap.size, 5, none⟩ = some (.slice s.ut.A s.ut.l.length s.ut.c) ∧ w'.cell? c = some (.slice E.A E.l.length E.c) ∧ w'.cell? p = some (.int .i64 m) ∧ w'.cell? q = some (.int .i64 n))
            ((refine TB.out _ ?_; (focus ((repeat (first | (with_reducible exact Below.refl _ _) | (with_reducible assumption) | (with_reducible exact bel_box _) | (with_reducible refine bel_step ?_ (by with_reducible assumption)) | (with_reducible refine Below.drew ?_) | (with_reducible refine below_drewN ?_ _) | (with_reducible refine bel_alloc ?_ _))); done))))
            (first | (go_at_call 149; (with_reducible refine (KT.out _).mono ?_); rintro e w8 ⟨p8, q8, rfl, hp8, hq8, hb8⟩) | (go_at_call 147; (with_reducible refine (KFT.out _ _ _ hp8 hq8 ?_).mono ?_); (focus ((repeat (first | (with_reducible exact Below.refl _ _) | (with_reducible assumption) | (with_reducible exact bel_box _) | (with_reducible refine bel_step ?_ (by with_reducible assumption)) | (with_reducible refine Below.drew ?_) | (with_reducible refine below_drewN ?_ _) | (with_reducible refine bel_alloc ?_ _))); done)); rintro e w9 ⟨rfl, hb9⟩))
          all_goals
            go_wp2
            go_ret
            exact ⟨(by first | rfl | assumption), (by repeat (first | (with_reducible exact Below.refl _ _) | (with_reducible assumption) | (with_reducible exact bel_box _) | (with_reducible refine bel_step ?_ (by with_reducible assumption)) | (with_reducible refine Below.drew ?_) | (with_reducible refine below_drewN ?_ _) | (with_reducible refine bel_alloc ?_ _)))⟩
        · have y_v4 : (v4 == 0) = false := by simp [h_v4]
          rw [orEn h_v4]
          clear h_v4
          go_enter Tryz.func145, Tryz.ntmps145
          go_wp2_with (first | (go_at_call 75; (with_reducible refine (K.out _ ?_).mono ?_); (focus ((repeat (first | (with_reducible exact Below.refl _ _) | (with_reducible assumption) | (with_reducible exact bel_box _) | (with_reducible refine bel_step ?_ (by with_reducible assumption)) | (with_reducible refine Below.drew ?_) | (with_reducible refine below_drewN ?_ _) | (with_reducible refine bel_alloc ?_ _))); done)); rintro e w1 ⟨rfl, hb1⟩; obtain ⟨g0, g1, g2, g3, g4, g5, g6⟩ := B1S (w := w) (W := w1) s (by repeat (first | (with_reducible exact Below.refl _ _) | (with_reducible assumption) | (with_reducible exact bel_box _) | (with_reducible refine bel_step ?_ (by with_reducible assumption)) | (with_reducible refine Below.drew ?_) | (with_reducible refine below_drewN ?_ _) | (with_reducible refine bel_alloc ?_ _))); obtain ⟨k0, k1, k2⟩ := HC.out w1 (by repeat (first | (with_reducible exact Below.refl _ _) | (with_reducible assumption) | (with_reducible exact bel_box _) | (with_reducible refine bel_step ?_ (by with_reducible assumption)) | (with_reducible refine Below.drew ?_) | (with_reducible refine below_drewN ?_ _) | (with_reducible refine bel_alloc ?_ _)))) | (go_at_call 111; (with_reducible refine (KL.out _ ?_).mono ?_); (focus ((repeat (first | (with_reducible exact Below.refl _ _) | (with_reducible assumption) | (with_reducible exact bel_box _) | (with_reducible refine bel_step ?_ (by with_reducible assumption)) | (with_reducible refine Below.drew ?_) | (with_reducible refine below_drewN ?_ _) | (with_reducible refine bel_alloc ?_ _))); done)); rintro e w2 ⟨rfl, hb2⟩; obtain ⟨g0, g1, g2, g3, g4, g5, g6⟩ := B1S (w := w) (W := w2) s (by repeat (first | (with_reducible exact Below.refl _ _) | (with_reducible assumption) | (with_reducible exact bel_box _) | (with_reducible refine bel_step ?_ (by with_reducible assumption)) | (with_reducible refine Below.drew ?_) | (with_reducible refine below_drewN ?_ _) | (with_reducible refine bel_alloc ?_ _))); obtain ⟨k0, k1, k2⟩ := HC.out w2 (by repeat (first | (with_reducible exact Below.refl _ _) | (with_reducible assumption) | (with_reducible exact bel_box _) | (with_reducible refine bel_step ?_ (by with_reducible assumption)) | (with_reducible refine Below.drew ?_) | (with_reducible refine below_drewN ?_ _) | (with_reducible refine bel_alloc ?_ _)))) | (go_at_call 146; (with_reducible refine (KQ.out _ ?_).mono ?_); (focus ((repeat (first | (with_reducible exact Below.refl _ _) | (with_reducible assumption) | (with_reducible exact bel_box _) | (with_reducible refine bel_step ?_ (by with_reducible assumption)) | (with_reducible refine Below.drew ?_) | (with_reducible refine below_drewN ?_ _) | (with_reducible refine bel_alloc ?_ _))); done)); rintro e w3 ⟨rfl, hb3⟩; obtain ⟨g0, g1, g2, g3, g4, g5, g6⟩ := B1S (w := w) (W := w3) s (by repeat (first | (with_reducible exact Below.refl _ _) | (with_reducible assumption) | (with_reducible exact bel_box _) | (with_reducible refine bel_step ?_ (by with_reducible assumption)) | (with_reducible refine Below.drew ?_) | (with_reducible refine below_drewN ?_ _) | (with_reducible refine bel_alloc ?_ _))); obtain ⟨k0, k1, k2⟩ := HC.out w3 (by repeat (first | (with_reducible exact Below.refl _ _) | (with_reducible assumption) | (with_reducible exact bel_box _) | (with_reducible refine bel_step ?_ (by with_reducible assumption)) | (with_reducible refine Below.drew ?_) | (with_reducible refine below_drewN ?_ _) | (with_reducible refine bel_alloc ?_ _)))))
          go_region_held3 (fun w' => w'.cell? ⟨w.heap.size, 0, none⟩ = some (.string s.nm) ∧ w'.cell? ⟨w.heap.size, 1, none⟩ = some (.slice s.lc.A s.lc.l.length s.lc.c) ∧ w'.cell? ⟨w.heap.size, 2, none⟩ = some (.slice s.qs.A s.qs.l.length s.qs.c) ∧ w'.cell? ⟨w.heap.size, 3, none⟩ = some (.slice s.au.A s.au.l.length s.au.c) ∧ w'.cell? ⟨w.heap.size, 4, none⟩ = some (.slice s.un.A s.un.l.length s.un.c) ∧ w'.cell? ⟨w.heap.size, 5, none⟩ = some (.slice s.ut.A s.ut.l.length s.ut.c) ∧ w'.cell? c = some (.slice E.A E.l.length E.c) ∧ w'.cell? p = some (.int .i64 m) ∧ w'.cell? q = some (.int .i64 n))
            ((refine TB.out _ ?_; (focus ((repeat (first | (with_reducible exact Below.refl _ _) | (with_reducible assumption) | (with_reducible exact bel_box _) | (with_reducible refine bel_step ?_ (by with_reducible assumption)) | (with_reducible refine Below.drew ?_) | (with_reducible refine below_drewN ?_ _) | (with_reducible refine bel_alloc ?_ _))); done))))
            (first | (go_at_call 81; (with_reducible refine (KA.out _).mono ?_); rintro e w4 ⟨p4, q4, rfl, hp4, hq4, hb4⟩) | (go_at_call 80; (with_reducible refine (KFA.out _ _ _ hp4 hq4 ?_).mono ?_); (focus ((repeat (first | (with_reducible exact Below.refl _ _) | (with_reducible assumption) | (with_reducible exact bel_box _) | (with_reducible refine bel_step ?_ (by with_reducible assumption)) | (with_reducible refine Below.drew ?_) | (with_reducible refine below_drewN ?_ _) | (with_reducible refine bel_alloc ?_ _))); done)); rintro e w5 ⟨rfl, hb5⟩))
          go_wp2
          go_region_held3 (fun w' => w'.cell? ⟨w.heap.size, 0, none⟩ = some (.string s.nm) ∧ w'.cell? ⟨w.heap.size, 1, none⟩ = some (.slice s.lc.A s.lc.l.length s.lc.c) ∧ w'.cell? ⟨w.heap.size, 2, none⟩ = some (.slice s.qs.A s.qs.l.length s.qs.c) ∧ w'.cell? ⟨w.heap.size, 3, none⟩ = some (.slice s.au.A s.au.l.length s.au.c) ∧ w'.cell? ⟨w.heap.size, 4, none⟩ = some (.slice s.un.A s.un.l.length s.un.c) ∧ w'.cell? ⟨w.heap.size, 5, none⟩ = some (.slice s.ut.A s.ut.l.length s.ut.c) ∧ w'.cell? c = some (.slice E.A E.l.length E.c) ∧ w'.cell? p = some (.int .i64 m) ∧ w'.cell? q = some (.int .i64 n))
            ((refine TB.out _ ?_; (focus ((repeat (first | (with_reducible exact Below.refl _ _) | (with_reducible assumption) | (with_reducible exact bel_box _) | (with_reducible refine bel_step ?_ (by with_reducible assumption)) | (with_reducible refine Below.drew ?_) | (with_reducible refine below_drewN ?_ _) | (with_reducible refine bel_alloc ?_ _))); done))))
            (first | (go_at_call 148; (with_reducible refine (KU.out _).mono ?_); rintro e w6 ⟨c6, p6, q6, rfl, hc6, hp6, hq6, hb6⟩) | (go_at_call 147; (with_reducible refine (KFU.out _ _ _ _ hc6 hp6 hq6 ?_).mono ?_); (focus ((repeat (first | (with_reducible exact Below.refl _ _) | (with_reducible assumption) | (with_reducible exact bel_box _) | (with_reducible refine bel_step ?_ (by with_reducible assumption)) | (with_reducible refine Below.drew ?_) | (with_reducible refine below_drewN ?_ _) | (with_reducible refine bel_alloc ?_ _))); done)); rintro e w7 ⟨rfl, hb7⟩))
          all_goals
            go_wp2
            go_ret
            exact ⟨(by first | rfl | assumption), (by repeat (first | (with_reducible exact Below.refl _ _) | (with_reducible assumption) | (with_reducible exact bel_box _) | (with_reducible refine bel_step ?_ (by with_reducible assumption)) | (with_reducible refine Below.drew ?_) | (with_reducible refine below_drewN ?_ _) | (with_reducible refine bel_alloc ?_ _)))⟩
      · have y_v3 : (v3 == 0) = false := by simp [h_v3]
        rw [orEn h_v3]
        clear h_v3
        go_enter Tryz.func145, Tryz.ntmps145
        go_wp2_with (first | (go_at_call 75; (with_reducible refine (K.out _ ?_).mono ?_); (focus ((repeat (first | (with_reducible exact Below.refl _ _) | (with_reducible assumption) | (with_reducible exact bel_box _) | (with_reducible refine bel_step ?_ (by with_reducible assumption)) | (with_reducible refine Below.drew ?_) | (with_reducible refine below_drewN ?_ _) | (with_reducible refine bel_alloc ?_ _))); done)); rintro e w1 ⟨rfl, hb1⟩; obtain ⟨g0, g1, g2, g3, g4, g5, g6⟩ := B1S (w := w) (W := w1) s (by repeat (first | (with_reducible exact Below.refl _ _) | (with_reducible assumption) | (with_reducible exact bel_box _) | (with_reducible refine bel_step ?_ (by with_reducible assumption)) | (with_reducible refine Below.drew ?_) | (with_reducible refine below_drewN ?_ _) | (with_reducible refine bel_alloc ?_ _))); obtain ⟨k0, k1, k2⟩ := HC.out w1 (by repeat (first | (with_reducible exact Below.refl _ _) | (with_reducible assumption) | (with_reducible exact bel_box _) | (with_reducible refine bel_step ?_ (by with_reducible assumption)) | (with_reducible refine Below.drew ?_) | (with_reducible refine below_drewN ?_ _) | (with_reducible refine bel_alloc ?_ _)))) | (go_at_call 111; (with_reducible refine (KL.out _ ?_).mono ?_); (focus ((repeat (first | (with_reducible exact Below.refl _ _) | (with_reducible assumption) | (with_reducible exact bel_box _) | (with_reducible refine bel_step ?_ (by with_reducible assumption)) | (with_reducible refine Below.drew ?_) | (with_reducible refine below_drewN ?_ _) | (with_reducible refine bel_alloc ?_ _))); done)); rintro e w2 ⟨rfl, hb2⟩; obtain ⟨g0, g1, g2, g3, g4, g5, g6⟩ := B1S (w := w) (W := w2) s (by repeat (first | (with_reducible exact Below.refl _ _) | (with_reducible assumption) | (with_reducible exact bel_box _) | (with_reducible refine bel_step ?_ (by with_reducible assumption)) | (with_reducible refine Below.drew ?_) | (with_reducible refine below_drewN ?_ _) | (with_reducible refine bel_alloc ?_ _))); obtain ⟨k0, k1, k2⟩ := HC.out w2 (by repeat (first | (with_reducible exact Below.refl _ _) | (with_reducible assumption) | (with_reducible exact bel_box _) | (with_reducible refine bel_step ?_ (by with_reducible assumption)) | (with_reducible refine Below.drew ?_) | (with_reducible refine below_drewN ?_ _) | (with_reducible refine bel_alloc ?_ _)))) | (go_at_call 146; (with_reducible refine (KQ.out _ ?_).mono ?_); (focus ((repeat (first | (with_reducible exact Below.refl _ _) | (with_reducible assumption) | (with_reducible exact bel_box _) | (with_reducible refine bel_step ?_ (by with_reducible assumption)) | (with_reducible refine Below.drew ?_) | (with_reducible refine below_drewN ?_ _) | (with_reducible refine bel_alloc ?_ _))); done)); rintro e w3 ⟨rfl, hb3⟩; obtain ⟨g0, g1, g2, g3, g4, g5, g6⟩ := B1S (w := w) (W := w3) s (by repeat (first | (with_reducible exact Below.refl _ _) | (with_reducible assumption) | (with_reducible exact bel_box _) | (with_reducible refine bel_step ?_ (by with_reducible assumption)) | (with_reducible refine Below.drew ?_) | (with_reducible refine below_drewN ?_ _) | (with_reducible refine bel_alloc ?_ _))); obtain ⟨k0, k1, k2⟩ := HC.out w3 (by repeat (first | (with_reducible exact Below.refl _ _) | (with_reducible assumption) | (with_reducible exact bel_box _) | (with_reducible refine bel_step ?_ (by with_reducible assumption)) | (with_reducible refine Below.drew ?_) | (with_reducible refine below_drewN ?_ _) | (with_reducible refine bel_alloc ?_ _)))))
        go_region_held3 (fun w' => w'.cell? ⟨w.heap.size, 0, none⟩ = some (.string s.nm) ∧ w'.cell? ⟨w.heap.size, 1, none⟩ = some (.slice s.lc.A s.lc.l.length s.lc.c) ∧ w'.cell? ⟨w.heap.size, 2, none⟩ = some (.slice s.qs.A s.qs.l.length s.qs.c) ∧ w'.cell? ⟨w.heap.size, 3, none⟩ = some (.slice s.au.A s.au.l.length s.au.c) ∧ w'.cell? ⟨w.heap.size, 4, none⟩ = some (.slice s.un.A s.un.l.length s.un.c) ∧ w'.cell? ⟨w.heap.size, 5, none⟩ = some (.slice s.ut.A s.ut.l.length s.ut.c) ∧ w'.cell? c = some (.slice E.A E.l.length E.c) ∧ w'.cell? p = some (.int .i64 m) ∧ w'.cell? q = some (.int .i64 n))
          ((refine TB.out _ ?_; (focus ((repeat (first | (with_reducible exact Below.refl _ _) | (with_reducible assumption) | (with_reducible exact bel_box _) | (with_reducible refine bel_step ?_ (by with_reducible assumption)) | (with_reducible refine Below.drew ?_) | (with_reducible refine below_drewN ?_ _) | (with_reducible refine bel_alloc ?_ _))); done))))
          (first | (go_at_call 81; (with_reducible refine (KA.out _).mono ?_); rintro e w4 ⟨p4, q4, rfl, hp4, hq4, hb4⟩) | (go_at_call 80; (with_reducible refine (KFA.out _ _ _ hp4 hq4 ?_).mono ?_); (focus ((repeat (first | (with_reducible exact Below.refl _ _) | (with_reducible assumption) | (with_reducible exact bel_box _) | (with_reducible refine bel_step ?_ (by with_reducible assumption)) | (with_reducible refine Below.drew ?_) | (with_reducible refine below_drewN ?_ _) | (with_reducible refine bel_alloc ?_ _))); done)); rintro e w5 ⟨rfl, hb5⟩))
        all_goals
          go_wp2
          go_ret
          exact ⟨(by first | rfl | assumption), (by repeat (first | (with_reducible exact Below.refl _ _) | (with_reducible assumption) | (with_reducible exact bel_box _) | (with_reducible refine bel_step ?_ (by with_reducible assumption)) | (with_reducible refine Below.drew ?_) | (with_reducible refine below_drewN ?_ _) | (with_reducible refine bel_alloc ?_ _)))⟩
    · have y_v2 : (v2 == 0) = false := by simp [h_v2]
      rw [orEn h_v2]
      clear h_v2
      go_enter Tryz.func145, Tryz.ntmps145
      go_wp2_with (first | (go_at_call 75; (with_reducible refine (K.out _ ?_).mono ?_); (focus ((repeat (first | (with_reducible exact Below.refl _ _) | (with_reducible assumption) | (with_reducible exact bel_box _) | (with_reducible refine bel_step ?_ (by with_reducible assumption)) | (with_reducible refine Below.drew ?_) | (with_reducible refine below_drewN ?_ _) | (with_reducible refine bel_alloc ?_ _))); done)); rintro e w1 ⟨rfl, hb1⟩; obtain ⟨g0, g1, g2, g3, g4, g5, g6⟩ := B1S (w := w) (W := w1) s (by repeat (first | (with_reducible exact Below.refl _ _) | (with_reducible assumption) | (with_reducible exact bel_box _) | (with_reducible refine bel_step ?_ (by with_reducible assumption)) | (with_reducible refine Below.drew ?_) | (with_reducible refine below_drewN ?_ _) | (with_reducible refine bel_alloc ?_ _))); obtain ⟨k0, k1, k2⟩ := HC.out w1 (by repeat (first | (with_reducible exact Below.refl _ _) | (with_reducible assumption) | (with_reducible exact bel_box _) | (with_reducible refine bel_step ?_ (by with_reducible assumption)) | (with_reducible refine Below.drew ?_) | (with_reducible refine below_drewN ?_ _) | (with_reducible refine bel_alloc ?_ _)))) | (go_at_call 111; (with_reducible refine (KL.out _ ?_).mono ?_); (focus ((repeat (first | (with_reducible exact Below.refl _ _) | (with_reducible assumption) | (with_reducible exact bel_box _) | (with_reducible refine bel_step ?_ (by with_reducible assumption)) | (with_reducible refine Below.drew ?_) | (with_reducible refine below_drewN ?_ _) | (with_reducible refine bel_alloc ?_ _))); done)); rintro e w2 ⟨rfl, hb2⟩; obtain ⟨g0, g1, g2, g3, g4, g5, g6⟩ := B1S (w := w) (W := w2) s (by repeat (first | (with_reducible exact Below.refl _ _) | (with_reducible assumption) | (with_reducible exact bel_box _) | (with_reducible refine bel_step ?_ (by with_reducible assumption)) | (with_reducible refine Below.drew ?_) | (with_reducible refine below_drewN ?_ _) | (with_reducible refine bel_alloc ?_ _))); obtain ⟨k0, k1, k2⟩ := HC.out w2 (by repeat (first | (with_reducible exact Below.refl _ _) | (with_reducible assumption) | (with_reducible exact bel_box _) | (with_reducible refine bel_step ?_ (by with_reducible assumption)) | (with_reducible refine Below.drew ?_) | (with_reducible refine below_drewN ?_ _) | (with_reducible refine bel_alloc ?_ _)))) | (go_at_call 146; (with_reducible refine (KQ.out _ ?_).mono ?_); (focus ((repeat (first | (with_reducible exact Below.refl _ _) | (with_reducible assumption) | (with_reducible exact bel_box _) | (with_reducible refine bel_step ?_ (by with_reducible assumption)) | (with_reducible refine Below.drew ?_) | (with_reducible refine below_drewN ?_ _) | (with_reducible refine bel_alloc ?_ _))); done)); rintro e w3 ⟨rfl, hb3⟩; obtain ⟨g0, g1, g2, g3, g4, g5, g6⟩ := B1S (w := w) (W := w3) s (by repeat (first | (with_reducible exact Below.refl _ _) | (with_reducible assumption) | (with_reducible exact bel_box _) | (with_reducible refine bel_step ?_ (by with_reducible assumption)) | (with_reducible refine Below.drew ?_) | (with_reducible refine below_drewN ?_ _) | (with_reducible refine bel_alloc ?_ _))); obtain ⟨k0, k1, k2⟩ := HC.out w3 (by repeat (first | (with_reducible exact Below.refl _ _) | (with_reducible assumption) | (with_reducible exact bel_box _) | (with_reducible refine bel_step ?_ (by with_reducible assumption)) | (with_reducible refine Below.drew ?_) | (with_reducible refine below_drewN ?_ _) | (with_reducible refine bel_alloc ?_ _)))))
      go_ret
      exact ⟨(by first | rfl | assumption), (by repeat (first | (with_reducible exact Below.refl _ _) | (with_reducible assumption) | (with_reducible exact bel_box _) | (with_reducible refine bel_step ?_ (by with_reducible assumption)) | (with_reducible refine Below.drew ?_) | (with_reducible refine below_drewN ?_ _) | (with_reducible refine bel_alloc ?_ _)))⟩
  · have y_v1 : (v1 == 0) = false := by simp [h_v1]
    rw [orEn h_v1]
    clear h_v1
    go_enter Tryz.func145, Tryz.ntmps145
    go_wp2_with (first | (go_at_call 75; (with_reducible refine (K.out _ ?_).mono ?_); (focus ((repeat (first | (with_reducible exact Below.refl _ _) | (with_reducible assumption) | (with_reducible exact bel_box _) | (with_reducible refine bel_step ?_ (by with_reducible assumption)) | (with_reducible refine Below.drew ?_) | (with_reducible refine below_drewN ?_ _) | (with_reducible refine bel_alloc ?_ _))); done)); rintro e w1 ⟨rfl, hb1⟩; obtain ⟨g0, g1, g2, g3, g4, g5, g6⟩ := B1S (w := w) (W := w1) s (by repeat (first | (with_reducible exact Below.refl _ _) | (with_reducible assumption) | (with_reducible exact bel_box _) | (with_reducible refine bel_step ?_ (by with_reducible assumption)) | (with_reducible refine Below.drew ?_) | (with_reducible refine below_drewN ?_ _) | (with_reducible refine bel_alloc ?_ _))); obtain ⟨k0, k1, k2⟩ := HC.out w1 (by repeat (first | (with_reducible exact Below.refl _ _) | (with_reducible assumption) | (with_reducible exact bel_box _) | (with_reducible refine bel_step ?_ (by with_reducible assumption)) | (with_reducible refine Below.drew ?_) | (with_reducible refine below_drewN ?_ _) | (with_reducible refine bel_alloc ?_ _)))) | (go_at_call 111; (with_reducible refine (KL.out _ ?_).mono ?_); (focus ((repeat (first | (with_reducible exact Below.refl _ _) | (with_reducible assumption) | (with_reducible exact bel_box _) | (with_reducible refine bel_step ?_ (by with_reducible assumption)) | (with_reducible refine Below.drew ?_) | (with_reducible refine below_drewN ?_ _) | (with_reducible refine bel_alloc ?_ _))); done)); rintro e w2 ⟨rfl, hb2⟩; obtain ⟨g0, g1, g2, g3, g4, g5, g6⟩ := B1S (w := w) (W := w2) s (by repeat (first | (with_reducible exact Below.refl _ _) | (with_reducible assumption) | (with_reducible exact bel_box _) | (with_reducible refine bel_step ?_ (by with_reducible assumption)) | (with_reducible refine Below.drew ?_) | (with_reducible refine below_drewN ?_ _) | (with_reducible refine bel_alloc ?_ _))); obtain ⟨k0, k1, k2⟩ := HC.out w2 (by repeat (first | (with_reducible exact Below.refl _ _) | (with_reducible assumption) | (with_reducible exact bel_box _) | (with_reducible refine bel_step ?_ (by with_reducible assumption)) | (with_reducible refine Below.drew ?_) | (with_reducible refine below_drewN ?_ _) | (with_reducible refine bel_alloc ?_ _)))) | (go_at_call 146; (with_reducible refine (KQ.out _ ?_).mono ?_); (focus ((repeat (first | (with_reducible exact Below.refl _ _) | (with_reducible assumption) | (with_reducible exact bel_box _) | (with_reducible refine bel_step ?_ (by with_reducible assumption)) | (with_reducible refine Below.drew ?_) | (with_reducible refine below_drewN ?_ _) | (with_reducible refine bel_alloc ?_ _))); done)); rintro e w3 ⟨rfl, hb3⟩; obtain ⟨g0, g1, g2, g3, g4, g5, g6⟩ := B1S (w := w) (W := w3) s (by repeat (first | (with_reducible exact Below.refl _ _) | (with_reducible assumption) | (with_reducible exact bel_box _) | (with_reducible refine bel_step ?_ (by with_reducible assumption)) | (with_reducible refine Below.drew ?_) | (with_reducible refine below_drewN ?_ _) | (with_reducible refine bel_alloc ?_ _))); obtain ⟨k0, k1, k2⟩ := HC.out w3 (by repeat (first | (with_reducible exact Below.refl _ _) | (with_reducible assumption) | (with_reducible exact bel_box _) | (with_reducible refine bel_step ?_ (by with_reducible assumption)) | (with_reducible refine Below.drew ?_) | (with_reducible refine below_drewN ?_ _) | (with_reducible refine bel_alloc ?_ _)))))
    go_ret
    exact ⟨(by first | rfl | assumption), (by repeat (first | (with_reducible exact Below.refl _ _) | (with_reducible assumption) | (with_reducible exact bel_box _) | (with_reducible refine bel_step ?_ (by with_reducible assumption)) | (with_reducible refine Below.drew ?_) | (with_reducible refine below_drewN ?_ _) | (with_reducible refine bel_alloc ?_ _)))⟩
set_option maxHeartbeats 4000000 in
set_option maxRecDepth 20000 in
theorem sh_aut1 (r : Nat) : r ≤ 3 → AutC r := by
  induction r with
  | zero =>
    intro _ E a p q w hs hE hA hp hq
    rw [show (3 : Int) - ((0 : Nat) : Int) = 3 from rfl] at hp
    have p0 := hp.1
    have q0 := hq.1
    have p1 := hp.al
    have q1 := hq.al
    unfold autE
    clear hs hE hA hp hq
    go_enter Tryz.func114, Tryz.ntmps114
    go_wp2
    go_ret
    exact ⟨rfl, (by repeat (first | (with_reducible exact Below.refl _ _) | (with_reducible assumption) | (with_reducible exact bel_box _) | (with_reducible refine bel_step ?_ (by with_reducible assumption)) | (with_reducible refine Below.drew ?_) | (with_reducible refine below_drewN ?_ _) | (with_reducible refine bel_alloc ?_ _)))⟩
  | succ r ih =>
    intro hr E a p q w hs hE hA hp hq
    have IH := Lib.hid (ih (by omega))
    have hl := hA.1.len
    unfold maxLen at hl
    obtain ⟨m, hm⟩ : ∃ m : Int, (3 : Int) - ((r + 1 : Nat) : Int) = m := ⟨_, rfl⟩
    have hm3 : m < 3 := by omega
    have KS := Lib.hid (fun W => sh_state E a.l.length m W)
    have KF : Hid (∀ c' p' q' W, Cap W c' (.slice E.A E.l.length E.c) → Cap W p' (.int .i64 m) → Cap W q' (.int .i64 a.l.length) → Below w.heap.size w W → Calls Tryz.prog 115 #[.slice a.A a.l.length a.c, .func (.func 145) #[] #[.pointer (some c'), .pointer (some p'), .pointer (some q')]] W (Bel (.int .i64 (errs (a.l.map (staE E.l (autE E.l r) a.l.length)))) W)) := Lib.hid fun c' p' q' W kc kp kq h =>
      first_State_state1 _ _ _ a (staE E.l (autE E.l r) a.l.length) W ((hA.blw h h.size).1) (Lib.hid fun y hy W' h' => sh_state1 r hr IH E a.l.length y c' p' q' W' (hs.to (h.trans (h'.mono h.size))) (hE.blw (h.trans (h'.mono h.size)) (Nat.le_trans h.size h'.size)) ((hA.blw (h.trans (h'.mono h.size)) (Nat.le_trans h.size h'.size)).2 y hy) (kc.to h') (by rw [hm]; exact kp.to h') (kq.to h'))
    rw [hm] at hp
    have p0 := hp.1
    have q0 := hq.1
    have p1 := hp.al
    have q1 := hq.al
    have TB : Hid (∀ W, Below (w.alloc (.cells #[.slice a.A a.l.length a.c] 101)).heap.size (w.alloc (.cells #[.slice a.A a.l.length a.c] 101)) W → W.cell? ⟨w.heap.size, 0, none⟩ = some (.slice a.A a.l.length a.c) ∧ W.cell? q = some (.slice E.A E.l.length E.c) ∧ W.cell? p = some (.int .i64 m)) := Lib.hid fun W h => by
      have hb : Below w.heap.size w W := (bel_box _).trans (h.mono (by rw [World.size_alloc]; omega))
      exact ⟨(B1A a h).1, (hq.to hb).1, (hp.to hb).1⟩
    unfold autE
    generalize errs (a.l.map (staE E.l (autE E.l r) a.l.length)) = v at *
    clear hs hE hA hp hq hm IH ih hr
    by_cases z0 : a.l.length = 0
    · have y0 : ((a.l.length : Int) == 0) = true := by simp [z0]
      rw [if_pos z0]
      clear z0
      go_enter Tryz.func114, Tryz.ntmps114
      go_wp2
      go_ret
      exact ⟨(by first | rfl | assumption), (by repeat (first | (with_reducible exact Below.refl _ _) | (with_reducible assumption) | (with_reducible exact bel_box _) | (with_reducible refine bel_step ?_ (by with_reducible assumption)) | (with_reducible refine Below.drew ?_) | (with_reducible refine below_drewN ?_ _) | (with_reducible refine bel_alloc ?_ _)))⟩
    have y0 : ((a.l.length : Int) == 0) = false := by simp [z0]
    rw [if_neg z0]
    by_cases z1 : 8 < a.l.length
    · have y1 : (8 : Int) < (a.l.length : Int) := by omega
      rw [if_pos z1]
      clear z0 z1
      go_enter Tryz.func114, Tryz.ntmps114
      go_wp2
      go_ret
      exact ⟨(by first | rfl | assumption), (by repeat (first | (with_reducible exact Below.refl _ _) | (with_reducible assumption) | (with_reducible exact bel_box _) | (with_reducible refine bel_step ?_ (by with_reducible assumption)) | (with_reducible refine Below.drew ?_) | (with_reducible refine below_drewN ?_ _) | (with_reducible refine bel_alloc ?_ _)))⟩
    have y1 : (a.l.length : Int) ≤ (8 : Int) := by omega
    rw [if_neg z1]
    clear z0 z1
    go_enter Tryz.func114, Tryz.ntmps114
    go_wp2
    go_region_held3 (fun w' => w'.cell? ⟨w.heap.size, 0, none⟩ = some (.slice a.A a.l.length a.c) ∧ w'.cell? q = some (.slice E.A E.l.length E.c) ∧ w'.cell? p = some (.int .i64 m))
      ((refine TB.out _ ?_; (focus ((repeat (first | (with_reducible exact Below.refl _ _) | (with_reducible assumption) | (with_reducible exact bel_box _) | (with_reducible refine bel_step ?_ (by with_reducible assumption)) | (with_reducible refine Below.drew ?_) | (with_reducible refine below_drewN ?_ _) | (with_reducible refine bel_alloc ?_ _))); done))))
      (first | (go_at_call 116; (with_reducible refine (KS.out _).mono ?_); rintro e w1 ⟨c1, p1, q1, rfl, hc1, hp1, hq1, hb1⟩) | (go_at_call 115; (with_reducible refine (KF.out _ _ _ _ hc1 hp1 hq1 ?_).mono ?_); (focus ((repeat (first | (with_reducible exact Below.refl _ _) | (with_reducible assumption) | (with_reducible exact bel_box _) | (with_reducible refine bel_step ?_ (by with_reducible assumption)) | (with_reducible refine Below.drew ?_) | (with_reducible refine below_drewN ?_ _) | (with_reducible refine bel_alloc ?_ _))); done)); rintro e w2 ⟨rfl, hb2⟩))
    all_goals
      go_wp2
      go_ret
      exact ⟨(by first | rfl | assumption), (by repeat (first | (with_reducible exact Below.refl _ _) | (with_reducible assumption) | (with_reducible exact bel_box _) | (with_reducible refine bel_step ?_ (by with_reducible assumption)) | (with_reducible refine Below.drew ?_) | (with_reducible refine below_drewN ?_ _) | (with_reducible refine bel_alloc ?_ _)))⟩
end Go.Proofs.YthlapepjebidgaaGreatDoor
/- node of the program. -/
namespace Go.Proofs.YthlapepjebidgaaGreatDoor
set_option linter.unusedVariables false
set_option linter.unusedSimpArgs false
open Go.RowKit
theorem eqsE_steps (es : List va.En) (l : List Qt) : ∃ F : Nat → Option (Nat × Int), F 0 = eqsE es l ∧ F l.length = none ∧ Hid (∀ (k : Nat) (y : Qt), l[k]? = some y → F k = if eqnE es y = 0 then F (k + 1) else some (k, eqnE es y)) := by
  refine ⟨fun k => (eqsE es (l.drop k)).map fun p => (p.1 + k, p.2), by simp, by simp [eqsE], Lib.hid fun k y hy => ?_⟩
  obtain ⟨hk, rfl⟩ := List.getElem?_eq_some_iff.1 hy
  show (eqsE es (l.drop k)).map _ = _
  rw [List.drop_eq_getElem_cons hk, eqsE]
  split
  · rw [Option.map_map]
    congr 1
    funext p
    simp [Nat.add_assoc, Nat.add_comm 1 k]
  · simp
/-- what a node answers, by what is found first -/
noncomputable def nodR (es : List va.En) (n : Nt) : Option (Nat × Int) → Int × Int
  | some p => ((p.1 : Int), p.2)
  | none => (-1, talE es n)
theorem nodE_eq (es : List va.En) (n : Nt) : nodE es n = if hedE es n = 0 then nodR es n (eqsE es n.qs.l) else (-1, hedE es n) := by
  unfold nodE nodR
  split
  · cases eqsE es n.qs.l <;> rfl
  · rfl
set_option maxHeartbeats 4000000 in
set_option maxRecDepth 20000 in
theorem sh_node (E : Rw va.En) (n : Nt) (w : World) (hs : Std w) (hE : RsE w w.heap.size E) (hn : RsN w w.heap.size n) :
    Calls Tryz.prog 45 #[ckV E, nV n] w (Bel (.tuple #[.int .i64 (nodE E.l n).1, .int .i64 (nodE E.l n).2]) w) := by
  have KH := Lib.hid (fun W (h : Below w.heap.size w W) => sh_head E n W (hs.to h) (hE.blw h h.size) (hn.blw h h.size))
  obtain ⟨h1, h2, h3, h4, h5, h6, h7, h8⟩ := hn
  have h9 := h5.1.len
  unfold maxLen at h9
  have HQ := Lib.hid h5
  have KQ : Hid (∀ y ∈ n.qs.l, ∀ W, Below w.heap.size w W → Calls Tryz.prog 79 #[ckV E, qV y] W (Bel (.int .i64 (eqnE E.l y)) W)) := Lib.hid fun y hy W h => sh_equation E y W (hs.to h) (hE.blw h h.size) ((h5.blw h h.size).2 y hy)
  have KA := Lib.hid (fun W => sh_automaton E 0 W)
  have KFA : Hid (∀ p' q' W, Cap W p' (.int .i64 0) → Cap W q' (.slice E.A E.l.length E.c) → Below w.heap.size w W → Calls Tryz.prog 80 #[.slice n.au.A n.au.l.length n.au.c, .func (.func 114) #[] #[.pointer (some p'), .pointer (some q')]] W (Bel (.int .i64 (errs (n.au.l.map (autE E.l 3)))) W)) := Lib.hid fun p' q' W kp kq h =>
    first_Auto_automaton1 _ _ n.au (autE E.l 3) W ((h6.blw h h.size).1) (Lib.hid fun y hy W' h' => sh_aut1 3 (Nat.le_refl _) E y p' q' W' (hs.to (h.trans (h'.mono h.size))) (hE.blw (h.trans (h'.mono h.size)) (Nat.le_trans h.size h'.size)) ((h6.blw (h.trans (h'.mono h.size)) (Nat.le_trans h.size h'.size)).2 y hy) (kp.to h') (kq.to h'))
  have KX1 : Hid (∀ W, Below w.heap.size w W → Calls Tryz.prog 82 #[.slice n.asm.A n.asm.l.length n.asm.c, .func (.func 55) #[ckV E] #[]] W (Bel (.int .i64 (errs (n.asm.l.map (expE E.l)))) W)) := Lib.hid fun W h =>
    first_Expr_expr (ckV E) n.asm (expE E.l) W ((h7.blw h h.size).1) (Lib.hid fun y hy W' h' => sh_expr E y W' (hs.to (h.trans (h'.mono h.size))) (hE.blw (h.trans (h'.mono h.size)) (Nat.le_trans h.size h'.size)) ((h7.blw (h.trans (h'.mono h.size)) (Nat.le_trans h.size h'.size)).2 y hy))
  have KX2 : Hid (∀ W, Below w.heap.size w W → Calls Tryz.prog 82 #[.slice n.ens.A n.ens.l.length n.ens.c, .func (.func 55) #[ckV E] #[]] W (Bel (.int .i64 (errs (n.ens.l.map (expE E.l)))) W)) := Lib.hid fun W h =>
    first_Expr_expr (ckV E) n.ens (expE E.l) W ((h8.blw h h.size).1) (Lib.hid fun y hy W' h' => sh_expr E y W' (hs.to (h.trans (h'.mono h.size))) (hE.blw (h.trans (h'.mono h.size)) (Nat.le_trans h.size h'.size)) ((h8.blw (h.trans (h'.mono h.size)) (Nat.le_trans h.size h'.size)).2 y hy))
  have TB : Hid (∀ W, Below ((w.alloc (.cells #[.slice E.A E.l.length E.c] 75)).alloc (.cells #[.string n.nm, .slice n.ins.A n.ins.l.length n.ins.c, .slice n.outs.A n.outs.l.length n.outs.c, .slice n.locs.A n.locs.l.length n.locs.c, .slice n.qs.A n.qs.l.length n.qs.c, .slice n.au.A n.au.l.length n.au.c, .slice n.asm.A n.asm.l.length n.asm.c, .slice n.ens.A n.ens.l.length n.ens.c] 56)).heap.size ((w.alloc (.cells #[.slice E.A E.l.length E.c] 75)).alloc (.cells #[.string n.nm, .slice n.ins.A n.ins.l.length n.ins.c, .slice n.outs.A n.outs.l.length n.outs.c, .slice n.locs.A n.locs.l.length n.locs.c, .slice n.qs.A n.qs.l.length n.qs.c, .slice n.au.A n.au.l.length n.au.c, .slice n.asm.A n.asm.l.length n.asm.c, .slice n.ens.A n.ens.l.length n.ens.c] 56)) W → W.cell? ⟨w.heap.size, 0, none⟩ = some (.slice E.A E.l.length E.c) ∧ W.cell? ⟨w.heap.size + 1, 0, none⟩ = some (.string n.nm) ∧ W.cell? ⟨w.heap.size + 1, 1, none⟩ = some (.slice n.ins.A n.ins.l.length n.ins.c) ∧ W.cell? ⟨w.heap.size + 1, 2, none⟩ = some (.slice n.outs.A n.outs.l.length n.outs.c) ∧ W.cell? ⟨w.heap.size + 1, 3, none⟩ = some (.slice n.locs.A n.locs.l.length n.locs.c) ∧ W.cell? ⟨w.heap.size + 1, 4, none⟩ = some (.slice n.qs.A n.qs.l.length n.qs.c) ∧ W.cell? ⟨w.heap.size + 1, 5, none⟩ = some (.slice n.au.A n.au.l.length n.au.c) ∧ W.cell? ⟨w.heap.size + 1, 6, none⟩ = some (.slice n.asm.A n.asm.l.length n.asm.c) ∧ W.cell? ⟨w.heap.size + 1, 7, none⟩ = some (.slice n.ens.A n.ens.l.length n.ens.c)) := Lib.hid fun W h => by
    obtain ⟨g0, g1, g2, g3, g4, g5, g6, g7, g8, _⟩ := B2N E n h
    exact ⟨g0, g1, g2, g3, g4, g5, g6, g7, g8⟩
  rw [nodE_eq]
  obtain ⟨F, hF0, hFl, HF⟩ := eqsE_steps E.l n.qs.l
  rw [← hF0]
  have HR : Hid (∀ p, nodR E.l n (some p) = ((p.1 : Int), p.2)) := Lib.hid fun p => rfl
  have HRn : Hid (nodR E.l n none = (-1, orE (errs (n.au.l.map (autE E.l 3))) (orE (errs (n.asm.l.map (expE E.l))) (errs (n.ens.l.map (expE E.l)))))) := Lib.hid rfl
  generalize errs (n.au.l.map (autE E.l 3)) = t1 at *
  generalize errs (n.asm.l.map (expE E.l)) = t2 at *
  generalize errs (n.ens.l.map (expE E.l)) = t3 at *
  generalize hedE E.l n = hv at *
  clear hs hE h1 h2 h3 h4 h5 h6 h7 h8
  by_cases hz : hv = 0
  · subst hz
    rw [if_pos rfl]
    obtain ⟨V, hV⟩ : ∃ V, nodR E.l n (F 0) = V := ⟨_, rfl⟩
    have HV := Lib.hid hV
    have HL := Lib.hid hFl
    rw [hV]
    clear hV hF0 hFl
    go_enter Tryz.func45, Tryz.ntmps45
    go_wp2_with (go_at_call 78; (with_reducible refine (KH.out _ ?_).mono ?_); (focus ((repeat (first | (with_reducible exact Below.refl _ _) | (with_reducible assumption) | (with_reducible exact bel_box _) | (with_reducible refine bel_step ?_ (by with_reducible assumption)) | (with_reducible refine Below.drew ?_) | (with_reducible refine below_drewN ?_ _) | (with_reducible refine bel_alloc ?_ _))); done)); rintro e w1 ⟨rfl, hb1⟩; obtain ⟨g0, g1, g2, g3, g4, g5, g6, g7, g8⟩ := TB.out w1 (by repeat (first | (with_reducible exact Below.refl _ _) | (with_reducible assumption) | (with_reducible exact bel_box _) | (with_reducible refine bel_step ?_ (by with_reducible assumption)) | (with_reducible refine Below.drew ?_) | (with_reducible refine below_drewN ?_ _) | (with_reducible refine bel_alloc ?_ _))))
    go_loopw [21] (fun i wr => ∃ k : Nat, k ≤ n.qs.l.length ∧ i = .int .i64 (k : Int) ∧ Hid (nodR E.l n (F k) = V) ∧ Below ((w.alloc (.cells #[.slice E.A E.l.length E.c] 75)).alloc (.cells #[.string n.nm, .slice n.ins.A n.ins.l.length n.ins.c, .slice n.outs.A n.outs.l.length n.outs.c, .slice n.locs.A n.locs.l.length n.locs.c, .slice n.qs.A n.qs.l.length n.qs.c, .slice n.au.A n.au.l.length n.au.c, .slice n.asm.A n.asm.l.length n.asm.c, .slice n.ens.A n.ens.l.length n.ens.c] 56)).heap.size ((w.alloc (.cells #[.slice E.A E.l.length E.c] 75)).alloc (.cells #[.string n.nm, .slice n.ins.A n.ins.l.length n.ins.c, .slice n.outs.A n.outs.l.length n.outs.c, .slice n.locs.A n.locs.l.length n.locs.c, .slice n.qs.A n.qs.l.length n.qs.c, .slice n.au.A n.au.l.length n.au.c, .slice n.asm.A n.asm.l.length n.asm.c, .slice n.ens.A n.ens.l.length n.ens.c] 56)) wr) (fun i _ => n.qs.l.length - (intOf i).toNat)
    case atStart => exact ⟨0, by omega, rfl, HV, (by repeat (first | (with_reducible exact Below.refl _ _) | (with_reducible assumption) | (with_reducible exact bel_box _) | (with_reducible refine bel_step ?_ (by with_reducible assumption)) | (with_reducible refine Below.drew ?_) | (with_reducible refine below_drewN ?_ _) | (with_reducible refine bel_alloc ?_ _)))⟩
    case round =>
      obtain ⟨k, hk, rfl, hK, hbl⟩ := hrel
      have hBW : Below w.heap.size w wr := (bel_alloc (bel_box _) _).trans (hbl.mono (by simp only [World.size_alloc]; omega))
      obtain ⟨g0, g1, g2, g3, g4, g5, g6, g7, g8⟩ := TB.out wr hbl
      have a0 := fun o => cell_al o g0
      by_cases hlt : k < n.qs.l.length
      · obtain ⟨ad, y, hA, had, hy, hm, ⟨c0, c1, c2, c3, c4, c5, c6⟩⟩ := ((HQ.out.blw hBW hBW.size).1).at_ hlt
        have HG := Lib.hid g5
        rw [hA] at g5 hbl ⊢
        clear hA
        have hst := HF.out k y hy
        have KY := Lib.hid (KQ.out y hm)
        clear hy hm HF
        generalize eqnE E.l y = v at *
        by_cases hv : v = 0
        · subst hv
          rw [if_pos rfl] at hst
          have hn' : Hid (nodR E.l n (F (k + 1)) = V) := Lib.hid (by rw [← hst]; exact hK.out)
          clear hst hK
          go_wp2_with (go_at_call 79; (with_reducible refine (KY.out _ ?_).mono ?_); (focus ((repeat (first | (with_reducible exact Below.refl _ _) | (with_reducible assumption) | (with_reducible exact bel_box _) | (with_reducible refine bel_step ?_ (by with_reducible assumption)) | (with_reducible refine Below.drew ?_) | (with_reducible refine below_drewN ?_ _) | (with_reducible refine bel_alloc ?_ _))); done)); rintro e w2 ⟨rfl, hb2⟩)
          exact ⟨⟨k + 1, by omega, by congr 1, hn', (by repeat (first | (with_reducible exact Below.refl _ _) | (with_reducible assumption) | (with_reducible exact bel_box _) | (with_reducible refine bel_step ?_ (by with_reducible assumption)) | (with_reducible refine Below.drew ?_) | (with_reducible refine below_drewN ?_ _) | (with_reducible refine bel_alloc ?_ _)))⟩, by simp [intOf]; omega⟩
        · rw [if_neg hv] at hst
          have hv2 : V = ((k : Int), v) := by rw [← hK.out, hst, HR.out]
          have e0 : (v == 0) = false := by simp [hv]
          subst hv2
          clear hst hK hv HV
          go_wp2_with (go_at_call 79; (with_reducible refine (KY.out _ ?_).mono ?_); (focus ((repeat (first | (with_reducible exact Below.refl _ _) | (with_reducible assumption) | (with_reducible exact bel_box _) | (with_reducible refine bel_step ?_ (by with_reducible assumption)) | (with_reducible refine Below.drew ?_) | (with_reducible refine below_drewN ?_ _) | (with_reducible refine bel_alloc ?_ _))); done)); rintro e w2 ⟨rfl, hb2⟩)
          refine bodyPost_ret (v := .tuple #[.int .i64 (k), .int .i64 (v)]) (by simp [results, Tryz.results45, go_sem]) rfl ?_
          exact ⟨(by first | rfl | (simp [orE, H1.out]; done) | (simp [orE, H2.out]; done)), (by repeat (first | (with_reducible exact Below.refl _ _) | (with_reducible assumption) | (with_reducible exact bel_box _) | (with_reducible refine bel_step ?_ (by with_reducible assumption)) | (with_reducible refine Below.drew ?_) | (with_reducible refine below_drewN ?_ _) | (with_reducible refine bel_alloc ?_ _)))⟩
      · obtain rfl : k = n.qs.l.length := by omega
        have hv2 : V = (-1, orE t1 (orE t2 t3)) := by rw [← hK.out, HL.out, HRn.out]
        subst hv2
        clear hK HF HV HL
        by_cases y1 : t1 = 0
        · subst y1
          rw [orE0]
          by_cases y2 : t2 = 0
          · subst y2
            rw [orE0]
            go_wp2
            go_region_held3 (fun w' => w'.cell? ⟨w.heap.size, 0, none⟩ = some (.slice E.A E.l.length E.c) ∧ w'.cell? ⟨w.heap.size + 1, 0, none⟩ = some (.string n.nm) ∧ w'.cell? ⟨w.heap.size + 1, 1, none⟩ = some (.slice n.ins.A n.ins.l.length n.ins.c) ∧ w'.cell? ⟨w.heap.size + 1, 2, none⟩ = some (.slice n.outs.A n.outs.l.length n.outs.c) ∧ w'.cell? ⟨w.heap.size + 1, 3, none⟩ = some (.slice n.locs.A n.locs.l.length n.locs.c) ∧ w'.cell? ⟨w.heap.size + 1, 4, none⟩ = some (.slice n.qs.A n.qs.l.length n.qs.c) ∧ w'.cell? ⟨w.heap.size + 1, 5, none⟩ = some (.slice n.au.A n.au.l.length n.au.c) ∧ w'.cell? ⟨w.heap.size + 1, 6, none⟩ = some (.slice n.asm.A n.asm.l.length n.asm.c) ∧ w'.cell? ⟨w.heap.size + 1, 7, none⟩ = some (.slice n.ens.A n.ens.l.length n.ens.c))
              ((refine TB.out _ ?_; (focus ((repeat (first | (with_reducible exact Below.refl _ _) | (with_reducible assumption) | (with_reducible exact bel_box _) | (with_reducible refine bel_step ?_ (by with_reducible assumption)) | (with_reducible refine Below.drew ?_) | (with_reducible refine below_drewN ?_ _) | (with_reducible refine bel_alloc ?_ _))); done))))
              (first | (go_at_call 81; (with_reducible refine (KA.out _).mono ?_); rintro e w3 ⟨p3, q3, rfl, hp3, hq3, hb3⟩) | (go_at_call 80; (with_reducible refine (KFA.out _ _ _ hp3 hq3 ?_).mono ?_); (focus ((repeat (first | (with_reducible exact Below.refl _ _) | (with_reducible assumption) | (with_reducible exact bel_box _) | (with_reducible refine bel_step ?_ (by with_reducible assumption)) | (with_reducible refine Below.drew ?_) | (with_reducible refine below_drewN ?_ _) | (with_reducible refine bel_alloc ?_ _))); done)); rintro e w4 ⟨rfl, hb4⟩; obtain ⟨g0, g1, g2, g3, g4, g5, g6, g7, g8⟩ := TB.out w4 (by repeat (first | (with_reducible exact Below.refl _ _) | (with_reducible assumption) | (with_reducible exact bel_box _) | (with_reducible refine bel_step ?_ (by with_reducible assumption)) | (with_reducible refine Below.drew ?_) | (with_reducible refine below_drewN ?_ _) | (with_reducible refine bel_alloc ?_ _)))))
            all_goals
              go_wp2_with (first | (go_at_call 82; (with_reducible refine (KX1.out _ ?_).mono ?_); (focus ((repeat (first | (with_reducible exact Below.refl _ _) | (with_reducible assumption) | (with_reducible exact bel_box _) | (with_reducible refine bel_step ?_ (by with_reducible assumption)) | (with_reducible refine Below.drew ?_) | (with_reducible refine below_drewN ?_ _) | (with_reducible refine bel_alloc ?_ _))); done)); rintro e w5 ⟨rfl, hb5⟩; obtain ⟨g0, g1, g2, g3, g4, g5, g6, g7, g8⟩ := TB.out w5 (by repeat (first | (with_reducible exact Below.refl _ _) | (with_reducible assumption) | (with_reducible exact bel_box _) | (with_reducible refine bel_step ?_ (by with_reducible assumption)) | (with_reducible refine Below.drew ?_) | (with_reducible refine below_drewN ?_ _) | (with_reducible refine bel_alloc ?_ _)))) | (go_at_call 82; (with_reducible refine (KX2.out _ ?_).mono ?_); (focus ((repeat (first | (with_reducible exact Below.refl _ _) | (with_reducible assumption) | (with_reducible exact bel_box _) | (with_reducible refine bel_step ?_ (by with_reducible assumption)) | (with_reducible refine Below.drew ?_) | (with_reducible refine below_drewN ?_ _) | (with_reducible refine bel_alloc ?_ _))); done)); rintro e w6 ⟨rfl, hb6⟩; obtain ⟨g0, g1, g2, g3, g4, g5, g6, g7, g8⟩ := TB.out w6 (by repeat (first | (with_reducible exact Below.refl _ _) | (with_reducible assumption) | (with_reducible exact bel_box _) | (with_reducible refine bel_step ?_ (by with_reducible assumption)) | (with_reducible refine Below.drew ?_) | (with_reducible refine below_drewN ?_ _) | (with_reducible refine bel_alloc ?_ _)))))
              refine bodyPost_ret (v := .tuple #[.int .i64 (-1), .int .i64 (t3)]) (by simp [results, Tryz.results45, go_sem]) rfl ?_
              exact ⟨(by first | rfl | (simp [orE, H1.out]; done) | (simp [orE, H2.out]; done)), (by repeat (first | (with_reducible exact Below.refl _ _) | (with_reducible assumption) | (with_reducible exact bel_box _) | (with_reducible refine bel_step ?_ (by with_reducible assumption)) | (with_reducible refine Below.drew ?_) | (with_reducible refine below_drewN ?_ _) | (with_reducible refine bel_alloc ?_ _)))⟩
          · have z2 : (t2 == 0) = false := by simp [y2]
            have H2 := Lib.hid y2
            try rw [orEn y2]
            clear y2
            go_wp2
            go_region_held3 (fun w' => w'.cell? ⟨w.heap.size, 0, none⟩ = some (.slice E.A E.l.length E.c) ∧ w'.cell? ⟨w.heap.size + 1, 0, none⟩ = some (.string n.nm) ∧ w'.cell? ⟨w.heap.size + 1, 1, none⟩ = some (.slice n.ins.A n.ins.l.length n.ins.c) ∧ w'.cell? ⟨w.heap.size + 1, 2, none⟩ = some (.slice n.outs.A n.outs.l.length n.outs.c) ∧ w'.cell? ⟨w.heap.size + 1, 3, none⟩ = some (.slice n.locs.A n.locs.l.length n.locs.c) ∧ w'.cell? ⟨w.heap.size + 1, 4, none⟩ = some (.slice n.qs.A n.qs.l.length n.qs.c) ∧ w'.cell? ⟨w.heap.size + 1, 5, none⟩ = some (.slice n.au.A n.au.l.length n.au.c) ∧ w'.cell? ⟨w.heap.size + 1, 6, none⟩ = some (.slice n.asm.A n.asm.l.length n.asm.c) ∧ w'.cell? ⟨w.heap.size + 1, 7, none⟩ = some (.slice n.ens.A n.ens.l.length n.ens.c))
              ((refine TB.out _ ?_; (focus ((repeat (first | (with_reducible exact Below.refl _ _) | (with_reducible assumption) | (with_reducible exact bel_box _) | (with_reducible refine bel_step ?_ (by with_reducible assumption)) | (with_reducible refine Below.drew ?_) | (with_reducible refine below_drewN ?_ _) | (with_reducible refine bel_alloc ?_ _))); done))))
              (first | (go_at_call 81; (with_reducible refine (KA.out _).mono ?_); rintro e w3 ⟨p3, q3, rfl, hp3, hq3, hb3⟩) | (go_at_call 80; (with_reducible refine (KFA.out _ _ _ hp3 hq3 ?_).mono ?_); (focus ((repeat (first | (with_reducible exact Below.refl _ _) | (with_reducible assumption) | (with_reducible exact bel_box _) | (with_reducible refine bel_step ?_ (by with_reducible assumption)) | (with_reducible refine Below.drew ?_) | (with_reducible refine below_drewN ?_ _) | (with_reducible refine bel_alloc ?_ _))); done)); rintro e w4 ⟨rfl, hb4⟩; obtain ⟨g0, g1, g2, g3, g4, g5, g6, g7, g8⟩ := TB.out w4 (by repeat (first | (with_reducible exact Below.refl _ _) | (with_reducible assumption) | (with_reducible exact bel_box _) | (with_reducible refine bel_step ?_ (by with_reducible assumption)) | (with_reducible refine Below.drew ?_) | (with_reducible refine below_drewN ?_ _) | (with_reducible refine bel_alloc ?_ _)))))
            all_goals
              go_wp2_with (go_at_call 82; (with_reducible refine (KX1.out _ ?_).mono ?_); (focus ((repeat (first | (with_reducible exact Below.refl _ _) | (with_reducible assumption) | (with_reducible exact bel_box _) | (with_reducible refine bel_step ?_ (by with_reducible assumption)) | (with_reducible refine Below.drew ?_) | (with_reducible refine below_drewN ?_ _) | (with_reducible refine bel_alloc ?_ _))); done)); rintro e w5 ⟨rfl, hb5⟩; obtain ⟨g0, g1, g2, g3, g4, g5, g6, g7, g8⟩ := TB.out w5 (by repeat (first | (with_reducible exact Below.refl _ _) | (with_reducible assumption) | (with_reducible exact bel_box _) | (with_reducible refine bel_step ?_ (by with_reducible assumption)) | (with_reducible refine Below.drew ?_) | (with_reducible refine below_drewN ?_ _) | (with_reducible refine bel_alloc ?_ _))))
              refine bodyPost_ret (v := .tuple #[.int .i64 (-1), .int .i64 (t2)]) (by simp [results, Tryz.results45, go_sem]) rfl ?_
              exact ⟨(by first | rfl | (simp [orE, H1.out]; done) | (simp [orE, H2.out]; done)), (by repeat (first | (with_reducible exact Below.refl _ _) | (with_reducible assumption) | (with_reducible exact bel_box _) | (with_reducible refine bel_step ?_ (by with_reducible assumption)) | (with_reducible refine Below.drew ?_) | (with_reducible refine below_drewN ?_ _) | (with_reducible refine bel_alloc ?_ _)))⟩
        · have z1 : (t1 == 0) = false := by simp [y1]
          have H1 := Lib.hid y1
          try rw [orEn y1]
          clear y1
          go_wp2
          go_region_held3 (fun w' => w'.cell? ⟨w.heap.size, 0, none⟩ = some (.slice E.A E.l.length E.c) ∧ w'.cell? ⟨w.heap.size + 1, 0, none⟩ = some (.string n.nm) ∧ w'.cell? ⟨w.heap.size + 1, 1, none⟩ = some (.slice n.ins.A n.ins.l.length n.ins.c) ∧ w'.cell? ⟨w.heap.size + 1, 2, none⟩ = some (.slice n.outs.A n.outs.l.length n.outs.c) ∧ w'.cell? ⟨w.heap.size + 1, 3, none⟩ = some (.slice n.locs.A n.locs.l.length n.locs.c) ∧ w'.cell? ⟨w.heap.size + 1, 4, none⟩ = some (.slice n.qs.A n.qs.l.length n.qs.c) ∧ w'.cell? ⟨w.heap.size + 1, 5, none⟩ = some (.slice n.au.A n.au.l.length n.au.c) ∧ w'.cell? ⟨w.heap.size + 1, 6, none⟩ = some (.slice n.asm.A n.asm.l.length n.asm.c) ∧ w'.cell? ⟨w.heap.size + 1, 7, none⟩ = some (.slice n.ens.A n.ens.l.length n.ens.c))
            ((refine TB.out _ ?_; (focus ((repeat (first | (with_reducible exact Below.refl _ _) | (with_reducible assumption) | (with_reducible exact bel_box _) | (with_reducible refine bel_step ?_ (by with_reducible assumption)) | (with_reducible refine Below.drew ?_) | (with_reducible refine below_drewN ?_ _) | (with_reducible refine bel_alloc ?_ _))); done))))
            (first | (go_at_call 81; (with_reducible refine (KA.out _).mono ?_); rintro e w3 ⟨p3, q3, rfl, hp3, hq3, hb3⟩) | (go_at_call 80; (with_reducible refine (KFA.out _ _ _ hp3 hq3 ?_).mono ?_); (focus ((repeat (first | (with_reducible exact Below.refl _ _) | (with_reducible assumption) | (with_reducible exact bel_box _) | (with_reducible refine bel_step ?_ (by with_reducible assumption)) | (with_reducible refine Below.drew ?_) | (with_reducible refine below_drewN ?_ _) | (with_reducible refine bel_alloc ?_ _))); done)); rintro e w4 ⟨rfl, hb4⟩; obtain ⟨g0, g1, g2, g3, g4, g5, g6, g7, g8⟩ := TB.out w4 (by repeat (first | (with_reducible exact Below.refl _ _) | (with_reducible assumption) | (with_reducible exact bel_box _) | (with_reducible refine bel_step ?_ (by with_reducible assumption)) | (with_reducible refine Below.drew ?_) | (with_reducible refine below_drewN ?_ _) | (with_reducible refine bel_alloc ?_ _)))))
          all_goals
            go_wp2
            refine bodyPost_ret (v := .tuple #[.int .i64 (-1), .int .i64 (t1)]) (by simp [results, Tryz.results45, go_sem]) rfl ?_
            exact ⟨(by first | rfl | (simp [orE, H1.out]; done) | (simp [orE, H2.out]; done)), (by repeat (first | (with_reducible exact Below.refl _ _) | (with_reducible assumption) | (with_reducible exact bel_box _) | (with_reducible refine bel_step ?_ (by with_reducible assumption)) | (with_reducible refine Below.drew ?_) | (with_reducible refine below_drewN ?_ _) | (with_reducible refine bel_alloc ?_ _)))⟩
  · have z0 : (hv == 0) = false := by simp [hz]
    rw [if_neg hz]
    clear hz
    go_enter Tryz.func45, Tryz.ntmps45
    go_wp2_with (go_at_call 78; (with_reducible refine (KH.out _ ?_).mono ?_); (focus ((repeat (first | (with_reducible exact Below.refl _ _) | (with_reducible assumption) | (with_reducible exact bel_box _) | (with_reducible refine bel_step ?_ (by with_reducible assumption)) | (with_reducible refine Below.drew ?_) | (with_reducible refine below_drewN ?_ _) | (with_reducible refine bel_alloc ?_ _))); done)); rintro e w1 ⟨rfl, hb1⟩; obtain ⟨g0, g1, g2, g3, g4, g5, g6, g7, g8⟩ := TB.out w1 (by repeat (first | (with_reducible exact Below.refl _ _) | (with_reducible assumption) | (with_reducible exact bel_box _) | (with_reducible refine bel_step ?_ (by with_reducible assumption)) | (with_reducible refine Below.drew ?_) | (with_reducible refine below_drewN ?_ _) | (with_reducible refine bel_alloc ?_ _))))
    refine bodyPost_ret (v := .tuple #[.int .i64 (-1), .int .i64 (hv)]) (by simp [results, Tryz.results45, go_sem]) rfl ?_
    exact ⟨(by first | rfl | (simp [orE, H1.out]; done) | (simp [orE, H2.out]; done)), (by repeat (first | (with_reducible exact Below.refl _ _) | (with_reducible assumption) | (with_reducible exact bel_box _) | (with_reducible refine bel_step ?_ (by with_reducible assumption)) | (with_reducible refine Below.drew ?_) | (with_reducible refine below_drewN ?_ _) | (with_reducible refine bel_alloc ?_ _)))⟩
end Go.Proofs.YthlapepjebidgaaGreatDoor
/- Check, Expr of the program. -/
namespace Go.Proofs.YthlapepjebidgaaGreatDoor
set_option linter.unusedVariables false
set_option linter.unusedSimpArgs false
open Go.RowKit
theorem set2w_cells {W : World} {b : Nat} {u v : Value} (h0 : W.cell? ⟨b, 0, none⟩ = some u) (h1 : W.cell? ⟨b, 1, none⟩ = some v) (x0 x1 : Value) :
    ((W.setCell ⟨b, 0, none⟩ x0).setCell ⟨b, 1, none⟩ x1).cell? ⟨b, 0, none⟩ = some x0 ∧ ((W.setCell ⟨b, 0, none⟩ x0).setCell ⟨b, 1, none⟩ x1).cell? ⟨b, 1, none⟩ = some x1 := by
  refine ⟨?_, ?_⟩
  · rw [World.cell?_setCell_other _ _ _ _ (by simp)]; exact World.cell?_setCell_same _ _ _ h0
  · exact World.cell?_setCell_same _ _ _ (by rw [World.cell?_setCell_other _ _ _ _ (by simp)]; exact h1)
theorem bel_set2w {w W : World} (h : Below w.heap.size w W) {b : Nat} (hb : w.heap.size ≤ b) (x y : Value) : Below w.heap.size w ((W.setCell ⟨b, 0, none⟩ x).setCell ⟨b, 1, none⟩ y) :=
  (h.setCell (p := ⟨b, 0, none⟩) hb _).setCell (p := ⟨b, 1, none⟩) hb _
/-- the first node with an error -/
noncomputable def ndsE (es : List va.En) : List Nt → Option (Nat × (Int × Int))
  | [] => none
  | n :: l => if (nodE es n).2 = 0 then (ndsE es l).map (fun q => (q.1 + 1, q.2)) else some (0, nodE es n)
theorem ndsE_steps (es : List va.En) (l : List Nt) : ∃ F : Nat → Option (Nat × (Int × Int)), F 0 = ndsE es l ∧ F l.length = none ∧ Hid (∀ (k : Nat) (y : Nt), l[k]? = some y → F k = if (nodE es y).2 = 0 then F (k + 1) else some (k, nodE es y)) := by
  refine ⟨fun k => (ndsE es (l.drop k)).map fun p => (p.1 + k, p.2), by simp, by simp [ndsE], Lib.hid fun k y hy => ?_⟩
  obtain ⟨hk, rfl⟩ := List.getElem?_eq_some_iff.1 hy
  show (ndsE es (l.drop k)).map _ = _
  rw [List.drop_eq_getElem_cons hk, ndsE]
  split
  · rw [Option.map_map]
    congr 1
    funext p
    simp [Nat.add_assoc, Nat.add_comm 1 k]
  · simp
/-- the place and the error -/
def wheR : Option (Nat × (Int × Int)) → (Int × Int) × Int
  | some q => (((q.1 : Int), q.2.1), q.2.2)
  | none => ((0, 0), 0)
noncomputable def chkE (p : Pt) : (Int × Int) × Int :=
  if 24 < p.es.l.length ∨ 96 < p.ns.l.length then ((-1, -1), 3) else if errs (p.es.l.map enumE) = 0 then wheR (ndsE p.es.l p.ns.l) else ((-1, -1), errs (p.es.l.map enumE))
set_option maxHeartbeats 4000000 in
set_option maxRecDepth 20000 in
theorem sh_check (p : Pt) (w : World) (hs : Std w) (hp : RsP w w.heap.size p) :
    Calls Tryz.prog 15 #[pV p] w (Bel (.tuple #[.agg #[.int .i64 (chkE p).1.1, .int .i64 (chkE p).1.2], .int .i64 (chkE p).2]) w) := by
  obtain ⟨hE, hN⟩ := hp
  have HN : Hid (RsP w w.heap.size p) := Lib.hid ⟨hE, hN⟩
  have h9 := hN.1.len
  unfold maxLen at h9
  have KF : Hid (∀ W, Below w.heap.size w W → Calls Tryz.prog 43 #[.slice p.es.A p.es.l.length p.es.c, .func (.func 44) #[] #[]] W (Bel (.int .i64 (errs (p.es.l.map enumE))) W)) := Lib.hid fun W h =>
    first_Enum_checkEnum p.es.A p.es.c p.es.l enumE W ((hE.blw h h.size).1) (by have := hE.2.1.1; unfold maxLen at this; omega) (Lib.hid fun y hy W' h' => by
      have hE' := hE.blw (h.trans (h'.mono h.size)) (Nat.le_trans h.size h'.size)
      obtain ⟨i, hi⟩ := List.getElem?_of_mem hy
      exact sh_enum y W' (hs.to (h.trans (h'.mono h.size))) (hE'.1.2 i y hi) (hE.2.2 y hy).1 (hE.2.2 y hy).2.1 (hE.2.2 y hy).2.2)
  have KN : Hid (∀ y ∈ p.ns.l, ∀ W, Below w.heap.size w W → Calls Tryz.prog 45 #[ckV p.es, nV y] W (Bel (.tuple #[.int .i64 (nodE p.es.l y).1, .int .i64 (nodE p.es.l y).2]) W)) := Lib.hid fun y hy W h =>
    sh_node p.es y W (hs.to h) (hE.blw h h.size) ((hN.2 y hy).blw h h.size)
  have TB : Hid (∀ W, Below (((w.alloc (.cells #[.slice p.es.A p.es.l.length p.es.c, .slice p.ns.A p.ns.l.length p.ns.c] 36)).alloc (.cells #[.int .i64 0, .int .i64 0] 38)).alloc (.cells #[.int .i64 (-1), .int .i64 (-1)] 38)).heap.size (((w.alloc (.cells #[.slice p.es.A p.es.l.length p.es.c, .slice p.ns.A p.ns.l.length p.ns.c] 36)).alloc (.cells #[.int .i64 0, .int .i64 0] 38)).alloc (.cells #[.int .i64 (-1), .int .i64 (-1)] 38)) W → (W.cell? ⟨w.heap.size, 0, none⟩ = some (.slice p.es.A p.es.l.length p.es.c) ∧ W.cell? ⟨w.heap.size, 1, none⟩ = some (.slice p.ns.A p.ns.l.length p.ns.c) ∧ W.cell? ⟨w.heap.size + 1, 0, none⟩ = some (.int .i64 0) ∧ W.cell? ⟨w.heap.size + 1, 1, none⟩ = some (.int .i64 0) ∧ W.frozen? ⟨w.heap.size + 1, 0, none⟩ = false ∧ W.frozen? ⟨w.heap.size + 1, 1, none⟩ = false ∧ W.cell? ⟨w.heap.size + 1 + 1, 0, none⟩ = some (.int .i64 (-1)) ∧ W.cell? ⟨w.heap.size + 1 + 1, 1, none⟩ = some (.int .i64 (-1)) ∧ w.heap.size + 1 + 1 < W.heap.size)) := Lib.hid fun W h => by
    have hz : (((w.alloc (.cells #[.slice p.es.A p.es.l.length p.es.c, .slice p.ns.A p.ns.l.length p.ns.c] 36)).alloc (.cells #[.int .i64 0, .int .i64 0] 38)).alloc (.cells #[.int .i64 (-1), .int .i64 (-1)] 38)).heap.size = w.heap.size + 1 + 1 + 1 := by simp only [World.size_alloc]
    have hsz := h.size
    rw [hz] at hsz
    have hc : ∀ q : Addr, q.block < w.heap.size + 1 + 1 + 1 → W.cell? q = _ := fun q hq => h.cell (by rw [hz]; exact hq)
    have hf : ∀ q : Addr, q.block < w.heap.size + 1 + 1 + 1 → W.frozen? q = _ := fun q hq => h.frozen (by rw [hz]; exact hq)
    refine ⟨?_, ?_, ?_, ?_, ?_, ?_, ?_, ?_, by omega⟩
    all_goals (first | (rw [hc _ (by first | omega | (simp; done) | (simp; omega))]; simp [go_sem]; done) | (rw [hf _ (by first | omega | (simp; done) | (simp; omega))]; simp [go_sem]; done))
  unfold chkE
  obtain ⟨F, hF0, hFl, HF⟩ := ndsE_steps p.es.l p.ns.l
  rw [← hF0]
  have HR : Hid (∀ q, wheR (some q) = (((q.1 : Int), q.2.1), q.2.2)) := Lib.hid fun q => rfl
  have HRn : Hid (wheR none = ((0, 0), 0)) := Lib.hid rfl
  generalize errs (p.es.l.map enumE) = u at *
  clear hs hE hN
  by_cases z0 : 24 < p.es.l.length
  · have q0 : (24 : Int) < (p.es.l.length : Int) := by omega
    rw [if_pos (.inl z0)]
    clear z0
    go_enter Tryz.func15, Tryz.ntmps15
    go_wp2
    refine bodyPost_ret (v := .tuple #[.agg #[.int .i64 (-1), .int .i64 (-1)], .int .i64 (3)]) (by simp [results, Tryz.results15, go_sem]) rfl ?_
    exact ⟨rfl, (by repeat (first | (with_reducible exact Below.refl _ _) | (with_reducible assumption) | (with_reducible exact bel_box _) | (with_reducible refine bel_step ?_ (by with_reducible assumption)) | (with_reducible refine Below.drew ?_) | (with_reducible refine below_drewN ?_ _) | (with_reducible refine bel_alloc ?_ _)))⟩
  have q0 : (p.es.l.length : Int) ≤ (24 : Int) := by omega
  by_cases z1 : 96 < p.ns.l.length
  · have q1 : (96 : Int) < (p.ns.l.length : Int) := by omega
    rw [if_pos (.inr z1)]
    clear z0 z1
    go_enter Tryz.func15, Tryz.ntmps15
    go_wp2
    refine bodyPost_ret (v := .tuple #[.agg #[.int .i64 (-1), .int .i64 (-1)], .int .i64 (3)]) (by simp [results, Tryz.results15, go_sem]) rfl ?_
    exact ⟨rfl, (by repeat (first | (with_reducible exact Below.refl _ _) | (with_reducible assumption) | (with_reducible exact bel_box _) | (with_reducible refine bel_step ?_ (by with_reducible assumption)) | (with_reducible refine Below.drew ?_) | (with_reducible refine below_drewN ?_ _) | (with_reducible refine bel_alloc ?_ _)))⟩
  have q1 : (p.ns.l.length : Int) ≤ (96 : Int) := by omega
  rw [if_neg (by omega)]
  clear z0 z1
  by_cases hz : u = 0
  · subst hz
    rw [if_pos rfl]
    obtain ⟨V, hV⟩ : ∃ V, wheR (F 0) = V := ⟨_, rfl⟩
    have HV := Lib.hid hV
    have HL := Lib.hid hFl
    rw [hV]
    clear hV hF0 hFl
    go_enter Tryz.func15, Tryz.ntmps15
    go_wp2_with (go_at_call 43; (with_reducible refine (KF.out _ ?_).mono ?_); (focus ((repeat (first | (with_reducible exact Below.refl _ _) | (with_reducible assumption) | (with_reducible exact bel_box _) | (with_reducible refine bel_step ?_ (by with_reducible assumption)) | (with_reducible refine Below.drew ?_) | (with_reducible refine below_drewN ?_ _) | (with_reducible refine bel_alloc ?_ _))); done)); rintro e w1 ⟨rfl, hb1⟩; obtain ⟨g0, g1, g2, g3, g4, g5, g6, g7, g8⟩ := TB.out w1 (by repeat (first | (with_reducible exact Below.refl _ _) | (with_reducible assumption) | (with_reducible exact bel_box _) | (with_reducible refine bel_step ?_ (by with_reducible assumption)) | (with_reducible refine Below.drew ?_) | (with_reducible refine below_drewN ?_ _) | (with_reducible refine bel_alloc ?_ _))); have b0 := fun o => cell_al o g0; have b1 := fun o => cell_al o g1)
    have TC : Hid (∀ W, Below (w1.alloc (.cells #[.slice p.es.A p.es.l.length p.es.c] 75)).heap.size (w1.alloc (.cells #[.slice p.es.A p.es.l.length p.es.c] 75)) W → W.cell? ⟨w1.heap.size, 0, none⟩ = some (.slice p.es.A p.es.l.length p.es.c) ∧ (W.cell? ⟨w.heap.size, 0, none⟩ = some (.slice p.es.A p.es.l.length p.es.c) ∧ W.cell? ⟨w.heap.size, 1, none⟩ = some (.slice p.ns.A p.ns.l.length p.ns.c) ∧ W.cell? ⟨w.heap.size + 1, 0, none⟩ = some (.int .i64 0) ∧ W.cell? ⟨w.heap.size + 1, 1, none⟩ = some (.int .i64 0) ∧ W.frozen? ⟨w.heap.size + 1, 0, none⟩ = false ∧ W.frozen? ⟨w.heap.size + 1, 1, none⟩ = false ∧ W.cell? ⟨w.heap.size + 1 + 1, 0, none⟩ = some (.int .i64 (-1)) ∧ W.cell? ⟨w.heap.size + 1 + 1, 1, none⟩ = some (.int .i64 (-1)) ∧ w.heap.size + 1 + 1 < W.heap.size)) := Lib.hid fun W h =>
      ⟨(B1K p.es h).1, TB.out W (hb1.trans (((bel_box _).trans (h.mono (by rw [World.size_alloc]; omega))).mono hb1.size))⟩
    go_loopw [36] (fun i wr => ∃ k : Nat, k ≤ p.ns.l.length ∧ i = .int .i64 (k : Int) ∧ Hid (wheR (F k) = V) ∧ Below (w1.alloc (.cells #[.slice p.es.A p.es.l.length p.es.c] 75)).heap.size (w1.alloc (.cells #[.slice p.es.A p.es.l.length p.es.c] 75)) wr) (fun i _ => p.ns.l.length - (intOf i).toNat)
    case atStart => exact ⟨0, by omega, rfl, HV, (by repeat (first | (with_reducible exact Below.refl _ _) | (with_reducible assumption) | (with_reducible exact bel_box _) | (with_reducible refine bel_step ?_ (by with_reducible assumption)) | (with_reducible refine Below.drew ?_) | (with_reducible refine below_drewN ?_ _) | (with_reducible refine bel_alloc ?_ _)))⟩
    case round =>
      obtain ⟨k, hk, rfl, hK, hbl⟩ := hrel
      have hBW : Below w.heap.size w wr := (by repeat (first | (with_reducible exact Below.refl _ _) | (with_reducible assumption) | (with_reducible exact bel_box _) | (with_reducible refine bel_step ?_ (by with_reducible assumption)) | (with_reducible refine Below.drew ?_) | (with_reducible refine below_drewN ?_ _) | (with_reducible refine bel_alloc ?_ _)))
      obtain ⟨c9, g0, g1, g2, g3, g4, g5, g6, g7, g8⟩ := TC.out wr hbl
      have a0 := fun o => cell_al o c9
      by_cases hlt : k < p.ns.l.length
      · obtain ⟨ad, y, hA, had, hy, hm, ⟨c0, c1, c2, c3, c4, c5, c6, c7⟩⟩ := ((HN.out.blw hBW hBW.size).2.1).at_ hlt
        have TP := Lib.hid (fun W h => (TB.out W h).2.2)
        rw [hA]
        clear hA
        have hst := HF.out k y hy
        have KY := Lib.hid (KN.out y hm)
        clear hy hm HF
        generalize nodE p.es.l y = v at *
        obtain ⟨v1, v2⟩ := v
        simp only at KY hst
        by_cases hv : v2 = 0
        · subst hv
          rw [if_pos rfl] at hst
          have hn' : Hid (wheR (F (k + 1)) = V) := Lib.hid (by rw [← hst]; exact hK.out)
          clear hst hK
          go_wp2_with (go_at_call 45; (with_reducible refine (KY.out _ ?_).mono ?_); (focus ((repeat (first | (with_reducible exact Below.refl _ _) | (with_reducible assumption) | (with_reducible exact bel_box _) | (with_reducible refine bel_step ?_ (by with_reducible assumption)) | (with_reducible refine Below.drew ?_) | (with_reducible refine below_drewN ?_ _) | (with_reducible refine bel_alloc ?_ _))); done)); rintro e w2 ⟨rfl, hb2⟩)
          exact ⟨⟨k + 1, by omega, by congr 1, hn', (by repeat (first | (with_reducible exact Below.refl _ _) | (with_reducible assumption) | (with_reducible exact bel_box _) | (with_reducible refine bel_step ?_ (by with_reducible assumption)) | (with_reducible refine Below.drew ?_) | (with_reducible refine below_drewN ?_ _) | (with_reducible refine bel_alloc ?_ _)))⟩, by simp [intOf]; omega⟩
        · rw [if_neg hv] at hst
          have hv2 : V = (((k : Int), v1), v2) := by rw [← hK.out, hst, HR.out]
          have e0 : (v2 == 0) = false := by simp [hv]
          subst hv2
          clear hst hK hv HV
          go_wp2_with (go_at_call 45; (with_reducible refine (KY.out _ ?_).mono ?_); (focus ((repeat (first | (with_reducible exact Below.refl _ _) | (with_reducible assumption) | (with_reducible exact bel_box _) | (with_reducible refine bel_step ?_ (by with_reducible assumption)) | (with_reducible refine Below.drew ?_) | (with_reducible refine below_drewN ?_ _) | (with_reducible refine bel_alloc ?_ _))); done)); rintro e w2 ⟨rfl, hb2⟩; obtain ⟨c9, g0, g1, g2, g3, g4, g5, g6, g7, g8⟩ := TC.out w2 (by repeat (first | (with_reducible exact Below.refl _ _) | (with_reducible assumption) | (with_reducible exact bel_box _) | (with_reducible refine bel_step ?_ (by with_reducible assumption)) | (with_reducible refine Below.drew ?_) | (with_reducible refine below_drewN ?_ _) | (with_reducible refine bel_alloc ?_ _))))
          obtain ⟨k0, k1⟩ := set2w_cells g2 g3 (.int .i64 (k)) (.int .i64 (v1))
          refine bodyPost_ret (v := .tuple #[.agg #[.int .i64 (k), .int .i64 (v1)], .int .i64 (v2)]) (by simp [results, Tryz.results15, go_sem, k0, k1]) rfl ?_
          exact ⟨rfl, bel_set2w (by repeat (first | (with_reducible exact Below.refl _ _) | (with_reducible assumption) | (with_reducible exact bel_box _) | (with_reducible refine bel_step ?_ (by with_reducible assumption)) | (with_reducible refine Below.drew ?_) | (with_reducible refine below_drewN ?_ _) | (with_reducible refine bel_alloc ?_ _))) (by omega) _ _⟩
      · obtain rfl : k = p.ns.l.length := by omega
        have hv2 : V = ((0, 0), 0) := by rw [← hK.out, HL.out, HRn.out]
        subst hv2
        clear hK HF HV HL
        go_wp2
        obtain ⟨k0, k1⟩ := set2w_cells g2 g3 (.int .i64 (0)) (.int .i64 (0))
        refine bodyPost_ret (v := .tuple #[.agg #[.int .i64 (0), .int .i64 (0)], .int .i64 (0)]) (by simp [results, Tryz.results15, go_sem, k0, k1]) rfl ?_
        exact ⟨rfl, bel_set2w (by repeat (first | (with_reducible exact Below.refl _ _) | (with_reducible assumption) | (with_reducible exact bel_box _) | (with_reducible refine bel_step ?_ (by with_reducible assumption)) | (with_reducible refine Below.drew ?_) | (with_reducible refine below_drewN ?_ _) | (with_reducible refine bel_alloc ?_ _))) (by omega) _ _⟩
  · have z0 : (u == 0) = false := by simp [hz]
    rw [if_neg hz]
    clear hz
    go_enter Tryz.func15, Tryz.ntmps15
    go_wp2_with (go_at_call 43; (with_reducible refine (KF.out _ ?_).mono ?_); (focus ((repeat (first | (with_reducible exact Below.refl _ _) | (with_reducible assumption) | (with_reducible exact bel_box _) | (with_reducible refine bel_step ?_ (by with_reducible assumption)) | (with_reducible refine Below.drew ?_) | (with_reducible refine below_drewN ?_ _) | (with_reducible refine bel_alloc ?_ _))); done)); rintro e w1 ⟨rfl, hb1⟩; obtain ⟨g0, g1, g2, g3, g4, g5, g6, g7, g8⟩ := TB.out w1 (by repeat (first | (with_reducible exact Below.refl _ _) | (with_reducible assumption) | (with_reducible exact bel_box _) | (with_reducible refine bel_step ?_ (by with_reducible assumption)) | (with_reducible refine Below.drew ?_) | (with_reducible refine below_drewN ?_ _) | (with_reducible refine bel_alloc ?_ _))); have b0 := fun o => cell_al o g0; have b1 := fun o => cell_al o g1)
    obtain ⟨k0, k1⟩ := set2w_cells g2 g3 (.int .i64 (-1)) (.int .i64 (-1))
    refine bodyPost_ret (v := .tuple #[.agg #[.int .i64 (-1), .int .i64 (-1)], .int .i64 (u)]) (by simp [results, Tryz.results15, go_sem, k0, k1]) rfl ?_
    exact ⟨rfl, bel_set2w (by repeat (first | (with_reducible exact Below.refl _ _) | (with_reducible assumption) | (with_reducible exact bel_box _) | (with_reducible refine bel_step ?_ (by with_reducible assumption)) | (with_reducible refine Below.drew ?_) | (with_reducible refine below_drewN ?_ _) | (with_reducible refine bel_alloc ?_ _))) (by omega) _ _⟩
set_option maxHeartbeats 400000 in
theorem sh_Expr (E : Rw va.En) (x : Xt) (w : World) (hs : Std w) (hE : RsE w w.heap.size E) (hX : RsX w w.heap.size x) :
    Calls Tryz.prog 22 #[.slice E.A E.l.length E.c, xV x] w (Bel (.int .i64 (expE E.l x)) w) := by
  have KE := Lib.hid (fun W (h : Below w.heap.size w W) => sh_expr E x W (hs.to h) (hE.blw h h.size) (hX.blw h h.size))
  simp only [xV, ckV] at KE ⊢
  go_enter Tryz.func22, Tryz.ntmps22
  go_wp2_with (go_at_call 55; (with_reducible refine (KE.out _ ?_).mono ?_); (focus ((repeat (first | (with_reducible exact Below.refl _ _) | (with_reducible assumption) | (with_reducible exact bel_box _) | (with_reducible refine bel_step ?_ (by with_reducible assumption)) | (with_reducible refine Below.drew ?_) | (with_reducible refine below_drewN ?_ _) | (with_reducible refine bel_alloc ?_ _))); done)); rintro e w1 ⟨rfl, hb1⟩)
  go_ret
  exact ⟨rfl, (by repeat (first | (with_reducible exact Below.refl _ _) | (with_reducible assumption) | (with_reducible exact bel_box _) | (with_reducible refine bel_step ?_ (by with_reducible assumption)) | (with_reducible refine Below.drew ?_) | (with_reducible refine below_drewN ?_ _) | (with_reducible refine bel_alloc ?_ _)))⟩
end Go.Proofs.YthlapepjebidgaaGreatDoor
