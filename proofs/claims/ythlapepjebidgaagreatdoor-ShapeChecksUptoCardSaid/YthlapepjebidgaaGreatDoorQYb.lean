/- Texts of one chain, in one file. -/
import Derived.Test.YthlapepjebidgaaGreatDoorQYa
/- The reference's enumerations, heads and tails of nodes. -/
namespace Go.Proofs.YthlapepjebidgaaGreatDoor
set_option linter.unusedVariables false
set_option linter.unusedSimpArgs false
open Go.RowKit Go.Sort
set_option maxHeartbeats 3000000 in
set_option maxRecDepth 20000 in
theorem rv_enum (e : va.En) (w : World) (hR : Rd w w.heap.size e.A (va.ss e.tags)) (h1 : e.name.size ≤ 140737488351232) (h2 : e.tags.length ≤ maxLen ∧ e.tags.length ≤ e.c) (h3 : ∀ b ∈ e.tags, b.size ≤ 140737488351232) :
    Calls Tryz.prog 46 #[.agg #[.string e.name, .slice e.A e.tags.length e.c]] w (Bel (.int .i64 (enumE e)) w) := by
  have K := Lib.hid (fun W (h : Below w.heap.size w W) => rv_ident e.name W h1)
  have KO : Hid (∀ y ∈ e.tags, ∀ W, Below w.heap.size w W → Calls Tryz.prog 83 #[.string y] W (Bel (.bool (idP y)) W)) := Lib.hid fun y hy W h => rv_ident y W (h3 y hy)
  have h9 := h2.1
  unfold maxLen at h9
  obtain ⟨r, hr⟩ : ∃ r : Rw ByteArray, r = ⟨e.A, e.c, e.tags⟩ := ⟨_, rfl⟩
  have HR : Hid (RdR w w.heap.size 1 BC r) := Lib.hid (by rw [hr]; exact rdr_of_ss hR h2.1 h2.2)
  unfold enumE
  have e1 : e.A = r.A := by rw [hr]
  have e2 : e.c = r.c := by rw [hr]
  have e3 : e.tags = r.l := by rw [hr]
  obtain ⟨nm, hnm⟩ : ∃ nm, e.name = nm := ⟨_, rfl⟩
  have B1 : Hid (∀ W, Below (w.alloc (.cells #[.string nm, .slice r.A r.l.length r.c] 72)).heap.size (w.alloc (.cells #[.string nm, .slice r.A r.l.length r.c] 72)) W → W.cell? ⟨w.heap.size, 0, none⟩ = some (.string nm) ∧ W.cell? ⟨w.heap.size, 1, none⟩ = some (.slice r.A r.l.length r.c) ∧ w.heap.size < W.heap.size) := Lib.hid fun W h => by
    rw [← e1, ← e2, ← e3, ← hnm] at h ⊢
    exact B1E e h
  rw [e1, e2, e3, hnm]
  rw [e3] at KO h9
  rw [hnm] at K
  clear hR h3 h2 h1 e1 e2 e3 hnm hr
  generalize idP nm = b at *
  cases b
  · rw [if_neg (by simp)]
    go_enter Tryz.func46, Tryz.ntmps46
    go_wp2_with (go_at_call 83; (with_reducible refine (K.out _ ?_).mono ?_); (focus ((repeat (first | (with_reducible exact Below.refl _ _) | (with_reducible assumption) | (with_reducible exact bel_box _) | (with_reducible refine bel_step ?_ (by with_reducible assumption)) | (with_reducible refine Below.drew ?_) | (with_reducible refine below_drewN ?_ _) | (with_reducible refine bel_alloc ?_ _))); done)); rintro e w1 ⟨rfl, hb1⟩; obtain ⟨g0, g1, g2⟩ := B1.out w1 (by repeat (first | (with_reducible exact Below.refl _ _) | (with_reducible assumption) | (with_reducible exact bel_box _) | (with_reducible refine bel_step ?_ (by with_reducible assumption)) | (with_reducible refine Below.drew ?_) | (with_reducible refine below_drewN ?_ _) | (with_reducible refine bel_alloc ?_ _))))
    go_ret
    exact ⟨rfl, (by repeat (first | (with_reducible exact Below.refl _ _) | (with_reducible assumption) | (with_reducible exact bel_box _) | (with_reducible refine bel_step ?_ (by with_reducible assumption)) | (with_reducible refine Below.drew ?_) | (with_reducible refine below_drewN ?_ _) | (with_reducible refine bel_alloc ?_ _)))⟩
  rw [if_pos rfl]
  by_cases z0 : r.l.length = 0
  · have q0 : ((r.l.length : Int) == 0) = true := by simp [z0]
    rw [if_pos z0]
    clear z0
    go_enter Tryz.func46, Tryz.ntmps46
    go_wp2_with (go_at_call 83; (with_reducible refine (K.out _ ?_).mono ?_); (focus ((repeat (first | (with_reducible exact Below.refl _ _) | (with_reducible assumption) | (with_reducible exact bel_box _) | (with_reducible refine bel_step ?_ (by with_reducible assumption)) | (with_reducible refine Below.drew ?_) | (with_reducible refine below_drewN ?_ _) | (with_reducible refine bel_alloc ?_ _))); done)); rintro e w1 ⟨rfl, hb1⟩; obtain ⟨g0, g1, g2⟩ := B1.out w1 (by repeat (first | (with_reducible exact Below.refl _ _) | (with_reducible assumption) | (with_reducible exact bel_box _) | (with_reducible refine bel_step ?_ (by with_reducible assumption)) | (with_reducible refine Below.drew ?_) | (with_reducible refine below_drewN ?_ _) | (with_reducible refine bel_alloc ?_ _))))
    go_ret
    exact ⟨rfl, (by repeat (first | (with_reducible exact Below.refl _ _) | (with_reducible assumption) | (with_reducible exact bel_box _) | (with_reducible refine bel_step ?_ (by with_reducible assumption)) | (with_reducible refine Below.drew ?_) | (with_reducible refine below_drewN ?_ _) | (with_reducible refine bel_alloc ?_ _)))⟩
  have q0 : ((r.l.length : Int) == 0) = false := by simp [z0]
  rw [if_neg z0]
  by_cases z1 : 16 < r.l.length
  · have q1 : (16 : Int) < (r.l.length : Int) := by omega
    rw [if_pos z1]
    clear z0 z1
    go_enter Tryz.func46, Tryz.ntmps46
    go_wp2_with (go_at_call 83; (with_reducible refine (K.out _ ?_).mono ?_); (focus ((repeat (first | (with_reducible exact Below.refl _ _) | (with_reducible assumption) | (with_reducible exact bel_box _) | (with_reducible refine bel_step ?_ (by with_reducible assumption)) | (with_reducible refine Below.drew ?_) | (with_reducible refine below_drewN ?_ _) | (with_reducible refine bel_alloc ?_ _))); done)); rintro e w1 ⟨rfl, hb1⟩; obtain ⟨g0, g1, g2⟩ := B1.out w1 (by repeat (first | (with_reducible exact Below.refl _ _) | (with_reducible assumption) | (with_reducible exact bel_box _) | (with_reducible refine bel_step ?_ (by with_reducible assumption)) | (with_reducible refine Below.drew ?_) | (with_reducible refine below_drewN ?_ _) | (with_reducible refine bel_alloc ?_ _))))
    go_ret
    exact ⟨rfl, (by repeat (first | (with_reducible exact Below.refl _ _) | (with_reducible assumption) | (with_reducible exact bel_box _) | (with_reducible refine bel_step ?_ (by with_reducible assumption)) | (with_reducible refine Below.drew ?_) | (with_reducible refine below_drewN ?_ _) | (with_reducible refine bel_alloc ?_ _)))⟩
  have q1 : (r.l.length : Int) ≤ (16 : Int) := by omega
  rw [if_neg z1]
  clear z0 z1
  obtain ⟨F, hF0, hFl, HF⟩ := errs_steps r.l (idE)
  rw [← hF0]
  obtain ⟨V, hV⟩ : ∃ V, F 0 = V := ⟨_, rfl⟩
  have HV := Lib.hid hV
  have HL := Lib.hid hFl
  rw [hV]
  clear hF0 hFl hV
  go_enter Tryz.func46, Tryz.ntmps46
  go_wp2_with (go_at_call 83; (with_reducible refine (K.out _ ?_).mono ?_); (focus ((repeat (first | (with_reducible exact Below.refl _ _) | (with_reducible assumption) | (with_reducible exact bel_box _) | (with_reducible refine bel_step ?_ (by with_reducible assumption)) | (with_reducible refine Below.drew ?_) | (with_reducible refine below_drewN ?_ _) | (with_reducible refine bel_alloc ?_ _))); done)); rintro e w1 ⟨rfl, hb1⟩; obtain ⟨g0, g1, g2⟩ := B1.out w1 (by repeat (first | (with_reducible exact Below.refl _ _) | (with_reducible assumption) | (with_reducible exact bel_box _) | (with_reducible refine bel_step ?_ (by with_reducible assumption)) | (with_reducible refine Below.drew ?_) | (with_reducible refine below_drewN ?_ _) | (with_reducible refine bel_alloc ?_ _))))
  go_loopw [3] (fun i wr => ∃ k : Nat, k ≤ r.l.length ∧ i = .int .i64 (k : Int) ∧ Hid (F k = V) ∧ Below (w.alloc (.cells #[.string nm, .slice r.A r.l.length r.c] 72)).heap.size (w.alloc (.cells #[.string nm, .slice r.A r.l.length r.c] 72)) wr) (fun i _ => r.l.length - (intOf i).toNat)
  case atStart => exact ⟨0, by omega, rfl, HV, (by repeat (first | (with_reducible exact Below.refl _ _) | (with_reducible assumption) | (with_reducible exact bel_box _) | (with_reducible refine bel_step ?_ (by with_reducible assumption)) | (with_reducible refine Below.drew ?_) | (with_reducible refine below_drewN ?_ _) | (with_reducible refine bel_alloc ?_ _)))⟩
  case round =>
    obtain ⟨k, hk, rfl, hK, hbl⟩ := hrel
    obtain ⟨wr, rfl⟩ : ∃ wo : World, wo = wr := ⟨_, rfl⟩
    have hBW : Below w.heap.size w wr := (by repeat (first | (with_reducible exact Below.refl _ _) | (with_reducible assumption) | (with_reducible exact bel_box _) | (with_reducible refine bel_step ?_ (by with_reducible assumption)) | (with_reducible refine Below.drew ?_) | (with_reducible refine below_drewN ?_ _) | (with_reducible refine bel_alloc ?_ _)))
    obtain ⟨g0, g1, g2⟩ := B1.out wr hbl
    by_cases hlt : k < r.l.length
    · obtain ⟨ad, y, hA, had, hy, hm, c0⟩ := (HR.out.blw oneB_B hBW hBW.size).at_ hlt
      unfold BC at c0
      rw [Nat.mul_one] at c0
      rw [hA] at g1
      clear hA
      have hst := HF.out k y hy
      have KY := Lib.hid (KO.out y hm)
      clear hy hm HF
      unfold idE at hst
      generalize idP y = b at *
      cases b
      · rw [if_neg (by simp), orEn (by decide)] at hst
        obtain rfl : 6 = V := hst.symm.trans hK.out
        clear hst hK HV
        go_wp2_with (go_at_call 83; (with_reducible refine (KY.out _ ?_).mono ?_); (focus ((repeat (first | (with_reducible exact Below.refl _ _) | (with_reducible assumption) | (with_reducible exact bel_box _) | (with_reducible refine bel_step ?_ (by with_reducible assumption)) | (with_reducible refine Below.drew ?_) | (with_reducible refine below_drewN ?_ _) | (with_reducible refine bel_alloc ?_ _))); done)); rintro e w5 ⟨rfl, hb5⟩)
        go_ret
        exact ⟨rfl, (by repeat (first | (with_reducible exact Below.refl _ _) | (with_reducible assumption) | (with_reducible exact bel_box _) | (with_reducible refine bel_step ?_ (by with_reducible assumption)) | (with_reducible refine Below.drew ?_) | (with_reducible refine below_drewN ?_ _) | (with_reducible refine bel_alloc ?_ _)))⟩
      · rw [if_pos rfl, orE0] at hst
        have hn : Hid (F (k + 1) = V) := Lib.hid (hst.symm.trans hK.out)
        clear hst hK
        go_wp2_with (go_at_call 83; (with_reducible refine (KY.out _ ?_).mono ?_); (focus ((repeat (first | (with_reducible exact Below.refl _ _) | (with_reducible assumption) | (with_reducible exact bel_box _) | (with_reducible refine bel_step ?_ (by with_reducible assumption)) | (with_reducible refine Below.drew ?_) | (with_reducible refine below_drewN ?_ _) | (with_reducible refine bel_alloc ?_ _))); done)); rintro e w5 ⟨rfl, hb5⟩)
        exact ⟨⟨k + 1, by omega, by congr 1, hn, (by repeat (first | (with_reducible exact Below.refl _ _) | (with_reducible assumption) | (with_reducible exact bel_box _) | (with_reducible refine bel_step ?_ (by with_reducible assumption)) | (with_reducible refine Below.drew ?_) | (with_reducible refine below_drewN ?_ _) | (with_reducible refine bel_alloc ?_ _)))⟩, by simp [intOf]; omega⟩
    · obtain rfl : k = r.l.length := by omega
      have hE0 : V = 0 := hK.out.symm.trans HL.out
      subst hE0
      clear hK HF HV HL hlt
      go_wp2
      go_ret
      exact ⟨rfl, (by repeat (first | (with_reducible exact Below.refl _ _) | (with_reducible assumption) | (with_reducible exact bel_box _) | (with_reducible refine bel_step ?_ (by with_reducible assumption)) | (with_reducible refine Below.drew ?_) | (with_reducible refine below_drewN ?_ _) | (with_reducible refine bel_alloc ?_ _)))⟩
set_option maxHeartbeats 3000000 in
set_option maxRecDepth 20000 in
theorem rv_head (E : Rw va.En) (n : Nt) (w : World) (hV : ∀ t, va.valB E.l t = decide (0 < va.sizeT E.l t)) (hE : RsE w w.heap.size E) (hn : RsN w w.heap.size n) :
    Calls Tryz.prog 47 #[.slice E.A E.l.length E.c, nV n] w (Bel (.int .i64 (hedE E.l n)) w) := by
  obtain ⟨h1, h2, h3, h4, h5, h6, h7, h8⟩ := hn
  have KI := Lib.hid (fun W (h : Below w.heap.size w W) => rv_ident n.nm W h1)
  have K1 := Lib.hid (fun W (h : Below w.heap.size w W) => rv_decls_t E n.ins W hV (hE.blw h h.size) (h2.blw h h.size))
  have K2 := Lib.hid (fun W (h : Below w.heap.size w W) => rv_decls_t E n.outs W hV (hE.blw h h.size) (h3.blw h h.size))
  have K3 := Lib.hid (fun W (h : Below w.heap.size w W) => rv_decls_f E n.locs W hV (hE.blw h h.size) (h4.blw h h.size))
  unfold hedE
  generalize errs (n.ins.l.map (portE E.l)) = u at *
  generalize errs (n.outs.l.map (portE E.l)) = v at *
  generalize errs (n.locs.l.map (locE E.l)) = x at *
  generalize idP n.nm = b at *
  clear hV hE h1 h2 h3 h4 h5 h6 h7 h8
  cases b
  · rw [if_neg (by simp)]
    go_enter Tryz.func47, Tryz.ntmps47
    go_wp2_with (first | (go_at_call 83; (with_reducible refine (KI.out _ ?_).mono ?_); (focus ((repeat (first | (with_reducible exact Below.refl _ _) | (with_reducible assumption) | (with_reducible exact bel_box _) | (with_reducible refine bel_step ?_ (by with_reducible assumption)) | (with_reducible refine Below.drew ?_) | (with_reducible refine below_drewN ?_ _) | (with_reducible refine bel_alloc ?_ _))); done)); rintro e w1 ⟨rfl, hb1⟩; obtain ⟨g0, g1, g2, g3, g4, g5, g6, g7, g8⟩ := B1N (w := w) (W := w1) n (by repeat (first | (with_reducible exact Below.refl _ _) | (with_reducible assumption) | (with_reducible exact bel_box _) | (with_reducible refine bel_step ?_ (by with_reducible assumption)) | (with_reducible refine Below.drew ?_) | (with_reducible refine below_drewN ?_ _) | (with_reducible refine bel_alloc ?_ _)))) | (go_at_call 84; (with_reducible refine (K1.out _ ?_).mono ?_); (focus ((repeat (first | (with_reducible exact Below.refl _ _) | (with_reducible assumption) | (with_reducible exact bel_box _) | (with_reducible refine bel_step ?_ (by with_reducible assumption)) | (with_reducible refine Below.drew ?_) | (with_reducible refine below_drewN ?_ _) | (with_reducible refine bel_alloc ?_ _))); done)); rintro e w2 ⟨rfl, hb2⟩; obtain ⟨g0, g1, g2, g3, g4, g5, g6, g7, g8⟩ := B1N (w := w) (W := w2) n (by repeat (first | (with_reducible exact Below.refl _ _) | (with_reducible assumption) | (with_reducible exact bel_box _) | (with_reducible refine bel_step ?_ (by with_reducible assumption)) | (with_reducible refine Below.drew ?_) | (with_reducible refine below_drewN ?_ _) | (with_reducible refine bel_alloc ?_ _)))) | (go_at_call 84; (with_reducible refine (K2.out _ ?_).mono ?_); (focus ((repeat (first | (with_reducible exact Below.refl _ _) | (with_reducible assumption) | (with_reducible exact bel_box _) | (with_reducible refine bel_step ?_ (by with_reducible assumption)) | (with_reducible refine Below.drew ?_) | (with_reducible refine below_drewN ?_ _) | (with_reducible refine bel_alloc ?_ _))); done)); rintro e w3 ⟨rfl, hb3⟩; obtain ⟨g0, g1, g2, g3, g4, g5, g6, g7, g8⟩ := B1N (w := w) (W := w3) n (by repeat (first | (with_reducible exact Below.refl _ _) | (with_reducible assumption) | (with_reducible exact bel_box _) | (with_reducible refine bel_step ?_ (by with_reducible assumption)) | (with_reducible refine Below.drew ?_) | (with_reducible refine below_drewN ?_ _) | (with_reducible refine bel_alloc ?_ _)))) | (go_at_call 84; (with_reducible refine (K3.out _ ?_).mono ?_); (focus ((repeat (first | (with_reducible exact Below.refl _ _) | (with_reducible assumption) | (with_reducible exact bel_box _) | (with_reducible refine bel_step ?_ (by with_reducible assumption)) | (with_reducible refine Below.drew ?_) | (with_reducible refine below_drewN ?_ _) | (with_reducible refine bel_alloc ?_ _))); done)); rintro e w4 ⟨rfl, hb4⟩; obtain ⟨g0, g1, g2, g3, g4, g5, g6, g7, g8⟩ := B1N (w := w) (W := w4) n (by repeat (first | (with_reducible exact Below.refl _ _) | (with_reducible assumption) | (with_reducible exact bel_box _) | (with_reducible refine bel_step ?_ (by with_reducible assumption)) | (with_reducible refine Below.drew ?_) | (with_reducible refine below_drewN ?_ _) | (with_reducible refine bel_alloc ?_ _)))))
    go_ret
    exact ⟨rfl, (by repeat (first | (with_reducible exact Below.refl _ _) | (with_reducible assumption) | (with_reducible exact bel_box _) | (with_reducible refine bel_step ?_ (by with_reducible assumption)) | (with_reducible refine Below.drew ?_) | (with_reducible refine below_drewN ?_ _) | (with_reducible refine bel_alloc ?_ _)))⟩
  rw [if_pos rfl]
  by_cases z0 : 64 < n.ins.l.length
  · have q0 : (64 : Int) < (n.ins.l.length : Int) := by omega
    rw [if_pos (by omega)]
    clear z0
    go_enter Tryz.func47, Tryz.ntmps47
    go_wp2_with (first | (go_at_call 83; (with_reducible refine (KI.out _ ?_).mono ?_); (focus ((repeat (first | (with_reducible exact Below.refl _ _) | (with_reducible assumption) | (with_reducible exact bel_box _) | (with_reducible refine bel_step ?_ (by with_reducible assumption)) | (with_reducible refine Below.drew ?_) | (with_reducible refine below_drewN ?_ _) | (with_reducible refine bel_alloc ?_ _))); done)); rintro e w1 ⟨rfl, hb1⟩; obtain ⟨g0, g1, g2, g3, g4, g5, g6, g7, g8⟩ := B1N (w := w) (W := w1) n (by repeat (first | (with_reducible exact Below.refl _ _) | (with_reducible assumption) | (with_reducible exact bel_box _) | (with_reducible refine bel_step ?_ (by with_reducible assumption)) | (with_reducible refine Below.drew ?_) | (with_reducible refine below_drewN ?_ _) | (with_reducible refine bel_alloc ?_ _)))) | (go_at_call 84; (with_reducible refine (K1.out _ ?_).mono ?_); (focus ((repeat (first | (with_reducible exact Below.refl _ _) | (with_reducible assumption) | (with_reducible exact bel_box _) | (with_reducible refine bel_step ?_ (by with_reducible assumption)) | (with_reducible refine Below.drew ?_) | (with_reducible refine below_drewN ?_ _) | (with_reducible refine bel_alloc ?_ _))); done)); rintro e w2 ⟨rfl, hb2⟩; obtain ⟨g0, g1, g2, g3, g4, g5, g6, g7, g8⟩ := B1N (w := w) (W := w2) n (by repeat (first | (with_reducible exact Below.refl _ _) | (with_reducible assumption) | (with_reducible exact bel_box _) | (with_reducible refine bel_step ?_ (by with_reducible assumption)) | (with_reducible refine Below.drew ?_) | (with_reducible refine below_drewN ?_ _) | (with_reducible refine bel_alloc ?_ _)))) | (go_at_call 84; (with_reducible refine (K2.out _ ?_).mono ?_); (focus ((repeat (first | (with_reducible exact Below.refl _ _) | (with_reducible assumption) | (with_reducible exact bel_box _) | (with_reducible refine bel_step ?_ (by with_reducible assumption)) | (with_reducible refine Below.drew ?_) | (with_reducible refine below_drewN ?_ _) | (with_reducible refine bel_alloc ?_ _))); done)); rintro e w3 ⟨rfl, hb3⟩; obtain ⟨g0, g1, g2, g3, g4, g5, g6, g7, g8⟩ := B1N (w := w) (W := w3) n (by repeat (first | (with_reducible exact Below.refl _ _) | (with_reducible assumption) | (with_reducible exact bel_box _) | (with_reducible refine bel_step ?_ (by with_reducible assumption)) | (with_reducible refine Below.drew ?_) | (with_reducible refine below_drewN ?_ _) | (with_reducible refine bel_alloc ?_ _)))) | (go_at_call 84; (with_reducible refine (K3.out _ ?_).mono ?_); (focus ((repeat (first | (with_reducible exact Below.refl _ _) | (with_reducible assumption) | (with_reducible exact bel_box _) | (with_reducible refine bel_step ?_ (by with_reducible assumption)) | (with_reducible refine Below.drew ?_) | (with_reducible refine below_drewN ?_ _) | (with_reducible refine bel_alloc ?_ _))); done)); rintro e w4 ⟨rfl, hb4⟩; obtain ⟨g0, g1, g2, g3, g4, g5, g6, g7, g8⟩ := B1N (w := w) (W := w4) n (by repeat (first | (with_reducible exact Below.refl _ _) | (with_reducible assumption) | (with_reducible exact bel_box _) | (with_reducible refine bel_step ?_ (by with_reducible assumption)) | (with_reducible refine Below.drew ?_) | (with_reducible refine below_drewN ?_ _) | (with_reducible refine bel_alloc ?_ _)))))
    go_ret
    exact ⟨rfl, (by repeat (first | (with_reducible exact Below.refl _ _) | (with_reducible assumption) | (with_reducible exact bel_box _) | (with_reducible refine bel_step ?_ (by with_reducible assumption)) | (with_reducible refine Below.drew ?_) | (with_reducible refine below_drewN ?_ _) | (with_reducible refine bel_alloc ?_ _)))⟩
  have q0 : (n.ins.l.length : Int) ≤ (64 : Int) := by omega
  by_cases z1 : 64 < n.outs.l.length
  · have q1 : (64 : Int) < (n.outs.l.length : Int) := by omega
    rw [if_pos (by omega)]
    clear z0 z1
    go_enter Tryz.func47, Tryz.ntmps47
    go_wp2_with (first | (go_at_call 83; (with_reducible refine (KI.out _ ?_).mono ?_); (focus ((repeat (first | (with_reducible exact Below.refl _ _) | (with_reducible assumption) | (with_reducible exact bel_box _) | (with_reducible refine bel_step ?_ (by with_reducible assumption)) | (with_reducible refine Below.drew ?_) | (with_reducible refine below_drewN ?_ _) | (with_reducible refine bel_alloc ?_ _))); done)); rintro e w1 ⟨rfl, hb1⟩; obtain ⟨g0, g1, g2, g3, g4, g5, g6, g7, g8⟩ := B1N (w := w) (W := w1) n (by repeat (first | (with_reducible exact Below.refl _ _) | (with_reducible assumption) | (with_reducible exact bel_box _) | (with_reducible refine bel_step ?_ (by with_reducible assumption)) | (with_reducible refine Below.drew ?_) | (with_reducible refine below_drewN ?_ _) | (with_reducible refine bel_alloc ?_ _)))) | (go_at_call 84; (with_reducible refine (K1.out _ ?_).mono ?_); (focus ((repeat (first | (with_reducible exact Below.refl _ _) | (with_reducible assumption) | (with_reducible exact bel_box _) | (with_reducible refine bel_step ?_ (by with_reducible assumption)) | (with_reducible refine Below.drew ?_) | (with_reducible refine below_drewN ?_ _) | (with_reducible refine bel_alloc ?_ _))); done)); rintro e w2 ⟨rfl, hb2⟩; obtain ⟨g0, g1, g2, g3, g4, g5, g6, g7, g8⟩ := B1N (w := w) (W := w2) n (by repeat (first | (with_reducible exact Below.refl _ _) | (with_reducible assumption) | (with_reducible exact bel_box _) | (with_reducible refine bel_step ?_ (by with_reducible assumption)) | (with_reducible refine Below.drew ?_) | (with_reducible refine below_drewN ?_ _) | (with_reducible refine bel_alloc ?_ _)))) | (go_at_call 84; (with_reducible refine (K2.out _ ?_).mono ?_); (focus ((repeat (first | (with_reducible exact Below.refl _ _) | (with_reducible assumption) | (with_reducible exact bel_box _) | (with_reducible refine bel_step ?_ (by with_reducible assumption)) | (with_reducible refine Below.drew ?_) | (with_reducible refine below_drewN ?_ _) | (with_reducible refine bel_alloc ?_ _))); done)); rintro e w3 ⟨rfl, hb3⟩; obtain ⟨g0, g1, g2, g3, g4, g5, g6, g7, g8⟩ := B1N (w := w) (W := w3) n (by repeat (first | (with_reducible exact Below.refl _ _) | (with_reducible assumption) | (with_reducible exact bel_box _) | (with_reducible refine bel_step ?_ (by with_reducible assumption)) | (with_reducible refine Below.drew ?_) | (with_reducible refine below_drewN ?_ _) | (with_reducible refine bel_alloc ?_ _)))) | (go_at_call 84; (with_reducible refine (K3.out _ ?_).mono ?_); (focus ((repeat (first | (with_reducible exact Below.refl _ _) | (with_reducible assumption) | (with_reducible exact bel_box _) | (with_reducible refine bel_step ?_ (by with_reducible assumption)) | (with_reducible refine Below.drew ?_) | (with_reducible refine below_drewN ?_ _) | (with_reducible refine bel_alloc ?_ _))); done)); rintro e w4 ⟨rfl, hb4⟩; obtain ⟨g0, g1, g2, g3, g4, g5, g6, g7, g8⟩ := B1N (w := w) (W := w4) n (by repeat (first | (with_reducible exact Below.refl _ _) | (with_reducible assumption) | (with_reducible exact bel_box _) | (with_reducible refine bel_step ?_ (by with_reducible assumption)) | (with_reducible refine Below.drew ?_) | (with_reducible refine below_drewN ?_ _) | (with_reducible refine bel_alloc ?_ _)))))
    go_ret
    exact ⟨rfl, (by repeat (first | (with_reducible exact Below.refl _ _) | (with_reducible assumption) | (with_reducible exact bel_box _) | (with_reducible refine bel_step ?_ (by with_reducible assumption)) | (with_reducible refine Below.drew ?_) | (with_reducible refine below_drewN ?_ _) | (with_reducible refine bel_alloc ?_ _)))⟩
  have q1 : (n.outs.l.length : Int) ≤ (64 : Int) := by omega
  by_cases z2 : 256 < n.locs.l.length
  · have q2 : (256 : Int) < (n.locs.l.length : Int) := by omega
    rw [if_pos (by omega)]
    clear z0 z1 z2
    go_enter Tryz.func47, Tryz.ntmps47
    go_wp2_with (first | (go_at_call 83; (with_reducible refine (KI.out _ ?_).mono ?_); (focus ((repeat (first | (with_reducible exact Below.refl _ _) | (with_reducible assumption) | (with_reducible exact bel_box _) | (with_reducible refine bel_step ?_ (by with_reducible assumption)) | (with_reducible refine Below.drew ?_) | (with_reducible refine below_drewN ?_ _) | (with_reducible refine bel_alloc ?_ _))); done)); rintro e w1 ⟨rfl, hb1⟩; obtain ⟨g0, g1, g2, g3, g4, g5, g6, g7, g8⟩ := B1N (w := w) (W := w1) n (by repeat (first | (with_reducible exact Below.refl _ _) | (with_reducible assumption) | (with_reducible exact bel_box _) | (with_reducible refine bel_step ?_ (by with_reducible assumption)) | (with_reducible refine Below.drew ?_) | (with_reducible refine below_drewN ?_ _) | (with_reducible refine bel_alloc ?_ _)))) | (go_at_call 84; (with_reducible refine (K1.out _ ?_).mono ?_); (focus ((repeat (first | (with_reducible exact Below.refl _ _) | (with_reducible assumption) | (with_reducible exact bel_box _) | (with_reducible refine bel_step ?_ (by with_reducible assumption)) | (with_reducible refine Below.drew ?_) | (with_reducible refine below_drewN ?_ _) | (with_reducible refine bel_alloc ?_ _))); done)); rintro e w2 ⟨rfl, hb2⟩; obtain ⟨g0, g1, g2, g3, g4, g5, g6, g7, g8⟩ := B1N (w := w) (W := w2) n (by repeat (first | (with_reducible exact Below.refl _ _) | (with_reducible assumption) | (with_reducible exact bel_box _) | (with_reducible refine bel_step ?_ (by with_reducible assumption)) | (with_reducible refine Below.drew ?_) | (with_reducible refine below_drewN ?_ _) | (with_reducible refine bel_alloc ?_ _)))) | (go_at_call 84; (with_reducible refine (K2.out _ ?_).mono ?_); (focus ((repeat (first | (with_reducible exact Below.refl _ _) | (with_reducible assumption) | (with_reducible exact bel_box _) | (with_reducible refine bel_step ?_ (by with_reducible assumption)) | (with_reducible refine Below.drew ?_) | (with_reducible refine below_drewN ?_ _) | (with_reducible refine bel_alloc ?_ _))); done)); rintro e w3 ⟨rfl, hb3⟩; obtain ⟨g0, g1, g2, g3, g4, g5, g6, g7, g8⟩ := B1N (w := w) (W := w3) n (by repeat (first | (with_reducible exact Below.refl _ _) | (with_reducible assumption) | (with_reducible exact bel_box _) | (with_reducible refine bel_step ?_ (by with_reducible assumption)) | (with_reducible refine Below.drew ?_) | (with_reducible refine below_drewN ?_ _) | (with_reducible refine bel_alloc ?_ _)))) | (go_at_call 84; (with_reducible refine (K3.out _ ?_).mono ?_); (focus ((repeat (first | (with_reducible exact Below.refl _ _) | (with_reducible assumption) | (with_reducible exact bel_box _) | (with_reducible refine bel_step ?_ (by with_reducible assumption)) | (with_reducible refine Below.drew ?_) | (with_reducible refine below_drewN ?_ _) | (with_reducible refine bel_alloc ?_ _))); done)); rintro e w4 ⟨rfl, hb4⟩; obtain ⟨g0, g1, g2, g3, g4, g5, g6, g7, g8⟩ := B1N (w := w) (W := w4) n (by repeat (first | (with_reducible exact Below.refl _ _) | (with_reducible assumption) | (with_reducible exact bel_box _) | (with_reducible refine bel_step ?_ (by with_reducible assumption)) | (with_reducible refine Below.drew ?_) | (with_reducible refine below_drewN ?_ _) | (with_reducible refine bel_alloc ?_ _)))))
    go_ret
    exact ⟨rfl, (by repeat (first | (with_reducible exact Below.refl _ _) | (with_reducible assumption) | (with_reducible exact bel_box _) | (with_reducible refine bel_step ?_ (by with_reducible assumption)) | (with_reducible refine Below.drew ?_) | (with_reducible refine below_drewN ?_ _) | (with_reducible refine bel_alloc ?_ _)))⟩
  have q2 : (n.locs.l.length : Int) ≤ (256 : Int) := by omega
  by_cases z3 : 256 < n.qs.l.length
  · have q3 : (256 : Int) < (n.qs.l.length : Int) := by omega
    rw [if_pos (by omega)]
    clear z0 z1 z2 z3
    go_enter Tryz.func47, Tryz.ntmps47
    go_wp2_with (first | (go_at_call 83; (with_reducible refine (KI.out _ ?_).mono ?_); (focus ((repeat (first | (with_reducible exact Below.refl _ _) | (with_reducible assumption) | (with_reducible exact bel_box _) | (with_reducible refine bel_step ?_ (by with_reducible assumption)) | (with_reducible refine Below.drew ?_) | (with_reducible refine below_drewN ?_ _) | (with_reducible refine bel_alloc ?_ _))); done)); rintro e w1 ⟨rfl, hb1⟩; obtain ⟨g0, g1, g2, g3, g4, g5, g6, g7, g8⟩ := B1N (w := w) (W := w1) n (by repeat (first | (with_reducible exact Below.refl _ _) | (with_reducible assumption) | (with_reducible exact bel_box _) | (with_reducible refine bel_step ?_ (by with_reducible assumption)) | (with_reducible refine Below.drew ?_) | (with_reducible refine below_drewN ?_ _) | (with_reducible refine bel_alloc ?_ _)))) | (go_at_call 84; (with_reducible refine (K1.out _ ?_).mono ?_); (focus ((repeat (first | (with_reducible exact Below.refl _ _) | (with_reducible assumption) | (with_reducible exact bel_box _) | (with_reducible refine bel_step ?_ (by with_reducible assumption)) | (with_reducible refine Below.drew ?_) | (with_reducible refine below_drewN ?_ _) | (with_reducible refine bel_alloc ?_ _))); done)); rintro e w2 ⟨rfl, hb2⟩; obtain ⟨g0, g1, g2, g3, g4, g5, g6, g7, g8⟩ := B1N (w := w) (W := w2) n (by repeat (first | (with_reducible exact Below.refl _ _) | (with_reducible assumption) | (with_reducible exact bel_box _) | (with_reducible refine bel_step ?_ (by with_reducible assumption)) | (with_reducible refine Below.drew ?_) | (with_reducible refine below_drewN ?_ _) | (with_reducible refine bel_alloc ?_ _)))) | (go_at_call 84; (with_reducible refine (K2.out _ ?_).mono ?_); (focus ((repeat (first | (with_reducible exact Below.refl _ _) | (with_reducible assumption) | (with_reducible exact bel_box _) | (with_reducible refine bel_step ?_ (by with_reducible assumption)) | (with_reducible refine Below.drew ?_) | (with_reducible refine below_drewN ?_ _) | (with_reducible refine bel_alloc ?_ _))); done)); rintro e w3 ⟨rfl, hb3⟩; obtain ⟨g0, g1, g2, g3, g4, g5, g6, g7, g8⟩ := B1N (w := w) (W := w3) n (by repeat (first | (with_reducible exact Below.refl _ _) | (with_reducible assumption) | (with_reducible exact bel_box _) | (with_reducible refine bel_step ?_ (by with_reducible assumption)) | (with_reducible refine Below.drew ?_) | (with_reducible refine below_drewN ?_ _) | (with_reducible refine bel_alloc ?_ _)))) | (go_at_call 84; (with_reducible refine (K3.out _ ?_).mono ?_); (focus ((repeat (first | (with_reducible exact Below.refl _ _) | (with_reducible assumption) | (with_reducible exact bel_box _) | (with_reducible refine bel_step ?_ (by with_reducible assumption)) | (with_reducible refine Below.drew ?_) | (with_reducible refine below_drewN ?_ _) | (with_reducible refine bel_alloc ?_ _))); done)); rintro e w4 ⟨rfl, hb4⟩; obtain ⟨g0, g1, g2, g3, g4, g5, g6, g7, g8⟩ := B1N (w := w) (W := w4) n (by repeat (first | (with_reducible exact Below.refl _ _) | (with_reducible assumption) | (with_reducible exact bel_box _) | (with_reducible refine bel_step ?_ (by with_reducible assumption)) | (with_reducible refine Below.drew ?_) | (with_reducible refine below_drewN ?_ _) | (with_reducible refine bel_alloc ?_ _)))))
    go_ret
    exact ⟨rfl, (by repeat (first | (with_reducible exact Below.refl _ _) | (with_reducible assumption) | (with_reducible exact bel_box _) | (with_reducible refine bel_step ?_ (by with_reducible assumption)) | (with_reducible refine Below.drew ?_) | (with_reducible refine below_drewN ?_ _) | (with_reducible refine bel_alloc ?_ _)))⟩
  have q3 : (n.qs.l.length : Int) ≤ (256 : Int) := by omega
  by_cases z4 : 8 < n.au.l.length
  · have q4 : (8 : Int) < (n.au.l.length : Int) := by omega
    rw [if_pos (by omega)]
    clear z0 z1 z2 z3 z4
    go_enter Tryz.func47, Tryz.ntmps47
    go_wp2_with (first | (go_at_call 83; (with_reducible refine (KI.out _ ?_).mono ?_); (focus ((repeat (first | (with_reducible exact Below.refl _ _) | (with_reducible assumption) | (with_reducible exact bel_box _) | (with_reducible refine bel_step ?_ (by with_reducible assumption)) | (with_reducible refine Below.drew ?_) | (with_reducible refine below_drewN ?_ _) | (with_reducible refine bel_alloc ?_ _))); done)); rintro e w1 ⟨rfl, hb1⟩; obtain ⟨g0, g1, g2, g3, g4, g5, g6, g7, g8⟩ := B1N (w := w) (W := w1) n (by repeat (first | (with_reducible exact Below.refl _ _) | (with_reducible assumption) | (with_reducible exact bel_box _) | (with_reducible refine bel_step ?_ (by with_reducible assumption)) | (with_reducible refine Below.drew ?_) | (with_reducible refine below_drewN ?_ _) | (with_reducible refine bel_alloc ?_ _)))) | (go_at_call 84; (with_reducible refine (K1.out _ ?_).mono ?_); (focus ((repeat (first | (with_reducible exact Below.refl _ _) | (with_reducible assumption) | (with_reducible exact bel_box _) | (with_reducible refine bel_step ?_ (by with_reducible assumption)) | (with_reducible refine Below.drew ?_) | (with_reducible refine below_drewN ?_ _) | (with_reducible refine bel_alloc ?_ _))); done)); rintro e w2 ⟨rfl, hb2⟩; obtain ⟨g0, g1, g2, g3, g4, g5, g6, g7, g8⟩ := B1N (w := w) (W := w2) n (by repeat (first | (with_reducible exact Below.refl _ _) | (with_reducible assumption) | (with_reducible exact bel_box _) | (with_reducible refine bel_step ?_ (by with_reducible assumption)) | (with_reducible refine Below.drew ?_) | (with_reducible refine below_drewN ?_ _) | (with_reducible refine bel_alloc ?_ _)))) | (go_at_call 84; (with_reducible refine (K2.out _ ?_).mono ?_); (focus ((repeat (first | (with_reducible exact Below.refl _ _) | (with_reducible assumption) | (with_reducible exact bel_box _) | (with_reducible refine bel_step ?_ (by with_reducible assumption)) | (with_reducible refine Below.drew ?_) | (with_reducible refine below_drewN ?_ _) | (with_reducible refine bel_alloc ?_ _))); done)); rintro e w3 ⟨rfl, hb3⟩; obtain ⟨g0, g1, g2, g3, g4, g5, g6, g7, g8⟩ := B1N (w := w) (W := w3) n (by repeat (first | (with_reducible exact Below.refl _ _) | (with_reducible assumption) | (with_reducible exact bel_box _) | (with_reducible refine bel_step ?_ (by with_reducible assumption)) | (with_reducible refine Below.drew ?_) | (with_reducible refine below_drewN ?_ _) | (with_reducible refine bel_alloc ?_ _)))) | (go_at_call 84; (with_reducible refine (K3.out _ ?_).mono ?_); (focus ((repeat (first | (with_reducible exact Below.refl _ _) | (with_reducible assumption) | (with_reducible exact bel_box _) | (with_reducible refine bel_step ?_ (by with_reducible assumption)) | (with_reducible refine Below.drew ?_) | (with_reducible refine below_drewN ?_ _) | (with_reducible refine bel_alloc ?_ _))); done)); rintro e w4 ⟨rfl, hb4⟩; obtain ⟨g0, g1, g2, g3, g4, g5, g6, g7, g8⟩ := B1N (w := w) (W := w4) n (by repeat (first | (with_reducible exact Below.refl _ _) | (with_reducible assumption) | (with_reducible exact bel_box _) | (with_reducible refine bel_step ?_ (by with_reducible assumption)) | (with_reducible refine Below.drew ?_) | (with_reducible refine below_drewN ?_ _) | (with_reducible refine bel_alloc ?_ _)))))
    go_ret
    exact ⟨rfl, (by repeat (first | (with_reducible exact Below.refl _ _) | (with_reducible assumption) | (with_reducible exact bel_box _) | (with_reducible refine bel_step ?_ (by with_reducible assumption)) | (with_reducible refine Below.drew ?_) | (with_reducible refine below_drewN ?_ _) | (with_reducible refine bel_alloc ?_ _)))⟩
  have q4 : (n.au.l.length : Int) ≤ (8 : Int) := by omega
  by_cases z5 : 8 < n.asm.l.length
  · have q5 : (8 : Int) < (n.asm.l.length : Int) := by omega
    rw [if_pos (by omega)]
    clear z0 z1 z2 z3 z4 z5
    go_enter Tryz.func47, Tryz.ntmps47
    go_wp2_with (first | (go_at_call 83; (with_reducible refine (KI.out _ ?_).mono ?_); (focus ((repeat (first | (with_reducible exact Below.refl _ _) | (with_reducible assumption) | (with_reducible exact bel_box _) | (with_reducible refine bel_step ?_ (by with_reducible assumption)) | (with_reducible refine Below.drew ?_) | (with_reducible refine below_drewN ?_ _) | (with_reducible refine bel_alloc ?_ _))); done)); rintro e w1 ⟨rfl, hb1⟩; obtain ⟨g0, g1, g2, g3, g4, g5, g6, g7, g8⟩ := B1N (w := w) (W := w1) n (by repeat (first | (with_reducible exact Below.refl _ _) | (with_reducible assumption) | (with_reducible exact bel_box _) | (with_reducible refine bel_step ?_ (by with_reducible assumption)) | (with_reducible refine Below.drew ?_) | (with_reducible refine below_drewN ?_ _) | (with_reducible refine bel_alloc ?_ _)))) | (go_at_call 84; (with_reducible refine (K1.out _ ?_).mono ?_); (focus ((repeat (first | (with_reducible exact Below.refl _ _) | (with_reducible assumption) | (with_reducible exact bel_box _) | (with_reducible refine bel_step ?_ (by with_reducible assumption)) | (with_reducible refine Below.drew ?_) | (with_reducible refine below_drewN ?_ _) | (with_reducible refine bel_alloc ?_ _))); done)); rintro e w2 ⟨rfl, hb2⟩; obtain ⟨g0, g1, g2, g3, g4, g5, g6, g7, g8⟩ := B1N (w := w) (W := w2) n (by repeat (first | (with_reducible exact Below.refl _ _) | (with_reducible assumption) | (with_reducible exact bel_box _) | (with_reducible refine bel_step ?_ (by with_reducible assumption)) | (with_reducible refine Below.drew ?_) | (with_reducible refine below_drewN ?_ _) | (with_reducible refine bel_alloc ?_ _)))) | (go_at_call 84; (with_reducible refine (K2.out _ ?_).mono ?_); (focus ((repeat (first | (with_reducible exact Below.refl _ _) | (with_reducible assumption) | (with_reducible exact bel_box _) | (with_reducible refine bel_step ?_ (by with_reducible assumption)) | (with_reducible refine Below.drew ?_) | (with_reducible refine below_drewN ?_ _) | (with_reducible refine bel_alloc ?_ _))); done)); rintro e w3 ⟨rfl, hb3⟩; obtain ⟨g0, g1, g2, g3, g4, g5, g6, g7, g8⟩ := B1N (w := w) (W := w3) n (by repeat (first | (with_reducible exact Below.refl _ _) | (with_reducible assumption) | (with_reducible exact bel_box _) | (with_reducible refine bel_step ?_ (by with_reducible assumption)) | (with_reducible refine Below.drew ?_) | (with_reducible refine below_drewN ?_ _) | (with_reducible refine bel_alloc ?_ _)))) | (go_at_call 84; (with_reducible refine (K3.out _ ?_).mono ?_); (focus ((repeat (first | (with_reducible exact Below.refl _ _) | (with_reducible assumption) | (with_reducible exact bel_box _) | (with_reducible refine bel_step ?_ (by with_reducible assumption)) | (with_reducible refine Below.drew ?_) | (with_reducible refine below_drewN ?_ _) | (with_reducible refine bel_alloc ?_ _))); done)); rintro e w4 ⟨rfl, hb4⟩; obtain ⟨g0, g1, g2, g3, g4, g5, g6, g7, g8⟩ := B1N (w := w) (W := w4) n (by repeat (first | (with_reducible exact Below.refl _ _) | (with_reducible assumption) | (with_reducible exact bel_box _) | (with_reducible refine bel_step ?_ (by with_reducible assumption)) | (with_reducible refine Below.drew ?_) | (with_reducible refine below_drewN ?_ _) | (with_reducible refine bel_alloc ?_ _)))))
    go_ret
    exact ⟨rfl, (by repeat (first | (with_reducible exact Below.refl _ _) | (with_reducible assumption) | (with_reducible exact bel_box _) | (with_reducible refine bel_step ?_ (by with_reducible assumption)) | (with_reducible refine Below.drew ?_) | (with_reducible refine below_drewN ?_ _) | (with_reducible refine bel_alloc ?_ _)))⟩
  have q5 : (n.asm.l.length : Int) ≤ (8 : Int) := by omega
  by_cases z6 : 8 < n.ens.l.length
  · have q6 : (8 : Int) < (n.ens.l.length : Int) := by omega
    rw [if_pos (by omega)]
    clear z0 z1 z2 z3 z4 z5 z6
    go_enter Tryz.func47, Tryz.ntmps47
    go_wp2_with (first | (go_at_call 83; (with_reducible refine (KI.out _ ?_).mono ?_); (focus ((repeat (first | (with_reducible exact Below.refl _ _) | (with_reducible assumption) | (with_reducible exact bel_box _) | (with_reducible refine bel_step ?_ (by with_reducible assumption)) | (with_reducible refine Below.drew ?_) | (with_reducible refine below_drewN ?_ _) | (with_reducible refine bel_alloc ?_ _))); done)); rintro e w1 ⟨rfl, hb1⟩; obtain ⟨g0, g1, g2, g3, g4, g5, g6, g7, g8⟩ := B1N (w := w) (W := w1) n (by repeat (first | (with_reducible exact Below.refl _ _) | (with_reducible assumption) | (with_reducible exact bel_box _) | (with_reducible refine bel_step ?_ (by with_reducible assumption)) | (with_reducible refine Below.drew ?_) | (with_reducible refine below_drewN ?_ _) | (with_reducible refine bel_alloc ?_ _)))) | (go_at_call 84; (with_reducible refine (K1.out _ ?_).mono ?_); (focus ((repeat (first | (with_reducible exact Below.refl _ _) | (with_reducible assumption) | (with_reducible exact bel_box _) | (with_reducible refine bel_step ?_ (by with_reducible assumption)) | (with_reducible refine Below.drew ?_) | (with_reducible refine below_drewN ?_ _) | (with_reducible refine bel_alloc ?_ _))); done)); rintro e w2 ⟨rfl, hb2⟩; obtain ⟨g0, g1, g2, g3, g4, g5, g6, g7, g8⟩ := B1N (w := w) (W := w2) n (by repeat (first | (with_reducible exact Below.refl _ _) | (with_reducible assumption) | (with_reducible exact bel_box _) | (with_reducible refine bel_step ?_ (by with_reducible assumption)) | (with_reducible refine Below.drew ?_) | (with_reducible refine below_drewN ?_ _) | (with_reducible refine bel_alloc ?_ _)))) | (go_at_call 84; (with_reducible refine (K2.out _ ?_).mono ?_); (focus ((repeat (first | (with_reducible exact Below.refl _ _) | (with_reducible assumption) | (with_reducible exact bel_box _) | (with_reducible refine bel_step ?_ (by with_reducible assumption)) | (with_reducible refine Below.drew ?_) | (with_reducible refine below_drewN ?_ _) | (with_reducible refine bel_alloc ?_ _))); done)); rintro e w3 ⟨rfl, hb3⟩; obtain ⟨g0, g1, g2, g3, g4, g5, g6, g7, g8⟩ := B1N (w := w) (W := w3) n (by repeat (first | (with_reducible exact Below.refl _ _) | (with_reducible assumption) | (with_reducible exact bel_box _) | (with_reducible refine bel_step ?_ (by with_reducible assumption)) | (with_reducible refine Below.drew ?_) | (with_reducible refine below_drewN ?_ _) | (with_reducible refine bel_alloc ?_ _)))) | (go_at_call 84; (with_reducible refine (K3.out _ ?_).mono ?_); (focus ((repeat (first | (with_reducible exact Below.refl _ _) | (with_reducible assumption) | (with_reducible exact bel_box _) | (with_reducible refine bel_step ?_ (by with_reducible assumption)) | (with_reducible refine Below.drew ?_) | (with_reducible refine below_drewN ?_ _) | (with_reducible refine bel_alloc ?_ _))); done)); rintro e w4 ⟨rfl, hb4⟩; obtain ⟨g0, g1, g2, g3, g4, g5, g6, g7, g8⟩ := B1N (w := w) (W := w4) n (by repeat (first | (with_reducible exact Below.refl _ _) | (with_reducible assumption) | (with_reducible exact bel_box _) | (with_reducible refine bel_step ?_ (by with_reducible assumption)) | (with_reducible refine Below.drew ?_) | (with_reducible refine below_drewN ?_ _) | (with_reducible refine bel_alloc ?_ _)))))
    go_ret
    exact ⟨rfl, (by repeat (first | (with_reducible exact Below.refl _ _) | (with_reducible assumption) | (with_reducible exact bel_box _) | (with_reducible refine bel_step ?_ (by with_reducible assumption)) | (with_reducible refine Below.drew ?_) | (with_reducible refine below_drewN ?_ _) | (with_reducible refine bel_alloc ?_ _)))⟩
  have q6 : (n.ens.l.length : Int) ≤ (8 : Int) := by omega
  rw [if_neg (by omega)]
  clear z0 z1 z2 z3 z4 z5 z6
  by_cases z : n.outs.l.length = 0
  · have q : ((n.outs.l.length : Int) == 0) = true := by simp [z]
    rw [if_pos z]
    clear z
    go_enter Tryz.func47, Tryz.ntmps47
    go_wp2_with (first | (go_at_call 83; (with_reducible refine (KI.out _ ?_).mono ?_); (focus ((repeat (first | (with_reducible exact Below.refl _ _) | (with_reducible assumption) | (with_reducible exact bel_box _) | (with_reducible refine bel_step ?_ (by with_reducible assumption)) | (with_reducible refine Below.drew ?_) | (with_reducible refine below_drewN ?_ _) | (with_reducible refine bel_alloc ?_ _))); done)); rintro e w1 ⟨rfl, hb1⟩; obtain ⟨g0, g1, g2, g3, g4, g5, g6, g7, g8⟩ := B1N (w := w) (W := w1) n (by repeat (first | (with_reducible exact Below.refl _ _) | (with_reducible assumption) | (with_reducible exact bel_box _) | (with_reducible refine bel_step ?_ (by with_reducible assumption)) | (with_reducible refine Below.drew ?_) | (with_reducible refine below_drewN ?_ _) | (with_reducible refine bel_alloc ?_ _)))) | (go_at_call 84; (with_reducible refine (K1.out _ ?_).mono ?_); (focus ((repeat (first | (with_reducible exact Below.refl _ _) | (with_reducible assumption) | (with_reducible exact bel_box _) | (with_reducible refine bel_step ?_ (by with_reducible assumption)) | (with_reducible refine Below.drew ?_) | (with_reducible refine below_drewN ?_ _) | (with_reducible refine bel_alloc ?_ _))); done)); rintro e w2 ⟨rfl, hb2⟩; obtain ⟨g0, g1, g2, g3, g4, g5, g6, g7, g8⟩ := B1N (w := w) (W := w2) n (by repeat (first | (with_reducible exact Below.refl _ _) | (with_reducible assumption) | (with_reducible exact bel_box _) | (with_reducible refine bel_step ?_ (by with_reducible assumption)) | (with_reducible refine Below.drew ?_) | (with_reducible refine below_drewN ?_ _) | (with_reducible refine bel_alloc ?_ _)))) | (go_at_call 84; (with_reducible refine (K2.out _ ?_).mono ?_); (focus ((repeat (first | (with_reducible exact Below.refl _ _) | (with_reducible assumption) | (with_reducible exact bel_box _) | (with_reducible refine bel_step ?_ (by with_reducible assumption)) | (with_reducible refine Below.drew ?_) | (with_reducible refine below_drewN ?_ _) | (with_reducible refine bel_alloc ?_ _))); done)); rintro e w3 ⟨rfl, hb3⟩; obtain ⟨g0, g1, g2, g3, g4, g5, g6, g7, g8⟩ := B1N (w := w) (W := w3) n (by repeat (first | (with_reducible exact Below.refl _ _) | (with_reducible assumption) | (with_reducible exact bel_box _) | (with_reducible refine bel_step ?_ (by with_reducible assumption)) | (with_reducible refine Below.drew ?_) | (with_reducible refine below_drewN ?_ _) | (with_reducible refine bel_alloc ?_ _)))) | (go_at_call 84; (with_reducible refine (K3.out _ ?_).mono ?_); (focus ((repeat (first | (with_reducible exact Below.refl _ _) | (with_reducible assumption) | (with_reducible exact bel_box _) | (with_reducible refine bel_step ?_ (by with_reducible assumption)) | (with_reducible refine Below.drew ?_) | (with_reducible refine below_drewN ?_ _) | (with_reducible refine bel_alloc ?_ _))); done)); rintro e w4 ⟨rfl, hb4⟩; obtain ⟨g0, g1, g2, g3, g4, g5, g6, g7, g8⟩ := B1N (w := w) (W := w4) n (by repeat (first | (with_reducible exact Below.refl _ _) | (with_reducible assumption) | (with_reducible exact bel_box _) | (with_reducible refine bel_step ?_ (by with_reducible assumption)) | (with_reducible refine Below.drew ?_) | (with_reducible refine below_drewN ?_ _) | (with_reducible refine bel_alloc ?_ _)))))
    go_ret
    exact ⟨rfl, (by repeat (first | (with_reducible exact Below.refl _ _) | (with_reducible assumption) | (with_reducible exact bel_box _) | (with_reducible refine bel_step ?_ (by with_reducible assumption)) | (with_reducible refine Below.drew ?_) | (with_reducible refine below_drewN ?_ _) | (with_reducible refine bel_alloc ?_ _)))⟩
  have q : ((n.outs.l.length : Int) == 0) = false := by simp [z]
  rw [if_neg z]
  clear z
  by_cases h_u : u = 0
  · subst h_u
    rw [orE0]
    by_cases h_v : v = 0
    · subst h_v
      rw [orE0]
      go_enter Tryz.func47, Tryz.ntmps47
      go_wp2_with (first | (go_at_call 83; (with_reducible refine (KI.out _ ?_).mono ?_); (focus ((repeat (first | (with_reducible exact Below.refl _ _) | (with_reducible assumption) | (with_reducible exact bel_box _) | (with_reducible refine bel_step ?_ (by with_reducible assumption)) | (with_reducible refine Below.drew ?_) | (with_reducible refine below_drewN ?_ _) | (with_reducible refine bel_alloc ?_ _))); done)); rintro e w1 ⟨rfl, hb1⟩; obtain ⟨g0, g1, g2, g3, g4, g5, g6, g7, g8⟩ := B1N (w := w) (W := w1) n (by repeat (first | (with_reducible exact Below.refl _ _) | (with_reducible assumption) | (with_reducible exact bel_box _) | (with_reducible refine bel_step ?_ (by with_reducible assumption)) | (with_reducible refine Below.drew ?_) | (with_reducible refine below_drewN ?_ _) | (with_reducible refine bel_alloc ?_ _)))) | (go_at_call 84; (with_reducible refine (K1.out _ ?_).mono ?_); (focus ((repeat (first | (with_reducible exact Below.refl _ _) | (with_reducible assumption) | (with_reducible exact bel_box _) | (with_reducible refine bel_step ?_ (by with_reducible assumption)) | (with_reducible refine Below.drew ?_) | (with_reducible refine below_drewN ?_ _) | (with_reducible refine bel_alloc ?_ _))); done)); rintro e w2 ⟨rfl, hb2⟩; obtain ⟨g0, g1, g2, g3, g4, g5, g6, g7, g8⟩ := B1N (w := w) (W := w2) n (by repeat (first | (with_reducible exact Below.refl _ _) | (with_reducible assumption) | (with_reducible exact bel_box _) | (with_reducible refine bel_step ?_ (by with_reducible assumption)) | (with_reducible refine Below.drew ?_) | (with_reducible refine below_drewN ?_ _) | (with_reducible refine bel_alloc ?_ _)))) | (go_at_call 84; (with_reducible refine (K2.out _ ?_).mono ?_); (focus ((repeat (first | (with_reducible exact Below.refl _ _) | (with_reducible assumption) | (with_reducible exact bel_box _) | (with_reducible refine bel_step ?_ (by with_reducible assumption)) | (with_reducible refine Below.drew ?_) | (with_reducible refine below_drewN ?_ _) | (with_reducible refine bel_alloc ?_ _))); done)); rintro e w3 ⟨rfl, hb3⟩; obtain ⟨g0, g1, g2, g3, g4, g5, g6, g7, g8⟩ := B1N (w := w) (W := w3) n (by repeat (first | (with_reducible exact Below.refl _ _) | (with_reducible assumption) | (with_reducible exact bel_box _) | (with_reducible refine bel_step ?_ (by with_reducible assumption)) | (with_reducible refine Below.drew ?_) | (with_reducible refine below_drewN ?_ _) | (with_reducible refine bel_alloc ?_ _)))) | (go_at_call 84; (with_reducible refine (K3.out _ ?_).mono ?_); (focus ((repeat (first | (with_reducible exact Below.refl _ _) | (with_reducible assumption) | (with_reducible exact bel_box _) | (with_reducible refine bel_step ?_ (by with_reducible assumption)) | (with_reducible refine Below.drew ?_) | (with_reducible refine below_drewN ?_ _) | (with_reducible refine bel_alloc ?_ _))); done)); rintro e w4 ⟨rfl, hb4⟩; obtain ⟨g0, g1, g2, g3, g4, g5, g6, g7, g8⟩ := B1N (w := w) (W := w4) n (by repeat (first | (with_reducible exact Below.refl _ _) | (with_reducible assumption) | (with_reducible exact bel_box _) | (with_reducible refine bel_step ?_ (by with_reducible assumption)) | (with_reducible refine Below.drew ?_) | (with_reducible refine below_drewN ?_ _) | (with_reducible refine bel_alloc ?_ _)))))
      go_ret
      exact ⟨rfl, (by repeat (first | (with_reducible exact Below.refl _ _) | (with_reducible assumption) | (with_reducible exact bel_box _) | (with_reducible refine bel_step ?_ (by with_reducible assumption)) | (with_reducible refine Below.drew ?_) | (with_reducible refine below_drewN ?_ _) | (with_reducible refine bel_alloc ?_ _)))⟩
    · have y_v : (v == 0) = false := by simp [h_v]
      rw [orEn h_v]
      clear h_v
      go_enter Tryz.func47, Tryz.ntmps47
      go_wp2_with (first | (go_at_call 83; (with_reducible refine (KI.out _ ?_).mono ?_); (focus ((repeat (first | (with_reducible exact Below.refl _ _) | (with_reducible assumption) | (with_reducible exact bel_box _) | (with_reducible refine bel_step ?_ (by with_reducible assumption)) | (with_reducible refine Below.drew ?_) | (with_reducible refine below_drewN ?_ _) | (with_reducible refine bel_alloc ?_ _))); done)); rintro e w1 ⟨rfl, hb1⟩; obtain ⟨g0, g1, g2, g3, g4, g5, g6, g7, g8⟩ := B1N (w := w) (W := w1) n (by repeat (first | (with_reducible exact Below.refl _ _) | (with_reducible assumption) | (with_reducible exact bel_box _) | (with_reducible refine bel_step ?_ (by with_reducible assumption)) | (with_reducible refine Below.drew ?_) | (with_reducible refine below_drewN ?_ _) | (with_reducible refine bel_alloc ?_ _)))) | (go_at_call 84; (with_reducible refine (K1.out _ ?_).mono ?_); (focus ((repeat (first | (with_reducible exact Below.refl _ _) | (with_reducible assumption) | (with_reducible exact bel_box _) | (with_reducible refine bel_step ?_ (by with_reducible assumption)) | (with_reducible refine Below.drew ?_) | (with_reducible refine below_drewN ?_ _) | (with_reducible refine bel_alloc ?_ _))); done)); rintro e w2 ⟨rfl, hb2⟩; obtain ⟨g0, g1, g2, g3, g4, g5, g6, g7, g8⟩ := B1N (w := w) (W := w2) n (by repeat (first | (with_reducible exact Below.refl _ _) | (with_reducible assumption) | (with_reducible exact bel_box _) | (with_reducible refine bel_step ?_ (by with_reducible assumption)) | (with_reducible refine Below.drew ?_) | (with_reducible refine below_drewN ?_ _) | (with_reducible refine bel_alloc ?_ _)))) | (go_at_call 84; (with_reducible refine (K2.out _ ?_).mono ?_); (focus ((repeat (first | (with_reducible exact Below.refl _ _) | (with_reducible assumption) | (with_reducible exact bel_box _) | (with_reducible refine bel_step ?_ (by with_reducible assumption)) | (with_reducible refine Below.drew ?_) | (with_reducible refine below_drewN ?_ _) | (with_reducible refine bel_alloc ?_ _))); done)); rintro e w3 ⟨rfl, hb3⟩; obtain ⟨g0, g1, g2, g3, g4, g5, g6, g7, g8⟩ := B1N (w := w) (W := w3) n (by repeat (first | (with_reducible exact Below.refl _ _) | (with_reducible assumption) | (with_reducible exact bel_box _) | (with_reducible refine bel_step ?_ (by with_reducible assumption)) | (with_reducible refine Below.drew ?_) | (with_reducible refine below_drewN ?_ _) | (with_reducible refine bel_alloc ?_ _)))) | (go_at_call 84; (with_reducible refine (K3.out _ ?_).mono ?_); (focus ((repeat (first | (with_reducible exact Below.refl _ _) | (with_reducible assumption) | (with_reducible exact bel_box _) | (with_reducible refine bel_step ?_ (by with_reducible assumption)) | (with_reducible refine Below.drew ?_) | (with_reducible refine below_drewN ?_ _) | (with_reducible refine bel_alloc ?_ _))); done)); rintro e w4 ⟨rfl, hb4⟩; obtain ⟨g0, g1, g2, g3, g4, g5, g6, g7, g8⟩ := B1N (w := w) (W := w4) n (by repeat (first | (with_reducible exact Below.refl _ _) | (with_reducible assumption) | (with_reducible exact bel_box _) | (with_reducible refine bel_step ?_ (by with_reducible assumption)) | (with_reducible refine Below.drew ?_) | (with_reducible refine below_drewN ?_ _) | (with_reducible refine bel_alloc ?_ _)))))
      go_ret
      exact ⟨rfl, (by repeat (first | (with_reducible exact Below.refl _ _) | (with_reducible assumption) | (with_reducible exact bel_box _) | (with_reducible refine bel_step ?_ (by with_reducible assumption)) | (with_reducible refine Below.drew ?_) | (with_reducible refine below_drewN ?_ _) | (with_reducible refine bel_alloc ?_ _)))⟩
  · have y_u : (u == 0) = false := by simp [h_u]
    rw [orEn h_u]
    clear h_u
    go_enter Tryz.func47, Tryz.ntmps47
    go_wp2_with (first | (go_at_call 83; (with_reducible refine (KI.out _ ?_).mono ?_); (focus ((repeat (first | (with_reducible exact Below.refl _ _) | (with_reducible assumption) | (with_reducible exact bel_box _) | (with_reducible refine bel_step ?_ (by with_reducible assumption)) | (with_reducible refine Below.drew ?_) | (with_reducible refine below_drewN ?_ _) | (with_reducible refine bel_alloc ?_ _))); done)); rintro e w1 ⟨rfl, hb1⟩; obtain ⟨g0, g1, g2, g3, g4, g5, g6, g7, g8⟩ := B1N (w := w) (W := w1) n (by repeat (first | (with_reducible exact Below.refl _ _) | (with_reducible assumption) | (with_reducible exact bel_box _) | (with_reducible refine bel_step ?_ (by with_reducible assumption)) | (with_reducible refine Below.drew ?_) | (with_reducible refine below_drewN ?_ _) | (with_reducible refine bel_alloc ?_ _)))) | (go_at_call 84; (with_reducible refine (K1.out _ ?_).mono ?_); (focus ((repeat (first | (with_reducible exact Below.refl _ _) | (with_reducible assumption) | (with_reducible exact bel_box _) | (with_reducible refine bel_step ?_ (by with_reducible assumption)) | (with_reducible refine Below.drew ?_) | (with_reducible refine below_drewN ?_ _) | (with_reducible refine bel_alloc ?_ _))); done)); rintro e w2 ⟨rfl, hb2⟩; obtain ⟨g0, g1, g2, g3, g4, g5, g6, g7, g8⟩ := B1N (w := w) (W := w2) n (by repeat (first | (with_reducible exact Below.refl _ _) | (with_reducible assumption) | (with_reducible exact bel_box _) | (with_reducible refine bel_step ?_ (by with_reducible assumption)) | (with_reducible refine Below.drew ?_) | (with_reducible refine below_drewN ?_ _) | (with_reducible refine bel_alloc ?_ _)))) | (go_at_call 84; (with_reducible refine (K2.out _ ?_).mono ?_); (focus ((repeat (first | (with_reducible exact Below.refl _ _) | (with_reducible assumption) | (with_reducible exact bel_box _) | (with_reducible refine bel_step ?_ (by with_reducible assumption)) | (with_reducible refine Below.drew ?_) | (with_reducible refine below_drewN ?_ _) | (with_reducible refine bel_alloc ?_ _))); done)); rintro e w3 ⟨rfl, hb3⟩; obtain ⟨g0, g1, g2, g3, g4, g5, g6, g7, g8⟩ := B1N (w := w) (W := w3) n (by repeat (first | (with_reducible exact Below.refl _ _) | (with_reducible assumption) | (with_reducible exact bel_box _) | (with_reducible refine bel_step ?_ (by with_reducible assumption)) | (with_reducible refine Below.drew ?_) | (with_reducible refine below_drewN ?_ _) | (with_reducible refine bel_alloc ?_ _)))) | (go_at_call 84; (with_reducible refine (K3.out _ ?_).mono ?_); (focus ((repeat (first | (with_reducible exact Below.refl _ _) | (with_reducible assumption) | (with_reducible exact bel_box _) | (with_reducible refine bel_step ?_ (by with_reducible assumption)) | (with_reducible refine Below.drew ?_) | (with_reducible refine below_drewN ?_ _) | (with_reducible refine bel_alloc ?_ _))); done)); rintro e w4 ⟨rfl, hb4⟩; obtain ⟨g0, g1, g2, g3, g4, g5, g6, g7, g8⟩ := B1N (w := w) (W := w4) n (by repeat (first | (with_reducible exact Below.refl _ _) | (with_reducible assumption) | (with_reducible exact bel_box _) | (with_reducible refine bel_step ?_ (by with_reducible assumption)) | (with_reducible refine Below.drew ?_) | (with_reducible refine below_drewN ?_ _) | (with_reducible refine bel_alloc ?_ _)))))
    go_ret
    exact ⟨rfl, (by repeat (first | (with_reducible exact Below.refl _ _) | (with_reducible assumption) | (with_reducible exact bel_box _) | (with_reducible refine bel_step ?_ (by with_reducible assumption)) | (with_reducible refine Below.drew ?_) | (with_reducible refine below_drewN ?_ _) | (with_reducible refine bel_alloc ?_ _)))⟩
set_option maxHeartbeats 3000000 in
set_option maxRecDepth 20000 in
theorem rv_tail (E : Rw va.En) (n : Nt) (w : World) (hV : ∀ t, va.valB E.l t = decide (0 < va.sizeT E.l t)) (hE : RsE w w.heap.size E) (hn : RsN w w.heap.size n) (hm : SmN 1048576 n) :
    Calls Tryz.prog 49 #[.slice E.A E.l.length E.c, nV n] w (Bel (.int .i64 (talE E.l n)) w) := by
  obtain ⟨h1, h2, h3, h4, h5, h6, h7, h8⟩ := hn
  have KA : Hid (∀ y ∈ n.au.l, ∀ W, Below w.heap.size w W → Calls Tryz.prog 85 #[.slice E.A E.l.length E.c, aV y, .int .i64 0] W (Bel (.int .i64 (autE E.l 3 y)) W)) := Lib.hid fun y hy W h => rv_auto 3 (Nat.le_refl _) E y W hV (hE.blw h h.size) ((h6.blw h h.size).2 y hy) (hm.au y hy)
  have KX : Hid (∀ y ∈ n.asm.l, ∀ W, Below w.heap.size w W → Calls Tryz.prog 23 #[.slice E.A E.l.length E.c, xV y] W (Bel (.int .i64 (expE E.l y)) W)) := Lib.hid fun y hy W h => rv_expr E y W (hE.blw h h.size) ((h7.blw h h.size).2 y hy) (hm.asm y hy)
  have KY' : Hid (∀ y ∈ n.ens.l, ∀ W, Below w.heap.size w W → Calls Tryz.prog 23 #[.slice E.A E.l.length E.c, xV y] W (Bel (.int .i64 (expE E.l y)) W)) := Lib.hid fun y hy W h => rv_expr E y W (hE.blw h h.size) ((h8.blw h h.size).2 y hy) (hm.ens y hy)
  simp only [xV] at KX KY'
  have h9 := h6.1.len
  have h9a := h7.1.len
  have h9b := h8.1.len
  unfold maxLen at h9 h9a h9b
  have HR1 := Lib.hid h6.1
  have HR2 := Lib.hid h7.1
  have HR3 := Lib.hid h8.1
  unfold talE
  clear hV hE hm h1 h2 h3 h4 h5 h6 h7 h8
  obtain ⟨F1, hF0, hFl, HF1⟩ := errs_steps n.au.l (autE E.l 3)
  rw [← hF0]
  obtain ⟨V1, hV⟩ : ∃ V, F1 0 = V := ⟨_, rfl⟩
  have HV1 := Lib.hid hV
  have HL1 := Lib.hid hFl
  rw [hV]
  clear hF0 hFl hV
  obtain ⟨F2, hF0, hFl, HF2⟩ := errs_steps n.asm.l (expE E.l)
  rw [← hF0]
  obtain ⟨V2, hV⟩ : ∃ V, F2 0 = V := ⟨_, rfl⟩
  have HV2 := Lib.hid hV
  have HL2 := Lib.hid hFl
  rw [hV]
  clear hF0 hFl hV
  obtain ⟨F3, hF0, hFl, HF3⟩ := errs_steps n.ens.l (expE E.l)
  rw [← hF0]
  obtain ⟨V3, hV⟩ : ∃ V, F3 0 = V := ⟨_, rfl⟩
  have HV3 := Lib.hid hV
  have HL3 := Lib.hid hFl
  rw [hV]
  clear hF0 hFl hV
  obtain ⟨T, hT⟩ : ∃ T, orE V1 (orE V2 V3) = T := ⟨_, rfl⟩
  have HT1 := Lib.hid hT
  rw [hT]
  clear hT
  go_enter Tryz.func49, Tryz.ntmps49
  go_wp2
  go_loopw [5] (fun i wr => ∃ k : Nat, k ≤ n.au.l.length ∧ i = .int .i64 (k : Int) ∧ Hid (F1 k = V1) ∧ Below ((w.alloc (.cells #[.string n.nm, .slice n.ins.A n.ins.l.length n.ins.c, .slice n.outs.A n.outs.l.length n.outs.c, .slice n.locs.A n.locs.l.length n.locs.c, .slice n.qs.A n.qs.l.length n.qs.c, .slice n.au.A n.au.l.length n.au.c, .slice n.asm.A n.asm.l.length n.asm.c, .slice n.ens.A n.ens.l.length n.ens.c] 56))).heap.size ((w.alloc (.cells #[.string n.nm, .slice n.ins.A n.ins.l.length n.ins.c, .slice n.outs.A n.outs.l.length n.outs.c, .slice n.locs.A n.locs.l.length n.locs.c, .slice n.qs.A n.qs.l.length n.qs.c, .slice n.au.A n.au.l.length n.au.c, .slice n.asm.A n.asm.l.length n.asm.c, .slice n.ens.A n.ens.l.length n.ens.c] 56))) wr) (fun i _ => n.au.l.length - (intOf i).toNat)
  case atStart => exact ⟨0, by omega, rfl, HV1, (by repeat (first | (with_reducible exact Below.refl _ _) | (with_reducible assumption) | (with_reducible exact bel_box _) | (with_reducible refine bel_step ?_ (by with_reducible assumption)) | (with_reducible refine Below.drew ?_) | (with_reducible refine below_drewN ?_ _) | (with_reducible refine bel_alloc ?_ _)))⟩
  case round =>
    obtain ⟨k1, hk1, rfl, hK1, hbl1⟩ := hrel
    obtain ⟨wr1, rfl⟩ : ∃ wo : World, wo = wr := ⟨_, rfl⟩
    have hBW1 : Below w.heap.size w wr1 := (by repeat (first | (with_reducible exact Below.refl _ _) | (with_reducible assumption) | (with_reducible exact bel_box _) | (with_reducible refine bel_step ?_ (by with_reducible assumption)) | (with_reducible refine Below.drew ?_) | (with_reducible refine below_drewN ?_ _) | (with_reducible refine bel_alloc ?_ _)))
    obtain ⟨g0, g1, g2, g3, g4, g5, g6, g7, g8⟩ := B1N (w := w) (W := wr1) n hbl1
    by_cases hlt : k1 < n.au.l.length
    · obtain ⟨ad1, y1, hA, had1, hy, hm, c0⟩ := (HR1.out.blw oneB_A hBW1 hBW1.size).at_ hlt
      unfold AC at c0
      rw [Nat.mul_one] at c0
      rw [hA] at g5
      clear hA
      have hst := HF1.out k1 y1 hy
      have KY := Lib.hid (KA.out y1 hm)
      clear hy hm HF1
      generalize autE E.l 3 y1 = v at *
      by_cases hv : v = 0
      · subst hv
        rw [orE0] at hst
        have hn : Hid (F1 (k1 + 1) = V1) := Lib.hid (hst.symm.trans hK1.out)
        clear hst hK1
        go_wp2_with (go_at_call 85; (with_reducible refine (KY.out _ ?_).mono ?_); (focus ((repeat (first | (with_reducible exact Below.refl _ _) | (with_reducible assumption) | (with_reducible exact bel_box _) | (with_reducible refine bel_step ?_ (by with_reducible assumption)) | (with_reducible refine Below.drew ?_) | (with_reducible refine below_drewN ?_ _) | (with_reducible refine bel_alloc ?_ _))); done)); rintro e w5 ⟨rfl, hb5⟩)
        exact ⟨⟨k1 + 1, by omega, by congr 1, hn, (by repeat (first | (with_reducible exact Below.refl _ _) | (with_reducible assumption) | (with_reducible exact bel_box _) | (with_reducible refine bel_step ?_ (by with_reducible assumption)) | (with_reducible refine Below.drew ?_) | (with_reducible refine below_drewN ?_ _) | (with_reducible refine bel_alloc ?_ _)))⟩, by simp [intOf]; omega⟩
      · rw [orEn hv] at hst
        have hv1 : v = V1 := hst.symm.trans hK1.out
        have hT : v = T := by rw [← HT1.out, ← hv1, orEn hv]
        clear hv1
        subst hT
        have e0 : (v == 0) = false := by simp [hv]
        clear hst hK1 hv HV1
        go_wp2_with (go_at_call 85; (with_reducible refine (KY.out _ ?_).mono ?_); (focus ((repeat (first | (with_reducible exact Below.refl _ _) | (with_reducible assumption) | (with_reducible exact bel_box _) | (with_reducible refine bel_step ?_ (by with_reducible assumption)) | (with_reducible refine Below.drew ?_) | (with_reducible refine below_drewN ?_ _) | (with_reducible refine bel_alloc ?_ _))); done)); rintro e w5 ⟨rfl, hb5⟩)
        go_ret
        exact ⟨rfl, (by repeat (first | (with_reducible exact Below.refl _ _) | (with_reducible assumption) | (with_reducible exact bel_box _) | (with_reducible refine bel_step ?_ (by with_reducible assumption)) | (with_reducible refine Below.drew ?_) | (with_reducible refine below_drewN ?_ _) | (with_reducible refine bel_alloc ?_ _)))⟩
    · obtain rfl : k1 = n.au.l.length := by omega
      have hE0 : V1 = 0 := hK1.out.symm.trans HL1.out
      subst hE0
      clear hK1 HF1 HV1 HL1 hlt
      have HT2 : Hid (orE V2 V3 = T) := Lib.hid (by rw [← HT1.out, orE0])
      clear HT1
      go_wp2
      go_loopw [7] (fun i wr => ∃ k : Nat, k ≤ n.asm.l.length ∧ i = .int .i64 (k : Int) ∧ Hid (F2 k = V2) ∧ Below ((w.alloc (.cells #[.string n.nm, .slice n.ins.A n.ins.l.length n.ins.c, .slice n.outs.A n.outs.l.length n.outs.c, .slice n.locs.A n.locs.l.length n.locs.c, .slice n.qs.A n.qs.l.length n.qs.c, .slice n.au.A n.au.l.length n.au.c, .slice n.asm.A n.asm.l.length n.asm.c, .slice n.ens.A n.ens.l.length n.ens.c] 56))).heap.size ((w.alloc (.cells #[.string n.nm, .slice n.ins.A n.ins.l.length n.ins.c, .slice n.outs.A n.outs.l.length n.outs.c, .slice n.locs.A n.locs.l.length n.locs.c, .slice n.qs.A n.qs.l.length n.qs.c, .slice n.au.A n.au.l.length n.au.c, .slice n.asm.A n.asm.l.length n.asm.c, .slice n.ens.A n.ens.l.length n.ens.c] 56))) wr) (fun i _ => n.asm.l.length - (intOf i).toNat)
      case atStart => exact ⟨0, by omega, rfl, HV2, (by repeat (first | (with_reducible exact Below.refl _ _) | (with_reducible assumption) | (with_reducible exact bel_box _) | (with_reducible refine bel_step ?_ (by with_reducible assumption)) | (with_reducible refine Below.drew ?_) | (with_reducible refine below_drewN ?_ _) | (with_reducible refine bel_alloc ?_ _)))⟩
      case round =>
        obtain ⟨k2, hk2, rfl, hK2, hbl2⟩ := hrel
        obtain ⟨wr2, rfl⟩ : ∃ wo : World, wo = wr := ⟨_, rfl⟩
        have hBW2 : Below w.heap.size w wr2 := (by repeat (first | (with_reducible exact Below.refl _ _) | (with_reducible assumption) | (with_reducible exact bel_box _) | (with_reducible refine bel_step ?_ (by with_reducible assumption)) | (with_reducible refine Below.drew ?_) | (with_reducible refine below_drewN ?_ _) | (with_reducible refine bel_alloc ?_ _)))
        obtain ⟨g0, g1, g2, g3, g4, g5, g6, g7, g8⟩ := B1N (w := w) (W := wr2) n hbl2
        by_cases hlt : k2 < n.asm.l.length
        · obtain ⟨ad2, y2, hA, had2, hy, hm, ⟨c0, c1, c2, c3, c4, c5⟩⟩ := (HR2.out.blw oneB_X hBW2 hBW2.size).at_ hlt
          rw [hA] at g6
          clear hA
          have hst := HF2.out k2 y2 hy
          have KY := Lib.hid (KX.out y2 hm)
          clear hy hm HF2
          generalize expE E.l y2 = v at *
          by_cases hv : v = 0
          · subst hv
            rw [orE0] at hst
            have hn : Hid (F2 (k2 + 1) = V2) := Lib.hid (hst.symm.trans hK2.out)
            clear hst hK2
            go_wp2_with (go_at_call 23; (with_reducible refine (KY.out _ ?_).mono ?_); (focus ((repeat (first | (with_reducible exact Below.refl _ _) | (with_reducible assumption) | (with_reducible exact bel_box _) | (with_reducible refine bel_step ?_ (by with_reducible assumption)) | (with_reducible refine Below.drew ?_) | (with_reducible refine below_drewN ?_ _) | (with_reducible refine bel_alloc ?_ _))); done)); rintro e w6 ⟨rfl, hb6⟩)
            exact ⟨⟨k2 + 1, by omega, by congr 1, hn, (by repeat (first | (with_reducible exact Below.refl _ _) | (with_reducible assumption) | (with_reducible exact bel_box _) | (with_reducible refine bel_step ?_ (by with_reducible assumption)) | (with_reducible refine Below.drew ?_) | (with_reducible refine below_drewN ?_ _) | (with_reducible refine bel_alloc ?_ _)))⟩, by simp [intOf]; omega⟩
          · rw [orEn hv] at hst
            have hv1 : v = V2 := hst.symm.trans hK2.out
            have hT : v = T := by rw [← HT2.out, ← hv1, orEn hv]
            clear hv1
            subst hT
            have e0 : (v == 0) = false := by simp [hv]
            clear hst hK2 hv HV2
            go_wp2_with (go_at_call 23; (with_reducible refine (KY.out _ ?_).mono ?_); (focus ((repeat (first | (with_reducible exact Below.refl _ _) | (with_reducible assumption) | (with_reducible exact bel_box _) | (with_reducible refine bel_step ?_ (by with_reducible assumption)) | (with_reducible refine Below.drew ?_) | (with_reducible refine below_drewN ?_ _) | (with_reducible refine bel_alloc ?_ _))); done)); rintro e w6 ⟨rfl, hb6⟩)
            go_ret
            exact ⟨rfl, (by repeat (first | (with_reducible exact Below.refl _ _) | (with_reducible assumption) | (with_reducible exact bel_box _) | (with_reducible refine bel_step ?_ (by with_reducible assumption)) | (with_reducible refine Below.drew ?_) | (with_reducible refine below_drewN ?_ _) | (with_reducible refine bel_alloc ?_ _)))⟩
        · obtain rfl : k2 = n.asm.l.length := by omega
          have hE0 : V2 = 0 := hK2.out.symm.trans HL2.out
          subst hE0
          clear hK2 HF2 HV2 HL2 hlt
          have HT3 : Hid (V3 = T) := Lib.hid (by rw [← HT2.out, orE0])
          clear HT2
          go_wp2
          go_loopw [9] (fun i wr => ∃ k : Nat, k ≤ n.ens.l.length ∧ i = .int .i64 (k : Int) ∧ Hid (F3 k = V3) ∧ Below ((w.alloc (.cells #[.string n.nm, .slice n.ins.A n.ins.l.length n.ins.c, .slice n.outs.A n.outs.l.length n.outs.c, .slice n.locs.A n.locs.l.length n.locs.c, .slice n.qs.A n.qs.l.length n.qs.c, .slice n.au.A n.au.l.length n.au.c, .slice n.asm.A n.asm.l.length n.asm.c, .slice n.ens.A n.ens.l.length n.ens.c] 56))).heap.size ((w.alloc (.cells #[.string n.nm, .slice n.ins.A n.ins.l.length n.ins.c, .slice n.outs.A n.outs.l.length n.outs.c, .slice n.locs.A n.locs.l.length n.locs.c, .slice n.qs.A n.qs.l.length n.qs.c, .slice n.au.A n.au.l.length n.au.c, .slice n.asm.A n.asm.l.length n.asm.c, .slice n.ens.A n.ens.l.length n.ens.c] 56))) wr) (fun i _ => n.ens.l.length - (intOf i).toNat)
          case atStart => exact ⟨0, by omega, rfl, HV3, (by repeat (first | (with_reducible exact Below.refl _ _) | (with_reducible assumption) | (with_reducible exact bel_box _) | (with_reducible refine bel_step ?_ (by with_reducible assumption)) | (with_reducible refine Below.drew ?_) | (with_reducible refine below_drewN ?_ _) | (with_reducible refine bel_alloc ?_ _)))⟩
          case round =>
            obtain ⟨k3, hk3, rfl, hK3, hbl3⟩ := hrel
            obtain ⟨wr3, rfl⟩ : ∃ wo : World, wo = wr := ⟨_, rfl⟩
            have hBW3 : Below w.heap.size w wr3 := (by repeat (first | (with_reducible exact Below.refl _ _) | (with_reducible assumption) | (with_reducible exact bel_box _) | (with_reducible refine bel_step ?_ (by with_reducible assumption)) | (with_reducible refine Below.drew ?_) | (with_reducible refine below_drewN ?_ _) | (with_reducible refine bel_alloc ?_ _)))
            obtain ⟨g0, g1, g2, g3, g4, g5, g6, g7, g8⟩ := B1N (w := w) (W := wr3) n hbl3
            by_cases hlt : k3 < n.ens.l.length
            · obtain ⟨ad3, y3, hA, had3, hy, hm, ⟨c0, c1, c2, c3, c4, c5⟩⟩ := (HR3.out.blw oneB_X hBW3 hBW3.size).at_ hlt
              rw [hA] at g7
              clear hA
              have hst := HF3.out k3 y3 hy
              have KY := Lib.hid (KY'.out y3 hm)
              clear hy hm HF3
              generalize expE E.l y3 = v at *
              by_cases hv : v = 0
              · subst hv
                rw [orE0] at hst
                have hn : Hid (F3 (k3 + 1) = V3) := Lib.hid (hst.symm.trans hK3.out)
                clear hst hK3
                go_wp2_with (go_at_call 23; (with_reducible refine (KY.out _ ?_).mono ?_); (focus ((repeat (first | (with_reducible exact Below.refl _ _) | (with_reducible assumption) | (with_reducible exact bel_box _) | (with_reducible refine bel_step ?_ (by with_reducible assumption)) | (with_reducible refine Below.drew ?_) | (with_reducible refine below_drewN ?_ _) | (with_reducible refine bel_alloc ?_ _))); done)); rintro e w7 ⟨rfl, hb7⟩)
                exact ⟨⟨k3 + 1, by omega, by congr 1, hn, (by repeat (first | (with_reducible exact Below.refl _ _) | (with_reducible assumption) | (with_reducible exact bel_box _) | (with_reducible refine bel_step ?_ (by with_reducible assumption)) | (with_reducible refine Below.drew ?_) | (with_reducible refine below_drewN ?_ _) | (with_reducible refine bel_alloc ?_ _)))⟩, by simp [intOf]; omega⟩
              · rw [orEn hv] at hst
                have hv1 : v = V3 := hst.symm.trans hK3.out
                have hT : v = T := by rw [← HT3.out, ← hv1]
                clear hv1
                subst hT
                have e0 : (v == 0) = false := by simp [hv]
                clear hst hK3 hv HV3
                go_wp2_with (go_at_call 23; (with_reducible refine (KY.out _ ?_).mono ?_); (focus ((repeat (first | (with_reducible exact Below.refl _ _) | (with_reducible assumption) | (with_reducible exact bel_box _) | (with_reducible refine bel_step ?_ (by with_reducible assumption)) | (with_reducible refine Below.drew ?_) | (with_reducible refine below_drewN ?_ _) | (with_reducible refine bel_alloc ?_ _))); done)); rintro e w7 ⟨rfl, hb7⟩)
                go_ret
                exact ⟨rfl, (by repeat (first | (with_reducible exact Below.refl _ _) | (with_reducible assumption) | (with_reducible exact bel_box _) | (with_reducible refine bel_step ?_ (by with_reducible assumption)) | (with_reducible refine Below.drew ?_) | (with_reducible refine below_drewN ?_ _) | (with_reducible refine bel_alloc ?_ _)))⟩
            · obtain rfl : k3 = n.ens.l.length := by omega
              have hE0 : V3 = 0 := hK3.out.symm.trans HL3.out
              subst hE0
              clear hK3 HF3 HV3 HL3 hlt
              have hT : 0 = T := HT3.out
              subst hT
              clear HT3
              go_wp2
              go_ret
              exact ⟨rfl, (by repeat (first | (with_reducible exact Below.refl _ _) | (with_reducible assumption) | (with_reducible exact bel_box _) | (with_reducible refine bel_step ?_ (by with_reducible assumption)) | (with_reducible refine Below.drew ?_) | (with_reducible refine below_drewN ?_ _) | (with_reducible refine bel_alloc ?_ _)))⟩
end Go.Proofs.YthlapepjebidgaaGreatDoor
/- The reference's Check, Plain and Find. -/
namespace Go.Proofs.YthlapepjebidgaaGreatDoor
set_option linter.unusedVariables false
set_option linter.unusedSimpArgs false
open Go.RowKit Go.Sort
theorem valB_of {es : List va.En} (h : errs (es.map enumE) = 0) (t : Int) : va.valB es t = decide (0 < va.sizeT es t) := by
  have hz : ∀ e ∈ es, enumE e = 0 := fun e he => errs_zero.1 h _ (List.mem_map.2 ⟨e, he, rfl⟩)
  by_cases h2 : t = 2
  · subst h2
    simp [va.valB, va.sizeT]
  by_cases h1 : t = 1
  · subst h1
    simp [va.valB, va.sizeT, va.tagsOf]
  cases hb : va.enuB es t
  · simp [va.valB, va.sizeT, va.tagsOf, hb, h1, h2]
  · have hr : 3 ≤ t ∧ t - 3 < es.length := by simpa [va.enuB] using hb
    obtain ⟨e, he⟩ : ∃ e, es[(t - 3).toNat]? = some e := ⟨_, List.getElem?_eq_getElem (by omega)⟩
    have hne : 0 < e.tags.length := by
      have := hz e (List.mem_of_getElem? he)
      unfold enumE at this
      by_cases hid : idP e.name = true
      · rw [if_pos hid] at this
        by_cases hl : e.tags.length = 0
        · rw [if_pos hl] at this
          omega
        · omega
      · rw [if_neg hid] at this
        omega
    have hs : va.sizeT es t = (e.tags.length : Int) := by
      unfold va.sizeT va.tagsOf
      rw [if_neg h2, if_neg h1, if_pos hb, he]
      rfl
    rw [hs, show va.valB es t = true by simp [va.valB, hb]]
    exact (decide_eq_true (by omega)).symm
set_option maxHeartbeats 6000000 in
set_option maxRecDepth 20000 in
theorem rv_check (p : Pt) (w : World) (hp : RsP w w.heap.size p) (hm : ∀ n ∈ p.ns.l, SmN 1048576 n) :
    Calls Tryz.prog 16 #[pV p] w (Bel (.tuple #[.agg #[.int .i64 (chkE p).1.1, .int .i64 (chkE p).1.2], .int .i64 (chkE p).2]) w) := by
  obtain ⟨hE, hN⟩ := hp
  have HN : Hid (RsP w w.heap.size p) := Lib.hid ⟨hE, hN⟩
  have h9 := hN.1.len
  have h9e := hE.2.1.1
  unfold maxLen at h9 h9e
  have KE : Hid (∀ y ∈ p.es.l, ∀ W, Below w.heap.size w W → Calls Tryz.prog 46 #[.agg #[.string y.name, .slice y.A y.tags.length y.c]] W (Bel (.int .i64 (enumE y)) W)) := Lib.hid fun y hy W h => by
    have hE' := hE.blw h h.size
    obtain ⟨i, hi⟩ := List.getElem?_of_mem hy
    exact rv_enum y W (hE'.1.2 i y hi) (hE.2.2 y hy).1 (hE.2.2 y hy).2.1 (hE.2.2 y hy).2.2
  have TB : Hid (∀ W, Below (((w.alloc (.cells #[.slice p.es.A p.es.l.length p.es.c, .slice p.ns.A p.ns.l.length p.ns.c] 36)).alloc (.cells #[.int .i64 0, .int .i64 0] 38)).alloc (.cells #[.int .i64 (-1), .int .i64 (-1)] 38)).heap.size (((w.alloc (.cells #[.slice p.es.A p.es.l.length p.es.c, .slice p.ns.A p.ns.l.length p.ns.c] 36)).alloc (.cells #[.int .i64 0, .int .i64 0] 38)).alloc (.cells #[.int .i64 (-1), .int .i64 (-1)] 38)) W → (W.cell? ⟨w.heap.size, 0, none⟩ = some (.slice p.es.A p.es.l.length p.es.c) ∧ W.cell? ⟨w.heap.size, 1, none⟩ = some (.slice p.ns.A p.ns.l.length p.ns.c) ∧ W.cell? ⟨w.heap.size + 1, 0, none⟩ = some (.int .i64 0) ∧ W.cell? ⟨w.heap.size + 1, 1, none⟩ = some (.int .i64 0) ∧ W.frozen? ⟨w.heap.size + 1, 0, none⟩ = false ∧ W.frozen? ⟨w.heap.size + 1, 1, none⟩ = false ∧ W.cell? ⟨w.heap.size + 1 + 1, 0, none⟩ = some (.int .i64 (-1)) ∧ W.cell? ⟨w.heap.size + 1 + 1, 1, none⟩ = some (.int .i64 (-1)) ∧ w.heap.size + 1 + 1 < W.heap.size)) := Lib.hid fun W h => by
    have hz : (((w.alloc (.cells #[.slice p.es.A p.es.l.length p.es.c, .slice p.ns.A p.ns.l.length p.ns.c] 36)).alloc (.cells #[.int .i64 0, .int .i64 0] 38)).alloc (.cells #[.int .i64 (-1), .int .i64 (-1)] 38)).heap.size = w.heap.size + 1 + 1 + 1 := by simp only [World.size_alloc]
    have hsz := h.size
    rw [hz] at hsz
    have hc : ∀ q : Addr, q.block < w.heap.size + 1 + 1 + 1 → W.cell? q = _ := fun q hq => h.cell (by rw [hz]; exact hq)
    have hf : ∀ q : Addr, q.block < w.heap.size + 1 + 1 + 1 → W.frozen? q = _ := fun q hq => h.frozen (by rw [hz]; exact hq)
    refine ⟨?_, ?_, ?_, ?_, ?_, ?_, ?_, ?_, by omega⟩
    all_goals (first | (rw [hc _ (by first | omega | (simp; done) | (simp; omega))]; simp [go_sem]; done) | (rw [hf _ (by first | omega | (simp; done) | (simp; omega))]; simp [go_sem]; done))
  have HRE : Hid (va.RdE w w.heap.size p.es.A p.es.l) := Lib.hid hE.1
  have KK : errs (p.es.l.map enumE) = 0 → Hid (∀ y ∈ p.ns.l, ∀ W, Below w.heap.size w W → Calls Tryz.prog 47 #[.slice p.es.A p.es.l.length p.es.c, nV y] W (Bel (.int .i64 (hedE p.es.l y)) W)) ∧
      Hid (∀ y ∈ p.ns.l, ∀ z ∈ y.qs.l, ∀ W, Below w.heap.size w W → Calls Tryz.prog 48 #[.slice p.es.A p.es.l.length p.es.c, qV z] W (Bel (.int .i64 (eqnE p.es.l z)) W)) ∧
      Hid (∀ y ∈ p.ns.l, ∀ W, Below w.heap.size w W → Calls Tryz.prog 49 #[.slice p.es.A p.es.l.length p.es.c, nV y] W (Bel (.int .i64 (talE p.es.l y)) W)) := fun h0 =>
    ⟨Lib.hid fun y hy W h => rv_head p.es y W (valB_of h0) (hE.blw h h.size) ((hN.2 y hy).blw h h.size),
     Lib.hid fun y hy z hz W h => rv_equation p.es z W (hE.blw h h.size) ((((hN.2 y hy).2.2.2.2.1).2 z hz |> fun k => ⟨k.1.blw h h.size, k.2.blw h h.size⟩)) ((hm y hy).qs z hz),
     Lib.hid fun y hy W h => rv_tail p.es y W (valB_of h0) (hE.blw h h.size) ((hN.2 y hy).blw h h.size) (hm y hy)⟩
  unfold chkE
  clear hE hN hm
  by_cases z0 : 24 < p.es.l.length
  · have q0 : (24 : Int) < (p.es.l.length : Int) := by omega
    rw [if_pos (.inl z0)]
    clear z0
    go_enter Tryz.func16, Tryz.ntmps16
    go_wp2
    refine bodyPost_ret (v := .tuple #[.agg #[.int .i64 (-1), .int .i64 (-1)], .int .i64 (3)]) (by simp [results, Tryz.results16, go_sem]) rfl ?_
    exact ⟨rfl, (by repeat (first | (with_reducible exact Below.refl _ _) | (with_reducible assumption) | (with_reducible exact bel_box _) | (with_reducible refine bel_step ?_ (by with_reducible assumption)) | (with_reducible refine Below.drew ?_) | (with_reducible refine below_drewN ?_ _) | (with_reducible refine bel_alloc ?_ _)))⟩
  have q0 : (p.es.l.length : Int) ≤ (24 : Int) := by omega
  by_cases z1 : 96 < p.ns.l.length
  · have q1 : (96 : Int) < (p.ns.l.length : Int) := by omega
    rw [if_pos (.inr z1)]
    clear z0 z1
    go_enter Tryz.func16, Tryz.ntmps16
    go_wp2
    refine bodyPost_ret (v := .tuple #[.agg #[.int .i64 (-1), .int .i64 (-1)], .int .i64 (3)]) (by simp [results, Tryz.results16, go_sem]) rfl ?_
    exact ⟨rfl, (by repeat (first | (with_reducible exact Below.refl _ _) | (with_reducible assumption) | (with_reducible exact bel_box _) | (with_reducible refine bel_step ?_ (by with_reducible assumption)) | (with_reducible refine Below.drew ?_) | (with_reducible refine below_drewN ?_ _) | (with_reducible refine bel_alloc ?_ _)))⟩
  have q1 : (p.ns.l.length : Int) ≤ (96 : Int) := by omega
  rw [if_neg (by omega)]
  clear z0 z1
  by_cases hz : errs (p.es.l.map enumE) = 0
  · obtain ⟨KH, KQ, KT⟩ := KK hz
    clear KK
    have HZ : Hid (∀ e ∈ p.es.l, enumE e = 0) := Lib.hid fun e he => errs_zero.1 hz _ (List.mem_map.2 ⟨e, he, rfl⟩)
    rw [if_pos hz]
    clear hz
    obtain ⟨F, hF0, hFl, HF⟩ := ndsE_steps p.es.l p.ns.l
    rw [← hF0]
    have HR : Hid (∀ q, wheR (some q) = (((q.1 : Int), q.2.1), q.2.2)) := Lib.hid fun q => rfl
    have HRn : Hid (wheR none = ((0, 0), 0)) := Lib.hid rfl
    obtain ⟨V, hV⟩ : ∃ V, wheR (F 0) = V := ⟨_, rfl⟩
    have HV := Lib.hid hV
    have HL := Lib.hid hFl
    rw [hV]
    clear hV hF0 hFl
    have HV1 : Hid True := Lib.hid trivial
    go_enter Tryz.func16, Tryz.ntmps16
    go_wp2
    go_loopw [5] (fun i wr => ∃ k : Nat, k ≤ p.es.l.length ∧ i = .int .i64 (k : Int) ∧ Hid True ∧ Below (((w.alloc (.cells #[.slice p.es.A p.es.l.length p.es.c, .slice p.ns.A p.ns.l.length p.ns.c] 36)).alloc (.cells #[.int .i64 0, .int .i64 0] 38)).alloc (.cells #[.int .i64 (-1), .int .i64 (-1)] 38)).heap.size (((w.alloc (.cells #[.slice p.es.A p.es.l.length p.es.c, .slice p.ns.A p.ns.l.length p.ns.c] 36)).alloc (.cells #[.int .i64 0, .int .i64 0] 38)).alloc (.cells #[.int .i64 (-1), .int .i64 (-1)] 38)) wr) (fun i _ => p.es.l.length - (intOf i).toNat)
    case atStart => exact ⟨0, by omega, rfl, HV1, (by repeat (first | (with_reducible exact Below.refl _ _) | (with_reducible assumption) | (with_reducible exact bel_box _) | (with_reducible refine bel_step ?_ (by with_reducible assumption)) | (with_reducible refine Below.drew ?_) | (with_reducible refine below_drewN ?_ _) | (with_reducible refine bel_alloc ?_ _)))⟩
    case round =>
      obtain ⟨k1, hk1, rfl, hK1, hbl1⟩ := hrel
      obtain ⟨wr1, rfl⟩ : ∃ wo : World, wo = wr := ⟨_, rfl⟩
      have hBW1 : Below w.heap.size w wr1 := (by repeat (first | (with_reducible exact Below.refl _ _) | (with_reducible assumption) | (with_reducible exact bel_box _) | (with_reducible refine bel_step ?_ (by with_reducible assumption)) | (with_reducible refine Below.drew ?_) | (with_reducible refine below_drewN ?_ _) | (with_reducible refine bel_alloc ?_ _)))
      obtain ⟨g0, g1, g2, g3, g4, g5, g6, g7, g8⟩ := TB.out wr1 hbl1
      have b0 := fun o => cell_al o g0
      have b1 := fun o => cell_al o g1
      by_cases hlt : k1 < p.es.l.length
      · obtain ⟨ad, y, hA, had, hy, c0, c1, _⟩ := (HRE.out.to hBW1).at_ hlt
        have hm := List.mem_of_getElem? hy
        rw [hA] at g0
        clear hA b0
        have b0 := fun o => cell_al o g0
        have KY := Lib.hid (KE.out y hm)
        rw [HZ.out y hm] at KY
        clear hy hm
        go_wp2_with (go_at_call 46; (with_reducible refine (KY.out _ ?_).mono ?_); (focus ((repeat (first | (with_reducible exact Below.refl _ _) | (with_reducible assumption) | (with_reducible exact bel_box _) | (with_reducible refine bel_step ?_ (by with_reducible assumption)) | (with_reducible refine Below.drew ?_) | (with_reducible refine below_drewN ?_ _) | (with_reducible refine bel_alloc ?_ _))); done)); rintro e w3 ⟨rfl, hb3⟩; obtain ⟨g0, g1, g2, g3, g4, g5, g6, g7, g8⟩ := TB.out w3 (by repeat (first | (with_reducible exact Below.refl _ _) | (with_reducible assumption) | (with_reducible exact bel_box _) | (with_reducible refine bel_step ?_ (by with_reducible assumption)) | (with_reducible refine Below.drew ?_) | (with_reducible refine below_drewN ?_ _) | (with_reducible refine bel_alloc ?_ _))); have b0 := fun o => cell_al o g0; have b1 := fun o => cell_al o g1)
        exact ⟨⟨k1 + 1, by omega, by congr 1, HV1, (by repeat (first | (with_reducible exact Below.refl _ _) | (with_reducible assumption) | (with_reducible exact bel_box _) | (with_reducible refine bel_step ?_ (by with_reducible assumption)) | (with_reducible refine Below.drew ?_) | (with_reducible refine below_drewN ?_ _) | (with_reducible refine bel_alloc ?_ _)))⟩, by simp [intOf]; omega⟩
      · obtain rfl : k1 = p.es.l.length := by omega
        go_wp2
        go_loopw [7] (fun i wr => ∃ k : Nat, k ≤ p.ns.l.length ∧ i = .int .i64 (k : Int) ∧ Hid (wheR (F k) = V) ∧ Below (((w.alloc (.cells #[.slice p.es.A p.es.l.length p.es.c, .slice p.ns.A p.ns.l.length p.ns.c] 36)).alloc (.cells #[.int .i64 0, .int .i64 0] 38)).alloc (.cells #[.int .i64 (-1), .int .i64 (-1)] 38)).heap.size (((w.alloc (.cells #[.slice p.es.A p.es.l.length p.es.c, .slice p.ns.A p.ns.l.length p.ns.c] 36)).alloc (.cells #[.int .i64 0, .int .i64 0] 38)).alloc (.cells #[.int .i64 (-1), .int .i64 (-1)] 38)) wr) (fun i _ => p.ns.l.length - (intOf i).toNat)
        case atStart => exact ⟨0, by omega, rfl, HV, (by repeat (first | (with_reducible exact Below.refl _ _) | (with_reducible assumption) | (with_reducible exact bel_box _) | (with_reducible refine bel_step ?_ (by with_reducible assumption)) | (with_reducible refine Below.drew ?_) | (with_reducible refine below_drewN ?_ _) | (with_reducible refine bel_alloc ?_ _)))⟩
        case round =>
          obtain ⟨k2, hk2, rfl, hK2, hbl2⟩ := hrel
          obtain ⟨wr2, rfl⟩ : ∃ wo : World, wo = wr := ⟨_, rfl⟩
          have hBW2 : Below w.heap.size w wr2 := (by repeat (first | (with_reducible exact Below.refl _ _) | (with_reducible assumption) | (with_reducible exact bel_box _) | (with_reducible refine bel_step ?_ (by with_reducible assumption)) | (with_reducible refine Below.drew ?_) | (with_reducible refine below_drewN ?_ _) | (with_reducible refine bel_alloc ?_ _)))
          obtain ⟨g0, g1, g2, g3, g4, g5, g6, g7, g8⟩ := TB.out wr2 (by repeat (first | (with_reducible exact Below.refl _ _) | (with_reducible assumption) | (with_reducible exact bel_box _) | (with_reducible refine bel_step ?_ (by with_reducible assumption)) | (with_reducible refine Below.drew ?_) | (with_reducible refine below_drewN ?_ _) | (with_reducible refine bel_alloc ?_ _))); have b0 := fun o => cell_al o g0; have b1 := fun o => cell_al o g1
          by_cases hlt : k2 < p.ns.l.length
          · obtain ⟨ad, y, hA, had, hy, hm, ⟨c0, c1, c2, c3, c4, c5, c6, c7⟩⟩ := ((HN.out.blw hBW2 hBW2.size).2.1).at_ hlt
            have HQ : Hid (RdR w w.heap.size 7 QC y.qs) := Lib.hid ((HN.out.2.2 y hm).2.2.2.2.1).1
            have h9q := HQ.out.len
            unfold maxLen at h9q
            rw [hA] at g1
            clear hA b1
            have b1 := fun o => cell_al o g1
            have hst := HF.out k2 y hy
            have KY := Lib.hid (KH.out y hm)
            have KQ' := Lib.hid (KQ.out y hm)
            have KL := Lib.hid (KT.out y hm)
            clear hy hm HF
            rw [nodE_eq] at hst
            generalize hedE p.es.l y = hv at *
            by_cases hz0 : hv = 0
            · subst hz0
              rw [if_pos rfl] at hst
              obtain ⟨G, hG0, hGl, HG⟩ := eqsE_steps p.es.l y.qs.l
              rw [← hG0] at hst
              have HRp : Hid (∀ q, nodR p.es.l y (some q) = ((q.1 : Int), q.2)) := Lib.hid fun q => rfl
              have HRn' : Hid (nodR p.es.l y none = (-1, talE p.es.l y)) := Lib.hid rfl
              obtain ⟨U, hU⟩ : ∃ U, nodR p.es.l y (G 0) = U := ⟨_, rfl⟩
              have HU := Lib.hid hU
              have HGl := Lib.hid hGl
              rw [hU] at hst
              clear hU hG0 hGl
              have hst := Lib.hid hst
              go_wp2_with (go_at_call 47; (with_reducible refine (KY.out _ ?_).mono ?_); (focus ((repeat (first | (with_reducible exact Below.refl _ _) | (with_reducible assumption) | (with_reducible exact bel_box _) | (with_reducible refine bel_step ?_ (by with_reducible assumption)) | (with_reducible refine Below.drew ?_) | (with_reducible refine below_drewN ?_ _) | (with_reducible refine bel_alloc ?_ _))); done)); rintro e w4 ⟨rfl, hb4⟩; obtain ⟨n0, n1, n2, n3, n4, n5, n6, n7, n8⟩ := B1N (w := wr2) (W := w4) y (by repeat (first | (with_reducible exact Below.refl _ _) | (with_reducible assumption) | (with_reducible exact bel_box _) | (with_reducible refine bel_step ?_ (by with_reducible assumption)) | (with_reducible refine Below.drew ?_) | (with_reducible refine below_drewN ?_ _) | (with_reducible refine bel_alloc ?_ _))); have a4 := fun o => cell_al o n4; obtain ⟨g0, g1, g2, g3, g4, g5, g6, g7, g8⟩ := TB.out w4 (by repeat (first | (with_reducible exact Below.refl _ _) | (with_reducible assumption) | (with_reducible exact bel_box _) | (with_reducible refine bel_step ?_ (by with_reducible assumption)) | (with_reducible refine Below.drew ?_) | (with_reducible refine below_drewN ?_ _) | (with_reducible refine bel_alloc ?_ _))); have b0 := fun o => cell_al o g0; have b1 := fun o => cell_al o g1)
              have hst := hst.out
              go_loopw [10] (fun i wr => ∃ k : Nat, k ≤ y.qs.l.length ∧ i = .int .i64 (k : Int) ∧ Hid (nodR p.es.l y (G k) = U) ∧ Below (wr2.alloc (.cells #[.string y.nm, .slice y.ins.A y.ins.l.length y.ins.c, .slice y.outs.A y.outs.l.length y.outs.c, .slice y.locs.A y.locs.l.length y.locs.c, .slice y.qs.A y.qs.l.length y.qs.c, .slice y.au.A y.au.l.length y.au.c, .slice y.asm.A y.asm.l.length y.asm.c, .slice y.ens.A y.ens.l.length y.ens.c] 56)).heap.size (wr2.alloc (.cells #[.string y.nm, .slice y.ins.A y.ins.l.length y.ins.c, .slice y.outs.A y.outs.l.length y.outs.c, .slice y.locs.A y.locs.l.length y.locs.c, .slice y.qs.A y.qs.l.length y.qs.c, .slice y.au.A y.au.l.length y.au.c, .slice y.asm.A y.asm.l.length y.asm.c, .slice y.ens.A y.ens.l.length y.ens.c] 56)) wr) (fun i _ => y.qs.l.length - (intOf i).toNat)
              case atStart => exact ⟨0, by omega, rfl, HU, (by repeat (first | (with_reducible exact Below.refl _ _) | (with_reducible assumption) | (with_reducible exact bel_box _) | (with_reducible refine bel_step ?_ (by with_reducible assumption)) | (with_reducible refine Below.drew ?_) | (with_reducible refine below_drewN ?_ _) | (with_reducible refine bel_alloc ?_ _)))⟩
              case round =>
                obtain ⟨j, hj, rfl, hJ, hbl3⟩ := hrel
                obtain ⟨wr3, rfl⟩ : ∃ wo : World, wo = wr := ⟨_, rfl⟩
                have hBX3 : Below (((w.alloc (.cells #[.slice p.es.A p.es.l.length p.es.c, .slice p.ns.A p.ns.l.length p.ns.c] 36)).alloc (.cells #[.int .i64 0, .int .i64 0] 38)).alloc (.cells #[.int .i64 (-1), .int .i64 (-1)] 38)).heap.size (((w.alloc (.cells #[.slice p.es.A p.es.l.length p.es.c, .slice p.ns.A p.ns.l.length p.ns.c] 36)).alloc (.cells #[.int .i64 0, .int .i64 0] 38)).alloc (.cells #[.int .i64 (-1), .int .i64 (-1)] 38)) wr3 := (by repeat (first | (with_reducible exact Below.refl _ _) | (with_reducible assumption) | (with_reducible exact bel_box _) | (with_reducible refine bel_step ?_ (by with_reducible assumption)) | (with_reducible refine Below.drew ?_) | (with_reducible refine below_drewN ?_ _) | (with_reducible refine bel_alloc ?_ _)))
                have hBW3 : Below w.heap.size w wr3 := (by repeat (first | (with_reducible exact Below.refl _ _) | (with_reducible assumption) | (with_reducible exact bel_box _) | (with_reducible refine bel_step ?_ (by with_reducible assumption)) | (with_reducible refine Below.drew ?_) | (with_reducible refine below_drewN ?_ _) | (with_reducible refine bel_alloc ?_ _)))
                obtain ⟨g0, g1, g2, g3, g4, g5, g6, g7, g8⟩ := TB.out wr3 (by repeat (first | (with_reducible exact Below.refl _ _) | (with_reducible assumption) | (with_reducible exact bel_box _) | (with_reducible refine bel_step ?_ (by with_reducible assumption)) | (with_reducible refine Below.drew ?_) | (with_reducible refine below_drewN ?_ _) | (with_reducible refine bel_alloc ?_ _))); have b0 := fun o => cell_al o g0; have b1 := fun o => cell_al o g1
                obtain ⟨n0, n1, n2, n3, n4, n5, n6, n7, n8⟩ := B1N (w := wr2) (W := wr3) y (by repeat (first | (with_reducible exact Below.refl _ _) | (with_reducible assumption) | (with_reducible exact bel_box _) | (with_reducible refine bel_step ?_ (by with_reducible assumption)) | (with_reducible refine Below.drew ?_) | (with_reducible refine below_drewN ?_ _) | (with_reducible refine bel_alloc ?_ _))); have a4 := fun o => cell_al o n4
                by_cases hlj : j < y.qs.l.length
                · obtain ⟨aq, z, hA, haq, hz, hmz, ⟨d0, d1, d2, d3, d4, d5, d6⟩⟩ := (HQ.out.blw oneB_Q hBW3 hBW3.size).at_ hlj
                  rw [hA] at n4
                  clear hA a4
                  have a4 := fun o => cell_al o n4
                  have hsj := HG.out j z hz
                  have KZ := Lib.hid (KQ'.out z hmz)
                  clear hz hmz HG
                  generalize eqnE p.es.l z = v at *
                  by_cases hv : v = 0
                  · subst hv
                    rw [if_pos rfl] at hsj
                    have hn' : Hid (nodR p.es.l y (G (j + 1)) = U) := Lib.hid (by rw [← hsj]; exact hJ.out)
                    clear hsj hJ
                    have fg0 := cell_regrown g0
                    have fn4 := cell_regrown n4
                    have fd0 := cell_regrown d0
                    have fd1 := cell_regrown d1
                    have fd2 := cell_regrown d2
                    have fd3 := cell_regrown d3
                    have fd4 := cell_regrown d4
                    have fd5 := cell_regrown d5
                    have fd6 := cell_regrown d6
                    have cq' := fun dd os => Calls.regrown_of (KZ.out (grow (redrawn wr3 dd) os) (hBW3.trans ((below_regrown wr3 dd os).mono hBW3.size)))
                    go_wp2
                    refine wp_region_quiet_below (by kernel_rfl) (by kernel_rfl) ?_
                    repeat (quiet_step (with_reducible exact cq' _ _))
                    refine wpQuiet_nil ?_
                    intro _ hw'
                    obtain ⟨⟨dq, osq⟩, hw''⟩ := hw'
                    subst hw''
                    have hbw6' : Below wr3.heap.size wr3 (grow (redrawn wr3 dq) osq) := below_regrown wr3 dq osq
                    generalize grow (redrawn wr3 dq) osq = w6 at hbw6' ⊢
                    clear cq' fg0 fn4 fd0 fd1 fd2 fd3 fd4 fd5 fd6
                    have hbw6 : Below w.heap.size w w6 := hBW3.trans (hbw6'.mono hBW3.size)
                    have hbx6 : Below (((w.alloc (.cells #[.slice p.es.A p.es.l.length p.es.c, .slice p.ns.A p.ns.l.length p.ns.c] 36)).alloc (.cells #[.int .i64 0, .int .i64 0] 38)).alloc (.cells #[.int .i64 (-1), .int .i64 (-1)] 38)).heap.size (((w.alloc (.cells #[.slice p.es.A p.es.l.length p.es.c, .slice p.ns.A p.ns.l.length p.ns.c] 36)).alloc (.cells #[.int .i64 0, .int .i64 0] 38)).alloc (.cells #[.int .i64 (-1), .int .i64 (-1)] 38)) w6 := hBX3.trans (hbw6'.mono hBX3.size)
                    have hbn6 : Below (wr2.alloc (.cells #[.string y.nm, .slice y.ins.A y.ins.l.length y.ins.c, .slice y.outs.A y.outs.l.length y.outs.c, .slice y.locs.A y.locs.l.length y.locs.c, .slice y.qs.A y.qs.l.length y.qs.c, .slice y.au.A y.au.l.length y.au.c, .slice y.asm.A y.asm.l.length y.asm.c, .slice y.ens.A y.ens.l.length y.ens.c] 56)).heap.size (wr2.alloc (.cells #[.string y.nm, .slice y.ins.A y.ins.l.length y.ins.c, .slice y.outs.A y.outs.l.length y.outs.c, .slice y.locs.A y.locs.l.length y.locs.c, .slice y.qs.A y.qs.l.length y.qs.c, .slice y.au.A y.au.l.length y.au.c, .slice y.asm.A y.asm.l.length y.asm.c, .slice y.ens.A y.ens.l.length y.ens.c] 56)) w6 := hbl3.trans (hbw6'.mono hbl3.size)
                    obtain ⟨g0, g1, g2, g3, g4, g5, g6, g7, g8⟩ := TB.out w6 hbx6
                    go_wp2
                    exact ⟨⟨j + 1, by omega, by congr 1, hn', (by repeat (first | (with_reducible exact Below.refl _ _) | (with_reducible assumption) | (with_reducible exact bel_box _) | (with_reducible refine bel_step ?_ (by with_reducible assumption)) | (with_reducible refine Below.drew ?_) | (with_reducible refine below_drewN ?_ _) | (with_reducible refine bel_alloc ?_ _)))⟩, by simp [intOf]; omega⟩
                  · rw [if_neg hv] at hsj
                    have hU : U = ((j : Int), v) := by rw [← hJ.out, hsj, HRp.out]
                    have e0 : (v == 0) = false := by simp [hv]
                    have hV2 : V = (((k2 : Int), (j : Int)), v) := by rw [← hK2.out, hst, if_neg (by rw [hU]; exact hv), HR.out, hU]
                    subst hV2
                    clear hst hK2 hsj hJ HV HU hU hv
                    have fg0 := cell_regrown g0
                    have fn4 := cell_regrown n4
                    have fd0 := cell_regrown d0
                    have fd1 := cell_regrown d1
                    have fd2 := cell_regrown d2
                    have fd3 := cell_regrown d3
                    have fd4 := cell_regrown d4
                    have fd5 := cell_regrown d5
                    have fd6 := cell_regrown d6
                    have cq' := fun dd os => Calls.regrown_of (KZ.out (grow (redrawn wr3 dd) os) (hBW3.trans ((below_regrown wr3 dd os).mono hBW3.size)))
                    go_wp2
                    refine wp_region_quiet_below (by kernel_rfl) (by kernel_rfl) ?_
                    repeat (quiet_step (with_reducible exact cq' _ _))
                    refine wpQuiet_nil ?_
                    intro _ hw'
                    obtain ⟨⟨dq, osq⟩, hw''⟩ := hw'
                    subst hw''
                    have hbw6' : Below wr3.heap.size wr3 (grow (redrawn wr3 dq) osq) := below_regrown wr3 dq osq
                    generalize grow (redrawn wr3 dq) osq = w6 at hbw6' ⊢
                    clear cq' fg0 fn4 fd0 fd1 fd2 fd3 fd4 fd5 fd6
                    have hbw6 : Below w.heap.size w w6 := hBW3.trans (hbw6'.mono hBW3.size)
                    have hbx6 : Below (((w.alloc (.cells #[.slice p.es.A p.es.l.length p.es.c, .slice p.ns.A p.ns.l.length p.ns.c] 36)).alloc (.cells #[.int .i64 0, .int .i64 0] 38)).alloc (.cells #[.int .i64 (-1), .int .i64 (-1)] 38)).heap.size (((w.alloc (.cells #[.slice p.es.A p.es.l.length p.es.c, .slice p.ns.A p.ns.l.length p.ns.c] 36)).alloc (.cells #[.int .i64 0, .int .i64 0] 38)).alloc (.cells #[.int .i64 (-1), .int .i64 (-1)] 38)) w6 := hBX3.trans (hbw6'.mono hBX3.size)
                    have hbn6 : Below (wr2.alloc (.cells #[.string y.nm, .slice y.ins.A y.ins.l.length y.ins.c, .slice y.outs.A y.outs.l.length y.outs.c, .slice y.locs.A y.locs.l.length y.locs.c, .slice y.qs.A y.qs.l.length y.qs.c, .slice y.au.A y.au.l.length y.au.c, .slice y.asm.A y.asm.l.length y.asm.c, .slice y.ens.A y.ens.l.length y.ens.c] 56)).heap.size (wr2.alloc (.cells #[.string y.nm, .slice y.ins.A y.ins.l.length y.ins.c, .slice y.outs.A y.outs.l.length y.outs.c, .slice y.locs.A y.locs.l.length y.locs.c, .slice y.qs.A y.qs.l.length y.qs.c, .slice y.au.A y.au.l.length y.au.c, .slice y.asm.A y.asm.l.length y.asm.c, .slice y.ens.A y.ens.l.length y.ens.c] 56)) w6 := hbl3.trans (hbw6'.mono hbl3.size)
                    obtain ⟨g0, g1, g2, g3, g4, g5, g6, g7, g8⟩ := TB.out w6 hbx6
                    go_wp2
                    obtain ⟨k0, k1⟩ := set2w_cells g2 g3 (.int .i64 (k2)) (.int .i64 (j))
                    refine bodyPost_ret (v := .tuple #[.agg #[.int .i64 (k2), .int .i64 (j)], .int .i64 (v)]) (by simp [results, Tryz.results16, go_sem, k0, k1]) rfl ?_
                    exact ⟨rfl, bel_set2w (by repeat (first | (with_reducible exact Below.refl _ _) | (with_reducible assumption) | (with_reducible exact bel_box _) | (with_reducible refine bel_step ?_ (by with_reducible assumption)) | (with_reducible refine Below.drew ?_) | (with_reducible refine below_drewN ?_ _) | (with_reducible refine bel_alloc ?_ _))) (by omega) _ _⟩
                · obtain rfl : j = y.qs.l.length := by omega
                  have hU : U = (-1, talE p.es.l y) := by rw [← hJ.out, HGl.out, HRn'.out]
                  clear hJ HG HGl HU
                  generalize talE p.es.l y = v at *
                  subst hU
                  by_cases hv : v = 0
                  · subst hv
                    rw [if_pos rfl] at hst
                    have hn' : Hid (wheR (F (k2 + 1)) = V) := Lib.hid (by rw [← hst]; exact hK2.out)
                    clear hst hK2
                    go_wp2_with (go_at_call 49; (with_reducible refine (KL.out _ ?_).mono ?_); (focus ((repeat (first | (with_reducible exact Below.refl _ _) | (with_reducible assumption) | (with_reducible exact bel_box _) | (with_reducible refine bel_step ?_ (by with_reducible assumption)) | (with_reducible refine Below.drew ?_) | (with_reducible refine below_drewN ?_ _) | (with_reducible refine bel_alloc ?_ _))); done)); rintro e w7 ⟨rfl, hb7⟩; obtain ⟨n0, n1, n2, n3, n4, n5, n6, n7, n8⟩ := B1N (w := wr2) (W := w7) y (by repeat (first | (with_reducible exact Below.refl _ _) | (with_reducible assumption) | (with_reducible exact bel_box _) | (with_reducible refine bel_step ?_ (by with_reducible assumption)) | (with_reducible refine Below.drew ?_) | (with_reducible refine below_drewN ?_ _) | (with_reducible refine bel_alloc ?_ _))); have a4 := fun o => cell_al o n4; obtain ⟨g0, g1, g2, g3, g4, g5, g6, g7, g8⟩ := TB.out w7 (by repeat (first | (with_reducible exact Below.refl _ _) | (with_reducible assumption) | (with_reducible exact bel_box _) | (with_reducible refine bel_step ?_ (by with_reducible assumption)) | (with_reducible refine Below.drew ?_) | (with_reducible refine below_drewN ?_ _) | (with_reducible refine bel_alloc ?_ _))); have b0 := fun o => cell_al o g0; have b1 := fun o => cell_al o g1)
                    exact ⟨⟨k2 + 1, by omega, by congr 1, hn', (by repeat (first | (with_reducible exact Below.refl _ _) | (with_reducible assumption) | (with_reducible exact bel_box _) | (with_reducible refine bel_step ?_ (by with_reducible assumption)) | (with_reducible refine Below.drew ?_) | (with_reducible refine below_drewN ?_ _) | (with_reducible refine bel_alloc ?_ _)))⟩, by simp [intOf]; omega⟩
                  · rw [if_neg hv] at hst
                    have hv2 : V = (((k2 : Int), -1), v) := by rw [← hK2.out, hst, HR.out]
                    have e0 : (v == 0) = false := by simp [hv]
                    subst hv2
                    clear hst hK2 hv HV
                    go_wp2_with (go_at_call 49; (with_reducible refine (KL.out _ ?_).mono ?_); (focus ((repeat (first | (with_reducible exact Below.refl _ _) | (with_reducible assumption) | (with_reducible exact bel_box _) | (with_reducible refine bel_step ?_ (by with_reducible assumption)) | (with_reducible refine Below.drew ?_) | (with_reducible refine below_drewN ?_ _) | (with_reducible refine bel_alloc ?_ _))); done)); rintro e w7 ⟨rfl, hb7⟩; obtain ⟨n0, n1, n2, n3, n4, n5, n6, n7, n8⟩ := B1N (w := wr2) (W := w7) y (by repeat (first | (with_reducible exact Below.refl _ _) | (with_reducible assumption) | (with_reducible exact bel_box _) | (with_reducible refine bel_step ?_ (by with_reducible assumption)) | (with_reducible refine Below.drew ?_) | (with_reducible refine below_drewN ?_ _) | (with_reducible refine bel_alloc ?_ _))); have a4 := fun o => cell_al o n4; obtain ⟨g0, g1, g2, g3, g4, g5, g6, g7, g8⟩ := TB.out w7 (by repeat (first | (with_reducible exact Below.refl _ _) | (with_reducible assumption) | (with_reducible exact bel_box _) | (with_reducible refine bel_step ?_ (by with_reducible assumption)) | (with_reducible refine Below.drew ?_) | (with_reducible refine below_drewN ?_ _) | (with_reducible refine bel_alloc ?_ _))); have b0 := fun o => cell_al o g0; have b1 := fun o => cell_al o g1)
                    obtain ⟨k0, k1⟩ := set2w_cells g2 g3 (.int .i64 (k2)) (.int .i64 (-1))
                    refine bodyPost_ret (v := .tuple #[.agg #[.int .i64 (k2), .int .i64 (-1)], .int .i64 (v)]) (by simp [results, Tryz.results16, go_sem, k0, k1]) rfl ?_
                    exact ⟨rfl, bel_set2w (by repeat (first | (with_reducible exact Below.refl _ _) | (with_reducible assumption) | (with_reducible exact bel_box _) | (with_reducible refine bel_step ?_ (by with_reducible assumption)) | (with_reducible refine Below.drew ?_) | (with_reducible refine below_drewN ?_ _) | (with_reducible refine bel_alloc ?_ _))) (by omega) _ _⟩
            · rw [if_neg hz0] at hst
              have e0 : (hv == 0) = false := by simp [hz0]
              have hv2 : V = (((k2 : Int), -1), hv) := by rw [← hK2.out, hst, if_neg hz0, HR.out]
              subst hv2
              clear hst hK2 hz0 HV
              go_wp2_with (go_at_call 47; (with_reducible refine (KY.out _ ?_).mono ?_); (focus ((repeat (first | (with_reducible exact Below.refl _ _) | (with_reducible assumption) | (with_reducible exact bel_box _) | (with_reducible refine bel_step ?_ (by with_reducible assumption)) | (with_reducible refine Below.drew ?_) | (with_reducible refine below_drewN ?_ _) | (with_reducible refine bel_alloc ?_ _))); done)); rintro e w4 ⟨rfl, hb4⟩; obtain ⟨n0, n1, n2, n3, n4, n5, n6, n7, n8⟩ := B1N (w := wr2) (W := w4) y (by repeat (first | (with_reducible exact Below.refl _ _) | (with_reducible assumption) | (with_reducible exact bel_box _) | (with_reducible refine bel_step ?_ (by with_reducible assumption)) | (with_reducible refine Below.drew ?_) | (with_reducible refine below_drewN ?_ _) | (with_reducible refine bel_alloc ?_ _))); have a4 := fun o => cell_al o n4; obtain ⟨g0, g1, g2, g3, g4, g5, g6, g7, g8⟩ := TB.out w4 (by repeat (first | (with_reducible exact Below.refl _ _) | (with_reducible assumption) | (with_reducible exact bel_box _) | (with_reducible refine bel_step ?_ (by with_reducible assumption)) | (with_reducible refine Below.drew ?_) | (with_reducible refine below_drewN ?_ _) | (with_reducible refine bel_alloc ?_ _))); have b0 := fun o => cell_al o g0; have b1 := fun o => cell_al o g1)
              obtain ⟨k0, k1⟩ := set2w_cells g2 g3 (.int .i64 (k2)) (.int .i64 (-1))
              refine bodyPost_ret (v := .tuple #[.agg #[.int .i64 (k2), .int .i64 (-1)], .int .i64 (hv)]) (by simp [results, Tryz.results16, go_sem, k0, k1]) rfl ?_
              exact ⟨rfl, bel_set2w (by repeat (first | (with_reducible exact Below.refl _ _) | (with_reducible assumption) | (with_reducible exact bel_box _) | (with_reducible refine bel_step ?_ (by with_reducible assumption)) | (with_reducible refine Below.drew ?_) | (with_reducible refine below_drewN ?_ _) | (with_reducible refine bel_alloc ?_ _))) (by omega) _ _⟩
          · obtain rfl : k2 = p.ns.l.length := by omega
            have hv2 : V = ((0, 0), 0) := by rw [← hK2.out, HL.out, HRn.out]
            subst hv2
            clear hK2 HF HV HL
            go_wp2
            obtain ⟨k0, k1⟩ := set2w_cells g2 g3 (.int .i64 (0)) (.int .i64 (0))
            refine bodyPost_ret (v := .tuple #[.agg #[.int .i64 (0), .int .i64 (0)], .int .i64 (0)]) (by simp [results, Tryz.results16, go_sem, k0, k1]) rfl ?_
            exact ⟨rfl, bel_set2w (by repeat (first | (with_reducible exact Below.refl _ _) | (with_reducible assumption) | (with_reducible exact bel_box _) | (with_reducible refine bel_step ?_ (by with_reducible assumption)) | (with_reducible refine Below.drew ?_) | (with_reducible refine below_drewN ?_ _) | (with_reducible refine bel_alloc ?_ _))) (by omega) _ _⟩
  · rw [if_neg hz]
    clear KK
    obtain ⟨F1, hF0, hFl, HF1⟩ := errs_steps p.es.l enumE
    rw [← hF0] at hz ⊢
    obtain ⟨V1, hV⟩ : ∃ V, F1 0 = V := ⟨_, rfl⟩
    have HV1 := Lib.hid hV
    have HL1 := Lib.hid hFl
    rw [hV] at hz ⊢
    clear hF0 hFl hV
    have HZ := Lib.hid hz
    clear hz
    go_enter Tryz.func16, Tryz.ntmps16
    go_wp2
    go_loopw [5] (fun i wr => ∃ k : Nat, k ≤ p.es.l.length ∧ i = .int .i64 (k : Int) ∧ Hid (F1 k = V1) ∧ Below (((w.alloc (.cells #[.slice p.es.A p.es.l.length p.es.c, .slice p.ns.A p.ns.l.length p.ns.c] 36)).alloc (.cells #[.int .i64 0, .int .i64 0] 38)).alloc (.cells #[.int .i64 (-1), .int .i64 (-1)] 38)).heap.size (((w.alloc (.cells #[.slice p.es.A p.es.l.length p.es.c, .slice p.ns.A p.ns.l.length p.ns.c] 36)).alloc (.cells #[.int .i64 0, .int .i64 0] 38)).alloc (.cells #[.int .i64 (-1), .int .i64 (-1)] 38)) wr) (fun i _ => p.es.l.length - (intOf i).toNat)
    case atStart => exact ⟨0, by omega, rfl, HV1, (by repeat (first | (with_reducible exact Below.refl _ _) | (with_reducible assumption) | (with_reducible exact bel_box _) | (with_reducible refine bel_step ?_ (by with_reducible assumption)) | (with_reducible refine Below.drew ?_) | (with_reducible refine below_drewN ?_ _) | (with_reducible refine bel_alloc ?_ _)))⟩
    case round =>
      obtain ⟨k1, hk1, rfl, hK1, hbl1⟩ := hrel
      obtain ⟨wr1, rfl⟩ : ∃ wo : World, wo = wr := ⟨_, rfl⟩
      have hBW1 : Below w.heap.size w wr1 := (by repeat (first | (with_reducible exact Below.refl _ _) | (with_reducible assumption) | (with_reducible exact bel_box _) | (with_reducible refine bel_step ?_ (by with_reducible assumption)) | (with_reducible refine Below.drew ?_) | (with_reducible refine below_drewN ?_ _) | (with_reducible refine bel_alloc ?_ _)))
      obtain ⟨g0, g1, g2, g3, g4, g5, g6, g7, g8⟩ := TB.out wr1 hbl1
      have b0 := fun o => cell_al o g0
      have b1 := fun o => cell_al o g1
      by_cases hlt : k1 < p.es.l.length
      · obtain ⟨ad, y, hA, had, hy, c0, c1, _⟩ := (HRE.out.to hBW1).at_ hlt
        have hm := List.mem_of_getElem? hy
        rw [hA] at g0
        clear hA b0
        have b0 := fun o => cell_al o g0
        have hst := HF1.out k1 y hy
        have KY := Lib.hid (KE.out y hm)
        clear hy hm HF1
        generalize enumE y = v at *
        by_cases hv : v = 0
        · subst hv
          rw [orE0] at hst
          have hn : Hid (F1 (k1 + 1) = V1) := Lib.hid (hst.symm.trans hK1.out)
          clear hst hK1
          go_wp2_with (go_at_call 46; (with_reducible refine (KY.out _ ?_).mono ?_); (focus ((repeat (first | (with_reducible exact Below.refl _ _) | (with_reducible assumption) | (with_reducible exact bel_box _) | (with_reducible refine bel_step ?_ (by with_reducible assumption)) | (with_reducible refine Below.drew ?_) | (with_reducible refine below_drewN ?_ _) | (with_reducible refine bel_alloc ?_ _))); done)); rintro e w3 ⟨rfl, hb3⟩; obtain ⟨g0, g1, g2, g3, g4, g5, g6, g7, g8⟩ := TB.out w3 (by repeat (first | (with_reducible exact Below.refl _ _) | (with_reducible assumption) | (with_reducible exact bel_box _) | (with_reducible refine bel_step ?_ (by with_reducible assumption)) | (with_reducible refine Below.drew ?_) | (with_reducible refine below_drewN ?_ _) | (with_reducible refine bel_alloc ?_ _))); have b0 := fun o => cell_al o g0; have b1 := fun o => cell_al o g1)
          exact ⟨⟨k1 + 1, by omega, by congr 1, hn, (by repeat (first | (with_reducible exact Below.refl _ _) | (with_reducible assumption) | (with_reducible exact bel_box _) | (with_reducible refine bel_step ?_ (by with_reducible assumption)) | (with_reducible refine Below.drew ?_) | (with_reducible refine below_drewN ?_ _) | (with_reducible refine bel_alloc ?_ _)))⟩, by simp [intOf]; omega⟩
        · rw [orEn hv] at hst
          obtain rfl : v = V1 := hst.symm.trans hK1.out
          have e0 : (v == 0) = false := by simp [hv]
          clear hst hK1 hv HV1
          go_wp2_with (go_at_call 46; (with_reducible refine (KY.out _ ?_).mono ?_); (focus ((repeat (first | (with_reducible exact Below.refl _ _) | (with_reducible assumption) | (with_reducible exact bel_box _) | (with_reducible refine bel_step ?_ (by with_reducible assumption)) | (with_reducible refine Below.drew ?_) | (with_reducible refine below_drewN ?_ _) | (with_reducible refine bel_alloc ?_ _))); done)); rintro e w3 ⟨rfl, hb3⟩; obtain ⟨g0, g1, g2, g3, g4, g5, g6, g7, g8⟩ := TB.out w3 (by repeat (first | (with_reducible exact Below.refl _ _) | (with_reducible assumption) | (with_reducible exact bel_box _) | (with_reducible refine bel_step ?_ (by with_reducible assumption)) | (with_reducible refine Below.drew ?_) | (with_reducible refine below_drewN ?_ _) | (with_reducible refine bel_alloc ?_ _))); have b0 := fun o => cell_al o g0; have b1 := fun o => cell_al o g1)
          obtain ⟨k0, k1⟩ := set2w_cells g2 g3 (.int .i64 (-1)) (.int .i64 (-1))
          refine bodyPost_ret (v := .tuple #[.agg #[.int .i64 (-1), .int .i64 (-1)], .int .i64 (v)]) (by simp [results, Tryz.results16, go_sem, k0, k1]) rfl ?_
          exact ⟨rfl, bel_set2w (by repeat (first | (with_reducible exact Below.refl _ _) | (with_reducible assumption) | (with_reducible exact bel_box _) | (with_reducible refine bel_step ?_ (by with_reducible assumption)) | (with_reducible refine Below.drew ?_) | (with_reducible refine below_drewN ?_ _) | (with_reducible refine bel_alloc ?_ _))) (by omega) _ _⟩
      · obtain rfl : k1 = p.es.l.length := by omega
        exact absurd (hK1.out.symm.trans HL1.out) HZ.out
set_option maxHeartbeats 3000000 in
set_option maxRecDepth 20000 in
theorem rv_plain (p : Pt) (w : World) (hR : RdR w w.heap.size 8 NC p.ns) : Calls Tryz.prog 18 #[pV p] w (Bel (.bool (plnB p)) w) := by
  have HR := Lib.hid hR
  have h9 := hR.len
  unfold maxLen at h9
  clear hR
  obtain ⟨F, hF0, hFl, HF⟩ := idxF_steps (fun n : Nt => decide (0 < n.au.l.length)) p.ns.l
  obtain ⟨V, hV⟩ : ∃ V, F 0 = V := ⟨_, rfl⟩
  have HV := Lib.hid hV
  have HL := Lib.hid hFl
  have hp : plnB p = !(decide (0 ≤ V)) := by
    unfold plnB
    rw [← idxF_any _ _ 0, ← hF0, hV]
  rw [hp]
  clear hp
  clear hF0 hFl hV
  go_enter Tryz.func18, Tryz.ntmps18
  go_wp2
  go_loopw [3] (fun i wr => ∃ k : Nat, k ≤ p.ns.l.length ∧ i = .int .i64 (k : Int) ∧ Hid (F k = V) ∧ Below (w.alloc (.cells #[.slice p.es.A p.es.l.length p.es.c, .slice p.ns.A p.ns.l.length p.ns.c] 36)).heap.size (w.alloc (.cells #[.slice p.es.A p.es.l.length p.es.c, .slice p.ns.A p.ns.l.length p.ns.c] 36)) wr) (fun i _ => p.ns.l.length - (intOf i).toNat)
  case atStart => exact ⟨0, by omega, rfl, HV, (by repeat (first | (with_reducible exact Below.refl _ _) | (with_reducible assumption) | (with_reducible exact bel_box _) | (with_reducible refine bel_step ?_ (by with_reducible assumption)) | (with_reducible refine Below.drew ?_) | (with_reducible refine below_drewN ?_ _) | (with_reducible refine bel_alloc ?_ _)))⟩
  case round =>
    obtain ⟨k, hk, rfl, hK, hbl⟩ := hrel
    have hBW : Below w.heap.size w wr := (by repeat (first | (with_reducible exact Below.refl _ _) | (with_reducible assumption) | (with_reducible exact bel_box _) | (with_reducible refine bel_step ?_ (by with_reducible assumption)) | (with_reducible refine Below.drew ?_) | (with_reducible refine below_drewN ?_ _) | (with_reducible refine bel_alloc ?_ _)))
    obtain ⟨g0, g1, g2⟩ := B1P (w := w) (W := wr) p hbl
    by_cases hlt : k < p.ns.l.length
    · obtain ⟨ad, y, hA, had, hy, hm, ⟨c0, c1, c2, c3, c4, c5, c6, c7⟩⟩ := (HR.out.blw oneB_N hBW hBW.size).at_ hlt
      rw [hA] at g1
      clear hA
      have hst := HF.out k y hy
      clear hy hm HF
      cases q : decide (0 < y.au.l.length)
      · have q2 : ¬ 0 < y.au.l.length := of_decide_eq_false q
        rw [if_neg (by simp [q])] at hst
        have hn : Hid (F (k + 1) = V) := Lib.hid (hst.symm.trans hK.out)
        clear hst hK
        have q3 : ((y.au.l.length : Nat) : Int) ≤ 0 := by omega
        go_wp2
        exact ⟨⟨k + 1, by omega, by congr 1, hn, (by repeat (first | (with_reducible exact Below.refl _ _) | (with_reducible assumption) | (with_reducible exact bel_box _) | (with_reducible refine bel_step ?_ (by with_reducible assumption)) | (with_reducible refine Below.drew ?_) | (with_reducible refine below_drewN ?_ _) | (with_reducible refine bel_alloc ?_ _)))⟩, by simp [intOf]; omega⟩
      · have q2 : 0 < y.au.l.length := of_decide_eq_true q
        rw [if_pos q] at hst
        have hv : V = (k : Int) := hK.out.symm.trans hst
        subst hv
        clear hst hK HV
        have q3 : (0 : Int) < ((y.au.l.length : Nat) : Int) := by omega
        go_wp2
        have hd : decide ((0 : Int) ≤ (k : Int)) = true := decide_eq_true (by omega)
        rw [hd]
        go_ret
        exact ⟨rfl, (by repeat (first | (with_reducible exact Below.refl _ _) | (with_reducible assumption) | (with_reducible exact bel_box _) | (with_reducible refine bel_step ?_ (by with_reducible assumption)) | (with_reducible refine Below.drew ?_) | (with_reducible refine below_drewN ?_ _) | (with_reducible refine bel_alloc ?_ _)))⟩
    · obtain rfl : k = p.ns.l.length := by omega
      have hv : V = -1 := hK.out.symm.trans HL.out
      subst hv
      clear hK HF HV HL
      go_wp2
      go_ret
      exact ⟨rfl, (by repeat (first | (with_reducible exact Below.refl _ _) | (with_reducible assumption) | (with_reducible exact bel_box _) | (with_reducible refine bel_step ?_ (by with_reducible assumption)) | (with_reducible refine Below.drew ?_) | (with_reducible refine below_drewN ?_ _) | (with_reducible refine bel_alloc ?_ _)))⟩
set_option maxHeartbeats 3000000 in
set_option maxRecDepth 20000 in
theorem rv_find (p : Pt) (s : ByteArray) (w : World) (hR : RdR w w.heap.size 8 NC p.ns) : Calls Tryz.prog 20 #[pV p, .string s] w (Bel (.tuple #[.int .i64 (max (fndI p s) 0), .bool (decide (0 ≤ fndI p s))]) w) := by
  have HR := Lib.hid hR
  have h9 := hR.len
  unfold maxLen at h9
  clear hR
  obtain ⟨F, hF0, hFl, HF⟩ := idxF_steps (fun n : Nt => n.nm.toList == s.toList) p.ns.l
  obtain ⟨V, hV⟩ : ∃ V, F 0 = V := ⟨_, rfl⟩
  have HV := Lib.hid hV
  have HL := Lib.hid hFl
  have hp : fndI p s = V := by
    unfold fndI
    rw [← hF0, hV]
  rw [hp]
  clear hp
  clear hF0 hFl hV
  go_enter Tryz.func20, Tryz.ntmps20
  go_wp2
  go_loopw [6] (fun i wr => ∃ k : Nat, k ≤ p.ns.l.length ∧ i = .int .i64 (k : Int) ∧ Hid (F k = V) ∧ Below (w.alloc (.cells #[.slice p.es.A p.es.l.length p.es.c, .slice p.ns.A p.ns.l.length p.ns.c] 36)).heap.size (w.alloc (.cells #[.slice p.es.A p.es.l.length p.es.c, .slice p.ns.A p.ns.l.length p.ns.c] 36)) wr) (fun i _ => p.ns.l.length - (intOf i).toNat)
  case atStart => exact ⟨0, by omega, rfl, HV, (by repeat (first | (with_reducible exact Below.refl _ _) | (with_reducible assumption) | (with_reducible exact bel_box _) | (with_reducible refine bel_step ?_ (by with_reducible assumption)) | (with_reducible refine Below.drew ?_) | (with_reducible refine below_drewN ?_ _) | (with_reducible refine bel_alloc ?_ _)))⟩
  case round =>
    obtain ⟨k, hk, rfl, hK, hbl⟩ := hrel
    have hBW : Below w.heap.size w wr := (by repeat (first | (with_reducible exact Below.refl _ _) | (with_reducible assumption) | (with_reducible exact bel_box _) | (with_reducible refine bel_step ?_ (by with_reducible assumption)) | (with_reducible refine Below.drew ?_) | (with_reducible refine below_drewN ?_ _) | (with_reducible refine bel_alloc ?_ _)))
    obtain ⟨g0, g1, g2⟩ := B1P (w := w) (W := wr) p hbl
    by_cases hlt : k < p.ns.l.length
    · obtain ⟨ad, y, hA, had, hy, hm, ⟨c0, c1, c2, c3, c4, c5, c6, c7⟩⟩ := (HR.out.blw oneB_N hBW hBW.size).at_ hlt
      rw [hA] at g1
      clear hA
      have hst := HF.out k y hy
      clear hy hm HF
      cases q : (y.nm.toList == s.toList)
      · skip
        rw [if_neg (by simp [q])] at hst
        have hn : Hid (F (k + 1) = V) := Lib.hid (hst.symm.trans hK.out)
        clear hst hK
        skip
        go_wp2
        exact ⟨⟨k + 1, by omega, by congr 1, hn, (by repeat (first | (with_reducible exact Below.refl _ _) | (with_reducible assumption) | (with_reducible exact bel_box _) | (with_reducible refine bel_step ?_ (by with_reducible assumption)) | (with_reducible refine Below.drew ?_) | (with_reducible refine below_drewN ?_ _) | (with_reducible refine bel_alloc ?_ _)))⟩, by simp [intOf]; omega⟩
      · skip
        rw [if_pos q] at hst
        have hv : V = (k : Int) := hK.out.symm.trans hst
        subst hv
        clear hst hK HV
        skip
        go_wp2
        have hd : decide ((0 : Int) ≤ (k : Int)) = true := decide_eq_true (by omega)
        have hx : max (k : Int) 0 = (k : Int) := by omega
        rw [hd, hx]
        refine bodyPost_ret (v := .tuple #[.int .i64 (k : Int), .bool true]) (by simp [results, Tryz.results20, go_sem]) rfl ?_
        exact ⟨rfl, (by repeat (first | (with_reducible exact Below.refl _ _) | (with_reducible assumption) | (with_reducible exact bel_box _) | (with_reducible refine bel_step ?_ (by with_reducible assumption)) | (with_reducible refine Below.drew ?_) | (with_reducible refine below_drewN ?_ _) | (with_reducible refine bel_alloc ?_ _)))⟩
    · obtain rfl : k = p.ns.l.length := by omega
      have hv : V = -1 := hK.out.symm.trans HL.out
      subst hv
      clear hK HF HV HL
      go_wp2
      refine bodyPost_ret (v := .tuple #[.int .i64 0, .bool false]) (by simp [results, Tryz.results20, go_sem]) rfl ?_
      exact ⟨rfl, (by repeat (first | (with_reducible exact Below.refl _ _) | (with_reducible assumption) | (with_reducible exact bel_box _) | (with_reducible refine bel_step ?_ (by with_reducible assumption)) | (with_reducible refine Below.drew ?_) | (with_reducible refine below_drewN ?_ _) | (with_reducible refine bel_alloc ?_ _)))⟩
end Go.Proofs.YthlapepjebidgaaGreatDoor
/- ShapeChecks: the walk. -/
namespace Go.Proofs.YthlapepjebidgaaGreatDoor
set_option linter.unusedVariables false
set_option linter.unusedSimpArgs false
open Go.RowKit Go.Sort
set_option maxHeartbeats 3000000 in
set_option maxRecDepth 20000 in
theorem shapechecks_any (p : Pt) (s : ByteArray) (w : World) (hs : Std w) (hP : RsP w w.heap.size p) (hm : ∀ n ∈ p.ns.l, SmN 1048576 n) : Calls Tryz.prog 4 #[pV p, .string s] w (Bel (.bool true) w) := by
  have K1 : Hid (∀ W, Below w.heap.size w W → Calls Tryz.prog 15 #[pV p] W (Bel (.tuple #[.agg #[.int .i64 (chkE p).1.1, .int .i64 (chkE p).1.2], .int .i64 (chkE p).2]) W)) := Lib.hid fun W h => sh_check p W (hs.to h) (hP.blw h h.size)
  have K2 : Hid (∀ W, Below w.heap.size w W → Calls Tryz.prog 16 #[pV p] W (Bel (.tuple #[.agg #[.int .i64 (chkE p).1.1, .int .i64 (chkE p).1.2], .int .i64 (chkE p).2]) W)) := Lib.hid fun W h => rv_check p W (hP.blw h h.size) hm
  have K3 : Hid (∀ W, Below w.heap.size w W → Calls Tryz.prog 17 #[pV p] W (Bel (.bool (plnB p)) W)) := Lib.hid fun W h => sh_plain p W (hP.2.1.blw oneB_N h h.size)
  have K4 : Hid (∀ W, Below w.heap.size w W → Calls Tryz.prog 18 #[pV p] W (Bel (.bool (plnB p)) W)) := Lib.hid fun W h => rv_plain p W (hP.2.1.blw oneB_N h h.size)
  have K5 : Hid (∀ W, Below w.heap.size w W → Calls Tryz.prog 19 #[pV p, .string s] W (Bel (.tuple #[.int .i64 (max (fndI p s) 0), .bool (decide (0 ≤ fndI p s))]) W)) := Lib.hid fun W h => sh_find p s W (hP.2.1.blw oneB_N h h.size)
  have K6 : Hid (∀ W, Below w.heap.size w W → Calls Tryz.prog 20 #[pV p, .string s] W (Bel (.tuple #[.int .i64 (max (fndI p s) 0), .bool (decide (0 ≤ fndI p s))]) W)) := Lib.hid fun W h => rv_find p s W (hP.2.1.blw oneB_N h h.size)
  have K7 : Hid (∀ W, Below w.heap.size w W → Calls Tryz.prog 21 #[] W (Bel (.bool true) W)) := Lib.hid fun W h => awake_any W (hs.to h)
  generalize max (fndI p s) 0 = m1 at *
  generalize decide (0 ≤ fndI p s) = m2 at *
  generalize plnB p = v at *
  generalize chkE p = c at *
  obtain ⟨⟨x1, x2⟩, x3⟩ := c
  simp only [pV] at K1 K2 K3 K4 K5 K6 ⊢
  clear hs hP hm
  have TB : Hid (∀ W, Below (w.alloc (.cells #[.slice p.es.A p.es.l.length p.es.c, .slice p.ns.A p.ns.l.length p.ns.c] 36)).heap.size (w.alloc (.cells #[.slice p.es.A p.es.l.length p.es.c, .slice p.ns.A p.ns.l.length p.ns.c] 36)) W → W.cell? ⟨w.heap.size, 0, none⟩ = some (.slice p.es.A p.es.l.length p.es.c) ∧ W.cell? ⟨w.heap.size, 1, none⟩ = some (.slice p.ns.A p.ns.l.length p.ns.c)) := Lib.hid fun W h => ⟨(B1P p h).1, (B1P p h).2.1⟩
  go_enter Tryz.func4, Tryz.ntmps4
  go_wp2_with (first | (go_at_call 15; (with_reducible refine (K1.out _ ?_).mono ?_); (focus ((repeat (first | (with_reducible exact Below.refl _ _) | (with_reducible assumption) | (with_reducible exact bel_box _) | (with_reducible refine bel_step ?_ (by with_reducible assumption)) | (with_reducible refine Below.drew ?_) | (with_reducible refine below_drewN ?_ _) | (with_reducible refine bel_alloc ?_ _))); done)); rintro e w1 ⟨rfl, hb1⟩; obtain ⟨g0, g1⟩ := TB.out w1 (by repeat (first | (with_reducible exact Below.refl _ _) | (with_reducible assumption) | (with_reducible exact bel_box _) | (with_reducible refine bel_step ?_ (by with_reducible assumption)) | (with_reducible refine Below.drew ?_) | (with_reducible refine below_drewN ?_ _) | (with_reducible refine bel_alloc ?_ _))); have b0 := fun o => cell_al o g0; have b1 := fun o => cell_al o g1) | (go_at_call 16; (with_reducible refine (K2.out _ ?_).mono ?_); (focus ((repeat (first | (with_reducible exact Below.refl _ _) | (with_reducible assumption) | (with_reducible exact bel_box _) | (with_reducible refine bel_step ?_ (by with_reducible assumption)) | (with_reducible refine Below.drew ?_) | (with_reducible refine below_drewN ?_ _) | (with_reducible refine bel_alloc ?_ _))); done)); rintro e w2 ⟨rfl, hb2⟩; obtain ⟨g0, g1⟩ := TB.out w2 (by repeat (first | (with_reducible exact Below.refl _ _) | (with_reducible assumption) | (with_reducible exact bel_box _) | (with_reducible refine bel_step ?_ (by with_reducible assumption)) | (with_reducible refine Below.drew ?_) | (with_reducible refine below_drewN ?_ _) | (with_reducible refine bel_alloc ?_ _)))))
  generalize hw3 : w2.alloc _ = w3
  have hz3 : w3.heap.size = w2.heap.size + 1 := by rw [← hw3, World.size_alloc]
  have hb3 : Below w2.heap.size w2 w3 := by rw [← hw3]; exact bel_box _
  have e0 : w3.cell? ⟨w2.heap.size, 0, none⟩ = some (.int .i64 x1) := by rw [← hw3]; simp [go_sem]
  have e1 : w3.cell? ⟨w2.heap.size, 1, none⟩ = some (.int .i64 x2) := by rw [← hw3]; simp [go_sem]
  have d0 : w3.cell? ⟨w1.heap.size, 0, none⟩ = some (.int .i64 x1) := (hb3.cell (p := ⟨w1.heap.size, 0, none⟩) (by have := hb2.size; rw [World.size_alloc] at this; exact this)).trans ((hb2.cell (p := ⟨w1.heap.size, 0, none⟩) (by rw [World.size_alloc]; exact Nat.lt_succ_self _)).trans (by simp [go_sem]))
  have d1 : w3.cell? ⟨w1.heap.size, 1, none⟩ = some (.int .i64 x2) := (hb3.cell (p := ⟨w1.heap.size, 1, none⟩) (by have := hb2.size; rw [World.size_alloc] at this; exact this)).trans ((hb2.cell (p := ⟨w1.heap.size, 1, none⟩) (by rw [World.size_alloc]; exact Nat.lt_succ_self _)).trans (by simp [go_sem]))
  obtain ⟨g0, g1⟩ := TB.out w3 (by repeat (first | (with_reducible exact Below.refl _ _) | (with_reducible assumption) | (with_reducible exact bel_box _) | (with_reducible refine bel_step ?_ (by with_reducible assumption)) | (with_reducible refine Below.drew ?_) | (with_reducible refine below_drewN ?_ _) | (with_reducible refine bel_alloc ?_ _)))
  have hv' : Below (w.alloc (.cells #[.slice p.es.A p.es.l.length p.es.c, .slice p.ns.A p.ns.l.length p.ns.c] 36)).heap.size (w.alloc (.cells #[.slice p.es.A p.es.l.length p.es.c, .slice p.ns.A p.ns.l.length p.ns.c] 36)) w3 := (by repeat (first | (with_reducible exact Below.refl _ _) | (with_reducible assumption) | (with_reducible exact bel_box _) | (with_reducible refine bel_step ?_ (by with_reducible assumption)) | (with_reducible refine Below.drew ?_) | (with_reducible refine below_drewN ?_ _) | (with_reducible refine bel_alloc ?_ _)))
  have hv : Below w.heap.size w w3 := (by repeat (first | (with_reducible exact Below.refl _ _) | (with_reducible assumption) | (with_reducible exact bel_box _) | (with_reducible refine bel_step ?_ (by with_reducible assumption)) | (with_reducible refine Below.drew ?_) | (with_reducible refine below_drewN ?_ _) | (with_reducible refine bel_alloc ?_ _)))
  clear hw3 b0 b1 hb1 hb2 hb3
  have k0 := cell_regrown g0
  have k1 := cell_regrown g1
  have k2 := cell_regrown d0
  have k3 := cell_regrown d1
  have k4 := cell_regrown e0
  have k5 := cell_regrown e1
  have c3 := fun dd os => Calls.regrown_of (K3.out (Sort.grow (redrawn w3 dd) os) (hv.trans ((below_regrown w3 dd os).mono hv.size)))
  have c4 := fun dd os => Calls.regrown_of (K4.out (Sort.grow (redrawn w3 dd) os) (hv.trans ((below_regrown w3 dd os).mono hv.size)))
  refine wp_region_quiet_below (by kernel_rfl) (by kernel_rfl) ?_
  repeat (quiet_step (first | with_reducible exact c3 _ _ | with_reducible exact c4 _ _))
  refine wpQuiet_nil ?_
  intro _ hw'
  obtain ⟨⟨dq, osq⟩, hw''⟩ := hw'
  subst hw''
  have hvq : Below w.heap.size w (grow (redrawn w3 dq) osq) := hv.trans ((below_regrown w3 dq osq).mono hv.size)
  have hvq' := hv'.trans ((below_regrown w3 dq osq).mono hv'.size)
  generalize grow (redrawn w3 dq) osq = w4 at hvq hvq' ⊢
  clear k0 k1 k2 k3 k4 k5 c3 c4 g0 g1 d0 d1 e0 e1 hv hv' hz3
  obtain ⟨g0, g1⟩ := TB.out w4 hvq'
  go_wp2_with (first | (go_at_call 19; (with_reducible refine (K5.out _ ?_).mono ?_); (focus ((repeat (first | (with_reducible exact Below.refl _ _) | (with_reducible assumption) | (with_reducible exact bel_box _) | (with_reducible refine bel_step ?_ (by with_reducible assumption)) | (with_reducible refine Below.drew ?_) | (with_reducible refine below_drewN ?_ _) | (with_reducible refine bel_alloc ?_ _))); done)); rintro e w5 ⟨rfl, hb5⟩; obtain ⟨g0, g1⟩ := TB.out w5 (hvq'.trans ((show Below w4.heap.size w4 w5 from (by repeat (first | (with_reducible exact Below.refl _ _) | (with_reducible assumption) | (with_reducible exact bel_box _) | (with_reducible refine bel_step ?_ (by with_reducible assumption)) | (with_reducible refine Below.drew ?_) | (with_reducible refine below_drewN ?_ _) | (with_reducible refine bel_alloc ?_ _)))).mono hvq'.size))) | (go_at_call 20; (with_reducible refine (K6.out _ ?_).mono ?_); (focus ((repeat (first | (with_reducible exact Below.refl _ _) | (with_reducible assumption) | (with_reducible exact bel_box _) | (with_reducible refine bel_step ?_ (by with_reducible assumption)) | (with_reducible refine Below.drew ?_) | (with_reducible refine below_drewN ?_ _) | (with_reducible refine bel_alloc ?_ _))); done)); rintro e w6 ⟨rfl, hb6⟩) | (go_at_call 21; (with_reducible refine (K7.out _ ?_).mono ?_); (focus ((repeat (first | (with_reducible exact Below.refl _ _) | (with_reducible assumption) | (with_reducible exact bel_box _) | (with_reducible refine bel_step ?_ (by with_reducible assumption)) | (with_reducible refine Below.drew ?_) | (with_reducible refine below_drewN ?_ _) | (with_reducible refine bel_alloc ?_ _))); done)); rintro e w7 ⟨rfl, hb7⟩))
  go_ret
  exact ⟨rfl, (by repeat (first | (with_reducible exact Below.refl _ _) | (with_reducible assumption) | (with_reducible exact bel_box _) | (with_reducible refine bel_step ?_ (by with_reducible assumption)) | (with_reducible refine Below.drew ?_) | (with_reducible refine below_drewN ?_ _) | (with_reducible refine bel_alloc ?_ _)))⟩
end Go.Proofs.YthlapepjebidgaaGreatDoor
