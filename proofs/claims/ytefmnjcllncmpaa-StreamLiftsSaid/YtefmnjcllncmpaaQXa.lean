/- Texts of one chain, in one file. -/
import Derived.Lib.QuietBelow
import Derived.Test.YtefmnjcllncmpaaQD
/- StreamLifts. -/
namespace Go.Proofs.Ytefmnjcllncmpaa
set_option linter.unusedVariables false
set_option linter.unusedSimpArgs false
open Go.RowKit Go.Sort
theorem wpQuiet_no {P : Program} {ops : Array Oper} {C : World → Prop} {Q : Act → Prop} {a : Act} {o : Oper} {rest : List Oper} (h : Region.wanted o (yielded ops a.tmps) = false) : wpQuiet P ops C Q (o :: rest) a = wpQuiet P ops C Q rest (a.put o.dst undef) := by
  rw [wpQuiet, h]
  rfl
theorem repl_len (n : Nat) (c : Int × Int) : (List.replicate n c).length = n := List.length_replicate
set_option maxHeartbeats 4000000 in
set_option maxRecDepth 20000 in
theorem lifts_any (op v n : Int) (A : Option Addr) (c : Nat) (ls : List St) (w : World) (hA : RdS w w.heap.size A ls) (hl : ls.length ≤ 9223372036854775807) (h3 : ∀ s ∈ ls, s.l.length ≤ 9223372036854775807) :
    Calls Try.prog 3 #[.int .i64 op, .slice A ls.length c, .int .i64 v, .int .i64 n] w (Bel (.bool true) w) := by
  have HA := Lib.hid hA
  have KG : Hid (∀ W, Below w.heap.size w W → Calls Try.prog 9 #[.slice A ls.length c] W (Bel (.bool (longB ls)) W)) := Lib.hid fun W hb => long_any A c ls W (hA.to hb) hl h3
  have KL := Lib.hid lives_any
  cases hlg : longB ls
  · rw [hlg] at KG
    obtain ⟨hl8, h300⟩ := longB_no hlg
    have h1m : ∀ s ∈ ls, s.l.length ≤ 1000000 := fun s hs => Nat.le_trans (h300 s hs) (by omega)
    have htg : tog ls ≤ 1000000 := by
      cases ls with
      | nil => simp [tog]
      | cons s r => exact Nat.le_trans (tog_le (s := s) (by simp)) (h1m s (by simp))
    have P1 : Hid (∀ W, Below w.heap.size w W → Calls Try.prog 12 #[.int .i64 op, .slice A ls.length c] W (NewH ((rowsTo ls (tog ls)).map (liftF op)) (tog ls) W)) := Lib.hid fun W h => (liftP_any op A c ls W (hA.to h) (by omega) h1m).mono fun e w' => newH (map_len _ _ _)
    have Q1 : Hid (∀ W, Below w.heap.size w W → Calls Try.prog 13 #[.int .i64 op, .slice A ls.length c] W (NewH ((rowsTo ls (tog ls)).map (liftF op)) (tog ls) W)) := Lib.hid fun W h => (rliftP_any op A c ls W (hA.to h) (by omega) h1m htg).mono fun e w' => newH (map_len _ _ _)
    have S1 := same_h ((rowsTo ls (tog ls)).map (liftF op)) (tog ls) (map_len _ _ _) htg
    have P2 : Hid (∀ W, Calls Try.prog 14 #[.int .i64 v, .int .i64 n] W (NewH (List.replicate (constN n) (1, v)) (constN n) W)) := Lib.hid fun W => (constP_any v n W).mono fun e w' => newH (repl_len _ _)
    have Q2 : Hid (∀ W, Calls Try.prog 15 #[.int .i64 v, .int .i64 n] W (NewH (List.replicate (constN n) (1, v)) (constN n) W)) := Lib.hid fun W => (rconst_any v n W).mono fun e w' => newH (repl_len _ _)
    have S2 := same_h (List.replicate (constN n) (1, v)) (constN n) (repl_len _ _) (by have := constN_le n; omega)
    generalize (rowsTo ls (tog ls)).map (liftF op) = x1 at *
    generalize tog ls = n1 at *
    generalize List.replicate (constN n) ((1, v) : Int × Int) = x2 at *
    generalize constN n = n2 at *
    by_cases h3l : ls.length < 3
    · have g3 : decide ((ls.length : Int) < 3) = true := decide_eq_true (by omega)
      clear hA hlg h300 h1m htg h3
      go_enter Try.func3, Try.ntmps3
      go_wp2_with (first
        | (go_at_call 9; (with_reducible refine (KG.out _ ?_).mono ?_); (focus ((repeat (first | (with_reducible exact Below.refl _ _) | (with_reducible assumption) | (with_reducible exact bel_box _) | (with_reducible refine bel_step ?_ (by with_reducible assumption)) | (with_reducible refine Below.drew ?_) | (with_reducible refine below_drewN ?_ _) | (with_reducible refine bel_alloc ?_ _))); done)); rintro e w0 ⟨rfl, hb0⟩)
        | (go_at_call 12; (with_reducible refine (P1.out _ ?_).mono ?_); (focus ((repeat (first | (with_reducible exact Below.refl _ _) | (with_reducible assumption) | (with_reducible exact bel_box _) | (with_reducible refine bel_step ?_ (by with_reducible assumption)) | (with_reducible refine Below.drew ?_) | (with_reducible refine below_drewN ?_ _) | (with_reducible refine bel_alloc ?_ _))); done)); rintro e w1 ⟨A1, c1, rfl, R1, hb1⟩)
        | (go_at_call 13; (with_reducible refine (Q1.out _ ?_).mono ?_); (focus ((repeat (first | (with_reducible exact Below.refl _ _) | (with_reducible assumption) | (with_reducible exact bel_box _) | (with_reducible refine bel_step ?_ (by with_reducible assumption)) | (with_reducible refine Below.drew ?_) | (with_reducible refine below_drewN ?_ _) | (with_reducible refine bel_alloc ?_ _))); done)); rintro e w2 ⟨A2, c2, rfl, R2, hb2⟩)
        | (go_at_call 14; (with_reducible refine (P2.out _).mono ?_); rintro e w3 ⟨A3, c3, rfl, R3, hb3⟩)
        | (go_at_call 15; (with_reducible refine (Q2.out _).mono ?_); rintro e w4 ⟨A4, c4, rfl, R4, hb4⟩)
        | (go_at_call 11; (with_reducible refine (S1.out _ _ _ _ _ (htoR R1 ?_) (htoR R2 ?_)).mono ?_); (focus ((repeat (first | (with_reducible exact Below.refl _ _) | (with_reducible assumption) | (with_reducible exact bel_box _) | (with_reducible refine bel_step ?_ (by with_reducible assumption)) | (with_reducible refine Below.drew ?_) | (with_reducible refine below_drewN ?_ _) | (with_reducible refine bel_alloc ?_ _))); done)); (focus ((repeat (first | (with_reducible exact Below.refl _ _) | (with_reducible assumption) | (with_reducible exact bel_box _) | (with_reducible refine bel_step ?_ (by with_reducible assumption)) | (with_reducible refine Below.drew ?_) | (with_reducible refine below_drewN ?_ _) | (with_reducible refine bel_alloc ?_ _))); done)); rintro e u1 ⟨rfl, hu1⟩)
        | (go_at_call 11; (with_reducible refine (S2.out _ _ _ _ _ (htoR R3 ?_) (htoR R4 ?_)).mono ?_); (focus ((repeat (first | (with_reducible exact Below.refl _ _) | (with_reducible assumption) | (with_reducible exact bel_box _) | (with_reducible refine bel_step ?_ (by with_reducible assumption)) | (with_reducible refine Below.drew ?_) | (with_reducible refine below_drewN ?_ _) | (with_reducible refine bel_alloc ?_ _))); done)); (focus ((repeat (first | (with_reducible exact Below.refl _ _) | (with_reducible assumption) | (with_reducible exact bel_box _) | (with_reducible refine bel_step ?_ (by with_reducible assumption)) | (with_reducible refine Below.drew ?_) | (with_reducible refine below_drewN ?_ _) | (with_reducible refine bel_alloc ?_ _))); done)); rintro e u2 ⟨rfl, hu2⟩)
        | (go_at_call 10; (with_reducible refine (KL.out _).mono ?_); rintro e u4 ⟨rfl, hu4⟩))
      have hbU : Below w.heap.size w u2 := (by repeat (first | (with_reducible exact Below.refl _ _) | (with_reducible assumption) | (with_reducible exact bel_box _) | (with_reducible refine bel_step ?_ (by with_reducible assumption)) | (with_reducible refine Below.drew ?_) | (with_reducible refine below_drewN ?_ _) | (with_reducible refine bel_alloc ?_ _)))
      have cc := fun dd os => Calls.regrown_of (KL.out (grow (redrawn u2 dd) os))
      refine wp_region_quiet_below (by kernel_rfl) (by kernel_rfl) ?_
      quiet_step (fail)
      quiet_step (fail)
      quiet_step (fail)
      quiet_step (fail)
      rw [wpQuiet_no]
      rotate_left
      (focus (go_simp; done))
      rw [wpQuiet_no]
      rotate_left
      (focus (go_simp; done))
      rw [wpQuiet_no]
      rotate_left
      (focus (go_simp; done))
      rw [wpQuiet_no]
      rotate_left
      (focus (go_simp; done))
      rw [wpQuiet_no]
      rotate_left
      (focus (go_simp; done))
      rw [wpQuiet_no]
      rotate_left
      (focus (go_simp; done))
      rw [wpQuiet_no]
      rotate_left
      (focus (go_simp; done))
      rw [wpQuiet_no]
      rotate_left
      (focus (go_simp; done))
      rw [wpQuiet_no]
      rotate_left
      (focus (go_simp; done))
      rw [wpQuiet_no]
      rotate_left
      (focus (go_simp; done))
      rw [wpQuiet_no]
      rotate_left
      (focus (go_simp; done))
      rw [wpQuiet_no]
      rotate_left
      (focus (go_simp; done))
      rw [wpQuiet_no]
      rotate_left
      (focus (go_simp; done))
      rw [wpQuiet_no]
      rotate_left
      (focus (go_simp; done))
      rw [wpQuiet_no]
      rotate_left
      (focus (go_simp; done))
      rw [wpQuiet_no]
      rotate_left
      (focus (go_simp; done))
      rw [wpQuiet_no]
      rotate_left
      (focus (go_simp; done))
      rw [wpQuiet_no]
      rotate_left
      (focus (go_simp; done))
      rw [wpQuiet_no]
      rotate_left
      (focus (go_simp; done))
      rw [wpQuiet_no]
      rotate_left
      (focus (go_simp; done))
      rw [wpQuiet_no]
      rotate_left
      (focus (go_simp; done))
      repeat (quiet_step (first | with_reducible exact cc _ _))
      refine wpQuiet_nil ?_
      intro _ hw'
      obtain ⟨⟨dq, osq⟩, hw''⟩ := hw'
      subst hw''
      have hbV : Below w.heap.size w (grow (redrawn u2 dq) osq) := hbU.trans ((below_regrown u2 dq osq).mono hbU.size)
      generalize grow (redrawn u2 dq) osq = u9 at hbV ⊢
      go_wp2
      go_ret
      exact ⟨rfl, hbV⟩
    · have g3 : decide ((ls.length : Int) < 3) = false := decide_eq_false (by omega)
      obtain ⟨ad, s0, rfl, had, hs0, hc0, hr0⟩ := hA.at_ (k := 0) (by omega)
      obtain ⟨ad1, s1, hA1, _, hs1, hc1, hr1⟩ := hA.at_ (k := 1) (by omega)
      obtain ⟨ad2, s2, hA2, _, hs2, hc2, hr2⟩ := hA.at_ (k := 2) (by omega)
      obtain rfl : ad = ad1 := by simpa using hA1
      obtain rfl : ad = ad2 := by simpa using hA2
      have m0 := h1m s0 (List.mem_of_getElem? hs0)
      have m1 := h1m s1 (List.mem_of_getElem? hs1)
      have m2 := h1m s2 (List.mem_of_getElem? hs2)
      have t0 := tog_le (ls := [s0, s1, s2]) (s := s0) (by simp)
      have P3 : Hid (∀ W, Below w.heap.size w W → Calls Try.prog 16 #[.slice s0.A s0.l.length s0.c, .slice s1.A s1.l.length s1.c, .slice s2.A s2.l.length s2.c] W (NewH ((rowsTo [s0, s1, s2] (tog [s0, s1, s2])).map ifF) (tog [s0, s1, s2]) W)) := Lib.hid fun W h => (ifP_any s0.A s1.A s2.A s0.c s1.c s2.c s0.l s1.l s2.l W (hr0.to h) (hr1.to h) (hr2.to h) m0 m1 m2).mono fun e w' => newH (map_len _ _ _)
      have Q3 : Hid (∀ W, Below w.heap.size w W → Calls Try.prog 17 #[.slice s0.A s0.l.length s0.c, .slice s1.A s1.l.length s1.c, .slice s2.A s2.l.length s2.c] W (NewH ((rowsTo [s0, s1, s2] (tog [s0, s1, s2])).map ifF) (tog [s0, s1, s2]) W)) := Lib.hid fun W h => (rif_any s0.A s1.A s2.A s0.c s1.c s2.c s0.l s1.l s2.l W (hr0.to h) (hr1.to h) (hr2.to h) m0 m1 m2).mono fun e w' => newH (map_len _ _ _)
      have S3 := same_h ((rowsTo [s0, s1, s2] (tog [s0, s1, s2])).map ifF) (tog [s0, s1, s2]) (map_len _ _ _) (by omega)
      have hsp : ad.spot = none := spot_of (by rw [add_zero'] at hc0; exact hc0)
      have ha1 : ad.add 1 = ⟨ad.block, ad.off + 1, none⟩ := by simp [Addr.add, hsp]
      have ha2 : ad.add 2 = ⟨ad.block, ad.off + 2, none⟩ := by simp [Addr.add, hsp]
      have HC : Hid (∀ W, Below w.heap.size w W → W.cell? (ad.add 0) = some (.slice s0.A s0.l.length s0.c) ∧ W.cell? (ad.add 1) = some (.slice s1.A s1.l.length s1.c) ∧ W.cell? (ad.add 2) = some (.slice s2.A s2.l.length s2.c)) := Lib.hid fun W h => ⟨(h.cell (by rw [add_block]; exact had)).trans hc0, (h.cell (by rw [add_block]; exact had)).trans hc1, (h.cell (by rw [add_block]; exact had)).trans hc2⟩
      generalize (rowsTo [s0, s1, s2] (tog [s0, s1, s2])).map ifF = x3 at *
      generalize tog [s0, s1, s2] = n3 at *
      rw [add_zero', ha1, ha2] at HC
      have i0 : (0 : Int) < (ls.length : Int) := by omega
      have iq : ¬ ls = [] := by rintro rfl; simp at i0
      have iz : 0 < ls.length := by omega
      have i1 : (1 : Int) < (ls.length : Int) := by omega
      have i2 : (2 : Int) < (ls.length : Int) := by omega
      clear hA hlg h300 h1m htg h3 hr0 hr1 hr2 hc0 hc1 hc2 hs0 hs1 hs2 hA1 hA2 had t0 ha1 ha2 hsp
      generalize s0.l.length = z0 at *
      generalize s1.l.length = z1 at *
      generalize s2.l.length = z2 at *
      have hz := add_zero' ad
      go_enter Try.func3, Try.ntmps3
      go_wp2_with (first
        | (go_at_call 9; (with_reducible refine (KG.out _ ?_).mono ?_); (focus ((repeat (first | (with_reducible exact Below.refl _ _) | (with_reducible assumption) | (with_reducible exact bel_box _) | (with_reducible refine bel_step ?_ (by with_reducible assumption)) | (with_reducible refine Below.drew ?_) | (with_reducible refine below_drewN ?_ _) | (with_reducible refine bel_alloc ?_ _))); done)); rintro e w0 ⟨rfl, hb0⟩)
        | (go_at_call 12; (with_reducible refine (P1.out _ ?_).mono ?_); (focus ((repeat (first | (with_reducible exact Below.refl _ _) | (with_reducible assumption) | (with_reducible exact bel_box _) | (with_reducible refine bel_step ?_ (by with_reducible assumption)) | (with_reducible refine Below.drew ?_) | (with_reducible refine below_drewN ?_ _) | (with_reducible refine bel_alloc ?_ _))); done)); rintro e w1 ⟨A1, c1, rfl, R1, hb1⟩)
        | (go_at_call 13; (with_reducible refine (Q1.out _ ?_).mono ?_); (focus ((repeat (first | (with_reducible exact Below.refl _ _) | (with_reducible assumption) | (with_reducible exact bel_box _) | (with_reducible refine bel_step ?_ (by with_reducible assumption)) | (with_reducible refine Below.drew ?_) | (with_reducible refine below_drewN ?_ _) | (with_reducible refine bel_alloc ?_ _))); done)); rintro e w2 ⟨A2, c2, rfl, R2, hb2⟩)
        | (go_at_call 14; (with_reducible refine (P2.out _).mono ?_); rintro e w3 ⟨A3, c3, rfl, R3, hb3⟩)
        | (go_at_call 15; (with_reducible refine (Q2.out _).mono ?_); rintro e w4 ⟨A4, c4, rfl, R4, hb4⟩)
        | (go_at_call 11; (with_reducible refine (S1.out _ _ _ _ _ (htoR R1 ?_) (htoR R2 ?_)).mono ?_); (focus ((repeat (first | (with_reducible exact Below.refl _ _) | (with_reducible assumption) | (with_reducible exact bel_box _) | (with_reducible refine bel_step ?_ (by with_reducible assumption)) | (with_reducible refine Below.drew ?_) | (with_reducible refine below_drewN ?_ _) | (with_reducible refine bel_alloc ?_ _))); done)); (focus ((repeat (first | (with_reducible exact Below.refl _ _) | (with_reducible assumption) | (with_reducible exact bel_box _) | (with_reducible refine bel_step ?_ (by with_reducible assumption)) | (with_reducible refine Below.drew ?_) | (with_reducible refine below_drewN ?_ _) | (with_reducible refine bel_alloc ?_ _))); done)); rintro e u1 ⟨rfl, hu1⟩)
        | (go_at_call 11; (with_reducible refine (S2.out _ _ _ _ _ (htoR R3 ?_) (htoR R4 ?_)).mono ?_); (focus ((repeat (first | (with_reducible exact Below.refl _ _) | (with_reducible assumption) | (with_reducible exact bel_box _) | (with_reducible refine bel_step ?_ (by with_reducible assumption)) | (with_reducible refine Below.drew ?_) | (with_reducible refine below_drewN ?_ _) | (with_reducible refine bel_alloc ?_ _))); done)); (focus ((repeat (first | (with_reducible exact Below.refl _ _) | (with_reducible assumption) | (with_reducible exact bel_box _) | (with_reducible refine bel_step ?_ (by with_reducible assumption)) | (with_reducible refine Below.drew ?_) | (with_reducible refine below_drewN ?_ _) | (with_reducible refine bel_alloc ?_ _))); done)); rintro e u2 ⟨rfl, hu2⟩; obtain ⟨f0, f1, f2⟩ := HC.out u2 (by repeat (first | (with_reducible exact Below.refl _ _) | (with_reducible assumption) | (with_reducible exact bel_box _) | (with_reducible refine bel_step ?_ (by with_reducible assumption)) | (with_reducible refine Below.drew ?_) | (with_reducible refine below_drewN ?_ _) | (with_reducible refine bel_alloc ?_ _))))
        | (fail))
      go_region_held3 (fun W => W.cell? ad = some (.slice s0.A z0 s0.c) ∧ W.cell? ⟨ad.block, ad.off + 1, none⟩ = some (.slice s1.A z1 s1.c) ∧ W.cell? ⟨ad.block, ad.off + 2, none⟩ = some (.slice s2.A z2 s2.c))
        ((refine HC.out _ ?_; (focus ((repeat (first | (with_reducible exact Below.refl _ _) | (with_reducible assumption) | (with_reducible exact bel_box _) | (with_reducible refine bel_step ?_ (by with_reducible assumption)) | (with_reducible refine Below.drew ?_) | (with_reducible refine below_drewN ?_ _) | (with_reducible refine bel_alloc ?_ _))); done))))
        (first
          | (go_at_call 16; (with_reducible refine (P3.out _ ?_).mono ?_); (focus ((repeat (first | (with_reducible exact Below.refl _ _) | (with_reducible assumption) | (with_reducible exact bel_box _) | (with_reducible refine bel_step ?_ (by with_reducible assumption)) | (with_reducible refine Below.drew ?_) | (with_reducible refine below_drewN ?_ _) | (with_reducible refine bel_alloc ?_ _))); done)); rintro e w5 ⟨A5, c5, rfl, R5, hb5⟩)
          | (go_at_call 17; (with_reducible refine (Q3.out _ ?_).mono ?_); (focus ((repeat (first | (with_reducible exact Below.refl _ _) | (with_reducible assumption) | (with_reducible exact bel_box _) | (with_reducible refine bel_step ?_ (by with_reducible assumption)) | (with_reducible refine Below.drew ?_) | (with_reducible refine below_drewN ?_ _) | (with_reducible refine bel_alloc ?_ _))); done)); rintro e w6 ⟨A6, c6, rfl, R6, hb6⟩)
          | (go_at_call 11; (with_reducible refine (S3.out _ _ _ _ _ (htoR R5 ?_) (htoR R6 ?_)).mono ?_); (focus ((repeat (first | (with_reducible exact Below.refl _ _) | (with_reducible assumption) | (with_reducible exact bel_box _) | (with_reducible refine bel_step ?_ (by with_reducible assumption)) | (with_reducible refine Below.drew ?_) | (with_reducible refine below_drewN ?_ _) | (with_reducible refine bel_alloc ?_ _))); done)); (focus ((repeat (first | (with_reducible exact Below.refl _ _) | (with_reducible assumption) | (with_reducible exact bel_box _) | (with_reducible refine bel_step ?_ (by with_reducible assumption)) | (with_reducible refine Below.drew ?_) | (with_reducible refine below_drewN ?_ _) | (with_reducible refine bel_alloc ?_ _))); done)); rintro e u3 ⟨rfl, hu3⟩)
          | (go_at_call 10; (with_reducible refine (KL.out _).mono ?_); rintro e u4 ⟨rfl, hu4⟩))
      all_goals go_wp2
      all_goals go_ret
      all_goals exact ⟨rfl, (by repeat (first | (with_reducible exact Below.refl _ _) | (with_reducible assumption) | (with_reducible exact bel_box _) | (with_reducible refine bel_step ?_ (by with_reducible assumption)) | (with_reducible refine Below.drew ?_) | (with_reducible refine below_drewN ?_ _) | (with_reducible refine bel_alloc ?_ _)))⟩
  · rw [hlg] at KG
    clear hA hlg hl h3
    go_enter Try.func3, Try.ntmps3
    go_wp2_with (first
      | (go_at_call 9; (with_reducible refine (KG.out _ ?_).mono ?_); (focus ((repeat (first | (with_reducible exact Below.refl _ _) | (with_reducible assumption) | (with_reducible exact bel_box _) | (with_reducible refine bel_step ?_ (by with_reducible assumption)) | (with_reducible refine Below.drew ?_) | (with_reducible refine below_drewN ?_ _) | (with_reducible refine bel_alloc ?_ _))); done)); rintro e w0 ⟨rfl, hb0⟩)
      | (go_at_call 10; (with_reducible refine (KL.out _).mono ?_); rintro e u4 ⟨rfl, hu4⟩))
    go_ret
    exact ⟨rfl, (by repeat (first | (with_reducible exact Below.refl _ _) | (with_reducible assumption) | (with_reducible exact bel_box _) | (with_reducible refine bel_step ?_ (by with_reducible assumption)) | (with_reducible refine Below.drew ?_) | (with_reducible refine below_drewN ?_ _) | (with_reducible refine bel_alloc ?_ _)))⟩
end Go.Proofs.Ytefmnjcllncmpaa
