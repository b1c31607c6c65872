/- Texts of one chain, in one file. -/
import Derived.Lib.QuietBelow
import Derived.Test.YtefmnjcllncmpaaQD
/- StreamLifts. -/
namespace Go.Proofs.Ytefmnjcllncmpaa
set_option linter.unusedVariables false
set_option linter.unusedSimpArgs false
open Go.RowKit Go.Sort
theorem wpQuiet_no {P : Program} {ops : Array Oper} {C : World → Prop} {Q : Act → Prop} {a : Act} {o : Oper} {rest : List Oper} (h : Region.wanted o (yielded ops a.tmps) = false) : wpQuiet P ops C Q (o :: rest) a = wpQuiet P ops C Q rest (a.put o.dst undef) := by
  rw [wpQuiet, h]
  rfl
end Go.Proofs.Ytefmnjcllncmpaa
/- StreamClocks. -/
namespace Go.Proofs.Ytefmnjcllncmpaa
set_option linter.unusedVariables false
set_option linter.unusedSimpArgs false
open Go.RowKit Go.Sort
def NewJ (xs : List Int) (n : Nat) (w : World) (e : Ending) (w' : World) : Prop := ∃ A c, e = .returned (.slice A n c) ∧ Hid (Rd w' w'.heap.size A (is_ xs)) ∧ Below w.heap.size w w'
theorem newJ {xs : List Int} {n : Nat} {w w' : World} {e : Ending} (hn : xs.length = n) (h : NewI xs w e w') : NewJ xs n w e w' := by
  subst hn
  obtain ⟨A, c, e1, h1, h2⟩ := h
  exact ⟨A, c, e1, Lib.hid h1, h2⟩
theorem Rd.insts {w : World} {A : Option Addr} {l : List Int} {t : Nat} (h : Hid (Rd w w.heap.size A (is_ l))) (ht : t < l.length) : ∃ ad e, A = some ad ∧ l[t]? = some e ∧ Hid (∀ W, Below w.heap.size w W → W.cell? (ad.add t) = some (.int .i64 e)) := by
  obtain ⟨ad, e, hA, hb, he, hc⟩ := h.out.int_at ht
  exact ⟨ad, e, hA, he, Lib.hid fun W hW => (hW.cell (by rw [add_block]; exact hb)).trans hc⟩
set_option maxHeartbeats 8000000 in
set_option maxRecDepth 20000 in
theorem clocks_any (C A P Q : Option Addr) (f c p q : Nat) (x : List (Int × Int)) (ls : List St) (h g : List Bool) (tag : Int) (w : World) (hC : RdC w w.heap.size C x) (hA : RdS w w.heap.size A ls) (hP : Rd w w.heap.size P (bls h)) (hQ : Rd w w.heap.size Q (bls g)) (hx : x.length ≤ 9223372036854775807) (hl : ls.length ≤ 9223372036854775807) (h3 : ∀ s ∈ ls, s.l.length ≤ 9223372036854775807) (hh : h.length ≤ 140737488355328) (hg : g.length ≤ 140737488355328) :
    Calls Try.prog 5 #[.slice C x.length f, .slice A ls.length c, .int .i64 tag, .agg #[.slice P h.length p, .slice Q g.length q]] w (Bel (.bool true) w) := by
  have hbw0 : Below w.heap.size w (w.alloc (.cells #[.slice P h.length p, .slice Q g.length q] 36)) := bel_box _
  have hBW := Bk.new w 36 #[.slice P h.length p, .slice Q g.length q]
  have hC0 := hC.to hbw0
  have hA0 := hA.to hbw0
  have hP0 := hP.to hbw0
  have hQ0 := hQ.to hbw0
  have HBW : Hid (∀ W, Below (w.alloc (.cells #[.slice P h.length p, .slice Q g.length q] 36)).heap.size (w.alloc (.cells #[.slice P h.length p, .slice Q g.length q] 36)) W → W.cell? ⟨w.heap.size, 0, none⟩ = some (.slice P h.length p) ∧ W.cell? ⟨w.heap.size, 1, none⟩ = some (.slice Q g.length q)) := Lib.hid fun W hb => ⟨(hBW.go hb).cell 0, (hBW.go hb).cell 1⟩
  clear hC hA hP hQ hBW
  go_enter Try.func5, Try.ntmps5
  go_wp2_with (fail)
  generalize w.alloc (.cells #[.slice P h.length p, .slice Q g.length q] 36) = W0 at *
  have hC := Lib.hid hC0
  have hA := Lib.hid hA0
  have HQ := Lib.hid hQ0
  have KG : Hid (∀ W, Below W0.heap.size W0 W → Calls Try.prog 9 #[.slice A ls.length c] W (Bel (.bool (longB ls)) W)) := Lib.hid fun W hb => long_any A c ls W (hA0.to hb) hl h3
  have KL := Lib.hid lives_any
  have HW0 := Lib.hid hbw0
  cases hlg : longB ls
  · rw [hlg] at KG
    by_cases hx3 : 300 < x.length
    · have g1 : (300 : Int) < (x.length : Int) := by omega
      clear hC0 hA0 hP0 hQ0 hlg h3 hl hx
      go_wp2_with (first
        | (go_at_call 9; (with_reducible refine (KG.out _ ?_).mono ?_); (focus ((repeat (first | (with_reducible exact Below.refl _ _) | (with_reducible assumption) | (with_reducible exact bel_box _) | (with_reducible refine bel_step ?_ (by with_reducible assumption)) | (with_reducible refine Below.drew ?_) | (with_reducible refine below_drewN ?_ _) | (with_reducible refine bel_alloc ?_ _))); done)); rintro e w0 ⟨rfl, hb0⟩)
        | (go_at_call 10; (with_reducible refine (KL.out _).mono ?_); rintro e u4 ⟨rfl, hu4⟩))
      go_ret
      exact ⟨rfl, (by repeat (first | (with_reducible exact Below.refl _ _) | (with_reducible assumption) | (with_reducible exact bel_box _) | (with_reducible refine bel_step ?_ (by with_reducible assumption)) | (with_reducible refine Below.drew ?_) | (with_reducible refine below_drewN ?_ _) | (with_reducible refine bel_alloc ?_ _)))⟩
    · have g1 : ¬ (300 : Int) < (x.length : Int) := by omega
      by_cases hw2 : 200 < h.length + g.length
      · have g2 : (200 : Int) < (h.length : Int) + (g.length : Int) := by omega
        clear hC0 hA0 hP0 hQ0 hlg h3 hl hx
        go_wp2_with (first
          | (go_at_call 9; (with_reducible refine (KG.out _ ?_).mono ?_); (focus ((repeat (first | (with_reducible exact Below.refl _ _) | (with_reducible assumption) | (with_reducible exact bel_box _) | (with_reducible refine bel_step ?_ (by with_reducible assumption)) | (with_reducible refine Below.drew ?_) | (with_reducible refine below_drewN ?_ _) | (with_reducible refine bel_alloc ?_ _))); done)); rintro e w0 ⟨rfl, hb0⟩; obtain ⟨y0, y1⟩ := HBW.out w0 (by repeat (first | (with_reducible exact Below.refl _ _) | (with_reducible assumption) | (with_reducible exact bel_box _) | (with_reducible refine bel_step ?_ (by with_reducible assumption)) | (with_reducible refine Below.drew ?_) | (with_reducible refine below_drewN ?_ _) | (with_reducible refine bel_alloc ?_ _))))
          | (go_at_call 10; (with_reducible refine (KL.out _).mono ?_); rintro e u4 ⟨rfl, hu4⟩))
        go_ret
        exact ⟨rfl, (by repeat (first | (with_reducible exact Below.refl _ _) | (with_reducible assumption) | (with_reducible exact bel_box _) | (with_reducible refine bel_step ?_ (by with_reducible assumption)) | (with_reducible refine Below.drew ?_) | (with_reducible refine below_drewN ?_ _) | (with_reducible refine bel_alloc ?_ _)))⟩
      · have g2 : ¬ (200 : Int) < (h.length : Int) + (g.length : Int) := by omega
        obtain ⟨hl8, h300⟩ := longB_no hlg
        have h1m : ∀ s ∈ ls, s.l.length ≤ 1000000 := fun s hs => Nat.le_trans (h300 s hs) (by omega)
        have htg : tog (⟨C, f, x⟩ :: ls) ≤ 1000000 := Nat.le_trans (tog_le (s := ⟨C, f, x⟩) (by simp)) (by simp only; omega)
        have htw : tog [⟨C, f, x⟩] = x.length := tog1 _
        have P1 : Hid (∀ W, Below W0.heap.size W0 W → Calls Try.prog 24 #[.slice C x.length f, .slice A ls.length c] W (NewH ((rowsTo (⟨C, f, x⟩ :: ls) (tog (⟨C, f, x⟩ :: ls))).map mergeF) (tog (⟨C, f, x⟩ :: ls)) W)) := Lib.hid fun W hb => (mergeP_any C A f c x ls W (hC0.to hb) (hA0.to hb) (by omega) (by omega) h1m).mono fun e w' => newH (map_len _ _ _)
        have Q1 : Hid (∀ W, Below W0.heap.size W0 W → Calls Try.prog 25 #[.slice C x.length f, .slice A ls.length c] W (NewH ((rowsTo (⟨C, f, x⟩ :: ls) (tog (⟨C, f, x⟩ :: ls))).map mergeF) (tog (⟨C, f, x⟩ :: ls)) W)) := Lib.hid fun W hb => (rmergeP_any C A f c x ls W (hC0.to hb) (hA0.to hb) (by omega) (by omega) h1m).mono fun e w' => newH (map_len _ _ _)
        have S1 := same_h ((rowsTo (⟨C, f, x⟩ :: ls) (tog (⟨C, f, x⟩ :: ls))).map mergeF) (tog (⟨C, f, x⟩ :: ls)) (map_len _ _ _) htg
        have P2 : Hid (∀ W, Below W0.heap.size W0 W → Calls Try.prog 26 #[.agg #[.slice P h.length p, .slice Q g.length q], .slice C x.length f] W (NewH (outT (wordS h g) 0 [⟨C, f, x⟩] (tog [⟨C, f, x⟩])) (tog [⟨C, f, x⟩]) W)) := Lib.hid fun W hb => (word_any P Q C p q f h g x W (hP0.to hb) (hQ0.to hb) (hC0.to hb) hh hg (by omega)).mono fun e w' => newH (outT_length _ _ _ _)
        have Q2 : Hid (∀ W, Below W0.heap.size W0 W → Calls Try.prog 27 #[.agg #[.slice P h.length p, .slice Q g.length q], .slice C x.length f] W (NewH (outT (wordS h g) 0 [⟨C, f, x⟩] (tog [⟨C, f, x⟩])) (tog [⟨C, f, x⟩]) W)) := Lib.hid fun W hb => (rword_any P Q C p q f h g x W (hP0.to hb) (hQ0.to hb) (hC0.to hb) hh hg (by omega)).mono fun e w' => newH (outT_length _ _ _ _)
        have S2 := same_h (outT (wordS h g) 0 [⟨C, f, x⟩] (tog [⟨C, f, x⟩])) (tog [⟨C, f, x⟩]) (outT_length _ _ _ _) (by omega)
        have P3 : Hid (∀ W, Below W0.heap.size W0 W → Calls Try.prog 28 #[.slice C x.length f] W (NewJ (dens x) (dens x).length W)) := Lib.hid fun W hb => (dense_any C f x W (hC0.to hb) (by omega)).mono fun e w' => newJ rfl
        have Q3 : Hid (∀ W, Below W0.heap.size W0 W → Calls Try.prog 29 #[.slice C x.length f] W (NewJ (dens x) (dens x).length W)) := Lib.hid fun W hb => (rdense_any C f x W (hC0.to hb) (by omega)).mono fun e w' => newJ rfl
        have hd : (dens x).length ≤ 300 := by
          have := dens_len x x.length
          rw [List.take_length] at this
          omega
        generalize (rowsTo (⟨C, f, x⟩ :: ls) (tog (⟨C, f, x⟩ :: ls))).map mergeF = x1 at *
        generalize tog (⟨C, f, x⟩ :: ls) = n1 at *
        generalize outT (wordS h g) 0 [⟨C, f, x⟩] (tog [⟨C, f, x⟩]) = x2 at *
        generalize tog [⟨C, f, x⟩] = n2 at *
        generalize dens x = ds at *
        clear hlg h3 htg htw hl hx hP0 hQ0 HQ
        go_wp2_with (go_at_call 9; (with_reducible refine (KG.out _ ?_).mono ?_); (focus ((repeat (first | (with_reducible exact Below.refl _ _) | (with_reducible assumption) | (with_reducible exact bel_box _) | (with_reducible refine bel_step ?_ (by with_reducible assumption)) | (with_reducible refine Below.drew ?_) | (with_reducible refine below_drewN ?_ _) | (with_reducible refine bel_alloc ?_ _))); done)); rintro e w0 ⟨rfl, hb0⟩; obtain ⟨y0, y1⟩ := HBW.out w0 (by repeat (first | (with_reducible exact Below.refl _ _) | (with_reducible assumption) | (with_reducible exact bel_box _) | (with_reducible refine bel_step ?_ (by with_reducible assumption)) | (with_reducible refine Below.drew ?_) | (with_reducible refine below_drewN ?_ _) | (with_reducible refine bel_alloc ?_ _))))
        go_region_held3 (fun W => W.cell? ⟨w.heap.size, 0, none⟩ = some (.slice P h.length p) ∧ W.cell? ⟨w.heap.size, 1, none⟩ = some (.slice Q g.length q))
          ((refine HBW.out _ ?_; (focus ((repeat (first | (with_reducible exact Below.refl _ _) | (with_reducible assumption) | (with_reducible exact bel_box _) | (with_reducible refine bel_step ?_ (by with_reducible assumption)) | (with_reducible refine Below.drew ?_) | (with_reducible refine below_drewN ?_ _) | (with_reducible refine bel_alloc ?_ _))); done))))
          (first
            | (go_at_call 24; (with_reducible refine (P1.out _ ?_).mono ?_); (focus ((repeat (first | (with_reducible exact Below.refl _ _) | (with_reducible assumption) | (with_reducible exact bel_box _) | (with_reducible refine bel_step ?_ (by with_reducible assumption)) | (with_reducible refine Below.drew ?_) | (with_reducible refine below_drewN ?_ _) | (with_reducible refine bel_alloc ?_ _))); done)); rintro e w1 ⟨A1, c1, rfl, R1, hb1⟩)
            | (go_at_call 25; (with_reducible refine (Q1.out _ ?_).mono ?_); (focus ((repeat (first | (with_reducible exact Below.refl _ _) | (with_reducible assumption) | (with_reducible exact bel_box _) | (with_reducible refine bel_step ?_ (by with_reducible assumption)) | (with_reducible refine Below.drew ?_) | (with_reducible refine below_drewN ?_ _) | (with_reducible refine bel_alloc ?_ _))); done)); rintro e w2 ⟨A2, c2, rfl, R2, hb2⟩)
            | (go_at_call 11; (with_reducible refine (S1.out _ _ _ _ _ (htoR R1 ?_) (htoR R2 ?_)).mono ?_); (focus ((repeat (first | (with_reducible exact Below.refl _ _) | (with_reducible assumption) | (with_reducible exact bel_box _) | (with_reducible refine bel_step ?_ (by with_reducible assumption)) | (with_reducible refine Below.drew ?_) | (with_reducible refine below_drewN ?_ _) | (with_reducible refine bel_alloc ?_ _))); done)); (focus ((repeat (first | (with_reducible exact Below.refl _ _) | (with_reducible assumption) | (with_reducible exact bel_box _) | (with_reducible refine bel_step ?_ (by with_reducible assumption)) | (with_reducible refine Below.drew ?_) | (with_reducible refine below_drewN ?_ _) | (with_reducible refine bel_alloc ?_ _))); done)); rintro e u1 ⟨rfl, hu1⟩)
            | (go_at_call 26; (with_reducible refine (P2.out _ ?_).mono ?_); (focus ((repeat (first | (with_reducible exact Below.refl _ _) | (with_reducible assumption) | (with_reducible exact bel_box _) | (with_reducible refine bel_step ?_ (by with_reducible assumption)) | (with_reducible refine Below.drew ?_) | (with_reducible refine below_drewN ?_ _) | (with_reducible refine bel_alloc ?_ _))); done)); rintro e w3 ⟨A3, c3, rfl, R3, hb3⟩)
            | (go_at_call 27; (with_reducible refine (Q2.out _ ?_).mono ?_); (focus ((repeat (first | (with_reducible exact Below.refl _ _) | (with_reducible assumption) | (with_reducible exact bel_box _) | (with_reducible refine bel_step ?_ (by with_reducible assumption)) | (with_reducible refine Below.drew ?_) | (with_reducible refine below_drewN ?_ _) | (with_reducible refine bel_alloc ?_ _))); done)); rintro e w4 ⟨A4, c4, rfl, R4, hb4⟩)
            | (go_at_call 11; (with_reducible refine (S2.out _ _ _ _ _ (htoR R3 ?_) (htoR R4 ?_)).mono ?_); (focus ((repeat (first | (with_reducible exact Below.refl _ _) | (with_reducible assumption) | (with_reducible exact bel_box _) | (with_reducible refine bel_step ?_ (by with_reducible assumption)) | (with_reducible refine Below.drew ?_) | (with_reducible refine below_drewN ?_ _) | (with_reducible refine bel_alloc ?_ _))); done)); (focus ((repeat (first | (with_reducible exact Below.refl _ _) | (with_reducible assumption) | (with_reducible exact bel_box _) | (with_reducible refine bel_step ?_ (by with_reducible assumption)) | (with_reducible refine Below.drew ?_) | (with_reducible refine below_drewN ?_ _) | (with_reducible refine bel_alloc ?_ _))); done)); rintro e u2 ⟨rfl, hu2⟩))
        all_goals
          go_wp2_with (first
            | (go_at_call 28; (with_reducible refine (P3.out _ ?_).mono ?_); (focus ((repeat (first | (with_reducible exact Below.refl _ _) | (with_reducible assumption) | (with_reducible exact bel_box _) | (with_reducible refine bel_step ?_ (by with_reducible assumption)) | (with_reducible refine Below.drew ?_) | (with_reducible refine below_drewN ?_ _) | (with_reducible refine bel_alloc ?_ _))); done)); rintro e w5 ⟨A5, c5, rfl, R5, hb5⟩)
            | (go_at_call 29; (with_reducible refine (Q3.out _ ?_).mono ?_); (focus ((repeat (first | (with_reducible exact Below.refl _ _) | (with_reducible assumption) | (with_reducible exact bel_box _) | (with_reducible refine bel_step ?_ (by with_reducible assumption)) | (with_reducible refine Below.drew ?_) | (with_reducible refine below_drewN ?_ _) | (with_reducible refine bel_alloc ?_ _))); done)); rintro e w6 ⟨A6, c6, rfl, R6, hb6⟩))
        go_loopw [11] (fun i wr => ∃ k : Nat, k ≤ ds.length ∧ i = .int .i64 (k : Int) ∧ Below W0.heap.size W0 wr ∧ Below w5.heap.size w5 wr ∧ Below w6.heap.size w6 wr) (fun i _ => ds.length - (intOf i).toNat)
        case atStart => exact ⟨0, by omega, rfl, (by repeat (first | (with_reducible exact Below.refl _ _) | (with_reducible assumption) | (with_reducible exact bel_box _) | (with_reducible refine bel_step ?_ (by with_reducible assumption)) | (with_reducible refine Below.drew ?_) | (with_reducible refine below_drewN ?_ _) | (with_reducible refine bel_alloc ?_ _))), (by repeat (first | (with_reducible exact Below.refl _ _) | (with_reducible assumption) | (with_reducible exact bel_box _) | (with_reducible refine bel_step ?_ (by with_reducible assumption)) | (with_reducible refine Below.drew ?_) | (with_reducible refine below_drewN ?_ _) | (with_reducible refine bel_alloc ?_ _))), (by repeat (first | (with_reducible exact Below.refl _ _) | (with_reducible assumption) | (with_reducible exact bel_box _) | (with_reducible refine bel_step ?_ (by with_reducible assumption)) | (with_reducible refine Below.drew ?_) | (with_reducible refine below_drewN ?_ _) | (with_reducible refine bel_alloc ?_ _)))⟩
        case round =>
          obtain ⟨k, hk, rfl, hbl, hbl5, hbl6⟩ := hrel
          by_cases hkn : k < ds.length
          · obtain ⟨adA, e0, rfl, hea, HEA⟩ := Rd.insts R5 hkn
            obtain ⟨adB, e1, rfl, heb, HEB⟩ := Rd.insts R6 hkn
            obtain rfl : e0 = e1 := by rw [hea] at heb; exact Option.some.inj heb
            have HK : Hid (∀ W, Below w5.heap.size w5 W → Below w6.heap.size w6 W → W.cell? (adA.add k) = some (.int .i64 e0) ∧ W.cell? (adB.add k) = some (.int .i64 e0)) := Lib.hid fun W h1 h2 => ⟨HEA.out W h1, HEB.out W h2⟩
            have i0 : (0 : Int) ≤ (k : Int) := by omega
            have i1 : (k : Int) < (ds.length : Int) := by omega
            obtain ⟨q0, q1⟩ := HK.out wr hbl5 hbl6
            clear hea heb HEA HEB P1 P2 P3 Q1 Q2 Q3 S1 S2 KG hC0 hA0
            go_wp2_with (fail)
            go_region_held3 (fun W => W.cell? (adA.add k) = some (.int .i64 e0) ∧ W.cell? (adB.add k) = some (.int .i64 e0))
              ((refine HK.out _ ?_ ?_; (focus ((repeat (first | (with_reducible exact Below.refl _ _) | (with_reducible assumption) | (with_reducible exact bel_box _) | (with_reducible refine bel_step ?_ (by with_reducible assumption)) | (with_reducible refine Below.drew ?_) | (with_reducible refine below_drewN ?_ _) | (with_reducible refine bel_alloc ?_ _))); done)); (focus ((repeat (first | (with_reducible exact Below.refl _ _) | (with_reducible assumption) | (with_reducible exact bel_box _) | (with_reducible refine bel_step ?_ (by with_reducible assumption)) | (with_reducible refine Below.drew ?_) | (with_reducible refine below_drewN ?_ _) | (with_reducible refine bel_alloc ?_ _))); done))))
              (first | (fail))
            go_wp2
            go_roundw
            case rel => exact ⟨k + 1, by omega, by go_num, (by repeat (first | (with_reducible exact Below.refl _ _) | (with_reducible assumption) | (with_reducible exact bel_box _) | (with_reducible refine bel_step ?_ (by with_reducible assumption)) | (with_reducible refine Below.drew ?_) | (with_reducible refine below_drewN ?_ _) | (with_reducible refine bel_alloc ?_ _))), (by repeat (first | (with_reducible exact Below.refl _ _) | (with_reducible assumption) | (with_reducible exact bel_box _) | (with_reducible refine bel_step ?_ (by with_reducible assumption)) | (with_reducible refine Below.drew ?_) | (with_reducible refine below_drewN ?_ _) | (with_reducible refine bel_alloc ?_ _))), (by repeat (first | (with_reducible exact Below.refl _ _) | (with_reducible assumption) | (with_reducible exact bel_box _) | (with_reducible refine bel_step ?_ (by with_reducible assumption)) | (with_reducible refine Below.drew ?_) | (with_reducible refine below_drewN ?_ _) | (with_reducible refine bel_alloc ?_ _)))⟩
            case measure => simp [intOf]; omega
          · obtain rfl : k = ds.length := by omega
            by_cases h0 : ls.length = 0
            · obtain rfl : ls = [] := List.eq_nil_of_length_eq_zero h0
              clear P1 P2 P3 Q1 Q2 Q3 S1 S2 KG hC0 hA0 hC hA hbl5 hbl6 R5 R6
              go_wp2_with (fail)
              have hbU : Below w.heap.size w wr := (by repeat (first | (with_reducible exact Below.refl _ _) | (with_reducible assumption) | (with_reducible exact bel_box _) | (with_reducible refine bel_step ?_ (by with_reducible assumption)) | (with_reducible refine Below.drew ?_) | (with_reducible refine below_drewN ?_ _) | (with_reducible refine bel_alloc ?_ _)))
              have cc := fun dd os => Calls.regrown_of (KL.out (grow (redrawn wr dd) os))
              refine wp_region_quiet_below (by kernel_rfl) (by kernel_rfl) ?_
              quiet_step (fail)
              quiet_step (fail)
              quiet_step (fail)
              quiet_step (fail)
              rw [wpQuiet_no]
              rotate_left
              (focus (go_simp; done))
              rw [wpQuiet_no]
              rotate_left
              (focus (go_simp; done))
              rw [wpQuiet_no]
              rotate_left
              (focus (go_simp; done))
              rw [wpQuiet_no]
              rotate_left
              (focus (go_simp; done))
              rw [wpQuiet_no]
              rotate_left
              (focus (go_simp; done))
              rw [wpQuiet_no]
              rotate_left
              (focus (go_simp; done))
              rw [wpQuiet_no]
              rotate_left
              (focus (go_simp; done))
              rw [wpQuiet_no]
              rotate_left
              (focus (go_simp; done))
              rw [wpQuiet_no]
              rotate_left
              (focus (go_simp; done))
              rw [wpQuiet_no]
              rotate_left
              (focus (go_simp; done))
              rw [wpQuiet_no]
              rotate_left
              (focus (go_simp; done))
              rw [wpQuiet_no]
              rotate_left
              (focus (go_simp; done))
              rw [wpQuiet_no]
              rotate_left
              (focus (go_simp; done))
              repeat (quiet_step (first | with_reducible exact cc _ _))
              refine wpQuiet_nil ?_
              intro _ hw'
              obtain ⟨⟨dq, osq⟩, hw''⟩ := hw'
              subst hw''
              have hbV : Below w.heap.size w (grow (redrawn wr dq) osq) := hbU.trans ((below_regrown wr dq osq).mono hbU.size)
              generalize grow (redrawn wr dq) osq = u9 at hbV ⊢
              go_wp2
              go_ret
              exact ⟨rfl, hbV⟩
            · have g3 : ((ls.length : Int) == 0) = false := beq_eq_false_iff_ne.2 (by omega)
              obtain ⟨ad, s0, rfl, had, hs0, hc0, hr0⟩ := hA0.at_ (k := 0) (by omega)
              have m0 := h1m s0 (List.mem_of_getElem? hs0)
              have t0 := tog_le (ls := [s0, ⟨C, f, x⟩]) (s := s0) (by simp)
              have P4 : Hid (∀ W, Below W0.heap.size W0 W → Calls Try.prog 30 #[.slice s0.A s0.l.length s0.c, .slice C x.length f, .int .i64 tag] W (NewH ((rowsTo [s0, ⟨C, f, x⟩] (tog [s0, ⟨C, f, x⟩])).map (whenF tag)) (tog [s0, ⟨C, f, x⟩]) W)) := Lib.hid fun W hb => (whenP_any s0.A C s0.c f s0.l x tag W (hr0.to hb) (hC0.to hb) m0 (by omega)).mono fun e w' => newH (map_len _ _ _)
              have Q4 : Hid (∀ W, Below W0.heap.size W0 W → Calls Try.prog 31 #[.slice s0.A s0.l.length s0.c, .slice C x.length f, .int .i64 tag] W (NewH ((rowsTo [s0, ⟨C, f, x⟩] (tog [s0, ⟨C, f, x⟩])).map (whenF tag)) (tog [s0, ⟨C, f, x⟩]) W)) := Lib.hid fun W hb => (rwhen_any s0.A C s0.c f s0.l x tag W (hr0.to hb) (hC0.to hb) m0 (by omega)).mono fun e w' => newH (map_len _ _ _)
              have S4 := same_h ((rowsTo [s0, ⟨C, f, x⟩] (tog [s0, ⟨C, f, x⟩])).map (whenF tag)) (tog [s0, ⟨C, f, x⟩]) (map_len _ _ _) (by omega)
              have HCC : Hid (∀ W, Below W0.heap.size W0 W → W.cell? (ad.add 0) = some (.slice s0.A s0.l.length s0.c)) := Lib.hid fun W hb => (hb.cell (by rw [add_block]; exact had)).trans hc0
              generalize (rowsTo [s0, ⟨C, f, x⟩] (tog [s0, ⟨C, f, x⟩])).map (whenF tag) = x3 at *
              generalize tog [s0, ⟨C, f, x⟩] = n3 at *
              rw [add_zero'] at HCC
              have i0 : (0 : Int) < (ls.length : Int) := by omega
              have iq : ¬ ls = [] := by rintro rfl; simp at i0
              have iz : 0 < ls.length := by omega
              clear P1 P2 P3 Q1 Q2 Q3 S1 S2 KG hC0 hA0 hC hA hbl5 hbl6 R5 R6 hs0 hc0 hr0 had t0 h0 h300 h1m
              generalize s0.l.length = z0 at *
              have hz := add_zero' ad
              go_wp2_with (fail)
              obtain f0 := HCC.out wr hbl
              go_region_held3 (fun W => W.cell? ad = some (.slice s0.A z0 s0.c))
                ((refine HCC.out _ ?_; (focus ((repeat (first | (with_reducible exact Below.refl _ _) | (with_reducible assumption) | (with_reducible exact bel_box _) | (with_reducible refine bel_step ?_ (by with_reducible assumption)) | (with_reducible refine Below.drew ?_) | (with_reducible refine below_drewN ?_ _) | (with_reducible refine bel_alloc ?_ _))); done))))
                (first
                  | (go_at_call 30; (with_reducible refine (P4.out _ ?_).mono ?_); (focus ((repeat (first | (with_reducible exact Below.refl _ _) | (with_reducible assumption) | (with_reducible exact bel_box _) | (with_reducible refine bel_step ?_ (by with_reducible assumption)) | (with_reducible refine Below.drew ?_) | (with_reducible refine below_drewN ?_ _) | (with_reducible refine bel_alloc ?_ _))); done)); rintro e w7 ⟨A7, c7, rfl, R7, hb7⟩)
                  | (go_at_call 31; (with_reducible refine (Q4.out _ ?_).mono ?_); (focus ((repeat (first | (with_reducible exact Below.refl _ _) | (with_reducible assumption) | (with_reducible exact bel_box _) | (with_reducible refine bel_step ?_ (by with_reducible assumption)) | (with_reducible refine Below.drew ?_) | (with_reducible refine below_drewN ?_ _) | (with_reducible refine bel_alloc ?_ _))); done)); rintro e w8 ⟨A8, c8, rfl, R8, hb8⟩)
                  | (go_at_call 11; (with_reducible refine (S4.out _ _ _ _ _ (htoR R7 ?_) (htoR R8 ?_)).mono ?_); (focus ((repeat (first | (with_reducible exact Below.refl _ _) | (with_reducible assumption) | (with_reducible exact bel_box _) | (with_reducible refine bel_step ?_ (by with_reducible assumption)) | (with_reducible refine Below.drew ?_) | (with_reducible refine below_drewN ?_ _) | (with_reducible refine bel_alloc ?_ _))); done)); (focus ((repeat (first | (with_reducible exact Below.refl _ _) | (with_reducible assumption) | (with_reducible exact bel_box _) | (with_reducible refine bel_step ?_ (by with_reducible assumption)) | (with_reducible refine Below.drew ?_) | (with_reducible refine below_drewN ?_ _) | (with_reducible refine bel_alloc ?_ _))); done)); rintro e u3 ⟨rfl, hu3⟩)
                  | (go_at_call 10; (with_reducible refine (KL.out _).mono ?_); rintro e u4 ⟨rfl, hu4⟩))
              all_goals go_wp2
              all_goals go_ret
              all_goals exact ⟨rfl, (by repeat (first | (with_reducible exact Below.refl _ _) | (with_reducible assumption) | (with_reducible exact bel_box _) | (with_reducible refine bel_step ?_ (by with_reducible assumption)) | (with_reducible refine Below.drew ?_) | (with_reducible refine below_drewN ?_ _) | (with_reducible refine bel_alloc ?_ _)))⟩
  · rw [hlg] at KG
    clear hC0 hA0 hP0 hQ0 hlg h3 hl hx
    go_wp2_with (first
      | (go_at_call 9; (with_reducible refine (KG.out _ ?_).mono ?_); (focus ((repeat (first | (with_reducible exact Below.refl _ _) | (with_reducible assumption) | (with_reducible exact bel_box _) | (with_reducible refine bel_step ?_ (by with_reducible assumption)) | (with_reducible refine Below.drew ?_) | (with_reducible refine below_drewN ?_ _) | (with_reducible refine bel_alloc ?_ _))); done)); rintro e w0 ⟨rfl, hb0⟩)
      | (go_at_call 10; (with_reducible refine (KL.out _).mono ?_); rintro e u4 ⟨rfl, hu4⟩))
    go_ret
    exact ⟨rfl, (by repeat (first | (with_reducible exact Below.refl _ _) | (with_reducible assumption) | (with_reducible exact bel_box _) | (with_reducible refine bel_step ?_ (by with_reducible assumption)) | (with_reducible refine Below.drew ?_) | (with_reducible refine below_drewN ?_ _) | (with_reducible refine bel_alloc ?_ _)))⟩
end Go.Proofs.Ytefmnjcllncmpaa
