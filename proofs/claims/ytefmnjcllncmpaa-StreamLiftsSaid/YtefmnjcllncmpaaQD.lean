/- Texts of one chain, in one file. -/
import Derived.ProofKit
import Derived.OpenShut
import Derived.Deep.Slices
import Derived.Lib.SmallJoins
import Derived.SizedLaws
import Derived.Deep.SlicePairs
import Derived.ChangeSlices
import Derived.ChangeSame
import Derived.Test.YtefmnjcllncmpaaQC
/- If of the reference. -/
namespace Go.Proofs.Ytefmnjcllncmpaa
set_option linter.unusedVariables false
set_option linter.unusedSimpArgs false
open Go.RowKit
theorem pl_11 {a0 a1 v : Int} : pl (a0, a1) = (1, v) ↔ a0 = 1 ∧ a1 = v := pl_tag
set_option maxHeartbeats 4000000 in
set_option maxRecDepth 20000 in
theorem rif_any (C A B : Option Addr) (f c d : Nat) (x l m : List (Int × Int)) (w : World) (hC : RdC w w.heap.size C x) (hA : RdC w w.heap.size A l) (hB : RdC w w.heap.size B m) (hx : x.length ≤ 1000000) (hl : l.length ≤ 1000000) (hm : m.length ≤ 1000000) :
    Calls Try.prog 17 #[.slice C x.length f, .slice A l.length c, .slice B m.length d] w (NewC ((rowsTo [⟨C, f, x⟩, ⟨A, c, l⟩, ⟨B, d, m⟩] (tog [⟨C, f, x⟩, ⟨A, c, l⟩, ⟨B, d, m⟩])).map ifF) w) := by
  obtain ⟨i0, hi, iz, is, ib⟩ := cellParts
  rw [← outE]
  have hLS : RdS (w.alloc (.cells #[.slice C x.length f, .slice A l.length c, .slice B m.length d] 26)) (w.alloc (.cells #[.slice C x.length f, .slice A l.length c, .slice B m.length d] 26)).heap.size (some ⟨w.heap.size, 0, none⟩) [⟨C, f, x⟩, ⟨A, c, l⟩, ⟨B, d, m⟩] := RdS.new [⟨C, f, x⟩, ⟨A, c, l⟩, ⟨B, d, m⟩] _ rfl (rl3 _ _ _ _ hC hA hB)
  have hbw0 : Below w.heap.size w (w.alloc (.cells #[.slice C x.length f, .slice A l.length c, .slice B m.length d] 26)) := bel_box _
  have hA0 := hA.to hbw0
  have hB0 := hB.to hbw0
  have hC0 := hC.to hbw0
  go_enter Try.func17, Try.ntmps17
  go_wp2
  generalize w.alloc (.cells #[.slice C x.length f, .slice A l.length c, .slice B m.length d] 26) = W0 at *
  generalize hls : [(⟨C, f, x⟩ : St), ⟨A, c, l⟩, ⟨B, d, m⟩] = ls at *
  have hll : ls.length = 3 := by subst hls; rfl
  have hl3 : ∀ s ∈ ls, s.l.length ≤ 1000000 := by subst hls; exact rl3 _ _ _ _ hx hl hm
  have htx : tog ls ≤ x.length := by subst hls; exact tog_le (ls := [⟨C, f, x⟩, ⟨A, c, l⟩, ⟨B, d, m⟩]) (s := ⟨C, f, x⟩) (by simp)
  have htl : tog ls ≤ l.length := by subst hls; exact tog_le (ls := [⟨C, f, x⟩, ⟨A, c, l⟩, ⟨B, d, m⟩]) (s := ⟨A, c, l⟩) (by simp)
  have htm : tog ls ≤ m.length := by subst hls; exact tog_le (ls := [⟨C, f, x⟩, ⟨A, c, l⟩, ⟨B, d, m⟩]) (s := ⟨B, d, m⟩) (by simp)
  have hrow : ∀ t, rowAt ls t = [pl (x.getD t (0, 0)), pl (l.getD t (0, 0)), pl (m.getD t (0, 0))] := by subst hls; exact fun t => rfl
  have KG : Hid (∀ W, Below W0.heap.size W0 W → Calls Try.prog 37 #[.slice (some ⟨w.heap.size, 0, none⟩) 3 3] W (Bel (.int .i64 (tog ls : Nat)) W)) := Lib.hid fun W hb => by
    have := together_any (some ⟨w.heap.size, 0, none⟩) 3 ls W (hLS.to hb) (by omega) hl3
    rwa [hll] at this
  have KJ : Hid (∀ t W, t < tog ls → Below W0.heap.size W0 W → Calls Try.prog 39 #[.slice (some ⟨w.heap.size, 0, none⟩) 3 3, .int .i64 (t : Int)] W (Bel (.bool (jnt (rowAt ls t))) W)) := Lib.hid fun t W ht hb => by
    have := rjoint_any (some ⟨w.heap.size, 0, none⟩) 3 t ls W (hLS.to hb) (by omega) ht hl3
    rwa [hll] at this
  have KP := Lib.hid rplain_any
  simp only [cV] at KP
  have HW0 := Lib.hid hbw0
  clear hLS hls hA hB hC hbw0
  go_loopw [7, 9] (fun v i wr => ∃ t : Nat, t ≤ tog ls ∧ i = .int .i64 (t : Int) ∧ Hid (wr.ownsRow W0.heap.size 46 2 v t (fl (outT (eS ifF) () ls t))) ∧ Below W0.heap.size W0 wr) (fun _ i _ => tog ls - (intOf i).toNat)
  case atStart => exact ⟨0, by omega, rfl, Lib.hid (World.ownsRow_nil _ _ _ _), Below.refl _ _⟩
  case round =>
    obtain ⟨t, htle, rfl, hown, hbl⟩ := hrel
    have hsz := hbl.size
    by_cases htn : t < tog ls
    · obtain ⟨adC, e0, e1, rfl, hec, HEC⟩ := hC0.inst (show t < x.length by omega)
      obtain ⟨adA, a0, a1, rfl, hea, HEA⟩ := hA0.inst (show t < l.length by omega)
      obtain ⟨adB, b0, b1, rfl, heb, HEB⟩ := hB0.inst (show t < m.length by omega)
      have HO := Lib.hid (outT_succ (eS ifF) () ls t)
      have hr := hrow t
      rw [getD_of hec, getD_of hea, getD_of heb] at hr
      have KJt := Lib.hid (fun W hb => KJ.out t W htn hb)
      rw [hr] at HO KJt
      have HF : Hid (∀ j, jnt [pl (e0, e1), pl (a0, a1), pl (b0, b1)] = j → outT (eS ifF) () ls (t + 1) = outT (eS ifF) () ls t ++ [if j then (if e0 = 1 ∧ e1 = 1 then pl (a0, a1) else if e0 = 1 ∧ e1 = 0 then pl (b0, b1) else (2, 0)) else (0, 0)]) := Lib.hid fun j hj => by
        rw [HO.out]
        show _ ++ [ifF _] = _
        unfold ifF
        rw [hj]
        simp only [List.getD, List.getElem?_cons_zero, List.getElem?_cons_succ, Option.getD_some]
        simp only [pl_11]
      have KPA := Lib.hid (KP.out (a0, a1))
      have KPB := Lib.hid (KP.out (b0, b1))
      generalize pl (a0, a1) = pa at *
      generalize pl (b0, b1) = pb at *
      obtain ⟨u0, u1⟩ := pa
      obtain ⟨v0, v1⟩ := pb
      generalize outT (eS ifF) () ls t = xs at *
      generalize tog ls = n at *
      simp only at KPA KPB
      cases hj : jnt [pl (e0, e1), (u0, u1), (v0, v1)]
      · rw [hj] at KJt
        have HV : Hid (outT (eS ifF) () ls (t + 1) = xs ++ [(0, 0)]) := Lib.hid (HF.out _ hj)
        clear hA0 hB0 hC0 hrow hr KJ KP hec hea heb hj HF HO
        go_wp2_with (first
          | (go_at_call 37; (with_reducible refine (KG.out _ ?_).mono ?_); (focus ((repeat (first | (with_reducible exact Below.refl _ _) | (with_reducible assumption) | (with_reducible exact bel_box _) | (with_reducible refine bel_step ?_ (by with_reducible assumption)) | (with_reducible refine Below.drew ?_) | (with_reducible refine below_drewN ?_ _) | (with_reducible refine bel_alloc ?_ _))); done)); rintro e w1 ⟨rfl, hb1⟩; have hz1 := hb1.size)
          | (go_at_call 39; (with_reducible refine (KJt.out _ ?_).mono ?_); (focus ((repeat (first | (with_reducible exact Below.refl _ _) | (with_reducible assumption) | (with_reducible exact bel_box _) | (with_reducible refine bel_step ?_ (by with_reducible assumption)) | (with_reducible refine Below.drew ?_) | (with_reducible refine below_drewN ?_ _) | (with_reducible refine bel_alloc ?_ _))); done)); rintro e w2 ⟨rfl, hb2⟩; have hz2 := hb2.size; rw [World.size_alloc] at hz2; have B2 := (Bk.new w1 46 _).go hb2; obtain ⟨q0, q1, q2, q3⟩ := B2.four)
          | (at_builtin; refine wpList_append_own_at _ rfl _ _ 26 rfl W0.heap.size 46 i0 (.agg #[.int .i64 0, .int .i64 0]) 2 16 Try.underlying26 hi iz is ib rfl (by decide) _ t (fl xs) rfl (own2_keep hown.out ?_) ⟨_, 0, none⟩ 1 1 [.int .i64 0, .int .i64 0] rfl rfl (by first | exact row2 _ _ _ _ | exact row2s _ _ _ _ _ _ _ _ | exact row2a _ _ _ _ _) (c_one _ _) (by unfold maxLen; omega) (by omega) ?_ ?_; (focus ((repeat (first | (with_reducible exact Below.refl _ _) | (with_reducible assumption) | (with_reducible exact bel_box _) | (with_reducible refine bel_step ?_ (by with_reducible assumption)) | (with_reducible refine Below.drew ?_) | (with_reducible refine below_drewN ?_ _) | (with_reducible refine bel_alloc ?_ _) | (with_reducible refine bel_two ?_ (by omega) _ _) | (with_reducible refine bel_one ?_ (by omega) _))); done)); (focus (simp; omega)); intro v9 w9 hown9 hgrow9 _ _; have hb9 : Below W0.heap.size W0 w9 := own2_below hgrow9 rfl hown.out (by simp; omega) (by repeat (first | (with_reducible exact Below.refl _ _) | (with_reducible assumption) | (with_reducible exact bel_box _) | (with_reducible refine bel_step ?_ (by with_reducible assumption)) | (with_reducible refine Below.drew ?_) | (with_reducible refine below_drewN ?_ _) | (with_reducible refine bel_alloc ?_ _) | (with_reducible refine bel_two ?_ (by omega) _ _) | (with_reducible refine bel_one ?_ (by omega) _))); rw [fl_snoc] at hown9; have HO9 := Lib.hid hown9; clear hown9 hgrow9))
        go_roundw
        case rel => exact ⟨t + 1, by omega, by go_num, Lib.hid (by rw [HV.out]; exact HO9.out), hb9⟩
        case measure => simp [intOf]; omega
      · rw [hj] at KJt
        by_cases h1 : e0 = 1
        · subst h1
          by_cases h2 : e1 = 1
          · subst h2
            have HV : Hid (outT (eS ifF) () ls (t + 1) = xs ++ [(u0, u1)]) := Lib.hid (by rw [HF.out _ hj, if_pos rfl, if_pos ⟨rfl, rfl⟩])
            clear hA0 hB0 hC0 hrow hr KJ KP hec hea heb hj HF HO
            go_wp2_with (first
              | (go_at_call 37; (with_reducible refine (KG.out _ ?_).mono ?_); (focus ((repeat (first | (with_reducible exact Below.refl _ _) | (with_reducible assumption) | (with_reducible exact bel_box _) | (with_reducible refine bel_step ?_ (by with_reducible assumption)) | (with_reducible refine Below.drew ?_) | (with_reducible refine below_drewN ?_ _) | (with_reducible refine bel_alloc ?_ _))); done)); rintro e w1 ⟨rfl, hb1⟩; have hz1 := hb1.size)
              | (go_at_call 39; (with_reducible refine (KJt.out _ ?_).mono ?_); (focus ((repeat (first | (with_reducible exact Below.refl _ _) | (with_reducible assumption) | (with_reducible exact bel_box _) | (with_reducible refine bel_step ?_ (by with_reducible assumption)) | (with_reducible refine Below.drew ?_) | (with_reducible refine below_drewN ?_ _) | (with_reducible refine bel_alloc ?_ _))); done)); rintro e w2 ⟨rfl, hb2⟩; have hz2 := hb2.size; rw [World.size_alloc] at hz2; have B2 := (Bk.new w1 46 _).go hb2; obtain ⟨q0, q1, q2, q3⟩ := B2.four; have B2s := B2.put2 (.int .i64 2) (.int .i64 0); obtain ⟨s0, s1, s2, s3⟩ := B2s.four; obtain ⟨g0, g1⟩ := HEC.out ((w2.setCell ⟨w1.heap.size, 0, none⟩ (.int .i64 2)).setCell ⟨w1.heap.size, 1, none⟩ (.int .i64 0)) (by repeat (first | (with_reducible exact Below.refl _ _) | (with_reducible assumption) | (with_reducible exact bel_box _) | (with_reducible refine bel_step ?_ (by with_reducible assumption)) | (with_reducible refine Below.drew ?_) | (with_reducible refine below_drewN ?_ _) | (with_reducible refine bel_alloc ?_ _) | (with_reducible refine bel_two ?_ (by omega) _ _) | (with_reducible refine bel_one ?_ (by omega) _))); obtain ⟨ca0, ca1⟩ := HEA.out ((w2.setCell ⟨w1.heap.size, 0, none⟩ (.int .i64 2)).setCell ⟨w1.heap.size, 1, none⟩ (.int .i64 0)) (by repeat (first | (with_reducible exact Below.refl _ _) | (with_reducible assumption) | (with_reducible exact bel_box _) | (with_reducible refine bel_step ?_ (by with_reducible assumption)) | (with_reducible refine Below.drew ?_) | (with_reducible refine below_drewN ?_ _) | (with_reducible refine bel_alloc ?_ _) | (with_reducible refine bel_two ?_ (by omega) _ _) | (with_reducible refine bel_one ?_ (by omega) _))); obtain ⟨cb0, cb1⟩ := HEB.out ((w2.setCell ⟨w1.heap.size, 0, none⟩ (.int .i64 2)).setCell ⟨w1.heap.size, 1, none⟩ (.int .i64 0)) (by repeat (first | (with_reducible exact Below.refl _ _) | (with_reducible assumption) | (with_reducible exact bel_box _) | (with_reducible refine bel_step ?_ (by with_reducible assumption)) | (with_reducible refine Below.drew ?_) | (with_reducible refine below_drewN ?_ _) | (with_reducible refine bel_alloc ?_ _) | (with_reducible refine bel_two ?_ (by omega) _ _) | (with_reducible refine bel_one ?_ (by omega) _))))
              | (go_at_call 38; (with_reducible refine (KPA.out _).mono ?_); rintro e w3 ⟨rfl, hb3⟩; have hz3 := hb3.size; (try simp only [World.size_setCell] at hz3); have B3 := B2s.go hb3; clear q0 q1 q2 q3 s0 s1 s2 s3 g0 g1; obtain ⟨q0, q1, q2, q3⟩ := B3.four; have B3s := B3.put2 (.int .i64 u0) (.int .i64 u1); obtain ⟨s0, s1, s2, s3⟩ := B3s.four; obtain ⟨g0, g1⟩ := HEC.out ((w3.setCell ⟨w1.heap.size, 0, none⟩ (.int .i64 u0)).setCell ⟨w1.heap.size, 1, none⟩ (.int .i64 u1)) (by repeat (first | (with_reducible exact Below.refl _ _) | (with_reducible assumption) | (with_reducible exact bel_box _) | (with_reducible refine bel_step ?_ (by with_reducible assumption)) | (with_reducible refine Below.drew ?_) | (with_reducible refine below_drewN ?_ _) | (with_reducible refine bel_alloc ?_ _) | (with_reducible refine bel_two ?_ (by omega) _ _) | (with_reducible refine bel_one ?_ (by omega) _))))
              | (at_builtin; refine wpList_append_own_at _ rfl _ _ 26 rfl W0.heap.size 46 i0 (.agg #[.int .i64 0, .int .i64 0]) 2 16 Try.underlying26 hi iz is ib rfl (by decide) _ t (fl xs) rfl (own2_keep hown.out ?_) ⟨_, 0, none⟩ 1 1 [.int .i64 u0, .int .i64 u1] rfl rfl (by first | exact row2 _ _ _ _ | exact row2s _ _ _ _ _ _ _ _ | exact row2a _ _ _ _ _) (c_one _ _) (by unfold maxLen; omega) (by omega) ?_ ?_; (focus ((repeat (first | (with_reducible exact Below.refl _ _) | (with_reducible assumption) | (with_reducible exact bel_box _) | (with_reducible refine bel_step ?_ (by with_reducible assumption)) | (with_reducible refine Below.drew ?_) | (with_reducible refine below_drewN ?_ _) | (with_reducible refine bel_alloc ?_ _) | (with_reducible refine bel_two ?_ (by omega) _ _) | (with_reducible refine bel_one ?_ (by omega) _))); done)); (focus (simp; omega)); intro v9 w9 hown9 hgrow9 _ _; have hb9 : Below W0.heap.size W0 w9 := own2_below hgrow9 rfl hown.out (by simp; omega) (by repeat (first | (with_reducible exact Below.refl _ _) | (with_reducible assumption) | (with_reducible exact bel_box _) | (with_reducible refine bel_step ?_ (by with_reducible assumption)) | (with_reducible refine Below.drew ?_) | (with_reducible refine below_drewN ?_ _) | (with_reducible refine bel_alloc ?_ _) | (with_reducible refine bel_two ?_ (by omega) _ _) | (with_reducible refine bel_one ?_ (by omega) _))); rw [fl_snoc] at hown9; have HO9 := Lib.hid hown9; clear hown9 hgrow9))
            go_roundw
            case rel => exact ⟨t + 1, by omega, by go_num, Lib.hid (by rw [HV.out]; exact HO9.out), hb9⟩
            case measure => simp [intOf]; omega
          · by_cases h3 : e1 = 0
            · subst h3
              have HV : Hid (outT (eS ifF) () ls (t + 1) = xs ++ [(v0, v1)]) := Lib.hid (by rw [HF.out _ hj, if_pos rfl, if_neg (fun h => h2 h.2), if_pos ⟨rfl, rfl⟩])
              clear hA0 hB0 hC0 hrow hr KJ KP hec hea heb hj HF HO h2
              go_wp2_with (first
                | (go_at_call 37; (with_reducible refine (KG.out _ ?_).mono ?_); (focus ((repeat (first | (with_reducible exact Below.refl _ _) | (with_reducible assumption) | (with_reducible exact bel_box _) | (with_reducible refine bel_step ?_ (by with_reducible assumption)) | (with_reducible refine Below.drew ?_) | (with_reducible refine below_drewN ?_ _) | (with_reducible refine bel_alloc ?_ _))); done)); rintro e w1 ⟨rfl, hb1⟩; have hz1 := hb1.size)
                | (go_at_call 39; (with_reducible refine (KJt.out _ ?_).mono ?_); (focus ((repeat (first | (with_reducible exact Below.refl _ _) | (with_reducible assumption) | (with_reducible exact bel_box _) | (with_reducible refine bel_step ?_ (by with_reducible assumption)) | (with_reducible refine Below.drew ?_) | (with_reducible refine below_drewN ?_ _) | (with_reducible refine bel_alloc ?_ _))); done)); rintro e w2 ⟨rfl, hb2⟩; have hz2 := hb2.size; rw [World.size_alloc] at hz2; have B2 := (Bk.new w1 46 _).go hb2; obtain ⟨q0, q1, q2, q3⟩ := B2.four; have B2s := B2.put2 (.int .i64 2) (.int .i64 0); obtain ⟨s0, s1, s2, s3⟩ := B2s.four; obtain ⟨g0, g1⟩ := HEC.out ((w2.setCell ⟨w1.heap.size, 0, none⟩ (.int .i64 2)).setCell ⟨w1.heap.size, 1, none⟩ (.int .i64 0)) (by repeat (first | (with_reducible exact Below.refl _ _) | (with_reducible assumption) | (with_reducible exact bel_box _) | (with_reducible refine bel_step ?_ (by with_reducible assumption)) | (with_reducible refine Below.drew ?_) | (with_reducible refine below_drewN ?_ _) | (with_reducible refine bel_alloc ?_ _) | (with_reducible refine bel_two ?_ (by omega) _ _) | (with_reducible refine bel_one ?_ (by omega) _))); obtain ⟨ca0, ca1⟩ := HEA.out ((w2.setCell ⟨w1.heap.size, 0, none⟩ (.int .i64 2)).setCell ⟨w1.heap.size, 1, none⟩ (.int .i64 0)) (by repeat (first | (with_reducible exact Below.refl _ _) | (with_reducible assumption) | (with_reducible exact bel_box _) | (with_reducible refine bel_step ?_ (by with_reducible assumption)) | (with_reducible refine Below.drew ?_) | (with_reducible refine below_drewN ?_ _) | (with_reducible refine bel_alloc ?_ _) | (with_reducible refine bel_two ?_ (by omega) _ _) | (with_reducible refine bel_one ?_ (by omega) _))); obtain ⟨cb0, cb1⟩ := HEB.out ((w2.setCell ⟨w1.heap.size, 0, none⟩ (.int .i64 2)).setCell ⟨w1.heap.size, 1, none⟩ (.int .i64 0)) (by repeat (first | (with_reducible exact Below.refl _ _) | (with_reducible assumption) | (with_reducible exact bel_box _) | (with_reducible refine bel_step ?_ (by with_reducible assumption)) | (with_reducible refine Below.drew ?_) | (with_reducible refine below_drewN ?_ _) | (with_reducible refine bel_alloc ?_ _) | (with_reducible refine bel_two ?_ (by omega) _ _) | (with_reducible refine bel_one ?_ (by omega) _))))
                | (go_at_call 38; (with_reducible refine (KPB.out _).mono ?_); rintro e w3 ⟨rfl, hb3⟩; have hz3 := hb3.size; (try simp only [World.size_setCell] at hz3); have B3 := B2s.go hb3; clear q0 q1 q2 q3 s0 s1 s2 s3 g0 g1; obtain ⟨q0, q1, q2, q3⟩ := B3.four; have B3s := B3.put2 (.int .i64 v0) (.int .i64 v1); obtain ⟨s0, s1, s2, s3⟩ := B3s.four; obtain ⟨g0, g1⟩ := HEC.out ((w3.setCell ⟨w1.heap.size, 0, none⟩ (.int .i64 v0)).setCell ⟨w1.heap.size, 1, none⟩ (.int .i64 v1)) (by repeat (first | (with_reducible exact Below.refl _ _) | (with_reducible assumption) | (with_reducible exact bel_box _) | (with_reducible refine bel_step ?_ (by with_reducible assumption)) | (with_reducible refine Below.drew ?_) | (with_reducible refine below_drewN ?_ _) | (with_reducible refine bel_alloc ?_ _) | (with_reducible refine bel_two ?_ (by omega) _ _) | (with_reducible refine bel_one ?_ (by omega) _))))
                | (at_builtin; refine wpList_append_own_at _ rfl _ _ 26 rfl W0.heap.size 46 i0 (.agg #[.int .i64 0, .int .i64 0]) 2 16 Try.underlying26 hi iz is ib rfl (by decide) _ t (fl xs) rfl (own2_keep hown.out ?_) ⟨_, 0, none⟩ 1 1 [.int .i64 v0, .int .i64 v1] rfl rfl (by first | exact row2 _ _ _ _ | exact row2s _ _ _ _ _ _ _ _ | exact row2a _ _ _ _ _) (c_one _ _) (by unfold maxLen; omega) (by omega) ?_ ?_; (focus ((repeat (first | (with_reducible exact Below.refl _ _) | (with_reducible assumption) | (with_reducible exact bel_box _) | (with_reducible refine bel_step ?_ (by with_reducible assumption)) | (with_reducible refine Below.drew ?_) | (with_reducible refine below_drewN ?_ _) | (with_reducible refine bel_alloc ?_ _) | (with_reducible refine bel_two ?_ (by omega) _ _) | (with_reducible refine bel_one ?_ (by omega) _))); done)); (focus (simp; omega)); intro v9 w9 hown9 hgrow9 _ _; have hb9 : Below W0.heap.size W0 w9 := own2_below hgrow9 rfl hown.out (by simp; omega) (by repeat (first | (with_reducible exact Below.refl _ _) | (with_reducible assumption) | (with_reducible exact bel_box _) | (with_reducible refine bel_step ?_ (by with_reducible assumption)) | (with_reducible refine Below.drew ?_) | (with_reducible refine below_drewN ?_ _) | (with_reducible refine bel_alloc ?_ _) | (with_reducible refine bel_two ?_ (by omega) _ _) | (with_reducible refine bel_one ?_ (by omega) _))); rw [fl_snoc] at hown9; have HO9 := Lib.hid hown9; clear hown9 hgrow9))
              go_roundw
              case rel => exact ⟨t + 1, by omega, by go_num, Lib.hid (by rw [HV.out]; exact HO9.out), hb9⟩
              case measure => simp [intOf]; omega
            · have HV : Hid (outT (eS ifF) () ls (t + 1) = xs ++ [(2, 0)]) := Lib.hid (by rw [HF.out _ hj, if_pos rfl, if_neg (fun h => h2 h.2), if_neg (fun h => h3 h.2)])
              have e2 : (e1 == 1) = false := beq_eq_false_iff_ne.2 h2
              have e3 : (e1 == 0) = false := beq_eq_false_iff_ne.2 h3
              clear hA0 hB0 hC0 hrow hr KJ KP hec hea heb hj HF HO h2 h3
              go_wp2_with (first
                | (go_at_call 37; (with_reducible refine (KG.out _ ?_).mono ?_); (focus ((repeat (first | (with_reducible exact Below.refl _ _) | (with_reducible assumption) | (with_reducible exact bel_box _) | (with_reducible refine bel_step ?_ (by with_reducible assumption)) | (with_reducible refine Below.drew ?_) | (with_reducible refine below_drewN ?_ _) | (with_reducible refine bel_alloc ?_ _))); done)); rintro e w1 ⟨rfl, hb1⟩; have hz1 := hb1.size)
                | (go_at_call 39; (with_reducible refine (KJt.out _ ?_).mono ?_); (focus ((repeat (first | (with_reducible exact Below.refl _ _) | (with_reducible assumption) | (with_reducible exact bel_box _) | (with_reducible refine bel_step ?_ (by with_reducible assumption)) | (with_reducible refine Below.drew ?_) | (with_reducible refine below_drewN ?_ _) | (with_reducible refine bel_alloc ?_ _))); done)); rintro e w2 ⟨rfl, hb2⟩; have hz2 := hb2.size; rw [World.size_alloc] at hz2; have B2 := (Bk.new w1 46 _).go hb2; obtain ⟨q0, q1, q2, q3⟩ := B2.four; have B2s := B2.put2 (.int .i64 2) (.int .i64 0); obtain ⟨s0, s1, s2, s3⟩ := B2s.four; obtain ⟨g0, g1⟩ := HEC.out ((w2.setCell ⟨w1.heap.size, 0, none⟩ (.int .i64 2)).setCell ⟨w1.heap.size, 1, none⟩ (.int .i64 0)) (by repeat (first | (with_reducible exact Below.refl _ _) | (with_reducible assumption) | (with_reducible exact bel_box _) | (with_reducible refine bel_step ?_ (by with_reducible assumption)) | (with_reducible refine Below.drew ?_) | (with_reducible refine below_drewN ?_ _) | (with_reducible refine bel_alloc ?_ _) | (with_reducible refine bel_two ?_ (by omega) _ _) | (with_reducible refine bel_one ?_ (by omega) _))); obtain ⟨ca0, ca1⟩ := HEA.out ((w2.setCell ⟨w1.heap.size, 0, none⟩ (.int .i64 2)).setCell ⟨w1.heap.size, 1, none⟩ (.int .i64 0)) (by repeat (first | (with_reducible exact Below.refl _ _) | (with_reducible assumption) | (with_reducible exact bel_box _) | (with_reducible refine bel_step ?_ (by with_reducible assumption)) | (with_reducible refine Below.drew ?_) | (with_reducible refine below_drewN ?_ _) | (with_reducible refine bel_alloc ?_ _) | (with_reducible refine bel_two ?_ (by omega) _ _) | (with_reducible refine bel_one ?_ (by omega) _))); obtain ⟨cb0, cb1⟩ := HEB.out ((w2.setCell ⟨w1.heap.size, 0, none⟩ (.int .i64 2)).setCell ⟨w1.heap.size, 1, none⟩ (.int .i64 0)) (by repeat (first | (with_reducible exact Below.refl _ _) | (with_reducible assumption) | (with_reducible exact bel_box _) | (with_reducible refine bel_step ?_ (by with_reducible assumption)) | (with_reducible refine Below.drew ?_) | (with_reducible refine below_drewN ?_ _) | (with_reducible refine bel_alloc ?_ _) | (with_reducible refine bel_two ?_ (by omega) _ _) | (with_reducible refine bel_one ?_ (by omega) _))))
                | (at_builtin; refine wpList_append_own_at _ rfl _ _ 26 rfl W0.heap.size 46 i0 (.agg #[.int .i64 0, .int .i64 0]) 2 16 Try.underlying26 hi iz is ib rfl (by decide) _ t (fl xs) rfl (own2_keep hown.out ?_) ⟨_, 0, none⟩ 1 1 [.int .i64 2, .int .i64 0] rfl rfl (by first | exact row2 _ _ _ _ | exact row2s _ _ _ _ _ _ _ _ | exact row2a _ _ _ _ _) (c_one _ _) (by unfold maxLen; omega) (by omega) ?_ ?_; (focus ((repeat (first | (with_reducible exact Below.refl _ _) | (with_reducible assumption) | (with_reducible exact bel_box _) | (with_reducible refine bel_step ?_ (by with_reducible assumption)) | (with_reducible refine Below.drew ?_) | (with_reducible refine below_drewN ?_ _) | (with_reducible refine bel_alloc ?_ _) | (with_reducible refine bel_two ?_ (by omega) _ _) | (with_reducible refine bel_one ?_ (by omega) _))); done)); (focus (simp; omega)); intro v9 w9 hown9 hgrow9 _ _; have hb9 : Below W0.heap.size W0 w9 := own2_below hgrow9 rfl hown.out (by simp; omega) (by repeat (first | (with_reducible exact Below.refl _ _) | (with_reducible assumption) | (with_reducible exact bel_box _) | (with_reducible refine bel_step ?_ (by with_reducible assumption)) | (with_reducible refine Below.drew ?_) | (with_reducible refine below_drewN ?_ _) | (with_reducible refine bel_alloc ?_ _) | (with_reducible refine bel_two ?_ (by omega) _ _) | (with_reducible refine bel_one ?_ (by omega) _))); rw [fl_snoc] at hown9; have HO9 := Lib.hid hown9; clear hown9 hgrow9))
              go_roundw
              case rel => exact ⟨t + 1, by omega, by go_num, Lib.hid (by rw [HV.out]; exact HO9.out), hb9⟩
              case measure => simp [intOf]; omega
        · have HV : Hid (outT (eS ifF) () ls (t + 1) = xs ++ [(2, 0)]) := Lib.hid (by rw [HF.out _ hj, if_pos rfl, if_neg (fun h => h1 h.1), if_neg (fun h => h1 h.1)])
          have e2 : (e0 == 1) = false := beq_eq_false_iff_ne.2 h1
          clear hA0 hB0 hC0 hrow hr KJ KP hec hea heb hj HF HO h1
          go_wp2_with (first
            | (go_at_call 37; (with_reducible refine (KG.out _ ?_).mono ?_); (focus ((repeat (first | (with_reducible exact Below.refl _ _) | (with_reducible assumption) | (with_reducible exact bel_box _) | (with_reducible refine bel_step ?_ (by with_reducible assumption)) | (with_reducible refine Below.drew ?_) | (with_reducible refine below_drewN ?_ _) | (with_reducible refine bel_alloc ?_ _))); done)); rintro e w1 ⟨rfl, hb1⟩; have hz1 := hb1.size)
            | (go_at_call 39; (with_reducible refine (KJt.out _ ?_).mono ?_); (focus ((repeat (first | (with_reducible exact Below.refl _ _) | (with_reducible assumption) | (with_reducible exact bel_box _) | (with_reducible refine bel_step ?_ (by with_reducible assumption)) | (with_reducible refine Below.drew ?_) | (with_reducible refine below_drewN ?_ _) | (with_reducible refine bel_alloc ?_ _))); done)); rintro e w2 ⟨rfl, hb2⟩; have hz2 := hb2.size; rw [World.size_alloc] at hz2; have B2 := (Bk.new w1 46 _).go hb2; obtain ⟨q0, q1, q2, q3⟩ := B2.four; have B2s := B2.put2 (.int .i64 2) (.int .i64 0); obtain ⟨s0, s1, s2, s3⟩ := B2s.four; obtain ⟨g0, g1⟩ := HEC.out ((w2.setCell ⟨w1.heap.size, 0, none⟩ (.int .i64 2)).setCell ⟨w1.heap.size, 1, none⟩ (.int .i64 0)) (by repeat (first | (with_reducible exact Below.refl _ _) | (with_reducible assumption) | (with_reducible exact bel_box _) | (with_reducible refine bel_step ?_ (by with_reducible assumption)) | (with_reducible refine Below.drew ?_) | (with_reducible refine below_drewN ?_ _) | (with_reducible refine bel_alloc ?_ _) | (with_reducible refine bel_two ?_ (by omega) _ _) | (with_reducible refine bel_one ?_ (by omega) _))); obtain ⟨ca0, ca1⟩ := HEA.out ((w2.setCell ⟨w1.heap.size, 0, none⟩ (.int .i64 2)).setCell ⟨w1.heap.size, 1, none⟩ (.int .i64 0)) (by repeat (first | (with_reducible exact Below.refl _ _) | (with_reducible assumption) | (with_reducible exact bel_box _) | (with_reducible refine bel_step ?_ (by with_reducible assumption)) | (with_reducible refine Below.drew ?_) | (with_reducible refine below_drewN ?_ _) | (with_reducible refine bel_alloc ?_ _) | (with_reducible refine bel_two ?_ (by omega) _ _) | (with_reducible refine bel_one ?_ (by omega) _))); obtain ⟨cb0, cb1⟩ := HEB.out ((w2.setCell ⟨w1.heap.size, 0, none⟩ (.int .i64 2)).setCell ⟨w1.heap.size, 1, none⟩ (.int .i64 0)) (by repeat (first | (with_reducible exact Below.refl _ _) | (with_reducible assumption) | (with_reducible exact bel_box _) | (with_reducible refine bel_step ?_ (by with_reducible assumption)) | (with_reducible refine Below.drew ?_) | (with_reducible refine below_drewN ?_ _) | (with_reducible refine bel_alloc ?_ _) | (with_reducible refine bel_two ?_ (by omega) _ _) | (with_reducible refine bel_one ?_ (by omega) _))))
            | (at_builtin; refine wpList_append_own_at _ rfl _ _ 26 rfl W0.heap.size 46 i0 (.agg #[.int .i64 0, .int .i64 0]) 2 16 Try.underlying26 hi iz is ib rfl (by decide) _ t (fl xs) rfl (own2_keep hown.out ?_) ⟨_, 0, none⟩ 1 1 [.int .i64 2, .int .i64 0] rfl rfl (by first | exact row2 _ _ _ _ | exact row2s _ _ _ _ _ _ _ _ | exact row2a _ _ _ _ _) (c_one _ _) (by unfold maxLen; omega) (by omega) ?_ ?_; (focus ((repeat (first | (with_reducible exact Below.refl _ _) | (with_reducible assumption) | (with_reducible exact bel_box _) | (with_reducible refine bel_step ?_ (by with_reducible assumption)) | (with_reducible refine Below.drew ?_) | (with_reducible refine below_drewN ?_ _) | (with_reducible refine bel_alloc ?_ _) | (with_reducible refine bel_two ?_ (by omega) _ _) | (with_reducible refine bel_one ?_ (by omega) _))); done)); (focus (simp; omega)); intro v9 w9 hown9 hgrow9 _ _; have hb9 : Below W0.heap.size W0 w9 := own2_below hgrow9 rfl hown.out (by simp; omega) (by repeat (first | (with_reducible exact Below.refl _ _) | (with_reducible assumption) | (with_reducible exact bel_box _) | (with_reducible refine bel_step ?_ (by with_reducible assumption)) | (with_reducible refine Below.drew ?_) | (with_reducible refine below_drewN ?_ _) | (with_reducible refine bel_alloc ?_ _) | (with_reducible refine bel_two ?_ (by omega) _ _) | (with_reducible refine bel_one ?_ (by omega) _))); rw [fl_snoc] at hown9; have HO9 := Lib.hid hown9; clear hown9 hgrow9))
          go_roundw
          case rel => exact ⟨t + 1, by omega, by go_num, Lib.hid (by rw [HV.out]; exact HO9.out), hb9⟩
          case measure => simp [intOf]; omega
    · obtain rfl : t = tog ls := by omega
      obtain ⟨V, cv, rfl⟩ := own2_form hown.out
      have HR := Lib.hid (own2_rd hown.out (outT_length _ _ _ _))
      have HL := Lib.hid (outT_length (eS ifF) () ls (tog ls))
      generalize outT (eS ifF) () ls (tog ls) = xs at *
      generalize tog ls = n at *
      clear hown hrow KJ
      have HB := Lib.hid (HW0.out.trans (hbl.mono HW0.out.size))
      go_wp2_with (go_at_call 37; (with_reducible refine (KG.out _ ?_).mono ?_); (focus ((repeat (first | (with_reducible exact Below.refl _ _) | (with_reducible assumption) | (with_reducible exact bel_box _) | (with_reducible refine bel_step ?_ (by with_reducible assumption)) | (with_reducible refine Below.drew ?_) | (with_reducible refine below_drewN ?_ _) | (with_reducible refine bel_alloc ?_ _))); done)); rintro e w1 ⟨rfl, hb1⟩; have hz1 := hb1.size)
      go_ret
      exact ⟨V, cv, by rw [HL.out]; rfl, HR.out.to (by repeat (first | (with_reducible exact Below.refl _ _) | (with_reducible assumption) | (with_reducible exact bel_box _) | (with_reducible refine bel_step ?_ (by with_reducible assumption)) | (with_reducible refine Below.drew ?_) | (with_reducible refine below_drewN ?_ _) | (with_reducible refine bel_alloc ?_ _))), HB.out.trans (hb1.mono HB.out.size)⟩
end Go.Proofs.Ytefmnjcllncmpaa
/- Lift of the reference. -/
namespace Go.Proofs.Ytefmnjcllncmpaa
set_option linter.unusedVariables false
set_option linter.unusedSimpArgs false
open Go.RowKit
theorem lift_no (op : Int) {r : List (Int × Int)} (h : jnt r = false) : liftF op r = (0, 0) := by
  have hb : badK r = true := by
    rw [jnt, List.all_eq_false] at h
    obtain ⟨c, hc, hn⟩ := h
    rw [badK, List.any_eq_true]
    exact ⟨c, hc, by simp [thB] at hn; simp; omega⟩
  unfold liftF lifK lifV
  rw [hb]; rfl
set_option maxHeartbeats 4000000 in
set_option maxRecDepth 20000 in
theorem rliftP_any (op : Int) (A : Option Addr) (c : Nat) (ls : List St) (W0 : World) (hA : RdS W0 W0.heap.size A ls) (hl : ls.length ≤ 100) (hl3 : ∀ s ∈ ls, s.l.length ≤ 1000000) (htg : tog ls ≤ 1000000) :
    Calls Try.prog 13 #[.int .i64 op, .slice A ls.length c] W0 (NewC ((rowsTo ls (tog ls)).map (liftF op)) W0) := by
  obtain ⟨i0, hi, iz, is, ib⟩ := cellParts
  rw [← outE]
  have KG : Hid (∀ W, Below W0.heap.size W0 W → Calls Try.prog 37 #[.slice A ls.length c] W (Bel (.int .i64 (tog ls : Nat)) W)) := Lib.hid fun W hb => together_any A c ls W (hA.to hb) (by omega) hl3
  have KJ : Hid (∀ t W, t < tog ls → Below W0.heap.size W0 W → Calls Try.prog 39 #[.slice A ls.length c, .int .i64 (t : Int)] W (Bel (.bool (jnt (rowAt ls t))) W)) := Lib.hid fun t W ht hb => rjoint_any A c t ls W (hA.to hb) (by omega) ht hl3
  have KL : Hid (∀ V cv (r : List (Int × Int)) W, r.length = ls.length → RdC W W.heap.size V r → Calls Try.prog 40 #[.int .i64 op, .slice V ls.length cv] W (Bel (cV (liftF op r)) W)) := Lib.hid fun V cv r W hr hR => by
    have := rlift_any V cv op r W hR (by omega)
    rwa [hr] at this
  have KP := Lib.hid rplain_any
  simp only [cV] at KP KL
  have HA := Lib.hid hA
  have HTG := Lib.hid (fun (s : St) (h : s ∈ ls) => tog_le h)
  have H3 := Lib.hid hl3
  clear hA hl3
  go_enter Try.func13, Try.ntmps13
  go_wp2
  go_loopw [5, 6] (fun v i wr => ∃ t : Nat, t ≤ tog ls ∧ i = .int .i64 (t : Int) ∧ Hid (wr.ownsRow W0.heap.size 46 2 v t (fl (outT (eS (liftF op)) () ls t))) ∧ Below W0.heap.size W0 wr) (fun _ i _ => tog ls - (intOf i).toNat)
  case atStart => exact ⟨0, by omega, rfl, Lib.hid (World.ownsRow_nil _ _ _ _), Below.refl _ _⟩
  case round =>
    obtain ⟨t, htle, rfl, hown, hbl⟩ := hrel
    have hsz := hbl.size
    by_cases htn : t < tog ls
    · have HO : Hid (∀ z, liftF op (rowAt ls t) = z → outT (eS (liftF op)) () ls (t + 1) = outT (eS (liftF op)) () ls t ++ [z]) := Lib.hid fun z hz => by rw [outT_succ, ← hz]; rfl
      have KJt := Lib.hid (fun W hb => KJ.out t W htn hb)
      have HROW := Lib.hid (fun k s (h : ls[k]? = some s) => rowAt_get t h)
      have HRL := Lib.hid (rowAt_length ls t)
      have KLt := Lib.hid (fun V cv W hR => KL.out V cv (rowAt ls t) W (rowAt_length ls t) hR)
      generalize outT (eS (liftF op)) () ls t = xs at *
      generalize htgn : tog ls = n at *
      obtain ⟨U0, rfl⟩ : ∃ U, U = wr := ⟨_, rfl⟩
      go_wp2_with (go_at_call 37; (with_reducible refine (KG.out _ ?_).mono ?_); (focus ((repeat (first | (with_reducible exact Below.refl _ _) | (with_reducible assumption) | (with_reducible exact bel_box _) | (with_reducible refine bel_step ?_ (by with_reducible assumption)) | (with_reducible refine Below.drew ?_) | (with_reducible refine below_drewN ?_ _) | (with_reducible refine bel_alloc ?_ _))); done)); rintro e w1 ⟨rfl, hb1⟩; have hz1 := hb1.size)
      obtain ⟨U1, rfl⟩ : ∃ U, U = w1 := ⟨_, rfl⟩
      clear KG KJ
      go_loopw [7, 8] (fun v i X => ∃ k : Nat, k ≤ ls.length ∧ i = .int .i64 (k : Int) ∧ Hid (X.ownsRow U1.heap.size 46 2 v k (fl ((rowAt ls t).take k))) ∧ Below U1.heap.size U1 X) (fun _ i _ => ls.length - (intOf i).toNat)
      case atStart => exact ⟨0, by omega, rfl, Lib.hid (World.ownsRow_nil _ _ _ _), Below.refl _ _⟩
      case round =>
        obtain ⟨k, hk, rfl, harg, hbX⟩ := hrel
        have hzX := hbX.size
        by_cases hkl : k < ls.length
        · have hbW : Below W0.heap.size W0 wr := (by repeat (first | (with_reducible exact Below.refl _ _) | (with_reducible assumption) | (with_reducible exact bel_box _) | (with_reducible refine bel_step ?_ (by with_reducible assumption)) | (with_reducible refine Below.drew ?_) | (with_reducible refine below_drewN ?_ _) | (with_reducible refine bel_alloc ?_ _)))
          obtain ⟨adL, s, rfl, hadL, hs, hc, hR⟩ := (HA.out.to hbW).at_ hkl
          have hm := H3.out s (List.mem_of_getElem? hs)
          have htl : t < s.l.length := by have := HTG.out s (List.mem_of_getElem? hs); omega
          obtain ⟨adS, e0, e1, hAs, hee, HEE⟩ := hR.inst htl
          rw [hAs] at hc
          have hrow := HROW.out k s hs
          rw [getD_of hee] at hrow
          have HT := Lib.hid (take_succ_of hrow)
          have KPE := Lib.hid (KP.out (e0, e1))
          generalize pl (e0, e1) = pe at *
          obtain ⟨p0, p1⟩ := pe
          simp only at KPE
          generalize (rowAt ls t).take k = ar at *
          generalize s.l.length = sl at *
          obtain ⟨c0, c1⟩ := HEE.out wr (Below.refl _ _)
          clear hs hAs hee HEE hrow hR hadL hbW KL KLt KJt HROW HRL
          go_wp2_with (first
            | (go_at_call 38; (with_reducible refine (KPE.out _).mono ?_); rintro e w3 ⟨rfl, hb3⟩; have hz3 := hb3.size)
            | (at_builtin; refine wpList_append_own_at _ rfl _ _ 26 rfl U1.heap.size 46 i0 (.agg #[.int .i64 0, .int .i64 0]) 2 16 Try.underlying26 hi iz is ib rfl (by decide) _ k (fl ar) rfl (own2_keep harg.out ?_) ⟨_, 0, none⟩ 1 1 [.int .i64 p0, .int .i64 p1] rfl rfl (by first | exact row2 _ _ _ _ | exact row2s _ _ _ _ _ _ _ _ | exact row2a _ _ _ _ _) (c_one _ _) (by unfold maxLen; omega) (by omega) ?_ ?_; (focus ((repeat (first | (with_reducible exact Below.refl _ _) | (with_reducible assumption) | (with_reducible exact bel_box _) | (with_reducible refine bel_step ?_ (by with_reducible assumption)) | (with_reducible refine Below.drew ?_) | (with_reducible refine below_drewN ?_ _) | (with_reducible refine bel_alloc ?_ _) | (with_reducible refine bel_two ?_ (by omega) _ _) | (with_reducible refine bel_one ?_ (by omega) _))); done)); (focus (simp; omega)); intro v9 w9 hown9 hgrow9 _ _; have hb9 : Below U1.heap.size U1 w9 := own2_below hgrow9 rfl harg.out (by simp; omega) (by repeat (first | (with_reducible exact Below.refl _ _) | (with_reducible assumption) | (with_reducible exact bel_box _) | (with_reducible refine bel_step ?_ (by with_reducible assumption)) | (with_reducible refine Below.drew ?_) | (with_reducible refine below_drewN ?_ _) | (with_reducible refine bel_alloc ?_ _) | (with_reducible refine bel_two ?_ (by omega) _ _) | (with_reducible refine bel_one ?_ (by omega) _))); rw [fl_snoc] at hown9; have HO9 := Lib.hid hown9; clear hown9 hgrow9))
          go_roundw
          case rel => exact ⟨k + 1, by omega, by go_num, Lib.hid (by rw [HT.out]; exact HO9.out), hb9⟩
          case measure => simp [intOf]; omega
        · obtain rfl : k = ls.length := by omega
          have harg' := harg.out
          rw [← HRL.out, List.take_length, HRL.out] at harg'
          obtain ⟨V, cv, rfl⟩ := own2_form harg'
          have HRA := Lib.hid (own2_rd harg' HRL.out)
          have hbW : Below W0.heap.size W0 wr := (by repeat (first | (with_reducible exact Below.refl _ _) | (with_reducible assumption) | (with_reducible exact bel_box _) | (with_reducible refine bel_step ?_ (by with_reducible assumption)) | (with_reducible refine Below.drew ?_) | (with_reducible refine below_drewN ?_ _) | (with_reducible refine bel_alloc ?_ _)))
          obtain ⟨z, hz⟩ : ∃ z, liftF op (rowAt ls t) = z := ⟨_, rfl⟩
          have HV := Lib.hid (HO.out z hz)
          have hno : jnt (rowAt ls t) = false → z = (0, 0) := fun h => by rw [← hz, lift_no op h]
          rw [hz] at KLt
          generalize rowAt ls t = row at *
          obtain ⟨z0, z1⟩ := z
          simp only at KLt
          clear harg harg' HRL HROW KL HO hz hbW
          cases hj : jnt row
          · rw [hj] at KJt
            have hz0 := hno hj
            simp only [Prod.mk.injEq] at hz0
            obtain ⟨rfl, rfl⟩ := hz0
            clear hj hno
            go_wp2_with (first
              | (go_at_call 39; (with_reducible refine (KJt.out _ ?_).mono ?_); (focus ((repeat (first | (with_reducible exact Below.refl _ _) | (with_reducible assumption) | (with_reducible exact bel_box _) | (with_reducible refine bel_step ?_ (by with_reducible assumption)) | (with_reducible refine Below.drew ?_) | (with_reducible refine below_drewN ?_ _) | (with_reducible refine bel_alloc ?_ _))); done)); rintro e w2 ⟨rfl, hb2⟩; have hz2 := hb2.size; rw [World.size_alloc] at hz2; have B2 := (Bk.new wr 46 _).go hb2; obtain ⟨q0, q1, q2, q3⟩ := B2.four)
              | (at_builtin; refine wpList_append_own_at _ rfl _ _ 26 rfl W0.heap.size 46 i0 (.agg #[.int .i64 0, .int .i64 0]) 2 16 Try.underlying26 hi iz is ib rfl (by decide) _ t (fl xs) rfl (own2_keep hown.out ?_) ⟨_, 0, none⟩ 1 1 [.int .i64 0, .int .i64 0] rfl rfl (by first | exact row2 _ _ _ _ | exact row2s _ _ _ _ _ _ _ _ | exact row2a _ _ _ _ _) (c_one _ _) (by unfold maxLen; omega) (by omega) ?_ ?_; (focus ((repeat (first | (with_reducible exact Below.refl _ _) | (with_reducible assumption) | (with_reducible exact bel_box _) | (with_reducible refine bel_step ?_ (by with_reducible assumption)) | (with_reducible refine Below.drew ?_) | (with_reducible refine below_drewN ?_ _) | (with_reducible refine bel_alloc ?_ _) | (with_reducible refine bel_two ?_ (by omega) _ _) | (with_reducible refine bel_one ?_ (by omega) _))); done)); (focus (simp; omega)); intro v9 w9 hown9 hgrow9 _ _; have hb9 : Below W0.heap.size W0 w9 := own2_below hgrow9 rfl hown.out (by simp; omega) (by repeat (first | (with_reducible exact Below.refl _ _) | (with_reducible assumption) | (with_reducible exact bel_box _) | (with_reducible refine bel_step ?_ (by with_reducible assumption)) | (with_reducible refine Below.drew ?_) | (with_reducible refine below_drewN ?_ _) | (with_reducible refine bel_alloc ?_ _) | (with_reducible refine bel_two ?_ (by omega) _ _) | (with_reducible refine bel_one ?_ (by omega) _))); rw [fl_snoc] at hown9; have HO9 := Lib.hid hown9; clear hown9 hgrow9))
            go_roundw
            case rel => exact ⟨t + 1, by omega, by go_num, Lib.hid (by rw [HV.out]; exact HO9.out), hb9⟩
            case measure => simp [intOf]; omega
          · rw [hj] at KJt
            clear hj hno
            go_wp2_with (first
              | (go_at_call 39; (with_reducible refine (KJt.out _ ?_).mono ?_); (focus ((repeat (first | (with_reducible exact Below.refl _ _) | (with_reducible assumption) | (with_reducible exact bel_box _) | (with_reducible refine bel_step ?_ (by with_reducible assumption)) | (with_reducible refine Below.drew ?_) | (with_reducible refine below_drewN ?_ _) | (with_reducible refine bel_alloc ?_ _))); done)); rintro e w2 ⟨rfl, hb2⟩; have hz2 := hb2.size; rw [World.size_alloc] at hz2; have B2 := (Bk.new wr 46 _).go hb2; obtain ⟨q0, q1, q2, q3⟩ := B2.four)
              | (go_at_call 40; (with_reducible refine (KLt.out _ _ _ (HRA.out.to ?_)).mono ?_); (focus ((repeat (first | (with_reducible exact Below.refl _ _) | (with_reducible assumption) | (with_reducible exact bel_box _) | (with_reducible refine bel_step ?_ (by with_reducible assumption)) | (with_reducible refine Below.drew ?_) | (with_reducible refine below_drewN ?_ _) | (with_reducible refine bel_alloc ?_ _))); done)); rintro e w3 ⟨rfl, hb3⟩; have hz3 := hb3.size; have B3 := B2.go hb3; clear q0 q1 q2 q3; obtain ⟨q0, q1, q2, q3⟩ := B3.four; have B3s := B3.put2 (.int .i64 z0) (.int .i64 z1); obtain ⟨s0, s1, s2, s3⟩ := B3s.four)
              | (at_builtin; refine wpList_append_own_at _ rfl _ _ 26 rfl W0.heap.size 46 i0 (.agg #[.int .i64 0, .int .i64 0]) 2 16 Try.underlying26 hi iz is ib rfl (by decide) _ t (fl xs) rfl (own2_keep hown.out ?_) ⟨_, 0, none⟩ 1 1 [.int .i64 z0, .int .i64 z1] rfl rfl (by first | exact row2 _ _ _ _ | exact row2s _ _ _ _ _ _ _ _ | exact row2a _ _ _ _ _) (c_one _ _) (by unfold maxLen; omega) (by omega) ?_ ?_; (focus ((repeat (first | (with_reducible exact Below.refl _ _) | (with_reducible assumption) | (with_reducible exact bel_box _) | (with_reducible refine bel_step ?_ (by with_reducible assumption)) | (with_reducible refine Below.drew ?_) | (with_reducible refine below_drewN ?_ _) | (with_reducible refine bel_alloc ?_ _) | (with_reducible refine bel_two ?_ (by omega) _ _) | (with_reducible refine bel_one ?_ (by omega) _))); done)); (focus (simp; omega)); intro v9 w9 hown9 hgrow9 _ _; have hb9 : Below W0.heap.size W0 w9 := own2_below hgrow9 rfl hown.out (by simp; omega) (by repeat (first | (with_reducible exact Below.refl _ _) | (with_reducible assumption) | (with_reducible exact bel_box _) | (with_reducible refine bel_step ?_ (by with_reducible assumption)) | (with_reducible refine Below.drew ?_) | (with_reducible refine below_drewN ?_ _) | (with_reducible refine bel_alloc ?_ _) | (with_reducible refine bel_two ?_ (by omega) _ _) | (with_reducible refine bel_one ?_ (by omega) _))); rw [fl_snoc] at hown9; have HO9 := Lib.hid hown9; clear hown9 hgrow9))
            go_roundw
            case rel => exact ⟨t + 1, by omega, by go_num, Lib.hid (by rw [HV.out]; exact HO9.out), hb9⟩
            case measure => simp [intOf]; omega
    · obtain rfl : t = tog ls := by omega
      have HW0 := Lib.hid (Below.refl W0.heap.size W0)
      have hrow := 0
      clear KL
      obtain ⟨V, cv, rfl⟩ := own2_form hown.out
      have HR := Lib.hid (own2_rd hown.out (outT_length _ _ _ _))
      have HL := Lib.hid (outT_length (eS (liftF op)) () ls (tog ls))
      generalize outT (eS (liftF op)) () ls (tog ls) = xs at *
      generalize tog ls = n at *
      clear hown hrow KJ
      have HB := Lib.hid (HW0.out.trans (hbl.mono HW0.out.size))
      go_wp2_with (go_at_call 37; (with_reducible refine (KG.out _ ?_).mono ?_); (focus ((repeat (first | (with_reducible exact Below.refl _ _) | (with_reducible assumption) | (with_reducible exact bel_box _) | (with_reducible refine bel_step ?_ (by with_reducible assumption)) | (with_reducible refine Below.drew ?_) | (with_reducible refine below_drewN ?_ _) | (with_reducible refine bel_alloc ?_ _))); done)); rintro e w1 ⟨rfl, hb1⟩; have hz1 := hb1.size)
      go_ret
      exact ⟨V, cv, by rw [HL.out]; rfl, HR.out.to (by repeat (first | (with_reducible exact Below.refl _ _) | (with_reducible assumption) | (with_reducible exact bel_box _) | (with_reducible refine bel_step ?_ (by with_reducible assumption)) | (with_reducible refine Below.drew ?_) | (with_reducible refine below_drewN ?_ _) | (with_reducible refine bel_alloc ?_ _))), HB.out.trans (hb1.mono HB.out.size)⟩
end Go.Proofs.Ytefmnjcllncmpaa
/- Word of the reference. -/
namespace Go.Proofs.Ytefmnjcllncmpaa
set_option linter.unusedVariables false
set_option linter.unusedSimpArgs false
open Go.RowKit
theorem bel_one {w W : World} {B g i : Nat} (h : Below B w W) (hg : B ≤ g) (u : Value) : Below B w (W.setCell ⟨g, i, none⟩ u) := h.setCell (p := ⟨g, i, none⟩) hg _
end Go.Proofs.Ytefmnjcllncmpaa
/- The law's examples. -/
namespace Go.Proofs.Ytefmnjcllncmpaa
set_option linter.unusedVariables false
set_option linter.unusedSimpArgs false
open Go.RowKit
def lvW (w : World) : World := ((((((w.alloc (.cells #[.int .i64 1, .int .i64 5, .int .i64 0, .int .i64 0, .int .i64 1, .int .i64 6, .int .i64 1, .int .i64 7] 46)).alloc (.cells #[.int .i64 2, .int .i64 0, .int .i64 0, .int .i64 0, .int .i64 1, .int .i64 5, .int .i64 1, .int .i64 6] 46)).alloc (.cells #[.bool true] 4)).alloc (.cells #[.bool false, .bool true] 4)).alloc (.cells #[.slice (some ⟨w.heap.size + 1 + 1, 0, none⟩) 1 1, .slice (some ⟨w.heap.size + 1 + 1 + 1, 0, none⟩) 2 2] 36)).alloc (.cells #[.int .i64 1, .int .i64 1, .int .i64 0, .int .i64 0, .int .i64 1, .int .i64 0, .int .i64 1, .int .i64 1] 46))
def NewL (l : List (Int × Int)) (n : Nat) (w : World) (e : Ending) (w' : World) : Prop := ∃ A c, e = .returned (.slice A n c) ∧ Hid (RdC w' w'.heap.size A l) ∧ Below w.heap.size w w'
theorem newL {xs l : List (Int × Int)} {n : Nat} {w w' : World} {e : Ending} (h : NewC xs w e w') (hx : xs = l) (hn : l.length = n) : NewL l n w e w' := by
  subst hx; subst hn
  obtain ⟨A, c, e1, h1, h2⟩ := h
  exact ⟨A, c, e1, Lib.hid h1, h2⟩
theorem htoR {w W : World} {A : Option Addr} {xs : List (Int × Int)} (h : Hid (RdC w w.heap.size A xs)) (hb : Below w.heap.size w W) : RdC W W.heap.size A xs := h.out.to hb
theorem rd_new {W : World} {t : TypeId} {cs : Array Value} (l : List Value) (h : cs = l.toArray) : Rd (W.alloc (.cells cs t)) (W.alloc (.cells cs t)).heap.size (some ⟨W.heap.size, 0, none⟩) l := fun _ => ⟨_, rfl, by simp, fun j u hu => by
  subst h
  rw [add_off, cell_of_row _ _ j _ t (0, 0) (heap_alloc_new W _), ← hu]
  simp⟩
theorem is_at (l : List Int) (n : Nat) (hn : l.length = n) (hl : n ≤ 100) (b : Nat) (W : World) (h : Rd W W.heap.size (some ⟨b, 0, none⟩) (is_ l)) : Calls Try.prog 33 #[.slice (some ⟨b, 0, none⟩) n n] W (NewL (l.map fun v => (1, v)) n W) := by
  subst hn
  exact (is_any _ l.length l W h (by omega)).mono fun e w' h => newL h rfl (by simp)
theorem same_at (A B : Option Addr) (c d : Nat) (l : List (Int × Int)) (n : Nat) (hn : l.length = n) (hl : n ≤ 100) (W : World) (hA : RdC W W.heap.size A l) (hB : RdC W W.heap.size B l) : Calls Try.prog 11 #[.slice A n c, .slice B n d] W (Bel (.bool true) W) := by
  subst hn
  exact same_any A B c d l W hA hB (by omega)
theorem lv_facts (w : World) : Below w.heap.size w (lvW w) ∧ RdC (lvW w) (lvW w).heap.size (some ⟨w.heap.size, 0, none⟩) [(1, 5), (0, 0), (1, 6), (1, 7)] ∧ RdC (lvW w) (lvW w).heap.size (some ⟨w.heap.size + 1, 0, none⟩) [(2, 0), (0, 0), (1, 5), (1, 6)] ∧
    Rd (lvW w) (lvW w).heap.size (some ⟨w.heap.size + 1 + 1, 0, none⟩) (bls [true]) ∧ Rd (lvW w) (lvW w).heap.size (some ⟨w.heap.size + 1 + 1 + 1, 0, none⟩) (bls [false, true]) ∧
    Bk (lvW w) (w.heap.size + 1 + 1 + 1 + 1) 36 #[.slice (some ⟨w.heap.size + 1 + 1, 0, none⟩) 1 1, .slice (some ⟨w.heap.size + 1 + 1 + 1, 0, none⟩) 2 2] ∧ RdC (lvW w) (lvW w).heap.size (some ⟨w.heap.size + 1 + 1 + 1 + 1 + 1, 0, none⟩) [(1, 1), (0, 0), (1, 0), (1, 1)] := by
  unfold lvW
  generalize h1 : w.alloc (.cells #[.int .i64 1, .int .i64 5, .int .i64 0, .int .i64 0, .int .i64 1, .int .i64 6, .int .i64 1, .int .i64 7] 46) = w1
  have z1 : w1.heap.size = w.heap.size + 1 := by rw [← h1, World.size_alloc]
  have r1 : Bc w1 w.heap.size [(1, 5), (0, 0), (1, 6), (1, 7)] := by rw [← h1]; exact Bk.new _ _ _
  have b1 : Below w.heap.size w w1 := by rw [← h1]; exact bel_box _
  rw [← z1]
  generalize h2 : w1.alloc (.cells #[.int .i64 2, .int .i64 0, .int .i64 0, .int .i64 0, .int .i64 1, .int .i64 5, .int .i64 1, .int .i64 6] 46) = w2
  have z2 : w2.heap.size = w1.heap.size + 1 := by rw [← h2, World.size_alloc]
  have r2 : Bc w2 w1.heap.size [(2, 0), (0, 0), (1, 5), (1, 6)] := by rw [← h2]; exact Bk.new _ _ _
  have b2 : Below w1.heap.size w1 w2 := by rw [← h2]; exact bel_box _
  rw [← z2]
  generalize h3 : w2.alloc (.cells #[.bool true] 4) = w3
  have z3 : w3.heap.size = w2.heap.size + 1 := by rw [← h3, World.size_alloc]
  have r3 : Rd w3 w3.heap.size (some ⟨w2.heap.size, 0, none⟩) (bls [true]) := by rw [← h3]; exact rd_new _ rfl
  have b3 : Below w2.heap.size w2 w3 := by rw [← h3]; exact bel_box _
  rw [← z3]
  generalize h4 : w3.alloc (.cells #[.bool false, .bool true] 4) = w4
  have z4 : w4.heap.size = w3.heap.size + 1 := by rw [← h4, World.size_alloc]
  have r4 : Rd w4 w4.heap.size (some ⟨w3.heap.size, 0, none⟩) (bls [false, true]) := by rw [← h4]; exact rd_new _ rfl
  have b4 : Below w3.heap.size w3 w4 := by rw [← h4]; exact bel_box _
  rw [← z4]
  generalize h5 : w4.alloc (.cells #[.slice (some ⟨w2.heap.size, 0, none⟩) 1 1, .slice (some ⟨w3.heap.size, 0, none⟩) 2 2] 36) = w5
  have z5 : w5.heap.size = w4.heap.size + 1 := by rw [← h5, World.size_alloc]
  have r5 : Bk w5 w4.heap.size 36 #[.slice (some ⟨w2.heap.size, 0, none⟩) 1 1, .slice (some ⟨w3.heap.size, 0, none⟩) 2 2] := by rw [← h5]; exact Bk.new _ _ _
  have b5 : Below w4.heap.size w4 w5 := by rw [← h5]; exact bel_box _
  rw [← z5]
  generalize h6 : w5.alloc (.cells #[.int .i64 1, .int .i64 1, .int .i64 0, .int .i64 0, .int .i64 1, .int .i64 0, .int .i64 1, .int .i64 1] 46) = w6
  have r6 : Bc w6 w5.heap.size [(1, 1), (0, 0), (1, 0), (1, 1)] := by rw [← h6]; exact Bk.new _ _ _
  have b6 : Below w5.heap.size w5 w6 := by rw [← h6]; exact bel_box _
  have c5 : Below w4.heap.size w4 w6 := bel_step b5 b6
  have c4 : Below w3.heap.size w3 w6 := bel_step b4 c5
  have c3 : Below w2.heap.size w2 w6 := bel_step b3 c4
  have c2 : Below w1.heap.size w1 w6 := bel_step b2 c3
  exact ⟨bel_step b1 c2, r1.rd.to c2, r2.rd.to c3, r3.to c4, r4.to c5, r5.go b6, r6.rd⟩
theorem ex_pre (A : Option Addr) (c : Nat) : outT preS (2, 0) [⟨A, c, [(1, 5), (0, 0), (1, 6), (1, 7)]⟩] (tog [⟨A, c, [(1, 5), (0, 0), (1, 6), (1, 7)]⟩]) = [(2, 0), (0, 0), (1, 5), (1, 6)] := by rfl
theorem ex_word0 : runS (wordS [true] [false, true]) 0 [[(1, 5)], [(0, 0)], [(1, 6)], [(1, 7)]] = [(1, 1), (0, 0), (1, 0), (1, 1)] := by simp [runS, wordS, jnt, thB, bw.ck, bw.att, bw.lt, wrap64]
theorem ex_word (A : Option Addr) (c : Nat) : outT (wordS [true] [false, true]) 0 [⟨A, c, [(1, 5), (0, 0), (1, 6), (1, 7)]⟩] (tog [⟨A, c, [(1, 5), (0, 0), (1, 6), (1, 7)]⟩]) = [(1, 1), (0, 0), (1, 0), (1, 1)] := ex_word0
theorem ex_fby (A B : Option Addr) (c d : Nat) : outT fbyS (0, 0) [⟨A, c, [(1, 0), (1, 0)]⟩, ⟨B, d, [(1, 1), (1, 2)]⟩] (tog [⟨A, c, [(1, 0), (1, 0)]⟩, ⟨B, d, [(1, 1), (1, 2)]⟩]) = [(1, 0), (1, 1)] := by rfl
theorem ex_const : List.replicate (constN 2) ((1, 3) : Int × Int) = [(1, 3), (1, 3)] := by rfl
theorem ex_lift0 : liftF 6 [(1, 1), (1, 3)] = (1, 4) := by decide
theorem ex_lift (A B : Option Addr) (c d : Nat) : (rowsTo [⟨A, c, [(1, 1), (1, 2)]⟩, ⟨B, d, [(1, 3)]⟩] (tog [⟨A, c, [(1, 1), (1, 2)]⟩, ⟨B, d, [(1, 3)]⟩])).map (liftF 6) = [(1, 4)] := congrArg (fun z => [z]) ex_lift0
set_option maxHeartbeats 2000000 in
set_option maxRecDepth 20000 in
theorem lives_any (w : World) : Calls Try.prog 10 #[] w (Bel (.bool true) w) := by
  obtain ⟨hb6, ra, rp, rh, rl, rw_, rword⟩ := lv_facts w
  have HB6 := Lib.hid hb6
  have KPRE : Hid (Calls Try.prog 18 #[.slice (some ⟨w.heap.size, 0, none⟩) 4 4] (lvW w) (NewL [(2, 0), (0, 0), (1, 5), (1, 6)] 4 (lvW w))) := Lib.hid ((pre_any _ 4 [(1, 5), (0, 0), (1, 6), (1, 7)] (lvW w) ra (by simp)).mono fun e w' h => newL h (ex_pre _ _) rfl)
  generalize hW6 : lvW w = W6 at *
  have HW6 := Lib.hid hW6
  have KPR : Hid (Calls Try.prog 18 #[.slice (some ⟨w.heap.size, 0, none⟩) 4 4] (lvW w) (NewL [(2, 0), (0, 0), (1, 5), (1, 6)] 4 W6)) := Lib.hid (by rw [hW6]; exact KPRE.out)
  have RA := Lib.hid ra
  have RP := Lib.hid rp
  have RW := Lib.hid rword
  have RB : Hid (∀ W, Below W6.heap.size W6 W → W.cell? ⟨w.heap.size + 1 + 1 + 1 + 1, 0, none⟩ = some (.slice (some ⟨w.heap.size + 1 + 1, 0, none⟩) 1 1) ∧ W.cell? ⟨w.heap.size + 1 + 1 + 1 + 1, 1, none⟩ = some (.slice (some ⟨w.heap.size + 1 + 1 + 1, 0, none⟩) 2 2)) := Lib.hid fun W hW => ⟨(rw_.go hW).cell 0, (rw_.go hW).cell 1⟩
  have KW : Hid (∀ W, Below W6.heap.size W6 W → Calls Try.prog 26 #[.agg #[.slice (some ⟨w.heap.size + 1 + 1, 0, none⟩) 1 1, .slice (some ⟨w.heap.size + 1 + 1 + 1, 0, none⟩) 2 2], .slice (some ⟨w.heap.size, 0, none⟩) 4 4] W (NewL [(1, 1), (0, 0), (1, 0), (1, 1)] 4 W)) := Lib.hid fun W hW =>
    (word_any (some ⟨w.heap.size + 1 + 1, 0, none⟩) (some ⟨w.heap.size + 1 + 1 + 1, 0, none⟩) (some ⟨w.heap.size, 0, none⟩) 1 2 4 [true] [false, true] [(1, 5), (0, 0), (1, 6), (1, 7)] W (rh.to hW) (rl.to hW) (ra.to hW) (by simp) (by simp) (by simp)).mono fun e w' h => newL h (ex_word _ _) rfl
  have KL : Hid (∀ A c B d b W, RdS W W.heap.size (some ⟨b, 0, none⟩) [⟨A, c, [(1, 1), (1, 2)]⟩, ⟨B, d, [(1, 3)]⟩] → Calls Try.prog 12 #[.int .i64 6, .slice (some ⟨b, 0, none⟩) 2 2] W (NewL [(1, 4)] 1 W)) := Lib.hid fun A c B d b W h =>
    (liftP_any 6 (some ⟨b, 0, none⟩) 2 [⟨A, c, [(1, 1), (1, 2)]⟩, ⟨B, d, [(1, 3)]⟩] W h (by simp) (rl2 _ _ _ (by simp) (by simp))).mono fun e w' h => newL h (ex_lift _ _ _ _) rfl
  have KF : Hid (∀ A c B d W, RdC W W.heap.size A [(1, 0), (1, 0)] → RdC W W.heap.size B [(1, 1), (1, 2)] → Calls Try.prog 22 #[.slice A 2 c, .slice B 2 d] W (NewL [(1, 0), (1, 1)] 2 W)) := Lib.hid fun A c B d W h1 h2 =>
    (fby_any A B c d [(1, 0), (1, 0)] [(1, 1), (1, 2)] W h1 h2 (by simp) (by simp)).mono fun e w' h => newL h (ex_fby _ _ _ _) rfl
  have KC : Hid (∀ W, Calls Try.prog 14 #[.int .i64 3, .int .i64 2] W (NewL [(1, 3), (1, 3)] 2 W)) := Lib.hid fun W => (constP_any 3 2 W).mono fun e w' h => newL h (ex_const) rfl
  have I12 : Hid (∀ b W, Rd W W.heap.size (some ⟨b, 0, none⟩) (is_ [1, 2]) → Calls Try.prog 33 #[.slice (some ⟨b, 0, none⟩) 2 2] W (NewL [(1, 1), (1, 2)] 2 W)) := Lib.hid fun b W h => is_at [1, 2] 2 rfl (by omega) b W h
  have I3 : Hid (∀ b W, Rd W W.heap.size (some ⟨b, 0, none⟩) (is_ [3]) → Calls Try.prog 33 #[.slice (some ⟨b, 0, none⟩) 1 1] W (NewL [(1, 3)] 1 W)) := Lib.hid fun b W h => is_at [3] 1 rfl (by omega) b W h
  have I4 : Hid (∀ b W, Rd W W.heap.size (some ⟨b, 0, none⟩) (is_ [4]) → Calls Try.prog 33 #[.slice (some ⟨b, 0, none⟩) 1 1] W (NewL [(1, 4)] 1 W)) := Lib.hid fun b W h => is_at [4] 1 rfl (by omega) b W h
  have I00 : Hid (∀ b W, Rd W W.heap.size (some ⟨b, 0, none⟩) (is_ [0, 0]) → Calls Try.prog 33 #[.slice (some ⟨b, 0, none⟩) 2 2] W (NewL [(1, 0), (1, 0)] 2 W)) := Lib.hid fun b W h => is_at [0, 0] 2 rfl (by omega) b W h
  have I01 : Hid (∀ b W, Rd W W.heap.size (some ⟨b, 0, none⟩) (is_ [0, 1]) → Calls Try.prog 33 #[.slice (some ⟨b, 0, none⟩) 2 2] W (NewL [(1, 0), (1, 1)] 2 W)) := Lib.hid fun b W h => is_at [0, 1] 2 rfl (by omega) b W h
  have I33 : Hid (∀ b W, Rd W W.heap.size (some ⟨b, 0, none⟩) (is_ [3, 3]) → Calls Try.prog 33 #[.slice (some ⟨b, 0, none⟩) 2 2] W (NewL [(1, 3), (1, 3)] 2 W)) := Lib.hid fun b W h => is_at [3, 3] 2 rfl (by omega) b W h
  have SP : Hid (∀ A B c d W, RdC W W.heap.size A [(2, 0), (0, 0), (1, 5), (1, 6)] → RdC W W.heap.size B [(2, 0), (0, 0), (1, 5), (1, 6)] → Calls Try.prog 11 #[.slice A 4 c, .slice B 4 d] W (Bel (.bool true) W)) := Lib.hid fun A B c d W h1 h2 => same_at A B c d [(2, 0), (0, 0), (1, 5), (1, 6)] 4 rfl (by omega) W h1 h2
  have S4 : Hid (∀ A B c d W, RdC W W.heap.size A [(1, 4)] → RdC W W.heap.size B [(1, 4)] → Calls Try.prog 11 #[.slice A 1 c, .slice B 1 d] W (Bel (.bool true) W)) := Lib.hid fun A B c d W h1 h2 => same_at A B c d [(1, 4)] 1 rfl (by omega) W h1 h2
  have SW : Hid (∀ A B c d W, RdC W W.heap.size A [(1, 1), (0, 0), (1, 0), (1, 1)] → RdC W W.heap.size B [(1, 1), (0, 0), (1, 0), (1, 1)] → Calls Try.prog 11 #[.slice A 4 c, .slice B 4 d] W (Bel (.bool true) W)) := Lib.hid fun A B c d W h1 h2 => same_at A B c d [(1, 1), (0, 0), (1, 0), (1, 1)] 4 rfl (by omega) W h1 h2
  have S01 : Hid (∀ A B c d W, RdC W W.heap.size A [(1, 0), (1, 1)] → RdC W W.heap.size B [(1, 0), (1, 1)] → Calls Try.prog 11 #[.slice A 2 c, .slice B 2 d] W (Bel (.bool true) W)) := Lib.hid fun A B c d W h1 h2 => same_at A B c d [(1, 0), (1, 1)] 2 rfl (by omega) W h1 h2
  have S33 : Hid (∀ A B c d W, RdC W W.heap.size A [(1, 3), (1, 3)] → RdC W W.heap.size B [(1, 3), (1, 3)] → Calls Try.prog 11 #[.slice A 2 c, .slice B 2 d] W (Bel (.bool true) W)) := Lib.hid fun A B c d W h1 h2 => same_at A B c d [(1, 3), (1, 3)] 2 rfl (by omega) W h1 h2
  clear ra rp rh rl rw_ rword hb6 hW6 KPRE
  go_enter Try.func10, Try.ntmps10
  go_wp2_with (first
    | (go_at_call 18; (refine KPR.out.mono ?_); rintro e w1 ⟨A1, c1, rfl, R1, hb1⟩)
    | (go_at_call 11; (with_reducible refine (SP.out _ _ _ _ _ (htoR R1 ?_) (htoR RP ?_)).mono ?_); (focus ((repeat (first | (with_reducible exact Below.refl _ _) | (with_reducible assumption) | (with_reducible exact bel_box _) | (with_reducible refine bel_step ?_ (by with_reducible assumption)) | (with_reducible refine Below.drew ?_) | (with_reducible refine below_drewN ?_ _) | (with_reducible refine bel_alloc ?_ _))); done)); (focus ((repeat (first | (with_reducible exact Below.refl _ _) | (with_reducible assumption) | (with_reducible exact bel_box _) | (with_reducible refine bel_step ?_ (by with_reducible assumption)) | (with_reducible refine Below.drew ?_) | (with_reducible refine below_drewN ?_ _) | (with_reducible refine bel_alloc ?_ _))); done)); rintro e u1 ⟨rfl, hu1⟩)
    | (go_at_call 11; (with_reducible refine (S4.out _ _ _ _ _ (htoR (by assumption) ?_) (htoR (by assumption) ?_)).mono ?_); (focus ((repeat (first | (with_reducible exact Below.refl _ _) | (with_reducible assumption) | (with_reducible exact bel_box _) | (with_reducible refine bel_step ?_ (by with_reducible assumption)) | (with_reducible refine Below.drew ?_) | (with_reducible refine below_drewN ?_ _) | (with_reducible refine bel_alloc ?_ _))); done)); (focus ((repeat (first | (with_reducible exact Below.refl _ _) | (with_reducible assumption) | (with_reducible exact bel_box _) | (with_reducible refine bel_step ?_ (by with_reducible assumption)) | (with_reducible refine Below.drew ?_) | (with_reducible refine below_drewN ?_ _) | (with_reducible refine bel_alloc ?_ _))); done)); rintro e u2 ⟨rfl, hu2⟩; obtain ⟨x0, x1⟩ := RB.out u2 (by repeat (first | (with_reducible exact Below.refl _ _) | (with_reducible assumption) | (with_reducible exact bel_box _) | (with_reducible refine bel_step ?_ (by with_reducible assumption)) | (with_reducible refine Below.drew ?_) | (with_reducible refine below_drewN ?_ _) | (with_reducible refine bel_alloc ?_ _))))
    | (go_at_call 11; (with_reducible refine (SW.out _ _ _ _ _ (htoR (by assumption) ?_) (htoR RW ?_)).mono ?_); (focus ((repeat (first | (with_reducible exact Below.refl _ _) | (with_reducible assumption) | (with_reducible exact bel_box _) | (with_reducible refine bel_step ?_ (by with_reducible assumption)) | (with_reducible refine Below.drew ?_) | (with_reducible refine below_drewN ?_ _) | (with_reducible refine bel_alloc ?_ _))); done)); (focus ((repeat (first | (with_reducible exact Below.refl _ _) | (with_reducible assumption) | (with_reducible exact bel_box _) | (with_reducible refine bel_step ?_ (by with_reducible assumption)) | (with_reducible refine Below.drew ?_) | (with_reducible refine below_drewN ?_ _) | (with_reducible refine bel_alloc ?_ _))); done)); rintro e u3 ⟨rfl, hu3⟩)
    | (go_at_call 11; (with_reducible refine (S01.out _ _ _ _ _ (htoR (by assumption) ?_) (htoR (by assumption) ?_)).mono ?_); (focus ((repeat (first | (with_reducible exact Below.refl _ _) | (with_reducible assumption) | (with_reducible exact bel_box _) | (with_reducible refine bel_step ?_ (by with_reducible assumption)) | (with_reducible refine Below.drew ?_) | (with_reducible refine below_drewN ?_ _) | (with_reducible refine bel_alloc ?_ _))); done)); (focus ((repeat (first | (with_reducible exact Below.refl _ _) | (with_reducible assumption) | (with_reducible exact bel_box _) | (with_reducible refine bel_step ?_ (by with_reducible assumption)) | (with_reducible refine Below.drew ?_) | (with_reducible refine below_drewN ?_ _) | (with_reducible refine bel_alloc ?_ _))); done)); rintro e u4 ⟨rfl, hu4⟩)
    | (go_at_call 11; (with_reducible refine (S33.out _ _ _ _ _ (htoR (by assumption) ?_) (htoR (by assumption) ?_)).mono ?_); (focus ((repeat (first | (with_reducible exact Below.refl _ _) | (with_reducible assumption) | (with_reducible exact bel_box _) | (with_reducible refine bel_step ?_ (by with_reducible assumption)) | (with_reducible refine Below.drew ?_) | (with_reducible refine below_drewN ?_ _) | (with_reducible refine bel_alloc ?_ _))); done)); (focus ((repeat (first | (with_reducible exact Below.refl _ _) | (with_reducible assumption) | (with_reducible exact bel_box _) | (with_reducible refine bel_step ?_ (by with_reducible assumption)) | (with_reducible refine Below.drew ?_) | (with_reducible refine below_drewN ?_ _) | (with_reducible refine bel_alloc ?_ _))); done)); rintro e u5 ⟨rfl, hu5⟩)
    | (go_at_call 33; (with_reducible refine (I12.out _ _ ?_).mono ?_); (focus (exact rd_new (is_ [1, 2]) rfl)); rintro e w2 ⟨A2, c2, rfl, R2, hb2⟩; skip)
    | (go_at_call 33; (with_reducible refine (I3.out _ _ ?_).mono ?_); (focus (exact rd_new (is_ [3]) rfl)); rintro e w3 ⟨A3, c3, rfl, R3, hb3⟩)
    | (go_at_call 33; (with_reducible refine (I4.out _ _ ?_).mono ?_); (focus (exact rd_new (is_ [4]) rfl)); rintro e w4 ⟨A4, c4, rfl, R4, hb4⟩)
    | (go_at_call 33; (with_reducible refine (I00.out _ _ ?_).mono ?_); (focus (exact rd_new (is_ [0, 0]) rfl)); rintro e w5 ⟨A5, c5, rfl, R5, hb5⟩)
    | (go_at_call 33; (with_reducible refine (I01.out _ _ ?_).mono ?_); (focus (exact rd_new (is_ [0, 1]) rfl)); rintro e w6 ⟨A6, c6, rfl, R6, hb6⟩)
    | (go_at_call 33; (with_reducible refine (I33.out _ _ ?_).mono ?_); (focus (exact rd_new (is_ [3, 3]) rfl)); rintro e w7 ⟨A7, c7, rfl, R7, hb7⟩)
    | (go_at_call 12; (with_reducible refine (KL.out A2 c2 A3 c3 _ _ ?_).mono ?_); (focus (exact RdS.new [⟨A2, c2, [(1, 1), (1, 2)]⟩, ⟨A3, c3, [(1, 3)]⟩] _ rfl (rl2 _ _ _ (htoR R2 (by repeat (first | (with_reducible exact Below.refl _ _) | (with_reducible assumption) | (with_reducible exact bel_box _) | (with_reducible refine bel_step ?_ (by with_reducible assumption)) | (with_reducible refine Below.drew ?_) | (with_reducible refine below_drewN ?_ _) | (with_reducible refine bel_alloc ?_ _)))) (htoR R3 (by repeat (first | (with_reducible exact Below.refl _ _) | (with_reducible assumption) | (with_reducible exact bel_box _) | (with_reducible refine bel_step ?_ (by with_reducible assumption)) | (with_reducible refine Below.drew ?_) | (with_reducible refine below_drewN ?_ _) | (with_reducible refine bel_alloc ?_ _))))))); rintro e w8 ⟨A8, c8, rfl, R8, hb8⟩)
    | (go_at_call 26; (with_reducible refine (KW.out _ ?_).mono ?_); (focus ((repeat (first | (with_reducible exact Below.refl _ _) | (with_reducible assumption) | (with_reducible exact bel_box _) | (with_reducible refine bel_step ?_ (by with_reducible assumption)) | (with_reducible refine Below.drew ?_) | (with_reducible refine below_drewN ?_ _) | (with_reducible refine bel_alloc ?_ _))); done)); rintro e w9 ⟨A9, c9, rfl, R9, hb9⟩)
    | (go_at_call 22; (with_reducible refine (KF.out _ _ _ _ _ (htoR (by assumption) ?_) (htoR (by assumption) ?_)).mono ?_); (focus ((repeat (first | (with_reducible exact Below.refl _ _) | (with_reducible assumption) | (with_reducible exact bel_box _) | (with_reducible refine bel_step ?_ (by with_reducible assumption)) | (with_reducible refine Below.drew ?_) | (with_reducible refine below_drewN ?_ _) | (with_reducible refine bel_alloc ?_ _))); done)); (focus ((repeat (first | (with_reducible exact Below.refl _ _) | (with_reducible assumption) | (with_reducible exact bel_box _) | (with_reducible refine bel_step ?_ (by with_reducible assumption)) | (with_reducible refine Below.drew ?_) | (with_reducible refine below_drewN ?_ _) | (with_reducible refine bel_alloc ?_ _))); done)); rintro e w10 ⟨A10, c10, rfl, R10, hb10⟩)
    | (go_at_call 14; (with_reducible refine (KC.out _).mono ?_); rintro e w11 ⟨A11, c11, rfl, R11, hb11⟩))
  go_ret
  have hb6 := HB6.out
  exact ⟨rfl, bel_step hb6 (by repeat (first | (with_reducible exact Below.refl _ _) | (with_reducible assumption) | (with_reducible exact bel_box _) | (with_reducible refine bel_step ?_ (by with_reducible assumption)) | (with_reducible refine Below.drew ?_) | (with_reducible refine below_drewN ?_ _) | (with_reducible refine bel_alloc ?_ _)))⟩
end Go.Proofs.Ytefmnjcllncmpaa
/- long; StreamLifts, StreamDelays. -/
namespace Go.Proofs.Ytefmnjcllncmpaa
set_option linter.unusedVariables false
set_option linter.unusedSimpArgs false
open Go.RowKit
def longB (ls : List St) : Bool := decide (8 < ls.length) || ls.any fun s => decide (300 < s.l.length)
theorem longB_no {ls : List St} (h : longB ls = false) : ls.length ≤ 8 ∧ ∀ s ∈ ls, s.l.length ≤ 300 := by
  unfold longB at h
  rw [Bool.or_eq_false_iff] at h
  refine ⟨by simpa using h.1, fun s hs => ?_⟩
  have := (List.any_eq_false.1 h.2) s hs
  simpa using this
set_option maxHeartbeats 1000000 in
theorem long_any (A : Option Addr) (c : Nat) (ls : List St) (w : World) (hA : RdS w w.heap.size A ls) (hl : ls.length ≤ 9223372036854775807) (h3 : ∀ s ∈ ls, s.l.length ≤ 9223372036854775807) :
    Calls Try.prog 9 #[.slice A ls.length c] w (Bel (.bool (longB ls)) w) := by
  by_cases h8 : 8 < ls.length
  · have hb : longB ls = true := by unfold longB; rw [decide_eq_true h8]; rfl
    rw [hb]
    have g1 : (8 : Int) < (ls.length : Int) := by omega
    go_enter Try.func9, Try.ntmps9
    go_wp2
    go_ret
    exact ⟨rfl, Below.refl _ _⟩
  · have HA := Lib.hid hA
    have H3 := Lib.hid h3
    have g1 : ¬ (8 : Int) < (ls.length : Int) := by omega
    have HB : Hid (longB ls = ls.any fun s => decide (300 < s.l.length)) := Lib.hid (by unfold longB; rw [decide_eq_false h8]; rfl)
    clear hA h3
    go_enter Try.func9, Try.ntmps9
    go_wp2
    go_loopw [3] (fun i wr => ∃ k : Nat, k ≤ ls.length ∧ i = .int .i64 (k : Int) ∧ Hid ((ls.take k).any (fun s => decide (300 < s.l.length)) = false) ∧ Below w.heap.size w wr) (fun i _ => ls.length - (intOf i).toNat)
    case atStart => exact ⟨0, by omega, rfl, Lib.hid rfl, Below.refl _ _⟩
    case round =>
      obtain ⟨k, hk, rfl, hn, hbl⟩ := hrel
      by_cases hlt : k < ls.length
      · obtain ⟨ad, s, rfl, had, hs, hc, _⟩ := (HA.out.to hbl).at_ hlt
        have hm := H3.out s (List.mem_of_getElem? hs)
        have HT : Hid ((ls.take (k + 1)).any (fun s => decide (300 < s.l.length)) = decide (300 < s.l.length)) := Lib.hid (by rw [take_succ_of hs, List.any_append, hn.out]; simp)
        have HY : Hid (300 < s.l.length → longB ls = true) := Lib.hid fun h => by rw [HB.out, List.any_eq_true]; exact ⟨s, List.mem_of_getElem? hs, by simpa using h⟩
        clear hs
        generalize s.l.length = m at *
        by_cases h1 : 300 < m
        · have HZ := Lib.hid (HY.out h1)
          have g2 : (300 : Int) < (m : Int) := by omega
          clear HY HT
          go_wp2
          go_ret
          exact ⟨by rw [HZ.out]; rfl, (by repeat (first | (with_reducible exact Below.refl _ _) | (with_reducible assumption) | (with_reducible exact bel_box _) | (with_reducible refine bel_step ?_ (by with_reducible assumption)) | (with_reducible refine Below.drew ?_) | (with_reducible refine below_drewN ?_ _) | (with_reducible refine bel_alloc ?_ _)))⟩
        · have g2 : ¬ (300 : Int) < (m : Int) := by omega
          clear HY
          go_wp2
          go_roundw
          case rel => exact ⟨k + 1, by omega, by go_num, Lib.hid (by rw [HT.out]; simpa using h1), (by repeat (first | (with_reducible exact Below.refl _ _) | (with_reducible assumption) | (with_reducible exact bel_box _) | (with_reducible refine bel_step ?_ (by with_reducible assumption)) | (with_reducible refine Below.drew ?_) | (with_reducible refine below_drewN ?_ _) | (with_reducible refine bel_alloc ?_ _)))⟩
          case measure => simp [intOf]; omega
      · obtain rfl : k = ls.length := by omega
        have hn' := hn.out
        rw [List.take_length, ← HB.out] at hn'
        have HZ := Lib.hid hn'
        clear hn hn' HB H3
        go_wp2
        go_ret
        exact ⟨by rw [HZ.out]; rfl, hbl⟩
/-- as NewC, with the row hidden and the length told -/
def NewH (xs : List (Int × Int)) (n : Nat) (w : World) (e : Ending) (w' : World) : Prop := ∃ A c, e = .returned (.slice A n c) ∧ Hid (RdC w' w'.heap.size A xs) ∧ Below w.heap.size w w'
theorem newH {xs : List (Int × Int)} {n : Nat} {w w' : World} {e : Ending} (hn : xs.length = n) (h : NewC xs w e w') : NewH xs n w e w' := by
  subst hn
  obtain ⟨A, c, e1, h1, h2⟩ := h
  exact ⟨A, c, e1, Lib.hid h1, h2⟩
theorem same_h (xs : List (Int × Int)) (n : Nat) (hn : xs.length = n) (hl : n ≤ 1000000) : Hid (∀ A B c d W, RdC W W.heap.size A xs → RdC W W.heap.size B xs → Calls Try.prog 11 #[.slice A n c, .slice B n d] W (Bel (.bool true) W)) := Lib.hid fun A B c d W h1 h2 => by
  subst hn
  exact same_any A B c d xs W h1 h2 hl
theorem map_len (f : List (Int × Int) → Int × Int) (ls : List St) (t : Nat) : ((rowsTo ls t).map f).length = t := by simp [rowsTo]
set_option maxHeartbeats 4000000 in
set_option maxRecDepth 20000 in
theorem delays_any (A B : Option Addr) (c d : Nat) (l m : List (Int × Int)) (w : World) (hA : RdC w w.heap.size A l) (hB : RdC w w.heap.size B m) (hl : l.length ≤ 9223372036854775807) (hm : m.length ≤ 9223372036854775807) :
    Calls Try.prog 4 #[.slice A l.length c, .slice B m.length d] w (Bel (.bool true) w) := by
  have HA := Lib.hid hA
  have HB := Lib.hid hB
  have KG : Hid (∀ b W, RdS W W.heap.size (some ⟨b, 0, none⟩) [⟨A, c, l⟩, ⟨B, d, m⟩] → Calls Try.prog 9 #[.slice (some ⟨b, 0, none⟩) 2 2] W (Bel (.bool (longB [⟨A, c, l⟩, ⟨B, d, m⟩])) W)) := Lib.hid fun b W h => long_any (some ⟨b, 0, none⟩) 2 [⟨A, c, l⟩, ⟨B, d, m⟩] W h (by simp) (rl2 _ _ _ hl hm)
  have KL := Lib.hid lives_any
  cases hlg : longB [⟨A, c, l⟩, ⟨B, d, m⟩]
  · rw [hlg] at KG
    obtain ⟨_, h3⟩ := longB_no hlg
    have hl3 : l.length ≤ 300 := h3 ⟨A, c, l⟩ (by simp)
    have hm3 : m.length ≤ 300 := h3 ⟨B, d, m⟩ (by simp)
    have tg1 : tog [⟨A, c, l⟩] = l.length := tog1 _
    have tg2 : tog [⟨A, c, l⟩, ⟨B, d, m⟩] = min l.length m.length := tog2 _ _
    have P1 : Hid (∀ W, RdC W W.heap.size A l → Calls Try.prog 18 #[.slice A l.length c] W (NewH (outT preS (2, 0) [⟨A, c, l⟩] (tog [⟨A, c, l⟩])) (tog [⟨A, c, l⟩]) W)) := Lib.hid fun W h => (pre_any A c l W h (by omega)).mono fun e w' => newH (outT_length _ _ _ _)
    have Q1 : Hid (∀ W, RdC W W.heap.size A l → Calls Try.prog 19 #[.slice A l.length c] W (NewH (outT preS (2, 0) [⟨A, c, l⟩] (tog [⟨A, c, l⟩])) (tog [⟨A, c, l⟩]) W)) := Lib.hid fun W h => (rpre_any A c l W h (by omega)).mono fun e w' => newH (outT_length _ _ _ _)
    have P2 : Hid (∀ W, RdC W W.heap.size A l → RdC W W.heap.size B m → Calls Try.prog 20 #[.slice A l.length c, .slice B m.length d] W (NewH (outT arrowS false [⟨A, c, l⟩, ⟨B, d, m⟩] (tog [⟨A, c, l⟩, ⟨B, d, m⟩])) (tog [⟨A, c, l⟩, ⟨B, d, m⟩]) W)) := Lib.hid fun W h k => (arrow_any A B c d l m W h k (by omega) (by omega)).mono fun e w' => newH (outT_length _ _ _ _)
    have Q2 : Hid (∀ W, RdC W W.heap.size A l → RdC W W.heap.size B m → Calls Try.prog 21 #[.slice A l.length c, .slice B m.length d] W (NewH (outT arrowS false [⟨A, c, l⟩, ⟨B, d, m⟩] (tog [⟨A, c, l⟩, ⟨B, d, m⟩])) (tog [⟨A, c, l⟩, ⟨B, d, m⟩]) W)) := Lib.hid fun W h k => (rarrow_any A B c d l m W h k (by omega) (by omega)).mono fun e w' => newH (outT_length _ _ _ _)
    have P3 : Hid (∀ W, RdC W W.heap.size A l → RdC W W.heap.size B m → Calls Try.prog 22 #[.slice A l.length c, .slice B m.length d] W (NewH (outT fbyS (0, 0) [⟨A, c, l⟩, ⟨B, d, m⟩] (tog [⟨A, c, l⟩, ⟨B, d, m⟩])) (tog [⟨A, c, l⟩, ⟨B, d, m⟩]) W)) := Lib.hid fun W h k => (fby_any A B c d l m W h k (by omega) (by omega)).mono fun e w' => newH (outT_length _ _ _ _)
    have Q3 : Hid (∀ W, RdC W W.heap.size A l → RdC W W.heap.size B m → Calls Try.prog 23 #[.slice A l.length c, .slice B m.length d] W (NewH (outT fbyS (0, 0) [⟨A, c, l⟩, ⟨B, d, m⟩] (tog [⟨A, c, l⟩, ⟨B, d, m⟩])) (tog [⟨A, c, l⟩, ⟨B, d, m⟩]) W)) := Lib.hid fun W h k => (rfby_any A B c d l m W h k (by omega) (by omega)).mono fun e w' => newH (outT_length _ _ _ _)
    have S1 := same_h (outT preS (2, 0) [⟨A, c, l⟩] (tog [⟨A, c, l⟩])) (tog [⟨A, c, l⟩]) (outT_length _ _ _ _) (by omega)
    have S2 := same_h (outT arrowS false [⟨A, c, l⟩, ⟨B, d, m⟩] (tog [⟨A, c, l⟩, ⟨B, d, m⟩])) (tog [⟨A, c, l⟩, ⟨B, d, m⟩]) (outT_length _ _ _ _) (by omega)
    have S3 := same_h (outT fbyS (0, 0) [⟨A, c, l⟩, ⟨B, d, m⟩] (tog [⟨A, c, l⟩, ⟨B, d, m⟩])) (tog [⟨A, c, l⟩, ⟨B, d, m⟩]) (outT_length _ _ _ _) (by omega)
    generalize outT preS (2, 0) [⟨A, c, l⟩] (tog [⟨A, c, l⟩]) = x1 at *
    generalize outT arrowS false [⟨A, c, l⟩, ⟨B, d, m⟩] (tog [⟨A, c, l⟩, ⟨B, d, m⟩]) = x2 at *
    generalize outT fbyS (0, 0) [⟨A, c, l⟩, ⟨B, d, m⟩] (tog [⟨A, c, l⟩, ⟨B, d, m⟩]) = x3 at *
    generalize tog [⟨A, c, l⟩] = n1 at *
    generalize tog [⟨A, c, l⟩, ⟨B, d, m⟩] = n2 at *
    clear hA hB hlg h3 tg1 tg2 hl hm
    go_enter Try.func4, Try.ntmps4
    go_wp2_with (first
      | (go_at_call 9; (with_reducible refine (KG.out _ _ ?_).mono ?_); (focus (exact RdS.new [⟨A, c, l⟩, ⟨B, d, m⟩] _ rfl (rl2 _ _ _ (HA.out.to (by repeat (first | (with_reducible exact Below.refl _ _) | (with_reducible assumption) | (with_reducible exact bel_box _) | (with_reducible refine bel_step ?_ (by with_reducible assumption)) | (with_reducible refine Below.drew ?_) | (with_reducible refine below_drewN ?_ _) | (with_reducible refine bel_alloc ?_ _)))) (HB.out.to (by repeat (first | (with_reducible exact Below.refl _ _) | (with_reducible assumption) | (with_reducible exact bel_box _) | (with_reducible refine bel_step ?_ (by with_reducible assumption)) | (with_reducible refine Below.drew ?_) | (with_reducible refine below_drewN ?_ _) | (with_reducible refine bel_alloc ?_ _))))))); rintro e w0 ⟨rfl, hb0⟩)
      | (go_at_call 18; (with_reducible refine (P1.out _ (HA.out.to ?_)).mono ?_); (focus ((repeat (first | (with_reducible exact Below.refl _ _) | (with_reducible assumption) | (with_reducible exact bel_box _) | (with_reducible refine bel_step ?_ (by with_reducible assumption)) | (with_reducible refine Below.drew ?_) | (with_reducible refine below_drewN ?_ _) | (with_reducible refine bel_alloc ?_ _))); done)); rintro e w1 ⟨A1, c1, rfl, R1, hb1⟩)
      | (go_at_call 19; (with_reducible refine (Q1.out _ (HA.out.to ?_)).mono ?_); (focus ((repeat (first | (with_reducible exact Below.refl _ _) | (with_reducible assumption) | (with_reducible exact bel_box _) | (with_reducible refine bel_step ?_ (by with_reducible assumption)) | (with_reducible refine Below.drew ?_) | (with_reducible refine below_drewN ?_ _) | (with_reducible refine bel_alloc ?_ _))); done)); rintro e w2 ⟨A2, c2, rfl, R2, hb2⟩)
      | (go_at_call 20; (with_reducible refine (P2.out _ (HA.out.to ?_) (HB.out.to ?_)).mono ?_); (focus ((repeat (first | (with_reducible exact Below.refl _ _) | (with_reducible assumption) | (with_reducible exact bel_box _) | (with_reducible refine bel_step ?_ (by with_reducible assumption)) | (with_reducible refine Below.drew ?_) | (with_reducible refine below_drewN ?_ _) | (with_reducible refine bel_alloc ?_ _))); done)); (focus ((repeat (first | (with_reducible exact Below.refl _ _) | (with_reducible assumption) | (with_reducible exact bel_box _) | (with_reducible refine bel_step ?_ (by with_reducible assumption)) | (with_reducible refine Below.drew ?_) | (with_reducible refine below_drewN ?_ _) | (with_reducible refine bel_alloc ?_ _))); done)); rintro e w3 ⟨A3, c3, rfl, R3, hb3⟩)
      | (go_at_call 21; (with_reducible refine (Q2.out _ (HA.out.to ?_) (HB.out.to ?_)).mono ?_); (focus ((repeat (first | (with_reducible exact Below.refl _ _) | (with_reducible assumption) | (with_reducible exact bel_box _) | (with_reducible refine bel_step ?_ (by with_reducible assumption)) | (with_reducible refine Below.drew ?_) | (with_reducible refine below_drewN ?_ _) | (with_reducible refine bel_alloc ?_ _))); done)); (focus ((repeat (first | (with_reducible exact Below.refl _ _) | (with_reducible assumption) | (with_reducible exact bel_box _) | (with_reducible refine bel_step ?_ (by with_reducible assumption)) | (with_reducible refine Below.drew ?_) | (with_reducible refine below_drewN ?_ _) | (with_reducible refine bel_alloc ?_ _))); done)); rintro e w4 ⟨A4, c4, rfl, R4, hb4⟩)
      | (go_at_call 22; (with_reducible refine (P3.out _ (HA.out.to ?_) (HB.out.to ?_)).mono ?_); (focus ((repeat (first | (with_reducible exact Below.refl _ _) | (with_reducible assumption) | (with_reducible exact bel_box _) | (with_reducible refine bel_step ?_ (by with_reducible assumption)) | (with_reducible refine Below.drew ?_) | (with_reducible refine below_drewN ?_ _) | (with_reducible refine bel_alloc ?_ _))); done)); (focus ((repeat (first | (with_reducible exact Below.refl _ _) | (with_reducible assumption) | (with_reducible exact bel_box _) | (with_reducible refine bel_step ?_ (by with_reducible assumption)) | (with_reducible refine Below.drew ?_) | (with_reducible refine below_drewN ?_ _) | (with_reducible refine bel_alloc ?_ _))); done)); rintro e w5 ⟨A5, c5, rfl, R5, hb5⟩)
      | (go_at_call 23; (with_reducible refine (Q3.out _ (HA.out.to ?_) (HB.out.to ?_)).mono ?_); (focus ((repeat (first | (with_reducible exact Below.refl _ _) | (with_reducible assumption) | (with_reducible exact bel_box _) | (with_reducible refine bel_step ?_ (by with_reducible assumption)) | (with_reducible refine Below.drew ?_) | (with_reducible refine below_drewN ?_ _) | (with_reducible refine bel_alloc ?_ _))); done)); (focus ((repeat (first | (with_reducible exact Below.refl _ _) | (with_reducible assumption) | (with_reducible exact bel_box _) | (with_reducible refine bel_step ?_ (by with_reducible assumption)) | (with_reducible refine Below.drew ?_) | (with_reducible refine below_drewN ?_ _) | (with_reducible refine bel_alloc ?_ _))); done)); rintro e w6 ⟨A6, c6, rfl, R6, hb6⟩)
      | (go_at_call 11; (with_reducible refine (S1.out _ _ _ _ _ (htoR R1 ?_) (htoR R2 ?_)).mono ?_); (focus ((repeat (first | (with_reducible exact Below.refl _ _) | (with_reducible assumption) | (with_reducible exact bel_box _) | (with_reducible refine bel_step ?_ (by with_reducible assumption)) | (with_reducible refine Below.drew ?_) | (with_reducible refine below_drewN ?_ _) | (with_reducible refine bel_alloc ?_ _))); done)); (focus ((repeat (first | (with_reducible exact Below.refl _ _) | (with_reducible assumption) | (with_reducible exact bel_box _) | (with_reducible refine bel_step ?_ (by with_reducible assumption)) | (with_reducible refine Below.drew ?_) | (with_reducible refine below_drewN ?_ _) | (with_reducible refine bel_alloc ?_ _))); done)); rintro e u1 ⟨rfl, hu1⟩)
      | (go_at_call 11; (with_reducible refine (S2.out _ _ _ _ _ (htoR R3 ?_) (htoR R4 ?_)).mono ?_); (focus ((repeat (first | (with_reducible exact Below.refl _ _) | (with_reducible assumption) | (with_reducible exact bel_box _) | (with_reducible refine bel_step ?_ (by with_reducible assumption)) | (with_reducible refine Below.drew ?_) | (with_reducible refine below_drewN ?_ _) | (with_reducible refine bel_alloc ?_ _))); done)); (focus ((repeat (first | (with_reducible exact Below.refl _ _) | (with_reducible assumption) | (with_reducible exact bel_box _) | (with_reducible refine bel_step ?_ (by with_reducible assumption)) | (with_reducible refine Below.drew ?_) | (with_reducible refine below_drewN ?_ _) | (with_reducible refine bel_alloc ?_ _))); done)); rintro e u2 ⟨rfl, hu2⟩)
      | (go_at_call 11; (with_reducible refine (S3.out _ _ _ _ _ (htoR R5 ?_) (htoR R6 ?_)).mono ?_); (focus ((repeat (first | (with_reducible exact Below.refl _ _) | (with_reducible assumption) | (with_reducible exact bel_box _) | (with_reducible refine bel_step ?_ (by with_reducible assumption)) | (with_reducible refine Below.drew ?_) | (with_reducible refine below_drewN ?_ _) | (with_reducible refine bel_alloc ?_ _))); done)); (focus ((repeat (first | (with_reducible exact Below.refl _ _) | (with_reducible assumption) | (with_reducible exact bel_box _) | (with_reducible refine bel_step ?_ (by with_reducible assumption)) | (with_reducible refine Below.drew ?_) | (with_reducible refine below_drewN ?_ _) | (with_reducible refine bel_alloc ?_ _))); done)); rintro e u3 ⟨rfl, hu3⟩)
      | (go_at_call 10; (with_reducible refine (KL.out _).mono ?_); rintro e u4 ⟨rfl, hu4⟩))
    go_ret
    exact ⟨rfl, (by repeat (first | (with_reducible exact Below.refl _ _) | (with_reducible assumption) | (with_reducible exact bel_box _) | (with_reducible refine bel_step ?_ (by with_reducible assumption)) | (with_reducible refine Below.drew ?_) | (with_reducible refine below_drewN ?_ _) | (with_reducible refine bel_alloc ?_ _)))⟩
  · rw [hlg] at KG
    clear hA hB hlg hl hm
    go_enter Try.func4, Try.ntmps4
    go_wp2_with (first
      | (go_at_call 9; (with_reducible refine (KG.out _ _ ?_).mono ?_); (focus (exact RdS.new [⟨A, c, l⟩, ⟨B, d, m⟩] _ rfl (rl2 _ _ _ (HA.out.to (by repeat (first | (with_reducible exact Below.refl _ _) | (with_reducible assumption) | (with_reducible exact bel_box _) | (with_reducible refine bel_step ?_ (by with_reducible assumption)) | (with_reducible refine Below.drew ?_) | (with_reducible refine below_drewN ?_ _) | (with_reducible refine bel_alloc ?_ _)))) (HB.out.to (by repeat (first | (with_reducible exact Below.refl _ _) | (with_reducible assumption) | (with_reducible exact bel_box _) | (with_reducible refine bel_step ?_ (by with_reducible assumption)) | (with_reducible refine Below.drew ?_) | (with_reducible refine below_drewN ?_ _) | (with_reducible refine bel_alloc ?_ _))))))); rintro e w0 ⟨rfl, hb0⟩)
      | (go_at_call 10; (with_reducible refine (KL.out _).mono ?_); rintro e u4 ⟨rfl, hu4⟩))
    go_ret
    exact ⟨rfl, (by repeat (first | (with_reducible exact Below.refl _ _) | (with_reducible assumption) | (with_reducible exact bel_box _) | (with_reducible refine bel_step ?_ (by with_reducible assumption)) | (with_reducible refine Below.drew ?_) | (with_reducible refine below_drewN ?_ _) | (with_reducible refine bel_alloc ?_ _)))⟩
end Go.Proofs.Ytefmnjcllncmpaa
/- The frame of a law's row: a call that returns true and leaves the old blocks alone meets the row; arguments that are slices of bools are opened. -/
namespace Go.Proofs.Ytefmnjcllncmpaa
set_option linter.unusedVariables false
set_option linter.unusedSimpArgs false
open Go.ChangeShapes Go.WideShapes Go.ChangeAt Go.RowKit Go.Deep
section
variable {H : Type} {enc : TypeId × Value → H} {P : Program}
theorem trodAll_below (hl : laidOutB P = true) {W W' : World} (hb : Below W.heap.size W W') : ∀ {ts : List TypeId} {vs : List Value} {ds : List (DataW H)} {ps : List MemPlace},
    (∀ t ∈ ts, P.readableRec t = true ∧ t < P.types.size) → DataW.TrodAll enc P W 0 (fun _ => true) true ts vs ds ps → (∀ x ∈ ps, x.block < W.heap.size) →
    DataW.TrodAll enc P W' 0 (fun b => decide (b < W.heap.size)) true ts vs ds ps := by
  intro ts
  induction ts with
  | nil => intro vs ds ps _ h _; cases vs <;> cases ds <;> simp_all [DataW.TrodAll]
  | cons t ts ih =>
    intro vs ds ps ht h hlt
    match vs, ds, h with
    | v :: vs, d :: ds, ⟨p, q, h1, h2, e⟩ =>
      subst e
      obtain ⟨hr, hs⟩ := ht t (by simp)
      exact ⟨p, q, Below.trod hl hr hs h1 hb (fun x hx => hlt x (by simp [hx])), ih (fun u hu => ht u (by simp [hu])) h2 (fun x hx => hlt x (by simp [hx])), rfl⟩
theorem law_post {f : Func} {s : ChangeSpec} {W W' : World} {args : Array Value} {ds gs : List (DataW H)} {before : List MemPlace} {tb : TypeId}
    (hW : DataW.Whole enc P f.params.toList s.vars false W args.toList ds gs before) (hv : s.vars = [])
    (hs : (s.fn H (ds ++ gs)).results = [.lit (.bool true)] ∧ (s.fn H (ds ++ gs)).args = ds ∧ (s.fn H (ds ++ gs)).vars = [])
    (hf : f.resultTypes = #[tb]) (htb : P.underlying tb = some .bool) (hl : laidOutB P = true) (hts : ∀ t ∈ f.params.toList, P.readableRec t = true ∧ t < P.types.size)
    (hb : Below W.heap.size W W') : s.post enc P f false true false false W args (.bool true) W' := by
  have hW' := hW
  obtain ⟨p, q, hA, hV, rfl, _, _⟩ := hW
  rw [hv] at hV
  obtain ⟨rfl, rfl⟩ := trodVars_none hV
  refine ⟨ds, [], p ++ [], [], p, [], hW', ?_, ?_, ?_, hb.frame _, fun h => by cases h⟩
  · rw [hs.1, hf]
    exact trodAll_mk1 (shut_bool htb true)
  · rw [hs.2.1]
    exact trodAll_below hl hb hts hA (fun x hx => hW'.lt x (by simp [hx]))
  · rw [hv, hs.2.2]
    rfl
end
end Go.Proofs.Ytefmnjcllncmpaa
/- The frame of a law's row over words: an argument that is a word, opened. -/
namespace Go.Proofs.Ytefmnjcllncmpaa
set_option linter.unusedVariables false
set_option linter.unusedSimpArgs false
open Go.ChangeShapes Go.WideShapes Go.ChangeAt Go.RowKit Go.Deep Go.WideElems
theorem int_le {n : Int} (h : (Lit.int .i64 n).wf = true) : n ≤ 9223372036854775807 := by
  have h2 : n ≤ IntKind.i64.max := by simp only [Lit.wf, Bool.and_eq_true, decide_eq_true_eq] at h; exact h.2
  exact h2
section
variable {H : Type} {enc : TypeId × Value → H} {P : Program}
end
end Go.Proofs.Ytefmnjcllncmpaa
/- Arguments that are streams, and rows of streams, opened. -/
namespace Go.Proofs.Ytefmnjcllncmpaa
set_option linter.unusedVariables false
set_option linter.unusedSimpArgs false
open Go.ChangeShapes Go.WideShapes Go.ChangeAt Go.RowKit Go.Deep Go.WideElems
section
variable {H : Type} {enc : TypeId × Value → H} {P : Program} {w : World} {held : Bool} {base : Nat}
theorem choose_list {α : Type} {p : Nat → α → Prop} : ∀ n, (∀ i, i < n → ∃ e, p i e) → ∃ l : List α, l.length = n ∧ ∀ i e, l[i]? = some e → p i e := by
  intro n
  induction n with
  | zero => exact fun _ => ⟨[], rfl, fun i e h => by simp at h⟩
  | succ n ih =>
    intro h
    obtain ⟨l, hl, hp⟩ := ih fun i hi => h i (by omega)
    obtain ⟨e, he⟩ := h n (by omega)
    refine ⟨l ++ [e], by simp [hl], fun i x hx => ?_⟩
    rcases Nat.lt_or_ge i n with hi | hi
    · exact hp i x (by rwa [List.getElem?_append_left (by omega)] at hx)
    · rw [List.getElem?_append_right (by omega)] at hx
      have hi2 : i = n := by
        have := (List.getElem?_eq_some_iff.1 hx).1
        simp at this
        omega
      subst hi2
      rw [hl, Nat.sub_self] at hx
      obtain rfl : e = x := by simpa using hx
      exact he
/-- a slice of cells, opened -/
theorem rd_cells {t e : TypeId} {f0 f1 : Field} {fuel : Nat} {v : Value} {x : DataW H × List MemPlace} (ht : P.underlying t = some (.slice e)) (he : P.underlying e = some (.struct #[f0, f1]))
    (ce : P.cellsOf e = 2) (o0 : f0.offset = 0) (o1 : f1.offset = 1) (c0 : P.cellsOf f0.type = 1) (c1 : P.cellsOf f1.type = 1) (i0 : P.underlying f0.type = some (.int .i64)) (i1 : P.underlying f1.type = some (.int .i64))
    (h : DataW.trod enc P w base (fun _ => true) held fuel t [v] = some x) :
    ∃ (A : Option Addr) (l : List (Int × Int)) (c : Nat), v = .slice A l.length c ∧ RdC w w.heap.size A l ∧ l.length ≤ 9223372036854775807 := by
  rcases open_slice_pairs ht he ce o0 o1 c0 c1 h with ⟨hv, _⟩ | ⟨a, len, cap, m, n, V0, V1, D0, D1, P0, P1, hv, _, hl, hm, hmm, _, hx⟩
  · simp only [List.cons.injEq, and_true] at hv
    exact ⟨none, [], 0, hv, fun h => absurd rfl h, by simp⟩
  · simp only [List.cons.injEq, and_true] at hv
    have hmc : m = cap := by simpa using hmm
    obtain ⟨l, hll, hp⟩ := choose_list (p := fun i (e : Int × Int) => w.cell? (a.add (i * 2)) = some (.int .i64 e.1) ∧ w.cell? (a.add (i * 2 + 1)) = some (.int .i64 e.2)) len fun i hi => by
      obtain ⟨h1, h2, h3, h4⟩ := hx i (by omega)
      obtain ⟨n0, e0, _⟩ := DataW.trod_int i0 h3
      obtain ⟨n1, e1, _⟩ := DataW.trod_int i1 h4
      simp only [List.cons.injEq, and_true] at e0 e1
      exact ⟨(n0, n1), by rw [h1, e0], by rw [h2, e1]⟩
    refine ⟨some a, l, cap, by rw [hll]; exact hv, fun hne => ⟨a, rfl, ?_, hp⟩, by rw [hll]; unfold maxLen at hm; omega⟩
    have h0 : 0 < l.length := List.length_pos_iff.2 hne
    have := World.block_lt_of_cell? w _ (hp 0 _ (List.getElem?_eq_getElem h0)).1
    rwa [add_block] at this
/-- a row of streams, opened -/
theorem rd_streams {t e e2 : TypeId} {f0 f1 : Field} {fuel : Nat} {v : Value} {x : DataW H × List MemPlace} (ht : P.underlying t = some (.slice e)) (hce : P.cellsOf e = 1) (he0 : P.underlying e = some (.slice e2)) (he : P.underlying e2 = some (.struct #[f0, f1]))
    (ce : P.cellsOf e2 = 2) (o0 : f0.offset = 0) (o1 : f1.offset = 1) (c0 : P.cellsOf f0.type = 1) (c1 : P.cellsOf f1.type = 1) (i0 : P.underlying f0.type = some (.int .i64)) (i1 : P.underlying f1.type = some (.int .i64))
    (h : DataW.trod enc P w base (fun _ => true) held fuel t [v] = some x) :
    ∃ (A : Option Addr) (l : List St) (c : Nat), v = .slice A l.length c ∧ RdS w w.heap.size A l ∧ l.length ≤ 9223372036854775807 ∧ ∀ s ∈ l, s.l.length ≤ 9223372036854775807 := by
  rcases open_slice1 ht hce h with ⟨hv, _⟩ | ⟨a, len, cap, m, n, V, D, Pl, hv, _, hl, hm, hmm, _, hx⟩
  · simp only [List.cons.injEq, and_true] at hv
    exact ⟨none, [], 0, hv, ⟨fun h => absurd rfl h, fun s hs => by simp at hs⟩, by simp, fun s hs => by simp at hs⟩
  · simp only [List.cons.injEq, and_true] at hv
    have hmc : m = cap := by simpa using hmm
    obtain ⟨l, hll, hp⟩ := choose_list (p := fun i (s : St) => w.cell? (a.add i) = some (stV s) ∧ RdC w w.heap.size s.A s.l ∧ s.l.length ≤ 9223372036854775807) len fun i hi => by
      obtain ⟨h1, h2⟩ := hx i (by omega)
      obtain ⟨A', l', c', hv', hR', hL'⟩ := rd_cells he0 he ce o0 o1 c0 c1 i0 i1 h2
      exact ⟨⟨A', c', l'⟩, by rw [h1, hv']; rfl, hR', hL'⟩
    refine ⟨some a, l, cap, by rw [hll]; exact hv, ⟨fun hne => ⟨a, rfl, ?_, fun j u hu => ?_⟩, fun s hs => ?_⟩, by rw [hll]; unfold maxLen at hm; omega, fun s hs => ?_⟩
    · have h0 : 0 < l.length := by
        rcases Nat.eq_zero_or_pos l.length with h | h
        · exact absurd (by rw [List.eq_nil_of_length_eq_zero h]; rfl) hne
        · exact h
      have := World.block_lt_of_cell? w _ (hp 0 _ (List.getElem?_eq_getElem h0)).1
      rwa [add_block] at this
    · rw [List.getElem?_map] at hu
      obtain ⟨s, hs, rfl⟩ := Option.map_eq_some_iff.1 hu
      exact (hp j s hs).1
    · obtain ⟨i, hi⟩ := List.getElem?_of_mem hs
      exact (hp i s hi).2.1
    · obtain ⟨i, hi⟩ := List.getElem?_of_mem hs
      exact (hp i s hi).2.2
end
end Go.Proofs.Ytefmnjcllncmpaa
