/- Shift of the reference, where there are ones, at most 128 zeros. -/
import Derived.Test.YtimecbkfeennpaaBwPs2
namespace Go.Proofs.Ytimecbkfeennpaa
set_option linter.unusedVariables false
set_option linter.unusedSimpArgs false
open Go.RowKit
set_option maxHeartbeats 4000000 in
theorem rshift_some (A B : Option Addr) (c d k : Nat) (h l : List Bool) (w : World) (hA : Rd w w.heap.size A (bls h)) (hB : Rd w w.heap.size B (bls l)) (hh : h.length ≤ 140737488355328) (hl : l.length ≤ 140737488355328) (hc : h.length ≤ c) (hd : l.length ≤ d) (hck : ck h l = 0) (hkk : k ≤ 128) (hz : ¬ cnt h = 0) :
    Calls Try.prog 32 #[.agg #[.slice A h.length c, .slice B l.length d], .int .i64 (k : Nat)] w (NewWE (fit (nfw (zs k ++ h) l)) (fitE (nfw (zs k ++ h) l)) w) := by
  obtain ⟨i0, hi, iz, is, ib⟩ := info_parts Try.boolInfo
  have HA := Lib.hid hA
  have HB := Lib.hid hB
  have hk := lens hck
  have chk := rcheck_any A B c d h l
  rw [hck] at chk
  have chk := Lib.hid chk
  clear hA hB hck
  have hcl1 := cnt_le l
  have hch1 := cnt_le h
  obtain ⟨kl, hkl⟩ : ∃ k, cnt l = k := ⟨_, rfl⟩
  obtain ⟨kh, hkh⟩ : ∃ k, cnt h = k := ⟨_, rfl⟩
  have kcl : Hid (∀ W, Rd W W.heap.size B (bls l) → Calls Try.prog 37 #[.slice B l.length d] W fun e w' => e = .returned (.int .i64 (kl : Nat)) ∧ W = w') := fun W hr => by rw [← hkl]; exact rcount_any B d l W hr hl
  have kch : Hid (∀ W, Rd W W.heap.size A (bls h) → Calls Try.prog 37 #[.slice A h.length c] W fun e w' => e = .returned (.int .i64 (kh : Nat)) ∧ W = w') := fun W hr => by rw [← hkh]; exact rcount_any A c h W hr hh
  rw [hkh] at hz hch1
  rw [hkl] at hcl1
  have hz1 : ((kh : Int) == 0) = false := by simpa using hz
  have hn1 : ¬ (k : Int) < 0 := by omega
  have hn2 : (0 : Int) ≤ (k : Int) := by omega
  have hn3 : ¬ (128 : Int) < (k : Int) := by omega
  obtain ⟨X, Y, hXY⟩ : ∃ X Y, nfw (zs k ++ h) l = (X, Y) := ⟨_, _, rfl⟩
  obtain ⟨m2, hm2⟩ : ∃ m, m = 2 * l.length := ⟨_, rfl⟩
  obtain ⟨NL, hNL⟩ : ∃ N, N = h.length + m2 := ⟨_, rfl⟩
  obtain ⟨N, hN⟩ : ∃ N, N = k + NL := ⟨_, rfl⟩
  obtain ⟨H, hH⟩ : ∃ H, H = k + h.length := ⟨_, rfl⟩
  have e3 : (2 * (l.length : Int)) = (m2 : Int) := by omega
  have e4 : ((h.length : Int) + (m2 : Int)) = (NL : Int) := by omega
  have e5 : ((k : Int) + (h.length : Int)) = (H : Int) := by omega
  have e6 : IntKind.i64.wrap (m2 : Int) = (m2 : Int) := IntWalk.i64_in _ (by omega)
  have e7 : IntKind.i64.wrap (NL : Int) = (NL : Int) := IntWalk.i64_in _ (by omega)
  have e8 : IntKind.i64.wrap (H : Int) = (H : Int) := IntWalk.i64_in _ (by omega)
  have hNL1 : NL ≤ 1024 := by omega
  have hN1 : N ≤ 2048 := by omega
  have hle := nf_len (per_lt (zs k ++ h) l) hk.1
  rw [show nf (lt (zs k ++ h) l) (zs k ++ h).length l.length = (X, Y) from hXY, List.length_append, zs_length] at hle
  simp only at hle
  have hX1 : X.length ≤ 65536 := by omega
  have hY1 : Y.length ≤ 65536 := by omega
  have sho : Hid (∀ (V : Option Addr) (cv : Nat) W, Rd W W.heap.size V (bls (fL (shF k (lt h l)) N)) → N ≤ cv → Calls Try.prog 40 #[.slice V N cv, .int .i64 (H : Nat), .int .i64 (l.length : Nat)] W (NewW X Y W)) := fun V cv W h1 h2 => by
    have hp := per_shF (n := k) (per_lt h l)
    rw [← hH] at hp
    have q := rshortest_any V cv H l.length N (shF k (lt h l)) W h1 (by omega) (by omega) h2 hk.1 hp
    have e := sh_nf (n := k) (h := h) hk.1
    rw [← hH] at e
    rwa [e, hXY] at q
  have lets := Lib.hid (fun W h1 h2 => rlet_n A B c d NL h l W h1 h2 hk.1 hh hl (by omega))
  have LL : (bls (fL (lt h l) NL)).length = NL := by rw [bls_length, fL_length]
  have M1 : k + NL ≤ maxLen := by unfold maxLen; omega
  have M2 : (k + NL) * 1 ≤ 140737488355328 := by omega
  have HN := Lib.hid hN
  rw [hXY]
  obtain ⟨F1, F2, hF⟩ : ∃ F1 F2, fit (X, Y) = (F1, F2) := ⟨_, _, rfl⟩
  obtain ⟨E, hE⟩ : ∃ E, fitE (X, Y) = E := ⟨_, rfl⟩
  have fi := Lib.hid (fun V U cv cu W h1 h2 h3 h4 N h5 h6 => rfits_new V U cv cu X Y W h1 h2 hX1 hY1 h3 h4 N h5 h6)
  rw [hF, hE] at fi
  rw [hF, hE]
  simp only at fi
  clear hkl hkh hz hXY hm2 hNL hN hH hF hE hle
  go_enter Try.func32, Try.ntmps32
  go_wp2_with (first | (go_at_call 13; refine (chk.out _ hh hl).mono ?_; rintro e w1 ⟨rfl, hb1⟩; obtain ⟨s1, s2⟩ := box2 (w := w) (x := .slice A h.length c) (y := .slice B l.length d) (t := 24) (W := w1) (by repeat (first | (with_reducible exact Below.refl _ _) | (with_reducible assumption) | (with_reducible exact bel_box _) | (with_reducible refine bel_step ?_ (by with_reducible assumption)) | (with_reducible refine Below.drew ?_) | (with_reducible refine below_drewN ?_ _) | (with_reducible refine bel_alloc ?_ _))); obtain ⟨hr0, hr1, hr3, hr4⟩ := box2f (w := w.alloc (.cells #[.slice A h.length c, .slice B l.length d] 24)) (x := .slice none 0 0) (y := .slice none 0 0) (t := 24) (W := w1) (g := w.heap.size + 1) (by simp) (by repeat (first | (with_reducible exact Below.refl _ _) | (with_reducible assumption) | (with_reducible exact bel_box _) | (with_reducible refine bel_step ?_ (by with_reducible assumption)) | (with_reducible refine Below.drew ?_) | (with_reducible refine below_drewN ?_ _) | (with_reducible refine bel_alloc ?_ _))); have hres := res4_of hr0 hr1 hr3 hr4; clear hr0 hr1 hr3 hr4; have z1 : w.heap.size + 2 ≤ w1.heap.size := (by have := hb1.size; simp at this; omega)) | (go_at_call_of 37 (Value.slice B l.length d); (with_reducible refine (kcl.out _ (hto HB ?_)).mono ?_); (focus ((repeat (first | (with_reducible exact Below.refl _ _) | (with_reducible assumption) | (with_reducible exact bel_box _) | (with_reducible refine bel_step ?_ (by with_reducible assumption)) | (with_reducible refine Below.drew ?_) | (with_reducible refine below_drewN ?_ _) | (with_reducible refine bel_alloc ?_ _))); done)); rintro e w2 ⟨rfl, rfl⟩) | (go_at_call 37; (with_reducible refine (kch.out _ (hto HA ?_)).mono ?_); (focus ((repeat (first | (with_reducible exact Below.refl _ _) | (with_reducible assumption) | (with_reducible exact bel_box _) | (with_reducible refine bel_step ?_ (by with_reducible assumption)) | (with_reducible refine Below.drew ?_) | (with_reducible refine below_drewN ?_ _) | (with_reducible refine bel_alloc ?_ _))); done)); rintro e w2 ⟨rfl, rfl⟩) | (at_make; refine wpList_make_full _ rfl _ _ 22 rfl w1.heap.size 4 i0 (.bool false) 1 Try.underlying22 hi iz is _ _ _ _ k rfl rfl rfl rfl (by rw [ib]; omega) (by unfold maxLen; omega) (Nat.le_refl _) ?_; intro w3 hown3 hgrow3; have hb3 : Below w1.heap.size w1 w3 := (Below.refl _ _).grown hgrow3 (Nat.le_refl _) (fun k hk => (by cases hk)); rw [andK_zero (fun _ => false) k, andK_zs] at hown3; have HO3 := Lib.hid hown3; clear hown3 hgrow3; obtain ⟨s1, s2⟩ := box2 (w := w) (x := .slice A h.length c) (y := .slice B l.length d) (t := 24) (W := w3) (by repeat (first | (with_reducible exact Below.refl _ _) | (with_reducible assumption) | (with_reducible exact bel_box _) | (with_reducible refine bel_step ?_ (by with_reducible assumption)) | (with_reducible refine Below.drew ?_) | (with_reducible refine below_drewN ?_ _) | (with_reducible refine bel_alloc ?_ _)))) | (go_at_call 41; (with_reducible refine (lets.out _ (hto HA ?_) (hto HB ?_)).mono ?_); (focus ((repeat (first | (with_reducible exact Below.refl _ _) | (with_reducible assumption) | (with_reducible exact bel_box _) | (with_reducible refine bel_step ?_ (by with_reducible assumption)) | (with_reducible refine Below.drew ?_) | (with_reducible refine below_drewN ?_ _) | (with_reducible refine bel_alloc ?_ _))); done)); (focus ((repeat (first | (with_reducible exact Below.refl _ _) | (with_reducible assumption) | (with_reducible exact bel_box _) | (with_reducible refine bel_step ?_ (by with_reducible assumption)) | (with_reducible refine Below.drew ?_) | (with_reducible refine below_drewN ?_ _) | (with_reducible refine bel_alloc ?_ _))); done)); rintro e w4 ⟨VL, cvl, rfl, HVL, hcvl, hb4⟩; obtain ⟨s1, s2⟩ := box2 (w := w) (x := .slice A h.length c) (y := .slice B l.length d) (t := 24) (W := w4) (by repeat (first | (with_reducible exact Below.refl _ _) | (with_reducible assumption) | (with_reducible exact bel_box _) | (with_reducible refine bel_step ?_ (by with_reducible assumption)) | (with_reducible refine Below.drew ?_) | (with_reducible refine below_drewN ?_ _) | (with_reducible refine bel_alloc ?_ _))); have z4 : w1.heap.size ≤ w4.heap.size := Nat.le_trans hb3.size hb4.size) | (at_builtin; refine wpList_append_rd _ rfl _ _ 22 rfl w1.heap.size 4 i0 (.bool false) 1 Try.underlying22 hi iz is ib rfl _ k (bls (zs k)) rfl (own_keep HO3.out hb4) w4.heap.size _ NL cvl (bls (fL (lt h l) NL)) rfl LL HVL.out (bls_one _) M1 M2 z4 ?_; intro v5 w5 hown5 hgrow5 hat5; have hb5 := bel_app hb3 hb4 HO3.out hgrow5; rw [← bls_append', zs_fL, ← HN.out] at hown5; obtain ⟨V5, cv5, rfl⟩ := own_form hown5; obtain ⟨s1, s2⟩ := box2 (w := w) (x := .slice A h.length c) (y := .slice B l.length d) (t := 24) (W := w5) (by repeat (first | (with_reducible exact Below.refl _ _) | (with_reducible assumption) | (with_reducible exact bel_box _) | (with_reducible refine bel_step ?_ (by with_reducible assumption)) | (with_reducible refine Below.drew ?_) | (with_reducible refine below_drewN ?_ _) | (with_reducible refine bel_alloc ?_ _))); have z5 : w.heap.size + 2 ≤ w5.heap.size := Nat.le_trans z1 hb5.size) | (go_at_call 40; (with_reducible refine (sho.out _ _ _ (Rd.of_own hown5) (own_cap hown5)).mono ?_); rintro e w6 ⟨V1, V2, cv1, cv2, rfl, hR1, hR2, hv1, hv2, hb6, hn1, hn2⟩; have HR1 := Lib.hid hR1; have HR2 := Lib.hid hR2; clear hR1 hR2) | (go_at_call 49; refine (fi.out _ _ _ _ _ (hto HR1 ?_) (hto HR2 ?_) hv1 hv2 (w.heap.size + 2) (hn1.mono z5) (hn2.mono z5)).mono ?_; (focus ((repeat (first | (with_reducible exact Below.refl _ _) | (with_reducible assumption) | (with_reducible exact bel_box _) | (with_reducible refine bel_step ?_ (by with_reducible assumption)) | (with_reducible refine Below.drew ?_) | (with_reducible refine below_drewN ?_ _) | (with_reducible refine bel_alloc ?_ _))); done)); (focus ((repeat (first | (with_reducible exact Below.refl _ _) | (with_reducible assumption) | (with_reducible exact bel_box _) | (with_reducible refine bel_step ?_ (by with_reducible assumption)) | (with_reducible refine Below.drew ?_) | (with_reducible refine below_drewN ?_ _) | (with_reducible refine bel_alloc ?_ _))); done)); rintro e w7 ⟨V3, V4, cv3, cv4, rfl, hR3, hR4, hv3, hv4, hb7, hn3, hn4⟩; have HR3 := Lib.hid hR3; have HR4 := Lib.hid hR4; clear hR3 hR4; have hw7 := res4_below (W' := w7) hres (by repeat (first | (with_reducible exact Below.refl _ _) | (with_reducible assumption) | (with_reducible exact bel_box _) | (with_reducible refine bel_step ?_ (by with_reducible assumption)) | (with_reducible refine Below.drew ?_) | (with_reducible refine below_drewN ?_ _) | (with_reducible refine bel_alloc ?_ _))); obtain ⟨q1, q2, q3, q4⟩ := id hw7))
  obtain ⟨k0, k1⟩ := set2_cells hw7.1 hw7.2.1 (.slice V3 F1.length cv3) (.slice V4 F2.length cv4)
  refine bodyPost_ret (v := .tuple #[.agg #[.slice V3 F1.length cv3, .slice V4 F2.length cv4], .int .i64 E]) (by simp [results, Try.results32, go_sem, k0, k1]) rfl ?_
  exact ⟨V3, V4, cv3, cv4, rfl, HR3.out.set2_lo hn3 (by omega) _ _, HR4.out.set2_lo hn4 (by omega) _ _, hv3, hv4, bel_set2 (by repeat (first | (with_reducible exact Below.refl _ _) | (with_reducible assumption) | (with_reducible exact bel_box _) | (with_reducible refine bel_step ?_ (by with_reducible assumption)) | (with_reducible refine Below.drew ?_) | (with_reducible refine below_drewN ?_ _) | (with_reducible refine bel_alloc ?_ _))) (by omega) _ _, hn3.mono (by omega), hn4.mono (by omega)⟩
set_option maxHeartbeats 4000000 in
theorem rshift_some2 (A B : Option Addr) (c d k : Nat) (h l : List Bool) (w : World) (hA : Rd w w.heap.size A (bls h)) (hB : Rd w w.heap.size B (bls l)) (hh : h.length ≤ 140737488355328) (hl : l.length ≤ 140737488355328) (hc : h.length ≤ c) (hd : l.length ≤ d) (hck : ck h l = 0) (hkk : k ≤ 128) (hz0 : cnt h = 0) (hz : ¬ cnt l = 0) :
    Calls Try.prog 32 #[.agg #[.slice A h.length c, .slice B l.length d], .int .i64 (k : Nat)] w (NewWE (fit (nfw (zs k ++ h) l)) (fitE (nfw (zs k ++ h) l)) w) := by
  obtain ⟨i0, hi, iz, is, ib⟩ := info_parts Try.boolInfo
  have HA := Lib.hid hA
  have HB := Lib.hid hB
  have hk := lens hck
  have chk := rcheck_any A B c d h l
  rw [hck] at chk
  have chk := Lib.hid chk
  clear hA hB hck
  have hcl1 := cnt_le l
  have hch1 := cnt_le h
  obtain ⟨kl, hkl⟩ : ∃ k, cnt l = k := ⟨_, rfl⟩
  obtain ⟨kh, hkh⟩ : ∃ k, cnt h = k := ⟨_, rfl⟩
  have kcl : Hid (∀ W, Rd W W.heap.size B (bls l) → Calls Try.prog 37 #[.slice B l.length d] W fun e w' => e = .returned (.int .i64 (kl : Nat)) ∧ W = w') := fun W hr => by rw [← hkl]; exact rcount_any B d l W hr hl
  have kch : Hid (∀ W, Rd W W.heap.size A (bls h) → Calls Try.prog 37 #[.slice A h.length c] W fun e w' => e = .returned (.int .i64 (kh : Nat)) ∧ W = w') := fun W hr => by rw [← hkh]; exact rcount_any A c h W hr hh
  rw [hkh] at hz0 hch1
  rw [hkl] at hz hcl1
  have hz1 : ((kh : Int) == 0) = true := by simpa using hz0
  have hz2 : ((kl : Int) == 0) = false := by simpa using hz
  have hn1 : ¬ (k : Int) < 0 := by omega
  have hn2 : (0 : Int) ≤ (k : Int) := by omega
  have hn3 : ¬ (128 : Int) < (k : Int) := by omega
  obtain ⟨X, Y, hXY⟩ : ∃ X Y, nfw (zs k ++ h) l = (X, Y) := ⟨_, _, rfl⟩
  obtain ⟨m2, hm2⟩ : ∃ m, m = 2 * l.length := ⟨_, rfl⟩
  obtain ⟨NL, hNL⟩ : ∃ N, N = h.length + m2 := ⟨_, rfl⟩
  obtain ⟨N, hN⟩ : ∃ N, N = k + NL := ⟨_, rfl⟩
  obtain ⟨H, hH⟩ : ∃ H, H = k + h.length := ⟨_, rfl⟩
  have e3 : (2 * (l.length : Int)) = (m2 : Int) := by omega
  have e4 : ((h.length : Int) + (m2 : Int)) = (NL : Int) := by omega
  have e5 : ((k : Int) + (h.length : Int)) = (H : Int) := by omega
  have e6 : IntKind.i64.wrap (m2 : Int) = (m2 : Int) := IntWalk.i64_in _ (by omega)
  have e7 : IntKind.i64.wrap (NL : Int) = (NL : Int) := IntWalk.i64_in _ (by omega)
  have e8 : IntKind.i64.wrap (H : Int) = (H : Int) := IntWalk.i64_in _ (by omega)
  have hNL1 : NL ≤ 1024 := by omega
  have hN1 : N ≤ 2048 := by omega
  have hle := nf_len (per_lt (zs k ++ h) l) hk.1
  rw [show nf (lt (zs k ++ h) l) (zs k ++ h).length l.length = (X, Y) from hXY, List.length_append, zs_length] at hle
  simp only at hle
  have hX1 : X.length ≤ 65536 := by omega
  have hY1 : Y.length ≤ 65536 := by omega
  have sho : Hid (∀ (V : Option Addr) (cv : Nat) W, Rd W W.heap.size V (bls (fL (shF k (lt h l)) N)) → N ≤ cv → Calls Try.prog 40 #[.slice V N cv, .int .i64 (H : Nat), .int .i64 (l.length : Nat)] W (NewW X Y W)) := fun V cv W h1 h2 => by
    have hp := per_shF (n := k) (per_lt h l)
    rw [← hH] at hp
    have q := rshortest_any V cv H l.length N (shF k (lt h l)) W h1 (by omega) (by omega) h2 hk.1 hp
    have e := sh_nf (n := k) (h := h) hk.1
    rw [← hH] at e
    rwa [e, hXY] at q
  have lets := Lib.hid (fun W h1 h2 => rlet_n A B c d NL h l W h1 h2 hk.1 hh hl (by omega))
  have LL : (bls (fL (lt h l) NL)).length = NL := by rw [bls_length, fL_length]
  have M1 : k + NL ≤ maxLen := by unfold maxLen; omega
  have M2 : (k + NL) * 1 ≤ 140737488355328 := by omega
  have HN := Lib.hid hN
  rw [hXY]
  obtain ⟨F1, F2, hF⟩ : ∃ F1 F2, fit (X, Y) = (F1, F2) := ⟨_, _, rfl⟩
  obtain ⟨E, hE⟩ : ∃ E, fitE (X, Y) = E := ⟨_, rfl⟩
  have fi := Lib.hid (fun V U cv cu W h1 h2 h3 h4 N h5 h6 => rfits_new V U cv cu X Y W h1 h2 hX1 hY1 h3 h4 N h5 h6)
  rw [hF, hE] at fi
  rw [hF, hE]
  simp only at fi
  clear hkl hkh hz hz0 hXY hm2 hNL hN hH hF hE hle
  go_enter Try.func32, Try.ntmps32
  go_wp2_with (first | (go_at_call 13; refine (chk.out _ hh hl).mono ?_; rintro e w1 ⟨rfl, hb1⟩; obtain ⟨s1, s2⟩ := box2 (w := w) (x := .slice A h.length c) (y := .slice B l.length d) (t := 24) (W := w1) (by repeat (first | (with_reducible exact Below.refl _ _) | (with_reducible assumption) | (with_reducible exact bel_box _) | (with_reducible refine bel_step ?_ (by with_reducible assumption)) | (with_reducible refine Below.drew ?_) | (with_reducible refine below_drewN ?_ _) | (with_reducible refine bel_alloc ?_ _))); obtain ⟨hr0, hr1, hr3, hr4⟩ := box2f (w := w.alloc (.cells #[.slice A h.length c, .slice B l.length d] 24)) (x := .slice none 0 0) (y := .slice none 0 0) (t := 24) (W := w1) (g := w.heap.size + 1) (by simp) (by repeat (first | (with_reducible exact Below.refl _ _) | (with_reducible assumption) | (with_reducible exact bel_box _) | (with_reducible refine bel_step ?_ (by with_reducible assumption)) | (with_reducible refine Below.drew ?_) | (with_reducible refine below_drewN ?_ _) | (with_reducible refine bel_alloc ?_ _))); have hres := res4_of hr0 hr1 hr3 hr4; clear hr0 hr1 hr3 hr4; have z1 : w.heap.size + 2 ≤ w1.heap.size := (by have := hb1.size; simp at this; omega)) | (go_at_call_of 37 (Value.slice B l.length d); (with_reducible refine (kcl.out _ (hto HB ?_)).mono ?_); (focus ((repeat (first | (with_reducible exact Below.refl _ _) | (with_reducible assumption) | (with_reducible exact bel_box _) | (with_reducible refine bel_step ?_ (by with_reducible assumption)) | (with_reducible refine Below.drew ?_) | (with_reducible refine below_drewN ?_ _) | (with_reducible refine bel_alloc ?_ _))); done)); rintro e w2 ⟨rfl, rfl⟩) | (go_at_call 37; (with_reducible refine (kch.out _ (hto HA ?_)).mono ?_); (focus ((repeat (first | (with_reducible exact Below.refl _ _) | (with_reducible assumption) | (with_reducible exact bel_box _) | (with_reducible refine bel_step ?_ (by with_reducible assumption)) | (with_reducible refine Below.drew ?_) | (with_reducible refine below_drewN ?_ _) | (with_reducible refine bel_alloc ?_ _))); done)); rintro e w2 ⟨rfl, rfl⟩) | (at_make; refine wpList_make_full _ rfl _ _ 22 rfl w1.heap.size 4 i0 (.bool false) 1 Try.underlying22 hi iz is _ _ _ _ k rfl rfl rfl rfl (by rw [ib]; omega) (by unfold maxLen; omega) (Nat.le_refl _) ?_; intro w3 hown3 hgrow3; have hb3 : Below w1.heap.size w1 w3 := (Below.refl _ _).grown hgrow3 (Nat.le_refl _) (fun k hk => (by cases hk)); rw [andK_zero (fun _ => false) k, andK_zs] at hown3; have HO3 := Lib.hid hown3; clear hown3 hgrow3; obtain ⟨s1, s2⟩ := box2 (w := w) (x := .slice A h.length c) (y := .slice B l.length d) (t := 24) (W := w3) (by repeat (first | (with_reducible exact Below.refl _ _) | (with_reducible assumption) | (with_reducible exact bel_box _) | (with_reducible refine bel_step ?_ (by with_reducible assumption)) | (with_reducible refine Below.drew ?_) | (with_reducible refine below_drewN ?_ _) | (with_reducible refine bel_alloc ?_ _)))) | (go_at_call 41; (with_reducible refine (lets.out _ (hto HA ?_) (hto HB ?_)).mono ?_); (focus ((repeat (first | (with_reducible exact Below.refl _ _) | (with_reducible assumption) | (with_reducible exact bel_box _) | (with_reducible refine bel_step ?_ (by with_reducible assumption)) | (with_reducible refine Below.drew ?_) | (with_reducible refine below_drewN ?_ _) | (with_reducible refine bel_alloc ?_ _))); done)); (focus ((repeat (first | (with_reducible exact Below.refl _ _) | (with_reducible assumption) | (with_reducible exact bel_box _) | (with_reducible refine bel_step ?_ (by with_reducible assumption)) | (with_reducible refine Below.drew ?_) | (with_reducible refine below_drewN ?_ _) | (with_reducible refine bel_alloc ?_ _))); done)); rintro e w4 ⟨VL, cvl, rfl, HVL, hcvl, hb4⟩; obtain ⟨s1, s2⟩ := box2 (w := w) (x := .slice A h.length c) (y := .slice B l.length d) (t := 24) (W := w4) (by repeat (first | (with_reducible exact Below.refl _ _) | (with_reducible assumption) | (with_reducible exact bel_box _) | (with_reducible refine bel_step ?_ (by with_reducible assumption)) | (with_reducible refine Below.drew ?_) | (with_reducible refine below_drewN ?_ _) | (with_reducible refine bel_alloc ?_ _))); have z4 : w1.heap.size ≤ w4.heap.size := Nat.le_trans hb3.size hb4.size) | (at_builtin; refine wpList_append_rd _ rfl _ _ 22 rfl w1.heap.size 4 i0 (.bool false) 1 Try.underlying22 hi iz is ib rfl _ k (bls (zs k)) rfl (own_keep HO3.out hb4) w4.heap.size _ NL cvl (bls (fL (lt h l) NL)) rfl LL HVL.out (bls_one _) M1 M2 z4 ?_; intro v5 w5 hown5 hgrow5 hat5; have hb5 := bel_app hb3 hb4 HO3.out hgrow5; rw [← bls_append', zs_fL, ← HN.out] at hown5; obtain ⟨V5, cv5, rfl⟩ := own_form hown5; obtain ⟨s1, s2⟩ := box2 (w := w) (x := .slice A h.length c) (y := .slice B l.length d) (t := 24) (W := w5) (by repeat (first | (with_reducible exact Below.refl _ _) | (with_reducible assumption) | (with_reducible exact bel_box _) | (with_reducible refine bel_step ?_ (by with_reducible assumption)) | (with_reducible refine Below.drew ?_) | (with_reducible refine below_drewN ?_ _) | (with_reducible refine bel_alloc ?_ _))); have z5 : w.heap.size + 2 ≤ w5.heap.size := Nat.le_trans z1 hb5.size) | (go_at_call 40; (with_reducible refine (sho.out _ _ _ (Rd.of_own hown5) (own_cap hown5)).mono ?_); rintro e w6 ⟨V1, V2, cv1, cv2, rfl, hR1, hR2, hv1, hv2, hb6, hn1, hn2⟩; have HR1 := Lib.hid hR1; have HR2 := Lib.hid hR2; clear hR1 hR2) | (go_at_call 49; refine (fi.out _ _ _ _ _ (hto HR1 ?_) (hto HR2 ?_) hv1 hv2 (w.heap.size + 2) (hn1.mono z5) (hn2.mono z5)).mono ?_; (focus ((repeat (first | (with_reducible exact Below.refl _ _) | (with_reducible assumption) | (with_reducible exact bel_box _) | (with_reducible refine bel_step ?_ (by with_reducible assumption)) | (with_reducible refine Below.drew ?_) | (with_reducible refine below_drewN ?_ _) | (with_reducible refine bel_alloc ?_ _))); done)); (focus ((repeat (first | (with_reducible exact Below.refl _ _) | (with_reducible assumption) | (with_reducible exact bel_box _) | (with_reducible refine bel_step ?_ (by with_reducible assumption)) | (with_reducible refine Below.drew ?_) | (with_reducible refine below_drewN ?_ _) | (with_reducible refine bel_alloc ?_ _))); done)); rintro e w7 ⟨V3, V4, cv3, cv4, rfl, hR3, hR4, hv3, hv4, hb7, hn3, hn4⟩; have HR3 := Lib.hid hR3; have HR4 := Lib.hid hR4; clear hR3 hR4; have hw7 := res4_below (W' := w7) hres (by repeat (first | (with_reducible exact Below.refl _ _) | (with_reducible assumption) | (with_reducible exact bel_box _) | (with_reducible refine bel_step ?_ (by with_reducible assumption)) | (with_reducible refine Below.drew ?_) | (with_reducible refine below_drewN ?_ _) | (with_reducible refine bel_alloc ?_ _))); obtain ⟨q1, q2, q3, q4⟩ := id hw7))
  obtain ⟨k0, k1⟩ := set2_cells hw7.1 hw7.2.1 (.slice V3 F1.length cv3) (.slice V4 F2.length cv4)
  refine bodyPost_ret (v := .tuple #[.agg #[.slice V3 F1.length cv3, .slice V4 F2.length cv4], .int .i64 E]) (by simp [results, Try.results32, go_sem, k0, k1]) rfl ?_
  exact ⟨V3, V4, cv3, cv4, rfl, HR3.out.set2_lo hn3 (by omega) _ _, HR4.out.set2_lo hn4 (by omega) _ _, hv3, hv4, bel_set2 (by repeat (first | (with_reducible exact Below.refl _ _) | (with_reducible assumption) | (with_reducible exact bel_box _) | (with_reducible refine bel_step ?_ (by with_reducible assumption)) | (with_reducible refine Below.drew ?_) | (with_reducible refine below_drewN ?_ _) | (with_reducible refine bel_alloc ?_ _))) (by omega) _ _, hn3.mono (by omega), hn4.mono (by omega)⟩
set_option maxHeartbeats 4000000 in
theorem rshift_big (A B : Option Addr) (c d k : Nat) (h l : List Bool) (w : World) (hA : Rd w w.heap.size A (bls h)) (hB : Rd w w.heap.size B (bls l)) (hh : h.length ≤ 140737488355328) (hl : l.length ≤ 140737488355328) (hc : h.length ≤ c) (hd : l.length ≤ d) (hck : ck h l = 0) (hkk : 128 < k) (hk63 : k ≤ 9223372036854775807) (hz : ¬ cnt h = 0) :
    Calls Try.prog 32 #[.agg #[.slice A h.length c, .slice B l.length d], .int .i64 (k : Nat)] w (NewWE ([], []) 3 w) := by
  obtain ⟨i0, hi, iz, is, ib⟩ := info_parts Try.boolInfo
  have HA := Lib.hid hA
  have HB := Lib.hid hB
  have hk := lens hck
  have chk := rcheck_any A B c d h l
  rw [hck] at chk
  have chk := Lib.hid chk
  clear hA hB hck
  have hcl1 := cnt_le l
  have hch1 := cnt_le h
  obtain ⟨kl, hkl⟩ : ∃ k, cnt l = k := ⟨_, rfl⟩
  obtain ⟨kh, hkh⟩ : ∃ k, cnt h = k := ⟨_, rfl⟩
  have kcl : Hid (∀ W, Rd W W.heap.size B (bls l) → Calls Try.prog 37 #[.slice B l.length d] W fun e w' => e = .returned (.int .i64 (kl : Nat)) ∧ W = w') := fun W hr => by rw [← hkl]; exact rcount_any B d l W hr hl
  have kch : Hid (∀ W, Rd W W.heap.size A (bls h) → Calls Try.prog 37 #[.slice A h.length c] W fun e w' => e = .returned (.int .i64 (kh : Nat)) ∧ W = w') := fun W hr => by rw [← hkh]; exact rcount_any A c h W hr hh
  rw [hkh] at hz hch1
  rw [hkl] at hcl1
  have hz1 : ((kh : Int) == 0) = false := by simpa using hz
  have hn1 : ¬ (k : Int) < 0 := by omega
  have hn2 : (0 : Int) ≤ (k : Int) := by omega
  have hn3 : (128 : Int) < (k : Int) := by omega
  clear hkl hkh hz
  go_enter Try.func32, Try.ntmps32
  go_wp2_with (first | (go_at_call 13; refine (chk.out _ hh hl).mono ?_; rintro e w1 ⟨rfl, hb1⟩; obtain ⟨s1, s2⟩ := box2 (w := w) (x := .slice A h.length c) (y := .slice B l.length d) (t := 24) (W := w1) (by repeat (first | (with_reducible exact Below.refl _ _) | (with_reducible assumption) | (with_reducible exact bel_box _) | (with_reducible refine bel_step ?_ (by with_reducible assumption)) | (with_reducible refine Below.drew ?_) | (with_reducible refine below_drewN ?_ _) | (with_reducible refine bel_alloc ?_ _))); obtain ⟨hr0, hr1, hr3, hr4⟩ := box2f (w := w.alloc (.cells #[.slice A h.length c, .slice B l.length d] 24)) (x := .slice none 0 0) (y := .slice none 0 0) (t := 24) (W := w1) (g := w.heap.size + 1) (by simp) (by repeat (first | (with_reducible exact Below.refl _ _) | (with_reducible assumption) | (with_reducible exact bel_box _) | (with_reducible refine bel_step ?_ (by with_reducible assumption)) | (with_reducible refine Below.drew ?_) | (with_reducible refine below_drewN ?_ _) | (with_reducible refine bel_alloc ?_ _)))) | (go_at_call_of 37 (Value.slice B l.length d); (with_reducible refine (kcl.out _ (hto HB ?_)).mono ?_); (focus ((repeat (first | (with_reducible exact Below.refl _ _) | (with_reducible assumption) | (with_reducible exact bel_box _) | (with_reducible refine bel_step ?_ (by with_reducible assumption)) | (with_reducible refine Below.drew ?_) | (with_reducible refine below_drewN ?_ _) | (with_reducible refine bel_alloc ?_ _))); done)); rintro e w2 ⟨rfl, rfl⟩) | (go_at_call 37; (with_reducible refine (kch.out _ (hto HA ?_)).mono ?_); (focus ((repeat (first | (with_reducible exact Below.refl _ _) | (with_reducible assumption) | (with_reducible exact bel_box _) | (with_reducible refine bel_step ?_ (by with_reducible assumption)) | (with_reducible refine Below.drew ?_) | (with_reducible refine below_drewN ?_ _) | (with_reducible refine bel_alloc ?_ _))); done)); rintro e w2 ⟨rfl, rfl⟩))
  obtain ⟨k0, k1⟩ := set2_cells hr0 hr1 (.slice none 0 0) (.slice none 0 0)
  refine bodyPost_ret (v := .tuple #[.agg #[.slice none 0 0, .slice none 0 0], .int .i64 3]) (by simp [results, Try.results32, go_sem, k0, k1]) rfl ?_
  exact ⟨none, none, 0, 0, rfl, Rd.nil _ _ _, Rd.nil _ _ _, Nat.zero_le _, Nat.zero_le _, bel_set2 (by repeat (first | (with_reducible exact Below.refl _ _) | (with_reducible assumption) | (with_reducible exact bel_box _) | (with_reducible refine bel_step ?_ (by with_reducible assumption)) | (with_reducible refine Below.drew ?_) | (with_reducible refine below_drewN ?_ _) | (with_reducible refine bel_alloc ?_ _))) (by omega) _ _, Nw.nil _ _, Nw.nil _ _⟩
set_option maxHeartbeats 4000000 in
theorem rshift_big2 (A B : Option Addr) (c d k : Nat) (h l : List Bool) (w : World) (hA : Rd w w.heap.size A (bls h)) (hB : Rd w w.heap.size B (bls l)) (hh : h.length ≤ 140737488355328) (hl : l.length ≤ 140737488355328) (hc : h.length ≤ c) (hd : l.length ≤ d) (hck : ck h l = 0) (hkk : 128 < k) (hk63 : k ≤ 9223372036854775807) (hz0 : cnt h = 0) (hz : ¬ cnt l = 0) :
    Calls Try.prog 32 #[.agg #[.slice A h.length c, .slice B l.length d], .int .i64 (k : Nat)] w (NewWE ([], []) 3 w) := by
  obtain ⟨i0, hi, iz, is, ib⟩ := info_parts Try.boolInfo
  have HA := Lib.hid hA
  have HB := Lib.hid hB
  have hk := lens hck
  have chk := rcheck_any A B c d h l
  rw [hck] at chk
  have chk := Lib.hid chk
  clear hA hB hck
  have hcl1 := cnt_le l
  have hch1 := cnt_le h
  obtain ⟨kl, hkl⟩ : ∃ k, cnt l = k := ⟨_, rfl⟩
  obtain ⟨kh, hkh⟩ : ∃ k, cnt h = k := ⟨_, rfl⟩
  have kcl : Hid (∀ W, Rd W W.heap.size B (bls l) → Calls Try.prog 37 #[.slice B l.length d] W fun e w' => e = .returned (.int .i64 (kl : Nat)) ∧ W = w') := fun W hr => by rw [← hkl]; exact rcount_any B d l W hr hl
  have kch : Hid (∀ W, Rd W W.heap.size A (bls h) → Calls Try.prog 37 #[.slice A h.length c] W fun e w' => e = .returned (.int .i64 (kh : Nat)) ∧ W = w') := fun W hr => by rw [← hkh]; exact rcount_any A c h W hr hh
  rw [hkh] at hz0 hch1
  rw [hkl] at hz hcl1
  have hz1 : ((kh : Int) == 0) = true := by simpa using hz0
  have hz2 : ((kl : Int) == 0) = false := by simpa using hz
  have hn1 : ¬ (k : Int) < 0 := by omega
  have hn2 : (0 : Int) ≤ (k : Int) := by omega
  have hn3 : (128 : Int) < (k : Int) := by omega
  clear hkl hkh hz hz0
  go_enter Try.func32, Try.ntmps32
  go_wp2_with (first | (go_at_call 13; refine (chk.out _ hh hl).mono ?_; rintro e w1 ⟨rfl, hb1⟩; obtain ⟨s1, s2⟩ := box2 (w := w) (x := .slice A h.length c) (y := .slice B l.length d) (t := 24) (W := w1) (by repeat (first | (with_reducible exact Below.refl _ _) | (with_reducible assumption) | (with_reducible exact bel_box _) | (with_reducible refine bel_step ?_ (by with_reducible assumption)) | (with_reducible refine Below.drew ?_) | (with_reducible refine below_drewN ?_ _) | (with_reducible refine bel_alloc ?_ _))); obtain ⟨hr0, hr1, hr3, hr4⟩ := box2f (w := w.alloc (.cells #[.slice A h.length c, .slice B l.length d] 24)) (x := .slice none 0 0) (y := .slice none 0 0) (t := 24) (W := w1) (g := w.heap.size + 1) (by simp) (by repeat (first | (with_reducible exact Below.refl _ _) | (with_reducible assumption) | (with_reducible exact bel_box _) | (with_reducible refine bel_step ?_ (by with_reducible assumption)) | (with_reducible refine Below.drew ?_) | (with_reducible refine below_drewN ?_ _) | (with_reducible refine bel_alloc ?_ _)))) | (go_at_call_of 37 (Value.slice B l.length d); (with_reducible refine (kcl.out _ (hto HB ?_)).mono ?_); (focus ((repeat (first | (with_reducible exact Below.refl _ _) | (with_reducible assumption) | (with_reducible exact bel_box _) | (with_reducible refine bel_step ?_ (by with_reducible assumption)) | (with_reducible refine Below.drew ?_) | (with_reducible refine below_drewN ?_ _) | (with_reducible refine bel_alloc ?_ _))); done)); rintro e w2 ⟨rfl, rfl⟩) | (go_at_call 37; (with_reducible refine (kch.out _ (hto HA ?_)).mono ?_); (focus ((repeat (first | (with_reducible exact Below.refl _ _) | (with_reducible assumption) | (with_reducible exact bel_box _) | (with_reducible refine bel_step ?_ (by with_reducible assumption)) | (with_reducible refine Below.drew ?_) | (with_reducible refine below_drewN ?_ _) | (with_reducible refine bel_alloc ?_ _))); done)); rintro e w2 ⟨rfl, rfl⟩))
  obtain ⟨k0, k1⟩ := set2_cells hr0 hr1 (.slice none 0 0) (.slice none 0 0)
  refine bodyPost_ret (v := .tuple #[.agg #[.slice none 0 0, .slice none 0 0], .int .i64 3]) (by simp [results, Try.results32, go_sem, k0, k1]) rfl ?_
  exact ⟨none, none, 0, 0, rfl, Rd.nil _ _ _, Rd.nil _ _ _, Nat.zero_le _, Nat.zero_le _, bel_set2 (by repeat (first | (with_reducible exact Below.refl _ _) | (with_reducible assumption) | (with_reducible exact bel_box _) | (with_reducible refine bel_step ?_ (by with_reducible assumption)) | (with_reducible refine Below.drew ?_) | (with_reducible refine below_drewN ?_ _) | (with_reducible refine bel_alloc ?_ _))) (by omega) _ _, Nw.nil _ _, Nw.nil _ _⟩
end Go.Proofs.Ytimecbkfeennpaa
