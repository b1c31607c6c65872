/- Shift of package bword. -/
import Derived.Test.YtimecbkfeennpaaBwM4
import Derived.Test.YtimecbkfeennpaaBwAd9
namespace Go.Proofs.Ytimecbkfeennpaa
set_option linter.unusedVariables false
set_option linter.unusedSimpArgs false
open Go.RowKit
theorem andK_zs (f : Nat → Bool) (n : Nat) : andK f n 0 = zs n := by
  apply List.ext_getElem
  · simp [andK, zs]
  · intro i h1 h2
    simp [andK, zs]
theorem bls_append' (x y : List Bool) : bls (x ++ y) = bls x ++ bls y := by simp [bls]
theorem bel_app {w1 w2 W w3 : World} {n : Nat} {e : TypeId} {v : Value} {xs : List Value} (hb2 : Below w1.heap.size w1 w2) (hW : Below w2.heap.size w2 W) (hown : w2.ownsRow w1.heap.size e 1 v n xs) (hg : W.grownBy w3 v.ownBlock) : Below w1.heap.size w1 w3 :=
  (hb2.trans (hW.mono hb2.size)).grown hg (Nat.le_trans hb2.size hW.size) (fun k hk => (hown.lt k hk).1)
set_option maxHeartbeats 4000000 in
theorem pshift_good (A B : Option Addr) (c d k : Nat) (h l : List Bool) (w : World) (hA : Rd w w.heap.size A (bls h)) (hB : Rd w w.heap.size B (bls l)) (hh : h.length ≤ 140737488355328) (hl : l.length ≤ 140737488355328) (hc : h.length ≤ c) (hd : l.length ≤ d) (hck : ck h l = 0) (hkk : k ≤ 9223372036854775807) :
    Calls Try.prog 31 #[.agg #[.slice A h.length c, .slice B l.length d], .int .i64 (k : Nat)] w (NewWE (fit (nfw (zs (min k 64) ++ h) l)) (fitE (nfw (zs (min k 64) ++ h) l)) w) := by
  obtain ⟨i0, hi, iz, is, ib⟩ := info_parts Try.boolInfo
  have HA := Lib.hid hA
  have HB := Lib.hid hB
  have hk := lens hck
  have chk := check_any A B c d h l
  rw [hck] at chk
  have chk := Lib.hid chk
  clear hA hB hck
  have hn0 : (0 : Int) ≤ (k : Int) := by omega
  have hn1 : ¬ (k : Int) < 0 := by omega
  by_cases hm : k ≤ 64
  · rw [Nat.min_eq_left hm]
    have hm1 : (k : Int) ≤ 64 := by omega
    have hm2 : ¬ (64 : Int) < (k : Int) := by omega
    obtain ⟨F1, F2, hF⟩ : ∃ F1 F2, fit (nfw (zs k ++ h) l) = (F1, F2) := ⟨_, _, rfl⟩
    obtain ⟨E, hE⟩ : ∃ E, fitE (nfw (zs k ++ h) l) = E := ⟨_, rfl⟩
    rw [hF, hE]
    have LZ : (zs k ++ h).length = k + h.length := by rw [List.length_append, zs_length]
    have LB : (bls h).length = h.length := bls_length h
    have M1 : k + h.length ≤ maxLen := by unfold maxLen; omega
    have M2 : (k + h.length) * 1 ≤ 140737488355328 := by omega
    have fi := Lib.hid (fun V U cv cu W h1 h2 h3 h4 => fitted_n V U (k + h.length) l.length cv cu (zs k ++ h) l W LZ rfl h1 h2 (by omega) (by omega) h3 h4 hk.1)
    rw [hF, hE] at fi
    clear hF hE hm
    go_enter Try.func31, Try.ntmps31
    go_wp2_with (first
      | (go_at_call 12; refine (chk.out _ hh hl).mono ?_; rintro e w1 ⟨rfl, hb1⟩; obtain ⟨s1, s2⟩ := box2 (w := w) (x := .slice A h.length c) (y := .slice B l.length d) (t := 24) (W := w1) (by repeat (first | (with_reducible exact Below.refl _ _) | (with_reducible assumption) | (with_reducible exact bel_box _) | (with_reducible refine bel_step ?_ (by with_reducible assumption)) | (with_reducible refine Below.drew ?_) | (with_reducible refine below_drewN ?_ _) | (with_reducible refine bel_alloc ?_ _))))
      | (at_make; refine wpList_make_full _ rfl _ _ 22 rfl w1.heap.size 4 i0 (.bool false) 1 Try.underlying22 hi iz is _ _ _ _ k rfl rfl rfl rfl (by rw [ib]; omega) (by unfold maxLen; omega) (Nat.le_refl _) ?_; intro w2 hown2 hgrow2))
    have hb2 : Below w1.heap.size w1 w2 := (Below.refl _ _).grown hgrow2 (Nat.le_refl _) (fun k hk => by cases hk)
    rw [andK_zero (fun _ => false) k, andK_zs] at hown2
    have HO2 := Lib.hid hown2
    clear hown2 hgrow2
    obtain ⟨hr0, hr1, hr3, hr4⟩ := box2f (w := w.alloc (.cells #[.slice A h.length c, .slice B l.length d] 24)) (x := .slice none 0 0) (y := .slice none 0 0) (t := 24) (W := w1) (g := w.heap.size + 1) (by simp) (by repeat (first | (with_reducible exact Below.refl _ _) | (with_reducible assumption) | (with_reducible exact bel_box _) | (with_reducible refine bel_step ?_ (by with_reducible assumption)) | (with_reducible refine Below.drew ?_) | (with_reducible refine below_drewN ?_ _) | (with_reducible refine bel_alloc ?_ _)))
    have hres := res4_of hr0 hr1 hr3 hr4
    have z1 : w.heap.size + 2 ≤ w1.heap.size := by have := hb1.size; simp at this; omega
    clear hr0 hr1 hr3 hr4
    obtain ⟨s1, s2⟩ := box2 (w := w) (x := .slice A h.length c) (y := .slice B l.length d) (t := 24) (W := w2) (by repeat (first | (with_reducible exact Below.refl _ _) | (with_reducible assumption) | (with_reducible exact bel_box _) | (with_reducible refine bel_step ?_ (by with_reducible assumption)) | (with_reducible refine Below.drew ?_) | (with_reducible refine below_drewN ?_ _) | (with_reducible refine bel_alloc ?_ _)))
    go_region_held3 (fun w' => w'.cell? ⟨w.heap.size, 0, none⟩ = some (.slice A h.length c) ∧ w'.cell? ⟨w.heap.size, 1, none⟩ = some (.slice B l.length d) ∧ w'.cell? ⟨w.heap.size + 1, 0, none⟩ = some (rc w' (w.heap.size + 1) 0) ∧ w'.cell? ⟨w.heap.size + 1, 1, none⟩ = some (rc w' (w.heap.size + 1) 1) ∧ w'.frozen? ⟨w.heap.size + 1, 0, none⟩ = false ∧ w'.frozen? ⟨w.heap.size + 1, 1, none⟩ = false)
      (first
        | (refine and6 (box2 (t := 24) ?_) (res4_below hres ?_); (focus ((repeat (first | (with_reducible exact Below.refl _ _) | (with_reducible assumption) | (with_reducible exact bel_box _) | (with_reducible refine bel_step ?_ (by with_reducible assumption)) | (with_reducible refine Below.drew ?_) | (with_reducible refine below_drewN ?_ _) | (with_reducible refine bel_alloc ?_ _))); done)); (focus ((repeat (first | (with_reducible exact Below.refl _ _) | (with_reducible assumption) | (with_reducible exact bel_box _) | (with_reducible refine bel_step ?_ (by with_reducible assumption)) | (with_reducible refine Below.drew ?_) | (with_reducible refine below_drewN ?_ _) | (with_reducible refine bel_alloc ?_ _))); done)))
        | (refine and6 (box2 (t := 24) ((Below.setCell (Below.setCell ?_ ?_ _) ?_ _))) (res4_set (res4_below hres ?_) _ _); (focus ((repeat (first | (with_reducible exact Below.refl _ _) | (with_reducible assumption) | (with_reducible exact bel_box _) | (with_reducible refine bel_step ?_ (by with_reducible assumption)) | (with_reducible refine Below.drew ?_) | (with_reducible refine below_drewN ?_ _) | (with_reducible refine bel_alloc ?_ _))); done)); (focus (simp; done)); (focus (simp; done)); (focus ((repeat (first | (with_reducible exact Below.refl _ _) | (with_reducible assumption) | (with_reducible exact bel_box _) | (with_reducible refine bel_step ?_ (by with_reducible assumption)) | (with_reducible refine Below.drew ?_) | (with_reducible refine below_drewN ?_ _) | (with_reducible refine bel_alloc ?_ _))); done))))
      (first
        | (refine step_append_rd _ rfl _ _ _ rfl w1.heap.size 4 i0 (.bool false) 1 Try.underlying22 hi iz is ib rfl _ k (bls (zs k)) rfl (own_keep HO2.out ?_) _ _ h.length c (bls h) rfl LB (hto HA ?_) (bls_one _) M1 M2 (Nat.le_trans hb2.size (Below.size (B := w2.heap.size) (w := w2) ?_)) ?_; (focus ((repeat (first | (with_reducible exact Below.refl _ _) | (with_reducible assumption) | (with_reducible exact bel_box _) | (with_reducible refine bel_step ?_ (by with_reducible assumption)) | (with_reducible refine Below.drew ?_) | (with_reducible refine below_drewN ?_ _) | (with_reducible refine bel_alloc ?_ _))); done)); (focus ((repeat (first | (with_reducible exact Below.refl _ _) | (with_reducible assumption) | (with_reducible exact bel_box _) | (with_reducible refine bel_step ?_ (by with_reducible assumption)) | (with_reducible refine Below.drew ?_) | (with_reducible refine below_drewN ?_ _) | (with_reducible refine bel_alloc ?_ _))); done)); (focus ((repeat (first | (with_reducible exact Below.refl _ _) | (with_reducible assumption) | (with_reducible exact bel_box _) | (with_reducible refine bel_step ?_ (by with_reducible assumption)) | (with_reducible refine Below.drew ?_) | (with_reducible refine below_drewN ?_ _) | (with_reducible refine bel_alloc ?_ _))); done)); intro v3 w3 hown3 hgrow3 hat3; have hb3 := bel_app hb2 (by repeat (first | (with_reducible exact Below.refl _ _) | (with_reducible assumption) | (with_reducible exact bel_box _) | (with_reducible refine bel_step ?_ (by with_reducible assumption)) | (with_reducible refine Below.drew ?_) | (with_reducible refine below_drewN ?_ _) | (with_reducible refine bel_alloc ?_ _))) HO2.out hgrow3; rw [← bls_append'] at hown3; obtain ⟨V3, cv3, rfl⟩ := own_form hown3)
        | (go_at_call 46; refine (fi.out _ _ _ _ _ (Rd.of_own hown3) (hto HB ?_) (own_cap hown3) hd).mono ?_; (focus ((repeat (first | (with_reducible exact Below.refl _ _) | (with_reducible assumption) | (with_reducible exact bel_box _) | (with_reducible refine bel_step ?_ (by with_reducible assumption)) | (with_reducible refine Below.drew ?_) | (with_reducible refine below_drewN ?_ _) | (with_reducible refine bel_alloc ?_ _))); done)); rintro e w5 ⟨V1, V2, cv1, cv2, rfl, hR1, hR2, hv1, hv2, hb5, hn1, hn2⟩; have HR1 := Lib.hid hR1; have HR2 := Lib.hid hR2; clear hR1 hR2))
    all_goals go_wp2
    all_goals
      have z5 : w1.heap.size ≤ w3.heap.size := hb3.size
      have hw5 := res4_below (W' := w5) hres (by repeat (first | (with_reducible exact Below.refl _ _) | (with_reducible assumption) | (with_reducible exact bel_box _) | (with_reducible refine bel_step ?_ (by with_reducible assumption)) | (with_reducible refine Below.drew ?_) | (with_reducible refine below_drewN ?_ _) | (with_reducible refine bel_alloc ?_ _)))
      obtain ⟨k0, k1⟩ := set2_cells hw5.1 hw5.2.1 (.slice V1 F1.length cv1) (.slice V2 F2.length cv2)
      clear hw5
      refine bodyPost_ret (v := .tuple #[.agg #[.slice V1 F1.length cv1, .slice V2 F2.length cv2], .int .i64 E]) (by simp [results, Try.results31, go_sem, k0, k1]) rfl ?_
      exact ⟨V1, V2, cv1, cv2, rfl, HR1.out.set2_lo hn1 (by omega) _ _, HR2.out.set2_lo hn2 (by omega) _ _, hv1, hv2, bel_set2 (by repeat (first | (with_reducible exact Below.refl _ _) | (with_reducible assumption) | (with_reducible exact bel_box _) | (with_reducible refine bel_step ?_ (by with_reducible assumption)) | (with_reducible refine Below.drew ?_) | (with_reducible refine below_drewN ?_ _) | (with_reducible refine bel_alloc ?_ _))) (by omega) _ _, hn1.mono (by omega), hn2.mono (by omega)⟩
  · rw [Nat.min_eq_right (show 64 ≤ k by omega)]
    have hm1 : (64 : Int) < (k : Int) := by omega
    obtain ⟨F1, F2, hF⟩ : ∃ F1 F2, fit (nfw (zs 64 ++ h) l) = (F1, F2) := ⟨_, _, rfl⟩
    obtain ⟨E, hE⟩ : ∃ E, fitE (nfw (zs 64 ++ h) l) = E := ⟨_, rfl⟩
    rw [hF, hE]
    have LZ : (zs 64 ++ h).length = 64 + h.length := by rw [List.length_append, zs_length]
    have LB : (bls h).length = h.length := bls_length h
    have M1 : 64 + h.length ≤ maxLen := by unfold maxLen; omega
    have M2 : (64 + h.length) * 1 ≤ 140737488355328 := by omega
    have fi := Lib.hid (fun V U cv cu W h1 h2 h3 h4 => fitted_n V U (64 + h.length) l.length cv cu (zs 64 ++ h) l W LZ rfl h1 h2 (by omega) (by omega) h3 h4 hk.1)
    rw [hF, hE] at fi
    clear hF hE hm
    go_enter Try.func31, Try.ntmps31
    go_wp2_with (first
      | (go_at_call 12; refine (chk.out _ hh hl).mono ?_; rintro e w1 ⟨rfl, hb1⟩; obtain ⟨s1, s2⟩ := box2 (w := w) (x := .slice A h.length c) (y := .slice B l.length d) (t := 24) (W := w1) (by repeat (first | (with_reducible exact Below.refl _ _) | (with_reducible assumption) | (with_reducible exact bel_box _) | (with_reducible refine bel_step ?_ (by with_reducible assumption)) | (with_reducible refine Below.drew ?_) | (with_reducible refine below_drewN ?_ _) | (with_reducible refine bel_alloc ?_ _))))
      | (at_make; refine wpList_make_full _ rfl _ _ 22 rfl w1.heap.size 4 i0 (.bool false) 1 Try.underlying22 hi iz is _ _ _ _ 64 rfl rfl rfl rfl (by rw [ib]; omega) (by unfold maxLen; omega) (Nat.le_refl _) ?_; intro w2 hown2 hgrow2))
    have hb2 : Below w1.heap.size w1 w2 := (Below.refl _ _).grown hgrow2 (Nat.le_refl _) (fun k hk => by cases hk)
    rw [andK_zero (fun _ => false) 64, andK_zs] at hown2
    have HO2 := Lib.hid hown2
    clear hown2 hgrow2
    obtain ⟨hr0, hr1, hr3, hr4⟩ := box2f (w := w.alloc (.cells #[.slice A h.length c, .slice B l.length d] 24)) (x := .slice none 0 0) (y := .slice none 0 0) (t := 24) (W := w1) (g := w.heap.size + 1) (by simp) (by repeat (first | (with_reducible exact Below.refl _ _) | (with_reducible assumption) | (with_reducible exact bel_box _) | (with_reducible refine bel_step ?_ (by with_reducible assumption)) | (with_reducible refine Below.drew ?_) | (with_reducible refine below_drewN ?_ _) | (with_reducible refine bel_alloc ?_ _)))
    have hres := res4_of hr0 hr1 hr3 hr4
    have z1 : w.heap.size + 2 ≤ w1.heap.size := by have := hb1.size; simp at this; omega
    clear hr0 hr1 hr3 hr4
    obtain ⟨s1, s2⟩ := box2 (w := w) (x := .slice A h.length c) (y := .slice B l.length d) (t := 24) (W := w2) (by repeat (first | (with_reducible exact Below.refl _ _) | (with_reducible assumption) | (with_reducible exact bel_box _) | (with_reducible refine bel_step ?_ (by with_reducible assumption)) | (with_reducible refine Below.drew ?_) | (with_reducible refine below_drewN ?_ _) | (with_reducible refine bel_alloc ?_ _)))
    go_region_held3 (fun w' => w'.cell? ⟨w.heap.size, 0, none⟩ = some (.slice A h.length c) ∧ w'.cell? ⟨w.heap.size, 1, none⟩ = some (.slice B l.length d) ∧ w'.cell? ⟨w.heap.size + 1, 0, none⟩ = some (rc w' (w.heap.size + 1) 0) ∧ w'.cell? ⟨w.heap.size + 1, 1, none⟩ = some (rc w' (w.heap.size + 1) 1) ∧ w'.frozen? ⟨w.heap.size + 1, 0, none⟩ = false ∧ w'.frozen? ⟨w.heap.size + 1, 1, none⟩ = false)
      (first
        | (refine and6 (box2 (t := 24) ?_) (res4_below hres ?_); (focus ((repeat (first | (with_reducible exact Below.refl _ _) | (with_reducible assumption) | (with_reducible exact bel_box _) | (with_reducible refine bel_step ?_ (by with_reducible assumption)) | (with_reducible refine Below.drew ?_) | (with_reducible refine below_drewN ?_ _) | (with_reducible refine bel_alloc ?_ _))); done)); (focus ((repeat (first | (with_reducible exact Below.refl _ _) | (with_reducible assumption) | (with_reducible exact bel_box _) | (with_reducible refine bel_step ?_ (by with_reducible assumption)) | (with_reducible refine Below.drew ?_) | (with_reducible refine below_drewN ?_ _) | (with_reducible refine bel_alloc ?_ _))); done)))
        | (refine and6 (box2 (t := 24) ((Below.setCell (Below.setCell ?_ ?_ _) ?_ _))) (res4_set (res4_below hres ?_) _ _); (focus ((repeat (first | (with_reducible exact Below.refl _ _) | (with_reducible assumption) | (with_reducible exact bel_box _) | (with_reducible refine bel_step ?_ (by with_reducible assumption)) | (with_reducible refine Below.drew ?_) | (with_reducible refine below_drewN ?_ _) | (with_reducible refine bel_alloc ?_ _))); done)); (focus (simp; done)); (focus (simp; done)); (focus ((repeat (first | (with_reducible exact Below.refl _ _) | (with_reducible assumption) | (with_reducible exact bel_box _) | (with_reducible refine bel_step ?_ (by with_reducible assumption)) | (with_reducible refine Below.drew ?_) | (with_reducible refine below_drewN ?_ _) | (with_reducible refine bel_alloc ?_ _))); done))))
      (first
        | (refine step_append_rd _ rfl _ _ _ rfl w1.heap.size 4 i0 (.bool false) 1 Try.underlying22 hi iz is ib rfl _ 64 (bls (zs 64)) rfl (own_keep HO2.out ?_) _ _ h.length c (bls h) rfl LB (hto HA ?_) (bls_one _) M1 M2 (Nat.le_trans hb2.size (Below.size (B := w2.heap.size) (w := w2) ?_)) ?_; (focus ((repeat (first | (with_reducible exact Below.refl _ _) | (with_reducible assumption) | (with_reducible exact bel_box _) | (with_reducible refine bel_step ?_ (by with_reducible assumption)) | (with_reducible refine Below.drew ?_) | (with_reducible refine below_drewN ?_ _) | (with_reducible refine bel_alloc ?_ _))); done)); (focus ((repeat (first | (with_reducible exact Below.refl _ _) | (with_reducible assumption) | (with_reducible exact bel_box _) | (with_reducible refine bel_step ?_ (by with_reducible assumption)) | (with_reducible refine Below.drew ?_) | (with_reducible refine below_drewN ?_ _) | (with_reducible refine bel_alloc ?_ _))); done)); (focus ((repeat (first | (with_reducible exact Below.refl _ _) | (with_reducible assumption) | (with_reducible exact bel_box _) | (with_reducible refine bel_step ?_ (by with_reducible assumption)) | (with_reducible refine Below.drew ?_) | (with_reducible refine below_drewN ?_ _) | (with_reducible refine bel_alloc ?_ _))); done)); intro v3 w3 hown3 hgrow3 hat3; have hb3 := bel_app hb2 (by repeat (first | (with_reducible exact Below.refl _ _) | (with_reducible assumption) | (with_reducible exact bel_box _) | (with_reducible refine bel_step ?_ (by with_reducible assumption)) | (with_reducible refine Below.drew ?_) | (with_reducible refine below_drewN ?_ _) | (with_reducible refine bel_alloc ?_ _))) HO2.out hgrow3; rw [← bls_append'] at hown3; obtain ⟨V3, cv3, rfl⟩ := own_form hown3)
        | (go_at_call 46; refine (fi.out _ _ _ _ _ (Rd.of_own hown3) (hto HB ?_) (own_cap hown3) hd).mono ?_; (focus ((repeat (first | (with_reducible exact Below.refl _ _) | (with_reducible assumption) | (with_reducible exact bel_box _) | (with_reducible refine bel_step ?_ (by with_reducible assumption)) | (with_reducible refine Below.drew ?_) | (with_reducible refine below_drewN ?_ _) | (with_reducible refine bel_alloc ?_ _))); done)); rintro e w5 ⟨V1, V2, cv1, cv2, rfl, hR1, hR2, hv1, hv2, hb5, hn1, hn2⟩; have HR1 := Lib.hid hR1; have HR2 := Lib.hid hR2; clear hR1 hR2))
    all_goals go_wp2
    all_goals
      have z5 : w1.heap.size ≤ w3.heap.size := hb3.size
      have hw5 := res4_below (W' := w5) hres (by repeat (first | (with_reducible exact Below.refl _ _) | (with_reducible assumption) | (with_reducible exact bel_box _) | (with_reducible refine bel_step ?_ (by with_reducible assumption)) | (with_reducible refine Below.drew ?_) | (with_reducible refine below_drewN ?_ _) | (with_reducible refine bel_alloc ?_ _)))
      obtain ⟨k0, k1⟩ := set2_cells hw5.1 hw5.2.1 (.slice V1 F1.length cv1) (.slice V2 F2.length cv2)
      clear hw5
      refine bodyPost_ret (v := .tuple #[.agg #[.slice V1 F1.length cv1, .slice V2 F2.length cv2], .int .i64 E]) (by simp [results, Try.results31, go_sem, k0, k1]) rfl ?_
      exact ⟨V1, V2, cv1, cv2, rfl, HR1.out.set2_lo hn1 (by omega) _ _, HR2.out.set2_lo hn2 (by omega) _ _, hv1, hv2, bel_set2 (by repeat (first | (with_reducible exact Below.refl _ _) | (with_reducible assumption) | (with_reducible exact bel_box _) | (with_reducible refine bel_step ?_ (by with_reducible assumption)) | (with_reducible refine Below.drew ?_) | (with_reducible refine below_drewN ?_ _) | (with_reducible refine bel_alloc ?_ _))) (by omega) _ _, hn1.mono (by omega), hn2.mono (by omega)⟩
end Go.Proofs.Ytimecbkfeennpaa
