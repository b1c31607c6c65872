/- Shift of the reference, whatever it is given. -/
import Derived.Test.YtimecbkfeennpaaBwRs3
namespace Go.Proofs.Ytimecbkfeennpaa
set_option linter.unusedVariables false
set_option linter.unusedSimpArgs false
open Go.RowKit
set_option maxHeartbeats 1000000 in
theorem rshift_any (A B : Option Addr) (c d : Nat) (n : Int) (h l : List Bool) (w : World) (hA : Rd w w.heap.size A (bls h)) (hB : Rd w w.heap.size B (bls l)) (hh : h.length ≤ 140737488355328) (hl : l.length ≤ 140737488355328) (hc : h.length ≤ c) (hd : l.length ≤ d) (hn : n ≤ 9223372036854775807) :
    Calls Try.prog 32 #[.agg #[.slice A h.length c, .slice B l.length d], .int .i64 n] w (NewWE (shR h l n) (shE h l n) w) := by
  have chk := rcheck_any A B c d h l
  by_cases h1 : ck h l = 0
  · by_cases h2 : 0 ≤ n
    · obtain ⟨k, rfl⟩ := Int.eq_ofNat_of_zero_le h2
      rw [shR, shE, if_pos ⟨h1, h2⟩, if_pos h1, if_pos h2, Int.toNat_natCast]
      have h0 := (lens h1).1
      by_cases z1 : cnt h = 0
      · by_cases z2 : cnt l = 0
        · rw [sh_zero h0 ⟨z1, z2⟩]
          exact rshift_zero A B c d k h l w hA hB hh hl hc hd h1 (by omega) z1 z2
        · have r := sh_ref (h := h) (l := l) (k := k) h0 (fun z => z2 z.2)
          by_cases hb : k ≤ 128
          · rw [← r.1, ← r.2]
            exact rshift_some2 A B c d k h l w hA hB hh hl hc hd h1 hb z1 z2
          · have g := sh_big (h := h) (l := l) (k := k) h0 (by omega) (fun z => z2 z.2)
            rw [← r.1, ← r.2, g.1, g.2]
            exact rshift_big2 A B c d k h l w hA hB hh hl hc hd h1 (by omega) (by omega) z1 z2
      · have r := sh_ref (h := h) (l := l) (k := k) h0 (fun z => z1 z.1)
        by_cases hb : k ≤ 128
        · rw [← r.1, ← r.2]
          exact rshift_some A B c d k h l w hA hB hh hl hc hd h1 hb z1
        · have g := sh_big (h := h) (l := l) (k := k) h0 (by omega) (fun z => z1 z.1)
          rw [← r.1, ← r.2, g.1, g.2]
          exact rshift_big A B c d k h l w hA hB hh hl hc hd h1 (by omega) (by omega) z1
    · rw [shR, shE, if_neg (fun k => h2 k.2), if_pos h1, if_neg h2]
      rw [h1] at chk
      have chk := Lib.hid chk
      have h3 : n < 0 := by omega
      have h4 : decide (n < 0) = true := by simpa using h3
      clear h1 h2 hA hB
      go_enter Try.func32, Try.ntmps32
      go_wp2_with (go_at_call 13; refine (chk.out _ hh hl).mono ?_; rintro e w1 ⟨rfl, hb1⟩; obtain ⟨hr0, hr1, hr3, hr4⟩ := box2f (w := w.alloc (.cells #[.slice A h.length c, .slice B l.length d] 24)) (x := .slice none 0 0) (y := .slice none 0 0) (t := 24) (W := w1) (g := w.heap.size + 1) (by simp) (by repeat (first | (with_reducible exact Below.refl _ _) | (with_reducible assumption) | (with_reducible exact bel_box _) | (with_reducible refine bel_step ?_ (by with_reducible assumption)) | (with_reducible refine Below.drew ?_) | (with_reducible refine below_drewN ?_ _) | (with_reducible refine bel_alloc ?_ _))))
      obtain ⟨k0, k1⟩ := set2_cells hr0 hr1 (.slice none 0 0) (.slice none 0 0)
      refine bodyPost_ret (v := .tuple #[.agg #[.slice none 0 0, .slice none 0 0], .int .i64 2]) (by simp [results, Try.results32, go_sem, k0, k1]) rfl ?_
      exact ⟨none, none, 0, 0, rfl, Rd.nil _ _ _, Rd.nil _ _ _, Nat.zero_le _, Nat.zero_le _, bel_set2 (by repeat (first | (with_reducible exact Below.refl _ _) | (with_reducible assumption) | (with_reducible exact bel_box _) | (with_reducible refine bel_step ?_ (by with_reducible assumption)) | (with_reducible refine Below.drew ?_) | (with_reducible refine below_drewN ?_ _) | (with_reducible refine bel_alloc ?_ _))) (by omega) _ _, Nw.nil _ _, Nw.nil _ _⟩
  · rw [shR, shE, if_neg (fun k => h1 k.1), if_neg h1]
    have hd1 : (ck h l != 0) = true := by simpa using h1
    generalize ck h l = er at *
    have chk := Lib.hid chk
    clear h1 hA hB
    go_enter Try.func32, Try.ntmps32
    go_wp2_with (go_at_call 13; refine (chk.out _ hh hl).mono ?_; rintro e w1 ⟨rfl, hb1⟩; obtain ⟨hr0, hr1, hr3, hr4⟩ := box2f (w := w.alloc (.cells #[.slice A h.length c, .slice B l.length d] 24)) (x := .slice none 0 0) (y := .slice none 0 0) (t := 24) (W := w1) (g := w.heap.size + 1) (by simp) (by repeat (first | (with_reducible exact Below.refl _ _) | (with_reducible assumption) | (with_reducible exact bel_box _) | (with_reducible refine bel_step ?_ (by with_reducible assumption)) | (with_reducible refine Below.drew ?_) | (with_reducible refine below_drewN ?_ _) | (with_reducible refine bel_alloc ?_ _))))
    obtain ⟨k0, k1⟩ := set2_cells hr0 hr1 (.slice none 0 0) (.slice none 0 0)
    refine bodyPost_ret (v := .tuple #[.agg #[.slice none 0 0, .slice none 0 0], .int .i64 er]) (by simp [results, Try.results32, go_sem, k0, k1]) rfl ?_
    exact ⟨none, none, 0, 0, rfl, Rd.nil _ _ _, Rd.nil _ _ _, Nat.zero_le _, Nat.zero_le _, bel_set2 (by repeat (first | (with_reducible exact Below.refl _ _) | (with_reducible assumption) | (with_reducible exact bel_box _) | (with_reducible refine bel_step ?_ (by with_reducible assumption)) | (with_reducible refine Below.drew ?_) | (with_reducible refine below_drewN ?_ _) | (with_reducible refine bel_alloc ?_ _))) (by omega) _ _, Nw.nil _ _, Nw.nil _ _⟩
end Go.Proofs.Ytimecbkfeennpaa
