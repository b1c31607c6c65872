/- Texts of one chain, in one file. -/
import Derived.Test.YthlapepjebidgaaGreatDoorQL
/- ShapeLimits: the walk. -/
namespace Go.Proofs.YthlapepjebidgaaGreatDoor
set_option linter.unusedVariables false
set_option linter.unusedSimpArgs false
open Go.RowKit Go.Sort
def WideM (more : Int) (w : World) (e : Ending) (W : World) : Prop := ∃ p, e = .returned (pV p) ∧ RsP W W.heap.size p ∧ Below w.heap.size w W ∧ (chkE p).2 = if more ≤ 0 then 0 else 3
theorem Wide.more {m MX : Nat} {more : Int} {w W : World} {e : Ending} (hm : (m : Int) = MX + more) (h : Wide m MX w e W) : WideM more w e W := by
  obtain ⟨p, h1, h2, h3, h4⟩ := h
  refine ⟨p, h1, h2, h3, ?_⟩
  rw [h4]
  by_cases hle : more ≤ 0
  · rw [if_pos hle, if_pos (by omega)]
  · rw [if_neg hle, if_neg (by omega)]
theorem wide_any (k more : Int) (h0 : 0 ≤ k) (h9 : k < 10) (h1 : -1 ≤ more) (h3 : more ≤ 3) (w : World) : Calls Tryz.prog 26 #[.int .i64 k, .int .i64 more] w (WideM more w) := by
  have hk : k = 0 ∨ k = 1 ∨ k = 2 ∨ k = 3 ∨ k = 4 ∨ k = 5 ∨ k = 6 ∨ k = 7 ∨ k = 8 ∨ k = 9 := by omega
  rcases hk with rfl | rfl | rfl | rfl | rfl | rfl | rfl | rfl | rfl | rfl
  · obtain ⟨m, hm⟩ : ∃ m : Nat, (m : Int) = 24 + more := ⟨(24 + more).toNat, by omega⟩
    exact (wide0 m more hm (by omega) (by omega) w).mono fun e W h => Wide.more (MX := 24) (by simpa using hm) h
  · obtain ⟨m, hm⟩ : ∃ m : Nat, (m : Int) = 96 + more := ⟨(96 + more).toNat, by omega⟩
    exact (wide1 m more hm (by omega) (by omega) w).mono fun e W h => Wide.more (MX := 96) (by simpa using hm) h
  · obtain ⟨m, hm⟩ : ∃ m : Nat, (m : Int) = 64 + more := ⟨(64 + more).toNat, by omega⟩
    exact (wide2 m more hm (by omega) (by omega) w).mono fun e W h => Wide.more (MX := 64) (by simpa using hm) h
  · obtain ⟨m, hm⟩ : ∃ m : Nat, (m : Int) = 256 + more := ⟨(256 + more).toNat, by omega⟩
    exact (wide3 m more hm (by omega) (by omega) w).mono fun e W h => Wide.more (MX := 256) (by simpa using hm) h
  · obtain ⟨m, hm⟩ : ∃ m : Nat, (m : Int) = 256 + more := ⟨(256 + more).toNat, by omega⟩
    exact (wide4 m more hm (by omega) (by omega) w).mono fun e W h => Wide.more (MX := 256) (by simpa using hm) h
  · obtain ⟨m, hm⟩ : ∃ m : Nat, (m : Int) = 8 + more := ⟨(8 + more).toNat, by omega⟩
    exact (wide5 m more hm (by omega) (by omega) w).mono fun e W h => Wide.more (MX := 8) (by simpa using hm) h
  · obtain ⟨m, hm⟩ : ∃ m : Nat, (m : Int) = 8 + more := ⟨(8 + more).toNat, by omega⟩
    exact (wide6 m more hm (by omega) (by omega) w).mono fun e W h => Wide.more (MX := 8) (by simpa using hm) h
  · obtain ⟨m, hm⟩ : ∃ m : Nat, (m : Int) = 4 + more := ⟨(4 + more).toNat, by omega⟩
    exact (wide7 m more hm (by omega) (by omega) w).mono fun e W h => Wide.more (MX := 4) (by simpa using hm) h
  · obtain ⟨m, hm⟩ : ∃ m : Nat, (m : Int) = 8 + more := ⟨(8 + more).toNat, by omega⟩
    exact (wide8 m more hm (by omega) (by omega) w).mono fun e W h => Wide.more (MX := 8) (by simpa using hm) h
  · obtain ⟨m, hm⟩ : ∃ m : Nat, (m : Int) = 16 + more := ⟨(16 + more).toNat, by omega⟩
    exact (wide9 m more hm (by omega) (by omega) w).mono fun e W h => Wide.more (MX := 16) (by simpa using hm) h
set_option maxHeartbeats 3000000 in
set_option maxRecDepth 20000 in
theorem shapelimits_any (nn more : Int) (w : World) (hs : Std w) (hn0 : 0 ≤ nn) (hn1 : nn ≤ 255) : Calls Tryz.prog 8 #[.int .u8 nn, .int .i64 more] w (Bel (.bool true) w) := by
  have KA : Hid (∀ W, Below w.heap.size w W → Calls Tryz.prog 21 #[] W (Bel (.bool true) W)) := Lib.hid fun W h => awake_any W (hs.to h)
  by_cases hlo : more < -1
  · clear hs
    go_enter Tryz.func8, Tryz.ntmps8
    go_wp2_with (go_at_call 21; (with_reducible refine (KA.out _ ?_).mono ?_); (focus ((repeat (first | (with_reducible exact Below.refl _ _) | (with_reducible assumption) | (with_reducible exact bel_box _) | (with_reducible refine bel_step ?_ (by with_reducible assumption)) | (with_reducible refine Below.drew ?_) | (with_reducible refine below_drewN ?_ _) | (with_reducible refine bel_alloc ?_ _))); done)); rintro e w1 ⟨rfl, hb1⟩)
    go_ret
    exact ⟨rfl, (by repeat (first | (with_reducible exact Below.refl _ _) | (with_reducible assumption) | (with_reducible exact bel_box _) | (with_reducible refine bel_step ?_ (by with_reducible assumption)) | (with_reducible refine Below.drew ?_) | (with_reducible refine below_drewN ?_ _) | (with_reducible refine bel_alloc ?_ _)))⟩
  by_cases hhi : 3 < more
  · clear hs
    go_enter Tryz.func8, Tryz.ntmps8
    go_wp2_with (go_at_call 21; (with_reducible refine (KA.out _ ?_).mono ?_); (focus ((repeat (first | (with_reducible exact Below.refl _ _) | (with_reducible assumption) | (with_reducible exact bel_box _) | (with_reducible refine bel_step ?_ (by with_reducible assumption)) | (with_reducible refine Below.drew ?_) | (with_reducible refine below_drewN ?_ _) | (with_reducible refine bel_alloc ?_ _))); done)); rintro e w1 ⟨rfl, hb1⟩)
    go_ret
    exact ⟨rfl, (by repeat (first | (with_reducible exact Below.refl _ _) | (with_reducible assumption) | (with_reducible exact bel_box _) | (with_reducible refine bel_step ?_ (by with_reducible assumption)) | (with_reducible refine Below.drew ?_) | (with_reducible refine below_drewN ?_ _) | (with_reducible refine bel_alloc ?_ _)))⟩
  have KW : Hid (∀ W, Calls Tryz.prog 26 #[.int .i64 (nn % 10), .int .i64 more] W (WideM more W)) := Lib.hid fun W => wide_any (nn % 10) more (by omega) (by omega) (by omega) (by omega) W
  have KC : Hid (∀ p W, Below w.heap.size w W → RsP W W.heap.size p → Calls Tryz.prog 15 #[pV p] W (Bel (.tuple #[.agg #[.int .i64 (chkE p).1.1, .int .i64 (chkE p).1.2], .int .i64 (chkE p).2]) W)) := Lib.hid fun p W h hp => sh_check p W (hs.to h) hp
  by_cases hle : more ≤ 0
  · clear hs
    go_enter Tryz.func8, Tryz.ntmps8
    go_wp2_with (first
      | (go_at_call 26; (with_reducible refine (KW.out _).mono ?_); rintro e w1 ⟨p, rfl, hp, hb1, hc⟩; rw [if_pos hle] at hc; have HP := Lib.hid hp; have KC1 := Lib.hid (KC.out p); rw [hc] at KC1; clear hp hc)
      | (go_at_call 15; (with_reducible refine (KC1.out _ ?_ (HP.out)).mono ?_); (focus ((repeat (first | (with_reducible exact Below.refl _ _) | (with_reducible assumption) | (with_reducible exact bel_box _) | (with_reducible refine bel_step ?_ (by with_reducible assumption)) | (with_reducible refine Below.drew ?_) | (with_reducible refine below_drewN ?_ _) | (with_reducible refine bel_alloc ?_ _))); done)); rintro e w2 ⟨rfl, hb2⟩)
      | (go_at_call 21; (with_reducible refine (KA.out _ ?_).mono ?_); (focus ((repeat (first | (with_reducible exact Below.refl _ _) | (with_reducible assumption) | (with_reducible exact bel_box _) | (with_reducible refine bel_step ?_ (by with_reducible assumption)) | (with_reducible refine Below.drew ?_) | (with_reducible refine below_drewN ?_ _) | (with_reducible refine bel_alloc ?_ _))); done)); rintro e w3 ⟨rfl, hb3⟩))
    go_ret
    exact ⟨rfl, (by repeat (first | (with_reducible exact Below.refl _ _) | (with_reducible assumption) | (with_reducible exact bel_box _) | (with_reducible refine bel_step ?_ (by with_reducible assumption)) | (with_reducible refine Below.drew ?_) | (with_reducible refine below_drewN ?_ _) | (with_reducible refine bel_alloc ?_ _)))⟩
  · clear hs
    have hd : decide (more ≤ 0) = false := decide_eq_false hle
    have hd2 : (0 : Int) < more := by omega
    go_enter Tryz.func8, Tryz.ntmps8
    go_wp2_with (first
      | (go_at_call 26; (with_reducible refine (KW.out _).mono ?_); rintro e w1 ⟨p, rfl, hp, hb1, hc⟩; rw [if_neg hle] at hc; have HP := Lib.hid hp; have KC1 := Lib.hid (KC.out p); rw [hc] at KC1; clear hp hc)
      | (go_at_call 15; (with_reducible refine (KC1.out _ ?_ (HP.out)).mono ?_); (focus ((repeat (first | (with_reducible exact Below.refl _ _) | (with_reducible assumption) | (with_reducible exact bel_box _) | (with_reducible refine bel_step ?_ (by with_reducible assumption)) | (with_reducible refine Below.drew ?_) | (with_reducible refine below_drewN ?_ _) | (with_reducible refine bel_alloc ?_ _))); done)); rintro e w2 ⟨rfl, hb2⟩)
      | (go_at_call 21; (with_reducible refine (KA.out _ ?_).mono ?_); (focus ((repeat (first | (with_reducible exact Below.refl _ _) | (with_reducible assumption) | (with_reducible exact bel_box _) | (with_reducible refine bel_step ?_ (by with_reducible assumption)) | (with_reducible refine Below.drew ?_) | (with_reducible refine below_drewN ?_ _) | (with_reducible refine bel_alloc ?_ _))); done)); rintro e w3 ⟨rfl, hb3⟩))
    go_ret
    exact ⟨by simp [hd, go_sem], (by repeat (first | (with_reducible exact Below.refl _ _) | (with_reducible assumption) | (with_reducible exact bel_box _) | (with_reducible refine bel_step ?_ (by with_reducible assumption)) | (with_reducible refine Below.drew ?_) | (with_reducible refine below_drewN ?_ _) | (with_reducible refine bel_alloc ?_ _)))⟩
end Go.Proofs.YthlapepjebidgaaGreatDoor
