/- awake and two of the laws of layer 5. -/
import Derived.Test.YtjlkgejkgpnnkaaDoorVx
import Derived.Deep.RegionHeld3
namespace Go.Proofs.YtjlkgejkgpnnkaaDoor
set_option linter.unusedVariables false
set_option linter.unusedSimpArgs false
open Go.RowKit
theorem rd_blk {w : World} {g : Nat} {t : TypeId} {cs : Array Value} (h : Bk w g t cs) : Rd w w.heap.size (some ⟨g, 0, none⟩) cs.toList := fun _ => by
  refine ⟨_, rfl, h.lt, fun j u hu => ?_⟩
  rw [add_off, h.cell j, ← hu]
  simp
theorem itoa_m5 : Lib.itoa (-5) = [45, 53] := by
  simp [Lib.itoa, Lib.decDigits]
theorem num_m5 : numV [45, 53] = -5 ∧ numE [45, 53] = 0 := by
  have h : numB [45, 53] = true := by
    have e : atoiV [45, 53] = -5 := by decide +kernel
    have o : atoiOk [45, 53] = true := by decide +kernel
    rw [numB, e, o, itoa_m5]
    decide
  rw [numV, numE, h]
  exact ⟨by decide +kernel, rfl⟩
theorem x_text (A A' : Option Addr) (w : World) (hs : Std w) (h : RdE w w.heap.size A [⟨sLight, A', 2, [sRed, sGreen]⟩]) :
    Calls Tryd.prog 21 #[.slice A 1 1, .int .i64 3, .int .i64 1] w (Bel (.tuple #[.string sGreen, .int .i64 0]) w) :=
  text_any A 1 [⟨sLight, A', 2, [sRed, sGreen]⟩] 3 1 w hs h (by simp) (by decide)
theorem x_parse (A A' : Option Addr) (w : World) (hs : Std w) (h : RdE w w.heap.size A [⟨sLight, A', 2, [sRed, sGreen]⟩]) :
    Calls Tryd.prog 23 #[.slice A 1 1, .int .i64 2, .string ⟨#[45, 53]⟩] w (Bel (.tuple #[.int .i64 (-5), .int .i64 0]) w) := by
  have k := parse_any A 1 [⟨sLight, A', 2, [sRed, sGreen]⟩] 2 ⟨#[45, 53]⟩ w hs h (by simp) (by decide) (fun _ => by decide) (by simp [tagsOf, enuB])
  rw [show parV [⟨sLight, A', 2, [sRed, sGreen]⟩] 2 ⟨#[45, 53]⟩ = numV [45, 53] from rfl, show parE [⟨sLight, A', 2, [sRed, sGreen]⟩] 2 ⟨#[45, 53]⟩ = numE [45, 53] from rfl, num_m5.1, num_m5.2] at k
  exact k
theorem x_size (A A' : Option Addr) (w : World) (h : RdE w w.heap.size A [⟨sLight, A', 2, [sRed, sGreen]⟩]) :
    Calls Tryd.prog 13 #[.slice A 1 1, .int .i64 3] w (Bel (.int .i64 2) w) :=
  size_any A 1 [⟨sLight, A', 2, [sRed, sGreen]⟩] 3 w h (by simp) (by decide)
theorem x_div (b : Nat) (t : TypeId) (w : World) (h : Bk w b t #[.int .i64 (-7), .int .i64 2]) :
    Calls Tryd.prog 27 #[.int .i64 9, .slice (some ⟨b, 0, none⟩) 2 2] w (Bel (.tuple #[.int .i64 (-3), .int .i64 0]) w) := by
  have k := apply_any (some ⟨b, 0, none⟩) 2 9 [-7, 2] w (rd_blk h) (by decide)
  rw [show apV 9 [-7, 2] = -3 by decide +kernel, show apE 9 [-7, 2] = 0 by decide +kernel] at k
  exact k
theorem x_add (b : Nat) (t : TypeId) (w : World) (h : Bk w b t #[.int .i64 32767, .int .i64 1]) :
    Calls Tryd.prog 27 #[.int .i64 6, .slice (some ⟨b, 0, none⟩) 2 2] w (Bel (.tuple #[.int .i64 (-32768), .int .i64 0]) w) := by
  have k := apply_any (some ⟨b, 0, none⟩) 2 6 [32767, 1] w (rd_blk h) (by decide)
  rw [show apV 6 [32767, 1] = -32768 by decide +kernel, show apE 6 [32767, 1] = 0 by decide +kernel] at k
  exact k
theorem x_result (b : Nat) (t : TypeId) (w : World) (h : Bk w b t #[.int .i64 7, .int .i64 7]) :
    Calls Tryd.prog 25 #[.int .i64 11, .slice (some ⟨b, 0, none⟩) 2 2] w (Bel (.tuple #[.int .i64 1, .int .i64 0]) w) := by
  have k := result_any (some ⟨b, 0, none⟩) 2 11 [7, 7] w (rd_blk h) (by decide)
  rw [show resT 11 [7, 7] = 1 by decide +kernel, show resE 11 [7, 7] = 0 by decide +kernel] at k
  exact k
theorem x_lift (b : Nat) (t : TypeId) (w : World) (h : Bk w b t #[.int .i64 1, .int .i64 2, .int .i64 2, .int .i64 0]) :
    Calls Tryd.prog 30 #[.int .i64 6, .slice (some ⟨b, 0, none⟩) 2 2] w (Bel (.agg #[.int .i64 2, .int .i64 0]) w) := by
  have k := lift_any (some ⟨b, 0, none⟩) 2 6 [(1, 2), (2, 0)] w (fun _ => ⟨_, rfl, h.lt, fun i c hc => by
    rw [add_off, add_off, h.cell, h.cell]
    match i, hc with
    | 0, hc => obtain rfl : (1, 2) = c := by simpa using hc
               exact ⟨rfl, rfl⟩
    | 1, hc => obtain rfl : (2, 0) = c := by simpa using hc
               exact ⟨rfl, rfl⟩⟩) (by decide)
  rw [show lifK 6 [(1, 2), (2, 0)] = 2 by decide +kernel, show lifV 6 [(1, 2), (2, 0)] = 0 by decide +kernel] at k
  exact k
set_option maxHeartbeats 2000000 in
theorem awake_any (w : World) (hs : Std w) : Calls Tryd.prog 12 #[] w (Bel (.bool true) w) := by
  have HS := Lib.hid hs
  clear hs
  go_enter Tryd.func12, Tryd.ntmps12
  go_wp2_with (first
    | (go_at_call 29; refine (light_any _).mono ?_; rintro e w1 ⟨A, A', rfl, hr, hb1⟩)
    | (go_at_call 21; refine (x_text _ _ _ (HS.out.to ?_) hr).mono ?_; (focus ((repeat (first | (with_reducible exact Below.refl _ _) | (with_reducible assumption) | (with_reducible exact bel_box _) | (with_reducible refine bel_step ?_ (by with_reducible assumption)) | (with_reducible refine Below.drew ?_) | (with_reducible refine below_drewN ?_ _) | (with_reducible refine bel_alloc ?_ _))); done)); rintro e w2 ⟨rfl, hb2⟩)
    | (go_at_call 23; refine (x_parse _ _ _ (HS.out.to ?_) hr).mono ?_; (focus ((repeat (first | (with_reducible exact Below.refl _ _) | (with_reducible assumption) | (with_reducible exact bel_box _) | (with_reducible refine bel_step ?_ (by with_reducible assumption)) | (with_reducible refine Below.drew ?_) | (with_reducible refine below_drewN ?_ _) | (with_reducible refine bel_alloc ?_ _))); done)); rintro e w2 ⟨rfl, hb2⟩)
    | (go_at_call_of 27 (Value.int IntKind.i64 9); refine (x_div _ _ _ (Bk.new _ _ _)).mono ?_; rintro e w2 ⟨rfl, hb2⟩)
    | (go_at_call_of 27 (Value.int IntKind.i64 6); refine (x_add _ _ _ (Bk.new _ _ _)).mono ?_; rintro e w2 ⟨rfl, hb2⟩)
    | (go_at_call 25; refine (x_result _ _ _ (Bk.new _ _ _)).mono ?_; rintro e w2 ⟨rfl, hb2⟩)
    | (go_at_call 30; refine (x_lift _ _ _ (Bk.new _ _ _)).mono ?_; rintro e w2 ⟨rfl, hb2⟩)
    | (go_at_call 13; refine (x_size _ _ _ hr).mono ?_; rintro e w2 ⟨rfl, hb2⟩))
  go_ret
  exact ⟨rfl, (by repeat (first | (with_reducible exact Below.refl _ _) | (with_reducible assumption) | (with_reducible exact bel_box _) | (with_reducible refine bel_step ?_ (by with_reducible assumption)) | (with_reducible refine Below.drew ?_) | (with_reducible refine below_drewN ?_ _) | (with_reducible refine bel_alloc ?_ _)))⟩
end Go.Proofs.YtjlkgejkgpnnkaaDoor
