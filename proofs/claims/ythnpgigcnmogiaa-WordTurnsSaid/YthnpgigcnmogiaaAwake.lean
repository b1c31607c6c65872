/- The examples of chapter 1: 'awake' of the laws of layer 1 returns true in every world and leaves the old blocks alone. -/
import Derived.Test.YthnpgigcnmogiaaOf
namespace Go.Proofs.Ythnpgigcnmogiaa
set_option linter.unusedVariables false
set_option linter.unusedSimpArgs false
open Go.RowKit
set_option maxHeartbeats 1000000 in
set_option maxRecDepth 100000 in
theorem awake_any (w : World) :
    Calls Try.prog 18 #[] w fun e w' => e = .returned (.bool true) ∧ Below w.heap.size w w' := by
  have e1 : w16 40000 = -25536 := by decide
  have e2 : w16 32768 = -32768 := by decide
  have e3 : w16 90000 = 24464 := by decide
  have e4 : wdiv (-7) 2 = -3 := by decide
  have e5 : wmod (-7) 2 = -1 := by decide
  have e6 : wmod 7 0 = 7 := by decide
  have e7 : ofL (bitL 5) = 5 := by decide
  have hc : ∀ k : Nat, (w.alloc (.cells (bls (bitL 5)).toArray 34)).cell? ⟨w.heap.size, k, none⟩ = (bls (bitL 5))[k]? := fun k => by
    rw [cell_of_row _ _ _ _ _ _ (heap_alloc_new w _)]; simp
  have c0 := (hc 0).trans (show _ = some (Value.bool true) by rfl)
  have c1 := (hc 1).trans (show _ = some (Value.bool false) by rfl)
  have c2 := (hc 2).trans (show _ = some (Value.bool true) by rfl)
  clear hc
  have hr := Rd.made w 34 (bls (bitL 5))
  have hl : (bitL 5).length = 16 := bitL_length 5
  have hb : Below w.heap.size w (w.alloc (.cells (bls (bitL 5)).toArray 34)) := (Below.refl _ _).alloc (Nat.le_refl _) _
  have HR := Lib.hid hr
  have HL := Lib.hid hl
  have HB := Lib.hid hb
  clear hr hl hb
  go_enter Try.func18, Try.ntmps18
  go_wp2_with fail
  refine (bits_any _ _).mono ?_
  rintro e w' ⟨rfl, rfl⟩
  generalize w.alloc (.cells (bls (bitL 5)).toArray 34) = w1 at *
  go_wp2_with (first
    | (go_at_call 9; refine (in_any _ _).mono ?_; rintro e w' ⟨rfl, rfl⟩)
    | (go_at_call 11; refine (wrap_any _ _).mono ?_; rintro e w' ⟨rfl, rfl⟩)
    | (go_at_call 19; refine (add_any _ _ _).mono ?_; rintro e w' ⟨rfl, rfl⟩)
    | (go_at_call 23; refine (mul_any _ _ _).mono ?_; rintro e w' ⟨rfl, rfl⟩)
    | (go_at_call 25; refine (div_any _ _ _).mono ?_; rintro e w' ⟨rfl, rfl⟩)
    | (go_at_call 27; refine (mod_any _ _ _).mono ?_; rintro e w' ⟨rfl, rfl⟩)
    | (go_at_call 29; refine (of_n _ _ _ _ _ _ HL.out HR.out (by omega)).mono ?_; rintro e w' ⟨rfl, rfl⟩))
  go_ret
  exact ⟨rfl, HB.out⟩
end Go.Proofs.Ythnpgigcnmogiaa
