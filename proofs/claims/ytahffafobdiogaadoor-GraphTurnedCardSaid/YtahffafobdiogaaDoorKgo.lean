/- through: what it calls. -/
import Derived.Test.YtahffafobdiogaaDoorKgn
import Derived.Test.YtahffafobdiogaaDoorKgc
import Derived.BigQuiet
namespace Go.Proofs.YtahffafobdiogaaDoor
set_option linter.unusedVariables false
set_option linter.unusedSimpArgs false
open Go.RowKit
namespace gr
/-- distances in cells: -1 where there is none -/
def dI (D : Nat → Option Nat) (w : Nat) : Int := match D w with | some d => (d : Int) | none => -1
theorem dI_some {D : Nat → Option Nat} {w d : Nat} : dI D w = (d : Int) ↔ D w = some d := by
  unfold dI
  cases D w with
  | some e => show (e : Int) = (d : Int) ↔ some e = some d; rw [Option.some.injEq]; omega
  | none => show (-1 : Int) = (d : Int) ↔ (none : Option Nat) = some d; exact ⟨fun h => by omega, fun h => by cases h⟩
theorem dI_none {D : Nat → Option Nat} {w : Nat} : dI D w < 0 ↔ D w = none := by
  unfold dI
  cases D w with
  | some e => simp <;> omega
  | none => simp
/-- the smallest distance so far -/
def rst (D : Nat → Option Nat) (r : Int) (u : Nat) : Int := if 0 ≤ dI D u ∧ (r < 0 ∨ dI D u < r) then dI D u else r
set_option maxHeartbeats 1000000 in
theorem thr1_any (n u db pd pr : Nat) (D : Nat → Option Nat) (r : Int) (hu : u < n) (W : World) (hB : Blk W db 3 (rowI n (dI D))) (hd : W.cell? ⟨pd, 0, none⟩ = some (sl db n)) (hr : W.cell? ⟨pr, 0, none⟩ = some (.int .i64 r)) (hf : W.frozen? ⟨pr, 0, none⟩ = false) :
    Calls Tryd.prog 52 #[.int .i64 u, .pointer (some ⟨pd, 0, none⟩), .pointer (some ⟨pr, 0, none⟩)] W fun e w' => e = .returned (.tuple #[]) ∧ w'.cell? ⟨pr, 0, none⟩ = some (.int .i64 (rst D r u)) ∧ w'.frozen? ⟨pr, 0, none⟩ = false ∧ Kp (fun k => k = pr) W w' := by
  have hc := hB.cell (rowI_get (dI D) hu)
  have d : (u : Int) < (n : Int) := by omega
  have R1 : ∀ x : Int, (W.setCell ⟨pr, 0, none⟩ (.int .i64 x)).cell? ⟨pr, 0, none⟩ = some (.int .i64 x) ∧ (W.setCell ⟨pr, 0, none⟩ (.int .i64 x)).frozen? ⟨pr, 0, none⟩ = false ∧ Kp (fun k => k = pr) W (W.setCell ⟨pr, 0, none⟩ (.int .i64 x)) := fun x => ⟨World.cell?_setCell_same W _ _ hr, by rw [World.frozen?_setCell]; exact hf, Kp.set (S := fun k => k = pr) W (a := ⟨pr, 0, none⟩) rfl _⟩
  have R1 := Lib.hid R1
  have R2 := Lib.hid hr
  have R3 := Lib.hid hf
  unfold rst
  clear hB
  generalize dI D u = x at *
  by_cases h0 : 0 ≤ x
  · by_cases h1 : r < 0
    · rw [if_pos ⟨h0, .inl h1⟩]
      go_enter Tryd.func52, Tryd.ntmps52
      go_wp2
      refine bodyPost_end (v := .tuple #[]) (results_none rfl _ _ _) rfl ?_
      exact ⟨rfl, R1.out x⟩
    · by_cases h2 : x < r
      · rw [if_pos ⟨h0, .inr h2⟩]
        go_enter Tryd.func52, Tryd.ntmps52
        go_wp2
        refine bodyPost_end (v := .tuple #[]) (results_none rfl _ _ _) rfl ?_
        exact ⟨rfl, R1.out x⟩
      · rw [if_neg (fun h => h.2.elim h1 h2)]
        go_enter Tryd.func52, Tryd.ntmps52
        go_wp2
        refine bodyPost_end (v := .tuple #[]) (results_none rfl _ _ _) rfl ?_
        exact ⟨rfl, R2.out, R3.out, Kp.refl _ _⟩
  · rw [if_neg (fun h => h0 h.1)]
    go_enter Tryd.func52, Tryd.ntmps52
    go_wp2
    refine bodyPost_end (v := .tuple #[]) (results_none rfl _ _ _) rfl ?_
    exact ⟨rfl, R2.out, R3.out, Kp.refl _ _⟩
/-- the first that is at a distance -/
def ner (D : Nat → Option Nat) (r : Nat) (x : Int) (u : Nat) : Int := if x < 0 ∧ dI D u = (r : Int) then (u : Int) else x
set_option maxHeartbeats 1000000 in
theorem thr2_any (n u db pd pn pr r : Nat) (D : Nat → Option Nat) (x : Int) (hu : u < n) (W : World) (hB : Blk W db 3 (rowI n (dI D))) (hd : W.cell? ⟨pd, 0, none⟩ = some (sl db n)) (hr : W.cell? ⟨pr, 0, none⟩ = some (.int .i64 (r : Int))) (hx : W.cell? ⟨pn, 0, none⟩ = some (.int .i64 x)) (hf : W.frozen? ⟨pn, 0, none⟩ = false) :
    Calls Tryd.prog 53 #[.int .i64 u, .pointer (some ⟨pn, 0, none⟩), .pointer (some ⟨pd, 0, none⟩), .pointer (some ⟨pr, 0, none⟩)] W fun e w' => e = .returned (.tuple #[]) ∧ w'.cell? ⟨pn, 0, none⟩ = some (.int .i64 (ner D r x u)) ∧ w'.frozen? ⟨pn, 0, none⟩ = false ∧ Kp (fun k => k = pn) W w' := by
  have hc := hB.cell (rowI_get (dI D) hu)
  have d : (u : Int) < (n : Int) := by omega
  have d0 : (0 : Int) ≤ (u : Int) := by omega
  have R1 : ∀ (q : Nat) (y : Int), ((W.drewN q).setCell ⟨pn, 0, none⟩ (.int .i64 y)).cell? ⟨pn, 0, none⟩ = some (.int .i64 y) ∧ ((W.drewN q).setCell ⟨pn, 0, none⟩ (.int .i64 y)).frozen? ⟨pn, 0, none⟩ = false ∧ Kp (fun k => k = pn) W ((W.drewN q).setCell ⟨pn, 0, none⟩ (.int .i64 y)) := fun q y => ⟨World.cell?_setCell_same (W.drewN q) _ _ hx, by rw [World.frozen?_setCell]; exact hf, (Kp.below (below_self _ _ q)).trans (Kp.set (S := fun k => k = pn) (W.drewN q) (a := ⟨pn, 0, none⟩) rfl _)⟩
  have R1 := Lib.hid R1
  have R2 : ∀ q : Nat, (W.drewN q).cell? ⟨pn, 0, none⟩ = some (.int .i64 x) ∧ (W.drewN q).frozen? ⟨pn, 0, none⟩ = false ∧ Kp (fun k => k = pn) W (W.drewN q) := fun q => ⟨hx, hf, Kp.below (below_self _ _ q)⟩
  have R2 := Lib.hid R2
  unfold ner
  clear hB
  generalize dI D u = y at *
  by_cases h0 : x < 0
  · by_cases h1 : y = (r : Int)
    · rw [if_pos ⟨h0, h1⟩]
      subst h1
      go_enter Tryd.func53, Tryd.ntmps53
      go_wp2_with fail
      go_quiet (fail)
      go_wp2
      refine bodyPost_end (v := .tuple #[]) (results_none rfl _ _ _) rfl ?_
      exact ⟨rfl, R1.out _ _⟩
    · rw [if_neg (fun h => h1 h.2)]
      have h1b : (y == (r : Int)) = false := by simpa using h1
      go_enter Tryd.func53, Tryd.ntmps53
      go_wp2_with fail
      go_quiet (fail)
      go_wp2
      refine bodyPost_end (v := .tuple #[]) (results_none rfl _ _ _) rfl ?_
      exact ⟨rfl, R2.out _⟩
  · rw [if_neg (fun h => h0 h.1)]
    have h0b : decide (x < 0) = false := by simpa using h0
    clear h0
    go_enter Tryd.func53, Tryd.ntmps53
    go_wp2_with fail
    go_quiet (fail)
    go_wp2
    refine bodyPost_end (v := .tuple #[]) (results_none rfl _ _ _) rfl ?_
    exact ⟨rfl, R2.out _⟩
end gr
end Go.Proofs.YtahffafobdiogaaDoor
