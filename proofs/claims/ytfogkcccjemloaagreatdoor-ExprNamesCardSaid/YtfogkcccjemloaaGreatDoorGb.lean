/- The example of the law. -/
import Derived.Test.YtfogkcccjemloaaGreatDoorGa
namespace Go.Proofs.YtfogkcccjemloaaGreatDoor
set_option linter.unusedVariables false
set_option linter.unusedSimpArgs false
open Go.RowKit
theorem RdX.leaf {w : World} {B : Nat} (k op t v : Int) (nm : ByteArray) (h : nm.size ≤ maxLen) : RdX w B (.mk k op t v nm none 0 []) :=
  .mk _ (fun h => absurd rfl h) (fun _ _ _ h => by cases h) (fun _ h => by cases h) ⟨⟨Nat.zero_le _, h⟩, Nat.le_refl _⟩
def vC : Xt := .mk 2 0 0 0 ⟨#[99]⟩ none 0 []
def vX : Xt := .mk 2 0 0 0 ⟨#[120]⟩ none 0 []
def k0 : Xt := .mk 1 0 2 0 ⟨#[]⟩ none 0 []
def fbyX (b : Nat) : Xt := .mk 7 0 0 0 ⟨#[]⟩ (some ⟨b, 0, none⟩) 2 [k0, vX]
/-- if c then x else 0 fby x -/
def exX (b : Nat) : Xt := .mk 4 0 0 0 ⟨#[]⟩ (some ⟨b + 1, 0, none⟩) 3 [vC, vX, fbyX b]
theorem nm1 (n : UInt8) : (ByteArray.mk #[n]).size ≤ maxLen := by show 1 ≤ maxLen; unfold maxLen; omega
theorem nm0 : (ByteArray.mk #[]).size ≤ maxLen := Nat.zero_le _
theorem fby_read {w : World} {B b : Nat} (h0 : XC w ⟨b, 0, none⟩ k0) (h1 : XC w ⟨b, 6, none⟩ vX) (hB : b < B) : RdX w B (fbyX b) := by
  refine .mk _ (fun _ => ⟨_, rfl, hB⟩) (fun ad i y hA hy => ?_) (fun y hy => ?_) ⟨⟨by show 2 ≤ maxLen; unfold maxLen; omega, nm0⟩, Nat.le_refl _⟩
  · obtain rfl := Option.some.inj hA
    rcases i with _ | _ | i
    · obtain rfl : k0 = y := Option.some.inj hy
      exact h0
    · obtain rfl : vX = y := Option.some.inj hy
      exact h1
    · cases hy
  · rcases List.mem_cons.1 (show y ∈ [k0, vX] from hy) with rfl | hy
    · exact RdX.leaf _ _ _ _ _ nm0
    · obtain rfl := List.mem_singleton.1 hy
      exact RdX.leaf _ _ _ _ _ (nm1 _)
theorem ex_read {w : World} {B b : Nat} (h0 : XC w ⟨b, 0, none⟩ k0) (h1 : XC w ⟨b, 6, none⟩ vX) (g0 : XC w ⟨b + 1, 0, none⟩ vC) (g1 : XC w ⟨b + 1, 6, none⟩ vX) (g2 : XC w ⟨b + 1, 12, none⟩ (fbyX b)) (hB : b + 1 < B) : RdX w B (exX b) := by
  refine .mk _ (fun _ => ⟨_, rfl, hB⟩) (fun ad i y hA hy => ?_) (fun y hy => ?_) ⟨⟨by show 3 ≤ maxLen; unfold maxLen; omega, nm0⟩, Nat.le_refl _⟩
  · obtain rfl := Option.some.inj hA
    rcases i with _ | _ | _ | i
    · obtain rfl : vC = y := Option.some.inj hy
      exact g0
    · obtain rfl : vX = y := Option.some.inj hy
      exact g1
    · obtain rfl : fbyX b = y := Option.some.inj hy
      exact g2
    · cases hy
  · rcases List.mem_cons.1 (show y ∈ [vC, vX, fbyX b] from hy) with rfl | hy
    · exact RdX.leaf _ _ _ _ _ (nm1 _)
    · rcases List.mem_cons.1 hy with rfl | hy
      · exact RdX.leaf _ _ _ _ _ (nm1 _)
      · obtain rfl := List.mem_singleton.1 hy
        exact fby_read h0 h1 (by omega)
set_option maxHeartbeats 1000000 in
set_option maxRecDepth 20000 in
theorem example_any (w : World) : Calls Tryz.prog 38 #[] w (fun e w' => e = .returned (xV (exX (w.heap.size + 3))) ∧ RdX w' w'.heap.size (exX (w.heap.size + 3)) ∧ Below w.heap.size w w' ∧ w'.heap.size = w.heap.size + 5) := by
  go_enter Tryz.func38, Tryz.ntmps38
  go_wp2
  refine bodyPost_ret (v := xV (exX (w.heap.size + 3))) (by simp [results, Tryz.f38, go_sem, xV, exX, Xt.k, Xt.op, Xt.t, Xt.v, Xt.nm, Xt.A, Xt.c, Xt.ar]) rfl ⟨rfl, ex_read ?_ ?_ ?_ ?_ ?_ (by simp only [World.size_alloc]; omega), (by repeat (first | (with_reducible exact Below.refl _ _) | (with_reducible assumption) | (with_reducible exact bel_box _) | (with_reducible refine bel_step ?_ (by with_reducible assumption)) | (with_reducible refine Below.drew ?_) | (with_reducible refine below_drewN ?_ _) | (with_reducible refine bel_alloc ?_ _))), by simp only [World.size_alloc]⟩
  all_goals (unfold XC; simp [go_sem, k0, vX, vC, fbyX, Xt.k, Xt.op, Xt.t, Xt.v, Xt.nm, Xt.A, Xt.c, Xt.ar])
end Go.Proofs.YtfogkcccjemloaaGreatDoor
