/- 'same' of the laws of layer 1: it tells whether two lists of bools are equal, for every two slices. -/
import Derived.Test.YthnpgigcnmogiaaMem
import Derived.Test.YthnpgigcnmogiaaWord
namespace Go.Proofs.Ythnpgigcnmogiaa
set_option linter.unusedVariables false
set_option linter.unusedSimpArgs false
open Go.RowKit
def SamePost (P : Bool) (w : World) (e : Ending) (w' : World) : Prop := e = .returned (.bool P) ∧ ∃ k, w' = w.drewN k
theorem same_step {xs ys : List Bool} {k : Nat} {b b' : Bool} (h : (!b == b') = false) (hx : xs[k]? = some b) (hy : ys[k]? = some b') (ht : xs.take k = ys.take k) : xs.take (k + 1) = ys.take (k + 1) := by
  have e : b = b' := by simpa using h
  rw [take_succ_of hx, take_succ_of hy, ht, e]
theorem same_no {xs ys : List Bool} {k : Nat} {b b' : Bool} (h : (!b == b') = true) (hx : xs[k]? = some b) (hy : ys[k]? = some b') : false = decide (xs = ys) := by
  have e : b ≠ b' := by simpa using h
  symm
  rw [decide_eq_false_iff_not]
  rintro rfl
  rw [hx] at hy
  exact e (Option.some.inj hy)
theorem same_yes {xs ys : List Bool} {k : Nat} (h1 : k ≤ xs.length) (h : ¬ k < xs.length) (hl : xs.length = ys.length) (ht : xs.take k = ys.take k) : true = decide (xs = ys) := by
  have e : k = xs.length := by omega
  rw [e, List.take_length, hl, List.take_length] at ht
  simp [ht]
set_option maxHeartbeats 400000 in
theorem same_any (A B : Option Addr) (c d N : Nat) (xs ys : List Bool) (w : World) (hA : Rd w N A (bls xs)) (hB : Rd w N B (bls ys)) (h1 : xs.length ≤ 9223372036854775807) :
    Calls Try.prog 15 #[.slice A xs.length c, .slice B ys.length d] w (SamePost (decide (xs = ys)) w) := by
  by_cases hl : xs.length = ys.length
  · have HA := Lib.hid hA
    have HB := Lib.hid hB
    have HL := Lib.hid hl
    have hd : ((xs.length : Int) != (ys.length : Int)) = false := by simp [hl]
    clear hA hB hl
    go_enter Try.func15, Try.ntmps15
    go_wp2
    go_loopw [5] (fun i wr => ∃ k j : Nat, k ≤ xs.length ∧ i = .int .i64 k ∧ wr = w.drewN j ∧ xs.take k = ys.take k) (fun i _ => xs.length - (intOf i).toNat)
    case atStart => exact ⟨0, 0, Nat.zero_le _, rfl, rfl, rfl⟩
    case round =>
      obtain ⟨k, j, hk, rfl, rfl, ht⟩ := hrel
      have HT := Lib.hid ht
      clear ht
      by_cases hlt : k < xs.length
      · obtain ⟨ad, b, rfl, _, hx, hc⟩ := HA.out.bool_at hlt
        obtain ⟨ad', b', rfl, _, hy, hc'⟩ := HB.out.bool_at (k := k) (by rw [← HL.out]; exact hlt)
        have HX := Lib.hid hx
        have HY := Lib.hid hy
        clear hx hy
        have hlt2 : k < ys.length := by rw [← HL.out]; exact hlt
        go_wp2
        go_quiet (fail)
        go_wp2
        · go_ret
          exact ⟨ret_bool (same_no ‹_› HX.out HY.out), _, World.drewN_drewN _ _ _⟩
        · go_roundw
          case rel => exact ⟨k + 1, _, by omega, by go_num, rfl, same_step ‹_› HX.out HY.out HT.out⟩
          case measure => simp [intOf]; omega
      · go_wp2
        go_ret
        exact ⟨ret_bool (same_yes hk hlt HL.out HT.out), _, rfl⟩
  · have hd : ((xs.length : Int) != (ys.length : Int)) = true := by simp; omega
    have HN := Lib.hid hl
    clear hl
    go_enter Try.func15, Try.ntmps15
    go_wp2
    go_ret
    exact ⟨ret_bool (by symm; rw [decide_eq_false_iff_not]; rintro rfl; exact HN.out rfl), 0, rfl⟩
end Go.Proofs.Ythnpgigcnmogiaa
