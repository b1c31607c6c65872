/- The visits: eachNew, whatever is called. -/
import Derived.Test.YtahffafobdiogaaDoorKgd
import Derived.Shelf.GgClosure.Gives
namespace Go.Proofs.YtahffafobdiogaaDoor
set_option linter.unusedVariables false
set_option linter.unusedSimpArgs false
open Go.RowKit
namespace gr
theorem and_pred_u64 {y : Nat} (h0 : y ≠ 0) (hy : y < 18446744073709551616) : bits .and .u64 (y : Int) ((y : Int) - 1) = ((y &&& (y - 1) : Nat) : Int) := by
  have e : (y : Int) - 1 = ((y - 1 : Nat) : Int) := by omega
  rw [e, bits_and_u64_nat y (y - 1) hy (by omega)]
set_option maxRecDepth 100000 in
set_option maxHeartbeats 2000000 in
theorem eachNew_any (lb n v sb : Nat) (g : Nat) (cb : Array Value) (eg : ∀ args w, (callFunc g args).run Tryd.prog w = .ok (.enter g args) w) (ws : Nat → Nat) (hws : ∀ i, ws i < 18446744073709551616) (hn : n ≤ 4096) (hv : v < n)
    (I : Nat → World → Prop) (K : Nat → List Nat → World → Prop)
    (hI : ∀ i W, i < sizeW n → I i W → W.cell? ⟨lb + 1 + v, i, none⟩ = some (.int .u64 ((ws i : Nat) : Int)) ∧ ∃ x : Nat, x < 18446744073709551616 ∧ W.cell? ⟨sb, i, none⟩ = some (.int .u64 (x : Int)) ∧ K i (bitsL (ws i &&& (18446744073709551615 - x % 18446744073709551616))) W)
    (hT : ∀ i l W, K i l W → Tz W)
    (hS : ∀ i b l W, i < sizeW n → b < 64 → K i (b :: l) W → Calls Tryd.prog g (#[.int .i64 ((i * 64 + b : Nat) : Int)] ++ cb) W fun e W' => e = .returned (.tuple #[]) ∧ K i l W')
    (hE : ∀ i W, K i [] W → I (i + 1) W)
    (w : World) (hh : w.cell? ⟨lb, v, none⟩ = some (sl (lb + 1 + v) (sizeW n))) (h0 : I 0 w) :
    Calls Tryd.prog 50 #[sl lb n, .int .i64 v, sl sb (sizeW n), .func (.func g) #[] cb] w fun e w' => e = .returned (.tuple #[]) ∧ I (sizeW n) w' := by
  have hm : sizeW n ≤ 64 := by unfold sizeW; omega
  generalize sizeW n = m at *
  have dv : (v : Int) < (n : Int) := by omega
  have HI := Lib.hid hI
  have HT := Lib.hid hT
  have HS := Lib.hid hS
  have HE := Lib.hid hE
  have HW := Lib.hid hws
  clear hI hT hS hE hws
  go_enter Tryd.func50, Tryd.ntmps50
  go_wp2
  go_loopw [15] (fun i wr => ∃ k : Nat, k ≤ m ∧ i = .int .i64 (k : Int) ∧ I k wr) (fun i _ => m - (intOf i).toNat)
  case atStart => exact ⟨0, by omega, rfl, h0⟩
  case round =>
    obtain ⟨k, hk, rfl, hik⟩ := hrel
    by_cases hlt : k < m
    · have dk : (k : Int) < (m : Int) := by omega
      obtain ⟨hc1, x, hx, hc2, hK⟩ := HI.out k wr hlt hik
      have d6 := andn_u64 (ws k) x (HW.out k) hx
      have hy : ws k &&& (18446744073709551615 - x % 18446744073709551616) < 18446744073709551616 := Nat.lt_of_le_of_lt Nat.and_le_left (HW.out k)
      generalize ws k &&& (18446744073709551615 - x % 18446744073709551616) = y at *
      generalize ws k = a at *
      clear hik hh h0
      obtain ⟨U, rfl⟩ : ∃ U, U = wr := ⟨_, rfl⟩
      go_wp2_with fail
      clear hc1 hc2 d6
      go_loopw [9] (fun d wr => ∃ z : Nat, z < 18446744073709551616 ∧ d = .int .u64 (z : Int) ∧ K k (bitsL z) wr) (fun d _ => (intOf d).toNat)
      case atStart => exact ⟨y, hy, rfl, hK⟩
      case round =>
        obtain ⟨z, hz, rfl, hKz⟩ := hrel
        by_cases h0 : z = 0
        · subst h0
          rw [bitsL_zero] at hKz
          have hIn := HE.out k wr hKz
          go_wp2
          exact ⟨⟨k + 1, by omega, by congr 1, hIn⟩, by simp [intOf]; omega⟩
        · obtain ⟨hb, hlz⟩ := bits_step h0 hz
          rw [hb] at hKz
          have hcl := Lib.hid (HS.out k _ _ wr hlt (low_bits h0 hz).1 hKz)
          have htz := Lib.hid (tz_any z hz wr (HT.out k _ wr hKz))
          have hc64 : Lib.ctz 64 z < 64 := (low_bits h0 hz).1
          have dz : ¬ (z : Int) = 0 := by omega
          have d7 := and_pred_u64 h0 hz
          have hz2 : z &&& (z - 1) < 18446744073709551616 := by omega
          generalize z &&& (z - 1) = z2 at *
          obtain ⟨l2, hl2⟩ : ∃ l2, bitsL z2 = l2 := ⟨_, rfl⟩
          rw [hl2] at hcl
          have HL2 := Lib.hid hl2
          clear hl2
          generalize Lib.ctz 64 z = b at *
          obtain ⟨pl, hpl⟩ : ∃ pl, k * 64 + b = pl := ⟨_, rfl⟩
          rw [hpl] at hcl
          have e1 : ((k : Int) * 64 + (b : Int)) = (pl : Int) := by omega
          clear hpl
          clear hKz hb
          go_wp2_with (first | (go_at_call 51; refine htz.out.mono ?_; rintro e w1 ⟨rfl, rfl⟩) | (go_at_fn g; refine hcl.out.mono ?_; rintro e w2 ⟨rfl, hK2⟩))
          exact ⟨⟨z2, hz2, by first | rfl | (rw [d7]), by rw [HL2.out]; exact hK2⟩, by simp [intOf]; omega⟩
    · obtain rfl : k = m := by omega
      go_wp2
      refine bodyPost_end (v := .tuple #[]) (results_none rfl _ _ _) rfl ?_
      exact ⟨rfl, hik⟩
end gr
end Go.Proofs.YtahffafobdiogaaDoor
