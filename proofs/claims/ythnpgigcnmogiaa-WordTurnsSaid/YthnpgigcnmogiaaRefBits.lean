/- Bits of the reference of layer 1, for every number. -/
import Derived.Test.YthnpgigcnmogiaaBits
namespace Go.Proofs.Ythnpgigcnmogiaa
set_option linter.unusedVariables false
set_option linter.unusedSimpArgs false
open Go.RowKit
theorem Try.boolInfo : (Try.prog.info? 4).map (fun i => (i.zero, i.size, i.bytes)) = some (some (.bool false), 1, 1) := by kernel_rfl
/-- what Bits of the reference has gathered before round k, from m on -/
def halves (m : Int) : Nat → Int
  | 0 => m
  | k + 1 => halves m k / 2
theorem halves_eq (m : Int) (k : Nat) : halves m k = m / 2 ^ k := by
  induction k with
  | zero => simp [halves]
  | succ k ih => rw [halves, ih, Int.pow_succ, Int.ediv_ediv_of_nonneg (by exact Int.le_of_lt (Int.pow_pos (by decide)))]
theorem halves_bd {m : Int} (h0 : 0 ≤ m) (h1 : m ≤ 65535) (k : Nat) : 0 ≤ halves m k ∧ halves m k ≤ 65535 := by
  induction k with
  | zero => exact ⟨h0, h1⟩
  | succ k ih => simp only [halves]; omega
def gath (m : Int) (k : Nat) : List Bool := (List.range k).map fun i => halves m i % 2 == 1
theorem gath_succ (m : Int) (k : Nat) : gath m (k + 1) = gath m k ++ [halves m k % 2 == 1] := by simp [gath, List.range_succ]
theorem gath_length (m : Int) (k : Nat) : (gath m k).length = k := by simp [gath]
theorem pow_dvd (k : Nat) (hk : k < 16) : ∃ d : Int, (65536 : Int) = 2 ^ k * (2 * d) := by
  obtain ⟨j, rfl⟩ : ∃ j, k = 15 - j := ⟨15 - k, by omega⟩
  refine ⟨2 ^ (15 - (15 - j)), ?_⟩
  have e : (65536 : Int) = 2 ^ 16 := by decide
  rw [e, ← Int.mul_assoc, Int.mul_comm (2 ^ (15 - j)) 2, Int.mul_assoc, ← Int.pow_add, Int.mul_comm, ← Int.pow_succ]
  congr 1
  omega
theorem bit_shift (m q : Int) (k : Nat) (hk : k < 16) : bitB (m + 65536 * q) k = bitB m k := by
  obtain ⟨d, hd⟩ := pow_dvd k hk
  unfold bitB
  have e : m + 65536 * q = m + 2 ^ k * (2 * d * q) := by rw [hd, Int.mul_assoc]
  rw [e, Int.add_mul_ediv_left _ _ (by exact Int.ne_of_gt (Int.pow_pos (by decide))), Int.mul_assoc, Int.add_mul_emod_self_left]
theorem gath_all (n m : Int) (h1 : w16 n < 0 → m = w16 n + 65536) (h2 : 0 ≤ w16 n → m = w16 n) : gath m 16 = bitL n := by
  have hm : ∃ q, n = m + 65536 * q := by
    have e : w16 n = n - 65536 * ((n + 32768) / 65536) := by unfold w16; omega
    rcases Int.lt_or_le (w16 n) 0 with h | h
    · exact ⟨(n + 32768) / 65536 - 1, by rw [h1 h]; omega⟩
    · exact ⟨(n + 32768) / 65536, by rw [h2 h]; omega⟩
  obtain ⟨q, rfl⟩ := hm
  unfold gath bitL
  apply List.map_congr_left
  intro k hk
  rw [bit_shift _ _ _ (by simpa using hk), halves_eq]
  rfl
/-- a new slice with these bools; the old blocks are left alone -/
def NewBools (l : List Bool) (w : World) (e : Ending) (w' : World) : Prop := ∃ A c, e = .returned (.slice A l.length c) ∧ Rd w' w'.heap.size A (bls l) ∧ Below w.heap.size w w'
set_option maxHeartbeats 800000 in
theorem refbits_any (n : Int) (w : World) :
    Calls Try.prog 17 #[.int .i64 n] w (NewBools (bitL n) w) := by
  obtain ⟨i0, hi, hz0, hz1, hz2⟩ := info_parts Try.boolInfo
  have b1 := w16_lo n
  have b2 := w16_hi n
  obtain ⟨m, hm0, hm1, hm2, hm3⟩ : ∃ m, 0 ≤ m ∧ m ≤ 65535 ∧ Hid ((w16 n < 0 → m = w16 n + 65536)) ∧ Hid (0 ≤ w16 n → m = w16 n) := by
    by_cases h : w16 n < 0
    · exact ⟨w16 n + 65536, by omega, by omega, fun _ => rfl, fun h' => absurd h' (by omega)⟩
    · exact ⟨w16 n, by omega, by omega, fun h' => absurd h' (by omega), fun _ => rfl⟩
  obtain ⟨bb, hbb⟩ : ∃ bb, decide (w16 n < 0) = bb := ⟨_, rfl⟩
  cases bb
  all_goals
    (go_enter Try.func17, Try.ntmps17; go_wp2_with (go_at_call 12; refine (refwrap_any _ _).mono ?_; rintro e w' ⟨rfl, rfl⟩))
  all_goals
    go_loopw [3, 4, 5] (fun r v i wr => ∃ k : Nat, k ≤ 16 ∧ i = .int .i64 k ∧ r = .int .i64 (halves m k) ∧ wr.ownsRow w.heap.size 4 1 v k (bls (gath m k)) ∧ Below w.heap.size w wr) (fun _ _ i _ => 16 - (intOf i).toNat)
    case atStart => exact ⟨0, Nat.zero_le _, rfl, by simp only [halves]; first | rw [hm2.out (by simpa using hbb)] | rw [hm3.out (by simpa using hbb)], World.ownsRow_nil _ _ _ _, Below.refl _ _⟩
    case round =>
      obtain ⟨k, hk, rfl, rfl, hown, hbl⟩ := hrel
      by_cases hlt : k < 16
      · obtain ⟨g0, g1⟩ := halves_bd hm0 hm1 k
        obtain ⟨q, hq⟩ : ∃ q, q = halves m k := ⟨_, rfl⟩
        rw [← hq] at g0 g1 ⊢
        have HQ := Lib.hid hq
        clear hq
        have hsz := hbl.size
        go_wp2_with (at_builtin; refine wpList_append_own _ rfl _ _ 25 rfl w.heap.size 4 i0 (.bool false) 1 1 Try.underlying25 hi hz0 hz1 hz2 rfl (by decide) _ _ _ rfl (hown.alloc _) ⟨wr.heap.size, 0, none⟩ 1 1 [.bool (q % 2 == 1)] rfl rfl (cell_one_new _ _ _) (one_cell_bool _) (by unfold maxLen; omega) (by omega) (by simp; omega) ?_; intro v1 w1 hown1 hgrow1 _)
        have hb1 := own_below hbl hsz hown hgrow1
        go_roundw
        case rel => exact ⟨k + 1, by omega, by go_num, by rw [HQ.out]; rfl, by rw [gath_succ, ← HQ.out]; simpa [bls] using hown1, hb1⟩
        case measure => simp [intOf]; omega
      · go_wp2
        go_ret
        obtain rfl : k = 16 := by omega
        obtain ⟨A, c, rfl⟩ := own_form hown
        rw [gath_all n m hm2.out hm3.out] at hown
        refine ⟨A, c, ?_, Rd.of_own hown, hbl⟩
        rw [bitL_length]
        rfl
end Go.Proofs.Ythnpgigcnmogiaa
