/- Of of package word and of the reference of layer 1, for every list of bits. -/
import Derived.Test.YthnpgigcnmogiaaRefBits
import Derived.Test.YthnpgigcnmogiaaSame
namespace Go.Proofs.Ythnpgigcnmogiaa
set_option linter.unusedVariables false
set_option linter.unusedSimpArgs false
open Go.RowKit
/-- the number of the first k bits -/
def ofN (l : List Bool) : Nat → Nat
  | 0 => 0
  | k + 1 => ofN l k + if l[k]? = some true then 2 ^ k else 0
theorem ofN_lt (l : List Bool) (k : Nat) : ofN l k < 2 ^ k := by
  induction k with
  | zero => simp [ofN]
  | succ k ih => simp only [ofN, Nat.pow_succ]; split <;> omega
theorem pow_le (k : Nat) (hk : k < 16) : 2 ^ k ≤ 32768 := by
  have h : 2 ^ k ≤ 2 ^ 15 := Nat.pow_le_pow_right (by decide) (by omega)
  simpa using h
theorem ofInt_i64 (a : Nat) (ha : a < 9223372036854775808) : (BitVec.ofInt 64 (a : Int)).toNat = a := by
  rw [BitVec.ofInt_natCast, BitVec.toNat_ofNat]
  exact Nat.mod_eq_of_lt (by omega)
theorem or_pow (a k : Nat) (hk : k < 16) (h : a < 2 ^ k) : bits .or .i64 (a : Int) (wrap64 (2 ^ k)) = ((a + 2 ^ k : Nat) : Int) := by
  have g := pow_le k hk
  have e : (2 : Int) ^ k = ((2 ^ k : Nat) : Int) := by simp
  rw [e, IntWalk.wrap64_in _ ⟨by omega, by omega⟩]
  show IntKind.i64.wrap ((BitVec.ofInt 64 (a : Int) ||| BitVec.ofInt 64 ((2 ^ k : Nat) : Int)).toNat : Int) = _
  have hor : a ||| 2 ^ k = a + 2 ^ k := by
    have := Nat.two_pow_add_eq_or_of_lt h 1
    rw [Nat.mul_one] at this
    rw [Nat.or_comm, ← this]
    omega
  rw [BitVec.toNat_or, ofInt_i64 a (by omega), ofInt_i64 _ (by omega), hor, IntKind.wrap_i64]
  omega
def ofL (l : List Bool) : Int := w16 (ofN l (min l.length 16) : Nat)
set_option maxHeartbeats 400000 in
theorem of_any (A : Option Addr) (c N : Nat) (l : List Bool) (w : World) (hA : Rd w N A (bls l)) (h1 : l.length ≤ 9223372036854775807) :
    Calls Try.prog 29 #[.slice A l.length c] w fun e w' => e = .returned (.int .i64 (ofL l)) ∧ w = w' := by
  have HA := Lib.hid hA
  clear hA
  go_enter Try.func29, Try.ntmps29
  go_wp2
  all_goals
    go_loop [3, 8] (fun v i => ∃ k : Nat, k ≤ 16 ∧ k ≤ l.length ∧ i = .int .i64 k ∧ v = .int .i64 (ofN l k : Nat)) (fun _ i => l.length - (intOf i).toNat)
    case atStart => exact ⟨0, by omega, by omega, rfl, rfl⟩
    case round =>
      obtain ⟨k, hk, hk', rfl, rfl⟩ := hrel
      by_cases hlt : k < 16 ∧ k < l.length
      · obtain ⟨hlt1, hlt2⟩ := hlt
        obtain ⟨ad, b, rfl, _, hx, hc⟩ := HA.out.bool_at (k := k) hlt2
        have HX := Lib.hid hx
        clear hx
        have g1 := ofN_lt l k
        have g2 := pow_le k (by omega)
        cases b
        · go_wp2
          go_round
          case rel => exact ⟨k + 1, by omega, by omega, by go_num, by rw [ofN, HX.out]; simp⟩
          case measure => simp [intOf]; omega
        · go_wp2
          go_round
          case rel => exact ⟨k + 1, by omega, by omega, by go_num, by rw [or_pow _ _ hlt1 g1, ofN, HX.out]; simp⟩
          case measure => simp [intOf]; omega
      · have hlt1 : ¬ (k < 16 ∧ k < l.length) := hlt
        go_wp2_with (go_at_call 11; refine (wrap_any _ _).mono ?_; rintro e w' ⟨rfl, rfl⟩)
        go_ret
        exact ⟨ret_int (by rw [ofL, show min l.length 16 = k by omega]), rfl⟩
set_option maxHeartbeats 400000 in
theorem refof_any (A : Option Addr) (c N : Nat) (l : List Bool) (w : World) (hA : Rd w N A (bls l)) (h1 : l.length ≤ 9223372036854775807) :
    Calls Try.prog 30 #[.slice A l.length c] w fun e w' => e = .returned (.int .i64 (ofL l)) ∧ w = w' := by
  have HA := Lib.hid hA
  clear hA
  go_enter Try.func30, Try.ntmps30
  go_wp2
  go_loop [3, 4, 5] (fun v p i => ∃ k q : Nat, k ≤ 16 ∧ k ≤ l.length ∧ i = .int .i64 k ∧ v = .int .i64 (ofN l k : Nat) ∧ p = .int .i64 q ∧ Hid (q = 2 ^ k) ∧ q ≤ 65536) (fun _ _ i => l.length - (intOf i).toNat)
  case atStart => exact ⟨0, 1, by omega, by omega, rfl, rfl, rfl, rfl, by omega⟩
  case round =>
    obtain ⟨k, q, hk, hk', rfl, rfl, rfl, HQ, hq⟩ := hrel
    have g0 := ofN_lt l k
    rw [← HQ.out] at g0
    by_cases hlt2 : k < l.length
    · by_cases hlt1 : k < 16
      · obtain ⟨ad, b, rfl, _, hx, hc⟩ := HA.out.bool_at (k := k) hlt2
        have HX := Lib.hid hx
        clear hx
        have g2 : q ≤ 32768 := by rw [HQ.out]; exact pow_le k hlt1
        cases b
        · go_wp2
          go_round
          case rel => exact ⟨k + 1, 2 * q, by omega, by omega, by go_num, by rw [ofN, HX.out]; simp, by go_num, by show 2 * q = 2 ^ (k + 1); rw [HQ.out, Nat.pow_succ, Nat.mul_comm], by omega⟩
          case measure => simp [intOf]; omega
        · go_wp2
          go_round
          case rel => exact ⟨k + 1, 2 * q, by omega, by omega, by go_num, by rw [ofN, HX.out, HQ.out]; simp, by go_num, by show 2 * q = 2 ^ (k + 1); rw [HQ.out, Nat.pow_succ, Nat.mul_comm], by omega⟩
          case measure => simp [intOf]; omega
      · go_wp2_with (go_at_call 12; refine (refwrap_any _ _).mono ?_; rintro e w' ⟨rfl, rfl⟩)
        go_ret
        exact ⟨ret_int (by rw [ofL, show min l.length 16 = k by omega]), rfl⟩
    · go_wp2_with (go_at_call 12; refine (refwrap_any _ _).mono ?_; rintro e w' ⟨rfl, rfl⟩)
      go_ret
      exact ⟨ret_int (by rw [ofL, show min l.length 16 = k by omega]), rfl⟩
theorem of_n (A : Option Addr) (n c N : Nat) (l : List Bool) (w : World) (hn : l.length = n) (hA : Rd w N A (bls l)) (h1 : n ≤ 9223372036854775807) :
    Calls Try.prog 29 #[.slice A n c] w fun e w' => e = .returned (.int .i64 (ofL l)) ∧ w = w' := by
  subst hn
  exact of_any A c N l w hA h1
theorem refof_n (A : Option Addr) (n c N : Nat) (l : List Bool) (w : World) (hn : l.length = n) (hA : Rd w N A (bls l)) (h1 : n ≤ 9223372036854775807) :
    Calls Try.prog 30 #[.slice A n c] w fun e w' => e = .returned (.int .i64 (ofL l)) ∧ w = w' := by
  subst hn
  exact refof_any A c N l w hA h1
theorem same_n (A B : Option Addr) (n m c d N : Nat) (xs ys : List Bool) (w : World) (hn : xs.length = n) (hm : ys.length = m) (hA : Rd w N A (bls xs)) (hB : Rd w N B (bls ys)) (h1 : n ≤ 9223372036854775807) :
    Calls Try.prog 15 #[.slice A n c, .slice B m d] w (SamePost (decide (xs = ys)) w) := by
  subst hn
  subst hm
  exact same_any A B c d N xs ys w hA hB h1
theorem Rd.made (w : World) (t : TypeId) (xs : List Value) : Rd (w.alloc (.cells xs.toArray t)) (w.heap.size + 1) (some ⟨w.heap.size, 0, none⟩) xs := fun _ => ⟨_, rfl, by simp, fun j u hu => by
  rw [show ((⟨w.heap.size, 0, none⟩ : Addr).add j) = ⟨w.heap.size, j, none⟩ from by simp only [Addr.add]; split <;> simp_all]
  rw [cell_of_row _ _ _ _ _ _ (heap_alloc_new w _)]
  simpa using hu⟩
theorem bits_new (n : Int) (w : World) : Calls Try.prog 16 #[.int .i64 n] w (NewBools (bitL n) w) := by
  refine (bits_any n w).mono ?_
  rintro e w' ⟨rfl, rfl⟩
  refine ⟨some ⟨w.heap.size, 0, none⟩, 16, by rw [bitL_length], ?_, (Below.refl _ _).alloc (Nat.le_refl _) _⟩
  have h := Rd.made w 34 (bls (bitL n))
  exact h.more (by simp)
end Go.Proofs.Ythnpgigcnmogiaa
