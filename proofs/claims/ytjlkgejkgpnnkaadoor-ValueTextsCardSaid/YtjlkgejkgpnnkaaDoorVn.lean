/- Plain mathematics of decimal texts: the text of a number is read as the number. -/
import Derived.Test.YtjlkgejkgpnnkaaDoorVx
namespace Go.Proofs.YtjlkgejkgpnnkaaDoor
set_option linter.unusedVariables false
set_option linter.unusedSimpArgs false
open Go.RowKit
def dv (acc : Nat) (l : List UInt8) : Nat := l.foldl (fun n c => 10 * n + (c.toNat - 48)) acc
def dgt (c : UInt8) : Prop := 48 ≤ c.toNat ∧ c.toNat ≤ 57
theorem dv_append (acc : Nat) (l r : List UInt8) : dv acc (l ++ r) = dv (dv acc l) r := by simp [dv]
theorem ofNat_dig (d : Nat) (h : d < 10) : (UInt8.ofNat (48 + d)).toNat = 48 + d := by
  rw [UInt8.toNat_ofNat']
  omega
theorem dec_facts (u : Nat) : dv 0 (Lib.decDigits u) = u ∧ (∀ c ∈ Lib.decDigits u, dgt c) ∧ Lib.decDigits u ≠ [] := by
  induction u using Nat.strongRecOn with
  | _ u ih =>
    by_cases h : u < 10
    · rw [Go.Lib.decDigits_one h]
      refine ⟨by have := ofNat_dig u h; simp only [dv, List.foldl_cons, List.foldl_nil]; omega, fun c hc => ?_, by simp⟩
      obtain rfl : c = UInt8.ofNat (48 + u) := by simpa using hc
      unfold dgt
      rw [ofNat_dig u h]
      omega
    · obtain ⟨h1, h2, h3⟩ := ih (u / 10) (by omega)
      have hd := ofNat_dig (u % 10) (by omega)
      rw [Lib.decDigits, dif_neg h]
      refine ⟨?_, fun c hc => ?_, by simp⟩
      · rw [dv_append, h1]
        simp [dv, hd]
        omega
      · rcases List.mem_append.1 hc with hc | hc
        · exact h2 c hc
        · obtain rfl : c = UInt8.ofNat (48 + u % 10) := by simpa using hc
          unfold dgt
          rw [hd]
          omega
theorem dv_ge (l : List UInt8) : ∀ acc, acc ≤ dv acc l := by
  induction l with
  | nil => exact fun acc => Nat.le_refl _
  | cons c r ih =>
    intro acc
    have := ih (10 * acc + (c.toNat - 48))
    simp only [dv, List.foldl_cons] at *
    omega
theorem parse_dv : ∀ (l : List UInt8) (acc : Nat), (∀ c ∈ l, dgt c) → dv acc l < 9223372036854775808 → Lib.parseUint10 acc l = .ok (dv acc l)
  | [], acc, _, _ => rfl
  | c :: r, acc, hd, hlt => by
    have hc := hd c (by simp)
    unfold dgt at hc
    have h1 : dv acc (c :: r) = dv (10 * acc + (c.toNat - 48)) r := rfl
    have h2 := dv_ge r (10 * acc + (c.toNat - 48))
    rw [h1] at hlt
    rw [Lib.parseUint10, if_pos hc, if_neg (by omega), if_neg (by omega), h1, show acc * 10 + (c.toNat - 48) = 10 * acc + (c.toNat - 48) by omega]
    exact parse_dv r _ (fun x hx => hd x (by simp [hx])) hlt
theorem atoi_itoa (m : Int) (h0 : -9223372036854775808 < m) (h1 : m < 9223372036854775808) : Lib.atoiAll (Lib.itoa m) = .ok m := by
  unfold Lib.itoa
  by_cases hn : m < 0
  · rw [if_pos hn]
    obtain ⟨f1, f2, f3⟩ := dec_facts m.natAbs
    have hp := parse_dv _ 0 f2 (by rw [f1]; omega)
    rw [f1] at hp
    show (match Lib.parseMag (if (45 : UInt8).toNat = 43 ∨ (45 : UInt8).toNat = 45 then Lib.decDigits m.natAbs else 45 :: Lib.decDigits m.natAbs) with | .syntax => _ | .range => _ | .ok u => _) = _
    rw [if_pos (by decide), Lib.parseMag, if_neg f3, hp]
    show (if ¬ ((45 : UInt8).toNat = 45) ∧ 9223372036854775808 ≤ m.natAbs then _ else _) = _
    rw [if_neg (by simp), if_neg (by omega), if_pos (by decide)]
    congr 1
    omega
  · rw [if_neg hn]
    obtain ⟨f1, f2, f3⟩ := dec_facts m.toNat
    have hp := parse_dv _ 0 f2 (by rw [f1]; omega)
    rw [f1] at hp
    generalize Lib.decDigits m.toNat = l at *
    rcases l with _ | ⟨c, r⟩
    · exact absurd rfl f3
    · have hc := f2 c (by simp)
      unfold dgt at hc
      show (match Lib.parseMag (if c.toNat = 43 ∨ c.toNat = 45 then r else c :: r) with | .syntax => _ | .range => _ | .ok u => _) = _
      rw [if_neg (by omega), Lib.parseMag, if_neg (by simp), hp]
      show (if ¬ (c.toNat = 45) ∧ 9223372036854775808 ≤ m.toNat then _ else _) = _
      rw [if_neg (by omega), if_neg (by omega), if_neg (by omega)]
      congr 1
      omega
theorem numB_itoa {m : Int} (h0 : -32768 ≤ m) (h1 : m ≤ 32767) : numB (Lib.itoa m) = true ∧ atoiV (Lib.itoa m) = m := by
  have h := atoi_itoa m (by omega) (by omega)
  have e1 : atoiV (Lib.itoa m) = m := by rw [atoiV, h]
  have e2 : atoiOk (Lib.itoa m) = true := by rw [atoiOk, h]
  refine ⟨?_, e1⟩
  rw [numB, e1, e2]
  simp
  omega
theorem numB_iff {l : List UInt8} : numB l = true ↔ ∃ m : Int, -32768 ≤ m ∧ m ≤ 32767 ∧ Lib.itoa m = l := by
  constructor
  · intro h
    rw [numB] at h
    simp only [Bool.and_eq_true, decide_eq_true_eq, beq_iff_eq] at h
    exact ⟨_, h.1.2.1, h.1.2.2, h.2⟩
  · rintro ⟨m, h0, h1, rfl⟩
    exact (numB_itoa h0 h1).1
theorem nDig5 (u : Nat) (h : u < 100000) : Lib.nDigits u ≤ 5 := by
  rcases Nat.lt_or_ge u 10 with h1 | h1
  · rw [Go.Lib.nDigits_small h1]; omega
  rw [Go.Lib.nDigits_big (by omega)]
  rcases Nat.lt_or_ge (u / 10) 10 with h2 | h2
  · rw [Go.Lib.nDigits_small h2]; omega
  rw [Go.Lib.nDigits_big (by omega)]
  rcases Nat.lt_or_ge (u / 10 / 10) 10 with h3 | h3
  · rw [Go.Lib.nDigits_small h3]; omega
  rw [Go.Lib.nDigits_big (by omega)]
  rcases Nat.lt_or_ge (u / 10 / 10 / 10) 10 with h4 | h4
  · rw [Go.Lib.nDigits_small h4]; omega
  rw [Go.Lib.nDigits_big (by omega), Go.Lib.nDigits_small (by omega)]
  omega
/-- the shape of the text of a value -/
theorem itoa_shape {m : Int} (h0 : -32768 ≤ m) (h1 : m ≤ 32767) : (m < 0 ∧ ∃ r, Lib.itoa m = 45 :: r ∧ r ≠ [] ∧ (∀ c ∈ r, dgt c) ∧ ((dv 0 r : Nat) : Int) = -m ∧ r.length ≤ 5) ∨
    (0 ≤ m ∧ Lib.itoa m ≠ [] ∧ (∀ c ∈ Lib.itoa m, dgt c) ∧ ((dv 0 (Lib.itoa m) : Nat) : Int) = m ∧ (Lib.itoa m).length ≤ 5) := by
  unfold Lib.itoa
  by_cases hn : m < 0
  · obtain ⟨f1, f2, f3⟩ := dec_facts m.natAbs
    rw [if_pos hn]
    exact .inl ⟨hn, _, rfl, f3, f2, by rw [f1]; omega, by rw [Go.Lib.decDigits_length]; exact nDig5 _ (by omega)⟩
  · obtain ⟨f1, f2, f3⟩ := dec_facts m.toNat
    rw [if_neg hn]
    exact .inr ⟨by omega, f3, f2, by rw [f1]; omega, by rw [Go.Lib.decDigits_length]; exact nDig5 _ (by omega)⟩
end Go.Proofs.YtjlkgejkgpnnkaaDoor
