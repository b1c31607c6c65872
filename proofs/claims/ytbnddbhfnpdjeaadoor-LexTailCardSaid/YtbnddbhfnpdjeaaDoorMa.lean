/- Blanks and remarks, byte by byte. -/
import Derived.Test.YtbnddbhfnpdjeaaDoorLt
namespace Go.Proofs.YtbnddbhfnpdjeaaDoor
set_option linter.unusedVariables false
set_option linter.unusedSimpArgs false
open Go.RowKit
theorem sp_nil (p : Int → Bool) : sp p [] = 0 := rfl
theorem sp_yes {p : Int → Bool} {c : UInt8} {r : List UInt8} (h : p ((c.toNat : Nat) : Int) = true) : sp p (c :: r) = sp p r + 1 := by
  rw [sp, List.takeWhile_cons, if_pos h]; rfl
theorem sp_no {p : Int → Bool} {c : UInt8} {r : List UInt8} (h : p ((c.toNat : Nat) : Int) = false) : sp p (c :: r) = 0 := by
  rw [sp, List.takeWhile_cons, if_neg (by rw [h]; simp)]; rfl
theorem gap_nil : gapN [] = 0 := by rw [gapN_no (by rfl)]; rfl
theorem gap_blank {c : UInt8} {r : List UInt8} (h : pB ((c.toNat : Nat) : Int) = true) : gapN (c :: r) = gapN r + 1 := by
  have e : sp pB (c :: r) = sp pB r + 1 := sp_yes h
  have e2 : (c :: r).drop (sp pB r + 1) = r.drop (sp pB r) := List.drop_succ_cons
  cases h2 : Lib.hasPrefix (r.drop (sp pB r)) [45, 45]
  · rw [gapN_no (l := c :: r) (by rw [e, e2]; exact h2), gapN_no h2, e]
  · rw [gapN_yes (l := c :: r) (by rw [e, e2]; exact h2), gapN_yes h2, e, e2, show sp pB r + 1 + sp pN (r.drop (sp pB r)) = (sp pB r + sp pN (r.drop (sp pB r))) + 1 by omega, List.drop_succ_cons]
    omega
theorem dash_sp {l : List UInt8} (h : Lib.hasPrefix l [45, 45] = true) : sp pB l = 0 := by
  obtain ⟨r, rfl⟩ := pre2 h
  exact sp_no rfl
theorem gap_dash {l : List UInt8} (h : Lib.hasPrefix l [45, 45] = true) : gapN l = sp pN l + gapN (l.drop (sp pN l)) := by
  have e := dash_sp h
  rw [gapN_yes (l := l) (by rw [e]; exact h), e, List.drop_zero, Nat.zero_add]
theorem gap_none {l : List UInt8} (h1 : ∀ c r, l = c :: r → pB ((c.toNat : Nat) : Int) = false) (h2 : Lib.hasPrefix l [45, 45] = false) : gapN l = 0 := by
  have e : sp pB l = 0 := by
    rcases l with _ | ⟨c, r⟩
    · rfl
    · exact sp_no (h1 c r rfl)
  rw [gapN_no (by rw [e]; exact h2), e]
theorem drop_cons_at {s : ByteArray} {k : Nat} (hk : k < s.size) : s.data.toList.drop k = s[k] :: s.data.toList.drop (k + 1) := by
  have h : k < s.data.toList.length := by rw [len_toList]; exact hk
  rw [List.drop_eq_getElem_cons h]
  rfl
theorem drop_end {s : ByteArray} {k : Nat} (hk : ¬ k < s.size) : s.data.toList.drop k = [] := by
  rw [List.drop_eq_nil_iff, len_toList]; omega
theorem gap_at_blank {s : ByteArray} {k : Nat} (hk : k < s.size) (h : pB ((s[k].toNat : Nat) : Int) = true) : k + gapN (s.data.toList.drop k) = (k + 1) + gapN (s.data.toList.drop (k + 1)) := by
  rw [drop_cons_at hk, gap_blank h]; omega
theorem byte_eq (c : UInt8) (n : Nat) (h : n < 256) : (((c.toNat : Nat) : Int) == (n : Int)) = (c == UInt8.ofNat n) := by
  rw [Bool.eq_iff_iff, beq_iff_eq, beq_iff_eq]
  constructor
  · intro e
    apply UInt8.toNat_inj.1
    rw [UInt8.toNat_ofNat']
    omega
  · rintro rfl
    rw [UInt8.toNat_ofNat']
    omega
theorem gap_at_dash {s : ByteArray} {k m : Nat} (hk : k + 1 < s.size) (h0 : (((s[k].toNat : Nat) : Int) == 45) = true) (h1 : (((s[k + 1].toNat : Nat) : Int) == 45) = true) (hm : sp pN (s.data.toList.drop k) = m) :
    k + gapN (s.data.toList.drop k) = (k + m) + gapN (s.data.toList.drop (k + m)) := by
  have e0 := byte_eq s[k] 45 (by decide)
  have e1 := byte_eq s[k + 1] 45 (by decide)
  have q0 : s[k] = 45 := by rw [← beq_iff_eq (a := s[k]), show (45 : UInt8) = UInt8.ofNat 45 from rfl, ← e0]; exact h0
  have q1 : s[k + 1] = 45 := by rw [← beq_iff_eq (a := s[k + 1]), show (45 : UInt8) = UInt8.ofNat 45 from rfl, ← e1]; exact h1
  have hp : Lib.hasPrefix (s.data.toList.drop k) [45, 45] = true := by
    rw [drop_cons_at (by omega), drop_cons_at hk, q0, q1]
    simp [Lib.hasPrefix]
  rw [gap_dash hp, hm, List.drop_drop]
  omega
theorem gap_at_none {s : ByteArray} {k : Nat} (hk : k < s.size) (hb : pB ((s[k].toNat : Nat) : Int) = false) (hd : ¬ ((((s[k].toNat : Nat) : Int) == 45) = true ∧ ∃ h : k + 1 < s.size, (((s[k + 1].toNat : Nat) : Int) == 45) = true)) :
    gapN (s.data.toList.drop k) = 0 := by
  apply gap_none
  · intro c r e
    rw [drop_cons_at hk] at e
    injection e with e1 e2
    rw [← e1]; exact hb
  · rw [← Bool.not_eq_true]
    intro hp
    obtain ⟨r, hr⟩ := pre2 hp
    rw [drop_cons_at hk] at hr
    injection hr with q0 q1
    by_cases h1 : k + 1 < s.size
    · rw [drop_cons_at h1] at q1
      injection q1 with q1 _
      exact hd ⟨by rw [q0]; rfl, h1, by rw [q1]; rfl⟩
    · rw [drop_end h1] at q1
      cases q1
end Go.Proofs.YtbnddbhfnpdjeaaDoor
