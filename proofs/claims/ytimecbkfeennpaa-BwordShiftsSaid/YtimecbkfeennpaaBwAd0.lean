/- Small words for the walks of BwordAnds and BwordOns. -/
import Derived.Test.YtimecbkfeennpaaBwRon
namespace Go.Proofs.Ytimecbkfeennpaa
set_option linter.unusedVariables false
set_option linter.unusedSimpArgs false
open Go.RowKit
theorem andR_len (h l h' l' : List Bool) : (andR h l h' l').1.length ≤ 64 ∧ (andR h l h' l').2.length ≤ 64 := by
  unfold andR
  split
  · unfold fit
    split
    · rename_i k; exact ⟨by omega, by omega⟩
    · exact ⟨Nat.zero_le _, Nat.zero_le _⟩
  · exact ⟨Nat.zero_le _, Nat.zero_le _⟩
theorem onR_len (h l h' l' : List Bool) : (onR h l h' l').1.length ≤ 64 ∧ (onR h l h' l').2.length ≤ 64 := by
  unfold onR
  split
  · unfold fit
    split
    · rename_i k; exact ⟨by omega, by omega⟩
    · exact ⟨Nat.zero_le _, Nat.zero_le _⟩
  · exact ⟨Nat.zero_le _, Nat.zero_le _⟩
theorem and6' {a b c d e f : Prop} (h : a ∧ b ∧ c ∧ d) (k : e ∧ f) : a ∧ b ∧ c ∧ d ∧ e ∧ f := ⟨h.1, h.2.1, h.2.2.1, h.2.2.2, k⟩
end Go.Proofs.Ytimecbkfeennpaa
