/- strings.Cut at one byte, isDigits, read of the program; digits and run of the reference. -/
import Derived.Test.YtlpigdekjkpnpaaDoorBwAwake
import Derived.Test.YtlpigdekjkpnpaaDoorShelf
import Derived.Lib.IndexLaws
import Derived.Deep.OwnRows
import Derived.IntWalk
namespace Go.Proofs.YtlpigdekjkpnpaaDoor
set_option linter.unusedVariables false
set_option linter.unusedSimpArgs false
open Go.RowKit
theorem len_toList (s : ByteArray) : s.data.toList.length = s.size := Array.length_toList
theorem byte_get (s : ByteArray) (k : Nat) (h : k < s.size) : s.data.toList[k]? = some s[k] := by
  rw [List.getElem?_eq_getElem (by rw [len_toList]; exact h)]
  rfl
/-- before the first c, behind it, and whether there is one -/
def cutA (l : List UInt8) (c : UInt8) : List UInt8 := if c ∈ l then l.takeWhile (· != c) else l
def cutZ (l : List UInt8) (c : UInt8) : List UInt8 := if c ∈ l then (l.dropWhile (· != c)).drop 1 else []
theorem idx_facts (l : List UInt8) (c : UInt8) : (c ∉ l ∧ Lib.indexByte l c = -1) ∨ (∃ k : Nat, c ∈ l ∧ Lib.indexByte l c = (k : Int) ∧ k < l.length ∧ l.takeWhile (· != c) = l.take k ∧ l.dropWhile (· != c) = l.drop k) := by
  induction l with
  | nil => exact .inl ⟨by simp, rfl⟩
  | cons b r ih =>
    by_cases hb : b = c
    · subst hb
      exact .inr ⟨0, by simp, by simp [Lib.indexByte], by simp, by simp, by simp⟩
    · have hb2 : (b == c) = false := by simpa using hb
      have hb3 : (b != c) = true := by simpa using hb
      rcases ih with ⟨h1, h2⟩ | ⟨k, h1, h2, h3, h4, h5⟩
      · left
        refine ⟨by simp [h1, Ne.symm hb], ?_⟩
        rw [Lib.indexByte, hb2, h2]
        rfl
      · right
        refine ⟨k + 1, by simp [h1], ?_, by simp; omega, ?_, ?_⟩
        · rw [Lib.indexByte, hb2, h2, if_neg (by simp), if_neg (by simp)]
          rfl
        · rw [List.takeWhile_cons, if_pos hb3, List.take_succ_cons, h4]
        · rw [List.dropWhile_cons, if_pos hb3, List.drop_succ_cons, h5]
theorem cut_any (s : ByteArray) (c : UInt8) (w : World) (hs : s.size ≤ 9223372036854775807) : Calls Tryd.prog 31 #[.string s, .string ⟨#[c]⟩] w
    (fun e w' => e = .returned (.tuple #[.string ⟨(cutA s.data.toList c).toArray⟩, .string ⟨(cutZ s.data.toList c).toArray⟩, .bool (decide (c ∈ s.data.toList))]) ∧ Below w.heap.size w w') := by
  have KI := Lib.hid (fun w => Tryd.stringslite_Index_one s c w)
  rcases idx_facts s.data.toList c with ⟨h1, h2⟩ | ⟨k, h1, h2, h3, h4, h5⟩
  · rw [h2] at KI
    have e1 : cutA s.data.toList c = s.data.toList := by rw [cutA, if_neg h1]
    have e2 : cutZ s.data.toList c = [] := by rw [cutZ, if_neg h1]
    rw [e1, e2, decide_eq_false h1]
    clear h1 h2 e1 e2
    go_enter Tryd.func31, Tryd.ntmps31
    go_wp2_with (go_at_call 35; refine (KI.out _).mono ?_; rintro e w1 ⟨rfl, rfl⟩)
    go_ret3
    exact ⟨rfl, Below.refl _ _⟩
  · rw [h2] at KI
    have e1 : cutA s.data.toList c = s.data.toList.take k := by rw [cutA, if_pos h1, h4]
    have e2 : cutZ s.data.toList c = s.data.toList.drop (k + 1) := by rw [cutZ, if_pos h1, h5, List.drop_drop]
    rw [e1, e2, decide_eq_true h1]
    have hk : k < s.size := by rw [← len_toList]; exact h3
    have f1 : (0 : Int) ≤ (k : Int) := by omega
    have f2 : (k : Int) ≤ (s.size : Int) := by omega
    have f3 : (k : Int) + 1 ≤ (s.size : Int) := by omega
    have f4 : IntKind.i64.wrap ((k : Int) + 1) = (k : Int) + 1 := Go.IntWalk.i64_in _ ⟨by omega, by omega⟩
    clear h1 h2 h3 h4 h5 e1 e2
    go_enter Tryd.func31, Tryd.ntmps31
    go_wp2_with (go_at_call 35; refine (KI.out _).mono ?_; rintro e w1 ⟨rfl, rfl⟩)
    go_quiet (fail)
    go_wp2
    go_ret3
    have x1 : s.extract 0 k = ⟨(s.data.toList.take k).toArray⟩ := by
      apply ByteArray.ext
      rw [ByteArray.data_extract]
      apply Array.toList_inj.mp
      simp
    have x2 : s.extract (k + 1) s.size = ⟨(s.data.toList.drop (k + 1)).toArray⟩ := by
      apply ByteArray.ext
      rw [ByteArray.data_extract]
      apply Array.toList_inj.mp
      simp
      exact List.take_of_length_le (by simp [len_toList])
    exact ⟨by rw [← x1, ← x2]; rfl, below_drewN (Below.refl _ _) _⟩
theorem cuts_any (s : ByteArray) (c : UInt8) (w : World) (hs : s.size ≤ 9223372036854775807) : Calls Tryd.prog 21 #[.string s, .string ⟨#[c]⟩] w
    (fun e w' => e = .returned (.tuple #[.string ⟨(cutA s.data.toList c).toArray⟩, .string ⟨(cutZ s.data.toList c).toArray⟩, .bool (decide (c ∈ s.data.toList))]) ∧ Below w.heap.size w w') := by
  have K := Lib.hid (cut_any s c w hs)
  generalize decide (c ∈ s.data.toList) = b at *
  generalize cutA s.data.toList c = x at *
  generalize cutZ s.data.toList c = y at *
  clear hs
  go_enter Tryd.func21, Tryd.ntmps21
  go_wp2_with (go_at_call 31; refine K.out.mono ?_; rintro e w1 ⟨rfl, hb1⟩)
  go_ret3
  exact ⟨rfl, (by repeat (first | (with_reducible exact Below.refl _ _) | (with_reducible assumption) | (with_reducible exact bel_box _) | (with_reducible refine bel_step ?_ (by with_reducible assumption)) | (with_reducible refine Below.drew ?_) | (with_reducible refine below_drewN ?_ _) | (with_reducible refine bel_alloc ?_ _)))⟩
def isD (c : UInt8) : Bool := c == 48 || c == 49
theorem drop_nil {α : Type} {p : α → Bool} {l : List α} (h : (l.dropWhile p).all p = true) : l.all p = true := by
  induction l with
  | nil => rfl
  | cons a r ih =>
    rw [List.dropWhile_cons] at h
    split at h
    · rename_i ha
      rw [List.all_cons, ha, ih h]
      rfl
    · exact h
theorem drop_all {α : Type} {p : α → Bool} {l : List α} (h : l.all p = true) : l.dropWhile p = [] := by
  induction l with
  | nil => rfl
  | cons a r ih =>
    rw [List.all_cons, Bool.and_eq_true] at h
    rw [List.dropWhile_cons, if_pos h.1, ih h.2]
theorem trim_nil (l : List UInt8) : Lib.trimS l [48, 49] = [] ↔ l.all isD = true := by
  have hp : (fun b => List.contains [48, 49] b) = isD := by funext c; rw [show List.contains [48, 49] c = (c == 48 || (c == 49 || false)) from rfl, Bool.or_false]; rfl
  unfold Lib.trimS Lib.trimLeftS Lib.trimRightS
  rw [hp]
  constructor
  · intro h
    have h1 : ((l.reverse.dropWhile isD).reverse.dropWhile isD).all isD = true := by rw [h]; rfl
    have h2 := drop_nil h1
    rw [List.all_reverse] at h2
    have h3 := drop_nil h2
    rwa [List.all_reverse] at h3
  · intro h
    have h1 : l.reverse.all isD = true := by rwa [List.all_reverse]
    rw [drop_all h1]
    rfl
theorem isdig_any (s : ByteArray) (w : World) (hs : s.size ≤ 9223372036854775807) : Calls Tryd.prog 22 #[.string s] w (Bel (.bool (s.data.toList.all isD)) w) := by
  have K := Lib.hid (Tryd.strings_Trim_laid s ⟨#[48, 49]⟩ w hs (by decide) (Go.Proofs.ascii_of_all (by decide)))
  by_cases h : s.data.toList.all isD = true
  · have ht := (trim_nil _).2 h
    rw [show (ByteArray.mk #[48, 49]).data.toList = [48, 49] from rfl, ht] at K
    rw [h]
    clear h ht hs
    go_enter Tryd.func22, Tryd.ntmps22
    go_wp2_with (go_at_call 32; refine K.out.mono ?_; rintro e w1 ⟨rfl, hb1⟩)
    go_ret
    exact ⟨rfl, (by repeat (first | (with_reducible exact Below.refl _ _) | (with_reducible assumption) | (with_reducible exact bel_box _) | (with_reducible refine bel_step ?_ (by with_reducible assumption)) | (with_reducible refine Below.drew ?_) | (with_reducible refine below_drewN ?_ _) | (with_reducible refine bel_alloc ?_ _)))⟩
  · have ht : Lib.trimS s.data.toList [48, 49] ≠ [] := fun e => h ((trim_nil _).1 e)
    rw [show (ByteArray.mk #[48, 49]).data.toList = [48, 49] from rfl] at K
    rw [Bool.not_eq_true] at h
    rw [h]
    generalize Lib.trimS s.data.toList [48, 49] = l at *
    have e1 : l.isEmpty = false := by rcases l with _ | ⟨a, r⟩ <;> simp at ht ⊢
    have e2 : (l == []) = false := by rcases l with _ | ⟨a, r⟩ <;> simp at ht ⊢
    clear h hs ht
    go_enter Tryd.func22, Tryd.ntmps22
    go_wp2_with (go_at_call 32; refine K.out.mono ?_; rintro e w1 ⟨rfl, hb1⟩)
    go_ret
    exact ⟨rfl, (by repeat (first | (with_reducible exact Below.refl _ _) | (with_reducible assumption) | (with_reducible exact bel_box _) | (with_reducible refine bel_step ?_ (by with_reducible assumption)) | (with_reducible refine Below.drew ?_) | (with_reducible refine below_drewN ?_ _) | (with_reducible refine bel_alloc ?_ _)))⟩
end Go.Proofs.YtlpigdekjkpnpaaDoor
