/- span, by whatever test; the tests that among and either make. -/
import Derived.Test.YtfogkcccjemloaaGreatDoorLa

namespace Go.Proofs.YtfogkcccjemloaaGreatDoor
set_option linter.unusedVariables false
set_option linter.unusedSimpArgs false
open Go.RowKit
/-- how many bytes in front pass a test -/
def sp (p : Int → Bool) (l : List UInt8) : Nat := (l.takeWhile fun c => p ((c.toNat : Nat) : Int)).length
theorem len_toList (s : ByteArray) : s.data.toList.length = s.size := Array.length_toList
theorem byte_get (s : ByteArray) (k : Nat) (h : k < s.size) : s.data.toList[k]? = some s[k] := by
  rw [List.getElem?_eq_getElem (by rw [len_toList]; exact h)]
  rfl
theorem tw_at {α : Type} (p : α → Bool) (l : List α) (i : Nat) (h : i < (l.takeWhile p).length) : ∃ b, l[i]? = some b ∧ p b = true ∧ (l.takeWhile p)[i]? = some b := by
  induction l generalizing i with
  | nil => simp at h
  | cons a r ih =>
    rw [List.takeWhile_cons] at h ⊢
    by_cases ha : p a = true
    · rw [if_pos ha] at h ⊢
      rcases i with _ | i
      · exact ⟨a, rfl, ha, rfl⟩
      · exact ih i (by simpa using h)
    · rw [if_neg ha] at h
      simp at h
theorem tw_end {α : Type} (p : α → Bool) (l : List α) (b : α) (h : l[(l.takeWhile p).length]? = some b) : p b = false := by
  induction l with
  | nil => simp at h
  | cons a r ih =>
    rw [List.takeWhile_cons] at h
    by_cases ha : p a = true
    · rw [if_pos ha] at h
      exact ih (by simpa using h)
    · rw [if_neg ha] at h
      simp at h
      rw [← h]
      simpa using ha
theorem tw_le {α : Type} (p : α → Bool) (l : List α) : (l.takeWhile p).length ≤ l.length := (List.takeWhile_sublist p).length_le
theorem sp_le (p : Int → Bool) (s : ByteArray) : sp p s.data.toList ≤ s.size := by rw [← len_toList]; exact tw_le _ _
theorem sp_at {p : Int → Bool} {s : ByteArray} {k : Nat} (h : k < sp p s.data.toList) (hk : k < s.size) : p ((s[k].toNat : Nat) : Int) = true := by
  obtain ⟨b, h1, h2, _⟩ := tw_at _ _ _ h
  rw [byte_get s k hk] at h1
  obtain rfl : s[k] = b := by simpa using h1
  exact h2
theorem sp_end {p : Int → Bool} {s : ByteArray} (hk : sp p s.data.toList < s.size) : p ((s[sp p s.data.toList].toNat : Nat) : Int) = false :=
  tw_end (fun c : UInt8 => p ((c.toNat : Nat) : Int)) s.data.toList _ (byte_get s _ hk)
set_option maxHeartbeats 400000 in
theorem span_dg (p : Int → Bool) (s : ByteArray) (w : World) (hs : s.size ≤ 9223372036854775807)
    (hc : Hid (∀ W, Below w.heap.size w W → ∀ c : UInt8, Calls Tryz.prog 79 #[.int .u8 ((c.toNat : Nat) : Int)] W (Bel (.bool (p ((c.toNat : Nat) : Int))) W))) :
    Calls Tryz.prog 77 #[.string s, .func (.func 79) #[] #[]] w (Bel (.int .i64 (sp p s.data.toList)) w) := by
  have HA := Lib.hid (fun k => @sp_at p s k)
  have HE := Lib.hid (@sp_end p s)
  have hle := sp_le p s
  generalize sp p s.data.toList = m at *
  go_enter Tryz.func77, Tryz.ntmps77
  go_wp2
  go_loopw [5, 8] (fun u i wr => ∃ k : Nat, k ≤ m ∧ i = .int .i64 k ∧ Below w.heap.size w wr) (fun _ i _ => m - (intOf i).toNat)
  case atStart => exact ⟨0, by omega, rfl, Below.refl _ _⟩
  case round =>
    obtain ⟨k, hk, rfl, hbl⟩ := hrel
    by_cases hlt : k < m
    · have hks : k < s.size := by omega
      have e1 := HA.out k hlt hks
      go_wp2_with (go_at_call 79; refine (hc.out _ hbl _).mono ?_; rintro e w1 ⟨rfl, hb1⟩; rw [e1])
      go_roundw
      case rel => exact ⟨k + 1, by omega, by go_num, (by repeat (first | (with_reducible exact Below.refl _ _) | (with_reducible assumption) | (with_reducible exact bel_box _) | (with_reducible refine bel_step ?_ (by with_reducible assumption)) | (with_reducible refine Below.drew ?_) | (with_reducible refine below_drewN ?_ _) | (with_reducible refine bel_alloc ?_ _)))⟩
      case measure => simp [intOf]; omega
    · obtain rfl : k = m := by omega
      by_cases hks : k < s.size
      · have e1 := HE.out hks
        go_wp2_with (go_at_call 79; refine (hc.out _ hbl _).mono ?_; rintro e w1 ⟨rfl, hb1⟩; rw [e1])
        go_ret
        exact ⟨rfl, (by repeat (first | (with_reducible exact Below.refl _ _) | (with_reducible assumption) | (with_reducible exact bel_box _) | (with_reducible refine bel_step ?_ (by with_reducible assumption)) | (with_reducible refine Below.drew ?_) | (with_reducible refine below_drewN ?_ _) | (with_reducible refine bel_alloc ?_ _)))⟩
      · obtain rfl : k = s.size := by omega
        go_wp2
        go_ret
        exact ⟨rfl, hbl⟩
set_option maxHeartbeats 400000 in
theorem span_am (q : Addr) (p : Int → Bool) (s : ByteArray) (w : World) (hs : s.size ≤ 9223372036854775807)
    (hc : Hid (∀ W, Below w.heap.size w W → ∀ c : UInt8, Calls Tryz.prog 95 #[.int .u8 ((c.toNat : Nat) : Int), .pointer (some q)] W (Bel (.bool (p ((c.toNat : Nat) : Int))) W))) :
    Calls Tryz.prog 77 #[.string s, .func (.func 95) #[] #[.pointer (some q)]] w (Bel (.int .i64 (sp p s.data.toList)) w) := by
  have HA := Lib.hid (fun k => @sp_at p s k)
  have HE := Lib.hid (@sp_end p s)
  have hle := sp_le p s
  generalize sp p s.data.toList = m at *
  go_enter Tryz.func77, Tryz.ntmps77
  go_wp2
  go_loopw [5, 8] (fun u i wr => ∃ k : Nat, k ≤ m ∧ i = .int .i64 k ∧ Below w.heap.size w wr) (fun _ i _ => m - (intOf i).toNat)
  case atStart => exact ⟨0, by omega, rfl, Below.refl _ _⟩
  case round =>
    obtain ⟨k, hk, rfl, hbl⟩ := hrel
    by_cases hlt : k < m
    · have hks : k < s.size := by omega
      have e1 := HA.out k hlt hks
      go_wp2_with (go_at_call 95; refine (hc.out _ hbl _).mono ?_; rintro e w1 ⟨rfl, hb1⟩; rw [e1])
      go_roundw
      case rel => exact ⟨k + 1, by omega, by go_num, (by repeat (first | (with_reducible exact Below.refl _ _) | (with_reducible assumption) | (with_reducible exact bel_box _) | (with_reducible refine bel_step ?_ (by with_reducible assumption)) | (with_reducible refine Below.drew ?_) | (with_reducible refine below_drewN ?_ _) | (with_reducible refine bel_alloc ?_ _)))⟩
      case measure => simp [intOf]; omega
    · obtain rfl : k = m := by omega
      by_cases hks : k < s.size
      · have e1 := HE.out hks
        go_wp2_with (go_at_call 95; refine (hc.out _ hbl _).mono ?_; rintro e w1 ⟨rfl, hb1⟩; rw [e1])
        go_ret
        exact ⟨rfl, (by repeat (first | (with_reducible exact Below.refl _ _) | (with_reducible assumption) | (with_reducible exact bel_box _) | (with_reducible refine bel_step ?_ (by with_reducible assumption)) | (with_reducible refine Below.drew ?_) | (with_reducible refine below_drewN ?_ _) | (with_reducible refine bel_alloc ?_ _)))⟩
      · obtain rfl : k = s.size := by omega
        go_wp2
        go_ret
        exact ⟨rfl, hbl⟩
set_option maxHeartbeats 400000 in
theorem span_ei (q : Addr) (p : Int → Bool) (s : ByteArray) (w : World) (hs : s.size ≤ 9223372036854775807)
    (hc : Hid (∀ W, Below w.heap.size w W → ∀ c : UInt8, Calls Tryz.prog 94 #[.int .u8 ((c.toNat : Nat) : Int), .pointer (some q)] W (Bel (.bool (p ((c.toNat : Nat) : Int))) W))) :
    Calls Tryz.prog 77 #[.string s, .func (.func 94) #[] #[.pointer (some q)]] w (Bel (.int .i64 (sp p s.data.toList)) w) := by
  have HA := Lib.hid (fun k => @sp_at p s k)
  have HE := Lib.hid (@sp_end p s)
  have hle := sp_le p s
  generalize sp p s.data.toList = m at *
  go_enter Tryz.func77, Tryz.ntmps77
  go_wp2
  go_loopw [5, 8] (fun u i wr => ∃ k : Nat, k ≤ m ∧ i = .int .i64 k ∧ Below w.heap.size w wr) (fun _ i _ => m - (intOf i).toNat)
  case atStart => exact ⟨0, by omega, rfl, Below.refl _ _⟩
  case round =>
    obtain ⟨k, hk, rfl, hbl⟩ := hrel
    by_cases hlt : k < m
    · have hks : k < s.size := by omega
      have e1 := HA.out k hlt hks
      go_wp2_with (go_at_call 94; refine (hc.out _ hbl _).mono ?_; rintro e w1 ⟨rfl, hb1⟩; rw [e1])
      go_roundw
      case rel => exact ⟨k + 1, by omega, by go_num, (by repeat (first | (with_reducible exact Below.refl _ _) | (with_reducible assumption) | (with_reducible exact bel_box _) | (with_reducible refine bel_step ?_ (by with_reducible assumption)) | (with_reducible refine Below.drew ?_) | (with_reducible refine below_drewN ?_ _) | (with_reducible refine bel_alloc ?_ _)))⟩
      case measure => simp [intOf]; omega
    · obtain rfl : k = m := by omega
      by_cases hks : k < s.size
      · have e1 := HE.out hks
        go_wp2_with (go_at_call 94; refine (hc.out _ hbl _).mono ?_; rintro e w1 ⟨rfl, hb1⟩; rw [e1])
        go_ret
        exact ⟨rfl, (by repeat (first | (with_reducible exact Below.refl _ _) | (with_reducible assumption) | (with_reducible exact bel_box _) | (with_reducible refine bel_step ?_ (by with_reducible assumption)) | (with_reducible refine Below.drew ?_) | (with_reducible refine below_drewN ?_ _) | (with_reducible refine bel_alloc ?_ _)))⟩
      · obtain rfl : k = s.size := by omega
        go_wp2
        go_ret
        exact ⟨rfl, hbl⟩
end Go.Proofs.YtfogkcccjemloaaGreatDoor
