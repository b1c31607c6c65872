/- word and number of the reference. -/
import Derived.Test.YtbnddbhfnpdjeaaDoorLk
namespace Go.Proofs.YtbnddbhfnpdjeaaDoor
set_option linter.unusedVariables false
set_option linter.unusedSimpArgs false
open Go.RowKit
theorem spd_at {p : Int → Bool} {s : ByteArray} {a j : Nat} (ha : a ≤ j) (hj : j - a < sp p (s.data.toList.drop a)) : ∃ h : j < s.size, p ((s[j].toNat : Nat) : Int) = true := by
  obtain ⟨b, h1, h2, _⟩ := tw_at _ _ _ hj
  rw [List.getElem?_drop, show a + (j - a) = j by omega] at h1
  have hlt : j < s.size := by rw [← len_toList]; exact (List.getElem?_eq_some_iff.1 h1).1
  rw [byte_get s j hlt] at h1
  obtain rfl : s[j] = b := by simpa using h1
  exact ⟨hlt, h2⟩
theorem spd_end {p : Int → Bool} {s : ByteArray} {a j : Nat} (ha : a ≤ j) (hj : j - a = sp p (s.data.toList.drop a)) (hlt : j < s.size) : p ((s[j].toNat : Nat) : Int) = false := by
  apply tw_end (fun c : UInt8 => p ((c.toNat : Nat) : Int)) (s.data.toList.drop a)
  show (s.data.toList.drop a)[sp p (s.data.toList.drop a)]? = _
  rw [← hj, List.getElem?_drop, show a + (j - a) = j by omega, byte_get s j hlt]
theorem spd_le (p : Int → Bool) (s : ByteArray) (a : Nat) (ha : a ≤ s.size) : a + sp p (s.data.toList.drop a) ≤ s.size := by
  have := sp_length p (s.data.toList.drop a)
  rw [List.length_drop, len_toList] at this
  omega
set_option maxHeartbeats 400000 in
theorem rword_any (s : ByteArray) (a : Nat) (w : World) (ha : a ≤ s.size) (h9 : s.size ≤ 65536) : Calls Tryd.prog 38 #[.string s, .int .i64 a] w (Bel (.int .i64 ((a + sp pI (s.data.toList.drop a) : Nat) : Int)) w) := by
  have HA := Lib.hid (fun j => @spd_at pI s a j)
  have HE := Lib.hid (fun j => @spd_end pI s a j)
  have hle := spd_le pI s a ha
  generalize sp pI (s.data.toList.drop a) = m at *
  go_enter Tryd.func38, Tryd.ntmps38
  go_wp2
  go_loopw [1] (fun i wr => ∃ j : Nat, a ≤ j ∧ j ≤ a + m ∧ i = .int .i64 j ∧ Below w.heap.size w wr) (fun i _ => a + m - (intOf i).toNat)
  case atStart => exact ⟨a, Nat.le_refl _, by omega, rfl, Below.refl _ _⟩
  case round =>
    obtain ⟨j, haj, hjm, rfl, hbl⟩ := hrel
    by_cases hlt : j < a + m
    · obtain ⟨hj, e1⟩ := HA.out j haj (by omega)
      go_wp2_with (go_at_call 25; refine (inner_any _ _).mono ?_; rintro e w1 ⟨rfl, hb1⟩; rw [e1])
      go_roundw
      case rel => exact ⟨j + 1, by omega, by omega, by go_num, (by repeat (first | (with_reducible exact Below.refl _ _) | (with_reducible assumption) | (with_reducible exact bel_box _) | (with_reducible refine bel_step ?_ (by with_reducible assumption)) | (with_reducible refine Below.drew ?_) | (with_reducible refine below_drewN ?_ _) | (with_reducible refine bel_alloc ?_ _)))⟩
      case measure => simp [intOf]; omega
    · obtain rfl : j = a + m := by omega
      by_cases hj : a + m < s.size
      · have e1 := HE.out (a + m) haj (by omega) hj
        go_wp2_with (go_at_call 25; refine (inner_any _ _).mono ?_; rintro e w1 ⟨rfl, hb1⟩; rw [e1])
        go_ret
        exact ⟨rfl, (by repeat (first | (with_reducible exact Below.refl _ _) | (with_reducible assumption) | (with_reducible exact bel_box _) | (with_reducible refine bel_step ?_ (by with_reducible assumption)) | (with_reducible refine Below.drew ?_) | (with_reducible refine below_drewN ?_ _) | (with_reducible refine bel_alloc ?_ _)))⟩
      · go_wp2
        go_ret
        exact ⟨rfl, hbl⟩
set_option maxHeartbeats 400000 in
theorem rnumber_any (s : ByteArray) (a : Nat) (w : World) (ha : a ≤ s.size) (h9 : s.size ≤ 65536) : Calls Tryd.prog 40 #[.string s, .int .i64 a] w (Bel (.int .i64 ((a + sp pG (s.data.toList.drop a) : Nat) : Int)) w) := by
  have HA := Lib.hid (fun j => @spd_at pG s a j)
  have HE := Lib.hid (fun j => @spd_end pG s a j)
  have hle := spd_le pG s a ha
  generalize sp pG (s.data.toList.drop a) = m at *
  go_enter Tryd.func40, Tryd.ntmps40
  go_wp2
  go_loopw [1] (fun i wr => ∃ j : Nat, a ≤ j ∧ j ≤ a + m ∧ i = .int .i64 j ∧ Below w.heap.size w wr) (fun i _ => a + m - (intOf i).toNat)
  case atStart => exact ⟨a, Nat.le_refl _, by omega, rfl, Below.refl _ _⟩
  case round =>
    obtain ⟨j, haj, hjm, rfl, hbl⟩ := hrel
    by_cases hlt : j < a + m
    · obtain ⟨hj, e1⟩ := HA.out j haj (by omega)
      go_wp2_with (go_at_call 39; refine (rdigit_any _ _).mono ?_; rintro e w1 ⟨rfl, hb1⟩; rw [e1])
      go_roundw
      case rel => exact ⟨j + 1, by omega, by omega, by go_num, (by repeat (first | (with_reducible exact Below.refl _ _) | (with_reducible assumption) | (with_reducible exact bel_box _) | (with_reducible refine bel_step ?_ (by with_reducible assumption)) | (with_reducible refine Below.drew ?_) | (with_reducible refine below_drewN ?_ _) | (with_reducible refine bel_alloc ?_ _)))⟩
      case measure => simp [intOf]; omega
    · obtain rfl : j = a + m := by omega
      by_cases hj : a + m < s.size
      · have e1 := HE.out (a + m) haj (by omega) hj
        go_wp2_with (go_at_call 39; refine (rdigit_any _ _).mono ?_; rintro e w1 ⟨rfl, hb1⟩; rw [e1])
        go_ret
        exact ⟨rfl, (by repeat (first | (with_reducible exact Below.refl _ _) | (with_reducible assumption) | (with_reducible exact bel_box _) | (with_reducible refine bel_step ?_ (by with_reducible assumption)) | (with_reducible refine Below.drew ?_) | (with_reducible refine below_drewN ?_ _) | (with_reducible refine bel_alloc ?_ _)))⟩
      · go_wp2
        go_ret
        exact ⟨rfl, hbl⟩
end Go.Proofs.YtbnddbhfnpdjeaaDoor
