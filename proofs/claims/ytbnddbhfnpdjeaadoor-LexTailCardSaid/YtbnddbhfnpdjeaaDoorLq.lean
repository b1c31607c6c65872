/- Join of the reference. -/
import Derived.Test.YtbnddbhfnpdjeaaDoorLp
import Derived.Laws.IdiomStrings
import Derived.Laws.Concat
namespace Go.Proofs.YtbnddbhfnpdjeaaDoor
set_option linter.unusedVariables false
set_option linter.unusedSimpArgs false
open Go.RowKit
/-- a token as it is written -/
def jt (t : Tk) : ByteArray := if t.1 = 5 then ⟨#[39]⟩ ++ t.2.1 ++ ⟨#[39]⟩ else t.2.1
def jn (l : List Tk) : Nat → ByteArray
  | 0 => ⟨#[]⟩
  | k + 1 => (if 0 < k then jn l k ++ ⟨#[32]⟩ else jn l k) ++ (match l[k]? with | some t => jt t | none => ⟨#[]⟩)
theorem one_size (c : UInt8) : (ByteArray.mk #[c]).size = 1 := rfl
theorem jt_size (t : Tk) (h : t.2.1.size ≤ 65536) : (jt t).size ≤ 65538 := by
  unfold jt
  split
  · rw [ByteArray.size_append, ByteArray.size_append, one_size]; omega
  · omega
theorem jn_size (l : List Tk) (hl : ∀ t ∈ l, t.2.1.size ≤ 65536) (k : Nat) : (jn l k).size ≤ k * 65540 := by
  induction k with
  | zero => simp [jn, ByteArray.size]
  | succ k ih =>
    have h2 : (match l[k]? with | some t => jt t | none => ⟨#[]⟩ : ByteArray).size ≤ 65538 := by
      cases h : l[k]? with
      | none => simp [ByteArray.size]
      | some t => exact jt_size t (hl t (List.mem_of_getElem? h))
    rw [jn, ByteArray.size_append]
    split
    · rw [ByteArray.size_append, one_size]; omega
    · omega
set_option maxHeartbeats 1000000 in
theorem rjoin_any (A : Option Addr) (c : Nat) (l : List Tk) (w : World) (hA : RdT w w.heap.size A l) (hl : l.length ≤ 65536) (ht : ∀ t ∈ l, t.2.1.size ≤ 65536) :
    Calls Tryd.prog 14 #[.slice A l.length c] w (Bel (.string (jn l l.length)) w) := by
  have HA := Lib.hid hA
  have HS := Lib.hid (jn_size l ht)
  have HT := Lib.hid ht
  clear hA ht
  obtain ⟨z, hZ⟩ : ∃ z, jn l l.length = z := ⟨_, rfl⟩
  have HZ := Lib.hid hZ
  rw [hZ]
  clear hZ
  go_enter Tryd.func14, Tryd.ntmps14
  go_wp2
  go_loopw [3, 4] (fun s i wr => ∃ k : Nat, k ≤ l.length ∧ i = .int .i64 k ∧ s = .string (jn l k) ∧ Below w.heap.size w wr) (fun _ i _ => l.length - (intOf i).toNat)
  case atStart => exact ⟨0, by omega, rfl, rfl, Below.refl _ _⟩
  case round =>
    obtain ⟨k, hk, rfl, rfl, hbl⟩ := hrel
    by_cases hlt : k < l.length
    · obtain ⟨ad, t, rfl, had, htk, c1, c2, c3⟩ := (HA.out.to hbl).at_ hlt
      have hts := HT.out t (List.mem_of_getElem? htk)
      have hks := HS.out k
      have hj : jn l (k + 1) = (if 0 < k then jn l k ++ ⟨#[32]⟩ else jn l k) ++ jt t := by rw [jn, htk]
      obtain ⟨y, hy⟩ : ∃ y, jn l k = y := ⟨_, rfl⟩
      rw [hy] at hks hj ⊢
      have ka1 := fun w => run_string_add_sum (P := Tryd.prog) w y ⟨#[32]⟩ (by rw [one_size]; omega)
      have ka2 := fun w => run_string_add_sum (P := Tryd.prog) w ⟨#[39]⟩ t.2.1 (by rw [one_size]; omega)
      have ka3 := fun w => run_string_add_sum (P := Tryd.prog) w (⟨#[39]⟩ ++ t.2.1) ⟨#[39]⟩ (by simp only [ByteArray.size_append, one_size]; omega)
      have ka4 := fun w => run_string_add_sum (P := Tryd.prog) w y (⟨#[39]⟩ ++ t.2.1 ++ ⟨#[39]⟩) (by simp only [ByteArray.size_append, one_size]; omega)
      have ka5 := fun w => run_string_add_sum (P := Tryd.prog) w (y ++ ⟨#[32]⟩) (⟨#[39]⟩ ++ t.2.1 ++ ⟨#[39]⟩) (by simp only [ByteArray.size_append, one_size]; omega)
      have ka6 := fun w => run_string_add_sum (P := Tryd.prog) w y t.2.1 (by omega)
      have ka7 := fun w => run_string_add_sum (P := Tryd.prog) w (y ++ ⟨#[32]⟩) t.2.1 (by simp only [ByteArray.size_append, one_size]; omega)
      clear htk hts hks hy
      by_cases h0 : 0 < k
      · have g0 : (0 : Int) < (k : Int) := by omega
        by_cases h5 : t.1 = 5
        · have q : (t.1 == 5) = true := by simp [h5]
          have HJ : Hid (jn l (k + 1) = y ++ ⟨#[32]⟩ ++ (⟨#[39]⟩ ++ t.2.1 ++ ⟨#[39]⟩)) := Lib.hid (by rw [hj, if_pos h0, jt, if_pos h5])
          clear hj h5
          go_wp2
          go_roundw
          case rel => exact ⟨k + 1, by omega, by go_num, by rw [HJ.out], (by repeat (first | (with_reducible exact Below.refl _ _) | (with_reducible assumption) | (with_reducible exact bel_box _) | (with_reducible refine bel_step ?_ (by with_reducible assumption)) | (with_reducible refine Below.drew ?_) | (with_reducible refine below_drewN ?_ _) | (with_reducible refine bel_alloc ?_ _)))⟩
          case measure => simp [intOf]; omega
        · have q : (t.1 == 5) = false := by simp [h5]
          have HJ : Hid (jn l (k + 1) = y ++ ⟨#[32]⟩ ++ t.2.1) := Lib.hid (by rw [hj, if_pos h0, jt, if_neg h5])
          clear hj h5
          go_wp2
          go_roundw
          case rel => exact ⟨k + 1, by omega, by go_num, by rw [HJ.out], (by repeat (first | (with_reducible exact Below.refl _ _) | (with_reducible assumption) | (with_reducible exact bel_box _) | (with_reducible refine bel_step ?_ (by with_reducible assumption)) | (with_reducible refine Below.drew ?_) | (with_reducible refine below_drewN ?_ _) | (with_reducible refine bel_alloc ?_ _)))⟩
          case measure => simp [intOf]; omega
      · have g0 : (k : Int) ≤ 0 := by omega
        by_cases h5 : t.1 = 5
        · have q : (t.1 == 5) = true := by simp [h5]
          have HJ : Hid (jn l (k + 1) = y ++ (⟨#[39]⟩ ++ t.2.1 ++ ⟨#[39]⟩)) := Lib.hid (by rw [hj, if_neg h0, jt, if_pos h5])
          clear hj h5
          go_wp2
          go_roundw
          case rel => exact ⟨k + 1, by omega, by go_num, by rw [HJ.out], (by repeat (first | (with_reducible exact Below.refl _ _) | (with_reducible assumption) | (with_reducible exact bel_box _) | (with_reducible refine bel_step ?_ (by with_reducible assumption)) | (with_reducible refine Below.drew ?_) | (with_reducible refine below_drewN ?_ _) | (with_reducible refine bel_alloc ?_ _)))⟩
          case measure => simp [intOf]; omega
        · have q : (t.1 == 5) = false := by simp [h5]
          have HJ : Hid (jn l (k + 1) = y ++ t.2.1) := Lib.hid (by rw [hj, if_neg h0, jt, if_neg h5])
          clear hj h5
          go_wp2
          go_roundw
          case rel => exact ⟨k + 1, by omega, by go_num, by rw [HJ.out], (by repeat (first | (with_reducible exact Below.refl _ _) | (with_reducible assumption) | (with_reducible exact bel_box _) | (with_reducible refine bel_step ?_ (by with_reducible assumption)) | (with_reducible refine Below.drew ?_) | (with_reducible refine below_drewN ?_ _) | (with_reducible refine bel_alloc ?_ _)))⟩
          case measure => simp [intOf]; omega
    · obtain rfl : k = l.length := by omega
      have hz := HZ.out
      subst hz
      go_wp2
      go_ret
      exact ⟨rfl, hbl⟩
end Go.Proofs.YtbnddbhfnpdjeaaDoor
