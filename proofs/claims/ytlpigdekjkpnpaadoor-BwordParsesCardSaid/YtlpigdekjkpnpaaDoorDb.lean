/- read of the program; digits and run of the reference. -/
import Derived.Test.YtlpigdekjkpnpaaDoorDa
namespace Go.Proofs.YtlpigdekjkpnpaaDoor
set_option linter.unusedVariables false
set_option linter.unusedSimpArgs false
open Go.RowKit
theorem lts_get {s : ByteArray} {k : Nat} (hk : k < s.size) : (lts s)[k]? = some (((s[k].toNat : Nat) : Int) == 49) := by
  rw [lts, List.getElem?_map, byte_get s k hk]
  rfl
theorem lts_all (s : ByteArray) : andK (fun i => gb (lts s) i) s.size s.size = lts s := by
  apply List.ext_getElem
  · simp [andK, lts_length]
  · intro i h1 h2
    have hi : i < s.size := by rw [← lts_length]; exact h2
    have := lts_get hi
    rw [List.getElem?_eq_getElem h2] at this
    simp [andK, gb, h2, hi]
set_option maxHeartbeats 400000 in
theorem read_any (s : ByteArray) (w : World) (hs : s.size ≤ 65536) : Calls Tryd.prog 23 #[.string s] w (NewOwn (lts s) w) := by
  obtain ⟨i0, hi, iz, is, ib⟩ := info_parts Tryd.boolInfo
  go_enter Tryd.func23, Tryd.ntmps23
  go_wp2_with (at_make; refine wpList_make_full _ rfl _ _ 22 rfl w.heap.size 4 i0 (.bool false) 1 Tryd.underlying22 hi iz is _ _ _ _ s.size rfl rfl rfl rfl (by rw [ib]; omega) (by unfold maxLen; omega) (Nat.le_refl _) ?_; intro w2 hown2 hgrow2)
  have hb2 : Below w.heap.size w w2 := (Below.refl _ _).grown hgrow2 (Nat.le_refl _) (fun k hk => by cases hk)
  rw [andK_zero (fun i => gb (lts s) i) s.size] at hown2
  have HO2 := Lib.hid hown2
  clear hown2 hgrow2
  go_loopw [4, 10] (fun u i wr => ∃ k : Nat, k ≤ s.size ∧ i = .int .i64 k ∧ wr.ownsRow w.heap.size 4 1 (.slice (some ⟨w.heap.size, 0, none⟩) s.size s.size) s.size (bls (andK (fun i => gb (lts s) i) s.size k)) ∧ Below w.heap.size w wr) (fun _ i _ => s.size - (intOf i).toNat)
  case atStart => exact ⟨0, by omega, rfl, HO2.out, hb2⟩
  case round =>
    obtain ⟨k, hk, rfl, hown, hbl⟩ := hrel
    by_cases hlt : k < s.size
    · have hset := andK_set (fun i => gb (lts s) i) s.size k hlt
      simp only [gb_of (lts_get hlt)] at hset
      have hc3 := (hown.cellAt k (by omega)).trans (andK_get _ s.size k k hlt)
      have hf3 := hown.frozenAt k
      have hst := (hown.stored k (.bool (((s[k].toNat : Nat) : Int) == 49))).1
      rw [hset] at hst
      have HST := Lib.hid hst
      have hb3 : Below w.heap.size w (wr.setCell ⟨w.heap.size, k, none⟩ (.bool (((s[k].toNat : Nat) : Int) == 49))) := hbl.setCell (p := ⟨w.heap.size, k, none⟩) (Nat.le_refl _) _
      clear hst hset hown
      go_wp2
      go_roundw
      case rel => exact ⟨k + 1, by omega, by go_num, HST.out, hb3⟩
      case measure => simp [intOf]; omega
    · obtain rfl : k = s.size := by omega
      rw [lts_all] at hown
      go_wp2
      go_ret
      exact ⟨_, _, by rw [lts_length]; rfl, by rw [lts_length]; exact hown, hbl⟩
theorem dgs_succ {l : List Bool} {k : Nat} {b : Bool} (h : l[k]? = some b) : dgs (l.take (k + 1)) = dgs (l.take k) ++ ⟨#[dig b]⟩ := by
  rw [take_succ_of h]
  apply ByteArray.ext
  rw [ByteArray.data_append]
  apply Array.toList_inj.mp
  simp [dgs, digs]
theorem dig_size (b : Bool) : (ByteArray.mk #[dig b]).size = 1 := rfl
set_option maxHeartbeats 400000 in
theorem rdigits_any (A : Option Addr) (c : Nat) (l : List Bool) (w : World) (hA : Rd w w.heap.size A (bls l)) (hl : l.length ≤ 65536) :
    Calls Tryd.prog 20 #[.slice A l.length c] w (Bel (.string (dgs l)) w) := by
  have HA := Lib.hid hA
  clear hA
  go_enter Tryd.func20, Tryd.ntmps20
  go_wp2
  go_loopw [3, 4] (fun s i wr => ∃ k : Nat, k ≤ l.length ∧ i = .int .i64 k ∧ s = .string (dgs (l.take k)) ∧ Below w.heap.size w wr) (fun _ i _ => l.length - (intOf i).toNat)
  case atStart => exact ⟨0, by omega, rfl, rfl, Below.refl _ _⟩
  case round =>
    obtain ⟨k, hk, rfl, rfl, hbl⟩ := hrel
    by_cases hlt : k < l.length
    · obtain ⟨ad, b, rfl, had, hx, hc0⟩ := HA.out.bool_at hlt
      have hc : wr.cell? (ad.add k) = some (.bool b) := (hbl.cell (p := ad.add k) (by rw [add_block]; exact had)).trans hc0
      have hsz : (dgs (l.take k)).size + (ByteArray.mk #[dig b]).size ≤ 9223372036854775807 := by
        rw [dgs_size, dig_size, List.length_take]; omega
      have HD := Lib.hid (dgs_succ hx)
      have KA := fun w => run_string_add_sum (P := Tryd.prog) w _ _ hsz
      generalize dgs (l.take k) = z at *
      clear hx hc0 hsz
      cases b
      all_goals
        simp only [dig, if_true, Bool.false_eq_true, if_false] at KA HD
        go_wp2
        go_roundw
        case rel => exact ⟨k + 1, by omega, by go_num, by rw [HD.out], (by repeat (first | (with_reducible exact Below.refl _ _) | (with_reducible assumption) | (with_reducible exact bel_box _) | (with_reducible refine bel_step ?_ (by with_reducible assumption)) | (with_reducible refine Below.drew ?_) | (with_reducible refine below_drewN ?_ _) | (with_reducible refine bel_alloc ?_ _)))⟩
        case measure => simp [intOf]; omega
    · obtain rfl : k = l.length := by omega
      go_wp2
      go_ret
      rw [List.take_length]
      exact ⟨rfl, hbl⟩
end Go.Proofs.YtlpigdekjkpnpaaDoor
