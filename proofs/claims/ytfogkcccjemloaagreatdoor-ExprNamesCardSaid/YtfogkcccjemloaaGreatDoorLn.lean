/- Keyword of the reference: the loop. -/
import Derived.Test.YtfogkcccjemloaaGreatDoorLm
namespace Go.Proofs.YtfogkcccjemloaaGreatDoor
set_option linter.unusedVariables false
set_option linter.unusedSimpArgs false
open Go.RowKit
theorem kw_hit {s x : ByteArray} {k : Nat} (hx : kwB[k]? = some x) (h : (x.toList == s.toList) = true) : isKw s = true := by
  rw [kw_is, List.any_eq_true]
  exact ⟨x, List.mem_of_getElem? hx, h⟩
set_option maxHeartbeats 400000 in
theorem rkeyword_any (s : ByteArray) (w : World) : Calls Tryz.prog 72 #[.string s] w (Bel (.bool (isKw s)) w) := by
  have K := Lib.hid (keywords_any w)
  obtain ⟨L, hL⟩ : ∃ L : List ByteArray, kwB = L := ⟨_, rfl⟩
  have hlen : L.length = 33 := by rw [← hL]; rfl
  have HIT : Hid (∀ (k : Nat) (x : ByteArray), L[k]? = some x → (x.toList == s.toList) = true → isKw s = true) := Lib.hid fun k x h1 h2 => kw_hit (hL ▸ h1) h2
  have END : Hid ((L.any fun b => b.toList == s.toList) = isKw s) := Lib.hid (by rw [← hL, kw_is])
  rw [hL] at K
  clear hL
  go_enter Tryz.func72, Tryz.ntmps72
  go_wp2_with (go_at_call 92; refine K.out.mono ?_; rintro e w1 ⟨rfl, hst, hb1⟩)
  have HST := Lib.hid hst
  have hA := hst.1
  simp only at hA
  clear hst
  go_loopw [4] (fun i wr => ∃ k : Nat, k ≤ 33 ∧ i = .int .i64 k ∧ Hid (((L.take k).any fun b => b.toList == s.toList) = false) ∧ Below w1.heap.size w1 wr) (fun i _ => 33 - (intOf i).toNat)
  case atStart => exact ⟨0, by omega, rfl, Lib.hid rfl, Below.refl _ _⟩
  case round =>
    obtain ⟨k, hk, rfl, hno, hbl⟩ := hrel
    by_cases hlt : k < 33
    · obtain ⟨x, hx⟩ : ∃ x, L[k]? = some x := ⟨L[k]'(by omega), List.getElem?_eq_getElem _⟩
      have hc : wr.cell? ⟨w.heap.size, k, none⟩ = some (.string x) := by
        have := HST.out.2 k x hx
        have e : (Addr.add ⟨w.heap.size, 0, none⟩ k) = ⟨w.heap.size, k, none⟩ := by
          unfold Addr.add
          by_cases h : k = 0
          · subst h; rfl
          · simp [h]
        rw [e] at this
        exact (hbl.cell (p := ⟨w.heap.size, k, none⟩) hA).trans this
      cases hq : (x.toList == s.toList)
      · have hno2 : Hid (((L.take (k + 1)).any fun b => b.toList == s.toList) = false) := Lib.hid (by rw [take_succ_of hx, List.any_append, hno.out]; simp [hq])
        clear hx hno
        go_wp2
        go_roundw
        case rel => exact ⟨k + 1, by omega, by go_num, hno2, hbl⟩
        case measure => simp [intOf]; omega
      · rw [HIT.out k x hx hq]
        clear hx hno
        go_wp2
        go_ret
        exact ⟨rfl, (by repeat (first | (with_reducible exact Below.refl _ _) | (with_reducible assumption) | (with_reducible exact bel_box _) | (with_reducible refine bel_step ?_ (by with_reducible assumption)) | (with_reducible refine Below.drew ?_) | (with_reducible refine below_drewN ?_ _) | (with_reducible refine bel_alloc ?_ _)))⟩
    · obtain rfl : k = 33 := by omega
      have h2 := hno.out
      rw [List.take_of_length_le (by omega), END.out] at h2
      have H2 := Lib.hid h2
      clear hno h2
      go_wp2
      go_ret
      exact ⟨by rw [H2.out]; rfl, (by repeat (first | (with_reducible exact Below.refl _ _) | (with_reducible assumption) | (with_reducible exact bel_box _) | (with_reducible refine bel_step ?_ (by with_reducible assumption)) | (with_reducible refine Below.drew ?_) | (with_reducible refine below_drewN ?_ _) | (with_reducible refine bel_alloc ?_ _)))⟩
end Go.Proofs.YtfogkcccjemloaaGreatDoor
