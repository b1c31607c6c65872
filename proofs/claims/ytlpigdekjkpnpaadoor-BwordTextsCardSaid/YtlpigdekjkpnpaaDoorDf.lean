/- Parse of both, for every text. -/
import Derived.Test.YtlpigdekjkpnpaaDoorDe
namespace Go.Proofs.YtlpigdekjkpnpaaDoor
set_option linter.unusedVariables false
set_option linter.unusedSimpArgs false
open Go.RowKit
def wtx (h l : List Bool) : ByteArray := dgs h ++ ⟨#[40]⟩ ++ dgs l ++ ⟨#[41]⟩
theorem wtx_list (h l : List Bool) : (wtx h l).data.toList = digs h ++ 40 :: (digs l ++ [41]) := by simp [wtx, dgs]
theorem wtx_size (h l : List Bool) : (wtx h l).size = h.length + l.length + 2 := by
  rw [← len_toList, wtx_list]
  simp [digs_length]
  omega
theorem by_list {s t : ByteArray} (h : s.data.toList = t.data.toList) : s = t := ByteArray.ext (Array.toList_inj.mp h)
theorem digs_all (l : List Bool) : (digs l).all isD = true := by
  rw [List.all_eq_true]
  intro c hc
  obtain ⟨b, _, rfl⟩ := List.mem_map.1 hc
  cases b <;> rfl
theorem dig_back {c : UInt8} (h : isD c = true) : dig (((c.toNat : Nat) : Int) == 49) = c := by
  unfold isD at h
  rw [Bool.or_eq_true, beq_iff_eq, beq_iff_eq] at h
  rcases h with rfl | rfl <;> rfl
theorem lts_digs (l : List Bool) : lts (sa (digs l)) = l := by
  rw [lts, sa_list, digs, List.map_map]
  conv => rhs; rw [← List.map_id l]
  apply List.map_congr_left
  intro b _
  cases b <;> rfl
theorem digs_lts {x : List UInt8} (h : x.all isD = true) : digs (lts (sa x)) = x := by
  rw [lts, sa_list, digs, List.map_map]
  conv => rhs; rw [← List.map_id x]
  apply List.map_congr_left
  intro c hc
  exact dig_back (List.all_eq_true.1 h c hc)
theorem digs_runL (x : List UInt8) : digs (runL x) = x.takeWhile isD := by
  rw [runL, digs, List.map_map]
  conv => rhs; rw [← List.map_id (x.takeWhile isD)]
  apply List.map_congr_left
  intro c hc
  exact dig_back (List.all_eq_true.1 (List.all_takeWhile (l := x) (p := isD)) c hc)
theorem tw_app {p : UInt8 → Bool} (a b : List UInt8) (c : UInt8) (ha : a.all p = true) (hc : p c = false) : (a ++ c :: b).takeWhile p = a ∧ (a ++ c :: b).dropWhile p = c :: b := by
  induction a with
  | nil => simp [hc]
  | cons d r ih =>
    rw [List.all_cons, Bool.and_eq_true] at ha
    obtain ⟨i1, i2⟩ := ih ha.2
    simp [ha.1, i1, i2]
theorem runL_digs (l : List Bool) (c : UInt8) (b : List UInt8) (hc : isD c = false) : runL (digs l ++ c :: b) = l := by
  rw [runL, (tw_app (digs l) b c (digs_all l) hc).1, digs, List.map_map]
  conv => rhs; rw [← List.map_id l]
  apply List.map_congr_left
  intro b _
  cases b <;> rfl
theorem all_ne {x : List UInt8} (h : x.all isD = true) {c : UInt8} (hc : isD c = false) : x.all (· != c) = true := by
  rw [List.all_eq_true] at h ⊢
  intro d hd
  have := h d hd
  rw [bne_iff_ne]
  rintro rfl
  rw [this] at hc
  cases hc
theorem cut_app (x b : List UInt8) (c : UInt8) (hx : x.all (· != c) = true) : cutA (x ++ c :: b) c = x ∧ cutZ (x ++ c :: b) c = b := by
  obtain ⟨i1, i2⟩ := tw_app (p := (· != c)) x b c hx (by simp)
  have hm : c ∈ x ++ c :: b := by simp
  rw [cutA, cutZ, if_pos hm, if_pos hm, i1, i2]
  exact ⟨rfl, rfl⟩
theorem cut_glue (x : List UInt8) (c : UInt8) (h : c ∈ x) : x = cutA x c ++ c :: cutZ x c := by
  rw [cutA, cutZ, if_pos h, if_pos h]
  conv => lhs; rw [← List.takeWhile_append_dropWhile (p := (· != c)) (l := x)]
  congr 1
  have hne : x.dropWhile (· != c) ≠ [] := by
    intro e
    have h2 : x.takeWhile (· != c) = x := by
      have := List.takeWhile_append_dropWhile (p := (· != c)) (l := x)
      rwa [e, List.append_nil] at this
    have h3 := List.all_takeWhile (l := x) (p := (· != c))
    rw [h2, List.all_eq_true] at h3
    simpa using h3 c h
  rcases hd : x.dropWhile (· != c) with _ | ⟨a, r⟩
  · exact absurd hd hne
  · have ha := List.head?_dropWhile_not (p := (· != c)) (l := x)
    rw [hd] at ha
    simp at ha
    rw [ha]
    rfl
theorem cutA_le (x : List UInt8) (c : UInt8) : (cutA x c).length ≤ x.length := by
  unfold cutA
  split
  · exact tw_le _ _
  · exact Nat.le_refl _
theorem cutZ_le (x : List UInt8) (c : UInt8) : (cutZ x c).length ≤ x.length := by
  unfold cutZ
  split
  · have := (List.dropWhile_sublist (l := x) (p := (· != c))).length_le
    rw [List.length_drop]
    omega
  · simp
theorem cutk (s : ByteArray) (c : UInt8) (hs : s.size ≤ 66) : CutK s c (cutA s.data.toList c) (cutZ s.data.toList c) (decide (c ∈ s.data.toList)) := fun W => cuts_any s c W (by omega)
theorem pparse_ok (h l : List Bool) (w : World) (hck : ck h l = 0) : Calls Tryd.prog 9 #[.string (wtx h l)] w (NewWX h l 0 w) := by
  have hk := lens hck
  have hs : (wtx h l).size ≤ 66 := by rw [wtx_size]; omega
  have c1 := cutk (wtx h l) 40 hs
  have hs2 : (sa (digs l ++ [41])).size ≤ 66 := by rw [sa_size]; simp [digs_length]; omega
  have c2 := cutk (sa (digs l ++ [41])) 41 hs2
  obtain ⟨i1, i2⟩ := cut_app (digs h) (digs l ++ [41]) 40 (all_ne (digs_all h) rfl)
  obtain ⟨j1, j2⟩ := cut_app (digs l) [] 41 (all_ne (digs_all l) rfl)
  rw [wtx_list, i1, i2, decide_eq_true (by simp)] at c1
  rw [sa_list, j1, j2, decide_eq_true (by simp)] at c2
  have := parse_good (wtx h l) w (digs h) (digs l ++ [41]) (digs l) hs (by rw [digs_length]; omega) (by rw [digs_length]; omega) (Lib.hid c1) (Lib.hid c2) (digs_all h) (digs_all l) (by rw [lts_digs, lts_digs]; exact hck)
  rwa [lts_digs, lts_digs] at this
theorem pparse_no (s : ByteArray) (w : World) (hs : s.size ≤ 66) (hno : ¬ ∃ h l, s = wtx h l ∧ ck h l = 0) : Calls Tryd.prog 9 #[.string s] w (NewWX [] [] 5 w) := by
  have l1 := cutA_le s.data.toList 40
  have l2 := cutZ_le s.data.toList 40
  have l3 := cutA_le (cutZ s.data.toList 40) 41
  rw [len_toList] at l1 l2
  have c2 := cutk (sa (cutZ s.data.toList 40)) 41 (by rw [sa_size]; omega)
  rw [sa_list] at c2
  refine parse_bad s w _ _ _ _ _ _ hs (by omega) (by omega) (Lib.hid (cutk s 40 hs)) (Lib.hid c2) ?_
  rintro ⟨g1, g2, g3, g4, g5, g6⟩
  refine hno ⟨_, _, ?_, g6⟩
  apply by_list
  rw [wtx_list, digs_lts g4, digs_lts g5]
  have e1 := cut_glue s.data.toList 40 (by simpa using g1)
  have e2 := cut_glue (cutZ s.data.toList 40) 41 (by simpa using g2)
  rw [g3] at e2
  rw [← e2]
  exact e1
theorem byte_eq {s : ByteArray} {k : Nat} {c : UInt8} (hk : k < s.size) (h : s.data.toList[k]? = some c) : s[k] = c := by
  rw [byte_get s k hk] at h
  simpa using h
theorem rparse_ok (h l : List Bool) (w : World) (hck : ck h l = 0) : Calls Tryd.prog 11 #[.string (wtx h l)] w (NewWX h l 0 w) := by
  have hk := lens hck
  have hz := wtx_size h l
  have hs : (wtx h l).size ≤ 66 := by omega
  have h1 : h.length < (wtx h l).size := by omega
  have k1 : runL ((wtx h l).data.toList.drop 0) = h := by rw [List.drop_zero, wtx_list]; exact runL_digs _ _ _ rfl
  have k2 : runL ((wtx h l).data.toList.drop (h.length + 1)) = l := by
    rw [wtx_list, ← digs_length h, ← List.drop_drop, List.drop_left]
    exact runL_digs _ _ _ rfl
  have b1 : (wtx h l)[h.length] = 40 := byte_eq h1 (by rw [wtx_list, List.getElem?_append_right (by rw [digs_length]; omega), digs_length, Nat.sub_self]; rfl)
  have b2 : (wtx h l)[(wtx h l).size - 1]'(by omega) = 41 := byte_eq (by omega) (by
    rw [wtx_list, List.getElem?_append_right (by rw [digs_length]; omega), digs_length, show (wtx h l).size - 1 - h.length = l.length + 1 by omega, List.getElem?_cons_succ, List.getElem?_append_right (by rw [digs_length]; omega), digs_length, Nat.sub_self]; rfl)
  exact rparse_good (wtx h l) w h l hs h1 (by omega) (Lib.hid (run_k _ 0 h hs (by omega) k1)) (Lib.hid (run_k _ (h.length + 1) l hs (by omega) k2)) (by rw [b1]; rfl) (by rw [b2]; rfl) hck
theorem byte_ne {c : UInt8} {k : Nat} (h : ((((c.toNat : Nat) : Int) != (k : Int)) = false)) (hk : k < 256) : c = UInt8.ofNat k := by
  apply UInt8.toNat_inj.1
  simp at h
  have : c.toNat = k := by omega
  rw [this]
  simp
  omega
theorem rparse_no (s : ByteArray) (w : World) (hs : s.size ≤ 66) (hno : ¬ ∃ h l, s = wtx h l ∧ ck h l = 0) : Calls Tryd.prog 11 #[.string s] w (NewWX [] [] 5 w) := by
  obtain ⟨h, hh⟩ : ∃ h, runL s.data.toList = h := ⟨_, rfl⟩
  have hl1 : h.length ≤ s.size := by rw [← hh, runL_length, ← len_toList]; exact tw_le _ _
  have K1 := Lib.hid (run_k s 0 h hs (by omega) (by rw [List.drop_zero]; exact hh))
  obtain ⟨l, hl⟩ : ∃ l, runL (s.data.toList.drop (h.length + 1)) = l := ⟨_, rfl⟩
  by_cases h1 : h.length < s.size
  · have hl2 : l.length ≤ s.size - (h.length + 1) := by rw [← hl, runL_length, ← len_toList, ← List.length_drop]; exact tw_le _ _
    have K2 := Lib.hid (run_k s (h.length + 1) l hs (by omega) hl)
    cases e1 : (((s[h.length].toNat : Nat) : Int) != 40)
    · by_cases hm : h.length + 1 + l.length + 1 = s.size
      · cases e2 : (((s[s.size - 1].toNat : Nat) : Int) != 41)
        · by_cases hck : ck h l = 0
          · refine absurd ⟨h, l, ?_, hck⟩ hno
            have b1 := byte_ne (k := 40) e1 (by omega)
            have b2 := byte_ne (k := 41) e2 (by omega)
            apply by_list
            rw [wtx_list, ← hh, ← hl, digs_runL, digs_runL]
            have d1 : s.data.toList.dropWhile isD = s.data.toList.drop h.length := by
              have := List.takeWhile_append_dropWhile (p := isD) (l := s.data.toList)
              conv => rhs; rw [← this]
              rw [← hh, runL_length, List.drop_left]
            have d2 : (s.data.toList.drop (h.length + 1)).dropWhile isD = s.data.toList.drop (h.length + 1 + l.length) := by
              have := List.takeWhile_append_dropWhile (p := isD) (l := s.data.toList.drop (h.length + 1))
              rw [show s.data.toList.drop (h.length + 1 + l.length) = (s.data.toList.drop (h.length + 1)).drop l.length from List.drop_drop.symm]
              conv => rhs; rw [← this]
              rw [← hl, runL_length, List.drop_left]
            have d3 : s.data.toList.drop (h.length + 1 + l.length) = [41] := by
              have hlt : h.length + 1 + l.length < s.data.toList.length := by rw [len_toList]; omega
              rw [List.drop_eq_getElem_cons hlt, List.drop_eq_nil_of_le (by rw [len_toList]; omega)]
              have := byte_get s (h.length + 1 + l.length) (by omega)
              rw [List.getElem?_eq_getElem hlt] at this
              have e : s[h.length + 1 + l.length]'(by omega) = 41 := by
                have : h.length + 1 + l.length = s.size - 1 := by omega
                simp only [this]
                exact b2
              rw [Option.some.inj this, e]
            have d4 : s.data.toList.drop h.length = 40 :: s.data.toList.drop (h.length + 1) := by
              have hlt : h.length < s.data.toList.length := by rw [len_toList]; omega
              rw [List.drop_eq_getElem_cons hlt]
              have := byte_get s h.length h1
              rw [List.getElem?_eq_getElem hlt] at this
              rw [Option.some.inj this, b1]
              rfl
            conv => lhs; rw [← List.takeWhile_append_dropWhile (p := isD) (l := s.data.toList), d1, d4]
            conv => lhs; rw [← List.takeWhile_append_dropWhile (p := isD) (l := s.data.toList.drop (h.length + 1)), d2, d3]
          · exact rparse_e s w h l hs h1 hm K1 K2 e1 e2 hck
        · exact rparse_d s w h l hs h1 hm K1 K2 e1 e2
      · exact rparse_c s w h l hs h1 (by omega) hm K1 K2 e1
    · exact rparse_b s w h l hs h1 K1 K2 e1
  · exact rparse_a s w h l hs (by omega) (by omega) K1
end Go.Proofs.YtlpigdekjkpnpaaDoor
