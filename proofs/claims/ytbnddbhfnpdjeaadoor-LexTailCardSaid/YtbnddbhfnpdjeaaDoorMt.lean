/- The walk of LexTail. -/
import Derived.Test.YtbnddbhfnpdjeaaDoorMs
namespace Go.Proofs.YtbnddbhfnpdjeaaDoor
set_option linter.unusedVariables false
set_option linter.unusedSimpArgs false
open Go.RowKit
theorem u8_le {n : Int} (h : (Lit.int .u8 n).wf = true) : n ≤ 255 := by
  have h2 : n ≤ IntKind.u8.max := by simp only [Lit.wf, Bool.and_eq_true, decide_eq_true_eq] at h; exact h.2
  exact h2
theorem u8_ge {n : Int} (h : (Lit.int .u8 n).wf = true) : 0 ≤ n := by
  have h2 : IntKind.u8.min ≤ n := by simp only [Lit.wf, Bool.and_eq_true, decide_eq_true_eq] at h; exact h.1
  exact h2
theorem scan_at (l : List UInt8) : ∀ k, ∀ t ∈ (scanL l k).1, 0 ≤ t.2.2 ∧ t.2.2 ≤ ((k + l.length : Nat) : Int) := by
  induction l using scan_ind with
  | h0 l h => intro k t ht; rw [scanL_end h] at ht; cases ht
  | h1 l a tx n e h hf he => intro k t ht; rw [scanL_err h hf he] at ht; cases ht
  | h2 l a tx n h hf hn hle ih =>
    intro k t ht
    rw [scanL_go h hf] at ht
    by_cases e0 : (scanL (l.drop (gapN l + n)) (k + (gapN l + n))).2.2 = 0
    · rw [if_pos e0] at ht
      rcases List.mem_cons.1 ht with rfl | ht
      · simp only; omega
      · have := ih _ t ht
        rw [List.length_drop] at this
        omega
    · rw [if_neg e0] at ht
      cases ht
def spB (d : Nat) : ByteArray := bt (List.replicate d 32)
theorem spB_size (d : Nat) : (spB d).size = d := by rw [spB, bt_size, List.length_replicate]
theorem spB_succ (d : Nat) : spB d ++ ⟨#[32]⟩ = spB (d + 1) := by
  apply ba_ext
  rw [ByteArray.data_append, Array.toList_append, spB, spB, bt_list, bt_list, List.replicate_succ']
/-- what Scan answers -/
def Ans (T : List Tk) (n : Nat) (er : Int) (W : World) (e : Ending) (w' : World) : Prop := ∃ A c, e = .returned (.tuple #[.slice A T.length c, .int .i64 n, .int .i64 er]) ∧ RdT w' w'.heap.size A T ∧ Below W.heap.size W w'
theorem tail_facts (s tl : ByteArray) (h1 : s.size ≤ 1000) (h2 : tl.size ≤ 1000) (D : Nat) (hD : D ≤ 50) (w : World) (hs : Std w) :
    ∃ (T1 T2 T : List Tk) (n1 n2 n3 n4 : Nat) (e1 e2 e3 : Int), (e1 = 0 ∨ e1 ≠ 0 ∧ e2 = e1 ∧ n2 = n1) ∧ (e3 = 0 ∨ e3 ≠ 0 ∧ n4 = n3 + D) ∧ n3 ≤ 1000 ∧ T.length ≤ 1000 ∧ (∀ t ∈ T, 0 ≤ t.2.2 ∧ t.2.2 ≤ 1000) ∧
    Hid (∀ W, Below w.heap.size w W → Calls Tryd.prog 9 #[.string (s ++ ⟨#[10]⟩)] W (Ans T1 n1 e1 W)) ∧
    Hid (∀ W, Below w.heap.size w W → Calls Tryd.prog 9 #[.string (s ++ ⟨#[10]⟩ ++ tl)] W (Ans T2 n2 e2 W)) ∧
    Hid (∀ W, Below w.heap.size w W → Calls Tryd.prog 9 #[.string s] W (Ans T n3 e3 W)) ∧
    Hid (∀ W, Below w.heap.size w W → Calls Tryd.prog 9 #[.string (spB D ++ s)] W (Ans (T.map (mvT D)) n4 e3 W)) := by
  have l1 : (s ++ ⟨#[10]⟩).data.toList = s.data.toList ++ [10] := by rw [ByteArray.data_append, Array.toList_append]
  have l2 : (s ++ ⟨#[10]⟩ ++ tl).data.toList = s.data.toList ++ 10 :: tl.data.toList := by rw [ByteArray.data_append, Array.toList_append, l1, List.append_assoc]; rfl
  have l3 : (spB D ++ s).data.toList = List.replicate D 32 ++ s.data.toList := by rw [ByteArray.data_append, Array.toList_append]; rfl
  obtain ⟨m1, m2, m3⟩ := scan_move s.data.toList D 0
  refine ⟨(scanL (s ++ ⟨#[10]⟩).data.toList 0).1, (scanL (s ++ ⟨#[10]⟩ ++ tl).data.toList 0).1, (scanL s.data.toList 0).1, (scanL (s ++ ⟨#[10]⟩).data.toList 0).2.1, (scanL (s ++ ⟨#[10]⟩ ++ tl).data.toList 0).2.1, (scanL s.data.toList 0).2.1, (scanL (spB D ++ s).data.toList 0).2.1, (scanL (s ++ ⟨#[10]⟩).data.toList 0).2.2, (scanL (s ++ ⟨#[10]⟩ ++ tl).data.toList 0).2.2, (scanL s.data.toList 0).2.2, ?_, ?_, ?_, ?_, ?_, Lib.hid fun W hb => scan_is _ W (hs.to hb) ?_, Lib.hid fun W hb => scan_is _ W (hs.to hb) ?_, Lib.hid fun W hb => scan_is _ W (hs.to hb) (by omega), Lib.hid fun W hb => ?_⟩
  · by_cases he : (scanL (s ++ ⟨#[10]⟩).data.toList 0).2.2 = 0
    · exact .inl he
    · refine .inr ⟨he, ?_⟩
      rw [l1] at he
      have := scan_stop s.data.toList tl.data.toList 0 he
      rw [l1, l2, this]
      exact ⟨rfl, rfl⟩
  · by_cases he : (scanL s.data.toList 0).2.2 = 0
    · exact .inl he
    · refine .inr ⟨he, ?_⟩
      rw [l3, scan_blanks]
      exact m3 he
  · by_cases he : (scanL s.data.toList 0).2.2 = 0
    · rw [scan_ok _ _ he]; omega
    · have := (scan_place s.data.toList 0 he).2
      rw [len_toList] at this
      omega
  · have := scan_len s.data.toList 0
    rw [len_toList] at this
    omega
  · intro t ht
    have := scan_at s.data.toList 0 t ht
    rw [len_toList] at this
    omega
  · rw [ByteArray.size_append, one_size]; omega
  · rw [ByteArray.size_append, ByteArray.size_append, one_size]; omega
  · have := scan_is (spB D ++ s) W (hs.to hb) (by rw [ByteArray.size_append, spB_size]; omega)
    have e1 : (scanL (spB D ++ s).data.toList 0).1 = (scanL s.data.toList 0).1.map (mvT D) := by rw [l3, scan_blanks]; exact m2
    have e2 : (scanL (spB D ++ s).data.toList 0).2.2 = (scanL s.data.toList 0).2.2 := by rw [l3, scan_blanks]; exact m1
    unfold ScR at this
    rw [e1, e2] at this
    exact this
set_option maxHeartbeats 4000000 in
set_option maxRecDepth 20000 in
theorem tail_any (s tl : ByteArray) (a : Int) (w : World) (hs : Std w) (hm1 : s.size ≤ maxLen) (hm2 : tl.size ≤ maxLen) (ha : a ≤ 255) (la : 0 ≤ a) : Calls Tryd.prog 8 #[.string s, .string tl, .int .u8 a] w (Bel (.bool true) w) := by
  have HS := Lib.hid hs
  by_cases hb1 : 1000 < s.size
  · have h1 : (1000 : Int) < (s.size : Int) := by omega
    clear hs hb1 hm1 hm2
    go_enter Tryd.func8, Tryd.ntmps8
    go_wp2_with (go_at_call 12; (with_reducible refine (lives_any _ (HS.out.to ?_)).mono ?_); (focus ((repeat (first | (with_reducible exact Below.refl _ _) | (with_reducible assumption) | (with_reducible exact bel_box _) | (with_reducible refine bel_step ?_ (by with_reducible assumption)) | (with_reducible refine Below.drew ?_) | (with_reducible refine below_drewN ?_ _) | (with_reducible refine bel_alloc ?_ _))); done)); rintro e w4 ⟨rfl, hb4⟩)
    go_ret
    exact ⟨rfl, (by repeat (first | (with_reducible exact Below.refl _ _) | (with_reducible assumption) | (with_reducible exact bel_box _) | (with_reducible refine bel_step ?_ (by with_reducible assumption)) | (with_reducible refine Below.drew ?_) | (with_reducible refine below_drewN ?_ _) | (with_reducible refine bel_alloc ?_ _)))⟩
  by_cases hb2 : 1000 < tl.size
  · have h1 : (s.size : Int) ≤ 1000 := by omega
    have h2 : (1000 : Int) < (tl.size : Int) := by omega
    clear hs hb1 hb2 hm1 hm2
    go_enter Tryd.func8, Tryd.ntmps8
    go_wp2_with (go_at_call 12; (with_reducible refine (lives_any _ (HS.out.to ?_)).mono ?_); (focus ((repeat (first | (with_reducible exact Below.refl _ _) | (with_reducible assumption) | (with_reducible exact bel_box _) | (with_reducible refine bel_step ?_ (by with_reducible assumption)) | (with_reducible refine Below.drew ?_) | (with_reducible refine below_drewN ?_ _) | (with_reducible refine bel_alloc ?_ _))); done)); rintro e w4 ⟨rfl, hb4⟩)
    go_ret
    exact ⟨rfl, (by repeat (first | (with_reducible exact Below.refl _ _) | (with_reducible assumption) | (with_reducible exact bel_box _) | (with_reducible refine bel_step ?_ (by with_reducible assumption)) | (with_reducible refine Below.drew ?_) | (with_reducible refine below_drewN ?_ _) | (with_reducible refine bel_alloc ?_ _)))⟩
  obtain ⟨D, hD⟩ : ∃ D : Nat, (D : Int) = a % 50 := ⟨(a % 50).toNat, by omega⟩
  have hD50 : D ≤ 50 := by omega
  obtain ⟨T1, T2, T, n1, n2, n3, n4, e1, e2, e3, h12, h34, hn3, hT, hat, K1, K2, K3, K4⟩ := tail_facts s tl (by omega) (by omega) D hD50 w hs
  have h1 : (s.size : Int) ≤ 1000 := by omega
  have h2 : (tl.size : Int) ≤ 1000 := by omega
  have ka1 := fun w => run_string_add_sum (P := Tryd.prog) w s ⟨#[10]⟩ (by rw [one_size]; omega)
  have ka2 := fun w => run_string_add_sum (P := Tryd.prog) w (s ++ ⟨#[10]⟩) tl (by rw [ByteArray.size_append, one_size]; omega)
  have ka3 := fun w => run_string_add_sum (P := Tryd.prog) w (spB D) s (by rw [spB_size]; omega)
  have ka4 := Lib.hid (fun d (hd : d ≤ 50) w => run_string_add_sum (P := Tryd.prog) w (spB d) ⟨#[32]⟩ (by rw [spB_size, one_size]; omega))
  clear hs hb1 hb2 hm1 hm2
  have f1 : a.tmod 50 = (D : Int) := by rw [Int.tmod_eq_emod_of_nonneg la]; exact hD.symm
  have f2 : IntKind.u8.wrap (D : Int) = (D : Int) := by unfold IntKind.wrap; simp [IntKind.signed, IntKind.bits]; omega
  have f3 : IntKind.i64.wrap (D : Int) = (D : Int) := Go.IntWalk.i64_in _ ⟨by omega, by omega⟩
  have f4 : IntKind.i64.wrap ((n3 : Int) + (D : Int)) = (n3 : Int) + (D : Int) := Go.IntWalk.i64_in _ ⟨by omega, by omega⟩
  clear hD ha la
  rcases h12 with rfl | ⟨he1, rfl, rfl⟩
  · go_enter Tryd.func8, Tryd.ntmps8
    go_wp2_with (first
      | (go_at_call 9; (with_reducible refine (K1.out _ ?_).mono ?_); (focus ((repeat (first | (with_reducible exact Below.refl _ _) | (with_reducible assumption) | (with_reducible exact bel_box _) | (with_reducible refine bel_step ?_ (by with_reducible assumption)) | (with_reducible refine Below.drew ?_) | (with_reducible refine below_drewN ?_ _) | (with_reducible refine bel_alloc ?_ _))); done)); rintro e w1 ⟨A1, c1, rfl, hT1, hb1⟩; clear hT1)
      | (go_at_call 9; (with_reducible refine (K2.out _ ?_).mono ?_); (focus ((repeat (first | (with_reducible exact Below.refl _ _) | (with_reducible assumption) | (with_reducible exact bel_box _) | (with_reducible refine bel_step ?_ (by with_reducible assumption)) | (with_reducible refine Below.drew ?_) | (with_reducible refine below_drewN ?_ _) | (with_reducible refine bel_alloc ?_ _))); done)); rintro e w2 ⟨A2, c2, rfl, hT2, hb2⟩; clear hT2))
    go_loopw [13, 14] (fun v i wr => ∃ d : Nat, d ≤ D ∧ v = .string (spB d) ∧ i = .int .i64 (d : Int) ∧ wr = w2) (fun _ i _ => D - (intOf i).toNat)
    case atStart => exact ⟨0, by omega, rfl, rfl, rfl⟩
    case round =>
      obtain ⟨d, hd, rfl, rfl, rfl⟩ := hrel
      by_cases hlt : d < D
      · have g1 : (d : Int) < (D : Int) := by omega
        have g2 := ka4.out d (by omega)
        rw [spB_succ] at g2
        clear h34 hat K1 K2 K3 K4
        go_wp2
        exact ⟨⟨d + 1, by omega, rfl, by congr 1, trivial⟩, by simp [intOf]; omega⟩
      · obtain rfl : d = D := by omega
        have g3 : (((spB d).size : Nat) : Int) = (d : Int) := by rw [spB_size]
        have HAT := Lib.hid hat
        clear K1 K2 hat
        rcases h34 with rfl | ⟨he3, rfl⟩
        · go_wp2_with (first
            | (go_at_call 9; (with_reducible refine (K3.out _ ?_).mono ?_); (focus ((repeat (first | (with_reducible exact Below.refl _ _) | (with_reducible assumption) | (with_reducible exact bel_box _) | (with_reducible refine bel_step ?_ (by with_reducible assumption)) | (with_reducible refine Below.drew ?_) | (with_reducible refine below_drewN ?_ _) | (with_reducible refine bel_alloc ?_ _))); done)); rintro e w3 ⟨A3, c3, rfl, hT3, hb3⟩; have HT3 := Lib.hid hT3; clear hT3)
            | (go_at_call 9; (with_reducible refine (K4.out _ ?_).mono ?_); (focus ((repeat (first | (with_reducible exact Below.refl _ _) | (with_reducible assumption) | (with_reducible exact bel_box _) | (with_reducible refine bel_step ?_ (by with_reducible assumption)) | (with_reducible refine Below.drew ?_) | (with_reducible refine below_drewN ?_ _) | (with_reducible refine bel_alloc ?_ _))); done)); rintro e w4 ⟨A4, c4, rfl, hT4, hb4⟩; have HT4 := Lib.hid hT4; clear hT4; have HT3' := Lib.hid (HT3.out.to hb4)))
          go_loopw [21] (fun i wr => ∃ k : Nat, k ≤ T.length ∧ i = .int .i64 (k : Int) ∧ Below w4.heap.size w4 wr) (fun i _ => T.length - (intOf i).toNat)
          case atStart => exact ⟨0, by omega, rfl, Below.refl _ _⟩
          case round =>
            obtain ⟨k, hk, rfl, hbl⟩ := hrel
            by_cases hlt : k < T.length
            · obtain ⟨ad, t, rfl, had, htk, x1, x2, x3⟩ := (HT3'.out.to hbl).at_ hlt
              obtain ⟨ad', t', rfl, had', htk', y1, y2, y3⟩ := (HT4.out.to hbl).at_ (k := k) (by rw [List.length_map]; exact hlt)
              obtain rfl : mvT d t = t' := by rw [List.getElem?_map, htk] at htk'; simpa using htk'
              have hta := HAT.out t (List.mem_of_getElem? htk)
              simp only [mvT] at y1 y2 y3
              have v1 : IntKind.i64.wrap (t.2.2 + (d : Int)) = t.2.2 + (d : Int) := Go.IntWalk.i64_in _ ⟨by omega, by omega⟩
              have v2 : (t.1 == t.1) = true := by simp
              have v3 : (t.2.1.toList == t.2.1.toList) = true := by simp
              have v4 : ((t.2.2 + (d : Int)) == (t.2.2 + (d : Int))) = true := by simp
              clear htk htk' hta
              go_wp2
              go_quiet (fail)
              go_wp2
              exact ⟨⟨k + 1, by omega, by congr 1, (by repeat (first | (with_reducible exact Below.refl _ _) | (with_reducible assumption) | (with_reducible exact bel_box _) | (with_reducible refine bel_step ?_ (by with_reducible assumption)) | (with_reducible refine Below.drew ?_) | (with_reducible refine below_drewN ?_ _) | (with_reducible refine bel_alloc ?_ _)))⟩, by simp [intOf]; omega⟩
            · obtain rfl : k = T.length := by omega
              go_wp2_with (go_at_call 12; (with_reducible refine (lives_any _ (HS.out.to ?_)).mono ?_); (focus ((repeat (first | (with_reducible exact Below.refl _ _) | (with_reducible assumption) | (with_reducible exact bel_box _) | (with_reducible refine bel_step ?_ (by with_reducible assumption)) | (with_reducible refine Below.drew ?_) | (with_reducible refine below_drewN ?_ _) | (with_reducible refine bel_alloc ?_ _))); done)); rintro e w9 ⟨rfl, hb9⟩)
              go_ret
              exact ⟨rfl, (by repeat (first | (with_reducible exact Below.refl _ _) | (with_reducible assumption) | (with_reducible exact bel_box _) | (with_reducible refine bel_step ?_ (by with_reducible assumption)) | (with_reducible refine Below.drew ?_) | (with_reducible refine below_drewN ?_ _) | (with_reducible refine bel_alloc ?_ _)))⟩
        · have w1 : (e3 != 0) = true := by simpa using he3
          have w2 : (e3 == 0) = false := by simpa using he3
          have w3 : (((n3 + d : Nat) : Int) == (n3 : Int) + (d : Int)) = true := by rw [beq_iff_eq]; omega
          go_wp2_with (first
            | (go_at_call 9; (with_reducible refine (K3.out _ ?_).mono ?_); (focus ((repeat (first | (with_reducible exact Below.refl _ _) | (with_reducible assumption) | (with_reducible exact bel_box _) | (with_reducible refine bel_step ?_ (by with_reducible assumption)) | (with_reducible refine Below.drew ?_) | (with_reducible refine below_drewN ?_ _) | (with_reducible refine bel_alloc ?_ _))); done)); rintro e w3 ⟨A3, c3, rfl, hT3, hb3⟩; have HT3 := Lib.hid hT3; clear hT3)
            | (go_at_call 9; (with_reducible refine (K4.out _ ?_).mono ?_); (focus ((repeat (first | (with_reducible exact Below.refl _ _) | (with_reducible assumption) | (with_reducible exact bel_box _) | (with_reducible refine bel_step ?_ (by with_reducible assumption)) | (with_reducible refine Below.drew ?_) | (with_reducible refine below_drewN ?_ _) | (with_reducible refine bel_alloc ?_ _))); done)); rintro e w4 ⟨A4, c4, rfl, hT4, hb4⟩; have HT4 := Lib.hid hT4; clear hT4; have HT3' := Lib.hid (HT3.out.to hb4)))
          go_loopw [21] (fun i wr => ∃ k : Nat, k ≤ T.length ∧ i = .int .i64 (k : Int) ∧ Below w4.heap.size w4 wr) (fun i _ => T.length - (intOf i).toNat)
          case atStart => exact ⟨0, by omega, rfl, Below.refl _ _⟩
          case round =>
            obtain ⟨k, hk, rfl, hbl⟩ := hrel
            by_cases hlt : k < T.length
            · obtain ⟨ad, t, rfl, had, htk, x1, x2, x3⟩ := (HT3'.out.to hbl).at_ hlt
              obtain ⟨ad', t', rfl, had', htk', y1, y2, y3⟩ := (HT4.out.to hbl).at_ (k := k) (by rw [List.length_map]; exact hlt)
              obtain rfl : mvT d t = t' := by rw [List.getElem?_map, htk] at htk'; simpa using htk'
              have hta := HAT.out t (List.mem_of_getElem? htk)
              simp only [mvT] at y1 y2 y3
              have v1 : IntKind.i64.wrap (t.2.2 + (d : Int)) = t.2.2 + (d : Int) := Go.IntWalk.i64_in _ ⟨by omega, by omega⟩
              have v2 : (t.1 == t.1) = true := by simp
              have v3 : (t.2.1.toList == t.2.1.toList) = true := by simp
              have v4 : ((t.2.2 + (d : Int)) == (t.2.2 + (d : Int))) = true := by simp
              clear htk htk' hta
              go_wp2
              go_quiet (fail)
              go_wp2
              exact ⟨⟨k + 1, by omega, by congr 1, (by repeat (first | (with_reducible exact Below.refl _ _) | (with_reducible assumption) | (with_reducible exact bel_box _) | (with_reducible refine bel_step ?_ (by with_reducible assumption)) | (with_reducible refine Below.drew ?_) | (with_reducible refine below_drewN ?_ _) | (with_reducible refine bel_alloc ?_ _)))⟩, by simp [intOf]; omega⟩
            · obtain rfl : k = T.length := by omega
              go_wp2_with (go_at_call 12; (with_reducible refine (lives_any _ (HS.out.to ?_)).mono ?_); (focus ((repeat (first | (with_reducible exact Below.refl _ _) | (with_reducible assumption) | (with_reducible exact bel_box _) | (with_reducible refine bel_step ?_ (by with_reducible assumption)) | (with_reducible refine Below.drew ?_) | (with_reducible refine below_drewN ?_ _) | (with_reducible refine bel_alloc ?_ _))); done)); rintro e w9 ⟨rfl, hb9⟩)
              go_ret
              exact ⟨rfl, (by repeat (first | (with_reducible exact Below.refl _ _) | (with_reducible assumption) | (with_reducible exact bel_box _) | (with_reducible refine bel_step ?_ (by with_reducible assumption)) | (with_reducible refine Below.drew ?_) | (with_reducible refine below_drewN ?_ _) | (with_reducible refine bel_alloc ?_ _)))⟩
  · have w9 : (e2 != 0) = true := by simpa using he1
    have w8 : (e2 == 0) = false := by simpa using he1
    go_enter Tryd.func8, Tryd.ntmps8
    go_wp2_with (first
      | (go_at_call 9; (with_reducible refine (K1.out _ ?_).mono ?_); (focus ((repeat (first | (with_reducible exact Below.refl _ _) | (with_reducible assumption) | (with_reducible exact bel_box _) | (with_reducible refine bel_step ?_ (by with_reducible assumption)) | (with_reducible refine Below.drew ?_) | (with_reducible refine below_drewN ?_ _) | (with_reducible refine bel_alloc ?_ _))); done)); rintro e w1 ⟨A1, c1, rfl, hT1, hb1⟩; clear hT1)
      | (go_at_call 9; (with_reducible refine (K2.out _ ?_).mono ?_); (focus ((repeat (first | (with_reducible exact Below.refl _ _) | (with_reducible assumption) | (with_reducible exact bel_box _) | (with_reducible refine bel_step ?_ (by with_reducible assumption)) | (with_reducible refine Below.drew ?_) | (with_reducible refine below_drewN ?_ _) | (with_reducible refine bel_alloc ?_ _))); done)); rintro e w2 ⟨A2, c2, rfl, hT2, hb2⟩; clear hT2))
    go_loopw [13, 14] (fun v i wr => ∃ d : Nat, d ≤ D ∧ v = .string (spB d) ∧ i = .int .i64 (d : Int) ∧ wr = w2) (fun _ i _ => D - (intOf i).toNat)
    case atStart => exact ⟨0, by omega, rfl, rfl, rfl⟩
    case round =>
      obtain ⟨d, hd, rfl, rfl, rfl⟩ := hrel
      by_cases hlt : d < D
      · have g1 : (d : Int) < (D : Int) := by omega
        have g2 := ka4.out d (by omega)
        rw [spB_succ] at g2
        clear h34 hat K1 K2 K3 K4
        go_wp2
        exact ⟨⟨d + 1, by omega, rfl, by congr 1, trivial⟩, by simp [intOf]; omega⟩
      · obtain rfl : d = D := by omega
        have g3 : (((spB d).size : Nat) : Int) = (d : Int) := by rw [spB_size]
        have HAT := Lib.hid hat
        clear K1 K2 hat
        rcases h34 with rfl | ⟨he3, rfl⟩
        · go_wp2_with (first
            | (go_at_call 9; (with_reducible refine (K3.out _ ?_).mono ?_); (focus ((repeat (first | (with_reducible exact Below.refl _ _) | (with_reducible assumption) | (with_reducible exact bel_box _) | (with_reducible refine bel_step ?_ (by with_reducible assumption)) | (with_reducible refine Below.drew ?_) | (with_reducible refine below_drewN ?_ _) | (with_reducible refine bel_alloc ?_ _))); done)); rintro e w3 ⟨A3, c3, rfl, hT3, hb3⟩; have HT3 := Lib.hid hT3; clear hT3)
            | (go_at_call 9; (with_reducible refine (K4.out _ ?_).mono ?_); (focus ((repeat (first | (with_reducible exact Below.refl _ _) | (with_reducible assumption) | (with_reducible exact bel_box _) | (with_reducible refine bel_step ?_ (by with_reducible assumption)) | (with_reducible refine Below.drew ?_) | (with_reducible refine below_drewN ?_ _) | (with_reducible refine bel_alloc ?_ _))); done)); rintro e w4 ⟨A4, c4, rfl, hT4, hb4⟩; have HT4 := Lib.hid hT4; clear hT4; have HT3' := Lib.hid (HT3.out.to hb4)))
          go_loopw [21] (fun i wr => ∃ k : Nat, k ≤ T.length ∧ i = .int .i64 (k : Int) ∧ Below w4.heap.size w4 wr) (fun i _ => T.length - (intOf i).toNat)
          case atStart => exact ⟨0, by omega, rfl, Below.refl _ _⟩
          case round =>
            obtain ⟨k, hk, rfl, hbl⟩ := hrel
            by_cases hlt : k < T.length
            · obtain ⟨ad, t, rfl, had, htk, x1, x2, x3⟩ := (HT3'.out.to hbl).at_ hlt
              obtain ⟨ad', t', rfl, had', htk', y1, y2, y3⟩ := (HT4.out.to hbl).at_ (k := k) (by rw [List.length_map]; exact hlt)
              obtain rfl : mvT d t = t' := by rw [List.getElem?_map, htk] at htk'; simpa using htk'
              have hta := HAT.out t (List.mem_of_getElem? htk)
              simp only [mvT] at y1 y2 y3
              have v1 : IntKind.i64.wrap (t.2.2 + (d : Int)) = t.2.2 + (d : Int) := Go.IntWalk.i64_in _ ⟨by omega, by omega⟩
              have v2 : (t.1 == t.1) = true := by simp
              have v3 : (t.2.1.toList == t.2.1.toList) = true := by simp
              have v4 : ((t.2.2 + (d : Int)) == (t.2.2 + (d : Int))) = true := by simp
              clear htk htk' hta
              go_wp2
              go_quiet (fail)
              go_wp2
              exact ⟨⟨k + 1, by omega, by congr 1, (by repeat (first | (with_reducible exact Below.refl _ _) | (with_reducible assumption) | (with_reducible exact bel_box _) | (with_reducible refine bel_step ?_ (by with_reducible assumption)) | (with_reducible refine Below.drew ?_) | (with_reducible refine below_drewN ?_ _) | (with_reducible refine bel_alloc ?_ _)))⟩, by simp [intOf]; omega⟩
            · obtain rfl : k = T.length := by omega
              go_wp2_with (go_at_call 12; (with_reducible refine (lives_any _ (HS.out.to ?_)).mono ?_); (focus ((repeat (first | (with_reducible exact Below.refl _ _) | (with_reducible assumption) | (with_reducible exact bel_box _) | (with_reducible refine bel_step ?_ (by with_reducible assumption)) | (with_reducible refine Below.drew ?_) | (with_reducible refine below_drewN ?_ _) | (with_reducible refine bel_alloc ?_ _))); done)); rintro e w9 ⟨rfl, hb9⟩)
              go_ret
              exact ⟨rfl, (by repeat (first | (with_reducible exact Below.refl _ _) | (with_reducible assumption) | (with_reducible exact bel_box _) | (with_reducible refine bel_step ?_ (by with_reducible assumption)) | (with_reducible refine Below.drew ?_) | (with_reducible refine below_drewN ?_ _) | (with_reducible refine bel_alloc ?_ _)))⟩
        · have w1 : (e3 != 0) = true := by simpa using he3
          have w2 : (e3 == 0) = false := by simpa using he3
          have w3 : (((n3 + d : Nat) : Int) == (n3 : Int) + (d : Int)) = true := by rw [beq_iff_eq]; omega
          go_wp2_with (first
            | (go_at_call 9; (with_reducible refine (K3.out _ ?_).mono ?_); (focus ((repeat (first | (with_reducible exact Below.refl _ _) | (with_reducible assumption) | (with_reducible exact bel_box _) | (with_reducible refine bel_step ?_ (by with_reducible assumption)) | (with_reducible refine Below.drew ?_) | (with_reducible refine below_drewN ?_ _) | (with_reducible refine bel_alloc ?_ _))); done)); rintro e w3 ⟨A3, c3, rfl, hT3, hb3⟩; have HT3 := Lib.hid hT3; clear hT3)
            | (go_at_call 9; (with_reducible refine (K4.out _ ?_).mono ?_); (focus ((repeat (first | (with_reducible exact Below.refl _ _) | (with_reducible assumption) | (with_reducible exact bel_box _) | (with_reducible refine bel_step ?_ (by with_reducible assumption)) | (with_reducible refine Below.drew ?_) | (with_reducible refine below_drewN ?_ _) | (with_reducible refine bel_alloc ?_ _))); done)); rintro e w4 ⟨A4, c4, rfl, hT4, hb4⟩; have HT4 := Lib.hid hT4; clear hT4; have HT3' := Lib.hid (HT3.out.to hb4)))
          go_loopw [21] (fun i wr => ∃ k : Nat, k ≤ T.length ∧ i = .int .i64 (k : Int) ∧ Below w4.heap.size w4 wr) (fun i _ => T.length - (intOf i).toNat)
          case atStart => exact ⟨0, by omega, rfl, Below.refl _ _⟩
          case round =>
            obtain ⟨k, hk, rfl, hbl⟩ := hrel
            by_cases hlt : k < T.length
            · obtain ⟨ad, t, rfl, had, htk, x1, x2, x3⟩ := (HT3'.out.to hbl).at_ hlt
              obtain ⟨ad', t', rfl, had', htk', y1, y2, y3⟩ := (HT4.out.to hbl).at_ (k := k) (by rw [List.length_map]; exact hlt)
              obtain rfl : mvT d t = t' := by rw [List.getElem?_map, htk] at htk'; simpa using htk'
              have hta := HAT.out t (List.mem_of_getElem? htk)
              simp only [mvT] at y1 y2 y3
              have v1 : IntKind.i64.wrap (t.2.2 + (d : Int)) = t.2.2 + (d : Int) := Go.IntWalk.i64_in _ ⟨by omega, by omega⟩
              have v2 : (t.1 == t.1) = true := by simp
              have v3 : (t.2.1.toList == t.2.1.toList) = true := by simp
              have v4 : ((t.2.2 + (d : Int)) == (t.2.2 + (d : Int))) = true := by simp
              clear htk htk' hta
              go_wp2
              go_quiet (fail)
              go_wp2
              exact ⟨⟨k + 1, by omega, by congr 1, (by repeat (first | (with_reducible exact Below.refl _ _) | (with_reducible assumption) | (with_reducible exact bel_box _) | (with_reducible refine bel_step ?_ (by with_reducible assumption)) | (with_reducible refine Below.drew ?_) | (with_reducible refine below_drewN ?_ _) | (with_reducible refine bel_alloc ?_ _)))⟩, by simp [intOf]; omega⟩
            · obtain rfl : k = T.length := by omega
              go_wp2_with (go_at_call 12; (with_reducible refine (lives_any _ (HS.out.to ?_)).mono ?_); (focus ((repeat (first | (with_reducible exact Below.refl _ _) | (with_reducible assumption) | (with_reducible exact bel_box _) | (with_reducible refine bel_step ?_ (by with_reducible assumption)) | (with_reducible refine Below.drew ?_) | (with_reducible refine below_drewN ?_ _) | (with_reducible refine bel_alloc ?_ _))); done)); rintro e w9 ⟨rfl, hb9⟩)
              go_ret
              exact ⟨rfl, (by repeat (first | (with_reducible exact Below.refl _ _) | (with_reducible assumption) | (with_reducible exact bel_box _) | (with_reducible refine bel_step ?_ (by with_reducible assumption)) | (with_reducible refine Below.drew ?_) | (with_reducible refine below_drewN ?_ _) | (with_reducible refine bel_alloc ?_ _)))⟩
end Go.Proofs.YtbnddbhfnpdjeaaDoor
