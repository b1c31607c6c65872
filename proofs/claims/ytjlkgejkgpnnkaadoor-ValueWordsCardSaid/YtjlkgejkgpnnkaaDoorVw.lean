/- The walk of ValueWords. -/
import Derived.Test.YtjlkgejkgpnnkaaDoorVb
namespace Go.Proofs.YtjlkgejkgpnnkaaDoor
set_option linter.unusedVariables false
set_option linter.unusedSimpArgs false
open Go.RowKit
/-- Apply on two numbers, or a number that is no value -/
def two (op a b : Int) : Int := if apE op [a, b] = 0 then apV op [a, b] else 1099511627776
theorem two_any (op a b : Int) (w : World) : Calls Tryd.prog 33 #[.int .i64 op, .int .i64 a, .int .i64 b] w (Bel (.int .i64 (two op a b)) w) := by
  have K := Lib.hid (fun w bl t (h : Bk w bl t #[.int .i64 a, .int .i64 b]) => apply_any (some ⟨bl, 0, none⟩) 2 op [a, b] w (rd_blk h) (by simp))
  by_cases h : apE op [a, b] = 0
  · have HT := Lib.hid (show two op a b = apV op [a, b] by rw [two, if_pos h])
    rw [h] at K
    clear h
    go_enter Tryd.func33, Tryd.ntmps33
    go_wp2_with (go_at_call 27; refine (K.out _ _ _ (Bk.new _ _ _)).mono ?_; rintro e w1 ⟨rfl, hb1⟩)
    go_ret
    exact ⟨by rw [HT.out]; rfl, (by repeat (first | (with_reducible exact Below.refl _ _) | (with_reducible assumption) | (with_reducible exact bel_box _) | (with_reducible refine bel_step ?_ (by with_reducible assumption)) | (with_reducible refine Below.drew ?_) | (with_reducible refine below_drewN ?_ _) | (with_reducible refine bel_alloc ?_ _)))⟩
  · have HT := Lib.hid (show two op a b = 1099511627776 by rw [two, if_neg h])
    have hb : (apE op [a, b] != 0) = true := by simpa using h
    clear h
    go_enter Tryd.func33, Tryd.ntmps33
    go_wp2_with (go_at_call 27; refine (K.out _ _ _ (Bk.new _ _ _)).mono ?_; rintro e w1 ⟨rfl, hb1⟩)
    go_ret
    exact ⟨by rw [HT.out]; rfl, (by repeat (first | (with_reducible exact Below.refl _ _) | (with_reducible assumption) | (with_reducible exact bel_box _) | (with_reducible refine bel_step ?_ (by with_reducible assumption)) | (with_reducible refine Below.drew ?_) | (with_reducible refine below_drewN ?_ _) | (with_reducible refine bel_alloc ?_ _)))⟩
theorem two_at {op a b : Int} (h : 6 ≤ op ∧ op ≤ 16) (ha : -32768 ≤ a ∧ a ≤ 32767) (hb : -32768 ≤ b ∧ b ≤ 32767) : two op a b = ap2 op a b := by
  have hn : nOp op = 2 := by rw [nOp, if_neg (by omega), if_pos (by omega)]
  have hk : kOp op = 0 ∨ kOp op = 2 := by
    rw [kOp, if_neg (by omega)]
    split
    · exact .inl rfl
    · rw [if_pos (by omega)]; exact .inr rfl
  have ho : ∀ x, -32768 ≤ x ∧ x ≤ 32767 → okB op x = true := fun x hx => by
    rw [okB, if_neg (by omega)]
    split
    · simp; omega
    · rfl
  have he : apE op [a, b] = 0 := by rw [apE, if_neg (by omega), if_pos (by rw [hn]; rfl)]; simp [ho a ha, ho b hb]
  rw [two, if_pos he, apV, if_pos he, if_neg (by omega)]
  rfl
theorem cmp_facts (a b : Int) : (0 ≤ ap2 13 a b ∧ ap2 13 a b ≤ 1) ∧ (0 ≤ ap2 16 a b ∧ ap2 16 a b ≤ 1) ∧ (0 ≤ ap2 15 a b ∧ ap2 15 a b ≤ 1) ∧ (0 ≤ ap2 14 a b ∧ ap2 14 a b ≤ 1) ∧ (0 ≤ ap2 11 a b ∧ ap2 11 a b ≤ 1) ∧ (0 ≤ ap2 12 a b ∧ ap2 12 a b ≤ 1) ∧
    ap2 13 a b + ap2 16 a b = 1 ∧ ap2 15 a b + ap2 14 a b = 1 ∧ ap2 11 a b + ap2 12 a b = 1 ∧ ap2 13 a b + ap2 11 a b = ap2 14 a b := by
  have e (op : Int) (h : 11 ≤ op ∧ op ≤ 16) : ap2 op a b = b01 (cmpB op a b) := by
    rw [ap2, if_neg (by omega), if_neg (by omega), if_neg (by omega), if_neg (by omega), if_neg (by omega), if_neg (by omega), if_neg (by omega), if_neg (by omega)]
  rw [e 13 (by omega), e 16 (by omega), e 15 (by omega), e 14 (by omega), e 11 (by omega), e 12 (by omega)]
  simp only [cmpB, b01]
  rcases Int.lt_trichotomy a b with h | h | h
  · have h1 : ¬ b ≤ a := by omega
    have h2 : ¬ b < a := by omega
    have h3 : a ≤ b := by omega
    have h4 : a ≠ b := by omega
    simp [h, h1, h2, h3, h4]
  · subst h
    simp
  · have h1 : ¬ a ≤ b := by omega
    have h2 : ¬ a < b := by omega
    have h3 : b ≤ a := by omega
    have h4 : a ≠ b := by omega
    simp [h, h1, h2, h3, h4]
theorem x_neg (b : Nat) (t : TypeId) (a : Int) (w : World) (ha : -32768 ≤ a ∧ a ≤ 32767) (h : Bk w b t #[.int .i64 a]) :
    Calls Tryd.prog 27 #[.int .i64 2, .slice (some ⟨b, 0, none⟩) 1 1] w (Bel (.tuple #[.int .i64 (w16 (-a)), .int .i64 0]) w) := by
  have k := apply_any (some ⟨b, 0, none⟩) 1 2 [a] w (rd_blk h) (by simp)
  have ho : okB 2 a = true := by rw [okB, if_neg (by decide), if_pos (by decide)]; simp; omega
  have e1 : apE 2 [a] = 0 := by rw [apE, if_neg (by decide), if_pos (by simp [nOp])]; simp [ho]
  have e2 : apV 2 [a] = w16 (-a) := by rw [apV, if_pos e1, if_pos (by decide), ap1, if_neg (by decide)]; rfl
  rw [e1, e2] at k
  exact k
theorem x_and00 (b : Nat) (t : TypeId) (w : World) (h : Bk w b t #[.int .i64 0, .int .i64 0]) :
    Calls Tryd.prog 27 #[.int .i64 3, .slice (some ⟨b, 0, none⟩) 2 2] w (Bel (.tuple #[.int .i64 0, .int .i64 0]) w) := by
  have k := apply_any (some ⟨b, 0, none⟩) 2 3 [0, 0] w (rd_blk h) (by decide)
  rw [show apV 3 [0, 0] = 0 by decide +kernel, show apE 3 [0, 0] = 0 by decide +kernel] at k
  exact k
theorem x_or00 (b : Nat) (t : TypeId) (w : World) (h : Bk w b t #[.int .i64 0, .int .i64 0]) :
    Calls Tryd.prog 27 #[.int .i64 4, .slice (some ⟨b, 0, none⟩) 2 2] w (Bel (.tuple #[.int .i64 0, .int .i64 0]) w) := by
  have k := apply_any (some ⟨b, 0, none⟩) 2 4 [0, 0] w (rd_blk h) (by decide)
  rw [show apV 4 [0, 0] = 0 by decide +kernel, show apE 4 [0, 0] = 0 by decide +kernel] at k
  exact k
theorem x_xor00 (b : Nat) (t : TypeId) (w : World) (h : Bk w b t #[.int .i64 0, .int .i64 0]) :
    Calls Tryd.prog 27 #[.int .i64 5, .slice (some ⟨b, 0, none⟩) 2 2] w (Bel (.tuple #[.int .i64 0, .int .i64 0]) w) := by
  have k := apply_any (some ⟨b, 0, none⟩) 2 5 [0, 0] w (rd_blk h) (by decide)
  rw [show apV 5 [0, 0] = 0 by decide +kernel, show apE 5 [0, 0] = 0 by decide +kernel] at k
  exact k
theorem x_and01 (b : Nat) (t : TypeId) (w : World) (h : Bk w b t #[.int .i64 0, .int .i64 1]) :
    Calls Tryd.prog 27 #[.int .i64 3, .slice (some ⟨b, 0, none⟩) 2 2] w (Bel (.tuple #[.int .i64 0, .int .i64 0]) w) := by
  have k := apply_any (some ⟨b, 0, none⟩) 2 3 [0, 1] w (rd_blk h) (by decide)
  rw [show apV 3 [0, 1] = 0 by decide +kernel, show apE 3 [0, 1] = 0 by decide +kernel] at k
  exact k
theorem x_or01 (b : Nat) (t : TypeId) (w : World) (h : Bk w b t #[.int .i64 0, .int .i64 1]) :
    Calls Tryd.prog 27 #[.int .i64 4, .slice (some ⟨b, 0, none⟩) 2 2] w (Bel (.tuple #[.int .i64 1, .int .i64 0]) w) := by
  have k := apply_any (some ⟨b, 0, none⟩) 2 4 [0, 1] w (rd_blk h) (by decide)
  rw [show apV 4 [0, 1] = 1 by decide +kernel, show apE 4 [0, 1] = 0 by decide +kernel] at k
  exact k
theorem x_xor01 (b : Nat) (t : TypeId) (w : World) (h : Bk w b t #[.int .i64 0, .int .i64 1]) :
    Calls Tryd.prog 27 #[.int .i64 5, .slice (some ⟨b, 0, none⟩) 2 2] w (Bel (.tuple #[.int .i64 1, .int .i64 0]) w) := by
  have k := apply_any (some ⟨b, 0, none⟩) 2 5 [0, 1] w (rd_blk h) (by decide)
  rw [show apV 5 [0, 1] = 1 by decide +kernel, show apE 5 [0, 1] = 0 by decide +kernel] at k
  exact k
theorem x_not0 (b : Nat) (t : TypeId) (w : World) (h : Bk w b t #[.int .i64 0]) :
    Calls Tryd.prog 27 #[.int .i64 1, .slice (some ⟨b, 0, none⟩) 1 1] w (Bel (.tuple #[.int .i64 1, .int .i64 0]) w) := by
  have k := apply_any (some ⟨b, 0, none⟩) 1 1 [0] w (rd_blk h) (by decide)
  rw [show apV 1 [0] = 1 by decide +kernel, show apE 1 [0] = 0 by decide +kernel] at k
  exact k
theorem x_and10 (b : Nat) (t : TypeId) (w : World) (h : Bk w b t #[.int .i64 1, .int .i64 0]) :
    Calls Tryd.prog 27 #[.int .i64 3, .slice (some ⟨b, 0, none⟩) 2 2] w (Bel (.tuple #[.int .i64 0, .int .i64 0]) w) := by
  have k := apply_any (some ⟨b, 0, none⟩) 2 3 [1, 0] w (rd_blk h) (by decide)
  rw [show apV 3 [1, 0] = 0 by decide +kernel, show apE 3 [1, 0] = 0 by decide +kernel] at k
  exact k
theorem x_or10 (b : Nat) (t : TypeId) (w : World) (h : Bk w b t #[.int .i64 1, .int .i64 0]) :
    Calls Tryd.prog 27 #[.int .i64 4, .slice (some ⟨b, 0, none⟩) 2 2] w (Bel (.tuple #[.int .i64 1, .int .i64 0]) w) := by
  have k := apply_any (some ⟨b, 0, none⟩) 2 4 [1, 0] w (rd_blk h) (by decide)
  rw [show apV 4 [1, 0] = 1 by decide +kernel, show apE 4 [1, 0] = 0 by decide +kernel] at k
  exact k
theorem x_xor10 (b : Nat) (t : TypeId) (w : World) (h : Bk w b t #[.int .i64 1, .int .i64 0]) :
    Calls Tryd.prog 27 #[.int .i64 5, .slice (some ⟨b, 0, none⟩) 2 2] w (Bel (.tuple #[.int .i64 1, .int .i64 0]) w) := by
  have k := apply_any (some ⟨b, 0, none⟩) 2 5 [1, 0] w (rd_blk h) (by decide)
  rw [show apV 5 [1, 0] = 1 by decide +kernel, show apE 5 [1, 0] = 0 by decide +kernel] at k
  exact k
theorem x_and11 (b : Nat) (t : TypeId) (w : World) (h : Bk w b t #[.int .i64 1, .int .i64 1]) :
    Calls Tryd.prog 27 #[.int .i64 3, .slice (some ⟨b, 0, none⟩) 2 2] w (Bel (.tuple #[.int .i64 1, .int .i64 0]) w) := by
  have k := apply_any (some ⟨b, 0, none⟩) 2 3 [1, 1] w (rd_blk h) (by decide)
  rw [show apV 3 [1, 1] = 1 by decide +kernel, show apE 3 [1, 1] = 0 by decide +kernel] at k
  exact k
theorem x_or11 (b : Nat) (t : TypeId) (w : World) (h : Bk w b t #[.int .i64 1, .int .i64 1]) :
    Calls Tryd.prog 27 #[.int .i64 4, .slice (some ⟨b, 0, none⟩) 2 2] w (Bel (.tuple #[.int .i64 1, .int .i64 0]) w) := by
  have k := apply_any (some ⟨b, 0, none⟩) 2 4 [1, 1] w (rd_blk h) (by decide)
  rw [show apV 4 [1, 1] = 1 by decide +kernel, show apE 4 [1, 1] = 0 by decide +kernel] at k
  exact k
theorem x_xor11 (b : Nat) (t : TypeId) (w : World) (h : Bk w b t #[.int .i64 1, .int .i64 1]) :
    Calls Tryd.prog 27 #[.int .i64 5, .slice (some ⟨b, 0, none⟩) 2 2] w (Bel (.tuple #[.int .i64 0, .int .i64 0]) w) := by
  have k := apply_any (some ⟨b, 0, none⟩) 2 5 [1, 1] w (rd_blk h) (by decide)
  rw [show apV 5 [1, 1] = 0 by decide +kernel, show apE 5 [1, 1] = 0 by decide +kernel] at k
  exact k
theorem x_not1 (b : Nat) (t : TypeId) (w : World) (h : Bk w b t #[.int .i64 1]) :
    Calls Tryd.prog 27 #[.int .i64 1, .slice (some ⟨b, 0, none⟩) 1 1] w (Bel (.tuple #[.int .i64 0, .int .i64 0]) w) := by
  have k := apply_any (some ⟨b, 0, none⟩) 1 1 [1] w (rd_blk h) (by decide)
  rw [show apV 1 [1] = 0 by decide +kernel, show apE 1 [1] = 0 by decide +kernel] at k
  exact k
set_option maxHeartbeats 4000000 in
set_option maxRecDepth 100000 in
theorem words_in (a b : Int) (w : World) (hs : Std w) : Calls Tryd.prog 10 #[.int .i64 a, .int .i64 b] w (Bel (.bool true) w) := by
  have HS := Lib.hid hs
  have ha : -32768 ≤ w16 a ∧ w16 a ≤ 32767 := ⟨w16_lo a, w16_hi a⟩
  have hb : -32768 ≤ w16 b ∧ w16 b ≤ 32767 := ⟨w16_lo b, w16_hi b⟩
  have hwa := w16_in ha.1 ha.2
  have hwb := w16_in hb.1 hb.2
  have KT : ∀ op : Int, 6 ≤ op ∧ op ≤ 16 → ∀ w, Calls Tryd.prog 33 #[.int .i64 op, .int .i64 (w16 a), .int .i64 (w16 b)] w (Bel (.int .i64 (ap2 op (w16 a) (w16 b))) w) := fun op ho w => by
    rw [← two_at ho ha hb]; exact two_any op _ _ w
  obtain ⟨g13, g16, g15, g14, g11, g12, s1, s2, s3, s4⟩ := cmp_facts (w16 a) (w16 b)
  have K11 := KT 11 (by omega)
  have K12 := KT 12 (by omega)
  have K13 := KT 13 (by omega)
  have K14 := KT 14 (by omega)
  have K15 := KT 15 (by omega)
  have K16 := KT 16 (by omega)
  have K6 := KT 6 (by omega)
  have P6 := fun w => add_any (w16 a) (w16 b) w
  have K7 := KT 7 (by omega)
  have P7 := fun w => sub_any (w16 a) (w16 b) w
  have K8 := KT 8 (by omega)
  have P8 := fun w => mul_any (w16 a) (w16 b) w
  have K9 := KT 9 (by omega)
  have P9 := fun w => div_any (w16 a) (w16 b) w
  have K10 := KT 10 (by omega)
  have P10 := fun w => mod_any (w16 a) (w16 b) w
  have KN := fun w bl t (h : Bk w bl t #[.int .i64 (w16 a)]) => x_neg bl t (w16 a) w ha h
  have PN := fun w => neg_any (w16 a) w
  have KW := fun n w => wrap_any n w
  rw [show ap2 6 (w16 a) (w16 b) = w16 (w16 a + w16 b) from rfl] at K6
  rw [show ap2 7 (w16 a) (w16 b) = w16 (w16 a - w16 b) from rfl] at K7
  rw [show ap2 8 (w16 a) (w16 b) = w16 (w16 a * w16 b) from rfl] at K8
  rw [show ap2 9 (w16 a) (w16 b) = wdiv (w16 a) (w16 b) from rfl] at K9
  rw [show ap2 10 (w16 a) (w16 b) = wmod (w16 a) (w16 b) from rfl] at K10
  clear KT hs hwa hwb
  generalize w16 (w16 a + w16 b) = q6 at *
  generalize w16 (w16 a - w16 b) = q7 at *
  generalize w16 (w16 a * w16 b) = q8 at *
  generalize wdiv (w16 a) (w16 b) = q9 at *
  generalize wmod (w16 a) (w16 b) = q10 at *
  generalize w16 (-w16 a) = qn at *
  generalize ap2 11 (w16 a) (w16 b) = q11 at *
  generalize ap2 12 (w16 a) (w16 b) = q12 at *
  generalize ap2 13 (w16 a) (w16 b) = q13 at *
  generalize ap2 14 (w16 a) (w16 b) = q14 at *
  generalize ap2 15 (w16 a) (w16 b) = q15 at *
  generalize ap2 16 (w16 a) (w16 b) = q16 at *
  have t1 : (q13 + q16 != 1) = false := by rw [s1]; rfl
  have t2 : (q15 + q14 != 1) = false := by rw [s2]; rfl
  have t3 : (q11 + q12 != 1) = false := by rw [s3]; rfl
  have t4 : (q13 + q11 != q14) = false := by rw [s4]; simp
  obtain ⟨g13, g13'⟩ := g13
  obtain ⟨g16, g16'⟩ := g16
  obtain ⟨g15, g15'⟩ := g15
  obtain ⟨g14, g14'⟩ := g14
  obtain ⟨g11, g11'⟩ := g11
  obtain ⟨g12, g12'⟩ := g12
  clear s1 s2 s3 s4 ha hb
  have H6 := Lib.hid K6
  clear K6
  have H7 := Lib.hid K7
  clear K7
  have H8 := Lib.hid K8
  clear K8
  have H9 := Lib.hid K9
  clear K9
  have H10 := Lib.hid K10
  clear K10
  have H11 := Lib.hid K11
  clear K11
  have H12 := Lib.hid K12
  clear K12
  have H13 := Lib.hid K13
  clear K13
  have H14 := Lib.hid K14
  clear K14
  have H15 := Lib.hid K15
  clear K15
  have H16 := Lib.hid K16
  clear K16
  have R6 := Lib.hid P6
  clear P6
  have R7 := Lib.hid P7
  clear P7
  have R8 := Lib.hid P8
  clear P8
  have R9 := Lib.hid P9
  clear P9
  have R10 := Lib.hid P10
  clear P10
  have HN := Lib.hid KN
  have RN := Lib.hid PN
  clear KN PN
  go_enter Tryd.func10, Tryd.ntmps10
  go_wp2_with (first
    | (go_at_call 32; refine (KW _ _).mono ?_; rintro e w1 ⟨rfl, rfl⟩)
    | (go_at_call_of 33 (Value.int IntKind.i64 6); refine (H6.out _).mono ?_; rintro e w2 ⟨rfl, hb2⟩)
    | (go_at_call_of 33 (Value.int IntKind.i64 7); refine (H7.out _).mono ?_; rintro e w2 ⟨rfl, hb2⟩)
    | (go_at_call_of 33 (Value.int IntKind.i64 8); refine (H8.out _).mono ?_; rintro e w2 ⟨rfl, hb2⟩)
    | (go_at_call_of 33 (Value.int IntKind.i64 9); refine (H9.out _).mono ?_; rintro e w2 ⟨rfl, hb2⟩)
    | (go_at_call_of 33 (Value.int IntKind.i64 10); refine (H10.out _).mono ?_; rintro e w2 ⟨rfl, hb2⟩)
    | (go_at_call_of 33 (Value.int IntKind.i64 11); refine (H11.out _).mono ?_; rintro e w2 ⟨rfl, hb2⟩)
    | (go_at_call_of 33 (Value.int IntKind.i64 12); refine (H12.out _).mono ?_; rintro e w2 ⟨rfl, hb2⟩)
    | (go_at_call_of 33 (Value.int IntKind.i64 13); refine (H13.out _).mono ?_; rintro e w2 ⟨rfl, hb2⟩)
    | (go_at_call_of 33 (Value.int IntKind.i64 14); refine (H14.out _).mono ?_; rintro e w2 ⟨rfl, hb2⟩)
    | (go_at_call_of 33 (Value.int IntKind.i64 15); refine (H15.out _).mono ?_; rintro e w2 ⟨rfl, hb2⟩)
    | (go_at_call_of 33 (Value.int IntKind.i64 16); refine (H16.out _).mono ?_; rintro e w2 ⟨rfl, hb2⟩)
    | (go_at_call 34; refine (R6.out _).mono ?_; rintro e w3 ⟨rfl, rfl⟩)
    | (go_at_call 35; refine (R7.out _).mono ?_; rintro e w3 ⟨rfl, rfl⟩)
    | (go_at_call 36; refine (R8.out _).mono ?_; rintro e w3 ⟨rfl, rfl⟩)
    | (go_at_call 37; refine (R9.out _).mono ?_; rintro e w3 ⟨rfl, rfl⟩)
    | (go_at_call 38; refine (R10.out _).mono ?_; rintro e w3 ⟨rfl, rfl⟩)
    | (go_at_call 27; refine (HN.out _ _ _ (Bk.new _ _ _)).mono ?_; rintro e w4 ⟨rfl, hb4⟩)
    | (go_at_call 39; refine (RN.out _).mono ?_; rintro e w5 ⟨rfl, rfl⟩))
  clear H6 H7 H8 H9 H10 H11 H12 H13 H14 H15 H16 R6 R7 R8 R9 R10 HN RN KW t1 t2 t3 t4 g11 g12 g13 g14 g15 g16 g11' g12' g13' g14' g15' g16'
  have hbw : Below w.heap.size w _ := (by repeat (first | (with_reducible exact Below.refl _ _) | (with_reducible assumption) | (with_reducible exact bel_box _) | (with_reducible refine bel_step ?_ (by with_reducible assumption)) | (with_reducible refine Below.drew ?_) | (with_reducible refine below_drewN ?_ _) | (with_reducible refine bel_alloc ?_ _)))
  go_loopw [7] (fun x wr => ∃ k : Int, (0 ≤ k ∧ k ≤ 2) ∧ x = .int .i64 k ∧ Below w.heap.size w wr) (fun x _ => 2 - (intOf x).toNat)
  case atStart => exact ⟨0, ⟨by omega, by omega⟩, rfl, (by repeat (first | (with_reducible exact Below.refl _ _) | (with_reducible assumption) | (with_reducible exact bel_box _) | (with_reducible refine bel_step ?_ (by with_reducible assumption)) | (with_reducible refine Below.drew ?_) | (with_reducible refine below_drewN ?_ _) | (with_reducible refine bel_alloc ?_ _)))⟩
  case round =>
    obtain ⟨k, hk, rfl, hbl⟩ := hrel
    have hk3 : k = 0 ∨ k = 1 ∨ k = 2 := by omega
    rcases hk3 with rfl | rfl | rfl
    · go_wp2
      go_loopw [8] (fun y wr1 => ∃ j : Int, (0 ≤ j ∧ j ≤ 2) ∧ y = .int .i64 j ∧ Below w.heap.size w wr1) (fun y _ => 2 - (intOf y).toNat)
      case atStart => exact ⟨0, ⟨by omega, by omega⟩, rfl, (by repeat (first | (with_reducible exact Below.refl _ _) | (with_reducible assumption) | (with_reducible exact bel_box _) | (with_reducible refine bel_step ?_ (by with_reducible assumption)) | (with_reducible refine Below.drew ?_) | (with_reducible refine below_drewN ?_ _) | (with_reducible refine bel_alloc ?_ _)))⟩
      case round =>
        obtain ⟨j, hj, rfl, hbl2⟩ := hrel
        have hj3 : j = 0 ∨ j = 1 ∨ j = 2 := by omega
        rcases hj3 with rfl | rfl | rfl
        · go_wp2_with (first
            | (go_at_call_of 27 (Value.int IntKind.i64 3); refine (x_and00 _ _ _ (Bk.new _ _ _)).mono ?_; rintro e w3 ⟨rfl, hb3⟩)
            | (go_at_call_of 27 (Value.int IntKind.i64 4); refine (x_or11 _ _ _ (Bk.new _ _ _)).mono ?_; rintro e w4 ⟨rfl, hb4⟩)
            | (go_at_call_of 27 (Value.int IntKind.i64 1); refine (x_not0 _ _ _ (Bk.new _ _ _)).mono ?_; rintro e w1 ⟨rfl, hb1⟩)
            | (go_at_call_of 27 (Value.int IntKind.i64 5); refine (x_xor00 _ _ _ (Bk.new _ _ _)).mono ?_; rintro e w5 ⟨rfl, hb5⟩))
          go_roundw
          case rel => exact ⟨1, ⟨by omega, by omega⟩, rfl, (by repeat (first | (with_reducible exact Below.refl _ _) | (with_reducible assumption) | (with_reducible exact bel_box _) | (with_reducible refine bel_step ?_ (by with_reducible assumption)) | (with_reducible refine Below.drew ?_) | (with_reducible refine below_drewN ?_ _) | (with_reducible refine bel_alloc ?_ _)))⟩
          case measure => simp [intOf]
        · go_wp2_with (first
            | (go_at_call_of 27 (Value.int IntKind.i64 3); refine (x_and01 _ _ _ (Bk.new _ _ _)).mono ?_; rintro e w3 ⟨rfl, hb3⟩)
            | (go_at_call_of 27 (Value.int IntKind.i64 4); refine (x_or10 _ _ _ (Bk.new _ _ _)).mono ?_; rintro e w4 ⟨rfl, hb4⟩)
            | (go_at_call_of 27 (Value.int IntKind.i64 1); refine (x_not0 _ _ _ (Bk.new _ _ _)).mono ?_; rintro e w1 ⟨rfl, hb1⟩)
            | (go_at_call_of 27 (Value.int IntKind.i64 5); refine (x_xor01 _ _ _ (Bk.new _ _ _)).mono ?_; rintro e w5 ⟨rfl, hb5⟩))
          go_roundw
          case rel => exact ⟨2, ⟨by omega, by omega⟩, rfl, (by repeat (first | (with_reducible exact Below.refl _ _) | (with_reducible assumption) | (with_reducible exact bel_box _) | (with_reducible refine bel_step ?_ (by with_reducible assumption)) | (with_reducible refine Below.drew ?_) | (with_reducible refine below_drewN ?_ _) | (with_reducible refine bel_alloc ?_ _)))⟩
          case measure => simp [intOf]
        · go_wp2
          go_roundw
          case rel => exact ⟨1, ⟨by omega, by omega⟩, rfl, (by repeat (first | (with_reducible exact Below.refl _ _) | (with_reducible assumption) | (with_reducible exact bel_box _) | (with_reducible refine bel_step ?_ (by with_reducible assumption)) | (with_reducible refine Below.drew ?_) | (with_reducible refine below_drewN ?_ _) | (with_reducible refine bel_alloc ?_ _)))⟩
          case measure => simp [intOf]
    · go_wp2
      go_loopw [8] (fun y wr1 => ∃ j : Int, (0 ≤ j ∧ j ≤ 2) ∧ y = .int .i64 j ∧ Below w.heap.size w wr1) (fun y _ => 2 - (intOf y).toNat)
      case atStart => exact ⟨0, ⟨by omega, by omega⟩, rfl, (by repeat (first | (with_reducible exact Below.refl _ _) | (with_reducible assumption) | (with_reducible exact bel_box _) | (with_reducible refine bel_step ?_ (by with_reducible assumption)) | (with_reducible refine Below.drew ?_) | (with_reducible refine below_drewN ?_ _) | (with_reducible refine bel_alloc ?_ _)))⟩
      case round =>
        obtain ⟨j, hj, rfl, hbl2⟩ := hrel
        have hj3 : j = 0 ∨ j = 1 ∨ j = 2 := by omega
        rcases hj3 with rfl | rfl | rfl
        · go_wp2_with (first
            | (go_at_call_of 27 (Value.int IntKind.i64 3); refine (x_and10 _ _ _ (Bk.new _ _ _)).mono ?_; rintro e w3 ⟨rfl, hb3⟩)
            | (go_at_call_of 27 (Value.int IntKind.i64 4); refine (x_or01 _ _ _ (Bk.new _ _ _)).mono ?_; rintro e w4 ⟨rfl, hb4⟩)
            | (go_at_call_of 27 (Value.int IntKind.i64 1); refine (x_not0 _ _ _ (Bk.new _ _ _)).mono ?_; rintro e w1 ⟨rfl, hb1⟩)
            | (go_at_call_of 27 (Value.int IntKind.i64 5); refine (x_xor10 _ _ _ (Bk.new _ _ _)).mono ?_; rintro e w5 ⟨rfl, hb5⟩))
          go_roundw
          case rel => exact ⟨1, ⟨by omega, by omega⟩, rfl, (by repeat (first | (with_reducible exact Below.refl _ _) | (with_reducible assumption) | (with_reducible exact bel_box _) | (with_reducible refine bel_step ?_ (by with_reducible assumption)) | (with_reducible refine Below.drew ?_) | (with_reducible refine below_drewN ?_ _) | (with_reducible refine bel_alloc ?_ _)))⟩
          case measure => simp [intOf]
        · go_wp2_with (first
            | (go_at_call_of 27 (Value.int IntKind.i64 3); refine (x_and11 _ _ _ (Bk.new _ _ _)).mono ?_; rintro e w3 ⟨rfl, hb3⟩)
            | (go_at_call_of 27 (Value.int IntKind.i64 4); refine (x_or00 _ _ _ (Bk.new _ _ _)).mono ?_; rintro e w4 ⟨rfl, hb4⟩)
            | (go_at_call_of 27 (Value.int IntKind.i64 1); refine (x_not1 _ _ _ (Bk.new _ _ _)).mono ?_; rintro e w1 ⟨rfl, hb1⟩)
            | (go_at_call_of 27 (Value.int IntKind.i64 5); refine (x_xor11 _ _ _ (Bk.new _ _ _)).mono ?_; rintro e w5 ⟨rfl, hb5⟩))
          go_roundw
          case rel => exact ⟨2, ⟨by omega, by omega⟩, rfl, (by repeat (first | (with_reducible exact Below.refl _ _) | (with_reducible assumption) | (with_reducible exact bel_box _) | (with_reducible refine bel_step ?_ (by with_reducible assumption)) | (with_reducible refine Below.drew ?_) | (with_reducible refine below_drewN ?_ _) | (with_reducible refine bel_alloc ?_ _)))⟩
          case measure => simp [intOf]
        · go_wp2
          go_roundw
          case rel => exact ⟨2, ⟨by omega, by omega⟩, rfl, (by repeat (first | (with_reducible exact Below.refl _ _) | (with_reducible assumption) | (with_reducible exact bel_box _) | (with_reducible refine bel_step ?_ (by with_reducible assumption)) | (with_reducible refine Below.drew ?_) | (with_reducible refine below_drewN ?_ _) | (with_reducible refine bel_alloc ?_ _)))⟩
          case measure => simp [intOf]
    · go_wp2_with (go_at_call 12; refine (awake_any _ (HS.out.to ?_)).mono ?_; (focus ((repeat (first | (with_reducible exact Below.refl _ _) | (with_reducible assumption) | (with_reducible exact bel_box _) | (with_reducible refine bel_step ?_ (by with_reducible assumption)) | (with_reducible refine Below.drew ?_) | (with_reducible refine below_drewN ?_ _) | (with_reducible refine bel_alloc ?_ _))); done)); rintro e w9 ⟨rfl, hb9⟩)
      go_ret
      exact ⟨rfl, (by repeat (first | (with_reducible exact Below.refl _ _) | (with_reducible assumption) | (with_reducible exact bel_box _) | (with_reducible refine bel_step ?_ (by with_reducible assumption)) | (with_reducible refine Below.drew ?_) | (with_reducible refine below_drewN ?_ _) | (with_reducible refine bel_alloc ?_ _)))⟩
theorem words_any (a b : Int) (w : World) (hs : Std w) : Calls Tryd.prog 10 #[.int .i64 a, .int .i64 b] w (Bel (.bool true) w) := words_in a b w hs
end Go.Proofs.YtjlkgejkgpnnkaaDoor
