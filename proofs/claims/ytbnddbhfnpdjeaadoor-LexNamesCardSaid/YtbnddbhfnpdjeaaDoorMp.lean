/- The walk of LexNames. -/
import Derived.Test.YtbnddbhfnpdjeaaDoorMn
namespace Go.Proofs.YtbnddbhfnpdjeaaDoor
set_option linter.unusedVariables false
set_option linter.unusedSimpArgs false
open Go.RowKit
/-- what Scan answers at a text, in five cases -/
theorem names_cases (s : ByteArray) (h9 : s.size ≤ 65536) (w : World) (hs : Std w) :
    (idP s = true ∧ Hid (∀ W, Below w.heap.size w W → Calls Tryd.prog 9 #[.string s] W (fun e w' => ∃ ad c, e = .returned (.tuple #[.slice (some ad) 1 c, .int .i64 0, .int .i64 0]) ∧ w'.cell? ad = some (.int .i64 1) ∧ w'.cell? ⟨ad.block, ad.off + 1, none⟩ = some (.string s) ∧ Below W.heap.size W w'))) ∨
    (idP s = false ∧ ∃ n er, er ≠ 0 ∧ Hid (∀ W, Below w.heap.size w W → Calls Tryd.prog 9 #[.string s] W (fun e w' => ∃ A c, e = .returned (.tuple #[.slice A 0 c, .int .i64 n, .int .i64 er]) ∧ Below W.heap.size W w'))) ∨
    (idP s = false ∧ ∃ (m : Nat), m ≠ 1 ∧ m ≤ 65536 ∧ Hid (∀ W, Below w.heap.size w W → Calls Tryd.prog 9 #[.string s] W (fun e w' => ∃ A c, e = .returned (.tuple #[.slice A m c, .int .i64 0, .int .i64 0]) ∧ Below W.heap.size W w'))) ∨
    (idP s = false ∧ ∃ a tx, (a ≠ 1 ∨ a = 1 ∧ tx ≠ s) ∧ Hid (∀ W, Below w.heap.size w W → Calls Tryd.prog 9 #[.string s] W (fun e w' => ∃ ad c, e = .returned (.tuple #[.slice (some ad) 1 c, .int .i64 0, .int .i64 0]) ∧ w'.cell? ad = some (.int .i64 a) ∧ w'.cell? ⟨ad.block, ad.off + 1, none⟩ = some (.string tx) ∧ Below W.heap.size W w'))) := by
  have hsc := fun W hb => scan_is s W (hs.to (w' := W) hb) h9
  have hln := scan_len s.data.toList 0
  rw [len_toList] at hln
  have one : ∀ a tx p, (scanL s.data.toList 0) = ([(a, tx, p)], 0, 0) → ∀ W, Below w.heap.size w W → Calls Tryd.prog 9 #[.string s] W (fun e w' => ∃ ad c, e = .returned (.tuple #[.slice (some ad) 1 c, .int .i64 0, .int .i64 0]) ∧ w'.cell? ad = some (.int .i64 a) ∧ w'.cell? ⟨ad.block, ad.off + 1, none⟩ = some (.string tx) ∧ Below W.heap.size W w') := by
    intro a tx p h W hb
    have := hsc W hb
    rw [h] at this
    refine this.mono fun e w' ⟨A, c, h1, h2, h3⟩ => ?_
    obtain ⟨ad, t, rfl, b1, b2, b3, b4, b5⟩ := h2.at_ (k := 0) (by simp)
    obtain rfl : (a, tx, p) = t := by simpa using b2
    exact ⟨ad, c, h1, by simpa [Addr.add] using b3, by simpa [Addr.add] using b4, h3⟩
  by_cases hid : idP s = true
  · exact .inl ⟨hid, Lib.hid (one 1 s 0 (idP_scan hid))⟩
  · have hid' : idP s = false := by rwa [Bool.not_eq_true] at hid
    refine .inr ?_
    by_cases he : (scanL s.data.toList 0).2.2 = 0
    · have hp := scan_ok _ _ he
      obtain ⟨⟨T, n, er⟩, hT⟩ : ∃ x, scanL s.data.toList 0 = x := ⟨_, rfl⟩
      rw [hT] at he hp hln
      simp only at he hp
      subst he; subst hp
      refine .inr ?_
      by_cases h1 : T.length = 1
      · obtain ⟨⟨a, tx, p⟩, rfl⟩ := List.length_eq_one_iff.1 h1
        refine .inr ⟨hid', a, tx, ?_, Lib.hid (one a tx p hT)⟩
        by_cases ha : a = 1
        · subst ha
          refine .inr ⟨rfl, ?_⟩
          rintro rfl
          exact hid (scan_idP hT)
        · exact .inl ha
      · refine .inl ⟨hid', T.length, h1, by simp only at hln; omega, Lib.hid fun W hb => ?_⟩
        have := hsc W hb
        rw [hT] at this
        exact this.mono fun e w' ⟨A, c, h1, h2, h3⟩ => ⟨A, c, h1, h3⟩
    · refine .inl ⟨hid', (scanL s.data.toList 0).2.1, (scanL s.data.toList 0).2.2, he, Lib.hid fun W hb => ?_⟩
      have := hsc W hb
      unfold ScR at this
      rw [scanL_none _ _ he] at this
      exact this.mono fun e w' ⟨A, c, h1, h2, h3⟩ => ⟨A, c, h1, h3⟩
set_option maxHeartbeats 2000000 in
set_option maxRecDepth 20000 in
theorem names_any (s : ByteArray) (w : World) (hs : Std w) : Calls Tryd.prog 5 #[.string s] w (Bel (.bool true) w) := by
  have HS := Lib.hid hs
  by_cases hb : 200 < s.size
  · have h1 : (200 : Int) < (s.size : Int) := by omega
    clear hs hb
    go_enter Tryd.func5, Tryd.ntmps5
    go_wp2_with (go_at_call 12; (with_reducible refine (lives_any _ (HS.out.to ?_)).mono ?_); (focus ((repeat (first | (with_reducible exact Below.refl _ _) | (with_reducible assumption) | (with_reducible exact bel_box _) | (with_reducible refine bel_step ?_ (by with_reducible assumption)) | (with_reducible refine Below.drew ?_) | (with_reducible refine below_drewN ?_ _) | (with_reducible refine bel_alloc ?_ _))); done)); rintro e w4 ⟨rfl, hb4⟩)
    go_ret
    exact ⟨rfl, (by repeat (first | (with_reducible exact Below.refl _ _) | (with_reducible assumption) | (with_reducible exact bel_box _) | (with_reducible refine bel_step ?_ (by with_reducible assumption)) | (with_reducible refine Below.drew ?_) | (with_reducible refine below_drewN ?_ _) | (with_reducible refine bel_alloc ?_ _)))⟩
  · have h1 : (s.size : Int) ≤ 200 := by omega
    have hc := names_cases s (by omega) w hs
    have KI : Hid (∀ W, Below w.heap.size w W → Calls Tryd.prog 15 #[.string s] W (Bel (.bool (idP s)) W)) := Lib.hid fun W hb => ident_any s W (hs.to hb) (by omega)
    have KR : Hid (∀ W, Calls Tryd.prog 16 #[.string s] W (Bel (.bool (idP s)) W)) := Lib.hid fun W => by rw [id_eq]; exact rident_any s W (by omega)
    have KK := Lib.hid (keyword_any s)
    have KL := Lib.hid (rkeyword_any s)
    clear hs hb
    obtain ⟨kb, hkb⟩ : ∃ b, isKw s = b := ⟨_, rfl⟩
    rw [hkb] at KK KL
    clear hkb
    rcases hc with ⟨hid, K1⟩ | ⟨hid, n, er, he, K1⟩ | ⟨hid, m, hm, hm2, K1⟩ | ⟨hid, a, tx, hat, K1⟩
    · rw [hid] at KI KR
      have e1 : (s.toList == s.toList) = true := by simp
      cases kb
      all_goals
        go_enter Tryd.func5, Tryd.ntmps5
        go_wp2_with (first
          | (go_at_call 15; (with_reducible refine (KI.out _ ?_).mono ?_); (focus ((repeat (first | (with_reducible exact Below.refl _ _) | (with_reducible assumption) | (with_reducible exact bel_box _) | (with_reducible refine bel_step ?_ (by with_reducible assumption)) | (with_reducible refine Below.drew ?_) | (with_reducible refine below_drewN ?_ _) | (with_reducible refine bel_alloc ?_ _))); done)); rintro e w1 ⟨rfl, hb1⟩)
          | (go_at_call 16; (with_reducible refine (KR.out _).mono ?_); rintro e w2 ⟨rfl, hb2⟩)
          | (go_at_call 17; (with_reducible refine (KK.out _).mono ?_); rintro e w3 ⟨rfl, hb3⟩)
          | (go_at_call 18; (with_reducible refine (KL.out _).mono ?_); rintro e w4 ⟨rfl, hb4⟩)
          | (go_at_call 9; (with_reducible refine (K1.out _ ?_).mono ?_); (focus ((repeat (first | (with_reducible exact Below.refl _ _) | (with_reducible assumption) | (with_reducible exact bel_box _) | (with_reducible refine bel_step ?_ (by with_reducible assumption)) | (with_reducible refine Below.drew ?_) | (with_reducible refine below_drewN ?_ _) | (with_reducible refine bel_alloc ?_ _))); done)); rintro e w5 ⟨ad, c, rfl, hx, hy, hb5⟩)
          | (go_at_call 12; (with_reducible refine (lives_any _ (HS.out.to ?_)).mono ?_); (focus ((repeat (first | (with_reducible exact Below.refl _ _) | (with_reducible assumption) | (with_reducible exact bel_box _) | (with_reducible refine bel_step ?_ (by with_reducible assumption)) | (with_reducible refine Below.drew ?_) | (with_reducible refine below_drewN ?_ _) | (with_reducible refine bel_alloc ?_ _))); done)); rintro e w6 ⟨rfl, hb6⟩))
        go_ret
        exact ⟨rfl, (by repeat (first | (with_reducible exact Below.refl _ _) | (with_reducible assumption) | (with_reducible exact bel_box _) | (with_reducible refine bel_step ?_ (by with_reducible assumption)) | (with_reducible refine Below.drew ?_) | (with_reducible refine below_drewN ?_ _) | (with_reducible refine bel_alloc ?_ _)))⟩
    · rw [hid] at KI KR
      have e1 : (er == 0) = false := by simpa using he
      cases kb
      all_goals
        go_enter Tryd.func5, Tryd.ntmps5
        go_wp2_with (first
          | (go_at_call 15; (with_reducible refine (KI.out _ ?_).mono ?_); (focus ((repeat (first | (with_reducible exact Below.refl _ _) | (with_reducible assumption) | (with_reducible exact bel_box _) | (with_reducible refine bel_step ?_ (by with_reducible assumption)) | (with_reducible refine Below.drew ?_) | (with_reducible refine below_drewN ?_ _) | (with_reducible refine bel_alloc ?_ _))); done)); rintro e w1 ⟨rfl, hb1⟩)
          | (go_at_call 16; (with_reducible refine (KR.out _).mono ?_); rintro e w2 ⟨rfl, hb2⟩)
          | (go_at_call 17; (with_reducible refine (KK.out _).mono ?_); rintro e w3 ⟨rfl, hb3⟩)
          | (go_at_call 18; (with_reducible refine (KL.out _).mono ?_); rintro e w4 ⟨rfl, hb4⟩)
          | (go_at_call 9; (with_reducible refine (K1.out _ ?_).mono ?_); (focus ((repeat (first | (with_reducible exact Below.refl _ _) | (with_reducible assumption) | (with_reducible exact bel_box _) | (with_reducible refine bel_step ?_ (by with_reducible assumption)) | (with_reducible refine Below.drew ?_) | (with_reducible refine below_drewN ?_ _) | (with_reducible refine bel_alloc ?_ _))); done)); rintro e w5 ⟨A, c, rfl, hb5⟩)
          | (go_at_call 12; (with_reducible refine (lives_any _ (HS.out.to ?_)).mono ?_); (focus ((repeat (first | (with_reducible exact Below.refl _ _) | (with_reducible assumption) | (with_reducible exact bel_box _) | (with_reducible refine bel_step ?_ (by with_reducible assumption)) | (with_reducible refine Below.drew ?_) | (with_reducible refine below_drewN ?_ _) | (with_reducible refine bel_alloc ?_ _))); done)); rintro e w6 ⟨rfl, hb6⟩))
        go_ret
        exact ⟨rfl, (by repeat (first | (with_reducible exact Below.refl _ _) | (with_reducible assumption) | (with_reducible exact bel_box _) | (with_reducible refine bel_step ?_ (by with_reducible assumption)) | (with_reducible refine Below.drew ?_) | (with_reducible refine below_drewN ?_ _) | (with_reducible refine bel_alloc ?_ _)))⟩
    · rw [hid] at KI KR
      have e1 : ((m : Int) == 1) = false := by rw [beq_eq_false_iff_ne]; omega
      cases kb
      all_goals
        go_enter Tryd.func5, Tryd.ntmps5
        go_wp2_with (first
          | (go_at_call 15; (with_reducible refine (KI.out _ ?_).mono ?_); (focus ((repeat (first | (with_reducible exact Below.refl _ _) | (with_reducible assumption) | (with_reducible exact bel_box _) | (with_reducible refine bel_step ?_ (by with_reducible assumption)) | (with_reducible refine Below.drew ?_) | (with_reducible refine below_drewN ?_ _) | (with_reducible refine bel_alloc ?_ _))); done)); rintro e w1 ⟨rfl, hb1⟩)
          | (go_at_call 16; (with_reducible refine (KR.out _).mono ?_); rintro e w2 ⟨rfl, hb2⟩)
          | (go_at_call 17; (with_reducible refine (KK.out _).mono ?_); rintro e w3 ⟨rfl, hb3⟩)
          | (go_at_call 18; (with_reducible refine (KL.out _).mono ?_); rintro e w4 ⟨rfl, hb4⟩)
          | (go_at_call 9; (with_reducible refine (K1.out _ ?_).mono ?_); (focus ((repeat (first | (with_reducible exact Below.refl _ _) | (with_reducible assumption) | (with_reducible exact bel_box _) | (with_reducible refine bel_step ?_ (by with_reducible assumption)) | (with_reducible refine Below.drew ?_) | (with_reducible refine below_drewN ?_ _) | (with_reducible refine bel_alloc ?_ _))); done)); rintro e w5 ⟨A, c, rfl, hb5⟩)
          | (go_at_call 12; (with_reducible refine (lives_any _ (HS.out.to ?_)).mono ?_); (focus ((repeat (first | (with_reducible exact Below.refl _ _) | (with_reducible assumption) | (with_reducible exact bel_box _) | (with_reducible refine bel_step ?_ (by with_reducible assumption)) | (with_reducible refine Below.drew ?_) | (with_reducible refine below_drewN ?_ _) | (with_reducible refine bel_alloc ?_ _))); done)); rintro e w6 ⟨rfl, hb6⟩))
        go_ret
        exact ⟨rfl, (by repeat (first | (with_reducible exact Below.refl _ _) | (with_reducible assumption) | (with_reducible exact bel_box _) | (with_reducible refine bel_step ?_ (by with_reducible assumption)) | (with_reducible refine Below.drew ?_) | (with_reducible refine below_drewN ?_ _) | (with_reducible refine bel_alloc ?_ _)))⟩
    · rw [hid] at KI KR
      rcases hat with ha | ⟨rfl, ha⟩
      · have e1 : (a == 1) = false := by simpa using ha
        cases kb
        all_goals
          go_enter Tryd.func5, Tryd.ntmps5
          go_wp2_with (first
            | (go_at_call 15; (with_reducible refine (KI.out _ ?_).mono ?_); (focus ((repeat (first | (with_reducible exact Below.refl _ _) | (with_reducible assumption) | (with_reducible exact bel_box _) | (with_reducible refine bel_step ?_ (by with_reducible assumption)) | (with_reducible refine Below.drew ?_) | (with_reducible refine below_drewN ?_ _) | (with_reducible refine bel_alloc ?_ _))); done)); rintro e w1 ⟨rfl, hb1⟩)
            | (go_at_call 16; (with_reducible refine (KR.out _).mono ?_); rintro e w2 ⟨rfl, hb2⟩)
            | (go_at_call 17; (with_reducible refine (KK.out _).mono ?_); rintro e w3 ⟨rfl, hb3⟩)
            | (go_at_call 18; (with_reducible refine (KL.out _).mono ?_); rintro e w4 ⟨rfl, hb4⟩)
            | (go_at_call 9; (with_reducible refine (K1.out _ ?_).mono ?_); (focus ((repeat (first | (with_reducible exact Below.refl _ _) | (with_reducible assumption) | (with_reducible exact bel_box _) | (with_reducible refine bel_step ?_ (by with_reducible assumption)) | (with_reducible refine Below.drew ?_) | (with_reducible refine below_drewN ?_ _) | (with_reducible refine bel_alloc ?_ _))); done)); rintro e w5 ⟨ad, c, rfl, hx, hy, hb5⟩)
            | (go_at_call 12; (with_reducible refine (lives_any _ (HS.out.to ?_)).mono ?_); (focus ((repeat (first | (with_reducible exact Below.refl _ _) | (with_reducible assumption) | (with_reducible exact bel_box _) | (with_reducible refine bel_step ?_ (by with_reducible assumption)) | (with_reducible refine Below.drew ?_) | (with_reducible refine below_drewN ?_ _) | (with_reducible refine bel_alloc ?_ _))); done)); rintro e w6 ⟨rfl, hb6⟩))
          go_ret
          exact ⟨rfl, (by repeat (first | (with_reducible exact Below.refl _ _) | (with_reducible assumption) | (with_reducible exact bel_box _) | (with_reducible refine bel_step ?_ (by with_reducible assumption)) | (with_reducible refine Below.drew ?_) | (with_reducible refine below_drewN ?_ _) | (with_reducible refine bel_alloc ?_ _)))⟩
      · have e1 : (tx.toList == s.toList) = false := by
          rw [beq_eq_false_iff_ne]
          intro e
          exact ha (ba_ext (by rw [← ByteArray.toList_eq, ← ByteArray.toList_eq]; exact e))
        cases kb
        all_goals
          go_enter Tryd.func5, Tryd.ntmps5
          go_wp2_with (first
            | (go_at_call 15; (with_reducible refine (KI.out _ ?_).mono ?_); (focus ((repeat (first | (with_reducible exact Below.refl _ _) | (with_reducible assumption) | (with_reducible exact bel_box _) | (with_reducible refine bel_step ?_ (by with_reducible assumption)) | (with_reducible refine Below.drew ?_) | (with_reducible refine below_drewN ?_ _) | (with_reducible refine bel_alloc ?_ _))); done)); rintro e w1 ⟨rfl, hb1⟩)
            | (go_at_call 16; (with_reducible refine (KR.out _).mono ?_); rintro e w2 ⟨rfl, hb2⟩)
            | (go_at_call 17; (with_reducible refine (KK.out _).mono ?_); rintro e w3 ⟨rfl, hb3⟩)
            | (go_at_call 18; (with_reducible refine (KL.out _).mono ?_); rintro e w4 ⟨rfl, hb4⟩)
            | (go_at_call 9; (with_reducible refine (K1.out _ ?_).mono ?_); (focus ((repeat (first | (with_reducible exact Below.refl _ _) | (with_reducible assumption) | (with_reducible exact bel_box _) | (with_reducible refine bel_step ?_ (by with_reducible assumption)) | (with_reducible refine Below.drew ?_) | (with_reducible refine below_drewN ?_ _) | (with_reducible refine bel_alloc ?_ _))); done)); rintro e w5 ⟨ad, c, rfl, hx, hy, hb5⟩)
            | (go_at_call 12; (with_reducible refine (lives_any _ (HS.out.to ?_)).mono ?_); (focus ((repeat (first | (with_reducible exact Below.refl _ _) | (with_reducible assumption) | (with_reducible exact bel_box _) | (with_reducible refine bel_step ?_ (by with_reducible assumption)) | (with_reducible refine Below.drew ?_) | (with_reducible refine below_drewN ?_ _) | (with_reducible refine bel_alloc ?_ _))); done)); rintro e w6 ⟨rfl, hb6⟩))
          go_ret
          exact ⟨rfl, (by repeat (first | (with_reducible exact Below.refl _ _) | (with_reducible assumption) | (with_reducible exact bel_box _) | (with_reducible refine bel_step ?_ (by with_reducible assumption)) | (with_reducible refine Below.drew ?_) | (with_reducible refine below_drewN ?_ _) | (with_reducible refine bel_alloc ?_ _)))⟩
end Go.Proofs.YtbnddbhfnpdjeaaDoor
