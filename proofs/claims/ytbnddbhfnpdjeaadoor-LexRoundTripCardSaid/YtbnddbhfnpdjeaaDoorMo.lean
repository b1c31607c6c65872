/- The walk of LexRoundTrip. -/
import Derived.Test.YtbnddbhfnpdjeaaDoorMn
namespace Go.Proofs.YtbnddbhfnpdjeaaDoor
set_option linter.unusedVariables false
set_option linter.unusedSimpArgs false
open Go.RowKit
/-- all that the law asks at one text -/
theorem trip (q : ByteArray) (hq : q.size ≤ 3000) (w : World) (hs : Std w) : ∃ (T : List Tk) (n : Nat) (er : Int),
    Hid (∀ W, Below w.heap.size w W → Calls Tryd.prog 9 #[.string q] W (fun e w' => ∃ A c, e = .returned (.tuple #[.slice A T.length c, .int .i64 n, .int .i64 er]) ∧ RdT w' w'.heap.size A T ∧ Below W.heap.size W w')) ∧
    (er ≠ 0 ∧ T = [] ∧ n < q.size ∨ er = 0 ∧ ∃ (j : ByteArray) (U : List Tk), T.length ≤ 65536 ∧ U.length ≤ 65536 ∧ sameT false T U = true ∧
      Hid (∀ (A : Option Addr) (c : Nat) W, RdT W W.heap.size A T → Calls Tryd.prog 13 #[.slice A T.length c] W (Bel (.string j) W)) ∧
      Hid (∀ W, Below w.heap.size w W → Calls Tryd.prog 9 #[.string j] W (fun e w' => ∃ A c, e = .returned (.tuple #[.slice A U.length c, .int .i64 0, .int .i64 0]) ∧ RdT w' w'.heap.size A U ∧ Below W.heap.size W w'))) := by
  refine ⟨(scanL q.data.toList 0).1, (scanL q.data.toList 0).2.1, (scanL q.data.toList 0).2.2, Lib.hid fun W hb => scan_is q W (hs.to hb) (by omega), ?_⟩
  by_cases he : (scanL q.data.toList 0).2.2 = 0
  · refine .inr ⟨he, jn (scanL q.data.toList 0).1 (scanL q.data.toList 0).1.length, (scanL (jl (scanL q.data.toList 0).1) 0).1, ?_⟩
    have hl := scan_len q.data.toList 0
    have ht := scan_text q.data.toList 0
    have hg := scan_good q.data.toList 0
    have hj := jl_len q.data.toList 0
    rw [len_toList] at hl hj
    simp only [len_toList] at ht
    generalize (scanL q.data.toList 0).1 = T at *
    have hl2 := scan_len (jl T) 0
    obtain ⟨r1, r2⟩ := good_scan T hg 0
    refine ⟨by omega, by omega, r2, Lib.hid fun A c W h => join_any A c T W h (by omega) (fun t h => by have := ht t h; omega), Lib.hid fun W hb => ?_⟩
    have := scan_is (jn T T.length) W (hs.to hb) (by rw [← len_toList, jn_all]; omega)
    rw [jn_all] at this
    unfold ScR at this
    rw [r1] at this
    exact this
  · refine .inl ⟨he, scanL_none _ _ he, ?_⟩
    have := (scan_place q.data.toList 0 he).2
    rw [len_toList] at this
    omega
set_option maxHeartbeats 1000000 in
set_option maxRecDepth 20000 in
theorem roundtrip_any (s : ByteArray) (w : World) (hs : Std w) : Calls Tryd.prog 6 #[.string s] w (Bel (.bool true) w) := by
  have HS := Lib.hid hs
  by_cases hb : 3000 < s.size
  · obtain ⟨T, n, er, K1, ht⟩ := trip (s.extract 0 3000) (by rw [ByteArray.size_extract]; omega) w hs
    have hz : (s.extract 0 3000).size = 3000 := by rw [ByteArray.size_extract]; omega
    have h1 : (3000 : Int) < (s.size : Int) := by omega
    have h2 : (3000 : Int) ≤ (s.size : Int) := by omega
    rcases ht with ⟨he, rfl, hn⟩ | ⟨rfl, j, U, hT, hU, hsm, K2, K3⟩
    · have he2 : (er != 0) = true := by simpa using he
      rw [hz] at hn
      have h3 : (n : Int) < 3000 := by omega
      have h4 : (0 : Int) ≤ (n : Int) := by omega
      have hz2 : (((s.extract 0 3000).size : Nat) : Int) = 3000 := by rw [hz]; rfl
      clear hs hb he
      go_enter Tryd.func6, Tryd.ntmps6
      go_wp2_with (first
        | (go_at_call 9; (with_reducible refine (K1.out _ ?_).mono ?_); (focus ((repeat (first | (with_reducible exact Below.refl _ _) | (with_reducible assumption) | (with_reducible exact bel_box _) | (with_reducible refine bel_step ?_ (by with_reducible assumption)) | (with_reducible refine Below.drew ?_) | (with_reducible refine below_drewN ?_ _) | (with_reducible refine bel_alloc ?_ _))); done)); rintro e w1 ⟨A1, c1, rfl, hT1, hb1⟩; clear hT1)
        | (go_at_call 12; (with_reducible refine (lives_any _ (HS.out.to ?_)).mono ?_); (focus ((repeat (first | (with_reducible exact Below.refl _ _) | (with_reducible assumption) | (with_reducible exact bel_box _) | (with_reducible refine bel_step ?_ (by with_reducible assumption)) | (with_reducible refine Below.drew ?_) | (with_reducible refine below_drewN ?_ _) | (with_reducible refine bel_alloc ?_ _))); done)); rintro e w4 ⟨rfl, hb4⟩))
      go_ret
      exact ⟨rfl, (by repeat (first | (with_reducible exact Below.refl _ _) | (with_reducible assumption) | (with_reducible exact bel_box _) | (with_reducible refine bel_step ?_ (by with_reducible assumption)) | (with_reducible refine Below.drew ?_) | (with_reducible refine below_drewN ?_ _) | (with_reducible refine bel_alloc ?_ _)))⟩
    · have KM := k_same false T U hT hU
      rw [hsm] at KM
      clear hs hb hT hU hsm
      go_enter Tryd.func6, Tryd.ntmps6
      go_wp2_with (first
        | (go_at_call 9; (with_reducible refine (K1.out _ ?_).mono ?_); (focus ((repeat (first | (with_reducible exact Below.refl _ _) | (with_reducible assumption) | (with_reducible exact bel_box _) | (with_reducible refine bel_step ?_ (by with_reducible assumption)) | (with_reducible refine Below.drew ?_) | (with_reducible refine below_drewN ?_ _) | (with_reducible refine bel_alloc ?_ _))); done)); rintro e w1 ⟨A1, c1, rfl, hT1, hb1⟩; have HT1 := Lib.hid hT1; clear hT1)
        | (go_at_call 13; (with_reducible refine (K2.out _ _ _ ?_).mono ?_); (focus (exact HT1.out.to (by repeat (first | (with_reducible exact Below.refl _ _) | (with_reducible assumption) | (with_reducible exact bel_box _) | (with_reducible refine bel_step ?_ (by with_reducible assumption)) | (with_reducible refine Below.drew ?_) | (with_reducible refine below_drewN ?_ _) | (with_reducible refine bel_alloc ?_ _))); done)); rintro e w2 ⟨rfl, hb2⟩)
        | (go_at_call 9; (with_reducible refine (K3.out _ ?_).mono ?_); (focus ((repeat (first | (with_reducible exact Below.refl _ _) | (with_reducible assumption) | (with_reducible exact bel_box _) | (with_reducible refine bel_step ?_ (by with_reducible assumption)) | (with_reducible refine Below.drew ?_) | (with_reducible refine below_drewN ?_ _) | (with_reducible refine bel_alloc ?_ _))); done)); rintro e w3 ⟨A3, c3, rfl, hT3, hb3⟩; have HT3 := Lib.hid hT3; clear hT3)
        | (go_at_call 11; (with_reducible refine (KM.out _ _ _ _ _ ?_ ?_).mono ?_); (focus (exact HT1.out.to (by repeat (first | (with_reducible exact Below.refl _ _) | (with_reducible assumption) | (with_reducible exact bel_box _) | (with_reducible refine bel_step ?_ (by with_reducible assumption)) | (with_reducible refine Below.drew ?_) | (with_reducible refine below_drewN ?_ _) | (with_reducible refine bel_alloc ?_ _))); done)); (focus (exact HT3.out; done)); rintro e w5 ⟨rfl, hb5⟩)
        | (go_at_call 12; (with_reducible refine (lives_any _ (HS.out.to ?_)).mono ?_); (focus ((repeat (first | (with_reducible exact Below.refl _ _) | (with_reducible assumption) | (with_reducible exact bel_box _) | (with_reducible refine bel_step ?_ (by with_reducible assumption)) | (with_reducible refine Below.drew ?_) | (with_reducible refine below_drewN ?_ _) | (with_reducible refine bel_alloc ?_ _))); done)); rintro e w4 ⟨rfl, hb4⟩))
      go_ret
      exact ⟨rfl, (by repeat (first | (with_reducible exact Below.refl _ _) | (with_reducible assumption) | (with_reducible exact bel_box _) | (with_reducible refine bel_step ?_ (by with_reducible assumption)) | (with_reducible refine Below.drew ?_) | (with_reducible refine below_drewN ?_ _) | (with_reducible refine bel_alloc ?_ _)))⟩
  · obtain ⟨T, n, er, K1, ht⟩ := trip s (by omega) w hs
    have h1 : (s.size : Int) ≤ 3000 := by omega
    rcases ht with ⟨he, rfl, hn⟩ | ⟨rfl, j, U, hT, hU, hsm, K2, K3⟩
    · have he2 : (er != 0) = true := by simpa using he
      have h3 : (n : Int) < (s.size : Int) := by omega
      have h4 : (0 : Int) ≤ (n : Int) := by omega
      clear hs hb he
      go_enter Tryd.func6, Tryd.ntmps6
      go_wp2_with (first
        | (go_at_call 9; (with_reducible refine (K1.out _ ?_).mono ?_); (focus ((repeat (first | (with_reducible exact Below.refl _ _) | (with_reducible assumption) | (with_reducible exact bel_box _) | (with_reducible refine bel_step ?_ (by with_reducible assumption)) | (with_reducible refine Below.drew ?_) | (with_reducible refine below_drewN ?_ _) | (with_reducible refine bel_alloc ?_ _))); done)); rintro e w1 ⟨A1, c1, rfl, hT1, hb1⟩; clear hT1)
        | (go_at_call 12; (with_reducible refine (lives_any _ (HS.out.to ?_)).mono ?_); (focus ((repeat (first | (with_reducible exact Below.refl _ _) | (with_reducible assumption) | (with_reducible exact bel_box _) | (with_reducible refine bel_step ?_ (by with_reducible assumption)) | (with_reducible refine Below.drew ?_) | (with_reducible refine below_drewN ?_ _) | (with_reducible refine bel_alloc ?_ _))); done)); rintro e w4 ⟨rfl, hb4⟩))
      go_ret
      exact ⟨rfl, (by repeat (first | (with_reducible exact Below.refl _ _) | (with_reducible assumption) | (with_reducible exact bel_box _) | (with_reducible refine bel_step ?_ (by with_reducible assumption)) | (with_reducible refine Below.drew ?_) | (with_reducible refine below_drewN ?_ _) | (with_reducible refine bel_alloc ?_ _)))⟩
    · have KM := k_same false T U hT hU
      rw [hsm] at KM
      clear hs hb hT hU hsm
      go_enter Tryd.func6, Tryd.ntmps6
      go_wp2_with (first
        | (go_at_call 9; (with_reducible refine (K1.out _ ?_).mono ?_); (focus ((repeat (first | (with_reducible exact Below.refl _ _) | (with_reducible assumption) | (with_reducible exact bel_box _) | (with_reducible refine bel_step ?_ (by with_reducible assumption)) | (with_reducible refine Below.drew ?_) | (with_reducible refine below_drewN ?_ _) | (with_reducible refine bel_alloc ?_ _))); done)); rintro e w1 ⟨A1, c1, rfl, hT1, hb1⟩; have HT1 := Lib.hid hT1; clear hT1)
        | (go_at_call 13; (with_reducible refine (K2.out _ _ _ ?_).mono ?_); (focus (exact HT1.out.to (by repeat (first | (with_reducible exact Below.refl _ _) | (with_reducible assumption) | (with_reducible exact bel_box _) | (with_reducible refine bel_step ?_ (by with_reducible assumption)) | (with_reducible refine Below.drew ?_) | (with_reducible refine below_drewN ?_ _) | (with_reducible refine bel_alloc ?_ _))); done)); rintro e w2 ⟨rfl, hb2⟩)
        | (go_at_call 9; (with_reducible refine (K3.out _ ?_).mono ?_); (focus ((repeat (first | (with_reducible exact Below.refl _ _) | (with_reducible assumption) | (with_reducible exact bel_box _) | (with_reducible refine bel_step ?_ (by with_reducible assumption)) | (with_reducible refine Below.drew ?_) | (with_reducible refine below_drewN ?_ _) | (with_reducible refine bel_alloc ?_ _))); done)); rintro e w3 ⟨A3, c3, rfl, hT3, hb3⟩; have HT3 := Lib.hid hT3; clear hT3)
        | (go_at_call 11; (with_reducible refine (KM.out _ _ _ _ _ ?_ ?_).mono ?_); (focus (exact HT1.out.to (by repeat (first | (with_reducible exact Below.refl _ _) | (with_reducible assumption) | (with_reducible exact bel_box _) | (with_reducible refine bel_step ?_ (by with_reducible assumption)) | (with_reducible refine Below.drew ?_) | (with_reducible refine below_drewN ?_ _) | (with_reducible refine bel_alloc ?_ _))); done)); (focus (exact HT3.out; done)); rintro e w5 ⟨rfl, hb5⟩)
        | (go_at_call 12; (with_reducible refine (lives_any _ (HS.out.to ?_)).mono ?_); (focus ((repeat (first | (with_reducible exact Below.refl _ _) | (with_reducible assumption) | (with_reducible exact bel_box _) | (with_reducible refine bel_step ?_ (by with_reducible assumption)) | (with_reducible refine Below.drew ?_) | (with_reducible refine below_drewN ?_ _) | (with_reducible refine bel_alloc ?_ _))); done)); rintro e w4 ⟨rfl, hb4⟩))
      go_ret
      exact ⟨rfl, (by repeat (first | (with_reducible exact Below.refl _ _) | (with_reducible assumption) | (with_reducible exact bel_box _) | (with_reducible refine bel_step ?_ (by with_reducible assumption)) | (with_reducible refine Below.drew ?_) | (with_reducible refine below_drewN ?_ _) | (with_reducible refine bel_alloc ?_ _)))⟩
end Go.Proofs.YtbnddbhfnpdjeaaDoor
