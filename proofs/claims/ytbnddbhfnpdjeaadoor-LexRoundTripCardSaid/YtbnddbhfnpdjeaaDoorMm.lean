/- The walk of LexScans. -/
import Derived.Test.YtbnddbhfnpdjeaaDoorMl
namespace Go.Proofs.YtbnddbhfnpdjeaaDoor
set_option linter.unusedVariables false
set_option linter.unusedSimpArgs false
open Go.RowKit
theorem scan_len (l : List UInt8) : ∀ k, (scanL l k).1.length ≤ l.length := by
  induction l using scan_ind with
  | h0 l h => intro k; rw [scanL_end h]; simp
  | h1 l a tx n e h hf he => intro k; rw [scanL_err h hf he]; simp
  | h2 l a tx n h hf hn hle ih =>
    intro k
    rw [scanL_go h hf]
    have := ih (k + (gapN l + n))
    rw [List.length_drop] at this
    simp only
    split
    · rw [List.length_cons]; omega
    · simp
/-- both scanners at one text -/
theorem both_scan (q : ByteArray) (hq : q.size ≤ 65536) (w : World) (hs : Std w) : ∃ (T : List Tk) (n : Nat) (er : Int), scanL q.data.toList 0 = (T, n, er) ∧ T.length ≤ 65536 ∧
    Hid (∀ W, Below w.heap.size w W → Calls Tryd.prog 9 #[.string q] W (fun e w' => ∃ A c, e = .returned (.tuple #[.slice A T.length c, .int .i64 n, .int .i64 er]) ∧ RdT w' w'.heap.size A T ∧ Below W.heap.size W w')) ∧
    Hid (∀ W, Calls Tryd.prog 10 #[.string q] W (fun e w' => ∃ A c, e = .returned (.tuple #[.slice A T.length c, .int .i64 n, .int .i64 er]) ∧ RdT w' w'.heap.size A T ∧ Below W.heap.size W w')) := by
  have hl := scan_len q.data.toList 0
  rw [len_toList] at hl
  refine ⟨_, _, _, rfl, by omega, Lib.hid fun W hb => scan_is q W (hs.to hb) hq, Lib.hid fun W => rscan_is q W hq⟩
theorem k_same (pl : Bool) (x y : List Tk) (hx : x.length ≤ 65536) (hy : y.length ≤ 65536) : Hid (∀ (A A' : Option Addr) (c c' : Nat) W, RdT W W.heap.size A x → RdT W W.heap.size A' y → Calls Tryd.prog 11 #[.slice A x.length c, .slice A' y.length c', .bool pl] W (Bel (.bool (sameT pl x y)) W)) :=
  Lib.hid fun A A' c c' W h1 h2 => same_any A A' c c' x y pl W h1 h2 hx hy
set_option maxHeartbeats 1000000 in
set_option maxRecDepth 20000 in
theorem scans_any (s : ByteArray) (w : World) (hs : Std w) : Calls Tryd.prog 3 #[.string s] w (Bel (.bool true) w) := by
  have HS := Lib.hid hs
  by_cases hb : 3000 < s.size
  · obtain ⟨T, n, er, _, hT, K1, K2⟩ := both_scan (s.extract 0 3000) (by rw [ByteArray.size_extract]; omega) w hs
    have KM := k_same true T T hT hT
    rw [sameT_self] at KM
    have h1 : (3000 : Int) < (s.size : Int) := by omega
    have h2 : (3000 : Int) ≤ (s.size : Int) := by omega
    clear hs hT hb
    go_enter Tryd.func3, Tryd.ntmps3
    go_wp2_with (first
      | (go_at_call 9; (with_reducible refine (K1.out _ ?_).mono ?_); (focus ((repeat (first | (with_reducible exact Below.refl _ _) | (with_reducible assumption) | (with_reducible exact bel_box _) | (with_reducible refine bel_step ?_ (by with_reducible assumption)) | (with_reducible refine Below.drew ?_) | (with_reducible refine below_drewN ?_ _) | (with_reducible refine bel_alloc ?_ _))); done)); rintro e w1 ⟨A1, c1, rfl, hT1, hb1⟩; have HT1 := Lib.hid hT1; clear hT1)
      | (go_at_call 10; (with_reducible refine (K2.out _).mono ?_); rintro e w2 ⟨A2, c2, rfl, hT2, hb2⟩; have HT2 := Lib.hid hT2; clear hT2)
      | (go_at_call 11; (with_reducible refine (KM.out _ _ _ _ _ ?_ ?_).mono ?_); (focus (exact HT1.out.to (by repeat (first | (with_reducible exact Below.refl _ _) | (with_reducible assumption) | (with_reducible exact bel_box _) | (with_reducible refine bel_step ?_ (by with_reducible assumption)) | (with_reducible refine Below.drew ?_) | (with_reducible refine below_drewN ?_ _) | (with_reducible refine bel_alloc ?_ _))); done)); (focus (exact HT2.out; done)); rintro e w3 ⟨rfl, hb3⟩)
      | (go_at_call 12; (with_reducible refine (lives_any _ (HS.out.to ?_)).mono ?_); (focus ((repeat (first | (with_reducible exact Below.refl _ _) | (with_reducible assumption) | (with_reducible exact bel_box _) | (with_reducible refine bel_step ?_ (by with_reducible assumption)) | (with_reducible refine Below.drew ?_) | (with_reducible refine below_drewN ?_ _) | (with_reducible refine bel_alloc ?_ _))); done)); rintro e w4 ⟨rfl, hb4⟩))
    go_ret
    exact ⟨rfl, (by repeat (first | (with_reducible exact Below.refl _ _) | (with_reducible assumption) | (with_reducible exact bel_box _) | (with_reducible refine bel_step ?_ (by with_reducible assumption)) | (with_reducible refine Below.drew ?_) | (with_reducible refine below_drewN ?_ _) | (with_reducible refine bel_alloc ?_ _)))⟩
  · obtain ⟨T, n, er, _, hT, K1, K2⟩ := both_scan s (by omega) w hs
    have KM := k_same true T T hT hT
    rw [sameT_self] at KM
    have h1 : (s.size : Int) ≤ 3000 := by omega
    clear hs hT hb
    go_enter Tryd.func3, Tryd.ntmps3
    go_wp2_with (first
      | (go_at_call 9; (with_reducible refine (K1.out _ ?_).mono ?_); (focus ((repeat (first | (with_reducible exact Below.refl _ _) | (with_reducible assumption) | (with_reducible exact bel_box _) | (with_reducible refine bel_step ?_ (by with_reducible assumption)) | (with_reducible refine Below.drew ?_) | (with_reducible refine below_drewN ?_ _) | (with_reducible refine bel_alloc ?_ _))); done)); rintro e w1 ⟨A1, c1, rfl, hT1, hb1⟩; have HT1 := Lib.hid hT1; clear hT1)
      | (go_at_call 10; (with_reducible refine (K2.out _).mono ?_); rintro e w2 ⟨A2, c2, rfl, hT2, hb2⟩; have HT2 := Lib.hid hT2; clear hT2)
      | (go_at_call 11; (with_reducible refine (KM.out _ _ _ _ _ ?_ ?_).mono ?_); (focus (exact HT1.out.to (by repeat (first | (with_reducible exact Below.refl _ _) | (with_reducible assumption) | (with_reducible exact bel_box _) | (with_reducible refine bel_step ?_ (by with_reducible assumption)) | (with_reducible refine Below.drew ?_) | (with_reducible refine below_drewN ?_ _) | (with_reducible refine bel_alloc ?_ _))); done)); (focus (exact HT2.out; done)); rintro e w3 ⟨rfl, hb3⟩)
      | (go_at_call 12; (with_reducible refine (lives_any _ (HS.out.to ?_)).mono ?_); (focus ((repeat (first | (with_reducible exact Below.refl _ _) | (with_reducible assumption) | (with_reducible exact bel_box _) | (with_reducible refine bel_step ?_ (by with_reducible assumption)) | (with_reducible refine Below.drew ?_) | (with_reducible refine below_drewN ?_ _) | (with_reducible refine bel_alloc ?_ _))); done)); rintro e w4 ⟨rfl, hb4⟩))
    go_ret
    exact ⟨rfl, (by repeat (first | (with_reducible exact Below.refl _ _) | (with_reducible assumption) | (with_reducible exact bel_box _) | (with_reducible refine bel_step ?_ (by with_reducible assumption)) | (with_reducible refine Below.drew ?_) | (with_reducible refine below_drewN ?_ _) | (with_reducible refine bel_alloc ?_ _)))⟩
end Go.Proofs.YtbnddbhfnpdjeaaDoor
