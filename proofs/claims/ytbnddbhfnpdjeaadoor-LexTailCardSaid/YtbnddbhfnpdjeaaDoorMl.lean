/- lives. -/
import Derived.Test.YtbnddbhfnpdjeaaDoorMk
namespace Go.Proofs.YtbnddbhfnpdjeaaDoor
set_option linter.unusedVariables false
set_option linter.unusedSimpArgs false
open Go.RowKit
/-- what Scan answers, read -/
def ScR (r : List Tk × Nat × Int) (w : World) (e : Ending) (w' : World) : Prop := ∃ A c, e = .returned (.tuple #[.slice A r.1.length c, .int .i64 r.2.1, .int .i64 r.2.2]) ∧ RdT w' w'.heap.size A r.1 ∧ Below w.heap.size w w'
theorem NewT.scr {r : List Tk × Nat × Int} {w : World} {e : Ending} {w' : World} (h : NewT r w e w') : ScR r w e w' := by
  obtain ⟨A, c, h1, h2, h3⟩ := h
  exact ⟨A, c, h1, RdT.of_own h2, h3⟩
theorem scan_is (s : ByteArray) (w : World) (hstd : Std w) (h9 : s.size ≤ 65536) : Calls Tryd.prog 9 #[.string s] w (ScR (scanL s.data.toList 0) w) := by
  have := scan_any s w hstd h9
  rw [scanG_is] at this
  exact this.mono fun e w' h => h.scr
theorem rscan_is (s : ByteArray) (w : World) (h9 : s.size ≤ 65536) : Calls Tryd.prog 10 #[.string s] w (ScR (scanL s.data.toList 0) w) := by
  have := rscan_any s w h9
  rw [scanG_is] at this
  exact this.mono fun e w' h => h.scr
theorem rdt_lit {w : World} (t : TypeId) (x1 x2 x3 : Int) (y1 y2 y3 : ByteArray) (z1 z2 z3 : Int) : RdT (w.alloc (.cells #[.int .i64 x1, .string y1, .int .i64 z1, .int .i64 x2, .string y2, .int .i64 z2, .int .i64 x3, .string y3, .int .i64 z3] t)) (w.alloc (.cells #[.int .i64 x1, .string y1, .int .i64 z1, .int .i64 x2, .string y2, .int .i64 z2, .int .i64 x3, .string y3, .int .i64 z3] t)).heap.size (some ⟨w.heap.size, 0, none⟩) [(x1, y1, z1), (x2, y2, z2), (x3, y3, z3)] := fun _ => by
  refine ⟨_, rfl, by simp, fun i u hu => ?_⟩
  have key : ∀ j, (w.alloc (.cells #[.int .i64 x1, .string y1, .int .i64 z1, .int .i64 x2, .string y2, .int .i64 z2, .int .i64 x3, .string y3, .int .i64 z3] t)).cell? ((⟨w.heap.size, 0, none⟩ : Addr).add j) = #[Value.int .i64 x1, .string y1, .int .i64 z1, .int .i64 x2, .string y2, .int .i64 z2, .int .i64 x3, .string y3, .int .i64 z3][j]? := fun j => by
    have e : (Addr.add ⟨w.heap.size, 0, none⟩ j) = ⟨w.heap.size, j, none⟩ := by
      unfold Addr.add
      by_cases h : j = 0
      · subst h; rfl
      · simp [h]
    rw [e, cell_of_row _ _ j _ t (0, 0) (heap_alloc_new w _)]
  rw [key, key, key]
  rcases i with _ | _ | _ | i
  · obtain rfl : (x1, y1, z1) = u := by simpa using hu
    exact ⟨rfl, rfl, rfl⟩
  · obtain rfl : (x2, y2, z2) = u := by simpa using hu
    exact ⟨rfl, rfl, rfl⟩
  · obtain rfl : (x3, y3, z3) = u := by simpa using hu
    exact ⟨rfl, rfl, rfl⟩
  · simp at hu
set_option maxHeartbeats 2000000 in
set_option maxRecDepth 20000 in
theorem lives_any (w : World) (hs : Std w) : Calls Tryd.prog 12 #[] w (Bel (.bool true) w) := by
  have K1 : Hid (∀ W, Below w.heap.size w W → Calls Tryd.prog 9 #[.string ⟨#[120, 60, 61, 49, 50, 32, 45, 45, 32, 121]⟩] W (fun e w' => ∃ A c, e = .returned (.tuple #[.slice A 3 c, .int .i64 0, .int .i64 0]) ∧ RdT w' w'.heap.size A T1 ∧ Below W.heap.size W w')) := Lib.hid fun W hb => by
    have := scan_is ⟨#[120, 60, 61, 49, 50, 32, 45, 45, 32, 121]⟩ W (hs.to hb) (by decide)
    rw [show (ByteArray.mk #[120, 60, 61, 49, 50, 32, 45, 45, 32, 121]).data.toList = [120, 60, 61, 49, 50, 32, 45, 45, 32, 121] from rfl, s1] at this
    exact this
  have K2 : Hid (∀ W, Below w.heap.size w W → Calls Tryd.prog 9 #[.string ⟨#[97, 32, 48, 49]⟩] W (fun e w' => ∃ A c, e = .returned (.tuple #[.slice A 0 c, .int .i64 2, .int .i64 5]) ∧ Below W.heap.size W w')) := Lib.hid fun W hb => by
    have := scan_is ⟨#[97, 32, 48, 49]⟩ W (hs.to hb) (by decide)
    rw [show (ByteArray.mk #[97, 32, 48, 49]).data.toList = [97, 32, 48, 49] from rfl, s2] at this
    exact this.mono fun e w' ⟨A, c, h1, _, h3⟩ => ⟨A, c, h1, h3⟩
  have K3 : Hid (∀ W, Below w.heap.size w W → Calls Tryd.prog 9 #[.string ⟨#[39, 49, 40, 48, 49, 41, 39]⟩] W (fun e w' => ∃ ad c, e = .returned (.tuple #[.slice (some ad) 1 c, .int .i64 0, .int .i64 0]) ∧ ad.block < w'.heap.size ∧ w'.cell? ad = some (.int .i64 5) ∧ w'.cell? ⟨ad.block, ad.off + 1, none⟩ = some (.string ⟨#[49, 40, 48, 49, 41]⟩) ∧ Below W.heap.size W w')) := Lib.hid fun W hb => by
    have := scan_is ⟨#[39, 49, 40, 48, 49, 41, 39]⟩ W (hs.to hb) (by decide)
    rw [show (ByteArray.mk #[39, 49, 40, 48, 49, 41, 39]).data.toList = [39, 49, 40, 48, 49, 41, 39] from rfl, s3] at this
    refine this.mono fun e w' ⟨A, c, h1, h2, h3⟩ => ?_
    obtain ⟨ad, t, rfl, b1, b2, b3, b4, b5⟩ := h2.at_ (k := 0) (by decide)
    obtain rfl : ((5 : Int), (⟨#[49, 40, 48, 49, 41]⟩ : ByteArray), (0 : Int)) = t := by simpa [T3] using b2
    exact ⟨ad, c, h1, b1, by simpa [Addr.add] using b3, by simpa [Addr.add] using b4, h3⟩
  have KM : Hid (∀ (A A' : Option Addr) (c c' : Nat) W, RdT W W.heap.size A T1 → RdT W W.heap.size A' T1 → Calls Tryd.prog 11 #[.slice A 3 c, .slice A' 3 c', .bool true] W (Bel (.bool true) W)) := Lib.hid fun A A' c c' W h1 h2 => by
    have := same_any A A' c c' T1 T1 true W h1 h2 (by decide) (by decide)
    rw [sameT_self] at this
    exact this
  have KI1 : Hid (∀ W, Below w.heap.size w W → Calls Tryd.prog 15 #[.string ⟨#[120, 95, 49]⟩] W (Bel (.bool true) W)) := Lib.hid fun W hb => by
    have := ident_any ⟨#[120, 95, 49]⟩ W (hs.to hb) (by decide)
    rwa [i1] at this
  have KI2 : Hid (∀ W, Below w.heap.size w W → Calls Tryd.prog 15 #[.string ⟨#[105, 102]⟩] W (Bel (.bool false) W)) := Lib.hid fun W hb => by
    have := ident_any ⟨#[105, 102]⟩ W (hs.to hb) (by decide)
    rwa [i2] at this
  have KK : Hid (∀ W, Calls Tryd.prog 17 #[.string ⟨#[105, 102]⟩] W (Bel (.bool true) W)) := Lib.hid fun W => by
    have := keyword_any ⟨#[105, 102]⟩ W
    rwa [k1] at this
  have KJ : Hid (∀ (A : Option Addr) (c : Nat) W, RdT W W.heap.size A T1 → Calls Tryd.prog 13 #[.slice A 3 c] W (Bel (.string ⟨#[120, 32, 60, 61, 32, 49, 50]⟩) W)) := Lib.hid fun A c W h1 => by
    have := join_any A c T1 W h1 (by decide) (by intro t ht; simp [T1] at ht; rcases ht with rfl | rfl | rfl <;> decide)
    rw [show T1.length = 3 from rfl, j1] at this
    exact this
  clear hs
  go_enter Tryd.func12, Tryd.ntmps12
  go_wp2_with (first
    | (go_at_call 9; (with_reducible refine (K1.out _ ?_).mono ?_); (focus ((repeat (first | (with_reducible exact Below.refl _ _) | (with_reducible assumption) | (with_reducible exact bel_box _) | (with_reducible refine bel_step ?_ (by with_reducible assumption)) | (with_reducible refine Below.drew ?_) | (with_reducible refine below_drewN ?_ _) | (with_reducible refine bel_alloc ?_ _))); done)); rintro e w1 ⟨A1, c1, rfl, hT1, hb1⟩; have HT1 := Lib.hid hT1; clear hT1)
    | (go_at_call 9; (with_reducible refine (K2.out _ ?_).mono ?_); (focus ((repeat (first | (with_reducible exact Below.refl _ _) | (with_reducible assumption) | (with_reducible exact bel_box _) | (with_reducible refine bel_step ?_ (by with_reducible assumption)) | (with_reducible refine Below.drew ?_) | (with_reducible refine below_drewN ?_ _) | (with_reducible refine bel_alloc ?_ _))); done)); rintro e w2 ⟨A2, c2, rfl, hb2⟩)
    | (go_at_call 9; (with_reducible refine (K3.out _ ?_).mono ?_); (focus ((repeat (first | (with_reducible exact Below.refl _ _) | (with_reducible assumption) | (with_reducible exact bel_box _) | (with_reducible refine bel_step ?_ (by with_reducible assumption)) | (with_reducible refine Below.drew ?_) | (with_reducible refine below_drewN ?_ _) | (with_reducible refine bel_alloc ?_ _))); done)); rintro e w3 ⟨ad, c3, rfl, hz3, hc3, hd3, hb3⟩)
    | (go_at_call 11; (with_reducible refine (KM.out _ _ _ _ _ ?_ ?_).mono ?_); (focus (exact HT1.out.to (by repeat (first | (with_reducible exact Below.refl _ _) | (with_reducible assumption) | (with_reducible exact bel_box _) | (with_reducible refine bel_step ?_ (by with_reducible assumption)) | (with_reducible refine Below.drew ?_) | (with_reducible refine below_drewN ?_ _) | (with_reducible refine bel_alloc ?_ _))); done)); (focus (exact rdt_lit _ _ _ _ _ _ _ _ _ _; done)); rintro e w4 ⟨rfl, hb4⟩; have hB4 : Below w3.heap.size w3 w4 := (by repeat (first | (with_reducible exact Below.refl _ _) | (with_reducible assumption) | (with_reducible exact bel_box _) | (with_reducible refine bel_step ?_ (by with_reducible assumption)) | (with_reducible refine Below.drew ?_) | (with_reducible refine below_drewN ?_ _) | (with_reducible refine bel_alloc ?_ _))); have hc4 := (hB4.cell hz3).trans hc3; have hd4 := (hB4.cell (p := ⟨ad.block, ad.off + 1, none⟩) hz3).trans hd3; clear hB4 hc3 hd3)
    | (go_at_call 15; (with_reducible refine (KI1.out _ ?_).mono ?_); (focus ((repeat (first | (with_reducible exact Below.refl _ _) | (with_reducible assumption) | (with_reducible exact bel_box _) | (with_reducible refine bel_step ?_ (by with_reducible assumption)) | (with_reducible refine Below.drew ?_) | (with_reducible refine below_drewN ?_ _) | (with_reducible refine bel_alloc ?_ _))); done)); rintro e w5 ⟨rfl, hb5⟩)
    | (go_at_call 15; (with_reducible refine (KI2.out _ ?_).mono ?_); (focus ((repeat (first | (with_reducible exact Below.refl _ _) | (with_reducible assumption) | (with_reducible exact bel_box _) | (with_reducible refine bel_step ?_ (by with_reducible assumption)) | (with_reducible refine Below.drew ?_) | (with_reducible refine below_drewN ?_ _) | (with_reducible refine bel_alloc ?_ _))); done)); rintro e w6 ⟨rfl, hb6⟩)
    | (go_at_call 17; (with_reducible refine (KK.out _).mono ?_); rintro e w7 ⟨rfl, hb7⟩)
    | (go_at_call 13; (with_reducible refine (KJ.out _ _ _ ?_).mono ?_); (focus (exact HT1.out.to (by repeat (first | (with_reducible exact Below.refl _ _) | (with_reducible assumption) | (with_reducible exact bel_box _) | (with_reducible refine bel_step ?_ (by with_reducible assumption)) | (with_reducible refine Below.drew ?_) | (with_reducible refine below_drewN ?_ _) | (with_reducible refine bel_alloc ?_ _))); done)); rintro e w8 ⟨rfl, hb8⟩))
  go_ret
  exact ⟨rfl, (by repeat (first | (with_reducible exact Below.refl _ _) | (with_reducible assumption) | (with_reducible exact bel_box _) | (with_reducible refine bel_step ?_ (by with_reducible assumption)) | (with_reducible refine Below.drew ?_) | (with_reducible refine below_drewN ?_ _) | (with_reducible refine bel_alloc ?_ _)))⟩
end Go.Proofs.YtbnddbhfnpdjeaaDoor
