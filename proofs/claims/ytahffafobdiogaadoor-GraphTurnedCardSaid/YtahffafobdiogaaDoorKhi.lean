/- awake. -/
import Derived.Test.YtahffafobdiogaaDoorKhg
namespace Go.Proofs.YtahffafobdiogaaDoor
set_option linter.unusedVariables false
set_option linter.unusedSimpArgs false
open Go.RowKit
namespace gr
theorem addr0 (a : Addr) : a.add 0 = a := rfl
theorem addr1 (a : Addr) : a.add 1 = ⟨a.block, a.off + 1, none⟩ := by simp [Addr.add]
theorem addr2 (a : Addr) : a.add 2 = ⟨a.block, a.off + 2, none⟩ := by simp [Addr.add]
theorem cell_to {W W' : World} (hb : Below W.heap.size W W') {ad : Addr} {k : Nat} {v : Value} (h0 : ad.block < W.heap.size) (h : W.cell? (ad.add k) = some v) : W'.cell? (ad.add k) = some v := (hb.cell (by rw [add_block]; exact h0)).trans h
theorem keep3 {W W' : World} {ad : Addr} {v0 v1 v2 : Value} (h : ad.block < W.heap.size ∧ W.cell? (ad.add 0) = some v0 ∧ W.cell? (ad.add 1) = some v1 ∧ W.cell? (ad.add 2) = some v2) (hb : Below W.heap.size W W') : ad.block < W'.heap.size ∧ W'.cell? (ad.add 0) = some v0 ∧ W'.cell? (ad.add 1) = some v1 ∧ W'.cell? (ad.add 2) = some v2 := ⟨Nat.lt_of_lt_of_le h.1 hb.size, cell_to hb h.1 h.2.1, cell_to hb h.1 h.2.2.1, cell_to hb h.1 h.2.2.2⟩
theorem keep5 {W W' : World} {A B C : Option Addr} {a b c : List Value} (h : Rd W W.heap.size A a ∧ Rd W W.heap.size B b ∧ Rd W W.heap.size C c) (hb : Below W.heap.size W W') : Rd W' W'.heap.size A a ∧ Rd W' W'.heap.size B b ∧ Rd W' W'.heap.size C c := ⟨h.1.to hb, h.2.1.to hb, h.2.2.to hb⟩
set_option maxRecDepth 100000 in
set_option maxHeartbeats 8000000 in
theorem awake_any (w : World) (hT : Tz w) : Calls Tryd.prog 13 #[] w fun e w' => e = .returned (.bool true) ∧ Below w.heap.size w w' := by
  have HT := Lib.hid hT
  clear hT
  go_enter Tryd.func13, Tryd.ntmps13
  go_wp2_with (first
    | (go_at_call 10; refine (ko_ex w _ HT.out (Below.refl _ _)).mono ?_; rintro e w1 ⟨A1, c1, rfl, r1, b1, d1⟩; have R1 := Lib.hid r1; clear r1 d1)
    | (go_at_call 14; refine (kn_ex w _ HT.out b4).mono ?_; rintro e w5 ⟨A5, c5, rfl, b5, d5⟩; have R1 := Lib.hid (R1.out.to d5); have R2 := Lib.hid (R2.out.to d5); have R3 := Lib.hid (keep3 R3.out d5); have R4 := Lib.hid (keep3 R4.out d5); have R5 := Lib.hid (keep5 R5.out d5); clear d5 b4)
    | (go_at_call 14; refine (kc_ex w _ HT.out b1).mono ?_; rintro e w2 ⟨A2, c2, rfl, r2, b2, d2⟩; have R1 := Lib.hid (R1.out.to d2); have R2 := Lib.hid r2; clear r2 d2 b1)
    | (go_at_call 16; refine (kr_ex w _ HT.out b2).mono ?_; rintro e w3 ⟨ad3, c3, rfl, r3, b3, d3⟩; have R1 := Lib.hid (R1.out.to d3); have R2 := Lib.hid (R2.out.to d3); have R3 := Lib.hid r3; clear r3 d3 b2)
    | (go_at_call 18; refine (kp_ex w _ HT.out b3).mono ?_; rintro e w4 ⟨ad4, c4, g0, g1, g2, p0, p1, p2, rfl, r4, r5, b4, d4⟩; have R1 := Lib.hid (R1.out.to d4); have R2 := Lib.hid (R2.out.to d4); have R3 := Lib.hid (keep3 R3.out d4); have R4 := Lib.hid r4; have R5 := Lib.hid r5; clear r4 r5 d4 b3)
    | (have bb := b5; clear bb; go_at_call 12; refine (same_new A1 _ [1, 2, 0, 3] _ R1.out (by decide)).mono ?_; rintro e w6 ⟨rfl, d6⟩; have b6 := b5.trans (d6.mono b5.size); have R2 := Lib.hid (R2.out.to d6); have R3 := Lib.hid (keep3 R3.out d6); have R4 := Lib.hid (keep3 R4.out d6); have R5 := Lib.hid (keep5 R5.out d6); clear d6 b5)
    | (have bb := b6; clear bb; go_at_call 12; refine (same_new A2 _ [3, 4] _ R2.out (by decide)).mono ?_; rintro e w7 ⟨rfl, d7⟩; have b7 := b6.trans (d7.mono b6.size); obtain ⟨_, x0, x1, x2⟩ := keep3 R3.out d7; rw [addr0] at x0; rw [addr1] at x1; rw [addr2] at x2; have R4 := Lib.hid (keep3 R4.out d7); obtain ⟨_, y0, _, _⟩ := R4.out; rw [addr0] at y0; have R5 := Lib.hid (keep5 R5.out d7); clear d7 b6)
    | (have bb := b7; clear bb; go_at_call 12; refine (same_new _ _ [0, 2] _ R5.out.1 (by decide)).mono ?_; rintro e w8 ⟨rfl, d8⟩; have b8 := b7.trans (d8.mono b7.size); have R4 := Lib.hid (keep3 R4.out d8); obtain ⟨_, _, y1, _⟩ := R4.out; rw [addr1] at y1; have R5 := Lib.hid (keep5 R5.out d8); clear d8 b7 x0 x1 x2 y0)
    | (have bb := b8; clear bb; go_at_call 12; refine (same_new _ _ [1] _ R5.out.2.1 (by decide)).mono ?_; rintro e w9 ⟨rfl, d9⟩; have b9 := b8.trans (d9.mono b8.size); have R4 := Lib.hid (keep3 R4.out d9); obtain ⟨_, _, _, y2⟩ := R4.out; rw [addr2] at y2; have R5 := Lib.hid (keep5 R5.out d9); clear d9 b8 y1)
    | (have bb := b9; clear bb; go_at_call 12; refine (same_new _ _ [3] _ R5.out.2.2 (by decide)).mono ?_; rintro e w10 ⟨rfl, d10⟩; have b10 := b9.trans (d10.mono b9.size); clear d10 b9 y2))
  go_ret
  exact ⟨rfl, b10⟩
end gr
end Go.Proofs.YtahffafobdiogaaDoor
