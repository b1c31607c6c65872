/- Names and Instant of the program. -/
import Derived.Test.YtfogkcccjemloaaGreatDoorFs
namespace Go.Proofs.YtfogkcccjemloaaGreatDoor
set_option linter.unusedVariables false
set_option linter.unusedSimpArgs false
open Go.RowKit Go.Shelf Go.Maps
set_option maxHeartbeats 1000000 in
set_option maxRecDepth 20000 in
theorem names_any (x : Xt) (w : World) (hX : RdX w w.heap.size x) (hs : x.size ≤ 100000) : Calls Tryz.prog 22 #[xV x] w (NewN (nmS false x []) w) := by
  have KW := Lib.hid (fun W => within_any x 41 W)
  obtain ⟨W1, hW1⟩ : ∃ W1, bxW w x = W1 := ⟨_, rfl⟩
  have hb1 : Below w.heap.size w W1 := by rw [← hW1]; exact bel_box _
  obtain ⟨W0, hW0⟩ : ∃ W0, inW W1 x 41 = W0 := ⟨_, rfl⟩
  have hz : W1.heap.size = w.heap.size + 1 := by rw [← hW1, bxW_size]
  have hb0 : Below w.heap.size w W0 := by rw [← hW0]; exact hb1.trans ((inW_below W1 x _).mono (by rw [hz]; omega))
  have KV := variables_names x W1 (hX.to hb1) hs
  rw [hW0, hz] at KV
  have KV2 := Lib.hid KV
  have HW1 := Lib.hid hW1
  have HW0 := Lib.hid hW0
  clear KV hW1 hW0 hz
  simp only [xV] at KW ⊢
  go_enter Tryz.func22, Tryz.ntmps22
  go_wp2_with (go_at_call 40; (with_reducible refine (KW.out _).mono ?_); rintro e w1 ⟨rfl, rfl⟩)
  rw [show ((bxW (w.alloc (.cells #[.int .i64 x.k, .int .i64 x.op, .int .i64 x.t, .int .i64 x.v, .string x.nm, .slice x.A x.ar.length x.c] 24)) x).alloc (.cells #[.func (.func 41) #[] #[]] 42)) = W0 by rw [← HW0.out, ← HW1.out]]
  clear HW0 HW1 KW
  go_wp2_with (go_at_call 45; (with_reducible refine KV2.out.mono ?_); rintro e w2 ⟨A, c, rfl, hR, hb2⟩)
  go_ret
  exact ⟨A, c, rfl, hR, hb0.trans (hb2.mono hb0.size)⟩
set_option maxHeartbeats 1000000 in
set_option maxRecDepth 20000 in
theorem instants_any (x : Xt) (w : World) (hX : RdX w w.heap.size x) (hs : x.size ≤ 100000) : Calls Tryz.prog 23 #[xV x] w (NewN (nmS true x []) w) := by
  have KW := Lib.hid (fun W => within_any x 46 W)
  obtain ⟨W1, hW1⟩ : ∃ W1, bxW w x = W1 := ⟨_, rfl⟩
  have hb1 : Below w.heap.size w W1 := by rw [← hW1]; exact bel_box _
  obtain ⟨W0, hW0⟩ : ∃ W0, inW W1 x 46 = W0 := ⟨_, rfl⟩
  have hz : W1.heap.size = w.heap.size + 1 := by rw [← hW1, bxW_size]
  have hb0 : Below w.heap.size w W0 := by rw [← hW0]; exact hb1.trans ((inW_below W1 x _).mono (by rw [hz]; omega))
  have KV := variables_instant x W1 (hX.to hb1) hs
  rw [hW0, hz] at KV
  have KV2 := Lib.hid KV
  have HW1 := Lib.hid hW1
  have HW0 := Lib.hid hW0
  clear KV hW1 hW0 hz
  simp only [xV] at KW ⊢
  go_enter Tryz.func23, Tryz.ntmps23
  go_wp2_with (go_at_call 40; (with_reducible refine (KW.out _).mono ?_); rintro e w1 ⟨rfl, rfl⟩)
  rw [show ((bxW (w.alloc (.cells #[.int .i64 x.k, .int .i64 x.op, .int .i64 x.t, .int .i64 x.v, .string x.nm, .slice x.A x.ar.length x.c] 24)) x).alloc (.cells #[.func (.func 46) #[] #[]] 42)) = W0 by rw [← HW0.out, ← HW1.out]]
  clear HW0 HW1 KW
  go_wp2_with (go_at_call 45; (with_reducible refine KV2.out.mono ?_); rintro e w2 ⟨A, c, rfl, hR, hb2⟩)
  go_ret
  exact ⟨A, c, rfl, hR, hb0.trans (hb2.mono hb0.size)⟩
end Go.Proofs.YtfogkcccjemloaaGreatDoor
