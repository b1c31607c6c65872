/- Reach of the program; what is invalid. -/
import Derived.Test.YtahffafobdiogaaDoorKgm
namespace Go.Proofs.YtahffafobdiogaaDoor
set_option linter.unusedVariables false
set_option linter.unusedSimpArgs false
open Go.RowKit
namespace gr
theorem rd_blk {W : World} {b : Nat} {t : TypeId} {xs : List Value} (h : Blk W b t xs) : Rd W W.heap.size (some ⟨b, 0, none⟩) xs := fun _ =>
  ⟨_, rfl, h.lt, fun j u hu => by
    have e : (⟨b, 0, none⟩ : Addr).add j = ⟨b, j, none⟩ := by simp [Addr.add]; try (intro h; exact h.symm)
    rw [e]
    exact h.cell hu⟩
set_option maxRecDepth 100000 in
set_option maxHeartbeats 1000000 in
theorem reach_ok (n fr : Nat) (A : Option Addr) (c : Nat) (ns : List (Nat × Nat)) (hn : n ≤ 4096) (hfr : fr < n) (hr : ∀ e ∈ ns, e.1 < n ∧ e.2 < n) (hl : ns.length ≤ 1048576) (w : World) (hT : Tz w) (hE : RdE w w.heap.size A (eN ns)) (hv : valB n (eN ns) = true) :
    Calls Tryd.prog 16 #[.int .i64 n, .slice A ns.length c, .int .i64 fr] w (NewB n (rchB (nbs (eK ns) n) fr) 0 w) := by
  obtain ⟨E, hEE⟩ : ∃ E, eK ns = E := ⟨_, rfl⟩
  have hEn : ∀ u w, E u w = true → w < n := hEE ▸ eK_lt hr
  have KV := Lib.hid (valid_any n A c (eN ns) (by rw [eN_len]; exact hl) w hE)
  rw [hv, eN_len] at KV
  have htz := tz_lt hT
  have KF := Lib.hid (fun W (hb : Below w.heap.size w W) => (forward_any n hn A c ns hr hl W ((hE.below hb).more' hb.size)).mono (R' := fun e w' => e = .returned (sl W.heap.size n) ∧ LkE w' W.heap.size n E ∧ Below W.heap.size W w' ∧ W.heap.size + n < w'.heap.size) fun e w' ⟨h1, h2, h3⟩ => by
    rw [hEE] at h2
    exact ⟨h1, h2, h3, by
      rcases Nat.eq_zero_or_pos n with h0 | h0
      · have := h2.lt0; omega
      · have := h2.lt (v := n - 1) (by omega); omega⟩)
  have hmk := fun W => make_bools n hn W
  have HNW := Lib.hid (newSet_any n hn)
  have KW := Lib.hid (reach_walk n fr E hn hfr hEn w hT htz)
  obtain ⟨R, hR⟩ : ∃ R, NewB n (rchB (nbs (eK ns) n) fr) 0 w = R := ⟨_, rfl⟩
  rw [hR]
  rw [hEE] at hR
  have HR := Lib.hid hR
  have x0 : (0 : Int) ≤ (fr : Int) := by omega
  have x1 : ¬ (fr : Int) < 0 := by omega
  have x2 : ¬ (n : Int) ≤ (fr : Int) := by omega
  clear hT hE hv hr hR hEE hEn
  go_enter Tryd.func16, Tryd.ntmps16
  go_wp2_with (go_at_call 23; refine KV.out.mono ?_; clear KV; rintro e w1 ⟨rfl, hb1⟩)
  have hb3 : Below w.heap.size w ((w1.alloc (.cells (rowB n fun x => false).toArray 4)).alloc (.cells #[.slice (some ⟨w1.heap.size, 0, none⟩) n n] 31)) := bel_alloc (bel_alloc hb1 _) _
  obtain ⟨W3, h3⟩ : ∃ W3, W3 = (w1.alloc (.cells (rowB n fun x => false).toArray 4)).alloc (.cells #[.slice (some ⟨w1.heap.size, 0, none⟩) n n] 31) := ⟨_, rfl⟩
  rw [← h3] at hb3 ⊢
  have KW2 := Lib.hid (KW.out w1 hb1 W3)
  have H3 := Lib.hid h3
  clear h3 KW hmk
  go_at_call 24
  refine (KF.out W3 hb3).mono ?_
  clear KF
  rintro e w4 ⟨rfl, hL4, hb4, hz4⟩
  have KW3 := Lib.hid (KW2.out w4 H3.out hL4 hb4 hz4)
  clear KW2 hL4 hb4 hz4 hb3 H3
  generalize W3.heap.size = lb at *
  generalize w1.heap.size = rb at *
  go_wp2_with (first | (go_at_call 27; refine (HNW.out _).mono ?_; clear HNW; rintro e w3 ⟨rfl, rfl⟩) | (go_at_call 38; refine KW3.out.mono ?_; clear KW3; rintro e w5 ⟨rfl, hb5, hc5, hr5⟩))
  have R1 : R (.returned (.tuple #[sl rb n, .int .i64 0])) w5 := by
    rw [← HR.out]
    exact ⟨_, _, rfl, rd_blk hr5, hb5⟩
  exact R1
set_option maxHeartbeats 1000000 in
theorem order_bad (n : Int) (A : Option Addr) (c : Nat) (es : List (Int × Int)) (hl : es.length ≤ 1048576) (w : World) (hE : RdE w w.heap.size A es) (hv : valB n es = false) : Calls Tryd.prog 10 #[.int .i64 n, .slice A es.length c] w (NewI [] 2 w) := by
  have KV := Lib.hid (valid_any n A c es hl w hE)
  rw [hv] at KV
  clear hE hv
  go_enter Tryd.func10, Tryd.ntmps10
  go_wp2_with (go_at_call 23; refine KV.out.mono ?_; clear KV; rintro e w1 ⟨rfl, hb1⟩)
  refine bodyPost_ret (results_tmp2 rfl _ _ _) rfl ?_
  exact ⟨none, 0, rfl, Rd.nil _ _ _, hb1⟩
set_option maxHeartbeats 1000000 in
theorem cycle_bad (n : Int) (A : Option Addr) (c : Nat) (es : List (Int × Int)) (hl : es.length ≤ 1048576) (w : World) (hE : RdE w w.heap.size A es) (hv : valB n es = false) : Calls Tryd.prog 14 #[.int .i64 n, .slice A es.length c] w (NewI [] 2 w) := by
  have KV := Lib.hid (valid_any n A c es hl w hE)
  rw [hv] at KV
  clear hE hv
  go_enter Tryd.func14, Tryd.ntmps14
  go_wp2_with (go_at_call 23; refine KV.out.mono ?_; clear KV; rintro e w1 ⟨rfl, hb1⟩)
  refine bodyPost_ret (results_tmp2 rfl _ _ _) rfl ?_
  exact ⟨none, 0, rfl, Rd.nil _ _ _, hb1⟩
set_option maxHeartbeats 1000000 in
theorem parts_bad (n : Int) (A : Option Addr) (c : Nat) (es : List (Int × Int)) (hl : es.length ≤ 1048576) (w : World) (hE : RdE w w.heap.size A es) (hv : valB n es = false) : Calls Tryd.prog 18 #[.int .i64 n, .slice A es.length c] w fun e w' => e = .returned (.tuple #[.slice none 0 0, .int .i64 2]) ∧ Below w.heap.size w w' := by
  have KV := Lib.hid (valid_any n A c es hl w hE)
  rw [hv] at KV
  clear hE hv
  go_enter Tryd.func18, Tryd.ntmps18
  go_wp2_with (go_at_call 23; refine KV.out.mono ?_; clear KV; rintro e w1 ⟨rfl, hb1⟩)
  refine bodyPost_ret (results_tmp2 rfl _ _ _) rfl ?_
  exact ⟨rfl, hb1⟩
set_option maxHeartbeats 1000000 in
theorem reach_bad (n fr : Int) (A : Option Addr) (c : Nat) (es : List (Int × Int)) (hl : es.length ≤ 1048576) (w : World) (hE : RdE w w.heap.size A es) (hv : (valB n es && decide (0 ≤ fr) && decide (fr < n)) = false) : Calls Tryd.prog 16 #[.int .i64 n, .slice A es.length c, .int .i64 fr] w fun e w' => e = .returned (.tuple #[.slice none 0 0, .int .i64 2]) ∧ Below w.heap.size w w' := by
  have KV := Lib.hid (valid_any n A c es hl w hE)
  cases hb : valB n es with
  | false =>
    rw [hb] at KV
    clear hE hv hb
    go_enter Tryd.func16, Tryd.ntmps16
    go_wp2_with (go_at_call 23; refine KV.out.mono ?_; clear KV; rintro e w1 ⟨rfl, hb1⟩)
    refine bodyPost_ret (results_tmp2 rfl _ _ _) rfl ?_
    exact ⟨rfl, hb1⟩
  | true =>
    rw [hb] at KV hv
    by_cases h0 : fr < 0
    · clear hE hv hb
      go_enter Tryd.func16, Tryd.ntmps16
      go_wp2_with (go_at_call 23; refine KV.out.mono ?_; clear KV; rintro e w1 ⟨rfl, hb1⟩)
      refine bodyPost_ret (results_tmp2 rfl _ _ _) rfl ?_
      exact ⟨rfl, hb1⟩
    · have h1 : n ≤ fr := by
        simp at hv
        omega
      clear hE hv hb
      go_enter Tryd.func16, Tryd.ntmps16
      go_wp2_with (go_at_call 23; refine KV.out.mono ?_; clear KV; rintro e w1 ⟨rfl, hb1⟩)
      refine bodyPost_ret (results_tmp2 rfl _ _ _) rfl ?_
      exact ⟨rfl, hb1⟩
end gr
end Go.Proofs.YtahffafobdiogaaDoor
