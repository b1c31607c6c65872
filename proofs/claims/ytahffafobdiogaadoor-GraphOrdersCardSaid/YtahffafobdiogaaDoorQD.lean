/- Texts of one chain, in one file. -/
import Derived.Laws.AppendOwnNone
import Derived.ProofKit
import Derived.OpenShut
import Derived.Deep.Slices
import Derived.Deep.SlicePairs
import Derived.Stop.LaidErr
import Derived.Lib.LaidTab
import Derived.LaidMore
import Derived.ChangeSlices
import Derived.ChangeSame
import Derived.Stop.Joined
import Derived.Test.YtahffafobdiogaaDoorQC
/- awake. -/
namespace Go.Proofs.YtahffafobdiogaaDoor
set_option linter.unusedVariables false
set_option linter.unusedSimpArgs false
open Go.RowKit
namespace gr
/-- the cells of edges -/
def cE (ns : List (Nat × Nat)) : List Value := ns.flatMap fun e => [.int .i64 (e.1 : Int), .int .i64 (e.2 : Int)]
theorem cE_get : ∀ (ns : List (Nat × Nat)) (k : Nat), (cE ns)[k * 2]? = (ns[k]?).map (fun e => Value.int .i64 (e.1 : Int)) ∧ (cE ns)[k * 2 + 1]? = (ns[k]?).map (fun e => Value.int .i64 (e.2 : Int))
  | [], k => by simp [cE]
  | e :: r, 0 => by simp [cE]
  | e :: r, k + 1 => by
    have h := cE_get r k
    have e1 : cE (e :: r) = .int .i64 (e.1 : Int) :: .int .i64 (e.2 : Int) :: cE r := rfl
    rw [e1, show (k + 1) * 2 = k * 2 + 1 + 1 by omega]
    simp only [List.getElem?_cons_succ]
    exact h
theorem rdE_blk {W : World} {b : Nat} {t : TypeId} {ns : List (Nat × Nat)} (h : Blk W b t (cE ns)) : RdE W W.heap.size (some ⟨b, 0, none⟩) (eN ns) := fun _ => by
  refine ⟨_, rfl, h.lt, fun k e he => ?_⟩
  rw [eN_get] at he
  cases hx : ns[k]? with
  | none => rw [hx] at he; cases he
  | some x =>
    rw [hx] at he
    injection he with he
    subst he
    obtain ⟨h1, h2⟩ := cE_get ns k
    rw [hx] at h1 h2
    rw [off_add]
    exact ⟨h.cell h1, h.cell h2⟩
theorem ko_ex (w W : World) (hT : Tz w) (hb : Below w.heap.size w W) : Calls Tryd.prog 10 #[.int .i64 4, .slice (some ⟨W.heap.size, 0, none⟩) 2 2] (W.alloc (.cells #[.int .i64 2, .int .i64 0, .int .i64 0, .int .i64 3] 40)) fun e w' => ∃ A c, e = .returned (.tuple #[.slice A 4 c, .int .i64 0]) ∧ Rd w' w'.heap.size A (vV [1, 2, 0, 3]) ∧ Below w.heap.size w w' ∧ Below W.heap.size W w' := by
  have hblk : Blk (W.alloc (.cells #[.int .i64 2, .int .i64 0, .int .i64 0, .int .i64 3] 40)) W.heap.size _ (cE [(2, 0), (0, 3)]) := Blk.new W (cE [(2, 0), (0, 3)]) 40
  have hb2 : Below w.heap.size w (W.alloc (.cells #[.int .i64 2, .int .i64 0, .int .i64 0, .int .i64 3] 40)) := bel_alloc hb _
  refine (order_ok 4 (some ⟨W.heap.size, 0, none⟩) 2 [(2, 0), (0, 3)] (by decide) (by decide) (by decide) _ (hT.keep hb2) (rdE_blk hblk) (by decide +kernel)).mono ?_
  rintro e w' ⟨A, c, he, h1, h2⟩
  rw [ex_ord.1, ex_ord.2] at he
  rw [ex_ord.1] at h1
  exact ⟨A, c, he, h1, hb2.trans (h2.mono hb2.size), (bel_box _).trans (h2.mono (by simp))⟩
theorem kc_ex (w W : World) (hT : Tz w) (hb : Below w.heap.size w W) : Calls Tryd.prog 14 #[.int .i64 5, .slice (some ⟨W.heap.size, 0, none⟩) 5 5] (W.alloc (.cells #[.int .i64 0, .int .i64 1, .int .i64 1, .int .i64 2, .int .i64 2, .int .i64 0, .int .i64 4, .int .i64 3, .int .i64 3, .int .i64 4] 40)) fun e w' => ∃ A c, e = .returned (.tuple #[.slice A 2 c, .int .i64 0]) ∧ Rd w' w'.heap.size A (vV [3, 4]) ∧ Below w.heap.size w w' ∧ Below W.heap.size W w' := by
  have hblk : Blk (W.alloc (.cells #[.int .i64 0, .int .i64 1, .int .i64 1, .int .i64 2, .int .i64 2, .int .i64 0, .int .i64 4, .int .i64 3, .int .i64 3, .int .i64 4] 40)) W.heap.size _ (cE [(0, 1), (1, 2), (2, 0), (4, 3), (3, 4)]) := Blk.new W (cE [(0, 1), (1, 2), (2, 0), (4, 3), (3, 4)]) 40
  have hb2 : Below w.heap.size w (W.alloc (.cells #[.int .i64 0, .int .i64 1, .int .i64 1, .int .i64 2, .int .i64 2, .int .i64 0, .int .i64 4, .int .i64 3, .int .i64 3, .int .i64 4] 40)) := bel_alloc hb _
  refine (cycle_ok 5 (some ⟨W.heap.size, 0, none⟩) 5 [(0, 1), (1, 2), (2, 0), (4, 3), (3, 4)] (by decide) (by decide) (by decide) _ (hT.keep hb2) (rdE_blk hblk) (by decide +kernel)).mono ?_
  rintro e w' ⟨A, c, he, h1, h2⟩
  rw [ex_cyc, ex_cycx] at he
  rw [ex_cyc] at h1
  exact ⟨A, c, he, h1, hb2.trans (h2.mono hb2.size), (bel_box _).trans (h2.mono (by simp))⟩
theorem kn_ex (w W : World) (hT : Tz w) (hb : Below w.heap.size w W) : Calls Tryd.prog 14 #[.int .i64 3, .slice none 0 0] W fun e w' => ∃ A c, e = .returned (.tuple #[.slice A 0 c, .int .i64 8]) ∧ Below w.heap.size w w' ∧ Below W.heap.size W w' := by
  refine (cycle_ok 3 none 0 [] (by decide) (by decide) (by decide) _ (hT.keep hb) (fun h => absurd rfl h) (by decide +kernel)).mono ?_
  rintro e w' ⟨A, c, he, h1, h2⟩
  rw [ex_none.1, ex_none.2] at he
  exact ⟨A, c, he, hb.trans (h2.mono hb.size), h2⟩
theorem kr_ex (w W : World) (hT : Tz w) (hb : Below w.heap.size w W) : Calls Tryd.prog 16 #[.int .i64 3, .slice (some ⟨W.heap.size, 0, none⟩) 1 1, .int .i64 1] (W.alloc (.cells #[.int .i64 1, .int .i64 2] 40)) fun e w' => ∃ ad c, e = .returned (.tuple #[.slice (some ad) 3 c, .int .i64 0]) ∧ (ad.block < w'.heap.size ∧ w'.cell? (ad.add 0) = some (.bool false) ∧ w'.cell? (ad.add 1) = some (.bool true) ∧ w'.cell? (ad.add 2) = some (.bool true)) ∧ Below w.heap.size w w' ∧ Below W.heap.size W w' := by
  have hblk : Blk (W.alloc (.cells #[.int .i64 1, .int .i64 2] 40)) W.heap.size _ (cE [(1, 2)]) := Blk.new W (cE [(1, 2)]) 40
  have hb2 : Below w.heap.size w (W.alloc (.cells #[.int .i64 1, .int .i64 2] 40)) := bel_alloc hb _
  refine (reach_ok 3 1 (some ⟨W.heap.size, 0, none⟩) 1 [(1, 2)] (by decide) (by decide) (by decide) (by decide) _ (hT.keep hb2) (rdE_blk hblk) (by decide +kernel)).mono ?_
  rintro e w' ⟨A, c, he, h1, h2⟩
  rw [ex_rch] at h1
  obtain ⟨ad, rfl, h3, h4⟩ := h1 (by simp)
  exact ⟨ad, c, he, ⟨h3, h4 0 _ rfl, h4 1 _ rfl, h4 2 _ rfl⟩, hb2.trans (h2.mono hb2.size), (bel_box _).trans (h2.mono (by simp))⟩
theorem kp_ex (w W : World) (hT : Tz w) (hb : Below w.heap.size w W) : Calls Tryd.prog 18 #[.int .i64 4, .slice (some ⟨W.heap.size, 0, none⟩) 3 3] (W.alloc (.cells #[.int .i64 0, .int .i64 2, .int .i64 2, .int .i64 0, .int .i64 2, .int .i64 1] 40)) fun e w' => ∃ ad c g0 g1 g2 p0 p1 p2, e = .returned (.tuple #[.slice (some ad) 3 c, .int .i64 0]) ∧ (ad.block < w'.heap.size ∧ w'.cell? (ad.add 0) = some (.slice (some ⟨g0, 0, none⟩) 2 p0) ∧ w'.cell? (ad.add 1) = some (.slice (some ⟨g1, 0, none⟩) 1 p1) ∧ w'.cell? (ad.add 2) = some (.slice (some ⟨g2, 0, none⟩) 1 p2)) ∧ (Rd w' w'.heap.size (some ⟨g0, 0, none⟩) (vV [0, 2]) ∧ Rd w' w'.heap.size (some ⟨g1, 0, none⟩) (vV [1]) ∧ Rd w' w'.heap.size (some ⟨g2, 0, none⟩) (vV [3])) ∧ Below w.heap.size w w' ∧ Below W.heap.size W w' := by
  have hblk : Blk (W.alloc (.cells #[.int .i64 0, .int .i64 2, .int .i64 2, .int .i64 0, .int .i64 2, .int .i64 1] 40)) W.heap.size _ (cE [(0, 2), (2, 0), (2, 1)]) := Blk.new W (cE [(0, 2), (2, 0), (2, 1)]) 40
  have hb2 : Below w.heap.size w (W.alloc (.cells #[.int .i64 0, .int .i64 2, .int .i64 2, .int .i64 0, .int .i64 2, .int .i64 1] 40)) := bel_alloc hb _
  refine (parts_ok 4 (some ⟨W.heap.size, 0, none⟩) 3 [(0, 2), (2, 0), (2, 1)] (by decide) (by decide) (by decide) _ (hT.keep hb2) (rdE_blk hblk) (by decide +kernel)).mono ?_
  rintro e w' ⟨A, c, fs, he, h0, h1, h3, h2⟩
  rw [ex_parts] at h0
  obtain ⟨e0, e1, e2, rfl⟩ : ∃ e0 e1 e2, fs = [e0, e1, e2] := by
    rcases fs with _ | ⟨a, _ | ⟨b, _ | ⟨d, _ | ⟨f, r⟩⟩⟩⟩
    · simp at h0
    · simp at h0
    · simp at h0
    · exact ⟨_, _, _, rfl⟩
    · simp at h0
  simp only [List.map_cons, List.map_nil, List.cons.injEq, and_true] at h0
  obtain ⟨x0, x1, x2⟩ := h0
  obtain ⟨ad, rfl, h4, h5⟩ := h1 (by simp)
  have r0 := h3 e0 (by simp)
  have r1 := h3 e1 (by simp)
  have r2 := h3 e2 (by simp)
  have y0 := h5 0 _ rfl
  have y1 := h5 1 _ rfl
  have y2 := h5 2 _ rfl
  unfold encP at y0 y1 y2
  rw [x0] at r0 y0
  rw [x1] at r1 y1
  rw [x2] at r2 y2
  exact ⟨ad, c, e0.1, e1.1, e2.1, e0.2.2, e1.2.2, e2.2.2, he, ⟨h4, y0, y1, y2⟩, ⟨r0, r1, r2⟩, hb2.trans (h2.mono hb2.size), (bel_box _).trans (h2.mono (by simp))⟩
theorem same_new (A : Option Addr) (c : Nat) (l : List Nat) (W : World) (h : Rd W W.heap.size A (vV l)) (hl : l.length ≤ 1048576) : Calls Tryd.prog 12 #[.slice A l.length c, .slice (some ⟨W.heap.size, 0, none⟩) l.length l.length] (W.alloc (.cells (vV l).toArray 3)) fun e w' => e = .returned (.bool true) ∧ Below W.heap.size W w' := by
  have hblk := Blk.new W (vV l) 3
  have hbb : Below W.heap.size W (W.alloc (.cells (vV l).toArray 3)) := bel_box _
  refine (same_any A (some ⟨W.heap.size, 0, none⟩) c l.length l l _ (h.to hbb) (rd_nums fun j x hx => hblk.cell (by unfold vV; rw [List.getElem?_map, hx]; rfl)) hl hl).mono ?_
  rintro e w' ⟨he, q, rfl⟩
  rw [decide_eq_true rfl] at he
  exact ⟨he, below_drewN hbb q⟩
end gr
end Go.Proofs.YtahffafobdiogaaDoor
/- awake. -/
namespace Go.Proofs.YtahffafobdiogaaDoor
set_option linter.unusedVariables false
set_option linter.unusedSimpArgs false
open Go.RowKit
namespace gr
theorem addr0 (a : Addr) : a.add 0 = a := rfl
theorem addr1 (a : Addr) : a.add 1 = ⟨a.block, a.off + 1, none⟩ := by simp [Addr.add]
theorem addr2 (a : Addr) : a.add 2 = ⟨a.block, a.off + 2, none⟩ := by simp [Addr.add]
theorem cell_to {W W' : World} (hb : Below W.heap.size W W') {ad : Addr} {k : Nat} {v : Value} (h0 : ad.block < W.heap.size) (h : W.cell? (ad.add k) = some v) : W'.cell? (ad.add k) = some v := (hb.cell (by rw [add_block]; exact h0)).trans h
theorem keep3 {W W' : World} {ad : Addr} {v0 v1 v2 : Value} (h : ad.block < W.heap.size ∧ W.cell? (ad.add 0) = some v0 ∧ W.cell? (ad.add 1) = some v1 ∧ W.cell? (ad.add 2) = some v2) (hb : Below W.heap.size W W') : ad.block < W'.heap.size ∧ W'.cell? (ad.add 0) = some v0 ∧ W'.cell? (ad.add 1) = some v1 ∧ W'.cell? (ad.add 2) = some v2 := ⟨Nat.lt_of_lt_of_le h.1 hb.size, cell_to hb h.1 h.2.1, cell_to hb h.1 h.2.2.1, cell_to hb h.1 h.2.2.2⟩
theorem keep5 {W W' : World} {A B C : Option Addr} {a b c : List Value} (h : Rd W W.heap.size A a ∧ Rd W W.heap.size B b ∧ Rd W W.heap.size C c) (hb : Below W.heap.size W W') : Rd W' W'.heap.size A a ∧ Rd W' W'.heap.size B b ∧ Rd W' W'.heap.size C c := ⟨h.1.to hb, h.2.1.to hb, h.2.2.to hb⟩
set_option maxRecDepth 100000 in
set_option maxHeartbeats 8000000 in
theorem awake_any (w : World) (hT : Tz w) : Calls Tryd.prog 13 #[] w fun e w' => e = .returned (.bool true) ∧ Below w.heap.size w w' := by
  have HT := Lib.hid hT
  clear hT
  go_enter Tryd.func13, Tryd.ntmps13
  go_wp2_with (first
    | (go_at_call 10; refine (ko_ex w _ HT.out (Below.refl _ _)).mono ?_; rintro e w1 ⟨A1, c1, rfl, r1, b1, d1⟩; have R1 := Lib.hid r1; clear r1 d1)
    | (go_at_call 14; refine (kn_ex w _ HT.out b4).mono ?_; rintro e w5 ⟨A5, c5, rfl, b5, d5⟩; have R1 := Lib.hid (R1.out.to d5); have R2 := Lib.hid (R2.out.to d5); have R3 := Lib.hid (keep3 R3.out d5); have R4 := Lib.hid (keep3 R4.out d5); have R5 := Lib.hid (keep5 R5.out d5); clear d5 b4)
    | (go_at_call 14; refine (kc_ex w _ HT.out b1).mono ?_; rintro e w2 ⟨A2, c2, rfl, r2, b2, d2⟩; have R1 := Lib.hid (R1.out.to d2); have R2 := Lib.hid r2; clear r2 d2 b1)
    | (go_at_call 16; refine (kr_ex w _ HT.out b2).mono ?_; rintro e w3 ⟨ad3, c3, rfl, r3, b3, d3⟩; have R1 := Lib.hid (R1.out.to d3); have R2 := Lib.hid (R2.out.to d3); have R3 := Lib.hid r3; clear r3 d3 b2)
    | (go_at_call 18; refine (kp_ex w _ HT.out b3).mono ?_; rintro e w4 ⟨ad4, c4, g0, g1, g2, p0, p1, p2, rfl, r4, r5, b4, d4⟩; have R1 := Lib.hid (R1.out.to d4); have R2 := Lib.hid (R2.out.to d4); have R3 := Lib.hid (keep3 R3.out d4); have R4 := Lib.hid r4; have R5 := Lib.hid r5; clear r4 r5 d4 b3)
    | (have bb := b5; clear bb; go_at_call 12; refine (same_new A1 _ [1, 2, 0, 3] _ R1.out (by decide)).mono ?_; rintro e w6 ⟨rfl, d6⟩; have b6 := b5.trans (d6.mono b5.size); have R2 := Lib.hid (R2.out.to d6); have R3 := Lib.hid (keep3 R3.out d6); have R4 := Lib.hid (keep3 R4.out d6); have R5 := Lib.hid (keep5 R5.out d6); clear d6 b5)
    | (have bb := b6; clear bb; go_at_call 12; refine (same_new A2 _ [3, 4] _ R2.out (by decide)).mono ?_; rintro e w7 ⟨rfl, d7⟩; have b7 := b6.trans (d7.mono b6.size); obtain ⟨_, x0, x1, x2⟩ := keep3 R3.out d7; rw [addr0] at x0; rw [addr1] at x1; rw [addr2] at x2; have R4 := Lib.hid (keep3 R4.out d7); obtain ⟨_, y0, _, _⟩ := R4.out; rw [addr0] at y0; have R5 := Lib.hid (keep5 R5.out d7); clear d7 b6)
    | (have bb := b7; clear bb; go_at_call 12; refine (same_new _ _ [0, 2] _ R5.out.1 (by decide)).mono ?_; rintro e w8 ⟨rfl, d8⟩; have b8 := b7.trans (d8.mono b7.size); have R4 := Lib.hid (keep3 R4.out d8); obtain ⟨_, _, y1, _⟩ := R4.out; rw [addr1] at y1; have R5 := Lib.hid (keep5 R5.out d8); clear d8 b7 x0 x1 x2 y0)
    | (have bb := b8; clear bb; go_at_call 12; refine (same_new _ _ [1] _ R5.out.2.1 (by decide)).mono ?_; rintro e w9 ⟨rfl, d9⟩; have b9 := b8.trans (d9.mono b8.size); have R4 := Lib.hid (keep3 R4.out d9); obtain ⟨_, _, _, y2⟩ := R4.out; rw [addr2] at y2; have R5 := Lib.hid (keep5 R5.out d9); clear d9 b8 y1)
    | (have bb := b9; clear bb; go_at_call 12; refine (same_new _ _ [3] _ R5.out.2.2 (by decide)).mono ?_; rintro e w10 ⟨rfl, d10⟩; have b10 := b9.trans (d10.mono b9.size); clear d10 b9 y2))
  go_ret
  exact ⟨rfl, b10⟩
end gr
end Go.Proofs.YtahffafobdiogaaDoor
/- The order and the repetition of edges have no effect. -/
namespace Go.Proofs.YtahffafobdiogaaDoor
set_option linter.unusedVariables false
set_option linter.unusedSimpArgs false
open Go.RowKit
namespace gr
theorem ordL_len (n : Nat) (ns : List (Nat × Nat)) : (ordL n ns).length ≤ n := by
  unfold ordL
  split
  · exact (kah_ord n [] (Ord.nil _ _)).len
  · simp
end gr
end Go.Proofs.YtahffafobdiogaaDoor
/- The law GraphTurned. -/
namespace Go.Proofs.YtahffafobdiogaaDoor
set_option linter.unusedVariables false
set_option linter.unusedSimpArgs false
open Go.RowKit
namespace gr
theorem kaw {w : World} (hT : Tz w) (W : World) (hb : Below w.heap.size w W) : Calls Tryd.prog 13 #[] W fun e w' => e = .returned (.bool true) ∧ Below w.heap.size w w' := (awake_any W (hT.keep hb)).mono fun e w' ⟨h1, h2⟩ => ⟨h1, hb.trans (h2.mono hb.size)⟩
theorem same_self (A B : Option Addr) (c d : Nat) (l : List Nat) (W : World) (h : Rd W W.heap.size A (vV l)) (h2 : Rd W W.heap.size B (vV l)) (hl : l.length ≤ 4096) : Calls Tryd.prog 12 #[.slice A l.length c, .slice B l.length d] W fun e w' => e = .returned (.bool true) ∧ Below W.heap.size W w' := by
  refine (same_any A B c d l l W h h2 (by omega) (by omega)).mono ?_
  rintro e w' ⟨he, q, rfl⟩
  rw [decide_eq_true rfl] at he
  exact ⟨he, below_drewN (Below.refl _ _) q⟩
end gr
end Go.Proofs.YtahffafobdiogaaDoor
/- An order and the places of the vertices in it; few. -/
namespace Go.Proofs.YtahffafobdiogaaDoor
set_option linter.unusedVariables false
set_option linter.unusedSimpArgs false
open Go.RowKit
namespace gr
theorem rdE_take {W : World} {B : Nat} {A : Option Addr} {es : List (Int × Int)} (h : RdE W B A es) (k : Nat) : RdE W B A (es.take k) := fun hn => by
  obtain ⟨ad, h1, h2, h3⟩ := h (fun e => hn (by rw [e]; simp))
  refine ⟨ad, h1, h2, fun j e he => h3 j e ?_⟩
  rw [List.getElem?_take] at he
  split at he
  · exact he
  · cases he
set_option maxHeartbeats 1000000 in
theorem few_any (A : Option Addr) (c : Nat) (es : List (Int × Int)) (w : World) (hA : A = none → es = []) (hc : es.length ≤ c) (hl : es.length ≤ 9223372036854775807) :
    Calls Tryd.prog 9 #[.slice A es.length c] w fun e w' => e = .returned (.slice A (es.take 400).length c) ∧ w' = w := by
  rw [List.length_take]
  by_cases h : 400 < es.length
  · rw [Nat.min_eq_left (by omega)]
    have h2 : (400 : Int) < (es.length : Int) := by omega
    have h3 : 400 ≤ c := by omega
    cases A with
    | none => rw [hA rfl] at h; simp at h
    | some ad =>
      clear hA
      generalize es.length = L at *
      go_enter Tryd.func9, Tryd.ntmps9
      go_wp2
      go_ret
      exact ⟨rfl, rfl⟩
  · rw [Nat.min_eq_right (by omega)]
    have h2 : ¬ (400 : Int) < (es.length : Int) := by omega
    clear hA
    generalize es.length = L at *
    go_enter Tryd.func9, Tryd.ntmps9
    go_wp2
    go_ret
    exact ⟨rfl, rfl⟩
end gr
end Go.Proofs.YtahffafobdiogaaDoor
/- The law GraphOrders. -/
namespace Go.Proofs.YtahffafobdiogaaDoor
set_option linter.unusedVariables false
set_option linter.unusedSimpArgs false
open Go.RowKit
namespace gr
set_option maxHeartbeats 1000000 in
theorem rorder_bad (n : Int) (A : Option Addr) (c : Nat) (es : List (Int × Int)) (hl : es.length ≤ 1048576) (w : World) (hE : RdE w w.heap.size A es) (hv : valB n es = false) : Calls Tryd.prog 11 #[.int .i64 n, .slice A es.length c] w (NewI [] 2 w) := by
  have KV := Lib.hid (rright_any n A c es hl w hE)
  rw [hv] at KV
  clear hE hv
  go_enter Tryd.func11, Tryd.ntmps11
  go_wp2_with (go_at_call 32; refine KV.out.mono ?_; clear KV; rintro e w1 ⟨rfl, q, rfl⟩)
  refine bodyPost_ret (results_tmp2 rfl _ _ _) rfl ?_
  exact ⟨none, 0, rfl, Rd.nil _ _ _, below_drewN (Below.refl _ _) _⟩
theorem ord_both (n : Int) (es : List (Int × Int)) (hl : es.length ≤ 1048576) : ∃ (l : List Nat) (x : Int), l.length ≤ 4096 ∧ ∀ (W : World) (A : Option Addr) (c : Nat), Tz W → RdE W W.heap.size A es →
    Calls Tryd.prog 10 #[.int .i64 n, .slice A es.length c] W (NewI l x W) ∧ Calls Tryd.prog 11 #[.int .i64 n, .slice A es.length c] W (NewI l x W) := by
  cases hv : valB n es with
  | false => exact ⟨[], 2, by simp, fun W A c hT hE => ⟨order_bad n A c es hl W hE hv, rorder_bad n A c es hl W hE hv⟩⟩
  | true =>
    obtain ⟨m, ns, rfl, hm, rfl, hr⟩ := valB_nat hv
    rw [eN_len] at hl ⊢
    exact ⟨ordL m ns, ordX m ns, Nat.le_trans (ordL_len _ _) hm, fun W A c hT hE => ⟨order_ok m A c ns hm hr hl W hT hE hv, rorder_ok m A c ns hm hr hl W hE hv⟩⟩
set_option maxRecDepth 100000 in
set_option maxHeartbeats 8000000 in
theorem orders_any (n : Int) (A : Option Addr) (c : Nat) (es : List (Int × Int)) (w : World) (hT : Tz w) (hA : RdE w w.heap.size A es) (hcl : es.length ≤ c) (hl : es.length ≤ 9223372036854775807) :
    Calls Tryd.prog 3 #[.int .i64 n, .slice A es.length c] w fun e w' => e = .returned (.bool true) ∧ Below w.heap.size w w' := by
  have KAW := Lib.hid (kaw hT)
  have KF := Lib.hid (few_any A c es w (fun h => Classical.byContradiction fun hne => by obtain ⟨_, h1, _⟩ := hA hne; rw [h] at h1; cases h1) hcl hl)
  have hA2 := rdE_take hA 400
  have hm : (es.take 400).length ≤ 400 := by rw [List.length_take]; omega
  clear hA hcl
  generalize es.take 400 = E at *
  generalize es.length = L at *
  obtain ⟨l, x, hl4, HB⟩ := ord_both n E (by omega)
  have KO := Lib.hid (show ∀ W, Below w.heap.size w W → _ from fun W hb => (HB W A c (hT.keep hb) ((hA2.below hb).more' hb.size)).1)
  have KR := Lib.hid (show ∀ W, Below w.heap.size w W → _ from fun W hb => (HB W A c (hT.keep hb) ((hA2.below hb).more' hb.size)).2)
  clear hT hA2 HB
  generalize E.length = m at *
  go_enter Tryd.func3, Tryd.ntmps3
  go_wp2_with (first
    | (go_at_call 9; refine KF.out.mono ?_; clear KF; rintro e w0 ⟨rfl, rfl⟩)
    | (go_at_call 10; refine (KO.out _ (Below.refl _ _)).mono ?_; rintro e w1 ⟨A1, c1, rfl, r1, b1⟩; have R1 := Lib.hid r1; clear r1)
    | (go_at_call 11; refine (KR.out _ b1).mono ?_; rintro e w2 ⟨A2, c2, rfl, r2, d2⟩; have b2 := b1.trans (d2.mono b1.size); have R1 := Lib.hid (R1.out.to d2); have R2 := Lib.hid r2; clear r2 d2 b1)
    | (go_at_call 12; refine (same_self _ _ _ _ l _ R1.out R2.out hl4).mono ?_; rintro e w3 ⟨rfl, d3⟩; have b3 := b2.trans (d3.mono b2.size); clear d3 b2)
    | (go_at_call 13; refine (KAW.out _ b3).mono ?_; rintro e w4 ⟨rfl, b4⟩; clear b3))
  go_ret
  exact ⟨rfl, b4⟩
end gr
end Go.Proofs.YtahffafobdiogaaDoor
/- The frame of a law's row: a call that returns true and leaves the old blocks alone meets the row; arguments that are slices of bools are opened. -/
namespace Go.Proofs.YtahffafobdiogaaDoor
set_option linter.unusedVariables false
set_option linter.unusedSimpArgs false
open Go.ChangeShapes Go.WideShapes Go.ChangeAt Go.RowKit Go.Deep
section
variable {H : Type} {enc : TypeId × Value → H} {P : Program}
theorem trodAll_below (hl : laidOutB P = true) {W W' : World} (hb : Below W.heap.size W W') : ∀ {ts : List TypeId} {vs : List Value} {ds : List (DataW H)} {ps : List MemPlace},
    (∀ t ∈ ts, P.readableRec t = true ∧ t < P.types.size) → DataW.TrodAll enc P W 0 (fun _ => true) true ts vs ds ps → (∀ x ∈ ps, x.block < W.heap.size) →
    DataW.TrodAll enc P W' 0 (fun b => decide (b < W.heap.size)) true ts vs ds ps := by
  intro ts
  induction ts with
  | nil => intro vs ds ps _ h _; cases vs <;> cases ds <;> simp_all [DataW.TrodAll]
  | cons t ts ih =>
    intro vs ds ps ht h hlt
    match vs, ds, h with
    | v :: vs, d :: ds, ⟨p, q, h1, h2, e⟩ =>
      subst e
      obtain ⟨hr, hs⟩ := ht t (by simp)
      exact ⟨p, q, Below.trod hl hr hs h1 hb (fun x hx => hlt x (by simp [hx])), ih (fun u hu => ht u (by simp [hu])) h2 (fun x hx => hlt x (by simp [hx])), rfl⟩
theorem law_post {f : Func} {s : ChangeSpec} {W W' : World} {args : Array Value} {ds gs : List (DataW H)} {before : List MemPlace} {tb : TypeId}
    (hW : DataW.Whole enc P f.params.toList s.vars false W args.toList ds gs before) (hv : s.vars = [])
    (hs : (s.fn H (ds ++ gs)).results = [.lit (.bool true)] ∧ (s.fn H (ds ++ gs)).args = ds ∧ (s.fn H (ds ++ gs)).vars = [])
    (hf : f.resultTypes = #[tb]) (htb : P.underlying tb = some .bool) (hl : laidOutB P = true) (hts : ∀ t ∈ f.params.toList, P.readableRec t = true ∧ t < P.types.size)
    (hb : Below W.heap.size W W') : s.post enc P f false true false false W args (.bool true) W' := by
  have hW' := hW
  obtain ⟨p, q, hA, hV, rfl, _, _⟩ := hW
  rw [hv] at hV
  obtain ⟨rfl, rfl⟩ := trodVars_none hV
  refine ⟨ds, [], p ++ [], [], p, [], hW', ?_, ?_, ?_, hb.frame _, fun h => by cases h⟩
  · rw [hs.1, hf]
    exact trodAll_mk1 (shut_bool htb true)
  · rw [hs.2.1]
    exact trodAll_below hl hb hts hA (fun x hx => hW'.lt x (by simp [hx]))
  · rw [hv, hs.2.2]
    rfl
end
end Go.Proofs.YtahffafobdiogaaDoor
/- The frame of the rows of layer 4: what the listed variable gives; an argument of edges. -/
namespace Go.Proofs.YtahffafobdiogaaDoor
set_option linter.unusedVariables false
set_option linter.unusedSimpArgs false
open Go.ChangeShapes Go.WideShapes Go.ChangeAt Go.RowKit Go.Deep Go.WideElems
def laidL : List (String × DataW Unit) := [("math/bits.deBruijn64tab", Rows.laid_math_bits_deBruijn64tab)]
theorem gTab : Tryd.prog.globalNamed "math/bits.deBruijn64tab" = some 0 := by kernel_rfl
theorem tyTab : (Tryd.prog.globals[0]?).map (·.type) = some 80 := by kernel_rfl
theorem door_met (os : Os) (args : Array Value) : laidMetH Tryd.prog laidL ((World.doorLaid Tryd.prog 400 os).forCall (fun _ _ => 0) ⟨#[], args, []⟩).memory :=
  laidMetH_of_parts3 (fuel := 8) (laidMet_of_run' 8 (by kernel_rfl) (by kernel_rfl)) (by kernel_rfl) (by kernel_rfl)
theorem std_of_laid {W : World} (h : laidMetH Tryd.prog laidL W) : gr.Tz W := by
  rw [MakeChecks.laidMetH_plain _ _ _ (by kernel_rfl)] at h
  have h3 : laidMet Tryd.prog (("math/bits.deBruijn64tab", Lib.tabData .u8 (Lib.deBruijn64tab.map fun x : Nat => (x : Int))) :: []) W := h
  have ht := Lib.tabIs_of_head gTab tyTab Tryd.underlying80 Tryd.underlying5 (by kernel_rfl) (by kernel_rfl) h3
  intro j hj
  have hc := ht.cell gTab j (by rw [List.length_map]; exact hj)
  have e : ((Lib.deBruijn64tab.map fun x : Nat => (x : Int)).getD j 0 : Int) = ((Lib.deBruijn64tab.getD j 0 : Nat) : Int) := by
    rw [List.getD, List.getD, List.getElem?_map, List.getElem?_eq_getElem hj]
    rfl
  rw [e] at hc
  exact hc
theorem int_le {n : Int} (h : (Lit.int .i64 n).wf = true) : n ≤ 9223372036854775807 := by
  have h2 : n ≤ IntKind.i64.max := by simp only [Lit.wf, Bool.and_eq_true, decide_eq_true_eq] at h; exact h.2
  exact h2
theorem int_ge {n : Int} (h : (Lit.int .i64 n).wf = true) : -9223372036854775808 ≤ n := by
  have h2 : IntKind.i64.min ≤ n := by simp only [Lit.wf, Bool.and_eq_true, decide_eq_true_eq] at h; exact h.1
  exact h2
section
variable {H : Type} {enc : TypeId × Value → H} {P : Program} {w : World} {held : Bool} {base : Nat}
theorem choose_list {α : Type} {p : Nat → α → Prop} : ∀ n, (∀ i, i < n → ∃ e, p i e) → ∃ l : List α, l.length = n ∧ ∀ i e, l[i]? = some e → p i e := by
  intro n
  induction n with
  | zero => exact fun _ => ⟨[], rfl, fun i e h => by simp at h⟩
  | succ n ih =>
    intro h
    obtain ⟨l, hl, hp⟩ := ih fun i hi => h i (by omega)
    obtain ⟨e, he⟩ := h n (by omega)
    refine ⟨l ++ [e], by simp [hl], fun i x hx => ?_⟩
    rcases Nat.lt_or_ge i n with hi | hi
    · exact hp i x (by rwa [List.getElem?_append_left (by omega)] at hx)
    · rw [List.getElem?_append_right (by omega)] at hx
      have hi2 : i = n := by
        have := (List.getElem?_eq_some_iff.1 hx).1
        simp at this
        omega
      subst hi2
      rw [hl, Nat.sub_self] at hx
      obtain rfl : e = x := by simpa using hx
      exact he
theorem rd_edges {t e : TypeId} {f0 f1 : Field} {fuel : Nat} {v : Value} {x : DataW H × List MemPlace} (ht : P.underlying t = some (.slice e)) (he : P.underlying e = some (.struct #[f0, f1]))
    (ce : P.cellsOf e = 2) (o0 : f0.offset = 0) (o1 : f1.offset = 1) (c0 : P.cellsOf f0.type = 1) (c1 : P.cellsOf f1.type = 1) (i0 : P.underlying f0.type = some (.int .i64)) (i1 : P.underlying f1.type = some (.int .i64))
    (h : DataW.trod enc P w base (fun _ => true) held fuel t [v] = some x) :
    ∃ (A : Option Addr) (l : List (Int × Int)) (c : Nat), v = .slice A l.length c ∧ gr.RdE w w.heap.size A l ∧ (A = none → c = 0) ∧ l.length ≤ 9223372036854775807 ∧ l.length ≤ c := by
  rcases open_slice_pairs ht he ce o0 o1 c0 c1 h with ⟨hv, _⟩ | ⟨a, len, cap, m, n, V0, V1, D0, D1, P0, P1, hv, _, hl, hm, hmm, _, hx⟩
  · simp only [List.cons.injEq, and_true] at hv
    exact ⟨none, [], 0, hv, fun h => absurd rfl h, fun _ => rfl, by simp, by simp⟩
  · simp only [List.cons.injEq, and_true] at hv
    have hmc : m = cap := by simpa using hmm
    obtain ⟨l, hll, hp⟩ := choose_list (p := fun i (e : Int × Int) => w.cell? (a.add (i * 2)) = some (.int .i64 e.1) ∧ w.cell? (a.add (i * 2 + 1)) = some (.int .i64 e.2)) len fun i hi => by
      obtain ⟨h1, h2, h3, h4⟩ := hx i (by omega)
      obtain ⟨n0, e0, _⟩ := DataW.trod_int i0 h3
      obtain ⟨n1, e1, _⟩ := DataW.trod_int i1 h4
      simp only [List.cons.injEq, and_true] at e0 e1
      exact ⟨(n0, n1), by rw [h1, e0], by rw [h2, e1]⟩
    refine ⟨some a, l, cap, by rw [hll]; exact hv, fun hne => ⟨a, rfl, ?_, fun k e he => ?_⟩, fun h => (by cases h), by rw [hll]; unfold maxLen at hm; omega, by rw [hll]; exact hl⟩
    · have h0 : 0 < l.length := List.length_pos_iff.2 hne
      have := World.block_lt_of_cell? w _ (hp 0 _ (List.getElem?_eq_getElem h0)).1
      rwa [add_block] at this
    · obtain ⟨g1, g2⟩ := hp k e he
      have ee : ∀ i, a.add (i + 1) = ⟨(a.add i).block, (a.add i).off + 1, none⟩ := fun i => by simp [Addr.add]; by_cases h0 : i = 0 <;> simp [h0]; try omega
      exact ⟨g1, by rw [← ee]; exact g2⟩
end
end Go.Proofs.YtahffafobdiogaaDoor
