/- awake. -/
import Derived.Test.YtahffafobdiogaaDoorKhf
namespace Go.Proofs.YtahffafobdiogaaDoor
set_option linter.unusedVariables false
set_option linter.unusedSimpArgs false
open Go.RowKit
namespace gr
/-- the cells of edges -/
def cE (ns : List (Nat × Nat)) : List Value := ns.flatMap fun e => [.int .i64 (e.1 : Int), .int .i64 (e.2 : Int)]
theorem cE_get : ∀ (ns : List (Nat × Nat)) (k : Nat), (cE ns)[k * 2]? = (ns[k]?).map (fun e => Value.int .i64 (e.1 : Int)) ∧ (cE ns)[k * 2 + 1]? = (ns[k]?).map (fun e => Value.int .i64 (e.2 : Int))
  | [], k => by simp [cE]
  | e :: r, 0 => by simp [cE]
  | e :: r, k + 1 => by
    have h := cE_get r k
    have e1 : cE (e :: r) = .int .i64 (e.1 : Int) :: .int .i64 (e.2 : Int) :: cE r := rfl
    rw [e1, show (k + 1) * 2 = k * 2 + 1 + 1 by omega]
    simp only [List.getElem?_cons_succ]
    exact h
theorem rdE_blk {W : World} {b : Nat} {t : TypeId} {ns : List (Nat × Nat)} (h : Blk W b t (cE ns)) : RdE W W.heap.size (some ⟨b, 0, none⟩) (eN ns) := fun _ => by
  refine ⟨_, rfl, h.lt, fun k e he => ?_⟩
  rw [eN_get] at he
  cases hx : ns[k]? with
  | none => rw [hx] at he; cases he
  | some x =>
    rw [hx] at he
    injection he with he
    subst he
    obtain ⟨h1, h2⟩ := cE_get ns k
    rw [hx] at h1 h2
    rw [off_add]
    exact ⟨h.cell h1, h.cell h2⟩
theorem ko_ex (w W : World) (hT : Tz w) (hb : Below w.heap.size w W) : Calls Tryd.prog 10 #[.int .i64 4, .slice (some ⟨W.heap.size, 0, none⟩) 2 2] (W.alloc (.cells #[.int .i64 2, .int .i64 0, .int .i64 0, .int .i64 3] 40)) fun e w' => ∃ A c, e = .returned (.tuple #[.slice A 4 c, .int .i64 0]) ∧ Rd w' w'.heap.size A (vV [1, 2, 0, 3]) ∧ Below w.heap.size w w' ∧ Below W.heap.size W w' := by
  have hblk : Blk (W.alloc (.cells #[.int .i64 2, .int .i64 0, .int .i64 0, .int .i64 3] 40)) W.heap.size _ (cE [(2, 0), (0, 3)]) := Blk.new W (cE [(2, 0), (0, 3)]) 40
  have hb2 : Below w.heap.size w (W.alloc (.cells #[.int .i64 2, .int .i64 0, .int .i64 0, .int .i64 3] 40)) := bel_alloc hb _
  refine (order_ok 4 (some ⟨W.heap.size, 0, none⟩) 2 [(2, 0), (0, 3)] (by decide) (by decide) (by decide) _ (hT.keep hb2) (rdE_blk hblk) (by decide +kernel)).mono ?_
  rintro e w' ⟨A, c, he, h1, h2⟩
  rw [ex_ord.1, ex_ord.2] at he
  rw [ex_ord.1] at h1
  exact ⟨A, c, he, h1, hb2.trans (h2.mono hb2.size), (bel_box _).trans (h2.mono (by simp))⟩
theorem kc_ex (w W : World) (hT : Tz w) (hb : Below w.heap.size w W) : Calls Tryd.prog 14 #[.int .i64 5, .slice (some ⟨W.heap.size, 0, none⟩) 5 5] (W.alloc (.cells #[.int .i64 0, .int .i64 1, .int .i64 1, .int .i64 2, .int .i64 2, .int .i64 0, .int .i64 4, .int .i64 3, .int .i64 3, .int .i64 4] 40)) fun e w' => ∃ A c, e = .returned (.tuple #[.slice A 2 c, .int .i64 0]) ∧ Rd w' w'.heap.size A (vV [3, 4]) ∧ Below w.heap.size w w' ∧ Below W.heap.size W w' := by
  have hblk : Blk (W.alloc (.cells #[.int .i64 0, .int .i64 1, .int .i64 1, .int .i64 2, .int .i64 2, .int .i64 0, .int .i64 4, .int .i64 3, .int .i64 3, .int .i64 4] 40)) W.heap.size _ (cE [(0, 1), (1, 2), (2, 0), (4, 3), (3, 4)]) := Blk.new W (cE [(0, 1), (1, 2), (2, 0), (4, 3), (3, 4)]) 40
  have hb2 : Below w.heap.size w (W.alloc (.cells #[.int .i64 0, .int .i64 1, .int .i64 1, .int .i64 2, .int .i64 2, .int .i64 0, .int .i64 4, .int .i64 3, .int .i64 3, .int .i64 4] 40)) := bel_alloc hb _
  refine (cycle_ok 5 (some ⟨W.heap.size, 0, none⟩) 5 [(0, 1), (1, 2), (2, 0), (4, 3), (3, 4)] (by decide) (by decide) (by decide) _ (hT.keep hb2) (rdE_blk hblk) (by decide +kernel)).mono ?_
  rintro e w' ⟨A, c, he, h1, h2⟩
  rw [ex_cyc, ex_cycx] at he
  rw [ex_cyc] at h1
  exact ⟨A, c, he, h1, hb2.trans (h2.mono hb2.size), (bel_box _).trans (h2.mono (by simp))⟩
theorem kn_ex (w W : World) (hT : Tz w) (hb : Below w.heap.size w W) : Calls Tryd.prog 14 #[.int .i64 3, .slice none 0 0] W fun e w' => ∃ A c, e = .returned (.tuple #[.slice A 0 c, .int .i64 8]) ∧ Below w.heap.size w w' ∧ Below W.heap.size W w' := by
  refine (cycle_ok 3 none 0 [] (by decide) (by decide) (by decide) _ (hT.keep hb) (fun h => absurd rfl h) (by decide +kernel)).mono ?_
  rintro e w' ⟨A, c, he, h1, h2⟩
  rw [ex_none.1, ex_none.2] at he
  exact ⟨A, c, he, hb.trans (h2.mono hb.size), h2⟩
theorem kr_ex (w W : World) (hT : Tz w) (hb : Below w.heap.size w W) : Calls Tryd.prog 16 #[.int .i64 3, .slice (some ⟨W.heap.size, 0, none⟩) 1 1, .int .i64 1] (W.alloc (.cells #[.int .i64 1, .int .i64 2] 40)) fun e w' => ∃ ad c, e = .returned (.tuple #[.slice (some ad) 3 c, .int .i64 0]) ∧ (ad.block < w'.heap.size ∧ w'.cell? (ad.add 0) = some (.bool false) ∧ w'.cell? (ad.add 1) = some (.bool true) ∧ w'.cell? (ad.add 2) = some (.bool true)) ∧ Below w.heap.size w w' ∧ Below W.heap.size W w' := by
  have hblk : Blk (W.alloc (.cells #[.int .i64 1, .int .i64 2] 40)) W.heap.size _ (cE [(1, 2)]) := Blk.new W (cE [(1, 2)]) 40
  have hb2 : Below w.heap.size w (W.alloc (.cells #[.int .i64 1, .int .i64 2] 40)) := bel_alloc hb _
  refine (reach_ok 3 1 (some ⟨W.heap.size, 0, none⟩) 1 [(1, 2)] (by decide) (by decide) (by decide) (by decide) _ (hT.keep hb2) (rdE_blk hblk) (by decide +kernel)).mono ?_
  rintro e w' ⟨A, c, he, h1, h2⟩
  rw [ex_rch] at h1
  obtain ⟨ad, rfl, h3, h4⟩ := h1 (by simp)
  exact ⟨ad, c, he, ⟨h3, h4 0 _ rfl, h4 1 _ rfl, h4 2 _ rfl⟩, hb2.trans (h2.mono hb2.size), (bel_box _).trans (h2.mono (by simp))⟩
theorem kp_ex (w W : World) (hT : Tz w) (hb : Below w.heap.size w W) : Calls Tryd.prog 18 #[.int .i64 4, .slice (some ⟨W.heap.size, 0, none⟩) 3 3] (W.alloc (.cells #[.int .i64 0, .int .i64 2, .int .i64 2, .int .i64 0, .int .i64 2, .int .i64 1] 40)) fun e w' => ∃ ad c g0 g1 g2 p0 p1 p2, e = .returned (.tuple #[.slice (some ad) 3 c, .int .i64 0]) ∧ (ad.block < w'.heap.size ∧ w'.cell? (ad.add 0) = some (.slice (some ⟨g0, 0, none⟩) 2 p0) ∧ w'.cell? (ad.add 1) = some (.slice (some ⟨g1, 0, none⟩) 1 p1) ∧ w'.cell? (ad.add 2) = some (.slice (some ⟨g2, 0, none⟩) 1 p2)) ∧ (Rd w' w'.heap.size (some ⟨g0, 0, none⟩) (vV [0, 2]) ∧ Rd w' w'.heap.size (some ⟨g1, 0, none⟩) (vV [1]) ∧ Rd w' w'.heap.size (some ⟨g2, 0, none⟩) (vV [3])) ∧ Below w.heap.size w w' ∧ Below W.heap.size W w' := by
  have hblk : Blk (W.alloc (.cells #[.int .i64 0, .int .i64 2, .int .i64 2, .int .i64 0, .int .i64 2, .int .i64 1] 40)) W.heap.size _ (cE [(0, 2), (2, 0), (2, 1)]) := Blk.new W (cE [(0, 2), (2, 0), (2, 1)]) 40
  have hb2 : Below w.heap.size w (W.alloc (.cells #[.int .i64 0, .int .i64 2, .int .i64 2, .int .i64 0, .int .i64 2, .int .i64 1] 40)) := bel_alloc hb _
  refine (parts_ok 4 (some ⟨W.heap.size, 0, none⟩) 3 [(0, 2), (2, 0), (2, 1)] (by decide) (by decide) (by decide) _ (hT.keep hb2) (rdE_blk hblk) (by decide +kernel)).mono ?_
  rintro e w' ⟨A, c, fs, he, h0, h1, h3, h2⟩
  rw [ex_parts] at h0
  obtain ⟨e0, e1, e2, rfl⟩ : ∃ e0 e1 e2, fs = [e0, e1, e2] := by
    rcases fs with _ | ⟨a, _ | ⟨b, _ | ⟨d, _ | ⟨f, r⟩⟩⟩⟩
    · simp at h0
    · simp at h0
    · simp at h0
    · exact ⟨_, _, _, rfl⟩
    · simp at h0
  simp only [List.map_cons, List.map_nil, List.cons.injEq, and_true] at h0
  obtain ⟨x0, x1, x2⟩ := h0
  obtain ⟨ad, rfl, h4, h5⟩ := h1 (by simp)
  have r0 := h3 e0 (by simp)
  have r1 := h3 e1 (by simp)
  have r2 := h3 e2 (by simp)
  have y0 := h5 0 _ rfl
  have y1 := h5 1 _ rfl
  have y2 := h5 2 _ rfl
  unfold encP at y0 y1 y2
  rw [x0] at r0 y0
  rw [x1] at r1 y1
  rw [x2] at r2 y2
  exact ⟨ad, c, e0.1, e1.1, e2.1, e0.2.2, e1.2.2, e2.2.2, he, ⟨h4, y0, y1, y2⟩, ⟨r0, r1, r2⟩, hb2.trans (h2.mono hb2.size), (bel_box _).trans (h2.mono (by simp))⟩
theorem same_new (A : Option Addr) (c : Nat) (l : List Nat) (W : World) (h : Rd W W.heap.size A (vV l)) (hl : l.length ≤ 1048576) : Calls Tryd.prog 12 #[.slice A l.length c, .slice (some ⟨W.heap.size, 0, none⟩) l.length l.length] (W.alloc (.cells (vV l).toArray 3)) fun e w' => e = .returned (.bool true) ∧ Below W.heap.size W w' := by
  have hblk := Blk.new W (vV l) 3
  have hbb : Below W.heap.size W (W.alloc (.cells (vV l).toArray 3)) := bel_box _
  refine (same_any A (some ⟨W.heap.size, 0, none⟩) c l.length l l _ (h.to hbb) (rd_nums fun j x hx => hblk.cell (by unfold vV; rw [List.getElem?_map, hx]; rfl)) hl hl).mono ?_
  rintro e w' ⟨he, q, rfl⟩
  rw [decide_eq_true rfl] at he
  exact ⟨he, below_drewN hbb q⟩
end gr
end Go.Proofs.YtahffafobdiogaaDoor
