/- through of the program. -/
import Derived.Test.YtahffafobdiogaaDoorKgp
namespace Go.Proofs.YtahffafobdiogaaDoor
set_option linter.unusedVariables false
set_option linter.unusedSimpArgs false
open Go.RowKit
namespace gr
theorem off_add (g j : Nat) : (⟨g, 0, none⟩ : Addr).add j = ⟨g, j, none⟩ := by simp [Addr.add]; try (intro h; exact h.symm)
theorem folr_some {nx : Nat → Nat → Option Nat} {d v w : Nat} (h : nx v (d + 1) = some w) : folr nx (d + 1) v = w :: folr nx d w := by
  conv => lhs; unfold folr
  rw [h]
/-- a list of vertices; nil if it is empty -/
def NewT (l : List Nat) (w : World) (e : Ending) (w' : World) : Prop := ∃ A c, e = .returned (.slice A l.length c) ∧ (l = [] → A = none ∧ c = 0) ∧ (l ≠ [] → ∃ ad, A = some ad) ∧ Rd w' w'.heap.size A (vV l) ∧ Below w.heap.size w w'
set_option maxRecDepth 100000 in
set_option maxHeartbeats 4000000 in
theorem through_any (n v lb db : Nat) (E : Nat → Nat → Bool) (D : Nat → Option Nat) (hn : n ≤ 4096) (hEn : ∀ u w, E u w = true → w < n) (hv : v < n) (hfull : ∀ d, Mnd E n D v d → d < n ∧ (folr (nea E n D) d v).length = d) (w : World) (hL : LkE w lb n E) (hT : Tz w) (hD : Blk w db 3 (rowI n (dI D))) (hlb : lb + n < w.heap.size) :
    Calls Tryd.prog 35 #[.int .i64 v, sl lb n, sl db n] w (NewT (thrS E n D v) w) := by
  have htz := tz_lt hT
  obtain ⟨W3, hW3⟩ : ∃ W3, (w.alloc (.cells #[sl db n] 24)).alloc (.cells #[.int .i64 (-1)] 3) = W3 := ⟨_, rfl⟩
  have hb3 : Below w.heap.size w W3 := by rw [← hW3]; exact bel_alloc (bel_box _) _
  have h3 : Tr w W3 lb n db w.heap.size (w.heap.size + 1) E D (-1) := by
    have g1 : Blk W3 w.heap.size 24 [sl db n] := by rw [← hW3]; exact (Blk.new w [sl db n] _).alloc _
    have g2 : Blk W3 (w.heap.size + 1) 3 [.int .i64 (-1)] := by
      rw [← hW3]
      have h := Blk.new (w.alloc (.cells #[sl db n] 24)) [.int .i64 (-1)] 3
      rw [World.size_alloc] at h
      exact h
    exact ⟨hL.keep hb3, hT.keep hb3, hD.keep hb3, g1.cell (i := 0) rfl, g2.cell (i := 0) rfl, g2.frozen 0, hb3, g2.lt, htz, hlb, hD.lt, Nat.le_refl _, by omega⟩
  have KV := Lib.hid (thr_visit1 hn hEn hv h3)
  obtain ⟨R, hR⟩ : ∃ R, NewT (thrS E n D v) w = R := ⟨_, rfl⟩
  rw [hR]
  cases hm : mndO E n D v with
  | none =>
    rw [hm] at KV
    have R0 : ∀ W, Below w.heap.size w W → R (.returned (.slice none 0 0)) W := fun W hb => by
      rw [← hR]
      unfold thrS
      rw [hm]
      exact ⟨none, 0, rfl, fun _ => ⟨rfl, rfl⟩, fun h => absurd rfl h, Rd.nil _ _ _, hb⟩
    have R1 := Lib.hid R0
    clear hL hT hD h3 hb3 hR hm R0
    go_enter Tryd.func35, Tryd.ntmps35
    go_wp2_with (go_at_call 25; refine KV.out.mono ?_; clear KV; rintro e w4 ⟨rfl, h4⟩; have c4 := h4.rc)
    exact R1.out _ h4.low
  | some d =>
    rw [hm] at KV
    obtain ⟨hdn, hdl⟩ := hfull d (mndO_some.1 hm)
    have HT : Hid (thrS E n D v = v :: folr (nea E n D) d v) := Lib.hid (by unfold thrS; rw [hm])
    have hR2 := Lib.hid hR
    clear hL hT hD h3 hb3 hR hm
    go_enter Tryd.func35, Tryd.ntmps35
    go_wp2_with (go_at_call 25; refine KV.out.mono ?_; clear KV; rintro e w4 ⟨rfl, h4⟩; have c4 := h4.rc)
    have hz4 := h4.sz
    have hbl : Below w4.heap.size w4 (w4.alloc (.cells #[.int .i64 (v : Int)] 3)) := bel_box _
    have h5 := h4.keep (hbl.mono (by omega))
    have ho5 : (w4.alloc (.cells #[.int .i64 (v : Int)] 3)).ownsRow (w.heap.size + 2) 3 1 (.slice (some ⟨w4.heap.size, 0, none⟩) 1 1) 1 (vV [v]) := World.ownsRow_lit w4 #[.int .i64 (v : Int)] 1 (by omega) (by unfold maxLen; omega) rfl
    generalize hsz : w4.alloc (.cells #[.int .i64 (v : Int)] 3) = W5 at *
    generalize w4.heap.size = g0 at *
    clear hsz hbl h4 c4 hz4
    have HI := Lib.hid infoI
    have HEn := Lib.hid hEn
    clear hEn hfull
    go_loopw [8] (fun a wr => ∃ (L : List Nat) (x r : Nat), wr.ownsRow (w.heap.size + 2) 3 1 a (L.length + 1) (vV (L ++ [x])) ∧ x < n ∧ Tr w wr lb n db w.heap.size (w.heap.size + 1) E D (r : Int) ∧ Hid (L ++ x :: folr (nea E n D) r x = v :: folr (nea E n D) d v ∧ (folr (nea E n D) r x).length = r)) (fun a _ => d + 1 - lenV a)
    case atStart => exact ⟨[], v, d, ho5, hv, h5, Lib.hid ⟨rfl, hdl⟩⟩
    case round =>
      obtain ⟨L, x, r, hown, hx, htr, hfo⟩ := hrel
      clear ho5 h5
      have hlen : L.length + r = d := by
        have h1 := congrArg List.length hfo.out.1
        rw [List.length_append, List.length_cons, List.length_cons, hfo.out.2, hdl] at h1
        omega
      have c5 := htr.rc
      cases r with
      | zero =>
        have hL : L ++ [x] = thrS E n D v := by rw [HT.out, ← hfo.out.1]; rfl
        have hlow := htr.low
        obtain ⟨g, cap, rfl, _⟩ := hown.form (by omega)
        have hRd := Rd.of_own hown
        have R0 : ∀ W, W = wr → R (.returned (.slice (some ⟨g, 0, none⟩) (L.length + 1) cap)) W := by
          rintro W rfl
          rw [← hR2.out, ← hL]
          exact ⟨_, cap, by simp, fun h => by simp at h, fun _ => ⟨_, rfl⟩, hRd, hlow⟩
        have R1 := Lib.hid R0
        clear R0 hR2 HT hL hown htr hfo hRd hlow
        go_wp2
        exact R1.out _ rfl
      | succ r =>
        obtain ⟨u, hu⟩ : ∃ u, nea E n D x (r + 1) = some u := by
          cases hq : nea E n D x (r + 1) with
          | some u => exact ⟨u, rfl⟩
          | none =>
            have h1 := hfo.out.2
            unfold folr at h1
            rw [hq] at h1
            simp at h1
        have hfo2 : Hid ((L ++ [x]) ++ u :: folr (nea E n D) r u = v :: folr (nea E n D) d v ∧ (folr (nea E n D) r u).length = r) := Lib.hid (by
          have h1 := hfo.out
          rw [folr_some hu] at h1
          simp only [List.length_cons, Nat.add_right_cancel_iff] at h1
          exact ⟨by rw [← h1.1]; simp, h1.2⟩)
        have hun := (nea_some hu).1
        have hz := htr.sz
        have hbb : Below wr.heap.size wr (wr.alloc (.cells #[.int .i64 (-1)] 3)) := bel_box _
        have hpn := Blk.new wr [.int .i64 (-1)] 3
        have htr2 := htr.keep (hbb.mono (by omega : w.heap.size + 1 + 1 ≤ wr.heap.size))
        have KE := Lib.hid (thr_visit2 (pn := wr.heap.size) hn HEn.out hx htr2 (by omega) (by simp) (hpn.cell (i := 0) rfl) (hpn.frozen 0))
        rw [hu] at KE
        obtain ⟨g, cap, rfl, hg1, hg2⟩ := hown.form (by omega)
        have cx : (wr.alloc (.cells #[.int .i64 (-1)] 3)).cell? ⟨g, L.length, none⟩ = some (.int .i64 (x : Int)) := cell_al _ (off_add g L.length ▸ hown.cells (g := g) rfl L.length (.int .i64 (x : Int)) (by simp [vV]))
        have ho2 := Lib.hid (own_keep hown hbb)
        have hgn := Lib.hid (show g ≠ wr.heap.size by omega)
        have hln : L.length < 4096 := by omega
        clear hown htr htr2 hfo hpn hbb hu
        obtain ⟨q, hq⟩ : ∃ q, L.length = q := ⟨_, rfl⟩
        rw [hq] at cx ho2 hln
        have HQ := Lib.hid hq
        have x2 : (0 : Int) ≤ (q : Int) := by omega
        obtain ⟨i0, hi, iz, is, ib⟩ := HI.out
        go_wp2_with (first
          | (go_at_call 25; refine KE.out.mono ?_; clear KE; rintro e w6 ⟨rfl, h6, c6, hk6⟩; have ho6 := Lib.hid (own_ne hk6 ho2.out (fun k hk e => by have := hgn.out; simp only [Value.ownBlock, Option.some.injEq] at e; omega)); clear hk6 ho2)
          | (at_builtin; refine wpList_append_own_at _ rfl _ _ 24 rfl (w.heap.size + 2) 3 i0 (.int .i64 0) 1 8 Tryd.underlying24 hi iz is ib rfl (by decide) _ (q + 1) (vV (L ++ [x])) rfl (own_keep ho6.out (bel_box _)) ⟨w6.heap.size, 0, none⟩ 1 1 [.int .i64 (u : Int)] rfl rfl (row1 _ _ _) (one_int _) (by unfold maxLen; omega) (by omega) (by rw [World.size_alloc]; have := h6.sz; omega) ?_; intro v9 w9 hown9 hgrow9 _ _; have hb9 : Below (w.heap.size + 1 + 1) w6 w9 := own_below (Below.refl _ _) (by have := h6.sz; omega) ho6.out hgrow9; have h9 := h6.keep hb9; have hown9 := Lib.hid hown9; have c9 := h9.rc; have f9 := h9.rf; clear h6 ho6 hgrow9 hb9))
        have hk10 : Kp (fun k => k = w.heap.size + 1) w9 (w9.setCell ⟨w.heap.size + 1, 0, none⟩ (.int .i64 (r : Int))) := Kp.set (S := fun k => k = w.heap.size + 1) w9 (a := ⟨w.heap.size + 1, 0, none⟩) rfl _
        have h10 := h9.own (r' := (r : Int)) hk10 (World.cell?_setCell_same w9 _ _ c9) (by rw [World.frozen?_setCell]; exact f9)
        have hw := hk10.own hown9.out (fun k e => by omega)
        rw [vV_snoc] at hw
        refine ⟨⟨L ++ [x], u, r, by rw [show (L ++ [x]).length + 1 = q + 1 + 1 by rw [List.length_append, HQ.out]; rfl]; exact hw, hun, h10, hfo2⟩, ?_⟩
        obtain ⟨V9, cc9, rfl⟩ := own_form hw
        simp only [lenV]
        omega
end gr
end Go.Proofs.YtahffafobdiogaaDoor
