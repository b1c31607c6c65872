/- distances: its visits. -/
import Derived.Test.YtahffafobdiogaaDoorKgr
namespace Go.Proofs.YtahffafobdiogaaDoor
set_option linter.unusedVariables false
set_option linter.unusedSimpArgs false
open Go.RowKit
namespace gr
/-- all blocks below B but those of S are as they were -/
structure Kq (B : Nat) (S : Nat → Prop) (W W' : World) : Prop where
  size : W.heap.size ≤ W'.heap.size
  blocks : ∀ k, k < B → k < W.heap.size → ¬ S k → W'.heap[k]? = W.heap[k]?
  os : Os W W'
theorem Kq.refl (B : Nat) (S : Nat → Prop) (W : World) : Kq B S W W := ⟨Nat.le_refl _, fun _ _ _ _ => rfl, .refl W⟩
theorem Kq.trans {N : Nat} {S : Nat → Prop} {A B C : World} (h : Kq N S A B) (g : Kq N S B C) : Kq N S A C :=
  ⟨Nat.le_trans h.1 g.1, fun k hN hk hs => (g.2 k hN (Nat.lt_of_lt_of_le hk h.1) hs).trans (h.2 k hN hk hs), h.os.trans g.os⟩
theorem Kq.below {B N : Nat} {S : Nat → Prop} {W W' : World} (h : Below N W W') (hB : B ≤ N) : Kq B S W W' := ⟨h.size, fun k hk _ _ => h.block k (by omega), .below h⟩
theorem Kq.kp {B : Nat} {S T : Nat → Prop} {W W' : World} (h : Kp T W W') (hs : ∀ k, T k → S k) : Kq B S W W' := ⟨h.1, fun k _ hk hn => h.2 k hk fun x => hn (hs k x), h.os⟩
theorem Kq.cell {B : Nat} {S : Nat → Prop} {W W' : World} (h : Kq B S W W') {a : Addr} {v : Value} (hc : W.cell? a = some v) (hB : a.block < B) (hs : ¬ S a.block) : W'.cell? a = some v :=
  (World.cell?_of_block (h.2 _ hB (World.block_lt_of_cell? W _ hc) hs)).trans hc
theorem Kq.low {B N : Nat} {S : Nat → Prop} {W W' : World} (h : Kq B S W W') (hN : N ≤ B) (hz : N ≤ W.heap.size) (hs : ∀ k, S k → N ≤ k) : Below N W W' :=
  ⟨h.os.1, h.os.2.1, h.os.2.2, h.1, fun k hk => h.2 k (by omega) (by omega) fun x => by have := hs k x; omega⟩
/-- what distances has in memory -/
structure Dt (w W : World) (lb n db pd sb ps : Nat) (E : Nat → Nat → Bool) (f : Nat → Int) (p : Nat → Bool) : Prop where
  lk : LkE W lb n E
  tz : Tz W
  di : Blk W db 3 (rowI n f)
  dc : W.cell? ⟨pd, 0, none⟩ = some (sl db n)
  sn : ∃ ws, Blk W sb 69 (uV ws) ∧ St (sizeW n) ws p
  sc : W.cell? ⟨ps, 0, none⟩ = some (sl sb (sizeW n))
  low : Below w.heap.size w W
  sz : ps < W.heap.size
  fit : tzB < w.heap.size ∧ lb + n < w.heap.size ∧ w.heap.size ≤ db ∧ db < pd ∧ pd < sb ∧ sb < ps
theorem Dt.keep {w W W' : World} {lb n db pd sb ps : Nat} {E : Nat → Nat → Bool} {f : Nat → Int} {p : Nat → Bool} (h : Dt w W lb n db pd sb ps E f p) (hb : Below (ps + 1) W W') : Dt w W' lb n db pd sb ps E f p := by
  obtain ⟨f1, f2, f3, f4, f5, f6⟩ := h.fit
  obtain ⟨ws, h1, h2⟩ := h.sn
  exact ⟨h.lk.low hb (by omega), h.tz.low hb (by omega), h.di.below hb (by omega), (hb.cell (p := ⟨pd, 0, none⟩) (by simp only; omega)).trans h.dc, ⟨ws, h1.below hb (by omega), h2⟩, (hb.cell (p := ⟨ps, 0, none⟩) (by simp only; omega)).trans h.sc, h.low.trans (hb.mono (by omega)), Nat.lt_of_lt_of_le h.sz hb.size, h.fit⟩
theorem Dt.congr {w W : World} {lb n db pd sb ps : Nat} {E : Nat → Nat → Bool} {f g : Nat → Int} {p q : Nat → Bool} (h : Dt w W lb n db pd sb ps E f p) (hf : ∀ v, v < n → f v = g v) (hp : ∀ v, p v = q v) : Dt w W lb n db pd sb ps E g q := by
  obtain ⟨ws, h1, h2⟩ := h.sn
  exact ⟨h.lk, h.tz, by rw [← rowI_congr hf]; exact h.di, h.dc, ⟨ws, h1, h2.congr hp⟩, h.sc, h.low, h.sz, h.fit⟩
theorem Dt.add {w W : World} {lb n db pd sb ps : Nat} {E : Nat → Nat → Bool} {f : Nat → Int} {p : Nat → Bool} (hn : n ≤ 4096) (h : Dt w W lb n db pd sb ps E f p) {v : Nat} (hv : v < n) : Calls Tryd.prog 28 #[sl sb (sizeW n), .int .i64 v] W fun e W' => e = .returned (.tuple #[]) ∧ Dt w W' lb n db pd sb ps E f (fun u => p u || decide (u = v)) ∧ Kp (fun k => k = sb) W W' := by
  obtain ⟨f1, f2, f3, f4, f5, f6⟩ := h.fit
  obtain ⟨ws, h1, h2⟩ := h.sn
  have hz := h.sz
  refine (add_any sb (sizeW n) v ws p W h1 h2 (by unfold sizeW; omega) (size_div hv)).mono ?_
  rintro e W' ⟨he, q, rfl⟩
  have hk : Kp (fun k => k = sb) W ((W.setCell ⟨sb, v / 64, none⟩ (.int .u64 ((ws.getD (v / 64) 0 ||| 2 ^ (v % 64) : Nat) : Int))).drewN q) := (Kp.set (S := fun k => k = sb) W (a := ⟨sb, v / 64, none⟩) rfl _).trans (Kp.below (below_self _ _ q))
  refine ⟨he, ⟨h.lk.kp hk (fun k _ _ e => by omega), h.tz.kp hk (fun e => by omega), hk.blk h.di (by omega), (World.cell?_of_block (hk.2 _ (World.block_lt_of_cell? W _ h.dc) (by simp only; omega))).trans h.dc, ⟨addW ws v, ?_, h2.add (size_div hv)⟩, (World.cell?_of_block (hk.2 _ (World.block_lt_of_cell? W _ h.sc) (by simp only; omega))).trans h.sc, h.low.trans (hk.low (by omega) (fun k e => by omega)), Nat.lt_of_lt_of_le hz hk.1, h.fit⟩, hk⟩
  have := h1.set (v / 64) (.int .u64 ((ws.getD (v / 64) 0 ||| 2 ^ (v % 64) : Nat) : Int))
  rw [uV_set] at this
  exact this
theorem Dt.put {w W : World} {lb n db pd sb ps u : Nat} {E : Nat → Nat → Bool} {f : Nat → Int} {p : Nat → Bool} (h : Dt w W lb n db pd sb ps E f p) (x : Int) : Dt w (W.setCell ⟨db, u, none⟩ (.int .i64 x)) lb n db pd sb ps E (fun v => if v = u then x else f v) p ∧ Kp (fun k => k = db) W (W.setCell ⟨db, u, none⟩ (.int .i64 x)) := by
  obtain ⟨f1, f2, f3, f4, f5, f6⟩ := h.fit
  obtain ⟨ws, h1, h2⟩ := h.sn
  have hz := h.sz
  have hk : Kp (fun k => k = db) W (W.setCell ⟨db, u, none⟩ (.int .i64 x)) := Kp.set (S := fun k => k = db) W (a := ⟨db, u, none⟩) rfl _
  refine ⟨⟨h.lk.kp hk (fun k _ _ e => by omega), h.tz.kp hk (fun e => by omega), ?_, (World.cell?_of_block (hk.2 _ (World.block_lt_of_cell? W _ h.dc) (by simp only; omega))).trans h.dc, ⟨ws, hk.blk h1 (by omega), h2⟩, (World.cell?_of_block (hk.2 _ (World.block_lt_of_cell? W _ h.sc) (by simp only; omega))).trans h.sc, h.low.trans (hk.low (by omega) (fun k e => by omega)), Nat.lt_of_lt_of_le hz hk.1, h.fit⟩, hk⟩
  have := h.di.set u (.int .i64 x)
  rw [rowI_set] at this
  exact this
/-- what its visits find: F so far, at distance k -/
structure Df (w W : World) (lb n db pd sb ps px pf BF : Nat) (E : Nat → Nat → Bool) (f0 : Nat → Int) (b0 : Nat → Bool) (k : Nat) (F : List Nat) : Prop where
  dt : Dt w W lb n db pd sb ps E (fun v => if F.contains v = true then (k : Int) else f0 v) (fun v => b0 v || F.contains v)
  xc : W.cell? ⟨px, 0, none⟩ = some (.int .i64 (k : Int))
  fc : ∃ V, W.cell? ⟨pf, 0, none⟩ = some V ∧ W.ownsRow BF 3 1 V F.length (vV F)
  ff : W.frozen? ⟨pf, 0, none⟩ = false
  bz : BF ≤ W.heap.size
  len : F.length ≤ n
  fit2 : ps < px ∧ px < pf ∧ pf < BF
theorem Df.keep {w W W' : World} {lb n db pd sb ps px pf BF k : Nat} {E : Nat → Nat → Bool} {f0 : Nat → Int} {b0 : Nat → Bool} {F : List Nat} (h : Df w W lb n db pd sb ps px pf BF E f0 b0 k F) (hb : Below W.heap.size W W') : Df w W' lb n db pd sb ps px pf BF E f0 b0 k F := by
  obtain ⟨V, h1, h2⟩ := h.fc
  have hz := h.dt.sz
  exact ⟨h.dt.keep (hb.mono (by omega)), (hb.cell (p := ⟨px, 0, none⟩) (World.block_lt_of_cell? W _ h.xc)).trans h.xc, ⟨V, (hb.cell (p := ⟨pf, 0, none⟩) (World.block_lt_of_cell? W _ h1)).trans h1, own_keep h2 hb⟩, (hb.frozen (p := ⟨pf, 0, none⟩) (World.block_lt_of_cell? W _ h1)).trans h.ff, Nat.le_trans h.bz hb.size, h.len, h.fit2⟩
theorem row1' {w : World} {z : Nat} (hz : w.heap.size = z) (x : Value) (t : TypeId) : ∀ j u, [x][j]? = some u → (w.alloc (.cells #[x] t)).cell? ((⟨z, 0, none⟩ : Addr).add j) = some u := by
  subst hz
  exact row1 w x t
/-- what a visit may write -/
abbrev Sd (db sb pf : Nat) (k : Nat) : Prop := k = db ∨ k = sb ∨ k = pf
set_option maxRecDepth 100000 in
set_option maxHeartbeats 4000000 in
theorem dist1_any (w W : World) (lb n db pd sb ps px pf BF k u : Nat) (E : Nat → Nat → Bool) (f0 : Nat → Int) (b0 : Nat → Bool) (F : List Nat) (hn : n ≤ 4096) (hu : u < n) (hF : F.length < n) (h : Df w W lb n db pd sb ps px pf BF E f0 b0 k F) :
    Calls Tryd.prog 54 #[.int .i64 u, .pointer (some ⟨ps, 0, none⟩), .pointer (some ⟨px, 0, none⟩), .pointer (some ⟨pd, 0, none⟩), .pointer (some ⟨pf, 0, none⟩)] W fun e W' => e = .returned (.tuple #[]) ∧ Df w W' lb n db pd sb ps px pf BF E f0 b0 k (F ++ [u]) ∧ Kq BF (Sd db sb pf) W W' := by
  obtain ⟨f1, f2, f3, f4, f5, f6⟩ := h.dt.fit
  obtain ⟨g1, g2, g3⟩ := h.fit2
  obtain ⟨V, hV, hO⟩ := h.fc
  have hbz := h.bz
  have KA := Lib.hid ((Dt.add hn h.dt hu).mono (R' := fun e W2 => e = .returned (.tuple #[]) ∧ Dt w W2 lb n db pd sb ps E (fun v => if F.contains v = true then (k : Int) else f0 v) (fun v => b0 v || (F ++ [u]).contains v) ∧ W2.cell? ⟨px, 0, none⟩ = some (.int .i64 (k : Int)) ∧ W2.cell? ⟨pf, 0, none⟩ = some V ∧ W2.frozen? ⟨pf, 0, none⟩ = false ∧ Hid (W2.ownsRow BF 3 1 V F.length (vV F) ∧ BF ≤ W2.heap.size ∧ Kq BF (Sd db sb pf) W W2)) fun e W2 ⟨he, h2, hk⟩ => by
    have hblk : ∀ b, b ≠ sb → b < W.heap.size → W2.heap[b]? = W.heap[b]? := fun b hb hl => hk.2 b hl hb
    have hpf := World.block_lt_of_cell? W _ hV
    exact ⟨he, h2.congr (fun _ _ => rfl) (fun v => by rw [Bool.eq_iff_iff]; simp [or_assoc]), (World.cell?_of_block (hblk _ (by simp only; omega) (World.block_lt_of_cell? W _ h.xc))).trans h.xc, (World.cell?_of_block (hblk _ (by simp only; omega) hpf)).trans hV, (World.frozen?_of_block (hblk _ (by simp only; omega) hpf)).trans h.ff, Lib.hid ⟨hk.own hO (fun k e => by omega), Nat.le_trans hbz hk.1, .kp hk (fun k e => .inr (.inl e))⟩⟩)
  have HP := Lib.hid (fun W2 (h2 : Dt w W2 lb n db pd sb ps E (fun v => if F.contains v = true then (k : Int) else f0 v) (fun v => b0 v || (F ++ [u]).contains v)) => h2.put (u := u) (k : Int))
  obtain ⟨i0, hi, iz, is, ib⟩ := infoI
  have hcs := h.dt.sc
  have x1 : (u : Int) < (n : Int) := by omega
  have x0 : (0 : Int) ≤ (u : Int) := by omega
  have hlenF : F.length < 4096 := by omega
  obtain ⟨A, c, rfl⟩ := own_form hO
  clear h hV hO
  go_enter Tryd.func54, Tryd.ntmps54
  go_wp2_with (first
    | (go_at_call 28; refine KA.out.mono ?_; clear KA; rintro e w2 ⟨rfl, h2, x2, v2, r2, o2⟩; have d2 := h2.dc; have c2 := h2.di.cell (rowI_get _ hu); have fr2 := h2.di.frozen u)
    | (at_builtin; refine wpList_append_own_at _ rfl _ _ 24 rfl BF 3 i0 (.int .i64 0) 1 8 Tryd.underlying24 hi iz is ib rfl (by decide) _ F.length (vV F) rfl (own_keep ((HP.out w2 h2).2.own o2.out.1 (fun k e => by omega)) (bel_box _)) ⟨w2.heap.size, 0, none⟩ 1 1 [.int .i64 (u : Int)] rfl rfl (row1' (World.size_setCell w2 _ _) _ _) (one_int _) (by unfold maxLen; omega) (by omega) (by rw [World.size_alloc, World.size_setCell]; have := o2.out.2.1; omega) ?_; intro V3 w3 hown3 hgrow3 _ _; obtain ⟨A3, c3, rfl⟩ := own_form hown3; have hb3 : Below BF (w2.setCell ⟨db, u, none⟩ (.int .i64 (k : Int))) w3 := own_below (Below.refl _ _) (by rw [World.size_setCell]; exact o2.out.2.1) ((HP.out w2 h2).2.own o2.out.1 (fun k e => by omega)) hgrow3; have v3 : w3.cell? ⟨pf, 0, none⟩ = some (.slice A F.length c) := (hb3.cell (p := ⟨pf, 0, none⟩) (by simp only; omega)).trans ((World.cell?_setCell_other _ _ _ _ (by intro e; injection e with e; omega)).trans v2); have r3 : w3.frozen? ⟨pf, 0, none⟩ = false := (hb3.frozen (p := ⟨pf, 0, none⟩) (by simp only; omega)).trans (by rw [World.frozen?_setCell]; exact r2); have hown3 := Lib.hid hown3; have hb3 := Lib.hid hb3; clear hgrow3))
  refine bodyPost_end (v := .tuple #[]) (results_none rfl _ _ _) rfl ?_
  obtain ⟨q1, q2⟩ := HP.out w2 h2
  have hw := hown3.out
  rw [vV_snoc] at hw
  have hk5 : Kp (fun k => k = pf) w3 (w3.setCell ⟨pf, 0, none⟩ (.slice A3 (F.length + 1) c3)) := Kp.set (S := fun k => k = pf) w3 (a := ⟨pf, 0, none⟩) rfl _
  have hz3 := hb3.out.size
  rw [World.size_setCell] at hz3
  have hbz2 := o2.out.2.1
  have hlow5 : Below (ps + 1) (w2.setCell ⟨db, u, none⟩ (.int .i64 (k : Int))) (w3.setCell ⟨pf, 0, none⟩ (.slice A3 (F.length + 1) c3)) := (hb3.out.mono (by omega)).trans (hk5.low (by omega) (fun k e => by omega))
  refine ⟨rfl, ⟨(q1.keep hlow5).congr (fun v hv => ?_) (fun _ => rfl), ?_, ⟨_, World.cell?_setCell_same w3 _ _ v3, ?_⟩, by rw [World.frozen?_setCell]; exact r3, by rw [World.size_setCell]; omega, by rw [List.length_append, List.length_singleton]; omega, g1, g2, g3⟩, ?_⟩
  · by_cases e : v = u
    · subst e
      simp
    · rw [if_neg e]
      have e2 : (F ++ [u]).contains v = F.contains v := by
        rw [Bool.eq_iff_iff]
        simp [e]
      rw [e2]
  · exact (World.cell?_setCell_other _ _ _ _ (by intro e; injection e with e; omega)).trans ((hb3.out.cell (p := ⟨px, 0, none⟩) (by simp only; omega)).trans ((World.cell?_setCell_other _ _ _ _ (by intro e; injection e with e; omega)).trans x2))
  · rw [show (F ++ [u]).length = F.length + 1 by simp]
    exact hk5.own hw (fun k e => by omega)
  · exact (o2.out.2.2.trans (.kp q2 (fun k e => .inl e))).trans ((Kq.below hb3.out (Nat.le_refl _)).trans (.kp hk5 (fun k e => .inr (.inr e))))
end gr
end Go.Proofs.YtahffafobdiogaaDoor
