/- Frames; each, whatever is called. -/
import Derived.Test.YtahffafobdiogaaDoorKge
namespace Go.Proofs.YtahffafobdiogaaDoor
set_option linter.unusedVariables false
set_option linter.unusedSimpArgs false
open Go.RowKit
namespace gr
/-- the streams are as they were -/
def Os (W W' : World) : Prop := W'.os = W.os ∧ W'.tape = W.tape ∧ W'.output = W.output
theorem Os.refl (W : World) : Os W W := ⟨rfl, rfl, rfl⟩
theorem Os.trans {A B C : World} (h : Os A B) (g : Os B C) : Os A C := ⟨g.1.trans h.1, g.2.1.trans h.2.1, g.2.2.trans h.2.2⟩
theorem Os.below {B : Nat} {W W' : World} (h : Below B W W') : Os W W' := ⟨h.os, h.tape, h.output⟩
/-- all blocks but those of S are as they were -/
structure Kp (S : Nat → Prop) (W W' : World) : Prop where
  size : W.heap.size ≤ W'.heap.size
  blocks : ∀ k, k < W.heap.size → ¬ S k → W'.heap[k]? = W.heap[k]?
  os : Os W W'
theorem Kp.refl (S : Nat → Prop) (W : World) : Kp S W W := ⟨Nat.le_refl _, fun _ _ _ => rfl, .refl W⟩
theorem Kp.trans {S : Nat → Prop} {A B C : World} (h : Kp S A B) (g : Kp S B C) : Kp S A C :=
  ⟨Nat.le_trans h.1 g.1, fun k hk hs => (g.2 k (Nat.lt_of_lt_of_le hk h.1) hs).trans (h.2 k hk hs), h.os.trans g.os⟩
theorem Kp.below {S : Nat → Prop} {W W' : World} (h : Below W.heap.size W W') : Kp S W W' := ⟨h.size, fun k hk _ => h.block k hk, .below h⟩
theorem Kp.set {S : Nat → Prop} (W : World) {a : Addr} (ha : S a.block) (v : Value) : Kp S W (W.setCell a v) :=
  ⟨by simp, fun k _ hs => Below.heap_setCell _ _ _ _ (fun e => hs (by rw [e]; exact ha)), ⟨rfl, rfl, rfl⟩⟩
theorem Kp.mono {S T : Nat → Prop} {W W' : World} (h : Kp S W W') (hs : ∀ k, S k → T k) : Kp T W W' := ⟨h.1, fun k hk ht => h.2 k hk fun x => ht (hs k x), h.os⟩
theorem Kp.blk {S : Nat → Prop} {W W' : World} (h : Kp S W W') {b : Nat} {t : TypeId} {xs : List Value} (hB : Blk W b t xs) (hs : ¬ S b) : Blk W' b t xs := hB.to (h.2 b hB.lt hs)
/-- what stands below all that may change -/
theorem Kp.low {S : Nat → Prop} {W W' : World} {B : Nat} (h : Kp S W W') (hB : B ≤ W.heap.size) (hs : ∀ k, S k → B ≤ k) : Below B W W' :=
  ⟨h.os.1, h.os.2.1, h.os.2.2, h.1, fun k hk => h.2 k (by omega) fun x => by have := hs k x; omega⟩
theorem Kp.own {S : Nat → Prop} {W W' : World} {base n : Nat} {t : TypeId} {v : Value} {xs : List Value} (h : Kp S W W') (ho : W.ownsRow base t 1 v n xs) (hs : ∀ k, S k → k < base) : W'.ownsRow base t 1 v n xs := by
  refine ⟨ho.1, ho.2.imp id fun ⟨g, cap, cur, e1, h1, h2, r⟩ => ⟨g, cap, cur, e1, h1, ?_, r⟩⟩
  rw [h.2 g (Array.getElem?_eq_some_iff.1 h2).1 (fun x => by have := hs g x; omega)]
  exact h2
/-- where the table of TrailingZeros64 lies -/
abbrev tzB : Nat := Tryd.laysTz_ren.g 1
theorem Tz.kp {S : Nat → Prop} {W W' : World} (h : Tz W) (hk : Kp S W W') (hs : ¬ S tzB) : Tz W' := fun j hj => by
  have h1 := h j hj
  exact (World.cell?_of_block (hk.2 _ (World.block_lt_of_cell? W _ h1) hs)).trans h1
theorem LkE.lt {W : World} {lb n : Nat} {E : Nat → Nat → Bool} (h : LkE W lb n E) {v : Nat} (hv : v < n) : lb + 1 + v < W.heap.size := by
  obtain ⟨wss, h1, _⟩ := h.ex
  exact (h1.sets v hv).lt
theorem LkE.lt0 {W : World} {lb n : Nat} {E : Nat → Nat → Bool} (h : LkE W lb n E) : lb < W.heap.size := by
  obtain ⟨wss, h1, _⟩ := h.ex
  exact h1.row.lt
theorem LkE.kp {S : Nat → Prop} {W W' : World} {lb n : Nat} {E : Nat → Nat → Bool} (h : LkE W lb n E) (hk : Kp S W W') (hs : ∀ k, lb ≤ k → k ≤ lb + n → ¬ S k) : LkE W' lb n E :=
  h.to fun k h1 h2 => hk.2 k (by
    rcases Nat.eq_or_lt_of_le h1 with e | e
    · rw [← e]; exact h.lt0
    · obtain ⟨v, rfl⟩ : ∃ v, k = lb + 1 + v := ⟨k - lb - 1, by omega⟩
      exact h.lt (by omega)) (hs k h1 h2)
/-- the neighbours, in order -/
def nbs (E : Nat → Nat → Bool) (n v : Nat) : List Nat := (List.range n).filter (E v)
/-- the members of the first words -/
def preW (ws : List Nat) (i : Nat) : List Nat := (List.range i).flatMap fun i => (bitsL (ws.getD i 0)).map (i * 64 + ·)
theorem preW_succ (ws : List Nat) (i : Nat) : preW ws (i + 1) = preW ws i ++ (bitsL (ws.getD i 0)).map (i * 64 + ·) := by
  unfold preW
  rw [List.range_succ, List.flatMap_append, List.flatMap_cons, List.flatMap_nil, List.append_nil]
theorem preW_all {m : Nat} {ws : List Nat} (h : ws.length = m) : preW ws m = memW ws := by rw [← h]; rfl
theorem bitsL_andn (x y : Nat) (hx : x < 18446744073709551616) : bitsL (x &&& (18446744073709551615 - y % 18446744073709551616)) = (bitsL x).filter fun b => !y.testBit b := by
  unfold bitsL
  rw [List.filter_filter]
  apply List.filter_congr
  intro b _
  rw [andn_bit x y b hx, Bool.and_comm]
theorem bitsL_andn0 (x : Nat) (hx : x < 18446744073709551616) : bitsL (x &&& (18446744073709551615 - 0 % 18446744073709551616)) = bitsL x := by
  rw [bitsL_andn x 0 hx]
  simp
theorem St.nbs {n v : Nat} {ws : List Nat} {E : Nat → Nat → Bool} (h : St (sizeW n) ws (E v)) (hE : ∀ u w, E u w = true → w < n) : memW ws = nbs E n v := h.list fun u hu => hE v u hu
set_option maxRecDepth 100000 in
set_option maxHeartbeats 2000000 in
theorem each_any (lb n v : Nat) (g : Nat) (cb : Array Value) (eg : ∀ args w, (callFunc g args).run Tryd.prog w = .ok (.enter g args) w) (E : Nat → Nat → Bool) (hEn : ∀ u w, E u w = true → w < n) (hn : n ≤ 4096) (hv : v < n)
    (S : Nat → Prop) (J : List Nat → World → Prop) (w : World) (hSb : ∀ k, S k → k < w.heap.size) (hSt : ¬ S tzB) (hSl : ∀ k, lb ≤ k → k ≤ lb + n → ¬ S k)
    (hJb : ∀ l W W', J l W → Below W.heap.size W W' → J l W')
    (hJ : ∀ pre b r W, pre ++ b :: r = nbs E n v → J pre W → Calls Tryd.prog g (#[.int .i64 (b : Int)] ++ cb) W fun e W' => e = .returned (.tuple #[]) ∧ J (pre ++ [b]) W' ∧ Kp S W W')
    (hT : Tz w) (hL : LkE w lb n E) (h0 : J [] w) :
    Calls Tryd.prog 25 #[sl lb n, .int .i64 v, .func (.func g) #[] cb] w fun e w' => e = .returned (.tuple #[]) ∧ J (nbs E n v) w' ∧ Kp S w w' := by
  obtain ⟨wss, hlk, hst⟩ := hL.ex
  have hsv := hst v hv
  have hnb : memW (wss v) = nbs E n v := hsv.nbs hEn
  obtain ⟨W1, hW1⟩ : ∃ W1, w.alloc (.cells (uV (List.replicate (sizeW n) 0)).toArray 69) = W1 := ⟨_, rfl⟩
  have hb1 : Below w.heap.size w W1 := by rw [← hW1]; exact bel_box _
  have hsn : Blk W1 w.heap.size 69 (uV (List.replicate (sizeW n) 0)) := by rw [← hW1]; exact Blk.new _ _ _
  have hSs : ¬ S w.heap.size := fun h => Nat.lt_irrefl _ (hSb _ h)
  have hl1 : Lnk W1 lb n wss := hlk.keep hb1
  have key := eachNew_any lb n v w.heap.size g cb eg (fun i => (wss v).getD i 0) hsv.wf hn hv
    (fun i W => J (preW (wss v) i) W ∧ Kp S W1 W)
    (fun i l W => ∃ d, bitsL ((wss v).getD i 0) = d ++ l ∧ J (preW (wss v) i ++ d.map (i * 64 + ·)) W ∧ Kp S W1 W ∧ i < sizeW n)
    (fun i W hi ⟨hj, hk⟩ => ⟨((hk.blk (hl1.sets v hv) (hSl _ (by omega) (by omega)))).cell (uV_get (by rw [hsv.len]; exact hi)), 0, by omega, by
        have := (hk.blk hsn hSs).cell (uV_get (l := List.replicate (sizeW n) 0) (i := i) (by simpa using hi))
        rw [this]
        simp [List.getD, List.getElem?_replicate, hi], [], by rw [bitsL_andn0 _ (hsv.wf i)]; rfl, by simpa using hj, hk, hi⟩)
    (fun i l W ⟨_, _, _, hk, _⟩ => (hT.keep hb1).kp hk hSt)
    (fun i b l W hi hb ⟨d, hd, hj, hk, _⟩ => by
      have hpre : ∃ r, preW (wss v) i ++ d.map (i * 64 + ·) ++ (i * 64 + b) :: r = nbs E n v := by
        rw [← hnb, ← preW_all hsv.len]
        have e1 : preW (wss v) (i + 1) = preW (wss v) i ++ d.map (i * 64 + ·) ++ (i * 64 + b) :: l.map (i * 64 + ·) := by
          rw [preW_succ, hd, List.map_append, List.map_cons, List.append_assoc]
        obtain ⟨r2, hr2⟩ : ∃ r2, preW (wss v) (sizeW n) = preW (wss v) (i + 1) ++ r2 := by
          unfold preW
          obtain ⟨q, hq⟩ : ∃ q, sizeW n = i + 1 + q := ⟨sizeW n - (i + 1), by omega⟩
          rw [hq, List.range_add, List.flatMap_append]
          exact ⟨_, rfl⟩
        exact ⟨l.map (i * 64 + ·) ++ r2, by rw [hr2, e1]; simp⟩
      obtain ⟨r, hr⟩ := hpre
      exact (hJ _ _ r W hr hj).mono fun e W' ⟨h1, h2, h3⟩ => ⟨h1, d ++ [b], by rw [hd]; simp, by rw [List.map_append, ← List.append_assoc]; exact h2, hk.trans h3, hi⟩)
    (fun i W ⟨d, hd, hj, hk, _⟩ => ⟨by rw [preW_succ, hd, List.append_nil]; exact hj, hk⟩)
    W1 (hl1.hd hv) ⟨hJb _ _ _ h0 hb1, Kp.refl _ _⟩
  rw [preW_all hsv.len, hnb] at key
  have KK := Lib.hid key
  have HN := Lib.hid (newSet_any n hn w)
  have HB := Lib.hid (Kp.below (S := S) hb1)
  rw [hW1] at HN
  clear key hsn hl1 hb1 hnb hsv hst hlk hL hT hJ hJb hSb hSt hSl h0 hSs hW1
  go_enter Tryd.func25, Tryd.ntmps25
  go_wp2_with (first | (go_at_call 27; refine HN.out.mono ?_; rintro e w1 ⟨rfl, rfl⟩) | (go_at_call 50; refine KK.out.mono ?_; rintro e w2 ⟨rfl, hj2, hk2⟩))
  refine bodyPost_end (v := .tuple #[]) (results_none rfl _ _ _) rfl ?_
  exact ⟨rfl, hj2, HB.out.trans hk2⟩
end gr
end Go.Proofs.YtahffafobdiogaaDoor
