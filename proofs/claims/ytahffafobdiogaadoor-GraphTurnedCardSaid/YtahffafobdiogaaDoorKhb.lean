/- Parts of the program. -/
import Derived.Test.YtahffafobdiogaaDoorKhc
namespace Go.Proofs.YtahffafobdiogaaDoor
set_option linter.unusedVariables false
set_option linter.unusedSimpArgs false
open Go.RowKit Go.Shelf
attribute [local go_sem] Oper.semAt_some
namespace gr
/-- what the first loop keeps -/
structure PJ (w W : World) (lb n sb ps pl N : Nat) (E : Nat → Nat → Bool) (S L : List Nat) : Prop where
  lk : LkE W lb n E
  tz : Tz W
  sc : W.cell? ⟨ps, 0, none⟩ = some (sl sb (sizeW n))
  sf : W.frozen? ⟨ps, 0, none⟩ = false
  sn : Seen W sb n S
  bx : Bx W pl N L
  low : Below w.heap.size w W
  fit : tzB < w.heap.size ∧ w.heap.size ≤ pl ∧ pl < lb ∧ lb + n < sb ∧ sb < ps ∧ ps < N
theorem PJ.kt {w W W' : World} {lb n sb ps pl N : Nat} {E : Nat → Nat → Bool} {S L S' L' : List Nat} (h : PJ w W lb n sb ps pl N E S L) (hk : KT N (fun k => k = pl ∨ k = sb) W W') (hs : Seen W' sb n S') (hb : Bx W' pl N L') : PJ w W' lb n sb ps pl N E S' L' := by
  obtain ⟨f1, f2, f3, f4, f5, f6⟩ := h.fit
  have hz := h.bx.bz
  have hcell : ∀ (b i : Nat) (v : Value), b < N → ¬ (b = pl ∨ b = sb) → W.cell? ⟨b, i, none⟩ = some v → W'.cell? ⟨b, i, none⟩ = some v ∧ W'.frozen? ⟨b, i, none⟩ = W.frozen? ⟨b, i, none⟩ := fun b i v hb hp hv => by
    obtain ⟨o, ho, hc⟩ := cells_of_cell hv
    have e : W'.heap[b]? = W.heap[b]? := (hk.2 b o ho hp (.inl hb)).trans ho.symm
    exact ⟨(World.cell?_of_block e).trans hv, World.frozen?_of_block e⟩
  exact ⟨hk.lke h.lk (fun k h1 h2 x => by omega), fun j hj => (hcell tzB j _ (by omega) (by omega) (h.tz j hj)).1, (hcell _ _ _ (by omega) (by omega) h.sc).1, (hcell _ _ _ (by omega) (by omega) h.sc).2.trans h.sf, hs, hb, h.low.trans (hk.low (by omega) (by omega) (fun k x => by omega)), h.fit⟩
theorem infoL : ∃ i, Tryd.prog.info? 24 = some i ∧ i.zero = some (.slice none 0 0) ∧ i.size = 1 ∧ i.bytes = 24 := info_parts (by kernel_rfl)
theorem cut_at (L : List Nat) (k : Nat) (hk : k < L.length) : L = L.take (L.length - k - 1) ++ L.getD (L.length - 1 - k) 0 :: L.drop (L.length - k) := by
  have h1 : L.length - k - 1 < L.length := by omega
  have e : L.getD (L.length - 1 - k) 0 = L[L.length - k - 1] := by
    rw [List.getD, show L.length - 1 - k = L.length - k - 1 by omega, List.getElem?_eq_getElem h1]
    rfl
  rw [e]
  conv => lhs; rw [← List.take_append_drop (L.length - k - 1) L]
  congr 1
  rw [List.drop_eq_getElem_cons h1]
  congr 2
  omega
theorem bk_rev {zs : List Nat} {Q : Nat → Prop} {hQ : ∀ j, Q (zs.getD j 0)} {k : Nat} (hk : k ≤ zs.length) : ((bk zs Q hQ k).map fun x => x.1.2).reverse = zs.drop (zs.length - k) := by
  induction k with
  | zero => simp [bk]
  | succ k ih =>
    rw [bk_succ, List.map_append, List.reverse_append, ih (by omega), List.map_singleton]
    have h1 : zs.length - (k + 1) < zs.length := by omega
    rw [List.drop_eq_getElem_cons h1]
    simp only [List.reverse_singleton, List.singleton_append]
    congr 1
    · rw [List.getD, show zs.length - 1 - k = zs.length - (k + 1) by omega, List.getElem?_eq_getElem h1]
      rfl
    · congr 1
      omega
theorem one_sl (A : Option Addr) (n c : Nat) : ∀ u ∈ [Value.slice A n c], u.oneCell' = true := by
  intro u hu
  simp at hu
  subst hu
  rfl
theorem ne_own {W : World} {B n k : Nat} {t : TypeId} {v : Value} {xs : List Value} (h : W.ownsRow B t 1 v n xs) (_ : B ≤ W.heap.size) (hk : k < B) : some k ≠ v.ownBlock := fun e => by
  have := h.lt k e.symm
  omega
theorem PI.pcs {W w3 : World} {lb n sb ps pb pp N : Nat} {E : Nat → Nat → Bool} {T : List Nat} {es : List (Nat × List Nat × Nat)} (h : PI W lb n sb ps pb pp N E T es) (o : Obj) {V : Value} (hV : W.cell? ⟨pp, 0, none⟩ = some V) (hO : W.ownsRow N 24 1 V es.length (es.map encP)) (hg : (W.alloc o).grownBy w3 V.ownBlock) : w3.cell? ⟨pp, 0, none⟩ = some V ∧ w3.frozen? ⟨pp, 0, none⟩ = false := by
  obtain ⟨f1, f2, f3, f4, f5, f6, f7, f8, f9, f10, f11, f12, f13, f14, f15⟩ := h.fit
  obtain ⟨ob, ho, hc⟩ := cells_of_cell hV
  have hl := World.block_lt_of_cell? W _ hV
  have e : w3.heap[pp]? = W.heap[pp]? := by
    rw [hg.block pp (by rw [World.size_alloc]; simp only at hl; omega) (ne_own hO h.bz f6)]
    exact Below.heap_alloc W o pp hl
  exact ⟨(World.cell?_of_block e).trans hV, (World.frozen?_of_block e).trans h.pf⟩
set_option maxRecDepth 100000 in
set_option maxHeartbeats 8000000 in
theorem parts_ok (n : Nat) (A : Option Addr) (c : Nat) (ns : List (Nat × Nat)) (hn : n ≤ 4096) (hr : ∀ e ∈ ns, e.1 < n ∧ e.2 < n) (hl : ns.length ≤ 1048576) (w : World) (hT : Tz w) (hE : RdE w w.heap.size A (eN ns)) (hv : valB n (eN ns) = true) :
    Calls Tryd.prog 18 #[.int .i64 n, .slice A ns.length c] w (NewP (prts (nbs (eK ns) n) n) w) := by
  have hdd : ∀ k : Nat, (Fence.wide.depth.isSome = true → 1 ≤ k) := fun k h => by cases h
  obtain ⟨E, hEE⟩ : ∃ E, eK ns = E := ⟨_, rfl⟩
  have hEn : ∀ u w, E u w = true → w < n := hEE ▸ eK_lt hr
  have hEm : ∀ u x, E u x = true → u < n := fun u x h => by
    rw [← hEE] at h
    unfold eK at h
    exact (hr _ (List.contains_iff_mem.1 h)).1
  have KV := Lib.hid (valid_any n A c (eN ns) (by rw [eN_len]; exact hl) w hE)
  rw [hv, eN_len] at KV
  have htz := tz_lt hT
  have hfit : ∀ (W w' : World) (F : Nat → Nat → Bool), LkE w' W.heap.size n F → W.heap.size + n < w'.heap.size := fun W w' F h2 => by
    rcases Nat.eq_zero_or_pos n with h0 | h0
    · have := h2.lt0; omega
    · have := h2.lt (v := n - 1) (by omega); omega
  have KF := Lib.hid (fun W (hb : Below w.heap.size w W) => (forward_any n hn A c ns hr hl W ((hE.below hb).more' hb.size)).mono (R' := fun e w' => e = .returned (sl W.heap.size n) ∧ (LkE w' W.heap.size n E ∧ Below W.heap.size W w' ∧ Below w.heap.size w w' ∧ W.heap.size + n < w'.heap.size)) fun e w' ⟨h1, h2, h3⟩ => by
    rw [hEE] at h2
    exact ⟨h1, h2, h3, hb.trans (h3.mono hb.size), hfit _ _ _ h2⟩)
  have KB := Lib.hid (fun W (hb : Below w.heap.size w W) => (backward_any n hn A c ns hr hl W ((hE.below hb).more' hb.size)).mono (R' := fun e w' => e = .returned (sl W.heap.size n) ∧ (LkE w' W.heap.size n (fun u x => E x u) ∧ Below W.heap.size W w' ∧ Below w.heap.size w w' ∧ W.heap.size + n < w'.heap.size)) fun e w' ⟨h1, h2, h3⟩ => by
    rw [hEE] at h2
    exact ⟨h1, h2, h3, hb.trans (h3.mono hb.size), hfit _ _ _ h2⟩)
  have HNW := Lib.hid (newSet_any n hn)
  have HT := Lib.hid hT
  have HEn := Lib.hid hEn
  have HEm := Lib.hid hEm
  rw [hEE]
  clear hT hE hv hr hEE hEn hEm hfit
  refine (callsIn_wide (n := 6)).1 ?_
  refine callsIn_of_wp_marks Tryd.func18 rfl trivial ?_ rfl
  simp only [Tryd.ntmps18, List.size_toArray, List.length_cons, List.length_nil, Nat.reduceAdd, Nat.reduceSub, Array.replicate_succ, Array.replicate_zero, List.push_toArray, List.append_toArray, List.nil_append, List.cons_append]
  gi_wp2_with (first
    | (refine ⟨trivial, ?_⟩; gi_at_call 23; refine (callsIn_wide.2 KV.out).mono ?_; clear KV; rintro e w1 ⟨rfl, hb1⟩)
    | (refine ⟨trivial, ?_⟩; gi_at_call 24; refine (callsIn_wide.2 (KF.out _ (bel_alloc hb1 _))).mono ?_; clear KF; rintro e w2 ⟨rfl, hf2⟩)
    | (refine ⟨trivial, ?_⟩; gi_at_call 27; refine (callsIn_wide.2 (HNW.out _)).mono ?_; rintro e w3 ⟨rfl, rfl⟩))
  obtain ⟨a1, a2, a3, a4⟩ := hf2
  rw [World.size_alloc] at a1 a2 a4
  have hz1 := hb1.size
  have p1 : PJ w ((w2.alloc (.cells (uV (List.replicate (sizeW n) 0)).toArray 69)).alloc (.cells #[sl w2.heap.size (sizeW n)] 49)) (w1.heap.size + 1) n w2.heap.size (w2.heap.size + 1) w1.heap.size (w2.heap.size + 1 + 1) E [] [] := by
    have hbb : Below w2.heap.size w2 ((w2.alloc (.cells (uV (List.replicate (sizeW n) 0)).toArray 69)).alloc (.cells #[sl w2.heap.size (sizeW n)] 49)) := bel_alloc (bel_box _) _
    have hpl := Blk.new w1 [Value.slice none 0 0] 24
    have hpl2 := (hpl.below a2 (by omega)).keep hbb
    have hps := Blk.new (w2.alloc (.cells (uV (List.replicate (sizeW n) 0)).toArray 69)) [sl w2.heap.size (sizeW n)] 49
    rw [World.size_alloc] at hps
    exact ⟨a1.keep hbb, (HT.out.keep a3).keep hbb, hps.cell (i := 0) rfl, hps.frozen 0, ⟨_, (Blk.new w2 (uV (List.replicate (sizeW n) 0)) _).alloc _, (St.empty _).congr fun u => rfl⟩,
      ⟨⟨_, hpl2.cell (i := 0) rfl, World.ownsRow_nil _ _ _ _⟩, hpl2.frozen 0, by simp, by omega, fun _ => hpl2.cell (i := 0) rfl⟩, a3.trans (hbb.mono a3.size), htz, hz1, by omega, by omega, by omega, by omega⟩
  clear a1 a2 hb1
  generalize (w2.alloc (.cells (uV (List.replicate (sizeW n) 0)).toArray 69)).alloc (.cells #[.slice (some ⟨w2.heap.size, 0, none⟩) (sizeW n) (sizeW n)] 49) = W3 at *
  gi_loopw [25] (fun i wr => ∃ (k : Nat) (S L : List Nat), k ≤ n ∧ i = .int .i64 (k : Int) ∧ PJ w wr (w1.heap.size + 1) n w2.heap.size (w2.heap.size + 1) w1.heap.size (w2.heap.size + 1 + 1) E S L ∧ Hid (Dfs (nbs E n) (List.range k) [] [] S L)) (fun i _ => n - (intOf i).toNat)
  case atStart => exact ⟨0, [], [], by omega, rfl, p1, Lib.hid (.nil _ _)⟩
  case round =>
    obtain ⟨k, S, L, hk, rfl, hp, hd⟩ := hrel
    clear p1
    by_cases hlt : k < n
    · have dk : (k : Int) < (n : Int) := by omega
      have csc := hp.sc
      obtain ⟨f1, f2, f3, f4, f5, f6⟩ := hp.fit
      have KW := Lib.hid (pwalk 41 (w1.heap.size + 1) n w2.heap.size w1.heap.size (w2.heap.size + 1 + 1) (enters_of Tryd.func41 (by kernel_rfl) rfl) (fun u L W hL hB => papp1_any w1.heap.size (w2.heap.size + 1 + 1) u L W hL hB) E hn HEn.out k S L wr hlt hp.lk hp.sn hp.bx hp.tz (dfs_inv (n := n) nbs_lt hd.out (fun x hx => by have := List.mem_range.1 hx; omega) (fun x hx => (by cases hx)) List.nodup_nil (fun x hx => (by cases hx))) (by omega) (by omega) (by omega) (by omega) (by omega) (by omega) (by omega))
      have HP := Lib.hid hp
      clear hp
      gi_wp2_with (refine ⟨trivial, ?_⟩; gi_at_call 38; refine (callsIn_wide.2 KW.out).mono ?_; clear KW; rintro e w4 ⟨rfl, S', L', g1, g2, g3, g4⟩)
      refine ⟨⟨k + 1, S', L', by omega, by congr 1, HP.out.kt g4 g2 g3, Lib.hid ?_⟩, by simp [intOf]; omega⟩
      rw [List.range_succ]
      exact hd.out.app g1
    · have hkn : n = k := by omega
      subst hkn
      obtain ⟨W4, rfl⟩ : ∃ U, U = wr := ⟨_, rfl⟩
      have hlft := Lib.hid (lft_of hd.out)
      clear hd
      have csc := hp.sc
      have csf := hp.sf
      have hlow := hp.low
      have HP := Lib.hid hp
      clear hp
      obtain ⟨V, hV, hO⟩ := HP.out.bx.fc
      obtain ⟨A1, c1, rfl⟩ := own_form hO
      have hLn := hlft.out.len
      have hz4 := HP.out.bx.bz
      obtain ⟨e1, e2, e3, e4, e5, e6⟩ := HP.out.fit
      gi_wp2_with (first
        | (refine ⟨trivial, ?_⟩; gi_at_call 34; refine (callsIn_wide.2 (KB.out _ (bel_alloc hlow _))).mono ?_; clear KB; rintro e w5 ⟨rfl, hf5⟩)
        | (refine ⟨trivial, ?_⟩; gi_at_call 27; fail))
      rw [World.size_alloc] at hf5
      obtain ⟨a5, a6, a7, a8⟩ := hf5
      have bb6 : Below w5.heap.size w5 ((w5.alloc (.cells (uV (List.replicate (sizeW n) 0)).toArray 69)).alloc (.cells #[sl (W4.heap.size + 1) n] 44)) := bel_alloc (bel_box _) _
      have bb46 : Below W4.heap.size W4 ((w5.alloc (.cells (uV (List.replicate (sizeW n) 0)).toArray 69)).alloc (.cells #[sl (W4.heap.size + 1) n] 44)) := ((bel_box _).trans (a6.mono (by omega))).trans (bb6.mono (by omega))
      have s6 := (bb46.cell (p := ⟨w2.heap.size + 1, 0, none⟩) (by simp only; omega)).trans csc
      have t6 := (bb46.frozen (p := ⟨w2.heap.size + 1, 0, none⟩) (by simp only; omega)).trans csf
      have l6 : (((w5.alloc (.cells (uV (List.replicate (sizeW n) 0)).toArray 69)).alloc (.cells #[sl (W4.heap.size + 1) n] 44)).setCell ⟨w2.heap.size + 1, 0, none⟩ (sl w5.heap.size (sizeW n))).cell? ⟨w1.heap.size, 0, none⟩ = some (.slice A1 L.length c1) := (World.cell?_setCell_other _ _ _ _ (by intro e; injection e with e; omega)).trans ((bb46.cell (p := ⟨w1.heap.size, 0, none⟩) (by simp only; omega)).trans hV)
      have KBk := Lib.hid (fun W => backw_any A1 L.length c1 W)
      have g6 : LkE (((w5.alloc (.cells (uV (List.replicate (sizeW n) 0)).toArray 69)).alloc (.cells #[sl (W4.heap.size + 1) n] 44)).setCell ⟨w2.heap.size + 1, 0, none⟩ (sl w5.heap.size (sizeW n))) (W4.heap.size + 1) n (fun u x => E x u) := (a5.keep bb6).to fun k h1 h2 => Below.heap_setCell _ _ _ _ (by simp only; omega)
      have g7 : ∀ (W : World), W = (((w5.alloc (.cells (uV (List.replicate (sizeW n) 0)).toArray 69)).alloc (.cells #[sl (W4.heap.size + 1) n] 44)).setCell ⟨w2.heap.size + 1, 0, none⟩ (sl w5.heap.size (sizeW n))) → Below w.heap.size w W ∧ W.heap.size = w5.heap.size + 2 ∧ Tz W ∧ W.cell? ⟨w5.heap.size + 1, 0, none⟩ = some (sl (W4.heap.size + 1) n) ∧ W.cell? ⟨w2.heap.size + 1, 0, none⟩ = some (sl w5.heap.size (sizeW n)) ∧ Seen W w5.heap.size n [] ∧ Blk W W4.heap.size 34 [.slice none 0 0] ∧ W.ownsRow (w2.heap.size + 1 + 1) 3 1 (.slice A1 L.length c1) L.length (vV L) := by
        rintro W rfl
        have hp0 := (Blk.new W4 [Value.slice none 0 0] 34).below a6 (by omega)
        have hlk := Blk.new (w5.alloc (.cells (uV (List.replicate (sizeW n) 0)).toArray 69)) [sl (W4.heap.size + 1) n] 44
        rw [World.size_alloc] at hlk
        have hbw := a7.trans (bb6.mono a7.size)
        refine ⟨hbw.setCell (p := ⟨_, _, none⟩) (by simp only; omega) _, by simp, ((HT.out.keep a7).keep bb6).kp (Kp.set (S := fun k => k = w2.heap.size + 1) _ (a := ⟨w2.heap.size + 1, 0, none⟩) rfl _) (by omega), (hlk.set_other (by omega) _ _).cell (i := 0) rfl, World.cell?_setCell_same _ _ _ s6, ⟨_, ((Blk.new w5 (uV (List.replicate (sizeW n) 0)) _).alloc _).set_other (by omega) _ _, (St.empty _).congr fun u => rfl⟩, (hp0.keep bb6).set_other (by omega) _ _, ?_⟩
        exact (Kp.set (S := fun k => k = w2.heap.size + 1) _ (a := ⟨w2.heap.size + 1, 0, none⟩) rfl _).own (own_keep hO bb46) (fun k e => by omega)
      have g7 := g7 _ rfl
      rw [hLn] at l6 KBk g7
      gi_wp2_with (first
        | (refine ⟨trivial, ?_⟩; gi_at_call 27; refine (callsIn_wide.2 (HNW.out _)).mono ?_; rintro e w6 ⟨rfl, rfl⟩)
        | (refine ⟨trivial, ?_⟩; gi_at_call 42; fail))
      generalize ((w5.alloc (.cells (uV (List.replicate (sizeW n) 0)).toArray 69)).alloc (.cells #[.slice (some ⟨W4.heap.size + 1, 0, none⟩) n n] 44)).setCell ⟨w2.heap.size + 1, 0, none⟩ (.slice (some ⟨w5.heap.size, 0, none⟩) (sizeW n) (sizeW n)) = W7 at *
      obtain ⟨z1, z2, z3, z4, z5, z6, z7, z8⟩ := g7
      clear bb6 bb46 s6 t6 l6 a5 a6 hO hV
      refine ⟨trivial, ?_⟩
      refine (callsIn_wide.2 (KBk.out W7)).mono ?_
      rintro e w8 ⟨rfl, rfl⟩
      gi_wp2_with fail
      obtain ⟨W8, hW8⟩ : ∃ W8, W7.alloc (.cells #[.slice A1 n c1] 24) = W8 := ⟨_, rfl⟩
      rw [hW8]
      have hb8 : Below W7.heap.size W7 W8 := by rw [← hW8]; exact bel_box _
      have hz8 : W8.heap.size = W7.heap.size + 1 := by rw [← hW8]; simp
      have hbx : Blk W8 W7.heap.size 24 [.slice A1 n c1] := by rw [← hW8]; exact Blk.new _ _ _
      have hPI : PI W8 (W4.heap.size + 1) n w5.heap.size (w2.heap.size + 1) (w5.heap.size + 1) W4.heap.size (W7.heap.size + 1) (fun u x => E x u) [] [] :=
        ⟨g6.keep hb8, z3.keep hb8, (hb8.cell (p := ⟨w5.heap.size + 1, 0, none⟩) (by simp only; omega)).trans z4, (hb8.cell (p := ⟨w2.heap.size + 1, 0, none⟩) (by simp only; omega)).trans z5, z6.keep hb8, ⟨_, (z7.keep hb8).cell (i := 0) rfl, World.ownsRow_nil _ _ _ _⟩, (z7.keep hb8).frozen 0, fun e he => (by cases he), by omega, by omega, by omega, by omega, by omega, by omega, by omega, by omega, by omega, by omega, by omega, by omega, by omega, by omega, by omega, by omega⟩
      have hlow8 : Below w.heap.size w W8 := z1.trans (hb8.mono z1.size)
      have hQ : ∀ j, (fun v => v < n ∨ n = 0) (L.getD j 0) := fun j => by
        rcases Nat.lt_or_ge j L.length with h | h
        · left
          rw [List.getD, List.getElem?_eq_getElem h]
          exact (hlft.out.mem _).1 (List.getElem_mem h)
        · rcases Nat.eq_zero_or_pos n with h0 | h0
          · exact .inr h0
          · left
            rw [List.getD, List.getElem?_eq_none h]
            exact h0
      have hst := backw_stops (fun v => v < n ∨ n = 0) (6 - 1) W7.heap.size (W7.heap.size + 1) (fun k => k = w5.heap.size ∨ k = W4.heap.size) A1 c1 L hQ (by omega) W8 (by omega) (by omega) (by omega) (fun x => by omega) (by rw [hLn]; exact hbx.cell (i := 0) rfl) (fun j x hx => by
        have hj : j < n := by
          rcases Nat.lt_or_ge j L.length with h | h
          · omega
          · rw [List.getElem?_eq_none h] at hx; cases hx
        obtain ⟨g, cap, e1, e2, e3⟩ := z8.form (by omega)
        injection e1 with e1 _ _
        subst e1
        refine ⟨_, rfl, by simp only; omega, fun x => ?_, (hb8.cell (p := (⟨g, 0, none⟩ : Addr).add j) (by rw [add_block]; exact e3)).trans (z8.cells (g := g) rfl j _ (by unfold vV; rw [List.getElem?_map, hx]; rfl))⟩
        rcases z8.2 with ⟨y, _⟩ | ⟨g', cp, cur, y1, y2, y3, _⟩
        · cases y
        · injection y1 with y1 _ _
          injection y1 with y1
          injection y1 with y1
          subst y1
          rcases x with x | x
          · obtain ⟨ws, q1, _⟩ := z6
            unfold Blk at q1
            rw [← x] at q1
            rw [y3] at q1
            injection q1 with q1
            injection q1 with _ q1 _
            exact absurd q1 (by decide)
          · unfold Blk at z7
            rw [← x, y3] at z7
            injection z7 with z7
            injection z7 with _ z7 _
            exact absurd z7 (by decide))
      rw [hLn] at hst
      clear z8 z3 z4 z5 z6 z7 g6 hbx
      have hz7 : w.heap.size ≤ W7.heap.size := z1.size
      rw [z2] at hst hPI hz8 hz7
      refine wpIn_rangeFunc_ownH rfl (by decide) (gf := 59) (lb := #[.pointer (some ⟨(w5.heap.size + 2), 0, none⟩)]) rfl trivial (enters_of Tryd.func59 (by kernel_rfl) rfl)
        hst Kn.trans Kn.put (Below.refl _ _) (fun _ => rfl)
        (fun pre W => (∃ T es, PI W (W4.heap.size + 1) n w5.heap.size (w2.heap.size + 1) (w5.heap.size + 1) W4.heap.size ((w5.heap.size + 2) + 1) (fun u x => E x u) T es ∧ es.length ≤ pre.length ∧ (∀ x ∈ T, x < n) ∧ (pre = bk L (fun v => v < n ∨ n = 0) hQ pre.length → Pst E n ((pre.map fun x => x.1.2).reverse) T (es.map fun e => e.2.1))) ∧ Below w.heap.size w W)
        (fun _ _ _ => False)
        (OwnFrom.and (Own.from (fun s A B row hs hg hr => by
          obtain ⟨T, es, q1, q2⟩ := hs
          exact ⟨T, es, q1.same hg.size (fun k o ho hc => by
            rw [hg.block k (Array.getElem?_eq_some_iff.1 ho).1 (fun e => by
              obtain ⟨o2, ho2, hc2⟩ := hr k e.symm
              rw [ho] at ho2
              injection ho2 with ho2
              rw [ho2, hc2] at hc
              cases hc)]
            exact ho), q2⟩) _) (ownFrom_below (Nat.le_refl _) (by omega)))
        (fun _ _ _ _ _ hs _ _ => hs)
        ⟨⟨[], [], hPI, by simp, (fun x hx => by cases hx), fun _ => Pst.nil E n⟩, hlow8⟩
        (fun x a' _ => a' = { tmps := #[.int .i64 (n : Int), .slice A ns.length c, undef, undef, .slice none 0 0, .int .i64 0, .pointer (some ⟨w1.heap.size, 0, none⟩), sl (w1.heap.size + 1) n, .pointer (some ⟨w2.heap.size + 1, 0, none⟩), u9, .pointer (some ⟨W4.heap.size, 0, none⟩), .pointer (some ⟨w5.heap.size + 1, 0, none⟩), undef, .int .i64 ((x.1.2 : Nat) : Int), undef, .int .i64 (n : Int), .slice A ns.length c, .bool true, .bool false, .int .i64 (n : Int), .slice A ns.length c, sl (w1.heap.size + 1) n, .int .i64 (n : Int), sl w2.heap.size (sizeW n), .int .i64 (n : Int), .int .i64 (n : Int), .bool false, u27, u28, u29, u30, u31, u32, u33, .int .i64 (n : Int), .slice A ns.length c, sl (W4.heap.size + 1) n, .int .i64 (n : Int), sl w5.heap.size (sizeW n), .slice A1 n c1, .func (.func 59) #[] #[.pointer (some ⟨w5.heap.size + 2, 0, none⟩)], .int .i64 ((x.1.1 : Nat) : Int), .int .i64 ((x.1.2 : Nat) : Int), undef, undef, undef, undef, undef, undef, undef, undef, undef, undef, undef, undef, undef, undef, undef, undef], defers := [] })
        (fun x a' s A B row hs hg hr => hs) ?assign ?body ?done ?stop
      case assign =>
        intro l pre x W K hI hK
        gi_wp2
        exact hK _ _ (KeepsFrom.refl _ _) (Kn.refl _ _ _) hI rfl
      case body =>
        rintro l pre x a' W hl hr ⟨⟨T, es, hp, hel, hTn, hst2⟩, hlow⟩ rfl hlt
        have hlt2 : pre.length < n := hlt
        have hv : x.1.2 < n := x.2.elim id (fun h0 => by omega)
        obtain ⟨v, hxv⟩ : ∃ v, x.1.2 = v := ⟨_, rfl⟩
        rw [hxv] at hv
        simp only [hxv]
        have HX := Lib.hid hxv
        have cbc := cell_al (.cells #[.slice none 0 0] 24) hp.bc
        have csc := cell_al (.cells #[.slice none 0 0] 24) hp.sc
        have hz := hp.bz
        have HPI := Lib.hid hp
        -- the search
        have KW : Hid (Calls Tryd.prog 38 #[sl (W4.heap.size + 1) n, .int .i64 v, sl w5.heap.size (sizeW n), .func (.func 43) #[] #[.pointer (some ⟨W.heap.size, 0, none⟩)]] (W.alloc (.cells #[.slice none 0 0] 24)) fun e W' => e = .returned (.tuple #[]) ∧ ∃ S' L', Dfs (nbs (fun u x => E x u) n) [v] T [] S' L' ∧ Seen W' w5.heap.size n S' ∧ Bx W' W.heap.size (W.heap.size + 1) L' ∧ KT (W.heap.size + 1) (fun k => k = W.heap.size ∨ k = w5.heap.size) (W.alloc (.cells #[.slice none 0 0] 24)) W') := by
          have hbb : Below W.heap.size W (W.alloc (.cells #[.slice none 0 0] 24)) := bel_box _
          have hpb := Blk.new W [Value.slice none 0 0] 24
          exact Lib.hid (pwalk 43 (W4.heap.size + 1) n w5.heap.size W.heap.size (W.heap.size + 1) (enters_of Tryd.func43 (by kernel_rfl) rfl) (fun u L W' hL hB => papp2_any W.heap.size (W.heap.size + 1) u L W' hL hB) (fun u x => E x u) hn (fun u x h => HEm.out x u h) v T [] _ hv (hp.lk.keep hbb) (hp.sn.keep hbb) ⟨⟨_, hpb.cell (i := 0) rfl, World.ownsRow_nil _ _ _ _⟩, hpb.frozen 0, by simp, by omega, fun _ => hpb.cell (i := 0) rfl⟩ (hp.tz.keep hbb) ⟨(fun x hx => by cases hx), List.nodup_nil, hTn⟩ (by omega) (by omega) (by omega) (by omega) (by omega) (by omega) (by omega))
        clear hp
        gi_wp2_with fail
        refine ⟨trivial, ?_⟩
        refine (callsIn_wide.2 KW.out).mono ?_
        clear KW
        rintro e w9 ⟨rfl, S', L', g1, g2, g3, g4⟩
        have hzz : (W.alloc (.cells #[.slice none 0 0] 24)).heap.size = W.heap.size + 1 := by simp
        have hz9 : W.heap.size < w9.heap.size := by have := g4.1; omega
        have hkept : ∀ (k : Nat) (o : Obj), k ≠ w5.heap.size → W.heap[k]? = some o → w9.heap[k]? = some o := fun k o hk ho => by
          have hkl := (Array.getElem?_eq_some_iff.1 ho).1
          exact g4.2 k o ((Below.heap_alloc W _ k hkl).trans ho) (by omega) (.inl (by omega))
        have hlow9 : Below w.heap.size w w9 := hlow.trans (((bel_box (.cells #[.slice none 0 0] 24)).mono (by omega)).trans (g4.low (by omega) (by omega) (fun k x => by omega)))
        have hsbc : ∀ o, W.heap[w5.heap.size]? = some o → o.isCells = true := fun o ho => by
          obtain ⟨us, q1, _⟩ := HPI.out.sn
          unfold Blk at q1
          rw [q1] at ho
          injection ho with ho
          rw [← ho]
          rfl
        have hppc : ∀ o, W.heap[W4.heap.size]? = some o → o.isCells = true := fun o ho => by
          obtain ⟨Vp, q1, _⟩ := HPI.out.pc
          obtain ⟨o2, q2, q3⟩ := cells_of_cell q1
          simp only at q2
          rw [q2] at ho
          injection ho with ho
          rw [← ho]
          exact q3
        have hnext : pre ++ [x] = bk L (fun v => v < n ∨ n = 0) hQ (pre ++ [x]).length → pre = bk L (fun v => v < n ∨ n = 0) hQ pre.length ∧ ∃ A, L = A ++ v :: (pre.map fun x => x.1.2).reverse := fun e => by
          rw [List.length_append, List.length_singleton, bk_succ] at e
          obtain ⟨h1, h2⟩ := List.append_inj' e rfl
          refine ⟨h1, L.take (L.length - pre.length - 1), ?_⟩
          injection h2 with h2 _
          have h3 : v = L.getD (L.length - 1 - pre.length) 0 := by rw [← HX.out, h2]
          have h4 : (pre.map fun x => x.1.2).reverse = L.drop (L.length - pre.length) := by
            have h5 := bk_rev (zs := L) (Q := fun v => v < n ∨ n = 0) (hQ := hQ) (k := pre.length) (by omega)
            rw [← h1] at h5
            exact h5
          rw [h4, h3]
          exact cut_at L pre.length (by omega)
        have hmap : ((pre ++ [x]).map fun x => x.1.2).reverse = v :: (pre.map fun x => x.1.2).reverse := by
          rw [List.map_append, List.reverse_append, List.map_singleton, HX.out]
          rfl
        by_cases hL0 : L' = []
        · have c9 := g3.nl hL0
          have hdone : ∃ T es, PI w9 (W4.heap.size + 1) n w5.heap.size (w2.heap.size + 1) (w5.heap.size + 1) W4.heap.size (w5.heap.size + 2 + 1) (fun u x => E x u) T es ∧ es.length ≤ (pre ++ [x]).length ∧ (∀ x ∈ T, x < n) ∧ (pre ++ [x] = bk L (fun v => v < n ∨ n = 0) hQ (pre ++ [x]).length → Pst E n (((pre ++ [x]).map fun x => x.1.2).reverse) T (es.map fun e => e.2.1)) := by
            have hvT : v ∈ T ∧ S' = T := by
              cases g1 with
              | skip h k => cases k with | nil => exact ⟨h, rfl⟩
              | go h k1 k2 =>
                cases k2 with
                | nil => exact absurd hL0 (by simp)
            refine ⟨S', es, HPI.out.to (by omega) (fun k o hk ho _ => hkept k o hk ho) g2, by rw [List.length_append]; omega, by rw [hvT.2]; exact hTn, fun e => ?_⟩
            rw [hmap, hvT.2]
            exact (hst2 (hnext e).1).skip hvT.1
          have HD := Lib.hid hdone
          clear hdone g1 g2 g3 g4
          gi_wp2
          exact ⟨⟨by omega, fun k o _ ho hc => hkept k o (fun e => by subst e; rw [hsbc o ho] at hc; cases hc) ho⟩, ⟨by omega, fun k o _ hS ho _ => hkept k o (fun e => hS (.inl e)) ho⟩, HD.out, hlow9⟩
        · have hL1 : 0 < L'.length := List.length_pos_iff.2 hL0
          have hinv := dfs_inv (n := n) nbs_lt g1 (fun y hy => by rw [List.mem_singleton.1 hy]; exact hv) (fun y hy => (by cases hy)) List.nodup_nil hTn
          have hLl : L'.length ≤ 4096 := by
            have := nodup_len' _ (List.range n) hinv.2.1 fun y hy => List.mem_range.2 (hinv.2.2 y (hinv.1 y hy))
            rw [List.length_range] at this
            omega
          have hvT : v ∉ T := fun h => by
            cases g1 with
            | skip h k => cases k with | nil => exact hL0 rfl
            | go h2 k1 k2 => exact h2 h
          obtain ⟨V6, c9, o6⟩ := g3.fc
          obtain ⟨g, cap, rfl, hg1, hg2⟩ := o6.form hL1
          have hgh : ∃ cs, w9.heap[g]? = some (.cells cs 3 (0, 0)) := by
            rcases o6.2 with ⟨y, _⟩ | ⟨g', cp, cur, y1, y2, y3, _⟩
            · cases y
            · injection y1 with y1 _ _
              injection y1 with y1
              injection y1 with y1
              subst y1
              exact ⟨_, y3⟩
          have KS := sort_any g cap L' w9 hg2 hLl (fun j y hy => ⟨off_add g j ▸ o6.cells (g := g) rfl j _ (by unfold vV; rw [List.getElem?_map, hy]; rfl), by
            obtain ⟨cs, hcs⟩ := hgh
            unfold World.frozen?
            rw [hcs]
            simp⟩)
          have HH := Lib.hid (show ∀ w10, (∀ (j y : Nat), (L'.mergeSort fun x y => decide (x ≤ y))[j]? = some y → w10.cell? ⟨g, j, none⟩ = some (.int .i64 (y : Int))) → w9.heap.size ≤ w10.heap.size → Os w9 w10 → (∀ k, k < w9.heap.size → k ≠ g → w10.heap[k]? = w9.heap[k]?) → (∀ c t f, w9.heap[g]? = some (.cells c t f) → ∃ c', w10.heap[g]? = some (.cells c' t f)) →
              PI w10 (W4.heap.size + 1) n w5.heap.size (w2.heap.size + 1) (w5.heap.size + 1) W4.heap.size (w5.heap.size + 2 + 1) (fun u x => E x u) S' es ∧ w10.cell? ⟨W.heap.size, 0, none⟩ = some (.slice (some ⟨g, 0, none⟩) L'.length cap) ∧ (∃ cs f, w10.heap[g]? = some (.cells cs 3 f)) ∧ (∀ (k : Nat) (o : Obj), k ≠ w5.heap.size → W.heap[k]? = some o → w10.heap[k]? = some o) ∧ Below w.heap.size w w10 from fun w10 q1 q2 q3 q4 q5 => by
            have hk10 : ∀ (k : Nat) (o : Obj), k ≠ w5.heap.size → W.heap[k]? = some o → w10.heap[k]? = some o := fun k o hk ho => by
              have hkl := (Array.getElem?_eq_some_iff.1 ho).1
              exact (q4 k (by omega) (by omega)).trans (hkept k o hk ho)
            obtain ⟨us, u1, u2⟩ := g2
            obtain ⟨cs, hcs⟩ := hgh
            exact ⟨HPI.out.to (by omega) (fun k o hk ho _ => hk10 k o hk ho) ⟨us, u1.to (q4 _ u1.lt (by omega)), u2⟩, (World.cell?_of_block (q4 W.heap.size hz9 (by omega))).trans c9, let ⟨c', hc'⟩ := q5 _ _ _ hcs; ⟨c', _, hc'⟩, hk10, ⟨q3.1.trans hlow9.os, q3.2.1.trans hlow9.tape, q3.2.2.trans hlow9.output, Nat.le_trans hlow9.size q2, fun k hk => (q4 k (by omega) (by omega)).trans (hlow9.block k hk)⟩⟩)
          have hstep : pre ++ [x] = bk L (fun v => v < n ∨ n = 0) hQ (pre ++ [x]).length → Pst E n (((pre ++ [x]).map fun x => x.1.2).reverse) S' ((es.map fun e => e.2.1) ++ [L'.mergeSort fun x y => decide (x ≤ y)]) := fun e => by
            obtain ⟨h1, A0, h2⟩ := hnext e
            rw [hmap]
            exact ((hst2 h1).step (E' := fun u x => E x u) (fun _ _ => rfl) (fun u x h => HEn.out u x h) (fun u x h => HEm.out u x h) hlft.out h2 hvT g1).1
          have HSt := Lib.hid hstep
          have HS9 := Lib.hid hinv.2.2
          have hml : (L'.mergeSort fun x y => decide (x ≤ y)).length = L'.length := List.length_mergeSort L'
          have HML := Lib.hid hml
          have hesl : es.length < 4096 := by omega
          have KS := Lib.hid KS
          obtain ⟨i0, hi, iz, is, ib⟩ := infoL
          clear hstep hnext hmap hst2 o6 hgh g1 g2 g3 hinv hml HPI hkept
          generalize (L'.mergeSort fun x y => decide (x ≤ y)) = M at *
          generalize hll : L'.length = ll at *
          gi_wp2_with fail
          refine ⟨trivial, ?_⟩
          refine (callsIn_wide.2 KS.out).mono ?_
          rintro e w10 ⟨rfl, q1, q2, q3, q4, q5⟩
          obtain ⟨p1, p2, p3, p4, p5⟩ := HH.out w10 q1 q2 q3 q4 q5
          obtain ⟨Vp, hVp, hOp⟩ := p1.pc
          obtain ⟨Ap, cp, rfl⟩ := own_form hOp
          have hpf := p1.pf
          have hbz := p1.bz
          have HP1 := Lib.hid p1
          have HOp := Lib.hid hOp
          have HP3 := Lib.hid p3
          have HP4 := Lib.hid p4
          have HQ1 := Lib.hid q1
          have HQ4 := Lib.hid q4
          clear KS HH p1 p3 p4 hOp q1 q4 q5 g4
          have hNz : w5.heap.size + 2 + 1 ≤ w10.heap.size := hbz
          have hown0 : (w10.alloc (.cells #[.slice (some ⟨g, 0, none⟩) ll cap] 24)).ownsRow (w5.heap.size + 2 + 1) 24 1 (.slice Ap es.length cp) es.length (es.map encP) := own_keep HOp.out (bel_box _)
          gi_wp2_with (gi_at_builtin; refine wpListIn_append_own _ rfl _ _ 34 rfl (w5.heap.size + 2 + 1) 24 i0 (.slice none 0 0) 1 24 Tryd.underlying34 hi iz is ib rfl (by decide) _ es.length (es.map encP) rfl hown0 ⟨w10.heap.size, 0, none⟩ 1 1 [.slice (some ⟨g, 0, none⟩) ll cap] rfl rfl (row1 _ _ _) (one_sl _ _ _) (by unfold maxLen; omega) (by omega) (by rw [World.size_alloc]; omega) ?_; intro V3 w3' hown3 hgrow3 h4; clear h4; obtain ⟨A3, c3, rfl⟩ := own_form hown3; replace hgrow3 : (w10.alloc (.cells #[.slice (some ⟨g, 0, none⟩) ll cap] 24)).grownBy w3' (Value.slice Ap es.length cp).ownBlock := hgrow3; have vf := HP1.out.pcs _ hVp HOp.out hgrow3; obtain ⟨vp3, fp3⟩ := vf; have hgrow3 := Lib.hid hgrow3; have hown3 := Lib.hid hown3)
          obtain ⟨r1, r2, r3, r4, r5⟩ := HP1.out.push (g := g) (c := cap) (l := M) _ hVp HOp.out hgrow3.out (by have e : encP (g, M, cap) = .slice (some ⟨g, 0, none⟩) ll cap := (by unfold encP; simp only; rw [HML.out]); rw [e]; exact hown3.out) (by omega) HP3.out HQ1.out
          have hbe : Below w.heap.size w10 (w3'.setCell ⟨W4.heap.size, 0, none⟩ (.slice A3 (es.length + 1) c3)) := ⟨r5.1, r5.2.1, r5.2.2, by rw [World.size_setCell]; exact r4, fun k hk => by
            have hk10 : k < w10.heap.size := by omega
            exact (r2 k _ (by omega) (by omega) (Array.getElem?_eq_getElem hk10)).trans (Array.getElem?_eq_getElem hk10).symm⟩
          exact ⟨⟨by rw [World.size_setCell]; omega, fun k o _ ho hc => r3 k o hc (HP4.out k o (fun e => by subst e; rw [hsbc o ho] at hc; cases hc) ho)⟩, ⟨by rw [World.size_setCell]; omega, fun k o hk hS ho _ => r2 k o hk (fun e => hS (.inr e)) (HP4.out k o (fun e => hS (.inl e)) ho)⟩, ⟨S', es ++ [(g, M, cap)], r1, by simp; omega, HS9.out, fun e => by rw [List.map_append (l₁ := es)]; exact HSt.out e⟩, p5.trans hbe⟩
      case done =>
        rintro D ys W hD hys ⟨⟨T, es, hp, hel, hTn, hst2⟩, hlow⟩ hK
        subst hys
        have hps : Pst E n L T (es.map fun e => e.2.1) := by
          have h := hst2 (by rw [bk_len])
          have h2 := bk_rev (zs := L) (Q := fun v => v < n ∨ n = 0) (hQ := hQ) (k := n) (by omega)
          rw [show L.length - n = 0 by omega, List.drop_zero] at h2
          rw [h2] at h
          exact h
        have hel' : es.length ≤ n := by rw [bk_len] at hel; exact hel
        obtain ⟨Vp, hVp, hOp⟩ := hp.pc
        obtain ⟨Ap, cp, rfl⟩ := own_form hOp
        have hbz := hp.bz
        have hen : ∀ e ∈ es, 0 < e.2.1.length ∧ e.2.1.headD 0 ≤ 4096 ∧ (∃ cs f, W.heap[e.1]? = some (.cells cs 3 f)) ∧ ∀ (j x : Nat), e.2.1[j]? = some x → W.cell? ⟨e.1, j, none⟩ = some (.int .i64 (x : Int)) := fun e he => by
          obtain ⟨v, hv, ev⟩ := (hps.parts e.2.1).1 (List.mem_map.2 ⟨e, he, rfl⟩)
          obtain ⟨a, r, e1, e2, _⟩ := cmp_cons (s := nbs E n) ((hlft.out.mem v).1 hv)
          rw [e1] at ev
          obtain ⟨_, h2, h3⟩ := hp.en e he
          exact ⟨by rw [ev]; simp, by rw [ev]; simp only [List.headD_cons]; omega, h2, h3⟩
        have KS := Lib.hid (psort_any es (by omega) W Ap cp _ hOp hen)
        have hDl : D < W.heap.size := (Array.getElem?_eq_some_iff.1 hK).1
        have HDg := Lib.hid (show ∀ g : Addr, Ap = some g → D ≠ g.block from fun g e e2 => by
          rcases hOp.2 with ⟨y, _⟩ | ⟨g', cp', cur, y1, y2, y3, _⟩
          · injection y with y _ _
            rw [e] at y
            cases y
          · injection y1 with y1 _ _
            rw [e] at y1
            injection y1 with y1
            rw [y1] at e2
            simp only at e2
            rw [← e2, hK] at y3
            cases y3)
        have HPg := Lib.hid (show ∀ k : Nat, k < w5.heap.size + 2 + 1 → ∀ g : Addr, Ap = some g → k ≠ g.block from fun k hk g e e2 => ne_own hOp hbz hk (by rw [e, e2]; rfl))
        have HPS := Lib.hid hps
        have HKD := Lib.hid hK
        clear hp hst2 hps hen hOp hK hel
        gi_wp2_with fail
        refine ⟨trivial, ?_⟩
        refine (callsIn_wide.2 KS.out).mono ?_
        rintro e w10 ⟨rfl, fs, q1, q2, q3, q4, q5, q6, q7⟩
        have hV10 : w10.cell? ⟨W4.heap.size, 0, none⟩ = some (.slice Ap es.length cp) := (World.cell?_of_block (q5 W4.heap.size (World.block_lt_of_cell? W _ hVp) (HPg.out _ (by omega)))).trans hVp
        have HQ := Lib.hid (show (fs.map fun e => e.2.1) = prts (nbs E n) n from HPS.out.done hlft.out (q1.map _) q2)
        have HQ1 := Lib.hid q1
        have HQ3 := Lib.hid q3
        have HQ4 := Lib.hid q4
        have HK10 := Lib.hid ((q5 D hDl (HDg.out)).trans HKD.out)
        have hb10 : Below w.heap.size W w10 := ⟨q7.1, q7.2.1, q7.2.2, by omega, fun k hk => q5 k (by have := hlow.size; omega) (HPg.out k (by omega))⟩
        clear q1 q2 q3 q4 q5 KS
        gi_wp2
        refine ⟨by simp, .inl ⟨_, _, rfl, run_takeDeferred HK10.out, ?_⟩⟩
        refine ⟨_, results_tmp2 rfl _ _ _, Ap, cp, fs, ?_, HQ.out, rd_row fun j x hx => ?_, fun e he => rd_nums fun j x hx => ?_, (hlow.trans hb10).trans (belowK_b (w := w) (Nat.le_refl _) w10 D _ _ (by omega) HK10.out rfl rfl)⟩
        · rw [HQ1.out.length_eq]
          rfl
        · obtain ⟨ad, h1, h2⟩ := HQ3.out j x hx
          exact ⟨ad, h1, cell_put _ HK10.out rfl h2⟩
        · exact cell_put _ HK10.out rfl (HQ4.out e (HQ1.out.mem_iff.1 he) j x hx)
      case stop =>
        rintro D c pre W _ _ h _
        exact h.elim
end gr
end Go.Proofs.YtahffafobdiogaaDoor
