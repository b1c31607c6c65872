/- Texts of one chain, in one file. -/
import Derived.Laws.AppendOwnNone
import Derived.Deep.RegionHeld3
import Derived.ProofKit
import Derived.OpenShut
import Derived.Deep.Slices
import Derived.Deep.SlicePairs
import Derived.Stop.LaidErr
import Derived.Lib.LaidTab
import Derived.LaidMore
import Derived.ChangeSlices
import Derived.ChangeSame
import Derived.Stop.Joined
import Derived.Test.YtahffafobdiogaaDoorQC
/- Parts of the program. -/
namespace Go.Proofs.YtahffafobdiogaaDoor
set_option linter.unusedVariables false
set_option linter.unusedSimpArgs false
open Go.RowKit Go.Shelf
attribute [local go_sem] Oper.semAt_some
namespace gr
/-- what the first loop keeps -/
structure PJ (w W : World) (lb n sb ps pl N : Nat) (E : Nat → Nat → Bool) (S L : List Nat) : Prop where
  lk : LkE W lb n E
  tz : Tz W
  sc : W.cell? ⟨ps, 0, none⟩ = some (sl sb (sizeW n))
  sf : W.frozen? ⟨ps, 0, none⟩ = false
  sn : Seen W sb n S
  bx : Bx W pl N L
  low : Below w.heap.size w W
  fit : tzB < w.heap.size ∧ w.heap.size ≤ pl ∧ pl < lb ∧ lb + n < sb ∧ sb < ps ∧ ps < N
theorem PJ.kt {w W W' : World} {lb n sb ps pl N : Nat} {E : Nat → Nat → Bool} {S L S' L' : List Nat} (h : PJ w W lb n sb ps pl N E S L) (hk : KT N (fun k => k = pl ∨ k = sb) W W') (hs : Seen W' sb n S') (hb : Bx W' pl N L') : PJ w W' lb n sb ps pl N E S' L' := by
  obtain ⟨f1, f2, f3, f4, f5, f6⟩ := h.fit
  have hz := h.bx.bz
  have hcell : ∀ (b i : Nat) (v : Value), b < N → ¬ (b = pl ∨ b = sb) → W.cell? ⟨b, i, none⟩ = some v → W'.cell? ⟨b, i, none⟩ = some v ∧ W'.frozen? ⟨b, i, none⟩ = W.frozen? ⟨b, i, none⟩ := fun b i v hb hp hv => by
    obtain ⟨o, ho, hc⟩ := cells_of_cell hv
    have e : W'.heap[b]? = W.heap[b]? := (hk.2 b o ho hp (.inl hb)).trans ho.symm
    exact ⟨(World.cell?_of_block e).trans hv, World.frozen?_of_block e⟩
  exact ⟨hk.lke h.lk (fun k h1 h2 x => by omega), fun j hj => (hcell tzB j _ (by omega) (by omega) (h.tz j hj)).1, (hcell _ _ _ (by omega) (by omega) h.sc).1, (hcell _ _ _ (by omega) (by omega) h.sc).2.trans h.sf, hs, hb, h.low.trans (hk.low (by omega) (by omega) (fun k x => by omega)), h.fit⟩
theorem infoL : ∃ i, Tryd.prog.info? 24 = some i ∧ i.zero = some (.slice none 0 0) ∧ i.size = 1 ∧ i.bytes = 24 := info_parts (by kernel_rfl)
theorem cut_at (L : List Nat) (k : Nat) (hk : k < L.length) : L = L.take (L.length - k - 1) ++ L.getD (L.length - 1 - k) 0 :: L.drop (L.length - k) := by
  have h1 : L.length - k - 1 < L.length := by omega
  have e : L.getD (L.length - 1 - k) 0 = L[L.length - k - 1] := by
    rw [List.getD, show L.length - 1 - k = L.length - k - 1 by omega, List.getElem?_eq_getElem h1]
    rfl
  rw [e]
  conv => lhs; rw [← List.take_append_drop (L.length - k - 1) L]
  congr 1
  rw [List.drop_eq_getElem_cons h1]
  congr 2
  omega
theorem bk_rev {zs : List Nat} {Q : Nat → Prop} {hQ : ∀ j, Q (zs.getD j 0)} {k : Nat} (hk : k ≤ zs.length) : ((bk zs Q hQ k).map fun x => x.1.2).reverse = zs.drop (zs.length - k) := by
  induction k with
  | zero => simp [bk]
  | succ k ih =>
    rw [bk_succ, List.map_append, List.reverse_append, ih (by omega), List.map_singleton]
    have h1 : zs.length - (k + 1) < zs.length := by omega
    rw [List.drop_eq_getElem_cons h1]
    simp only [List.reverse_singleton, List.singleton_append]
    congr 1
    · rw [List.getD, show zs.length - 1 - k = zs.length - (k + 1) by omega, List.getElem?_eq_getElem h1]
      rfl
    · congr 1
      omega
theorem one_sl (A : Option Addr) (n c : Nat) : ∀ u ∈ [Value.slice A n c], u.oneCell' = true := by
  intro u hu
  simp at hu
  subst hu
  rfl
theorem ne_own {W : World} {B n k : Nat} {t : TypeId} {v : Value} {xs : List Value} (h : W.ownsRow B t 1 v n xs) (_ : B ≤ W.heap.size) (hk : k < B) : some k ≠ v.ownBlock := fun e => by
  have := h.lt k e.symm
  omega
theorem PI.pcs {W w3 : World} {lb n sb ps pb pp N : Nat} {E : Nat → Nat → Bool} {T : List Nat} {es : List (Nat × List Nat × Nat)} (h : PI W lb n sb ps pb pp N E T es) (o : Obj) {V : Value} (hV : W.cell? ⟨pp, 0, none⟩ = some V) (hO : W.ownsRow N 24 1 V es.length (es.map encP)) (hg : (W.alloc o).grownBy w3 V.ownBlock) : w3.cell? ⟨pp, 0, none⟩ = some V ∧ w3.frozen? ⟨pp, 0, none⟩ = false := by
  obtain ⟨f1, f2, f3, f4, f5, f6, f7, f8, f9, f10, f11, f12, f13, f14, f15⟩ := h.fit
  obtain ⟨ob, ho, hc⟩ := cells_of_cell hV
  have hl := World.block_lt_of_cell? W _ hV
  have e : w3.heap[pp]? = W.heap[pp]? := by
    rw [hg.block pp (by rw [World.size_alloc]; simp only at hl; omega) (ne_own hO h.bz f6)]
    exact Below.heap_alloc W o pp hl
  exact ⟨(World.cell?_of_block e).trans hV, (World.frozen?_of_block e).trans h.pf⟩
set_option maxRecDepth 100000 in
set_option maxHeartbeats 8000000 in
theorem parts_ok (n : Nat) (A : Option Addr) (c : Nat) (ns : List (Nat × Nat)) (hn : n ≤ 4096) (hr : ∀ e ∈ ns, e.1 < n ∧ e.2 < n) (hl : ns.length ≤ 1048576) (w : World) (hT : Tz w) (hE : RdE w w.heap.size A (eN ns)) (hv : valB n (eN ns) = true) :
    Calls Tryd.prog 18 #[.int .i64 n, .slice A ns.length c] w (NewP (prts (nbs (eK ns) n) n) w) := by
  have hdd : ∀ k : Nat, (Fence.wide.depth.isSome = true → 1 ≤ k) := fun k h => by cases h
  obtain ⟨E, hEE⟩ : ∃ E, eK ns = E := ⟨_, rfl⟩
  have hEn : ∀ u w, E u w = true → w < n := hEE ▸ eK_lt hr
  have hEm : ∀ u x, E u x = true → u < n := fun u x h => by
    rw [← hEE] at h
    unfold eK at h
    exact (hr _ (List.contains_iff_mem.1 h)).1
  have KV := Lib.hid (valid_any n A c (eN ns) (by rw [eN_len]; exact hl) w hE)
  rw [hv, eN_len] at KV
  have htz := tz_lt hT
  have hfit : ∀ (W w' : World) (F : Nat → Nat → Bool), LkE w' W.heap.size n F → W.heap.size + n < w'.heap.size := fun W w' F h2 => by
    rcases Nat.eq_zero_or_pos n with h0 | h0
    · have := h2.lt0; omega
    · have := h2.lt (v := n - 1) (by omega); omega
  have KF := Lib.hid (fun W (hb : Below w.heap.size w W) => (forward_any n hn A c ns hr hl W ((hE.below hb).more' hb.size)).mono (R' := fun e w' => e = .returned (sl W.heap.size n) ∧ (LkE w' W.heap.size n E ∧ Below W.heap.size W w' ∧ Below w.heap.size w w' ∧ W.heap.size + n < w'.heap.size)) fun e w' ⟨h1, h2, h3⟩ => by
    rw [hEE] at h2
    exact ⟨h1, h2, h3, hb.trans (h3.mono hb.size), hfit _ _ _ h2⟩)
  have KB := Lib.hid (fun W (hb : Below w.heap.size w W) => (backward_any n hn A c ns hr hl W ((hE.below hb).more' hb.size)).mono (R' := fun e w' => e = .returned (sl W.heap.size n) ∧ (LkE w' W.heap.size n (fun u x => E x u) ∧ Below W.heap.size W w' ∧ Below w.heap.size w w' ∧ W.heap.size + n < w'.heap.size)) fun e w' ⟨h1, h2, h3⟩ => by
    rw [hEE] at h2
    exact ⟨h1, h2, h3, hb.trans (h3.mono hb.size), hfit _ _ _ h2⟩)
  have HNW := Lib.hid (newSet_any n hn)
  have HT := Lib.hid hT
  have HEn := Lib.hid hEn
  have HEm := Lib.hid hEm
  rw [hEE]
  clear hT hE hv hr hEE hEn hEm hfit
  refine (callsIn_wide (n := 6)).1 ?_
  refine callsIn_of_wp_marks Tryd.func18 rfl trivial ?_ rfl
  simp only [Tryd.ntmps18, List.size_toArray, List.length_cons, List.length_nil, Nat.reduceAdd, Nat.reduceSub, Array.replicate_succ, Array.replicate_zero, List.push_toArray, List.append_toArray, List.nil_append, List.cons_append]
  gi_wp2_with (first
    | (refine ⟨trivial, ?_⟩; gi_at_call 23; refine (callsIn_wide.2 KV.out).mono ?_; clear KV; rintro e w1 ⟨rfl, hb1⟩)
    | (refine ⟨trivial, ?_⟩; gi_at_call 24; refine (callsIn_wide.2 (KF.out _ (bel_alloc hb1 _))).mono ?_; clear KF; rintro e w2 ⟨rfl, hf2⟩)
    | (refine ⟨trivial, ?_⟩; gi_at_call 27; refine (callsIn_wide.2 (HNW.out _)).mono ?_; rintro e w3 ⟨rfl, rfl⟩))
  obtain ⟨a1, a2, a3, a4⟩ := hf2
  rw [World.size_alloc] at a1 a2 a4
  have hz1 := hb1.size
  have p1 : PJ w ((w2.alloc (.cells (uV (List.replicate (sizeW n) 0)).toArray 69)).alloc (.cells #[sl w2.heap.size (sizeW n)] 49)) (w1.heap.size + 1) n w2.heap.size (w2.heap.size + 1) w1.heap.size (w2.heap.size + 1 + 1) E [] [] := by
    have hbb : Below w2.heap.size w2 ((w2.alloc (.cells (uV (List.replicate (sizeW n) 0)).toArray 69)).alloc (.cells #[sl w2.heap.size (sizeW n)] 49)) := bel_alloc (bel_box _) _
    have hpl := Blk.new w1 [Value.slice none 0 0] 24
    have hpl2 := (hpl.below a2 (by omega)).keep hbb
    have hps := Blk.new (w2.alloc (.cells (uV (List.replicate (sizeW n) 0)).toArray 69)) [sl w2.heap.size (sizeW n)] 49
    rw [World.size_alloc] at hps
    exact ⟨a1.keep hbb, (HT.out.keep a3).keep hbb, hps.cell (i := 0) rfl, hps.frozen 0, ⟨_, (Blk.new w2 (uV (List.replicate (sizeW n) 0)) _).alloc _, (St.empty _).congr fun u => rfl⟩,
      ⟨⟨_, hpl2.cell (i := 0) rfl, World.ownsRow_nil _ _ _ _⟩, hpl2.frozen 0, by simp, by omega, fun _ => hpl2.cell (i := 0) rfl⟩, a3.trans (hbb.mono a3.size), htz, hz1, by omega, by omega, by omega, by omega⟩
  clear a1 a2 hb1
  generalize (w2.alloc (.cells (uV (List.replicate (sizeW n) 0)).toArray 69)).alloc (.cells #[.slice (some ⟨w2.heap.size, 0, none⟩) (sizeW n) (sizeW n)] 49) = W3 at *
  gi_loopw [25] (fun i wr => ∃ (k : Nat) (S L : List Nat), k ≤ n ∧ i = .int .i64 (k : Int) ∧ PJ w wr (w1.heap.size + 1) n w2.heap.size (w2.heap.size + 1) w1.heap.size (w2.heap.size + 1 + 1) E S L ∧ Hid (Dfs (nbs E n) (List.range k) [] [] S L)) (fun i _ => n - (intOf i).toNat)
  case atStart => exact ⟨0, [], [], by omega, rfl, p1, Lib.hid (.nil _ _)⟩
  case round =>
    obtain ⟨k, S, L, hk, rfl, hp, hd⟩ := hrel
    clear p1
    by_cases hlt : k < n
    · have dk : (k : Int) < (n : Int) := by omega
      have csc := hp.sc
      obtain ⟨f1, f2, f3, f4, f5, f6⟩ := hp.fit
      have KW := Lib.hid (pwalk 41 (w1.heap.size + 1) n w2.heap.size w1.heap.size (w2.heap.size + 1 + 1) (enters_of Tryd.func41 (by kernel_rfl) rfl) (fun u L W hL hB => papp1_any w1.heap.size (w2.heap.size + 1 + 1) u L W hL hB) E hn HEn.out k S L wr hlt hp.lk hp.sn hp.bx hp.tz (dfs_inv (n := n) nbs_lt hd.out (fun x hx => by have := List.mem_range.1 hx; omega) (fun x hx => (by cases hx)) List.nodup_nil (fun x hx => (by cases hx))) (by omega) (by omega) (by omega) (by omega) (by omega) (by omega) (by omega))
      have HP := Lib.hid hp
      clear hp
      gi_wp2_with (refine ⟨trivial, ?_⟩; gi_at_call 38; refine (callsIn_wide.2 KW.out).mono ?_; clear KW; rintro e w4 ⟨rfl, S', L', g1, g2, g3, g4⟩)
      refine ⟨⟨k + 1, S', L', by omega, by congr 1, HP.out.kt g4 g2 g3, Lib.hid ?_⟩, by simp [intOf]; omega⟩
      rw [List.range_succ]
      exact hd.out.app g1
    · have hkn : n = k := by omega
      subst hkn
      obtain ⟨W4, rfl⟩ : ∃ U, U = wr := ⟨_, rfl⟩
      have hlft := Lib.hid (lft_of hd.out)
      clear hd
      have csc := hp.sc
      have csf := hp.sf
      have hlow := hp.low
      have HP := Lib.hid hp
      clear hp
      obtain ⟨V, hV, hO⟩ := HP.out.bx.fc
      obtain ⟨A1, c1, rfl⟩ := own_form hO
      have hLn := hlft.out.len
      have hz4 := HP.out.bx.bz
      obtain ⟨e1, e2, e3, e4, e5, e6⟩ := HP.out.fit
      gi_wp2_with (first
        | (refine ⟨trivial, ?_⟩; gi_at_call 34; refine (callsIn_wide.2 (KB.out _ (bel_alloc hlow _))).mono ?_; clear KB; rintro e w5 ⟨rfl, hf5⟩)
        | (refine ⟨trivial, ?_⟩; gi_at_call 27; fail))
      rw [World.size_alloc] at hf5
      obtain ⟨a5, a6, a7, a8⟩ := hf5
      have bb6 : Below w5.heap.size w5 ((w5.alloc (.cells (uV (List.replicate (sizeW n) 0)).toArray 69)).alloc (.cells #[sl (W4.heap.size + 1) n] 44)) := bel_alloc (bel_box _) _
      have bb46 : Below W4.heap.size W4 ((w5.alloc (.cells (uV (List.replicate (sizeW n) 0)).toArray 69)).alloc (.cells #[sl (W4.heap.size + 1) n] 44)) := ((bel_box _).trans (a6.mono (by omega))).trans (bb6.mono (by omega))
      have s6 := (bb46.cell (p := ⟨w2.heap.size + 1, 0, none⟩) (by simp only; omega)).trans csc
      have t6 := (bb46.frozen (p := ⟨w2.heap.size + 1, 0, none⟩) (by simp only; omega)).trans csf
      have l6 : (((w5.alloc (.cells (uV (List.replicate (sizeW n) 0)).toArray 69)).alloc (.cells #[sl (W4.heap.size + 1) n] 44)).setCell ⟨w2.heap.size + 1, 0, none⟩ (sl w5.heap.size (sizeW n))).cell? ⟨w1.heap.size, 0, none⟩ = some (.slice A1 L.length c1) := (World.cell?_setCell_other _ _ _ _ (by intro e; injection e with e; omega)).trans ((bb46.cell (p := ⟨w1.heap.size, 0, none⟩) (by simp only; omega)).trans hV)
      have KBk := Lib.hid (fun W => backw_any A1 L.length c1 W)
      have g6 : LkE (((w5.alloc (.cells (uV (List.replicate (sizeW n) 0)).toArray 69)).alloc (.cells #[sl (W4.heap.size + 1) n] 44)).setCell ⟨w2.heap.size + 1, 0, none⟩ (sl w5.heap.size (sizeW n))) (W4.heap.size + 1) n (fun u x => E x u) := (a5.keep bb6).to fun k h1 h2 => Below.heap_setCell _ _ _ _ (by simp only; omega)
      have g7 : ∀ (W : World), W = (((w5.alloc (.cells (uV (List.replicate (sizeW n) 0)).toArray 69)).alloc (.cells #[sl (W4.heap.size + 1) n] 44)).setCell ⟨w2.heap.size + 1, 0, none⟩ (sl w5.heap.size (sizeW n))) → Below w.heap.size w W ∧ W.heap.size = w5.heap.size + 2 ∧ Tz W ∧ W.cell? ⟨w5.heap.size + 1, 0, none⟩ = some (sl (W4.heap.size + 1) n) ∧ W.cell? ⟨w2.heap.size + 1, 0, none⟩ = some (sl w5.heap.size (sizeW n)) ∧ Seen W w5.heap.size n [] ∧ Blk W W4.heap.size 34 [.slice none 0 0] ∧ W.ownsRow (w2.heap.size + 1 + 1) 3 1 (.slice A1 L.length c1) L.length (vV L) := by
        rintro W rfl
        have hp0 := (Blk.new W4 [Value.slice none 0 0] 34).below a6 (by omega)
        have hlk := Blk.new (w5.alloc (.cells (uV (List.replicate (sizeW n) 0)).toArray 69)) [sl (W4.heap.size + 1) n] 44
        rw [World.size_alloc] at hlk
        have hbw := a7.trans (bb6.mono a7.size)
        refine ⟨hbw.setCell (p := ⟨_, _, none⟩) (by simp only; omega) _, by simp, ((HT.out.keep a7).keep bb6).kp (Kp.set (S := fun k => k = w2.heap.size + 1) _ (a := ⟨w2.heap.size + 1, 0, none⟩) rfl _) (by omega), (hlk.set_other (by omega) _ _).cell (i := 0) rfl, World.cell?_setCell_same _ _ _ s6, ⟨_, ((Blk.new w5 (uV (List.replicate (sizeW n) 0)) _).alloc _).set_other (by omega) _ _, (St.empty _).congr fun u => rfl⟩, (hp0.keep bb6).set_other (by omega) _ _, ?_⟩
        exact (Kp.set (S := fun k => k = w2.heap.size + 1) _ (a := ⟨w2.heap.size + 1, 0, none⟩) rfl _).own (own_keep hO bb46) (fun k e => by omega)
      have g7 := g7 _ rfl
      rw [hLn] at l6 KBk g7
      gi_wp2_with (first
        | (refine ⟨trivial, ?_⟩; gi_at_call 27; refine (callsIn_wide.2 (HNW.out _)).mono ?_; rintro e w6 ⟨rfl, rfl⟩)
        | (refine ⟨trivial, ?_⟩; gi_at_call 42; fail))
      generalize ((w5.alloc (.cells (uV (List.replicate (sizeW n) 0)).toArray 69)).alloc (.cells #[.slice (some ⟨W4.heap.size + 1, 0, none⟩) n n] 44)).setCell ⟨w2.heap.size + 1, 0, none⟩ (.slice (some ⟨w5.heap.size, 0, none⟩) (sizeW n) (sizeW n)) = W7 at *
      obtain ⟨z1, z2, z3, z4, z5, z6, z7, z8⟩ := g7
      clear bb6 bb46 s6 t6 l6 a5 a6 hO hV
      refine ⟨trivial, ?_⟩
      refine (callsIn_wide.2 (KBk.out W7)).mono ?_
      rintro e w8 ⟨rfl, rfl⟩
      gi_wp2_with fail
      obtain ⟨W8, hW8⟩ : ∃ W8, W7.alloc (.cells #[.slice A1 n c1] 24) = W8 := ⟨_, rfl⟩
      rw [hW8]
      have hb8 : Below W7.heap.size W7 W8 := by rw [← hW8]; exact bel_box _
      have hz8 : W8.heap.size = W7.heap.size + 1 := by rw [← hW8]; simp
      have hbx : Blk W8 W7.heap.size 24 [.slice A1 n c1] := by rw [← hW8]; exact Blk.new _ _ _
      have hPI : PI W8 (W4.heap.size + 1) n w5.heap.size (w2.heap.size + 1) (w5.heap.size + 1) W4.heap.size (W7.heap.size + 1) (fun u x => E x u) [] [] :=
        ⟨g6.keep hb8, z3.keep hb8, (hb8.cell (p := ⟨w5.heap.size + 1, 0, none⟩) (by simp only; omega)).trans z4, (hb8.cell (p := ⟨w2.heap.size + 1, 0, none⟩) (by simp only; omega)).trans z5, z6.keep hb8, ⟨_, (z7.keep hb8).cell (i := 0) rfl, World.ownsRow_nil _ _ _ _⟩, (z7.keep hb8).frozen 0, fun e he => (by cases he), by omega, by omega, by omega, by omega, by omega, by omega, by omega, by omega, by omega, by omega, by omega, by omega, by omega, by omega, by omega, by omega⟩
      have hlow8 : Below w.heap.size w W8 := z1.trans (hb8.mono z1.size)
      have hQ : ∀ j, (fun v => v < n ∨ n = 0) (L.getD j 0) := fun j => by
        rcases Nat.lt_or_ge j L.length with h | h
        · left
          rw [List.getD, List.getElem?_eq_getElem h]
          exact (hlft.out.mem _).1 (List.getElem_mem h)
        · rcases Nat.eq_zero_or_pos n with h0 | h0
          · exact .inr h0
          · left
            rw [List.getD, List.getElem?_eq_none h]
            exact h0
      have hst := backw_stops (fun v => v < n ∨ n = 0) (6 - 1) W7.heap.size (W7.heap.size + 1) (fun k => k = w5.heap.size ∨ k = W4.heap.size) A1 c1 L hQ (by omega) W8 (by omega) (by omega) (by omega) (fun x => by omega) (by rw [hLn]; exact hbx.cell (i := 0) rfl) (fun j x hx => by
        have hj : j < n := by
          rcases Nat.lt_or_ge j L.length with h | h
          · omega
          · rw [List.getElem?_eq_none h] at hx; cases hx
        obtain ⟨g, cap, e1, e2, e3⟩ := z8.form (by omega)
        injection e1 with e1 _ _
        subst e1
        refine ⟨_, rfl, by simp only; omega, fun x => ?_, (hb8.cell (p := (⟨g, 0, none⟩ : Addr).add j) (by rw [add_block]; exact e3)).trans (z8.cells (g := g) rfl j _ (by unfold vV; rw [List.getElem?_map, hx]; rfl))⟩
        rcases z8.2 with ⟨y, _⟩ | ⟨g', cp, cur, y1, y2, y3, _⟩
        · cases y
        · injection y1 with y1 _ _
          injection y1 with y1
          injection y1 with y1
          subst y1
          rcases x with x | x
          · obtain ⟨ws, q1, _⟩ := z6
            unfold Blk at q1
            rw [← x] at q1
            rw [y3] at q1
            injection q1 with q1
            injection q1 with _ q1 _
            exact absurd q1 (by decide)
          · unfold Blk at z7
            rw [← x, y3] at z7
            injection z7 with z7
            injection z7 with _ z7 _
            exact absurd z7 (by decide))
      rw [hLn] at hst
      clear z8 z3 z4 z5 z6 z7 g6 hbx
      have hz7 : w.heap.size ≤ W7.heap.size := z1.size
      rw [z2] at hst hPI hz8 hz7
      refine wpIn_rangeFunc_ownH rfl (by decide) (gf := 59) (lb := #[.pointer (some ⟨(w5.heap.size + 2), 0, none⟩)]) rfl trivial (enters_of Tryd.func59 (by kernel_rfl) rfl)
        hst Kn.trans Kn.put (Below.refl _ _) (fun _ => rfl)
        (fun pre W => (∃ T es, PI W (W4.heap.size + 1) n w5.heap.size (w2.heap.size + 1) (w5.heap.size + 1) W4.heap.size ((w5.heap.size + 2) + 1) (fun u x => E x u) T es ∧ es.length ≤ pre.length ∧ (∀ x ∈ T, x < n) ∧ (pre = bk L (fun v => v < n ∨ n = 0) hQ pre.length → Pst E n ((pre.map fun x => x.1.2).reverse) T (es.map fun e => e.2.1))) ∧ Below w.heap.size w W)
        (fun _ _ _ => False)
        (OwnFrom.and (Own.from (fun s A B row hs hg hr => by
          obtain ⟨T, es, q1, q2⟩ := hs
          exact ⟨T, es, q1.same hg.size (fun k o ho hc => by
            rw [hg.block k (Array.getElem?_eq_some_iff.1 ho).1 (fun e => by
              obtain ⟨o2, ho2, hc2⟩ := hr k e.symm
              rw [ho] at ho2
              injection ho2 with ho2
              rw [ho2, hc2] at hc
              cases hc)]
            exact ho), q2⟩) _) (ownFrom_below (Nat.le_refl _) (by omega)))
        (fun _ _ _ _ _ hs _ _ => hs)
        ⟨⟨[], [], hPI, by simp, (fun x hx => by cases hx), fun _ => Pst.nil E n⟩, hlow8⟩
        (fun x a' _ => a' = { tmps := #[.int .i64 (n : Int), .slice A ns.length c, undef, undef, .slice none 0 0, .int .i64 0, .pointer (some ⟨w1.heap.size, 0, none⟩), sl (w1.heap.size + 1) n, .pointer (some ⟨w2.heap.size + 1, 0, none⟩), u9, .pointer (some ⟨W4.heap.size, 0, none⟩), .pointer (some ⟨w5.heap.size + 1, 0, none⟩), undef, .int .i64 ((x.1.2 : Nat) : Int), undef, .int .i64 (n : Int), .slice A ns.length c, .bool true, .bool false, .int .i64 (n : Int), .slice A ns.length c, sl (w1.heap.size + 1) n, .int .i64 (n : Int), sl w2.heap.size (sizeW n), .int .i64 (n : Int), .int .i64 (n : Int), .bool false, u27, u28, u29, u30, u31, u32, u33, .int .i64 (n : Int), .slice A ns.length c, sl (W4.heap.size + 1) n, .int .i64 (n : Int), sl w5.heap.size (sizeW n), .slice A1 n c1, .func (.func 59) #[] #[.pointer (some ⟨w5.heap.size + 2, 0, none⟩)], .int .i64 ((x.1.1 : Nat) : Int), .int .i64 ((x.1.2 : Nat) : Int), undef, undef, undef, undef, undef, undef, undef, undef, undef, undef, undef, undef, undef, undef, undef, undef], defers := [] })
        (fun x a' s A B row hs hg hr => hs) ?assign ?body ?done ?stop
      case assign =>
        intro l pre x W K hI hK
        gi_wp2
        exact hK _ _ (KeepsFrom.refl _ _) (Kn.refl _ _ _) hI rfl
      case body =>
        rintro l pre x a' W hl hr ⟨⟨T, es, hp, hel, hTn, hst2⟩, hlow⟩ rfl hlt
        have hlt2 : pre.length < n := hlt
        have hv : x.1.2 < n := x.2.elim id (fun h0 => by omega)
        obtain ⟨v, hxv⟩ : ∃ v, x.1.2 = v := ⟨_, rfl⟩
        rw [hxv] at hv
        simp only [hxv]
        have HX := Lib.hid hxv
        have cbc := cell_al (.cells #[.slice none 0 0] 24) hp.bc
        have csc := cell_al (.cells #[.slice none 0 0] 24) hp.sc
        have hz := hp.bz
        have HPI := Lib.hid hp
        -- the search
        have KW : Hid (Calls Tryd.prog 38 #[sl (W4.heap.size + 1) n, .int .i64 v, sl w5.heap.size (sizeW n), .func (.func 43) #[] #[.pointer (some ⟨W.heap.size, 0, none⟩)]] (W.alloc (.cells #[.slice none 0 0] 24)) fun e W' => e = .returned (.tuple #[]) ∧ ∃ S' L', Dfs (nbs (fun u x => E x u) n) [v] T [] S' L' ∧ Seen W' w5.heap.size n S' ∧ Bx W' W.heap.size (W.heap.size + 1) L' ∧ KT (W.heap.size + 1) (fun k => k = W.heap.size ∨ k = w5.heap.size) (W.alloc (.cells #[.slice none 0 0] 24)) W') := by
          have hbb : Below W.heap.size W (W.alloc (.cells #[.slice none 0 0] 24)) := bel_box _
          have hpb := Blk.new W [Value.slice none 0 0] 24
          exact Lib.hid (pwalk 43 (W4.heap.size + 1) n w5.heap.size W.heap.size (W.heap.size + 1) (enters_of Tryd.func43 (by kernel_rfl) rfl) (fun u L W' hL hB => papp2_any W.heap.size (W.heap.size + 1) u L W' hL hB) (fun u x => E x u) hn (fun u x h => HEm.out x u h) v T [] _ hv (hp.lk.keep hbb) (hp.sn.keep hbb) ⟨⟨_, hpb.cell (i := 0) rfl, World.ownsRow_nil _ _ _ _⟩, hpb.frozen 0, by simp, by omega, fun _ => hpb.cell (i := 0) rfl⟩ (hp.tz.keep hbb) ⟨(fun x hx => by cases hx), List.nodup_nil, hTn⟩ (by omega) (by omega) (by omega) (by omega) (by omega) (by omega) (by omega))
        clear hp
        gi_wp2_with fail
        refine ⟨trivial, ?_⟩
        refine (callsIn_wide.2 KW.out).mono ?_
        clear KW
        rintro e w9 ⟨rfl, S', L', g1, g2, g3, g4⟩
        have hzz : (W.alloc (.cells #[.slice none 0 0] 24)).heap.size = W.heap.size + 1 := by simp
        have hz9 : W.heap.size < w9.heap.size := by have := g4.1; omega
        have hkept : ∀ (k : Nat) (o : Obj), k ≠ w5.heap.size → W.heap[k]? = some o → w9.heap[k]? = some o := fun k o hk ho => by
          have hkl := (Array.getElem?_eq_some_iff.1 ho).1
          exact g4.2 k o ((Below.heap_alloc W _ k hkl).trans ho) (by omega) (.inl (by omega))
        have hlow9 : Below w.heap.size w w9 := hlow.trans (((bel_box (.cells #[.slice none 0 0] 24)).mono (by omega)).trans (g4.low (by omega) (by omega) (fun k x => by omega)))
        have hsbc : ∀ o, W.heap[w5.heap.size]? = some o → o.isCells = true := fun o ho => by
          obtain ⟨us, q1, _⟩ := HPI.out.sn
          unfold Blk at q1
          rw [q1] at ho
          injection ho with ho
          rw [← ho]
          rfl
        have hppc : ∀ o, W.heap[W4.heap.size]? = some o → o.isCells = true := fun o ho => by
          obtain ⟨Vp, q1, _⟩ := HPI.out.pc
          obtain ⟨o2, q2, q3⟩ := cells_of_cell q1
          simp only at q2
          rw [q2] at ho
          injection ho with ho
          rw [← ho]
          exact q3
        have hnext : pre ++ [x] = bk L (fun v => v < n ∨ n = 0) hQ (pre ++ [x]).length → pre = bk L (fun v => v < n ∨ n = 0) hQ pre.length ∧ ∃ A, L = A ++ v :: (pre.map fun x => x.1.2).reverse := fun e => by
          rw [List.length_append, List.length_singleton, bk_succ] at e
          obtain ⟨h1, h2⟩ := List.append_inj' e rfl
          refine ⟨h1, L.take (L.length - pre.length - 1), ?_⟩
          injection h2 with h2 _
          have h3 : v = L.getD (L.length - 1 - pre.length) 0 := by rw [← HX.out, h2]
          have h4 : (pre.map fun x => x.1.2).reverse = L.drop (L.length - pre.length) := by
            have h5 := bk_rev (zs := L) (Q := fun v => v < n ∨ n = 0) (hQ := hQ) (k := pre.length) (by omega)
            rw [← h1] at h5
            exact h5
          rw [h4, h3]
          exact cut_at L pre.length (by omega)
        have hmap : ((pre ++ [x]).map fun x => x.1.2).reverse = v :: (pre.map fun x => x.1.2).reverse := by
          rw [List.map_append, List.reverse_append, List.map_singleton, HX.out]
          rfl
        by_cases hL0 : L' = []
        · have c9 := g3.nl hL0
          have hdone : ∃ T es, PI w9 (W4.heap.size + 1) n w5.heap.size (w2.heap.size + 1) (w5.heap.size + 1) W4.heap.size (w5.heap.size + 2 + 1) (fun u x => E x u) T es ∧ es.length ≤ (pre ++ [x]).length ∧ (∀ x ∈ T, x < n) ∧ (pre ++ [x] = bk L (fun v => v < n ∨ n = 0) hQ (pre ++ [x]).length → Pst E n (((pre ++ [x]).map fun x => x.1.2).reverse) T (es.map fun e => e.2.1)) := by
            have hvT : v ∈ T ∧ S' = T := by
              cases g1 with
              | skip h k => cases k with | nil => exact ⟨h, rfl⟩
              | go h k1 k2 =>
                cases k2 with
                | nil => exact absurd hL0 (by simp)
            refine ⟨S', es, HPI.out.to (by omega) (fun k o hk ho _ => hkept k o hk ho) g2, by rw [List.length_append]; omega, by rw [hvT.2]; exact hTn, fun e => ?_⟩
            rw [hmap, hvT.2]
            exact (hst2 (hnext e).1).skip hvT.1
          have HD := Lib.hid hdone
          clear hdone g1 g2 g3 g4
          gi_wp2
          exact ⟨⟨by omega, fun k o _ ho hc => hkept k o (fun e => by subst e; rw [hsbc o ho] at hc; cases hc) ho⟩, ⟨by omega, fun k o _ hS ho _ => hkept k o (fun e => hS (.inl e)) ho⟩, HD.out, hlow9⟩
        · have hL1 : 0 < L'.length := List.length_pos_iff.2 hL0
          have hinv := dfs_inv (n := n) nbs_lt g1 (fun y hy => by rw [List.mem_singleton.1 hy]; exact hv) (fun y hy => (by cases hy)) List.nodup_nil hTn
          have hLl : L'.length ≤ 4096 := by
            have := nodup_len' _ (List.range n) hinv.2.1 fun y hy => List.mem_range.2 (hinv.2.2 y (hinv.1 y hy))
            rw [List.length_range] at this
            omega
          have hvT : v ∉ T := fun h => by
            cases g1 with
            | skip h k => cases k with | nil => exact hL0 rfl
            | go h2 k1 k2 => exact h2 h
          obtain ⟨V6, c9, o6⟩ := g3.fc
          obtain ⟨g, cap, rfl, hg1, hg2⟩ := o6.form hL1
          have hgh : ∃ cs, w9.heap[g]? = some (.cells cs 3 (0, 0)) := by
            rcases o6.2 with ⟨y, _⟩ | ⟨g', cp, cur, y1, y2, y3, _⟩
            · cases y
            · injection y1 with y1 _ _
              injection y1 with y1
              injection y1 with y1
              subst y1
              exact ⟨_, y3⟩
          have KS := sort_any g cap L' w9 hg2 hLl (fun j y hy => ⟨off_add g j ▸ o6.cells (g := g) rfl j _ (by unfold vV; rw [List.getElem?_map, hy]; rfl), by
            obtain ⟨cs, hcs⟩ := hgh
            unfold World.frozen?
            rw [hcs]
            simp⟩)
          have HH := Lib.hid (show ∀ w10, (∀ (j y : Nat), (L'.mergeSort fun x y => decide (x ≤ y))[j]? = some y → w10.cell? ⟨g, j, none⟩ = some (.int .i64 (y : Int))) → w9.heap.size ≤ w10.heap.size → Os w9 w10 → (∀ k, k < w9.heap.size → k ≠ g → w10.heap[k]? = w9.heap[k]?) → (∀ c t f, w9.heap[g]? = some (.cells c t f) → ∃ c', w10.heap[g]? = some (.cells c' t f)) →
              PI w10 (W4.heap.size + 1) n w5.heap.size (w2.heap.size + 1) (w5.heap.size + 1) W4.heap.size (w5.heap.size + 2 + 1) (fun u x => E x u) S' es ∧ w10.cell? ⟨W.heap.size, 0, none⟩ = some (.slice (some ⟨g, 0, none⟩) L'.length cap) ∧ (∃ cs f, w10.heap[g]? = some (.cells cs 3 f)) ∧ (∀ (k : Nat) (o : Obj), k ≠ w5.heap.size → W.heap[k]? = some o → w10.heap[k]? = some o) ∧ Below w.heap.size w w10 from fun w10 q1 q2 q3 q4 q5 => by
            have hk10 : ∀ (k : Nat) (o : Obj), k ≠ w5.heap.size → W.heap[k]? = some o → w10.heap[k]? = some o := fun k o hk ho => by
              have hkl := (Array.getElem?_eq_some_iff.1 ho).1
              exact (q4 k (by omega) (by omega)).trans (hkept k o hk ho)
            obtain ⟨us, u1, u2⟩ := g2
            obtain ⟨cs, hcs⟩ := hgh
            exact ⟨HPI.out.to (by omega) (fun k o hk ho _ => hk10 k o hk ho) ⟨us, u1.to (q4 _ u1.lt (by omega)), u2⟩, (World.cell?_of_block (q4 W.heap.size hz9 (by omega))).trans c9, let ⟨c', hc'⟩ := q5 _ _ _ hcs; ⟨c', _, hc'⟩, hk10, ⟨q3.1.trans hlow9.os, q3.2.1.trans hlow9.tape, q3.2.2.trans hlow9.output, Nat.le_trans hlow9.size q2, fun k hk => (q4 k (by omega) (by omega)).trans (hlow9.block k hk)⟩⟩)
          have hstep : pre ++ [x] = bk L (fun v => v < n ∨ n = 0) hQ (pre ++ [x]).length → Pst E n (((pre ++ [x]).map fun x => x.1.2).reverse) S' ((es.map fun e => e.2.1) ++ [L'.mergeSort fun x y => decide (x ≤ y)]) := fun e => by
            obtain ⟨h1, A0, h2⟩ := hnext e
            rw [hmap]
            exact ((hst2 h1).step (E' := fun u x => E x u) (fun _ _ => rfl) (fun u x h => HEn.out u x h) (fun u x h => HEm.out u x h) hlft.out h2 hvT g1).1
          have HSt := Lib.hid hstep
          have HS9 := Lib.hid hinv.2.2
          have hml : (L'.mergeSort fun x y => decide (x ≤ y)).length = L'.length := List.length_mergeSort L'
          have HML := Lib.hid hml
          have hesl : es.length < 4096 := by omega
          have KS := Lib.hid KS
          obtain ⟨i0, hi, iz, is, ib⟩ := infoL
          clear hstep hnext hmap hst2 o6 hgh g1 g2 g3 hinv hml HPI hkept
          generalize (L'.mergeSort fun x y => decide (x ≤ y)) = M at *
          generalize hll : L'.length = ll at *
          gi_wp2_with fail
          refine ⟨trivial, ?_⟩
          refine (callsIn_wide.2 KS.out).mono ?_
          rintro e w10 ⟨rfl, q1, q2, q3, q4, q5⟩
          obtain ⟨p1, p2, p3, p4, p5⟩ := HH.out w10 q1 q2 q3 q4 q5
          obtain ⟨Vp, hVp, hOp⟩ := p1.pc
          obtain ⟨Ap, cp, rfl⟩ := own_form hOp
          have hpf := p1.pf
          have hbz := p1.bz
          have HP1 := Lib.hid p1
          have HOp := Lib.hid hOp
          have HP3 := Lib.hid p3
          have HP4 := Lib.hid p4
          have HQ1 := Lib.hid q1
          have HQ4 := Lib.hid q4
          clear KS HH p1 p3 p4 hOp q1 q4 q5 g4
          have hNz : w5.heap.size + 2 + 1 ≤ w10.heap.size := hbz
          have hown0 : (w10.alloc (.cells #[.slice (some ⟨g, 0, none⟩) ll cap] 24)).ownsRow (w5.heap.size + 2 + 1) 24 1 (.slice Ap es.length cp) es.length (es.map encP) := own_keep HOp.out (bel_box _)
          gi_wp2_with (gi_at_builtin; refine wpListIn_append_own _ rfl _ _ 34 rfl (w5.heap.size + 2 + 1) 24 i0 (.slice none 0 0) 1 24 Tryd.underlying34 hi iz is ib rfl (by decide) _ es.length (es.map encP) rfl hown0 ⟨w10.heap.size, 0, none⟩ 1 1 [.slice (some ⟨g, 0, none⟩) ll cap] rfl rfl (row1 _ _ _) (one_sl _ _ _) (by unfold maxLen; omega) (by omega) (by rw [World.size_alloc]; omega) ?_; intro V3 w3' hown3 hgrow3 h4; clear h4; obtain ⟨A3, c3, rfl⟩ := own_form hown3; replace hgrow3 : (w10.alloc (.cells #[.slice (some ⟨g, 0, none⟩) ll cap] 24)).grownBy w3' (Value.slice Ap es.length cp).ownBlock := hgrow3; have vf := HP1.out.pcs _ hVp HOp.out hgrow3; obtain ⟨vp3, fp3⟩ := vf; have hgrow3 := Lib.hid hgrow3; have hown3 := Lib.hid hown3)
          obtain ⟨r1, r2, r3, r4, r5⟩ := HP1.out.push (g := g) (c := cap) (l := M) _ hVp HOp.out hgrow3.out (by have e : encP (g, M, cap) = .slice (some ⟨g, 0, none⟩) ll cap := (by unfold encP; simp only; rw [HML.out]); rw [e]; exact hown3.out) (by omega) HP3.out HQ1.out
          have hbe : Below w.heap.size w10 (w3'.setCell ⟨W4.heap.size, 0, none⟩ (.slice A3 (es.length + 1) c3)) := ⟨r5.1, r5.2.1, r5.2.2, by rw [World.size_setCell]; exact r4, fun k hk => by
            have hk10 : k < w10.heap.size := by omega
            exact (r2 k _ (by omega) (by omega) (Array.getElem?_eq_getElem hk10)).trans (Array.getElem?_eq_getElem hk10).symm⟩
          exact ⟨⟨by rw [World.size_setCell]; omega, fun k o _ ho hc => r3 k o hc (HP4.out k o (fun e => by subst e; rw [hsbc o ho] at hc; cases hc) ho)⟩, ⟨by rw [World.size_setCell]; omega, fun k o hk hS ho _ => r2 k o hk (fun e => hS (.inr e)) (HP4.out k o (fun e => hS (.inl e)) ho)⟩, ⟨S', es ++ [(g, M, cap)], r1, by simp; omega, HS9.out, fun e => by rw [List.map_append (l₁ := es)]; exact HSt.out e⟩, p5.trans hbe⟩
      case done =>
        rintro D ys W hD hys ⟨⟨T, es, hp, hel, hTn, hst2⟩, hlow⟩ hK
        subst hys
        have hps : Pst E n L T (es.map fun e => e.2.1) := by
          have h := hst2 (by rw [bk_len])
          have h2 := bk_rev (zs := L) (Q := fun v => v < n ∨ n = 0) (hQ := hQ) (k := n) (by omega)
          rw [show L.length - n = 0 by omega, List.drop_zero] at h2
          rw [h2] at h
          exact h
        have hel' : es.length ≤ n := by rw [bk_len] at hel; exact hel
        obtain ⟨Vp, hVp, hOp⟩ := hp.pc
        obtain ⟨Ap, cp, rfl⟩ := own_form hOp
        have hbz := hp.bz
        have hen : ∀ e ∈ es, 0 < e.2.1.length ∧ e.2.1.headD 0 ≤ 4096 ∧ (∃ cs f, W.heap[e.1]? = some (.cells cs 3 f)) ∧ ∀ (j x : Nat), e.2.1[j]? = some x → W.cell? ⟨e.1, j, none⟩ = some (.int .i64 (x : Int)) := fun e he => by
          obtain ⟨v, hv, ev⟩ := (hps.parts e.2.1).1 (List.mem_map.2 ⟨e, he, rfl⟩)
          obtain ⟨a, r, e1, e2, _⟩ := cmp_cons (s := nbs E n) ((hlft.out.mem v).1 hv)
          rw [e1] at ev
          obtain ⟨_, h2, h3⟩ := hp.en e he
          exact ⟨by rw [ev]; simp, by rw [ev]; simp only [List.headD_cons]; omega, h2, h3⟩
        have KS := Lib.hid (psort_any es (by omega) W Ap cp _ hOp hen)
        have hDl : D < W.heap.size := (Array.getElem?_eq_some_iff.1 hK).1
        have HDg := Lib.hid (show ∀ g : Addr, Ap = some g → D ≠ g.block from fun g e e2 => by
          rcases hOp.2 with ⟨y, _⟩ | ⟨g', cp', cur, y1, y2, y3, _⟩
          · injection y with y _ _
            rw [e] at y
            cases y
          · injection y1 with y1 _ _
            rw [e] at y1
            injection y1 with y1
            rw [y1] at e2
            simp only at e2
            rw [← e2, hK] at y3
            cases y3)
        have HPg := Lib.hid (show ∀ k : Nat, k < w5.heap.size + 2 + 1 → ∀ g : Addr, Ap = some g → k ≠ g.block from fun k hk g e e2 => ne_own hOp hbz hk (by rw [e, e2]; rfl))
        have HPS := Lib.hid hps
        have HKD := Lib.hid hK
        clear hp hst2 hps hen hOp hK hel
        gi_wp2_with fail
        refine ⟨trivial, ?_⟩
        refine (callsIn_wide.2 KS.out).mono ?_
        rintro e w10 ⟨rfl, fs, q1, q2, q3, q4, q5, q6, q7⟩
        have hV10 : w10.cell? ⟨W4.heap.size, 0, none⟩ = some (.slice Ap es.length cp) := (World.cell?_of_block (q5 W4.heap.size (World.block_lt_of_cell? W _ hVp) (HPg.out _ (by omega)))).trans hVp
        have HQ := Lib.hid (show (fs.map fun e => e.2.1) = prts (nbs E n) n from HPS.out.done hlft.out (q1.map _) q2)
        have HQ1 := Lib.hid q1
        have HQ3 := Lib.hid q3
        have HQ4 := Lib.hid q4
        have HK10 := Lib.hid ((q5 D hDl (HDg.out)).trans HKD.out)
        have hb10 : Below w.heap.size W w10 := ⟨q7.1, q7.2.1, q7.2.2, by omega, fun k hk => q5 k (by have := hlow.size; omega) (HPg.out k (by omega))⟩
        clear q1 q2 q3 q4 q5 KS
        gi_wp2
        refine ⟨by simp, .inl ⟨_, _, rfl, run_takeDeferred HK10.out, ?_⟩⟩
        refine ⟨_, results_tmp2 rfl _ _ _, Ap, cp, fs, ?_, HQ.out, rd_row fun j x hx => ?_, fun e he => rd_nums fun j x hx => ?_, (hlow.trans hb10).trans (belowK_b (w := w) (Nat.le_refl _) w10 D _ _ (by omega) HK10.out rfl rfl)⟩
        · rw [HQ1.out.length_eq]
          rfl
        · obtain ⟨ad, h1, h2⟩ := HQ3.out j x hx
          exact ⟨ad, h1, cell_put _ HK10.out rfl h2⟩
        · exact cell_put _ HK10.out rfl (HQ4.out e (HQ1.out.mem_iff.1 he) j x hx)
      case stop =>
        rintro D c pre W _ _ h _
        exact h.elim
end gr
end Go.Proofs.YtahffafobdiogaaDoor
/- The cycle, computed; the values of the examples: plain. -/
namespace Go.Proofs.YtahffafobdiogaaDoor
set_option linter.unusedVariables false
set_option linter.unusedSimpArgs false
namespace gr
def pdB (E : Nat → Nat → Bool) (n low t : Nat) : Nat → Nat → Bool
  | 0, w => decide (w = t)
  | d + 1, w => decide (w < n) && decide (low ≤ w) && (List.range n).any fun v => E w v && pdB E n low t d v
theorem Pd.ltn {E : Nat → Nat → Bool} {n low t d w : Nat} (ht : t < n) (h : Pd E n low t d w) : w < n := by
  cases h with
  | zero => exact ht
  | succ hu _ _ _ => exact hu
theorem pdB_iff {E : Nat → Nat → Bool} {n low t : Nat} (ht : t < n) : ∀ (d w : Nat), pdB E n low t d w = true ↔ Pd E n low t d w
  | 0, w => by
    rw [pdB, decide_eq_true_eq, Pd.zero_iff]
  | d + 1, w => by
    rw [pdB, Bool.and_eq_true, Bool.and_eq_true, decide_eq_true_eq, decide_eq_true_eq, List.any_eq_true]
    constructor
    · rintro ⟨⟨h1, h2⟩, v, _, h3⟩
      rw [Bool.and_eq_true, pdB_iff ht d v] at h3
      exact .succ h1 h2 h3.1 h3.2
    · intro h
      cases h with
      | succ hu hl h k => exact ⟨⟨hu, hl⟩, _, List.mem_range.2 (k.ltn ht), by rw [Bool.and_eq_true, pdB_iff ht d]; exact ⟨h, k⟩⟩
def dstB (E : Nat → Nat → Bool) (n v w : Nat) : Option Nat := (List.range n).find? fun d => pdB E n v v d w
theorem dstB_eq {E : Nat → Nat → Bool} {n v : Nat} (hv : v < n) : dstB E n v = dstS E n v := dst_eq fun w d => by
  unfold dstB
  rw [List.find?_range_eq_some, pdB_iff hv]
  constructor
  · rintro ⟨h1, h2, h3⟩
    refine ⟨h1, fun e he => ?_⟩
    rcases Nat.lt_or_ge e d with h | h
    · have := h3 e h
      rw [(pdB_iff hv e w).2 he] at this
      cases this
    · exact h
  · intro h
    refine ⟨h.1, List.mem_range.2 (h.lt hv), fun e he => ?_⟩
    cases hp : pdB E n v v e w with
    | false => rfl
    | true =>
      have := h.2 e ((pdB_iff hv e w).1 hp)
      omega
def mndB (E : Nat → Nat → Bool) (n : Nat) (D : Nat → Option Nat) (v : Nat) : Option Nat := (List.range n).find? fun d => (List.range n).any fun w => E v w && decide (D w = some d)
theorem mndB_eq {E : Nat → Nat → Bool} {n : Nat} {D : Nat → Option Nat} (hD : ∀ w d, D w = some d → d < n) (v : Nat) : mndO E n D v = mndB E n D v := by
  have hany : ∀ d, ((List.range n).any fun w => E v w && decide (D w = some d)) = true ↔ ∃ w, w < n ∧ E v w = true ∧ D w = some d := fun d => by
    rw [List.any_eq_true]
    constructor
    · rintro ⟨w, h1, h2⟩
      rw [Bool.and_eq_true, decide_eq_true_eq] at h2
      exact ⟨w, List.mem_range.1 h1, h2⟩
    · rintro ⟨w, h1, h2⟩
      exact ⟨w, List.mem_range.2 h1, by rw [Bool.and_eq_true, decide_eq_true_eq]; exact h2⟩
  cases hm : mndB E n D v with
  | some d =>
    unfold mndB at hm
    rw [List.find?_range_eq_some, hany] at hm
    refine mndO_some.2 ⟨hm.1, fun w e h1 h2 h3 => ?_⟩
    rcases Nat.lt_or_ge e d with h | h
    · have := hm.2.2 e h
      rw [(hany e).2 ⟨w, h1, h2, h3⟩] at this
      cases this
    · exact h
  | none =>
    unfold mndB at hm
    refine mndO_none.2 fun w h1 h2 => ?_
    cases hd : D w with
    | none => rfl
    | some d =>
      have := List.find?_eq_none.1 hm d (List.mem_range.2 (hD w d hd))
      exact absurd ((hany d).2 ⟨w, h1, h2, hd⟩) this
def cstB (E : Nat → Nat → Bool) (n : Nat) (best : List Nat) (v : Nat) : List Nat :=
  let l := match mndB E n (dstB E n v) v with | none => [] | some d => v :: folr (nea E n (dstB E n v)) d v
  if l ≠ [] ∧ (best = [] ∨ l.length < best.length) then l else best
theorem cstB_eq {E : Nat → Nat → Bool} {n v : Nat} (hv : v < n) (best : List Nat) : cstep E n best v = cstB E n best v := by
  unfold cstep cstB thrS
  rw [mndB_eq (fun w d h => (dstS_iff.1 h).lt hv) v, ← dstB_eq hv]
  rfl
theorem cycB_eq {E : Nat → Nat → Bool} {n : Nat} : ∀ k, k ≤ n → cycK E n k = (List.range k).foldl (cstB E n) []
  | 0, _ => rfl
  | k + 1, h => by rw [cycK_succ, cycB_eq k (by omega), cstB_eq (by omega), List.range_succ, List.foldl_append]; rfl
/-- the examples -/
theorem ex_ord : ordL 4 [(2, 0), (0, 3)] = [1, 2, 0, 3] ∧ ordX 4 [(2, 0), (0, 3)] = 0 := by decide +kernel
theorem ex_cyc : cycK (eK [(0, 1), (1, 2), (2, 0), (4, 3), (3, 4)]) 5 5 = [3, 4] := by
  rw [cycB_eq 5 (Nat.le_refl _)]
  decide +kernel
theorem ex_cycx : cycX (eK [(0, 1), (1, 2), (2, 0), (4, 3), (3, 4)]) 5 = 0 := by
  unfold cycX
  rw [ex_cyc]
  rfl
theorem ex_none : cycK (eK []) 3 3 = [] ∧ cycX (eK []) 3 = 8 := by
  have h : cycK (eK []) 3 3 = [] := by
    rw [cycB_eq 3 (Nat.le_refl _)]
    decide +kernel
  exact ⟨h, by unfold cycX; rw [h]; rfl⟩
theorem Rch.stay {s : Nat → List Nat} (S : List Nat) (hc : ∀ x ∈ S, ∀ y ∈ s x, y ∈ S) {u v : Nat} (h : Rch s u v) : u ∈ S → v ∈ S := by
  induction h with
  | refl _ => exact id
  | step h1 _ ih => exact fun hu => ih (hc _ hu _ h1)
theorem ex_rch : rowB 3 (rchB (nbs (eK [(1, 2)]) 3) 1) = [.bool false, .bool true, .bool true] := by
  have h0 : rchB (nbs (eK [(1, 2)]) 3) 1 0 = false := by
    cases h : rchB (nbs (eK [(1, 2)]) 3) 1 0 with
    | false => rfl
    | true =>
      have := (rchB_iff.1 h).stay [1, 2] (by decide +kernel) (by decide)
      exact absurd this (by decide)
  have h1 : rchB (nbs (eK [(1, 2)]) 3) 1 1 = true := rchB_iff.2 (.refl _)
  have h2 : rchB (nbs (eK [(1, 2)]) 3) 1 2 = true := rchB_iff.2 (Rch.one (by decide +kernel))
  unfold rowB
  simp only [List.range_succ, List.range_zero, List.nil_append, List.cons_append, List.map_cons, List.map_nil, h0, h1, h2]
theorem mut_no {s : Nat → List Nat} (S : List Nat) (hc : ∀ x ∈ S, ∀ y ∈ s x, y ∈ S) {u v : Nat} (hu : u ∈ S) (hv : v ∉ S) : ¬ Mut s u v := fun h => hv (h.1.stay S hc hu)
theorem ex_parts : prts (nbs (eK [(0, 2), (2, 0), (2, 1)]) 4) 4 = [[0, 2], [1], [3]] := by
  obtain ⟨s, hs⟩ : ∃ s, nbs (eK [(0, 2), (2, 0), (2, 1)]) 4 = s := ⟨_, rfl⟩
  rw [hs]
  have e02 : Mut s 0 2 := ⟨Rch.one (by rw [← hs]; decide +kernel), Rch.one (by rw [← hs]; decide +kernel)⟩
  have n1 : ∀ v, v ≠ 1 → ¬ Mut s 1 v := fun v hv => mut_no [1] (by rw [← hs]; decide +kernel) (by decide) (by simpa using hv)
  have n3 : ∀ v, v ≠ 3 → ¬ Mut s 3 v := fun v hv => mut_no [3] (by rw [← hs]; decide +kernel) (by decide) (by simpa using hv)
  have c : ∀ v l, l.Pairwise (fun a b : Nat => a < b) → (∀ x, x ∈ l ↔ x < 4 ∧ Mut s v x) → cmp s 4 v = l := fun v l h1 h2 => asc_ext id _ _ (cmp_asc s 4 v) h1 fun x => by rw [cmp_mem, h2]
  have c0 : cmp s 4 0 = [0, 2] := c 0 _ (by decide) fun x => by
    constructor
    · intro h
      simp only [List.mem_cons, List.not_mem_nil, or_false] at h
      rcases h with rfl | rfl
      · exact ⟨by omega, Mut.refl _ _⟩
      · exact ⟨by omega, e02⟩
    · rintro ⟨h1, h2⟩
      have h3 : x ≠ 1 := fun e => n1 0 (by omega) (by rw [e] at h2; exact h2.symm)
      have h4 : x ≠ 3 := fun e => n3 0 (by omega) (by rw [e] at h2; exact h2.symm)
      simp only [List.mem_cons, List.not_mem_nil, or_false]
      omega
  have c2 : cmp s 4 2 = [0, 2] := (cmp_eq e02.symm).trans c0
  have c1 : cmp s 4 1 = [1] := c 1 _ (by decide) fun x => by
    rw [List.mem_singleton]
    constructor
    · rintro rfl
      exact ⟨by omega, Mut.refl _ _⟩
    · rintro ⟨_, h2⟩
      exact Classical.byContradiction fun e => n1 x e h2
  have c3 : cmp s 4 3 = [3] := c 3 _ (by decide) fun x => by
    rw [List.mem_singleton]
    constructor
    · rintro rfl
      exact ⟨by omega, Mut.refl _ _⟩
    · rintro ⟨_, h2⟩
      exact Classical.byContradiction fun e => n3 x e h2
  refine (prts_uniq (by decide) fun l => ?_).symm
  simp only [List.mem_cons, List.not_mem_nil, or_false]
  constructor
  · rintro (rfl | rfl | rfl)
    · exact ⟨0, by omega, c0.symm⟩
    · exact ⟨1, by omega, c1.symm⟩
    · exact ⟨3, by omega, c3.symm⟩
  · rintro ⟨v, hv, rfl⟩
    rcases (show v = 0 ∨ v = 1 ∨ v = 2 ∨ v = 3 by omega) with rfl | rfl | rfl | rfl
    · exact .inl c0
    · exact .inr (.inl c1)
    · exact .inl c2
    · exact .inr (.inr c3)
end gr
end Go.Proofs.YtahffafobdiogaaDoor
/- Same and lists. -/
namespace Go.Proofs.YtahffafobdiogaaDoor
set_option linter.unusedVariables false
set_option linter.unusedSimpArgs false
open Go.RowKit
namespace gr
theorem rd_at {W : World} {B : Nat} {A : Option Addr} {l : List Nat} (h : Rd W B A (vV l)) {k : Nat} (hk : k < l.length) : ∃ ad, A = some ad ∧ ad.block < B ∧ W.cell? (ad.add k) = some (.int .i64 ((l.getD k 0 : Nat) : Int)) := by
  obtain ⟨ad, h1, h2, h3⟩ := h (fun e => by have := congrArg List.length e; simp [vV] at this; subst this; simp at hk)
  refine ⟨ad, h1, h2, h3 k _ ?_⟩
  unfold vV
  rw [List.getElem?_map, List.getElem?_eq_getElem hk, List.getD, List.getElem?_eq_getElem hk]
  rfl
theorem take_more {l m : List Nat} {k : Nat} (h1 : k < l.length) (h2 : k < m.length) (h : l.take k = m.take k) : l.take (k + 1) = m.take (k + 1) ↔ l.getD k 0 = m.getD k 0 := by
  have e1 := List.take_succ_eq_append_getElem h1
  have e2 := List.take_succ_eq_append_getElem h2
  rw [e1, e2, h, List.getD, List.getD, List.getElem?_eq_getElem h1, List.getElem?_eq_getElem h2, List.append_cancel_left_eq]
  simp
theorem take_ne {l m : List Nat} {k : Nat} (h : l.take k ≠ m.take k) : (decide (l = m)) = false := by
  rw [decide_eq_false_iff_not]
  exact fun e => h (by rw [e])
set_option maxRecDepth 100000 in
set_option maxHeartbeats 1000000 in
theorem same_any (A B : Option Addr) (c d : Nat) (l m : List Nat) (w : World) (hA : Rd w w.heap.size A (vV l)) (hB : Rd w w.heap.size B (vV m)) (hl : l.length ≤ 1048576) (hm : m.length ≤ 1048576) :
    Calls Tryd.prog 12 #[.slice A l.length c, .slice B m.length d] w fun e w' => e = .returned (.bool (decide (l = m))) ∧ ∃ q, w' = w.drewN q := by
  have HA := Lib.hid hA
  have HB := Lib.hid hB
  clear hA hB
  by_cases hlm : l.length = m.length
  · have Hlm := Lib.hid hlm
    obtain ⟨n, hn⟩ : ∃ n, m.length = n := ⟨_, rfl⟩
    rw [hlm, hn]
    rw [hn] at hm hlm
    have HN := Lib.hid hn
    have HL := Lib.hid hlm
    clear hn hl hlm
    go_enter Tryd.func12, Tryd.ntmps12
    go_wp2
    go_loopw [5] (fun i wr => ∃ k j : Nat, k ≤ n ∧ i = .int .i64 k ∧ wr = w.drewN j ∧ Hid (l.take k = m.take k)) (fun i _ => n - (intOf i).toNat)
    case atStart => exact ⟨0, 0, by omega, rfl, rfl, rfl⟩
    case round =>
      obtain ⟨k, j, hk, rfl, rfl, HT⟩ := hrel
      by_cases hlt : k < n
      · obtain ⟨ad, rfl, _, hc⟩ := rd_at HA.out (show k < l.length by rw [HL.out]; exact hlt)
        obtain ⟨ad', rfl, _, hc'⟩ := rd_at HB.out (show k < m.length by rw [HN.out]; exact hlt)
        have HX := Lib.hid (take_more (show k < l.length by rw [HL.out]; exact hlt) (show k < m.length by rw [HN.out]; exact hlt) HT.out)
        generalize l.getD k 0 = x at *
        generalize m.getD k 0 = y at *
        have e3 : (k : Int) < (n : Int) := by omega
        go_wp2
        go_quiet (fail)
        go_wp2
        · go_ret
          refine ⟨congrArg (fun b => Ending.returned (.bool b)) (Eq.symm (take_ne (k := k + 1) fun e => ?_)), _, World.drewN_drewN _ _ _⟩
          have hxy := HX.out.1 e
          subst hxy
          simp at *
        · go_roundw
          case rel => exact ⟨k + 1, _, by omega, by go_num, rfl, HX.out.2 (by simp at *; omega)⟩
          case measure => simp [intOf]; omega
      · go_wp2
        go_ret
        have hkn : k = n := by omega
        refine ⟨congrArg (fun b => Ending.returned (.bool b)) (Eq.symm (decide_eq_true ?_)), _, rfl⟩
        have h1 := HT.out
        rw [hkn, List.take_of_length_le (by rw [HL.out]; omega), List.take_of_length_le (by rw [HN.out]; omega)] at h1
        exact h1
  · have hne : ¬ l = m := fun e => hlm (by rw [e])
    rw [decide_eq_false hne]
    have h1 : ¬ ((l.length : Int) = (m.length : Int)) := by omega
    clear HA HB hne
    generalize l.length = x at *
    generalize m.length = y at *
    have h2 : ((x : Int) == (y : Int)) = false := by simpa using h1
    go_enter Tryd.func12, Tryd.ntmps12
    go_wp2
    go_ret
    exact ⟨rfl, 0, rfl⟩
end gr
end Go.Proofs.YtahffafobdiogaaDoor
/- lists of lists. -/
namespace Go.Proofs.YtahffafobdiogaaDoor
set_option linter.unusedVariables false
set_option linter.unusedSimpArgs false
open Go.RowKit
namespace gr
abbrev PR := Nat × List Nat × Nat
/-- a row of rows can be read -/
def Rp (W : World) (A : Option Addr) (fs : List PR) : Prop := Rd W W.heap.size A (fs.map encP) ∧ ∀ e ∈ fs, Rd W W.heap.size (some ⟨e.1, 0, none⟩) (vV e.2.1)
theorem Rp.to {W W' : World} {A : Option Addr} {fs : List PR} (h : Rp W A fs) (hb : Below W.heap.size W W') : Rp W' A fs := ⟨h.1.to hb, fun e he => (h.2 e he).to hb⟩
end gr
end Go.Proofs.YtahffafobdiogaaDoor
/- awake. -/
namespace Go.Proofs.YtahffafobdiogaaDoor
set_option linter.unusedVariables false
set_option linter.unusedSimpArgs false
open Go.RowKit
namespace gr
/-- the cells of edges -/
def cE (ns : List (Nat × Nat)) : List Value := ns.flatMap fun e => [.int .i64 (e.1 : Int), .int .i64 (e.2 : Int)]
theorem cE_get : ∀ (ns : List (Nat × Nat)) (k : Nat), (cE ns)[k * 2]? = (ns[k]?).map (fun e => Value.int .i64 (e.1 : Int)) ∧ (cE ns)[k * 2 + 1]? = (ns[k]?).map (fun e => Value.int .i64 (e.2 : Int))
  | [], k => by simp [cE]
  | e :: r, 0 => by simp [cE]
  | e :: r, k + 1 => by
    have h := cE_get r k
    have e1 : cE (e :: r) = .int .i64 (e.1 : Int) :: .int .i64 (e.2 : Int) :: cE r := rfl
    rw [e1, show (k + 1) * 2 = k * 2 + 1 + 1 by omega]
    simp only [List.getElem?_cons_succ]
    exact h
theorem rdE_blk {W : World} {b : Nat} {t : TypeId} {ns : List (Nat × Nat)} (h : Blk W b t (cE ns)) : RdE W W.heap.size (some ⟨b, 0, none⟩) (eN ns) := fun _ => by
  refine ⟨_, rfl, h.lt, fun k e he => ?_⟩
  rw [eN_get] at he
  cases hx : ns[k]? with
  | none => rw [hx] at he; cases he
  | some x =>
    rw [hx] at he
    injection he with he
    subst he
    obtain ⟨h1, h2⟩ := cE_get ns k
    rw [hx] at h1 h2
    rw [off_add]
    exact ⟨h.cell h1, h.cell h2⟩
theorem ko_ex (w W : World) (hT : Tz w) (hb : Below w.heap.size w W) : Calls Tryd.prog 10 #[.int .i64 4, .slice (some ⟨W.heap.size, 0, none⟩) 2 2] (W.alloc (.cells #[.int .i64 2, .int .i64 0, .int .i64 0, .int .i64 3] 40)) fun e w' => ∃ A c, e = .returned (.tuple #[.slice A 4 c, .int .i64 0]) ∧ Rd w' w'.heap.size A (vV [1, 2, 0, 3]) ∧ Below w.heap.size w w' ∧ Below W.heap.size W w' := by
  have hblk : Blk (W.alloc (.cells #[.int .i64 2, .int .i64 0, .int .i64 0, .int .i64 3] 40)) W.heap.size _ (cE [(2, 0), (0, 3)]) := Blk.new W (cE [(2, 0), (0, 3)]) 40
  have hb2 : Below w.heap.size w (W.alloc (.cells #[.int .i64 2, .int .i64 0, .int .i64 0, .int .i64 3] 40)) := bel_alloc hb _
  refine (order_ok 4 (some ⟨W.heap.size, 0, none⟩) 2 [(2, 0), (0, 3)] (by decide) (by decide) (by decide) _ (hT.keep hb2) (rdE_blk hblk) (by decide +kernel)).mono ?_
  rintro e w' ⟨A, c, he, h1, h2⟩
  rw [ex_ord.1, ex_ord.2] at he
  rw [ex_ord.1] at h1
  exact ⟨A, c, he, h1, hb2.trans (h2.mono hb2.size), (bel_box _).trans (h2.mono (by simp))⟩
theorem kc_ex (w W : World) (hT : Tz w) (hb : Below w.heap.size w W) : Calls Tryd.prog 14 #[.int .i64 5, .slice (some ⟨W.heap.size, 0, none⟩) 5 5] (W.alloc (.cells #[.int .i64 0, .int .i64 1, .int .i64 1, .int .i64 2, .int .i64 2, .int .i64 0, .int .i64 4, .int .i64 3, .int .i64 3, .int .i64 4] 40)) fun e w' => ∃ A c, e = .returned (.tuple #[.slice A 2 c, .int .i64 0]) ∧ Rd w' w'.heap.size A (vV [3, 4]) ∧ Below w.heap.size w w' ∧ Below W.heap.size W w' := by
  have hblk : Blk (W.alloc (.cells #[.int .i64 0, .int .i64 1, .int .i64 1, .int .i64 2, .int .i64 2, .int .i64 0, .int .i64 4, .int .i64 3, .int .i64 3, .int .i64 4] 40)) W.heap.size _ (cE [(0, 1), (1, 2), (2, 0), (4, 3), (3, 4)]) := Blk.new W (cE [(0, 1), (1, 2), (2, 0), (4, 3), (3, 4)]) 40
  have hb2 : Below w.heap.size w (W.alloc (.cells #[.int .i64 0, .int .i64 1, .int .i64 1, .int .i64 2, .int .i64 2, .int .i64 0, .int .i64 4, .int .i64 3, .int .i64 3, .int .i64 4] 40)) := bel_alloc hb _
  refine (cycle_ok 5 (some ⟨W.heap.size, 0, none⟩) 5 [(0, 1), (1, 2), (2, 0), (4, 3), (3, 4)] (by decide) (by decide) (by decide) _ (hT.keep hb2) (rdE_blk hblk) (by decide +kernel)).mono ?_
  rintro e w' ⟨A, c, he, h1, h2⟩
  rw [ex_cyc, ex_cycx] at he
  rw [ex_cyc] at h1
  exact ⟨A, c, he, h1, hb2.trans (h2.mono hb2.size), (bel_box _).trans (h2.mono (by simp))⟩
theorem kn_ex (w W : World) (hT : Tz w) (hb : Below w.heap.size w W) : Calls Tryd.prog 14 #[.int .i64 3, .slice none 0 0] W fun e w' => ∃ A c, e = .returned (.tuple #[.slice A 0 c, .int .i64 8]) ∧ Below w.heap.size w w' ∧ Below W.heap.size W w' := by
  refine (cycle_ok 3 none 0 [] (by decide) (by decide) (by decide) _ (hT.keep hb) (fun h => absurd rfl h) (by decide +kernel)).mono ?_
  rintro e w' ⟨A, c, he, h1, h2⟩
  rw [ex_none.1, ex_none.2] at he
  exact ⟨A, c, he, hb.trans (h2.mono hb.size), h2⟩
theorem kr_ex (w W : World) (hT : Tz w) (hb : Below w.heap.size w W) : Calls Tryd.prog 16 #[.int .i64 3, .slice (some ⟨W.heap.size, 0, none⟩) 1 1, .int .i64 1] (W.alloc (.cells #[.int .i64 1, .int .i64 2] 40)) fun e w' => ∃ ad c, e = .returned (.tuple #[.slice (some ad) 3 c, .int .i64 0]) ∧ (ad.block < w'.heap.size ∧ w'.cell? (ad.add 0) = some (.bool false) ∧ w'.cell? (ad.add 1) = some (.bool true) ∧ w'.cell? (ad.add 2) = some (.bool true)) ∧ Below w.heap.size w w' ∧ Below W.heap.size W w' := by
  have hblk : Blk (W.alloc (.cells #[.int .i64 1, .int .i64 2] 40)) W.heap.size _ (cE [(1, 2)]) := Blk.new W (cE [(1, 2)]) 40
  have hb2 : Below w.heap.size w (W.alloc (.cells #[.int .i64 1, .int .i64 2] 40)) := bel_alloc hb _
  refine (reach_ok 3 1 (some ⟨W.heap.size, 0, none⟩) 1 [(1, 2)] (by decide) (by decide) (by decide) (by decide) _ (hT.keep hb2) (rdE_blk hblk) (by decide +kernel)).mono ?_
  rintro e w' ⟨A, c, he, h1, h2⟩
  rw [ex_rch] at h1
  obtain ⟨ad, rfl, h3, h4⟩ := h1 (by simp)
  exact ⟨ad, c, he, ⟨h3, h4 0 _ rfl, h4 1 _ rfl, h4 2 _ rfl⟩, hb2.trans (h2.mono hb2.size), (bel_box _).trans (h2.mono (by simp))⟩
theorem kp_ex (w W : World) (hT : Tz w) (hb : Below w.heap.size w W) : Calls Tryd.prog 18 #[.int .i64 4, .slice (some ⟨W.heap.size, 0, none⟩) 3 3] (W.alloc (.cells #[.int .i64 0, .int .i64 2, .int .i64 2, .int .i64 0, .int .i64 2, .int .i64 1] 40)) fun e w' => ∃ ad c g0 g1 g2 p0 p1 p2, e = .returned (.tuple #[.slice (some ad) 3 c, .int .i64 0]) ∧ (ad.block < w'.heap.size ∧ w'.cell? (ad.add 0) = some (.slice (some ⟨g0, 0, none⟩) 2 p0) ∧ w'.cell? (ad.add 1) = some (.slice (some ⟨g1, 0, none⟩) 1 p1) ∧ w'.cell? (ad.add 2) = some (.slice (some ⟨g2, 0, none⟩) 1 p2)) ∧ (Rd w' w'.heap.size (some ⟨g0, 0, none⟩) (vV [0, 2]) ∧ Rd w' w'.heap.size (some ⟨g1, 0, none⟩) (vV [1]) ∧ Rd w' w'.heap.size (some ⟨g2, 0, none⟩) (vV [3])) ∧ Below w.heap.size w w' ∧ Below W.heap.size W w' := by
  have hblk : Blk (W.alloc (.cells #[.int .i64 0, .int .i64 2, .int .i64 2, .int .i64 0, .int .i64 2, .int .i64 1] 40)) W.heap.size _ (cE [(0, 2), (2, 0), (2, 1)]) := Blk.new W (cE [(0, 2), (2, 0), (2, 1)]) 40
  have hb2 : Below w.heap.size w (W.alloc (.cells #[.int .i64 0, .int .i64 2, .int .i64 2, .int .i64 0, .int .i64 2, .int .i64 1] 40)) := bel_alloc hb _
  refine (parts_ok 4 (some ⟨W.heap.size, 0, none⟩) 3 [(0, 2), (2, 0), (2, 1)] (by decide) (by decide) (by decide) _ (hT.keep hb2) (rdE_blk hblk) (by decide +kernel)).mono ?_
  rintro e w' ⟨A, c, fs, he, h0, h1, h3, h2⟩
  rw [ex_parts] at h0
  obtain ⟨e0, e1, e2, rfl⟩ : ∃ e0 e1 e2, fs = [e0, e1, e2] := by
    rcases fs with _ | ⟨a, _ | ⟨b, _ | ⟨d, _ | ⟨f, r⟩⟩⟩⟩
    · simp at h0
    · simp at h0
    · simp at h0
    · exact ⟨_, _, _, rfl⟩
    · simp at h0
  simp only [List.map_cons, List.map_nil, List.cons.injEq, and_true] at h0
  obtain ⟨x0, x1, x2⟩ := h0
  obtain ⟨ad, rfl, h4, h5⟩ := h1 (by simp)
  have r0 := h3 e0 (by simp)
  have r1 := h3 e1 (by simp)
  have r2 := h3 e2 (by simp)
  have y0 := h5 0 _ rfl
  have y1 := h5 1 _ rfl
  have y2 := h5 2 _ rfl
  unfold encP at y0 y1 y2
  rw [x0] at r0 y0
  rw [x1] at r1 y1
  rw [x2] at r2 y2
  exact ⟨ad, c, e0.1, e1.1, e2.1, e0.2.2, e1.2.2, e2.2.2, he, ⟨h4, y0, y1, y2⟩, ⟨r0, r1, r2⟩, hb2.trans (h2.mono hb2.size), (bel_box _).trans (h2.mono (by simp))⟩
theorem same_new (A : Option Addr) (c : Nat) (l : List Nat) (W : World) (h : Rd W W.heap.size A (vV l)) (hl : l.length ≤ 1048576) : Calls Tryd.prog 12 #[.slice A l.length c, .slice (some ⟨W.heap.size, 0, none⟩) l.length l.length] (W.alloc (.cells (vV l).toArray 3)) fun e w' => e = .returned (.bool true) ∧ Below W.heap.size W w' := by
  have hblk := Blk.new W (vV l) 3
  have hbb : Below W.heap.size W (W.alloc (.cells (vV l).toArray 3)) := bel_box _
  refine (same_any A (some ⟨W.heap.size, 0, none⟩) c l.length l l _ (h.to hbb) (rd_nums fun j x hx => hblk.cell (by unfold vV; rw [List.getElem?_map, hx]; rfl)) hl hl).mono ?_
  rintro e w' ⟨he, q, rfl⟩
  rw [decide_eq_true rfl] at he
  exact ⟨he, below_drewN hbb q⟩
end gr
end Go.Proofs.YtahffafobdiogaaDoor
/- awake. -/
namespace Go.Proofs.YtahffafobdiogaaDoor
set_option linter.unusedVariables false
set_option linter.unusedSimpArgs false
open Go.RowKit
namespace gr
theorem addr0 (a : Addr) : a.add 0 = a := rfl
theorem addr1 (a : Addr) : a.add 1 = ⟨a.block, a.off + 1, none⟩ := by simp [Addr.add]
theorem addr2 (a : Addr) : a.add 2 = ⟨a.block, a.off + 2, none⟩ := by simp [Addr.add]
theorem cell_to {W W' : World} (hb : Below W.heap.size W W') {ad : Addr} {k : Nat} {v : Value} (h0 : ad.block < W.heap.size) (h : W.cell? (ad.add k) = some v) : W'.cell? (ad.add k) = some v := (hb.cell (by rw [add_block]; exact h0)).trans h
theorem keep3 {W W' : World} {ad : Addr} {v0 v1 v2 : Value} (h : ad.block < W.heap.size ∧ W.cell? (ad.add 0) = some v0 ∧ W.cell? (ad.add 1) = some v1 ∧ W.cell? (ad.add 2) = some v2) (hb : Below W.heap.size W W') : ad.block < W'.heap.size ∧ W'.cell? (ad.add 0) = some v0 ∧ W'.cell? (ad.add 1) = some v1 ∧ W'.cell? (ad.add 2) = some v2 := ⟨Nat.lt_of_lt_of_le h.1 hb.size, cell_to hb h.1 h.2.1, cell_to hb h.1 h.2.2.1, cell_to hb h.1 h.2.2.2⟩
theorem keep5 {W W' : World} {A B C : Option Addr} {a b c : List Value} (h : Rd W W.heap.size A a ∧ Rd W W.heap.size B b ∧ Rd W W.heap.size C c) (hb : Below W.heap.size W W') : Rd W' W'.heap.size A a ∧ Rd W' W'.heap.size B b ∧ Rd W' W'.heap.size C c := ⟨h.1.to hb, h.2.1.to hb, h.2.2.to hb⟩
set_option maxRecDepth 100000 in
set_option maxHeartbeats 8000000 in
theorem awake_any (w : World) (hT : Tz w) : Calls Tryd.prog 13 #[] w fun e w' => e = .returned (.bool true) ∧ Below w.heap.size w w' := by
  have HT := Lib.hid hT
  clear hT
  go_enter Tryd.func13, Tryd.ntmps13
  go_wp2_with (first
    | (go_at_call 10; refine (ko_ex w _ HT.out (Below.refl _ _)).mono ?_; rintro e w1 ⟨A1, c1, rfl, r1, b1, d1⟩; have R1 := Lib.hid r1; clear r1 d1)
    | (go_at_call 14; refine (kn_ex w _ HT.out b4).mono ?_; rintro e w5 ⟨A5, c5, rfl, b5, d5⟩; have R1 := Lib.hid (R1.out.to d5); have R2 := Lib.hid (R2.out.to d5); have R3 := Lib.hid (keep3 R3.out d5); have R4 := Lib.hid (keep3 R4.out d5); have R5 := Lib.hid (keep5 R5.out d5); clear d5 b4)
    | (go_at_call 14; refine (kc_ex w _ HT.out b1).mono ?_; rintro e w2 ⟨A2, c2, rfl, r2, b2, d2⟩; have R1 := Lib.hid (R1.out.to d2); have R2 := Lib.hid r2; clear r2 d2 b1)
    | (go_at_call 16; refine (kr_ex w _ HT.out b2).mono ?_; rintro e w3 ⟨ad3, c3, rfl, r3, b3, d3⟩; have R1 := Lib.hid (R1.out.to d3); have R2 := Lib.hid (R2.out.to d3); have R3 := Lib.hid r3; clear r3 d3 b2)
    | (go_at_call 18; refine (kp_ex w _ HT.out b3).mono ?_; rintro e w4 ⟨ad4, c4, g0, g1, g2, p0, p1, p2, rfl, r4, r5, b4, d4⟩; have R1 := Lib.hid (R1.out.to d4); have R2 := Lib.hid (R2.out.to d4); have R3 := Lib.hid (keep3 R3.out d4); have R4 := Lib.hid r4; have R5 := Lib.hid r5; clear r4 r5 d4 b3)
    | (have bb := b5; clear bb; go_at_call 12; refine (same_new A1 _ [1, 2, 0, 3] _ R1.out (by decide)).mono ?_; rintro e w6 ⟨rfl, d6⟩; have b6 := b5.trans (d6.mono b5.size); have R2 := Lib.hid (R2.out.to d6); have R3 := Lib.hid (keep3 R3.out d6); have R4 := Lib.hid (keep3 R4.out d6); have R5 := Lib.hid (keep5 R5.out d6); clear d6 b5)
    | (have bb := b6; clear bb; go_at_call 12; refine (same_new A2 _ [3, 4] _ R2.out (by decide)).mono ?_; rintro e w7 ⟨rfl, d7⟩; have b7 := b6.trans (d7.mono b6.size); obtain ⟨_, x0, x1, x2⟩ := keep3 R3.out d7; rw [addr0] at x0; rw [addr1] at x1; rw [addr2] at x2; have R4 := Lib.hid (keep3 R4.out d7); obtain ⟨_, y0, _, _⟩ := R4.out; rw [addr0] at y0; have R5 := Lib.hid (keep5 R5.out d7); clear d7 b6)
    | (have bb := b7; clear bb; go_at_call 12; refine (same_new _ _ [0, 2] _ R5.out.1 (by decide)).mono ?_; rintro e w8 ⟨rfl, d8⟩; have b8 := b7.trans (d8.mono b7.size); have R4 := Lib.hid (keep3 R4.out d8); obtain ⟨_, _, y1, _⟩ := R4.out; rw [addr1] at y1; have R5 := Lib.hid (keep5 R5.out d8); clear d8 b7 x0 x1 x2 y0)
    | (have bb := b8; clear bb; go_at_call 12; refine (same_new _ _ [1] _ R5.out.2.1 (by decide)).mono ?_; rintro e w9 ⟨rfl, d9⟩; have b9 := b8.trans (d9.mono b8.size); have R4 := Lib.hid (keep3 R4.out d9); obtain ⟨_, _, _, y2⟩ := R4.out; rw [addr2] at y2; have R5 := Lib.hid (keep5 R5.out d9); clear d9 b8 y1)
    | (have bb := b9; clear bb; go_at_call 12; refine (same_new _ _ [3] _ R5.out.2.2 (by decide)).mono ?_; rintro e w10 ⟨rfl, d10⟩; have b10 := b9.trans (d10.mono b9.size); clear d10 b9 y2))
  go_ret
  exact ⟨rfl, b10⟩
end gr
end Go.Proofs.YtahffafobdiogaaDoor
/- The order and the repetition of edges have no effect. -/
namespace Go.Proofs.YtahffafobdiogaaDoor
set_option linter.unusedVariables false
set_option linter.unusedSimpArgs false
open Go.RowKit
namespace gr
theorem cyc_len (E : Nat → Nat → Bool) (n : Nat) : (cycK E n n).length ≤ n := by
  by_cases h : cycK E n n = []
  · rw [h]; simp
  · obtain ⟨v, d, h1, ⟨⟨w, h2, h3, h4⟩, _⟩, _, h5⟩ := cycK_len n (Nat.le_refl _) h
    have := (dstS_iff.1 h4).lt h1
    omega
end gr
end Go.Proofs.YtahffafobdiogaaDoor
/- The law GraphTurned. -/
namespace Go.Proofs.YtahffafobdiogaaDoor
set_option linter.unusedVariables false
set_option linter.unusedSimpArgs false
open Go.RowKit
namespace gr
theorem infoE : ∃ i, Tryd.prog.info? 40 = some i ∧ i.zero = some (.agg #[.int .i64 0, .int .i64 0]) ∧ i.size = 2 ∧ i.bytes = 16 := info_parts (by kernel_rfl)
/-- the cells of edges, of whatever numbers -/
def fE (es : List (Int × Int)) : List Value := es.flatMap fun e => [.int .i64 e.1, .int .i64 e.2]
theorem fE_get : ∀ (es : List (Int × Int)) (k : Nat), (fE es)[k * 2]? = (es[k]?).map (fun e => Value.int .i64 e.1) ∧ (fE es)[k * 2 + 1]? = (es[k]?).map (fun e => Value.int .i64 e.2)
  | [], k => by simp [fE]
  | e :: r, 0 => by simp [fE]
  | e :: r, k + 1 => by
    have h := fE_get r k
    have e1 : fE (e :: r) = .int .i64 e.1 :: .int .i64 e.2 :: fE r := rfl
    rw [e1, show (k + 1) * 2 = k * 2 + 1 + 1 by omega]
    simp only [List.getElem?_cons_succ]
    exact h
theorem fE_app (a b : List (Int × Int)) : fE (a ++ b) = fE a ++ fE b := by unfold fE; rw [List.flatMap_append]
theorem own_rdE {W : World} {base n c : Nat} {A : Option Addr} {es : List (Int × Int)} (h : W.ownsRow base 40 2 (.slice A n c) n (fE es)) (hl : es.length = n) : RdE W W.heap.size A es := fun hn => by
  have hn' : 0 < n := by have := List.length_pos_iff.2 hn; omega
  obtain ⟨g, cap, hv, _, hlt⟩ := h.form hn'
  have hA : A = some ⟨g, 0, none⟩ := by injection hv
  subst hA
  refine ⟨_, rfl, hlt, fun k e he => ?_⟩
  obtain ⟨f1, f2⟩ := fE_get es k
  rw [he] at f1 f2
  rw [off_add]
  refine ⟨?_, ?_⟩
  · rw [← off_add]; exact h.cells (g := g) rfl _ _ f1
  · have := h.cells (g := g) rfl _ _ f2
    rw [off_add] at this
    exact this
end gr
end Go.Proofs.YtahffafobdiogaaDoor
/- The law GraphTurned. -/
namespace Go.Proofs.YtahffafobdiogaaDoor
set_option linter.unusedVariables false
set_option linter.unusedSimpArgs false
open Go.RowKit
namespace gr
theorem kaw {w : World} (hT : Tz w) (W : World) (hb : Below w.heap.size w W) : Calls Tryd.prog 13 #[] W fun e w' => e = .returned (.bool true) ∧ Below w.heap.size w w' := (awake_any W (hT.keep hb)).mono fun e w' ⟨h1, h2⟩ => ⟨h1, hb.trans (h2.mono hb.size)⟩
theorem own_keepE {w W : World} {base n size : Nat} {e : TypeId} {v : Value} {xs : List Value} (h : w.ownsRow base e size v n xs) (hb : Below w.heap.size w W) : W.ownsRow base e size v n xs := by
  refine ⟨h.1, h.2.imp id fun ⟨g, cap, cur, e1, h1, h2, r⟩ => ⟨g, cap, cur, e1, h1, ?_, r⟩⟩
  rw [hb.block g (Array.getElem?_eq_some_iff.1 h2).1]
  exact h2
theorem own_formE {w : World} {base n size : Nat} {e : TypeId} {v : Value} {xs : List Value} (h : w.ownsRow base e size v n xs) : ∃ A c, v = .slice A n c := by
  rcases h.2 with ⟨rfl, rfl⟩ | ⟨g, cap, cur, rfl, _⟩
  · exact ⟨_, _, rfl⟩
  · exact ⟨_, _, rfl⟩
theorem own_belowE {w wr w1 : World} {base n size : Nat} {e : TypeId} {v : Value} {xs : List Value} {o : Obj} (hb : Below base w wr) (hbase : base ≤ wr.heap.size) (hown : wr.ownsRow base e size v n xs) (hg : (wr.alloc o).grownBy w1 v.ownBlock) : Below base w w1 :=
  (hb.alloc hbase o).grown hg (by simp; omega) (fun k hk => (hown.lt k hk).1)
theorem same_self (A B : Option Addr) (c d : Nat) (l : List Nat) (W : World) (h : Rd W W.heap.size A (vV l)) (h2 : Rd W W.heap.size B (vV l)) (hl : l.length ≤ 4096) : Calls Tryd.prog 12 #[.slice A l.length c, .slice B l.length d] W fun e w' => e = .returned (.bool true) ∧ Below W.heap.size W w' := by
  refine (same_any A B c d l l W h h2 (by omega) (by omega)).mono ?_
  rintro e w' ⟨he, q, rfl⟩
  rw [decide_eq_true rfl] at he
  exact ⟨he, below_drewN (Below.refl _ _) q⟩
theorem row2 (w : World) (x y : Value) (t : TypeId) : ∀ j u, [x, y][j]? = some u → (w.alloc (.cells #[x, y] t)).cell? ((⟨w.heap.size, 0, none⟩ : Addr).add j) = some u := by
  intro j u hu
  rw [off_add]
  exact (Blk.new w [x, y] t).cell hu
theorem one2 (a b : Int) : ∀ u ∈ [Value.int .i64 a, Value.int .i64 b], u.oneCell' = true := by
  intro u hu
  simp at hu
  rcases hu with rfl | rfl <;> rfl
end gr
end Go.Proofs.YtahffafobdiogaaDoor
/- An order and the places of the vertices in it; few. -/
namespace Go.Proofs.YtahffafobdiogaaDoor
set_option linter.unusedVariables false
set_option linter.unusedSimpArgs false
open Go.RowKit
namespace gr
theorem rdE_take {W : World} {B : Nat} {A : Option Addr} {es : List (Int × Int)} (h : RdE W B A es) (k : Nat) : RdE W B A (es.take k) := fun hn => by
  obtain ⟨ad, h1, h2, h3⟩ := h (fun e => hn (by rw [e]; simp))
  refine ⟨ad, h1, h2, fun j e he => h3 j e ?_⟩
  rw [List.getElem?_take] at he
  split at he
  · exact he
  · cases he
set_option maxHeartbeats 1000000 in
theorem few_any (A : Option Addr) (c : Nat) (es : List (Int × Int)) (w : World) (hA : A = none → es = []) (hc : es.length ≤ c) (hl : es.length ≤ 9223372036854775807) :
    Calls Tryd.prog 9 #[.slice A es.length c] w fun e w' => e = .returned (.slice A (es.take 400).length c) ∧ w' = w := by
  rw [List.length_take]
  by_cases h : 400 < es.length
  · rw [Nat.min_eq_left (by omega)]
    have h2 : (400 : Int) < (es.length : Int) := by omega
    have h3 : 400 ≤ c := by omega
    cases A with
    | none => rw [hA rfl] at h; simp at h
    | some ad =>
      clear hA
      generalize es.length = L at *
      go_enter Tryd.func9, Tryd.ntmps9
      go_wp2
      go_ret
      exact ⟨rfl, rfl⟩
  · rw [Nat.min_eq_right (by omega)]
    have h2 : ¬ (400 : Int) < (es.length : Int) := by omega
    clear hA
    generalize es.length = L at *
    go_enter Tryd.func9, Tryd.ntmps9
    go_wp2
    go_ret
    exact ⟨rfl, rfl⟩
end gr
end Go.Proofs.YtahffafobdiogaaDoor
/- Cycle of the reference. -/
namespace Go.Proofs.YtahffafobdiogaaDoor
set_option linter.unusedVariables false
set_option linter.unusedSimpArgs false
open Go.RowKit
namespace gr
/-- the edges turned about -/
def swE (es : List (Int × Int)) : List (Int × Int) := es.map fun e => (e.2, e.1)
theorem swE_eN (ns : List (Nat × Nat)) : swE (eN ns) = eN (ns.map fun e => (e.2, e.1)) := by simp [swE, eN, List.map_map]
theorem swE_take {es : List (Int × Int)} {k : Nat} {f t : Int} (h : es[k]? = some (f, t)) : swE (es.take (k + 1)) = swE (es.take k) ++ [(t, f)] := by
  rw [take_succ_of h]
  simp [swE]
set_option maxRecDepth 100000 in
set_option maxHeartbeats 8000000 in
theorem rcycle_ok (n : Nat) (A : Option Addr) (c : Nat) (ns : List (Nat × Nat)) (hn : n ≤ 4096) (hr : ∀ e ∈ ns, e.1 < n ∧ e.2 < n) (hl : ns.length ≤ 1048576) (w : World) (hE : RdE w w.heap.size A (eN ns)) (hv : valB n (eN ns) = true) :
    Calls Tryd.prog 15 #[.int .i64 n, .slice A ns.length c] w (NewI (cycK (eK ns) n n) (cycX (eK ns) n) w) := by
  have KV := Lib.hid (rright_any n A c (eN ns) (by rw [eN_len]; exact hl) w hE)
  rw [hv, eN_len] at KV
  have KN := Lib.hid (fun q => rnext_any n hn A c ns hr hl (w.drewN q) hE)
  have HE := Lib.hid hE
  have HR := Lib.hid hr
  have hl2 : (ns.map fun e : Nat × Nat => (e.2, e.1)).length ≤ 1048576 := by rw [List.length_map]; exact hl
  have KN2 := Lib.hid (fun A2 c2 W (h : RdE W W.heap.size A2 (eN (ns.map fun e : Nat × Nat => (e.2, e.1)))) => rnext_any n hn A2 c2 (ns.map fun e : Nat × Nat => (e.2, e.1)) (turn_lt hr) hl2 W h)
  have KA := Lib.hid (fun v O P W (hv : v < n) (h1 : NxR W O n (adj ns)) (h2 : NxR W P n (adj (ns.map fun e => (e.2, e.1)))) => raround_any n v O P ns hn hv hr hl W h1 h2)
  obtain ⟨R, hR⟩ : ∃ R, NewI (cycK (eK ns) n n) (cycX (eK ns) n) w = R := ⟨_, rfl⟩
  rw [hR]
  have HRR := Lib.hid hR
  rw [show (ns.map fun e : Nat × Nat => (e.2, e.1)).length = ns.length by simp] at KN2
  obtain ⟨L, hL⟩ : ∃ L, ns.length = L := ⟨_, rfl⟩
  rw [hL] at hl KV KN KN2 ⊢
  have HLL := Lib.hid hL
  obtain ⟨i0, hi, iz, is, ib⟩ := infoE
  clear hE hr hv hR hL hl2
  go_enter Tryd.func15, Tryd.ntmps15
  go_wp2_with (first
    | (go_at_call 32; refine KV.out.mono ?_; clear KV; rintro e w1 ⟨rfl, q, rfl⟩)
    | (go_at_call 33; refine (KN.out q).mono ?_; clear KN; rintro e w2 ⟨rfl, hN2, hb2'⟩; have hb2 : Below w.heap.size w w2 := ⟨hb2'.os, hb2'.tape, hb2'.output, hb2'.size, hb2'.block⟩; clear hb2'))
  have hz2 := hb2.size
  have HN2 : Hid (NxR w2 w.heap.size n (adj ns)) := Lib.hid hN2
  have HE2 := Lib.hid (HE.out.below hb2)
  clear hN2 HE
  go_loopw [7, 8] (fun V i wr => ∃ (k : Nat) (A' : Option Addr) (c' : Nat), k ≤ L ∧ i = .int .i64 (k : Int) ∧ V = .slice A' k c' ∧ Hid (wr.ownsRow w2.heap.size 40 2 (.slice A' k c') k (fE (swE ((eN ns).take k)))) ∧ Hid (Below w2.heap.size w2 wr)) (fun _ i _ => L - (intOf i).toNat)
  case atStart => exact ⟨0, none, 0, by omega, rfl, rfl, Lib.hid (World.ownsRow_nil _ _ _ _), Lib.hid (Below.refl _ _)⟩
  case round =>
    obtain ⟨k, A1, c1, hk, rfl, rfl, hO, hbl⟩ := hrel
    by_cases hlt : k < L
    · obtain ⟨ad, f, t, rfl, hadb, he, c0, c1'⟩ := (HE2.out.below (hbl.out.mono hz2)).at_ (k := k) (by rw [eN_len, HLL.out]; exact hlt)
      have HS := Lib.hid (swE_take he)
      have hsz := hbl.out.size
      have e1 : (k : Int) < (L : Int) := by omega
      clear he
      generalize swE ((eN ns).take k) = xs at *
      have hadA : (ad.add (k * 2)).block < w2.heap.size := by rw [add_block]; omega
      go_wp2
      go_region_held3 (fun w' => w'.cell? (ad.add (k * 2)) = some (.int .i64 f) ∧ w'.cell? ⟨(ad.add (k * 2)).block, (ad.add (k * 2)).off + 1, none⟩ = some (.int .i64 t)) (first | exact ⟨c0, c1'⟩ | exact ⟨cell_al _ c0, cell_al _ c1'⟩ | exact s3)
        (first | ((refine step_append_rg _ rfl _ _ 22 rfl w2.heap.size 40 i0 (.agg #[.int .i64 0, .int .i64 0]) 2 16 Tryd.underlying22 hi iz is ib rfl (by decide) _ k (fE xs) rfl (own_keepE hO.out ?_) ⟨wr.heap.size, 0, none⟩ 1 1 [.int .i64 t, .int .i64 f] rfl rfl (row2 _ _ _ _) (one2 _ _) (by unfold maxLen; omega) (by omega) ?_ ?_); (focus ((repeat (first | (with_reducible exact Below.refl _ _) | (with_reducible assumption) | (with_reducible exact bel_box _) | (with_reducible refine bel_step ?_ (by with_reducible assumption)) | (with_reducible refine Below.drew ?_) | (with_reducible refine below_drewN ?_ _) | (with_reducible refine bel_alloc ?_ _))); done)); (focus (simp; omega)); intro V3 w3 hown3 hgrow3 hd3; obtain ⟨A3, c3, rfl⟩ := own_formE hown3; have hgr4 := grown_drew hgrow3; have hb3 : Below w2.heap.size wr w3 := own_belowE (Below.refl _ _) hsz hO.out hgr4; have s3 := And.intro ((hb3.cell (p := ad.add (k * 2)) hadA).trans c0) ((hb3.cell (p := ⟨(ad.add (k * 2)).block, (ad.add (k * 2)).off + 1, none⟩) hadA).trans c1'); have HW3 := Lib.hid hown3; clear hgrow3 hgr4 hown3 hd3))
      go_wp2
      refine ⟨⟨k + 1, A3, c3, by omega, by congr 1, rfl, Lib.hid ?_, Lib.hid (hbl.out.trans hb3)⟩, by simp [intOf]; omega⟩
      rw [HS.out, fE_app]
      exact HW3.out
    · have hkn : k = L := by omega
      have HRE : Hid (RdE wr wr.heap.size A1 (eN (ns.map fun e : Nat × Nat => (e.2, e.1)))) := Lib.hid (by
        have h1 := hO.out
        rw [List.take_of_length_le (by rw [eN_len, HLL.out]; omega), swE_eN] at h1
        exact own_rdE h1 (by rw [eN_len, List.length_map, HLL.out]; exact hkn.symm))
      clear hO
      subst hkn
      have hsz := hbl.out.size
      go_wp2_with (go_at_call 33; refine (KN2.out _ _ wr HRE.out).mono ?_; clear KN2; rintro e w4 ⟨rfl, hN4, hb4⟩; have HN4 := Lib.hid hN4; have HN3 := Lib.hid ((HN2.out.keep hbl.out).keep hb4); have hbw4 := (hb2.trans (hbl.out.mono hz2)).trans (hb4.mono (by omega)); have HW4 := Lib.hid hbw4; clear hN4 hbw4)
      have hz4 := HW4.out.size
      obtain ⟨wp, hwp⟩ : ∃ wp, wp = wr := ⟨_, rfl⟩
      subst hwp
      go_loopw [10, 11] (fun B v wr => ∃ (k : Nat) (best : List Nat) (A' : Option Addr) (c' : Nat), k ≤ n ∧ v = .int .i64 (k : Int) ∧ B = .slice A' best.length c' ∧ Hid (Rd wr wr.heap.size A' (vV best)) ∧ Hid (best = cycK (eK ns) n k) ∧ Hid (Below w4.heap.size w4 wr)) (fun _ v _ => n - (intOf v).toNat)
      case atStart => exact ⟨0, [], none, 0, by omega, rfl, rfl, Lib.hid (Rd.nil _ _ _), Lib.hid rfl, Lib.hid (Below.refl _ _)⟩
      case round =>
        obtain ⟨v, best, A2, c2, hvn, rfl, rfl, hR2, hK2, hb6⟩ := hrel
        by_cases hlt2 : v < n
        · have KV2 := Lib.hid (KA.out v w.heap.size wp.heap.size wr hlt2 (HN3.out.keep hb6.out) (HN4.out.keep hb6.out))
          have HC := Lib.hid (cycK_succ (eK ns) n v)
          unfold cstep at HC
          rw [← hK2.out] at HC
          have e1 : (v : Int) < (n : Int) := by omega
          generalize thrS (eK ns) n (dstS (eK ns) n v) v = T at *
          obtain ⟨tl, htl⟩ : ∃ tl, T.length = tl := ⟨_, rfl⟩
          obtain ⟨bl, hbl2⟩ : ∃ bl, best.length = bl := ⟨_, rfl⟩
          have HTL := Lib.hid htl
          have HBL := Lib.hid hbl2
          rw [htl] at KV2
          rw [hbl2]
          by_cases hT0 : tl = 0
          · have HF : Hid (best = cycK (eK ns) n (v + 1)) := Lib.hid (by
              rw [HC.out, if_neg]
              rintro ⟨h1, _⟩
              exact h1 (List.eq_nil_of_length_eq_zero (by rw [HTL.out]; exact hT0)))
            clear HC htl hbl2
            have hT1 : ¬ (0 : Int) < (tl : Int) := by omega
            go_wp2_with (go_at_call 37; refine KV2.out.mono ?_; clear KV2; rintro e w6 ⟨⟨A6, c6, rfl, hR6⟩, hb7⟩; have HR7 := Lib.hid (hR2.out.to hb7); clear hR6)
            exact ⟨⟨v + 1, best, A2, c2, by omega, by congr 1, by rw [HBL.out], HR7, HF, Lib.hid (hb6.out.trans (hb7.mono hb6.out.size))⟩, by simp [intOf]; omega⟩
          · have hT1 : (0 : Int) < (tl : Int) := by omega
            by_cases hb0 : bl = 0
            · have HF : Hid (T = cycK (eK ns) n (v + 1)) := Lib.hid (by
                rw [HC.out, if_pos]
                exact ⟨fun h => by rw [h] at htl; exact hT0 htl.symm, .inl (List.eq_nil_of_length_eq_zero (by rw [hbl2]; exact hb0))⟩)
              clear HC htl hbl2
              have hb1 : ((bl : Int) == 0) = true := by simp [hb0]
              clear hb0
              go_wp2_with (go_at_call 37; refine KV2.out.mono ?_; clear KV2; rintro e w6 ⟨⟨A6, c6, rfl, hR6⟩, hb7⟩; have HR7 := Lib.hid hR6; clear hR6)
              exact ⟨⟨v + 1, T, A6, c6, by omega, by congr 1, by rw [HTL.out], HR7, HF, Lib.hid (hb6.out.trans (hb7.mono hb6.out.size))⟩, by simp [intOf]; omega⟩
            · have hb1 : ((bl : Int) == 0) = false := by simp; omega
              by_cases hlb : tl < bl
              · have HF : Hid (T = cycK (eK ns) n (v + 1)) := Lib.hid (by
                  rw [HC.out, if_pos]
                  exact ⟨fun h => by rw [h] at htl; exact hT0 htl.symm, .inr (by rw [htl, hbl2]; exact hlb)⟩)
                clear HC htl hbl2
                have hb2' : (tl : Int) < (bl : Int) := by omega
                go_wp2_with (go_at_call 37; refine KV2.out.mono ?_; clear KV2; rintro e w6 ⟨⟨A6, c6, rfl, hR6⟩, hb7⟩; have HR7 := Lib.hid hR6; clear hR6)
                exact ⟨⟨v + 1, T, A6, c6, by omega, by congr 1, by rw [HTL.out], HR7, HF, Lib.hid (hb6.out.trans (hb7.mono hb6.out.size))⟩, by simp [intOf]; omega⟩
              · have HF : Hid (best = cycK (eK ns) n (v + 1)) := Lib.hid (by
                  rw [HC.out, if_neg]
                  rintro ⟨_, h2 | h2⟩
                  · rw [h2] at hbl2; exact hb0 hbl2.symm
                  · rw [htl, hbl2] at h2; exact hlb h2)
                clear HC htl hbl2
                have hb2' : ¬ (tl : Int) < (bl : Int) := by omega
                go_wp2_with (go_at_call 37; refine KV2.out.mono ?_; clear KV2; rintro e w6 ⟨⟨A6, c6, rfl, hR6⟩, hb7⟩; have HR7 := Lib.hid (hR2.out.to hb7); clear hR6)
                exact ⟨⟨v + 1, best, A2, c2, by omega, by congr 1, by rw [HBL.out], HR7, HF, Lib.hid (hb6.out.trans (hb7.mono hb6.out.size))⟩, by simp [intOf]; omega⟩
        · have hvn2 : v = n := by omega
          have HKn : Hid (best = cycK (eK ns) n n) := Lib.hid (by have h := hK2.out; rw [hvn2] at h; exact h)
          have HWn := Lib.hid (HW4.out.trans (hb6.out.mono hz4))
          clear hvn2
          cases best with
          | nil =>
            have h6 : R (.returned (.tuple #[.slice none 0 0, .int .i64 8])) wr := by
              rw [← HRR.out, ← HKn.out]
              unfold cycX
              rw [← HKn.out]
              exact ⟨none, 0, rfl, Rd.nil _ _ _, HWn.out⟩
            clear hR2 hK2 HKn
            go_wp2
            exact h6
          | cons a r =>
            have h6 : R (.returned (.tuple #[.slice A2 (a :: r).length c2, .int .i64 0])) wr := by
              rw [← HRR.out, ← HKn.out]
              unfold cycX
              rw [← HKn.out]
              exact ⟨A2, c2, rfl, hR2.out, HWn.out⟩
            have hbl2 : (((a :: r).length : Int) == 0) = false := by simp; omega
            clear hR2 hK2 HKn
            generalize (a :: r).length = bl at *
            go_wp2
            exact h6
set_option maxHeartbeats 1000000 in
theorem rcycle_bad (n : Int) (A : Option Addr) (c : Nat) (es : List (Int × Int)) (hl : es.length ≤ 1048576) (w : World) (hE : RdE w w.heap.size A es) (hv : valB n es = false) : Calls Tryd.prog 15 #[.int .i64 n, .slice A es.length c] w (NewI [] 2 w) := by
  have KV := Lib.hid (rright_any n A c es hl w hE)
  rw [hv] at KV
  clear hE hv
  go_enter Tryd.func15, Tryd.ntmps15
  go_wp2_with (go_at_call 32; refine KV.out.mono ?_; clear KV; rintro e w1 ⟨rfl, q, rfl⟩)
  refine bodyPost_ret (results_tmp2 rfl _ _ _) rfl ?_
  exact ⟨none, 0, rfl, Rd.nil _ _ _, below_drewN (Below.refl _ _) _⟩
end gr
end Go.Proofs.YtahffafobdiogaaDoor
/- The law GraphCycles. -/
namespace Go.Proofs.YtahffafobdiogaaDoor
set_option linter.unusedVariables false
set_option linter.unusedSimpArgs false
open Go.RowKit
namespace gr
theorem cyc_both (n : Int) (es : List (Int × Int)) (hl : es.length ≤ 1048576) : ∃ (l : List Nat) (x : Int), l.length ≤ 4096 ∧ ∀ (W : World) (A : Option Addr) (c : Nat), Tz W → RdE W W.heap.size A es →
    Calls Tryd.prog 14 #[.int .i64 n, .slice A es.length c] W (NewI l x W) ∧ Calls Tryd.prog 15 #[.int .i64 n, .slice A es.length c] W (NewI l x W) := by
  cases hv : valB n es with
  | false => exact ⟨[], 2, by simp, fun W A c hT hE => ⟨cycle_bad n A c es hl W hE hv, rcycle_bad n A c es hl W hE hv⟩⟩
  | true =>
    obtain ⟨m, ns, rfl, hm, rfl, hr⟩ := valB_nat hv
    rw [eN_len] at hl ⊢
    exact ⟨cycK (eK ns) m m, cycX (eK ns) m, Nat.le_trans (cyc_len _ _) hm, fun W A c hT hE => ⟨cycle_ok m A c ns hm hr hl W hT hE hv, rcycle_ok m A c ns hm hr hl W hE hv⟩⟩
set_option maxRecDepth 100000 in
set_option maxHeartbeats 8000000 in
theorem cycles_any (n : Int) (A : Option Addr) (c : Nat) (es : List (Int × Int)) (w : World) (hT : Tz w) (hA : RdE w w.heap.size A es) (hcl : es.length ≤ c) (hl : es.length ≤ 9223372036854775807) :
    Calls Tryd.prog 4 #[.int .i64 n, .slice A es.length c] w fun e w' => e = .returned (.bool true) ∧ Below w.heap.size w w' := by
  have KAW := Lib.hid (kaw hT)
  have KF := Lib.hid (few_any A c es w (fun h => Classical.byContradiction fun hne => by obtain ⟨_, h1, _⟩ := hA hne; rw [h] at h1; cases h1) hcl hl)
  have hA2 := rdE_take hA 400
  have hm : (es.take 400).length ≤ 400 := by rw [List.length_take]; omega
  clear hA hcl
  generalize es.take 400 = E at *
  generalize es.length = L at *
  by_cases hbig : 300 < n ∧ n ≤ 4096
  · obtain ⟨g1, g2⟩ := hbig
    clear hT hA2
    generalize E.length = m at *
    go_enter Tryd.func4, Tryd.ntmps4
    go_wp2_with (first
      | (go_at_call 9; refine KF.out.mono ?_; clear KF; rintro e w0 ⟨rfl, rfl⟩)
      | (go_at_call 13; refine (KAW.out _ (Below.refl _ _)).mono ?_; rintro e w1 ⟨rfl, hb1⟩))
    go_ret
    exact ⟨rfl, hb1⟩
  obtain ⟨l, x, hl4, HB⟩ := cyc_both n E (by omega)
  have KO := Lib.hid (show ∀ W, Below w.heap.size w W → _ from fun W hb => (HB W A c (hT.keep hb) ((hA2.below hb).more' hb.size)).1)
  have KR := Lib.hid (show ∀ W, Below w.heap.size w W → _ from fun W hb => (HB W A c (hT.keep hb) ((hA2.below hb).more' hb.size)).2)
  clear hT hA2 HB
  generalize E.length = m at *
  by_cases g1 : 300 < n
  · have g2 : ¬ n ≤ 4096 := fun h => hbig ⟨g1, h⟩
    clear hbig
    go_enter Tryd.func4, Tryd.ntmps4
    go_wp2_with (first
      | (go_at_call 9; refine KF.out.mono ?_; clear KF; rintro e w0 ⟨rfl, rfl⟩)
      | (go_at_call 14; refine (KO.out _ (Below.refl _ _)).mono ?_; rintro e w1 ⟨A1, c1, rfl, r1, b1⟩; have R1 := Lib.hid r1; clear r1)
      | (go_at_call 15; refine (KR.out _ b1).mono ?_; rintro e w2 ⟨A2, c2, rfl, r2, d2⟩; have b2 := b1.trans (d2.mono b1.size); have R1 := Lib.hid (R1.out.to d2); have R2 := Lib.hid r2; clear r2 d2 b1)
      | (go_at_call 12; refine (same_self _ _ _ _ l _ R1.out R2.out hl4).mono ?_; rintro e w3 ⟨rfl, d3⟩; have b3 := b2.trans (d3.mono b2.size); clear d3 b2)
      | (go_at_call 13; refine (KAW.out _ b3).mono ?_; rintro e w4 ⟨rfl, b4⟩; clear b3))
    go_ret
    exact ⟨rfl, b4⟩
  · clear hbig
    go_enter Tryd.func4, Tryd.ntmps4
    go_wp2_with (first
      | (go_at_call 9; refine KF.out.mono ?_; clear KF; rintro e w0 ⟨rfl, rfl⟩)
      | (go_at_call 14; refine (KO.out _ (Below.refl _ _)).mono ?_; rintro e w1 ⟨A1, c1, rfl, r1, b1⟩; have R1 := Lib.hid r1; clear r1)
      | (go_at_call 15; refine (KR.out _ b1).mono ?_; rintro e w2 ⟨A2, c2, rfl, r2, d2⟩; have b2 := b1.trans (d2.mono b1.size); have R1 := Lib.hid (R1.out.to d2); have R2 := Lib.hid r2; clear r2 d2 b1)
      | (go_at_call 12; refine (same_self _ _ _ _ l _ R1.out R2.out hl4).mono ?_; rintro e w3 ⟨rfl, d3⟩; have b3 := b2.trans (d3.mono b2.size); clear d3 b2)
      | (go_at_call 13; refine (KAW.out _ b3).mono ?_; rintro e w4 ⟨rfl, b4⟩; clear b3))
    go_ret
    exact ⟨rfl, b4⟩
end gr
end Go.Proofs.YtahffafobdiogaaDoor
/- The frame of a law's row: a call that returns true and leaves the old blocks alone meets the row; arguments that are slices of bools are opened. -/
namespace Go.Proofs.YtahffafobdiogaaDoor
set_option linter.unusedVariables false
set_option linter.unusedSimpArgs false
open Go.ChangeShapes Go.WideShapes Go.ChangeAt Go.RowKit Go.Deep
section
variable {H : Type} {enc : TypeId × Value → H} {P : Program}
theorem trodAll_below (hl : laidOutB P = true) {W W' : World} (hb : Below W.heap.size W W') : ∀ {ts : List TypeId} {vs : List Value} {ds : List (DataW H)} {ps : List MemPlace},
    (∀ t ∈ ts, P.readableRec t = true ∧ t < P.types.size) → DataW.TrodAll enc P W 0 (fun _ => true) true ts vs ds ps → (∀ x ∈ ps, x.block < W.heap.size) →
    DataW.TrodAll enc P W' 0 (fun b => decide (b < W.heap.size)) true ts vs ds ps := by
  intro ts
  induction ts with
  | nil => intro vs ds ps _ h _; cases vs <;> cases ds <;> simp_all [DataW.TrodAll]
  | cons t ts ih =>
    intro vs ds ps ht h hlt
    match vs, ds, h with
    | v :: vs, d :: ds, ⟨p, q, h1, h2, e⟩ =>
      subst e
      obtain ⟨hr, hs⟩ := ht t (by simp)
      exact ⟨p, q, Below.trod hl hr hs h1 hb (fun x hx => hlt x (by simp [hx])), ih (fun u hu => ht u (by simp [hu])) h2 (fun x hx => hlt x (by simp [hx])), rfl⟩
theorem law_post {f : Func} {s : ChangeSpec} {W W' : World} {args : Array Value} {ds gs : List (DataW H)} {before : List MemPlace} {tb : TypeId}
    (hW : DataW.Whole enc P f.params.toList s.vars false W args.toList ds gs before) (hv : s.vars = [])
    (hs : (s.fn H (ds ++ gs)).results = [.lit (.bool true)] ∧ (s.fn H (ds ++ gs)).args = ds ∧ (s.fn H (ds ++ gs)).vars = [])
    (hf : f.resultTypes = #[tb]) (htb : P.underlying tb = some .bool) (hl : laidOutB P = true) (hts : ∀ t ∈ f.params.toList, P.readableRec t = true ∧ t < P.types.size)
    (hb : Below W.heap.size W W') : s.post enc P f false true false false W args (.bool true) W' := by
  have hW' := hW
  obtain ⟨p, q, hA, hV, rfl, _, _⟩ := hW
  rw [hv] at hV
  obtain ⟨rfl, rfl⟩ := trodVars_none hV
  refine ⟨ds, [], p ++ [], [], p, [], hW', ?_, ?_, ?_, hb.frame _, fun h => by cases h⟩
  · rw [hs.1, hf]
    exact trodAll_mk1 (shut_bool htb true)
  · rw [hs.2.1]
    exact trodAll_below hl hb hts hA (fun x hx => hW'.lt x (by simp [hx]))
  · rw [hv, hs.2.2]
    rfl
end
end Go.Proofs.YtahffafobdiogaaDoor
/- The frame of the rows of layer 4: what the listed variable gives; an argument of edges. -/
namespace Go.Proofs.YtahffafobdiogaaDoor
set_option linter.unusedVariables false
set_option linter.unusedSimpArgs false
open Go.ChangeShapes Go.WideShapes Go.ChangeAt Go.RowKit Go.Deep Go.WideElems
def laidL : List (String × DataW Unit) := [("math/bits.deBruijn64tab", Rows.laid_math_bits_deBruijn64tab)]
theorem gTab : Tryd.prog.globalNamed "math/bits.deBruijn64tab" = some 0 := by kernel_rfl
theorem tyTab : (Tryd.prog.globals[0]?).map (·.type) = some 80 := by kernel_rfl
theorem door_met (os : Os) (args : Array Value) : laidMetH Tryd.prog laidL ((World.doorLaid Tryd.prog 400 os).forCall (fun _ _ => 0) ⟨#[], args, []⟩).memory :=
  laidMetH_of_parts3 (fuel := 8) (laidMet_of_run' 8 (by kernel_rfl) (by kernel_rfl)) (by kernel_rfl) (by kernel_rfl)
theorem std_of_laid {W : World} (h : laidMetH Tryd.prog laidL W) : gr.Tz W := by
  rw [MakeChecks.laidMetH_plain _ _ _ (by kernel_rfl)] at h
  have h3 : laidMet Tryd.prog (("math/bits.deBruijn64tab", Lib.tabData .u8 (Lib.deBruijn64tab.map fun x : Nat => (x : Int))) :: []) W := h
  have ht := Lib.tabIs_of_head gTab tyTab Tryd.underlying80 Tryd.underlying5 (by kernel_rfl) (by kernel_rfl) h3
  intro j hj
  have hc := ht.cell gTab j (by rw [List.length_map]; exact hj)
  have e : ((Lib.deBruijn64tab.map fun x : Nat => (x : Int)).getD j 0 : Int) = ((Lib.deBruijn64tab.getD j 0 : Nat) : Int) := by
    rw [List.getD, List.getD, List.getElem?_map, List.getElem?_eq_getElem hj]
    rfl
  rw [e] at hc
  exact hc
theorem int_le {n : Int} (h : (Lit.int .i64 n).wf = true) : n ≤ 9223372036854775807 := by
  have h2 : n ≤ IntKind.i64.max := by simp only [Lit.wf, Bool.and_eq_true, decide_eq_true_eq] at h; exact h.2
  exact h2
theorem int_ge {n : Int} (h : (Lit.int .i64 n).wf = true) : -9223372036854775808 ≤ n := by
  have h2 : IntKind.i64.min ≤ n := by simp only [Lit.wf, Bool.and_eq_true, decide_eq_true_eq] at h; exact h.1
  exact h2
section
variable {H : Type} {enc : TypeId × Value → H} {P : Program} {w : World} {held : Bool} {base : Nat}
theorem choose_list {α : Type} {p : Nat → α → Prop} : ∀ n, (∀ i, i < n → ∃ e, p i e) → ∃ l : List α, l.length = n ∧ ∀ i e, l[i]? = some e → p i e := by
  intro n
  induction n with
  | zero => exact fun _ => ⟨[], rfl, fun i e h => by simp at h⟩
  | succ n ih =>
    intro h
    obtain ⟨l, hl, hp⟩ := ih fun i hi => h i (by omega)
    obtain ⟨e, he⟩ := h n (by omega)
    refine ⟨l ++ [e], by simp [hl], fun i x hx => ?_⟩
    rcases Nat.lt_or_ge i n with hi | hi
    · exact hp i x (by rwa [List.getElem?_append_left (by omega)] at hx)
    · rw [List.getElem?_append_right (by omega)] at hx
      have hi2 : i = n := by
        have := (List.getElem?_eq_some_iff.1 hx).1
        simp at this
        omega
      subst hi2
      rw [hl, Nat.sub_self] at hx
      obtain rfl : e = x := by simpa using hx
      exact he
theorem rd_edges {t e : TypeId} {f0 f1 : Field} {fuel : Nat} {v : Value} {x : DataW H × List MemPlace} (ht : P.underlying t = some (.slice e)) (he : P.underlying e = some (.struct #[f0, f1]))
    (ce : P.cellsOf e = 2) (o0 : f0.offset = 0) (o1 : f1.offset = 1) (c0 : P.cellsOf f0.type = 1) (c1 : P.cellsOf f1.type = 1) (i0 : P.underlying f0.type = some (.int .i64)) (i1 : P.underlying f1.type = some (.int .i64))
    (h : DataW.trod enc P w base (fun _ => true) held fuel t [v] = some x) :
    ∃ (A : Option Addr) (l : List (Int × Int)) (c : Nat), v = .slice A l.length c ∧ gr.RdE w w.heap.size A l ∧ (A = none → c = 0) ∧ l.length ≤ 9223372036854775807 ∧ l.length ≤ c := by
  rcases open_slice_pairs ht he ce o0 o1 c0 c1 h with ⟨hv, _⟩ | ⟨a, len, cap, m, n, V0, V1, D0, D1, P0, P1, hv, _, hl, hm, hmm, _, hx⟩
  · simp only [List.cons.injEq, and_true] at hv
    exact ⟨none, [], 0, hv, fun h => absurd rfl h, fun _ => rfl, by simp, by simp⟩
  · simp only [List.cons.injEq, and_true] at hv
    have hmc : m = cap := by simpa using hmm
    obtain ⟨l, hll, hp⟩ := choose_list (p := fun i (e : Int × Int) => w.cell? (a.add (i * 2)) = some (.int .i64 e.1) ∧ w.cell? (a.add (i * 2 + 1)) = some (.int .i64 e.2)) len fun i hi => by
      obtain ⟨h1, h2, h3, h4⟩ := hx i (by omega)
      obtain ⟨n0, e0, _⟩ := DataW.trod_int i0 h3
      obtain ⟨n1, e1, _⟩ := DataW.trod_int i1 h4
      simp only [List.cons.injEq, and_true] at e0 e1
      exact ⟨(n0, n1), by rw [h1, e0], by rw [h2, e1]⟩
    refine ⟨some a, l, cap, by rw [hll]; exact hv, fun hne => ⟨a, rfl, ?_, fun k e he => ?_⟩, fun h => (by cases h), by rw [hll]; unfold maxLen at hm; omega, by rw [hll]; exact hl⟩
    · have h0 : 0 < l.length := List.length_pos_iff.2 hne
      have := World.block_lt_of_cell? w _ (hp 0 _ (List.getElem?_eq_getElem h0)).1
      rwa [add_block] at this
    · obtain ⟨g1, g2⟩ := hp k e he
      have ee : ∀ i, a.add (i + 1) = ⟨(a.add i).block, (a.add i).off + 1, none⟩ := fun i => by simp [Addr.add]; by_cases h0 : i = 0 <;> simp [h0]; try omega
      exact ⟨g1, by rw [← ee]; exact g2⟩
end
end Go.Proofs.YtahffafobdiogaaDoor
