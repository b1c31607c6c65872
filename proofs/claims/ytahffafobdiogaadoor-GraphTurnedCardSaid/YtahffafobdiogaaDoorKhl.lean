/- The law GraphTurned. -/
import Derived.Test.YtahffafobdiogaaDoorKhk
import Derived.Laws.AppendOwnNone
namespace Go.Proofs.YtahffafobdiogaaDoor
set_option linter.unusedVariables false
set_option linter.unusedSimpArgs false
open Go.RowKit
namespace gr
theorem kaw {w : World} (hT : Tz w) (W : World) (hb : Below w.heap.size w W) : Calls Tryd.prog 13 #[] W fun e w' => e = .returned (.bool true) ∧ Below w.heap.size w w' := (awake_any W (hT.keep hb)).mono fun e w' ⟨h1, h2⟩ => ⟨h1, hb.trans (h2.mono hb.size)⟩
theorem own_keepE {w W : World} {base n size : Nat} {e : TypeId} {v : Value} {xs : List Value} (h : w.ownsRow base e size v n xs) (hb : Below w.heap.size w W) : W.ownsRow base e size v n xs := by
  refine ⟨h.1, h.2.imp id fun ⟨g, cap, cur, e1, h1, h2, r⟩ => ⟨g, cap, cur, e1, h1, ?_, r⟩⟩
  rw [hb.block g (Array.getElem?_eq_some_iff.1 h2).1]
  exact h2
theorem own_formE {w : World} {base n size : Nat} {e : TypeId} {v : Value} {xs : List Value} (h : w.ownsRow base e size v n xs) : ∃ A c, v = .slice A n c := by
  rcases h.2 with ⟨rfl, rfl⟩ | ⟨g, cap, cur, rfl, _⟩
  · exact ⟨_, _, rfl⟩
  · exact ⟨_, _, rfl⟩
theorem own_belowE {w wr w1 : World} {base n size : Nat} {e : TypeId} {v : Value} {xs : List Value} {o : Obj} (hb : Below base w wr) (hbase : base ≤ wr.heap.size) (hown : wr.ownsRow base e size v n xs) (hg : (wr.alloc o).grownBy w1 v.ownBlock) : Below base w w1 :=
  (hb.alloc hbase o).grown hg (by simp; omega) (fun k hk => (hown.lt k hk).1)
theorem same_self (A B : Option Addr) (c d : Nat) (l : List Nat) (W : World) (h : Rd W W.heap.size A (vV l)) (h2 : Rd W W.heap.size B (vV l)) (hl : l.length ≤ 4096) : Calls Tryd.prog 12 #[.slice A l.length c, .slice B l.length d] W fun e w' => e = .returned (.bool true) ∧ Below W.heap.size W w' := by
  refine (same_any A B c d l l W h h2 (by omega) (by omega)).mono ?_
  rintro e w' ⟨he, q, rfl⟩
  rw [decide_eq_true rfl] at he
  exact ⟨he, below_drewN (Below.refl _ _) q⟩
theorem lists_self (A B : Option Addr) (c d : Nat) (fs gs : List PR) (ls : List (List Nat)) (W : World) (hA : Rp W A fs) (hB : Rp W B gs) (h1 : (fs.map fun e => e.2.1) = ls) (h2 : (gs.map fun e => e.2.1) = ls) (hl : ls.length ≤ 4096) (hb : ∀ l ∈ ls, l.length ≤ 4096) : Calls Tryd.prog 20 #[.slice A fs.length c, .slice B gs.length d] W fun e w' => e = .returned (.bool true) ∧ Below W.heap.size W w' := by
  have e1 : fs.length = ls.length := by rw [← h1, List.length_map]
  have e2 : gs.length = ls.length := by rw [← h2, List.length_map]
  refine (lists_any A B c d fs gs W hA hB (by omega) (by omega) fun e he => ?_).mono ?_
  · have hm : e.2.1 ∈ ls := by
      rcases he with he | he
      · rw [← h1]; exact List.mem_map.2 ⟨e, he, rfl⟩
      · rw [← h2]; exact List.mem_map.2 ⟨e, he, rfl⟩
    have := hb _ hm
    omega
  · rintro e w' ⟨he, q, rfl⟩
    rw [h1, h2, decide_eq_true rfl] at he
    exact ⟨he, below_drewN (Below.refl _ _) q⟩
theorem row2 (w : World) (x y : Value) (t : TypeId) : ∀ j u, [x, y][j]? = some u → (w.alloc (.cells #[x, y] t)).cell? ((⟨w.heap.size, 0, none⟩ : Addr).add j) = some u := by
  intro j u hu
  rw [off_add]
  exact (Blk.new w [x, y] t).cell hu
theorem one2 (a b : Int) : ∀ u ∈ [Value.int .i64 a, Value.int .i64 b], u.oneCell' = true := by
  intro u hu
  simp at hu
  rcases hu with rfl | rfl <;> rfl
set_option maxRecDepth 100000 in
set_option maxHeartbeats 8000000 in
theorem turned_any (n : Int) (A : Option Addr) (c : Nat) (es : List (Int × Int)) (w : World) (hT : Tz w) (hA : RdE w w.heap.size A es) (hc : A = none → c = 0) (hl : es.length ≤ 9223372036854775807) (hn : -9223372036854775808 ≤ n ∧ n ≤ 9223372036854775807) :
    Calls Tryd.prog 8 #[.int .i64 n, .slice A es.length c] w fun e w' => e = .returned (.bool true) ∧ Below w.heap.size w w' := by
  have KAW := Lib.hid (kaw hT)
  by_cases h100 : 100 < n
  · clear hT hA
    go_enter Tryd.func8, Tryd.ntmps8
    go_wp2_with (go_at_call 13; refine (KAW.out _ (Below.refl _ _)).mono ?_; rintro e w1 ⟨rfl, hb1⟩)
    go_ret
    exact ⟨rfl, hb1⟩
  by_cases h200 : 200 < es.length
  · clear hT hA
    have h200' : (200 : Int) < (es.length : Int) := by omega
    generalize es.length = L at *
    go_enter Tryd.func8, Tryd.ntmps8
    go_wp2_with (go_at_call 13; refine (KAW.out _ (Below.refl _ _)).mono ?_; rintro e w1 ⟨rfl, hb1⟩)
    go_ret
    exact ⟨rfl, hb1⟩
  obtain ⟨l1, x1, l2, x2, ls, x3, ⟨y1, y2, y3, y4⟩, HR⟩ := all_of n es
  have K0 := Lib.hid (show ∀ W, Below w.heap.size w W → _ from fun W hb => HR es (fun _ => Iff.rfl) (by omega) W A c (hT.keep hb) ((hA.below hb).more' hb.size))
  have K1 := Lib.hid (show ∀ W B c', Below w.heap.size w W → RdE W W.heap.size B (es.reverse ++ es) → _ from fun W B c' hb hE => HR (es.reverse ++ es) (fun e => by simp) (by simp; omega) W B c' (hT.keep hb) hE)
  have HC := Lib.hid hc
  clear HR hT hc
  rw [show (es.reverse ++ es).length = es.length + es.length by simp] at K1
  have h200' : ¬ (200 : Int) < (es.length : Int) := by omega
  have HA := Lib.hid hA
  clear hA
  obtain ⟨i0, hi, iz, is, ib⟩ := infoE
  obtain ⟨L, hL⟩ : ∃ L, es.length = L := ⟨_, rfl⟩
  rw [hL] at K0 K1 h200 h200' hl ⊢
  have HL := Lib.hid hL
  clear hL
  go_enter Tryd.func8, Tryd.ntmps8
  go_wp2
  go_loopw [5, 6] (fun v i wr => ∃ k : Nat, k ≤ L ∧ i = .int .i64 ((k : Int) - 1) ∧ Hid (wr.ownsRow w.heap.size 40 2 v (L - k) (fE (es.drop k).reverse)) ∧ Below w.heap.size w wr) (fun _ i _ => (intOf i + 1).toNat)
  case atStart => exact ⟨L, by omega, rfl, Lib.hid (by rw [Nat.sub_self, List.drop_of_length_le (by rw [HL.out]; omega)]; exact World.ownsRow_nil _ _ _ _), Below.refl _ _⟩
  case round =>
    obtain ⟨k, hk, rfl, hown, hbl⟩ := hrel
    cases k with
    | zero =>
      rw [Nat.sub_zero, List.drop_zero] at hown
      obtain ⟨V, cv, rfl⟩ := own_formE hown.out
      have hsz := hbl.size
      have hb0 : Below w.heap.size w wr := hbl
      have HLn := Lib.hid (show es.reverse.length = L by rw [List.length_reverse]; exact HL.out)
      have HRA := Lib.hid (HA.out.below hbl)
      rcases A with _ | ad
      · have hL0 : L = 0 := by
          have h := HA.out
          rcases Nat.eq_zero_or_pos L with h0 | h0
          · exact h0
          · obtain ⟨_, h1, _⟩ := h (fun e => by have := HL.out; rw [e] at this; simp at this; omega)
            cases h1
        subst hL0
        have hc0 := HC.out rfl
        subst hc0
        have hes : es = [] := List.eq_nil_of_length_eq_zero HL.out
        have RT := Lib.hid (show RdE wr wr.heap.size V (es.reverse ++ es) from fun h => absurd (by rw [hes]; rfl) h)
        go_wp2_with (first
          | (at_builtin; refine wpList_append_own_none rfl _ _ 22 rfl w.heap.size 40 i0 2 Tryd.underlying22 hi _ 0 (fE es.reverse) rfl hown.out rfl ?_; have b3 := hbl; clear hbl hb0)
          | (have bb := b3; clear bb; go_at_call 10; refine ((K0.out _ b3).1).mono ?_; rintro e w4 ⟨A4, c4, rfl, r4, d4⟩; have b4 := b3.trans (d4.mono b3.size); have RT := Lib.hid ((RT.out.below d4).more' d4.size); have R4 := Lib.hid r4; clear r4 d4 b3)
          | (have bb := b4; clear bb; go_at_call 10; refine ((K1.out _ _ _ b4 RT.out).1).mono ?_; rintro e w5 ⟨A5, c5, rfl, r5, d5⟩; have b5 := b4.trans (d5.mono b4.size); have RT := Lib.hid ((RT.out.below d5).more' d5.size); have R4 := Lib.hid (R4.out.to d5); have R5 := Lib.hid r5; clear r5 d5 b4)
          | (have bb := b5; clear bb; go_at_call 14; refine ((K0.out _ b5).2.1).mono ?_; rintro e w6 ⟨A6, c6, rfl, r6, d6⟩; have b6 := b5.trans (d6.mono b5.size); have RT := Lib.hid ((RT.out.below d6).more' d6.size); have R4 := Lib.hid (R4.out.to d6); have R5 := Lib.hid (R5.out.to d6); have R6 := Lib.hid r6; clear r6 d6 b5)
          | (have bb := b6; clear bb; go_at_call 14; refine ((K1.out _ _ _ b6 RT.out).2.1).mono ?_; rintro e w7 ⟨A7, c7, rfl, r7, d7⟩; have b7 := b6.trans (d7.mono b6.size); have RT := Lib.hid ((RT.out.below d7).more' d7.size); have R4 := Lib.hid (R4.out.to d7); have R5 := Lib.hid (R5.out.to d7); have R6 := Lib.hid (R6.out.to d7); have R7 := Lib.hid r7; clear r7 d7 b6)
          | (have bb := b7; clear bb; go_at_call 18; refine ((K0.out _ b7).2.2).mono ?_; rintro e w8 ⟨A8, c8, fs8, rfl, f8, r8, d8⟩; have F8 := Lib.hid f8; have b8 := b7.trans (d8.mono b7.size); have RT := Lib.hid ((RT.out.below d8).more' d8.size); have R4 := Lib.hid (R4.out.to d8); have R5 := Lib.hid (R5.out.to d8); have R6 := Lib.hid (R6.out.to d8); have R7 := Lib.hid (R7.out.to d8); have R8 := Lib.hid r8; clear r8 d8 b7 f8)
          | (have bb := b8; clear bb; go_at_call 18; refine ((K1.out _ _ _ b8 RT.out).2.2).mono ?_; rintro e w9 ⟨A9, c9, fs9, rfl, f9, r9, d9⟩; have F9 := Lib.hid f9; have b9 := b8.trans (d9.mono b8.size); have R4 := Lib.hid (R4.out.to d9); have R5 := Lib.hid (R5.out.to d9); have R6 := Lib.hid (R6.out.to d9); have R7 := Lib.hid (R7.out.to d9); have R8 := Lib.hid (R8.out.to d9); have R9 := Lib.hid r9; clear r9 d9 b8 f9)
          | (have bb := b9; clear bb; go_at_call 12; refine (same_self _ _ _ _ l1 _ R4.out R5.out y1).mono ?_; rintro e w10 ⟨rfl, d10⟩; have b10 := b9.trans (d10.mono b9.size); have R6 := Lib.hid (R6.out.to d10); have R7 := Lib.hid (R7.out.to d10); have R8 := Lib.hid (R8.out.to d10); have R9 := Lib.hid (R9.out.to d10); clear d10 b9)
          | (have bb := b10; clear bb; go_at_call 12; refine (same_self _ _ _ _ l2 _ R6.out R7.out y2).mono ?_; rintro e w11 ⟨rfl, d11⟩; have b11 := b10.trans (d11.mono b10.size); have R8 := Lib.hid (R8.out.to d11); have R9 := Lib.hid (R9.out.to d11); clear d11 b10)
          | (have bb := b11; clear bb; go_at_call 20; refine (lists_self _ _ _ _ fs8 fs9 ls _ R8.out R9.out F8.out F9.out y3 y4).mono ?_; rintro e w12 ⟨rfl, d12⟩; have b12 := b11.trans (d12.mono b11.size); clear d12 b11)
          | (have bb := b12; clear bb; go_at_call 13; refine (KAW.out _ b12).mono ?_; rintro e w13 ⟨rfl, b13⟩; clear b12))
        go_ret
        exact ⟨rfl, b13⟩
      · go_wp2_with (first
          | (at_builtin; refine wpList_append_own_at _ rfl _ _ 22 rfl w.heap.size 40 i0 (.agg #[.int .i64 0, .int .i64 0]) 2 16 Tryd.underlying22 hi iz is ib rfl (by decide) _ L (fE es.reverse) rfl hown.out ad L c (fE es) rfl (by rw [fE_len, HL.out]) (rdE_cells HRA.out) (fE_one es) (by unfold maxLen; omega) (by omega) hsz ?_; intro V3 w3 hown3 hgrow3 _ _; obtain ⟨V3, c3, rfl⟩ := own_formE hown3; have b3 : Below w.heap.size w w3 := hbl.grown hgrow3 hsz (fun k hk => (hown.out.lt k hk).1); rw [← fE_app] at hown3; have RT := Lib.hid (own_rdE hown3 (by rw [List.length_append, HLn.out, HL.out])); clear hown3 hgrow3 hbl hb0)
          | (have bb := b3; clear bb; go_at_call 10; refine ((K0.out _ b3).1).mono ?_; rintro e w4 ⟨A4, c4, rfl, r4, d4⟩; have b4 := b3.trans (d4.mono b3.size); have RT := Lib.hid ((RT.out.below d4).more' d4.size); have R4 := Lib.hid r4; clear r4 d4 b3)
          | (have bb := b4; clear bb; go_at_call 10; refine ((K1.out _ _ _ b4 RT.out).1).mono ?_; rintro e w5 ⟨A5, c5, rfl, r5, d5⟩; have b5 := b4.trans (d5.mono b4.size); have RT := Lib.hid ((RT.out.below d5).more' d5.size); have R4 := Lib.hid (R4.out.to d5); have R5 := Lib.hid r5; clear r5 d5 b4)
          | (have bb := b5; clear bb; go_at_call 14; refine ((K0.out _ b5).2.1).mono ?_; rintro e w6 ⟨A6, c6, rfl, r6, d6⟩; have b6 := b5.trans (d6.mono b5.size); have RT := Lib.hid ((RT.out.below d6).more' d6.size); have R4 := Lib.hid (R4.out.to d6); have R5 := Lib.hid (R5.out.to d6); have R6 := Lib.hid r6; clear r6 d6 b5)
          | (have bb := b6; clear bb; go_at_call 14; refine ((K1.out _ _ _ b6 RT.out).2.1).mono ?_; rintro e w7 ⟨A7, c7, rfl, r7, d7⟩; have b7 := b6.trans (d7.mono b6.size); have RT := Lib.hid ((RT.out.below d7).more' d7.size); have R4 := Lib.hid (R4.out.to d7); have R5 := Lib.hid (R5.out.to d7); have R6 := Lib.hid (R6.out.to d7); have R7 := Lib.hid r7; clear r7 d7 b6)
          | (have bb := b7; clear bb; go_at_call 18; refine ((K0.out _ b7).2.2).mono ?_; rintro e w8 ⟨A8, c8, fs8, rfl, f8, r8, d8⟩; have F8 := Lib.hid f8; have b8 := b7.trans (d8.mono b7.size); have RT := Lib.hid ((RT.out.below d8).more' d8.size); have R4 := Lib.hid (R4.out.to d8); have R5 := Lib.hid (R5.out.to d8); have R6 := Lib.hid (R6.out.to d8); have R7 := Lib.hid (R7.out.to d8); have R8 := Lib.hid r8; clear r8 d8 b7 f8)
          | (have bb := b8; clear bb; go_at_call 18; refine ((K1.out _ _ _ b8 RT.out).2.2).mono ?_; rintro e w9 ⟨A9, c9, fs9, rfl, f9, r9, d9⟩; have F9 := Lib.hid f9; have b9 := b8.trans (d9.mono b8.size); have R4 := Lib.hid (R4.out.to d9); have R5 := Lib.hid (R5.out.to d9); have R6 := Lib.hid (R6.out.to d9); have R7 := Lib.hid (R7.out.to d9); have R8 := Lib.hid (R8.out.to d9); have R9 := Lib.hid r9; clear r9 d9 b8 f9)
          | (have bb := b9; clear bb; go_at_call 12; refine (same_self _ _ _ _ l1 _ R4.out R5.out y1).mono ?_; rintro e w10 ⟨rfl, d10⟩; have b10 := b9.trans (d10.mono b9.size); have R6 := Lib.hid (R6.out.to d10); have R7 := Lib.hid (R7.out.to d10); have R8 := Lib.hid (R8.out.to d10); have R9 := Lib.hid (R9.out.to d10); clear d10 b9)
          | (have bb := b10; clear bb; go_at_call 12; refine (same_self _ _ _ _ l2 _ R6.out R7.out y2).mono ?_; rintro e w11 ⟨rfl, d11⟩; have b11 := b10.trans (d11.mono b10.size); have R8 := Lib.hid (R8.out.to d11); have R9 := Lib.hid (R9.out.to d11); clear d11 b10)
          | (have bb := b11; clear bb; go_at_call 20; refine (lists_self _ _ _ _ fs8 fs9 ls _ R8.out R9.out F8.out F9.out y3 y4).mono ?_; rintro e w12 ⟨rfl, d12⟩; have b12 := b11.trans (d12.mono b11.size); clear d12 b11)
          | (have bb := b12; clear bb; go_at_call 13; refine (KAW.out _ b12).mono ?_; rintro e w13 ⟨rfl, b13⟩; clear b12))
        go_ret
        exact ⟨rfl, b13⟩
    | succ k =>
      obtain ⟨ad, f, t, rfl, hadb, he, c0, c1⟩ := HA.out.at_ (k := k) (by rw [HL.out]; omega)
      have hc0 := (hbl.cell (p := ad.add (k * 2)) (by rw [add_block]; exact hadb)).trans c0
      have hc1 := (hbl.cell (p := ⟨(ad.add (k * 2)).block, (ad.add (k * 2)).off + 1, none⟩) (by rw [add_block]; exact hadb)).trans c1
      have hsz := hbl.size
      have HT := Lib.hid (show (es.drop k).reverse = (es.drop (k + 1)).reverse ++ [(f, t)] by
        obtain ⟨hk2, he2⟩ := List.getElem?_eq_some_iff.1 he
        rw [List.drop_eq_getElem_cons hk2, he2, List.reverse_cons])
      have HM := Lib.hid (show L - k = L - (k + 1) + 1 by omega)
      have hm : L - (k + 1) ≤ 200 := by omega
      have e1 : ((k + 1 : Nat) : Int) - 1 = (k : Int) := by omega
      have e2 : (k : Int) < (L : Int) := by omega
      rw [e1]
      clear he hadb c0 c1 e1
      generalize (es.drop (k + 1)).reverse = xs at *
      generalize L - (k + 1) = m at *
      go_wp2_with (at_builtin; refine wpList_append_own_at _ rfl _ _ 22 rfl w.heap.size 40 i0 (.agg #[.int .i64 0, .int .i64 0]) 2 16 Tryd.underlying22 hi iz is ib rfl (by decide) _ m (fE xs) rfl (own_keepE hown.out (bel_box _)) ⟨_, 0, none⟩ 1 1 [.int .i64 f, .int .i64 t] rfl rfl (row2 _ _ _ _) (one2 _ _) (by unfold maxLen; omega) (by omega) (by simp; omega) ?_; intro v3 w3 hown3 hgrow3 _ _)
      have hb3 : Below w.heap.size w w3 := own_belowE hbl hsz hown.out hgrow3
      go_roundw
      case rel => exact ⟨k, by omega, by go_num, Lib.hid (by rw [HT.out, HM.out, fE_app]; exact hown3), hb3⟩
      case measure => simp [intOf]
end gr
end Go.Proofs.YtahffafobdiogaaDoor
