/- word of the laws of layer 2: a word from the texts of its lists. -/
import Derived.Test.YtlpigdekjkpnpaaDoorBwEq
import Derived.Deep.RegionLaw
namespace Go.Proofs.YtlpigdekjkpnpaaDoor
set_option linter.unusedVariables false
set_option linter.unusedSimpArgs false
open Go.RowKit
/-- the letters of a text -/
def lts (s : ByteArray) : List Bool := s.data.toList.map fun b => ((b.toNat : Nat) : Int) == 49
theorem lts_length (s : ByteArray) : (lts s).length = s.size := by simp only [lts, List.length_map, Array.length_toList]; rfl
theorem lts_take {s : ByteArray} {k : Nat} (hk : k < s.size) : (lts s).take (k + 1) = (lts s).take k ++ [((s[k].toNat : Nat) : Int) == 49] := by
  apply take_succ_of
  have hk' : k < s.data.size := hk
  rw [lts, List.getElem?_map, Array.getElem?_toList, Array.getElem?_eq_getElem hk']
  rfl
def Fw (g : Nat) (W : World) (u v : Value) : Prop := (W.cell? ⟨g, 0, none⟩ = some (.slice none 0 0) ∧ W.cell? ⟨g, 1, none⟩ = some (.slice none 0 0) ∧ W.cell? ⟨g + 1, 0, none⟩ = some u ∧ W.cell? ⟨g + 1, 1, none⟩ = some v) ∧
  (W.frozen? ⟨g, 0, none⟩ = false ∧ W.frozen? ⟨g, 1, none⟩ = false ∧ W.frozen? ⟨g + 1, 0, none⟩ = false ∧ W.frozen? ⟨g + 1, 1, none⟩ = false) ∧ g + 2 ≤ W.heap.size
theorem Fw.below {g : Nat} {W W' : World} {u v : Value} (h : Fw g W u v) (hb : Below (g + 2) W W') : Fw g W' u v := by
  obtain ⟨⟨h1, h2, h3, h4⟩, ⟨h5, h6, h7, h8⟩, h9⟩ := h
  refine ⟨⟨(hb.cell (p := ⟨g, 0, none⟩) (by simp)).trans h1, (hb.cell (p := ⟨g, 1, none⟩) (by simp)).trans h2, (hb.cell (p := ⟨g + 1, 0, none⟩) (by simp)).trans h3, (hb.cell (p := ⟨g + 1, 1, none⟩) (by simp)).trans h4⟩,
    ⟨(hb.frozen (p := ⟨g, 0, none⟩) (by simp)).trans h5, (hb.frozen (p := ⟨g, 1, none⟩) (by simp)).trans h6, (hb.frozen (p := ⟨g + 1, 0, none⟩) (by simp)).trans h7, (hb.frozen (p := ⟨g + 1, 1, none⟩) (by simp)).trans h8⟩, ?_⟩
  rcases Nat.lt_or_ge (g + 1) W'.heap.size with h | h
  · omega
  · have e := (hb.cell (p := ⟨g + 1, 0, none⟩) (by simp)).trans h3
    have := World.block_lt_of_cell? W' _ e
    simp at this
    omega
theorem Fw.set0 {g : Nat} {W : World} {u v : Value} (h : Fw g W u v) (x : Value) : Fw g (W.setCell ⟨g + 1, 0, none⟩ x) x v := by
  obtain ⟨⟨h1, h2, h3, h4⟩, ⟨h5, h6, h7, h8⟩, h9⟩ := h
  refine ⟨⟨?_, ?_, World.cell?_setCell_same _ _ _ h3, ?_⟩, ⟨by simpa [go_sem] using h5, by simpa [go_sem] using h6, by simpa [go_sem] using h7, by simpa [go_sem] using h8⟩, by simpa [World.setCell] using h9⟩
  · rw [World.cell?_setCell_other _ _ _ _ (by simp)]; exact h1
  · rw [World.cell?_setCell_other _ _ _ _ (by simp)]; exact h2
  · rw [World.cell?_setCell_other _ _ _ _ (by simp)]; exact h4
theorem Fw.set1 {g : Nat} {W : World} {u v : Value} (h : Fw g W u v) (x : Value) : Fw g (W.setCell ⟨g + 1, 1, none⟩ x) u x := by
  obtain ⟨⟨h1, h2, h3, h4⟩, ⟨h5, h6, h7, h8⟩, h9⟩ := h
  refine ⟨⟨?_, ?_, ?_, World.cell?_setCell_same _ _ _ h4⟩, ⟨by simpa [go_sem] using h5, by simpa [go_sem] using h6, by simpa [go_sem] using h7, by simpa [go_sem] using h8⟩, by simpa [World.setCell] using h9⟩
  · rw [World.cell?_setCell_other _ _ _ _ (by simp)]; exact h1
  · rw [World.cell?_setCell_other _ _ _ _ (by simp)]; exact h2
  · rw [World.cell?_setCell_other _ _ _ _ (by simp)]; exact h3
theorem Rd.set_low {w : World} {A : Option Addr} {N B : Nat} {xs : List Value} (h : Rd w B A xs) (hn : Nw N A xs) {p : Addr} (hp : p.block < N) (u : Value) : Rd (w.setCell p u) B A xs := fun hx => by
  obtain ⟨ad, e, hb, hc⟩ := h hx
  have hN := hn ad e hx
  refine ⟨ad, e, hb, fun j v hv => ?_⟩
  rw [World.cell?_setCell_other _ _ _ _ (fun e2 => by have := congrArg Addr.block e2; rw [add_block] at this; omega)]
  exact hc j v hv
theorem Rd.one_new (w : World) (b : Bool) (t : TypeId) : Rd (w.alloc (.cells #[.bool b] t)) (w.heap.size + 1) (some ⟨w.heap.size, 0, none⟩) [.bool b] := fun _ =>
  ⟨_, rfl, Nat.lt_succ_self _, fun j u hu => cell_one_new w _ _ j u hu⟩
theorem Fw.made (w : World) (t u : TypeId) : Fw w.heap.size ((w.alloc (.cells #[.slice none 0 0, .slice none 0 0] t)).alloc (.cells #[.slice none 0 0, .slice none 0 0] u)) (.slice none 0 0) (.slice none 0 0) := by
  refine ⟨⟨?_, ?_, ?_, ?_⟩, ⟨?_, ?_, ?_, ?_⟩, ?_⟩ <;> simp [go_sem]
theorem size_up {B : Nat} {W : World} (o : Obj) (h : B ≤ W.heap.size) : B ≤ (W.alloc o).drew.heap.size := by simp; omega
theorem grow_up {B n : Nat} {e : TypeId} {v : Value} {xs : List Value} {W w1 : World} {o : Obj} (hB : B ≤ W.heap.size) (hown : W.ownsRow B e 1 v n xs) (hg : ((W.alloc o).drew).grownBy w1 v.ownBlock) : Below B W w1 :=
  (((Below.refl _ _).alloc hB _).drew).grown hg (size_up _ hB) (fun k hk => (hown.lt k hk).1)
set_option maxHeartbeats 1000000 in
theorem word_any (s1 s2 : ByteArray) (w : World) (h1 : s1.size ≤ 65536) (h2 : s2.size ≤ 65536) :
    Calls Tryd.prog 13 #[.string s1, .string s2] w (NewW (lts s1) (lts s2) w) := by
  obtain ⟨i0, hi, iz, is, ib⟩ := info_parts Tryd.boolInfo
  go_enter Tryd.func13, Tryd.ntmps13
  go_wp2
  go_loopw [6] (fun i wr => ∃ (k : Nat) (A : Option Addr) (c : Nat), k ≤ s1.size ∧ i = .int .i64 k ∧ Fw w.heap.size wr (.slice A k c) (.slice none 0 0) ∧ wr.ownsRow (w.heap.size + 2) 4 1 (.slice A k c) k (bls ((lts s1).take k)) ∧ Below w.heap.size w wr) (fun i _ => s1.size - (intOf i).toNat)
  case atStart =>
    refine ⟨0, none, 0, by omega, rfl, ?_, World.ownsRow_nil _ _ _ _, ?_⟩
    · exact Fw.made w _ _
    · exact (by repeat (first | (with_reducible exact Below.refl _ _) | (with_reducible assumption) | (with_reducible exact bel_box _) | (with_reducible refine bel_step ?_ (by with_reducible assumption)) | (with_reducible refine Below.drew ?_) | (with_reducible refine below_drewN ?_ _) | (with_reducible refine bel_alloc ?_ _)))
  case round =>
    obtain ⟨k, A, c, hk, rfl, HF, hown, hbl⟩ := hrel
    obtain ⟨⟨c1, c2, c3, c4⟩, ⟨f1, f2, f3, f4⟩, hsz⟩ := id HF
    have hz0 : w.heap.size < wr.heap.size := by omega
    have hz1 : w.heap.size + 1 < wr.heap.size := by omega
    have hz2 : ¬ w.heap.size + 1 = wr.heap.size := by omega
    by_cases hlt : k < s1.size
    · go_wp2
      go_region_law ((refine step_append_rd _ (by rfl) _ _ _ (by rfl) (w.heap.size + 2) 4 i0 (.bool false) 1 Tryd.underlying22 hi iz is ib (by rfl) _ k (bls ((lts s1).take k)) (by rfl) ((hown.alloc _).drew) (wr.heap.size + 1) _ 1 1 _ (by rfl) (by rfl) (Rd.one_new _ _ _) (one_cell_bool _) (by unfold maxLen; omega) (by omega) (size_up _ hsz) ?_; intro v1 w1 hown1 hgrow1 hat1; have hb1 : Below (w.heap.size + 2) wr w1 := grow_up hsz hown hgrow1; obtain ⟨V1, cv1, rfl⟩ := own_form hown1; have HF1 := HF.below hb1; have HF2 := HF1.set0 (.slice V1 (k + 1) cv1); obtain ⟨⟨d1, d2, d3, d4⟩, ⟨e1, e2, e3, e4⟩, hsz1⟩ := id HF1))
      all_goals go_wp2
      all_goals
        have hbs : bls ((lts s1).take (k + 1)) = bls ((lts s1).take k) ++ [.bool (((s1[k].toNat : Nat) : Int) == 49)] := by rw [lts_take hlt]; simp [bls]
        have hown2 := ownsRow_setCell_below hown1 (a := ⟨w.heap.size + 1, 0, none⟩) (by simp) (.slice V1 (k + 1) cv1)
        rw [← hbs] at hown2
        have hbl2 := (hbl.trans (hb1.mono (Nat.le_add_right _ 2))).setCell (p := ⟨w.heap.size + 1, 0, none⟩) (by simp) (.slice V1 (k + 1) cv1)
        go_roundw
        case rel => exact ⟨k + 1, V1, cv1, by omega, by go_num, HF2, hown2, hbl2⟩
        case measure => simp [intOf]; omega
    · obtain rfl : k = s1.size := by omega
      have hr1 := Lib.hid (Rd.of_own hown)
      have hn1 := Lib.hid (own_new hown)
      have hc1 := own_cap hown
      obtain ⟨N, hN⟩ : ∃ N, N = wr.heap.size := ⟨_, rfl⟩
      rw [← hN] at hr1 hsz
      rw [List.take_of_length_le (Nat.le_of_eq (lts_length s1))] at hr1 hn1
      go_wp2
      go_loopw [7] (fun i wr => ∃ (k : Nat) (B : Option Addr) (d : Nat), k ≤ s2.size ∧ i = .int .i64 k ∧ Fw w.heap.size wr (.slice A s1.size c) (.slice B k d) ∧ N ≤ wr.heap.size ∧ Hid (Rd wr N A (bls (lts s1))) ∧ wr.ownsRow N 4 1 (.slice B k d) k (bls ((lts s2).take k)) ∧ Below w.heap.size w wr) (fun i _ => s2.size - (intOf i).toNat)
      case atStart => exact ⟨0, none, 0, by omega, rfl, HF, by omega, hr1, World.ownsRow_nil _ _ _ _, hbl⟩
      case round =>
        obtain ⟨k, B, d, hk, rfl, HF, hNs, HR1, hown, hbl⟩ := hrel
        obtain ⟨⟨c1, c2, c3, c4⟩, ⟨f1, f2, f3, f4⟩, hsz2⟩ := id HF
        have hz0 : w.heap.size < wr.heap.size := by omega
        have hz1 : w.heap.size + 1 < wr.heap.size := by omega
        have hz2 : ¬ w.heap.size + 1 = wr.heap.size := by omega
        by_cases hlt : k < s2.size
        · go_wp2
          go_region_law ((refine step_append_rd _ (by rfl) _ _ _ (by rfl) N 4 i0 (.bool false) 1 Tryd.underlying22 hi iz is ib (by rfl) _ k (bls ((lts s2).take k)) (by rfl) ((hown.alloc _).drew) (wr.heap.size + 1) _ 1 1 _ (by rfl) (by rfl) (Rd.one_new _ _ _) (one_cell_bool _) (by unfold maxLen; omega) (by omega) (size_up _ hNs) ?_; intro v1 w1 hown1 hgrow1 hat1; have hb1 : Below N wr w1 := grow_up hNs hown hgrow1; obtain ⟨V1, cv1, rfl⟩ := own_form hown1; have HF1 := HF.below (hb1.mono hsz); have HF2 := HF1.set1 (.slice V1 (k + 1) cv1); obtain ⟨⟨d1, d2, d3, d4⟩, ⟨e1, e2, e3, e4⟩, hsz1⟩ := id HF1))
          all_goals go_wp2
          all_goals
            have hbs : bls ((lts s2).take (k + 1)) = bls ((lts s2).take k) ++ [.bool (((s2[k].toNat : Nat) : Int) == 49)] := by rw [lts_take hlt]; simp [bls]
            have hown2 := ownsRow_setCell_below hown1 (a := ⟨w.heap.size + 1, 1, none⟩) (by simp; omega) (.slice V1 (k + 1) cv1)
            rw [← hbs] at hown2
            have hbl2 := (hbl.trans (hb1.mono (by omega))).setCell (p := ⟨w.heap.size + 1, 1, none⟩) (by simp) (.slice V1 (k + 1) cv1)
            have hN2 : N ≤ (w1.setCell ⟨w.heap.size + 1, 1, none⟩ (.slice V1 (k + 1) cv1)).heap.size := by have := Nat.le_trans hNs hb1.size; simpa [World.setCell] using this
            have HR2 := Lib.hid ((HR1.out.below hb1).set_low hn1.out (p := ⟨w.heap.size + 1, 1, none⟩) (by simp) (.slice V1 (k + 1) cv1))
            go_roundw
            case rel => exact ⟨k + 1, V1, cv1, by omega, by go_num, HF2, hN2, HR2, hown2, hbl2⟩
            case measure => simp [intOf]; omega
        · obtain rfl : k = s2.size := by omega
          go_wp2
          obtain ⟨k0, k1⟩ := set2_cells c1 c2 (.slice A s1.size c) (.slice B s2.size d)
          refine bodyPost_ret (v := .agg #[.slice A s1.size c, .slice B s2.size d]) (by simp [results, Tryd.results13, go_sem, k0, k1]) rfl ?_
          rw [List.take_of_length_le (Nat.le_of_eq (lts_length s2))] at hown
          have hg : w.heap.size < N := by omega
          refine ⟨A, B, c, d, by rw [lts_length, lts_length], ?_, own_set2 hown hg _ _, by rw [lts_length]; exact hc1, by rw [lts_length]; exact own_cap hown, bel_set2 hbl (Nat.le_refl _) _ _, hn1.out.mono (Nat.le_add_right _ 2), (own_new hown).mono (by omega)⟩
          exact ((HR1.out.set_low hn1.out (p := ⟨w.heap.size, 0, none⟩) (by simp) _).set_low hn1.out (p := ⟨w.heap.size, 1, none⟩) (by simp) _).more (by simpa [World.setCell] using hNs)
end Go.Proofs.YtlpigdekjkpnpaaDoor
