/- distances of the program. -/
import Derived.Test.YtahffafobdiogaaDoorKgt
namespace Go.Proofs.YtahffafobdiogaaDoor
set_option linter.unusedVariables false
set_option linter.unusedSimpArgs false
open Go.RowKit
namespace gr
/-- the number in a box -/
def cellN (W : World) (v : Value) : Nat := match v with | .pointer (some a) => (intOf ((W.cell? a).getD undef)).toNat | _ => 0
theorem Dt.cellkeep {w W W' : World} {lb n db pd sb ps : Nat} {E : Nat → Nat → Bool} {f : Nat → Int} {p : Nat → Bool} (h : Dt w W lb n db pd sb ps E f p) {px : Nat} (hp : ps < px) (hk : Kp (fun k => k = px) W W') : Dt w W' lb n db pd sb ps E f p :=
  h.keep (hk.low (by have := h.sz; omega) (fun k e => by omega))
set_option maxRecDepth 100000 in
set_option maxHeartbeats 8000000 in
theorem distances_any (n v far lb : Nat) (E E' : Nat → Nat → Bool) (hE' : ∀ u x, E' u x = E x u) (hn : n ≤ 4096) (hEn : ∀ u x, E' u x = true → x < n) (hEl : ∀ u x, E u x = true → x < n) (hv : v < n) (hfar : far ≤ 4096) (w : World) (hL : LkE w lb n E') (hT : Tz w) (hlb : lb + n < w.heap.size) :
    Calls Tryd.prog 36 #[sl lb n, .int .i64 v, .int .i64 far] w fun e w' => (∃ db, e = .returned (sl db n) ∧ w.heap.size ≤ db ∧ Blk w' db 3 (rowI n (dI (capD far (dstS E n v))))) ∧ Below w.heap.size w w' := by
  have htz := tz_lt hT
  have hmk := fun W => make_ints n hn W
  have HNW := Lib.hid (newSet_any n hn)
  go_enter Tryd.func36, Tryd.ntmps36
  go_wp2_with fail
  obtain ⟨W3, hW3⟩ : ∃ W3, (w.alloc (.cells (rowI n fun x => 0).toArray 3)).alloc (.cells #[sl w.heap.size n] 24) = W3 := ⟨_, rfl⟩
  have hb3 : Below w.heap.size w W3 := by rw [← hW3]; exact bel_alloc (bel_box _) _
  have hz3 : W3.heap.size = w.heap.size + 2 := by rw [← hW3]; simp
  have r3 : Blk W3 w.heap.size 3 (rowI n fun x => if x < 0 then -1 else 0) := by
    rw [rowI_congr (g := fun _ => 0) (fun u _ => by simp), ← hW3]
    exact (Blk.new w (rowI n fun _ => 0) _).alloc _
  have c3 : W3.cell? ⟨w.heap.size + 1, 0, none⟩ = some (sl w.heap.size n) := by
    rw [← hW3]
    have h := Blk.new (w.alloc (.cells (rowI n fun x => 0).toArray 3)) [sl w.heap.size n] 24
    rw [World.size_alloc] at h
    exact h.cell (i := 0) rfl
  rw [show (w.alloc (.cells (rowI n fun x => 0).toArray 3)).alloc (.cells #[.slice (some ⟨w.heap.size, 0, none⟩) n n] 24) = W3 from hW3]
  clear hW3 hmk
  go_loopw [21] (fun i wr => ∃ k : Nat, k ≤ n ∧ i = .int .i64 (k : Int) ∧ Below w.heap.size w wr ∧ wr.heap.size = w.heap.size + 2 ∧ Blk wr w.heap.size 3 (rowI n fun x => if x < k then -1 else 0) ∧ wr.cell? ⟨w.heap.size + 1, 0, none⟩ = some (sl w.heap.size n)) (fun i _ => n - (intOf i).toNat)
  case atStart => exact ⟨0, by omega, rfl, hb3, hz3, r3, c3⟩
  case round =>
    obtain ⟨k, hk, rfl, hbk, hzk, rk, ck⟩ := hrel
    clear hb3 hz3 r3 c3
    by_cases hlt : k < n
    · have dk : (k : Int) < (n : Int) := by omega
      have cc := rk.cell (rowI_get _ hlt)
      have cf := rk.frozen k
      have RK := Lib.hid rk
      rw [if_neg (Nat.lt_irrefl k)] at cc
      clear rk
      go_wp2
      refine ⟨⟨k + 1, by omega, by congr 1, hbk.setCell (p := ⟨w.heap.size, k, none⟩) (by simp only; omega) _, by rw [World.size_setCell]; exact hzk, ?_, (World.cell?_setCell_other _ _ _ _ (by intro e; injection e with e; omega)).trans ck⟩, by simp [intOf]; omega⟩
      have := RK.out.set k (.int .i64 (-1))
      rw [rowI_set] at this
      rw [rowI_congr (g := fun x => if x = k then -1 else if x < k then -1 else 0) (fun u _ => ?_)]
      · exact this
      · by_cases e : u = k
        · rw [if_pos e, if_pos (by omega)]
        · rw [if_neg e]
          by_cases e2 : u < k
          · rw [if_pos e2, if_pos (by omega)]
          · rw [if_neg e2, if_neg (by omega)]
    · have hkn : n = k := by omega
      subst hkn
      obtain ⟨W4, rfl⟩ : ∃ U, U = wr := ⟨_, rfl⟩
      have cv := rk.cell (rowI_get _ hv)
      have cf := rk.frozen v
      rw [if_pos hv] at cv
      have dv : (v : Int) < (n : Int) := by omega
      have dv0 : (0 : Int) ≤ (v : Int) := by omega
      have r5 : Blk (W4.setCell ⟨w.heap.size, v, none⟩ (.int .i64 0)) w.heap.size 3 (rowI n (dI (capD 0 (dstS E n v)))) := by
        have := rk.set v (.int .i64 0)
        rw [rowI_set] at this
        rw [rowI_congr (g := fun x => if x = v then 0 else if x < n then -1 else 0) (fun u hu => ?_)]
        · exact this
        · rw [dI_zero, if_pos hu]
      have R5 := Lib.hid r5
      have hb5 : Below w.heap.size w (W4.setCell ⟨w.heap.size, v, none⟩ (.int .i64 0)) := hbk.setCell (p := ⟨w.heap.size, v, none⟩) (by simp only; omega) _
      have c5 : (W4.setCell ⟨w.heap.size, v, none⟩ (.int .i64 0)).cell? ⟨w.heap.size + 1, 0, none⟩ = some (sl w.heap.size n) := (World.cell?_setCell_other _ _ _ _ (by intro e; injection e with e; omega)).trans ck
      have hz5 : (W4.setCell ⟨w.heap.size, v, none⟩ (.int .i64 0)).heap.size = w.heap.size + 2 := by rw [World.size_setCell]; exact hzk
      have HC5 := Lib.hid c5
      have HB5 := Lib.hid hb5
      clear rk r5 c5 hb5
      go_wp2_with fail
      generalize W4.setCell ⟨w.heap.size, v, none⟩ (.int .i64 0) = W5 at *
      have HE' := Lib.hid hE'
      clear hbk hzk ck cv cf hE'
      have h6 : Dt w (((W5.alloc (.cells (uV (List.replicate (sizeW n) 0)).toArray 69)).alloc (.cells #[.int .i64 (v : Int)] 3)).alloc (.cells #[sl W5.heap.size (sizeW n)] 49)) lb n w.heap.size (w.heap.size + 1) W5.heap.size (W5.heap.size + 1 + 1) E' (dI (capD 0 (dstS E n v))) (fun u => decide (u < 0)) := by
        have hbb : Below W5.heap.size W5 (((W5.alloc (.cells (uV (List.replicate (sizeW n) 0)).toArray 69)).alloc (.cells #[.int .i64 (v : Int)] 3)).alloc (.cells #[sl W5.heap.size (sizeW n)] 49)) := bel_alloc (bel_alloc (bel_box _) _) _
        have hb06 := HB5.out.trans (hbb.mono HB5.out.size)
        refine ⟨(hL.keep HB5.out).keep hbb, (hT.keep HB5.out).keep hbb, R5.out.keep hbb, (hbb.cell (p := ⟨w.heap.size + 1, 0, none⟩) (by simp only; omega)).trans HC5.out, ⟨_, ((Blk.new W5 (uV (List.replicate (sizeW n) 0)) _).alloc _).alloc _, (St.empty _).congr fun u => by simp⟩, ?_, hb06, by simp, htz, hlb, Nat.le_refl _, by omega, by omega, by omega⟩
        have h := Blk.new ((W5.alloc (.cells (uV (List.replicate (sizeW n) 0)).toArray 69)).alloc (.cells #[.int .i64 (v : Int)] 3)) [sl W5.heap.size (sizeW n)] 49
        rw [World.size_alloc, World.size_alloc] at h
        exact h.cell (i := 0) rfl
      have l6 : (((W5.alloc (.cells (uV (List.replicate (sizeW n) 0)).toArray 69)).alloc (.cells #[.int .i64 (v : Int)] 3)).alloc (.cells #[sl W5.heap.size (sizeW n)] 49)).cell? ⟨W5.heap.size + 1, 0, none⟩ = some (.int .i64 (v : Int)) := by
        have h := (Blk.new (W5.alloc (.cells (uV (List.replicate (sizeW n) 0)).toArray 69)) [.int .i64 (v : Int)] 3)
        rw [World.size_alloc] at h
        exact (h.alloc _).cell (i := 0) rfl
      go_wp2_with (go_at_call 27; refine (HNW.out W5).mono ?_; rintro e w6 ⟨rfl, rfl⟩)
      rw [hz5] at h6 l6
      generalize ((W5.alloc (.cells (uV (List.replicate (sizeW n) 0)).toArray 69)).alloc (.cells #[.int .i64 (v : Int)] 3)).alloc (.cells #[.slice (some ⟨w.heap.size + 2, 0, none⟩) (sizeW n) (sizeW n)] 49) = W6 at *
      clear HNW R5 HC5 HB5 hz5
      go_loopw [38] (fun i wr => ∃ k : Nat, k ≤ v + 1 ∧ i = .int .i64 (k : Int) ∧ Dt w wr lb n w.heap.size (w.heap.size + 1) (w.heap.size + 2) ((w.heap.size + 2) + 1 + 1) E' (dI (capD 0 (dstS E n v))) (fun u => decide (u < k)) ∧ wr.cell? ⟨(w.heap.size + 2) + 1, 0, none⟩ = some (.int .i64 (v : Int))) (fun i _ => v + 1 - (intOf i).toNat)
      case atStart => exact ⟨0, by omega, rfl, h6, l6⟩
      case round =>
        obtain ⟨k, hk, rfl, hdk, lk⟩ := hrel
        clear h6 l6
        by_cases hlt : k < v + 1
        · have dk : (k : Int) < (v : Int) + 1 := by omega
          have KA := Lib.hid (Dt.add hn hdk (by omega : k < n))
          have c7 := hdk.sc
          have LK := Lib.hid lk
          have hzz := hdk.sz
          clear hdk lk
          go_wp2_with (go_at_call 28; refine KA.out.mono ?_; clear KA; rintro e w8 ⟨rfl, h8, hk8⟩)
          refine ⟨⟨k + 1, by omega, by congr 1, h8.congr (fun _ _ => rfl) (fun u => by rw [Bool.eq_iff_iff]; simp; omega), (World.cell?_of_block (hk8.2 _ (by simp only; omega) (by simp only; omega))).trans LK.out⟩, by simp [intOf]; omega⟩
        · have hkn := Lib.hid (show k = v + 1 by omega)
          obtain ⟨W7, rfl⟩ : ∃ U, U = wr := ⟨_, rfl⟩
          have h7 : Dt w W7 lb n w.heap.size (w.heap.size + 1) (w.heap.size + 2) ((w.heap.size + 2) + 1 + 1) E' (dI (capD 0 (dstS E n v))) (base E n v 0) := hdk.congr (fun _ _ => rfl) fun u => by
            rw [base_zero, Bool.eq_iff_iff, decide_eq_true_eq, decide_eq_true_eq, hkn.out]
            omega
          generalize k = k38 at *
          clear hdk
          go_wp2_with fail
          have hzW := h7.sz
          have h8 := h7.keep ((bel_box (.cells #[.int .i64 1] 3)).mono (by omega : w.heap.size + 2 + 1 + 1 + 1 ≤ W7.heap.size))
          have p8 : Blk (W7.alloc (.cells #[.int .i64 1] 3)) W7.heap.size 3 [.int .i64 1] := Blk.new W7 [.int .i64 1] _
          have l8 : (W7.alloc (.cells #[.int .i64 1] 3)).cell? ⟨w.heap.size + 2 + 1, 0, none⟩ = some (.int .i64 (v : Int)) := cell_al _ lk
          have q8 := p8.cell (i := 0) rfl
          have f8 := p8.frozen 0
          have z8 : W7.heap.size < (W7.alloc (.cells #[.int .i64 1] 3)).heap.size := by simp
          generalize W7.alloc (.cells #[.int .i64 1] 3) = W8 at *
          generalize W7.heap.size = px0 at *
          clear h7 p8 lk
          have HEn := Lib.hid hEn
          clear hL hT hEn hEl
          go_loopw [10, 12] (fun a p wr => ∃ (k : Nat) (lv : List Nat) (A : Option Addr) (c px : Nat), a = .slice A lv.length c ∧ p = .pointer (some ⟨px, 0, none⟩) ∧ k ≤ far ∧ lv.length ≤ n ∧ Rd wr wr.heap.size A (vV lv) ∧ Hid (∀ ad, A = some ad → ad.block ≠ w.heap.size ∧ ad.block ≠ w.heap.size + 2) ∧ Hid (∀ x, x ∈ lv ↔ Ds E n v v k x) ∧ w.heap.size + 2 + 1 + 1 < px ∧ wr.cell? ⟨px, 0, none⟩ = some (.int .i64 ((k + 1 : Nat) : Int)) ∧ wr.frozen? ⟨px, 0, none⟩ = false ∧ Dt w wr lb n w.heap.size (w.heap.size + 1) (w.heap.size + 2) (w.heap.size + 2 + 1 + 1) E' (dI (capD k (dstS E n v))) (base E n v k)) (fun _ p wr => far + 2 - cellN wr p)
          case atStart => exact ⟨0, [v], some ⟨w.heap.size + 2 + 1, 0, none⟩, 1, px0, rfl, rfl, by omega, by simp; omega, fun _ => ⟨_, rfl, by simp only; omega, fun j u hu => by
              rcases j with _ | j
              · simp [vV] at hu
                rw [add_zero', ← hu]
                exact l8
              · simp [vV] at hu⟩, Lib.hid fun ad e => by
              injection e with e
              rw [← e]
              simp only
              omega, Lib.hid fun x => by rw [List.mem_singleton, Ds.zero_iff], by omega, q8, f8, h8⟩
          case round =>
            obtain ⟨k, lv, A, c, px, rfl, rfl, hkf, hlv, hRd, hAne, hlvm, hpx, cpx, fpx, hdt⟩ := hrel
            clear h8 l8 q8 f8 z8
            have R0 : ∀ W, W = wr → (capD k (dstS E n v) = capD far (dstS E n v)) → ((∃ db, (Ending.returned (sl w.heap.size n)) = .returned (sl db n) ∧ w.heap.size ≤ db ∧ Blk W db 3 (rowI n (dI (capD far (dstS E n v))))) ∧ Below w.heap.size w W) := by
              rintro W rfl hc
              exact ⟨⟨_, rfl, Nat.le_refl _, by rw [← hc]; exact hdt.di⟩, hdt.low⟩
            have R0 := Lib.hid R0
            have cdc := hdt.dc
            by_cases hfk : k + 1 ≤ far
            · have dfk : ((k + 1 : Nat) : Int) ≤ (far : Int) := by omega
              by_cases hl0 : lv = []
              · have R1 := Lib.hid (R0.out wr rfl (cap_stop (fun x hx => by have := (hlvm.out x).2 hx; rw [hl0] at this; cases this) hkf))
                subst hl0
                clear hdt hRd R0
                go_wp2
                go_ret
                exact R1.out
              · have hl1 : 0 < lv.length := List.length_pos_iff.2 hl0
                have dl1 : (0 : Int) < (lv.length : Int) := by omega
                go_wp2_with fail
                have hpxz : px < wr.heap.size := World.block_lt_of_cell? wr _ cpx
                have hbb : Below wr.heap.size wr (wr.alloc (.cells #[.slice none 0 0] 24)) := bel_box _
                have hpb := Blk.new wr [Value.slice none 0 0] 24
                have h9 : Df w (wr.alloc (.cells #[.slice none 0 0] 24)) lb n w.heap.size (w.heap.size + 1) (w.heap.size + 2) (w.heap.size + 2 + 1 + 1) px wr.heap.size (wr.heap.size + 1) E' (dI (capD k (dstS E n v))) (base E n v k) (k + 1) [] :=
                  ⟨(hdt.keep (hbb.mono (by have := hdt.sz; omega))).congr (fun _ _ => rfl) (fun u => by simp), (hbb.cell (p := ⟨px, 0, none⟩) hpxz).trans cpx, ⟨_, hpb.cell (i := 0) rfl, World.ownsRow_nil _ _ _ _⟩, hpb.frozen 0, by simp, by simp, hpx, hpxz, by omega⟩
                have hRd9 : ∀ j (x : Nat), lv[j]? = some x → ∃ ad, A = some ad ∧ (wr.alloc (.cells #[.slice none 0 0] 24)).cell? (ad.add j) = some (.int .i64 (x : Int)) ∧ ad.block < wr.heap.size := fun j x hx => by
                  obtain ⟨ad, hA, hab, hcell⟩ := hRd (by intro e; unfold vV at e; simp at e; exact hl0 e)
                  exact ⟨ad, hA, cell_al _ (hcell j _ (by unfold vV; rw [List.getElem?_map, hx]; rfl)), hab⟩
                have HRd := Lib.hid hRd9
                have HDT := Lib.hid hdt
                have HCX : Hid (cellN wr (.pointer (some ⟨px, 0, none⟩)) = k + 1) := Lib.hid (by unfold cellN; simp only; rw [cpx]; simp [intOf]; try omega)
                have hlow := hdt.low
                have hz9 : (wr.alloc (.cells #[.slice none 0 0] 24)).heap.size = wr.heap.size + 1 := by simp
                clear hRd hRd9 hdt hpb R0 cdc cpx fpx hbb
                generalize wr.alloc (.cells #[.slice none 0 0] 24) = W9 at *
                generalize wr.heap.size = pf at *
                go_loopw [57] (fun i wq => ∃ (j : Nat) (F : List Nat), j ≤ lv.length ∧ i = .int .i64 (j : Int) ∧ Df w wq lb n w.heap.size (w.heap.size + 1) (w.heap.size + 2) (w.heap.size + 2 + 1 + 1) px pf (pf + 1) E' (dI (capD k (dstS E n v))) (base E n v k) (k + 1) F ∧ Hid (∀ x, x ∈ F ↔ base E n v k x = false ∧ ∃ u ∈ lv.take j, E' u x = true) ∧ Hid (F.Nodup ∧ ∀ x ∈ F, x < n) ∧ Hid (Kq (pf + 1) (Sd w.heap.size (w.heap.size + 2) pf) W9 wq)) (fun i _ => lv.length - (intOf i).toNat)
                case atStart => exact ⟨0, [], by omega, rfl, h9, Lib.hid fun x => by simp, Lib.hid ⟨List.nodup_nil, fun x hx => by cases hx⟩, Lib.hid (Kq.refl _ _ _)⟩
                case round =>
                  obtain ⟨j, F, hj, rfl, hdf, hFm, hFn, hkq⟩ := hrel
                  clear h9
                  by_cases hjl : j < lv.length
                  · have djl : (j : Int) < (lv.length : Int) := by omega
                    have hgj : lv[j]? = some lv[j] := List.getElem?_eq_getElem hjl
                    obtain ⟨u0, hu0⟩ : ∃ u0, lv[j] = u0 := ⟨_, rfl⟩
                    rw [hu0] at hgj
                    obtain ⟨ad, rfl, hcad, hadb⟩ := HRd.out j u0 hgj
                    obtain ⟨hn1, hn2⟩ := hAne.out ad rfl
                    have hcq := hkq.out.cell hcad (by rw [add_block]; omega) (fun x => by rw [add_block] at x; rcases x with x | x | x <;> omega)
                    have hds := (hlvm.out u0).1 (List.mem_of_getElem? hgj)
                    have hu0n : u0 < n := by
                      cases k with
                      | zero => rw [Ds.zero_iff.1 hds]; exact hv
                      | succ k => exact (Ds.succ_iff.1 hds).1
                    have KE := Lib.hid (dist_visit w wr lb n w.heap.size (w.heap.size + 1) (w.heap.size + 2) (w.heap.size + 2 + 1 + 1) px pf (pf + 1) (k + 1) u0 E' (dI (capD k (dstS E n v))) (base E n v k) F hn HEn.out hu0n hFn.out hdf)
                    have csc := hdf.dt.sc
                    have HT := Lib.hid (take_succ_of hgj)
                    clear hdf hcad hgj hds hu0
                    go_wp2_with (go_at_call 50; refine KE.out.mono ?_; clear KE; rintro e w10 ⟨rfl, F1, g1, g2, g3, g4⟩)
                    refine ⟨⟨j + 1, F1, by omega, by congr 1, g3, Lib.hid fun x => ?_, Lib.hid g2, Lib.hid (hkq.out.trans g4)⟩, by simp [intOf]; omega⟩
                    rw [g1 x, hFm.out x, HT.out]
                    constructor
                    · rintro (⟨y1, u, y2, y3⟩ | ⟨y1, y2⟩)
                      · exact ⟨y1, u, List.mem_append_left _ y2, y3⟩
                      · exact ⟨y1, u0, by simp, y2⟩
                    · rintro ⟨y1, u, y2, y3⟩
                      rcases List.mem_append.1 y2 with y2 | y2
                      · exact .inl ⟨y1, u, y2, y3⟩
                      · rw [List.mem_singleton.1 y2] at y3
                        exact .inr ⟨y1, y3⟩
                  · obtain rfl : j = lv.length := by omega
                    obtain ⟨Wq, rfl⟩ : ∃ U, U = wr := ⟨_, rfl⟩
                    obtain ⟨V, cV, hown⟩ := hdf.fc
                    obtain ⟨A2, c2, rfl⟩ := own_form hown
                    have hF2 : ∀ x, x ∈ F ↔ Ds E n v v (k + 1) x := fun x => by
                      rw [hFm.out x, new_iff, List.take_length]
                      constructor
                      · rintro ⟨y1, u, y2, y3⟩
                        exact ⟨y1, HEn.out u x y3, u, (HE'.out u x) ▸ y3, (hlvm.out u).1 y2⟩
                      · rintro ⟨y1, _, u, y2, y3⟩
                        exact ⟨y1, u, (hlvm.out u).2 y3, (HE'.out u x).trans y2⟩
                    have hdt2 : Dt w Wq lb n w.heap.size (w.heap.size + 1) (w.heap.size + 2) (w.heap.size + 2 + 1 + 1) E' (dI (capD (k + 1) (dstS E n v))) (base E n v (k + 1)) := hdf.dt.congr (fun x _ => dI_succ hF2) (fun x => base_succ hF2)
                    have cpx := hdf.xc
                    have hFl := hdf.len
                    have hbz := hdf.bz
                    have hA2 : ∀ ad, A2 = some ad → ad.block ≠ w.heap.size ∧ ad.block ≠ w.heap.size + 2 := fun ad e => by
                      have h1 := hown.lt ad.block (by rw [e]; rfl)
                      omega
                    have HF2 := Lib.hid hF2
                    have HA2 := Lib.hid hA2
                    have HD2 := Lib.hid hdt2
                    have HO2 := Lib.hid hown
                    clear hdf hFm hFn hkq hF2 hA2 hdt2 hown
                    go_wp2
                    have hbx : Below Wq.heap.size Wq (Wq.alloc (.cells #[.int .i64 ((k : Int) + 1 + 1)] 3)) := bel_box _
                    have hnx := Blk.new Wq [Value.int .i64 ((k : Int) + 1 + 1)] 3
                    refine ⟨⟨k + 1, F, A2, c2, Wq.heap.size, rfl, rfl, hfk, hFl, ((Rd.of_own HO2.out).below hbx).more (by simp), HA2, HF2, by omega, hnx.cell (i := 0) (by simp), hnx.frozen 0, HD2.out.keep (hbx.mono (by omega))⟩, ?_⟩
                    rw [HCX.out]
                    have e2 : cellN (Wq.alloc (.cells #[.int .i64 ((k : Int) + 1 + 1)] 3)) (.pointer (some ⟨Wq.heap.size, 0, none⟩)) = k + 2 := by
                      unfold cellN
                      simp [intOf]
                      try omega
                    rw [e2]
                    omega
            · have R1 := Lib.hid (R0.out wr rfl (by rw [show k = far by omega]))
              have dfk : ¬ ((k + 1 : Nat) : Int) ≤ (far : Int) := by omega
              clear hdt hRd R0
              generalize hk1 : ((k + 1 : Nat) : Int) = k1 at *
              go_wp2
              go_ret
              exact R1.out
end gr
end Go.Proofs.YtahffafobdiogaaDoor
