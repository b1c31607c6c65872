/- Texts of one chain, in one file. -/
import Derived.Deep.RegionWith
import Derived.Deep.RegionHeld3
import Derived.Test.YtjodffbekipnlaaQC
/- combined of the program: a single case, at capacity 1. -/
namespace Go.Proofs.Ytjodffbekipnlaa
set_option linter.unusedVariables false
set_option linter.unusedSimpArgs false
open Go.RowKit Go.Sort
namespace fu
set_option maxHeartbeats 8000000 in
set_option maxRecDepth 100000 in
theorem combined_one (A : Option Addr) (c : Nat) (hc1 : c = 1) (a : Pt) (q : List Pt) (w : World) (B H0 : Nat) (hB : B ≤ H0) (hH : H0 ≤ w.heap.size) (hQ : RdQ w (fun b => b < w.heap.size) 1 PtC ⟨A, c, a :: q⟩) (hP : ∀ t ∈ a :: q, RpP w (fun b => B ≤ b ∧ b < H0) t) (hF : ∀ t ∈ a :: q, Ful HK t.ct) (ha : a.s.k = 3) (hrun : run HK a.ct (pcs q)) (hw : wgt (pcs (a :: q)) ≤ 200000)
    (KJ : Hid (∀ (r : Rw Pt) (m : Nat) W, Below w.heap.size w W → RdQ W (fun b => b < W.heap.size) 1 PtC r → (∀ t ∈ r.l, RpP W (fun b => B ≤ b ∧ b < H0) t) → (∀ t ∈ r.l, Ful HK t.ct) → r.l.length = m → wgt (pcs r.l) < wgt (pcs (a :: q)) → Calls Try.prog 21 #[.slice r.A m r.c] W (NewJ B H0 (norm HK (pcs r.l)) W))) :
    Calls Try.prog 26 #[.slice A (q.length + 1) c] w (NewC B H0 (cmb HK a.ct (pcs q)) w) := by
  subst hc1
  obtain ⟨i0, hi, iz, is, ib⟩ := info_parts arInfo
  obtain ⟨i1, hi1, iz1, is1, ib1⟩ := info_parts ptInfo
  have hsz1 : (Try.prog.info? 52).map (·.size) = some 1 := by rw [hi1]; show some i1.size = _; rw [is1]
  obtain ⟨ad, hA, had⟩ := hQ.1 (by intro e; cases e)
  simp only at hA
  subst hA
  have hpa := (hP a List.mem_cons_self).of
  have hc3 := hQ.2.1 ad 0 a rfl rfl
  have hc0 : w.cell? ad = some (.pointer (some ⟨a.p, 0, none⟩)) := by
    have h1 : w.cell? (ad.add (0 * 1)) = some (.pointer (some ⟨a.p, 0, none⟩)) := hc3
    rwa [Nat.zero_mul, add_zero'] at h1
  have hap := hpa.1
  have hPC : ∀ t ∈ a :: q, ∀ W, Below H0 w W → PC W t := fun t ht W hb => ((hP t ht).of.2.1).keep fun p hp => hb.cell (by rw [hp]; exact (hP t ht).of.1.2)
  have hrm := run_mem HK (pcs q) a.ct hrun (by rw [pt_c]; exact decide_eq_true ha)
  have h3 : ∀ t ∈ a :: q, t.s.k = 3 ∧ t.br.l.length = a.br.l.length := fun t ht => by
    have h1 := hrm t.ct (by
      rcases List.mem_cons.1 ht with rfl | ht
      · exact List.mem_cons_self
      · exact List.mem_cons_of_mem _ (List.mem_map.2 ⟨t, ht, rfl⟩))
    have h2 : t.s.k = 3 := by have := h1.1; rw [pt_c] at this; exact of_decide_eq_true this
    refine ⟨h2, ?_⟩
    have h4 := h1.2
    rw [pt_br h2, pt_br ha, List.length_map, List.length_map] at h4
    exact h4
  have hbn := (hpa.2.2.2.2.2.2.1 ha).1
  have hw1 := wgt_case (show HK.c a.ct.h = true by rw [pt_c]; exact decide_eq_true ha)
  have hwa : wgt1 a.ct ≤ wgt (pcs (a :: q)) := wgt_mem List.mem_cons_self
  rw [pt_br ha, List.length_map] at hw1
  have hbl : a.br.l.length ≤ 200000 := by omega
  have hql : q.length ≤ 200000 := by
    have := wgt_len (pcs (a :: q))
    rw [pcs_len, List.length_cons] at this
    omega
  obtain ⟨m0, m1, m2, m3, m4, m5, m6, m7, m8, m9, m10, m11⟩ := (hPC a List.mem_cons_self (w.alloc zlit) ((bel_box (w := w) zlit).mono hH)).1
  have m12 := (hPC a List.mem_cons_self (cW w a.s) ((cW_low w a.s).mono hH)).2.1
  have hcA : (w.alloc zlit).cell? ad = some (.pointer (some ⟨a.p, 0, none⟩)) := (bel_box (w := w) zlit).cell (World.block_lt_of_cell? w _ hc0) |>.trans hc0
  have hcB : (cW w a.s).cell? ad = some (.pointer (some ⟨a.p, 0, none⟩)) := ((cW_low w a.s).cell (World.block_lt_of_cell? w _ hc0)).trans hc0
  have dn : (0 : Int) < ((q.length + 1 : Nat) : Int) := by omega
  have hcap : q.length + 1 ≤ 1 := hQ.2.2.2
  have hbrQ := hpa.2.2.2.1
  have hbrs := hpa.2.2.2.2.1
  have hbrP := hpa.2.2.2.2.2.1
  obtain ⟨A1, hA1⟩ : ∃ A1, (if 1 = 1 then some ad else some (ad.add 1)) = A1 := ⟨_, rfl⟩
  have hq1 : RdQ w (fun b => b < w.heap.size) 1 PtC ⟨A1, 1 - 1, q⟩ := by
    by_cases e : 1 = 1
    · have h2 : q = [] := List.length_eq_zero_iff.1 (by omega)
      rw [h2]
      exact RdQ.none_
    · rw [← hA1, if_neg e]
      exact hQ.drop 1
  have HQ1 := Lib.hid hq1
  have HPC := Lib.hid hPC
  have HP := Lib.hid hP
  have HF := Lib.hid hF
  have H3 := Lib.hid h3
  have HRM := Lib.hid hrm
  have HBN := Lib.hid hbn
  have HBR := Lib.hid hbrQ
  have HPA := Lib.hid hpa.2.2.1
  have HBS := Lib.hid (And.intro hbrs hbrP)
  have HRUN := Lib.hid hrun
  have HA := Lib.hid ha
  have HWG := Lib.hid hw
  have HRES : Hid (∀ W, Below (cW w a.s).heap.size (cW w a.s) W → BF W w.heap.size zz ∧ BF W (w.heap.size + 1) (a.s.wb ⟨none, 0, []⟩)) := Lib.hid fun W hb => ⟨(cW_res w a.s).keep hb, by rw [wb_self _ hbn]; exact (cW_box w a.s).keep hb⟩
  have HLOW := Lib.hid (cW_low w a.s)
  have HSZ := cW_size w a.s
  clear hq1 hPC hP hF h3 hrm hbn hbrQ hbrs hbrP hpa hQ hw1 hwa hc0 hc3 hrun ha hw hap
  go_enter Try.func26, Try.ntmps26
  go_wp2
  go_loopw [22] (fun i wr => ∃ (k : Nat) (L : List (Rw Zt)) (A2 : Option Addr) (c2 : Nat), k ≤ a.br.l.length ∧ i = .int .i64 (k : Int) ∧ L.length = k ∧ Hid (BF wr w.heap.size zz) ∧ Hid (BF wr (w.heap.size + 1) (a.s.wb ⟨A2, c2, L⟩)) ∧ Hid ((L.map fun b => cts b.l) = (cmb HK a.ct (pcs q)).br.take k) ∧ Hid (wr.ownsRow (w.heap.size + 2) 22 1 (.slice A2 k c2) k (aC L)) ∧ Hid (∀ b ∈ L, RdQ wr (Oq B H0 (w.heap.size + 2) wr (.slice A2 k c2)) 12 ZC b ∧ ∀ y ∈ b.l, RzP wr (Oq B H0 (w.heap.size + 2) wr (.slice A2 k c2)) y) ∧ Hid (Below w.heap.size w wr) ∧ w.heap.size + 2 ≤ wr.heap.size) (fun i _ => a.br.l.length - (intOf i).toNat)
  case atStart => exact ⟨0, [], none, 0, by omega, rfl, rfl, Lib.hid (HRES.out _ (Below.refl _ _)).1, Lib.hid (HRES.out _ (Below.refl _ _)).2, Lib.hid rfl, Lib.hid (World.ownsRow_nil _ _ _ _), Lib.hid (by simp), HLOW, by rw [← HSZ]; exact Nat.le_refl _⟩
  case round =>
    obtain ⟨k, L, A2, c2, hk, rfl, hL, HZ, HX, HC, HO, HE, HLW, hsw⟩ := hrel
    rw [← hL] at HO HE
    have hLb : L.length ≤ 200000 := by omega
    have HKL := Lib.hid hL
    clear hL
    clear m0 m1 m2 m3 m4 m5 m6 m7 m8 m9 m10 m11 m12 hcA hcB HRES HLOW HSZ dn
    by_cases hlt : k < a.br.l.length
    · have d0 : (k : Int) < (a.br.l.length : Int) := by omega
      obtain ⟨ad2, hA2, had2⟩ := HBR.out.1 (by intro e; rw [e] at hlt; simp at hlt)
      have hb : a.br.l[k]? = some a.br.l[k] := List.getElem?_eq_getElem hlt
      have hbm : a.br.l[k] ∈ a.br.l := List.getElem_mem hlt
      generalize a.br.l[k] = b at hb hbm
      have hbc : w.cell? (ad2.add (k * 1)) = some (.slice b.A b.l.length b.c) := HBR.out.2.1 ad2 k b hA2 hb
      rw [Nat.mul_one] at hbc
      have e0 : wr.cell? (ad2.add k) = some (.slice b.A b.l.length b.c) := (HLW.out.cell (World.block_lt_of_cell? w _ hbc)).trans hbc
      have hcb := cmb_br HK (pcs q) a.ct (by rw [pt_c]; exact decide_eq_true HA.out) HRUN.out k (by rw [pt_br HA.out, List.length_map]; exact hlt)
      have hcb2 : (cmb HK a.ct (pcs q)).br[k]? = some (norm HK (col k (pcs (a :: q)))) := hcb
      have HCB := Lib.hid hcb2
      have hbQ := HBS.out.1 b hbm
      have hcs : ∀ t ∈ pcs (a :: q), HK.c t.h = true := fun t ht => (HRM.out t ht).1
      have hwc := wgt_col k (pcs (a :: q)) hcs
      have hwg := HWG.out
      have hcl : ∀ j, (col k (pcs (a :: q.take j))).length ≤ 200000 := fun j => by
        have h1 := wgt_len (col k (pcs (a :: q.take j)))
        have h2 := wgt_col k (pcs (a :: q.take j)) (fun t ht => hcs t (by
          obtain ⟨u, hu, rfl⟩ := List.mem_map.1 ht
          refine List.mem_map_of_mem ?_
          rcases List.mem_cons.1 hu with rfl | hu
          · exact List.mem_cons_self
          · exact List.mem_cons_of_mem _ (List.mem_of_mem_take hu)))
        have h3 := wgt_cut (pcs (a :: q)) (j + 1)
        rw [← pcs_take] at h3
        have h4 : wgt (pcs ((a :: q).take (j + 1))) = wgt (pcs (a :: q.take j)) := rfl
        omega
      have hb0 : pcs b.l = col k (pcs [a]) := by
        show _ = a.ct.br.getD k [] ++ []
        rw [pt_getD HA.out hb, List.append_nil]
      have hbl2 : b.l.length ≤ 200000 := by
        have h1 := hcl 0
        rw [List.take_zero, ← hb0, pcs_len] at h1
        exact h1
      have hbP : ∀ t ∈ b.l, RpP w (fun b => B ≤ b ∧ b < H0) t := fun t ht => HBS.out.2 b hbm t ht
      have hmk := make_pts b.l.length (by omega)
      have HCL := Lib.hid hcl
      have HB0 := Lib.hid hb0
      have HBQ := Lib.hid hbQ
      have HBP := Lib.hid hbP
      have HWC := Lib.hid hwc
      have hmin : (pC b.l).length = Nat.min b.l.length b.l.length := by rw [pC_length]; exact (Nat.min_self _).symm
      have hbw : Below w.heap.size w wr := HLW.out
      clear hcb hcb2 hbQ hcs hwc hwg hcl hb0 hbP hbm hb hbc
      rw [hA2]
      obtain ⟨wo, rfl⟩ : ∃ wo, wo = wr := ⟨_, rfl⟩
      have hbmW : Below w.heap.size w (wo.alloc (.cells (madeCells #[.pointer none] b.l.length) 52)) := hbw.trans ((bel_box (w := wo) _).mono hbw.size)
      obtain ⟨wa, hcpr, hcpo, hcpb⟩ := copy_pts b wo (pt_rdv (HBQ.out.keep oneB_Pt fun p hp => hbmW.cell (by have := hp.2; omega))) (by unfold maxLen; omega)
      have HCPO := Lib.hid hcpo
      have HCPB := Lib.hid hcpb
      clear hbmW hcpo hcpb hmin
      clear hA1
      go_wp2
      go_loopw [6, 36] (fun v i W => ∃ (j : Nat) (M : List Pt) (A3 : Option Addr) (c3 : Nat), j ≤ q.length ∧ i = .int .i64 (j : Int) ∧ v = .slice A3 M.length c3 ∧ Hid (pcs M = col k (pcs (a :: q.take j))) ∧ Hid (∀ t ∈ M, RpP w (fun b => B ≤ b ∧ b < H0) t) ∧ Hid (W.ownsRow wo.heap.size 52 1 (.slice A3 M.length c3) M.length (pC M)) ∧ Below wo.heap.size wo W) (fun _ i _ => q.length - (intOf i).toNat)
      case atStart => exact ⟨0, b.l, some ⟨wo.heap.size, 0, none⟩, b.l.length, by omega, rfl, rfl, by rw [List.take_zero]; exact HB0, HBP, HCPO, HCPB.out⟩
      case round =>
        obtain ⟨j, M, A3, c3, hj, rfl, rfl, HMC, HMP, HMO, hbi⟩ := hrel
        clear HCPO HCPB HB0 HBP
        have hbw2 : Below w.heap.size w wr := hbw.trans (hbi.mono hbw.size)
        by_cases hlt2 : j < q.length
        · exfalso
          omega
        · obtain rfl : j = q.length := by omega
          have hM : pcs M = col k (pcs (a :: q)) := by
            have h1 := HMC.out
            rw [List.take_length] at h1
            exact h1
          have hMl : M.length ≤ 200000 := by
            have h1 := HCL.out q.length
            rw [List.take_length, ← hM, pcs_len] at h1
            exact h1
          have hwt : wgt (pcs M) < wgt (pcs (a :: q)) := by
            have h1 := HWC.out
            rw [← hM, pcs_len, List.length_cons] at h1
            omega
          have hful : ∀ t ∈ M, Ful HK t.ct := fun t ht => by
            refine ful_col HK (ts := pcs (a :: q)) (fun u hu => ?_) (fun u hu => (HRM.out u hu).1) k t.ct (by rw [← hM]; exact List.mem_map_of_mem ht)
            obtain ⟨v, hv, rfl⟩ := List.mem_map.1 hu
            exact HF.out v hv
          have KK : Hid (∀ W, Below wr.heap.size wr W → Calls Try.prog 21 #[.slice A3 M.length c3] W (NewJ B H0 (norm HK (col k (pcs (a :: q)))) W)) := Lib.hid fun W hW => by
            have hb5 : Below w.heap.size w W := hbw2.trans (hW.mono hbw2.size)
            have h1 := KJ.out ⟨A3, c3, M⟩ M.length W hb5 ((own_rdp (own_keepZ HMO.out hW) (by unfold maxLen; omega)).mono fun b hb => hb.2.1) (fun t ht => (HMP.out t ht).keep (fun b hb => hb) fun p hp => hb5.cell (by have := hp.2; omega)) hful rfl hwt
            rw [hM] at h1
            exact h1
          have HXW : Hid (∀ W, Below wr.heap.size wr W → BF W w.heap.size zz ∧ BF W (w.heap.size + 1) (a.s.wb ⟨A2, c2, L⟩) ∧ W.ownsRow (w.heap.size + 2) 22 1 (.slice A2 L.length c2) L.length (aC L) ∧ Below wo.heap.size wo W) := Lib.hid fun W hW => by
            have hb5 : Below wo.heap.size wo W := bel_step hbi hW
            exact ⟨HZ.out.keep hb5, HX.out.keep hb5, own_keepZ HO.out hb5, hb5⟩
          have hx0 := HXW.out wr (Below.refl _ _)
          have c11 : wr.cell? ⟨w.heap.size + 1, 11, none⟩ = some (.slice A2 L.length c2) := hx0.2.1.bx.2.2.2.2.2.2.2.2.2.2.2
          have HNL : Hid ((norm HK (col k (pcs (a :: q)))).length ≤ 200000) := Lib.hid (by
            have h1 := wgt_len (norm HK (col k (pcs (a :: q))))
            have h2 : wgt (norm HK (col k (pcs (a :: q)))) ≤ wgt (col k (pcs (a :: q))) := num_norm HK _ _ _
            have h3 := HWC.out
            have h4 := HWG.out
            omega)
          clear hM hwt hful hx0 HMP HMO HCL
          go_wp2
          go_region_law (first | ((refine step_append_rdZ _ rfl _ _ 36 rfl (w.heap.size + 2) 22 i0 (.slice none 0 0) 1 24 Try.underlying36 hi iz is ib rfl (by decide) _ L.length (aC L) rfl (own_keepZ (HXW.out w6 hb6w).2.2.1 ?_) (some ⟨w6.heap.size, 0, none⟩) 1 1 [.slice A6 L6.length c6] rfl rfl (fun _ => ⟨_, rfl, rowA w6 _ _⟩) (a_one ⟨A6, c6, L6⟩) (by unfold maxLen; omega) (by omega) ?_ ?_); (focus ((repeat (first | (with_reducible exact Below.refl _ _) | (with_reducible assumption) | (with_reducible exact bel_box _) | (with_reducible refine bel_step ?_ (by with_reducible assumption)) | (with_reducible refine Below.drew ?_) | (with_reducible refine below_drewN ?_ _) | (with_reducible refine bel_alloc ?_ _))); done)); (focus (have h1 := (HXW.out w6 hb6w).2.2.2.size; rw [World.size_alloc]; omega)); intro v3 w3 hown3 hgrow3 hat3; obtain ⟨A5, c5, rfl⟩ := own_formZ hown3; have hX3 : BF w3 (w.heap.size + 1) (a.s.wb ⟨A2, c2, L⟩) := ((HXW.out w6 hb6w).2.1.keep (bel_box _)).grown hgrow3 (fun e => absurd ((HXW.out w6 hb6w).2.2.1.lt _ e).1 (by omega)); have c11'' : w3.cell? ⟨w.heap.size + 1, 11, none⟩ = some (.slice A2 L.length c2) := hX3.bx.2.2.2.2.2.2.2.2.2.2.2; have f11 := hX3.fr 11 (by decide); have HX3 := Lib.hid hX3; clear hX3) | (go_simp; go_at_call 21; (with_reducible refine (KK.out _ ?_).mono ?_); (focus ((repeat (first | (with_reducible exact Below.refl _ _) | (with_reducible assumption) | (with_reducible exact bel_box _) | (with_reducible refine bel_step ?_ (by with_reducible assumption)) | (with_reducible refine Below.drew ?_) | (with_reducible refine below_drewN ?_ _) | (with_reducible refine bel_alloc ?_ _))); done)); rintro e w6 ⟨A6, c6, L6, rfl, hLc, hLo, hLr, hb6⟩; have hb6w : Below wr.heap.size wr w6 := (by repeat (first | (with_reducible exact Below.refl _ _) | (with_reducible assumption) | (with_reducible exact bel_box _) | (with_reducible refine bel_step ?_ (by with_reducible assumption)) | (with_reducible refine Below.drew ?_) | (with_reducible refine below_drewN ?_ _) | (with_reducible refine bel_alloc ?_ _))); have HLC := Lib.hid (And.intro hLc (And.intro hLo hLr)); clear hLc hLo hLr; have c11' : w6.cell? ⟨w.heap.size + 1, 11, none⟩ = some (.slice A2 L.length c2) := (HXW.out w6 hb6w).2.1.bx.2.2.2.2.2.2.2.2.2.2.2; have c11a := fun o => cell_alc o c11'))
          all_goals
            go_wp2
            have hS := HXW.out w6 hb6w
            have hNN : w.heap.size + 2 ≤ wo.heap.size := hsw
            obtain ⟨s1, s2, s3, s4, s5⟩ := oq_step (B := B) (H0 := H0) (Nat.le_trans hH (Nat.le_add_right _ _)) hNN HO.out hS.2.2.2 hgrow3 hat3
            have hl1 : (L ++ [(⟨A6, c6, L6⟩ : Rw Zt)]).length = L.length + 1 := by simp
            have e1 : aC L ++ [Value.slice A6 L6.length c6] = aC (L ++ [⟨A6, c6, L6⟩]) := by simp [aC]
            rw [e1] at hown3
            have hX9 : BF (sts w3 (w.heap.size + 1) [(11, .slice A5 (L.length + 1) c5)]) (w.heap.size + 1) (a.s.wb ⟨A5, c5, L ++ [⟨A6, c6, L6⟩]⟩) := HX3.out.set _ (by intro p hp; simp at hp; subst hp; exact (by decide : (11 : Nat) < 12)) fun i hi => by
              rcases i with _ | _ | _ | _ | _ | _ | _ | _ | _ | _ | _ | _ | i
              all_goals first | rfl | omega | skip
              show some (Value.slice A5 (L.length + 1) c5) = some (.slice A5 (L ++ [(⟨A6, c6, L6⟩ : Rw Zt)]).length c5)
              rw [hl1]
            have hZ9 : BF (sts w3 (w.heap.size + 1) [(11, .slice A5 (L.length + 1) c5)]) w.heap.size zz := ((hS.1.keep (bel_box _)).grown hgrow3 (fun e => absurd (hS.2.2.1.lt _ e).1 (by omega))).other _ (by omega)
            have hO9 : (sts w3 (w.heap.size + 1) [(11, .slice A5 (L.length + 1) c5)]).ownsRow (w.heap.size + 2) 22 1 (.slice A5 (L.length + 1) c5) (L.length + 1) (aC (L ++ [⟨A6, c6, L6⟩])) := ownsRow_setCell_below hown3 (a := ⟨w.heap.size + 1, 11, none⟩) (Nat.lt_succ_self _) _
            have hz9 : (sts w3 (w.heap.size + 1) [(11, .slice A5 (L.length + 1) c5)]).heap.size = w3.heap.size := sts_size _ _ _
            have kk : ∀ p : Addr, Oq B H0 (w.heap.size + 2) w3 (.slice A5 (L.length + 1) c5) p.block → (sts w3 (w.heap.size + 1) [(11, .slice A5 (L.length + 1) c5)]).cell? p = w3.cell? p := fun p hp => sts_other _ _ _ _ (by rcases hp with hp | hp <;> omega)
            have uu : ∀ b, Oq B H0 (w.heap.size + 2) w3 (.slice A5 (L.length + 1) c5) b → Oq B H0 (w.heap.size + 2) (sts w3 (w.heap.size + 1) [(11, .slice A5 (L.length + 1) c5)]) (.slice A5 (L.length + 1) c5) b := fun b hb => hb.imp id fun hb => ⟨hb.1, by rw [hz9]; exact hb.2.1, hb.2.2⟩
            have hbW9 : Below w.heap.size w (sts w3 (w.heap.size + 1) [(11, .slice A5 (L.length + 1) c5)]) := sts_below (Nat.le_succ _) _ (HLW.out.trans (s5.mono (Nat.le_add_right _ _)))
            have hsz3 := s5.size
            have hszi := hbi.size
            have h6l : L6.length ≤ 200000 := by
              have h1 := congrArg List.length HLC.out.1
              rw [show (cts L6).length = L6.length from List.length_map _] at h1
              rw [h1]
              exact HNL.out
            have q1 := (own_rdq HLC.out.2.1 (by unfold maxLen; omega))
            have q2 := HLC.out.2.2
            refine ⟨⟨k + 1, L ++ [(⟨A6, c6, L6⟩ : Rw Zt)], A5, c5, by omega, by congr 1, by rw [hl1, HKL.out], Lib.hid hZ9, Lib.hid hX9, Lib.hid ?_, Lib.hid (by rw [← HKL.out]; exact hO9), Lib.hid fun y hy => ?_, Lib.hid hbW9, by exact (by rw [hz9]; omega : w.heap.size + 2 ≤ (sts w3 (w.heap.size + 1) [(11, .slice A5 (L.length + 1) c5)]).heap.size)⟩, by simp [intOf]; omega⟩
            · rw [List.map_append, HC.out, take_succ_of HCB.out, List.map_singleton, HLC.out.1]
            · rw [← HKL.out]
              rcases List.mem_append.1 hy with hy | hy
              · exact ⟨((((HE.out y hy).1.keep oneB_Z s2).mono s1).keep oneB_Z kk).mono uu, fun t ht => (((HE.out y hy).2 t ht).keep s1 s2).keep uu kk⟩
              · obtain rfl : y = ⟨A6, c6, L6⟩ := by simpa using hy
                exact ⟨(((q1.keep oneB_Z fun p hp => s4 p (.inr ⟨Nat.le_trans hszi hp.1, hp.2.1⟩)).mono fun b hb => s3 b (.inr ⟨Nat.le_trans hszi hb.1, hb.2.1⟩)).keep oneB_Z kk).mono uu, fun t ht => ((q2 t ht).keep (fun b hb => s3 b (hb.imp id fun hb => ⟨Nat.le_trans hszi hb.1, hb.2.1⟩)) fun p hp => s4 p (hp.imp id fun hb => ⟨Nat.le_trans hszi hb.1, hb.2.1⟩)).keep uu kk⟩
    · obtain rfl : k = a.br.l.length := by omega
      have hcl := cmb_len HK (pcs q) a.ct HRUN.out
      rw [pt_br HA.out, List.length_map] at hcl
      have hC := HC.out
      rw [← hcl, List.take_length] at hC
      have HH : Hid ((a.s.wb ⟨A2, c2, L⟩).ct = cmb HK a.ct (pcs q)) := Lib.hid (by
        rw [wb_ct]
        have h1 := cmb_h HK (pcs q) a.ct
        rw [Pt.ct_h] at h1
        generalize cmb HK a.ct (pcs q) = s at h1 hC
        cases s with
        | mk h br =>
          have h1 : h = a.s.hd := h1
          have hC : (L.map fun b => cts b.l) = br := hC
          rw [h1, hC])
      have HLB : L.length ≤ 200000 := hLb
      clear hcl hC
      obtain ⟨n0, n1, n2, n3, n4, n5, n6, n7, n8, n9, n10, n11⟩ := HX.out.bx
      obtain ⟨s0, s1, s2, s3, s4, s5, s6, s7, s8, s9, s10, s11⟩ := HZ.out.bx
      have m0 : wr.cell? ⟨w.heap.size + 1, 0, none⟩ = some (.int .i64 a.s.k) := n0
      have m1 : wr.cell? ⟨w.heap.size + 1, 1, none⟩ = some (.string a.s.nm) := n1
      have m2 : wr.cell? ⟨w.heap.size + 1, 2, none⟩ = some (.int .i64 a.s.t) := n2
      have m3 : wr.cell? ⟨w.heap.size + 1, 3, none⟩ = some (.int .i64 a.s.r.k) := n3
      have m4 : wr.cell? ⟨w.heap.size + 1, 4, none⟩ = some (.int .i64 a.s.r.op) := n4
      have m5 : wr.cell? ⟨w.heap.size + 1, 5, none⟩ = some (.int .i64 a.s.r.t) := n5
      have m6 : wr.cell? ⟨w.heap.size + 1, 6, none⟩ = some (.int .i64 a.s.r.v) := n6
      have m7 : wr.cell? ⟨w.heap.size + 1, 7, none⟩ = some (.string a.s.r.nm) := n7
      have m8 : wr.cell? ⟨w.heap.size + 1, 8, none⟩ = some (.slice a.s.r.A a.s.r.ar.length a.s.r.c) := n8
      have m9 : wr.cell? ⟨w.heap.size + 1, 9, none⟩ = some (.slice a.s.ou.A a.s.ou.l.length a.s.ou.c) := n9
      have m10 : wr.cell? ⟨w.heap.size + 1, 10, none⟩ = some (.slice a.s.ar.A a.s.ar.l.length a.s.ar.c) := n10
      have m11 : wr.cell? ⟨w.heap.size + 1, 11, none⟩ = some (.slice A2 L.length c2) := n11
      have r0 : wr.cell? ⟨w.heap.size, 0, none⟩ = some (.int .i64 0) := s0
      have r1 : wr.cell? ⟨w.heap.size, 1, none⟩ = some (.string ⟨#[]⟩) := s1
      have r2 : wr.cell? ⟨w.heap.size, 2, none⟩ = some (.int .i64 0) := s2
      have r3 : wr.cell? ⟨w.heap.size, 3, none⟩ = some (.int .i64 0) := s3
      have r4 : wr.cell? ⟨w.heap.size, 4, none⟩ = some (.int .i64 0) := s4
      have r5 : wr.cell? ⟨w.heap.size, 5, none⟩ = some (.int .i64 0) := s5
      have r6 : wr.cell? ⟨w.heap.size, 6, none⟩ = some (.int .i64 0) := s6
      have r7 : wr.cell? ⟨w.heap.size, 7, none⟩ = some (.string ⟨#[]⟩) := s7
      have r8 : wr.cell? ⟨w.heap.size, 8, none⟩ = some (.slice none 0 0) := s8
      have r9 : wr.cell? ⟨w.heap.size, 9, none⟩ = some (.slice none 0 0) := s9
      have r10 : wr.cell? ⟨w.heap.size, 10, none⟩ = some (.slice none 0 0) := s10
      have r11 : wr.cell? ⟨w.heap.size, 11, none⟩ = some (.slice none 0 0) := s11
      clear n0 n1 n2 n3 n4 n5 n6 n7 n8 n9 n10 n11 s0 s1 s2 s3 s4 s5 s6 s7 s8 s9 s10 s11
      have q0 := HZ.out.fr 0 (by decide)
      have q1 := HZ.out.fr 1 (by decide)
      have q2 := HZ.out.fr 2 (by decide)
      have q3 := HZ.out.fr 3 (by decide)
      have q4 := HZ.out.fr 4 (by decide)
      have q5 := HZ.out.fr 5 (by decide)
      have q6 := HZ.out.fr 6 (by decide)
      have q7 := HZ.out.fr 7 (by decide)
      have q8 := HZ.out.fr 8 (by decide)
      have q9 := HZ.out.fr 9 (by decide)
      have q10 := HZ.out.fr 10 (by decide)
      have q11 := HZ.out.fr 11 (by decide)
      go_wp2
      have hres : BF (sts wr w.heap.size [(0, .int .i64 a.s.k), (1, .string a.s.nm), (2, .int .i64 a.s.t), (3, .int .i64 a.s.r.k), (4, .int .i64 a.s.r.op), (5, .int .i64 a.s.r.t), (6, .int .i64 a.s.r.v), (7, .string a.s.r.nm), (8, .slice a.s.r.A a.s.r.ar.length a.s.r.c), (9, .slice a.s.ou.A a.s.ou.l.length a.s.ou.c), (10, .slice a.s.ar.A a.s.ar.l.length a.s.ar.c), (11, .slice A2 L.length c2)]) w.heap.size (a.s.wb ⟨A2, c2, L⟩) := HZ.out.set _ (by intro p hp; simp only [List.mem_cons, List.not_mem_nil, or_false] at hp; rcases hp with rfl | rfl | rfl | rfl | rfl | rfl | rfl | rfl | rfl | rfl | rfl | rfl <;> simp) fun i hi => by
        rcases i with _ | _ | _ | _ | _ | _ | _ | _ | _ | _ | _ | _ | i
        all_goals first | rfl | omega
      obtain ⟨h0, h1, h2, h3, h4, h5, h6, h7, h8, h9, h10, h11⟩ := hres.bx
      dsimp only [sts] at h0 h1 h2 h3 h4 h5 h6 h7 h8 h9 h10 h11
      have g0 : _ = some (Value.int .i64 a.s.k) := h0
      have g1 : _ = some (Value.string a.s.nm) := h1
      have g2 : _ = some (Value.int .i64 a.s.t) := h2
      have g3 : _ = some (Value.int .i64 a.s.r.k) := h3
      have g4 : _ = some (Value.int .i64 a.s.r.op) := h4
      have g5 : _ = some (Value.int .i64 a.s.r.t) := h5
      have g6 : _ = some (Value.int .i64 a.s.r.v) := h6
      have g7 : _ = some (Value.string a.s.r.nm) := h7
      have g8 : _ = some (Value.slice a.s.r.A a.s.r.ar.length a.s.r.c) := h8
      have g9 : _ = some (Value.slice a.s.ou.A a.s.ou.l.length a.s.ou.c) := h9
      have g10 : _ = some (Value.slice a.s.ar.A a.s.ar.l.length a.s.ar.c) := h10
      have g11 : _ = some (Value.slice A2 L.length c2) := h11
      clear h0 h1 h2 h3 h4 h5 h6 h7 h8 h9 h10 h11
      refine bodyPost_ret (v := .agg #[.int .i64 a.s.k, .string a.s.nm, .int .i64 a.s.t, .int .i64 a.s.r.k, .int .i64 a.s.r.op, .int .i64 a.s.r.t, .int .i64 a.s.r.v, .string a.s.r.nm, .slice a.s.r.A a.s.r.ar.length a.s.r.c, .slice a.s.ou.A a.s.ou.l.length a.s.ou.c, .slice a.s.ar.A a.s.ar.l.length a.s.ar.c, .slice A2 L.length c2]) (by simp [results, Try.f26, go_sem, g0, g1, g2, g3, g4, g5, g6, g7, g8, g9, g10, g11]) rfl ?_
      have e9 : (sts wr w.heap.size [(0, .int .i64 a.s.k), (1, .string a.s.nm), (2, .int .i64 a.s.t), (3, .int .i64 a.s.r.k), (4, .int .i64 a.s.r.op), (5, .int .i64 a.s.r.t), (6, .int .i64 a.s.r.v), (7, .string a.s.r.nm), (8, .slice a.s.r.A a.s.r.ar.length a.s.r.c), (9, .slice a.s.ou.A a.s.ou.l.length a.s.ou.c), (10, .slice a.s.ar.A a.s.ar.l.length a.s.ar.c), (11, .slice A2 L.length c2)]).heap.size = wr.heap.size := sts_size _ _ _
      have hb9 : Below w.heap.size w (sts wr w.heap.size [(0, .int .i64 a.s.k), (1, .string a.s.nm), (2, .int .i64 a.s.t), (3, .int .i64 a.s.r.k), (4, .int .i64 a.s.r.op), (5, .int .i64 a.s.r.t), (6, .int .i64 a.s.r.v), (7, .string a.s.r.nm), (8, .slice a.s.r.A a.s.r.ar.length a.s.r.c), (9, .slice a.s.ou.A a.s.ou.l.length a.s.ou.c), (10, .slice a.s.ar.A a.s.ar.l.length a.s.ar.c), (11, .slice A2 L.length c2)]) := sts_below (Nat.le_refl _) _ HLW.out
      have k9 : ∀ p : Addr, Oq B H0 (w.heap.size + 2) wr (.slice A2 L.length c2) p.block → (sts wr w.heap.size [(0, .int .i64 a.s.k), (1, .string a.s.nm), (2, .int .i64 a.s.t), (3, .int .i64 a.s.r.k), (4, .int .i64 a.s.r.op), (5, .int .i64 a.s.r.t), (6, .int .i64 a.s.r.v), (7, .string a.s.r.nm), (8, .slice a.s.r.A a.s.r.ar.length a.s.r.c), (9, .slice a.s.ou.A a.s.ou.l.length a.s.ou.c), (10, .slice a.s.ar.A a.s.ar.l.length a.s.ar.c), (11, .slice A2 L.length c2)]).cell? p = wr.cell? p := fun p hp => sts_other _ _ _ _ (by rcases hp with hp | hp <;> omega)
      have k8 : ∀ p : Addr, w.heap.size + 2 ≤ p.block → (sts wr w.heap.size [(0, .int .i64 a.s.k), (1, .string a.s.nm), (2, .int .i64 a.s.t), (3, .int .i64 a.s.r.k), (4, .int .i64 a.s.r.op), (5, .int .i64 a.s.r.t), (6, .int .i64 a.s.r.v), (7, .string a.s.r.nm), (8, .slice a.s.r.A a.s.r.ar.length a.s.r.c), (9, .slice a.s.ou.A a.s.ou.l.length a.s.ou.c), (10, .slice a.s.ar.A a.s.ar.l.length a.s.ar.c), (11, .slice A2 L.length c2)]).cell? p = wr.cell? p := fun p hp => sts_other _ _ _ _ (by omega)
      have u9 : ∀ b, Oq B H0 (w.heap.size + 2) wr (.slice A2 L.length c2) b → (B ≤ b ∧ b < H0) ∨ (w.heap.size ≤ b ∧ b < (sts wr w.heap.size [(0, .int .i64 a.s.k), (1, .string a.s.nm), (2, .int .i64 a.s.t), (3, .int .i64 a.s.r.k), (4, .int .i64 a.s.r.op), (5, .int .i64 a.s.r.t), (6, .int .i64 a.s.r.v), (7, .string a.s.r.nm), (8, .slice a.s.r.A a.s.r.ar.length a.s.r.c), (9, .slice a.s.ou.A a.s.ou.l.length a.s.ou.c), (10, .slice a.s.ar.A a.s.ar.l.length a.s.ar.c), (11, .slice A2 L.length c2)]).heap.size) := fun b hb => hb.imp id fun hb => ⟨by have := hb.1; omega, by rw [e9]; exact hb.2.1⟩
      exact ⟨a.s.wb ⟨A2, c2, L⟩, rfl, HH.out, rzp_wb HPA.out (fun b hb => .inl hb) (fun p hp => hb9.cell (by have := hp.2; omega)) (((own_rda HO.out (by unfold maxLen; omega)).keep oneB_A fun p hp => k8 p hp.1).mono fun b hb => .inr ⟨by have := hb.1; omega, Nat.lt_of_lt_of_eq hb.2.1 e9.symm⟩) (fun x hx => ((HE.out x hx).1.keep oneB_Z k9).mono u9) (fun x hx t ht => ((HE.out x hx).2 t ht).keep u9 k9), hb9⟩
end fu
end Go.Proofs.Ytjodffbekipnlaa
/- combined of the program: cases. -/
namespace Go.Proofs.Ytjodffbekipnlaa
set_option linter.unusedVariables false
set_option linter.unusedSimpArgs false
open Go.RowKit Go.Sort
namespace fu
set_option maxHeartbeats 8000000 in
set_option maxRecDepth 100000 in
theorem combined_many (A : Option Addr) (c : Nat) (hcn : ¬ c = 1) (a : Pt) (q : List Pt) (w : World) (B H0 : Nat) (hB : B ≤ H0) (hH : H0 ≤ w.heap.size) (hQ : RdQ w (fun b => b < w.heap.size) 1 PtC ⟨A, c, a :: q⟩) (hP : ∀ t ∈ a :: q, RpP w (fun b => B ≤ b ∧ b < H0) t) (hF : ∀ t ∈ a :: q, Ful HK t.ct) (ha : a.s.k = 3) (hrun : run HK a.ct (pcs q)) (hw : wgt (pcs (a :: q)) ≤ 200000)
    (KJ : Hid (∀ (r : Rw Pt) (m : Nat) W, Below w.heap.size w W → RdQ W (fun b => b < W.heap.size) 1 PtC r → (∀ t ∈ r.l, RpP W (fun b => B ≤ b ∧ b < H0) t) → (∀ t ∈ r.l, Ful HK t.ct) → r.l.length = m → wgt (pcs r.l) < wgt (pcs (a :: q)) → Calls Try.prog 21 #[.slice r.A m r.c] W (NewJ B H0 (norm HK (pcs r.l)) W))) :
    Calls Try.prog 26 #[.slice A (q.length + 1) c] w (NewC B H0 (cmb HK a.ct (pcs q)) w) := by
  obtain ⟨i0, hi, iz, is, ib⟩ := info_parts arInfo
  obtain ⟨i1, hi1, iz1, is1, ib1⟩ := info_parts ptInfo
  have hsz1 : (Try.prog.info? 52).map (·.size) = some 1 := by rw [hi1]; show some i1.size = _; rw [is1]
  obtain ⟨ad, hA, had⟩ := hQ.1 (by intro e; cases e)
  simp only at hA
  subst hA
  have hpa := (hP a List.mem_cons_self).of
  have hc3 := hQ.2.1 ad 0 a rfl rfl
  have hc0 : w.cell? ad = some (.pointer (some ⟨a.p, 0, none⟩)) := by
    have h1 : w.cell? (ad.add (0 * 1)) = some (.pointer (some ⟨a.p, 0, none⟩)) := hc3
    rwa [Nat.zero_mul, add_zero'] at h1
  have hap := hpa.1
  have hPC : ∀ t ∈ a :: q, ∀ W, Below H0 w W → PC W t := fun t ht W hb => ((hP t ht).of.2.1).keep fun p hp => hb.cell (by rw [hp]; exact (hP t ht).of.1.2)
  have hrm := run_mem HK (pcs q) a.ct hrun (by rw [pt_c]; exact decide_eq_true ha)
  have h3 : ∀ t ∈ a :: q, t.s.k = 3 ∧ t.br.l.length = a.br.l.length := fun t ht => by
    have h1 := hrm t.ct (by
      rcases List.mem_cons.1 ht with rfl | ht
      · exact List.mem_cons_self
      · exact List.mem_cons_of_mem _ (List.mem_map.2 ⟨t, ht, rfl⟩))
    have h2 : t.s.k = 3 := by have := h1.1; rw [pt_c] at this; exact of_decide_eq_true this
    refine ⟨h2, ?_⟩
    have h4 := h1.2
    rw [pt_br h2, pt_br ha, List.length_map, List.length_map] at h4
    exact h4
  have hbn := (hpa.2.2.2.2.2.2.1 ha).1
  have hw1 := wgt_case (show HK.c a.ct.h = true by rw [pt_c]; exact decide_eq_true ha)
  have hwa : wgt1 a.ct ≤ wgt (pcs (a :: q)) := wgt_mem List.mem_cons_self
  rw [pt_br ha, List.length_map] at hw1
  have hbl : a.br.l.length ≤ 200000 := by omega
  have hql : q.length ≤ 200000 := by
    have := wgt_len (pcs (a :: q))
    rw [pcs_len, List.length_cons] at this
    omega
  obtain ⟨m0, m1, m2, m3, m4, m5, m6, m7, m8, m9, m10, m11⟩ := (hPC a List.mem_cons_self (w.alloc zlit) ((bel_box (w := w) zlit).mono hH)).1
  have m12 := (hPC a List.mem_cons_self (cW w a.s) ((cW_low w a.s).mono hH)).2.1
  have hcA : (w.alloc zlit).cell? ad = some (.pointer (some ⟨a.p, 0, none⟩)) := (bel_box (w := w) zlit).cell (World.block_lt_of_cell? w _ hc0) |>.trans hc0
  have hcB : (cW w a.s).cell? ad = some (.pointer (some ⟨a.p, 0, none⟩)) := ((cW_low w a.s).cell (World.block_lt_of_cell? w _ hc0)).trans hc0
  have dn : (0 : Int) < ((q.length + 1 : Nat) : Int) := by omega
  have hcap : q.length + 1 ≤ c := hQ.2.2.2
  have hbrQ := hpa.2.2.2.1
  have hbrs := hpa.2.2.2.2.1
  have hbrP := hpa.2.2.2.2.2.1
  obtain ⟨A1, hA1⟩ : ∃ A1, (if c = 1 then some ad else some (ad.add 1)) = A1 := ⟨_, rfl⟩
  have hq1 : RdQ w (fun b => b < w.heap.size) 1 PtC ⟨A1, c - 1, q⟩ := by
    by_cases e : c = 1
    · have h2 : q = [] := List.length_eq_zero_iff.1 (by omega)
      rw [h2]
      exact RdQ.none_
    · rw [← hA1, if_neg e]
      exact hQ.drop 1
  have HQ1 := Lib.hid hq1
  have HPC := Lib.hid hPC
  have HP := Lib.hid hP
  have HF := Lib.hid hF
  have H3 := Lib.hid h3
  have HRM := Lib.hid hrm
  have HBN := Lib.hid hbn
  have HBR := Lib.hid hbrQ
  have HPA := Lib.hid hpa.2.2.1
  have HBS := Lib.hid (And.intro hbrs hbrP)
  have HRUN := Lib.hid hrun
  have HA := Lib.hid ha
  have HWG := Lib.hid hw
  have HRES : Hid (∀ W, Below (cW w a.s).heap.size (cW w a.s) W → BF W w.heap.size zz ∧ BF W (w.heap.size + 1) (a.s.wb ⟨none, 0, []⟩)) := Lib.hid fun W hb => ⟨(cW_res w a.s).keep hb, by rw [wb_self _ hbn]; exact (cW_box w a.s).keep hb⟩
  have HLOW := Lib.hid (cW_low w a.s)
  have HSZ := cW_size w a.s
  clear hq1 hPC hP hF h3 hrm hbn hbrQ hbrs hbrP hpa hQ hw1 hwa hc0 hc3 hrun ha hw hap
  go_enter Try.func26, Try.ntmps26
  go_wp2
  go_loopw [22] (fun i wr => ∃ (k : Nat) (L : List (Rw Zt)) (A2 : Option Addr) (c2 : Nat), k ≤ a.br.l.length ∧ i = .int .i64 (k : Int) ∧ L.length = k ∧ Hid (BF wr w.heap.size zz) ∧ Hid (BF wr (w.heap.size + 1) (a.s.wb ⟨A2, c2, L⟩)) ∧ Hid ((L.map fun b => cts b.l) = (cmb HK a.ct (pcs q)).br.take k) ∧ Hid (wr.ownsRow (w.heap.size + 2) 22 1 (.slice A2 k c2) k (aC L)) ∧ Hid (∀ b ∈ L, RdQ wr (Oq B H0 (w.heap.size + 2) wr (.slice A2 k c2)) 12 ZC b ∧ ∀ y ∈ b.l, RzP wr (Oq B H0 (w.heap.size + 2) wr (.slice A2 k c2)) y) ∧ Hid (Below w.heap.size w wr) ∧ w.heap.size + 2 ≤ wr.heap.size) (fun i _ => a.br.l.length - (intOf i).toNat)
  case atStart => exact ⟨0, [], none, 0, by omega, rfl, rfl, Lib.hid (HRES.out _ (Below.refl _ _)).1, Lib.hid (HRES.out _ (Below.refl _ _)).2, Lib.hid rfl, Lib.hid (World.ownsRow_nil _ _ _ _), Lib.hid (by simp), HLOW, by rw [← HSZ]; exact Nat.le_refl _⟩
  case round =>
    obtain ⟨k, L, A2, c2, hk, rfl, hL, HZ, HX, HC, HO, HE, HLW, hsw⟩ := hrel
    rw [← hL] at HO HE
    have hLb : L.length ≤ 200000 := by omega
    have HKL := Lib.hid hL
    clear hL
    clear m0 m1 m2 m3 m4 m5 m6 m7 m8 m9 m10 m11 m12 hcA hcB HRES HLOW HSZ dn
    by_cases hlt : k < a.br.l.length
    · have d0 : (k : Int) < (a.br.l.length : Int) := by omega
      obtain ⟨ad2, hA2, had2⟩ := HBR.out.1 (by intro e; rw [e] at hlt; simp at hlt)
      have hb : a.br.l[k]? = some a.br.l[k] := List.getElem?_eq_getElem hlt
      have hbm : a.br.l[k] ∈ a.br.l := List.getElem_mem hlt
      generalize a.br.l[k] = b at hb hbm
      have hbc : w.cell? (ad2.add (k * 1)) = some (.slice b.A b.l.length b.c) := HBR.out.2.1 ad2 k b hA2 hb
      rw [Nat.mul_one] at hbc
      have e0 : wr.cell? (ad2.add k) = some (.slice b.A b.l.length b.c) := (HLW.out.cell (World.block_lt_of_cell? w _ hbc)).trans hbc
      have hcb := cmb_br HK (pcs q) a.ct (by rw [pt_c]; exact decide_eq_true HA.out) HRUN.out k (by rw [pt_br HA.out, List.length_map]; exact hlt)
      have hcb2 : (cmb HK a.ct (pcs q)).br[k]? = some (norm HK (col k (pcs (a :: q)))) := hcb
      have HCB := Lib.hid hcb2
      have hbQ := HBS.out.1 b hbm
      have hcs : ∀ t ∈ pcs (a :: q), HK.c t.h = true := fun t ht => (HRM.out t ht).1
      have hwc := wgt_col k (pcs (a :: q)) hcs
      have hwg := HWG.out
      have hcl : ∀ j, (col k (pcs (a :: q.take j))).length ≤ 200000 := fun j => by
        have h1 := wgt_len (col k (pcs (a :: q.take j)))
        have h2 := wgt_col k (pcs (a :: q.take j)) (fun t ht => hcs t (by
          obtain ⟨u, hu, rfl⟩ := List.mem_map.1 ht
          refine List.mem_map_of_mem ?_
          rcases List.mem_cons.1 hu with rfl | hu
          · exact List.mem_cons_self
          · exact List.mem_cons_of_mem _ (List.mem_of_mem_take hu)))
        have h3 := wgt_cut (pcs (a :: q)) (j + 1)
        rw [← pcs_take] at h3
        have h4 : wgt (pcs ((a :: q).take (j + 1))) = wgt (pcs (a :: q.take j)) := rfl
        omega
      have hb0 : pcs b.l = col k (pcs [a]) := by
        show _ = a.ct.br.getD k [] ++ []
        rw [pt_getD HA.out hb, List.append_nil]
      have hbl2 : b.l.length ≤ 200000 := by
        have h1 := hcl 0
        rw [List.take_zero, ← hb0, pcs_len] at h1
        exact h1
      have hbP : ∀ t ∈ b.l, RpP w (fun b => B ≤ b ∧ b < H0) t := fun t ht => HBS.out.2 b hbm t ht
      have hmk := make_pts b.l.length (by omega)
      have HCL := Lib.hid hcl
      have HB0 := Lib.hid hb0
      have HBQ := Lib.hid hbQ
      have HBP := Lib.hid hbP
      have HWC := Lib.hid hwc
      have hmin : (pC b.l).length = Nat.min b.l.length b.l.length := by rw [pC_length]; exact (Nat.min_self _).symm
      have hbw : Below w.heap.size w wr := HLW.out
      clear hcb hcb2 hbQ hcs hwc hwg hcl hb0 hbP hbm hb hbc
      rw [hA2]
      obtain ⟨wo, rfl⟩ : ∃ wo, wo = wr := ⟨_, rfl⟩
      have hbmW : Below w.heap.size w (wo.alloc (.cells (madeCells #[.pointer none] b.l.length) 52)) := hbw.trans ((bel_box (w := wo) _).mono hbw.size)
      obtain ⟨wa, hcpr, hcpo, hcpb⟩ := copy_pts b wo (pt_rdv (HBQ.out.keep oneB_Pt fun p hp => hbmW.cell (by have := hp.2; omega))) (by unfold maxLen; omega)
      have HCPO := Lib.hid hcpo
      have HCPB := Lib.hid hcpb
      clear hbmW hcpo hcpb hmin
      have HCQ : Hid (∀ W, Below w.heap.size w W → ∀ (j : Nat) (t : Pt), q[j]? = some t → ¬ c = 1 → W.cell? ⟨ad.block, ad.off + 1 + j, none⟩ = some (.pointer (some ⟨t.p, 0, none⟩))) := Lib.hid fun W hW j t ht hc => by
        have h1 := HQ1.out
        rw [← hA1, if_neg hc] at h1
        have h2 : w.cell? ((ad.add 1).add (j * 1)) = some (.pointer (some ⟨t.p, 0, none⟩)) := h1.2.1 _ j t rfl ht
        have e5 : (ad.add 1).add j = ⟨ad.block, ad.off + 1 + j, none⟩ := by
          unfold Addr.add
          by_cases e6 : j = 0
          · subst e6; simp
          · simp [e6]
        rw [Nat.mul_one, e5] at h2
        exact (hW.cell (World.block_lt_of_cell? w _ h2)).trans h2
      clear hA1
      go_wp2
      go_loopw [6, 36] (fun v i W => ∃ (j : Nat) (M : List Pt) (A3 : Option Addr) (c3 : Nat), j ≤ q.length ∧ i = .int .i64 (j : Int) ∧ v = .slice A3 M.length c3 ∧ Hid (pcs M = col k (pcs (a :: q.take j))) ∧ Hid (∀ t ∈ M, RpP w (fun b => B ≤ b ∧ b < H0) t) ∧ Hid (W.ownsRow wo.heap.size 52 1 (.slice A3 M.length c3) M.length (pC M)) ∧ Below wo.heap.size wo W) (fun _ i _ => q.length - (intOf i).toNat)
      case atStart => exact ⟨0, b.l, some ⟨wo.heap.size, 0, none⟩, b.l.length, by omega, rfl, rfl, by rw [List.take_zero]; exact HB0, HBP, HCPO, HCPB.out⟩
      case round =>
        obtain ⟨j, M, A3, c3, hj, rfl, rfl, HMC, HMP, HMO, hbi⟩ := hrel
        clear HCPO HCPB HB0 HBP
        have hbw2 : Below w.heap.size w wr := hbw.trans (hbi.mono hbw.size)
        by_cases hlt2 : j < q.length
        · have d1 : (j : Int) < (q.length : Int) := by omega
          have hct : ¬ c = 1 := hcn
          have ht : q[j]? = some q[j] := List.getElem?_eq_getElem hlt2
          have htm : q[j] ∈ a :: q := List.mem_cons_of_mem _ (List.getElem_mem hlt2)
          generalize q[j] = t at ht htm
          have f0 := HCQ.out wr hbw2 j t ht hct
          have f1 := (HPC.out t htm wr (hbw2.mono hH)).2.1
          have ht3 := H3.out t htm
          have htp := (HP.out t htm).of
          have hkt : k < t.br.l.length := by omega
          have hbt : t.br.l[k]? = some t.br.l[k] := List.getElem?_eq_getElem hkt
          have hbtm : t.br.l[k] ∈ t.br.l := List.getElem_mem hkt
          generalize t.br.l[k] = bt at hbt hbtm
          obtain ⟨ad4, hA4, had4⟩ := htp.2.2.2.1.1 (by intro e; rw [e] at hkt; simp at hkt)
          have f2 : w.cell? (ad4.add (k * 1)) = some (.slice bt.A bt.l.length bt.c) := htp.2.2.2.1.2.1 ad4 k bt hA4 hbt
          rw [Nat.mul_one] at f2
          have f3 := (hbw2.cell (World.block_lt_of_cell? w _ f2)).trans f2
          rw [hA4] at f1
          have hRV : RdV wr bt.A (pC bt.l) := pt_rdv ((htp.2.2.2.2.1 bt hbtm).keep (W := wr) oneB_Pt fun p hp => hbw2.cell (by have := hp.2; omega))
          have hcolj : pcs (M ++ bt.l) = col k (pcs (a :: q.take (j + 1))) := by
            rw [pcs_app, HMC.out, take_succ_of ht]
            show _ = col k (pcs ((a :: q.take j) ++ [t]))
            rw [pcs_app]
            show _ = col k (pcs (a :: q.take j) ++ [t.ct])
            rw [col_snoc, pt_getD ht3.1 hbt]
          have hMl : M.length + bt.l.length ≤ 200000 := by
            have h1 := HCL.out (j + 1)
            rw [← hcolj, pcs_len, List.length_append] at h1
            exact h1
          have HRV := Lib.hid hRV
          have HCJ := Lib.hid hcolj
          have HBT := Lib.hid (htp.2.2.2.2.2.1 bt hbtm)
          have hsz : wo.heap.size ≤ wr.heap.size := hbi.size
          clear hRV hcolj htp ht3 hbt hbtm hA4 had4 f2 ht htm
          go_wp2_with (at_builtin; (refine wpList_append_rdZ _ rfl _ _ 47 rfl wo.heap.size 52 i1 (.pointer none) 1 8 Try.underlying47 hi1 iz1 is1 ib1 rfl (by decide) _ M.length (pC M) rfl HMO.out bt.A bt.l.length bt.c (pC bt.l) rfl (by rw [pC_length, Nat.mul_one]) HRV.out (pC_one _) (by unfold maxLen; omega) (by omega) hsz ?_; intro v3 w3 hown3 hgrow3 hat3; obtain ⟨A5, c5, rfl⟩ := own_formZ hown3))
          all_goals
            have hbi3 : Below wo.heap.size wo w3 := hbi.grown hgrow3 hsz (fun k hk => (HMO.out.lt k hk).1)
            have e8 : pC M ++ pC bt.l = pC (M ++ bt.l) := by simp [pC]
            have e9 : (M ++ bt.l).length = M.length + bt.l.length := List.length_append
            rw [e8, ← e9] at hown3
            refine ⟨⟨j + 1, M ++ bt.l, A5, c5, by omega, by congr 1, by rw [e9], HCJ, Lib.hid fun u hu => ?_, Lib.hid hown3, hbi3⟩, by simp [intOf]; omega⟩
            rcases List.mem_append.1 hu with hu | hu
            · exact HMP.out u hu
            · exact HBT.out u hu
        · obtain rfl : j = q.length := by omega
          have hM : pcs M = col k (pcs (a :: q)) := by
            have h1 := HMC.out
            rw [List.take_length] at h1
            exact h1
          have hMl : M.length ≤ 200000 := by
            have h1 := HCL.out q.length
            rw [List.take_length, ← hM, pcs_len] at h1
            exact h1
          have hwt : wgt (pcs M) < wgt (pcs (a :: q)) := by
            have h1 := HWC.out
            rw [← hM, pcs_len, List.length_cons] at h1
            omega
          have hful : ∀ t ∈ M, Ful HK t.ct := fun t ht => by
            refine ful_col HK (ts := pcs (a :: q)) (fun u hu => ?_) (fun u hu => (HRM.out u hu).1) k t.ct (by rw [← hM]; exact List.mem_map_of_mem ht)
            obtain ⟨v, hv, rfl⟩ := List.mem_map.1 hu
            exact HF.out v hv
          have KK : Hid (∀ W, Below wr.heap.size wr W → Calls Try.prog 21 #[.slice A3 M.length c3] W (NewJ B H0 (norm HK (col k (pcs (a :: q)))) W)) := Lib.hid fun W hW => by
            have hb5 : Below w.heap.size w W := hbw2.trans (hW.mono hbw2.size)
            have h1 := KJ.out ⟨A3, c3, M⟩ M.length W hb5 ((own_rdp (own_keepZ HMO.out hW) (by unfold maxLen; omega)).mono fun b hb => hb.2.1) (fun t ht => (HMP.out t ht).keep (fun b hb => hb) fun p hp => hb5.cell (by have := hp.2; omega)) hful rfl hwt
            rw [hM] at h1
            exact h1
          have HXW : Hid (∀ W, Below wr.heap.size wr W → BF W w.heap.size zz ∧ BF W (w.heap.size + 1) (a.s.wb ⟨A2, c2, L⟩) ∧ W.ownsRow (w.heap.size + 2) 22 1 (.slice A2 L.length c2) L.length (aC L) ∧ Below wo.heap.size wo W) := Lib.hid fun W hW => by
            have hb5 : Below wo.heap.size wo W := bel_step hbi hW
            exact ⟨HZ.out.keep hb5, HX.out.keep hb5, own_keepZ HO.out hb5, hb5⟩
          have hx0 := HXW.out wr (Below.refl _ _)
          have c11 : wr.cell? ⟨w.heap.size + 1, 11, none⟩ = some (.slice A2 L.length c2) := hx0.2.1.bx.2.2.2.2.2.2.2.2.2.2.2
          have HNL : Hid ((norm HK (col k (pcs (a :: q)))).length ≤ 200000) := Lib.hid (by
            have h1 := wgt_len (norm HK (col k (pcs (a :: q))))
            have h2 : wgt (norm HK (col k (pcs (a :: q)))) ≤ wgt (col k (pcs (a :: q))) := num_norm HK _ _ _
            have h3 := HWC.out
            have h4 := HWG.out
            omega)
          clear hM hwt hful hx0 HMP HMO HCQ HCL
          go_wp2
          go_region_law (first | ((refine step_append_rdZ _ rfl _ _ 36 rfl (w.heap.size + 2) 22 i0 (.slice none 0 0) 1 24 Try.underlying36 hi iz is ib rfl (by decide) _ L.length (aC L) rfl (own_keepZ (HXW.out w6 hb6w).2.2.1 ?_) (some ⟨w6.heap.size, 0, none⟩) 1 1 [.slice A6 L6.length c6] rfl rfl (fun _ => ⟨_, rfl, rowA w6 _ _⟩) (a_one ⟨A6, c6, L6⟩) (by unfold maxLen; omega) (by omega) ?_ ?_); (focus ((repeat (first | (with_reducible exact Below.refl _ _) | (with_reducible assumption) | (with_reducible exact bel_box _) | (with_reducible refine bel_step ?_ (by with_reducible assumption)) | (with_reducible refine Below.drew ?_) | (with_reducible refine below_drewN ?_ _) | (with_reducible refine bel_alloc ?_ _))); done)); (focus (have h1 := (HXW.out w6 hb6w).2.2.2.size; rw [World.size_alloc]; omega)); intro v3 w3 hown3 hgrow3 hat3; obtain ⟨A5, c5, rfl⟩ := own_formZ hown3; have hX3 : BF w3 (w.heap.size + 1) (a.s.wb ⟨A2, c2, L⟩) := ((HXW.out w6 hb6w).2.1.keep (bel_box _)).grown hgrow3 (fun e => absurd ((HXW.out w6 hb6w).2.2.1.lt _ e).1 (by omega)); have c11'' : w3.cell? ⟨w.heap.size + 1, 11, none⟩ = some (.slice A2 L.length c2) := hX3.bx.2.2.2.2.2.2.2.2.2.2.2; have f11 := hX3.fr 11 (by decide); have HX3 := Lib.hid hX3; clear hX3) | (go_simp; go_at_call 21; (with_reducible refine (KK.out _ ?_).mono ?_); (focus ((repeat (first | (with_reducible exact Below.refl _ _) | (with_reducible assumption) | (with_reducible exact bel_box _) | (with_reducible refine bel_step ?_ (by with_reducible assumption)) | (with_reducible refine Below.drew ?_) | (with_reducible refine below_drewN ?_ _) | (with_reducible refine bel_alloc ?_ _))); done)); rintro e w6 ⟨A6, c6, L6, rfl, hLc, hLo, hLr, hb6⟩; have hb6w : Below wr.heap.size wr w6 := (by repeat (first | (with_reducible exact Below.refl _ _) | (with_reducible assumption) | (with_reducible exact bel_box _) | (with_reducible refine bel_step ?_ (by with_reducible assumption)) | (with_reducible refine Below.drew ?_) | (with_reducible refine below_drewN ?_ _) | (with_reducible refine bel_alloc ?_ _))); have HLC := Lib.hid (And.intro hLc (And.intro hLo hLr)); clear hLc hLo hLr; have c11' : w6.cell? ⟨w.heap.size + 1, 11, none⟩ = some (.slice A2 L.length c2) := (HXW.out w6 hb6w).2.1.bx.2.2.2.2.2.2.2.2.2.2.2; have c11a := fun o => cell_alc o c11'))
          all_goals
            go_wp2
            have hS := HXW.out w6 hb6w
            have hNN : w.heap.size + 2 ≤ wo.heap.size := hsw
            obtain ⟨s1, s2, s3, s4, s5⟩ := oq_step (B := B) (H0 := H0) (Nat.le_trans hH (Nat.le_add_right _ _)) hNN HO.out hS.2.2.2 hgrow3 hat3
            have hl1 : (L ++ [(⟨A6, c6, L6⟩ : Rw Zt)]).length = L.length + 1 := by simp
            have e1 : aC L ++ [Value.slice A6 L6.length c6] = aC (L ++ [⟨A6, c6, L6⟩]) := by simp [aC]
            rw [e1] at hown3
            have hX9 : BF (sts w3 (w.heap.size + 1) [(11, .slice A5 (L.length + 1) c5)]) (w.heap.size + 1) (a.s.wb ⟨A5, c5, L ++ [⟨A6, c6, L6⟩]⟩) := HX3.out.set _ (by intro p hp; simp at hp; subst hp; exact (by decide : (11 : Nat) < 12)) fun i hi => by
              rcases i with _ | _ | _ | _ | _ | _ | _ | _ | _ | _ | _ | _ | i
              all_goals first | rfl | omega | skip
              show some (Value.slice A5 (L.length + 1) c5) = some (.slice A5 (L ++ [(⟨A6, c6, L6⟩ : Rw Zt)]).length c5)
              rw [hl1]
            have hZ9 : BF (sts w3 (w.heap.size + 1) [(11, .slice A5 (L.length + 1) c5)]) w.heap.size zz := ((hS.1.keep (bel_box _)).grown hgrow3 (fun e => absurd (hS.2.2.1.lt _ e).1 (by omega))).other _ (by omega)
            have hO9 : (sts w3 (w.heap.size + 1) [(11, .slice A5 (L.length + 1) c5)]).ownsRow (w.heap.size + 2) 22 1 (.slice A5 (L.length + 1) c5) (L.length + 1) (aC (L ++ [⟨A6, c6, L6⟩])) := ownsRow_setCell_below hown3 (a := ⟨w.heap.size + 1, 11, none⟩) (Nat.lt_succ_self _) _
            have hz9 : (sts w3 (w.heap.size + 1) [(11, .slice A5 (L.length + 1) c5)]).heap.size = w3.heap.size := sts_size _ _ _
            have kk : ∀ p : Addr, Oq B H0 (w.heap.size + 2) w3 (.slice A5 (L.length + 1) c5) p.block → (sts w3 (w.heap.size + 1) [(11, .slice A5 (L.length + 1) c5)]).cell? p = w3.cell? p := fun p hp => sts_other _ _ _ _ (by rcases hp with hp | hp <;> omega)
            have uu : ∀ b, Oq B H0 (w.heap.size + 2) w3 (.slice A5 (L.length + 1) c5) b → Oq B H0 (w.heap.size + 2) (sts w3 (w.heap.size + 1) [(11, .slice A5 (L.length + 1) c5)]) (.slice A5 (L.length + 1) c5) b := fun b hb => hb.imp id fun hb => ⟨hb.1, by rw [hz9]; exact hb.2.1, hb.2.2⟩
            have hbW9 : Below w.heap.size w (sts w3 (w.heap.size + 1) [(11, .slice A5 (L.length + 1) c5)]) := sts_below (Nat.le_succ _) _ (HLW.out.trans (s5.mono (Nat.le_add_right _ _)))
            have hsz3 := s5.size
            have hszi := hbi.size
            have h6l : L6.length ≤ 200000 := by
              have h1 := congrArg List.length HLC.out.1
              rw [show (cts L6).length = L6.length from List.length_map _] at h1
              rw [h1]
              exact HNL.out
            have q1 := (own_rdq HLC.out.2.1 (by unfold maxLen; omega))
            have q2 := HLC.out.2.2
            refine ⟨⟨k + 1, L ++ [(⟨A6, c6, L6⟩ : Rw Zt)], A5, c5, by omega, by congr 1, by rw [hl1, HKL.out], Lib.hid hZ9, Lib.hid hX9, Lib.hid ?_, Lib.hid (by rw [← HKL.out]; exact hO9), Lib.hid fun y hy => ?_, Lib.hid hbW9, by exact (by rw [hz9]; omega : w.heap.size + 2 ≤ (sts w3 (w.heap.size + 1) [(11, .slice A5 (L.length + 1) c5)]).heap.size)⟩, by simp [intOf]; omega⟩
            · rw [List.map_append, HC.out, take_succ_of HCB.out, List.map_singleton, HLC.out.1]
            · rw [← HKL.out]
              rcases List.mem_append.1 hy with hy | hy
              · exact ⟨((((HE.out y hy).1.keep oneB_Z s2).mono s1).keep oneB_Z kk).mono uu, fun t ht => (((HE.out y hy).2 t ht).keep s1 s2).keep uu kk⟩
              · obtain rfl : y = ⟨A6, c6, L6⟩ := by simpa using hy
                exact ⟨(((q1.keep oneB_Z fun p hp => s4 p (.inr ⟨Nat.le_trans hszi hp.1, hp.2.1⟩)).mono fun b hb => s3 b (.inr ⟨Nat.le_trans hszi hb.1, hb.2.1⟩)).keep oneB_Z kk).mono uu, fun t ht => ((q2 t ht).keep (fun b hb => s3 b (hb.imp id fun hb => ⟨Nat.le_trans hszi hb.1, hb.2.1⟩)) fun p hp => s4 p (hp.imp id fun hb => ⟨Nat.le_trans hszi hb.1, hb.2.1⟩)).keep uu kk⟩
    · obtain rfl : k = a.br.l.length := by omega
      have hcl := cmb_len HK (pcs q) a.ct HRUN.out
      rw [pt_br HA.out, List.length_map] at hcl
      have hC := HC.out
      rw [← hcl, List.take_length] at hC
      have HH : Hid ((a.s.wb ⟨A2, c2, L⟩).ct = cmb HK a.ct (pcs q)) := Lib.hid (by
        rw [wb_ct]
        have h1 := cmb_h HK (pcs q) a.ct
        rw [Pt.ct_h] at h1
        generalize cmb HK a.ct (pcs q) = s at h1 hC
        cases s with
        | mk h br =>
          have h1 : h = a.s.hd := h1
          have hC : (L.map fun b => cts b.l) = br := hC
          rw [h1, hC])
      have HLB : L.length ≤ 200000 := hLb
      clear hcl hC
      obtain ⟨n0, n1, n2, n3, n4, n5, n6, n7, n8, n9, n10, n11⟩ := HX.out.bx
      obtain ⟨s0, s1, s2, s3, s4, s5, s6, s7, s8, s9, s10, s11⟩ := HZ.out.bx
      have m0 : wr.cell? ⟨w.heap.size + 1, 0, none⟩ = some (.int .i64 a.s.k) := n0
      have m1 : wr.cell? ⟨w.heap.size + 1, 1, none⟩ = some (.string a.s.nm) := n1
      have m2 : wr.cell? ⟨w.heap.size + 1, 2, none⟩ = some (.int .i64 a.s.t) := n2
      have m3 : wr.cell? ⟨w.heap.size + 1, 3, none⟩ = some (.int .i64 a.s.r.k) := n3
      have m4 : wr.cell? ⟨w.heap.size + 1, 4, none⟩ = some (.int .i64 a.s.r.op) := n4
      have m5 : wr.cell? ⟨w.heap.size + 1, 5, none⟩ = some (.int .i64 a.s.r.t) := n5
      have m6 : wr.cell? ⟨w.heap.size + 1, 6, none⟩ = some (.int .i64 a.s.r.v) := n6
      have m7 : wr.cell? ⟨w.heap.size + 1, 7, none⟩ = some (.string a.s.r.nm) := n7
      have m8 : wr.cell? ⟨w.heap.size + 1, 8, none⟩ = some (.slice a.s.r.A a.s.r.ar.length a.s.r.c) := n8
      have m9 : wr.cell? ⟨w.heap.size + 1, 9, none⟩ = some (.slice a.s.ou.A a.s.ou.l.length a.s.ou.c) := n9
      have m10 : wr.cell? ⟨w.heap.size + 1, 10, none⟩ = some (.slice a.s.ar.A a.s.ar.l.length a.s.ar.c) := n10
      have m11 : wr.cell? ⟨w.heap.size + 1, 11, none⟩ = some (.slice A2 L.length c2) := n11
      have r0 : wr.cell? ⟨w.heap.size, 0, none⟩ = some (.int .i64 0) := s0
      have r1 : wr.cell? ⟨w.heap.size, 1, none⟩ = some (.string ⟨#[]⟩) := s1
      have r2 : wr.cell? ⟨w.heap.size, 2, none⟩ = some (.int .i64 0) := s2
      have r3 : wr.cell? ⟨w.heap.size, 3, none⟩ = some (.int .i64 0) := s3
      have r4 : wr.cell? ⟨w.heap.size, 4, none⟩ = some (.int .i64 0) := s4
      have r5 : wr.cell? ⟨w.heap.size, 5, none⟩ = some (.int .i64 0) := s5
      have r6 : wr.cell? ⟨w.heap.size, 6, none⟩ = some (.int .i64 0) := s6
      have r7 : wr.cell? ⟨w.heap.size, 7, none⟩ = some (.string ⟨#[]⟩) := s7
      have r8 : wr.cell? ⟨w.heap.size, 8, none⟩ = some (.slice none 0 0) := s8
      have r9 : wr.cell? ⟨w.heap.size, 9, none⟩ = some (.slice none 0 0) := s9
      have r10 : wr.cell? ⟨w.heap.size, 10, none⟩ = some (.slice none 0 0) := s10
      have r11 : wr.cell? ⟨w.heap.size, 11, none⟩ = some (.slice none 0 0) := s11
      clear n0 n1 n2 n3 n4 n5 n6 n7 n8 n9 n10 n11 s0 s1 s2 s3 s4 s5 s6 s7 s8 s9 s10 s11
      have q0 := HZ.out.fr 0 (by decide)
      have q1 := HZ.out.fr 1 (by decide)
      have q2 := HZ.out.fr 2 (by decide)
      have q3 := HZ.out.fr 3 (by decide)
      have q4 := HZ.out.fr 4 (by decide)
      have q5 := HZ.out.fr 5 (by decide)
      have q6 := HZ.out.fr 6 (by decide)
      have q7 := HZ.out.fr 7 (by decide)
      have q8 := HZ.out.fr 8 (by decide)
      have q9 := HZ.out.fr 9 (by decide)
      have q10 := HZ.out.fr 10 (by decide)
      have q11 := HZ.out.fr 11 (by decide)
      go_wp2
      have hres : BF (sts wr w.heap.size [(0, .int .i64 a.s.k), (1, .string a.s.nm), (2, .int .i64 a.s.t), (3, .int .i64 a.s.r.k), (4, .int .i64 a.s.r.op), (5, .int .i64 a.s.r.t), (6, .int .i64 a.s.r.v), (7, .string a.s.r.nm), (8, .slice a.s.r.A a.s.r.ar.length a.s.r.c), (9, .slice a.s.ou.A a.s.ou.l.length a.s.ou.c), (10, .slice a.s.ar.A a.s.ar.l.length a.s.ar.c), (11, .slice A2 L.length c2)]) w.heap.size (a.s.wb ⟨A2, c2, L⟩) := HZ.out.set _ (by intro p hp; simp only [List.mem_cons, List.not_mem_nil, or_false] at hp; rcases hp with rfl | rfl | rfl | rfl | rfl | rfl | rfl | rfl | rfl | rfl | rfl | rfl <;> simp) fun i hi => by
        rcases i with _ | _ | _ | _ | _ | _ | _ | _ | _ | _ | _ | _ | i
        all_goals first | rfl | omega
      obtain ⟨h0, h1, h2, h3, h4, h5, h6, h7, h8, h9, h10, h11⟩ := hres.bx
      dsimp only [sts] at h0 h1 h2 h3 h4 h5 h6 h7 h8 h9 h10 h11
      have g0 : _ = some (Value.int .i64 a.s.k) := h0
      have g1 : _ = some (Value.string a.s.nm) := h1
      have g2 : _ = some (Value.int .i64 a.s.t) := h2
      have g3 : _ = some (Value.int .i64 a.s.r.k) := h3
      have g4 : _ = some (Value.int .i64 a.s.r.op) := h4
      have g5 : _ = some (Value.int .i64 a.s.r.t) := h5
      have g6 : _ = some (Value.int .i64 a.s.r.v) := h6
      have g7 : _ = some (Value.string a.s.r.nm) := h7
      have g8 : _ = some (Value.slice a.s.r.A a.s.r.ar.length a.s.r.c) := h8
      have g9 : _ = some (Value.slice a.s.ou.A a.s.ou.l.length a.s.ou.c) := h9
      have g10 : _ = some (Value.slice a.s.ar.A a.s.ar.l.length a.s.ar.c) := h10
      have g11 : _ = some (Value.slice A2 L.length c2) := h11
      clear h0 h1 h2 h3 h4 h5 h6 h7 h8 h9 h10 h11
      refine bodyPost_ret (v := .agg #[.int .i64 a.s.k, .string a.s.nm, .int .i64 a.s.t, .int .i64 a.s.r.k, .int .i64 a.s.r.op, .int .i64 a.s.r.t, .int .i64 a.s.r.v, .string a.s.r.nm, .slice a.s.r.A a.s.r.ar.length a.s.r.c, .slice a.s.ou.A a.s.ou.l.length a.s.ou.c, .slice a.s.ar.A a.s.ar.l.length a.s.ar.c, .slice A2 L.length c2]) (by simp [results, Try.f26, go_sem, g0, g1, g2, g3, g4, g5, g6, g7, g8, g9, g10, g11]) rfl ?_
      have e9 : (sts wr w.heap.size [(0, .int .i64 a.s.k), (1, .string a.s.nm), (2, .int .i64 a.s.t), (3, .int .i64 a.s.r.k), (4, .int .i64 a.s.r.op), (5, .int .i64 a.s.r.t), (6, .int .i64 a.s.r.v), (7, .string a.s.r.nm), (8, .slice a.s.r.A a.s.r.ar.length a.s.r.c), (9, .slice a.s.ou.A a.s.ou.l.length a.s.ou.c), (10, .slice a.s.ar.A a.s.ar.l.length a.s.ar.c), (11, .slice A2 L.length c2)]).heap.size = wr.heap.size := sts_size _ _ _
      have hb9 : Below w.heap.size w (sts wr w.heap.size [(0, .int .i64 a.s.k), (1, .string a.s.nm), (2, .int .i64 a.s.t), (3, .int .i64 a.s.r.k), (4, .int .i64 a.s.r.op), (5, .int .i64 a.s.r.t), (6, .int .i64 a.s.r.v), (7, .string a.s.r.nm), (8, .slice a.s.r.A a.s.r.ar.length a.s.r.c), (9, .slice a.s.ou.A a.s.ou.l.length a.s.ou.c), (10, .slice a.s.ar.A a.s.ar.l.length a.s.ar.c), (11, .slice A2 L.length c2)]) := sts_below (Nat.le_refl _) _ HLW.out
      have k9 : ∀ p : Addr, Oq B H0 (w.heap.size + 2) wr (.slice A2 L.length c2) p.block → (sts wr w.heap.size [(0, .int .i64 a.s.k), (1, .string a.s.nm), (2, .int .i64 a.s.t), (3, .int .i64 a.s.r.k), (4, .int .i64 a.s.r.op), (5, .int .i64 a.s.r.t), (6, .int .i64 a.s.r.v), (7, .string a.s.r.nm), (8, .slice a.s.r.A a.s.r.ar.length a.s.r.c), (9, .slice a.s.ou.A a.s.ou.l.length a.s.ou.c), (10, .slice a.s.ar.A a.s.ar.l.length a.s.ar.c), (11, .slice A2 L.length c2)]).cell? p = wr.cell? p := fun p hp => sts_other _ _ _ _ (by rcases hp with hp | hp <;> omega)
      have k8 : ∀ p : Addr, w.heap.size + 2 ≤ p.block → (sts wr w.heap.size [(0, .int .i64 a.s.k), (1, .string a.s.nm), (2, .int .i64 a.s.t), (3, .int .i64 a.s.r.k), (4, .int .i64 a.s.r.op), (5, .int .i64 a.s.r.t), (6, .int .i64 a.s.r.v), (7, .string a.s.r.nm), (8, .slice a.s.r.A a.s.r.ar.length a.s.r.c), (9, .slice a.s.ou.A a.s.ou.l.length a.s.ou.c), (10, .slice a.s.ar.A a.s.ar.l.length a.s.ar.c), (11, .slice A2 L.length c2)]).cell? p = wr.cell? p := fun p hp => sts_other _ _ _ _ (by omega)
      have u9 : ∀ b, Oq B H0 (w.heap.size + 2) wr (.slice A2 L.length c2) b → (B ≤ b ∧ b < H0) ∨ (w.heap.size ≤ b ∧ b < (sts wr w.heap.size [(0, .int .i64 a.s.k), (1, .string a.s.nm), (2, .int .i64 a.s.t), (3, .int .i64 a.s.r.k), (4, .int .i64 a.s.r.op), (5, .int .i64 a.s.r.t), (6, .int .i64 a.s.r.v), (7, .string a.s.r.nm), (8, .slice a.s.r.A a.s.r.ar.length a.s.r.c), (9, .slice a.s.ou.A a.s.ou.l.length a.s.ou.c), (10, .slice a.s.ar.A a.s.ar.l.length a.s.ar.c), (11, .slice A2 L.length c2)]).heap.size) := fun b hb => hb.imp id fun hb => ⟨by have := hb.1; omega, by rw [e9]; exact hb.2.1⟩
      exact ⟨a.s.wb ⟨A2, c2, L⟩, rfl, HH.out, rzp_wb HPA.out (fun b hb => .inl hb) (fun p hp => hb9.cell (by have := hp.2; omega)) (((own_rda HO.out (by unfold maxLen; omega)).keep oneB_A fun p hp => k8 p hp.1).mono fun b hb => .inr ⟨by have := hb.1; omega, Nat.lt_of_lt_of_eq hb.2.1 e9.symm⟩) (fun x hx => ((HE.out x hx).1.keep oneB_Z k9).mono u9) (fun x hx t ht => ((HE.out x hx).2 t ht).keep u9 k9), hb9⟩
end fu
end Go.Proofs.Ytjodffbekipnlaa
/- list of the program's reader. -/
namespace Go.Proofs.Ytjodffbekipnlaa
set_option linter.unusedVariables false
set_option linter.unusedSimpArgs false
open Go.RowKit Go.Maps Go.WideMaps Go.Sort
namespace fu
/-- room for what is counted -/
structure Bd (n pl : Nat) (f : List UInt8 → Nat) (cs : List (Sx Hd)) : Prop where
  up : n + upL cs ≤ 1000000
  pls : pl + plL cs ≤ 1000000
  ass : ∀ u, f u + asL u cs ≤ 1000000
theorem Bd.app {n pl : Nat} {f : List UInt8 → Nat} {x y z : List (Sx Hd)} (h : Bd n pl f (x ++ (y ++ z))) : Bd (n + upL x) (pl + plL x) (fun u => f u + asL u x) y := by
  have h1 := h.up
  have h2 := h.pls
  rw [up_app, up_app] at h1
  rw [pl_app, pl_app] at h2
  refine ⟨by omega, by omega, fun u => ?_⟩
  have h3 := h.ass u
  rw [as_app, as_app] at h3
  show f u + asL u x + asL u y ≤ _
  omega
theorem cts_cut {l : List Zt} {k : Nat} {z : Zt} (h : l[k]? = some z) : cts l = cts (l.take k) ++ ([z.ct] ++ cts (l.drop (k + 1))) := by
  have e : l = l.take k ++ ([z] ++ l.drop (k + 1)) := by
    have h1 := List.take_append_drop (k + 1) l
    rw [take_succ_of h, List.append_assoc] at h1
    exact h1.symm
  conv => lhs; rw [e]
  simp [cts]
theorem Bd.at {n pl : Nat} {f : List UInt8 → Nat} {l : List Zt} (h : Bd n pl f (cts l)) {k : Nat} {z : Zt} (hz : l[k]? = some z) : Bd (n + upL (cts (l.take k))) (pl + plL (cts (l.take k))) (fun u => f u + asL u (cts (l.take k))) [z.ct] := by
  rw [cts_cut hz] at h
  exact h.app
/-- what the reader has come to, after a list -/
def RSL (W : World) (p m n pl : Nat) (f : List UInt8 → Nat) (cs : List (Sx Hd)) : Prop := RS W p m (n + upL cs) (pl + plL cs) (fun u => f u + asL u cs)
theorem rsl_one {W : World} {p m n pl : Nat} {f : List UInt8 → Nat} {cs : List (Sx Hd)} {s : Sx Hd} (h : RS W p m (n + upL cs + up1 s) (pl + plL cs + pl1 s) (fun u => (f u + asL u cs) + as1 u s)) : RSL W p m n pl f (cs ++ [s]) := by
  unfold RSL
  have e1 : n + upL (cs ++ [s]) = n + upL cs + up1 s := by rw [up_app, up_one]; omega
  have e2 : pl + plL (cs ++ [s]) = pl + plL cs + pl1 s := by rw [pl_app, pl_one]; omega
  have e3 : (fun u => f u + asL u (cs ++ [s])) = fun u => (f u + asL u cs) + as1 u s := by
    funext u
    rw [as_app, as_one]; omega
  rw [e1, e2, e3]
  exact h
theorem RSL.nil {W : World} {p m n pl : Nat} {f : List UInt8 → Nat} (h : RS W p m n pl f) : RSL W p m n pl f (cts []) := h
theorem kp_snoc (l : List (Sx Hd)) (s : Sx Hd) : kp HK (l ++ [s]) = kp HK l ++ (if hp1 HK s then [kp1 HK s] else []) := by
  unfold kp
  rw [List.filterMap_append]
  congr 1
  cases h : hp1 HK s <;> simp [h]
theorem ptrow (w : World) (x : Value) (t : TypeId) : ∀ j u, [x][j]? = some u → (w.alloc (.cells #[x] t)).cell? ((⟨w.heap.size, 0, none⟩ : Addr).add j) = some u := rowA w x t
theorem pt_one (a : Pt) : ∀ u ∈ [Value.pointer (some ⟨a.p, 0, none⟩)], u.oneCell' = true := by
  intro u hu
  simp at hu
  subst hu
  rfl
theorem pcs_snoc (L : List Pt) (t : Pt) : pcs (L ++ [t]) = pcs L ++ [t.ct] := by simp [pcs]
theorem pC_snoc (L : List Pt) (t : Pt) : pC L ++ [Value.pointer (some ⟨t.p, 0, none⟩)] = pC (L ++ [t]) := by simp [pC]
set_option maxHeartbeats 8000000 in
set_option maxRecDepth 100000 in
theorem list_of (a : Rw Zt) (w : World) (p m n pl H : Nat) (f : List UInt8 → Nat) (hRS : RS w p m n pl f) (hR : RsL w H a) (hH : H ≤ w.heap.size) (hHp : H ≤ p) (hHm : H ≤ m) (hmw : m < w.heap.size) (hB : Bd n pl f (cts a.l)) (hla : a.l.length ≤ 200000)
    (K : Hid (∀ z ∈ a.l, ∀ W n pl f, RS W p m n pl f → H ≤ W.heap.size → m < W.heap.size → Below H w W → Bd n pl f [z.ct] → Calls Try.prog 27 #[.pointer (some ⟨p, 0, none⟩), zV z] W (NewPt z W p m n pl f))) :
    Calls Try.prog 22 #[.pointer (some ⟨p, 0, none⟩), .slice a.A a.l.length a.c] w (NewPl (cts a.l) w p m n pl f) := by
  obtain ⟨i0, hi, iz, is, ib⟩ := info_parts ptInfo
  have hpw : p < w.heap.size := World.block_lt_of_cell? w _ hRS.c0
  have HR := Lib.hid hR.1
  have HB := Lib.hid hB
  have HRS := Lib.hid (RSL.nil hRS)
  clear hR hB hRS
  obtain ⟨A, c, l⟩ := a
  simp only at K HR HB hla ⊢
  go_enter Try.func22, Try.ntmps22
  go_wp2
  go_loopw [5, 12] (fun v i wr => ∃ (k : Nat) (L : List Pt) (A2 : Option Addr) (c2 : Nat), k ≤ l.length ∧ i = .int .i64 (k : Int) ∧ v = .slice A2 L.length c2 ∧ L.length ≤ k ∧ Hid (pcs L = kp HK (cts (l.take k))) ∧ Hid (wr.ownsRow w.heap.size 52 1 (.slice A2 L.length c2) L.length (pC L)) ∧ Hid (∀ t ∈ L, RpP wr (Oth w.heap.size wr (.slice A2 L.length c2)) t) ∧ Hid (RSL wr p m n pl f (cts (l.take k))) ∧ Hid (K2 p m w wr)) (fun _ i _ => l.length - (intOf i).toNat)
  case atStart => exact ⟨0, [], none, 0, by omega, rfl, rfl, by simp, Lib.hid rfl, Lib.hid (World.ownsRow_nil _ _ _ _), Lib.hid (by simp), HRS, Lib.hid (K2.refl _ _ _)⟩
  case round =>
    obtain ⟨k, L, A2, c2, hk, rfl, rfl, hL, HC, HO, HE, HRk, HKk⟩ := hrel
    clear HRS
    have hlow := HKk.out.low hH hHp hHm
    have hzr := HKk.out.size
    by_cases hlt : k < l.length
    · obtain ⟨ad, z, hA, had, hz, hm, d0, d1, d2, d3, d4, d5, d6, d7, d8, d9, d10, d11⟩ := (HR.out.blw oneB_Z hlow (Nat.le_refl _)).at_ hlt
      simp only at hA
      subst hA
      simp only at hz hm
      have d12 : (k : Int) < (l.length : Int) := by omega
      have hbx : Below wr.heap.size wr (wr.alloc (zB z)) := bel_box _
      have hwx : (wr.alloc (zB z)).heap.size = wr.heap.size + 1 := World.size_alloc _ _
      have r1 := HRk.out
      have c0 := (r1.below hbx).c0
      obtain ⟨P0, hP0⟩ : ∃ P0, pl + plL (cts (l.take k)) = P0 := ⟨_, rfl⟩
      have hbd := HB.out.at hz
      have HKX := Lib.hid ((HKk.out).trans (K2.of_below hbx))
      have HKB : Hid (K2 p m wr (wr.alloc (zB z))) := Lib.hid (K2.of_below hbx)
      have KZ := Lib.hid (K.out z hm (wr.alloc (zB z)) _ _ _ (r1.below hbx) (by omega) (by omega) (hlow.trans (hbx.mono (by omega))) hbd)
      have HT : Hid (cts (l.take (k + 1)) = cts (l.take k) ++ [z.ct]) := Lib.hid (cts_take hz)
      obtain ⟨P1, hP1⟩ : ∃ P1, P0 + pl1 z.ct = P1 := ⟨_, rfl⟩
      have hb2 := hbd.pls
      rw [pl_one] at hb2
      rw [hP0] at c0 hb2
      have HPP := Lib.hid (And.intro hP0 hP1)
      have hhp := hp_pl z.ct
      clear hz hm K hlow hbx r1 hbd hP0
      have hkl : (L.length + 1) * 8 ≤ 140737488355328 := by omega
      by_cases hgt : P0 < P1
      · have g1 : (P0 : Int) < (P1 : Int) := by omega
        have HH1 : Hid (hp1 HK z.ct = true) := Lib.hid (by rw [hhp]; exact decide_eq_true (by omega))
        clear hhp hP1
        go_wp2_with (first | (go_at_call 27; (with_reducible refine (KZ.out).mono ?_); rintro e w5 ⟨x, rfl, hxc, hxr, hxs, hk5⟩; have c1 := hxs.c0; rw [HPP.out.1, HPP.out.2] at c1; have HX := Lib.hid (And.intro hxc hxr); have HS := Lib.hid hxs; have HK5 := Lib.hid hk5; have HK6 := Lib.hid (HKB.out.trans hk5); clear hxc hxr hxs hk5) | (at_builtin; (refine wpList_append_own_at _ rfl _ _ 47 rfl w.heap.size 52 i0 (.pointer none) 1 8 Try.underlying47 hi iz is ib rfl (by decide) _ L.length (pC L) rfl (own_keepZ (HK6.out.ownZ HO.out hpw hmw) (bel_box _)) ⟨w5.heap.size, 0, none⟩ 1 1 [.pointer (some ⟨x.p, 0, none⟩)] rfl rfl (ptrow w5 _ _) (pt_one x) (by unfold maxLen; omega) (by omega) ?_ ?_; (focus (have h1 := HK6.out.size; simp at h1 ⊢; omega)); intro v3 w3 hown3 hgrow3 _ hat3; obtain ⟨A3, c3', rfl⟩ := own_formZ hown3)))
        obtain ⟨s1, s2, s3, s4, s5⟩ := oth_step2 hzr hpw hmw HO.out HK6.out hgrow3 hat3
        rw [pC_snoc] at hown3
        have hl1 : (L ++ [x]).length = L.length + 1 := by simp
        rw [← hl1] at hown3
        refine ⟨⟨k + 1, L ++ [x], A3, c3', by omega, by congr 1, by rw [hl1], by rw [hl1]; omega, Lib.hid ?_, Lib.hid hown3, Lib.hid fun y hy => ?_, Lib.hid ?_, Lib.hid (s5 w (Nat.le_refl _) HKk.out)⟩, by simp [intOf]; omega⟩
        · rw [pcs_snoc, HC.out, HT.out, kp_snoc, HX.out.1, HH1.out]; rfl
        · rw [hl1]
          rcases List.mem_append.1 hy with hy | hy
          · exact (HE.out y hy).keep s1 s2
          · obtain rfl : y = x := by simpa using hy
            exact HX.out.2.keep (fun b ⟨q1, q2⟩ => s3 b ⟨by omega, q2⟩) fun q ⟨q1, q2⟩ => s4 q ⟨by omega, q2⟩
        · rw [HT.out]
          exact rsl_one (HS.out.step hpw hmw HO.out hgrow3)
      · have g1 : ¬ (P0 : Int) < (P1 : Int) := by omega
        have HH1 : Hid (hp1 HK z.ct = false) := Lib.hid (by rw [hhp]; exact decide_eq_false (by omega))
        clear hhp hP1
        go_wp2_with (go_at_call 27; (with_reducible refine (KZ.out).mono ?_); rintro e w5 ⟨x, rfl, hxc, hxr, hxs, hk5⟩; have c1 := hxs.c0; rw [HPP.out.1, HPP.out.2] at c1; have HS := Lib.hid hxs; have HK6 := Lib.hid (HKB.out.trans hk5); clear hxc hxr hxs hk5)
        have hs6 := HK6.out.size
        refine ⟨⟨k + 1, L, A2, c2, by omega, by congr 1, rfl, by omega, Lib.hid ?_, Lib.hid (HK6.out.ownZ HO.out hpw hmw), Lib.hid fun y hy => ?_, Lib.hid ?_, Lib.hid (HKk.out.trans HK6.out)⟩, by simp [intOf]; omega⟩
        · rw [HC.out, HT.out, kp_snoc, HH1.out]; simp
        · exact (HE.out y hy).keep (fun b ⟨q1, q2, q3⟩ => ⟨q1, by omega, q3⟩) fun q ⟨q1, q2, _⟩ => HK6.out.cell q2 (by omega) (by omega)
        · rw [HT.out]
          exact rsl_one HS.out
    · obtain rfl : k = l.length := by omega
      have h1 := HC.out
      have h2 := HRk.out
      rw [List.take_length] at h1 h2
      have HH := Lib.hid h1
      have HH2 := Lib.hid h2
      clear h1 h2 K HR HB
      go_wp2
      go_ret
      have ho := HO.out
      have he := HE.out
      exact ⟨⟨A2, c2, L⟩, rfl, HH.out, (own_rdp ho (by unfold maxLen; omega)).mono fun b hb => ⟨hb.1, hb.2.1⟩, fun t ht => (he t ht).keep (fun b hb => ⟨hb.1, hb.2.1⟩) fun _ _ => rfl, HH2.out, HKk.out⟩
end fu
end Go.Proofs.Ytjodffbekipnlaa
/- clone.Map over lists with the reader's list. -/
namespace Go.Proofs.Ytjodffbekipnlaa
set_option linter.unusedVariables false
set_option linter.unusedSimpArgs false
open Go.RowKit Go.Maps Go.WideMaps Go.Sort
namespace fu
theorem rsl_app {W : World} {p m n pl : Nat} {f : List UInt8 → Nat} {cs ds : List (Sx Hd)} (h : RS W p m (n + upL cs + upL ds) (pl + plL cs + plL ds) (fun u => (f u + asL u cs) + asL u ds)) : RSL W p m n pl f (cs ++ ds) := by
  unfold RSL
  have e1 : n + upL (cs ++ ds) = n + upL cs + upL ds := by rw [up_app]; omega
  have e2 : pl + plL (cs ++ ds) = pl + plL cs + plL ds := by rw [pl_app]; omega
  have e3 : (fun u => f u + asL u (cs ++ ds)) = fun u => (f u + asL u cs) + asL u ds := by
    funext u
    rw [as_app]; omega
  rw [e1, e2, e3]
  exact h
/-- the contents of lists, one behind the other -/
def fls (l : List (Rw Zt)) : List (Sx Hd) := (l.map fun b => cts b.l).flatten
theorem fls_take {l : List (Rw Zt)} {k : Nat} {z : Rw Zt} (h : l[k]? = some z) : fls (l.take (k + 1)) = fls (l.take k) ++ cts z.l := by
  unfold fls
  rw [take_succ_of h]
  simp
theorem fls_cut {l : List (Rw Zt)} {k : Nat} {z : Rw Zt} (h : l[k]? = some z) : fls l = fls (l.take k) ++ (cts z.l ++ fls (l.drop (k + 1))) := by
  have e : l = l.take k ++ ([z] ++ l.drop (k + 1)) := by
    have h1 := List.take_append_drop (k + 1) l
    rw [take_succ_of h, List.append_assoc] at h1
    exact h1.symm
  conv => lhs; rw [e]
  simp [fls]
theorem Bd.atb {n pl : Nat} {f : List UInt8 → Nat} {l : List (Rw Zt)} (h : Bd n pl f (fls l)) {k : Nat} {z : Rw Zt} (hz : l[k]? = some z) : Bd (n + upL (fls (l.take k))) (pl + plL (fls (l.take k))) (fun u => f u + asL u (fls (l.take k))) (cts z.l) := by
  rw [fls_cut hz] at h
  exact h.app
/-- new lists of parts in a new row -/
def NewPm (l : List (Rw Zt)) (w : World) (p m n pl : Nat) (f : List UInt8 → Nat) (e : Ending) (w' : World) : Prop := ∃ q : Rw (Rw Pt), e = .returned (.slice q.A q.l.length q.c) ∧ (q.l.map fun b => pcs b.l) = l.map (fun b => kp HK (cts b.l)) ∧ RdQ w' (fun b => w.heap.size ≤ b ∧ b < w'.heap.size) 1 APC q ∧ (∀ a ∈ q.l, RdQ w' (fun b => w.heap.size ≤ b ∧ b < w'.heap.size) 1 PtC a ∧ ∀ t ∈ a.l, RpP w' (fun b => w.heap.size ≤ b ∧ b < w'.heap.size) t) ∧ RSL w' p m n pl f (fls l) ∧ K2 p m w w'
theorem ap_one (a : Rw Pt) : ∀ u ∈ [Value.slice a.A a.l.length a.c], u.oneCell' = true := by
  intro u hu
  simp at hu
  subst hu
  rfl
theorem apC_snoc (L : List (Rw Pt)) (t : Rw Pt) : apC L ++ [Value.slice t.A t.l.length t.c] = apC (L ++ [t]) := by simp [apC]
set_option maxHeartbeats 8000000 in
set_option maxRecDepth 100000 in
theorem mapP_of (r : Rw (Rw Zt)) (w : World) (p m n pl H : Nat) (f : List UInt8 → Nat) (hRS : RS w p m n pl f) (hR : RdR w H 1 AC r) (hH : H ≤ w.heap.size) (hHp : H ≤ p) (hHm : H ≤ m) (hmw : m < w.heap.size) (hB : Bd n pl f (fls r.l)) (hla : r.l.length ≤ 200000)
    (K : Hid (∀ a ∈ r.l, ∀ W n pl f, RS W p m n pl f → H ≤ W.heap.size → m < W.heap.size → Below H w W → Bd n pl f (cts a.l) → Calls Try.prog 22 #[.pointer (some ⟨p, 0, none⟩), .slice a.A a.l.length a.c] W (NewPl (cts a.l) W p m n pl f))) :
    Calls Try.prog 31 #[.slice r.A r.l.length r.c, .func (.func 22) #[.pointer (some ⟨p, 0, none⟩)] #[]] w (NewPm r.l w p m n pl f) := by
  obtain ⟨i0, hi, iz, is, ib⟩ := info_parts apInfo
  have hpw : p < w.heap.size := World.block_lt_of_cell? w _ hRS.c0
  have HR := Lib.hid hR
  have HB := Lib.hid hB
  have KG := Lib.hid (growP_any r.l.length w (by omega))
  have HRS : Hid (∀ W, Below w.heap.size w W → RSL W p m n pl f (fls [])) := Lib.hid fun W hb => hRS.below hb
  clear hR hB hRS
  obtain ⟨A, c, l⟩ := r
  simp only at K HR HB hla KG ⊢
  go_enter Try.func31, Try.ntmps31
  go_wp2_with (go_at_call 38; (with_reducible refine (KG.out).mono ?_); rintro e w1 ⟨A1, c1, rfl, hown1, hb1⟩)
  clear KG
  have HRS1 := Lib.hid (HRS.out w1 hb1)
  go_loopw [5, 13] (fun v i wr => ∃ (k : Nat) (L : List (Rw Pt)) (A2 : Option Addr) (c2 : Nat), k ≤ l.length ∧ i = .int .i64 (k : Int) ∧ v = .slice A2 k c2 ∧ L.length = k ∧ Hid ((L.map fun b => pcs b.l) = (l.take k).map fun b => kp HK (cts b.l)) ∧ Hid (wr.ownsRow w.heap.size 47 1 (.slice A2 k c2) k (apC L)) ∧ Hid (∀ a ∈ L, RdQ wr (Oth w.heap.size wr (.slice A2 k c2)) 1 PtC a ∧ ∀ t ∈ a.l, RpP wr (Oth w.heap.size wr (.slice A2 k c2)) t) ∧ Hid (RSL wr p m n pl f (fls (l.take k))) ∧ Hid (K2 p m w wr)) (fun _ i _ => l.length - (intOf i).toNat)
  case atStart => exact ⟨0, [], A1, c1, by omega, rfl, rfl, rfl, Lib.hid rfl, Lib.hid hown1, Lib.hid (by simp), HRS1, Lib.hid (K2.of_below hb1)⟩
  case round =>
    obtain ⟨k, L, A2, c2, hk, rfl, rfl, hL, HC, HO, HE, HRk, HKk⟩ := hrel
    clear hb1 hown1 HRS HRS1
    have hlow := HKk.out.low hH hHp hHm
    have hzr := HKk.out.size
    by_cases hlt : k < l.length
    · obtain ⟨ad, z, hA, had, hz, hm, d0⟩ := (HR.out.blw oneB_A hlow (Nat.le_refl _)).at_ hlt
      have d0 : wr.cell? (ad.add (k * 1)) = some (.slice z.A z.l.length z.c) := d0
      rw [Nat.mul_one] at d0
      simp only at hA
      subst hA
      simp only at hz hm
      have d12 : (k : Int) < (l.length : Int) := by omega
      have KZ := Lib.hid (K.out z hm wr _ _ _ HRk.out (by omega) (by omega) hlow (HB.out.atb hz))
      have HT : Hid (((l.take (k + 1)).map fun b => kp HK (cts b.l)) = ((l.take k).map fun b => kp HK (cts b.l)) ++ [kp HK (cts z.l)]) := Lib.hid (by rw [take_succ_of hz, List.map_append]; rfl)
      have HFT := Lib.hid (fls_take hz)
      clear hz hm K hlow
      have hkl : (k + 1) * 24 ≤ 140737488355328 := by omega
      go_wp2_with (first | (go_at_call 22; (with_reducible refine (KZ.out).mono ?_); rintro e w5 ⟨x, rfl, hxc, hxq, hxr, hxs, hk5⟩; have HX := Lib.hid (And.intro hxc (And.intro hxq hxr)); have HS := Lib.hid hxs; have HK5 := Lib.hid hk5; clear hxc hxq hxr hxs hk5) | (at_builtin; (refine wpList_append_own_at _ rfl _ _ 57 rfl w.heap.size 47 i0 (.slice none 0 0) 1 24 Try.underlying57 hi iz is ib rfl (by decide) _ k (apC L) rfl (own_keepZ (HK5.out.ownZ HO.out hpw hmw) (bel_box _)) ⟨w5.heap.size, 0, none⟩ 1 1 [.slice x.A x.l.length x.c] rfl rfl (ptrow w5 _ _) (ap_one x) (by unfold maxLen; omega) (by omega) ?_ ?_; (focus (have h1 := HK5.out.size; simp at h1 ⊢; omega)); intro v3 w3 hown3 hgrow3 _ hat3; obtain ⟨A3, c3', rfl⟩ := own_formZ hown3)))
      obtain ⟨s1, s2, s3, s4, s5⟩ := oth_step2 hzr hpw hmw HO.out HK5.out hgrow3 hat3
      rw [apC_snoc] at hown3
      refine ⟨⟨k + 1, L ++ [x], A3, c3', by omega, by congr 1, rfl, by simp [hL], Lib.hid ?_, Lib.hid hown3, Lib.hid fun y hy => ?_, Lib.hid ?_, Lib.hid (s5 w (Nat.le_refl _) HKk.out)⟩, by simp [intOf]; omega⟩
      · rw [List.map_append, HC.out, HT.out, List.map_singleton, HX.out.1]
      · rcases List.mem_append.1 hy with hy | hy
        · exact ⟨((HE.out y hy).1.keep oneB_Pt s2).mono s1, fun t ht => ((HE.out y hy).2 t ht).keep s1 s2⟩
        · obtain rfl : y = x := by simpa using hy
          exact ⟨(HX.out.2.1.keep oneB_Pt s4).mono s3, fun t ht => (HX.out.2.2 t ht).keep s3 s4⟩
      · rw [HFT.out]
        exact rsl_app (HS.out.step hpw hmw HO.out hgrow3)
    · obtain rfl : k = l.length := by omega
      have h1 := HC.out
      have h2 := HRk.out
      rw [List.take_length] at h1 h2
      have HH := Lib.hid h1
      have HH2 := Lib.hid h2
      clear h1 h2 K HR HB
      go_wp2
      go_ret
      have ho := HO.out
      have he := HE.out
      rw [← hL] at ho he hla ⊢
      exact ⟨⟨A2, c2, L⟩, rfl, HH.out, (own_rdap ho (by unfold maxLen; omega)).mono fun b hb => ⟨hb.1, hb.2.1⟩, fun a ha => ⟨(he a ha).1.mono fun b hb => ⟨hb.1, hb.2.1⟩, fun t ht => ((he a ha).2 t ht).keep (fun b hb => ⟨hb.1, hb.2.1⟩) fun _ _ => rfl⟩, HH2.out, HKk.out⟩
end fu
end Go.Proofs.Ytjodffbekipnlaa
/- part of the program: a case. -/
namespace Go.Proofs.Ytjodffbekipnlaa
set_option linter.unusedVariables false
set_option linter.unusedSimpArgs false
open Go.RowKit Go.Maps Go.WideMaps Go.Sort
namespace fu
/-- a statement without its branches -/
def Zt.cut (z : Zt) : Zt := .mk z.k z.nm z.t z.r z.ou z.ar ⟨none, 0, []⟩
theorem RsZ.cut {w : World} {B : Nat} {z : Zt} (h : RsZ w B z) : RsZ w B z.cut := .mk _ h.of.1 h.of.2.1 h.of.2.2.1 (RdR.nil _ _ _ _ _) (fun a ha => by cases ha) (fun a ha => by cases ha)
theorem SmZ.cut {m : Nat} {z : Zt} (h : SmZ m z) : SmZ m z.cut := .mk _ h.of.1 h.of.2.1 (Nat.zero_le _) (fun a ha => by cases ha) (fun a ha => by cases ha)
theorem boxZ_cut {W : World} {b : Nat} {z : Zt} (h : BoxZ W b z) : BoxZ (W.setCell ⟨b, 11, none⟩ (.slice none 0 0)) b z.cut := by
  have h1 : BoxZ (sts W b [(11, .slice none 0 0)]) b z.cut := box_by h (by intro q hq; simp at hq; subst hq; decide) fun i hi => by
    rcases i with _ | _ | _ | _ | _ | _ | _ | _ | _ | _ | _ | _ | i
    all_goals first | rfl | omega
  exact h1
theorem K2.box {p m b : Nat} {w W W' : World} {z : Zt} (h : BoxZ W b z) (hk : K2 p m W W') (h1 : b ≠ p) (h2 : b ≠ m) : BoxZ W' b z := by
  have hb : b < W.heap.size := World.block_lt_of_cell? W _ h.1
  have k : ∀ i, W'.cell? ⟨b, i, none⟩ = W.cell? ⟨b, i, none⟩ := fun i => hk.cell (a := ⟨b, i, none⟩) hb h1 h2
  unfold BoxZ at h ⊢
  rw [k 0, k 1, k 2, k 3, k 4, k 5, k 6, k 7, k 8, k 9, k 10, k 11]
  exact h
/-- what a case has become -/
theorem part_done {z s : Zt} {q : Rw (Rw Pt)} {P : Nat} {flag : Bool} {F0 F1 : Nat} {f : List UInt8 → Nat} (hz : z.k = 3) (hs : s.ct = z.cut.ct) (hq : (q.l.map fun b => pcs b.l) = z.br.l.map fun b => kp HK (cts b.l)) (hF0 : F0 = f z.nm.data.toList) (hF1 : F1 = f z.nm.data.toList + asL z.nm.data.toList (fls z.br.l)) (hfl : flag = decide (F0 < F1)) : (Pt.mk P s flag q).ct = kp1 HK z.ct ∧ flag = asg1 HK (Pt.mk P s flag q).ct.h (Pt.mk P s flag q).ct := by
  have hk : s.k = 3 := ((ct_iff.1 hs).1).trans hz
  have hh : s.hd = z.hd := by
    have := congrArg Sx.h hs
    rw [Zt.ct_h, Zt.ct_h] at this
    exact this
  have hc : HK.c z.ct.h = true := by
    rw [Zt.ct_h]
    exact decide_eq_true hz
  have e1 : (Pt.mk P s flag q).ct = kp1 HK z.ct := by
    rw [Pt.ct_eq, kp1_eq, if_pos hc, Zt.ct_h, Zt.ct_br, List.map_map]
    show (if s.k = 3 then Sx.mk s.hd (q.l.map fun b => pcs b.l) else _) = _
    rw [if_pos hk, hh, hq]
    rfl
  refine ⟨e1, ?_⟩
  rw [e1, asg_kp1, kp1_h, asg_as, as_case _ hc, hfl, hF0, hF1, Zt.ct_h, Zt.ct_br]
  have e2 : asL z.nm.data.toList (fls z.br.l) = sumL (asL z.hd.nm) (z.br.l.map fun b => cts b.l) := by
    show asL z.nm.data.toList (fls z.br.l) = sumL (asL z.nm.toList) (z.br.l.map fun b => cts b.l)
    rw [ByteArray.toList_eq]
    unfold fls
    generalize (z.br.l.map fun b => cts b.l) = L
    induction L with
    | nil => rfl
    | cons a L ih => rw [List.flatten_cons, as_app, ih, sumL_cons]
  rw [← e2]
  congr 1
  rw [eq_iff_iff]
  omega
theorem flat_sum (g : List (Sx Hd) → Nat) (h0 : g [] = 0) (ha : ∀ x y, g (x ++ y) = g x + g y) : ∀ L : List (List (Sx Hd)), g L.flatten = sumL g L
  | [] => h0
  | a :: L => by rw [List.flatten_cons, ha, flat_sum g h0 ha L, sumL_cons]
theorem rsl_case {W : World} {p m n pl : Nat} {f : List UInt8 → Nat} {z : Zt} (hz : z.k = 3) (h : RSL W p m n pl f (fls z.br.l)) : RS W p m (n + up1 z.ct) (pl + pl1 z.ct) (fun u => f u + as1 u z.ct) := by
  have hc : HK.c z.ct.h = true := by
    rw [Zt.ct_h]
    exact decide_eq_true hz
  unfold RSL at h
  have e1 : upL (fls z.br.l) = up1 z.ct := by rw [up_case hc, Zt.ct_br]; exact flat_sum upL rfl up_app _
  have e2 : plL (fls z.br.l) = pl1 z.ct := by rw [pl_case hc, Zt.ct_br]; exact flat_sum plL rfl pl_app _
  have e3 : (fun u => f u + asL u (fls z.br.l)) = fun u => f u + as1 u z.ct := by
    funext u
    rw [as_case u hc, Zt.ct_br]
    congr 1
    exact flat_sum (asL u) rfl (as_app u) _
  rw [e1, e2, e3] at h
  exact h
theorem bd_case {n pl : Nat} {f : List UInt8 → Nat} {z : Zt} (hz : z.k = 3) (h : Bd n pl f [z.ct]) : Bd n pl f (fls z.br.l) := by
  have hc : HK.c z.ct.h = true := by
    rw [Zt.ct_h]
    exact decide_eq_true hz
  have e1 : upL (fls z.br.l) = up1 z.ct := by rw [up_case hc, Zt.ct_br]; exact flat_sum upL rfl up_app _
  have e2 : plL (fls z.br.l) = pl1 z.ct := by rw [pl_case hc, Zt.ct_br]; exact flat_sum plL rfl pl_app _
  refine ⟨?_, ?_, fun u => ?_⟩
  · rw [e1, ← up_one]; exact h.up
  · rw [e2, ← pl_one]; exact h.pls
  · have e3 : asL u (fls z.br.l) = as1 u z.ct := by rw [as_case u hc, Zt.ct_br]; exact flat_sum (asL u) rfl (as_app u) _
    rw [e3, ← as_one]; exact h.ass u
end fu
end Go.Proofs.Ytjodffbekipnlaa
/- part of the program: a case, walked. -/
namespace Go.Proofs.Ytjodffbekipnlaa
set_option linter.unusedVariables false
set_option linter.unusedSimpArgs false
open Go.RowKit Go.Maps Go.WideMaps Go.Sort
namespace fu
theorem grown_set (W : World) (b i : Nat) (v : Value) : W.grownBy (W.setCell ⟨b, i, none⟩ v) (some b) := ⟨rfl, rfl, rfl, by simp [World.setCell], fun k hk hn => heap_setCell_other W ⟨b, i, none⟩ k _ (fun e => hn (by rw [e]))⟩
theorem K2.frozen {p m : Nat} {W W' : World} (h : K2 p m W W') {a : Addr} (hb : a.block < W.heap.size) (h1 : a.block ≠ p) (h2 : a.block ≠ m) : W'.frozen? a = W.frozen? a := World.frozen?_of_block (h.block a.block hb h1 h2)
theorem box_frozen (w : World) (z : Zt) : (w.alloc (zB z)).frozen? ⟨w.heap.size, 11, none⟩ = false := by simp [go_sem]
theorem K2.setNew {p m b i : Nat} {w W : World} (h : K2 p m w W) (hb : w.heap.size ≤ b) (v : Value) : K2 p m w (W.setCell ⟨b, i, none⟩ v) := ⟨h.os, h.tape, h.output, by have := h.size; simp [World.setCell]; exact this, fun k hk h1 h2 => (heap_setCell_other W ⟨b, i, none⟩ k v (fun e => by have e : k = b := e; omega)).trans (h.block k hk h1 h2)⟩
set_option maxRecDepth 100000 in
set_option maxHeartbeats 8000000 in
theorem part_case (z : Zt) (w : World) (p m n pl H : Nat) (f : List UInt8 → Nat) (h : RS w p m n pl f) (hz : z.k = 3) (hR : RsZ w H z) (hS : SmZ 200000 z) (hH : H ≤ w.heap.size) (hHp : H ≤ p) (hHm : H ≤ m) (hmw : m < w.heap.size) (hnm : z.nm.size ≤ maxLen) (hB : Bd n pl f (fls z.br.l))
    (KM : Hid (∀ W, RS W p m n pl f → H ≤ W.heap.size → m < W.heap.size → Below H w W → Calls Try.prog 31 #[.slice z.br.A z.br.l.length z.br.c, .func (.func 22) #[.pointer (some ⟨p, 0, none⟩)] #[]] W (NewPm z.br.l W p m n pl f))) :
    Calls Try.prog 27 #[.pointer (some ⟨p, 0, none⟩), zV z] w (NewPt z w p m n pl f) := by
  have hpw : p < w.heap.size := World.block_lt_of_cell? w _ h.c0
  have hb0 : Below w.heap.size w (w.alloc (zB z)) := (by repeat (first | (with_reducible exact Below.refl _ _) | (with_reducible assumption) | (with_reducible exact bel_box _) | (with_reducible refine bel_step ?_ (by with_reducible assumption)) | (with_reducible refine Below.drew ?_) | (with_reducible refine below_drewN ?_ _) | (with_reducible refine bel_alloc ?_ _)))
  have hr0 := h.below hb0
  have hbz := boxZ_one w z
  have hq3 : (z.k == 3) = true := by rw [hz]; rfl
  have HZ := Lib.hid hz
  have c1 : (w.alloc (zB z)).cell? ⟨p, 1, none⟩ = some (.map (some m)) := hr0.c1
  obtain ⟨F0, hF0⟩ : ∃ F0, f z.nm.data.toList = F0 := ⟨_, rfl⟩
  have hl0 := hr0.mc.look z.nm hnm
  have hl1 := (hr0.below (Below.refl _ _).drew).mc.look z.nm hnm
  rw [hF0] at hl0 hl1
  have hw0 : (w.alloc (zB z)).heap.size = w.heap.size + 1 := World.size_alloc _ _
  have KM0 := Lib.hid (KM.out (w.alloc (zB z)) hr0 (by omega) (by omega) (hb0.mono hH))
  have KM1 := Lib.hid (KM.out (w.alloc (zB z)).drew (hr0.below (Below.refl _ _).drew) (by show _ ≤ (w.alloc (zB z)).heap.size; omega) (by show _ < (w.alloc (zB z)).heap.size; omega) (hb0.mono hH).drew)
  have HK0 : Hid (K2 p m w (w.alloc (zB z))) := Lib.hid (K2.of_below hb0)
  have HF := Lib.hid hF0
  obtain ⟨m0, m1, m2, m3, m4, m5, m6, m7, m8, m9, m10, m11⟩ := hbz
  have KS : Hid (∀ W, Below H w W → H ≤ W.heap.size → Calls Try.prog 30 #[.agg #[.int .i64 z.k, .string z.nm, .int .i64 z.t, .int .i64 z.r.k, .int .i64 z.r.op, .int .i64 z.r.t, .int .i64 z.r.v, .string z.r.nm, .slice z.r.A z.r.ar.length z.r.c, .slice z.ou.A z.ou.l.length z.ou.c, .slice z.ar.A z.ar.l.length z.ar.c, .slice none 0 0]] W (NewZ z.cut.ct W)) := Lib.hid fun W hb hs => cloneS_any z.cut W (hR.cut.blw hb hs) hS.cut
  clear KM hr0 hR hS hz hF0 h hB hb0
  go_enter Try.func27, Try.ntmps27
  go_wp2
  go_region
  have HBX : Hid (∀ W, K2 p m (w.alloc (zB z)).drew W → BoxZ W w.heap.size z ∧ W.frozen? ⟨w.heap.size, 11, none⟩ = false) := Lib.hid fun W hk => ⟨K2.box (w := w) (W := (w.alloc (zB z)).drew) (boxZ_one w z) hk (by omega) (by omega), (hk.frozen (a := ⟨w.heap.size, 11, none⟩) (by show w.heap.size < (w.alloc (zB z)).heap.size; omega) (by show w.heap.size ≠ p; omega) (by show w.heap.size ≠ m; omega)).trans (box_frozen w z)⟩
  have HK1 : Hid (∀ W, K2 p m (w.alloc (zB z)).drew W → K2 p m w W) := Lib.hid fun W hk => HK0.out.trans ⟨hk.os, hk.tape, hk.output, hk.size, hk.block⟩
  clear KM0 hl0 hl1 m0 m1 m2 m3 m4 m5 m6 m7 m8 m9 m10 m11 HK0
  have m11 : (w.alloc (zB z)).drew.cell? ⟨w.heap.size, 11, none⟩ = some (.slice z.br.A z.br.l.length z.br.c) := (boxZ_one w z).2.2.2.2.2.2.2.2.2.2.2
  clear c1
  go_wp2_with (go_at_call 31; (with_reducible refine (KM1.out).mono ?_); rintro e w5 ⟨q, rfl, hqc, hqq, hqr, hqs, hk5⟩; clear m11; have hbx := HBX.out w5 hk5; have hfz := hbx.2; obtain ⟨m0, m1, m2, m3, m4, m5, m6, m7, m8, m9, m10, m11⟩ := hbx.1; have HQC := Lib.hid hqc; have HQQ := Lib.hid (And.intro hqq hqr); have HQS := Lib.hid hqs; have HK5 := Lib.hid (HK1.out w5 hk5); have hsz5 := hk5.size; clear hqc hqq hqr hqs hk5 hbx)
  obtain ⟨W6, hW6⟩ : ∃ W, w5.setCell ⟨w.heap.size, 11, none⟩ (.slice none 0 0) = W := ⟨_, rfl⟩
  have hR6 : RSL W6 p m n pl f (fls z.br.l) := by rw [← hW6]; exact RS.grown HQS.out (grown_set _ _ _ _) (by intro e; have := Option.some.inj e; omega) (by intro e; have := Option.some.inj e; omega)
  have hK6 : K2 p m w W6 := by rw [← hW6]; exact HK5.out.setNew (Nat.le_refl _) _
  have hB6 : BoxZ W6 w.heap.size z.cut := by rw [← hW6]; exact boxZ_cut ⟨m0, m1, m2, m3, m4, m5, m6, m7, m8, m9, m10, m11⟩
  have hS6 : W6.heap.size = w5.heap.size := by rw [← hW6]; simp [World.setCell]
  have hdr : (w.alloc (zB z)).drew.heap.size = w.heap.size + 1 := hw0
  have hQ6 : RdQ W6 (fun b => w.heap.size + 1 ≤ b ∧ b < W6.heap.size) 1 APC q ∧ ∀ a ∈ q.l, RdQ W6 (fun b => w.heap.size + 1 ≤ b ∧ b < W6.heap.size) 1 PtC a ∧ ∀ t ∈ a.l, RpP W6 (fun b => w.heap.size + 1 ≤ b ∧ b < W6.heap.size) t := by
    have hq := HQQ.out
    rw [hdr] at hq
    have kk : ∀ p : Addr, w.heap.size + 1 ≤ p.block ∧ p.block < w5.heap.size → W6.cell? p = w5.cell? p := fun p hp => by rw [← hW6]; exact World.cell?_setCell_other _ _ _ _ (by intro e; have h := hp.1; rw [← e] at h; exact absurd h (Nat.not_succ_le_self _))
    rw [hS6]
    exact ⟨hq.1.keep oneB_AP kk, fun a ha => ⟨(hq.2 a ha).1.keep oneB_Pt kk, fun t ht => ((hq.2 a ha).2 t ht).keep (fun b hb => hb) kk⟩⟩
  obtain ⟨F1, hF1⟩ : ∃ F1, f z.nm.data.toList + asL z.nm.data.toList (fls z.br.l) = F1 := ⟨_, rfl⟩
  have HW : Hid (∀ W, Below W6.heap.size W6 W → (W.cell? ⟨w.heap.size, 0, none⟩ = some (.int .i64 z.k) ∧ W.cell? ⟨w.heap.size, 1, none⟩ = some (.string z.nm) ∧ W.cell? ⟨w.heap.size, 2, none⟩ = some (.int .i64 z.t) ∧ W.cell? ⟨w.heap.size, 3, none⟩ = some (.int .i64 z.r.k) ∧ W.cell? ⟨w.heap.size, 4, none⟩ = some (.int .i64 z.r.op) ∧ W.cell? ⟨w.heap.size, 5, none⟩ = some (.int .i64 z.r.t) ∧ W.cell? ⟨w.heap.size, 6, none⟩ = some (.int .i64 z.r.v) ∧ W.cell? ⟨w.heap.size, 7, none⟩ = some (.string z.r.nm) ∧ W.cell? ⟨w.heap.size, 8, none⟩ = some (.slice z.r.A z.r.ar.length z.r.c) ∧ W.cell? ⟨w.heap.size, 9, none⟩ = some (.slice z.ou.A z.ou.l.length z.ou.c) ∧ W.cell? ⟨w.heap.size, 10, none⟩ = some (.slice z.ar.A z.ar.l.length z.ar.c) ∧ W.cell? ⟨w.heap.size, 11, none⟩ = some (.slice none 0 0)) ∧ W.cell? ⟨p, 1, none⟩ = some (.map (some m)) ∧ (Instr.lookup 43 (.map (some m)) (.string z.nm) false).run Try.prog W = .ok (.int .i64 (F1 : Int)) W) := Lib.hid fun W hb => by
    have h1 : RS W p m _ _ _ := RS.below hR6 hb
    have h2 := h1.mc.look z.nm hnm
    have h3 : ((f z.nm.data.toList + asL z.nm.data.toList (fls z.br.l) : Nat) : Int) = (F1 : Int) := by rw [hF1]
    rw [← h3]
    exact ⟨hB6.keep hb, h1.c1, h2⟩
  have hlow : Below H w W6 := hK6.low hH hHp hHm
  have HF2 := Lib.hid hF1
  have HR6 := Lib.hid hR6
  have HQ6 := Lib.hid hQ6
  have hsz6 : w.heap.size + 1 ≤ W6.heap.size := by omega
  rw [hW6]
  clear hfz m0 m1 m2 m3 m4 m5 m6 m7 m8 m9 m10 m11 HQQ HQS HK5 hsz5 hW6 hR6 hB6 hS6 hdr hQ6 hF1 HBX HK1 KM1
  obtain ⟨⟨m0, m1, m2, m3, m4, m5, m6, m7, m8, m9, m10, m11⟩, c1, hlk⟩ := HW.out W6 (Below.refl _ _)
  obtain ⟨_, _, hlk2⟩ := HW.out W6.drew (Below.refl _ _).drew
  go_region_held3 (fun W => (W.cell? ⟨w.heap.size, 0, none⟩ = some (.int .i64 z.k) ∧ W.cell? ⟨w.heap.size, 1, none⟩ = some (.string z.nm) ∧ W.cell? ⟨w.heap.size, 2, none⟩ = some (.int .i64 z.t) ∧ W.cell? ⟨w.heap.size, 3, none⟩ = some (.int .i64 z.r.k) ∧ W.cell? ⟨w.heap.size, 4, none⟩ = some (.int .i64 z.r.op) ∧ W.cell? ⟨w.heap.size, 5, none⟩ = some (.int .i64 z.r.t) ∧ W.cell? ⟨w.heap.size, 6, none⟩ = some (.int .i64 z.r.v) ∧ W.cell? ⟨w.heap.size, 7, none⟩ = some (.string z.r.nm) ∧ W.cell? ⟨w.heap.size, 8, none⟩ = some (.slice z.r.A z.r.ar.length z.r.c) ∧ W.cell? ⟨w.heap.size, 9, none⟩ = some (.slice z.ou.A z.ou.l.length z.ou.c) ∧ W.cell? ⟨w.heap.size, 10, none⟩ = some (.slice z.ar.A z.ar.l.length z.ar.c) ∧ W.cell? ⟨w.heap.size, 11, none⟩ = some (.slice none 0 0)) ∧ W.cell? ⟨p, 1, none⟩ = some (.map (some m))) (first | exact ⟨⟨m0, m1, m2, m3, m4, m5, m6, m7, m8, m9, m10, m11⟩, c1⟩ | exact ⟨⟨cell_alc _ m0, cell_alc _ m1, cell_alc _ m2, cell_alc _ m3, cell_alc _ m4, cell_alc _ m5, cell_alc _ m6, cell_alc _ m7, cell_alc _ m8, cell_alc _ m9, cell_alc _ m10, cell_alc _ m11⟩, cell_alc _ c1⟩) ((go_at_call 30; (with_reducible refine (KS.out _ ?_ ?_).mono ?_); (focus ((repeat (first | (with_reducible exact Below.refl _ _) | (with_reducible assumption) | (with_reducible exact bel_box _) | (with_reducible refine bel_step ?_ (by with_reducible assumption)) | (with_reducible refine Below.drew ?_) | (with_reducible refine below_drewN ?_ _) | (with_reducible refine bel_alloc ?_ _))); done)); (focus (first | omega | (simp; omega))); rintro e w7 ⟨s, rfl, hsc, hsr, hb7, hsn⟩; have hb67 : Below W6.heap.size W6 w7 := (by repeat (first | (with_reducible exact Below.refl _ _) | (with_reducible assumption) | (with_reducible exact bel_box _) | (with_reducible refine bel_step ?_ (by with_reducible assumption)) | (with_reducible refine Below.drew ?_) | (with_reducible refine below_drewN ?_ _) | (with_reducible refine bel_alloc ?_ _))); clear m0 m1 m2 m3 m4 m5 m6 m7 m8 m9 m10 m11 c1 hlk hlk2; obtain ⟨⟨m0, m1, m2, m3, m4, m5, m6, m7, m8, m9, m10, m11⟩, c1, hlk⟩ := HW.out w7 hb67; have HSC := Lib.hid (And.intro hsc (And.intro hsr hsn)); clear hsc hsr hsn))
  all_goals
    go_wp2
    go_ret
    have hb9 := bel_box (w := w7) (.cells #[.int .i64 s.k, .string s.nm, .int .i64 s.t, .int .i64 s.r.k, .int .i64 s.r.op, .int .i64 s.r.t, .int .i64 s.r.v, .string s.r.nm, .slice s.r.A s.r.ar.length s.r.c, .slice s.ou.A s.ou.l.length s.ou.c, .slice s.ar.A s.ar.l.length s.ar.c, .slice s.br.A s.br.l.length s.br.c, .slice q.A q.l.length q.c, .bool (decide (F0 < F1))] 59)
    have h69 : Below W6.heap.size W6 (w7.alloc (.cells #[.int .i64 s.k, .string s.nm, .int .i64 s.t, .int .i64 s.r.k, .int .i64 s.r.op, .int .i64 s.r.t, .int .i64 s.r.v, .string s.r.nm, .slice s.r.A s.r.ar.length s.r.c, .slice s.ou.A s.ou.l.length s.ou.c, .slice s.ar.A s.ar.l.length s.ar.c, .slice s.br.A s.br.l.length s.br.c, .slice q.A q.l.length q.c, .bool (decide (F0 < F1))] 59)) := bel_step hb67 hb9
    have hz7 := hb67.size
    have hz9 : (w7.alloc (.cells #[.int .i64 s.k, .string s.nm, .int .i64 s.t, .int .i64 s.r.k, .int .i64 s.r.op, .int .i64 s.r.t, .int .i64 s.r.v, .string s.r.nm, .slice s.r.A s.r.ar.length s.r.c, .slice s.ou.A s.ou.l.length s.ou.c, .slice s.ar.A s.ar.l.length s.ar.c, .slice s.br.A s.br.l.length s.br.c, .slice q.A q.l.length q.c, .bool (decide (F0 < F1))] 59)).heap.size = w7.heap.size + 1 := World.size_alloc _ _
    obtain ⟨hct, hasg⟩ := part_done (P := w7.heap.size) (s := s) (q := q) (flag := decide (F0 < F1)) HZ.out HSC.out.1 HQC.out HF.out.symm HF2.out.symm rfl
    have hsk : s.k = 3 := ((ct_iff.1 HSC.out.1).1).trans HZ.out
    have hdr6 : W6.drew.heap.size = W6.heap.size := rfl
    have k6 : ∀ p : Addr, w.heap.size + 1 ≤ p.block ∧ p.block < W6.heap.size → (w7.alloc (.cells #[.int .i64 s.k, .string s.nm, .int .i64 s.t, .int .i64 s.r.k, .int .i64 s.r.op, .int .i64 s.r.t, .int .i64 s.r.v, .string s.r.nm, .slice s.r.A s.r.ar.length s.r.c, .slice s.ou.A s.ou.l.length s.ou.c, .slice s.ar.A s.ar.l.length s.ar.c, .slice s.br.A s.br.l.length s.br.c, .slice q.A q.l.length q.c, .bool (decide (F0 < F1))] 59)).cell? p = W6.cell? p := fun p hp => h69.cell hp.2
    have u6 : ∀ b, w.heap.size + 1 ≤ b ∧ b < W6.heap.size → w.heap.size ≤ b ∧ b < (w7.alloc (.cells #[.int .i64 s.k, .string s.nm, .int .i64 s.t, .int .i64 s.r.k, .int .i64 s.r.op, .int .i64 s.r.t, .int .i64 s.r.v, .string s.r.nm, .slice s.r.A s.r.ar.length s.r.c, .slice s.ou.A s.ou.l.length s.ou.c, .slice s.ar.A s.ar.l.length s.ar.c, .slice s.br.A s.br.l.length s.br.c, .slice q.A q.l.length q.c, .bool (decide (F0 < F1))] 59)).heap.size := fun b hb => ⟨by have := hb.1; omega, by have := hb.2; rw [hz9]; omega⟩
    refine ⟨.mk w7.heap.size s (decide (F0 < F1)) q, rfl, hct, .mk _ ⟨by show w.heap.size ≤ w7.heap.size; omega, by show w7.heap.size < _; rw [hz9]; omega⟩ (pc_new w7 s _ q _) (HSC.out.2.1.keep (fun b hb => ⟨by have := hb.1; omega, by have := hb.2; rw [hz9]; omega⟩) fun p hp => hb9.cell hp.2) ((HQ6.out.1.keep oneB_AP k6).mono u6) (fun a ha => ((HQ6.out.2 a ha).1.keep oneB_Pt k6).mono u6) (fun a ha t ht => ((HQ6.out.2 a ha).2 t ht).keep u6 k6) ⟨fun _ => ⟨HSC.out.2.2 (by rw [Zt.ct_br]; rfl), hasg⟩, fun h => absurd hsk h⟩, rsl_case HZ.out (RS.below HR6.out h69), hK6.trans (K2.of_below h69)⟩
end fu
end Go.Proofs.Ytjodffbekipnlaa
/- part and list of the program's reader, of any statement. -/
namespace Go.Proofs.Ytjodffbekipnlaa
set_option linter.unusedVariables false
set_option linter.unusedSimpArgs false
open Go.RowKit Go.Maps Go.WideMaps Go.Sort
namespace fu
theorem alln_nm {z : Zt} (h : AllN z.ct) : z.nm.size ≤ maxLen ∧ ∀ s ∈ z.ou.l, s.size ≤ maxLen := by
  have h1 := h.of.1
  rw [Zt.ct_h] at h1
  have hsz : ∀ b : ByteArray, b.toList.length = b.size := fun b => by rw [ByteArray.toList_eq]; rfl
  refine ⟨by rw [← hsz]; exact h1.1, fun s hs => by rw [← hsz]; exact h1.2 _ (List.mem_map_of_mem hs)⟩
theorem count_any (z : Zt) (p m n pl H : Nat) (f : List UInt8 → Nat) (hz : ¬ z.k = 3) (hS : SmZ 200000 z) (hN : AllN z.ct) (hHp : H ≤ p) (hHm : H ≤ m) (hB : Bd n pl f [z.ct]) : CountsTo z p m n pl (n + up1 z.ct) f (fun u => f u + as1 u z.ct) H := by
  have hc : ¬ HK.c z.ct.h = true := by
    rw [Zt.ct_h]
    show ¬ decide (z.k = 3) = true
    simpa using hz
  have hb1 := hB.up
  have hb2 := hB.pls
  have hb3 := hB.ass
  rw [up_one] at hb1
  rw [pl_one, pl_leaf hc] at hb2
  simp only [as_one] at hb3
  have hu := up_leaf hc
  have ha := fun u => as_leaf u hc
  rw [Zt.ct_h] at hu
  simp only [Zt.ct_h] at ha
  have hnm := alln_nm hN
  have hml : maxLen = 9223372036854775807 := rfl
  by_cases h1 : z.k = 1
  · have hu1 : up1 z.ct = 1 := by rw [hu]; unfold upH; rw [if_pos (show z.hd.k = 1 from h1)]
    have e : (fun u => f u + as1 u z.ct) = fun t => if t = z.nm.data.toList then f z.nm.data.toList + 1 else f t := by
      funext u
      rw [ha u]
      unfold asH
      rw [if_pos (show z.hd.k = 1 from h1), show z.hd.nm = z.nm.data.toList from ByteArray.toList_eq _]
      by_cases e : u = z.nm.data.toList
      · rw [if_pos e, if_pos e, e]
      · rw [if_neg e, if_neg e]; rfl
    rw [hu1, e]
    intro W hW _
    have hf := hb3 z.nm.data.toList
    exact count_as z W p m n pl f hW h1 (by omega) (by omega) (by omega) hnm.1
  · by_cases h4 : z.k = 4
    · have hu1 : up1 z.ct = z.ou.l.length := by
        rw [hu]; unfold upH
        rw [if_neg (show ¬ z.hd.k = 1 from h1), if_pos (show z.hd.k = 4 from h4)]
        show (z.ou.l.map ByteArray.toList).length = _
        rw [List.length_map]
      have e : (fun u => f u + as1 u z.ct) = fun t => f t + cntN z.ou.l t := by
        funext u
        rw [ha u]
        unfold asH
        rw [if_neg (show ¬ z.hd.k = 1 from h1), if_pos (show z.hd.k = 4 from h4)]
        congr 1
        show (z.ou.l.map ByteArray.toList).countP _ = cntN z.ou.l u
        unfold cntN
        rw [List.countP_map]
        congr 1
        funext b
        show decide (b.toList = u) = decide (b.data.toList = u)
        rw [ByteArray.toList_eq]
      rw [hu1] at hb1 ⊢
      rw [e]
      intro W hW hR
      exact count_call z W p m n pl H f hW h4 (by omega) (fun t => by have := hb3 t; omega) hS.of.1 (by omega) hnm.2 hR hHp hHm
    · have hu1 : up1 z.ct = 0 := by
        rw [hu]; unfold upH
        rw [if_neg (show ¬ z.hd.k = 1 from h1), if_neg (show ¬ z.hd.k = 4 from h4)]
      have e : (fun u => f u + as1 u z.ct) = f := by
        funext u
        rw [ha u]
        unfold asH
        rw [if_neg (show ¬ z.hd.k = 1 from h1), if_neg (show ¬ z.hd.k = 4 from h4)]
        rfl
      rw [hu1, e]
      intro W hW _
      exact count_other z W p m n pl f hW h1 h4 (by omega)
theorem part_any (z : Zt) : ∀ (w : World) (p m n pl H : Nat) (f : List UInt8 → Nat), RS w p m n pl f → RsZ w H z → SmZ 200000 z → AllN z.ct → H ≤ w.heap.size → H ≤ p → H ≤ m → m < w.heap.size → Bd n pl f [z.ct] → Calls Try.prog 27 #[.pointer (some ⟨p, 0, none⟩), zV z] w (NewPt z w p m n pl f) := by
  induction z using Zt.ind with
  | h z ih =>
    intro w p m n pl H f hRS hR hS hN hH hHp hHm hmw hB
    by_cases hz : z.k = 3
    · have hbr : ∀ b : Rw Zt, b ∈ z.br.l → ∀ t ∈ b.l, AllN t.ct := fun b hb t ht => hN.of.2 (cts b.l) (by rw [Zt.ct_br]; exact List.mem_map_of_mem hb) t.ct (List.mem_map_of_mem ht)
      refine part_case z w p m n pl H f hRS hz hR hS hH hHp hHm hmw (alln_nm hN).1 (bd_case hz hB) (Lib.hid fun W hW h1 h2 h3 => ?_)
      refine mapP_of z.br W p m n pl H f hW (hR.of.2.2.2.1.blw oneB_A h3 (Nat.le_refl _)) h1 hHp hHm h2 (bd_case hz hB) hS.of.2.2.1 (Lib.hid fun a ha W' n' pl' f' hW' h1' h2' h3' hB' => ?_)
      have h4 := h3.trans h3'
      refine list_of a W' p m n' pl' H f' hW' (hR.br ha |>.blw h4 (Nat.le_refl _)) h1' hHp hHm h2' hB' (hS.of.2.2.2.1 a ha) (Lib.hid fun t ht W'' n'' pl'' f'' hW'' h1'' h2'' h3'' hB'' => ?_)
      exact ih a ha t ht W'' p m n'' pl'' H f'' hW'' ((hR.br ha).2 t ht |>.blw (h4.trans h3'') (Nat.le_refl _)) (hS.of.2.2.2.2 a ha t ht) (hbr a ha t ht) h1'' hHp hHm h2'' hB''
    · have hc : ¬ HK.c z.ct.h = true := by
        rw [Zt.ct_h]
        show ¬ decide (z.k = 3) = true
        simpa using hz
      refine (part_plain z w p m n pl (n + up1 z.ct) H f _ hRS hz (Lib.hid (count_any z p m n pl H f hz hS hN hHp hHm hB)) hR hS hH hHp hHm hmw).mono fun e w' h => ?_
      obtain ⟨t, he, h1, h2, h3, h4, h5, h6, h7, h8, h9, h10⟩ := h
      have hk : ¬ t.s.k = 3 := by
        have := (ct_iff.1 h2).1
        rw [this]; exact hz
      refine ⟨t, he, by rw [kp1_eq, if_neg hc]; exact h1, .mk t ⟨h6, h7⟩ h5 (h8.keep (fun b hb => ⟨hb.1, hb.2.1⟩) fun _ _ => rfl) ?_ ?_ ?_ ⟨fun h => absurd h hk, fun _ => by rw [h4]⟩, by rw [pl_leaf hc]; exact h9, h10⟩
      · rw [h4]
        exact ⟨fun h => absurd rfl h, fun ad i y _ hy => by simp at hy, Nat.zero_le _, Nat.zero_le _⟩
      · rw [h4]; intro a ha; cases ha
      · rw [h4]; intro a ha; cases ha
theorem list_any (a : Rw Zt) (w : World) (p m n pl H : Nat) (f : List UInt8 → Nat) (hRS : RS w p m n pl f) (hR : RsL w H a) (hS : SmL 200000 a.l) (hN : ∀ t ∈ cts a.l, AllN t) (hH : H ≤ w.heap.size) (hHp : H ≤ p) (hHm : H ≤ m) (hmw : m < w.heap.size) (hB : Bd n pl f (cts a.l)) : Calls Try.prog 22 #[.pointer (some ⟨p, 0, none⟩), .slice a.A a.l.length a.c] w (NewPl (cts a.l) w p m n pl f) :=
  list_of a w p m n pl H f hRS hR hH hHp hHm hmw hB hS.1 (Lib.hid fun t ht W n' pl' f' hW h1 h2 h3 hB' => part_any t W p m n' pl' H f' hW ((hR.2 t ht).blw h3 (Nat.le_refl _)) (hS.2 t ht) (hN t.ct (List.mem_map_of_mem ht)) h1 hHp hHm h2 hB')
end fu
end Go.Proofs.Ytjodffbekipnlaa
/- combined of the program: a plain part; joined; Join. -/
namespace Go.Proofs.Ytjodffbekipnlaa
set_option linter.unusedVariables false
set_option linter.unusedSimpArgs false
open Go.RowKit Go.Sort
namespace fu
set_option maxHeartbeats 8000000 in
set_option maxRecDepth 100000 in
theorem combined_plain (A : Option Addr) (c : Nat) (a : Pt) (w : World) (B H0 : Nat) (hH : H0 ≤ w.heap.size) (hQ : RdQ w (fun b => b < w.heap.size) 1 PtC ⟨A, c, [a]⟩) (hP : RpP w (fun b => B ≤ b ∧ b < H0) a) (ha : ¬ a.s.k = 3) :
    Calls Try.prog 26 #[.slice A 1 c] w (NewC B H0 (cmb HK a.ct []) w) := by
  obtain ⟨ad, hA, had⟩ := hQ.1 (by intro e; cases e)
  simp only at hA
  subst hA
  have hpa := hP.of
  have hc0 : w.cell? ad = some (.pointer (some ⟨a.p, 0, none⟩)) := by
    have h1 : w.cell? (ad.add (0 * 1)) = some (.pointer (some ⟨a.p, 0, none⟩)) := hQ.2.1 ad 0 a rfl rfl
    rwa [Nat.zero_mul, add_zero'] at h1
  have hPC : ∀ W, Below H0 w W → PC W a := fun W hb => (hpa.2.1).keep fun p hp => hb.cell (by rw [hp]; exact hpa.1.2)
  obtain ⟨m0, m1, m2, m3, m4, m5, m6, m7, m8, m9, m10, m11⟩ := (hPC (w.alloc zlit) ((bel_box (w := w) zlit).mono hH)).1
  have m12 := (hPC (cW w a.s) ((cW_low w a.s).mono hH)).2.1
  have hbr := hpa.2.2.2.2.2.2.2 ha
  rw [hbr] at m12
  have m12 : (cW w a.s).cell? ⟨a.p, 12, none⟩ = some (.slice a.br.A 0 a.br.c) := m12
  have hcA : (w.alloc zlit).cell? ad = some (.pointer (some ⟨a.p, 0, none⟩)) := (bel_box (w := w) zlit).cell (World.block_lt_of_cell? w _ hc0) |>.trans hc0
  have hcB : (cW w a.s).cell? ad = some (.pointer (some ⟨a.p, 0, none⟩)) := ((cW_low w a.s).cell (World.block_lt_of_cell? w _ hc0)).trans hc0
  have HCT : Hid (a.s.ct = cmb HK a.ct []) := Lib.hid (by
    rw [cmb_plain HK (by rw [pt_c]; simpa using ha), Pt.ct_eq, if_neg ha])
  have HPA := Lib.hid hpa.2.2.1
  have HW : Hid (BF (cW w a.s) w.heap.size zz ∧ BF (cW w a.s) (w.heap.size + 1) a.s ∧ Below w.heap.size w (cW w a.s)) := Lib.hid ⟨cW_res w a.s, cW_box w a.s, cW_low w a.s⟩
  clear hpa hPC hc0 hbr hP hQ
  go_enter Try.func26, Try.ntmps26
  go_wp2
  go_loopw [22] (fun i wr => i = .int .i64 0 ∧ Hid (BF wr w.heap.size zz) ∧ Hid (BF wr (w.heap.size + 1) a.s) ∧ Hid (Below w.heap.size w wr)) (fun _ _ => 0)
  case atStart => exact ⟨rfl, Lib.hid HW.out.1, Lib.hid HW.out.2.1, Lib.hid HW.out.2.2⟩
  case round =>
    obtain ⟨rfl, HZB, HXB, HLW⟩ := hrel
    clear m0 m1 m2 m3 m4 m5 m6 m7 m8 m9 m10 m11 m12 hcA hcB HW
    obtain ⟨n0, n1, n2, n3, n4, n5, n6, n7, n8, n9, n10, n11⟩ := HXB.out.bx
    obtain ⟨s0, s1, s2, s3, s4, s5, s6, s7, s8, s9, s10, s11⟩ := HZB.out.bx
    have m0 : wr.cell? ⟨w.heap.size + 1, 0, none⟩ = some (.int .i64 a.s.k) := n0
    have m1 : wr.cell? ⟨w.heap.size + 1, 1, none⟩ = some (.string a.s.nm) := n1
    have m2 : wr.cell? ⟨w.heap.size + 1, 2, none⟩ = some (.int .i64 a.s.t) := n2
    have m3 : wr.cell? ⟨w.heap.size + 1, 3, none⟩ = some (.int .i64 a.s.r.k) := n3
    have m4 : wr.cell? ⟨w.heap.size + 1, 4, none⟩ = some (.int .i64 a.s.r.op) := n4
    have m5 : wr.cell? ⟨w.heap.size + 1, 5, none⟩ = some (.int .i64 a.s.r.t) := n5
    have m6 : wr.cell? ⟨w.heap.size + 1, 6, none⟩ = some (.int .i64 a.s.r.v) := n6
    have m7 : wr.cell? ⟨w.heap.size + 1, 7, none⟩ = some (.string a.s.r.nm) := n7
    have m8 : wr.cell? ⟨w.heap.size + 1, 8, none⟩ = some (.slice a.s.r.A a.s.r.ar.length a.s.r.c) := n8
    have m9 : wr.cell? ⟨w.heap.size + 1, 9, none⟩ = some (.slice a.s.ou.A a.s.ou.l.length a.s.ou.c) := n9
    have m10 : wr.cell? ⟨w.heap.size + 1, 10, none⟩ = some (.slice a.s.ar.A a.s.ar.l.length a.s.ar.c) := n10
    have m11 : wr.cell? ⟨w.heap.size + 1, 11, none⟩ = some (.slice a.s.br.A a.s.br.l.length a.s.br.c) := n11
    have r0 : wr.cell? ⟨w.heap.size, 0, none⟩ = some (.int .i64 0) := s0
    have r1 : wr.cell? ⟨w.heap.size, 1, none⟩ = some (.string ⟨#[]⟩) := s1
    have r2 : wr.cell? ⟨w.heap.size, 2, none⟩ = some (.int .i64 0) := s2
    have r3 : wr.cell? ⟨w.heap.size, 3, none⟩ = some (.int .i64 0) := s3
    have r4 : wr.cell? ⟨w.heap.size, 4, none⟩ = some (.int .i64 0) := s4
    have r5 : wr.cell? ⟨w.heap.size, 5, none⟩ = some (.int .i64 0) := s5
    have r6 : wr.cell? ⟨w.heap.size, 6, none⟩ = some (.int .i64 0) := s6
    have r7 : wr.cell? ⟨w.heap.size, 7, none⟩ = some (.string ⟨#[]⟩) := s7
    have r8 : wr.cell? ⟨w.heap.size, 8, none⟩ = some (.slice none 0 0) := s8
    have r9 : wr.cell? ⟨w.heap.size, 9, none⟩ = some (.slice none 0 0) := s9
    have r10 : wr.cell? ⟨w.heap.size, 10, none⟩ = some (.slice none 0 0) := s10
    have r11 : wr.cell? ⟨w.heap.size, 11, none⟩ = some (.slice none 0 0) := s11
    clear n0 n1 n2 n3 n4 n5 n6 n7 n8 n9 n10 n11 s0 s1 s2 s3 s4 s5 s6 s7 s8 s9 s10 s11
    have q0 := HZB.out.fr 0 (by decide)
    have q1 := HZB.out.fr 1 (by decide)
    have q2 := HZB.out.fr 2 (by decide)
    have q3 := HZB.out.fr 3 (by decide)
    have q4 := HZB.out.fr 4 (by decide)
    have q5 := HZB.out.fr 5 (by decide)
    have q6 := HZB.out.fr 6 (by decide)
    have q7 := HZB.out.fr 7 (by decide)
    have q8 := HZB.out.fr 8 (by decide)
    have q9 := HZB.out.fr 9 (by decide)
    have q10 := HZB.out.fr 10 (by decide)
    have q11 := HZB.out.fr 11 (by decide)
    go_wp2
    have hres : BF (sts wr w.heap.size [(0, .int .i64 a.s.k), (1, .string a.s.nm), (2, .int .i64 a.s.t), (3, .int .i64 a.s.r.k), (4, .int .i64 a.s.r.op), (5, .int .i64 a.s.r.t), (6, .int .i64 a.s.r.v), (7, .string a.s.r.nm), (8, .slice a.s.r.A a.s.r.ar.length a.s.r.c), (9, .slice a.s.ou.A a.s.ou.l.length a.s.ou.c), (10, .slice a.s.ar.A a.s.ar.l.length a.s.ar.c), (11, .slice a.s.br.A a.s.br.l.length a.s.br.c)]) w.heap.size a.s := HZB.out.set _ (by intro p hp; simp only [List.mem_cons, List.not_mem_nil, or_false] at hp; rcases hp with rfl | rfl | rfl | rfl | rfl | rfl | rfl | rfl | rfl | rfl | rfl | rfl <;> simp) fun i hi => by
      rcases i with _ | _ | _ | _ | _ | _ | _ | _ | _ | _ | _ | _ | i
      all_goals first | rfl | omega
    obtain ⟨h0, h1, h2, h3, h4, h5, h6, h7, h8, h9, h10, h11⟩ := hres.bx
    dsimp only [sts] at h0 h1 h2 h3 h4 h5 h6 h7 h8 h9 h10 h11
    have g0 : _ = some (Value.int .i64 a.s.k) := h0
    have g1 : _ = some (Value.string a.s.nm) := h1
    have g2 : _ = some (Value.int .i64 a.s.t) := h2
    have g3 : _ = some (Value.int .i64 a.s.r.k) := h3
    have g4 : _ = some (Value.int .i64 a.s.r.op) := h4
    have g5 : _ = some (Value.int .i64 a.s.r.t) := h5
    have g6 : _ = some (Value.int .i64 a.s.r.v) := h6
    have g7 : _ = some (Value.string a.s.r.nm) := h7
    have g8 : _ = some (Value.slice a.s.r.A a.s.r.ar.length a.s.r.c) := h8
    have g9 : _ = some (Value.slice a.s.ou.A a.s.ou.l.length a.s.ou.c) := h9
    have g10 : _ = some (Value.slice a.s.ar.A a.s.ar.l.length a.s.ar.c) := h10
    have g11 : _ = some (Value.slice a.s.br.A a.s.br.l.length a.s.br.c) := h11
    clear h0 h1 h2 h3 h4 h5 h6 h7 h8 h9 h10 h11
    refine bodyPost_ret (v := zV a.s) (by simp [results, Try.f26, go_sem, g0, g1, g2, g3, g4, g5, g6, g7, g8, g9, g10, g11]) rfl ?_
    have e9 : (sts wr w.heap.size [(0, .int .i64 a.s.k), (1, .string a.s.nm), (2, .int .i64 a.s.t), (3, .int .i64 a.s.r.k), (4, .int .i64 a.s.r.op), (5, .int .i64 a.s.r.t), (6, .int .i64 a.s.r.v), (7, .string a.s.r.nm), (8, .slice a.s.r.A a.s.r.ar.length a.s.r.c), (9, .slice a.s.ou.A a.s.ou.l.length a.s.ou.c), (10, .slice a.s.ar.A a.s.ar.l.length a.s.ar.c), (11, .slice a.s.br.A a.s.br.l.length a.s.br.c)]).heap.size = wr.heap.size := sts_size _ _ _
    have hb9 : Below w.heap.size w (sts wr w.heap.size [(0, .int .i64 a.s.k), (1, .string a.s.nm), (2, .int .i64 a.s.t), (3, .int .i64 a.s.r.k), (4, .int .i64 a.s.r.op), (5, .int .i64 a.s.r.t), (6, .int .i64 a.s.r.v), (7, .string a.s.r.nm), (8, .slice a.s.r.A a.s.r.ar.length a.s.r.c), (9, .slice a.s.ou.A a.s.ou.l.length a.s.ou.c), (10, .slice a.s.ar.A a.s.ar.l.length a.s.ar.c), (11, .slice a.s.br.A a.s.br.l.length a.s.br.c)]) := sts_below (Nat.le_refl _) _ HLW.out
    exact ⟨a.s, rfl, HCT.out, HPA.out.keep (fun b hb => .inl hb) (fun p hp => hb9.cell (by have := hp.2; omega)), hb9⟩
theorem joined_any (N : Nat) : ∀ (r : Rw Pt) (w : World) (B H0 : Nat), wgt (pcs r.l) ≤ N → B ≤ H0 → H0 ≤ w.heap.size → RdQ w (fun b => b < w.heap.size) 1 PtC r → (∀ t ∈ r.l, RpP w (fun b => B ≤ b ∧ b < H0) t) → (∀ t ∈ r.l, Ful HK t.ct) → wgt (pcs r.l) ≤ 200000 → Calls Try.prog 21 #[.slice r.A r.l.length r.c] w (NewJ B H0 (norm HK (pcs r.l)) w) := by
  induction N using Nat.strongRecOn with
  | ind N ih =>
    intro r w B H0 hN hB hH hQ hP hF hw
    refine joined_of r w B H0 hH hQ hP hF hw (Lib.hid fun q a s n W hW hRd hmem hn hpc hrun hle => ?_)
    have hPW : ∀ t ∈ r.l, RpP W (fun b => B ≤ b ∧ b < H0) t := fun t ht => (hP t ht).keep (fun b hb => hb) fun p hp => hW.cell (by have := hp.2; omega)
    have hHW : H0 ≤ W.heap.size := Nat.le_trans hH hW.size
    obtain ⟨A, c, l⟩ := q
    simp only at hRd hmem hn hpc hle ⊢
    rcases l with _ | ⟨x, y⟩
    · cases hpc
    · have e1 : x.ct = a := by injection hpc
      have e2 : pcs y = s := by injection hpc
      subst e1 e2 hn
      have hRd' : RdQ W (fun b => b < W.heap.size) 1 PtC ⟨A, c, x :: y⟩ := hRd.mono fun b hb => Nat.lt_of_lt_of_le hb hW.size
      have hKJ : ∀ (r' : Rw Pt) (m : Nat) (W' : World), Below W.heap.size W W' → RdQ W' (fun b => b < W'.heap.size) 1 PtC r' → (∀ t ∈ r'.l, RpP W' (fun b => B ≤ b ∧ b < H0) t) → (∀ t ∈ r'.l, Ful HK t.ct) → r'.l.length = m → wgt (pcs r'.l) < wgt (pcs (x :: y)) → Calls Try.prog 21 #[.slice r'.A m r'.c] W' (NewJ B H0 (norm HK (pcs r'.l)) W') := fun r' m W' hb h1 h2 h3 h4 h5 => by
        subst h4
        exact ih (wgt (pcs r'.l)) (by omega) r' W' B H0 (Nat.le_refl _) hB (Nat.le_trans hHW hb.size) h1 h2 h3 (by omega)
      by_cases hx : x.s.k = 3
      · by_cases hc : c = 1
        · exact combined_one A c hc x y W B H0 hB hHW hRd' (fun t ht => hPW t (hmem t ht)) (fun t ht => hF t (hmem t ht)) hx hrun (Nat.le_trans hle hw) (Lib.hid hKJ)
        · exact combined_many A c hc x y W B H0 hB hHW hRd' (fun t ht => hPW t (hmem t ht)) (fun t ht => hF t (hmem t ht)) hx hrun (Nat.le_trans hle hw) (Lib.hid hKJ)
      · have hy : y = [] := by
          rcases y with _ | ⟨z, y⟩
          · rfl
          · exfalso
            have h1 := (mate_parts HK hrun.1).1
            rw [pt_c] at h1
            exact hx (of_decide_eq_true h1)
        subst hy
        exact combined_plain A c x W B H0 hHW hRd' (hPW x (hmem x List.mem_cons_self)) hx
end fu
end Go.Proofs.Ytjodffbekipnlaa
/- Join of the program. -/
namespace Go.Proofs.Ytjodffbekipnlaa
set_option linter.unusedVariables false
set_option linter.unusedSimpArgs false
open Go.RowKit Go.Maps Go.WideMaps Go.Sort
namespace fu
/-- the world with a new reader -/
abbrev rdW (w : World) : World := (w.alloc (.map #[] 0)).alloc (.cells #[.int .i64 0, .map (some w.heap.size)] 45)
theorem rdW_size (w : World) : (rdW w).heap.size = w.heap.size + 2 := by simp only [World.size_alloc]
theorem rs_new (w : World) : RS (rdW w) (w.heap.size + 1) w.heap.size 0 0 (fun _ => 0) := by
  refine ⟨by simp [go_sem], by simp [go_sem], by simp [go_sem], ⟨.map [], ⟨[], rfl⟩, fun t => rfl, ?_⟩, by omega⟩
  have := World.ownsMap_made w Try.prog 9 (plainElem (H := Unit) Try.prog 3)
  exact this.alloc _
theorem as_up (t : List UInt8) (s : Sx Hd) : as1 t s ≤ up1 s := by
  induction s using Sx.ind with
  | h s ih =>
    by_cases hc : HK.c s.h = true
    · rw [as_case t hc, up_case hc]
      refine sumL_le fun b hb => ?_
      have hl : ∀ l : List (Sx Hd), (∀ t' ∈ l, as1 t t' ≤ up1 t') → asL t l ≤ upL l := fun l => by
        induction l with
        | nil => intro _; exact Nat.le_refl _
        | cons a l ihl =>
          intro h
          rw [as_cons, up_cons]
          have h1 := h a List.mem_cons_self
          have h2 := ihl fun t ht => h t (List.mem_cons_of_mem _ ht)
          omega
      exact hl b (ih b hb)
    · rw [as_leaf t hc, up_leaf hc]
      unfold asH upH
      split
      · split <;> omega
      · split
        · exact List.countP_le_length
        · exact Nat.le_refl _
theorem as_upL (t : List UInt8) : ∀ l : List (Sx Hd), asL t l ≤ upL l
  | [] => Nat.le_refl _
  | a :: l => by
    have h1 := as_up t a
    have h2 := as_upL t l
    rw [as_cons, up_cons]
    omega
theorem pl_wgt1 (s : Sx Hd) : pl1 s ≤ wgt1 s := by
  induction s using Sx.ind with
  | h s ih =>
    by_cases hc : HK.c s.h = true
    · rw [pl_case hc, wgt_case hc]
      have : sumL plL s.br ≤ sumL wgt s.br := sumL_le fun b hb => by
        have hl : ∀ l : List (Sx Hd), (∀ t' ∈ l, pl1 t' ≤ wgt1 t') → plL l ≤ wgt l := fun l => by
          induction l with
          | nil => intro _; exact Nat.le_refl _
          | cons a l ihl =>
            intro h
            have h1 := h a List.mem_cons_self
            have h2 := ihl fun t ht => h t (List.mem_cons_of_mem _ ht)
            have e1 : wgt (a :: l) = wgt1 a + wgt l := sumL_cons _ _ _
            rw [pl_cons]
            omega
        exact hl b (ih b hb)
      omega
    · rw [pl_leaf hc]
      exact wgt1_pos s
theorem pl_wgt : ∀ l : List (Sx Hd), plL l ≤ wgt l
  | [] => Nat.le_refl _
  | a :: l => by
    have h1 := pl_wgt1 a
    have h2 := pl_wgt l
    have e1 : wgt (a :: l) = wgt1 a + wgt l := sumL_cons _ _ _
    rw [pl_cons]
    omega
theorem bd_of {cs : List (Sx Hd)} (h1 : wgt cs ≤ 200000) (h2 : upL cs ≤ 1000000) : Bd 0 0 (fun _ => 0) cs := by
  refine ⟨by omega, by have := pl_wgt cs; omega, fun u => ?_⟩
  have := as_upL u cs
  show 0 + asL u cs ≤ _
  omega
theorem own_base {w : World} {base base' n z : Nat} {T : TypeId} {v : Value} {xs : List Value} (h : w.ownsRow base T z v n xs) (hb : base' ≤ base) : w.ownsRow base' T z v n xs := ⟨h.1, h.2.imp id fun ⟨g, cap, cur, e1, h1, r⟩ => ⟨g, cap, cur, e1, Nat.le_trans hb h1, r⟩⟩
theorem joined_of_list {a : Rw Zt} {w w5 : World} {r : Rw Pt} (hz0 : (rdW w).heap.size = w.heap.size + 2) (hpc : pcs r.l = kp HK (cts a.l)) (hrq : RdQ w5 (fun b => (rdW w).heap.size ≤ b ∧ b < w5.heap.size) 1 PtC r) (hrp : ∀ t ∈ r.l, RpP w5 (fun b => (rdW w).heap.size ≤ b ∧ b < w5.heap.size) t) (hw : wgt (cts a.l) ≤ 200000) : Calls Try.prog 21 #[.slice r.A r.l.length r.c] w5 (NewJ (min (w.heap.size + 2) w5.heap.size) w5.heap.size (norm HK (cts a.l)) w5) := by
  have h1 : wgt (pcs r.l) ≤ 200000 := by
    rw [hpc]
    exact Nat.le_trans (num_kp HK _ _ _) hw
  have h2 := joined_any _ r w5 (min (w.heap.size + 2) w5.heap.size) w5.heap.size (Nat.le_refl _) (Nat.min_le_right _ _) (Nat.le_refl _) (hrq.mono fun b hb => hb.2) (fun t ht => (hrp t ht).keep (fun b hb => ⟨by rw [hz0] at hb; omega, hb.2⟩) fun _ _ => rfl) (fun t ht => ful_kp HK (cts a.l) t.ct (by rw [← hpc]; exact List.mem_map_of_mem ht)) h1
  rw [hpc, norm_kp] at h2
  exact h2
set_option maxHeartbeats 8000000 in
set_option maxRecDepth 100000 in
theorem join_any (a : Rw Zt) (w : World) (hR : RsL w w.heap.size a) (hS : SmL 200000 a.l) (hN : ∀ t ∈ cts a.l, AllN t) (hw : wgt (cts a.l) ≤ 200000) (hu : upL (cts a.l) ≤ 1000000) : Calls Try.prog 10 #[.slice a.A a.l.length a.c] w (NewZs (norm HK (cts a.l)) w) := by
  have hmm := @run_makeMap Try.prog
  have hb0 : Below w.heap.size w (rdW w) := (by repeat (first | (with_reducible exact Below.refl _ _) | (with_reducible assumption) | (with_reducible exact bel_box _) | (with_reducible refine bel_step ?_ (by with_reducible assumption)) | (with_reducible refine Below.drew ?_) | (with_reducible refine below_drewN ?_ _) | (with_reducible refine bel_alloc ?_ _)))
  have hz0 := rdW_size w
  have KL := Lib.hid (list_any a (rdW w) (w.heap.size + 1) w.heap.size 0 0 w.heap.size (fun _ => 0) (rs_new w) (hR.blw hb0 (Nat.le_refl _)) hS hN (by omega) (by omega) (Nat.le_refl _) (by omega) (bd_of hw hu))
  have HB := Lib.hid hb0
  have HW := Lib.hid hw
  clear hR hS hN hw hu hb0
  go_enter Try.func10, Try.ntmps10
  go_wp2_with (first | (go_at_call 22; (with_reducible refine (KL.out).mono ?_); rintro e w5 ⟨r, rfl, hpc, hrq, hrp, hrs, hk5⟩; have KJ := Lib.hid (joined_of_list hz0 hpc hrq hrp HW.out); have HK5 := Lib.hid hk5; clear hpc hrq hrp hrs hk5) | (go_at_call 21; (with_reducible refine (KJ.out).mono ?_); rintro e w6 ⟨A6, c6, L6, rfl, hLc, hLo, hLr, hb6⟩))
  go_ret
  have hz5 := HK5.out.size
  have hlow5 : Below w.heap.size (rdW w) w5 := HK5.out.low (by omega) (by omega) (Nat.le_refl _)
  have hz6 := hb6.size
  refine ⟨A6, c6, L6, rfl, hLc, own_base hLo (by omega), fun y hy => (hLr y hy).keep (fun b hb => ?_) fun _ _ => rfl, (HB.out.trans hlow5).trans (hb6.mono (by omega))⟩
  rcases hb with hb | hb
  · exact ⟨by omega, by omega, fun e => by have := (hLo.lt b e).1; omega⟩
  · exact ⟨by omega, hb.2.1, hb.2.2⟩
end fu
end Go.Proofs.Ytjodffbekipnlaa
/- Examples of the law: byC, assign. -/
namespace Go.Proofs.Ytjodffbekipnlaa
set_option linter.unusedVariables false
set_option linter.unusedSimpArgs false
open Go.RowKit Go.Sort
namespace fu
def byZ (br : Rw (Rw Zt)) : Zt := .mk 3 ⟨#[99]⟩ 1 (.mk 0 0 0 0 ⟨#[]⟩ none 0 []) ⟨none, 0, []⟩ ⟨none, 0, []⟩ br
def asZ (nm : ByteArray) (v : Int) : Zt := .mk 1 nm 0 (.mk 1 0 2 v ⟨#[]⟩ none 0 []) ⟨none, 0, []⟩ ⟨none, 0, []⟩ ⟨none, 0, []⟩
set_option maxHeartbeats 400000 in
theorem byc_any (br : Rw (Rw Zt)) (w : World) : Calls Try.prog 17 #[.slice br.A br.l.length br.c] w (Bel (zV (byZ br)) w) := by
  go_enter Try.func17, Try.ntmps17
  go_wp2
  refine bodyPost_ret (v := zV (byZ br)) (by simp [results, Try.f17, go_sem, byZ, Zt.k, Zt.nm, Zt.t, Zt.r, Zt.ou, Zt.ar, Zt.br, Xt.k, Xt.op, Xt.t, Xt.v, Xt.nm, Xt.A, Xt.c, Xt.ar]) rfl ?_
  exact ⟨rfl, (by repeat (first | (with_reducible exact Below.refl _ _) | (with_reducible assumption) | (with_reducible exact bel_box _) | (with_reducible refine bel_step ?_ (by with_reducible assumption)) | (with_reducible refine Below.drew ?_) | (with_reducible refine below_drewN ?_ _) | (with_reducible refine bel_alloc ?_ _)))⟩
set_option maxHeartbeats 400000 in
theorem assign_any (nm : ByteArray) (v : Int) (w : World) : Calls Try.prog 18 #[.string nm, .int .i64 v] w (Bel (zV (asZ nm v)) w) := by
  go_enter Try.func18, Try.ntmps18
  go_wp2
  refine bodyPost_ret (v := zV (asZ nm v)) (by simp [results, Try.f18, go_sem, asZ, Zt.k, Zt.nm, Zt.t, Zt.r, Zt.ou, Zt.ar, Zt.br, Xt.k, Xt.op, Xt.t, Xt.v, Xt.nm, Xt.A, Xt.c, Xt.ar]) rfl ?_
  exact ⟨rfl, (by repeat (first | (with_reducible exact Below.refl _ _) | (with_reducible assumption) | (with_reducible exact bel_box _) | (with_reducible refine bel_step ?_ (by with_reducible assumption)) | (with_reducible refine Below.drew ?_) | (with_reducible refine below_drewN ?_ _) | (with_reducible refine bel_alloc ?_ _)))⟩
end fu
end Go.Proofs.Ytjodffbekipnlaa
/- Rows of statements as literals; the law's examples as they lie in memory. -/
namespace Go.Proofs.Ytjodffbekipnlaa
set_option linter.unusedVariables false
set_option linter.unusedSimpArgs false
open Go.RowKit Go.Sort
namespace fu
theorem heap_new (W : World) (o : Obj) : (W.alloc o).heap[W.heap.size]? = some o := by
  show (W.heap.push o)[W.heap.size]? = some o
  exact Array.getElem?_push_size
theorem own_lit (W : World) (l : List Zt) (T : TypeId) (hl : l.length ≤ maxLen) : (W.alloc (.cells (zsC l).toArray T)).ownsRow W.heap.size T 12 (.slice (some ⟨W.heap.size, 0, none⟩) l.length l.length) l.length (zsC l) := by
  refine ⟨zsC_length l, .inr ⟨W.heap.size, l.length, (zsC l).toArray, rfl, Nat.le_refl _, heap_new W _, Nat.le_refl _, hl, ?_, ?_⟩⟩
  · rw [List.size_toArray, zsC_length]
  · rw [List.take_of_length_le (by rw [zsC_length]; exact Nat.le_refl _)]
/-- a literal list of statements -/
theorem row_of {W : World} {B : Nat} {l : List Zt} {T : TypeId} (hB : B ≤ W.heap.size) (hl : l.length ≤ maxLen) (hz : ∀ z ∈ l, RsZ W B z) : RsL (W.alloc (.cells (zsC l).toArray T)) (W.heap.size + 1) ⟨some ⟨W.heap.size, 0, none⟩, l.length, l⟩ :=
  ⟨(own_rdq (own_lit W l T hl) hl).rd fun b hb => by have := hb.2.1; rw [World.size_alloc] at this; exact this, fun z h => (hz z h).blw ((bel_box (w := W) _).mono hB) (by omega)⟩
theorem own_lita (W : World) (l : List (Rw Zt)) (T : TypeId) (hl : l.length ≤ maxLen) : (W.alloc (.cells (aC l).toArray T)).ownsRow W.heap.size T 1 (.slice (some ⟨W.heap.size, 0, none⟩) l.length l.length) l.length (aC l) := by
  refine ⟨by rw [aC_length, Nat.mul_one], .inr ⟨W.heap.size, l.length, (aC l).toArray, rfl, Nat.le_refl _, heap_new W _, Nat.le_refl _, hl, ?_, ?_⟩⟩
  · rw [List.size_toArray, aC_length, Nat.mul_one]
  · rw [List.take_of_length_le (by rw [aC_length, Nat.mul_one]; exact Nat.le_refl _)]
/-- a literal list of lists -/
theorem rows_of {W : World} {B : Nat} {l : List (Rw Zt)} {T : TypeId} (hB : B ≤ W.heap.size) (hl : l.length ≤ maxLen) (hz : ∀ a ∈ l, RsL W B a) : RsLs (W.alloc (.cells (aC l).toArray T)) (W.heap.size + 1) ⟨some ⟨W.heap.size, 0, none⟩, l.length, l⟩ :=
  ⟨(own_rda (own_lita W l T hl) hl).rd fun b hb => by have := hb.2.1; rw [World.size_alloc] at this; exact this, fun z h => (hz z h).blw ((bel_box (w := W) _).mono hB) (by omega)⟩
theorem row_at {W : World} {B N : Nat} {l : List Zt} {T : TypeId} (hN : W.heap.size = N) (hB : B ≤ N) (hl : l.length ≤ maxLen) (hz : ∀ z ∈ l, RsZ W B z) : RsL (W.alloc (.cells (zsC l).toArray T)) (N + 1) ⟨some ⟨N, 0, none⟩, l.length, l⟩ := by
  subst hN
  exact row_of hB hl hz
theorem rows_at {W : World} {B N : Nat} {l : List (Rw Zt)} {T : TypeId} (hN : W.heap.size = N) (hB : B ≤ N) (hl : l.length ≤ maxLen) (hz : ∀ a ∈ l, RsL W B a) : RsLs (W.alloc (.cells (aC l).toArray T)) (N + 1) ⟨some ⟨N, 0, none⟩, l.length, l⟩ := by
  subst hN
  exact rows_of hB hl hz
/-- what assign and byC hand back -/
def IsZ (z0 : Zt) (W : World) (e : Ending) (w' : World) : Prop := ∃ z : Zt, e = .returned (zV z) ∧ Hid (z = z0) ∧ Hid (Below W.heap.size W w')
theorem as_is (nm : ByteArray) (v : Int) (W : World) : Calls Try.prog 18 #[.string nm, .int .i64 v] W (IsZ (asZ nm v) W) := (assign_any nm v W).mono fun e w' h => ⟨_, h.1, Lib.hid rfl, Lib.hid h.2⟩
theorem by_is (A : Option Addr) (x y : Rw Zt) (W : World) : Calls Try.prog 17 #[.slice A 2 2] W (IsZ (byZ ⟨A, 2, [x, y]⟩) W) := (byc_any ⟨A, 2, [x, y]⟩ W).mono fun e w' h => ⟨_, h.1, Lib.hid rfl, Lib.hid h.2⟩
theorem rsl_nil (W : World) (B : Nat) : RsL W B ⟨none, 0, []⟩ := ⟨RdR.nil _ _ _ _ _, fun _ h => by cases h⟩
theorem rdx_leaf (W : World) (B : Nat) (k op t v : Int) : RsX W B (.mk k op t v ⟨#[]⟩ none 0 []) := by
  refine ⟨.mk _ (fun h => absurd rfl h) (fun ad i y h _ => by cases h) (fun y h => by cases h) ⟨⟨Nat.zero_le _, Nat.zero_le _⟩, Nat.zero_le _⟩, fun y hy => ?_⟩
  rw [Xt.list_eq] at hy
  have : y = .mk k op t v ⟨#[]⟩ none 0 [] := by simpa [Xt.ar] using hy
  subst this
  exact Nat.zero_le _
theorem rsb_nil (W : World) (B : Nat) : RsB W B ⟨none, 0, []⟩ := RdR.nil _ _ _ _ _
theorem rsxs_nil (W : World) (B : Nat) : RsXs W B ⟨none, 0, []⟩ := ⟨RdR.nil _ _ _ _ _, fun _ h => by cases h⟩
theorem asZ_rs (W : World) (B : Nat) (nm : ByteArray) (v : Int) : RsZ W B (asZ nm v) := .mk _ (rdx_leaf _ _ _ _ _ _) (rsb_nil _ _) (rsxs_nil _ _) (RdR.nil _ _ _ _ _) (fun _ h => by cases h) (fun _ h => by cases h)
theorem byZ_rs {W : World} {B : Nat} {br : Rw (Rw Zt)} (h : RsLs W B br) : RsZ W B (byZ br) := .mk _ (rdx_leaf _ _ _ _ _ _) (rsb_nil _ _) (rsxs_nil _ _) h.1 (fun a ha => (h.2 a ha).1) (fun a ha => (h.2 a ha).2)
/-- what the examples say -/
def rC : Xc := (Xt.mk 0 0 0 0 ⟨#[]⟩ none 0 []).ct
def rA (v : Int) : Xc := (Xt.mk 1 0 2 v ⟨#[]⟩ none 0 []).ct
def sC (bs : List (List (Sx Hd))) : Sx Hd := .mk ⟨3, [99], 1, rC, [], []⟩ bs
def sA (nm : List UInt8) (v : Int) : Sx Hd := .mk ⟨1, nm, 0, rA v, [], []⟩ []
theorem byZ_ct (br : Rw (Rw Zt)) : (byZ br).ct = sC (br.l.map fun b => cts b.l) := by
  rw [Zt.ct_eq]
  have h : (⟨#[99]⟩ : ByteArray).toList = [99] := by rw [ByteArray.toList_eq]
  show Sx.mk (Hd.mk 3 (⟨#[99]⟩ : ByteArray).toList 1 rC [] []) _ = _
  rw [h]; rfl
theorem asZ_ct (nm : ByteArray) (v : Int) : (asZ nm v).ct = sA nm.data.toList v := by
  rw [Zt.ct_eq]
  show Sx.mk (Hd.mk 1 nm.toList 0 (rA v) [] []) [] = _
  rw [ByteArray.toList_eq]; rfl
theorem sA_c (nm : List UInt8) (v : Int) : HK.c (sA nm v).h = false := rfl
theorem sC_c (bs : List (List (Sx Hd))) : HK.c (sC bs).h = true := rfl
theorem sA_norm (nm : List UInt8) (v : Int) : norm1 HK (sA nm v) = [sA nm v] := by rw [norm1_eq, if_neg (by rw [sA_c]; simp)]
theorem sA_mate (nm : List UInt8) (v : Int) (b : Sx Hd) : mate HK (sA nm v) b = false := by
  unfold mate; rw [sA_c]; rfl
theorem mate_sA (nm : List UInt8) (v : Int) (a : Sx Hd) : mate HK a (sA nm v) = false := by
  unfold mate; rw [sA_c]; simp
theorem sC_mate (x y : List (List (Sx Hd))) (h : x.length = y.length) : mate HK (sC x) (sC y) = !x.any (asgL HK (sC x).h) := by
  unfold mate
  rw [sC_c, sC_c, asg1_eq, sC_c, if_pos rfl, show HK.key (sC x).h (sC y).h = true from HK.krefl _]
  show (true && true && true && (x.length == y.length) && !(x.any _)) = _
  rw [h]; simp
theorem sC_norm (x : List (List (Sx Hd))) : norm1 HK (sC x) = if (x.map (norm HK)).all List.isEmpty then [] else [sC (x.map (norm HK))] := by
  rw [norm1_eq, if_pos (sC_c x)]; rfl
theorem norm_nil : norm HK [] = [] := rfl
theorem asg_sA (nm : List UInt8) (v : Int) (bs : List (List (Sx Hd))) : asg1 HK (sC bs).h (sA nm v) = decide (nm = [99]) := by
  rw [asg1_eq, sA_c, if_neg (by simp)]
  show ((decide ((1 : Int) = 1) && decide (nm = [99])) || (decide ((1 : Int) = 4) && decide ([99] ∈ ([] : List (List UInt8))))) = _
  simp
theorem ex_a : norm1 HK (sC [[], [sA [120] 1]]) = [sC [[], [sA [120] 1]]] := by
  rw [sC_norm]
  simp only [List.map_cons, List.map_nil, norm_nil, norm_one, sA_norm]
  rfl
theorem ex_b : norm1 HK (sC [[sA [121] 2], [sA [121] 3]]) = [sC [[sA [121] 2], [sA [121] 3]]] := by
  rw [sC_norm]
  simp only [List.map_cons, List.map_nil, norm_one, sA_norm]
  rfl
theorem ex_mate : mate HK (sC [[], [sA [120] 1]]) (sC [[sA [121] 2], [sA [121] 3]]) = true := by
  rw [sC_mate [[], [sA [120] 1]] [[sA [121] 2], [sA [121] 3]] rfl]
  simp [asgL, asg_sA]
theorem ex_l : norm HK [sC [[], [sA [120] 1]], sC [[sA [121] 2], [sA [121] 3]]] = [sC [[sA [121] 2], [sA [120] 1, sA [121] 3]]] := by
  rw [norm_cons, norm_one, ex_a, ex_b, one_app, if_pos ex_mate]
  show [Sx.mk _ [app HK [] [sA [121] 2], app HK [sA [120] 1] [sA [121] 3]]] = _
  rw [nil_app, one_app, if_neg (by rw [sA_mate]; simp)]
  rfl
theorem ex_m : (norm HK [sC [[], [sA [120] 1]], sA [122] 1, sC [[sA [121] 2], [sA [121] 3]]]).length = 3 := by
  rw [norm_cons, norm_cons, norm_one, ex_a, sA_norm, ex_b, one_app, if_neg (by rw [sA_mate]; simp), one_app, if_neg (by rw [mate_sA]; simp)]
  rfl
theorem ex_n1 : norm1 HK (sC [[sA [99] 1], []]) = [sC [[sA [99] 1], []]] := by
  rw [sC_norm]
  simp only [List.map_cons, List.map_nil, norm_nil, norm_one, sA_norm]
  rfl
theorem ex_n3 : norm1 HK (sC [[], [sC [[], []]]]) = [] := by
  have h : norm1 HK (sC [[], []]) = [] := by
    rw [sC_norm]
    simp only [List.map_cons, List.map_nil, norm_nil]
    rfl
  rw [sC_norm]
  simp only [List.map_cons, List.map_nil, norm_nil, norm_one, h]
  rfl
theorem ex_n : (norm HK [sC [[sA [99] 1], []], sC [[], [sA [120] 1]], sC [[], [sC [[], []]]]]).length = 2 := by
  have hm : mate HK (sC [[sA [99] 1], []]) (sC [[], [sA [120] 1]]) = false := by
    rw [sC_mate [[sA [99] 1], []] [[], [sA [120] 1]] rfl]
    simp [asgL, asg_sA]
  rw [norm_cons, norm_cons, norm_one, ex_n1, ex_a, ex_n3, app_nil, one_app, if_neg (by rw [hm]; simp)]
  rfl
theorem one_rs {W : World} {B : Nat} {z : Zt} {nm : ByteArray} {v : Int} (h : z = asZ nm v) : ∀ y ∈ [z], RsZ W B y := by
  intro y hy
  obtain rfl : y = z := by simpa using hy
  rw [h]
  exact asZ_rs _ _ _ _
theorem two_rs {W : World} {B : Nat} {z z' : Zt} {nm nm' : ByteArray} {v v' : Int} (h : z = asZ nm v) (h' : z' = asZ nm' v') : ∀ y ∈ [z, z'], RsZ W B y := by
  intro y hy
  simp only [List.mem_cons, List.not_mem_nil, or_false] at hy
  rcases hy with e | e
  · rw [e, h]; exact asZ_rs _ _ _ _
  · rw [e, h']; exact asZ_rs _ _ _ _
theorem one_zs {W : World} {B : Nat} {a : Zt} (h : RsZ W B a) : ∀ y ∈ [a], RsZ W B y := by
  intro y hy
  obtain rfl : y = a := by simpa using hy
  exact h
theorem two_zs {W : World} {B : Nat} {a b : Zt} (h : RsZ W B a) (h' : RsZ W B b) : ∀ y ∈ [a, b], RsZ W B y := by
  intro y hy
  simp only [List.mem_cons, List.not_mem_nil, or_false] at hy
  rcases hy with e | e
  · rw [e]; exact h
  · rw [e]; exact h'
theorem three_zs {W : World} {B : Nat} {a b c : Zt} (h : RsZ W B a) (h' : RsZ W B b) (h'' : RsZ W B c) : ∀ y ∈ [a, b, c], RsZ W B y := by
  intro y hy
  simp only [List.mem_cons, List.not_mem_nil, or_false] at hy
  rcases hy with e | e | e
  · rw [e]; exact h
  · rw [e]; exact h'
  · rw [e]; exact h''
theorem two_ls {W : World} {B : Nat} {a b : Rw Zt} (h : RsL W B a) (h' : RsL W B b) : ∀ y ∈ [a, b], RsL W B y := by
  intro y hy
  simp only [List.mem_cons, List.not_mem_nil, or_false] at hy
  rcases hy with e | e
  · rw [e]; exact h
  · rw [e]; exact h'
theorem below_le {B B' : Nat} {w w' : World} (h : Below B w w') (e : B' ≤ B) : Below B' w w' := h.mono e
/-- the three statements of the example in their boxes -/
structure Ex (W : World) (pa pb pc : Nat) (za zb zc : Zt) : Prop where
  ba : BoxZ W pa za
  bb : BoxZ W pb zb
  bc : BoxZ W pc zc
  ra : RsZ W W.heap.size za
  rb : RsZ W W.heap.size zb
  rc : RsZ W W.heap.size zc
theorem Ex.keep {W W' : World} {pa pb pc : Nat} {za zb zc : Zt} (h : Ex W pa pb pc za zb zc) (hb : Below W.heap.size W W') : Ex W' pa pb pc za zb zc := ⟨h.ba.keep hb, h.bb.keep hb, h.bc.keep hb, h.ra.blw hb hb.size, h.rb.blw hb hb.size, h.rc.blw hb hb.size⟩
/-- what Join asks of a list -/
structure JOk (cs : List (Sx Hd)) : Prop where
  sm : cs.length ≤ 200000 ∧ ∀ t ∈ cs, SmS 200000 t
  nm : ∀ t ∈ cs, AllN t
  wg : wgt cs ≤ 200000
  up : upL cs ≤ 1000000
theorem JOk.sml {l : List Zt} (h : JOk (cts l)) : SmL 200000 l := ⟨by have := h.sm.1; rwa [show (cts l).length = l.length from List.length_map _] at this, fun t ht => smZ_ct t (h.sm.2 t.ct (List.mem_map_of_mem ht))⟩
theorem jok_norm {cs : List (Sx Hd)} (h : JOk cs) : JOk (norm HK cs) := by
  have h1 : wgt (norm HK cs) ≤ wgt cs := num_norm HK _ _ _
  have h2 : upL (norm HK cs) ≤ upL cs := num_norm HK _ _ _
  have h3 := h.wg
  have h4 := h.up
  exact ⟨⟨by have := wgt_len (norm HK cs); omega, smS_norm h.sm.2 h.wg⟩, alln_norm h.nm, by omega, by omega⟩
/-- Join, its answer read -/
theorem join_r (a : Rw Zt) (w : World) (hR : RsL w w.heap.size a) (hJ : JOk (cts a.l)) : Calls Try.prog 10 #[.slice a.A a.l.length a.c] w (fun e w' => ∃ r : Rw Zt, e = .returned (.slice r.A r.l.length r.c) ∧ Hid (cts r.l = norm HK (cts a.l)) ∧ Hid (RsL w' w'.heap.size r) ∧ Hid (Below w.heap.size w w')) := by
  refine (join_any a w hR hJ.sml hJ.nm hJ.wg hJ.up).mono fun e w' h => ?_
  have hl : (norm HK (cts a.l)).length ≤ maxLen := by
    have h1 := (jok_norm hJ).sm.1
    unfold maxLen
    omega
  obtain ⟨r, h1, h2, h3, h4, h5⟩ := h.l hl
  exact ⟨r, h1, Lib.hid h2, Lib.hid ⟨h3.rd fun b hb => hb.2, fun t ht => ((h4 t ht).to fun b hb => hb.2).rz (Nat.le_refl _) fun b hb => hb.2⟩, Lib.hid h5⟩
/-- Join of a literal list -/
theorem join_lit (W : World) (l : List Zt) (n m : Nat) (cs : List (Sx Hd)) (hn : l.length = n) (hl : n ≤ maxLen) (hcs : cts l = cs) (hz : ∀ z ∈ l, RsZ W W.heap.size z) (hJ : JOk cs) (hm : (norm HK cs).length = m) : Calls Try.prog 10 #[.slice (some ⟨W.heap.size, 0, none⟩) n n] (W.alloc (.cells (zsC l).toArray 38)) (fun e w' => ∃ r : Rw Zt, e = .returned (.slice r.A m r.c) ∧ Hid (r.l.length = m) ∧ Hid (cts r.l = norm HK cs) ∧ Hid (RsL w' w'.heap.size r) ∧ Hid (Below W.heap.size W w')) := by
  subst hn
  have h1 : RsL (W.alloc (.cells (zsC l).toArray 38)) (W.alloc (.cells (zsC l).toArray 38)).heap.size ⟨some ⟨W.heap.size, 0, none⟩, l.length, l⟩ := by
    rw [World.size_alloc]
    exact row_of (Nat.le_refl _) hl hz
  have h2 := join_r ⟨some ⟨W.heap.size, 0, none⟩, l.length, l⟩ _ h1 (by show JOk (cts l); rw [hcs]; exact hJ)
  refine h2.mono fun e w' h => ?_
  obtain ⟨r, e1, e2, e3, e4⟩ := h
  have e5 : r.l.length = m := by
    have h3 := congrArg List.length e2.out
    rw [show (cts r.l).length = r.l.length from List.length_map _, show cts (⟨some ⟨W.heap.size, 0, none⟩, l.length, l⟩ : Rw Zt).l = cs from hcs, hm] at h3
    exact h3
  refine ⟨r, by rw [← e5]; exact e1, Lib.hid e5, Lib.hid (by rw [← hcs]; exact e2.out), e3, Lib.hid (bel_step (bel_box _) e4.out)⟩
theorem RsL.up {W : World} {r : Rw Zt} {o : Obj} (h : RsL W W.heap.size r) : RsL (W.alloc o) (W.alloc o).heap.size r := h.blw (bel_box o) (bel_box (w := W) o).size
theorem RsLs.up {W : World} {r : Rw (Rw Zt)} {o : Obj} (h : RsLs W W.heap.size r) : RsLs (W.alloc o) (W.alloc o).heap.size r := h.blw (bel_box o) (bel_box (w := W) o).size
theorem RsL.dr {W : World} {r : Rw Zt} (h : RsL W W.heap.size r) : RsL W.drew W.drew.heap.size r := h.blw (Below.refl _ _).drew (Nat.le_refl _)
theorem RsLs.dr {W : World} {r : Rw (Rw Zt)} (h : RsLs W W.heap.size r) : RsLs W.drew W.drew.heap.size r := h.blw (Below.refl _ _).drew (Nat.le_refl _)
theorem row_lit {W : World} {N : Nat} {z : Zt} (hN : W.heap.size = N) (hz : RsZ W W.heap.size z) : RsL (W.alloc (zB z)) (W.alloc (zB z)).heap.size ⟨some ⟨N, 0, none⟩, 1, [z]⟩ := by
  subst hN
  rw [World.size_alloc]
  exact row_of (l := [z]) (Nat.le_refl _) (by show 1 ≤ maxLen; unfold maxLen; omega) (one_zs hz)
theorem rows_lit {W : World} {N n1 n2 c1 c2 : Nat} {A1 A2 : Option Addr} {l1 l2 : List Zt} (hN : W.heap.size = N) (h1 : l1.length = n1) (h2 : l2.length = n2) (hx : RsL W W.heap.size ⟨A1, c1, l1⟩) (hy : RsL W W.heap.size ⟨A2, c2, l2⟩) : RsLs (W.alloc (.cells #[.slice A1 n1 c1, .slice A2 n2 c2] 22)) (W.alloc (.cells #[.slice A1 n1 c1, .slice A2 n2 c2] 22)).heap.size ⟨some ⟨N, 0, none⟩, 2, [⟨A1, c1, l1⟩, ⟨A2, c2, l2⟩]⟩ := by
  subst hN h1 h2
  rw [World.size_alloc]
  exact rows_of (l := [⟨A1, c1, l1⟩, ⟨A2, c2, l2⟩]) (Nat.le_refl _) (by show 2 ≤ maxLen; unfold maxLen; omega) (two_ls hx hy)
/-- byC of a row that is read -/
theorem by_at {W : World} {A : Option Addr} {x y : Rw Zt} (h : RsLs W W.heap.size ⟨A, 2, [x, y]⟩) : Calls Try.prog 17 #[.slice A 2 2] W (fun e w' => ∃ z : Zt, e = .returned (zV z) ∧ Hid (z.ct = sC [cts x.l, cts y.l]) ∧ Hid (RsZ w' w'.heap.size z) ∧ Hid (Below W.heap.size W w')) := (byc_any ⟨A, 2, [x, y]⟩ W).mono fun e w' g => ⟨_, g.1, Lib.hid (byZ_ct _), Lib.hid ((byZ_rs h).blw g.2 g.2.size), Lib.hid g.2⟩
theorem by_atL {W : World} {A : Option Addr} {z : Zt} (N1 : Nat) (h : RsLs W W.heap.size ⟨A, 2, [⟨some ⟨N1, 0, none⟩, 1, [z]⟩, ⟨none, 0, []⟩]⟩) : Calls Try.prog 17 #[.slice A 2 2] W (fun e w' => ∃ y : Zt, e = .returned (zV y) ∧ Hid (y.ct = sC [[z.ct], []]) ∧ Hid (RsZ w' w'.heap.size y) ∧ Hid (Below W.heap.size W w')) := by_at h
theorem by_atR {W : World} {A : Option Addr} {z : Zt} (N1 : Nat) (h : RsLs W W.heap.size ⟨A, 2, [⟨none, 0, []⟩, ⟨some ⟨N1, 0, none⟩, 1, [z]⟩]⟩) : Calls Try.prog 17 #[.slice A 2 2] W (fun e w' => ∃ y : Zt, e = .returned (zV y) ∧ Hid (y.ct = sC [[], [z.ct]]) ∧ Hid (RsZ w' w'.heap.size y) ∧ Hid (Below W.heap.size W w')) := by_at h
theorem by_at0 {W : World} {A : Option Addr} (h : RsLs W W.heap.size ⟨A, 2, [⟨none, 0, []⟩, ⟨none, 0, []⟩]⟩) : Calls Try.prog 17 #[.slice A 2 2] W (fun e w' => ∃ y : Zt, e = .returned (zV y) ∧ Hid (y.ct = sC [[], []]) ∧ Hid (RsZ w' w'.heap.size y) ∧ Hid (Below W.heap.size W w')) := by_at h
theorem as_at (nm : ByteArray) (v : Int) (W : World) : Calls Try.prog 18 #[.string nm, .int .i64 v] W (fun e w' => ∃ z : Zt, e = .returned (zV z) ∧ Hid (z.ct = sA nm.data.toList v) ∧ Hid (∀ W B, RsZ W B z) ∧ Hid (Below W.heap.size W w')) := (assign_any nm v W).mono fun e w' h => ⟨_, h.1, Lib.hid (asZ_ct _ _), Lib.hid fun W B => asZ_rs W B _ _, Lib.hid h.2⟩
theorem nn_mk {W W' : World} {r : Rw (Rw Zt)} (h : RsLs W W.heap.size r) (hb : Below W.heap.size W W') : RsLs W' W'.heap.size r := h.blw hb hb.size
theorem sA_ok (nm : List UInt8) (v : Int) (h : nm.length ≤ maxLen) : SmS 200000 (sA nm v) ∧ AllN (sA nm v) := ⟨.mk _ (Nat.zero_le _) (Nat.zero_le _) (Nat.zero_le _) (fun _ h => by cases h) (fun _ h => by cases h), .mk _ ⟨h, fun _ h => by cases h⟩ (fun _ h => by cases h)⟩
theorem sC_ok (bs : List (List (Sx Hd))) (h1 : bs.length ≤ 200000) (h2 : ∀ b ∈ bs, b.length ≤ 200000) (h3 : ∀ b ∈ bs, ∀ t ∈ b, SmS 200000 t ∧ AllN t) : SmS 200000 (sC bs) ∧ AllN (sC bs) := ⟨.mk _ (Nat.zero_le _) (Nat.zero_le _) h1 h2 fun b hb t ht => (h3 b hb t ht).1, .mk _ ⟨by show 1 ≤ maxLen; unfold maxLen; omega, fun _ h => by cases h⟩ fun b hb t ht => (h3 b hb t ht).2⟩
theorem wgt_sA (nm : List UInt8) (v : Int) : wgt1 (sA nm v) = 1 := by unfold wgt1; rw [num1_eq, sA_c, if_neg (by simp)]
theorem wgt_sC (bs : List (List (Sx Hd))) : wgt1 (sC bs) = bs.length + 1 + sumL wgt bs := wgt_case (sC_c bs)
theorem up_sA (nm : List UInt8) (v : Int) : up1 (sA nm v) = 1 := by rw [up_leaf (by rw [sA_c]; simp)]; rfl
theorem up_sC (bs : List (List (Sx Hd))) : up1 (sC bs) = sumL upL bs := up_case (sC_c bs)
theorem wgt_cons (s : Sx Hd) (l : List (Sx Hd)) : wgt (s :: l) = wgt1 s + wgt l := sumL_cons _ _ _
theorem wgt_nil : wgt [] = 0 := rfl
theorem up_nil : upL [] = 0 := rfl
theorem sumL_nil {α : Type} (f : α → Nat) : sumL f [] = 0 := rfl
theorem ml1 : (1 : Nat) ≤ maxLen := by unfold maxLen; omega
theorem okA (nm : List UInt8) (v : Int) (h : nm.length = 1) : SmS 200000 (sA nm v) ∧ AllN (sA nm v) := sA_ok nm v (by rw [h]; exact ml1)
theorem jok_of {cs : List (Sx Hd)} (h : cs.length ≤ 200000) (h1 : ∀ t ∈ cs, SmS 200000 t ∧ AllN t) (h2 : wgt cs ≤ 200000) (h3 : upL cs ≤ 1000000) : JOk cs := ⟨⟨h, fun t ht => (h1 t ht).1⟩, fun t ht => (h1 t ht).2, h2, h3⟩
theorem ok_a : SmS 200000 (sC [[], [sA [120] 1]]) ∧ AllN (sC [[], [sA [120] 1]]) := sC_ok _ (by simp) (by intro b hb; simp at hb; rcases hb with rfl | rfl <;> simp) (by
  intro b hb t ht
  simp at hb
  rcases hb with rfl | rfl
  · cases ht
  · simp at ht; subst ht; exact okA _ _ rfl)
theorem ok_b : SmS 200000 (sC [[sA [121] 2], [sA [121] 3]]) ∧ AllN (sC [[sA [121] 2], [sA [121] 3]]) := sC_ok _ (by simp) (by intro b hb; simp at hb; rcases hb with rfl | rfl <;> simp) (by
  intro b hb t ht
  simp at hb
  rcases hb with rfl | rfl
  · simp at ht; subst ht; exact okA _ _ rfl
  · simp at ht; subst ht; exact okA _ _ rfl)
theorem ok_n1 : SmS 200000 (sC [[sA [99] 1], []]) ∧ AllN (sC [[sA [99] 1], []]) := sC_ok _ (by simp) (by intro b hb; simp at hb; rcases hb with rfl | rfl <;> simp) (by
  intro b hb t ht
  simp at hb
  rcases hb with rfl | rfl
  · simp at ht; subst ht; exact okA _ _ rfl
  · cases ht)
theorem ok_e : SmS 200000 (sC [[], []]) ∧ AllN (sC [[], []]) := sC_ok _ (by simp) (by intro b hb; simp at hb; subst hb; simp) (by
  intro b hb t ht
  simp at hb
  subst hb
  cases ht)
theorem ok_n3 : SmS 200000 (sC [[], [sC [[], []]]]) ∧ AllN (sC [[], [sC [[], []]]]) := sC_ok _ (by simp) (by intro b hb; simp at hb; rcases hb with rfl | rfl <;> simp) (by
  intro b hb t ht
  simp at hb
  rcases hb with rfl | rfl
  · cases ht
  · simp at ht; subst ht; exact ok_e)
theorem jok_l : JOk [sC [[], [sA [120] 1]], sC [[sA [121] 2], [sA [121] 3]]] := jok_of (by simp) (by
  intro t ht
  simp only [List.mem_cons, List.not_mem_nil, or_false] at ht
  rcases ht with rfl | rfl
  · exact ok_a
  · exact ok_b) (by simp [wgt_cons, wgt_nil, wgt_sA, wgt_sC, sumL_cons, sumL_nil]) (by simp [up_cons, up_nil, up_sA, up_sC, sumL_cons, sumL_nil])
theorem jok_m : JOk [sC [[], [sA [120] 1]], sA [122] 1, sC [[sA [121] 2], [sA [121] 3]]] := jok_of (by simp) (by
  intro t ht
  simp only [List.mem_cons, List.not_mem_nil, or_false] at ht
  rcases ht with rfl | rfl | rfl
  · exact ok_a
  · exact okA _ _ rfl
  · exact ok_b) (by simp [wgt_cons, wgt_nil, wgt_sA, wgt_sC, sumL_cons, sumL_nil]) (by simp [up_cons, up_nil, up_sA, up_sC, sumL_cons, sumL_nil])
theorem jok_n : JOk [sC [[sA [99] 1], []], sC [[], [sA [120] 1]], sC [[], [sC [[], []]]]] := jok_of (by simp) (by
  intro t ht
  simp only [List.mem_cons, List.not_mem_nil, or_false] at ht
  rcases ht with rfl | rfl | rfl
  · exact ok_n1
  · exact ok_a
  · exact ok_n3) (by simp [wgt_cons, wgt_nil, wgt_sA, wgt_sC, sumL_cons, sumL_nil]) (by simp [up_cons, up_nil, up_sA, up_sC, sumL_cons, sumL_nil])
theorem cas_sA (nm : List UInt8) (v : Int) : cas1 (sA nm v) = 0 := by unfold cas1; rw [num1_eq, sA_c, if_neg (by simp)]
theorem cas_sC (bs : List (List (Sx Hd))) : cas1 (sC bs) = 1 + sumL cas bs := by unfold cas1; rw [num1_eq, sC_c, if_pos rfl]; rfl
theorem cas_cons (s : Sx Hd) (l : List (Sx Hd)) : cas (s :: l) = cas1 s + cas l := sumL_cons _ _ _
theorem cas_nil : cas [] = 0 := rfl
theorem cas_l : cas [sC [[], [sA [120] 1]], sC [[sA [121] 2], [sA [121] 3]]] = 2 := by simp [cas_cons, cas_nil, cas_sA, cas_sC, sumL_cons, sumL_nil]
theorem cas_both : cas [sC [[sA [121] 2], [sA [120] 1, sA [121] 3]]] = 1 := by simp [cas_cons, cas_nil, cas_sA, cas_sC, sumL_cons, sumL_nil]
theorem ok_c : SmS 200000 (sC [[sA [121] 2], [sA [120] 1, sA [121] 3]]) ∧ AllN (sC [[sA [121] 2], [sA [120] 1, sA [121] 3]]) := sC_ok _ (by simp) (by intro b hb; simp at hb; rcases hb with rfl | rfl <;> simp) (by
  intro b hb t ht
  simp at hb
  rcases hb with rfl | rfl
  · simp at ht; subst ht; exact okA _ _ rfl
  · simp at ht
    rcases ht with rfl | rfl
    · exact okA _ _ rfl
    · exact okA _ _ rfl)
theorem same_ex {W : World} {r : Rw Zt} {z : Zt} (hr : RsL W W.heap.size r) (hl : r.l.length = 1) (hc : cts r.l = [z.ct]) (hz : RsZ W W.heap.size z) (hs : SmS 200000 z.ct) : Calls Try.prog 9 #[.slice r.A 1 r.c, .slice (some ⟨W.heap.size, 0, none⟩) 1 1] (W.alloc (zB z)) (fun e w' => e = .returned (.bool true) ∧ Below W.heap.size W w') := by
  have h1 : SmL 200000 r.l := ⟨by rw [hl]; omega, fun t ht => smZ_ct t (by
    have h2 : t.ct ∈ cts r.l := List.mem_map_of_mem ht
    rw [hc] at h2
    have h3 : t.ct = z.ct := by simpa using h2
    rw [h3]; exact hs)⟩
  have h2 : SmL 200000 [z] := ⟨by simp, fun t ht => by
    obtain rfl : t = z := by simpa using ht
    exact smZ_ct t hs⟩
  have h := rsameZ_all _ r ⟨some ⟨W.heap.size, 0, none⟩, 1, [z]⟩ (W.alloc (zB z)) (Nat.le_refl _) hr.up (row_lit rfl hz) h1 h2
  rw [hl] at h
  have e : sameZ r.l [z] = true := sameZ_yes (by rw [hc]; rfl)
  exact h.mono fun e' w' g => ⟨by rw [g.1, e], bel_step (bel_box _) g.2⟩
theorem cases_lit (W : World) (l : List Zt) (n m : Nat) (hn : l.length = n) (hl : n ≤ maxLen) (hz : ∀ z ∈ l, RsZ W W.heap.size z) (hm : cas (cts l) = m) (hb : m ≤ 1048576) : Calls Try.prog 12 #[.slice (some ⟨W.heap.size, 0, none⟩) n n] (W.alloc (.cells (zsC l).toArray 38)) (fun e w' => e = .returned (.int .i64 ((m : Nat) : Int)) ∧ Below W.heap.size W w') := by
  subst hn hm
  have h1 : RsL (W.alloc (.cells (zsC l).toArray 38)) (W.alloc (.cells (zsC l).toArray 38)).heap.size ⟨some ⟨W.heap.size, 0, none⟩, l.length, l⟩ := by
    rw [World.size_alloc]
    exact row_of (Nat.le_refl _) hl hz
  exact (cases_all _ ⟨some ⟨W.heap.size, 0, none⟩, l.length, l⟩ _ (Nat.le_refl _) h1 hb).mono fun e w' g => ⟨g.1, bel_step (bel_box _) g.2⟩
theorem cases_r (W : World) (r : Rw Zt) (n m : Nat) (hr : RsL W W.heap.size r) (hn : r.l.length = n) (hm : cas (cts r.l) = m) (hb : m ≤ 1048576) : Calls Try.prog 12 #[.slice r.A n r.c] W (fun e w' => e = .returned (.int .i64 ((m : Nat) : Int)) ∧ Below W.heap.size W w') := by
  subst hn hm
  exact cases_all _ r _ (Nat.le_refl _) hr hb
end fu
end Go.Proofs.Ytjodffbekipnlaa
