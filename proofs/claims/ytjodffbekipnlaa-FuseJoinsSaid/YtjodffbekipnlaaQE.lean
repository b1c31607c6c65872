/- Texts of one chain, in one file. -/
import Derived.Deep.RegionWith
import Derived.Deep.CutBlock
import Derived.Deep.RegionLaw
import Derived.Deep.CutRange
import Derived.Deep.RegionHeld3
import Derived.Test.YtjodffbekipnlaaQD
/- The reference's Join: what is kept, what is new. -/
namespace Go.Proofs.Ytjodffbekipnlaa
set_option linter.unusedVariables false
set_option linter.unusedSimpArgs false
open Go.RowKit Go.Sort
namespace fu
/-- a case with branches in a new row -/
theorem case_new {W : World} {H B1 : Nat} {P Q Q' : Nat → Prop} {z : Zt} {A6 : Option Addr} {c6 : Nat} {M : List (Rw Zt)} {T : TypeId} (hz : RzQ W H Q' z) (hown : W.ownsRow B1 T 1 (.slice A6 M.length c6) M.length (aC M)) (hM : M.length ≤ maxLen) (hE : ∀ b ∈ M, RlQ W H P b) (hP : ∀ p, P p → Q p) (hR : ∀ p, B1 ≤ p → p < W.heap.size → Q p) : RzQ W H Q (z.wb ⟨A6, c6, M⟩) := by
  obtain ⟨h1, h2, h3, _⟩ := hz.of
  exact .mk _ h1 h2 h3 ((own_rda hown hM).mono fun b hb => hR b hb.1 hb.2.1) (fun a ha => (hE a ha).1.mono hP) fun a ha t ht => ((hE a ha).2 t ht).mono (Nat.le_refl _) hP
/-- what is kept of the joined list -/
def St (w : World) (H : Nat) (Q : Nat → Prop) (A : Option Addr) (c : Nat) (L : List Zt) (W : World) : Prop := W.ownsRow w.heap.size 38 12 (.slice A L.length c) L.length (zsC L) ∧ (∀ y ∈ L, RzQ W H (fun b => Q b ∨ Oth w.heap.size W (.slice A L.length c) b) y) ∧ Below w.heap.size w W
theorem St.keep {w W W' : World} {H : Nat} {Q : Nat → Prop} {A : Option Addr} {c : Nat} {L : List Zt} (h : St w H Q A c L W) (hH : H ≤ w.heap.size) (hQ : ∀ b, Q b → b < w.heap.size) (hb : Below W.heap.size W W') : St w H Q A c L W' := by
  have hw := h.2.2.size
  refine ⟨own_keepZ h.1 hb, fun y hy => ((h.2.1 y hy).keep (hb.mono (Nat.le_trans hH hw)) fun p hp => hb.cell (hp.elim (fun h => Nat.lt_of_lt_of_le (hQ _ h) hw) fun h => h.2.1)).mono (Nat.le_refl _) fun b hb' => hb'.imp id fun h => ⟨h.1, Nat.lt_of_lt_of_le h.2.1 hb.size, h.2.2⟩, h.2.2.trans (hb.mono hw)⟩
/-- a struct stored at the end of the joined list -/
theorem St.store {w W : World} {H g c n k : Nat} {Q : Nat → Prop} {Lp : List Zt} {x y : Zt} (hH : H ≤ w.heap.size) (hQ : ∀ b, Q b → b < w.heap.size) (hn : n = (Lp ++ [x]).length) (hk : k = Lp.length) (h : St w H Q (some ⟨g, 0, none⟩) c (Lp ++ [x]) W) (hy : RzQ W H (fun b => Q b ∨ Oth w.heap.size W (.slice (some ⟨g, 0, none⟩) n c) b) y) : St w H Q (some ⟨g, 0, none⟩) c (Lp ++ [y]) (saZ W ((⟨g, 0, none⟩ : Addr).add (k * 12)) y) := by
  have hl : (Lp ++ [y]).length = n := by rw [hn]; simp
  subst hk
  unfold St at h ⊢
  rw [← hn] at h
  rw [hl]
  obtain ⟨h1, h2, h3⟩ := h
  obtain ⟨s1, s2, s3⟩ := rowZ_store (y := y) h1 rfl
  have hg : w.heap.size ≤ g := (h1.lt g rfl).1
  have hlow : Below w.heap.size w (saZ W ((⟨g, 0, none⟩ : Addr).add (Lp.length * 12)) y) := saZ_below h3 (by rw [(add_addZ g (Lp.length * 12) 0).2.1]; exact hg) y
  have hW : Below H W (saZ W ((⟨g, 0, none⟩ : Addr).add (Lp.length * 12)) y) := saZ_below (Below.refl _ _) (by rw [(add_addZ g (Lp.length * 12) 0).2.1]; exact Nat.le_trans hH hg) y
  have kk : ∀ p : Addr, (Q p.block ∨ Oth w.heap.size W (.slice (some ⟨g, 0, none⟩) n c) p.block) → (saZ W ((⟨g, 0, none⟩ : Addr).add (Lp.length * 12)) y).cell? p = W.cell? p := fun p hp => by
    rcases hp with hp | hp
    · have := hQ _ hp
      exact (s2.2 p (Nat.lt_of_lt_of_le this h3.size) (fun e => by have := Option.some.inj e; omega)).1
    · exact (s2.2 p hp.2.1 (fun e => hp.2.2 e.symm)).1
  have uu : ∀ b, (Q b ∨ Oth w.heap.size W (.slice (some ⟨g, 0, none⟩) n c) b) → (Q b ∨ Oth w.heap.size (saZ W ((⟨g, 0, none⟩ : Addr).add (Lp.length * 12)) y) (.slice (some ⟨g, 0, none⟩) n c) b) := fun b hb => hb.imp id fun h => ⟨h.1, by rw [s3]; exact h.2.1, h.2.2⟩
  refine ⟨s1, fun u hu => ?_, hlow⟩
  rcases List.mem_append.1 hu with hu | hu
  · exact ((h2 u (List.mem_append_left _ hu)).keep hW kk).mono (Nat.le_refl _) uu
  · obtain rfl := List.mem_singleton.1 hu
    exact (hy.keep hW kk).mono (Nat.le_refl _) uu
/-- statements that can be joined -/
def Gd (cs : List (Sx Hd)) : Prop := wgt cs ≤ 200000 ∧ ∀ t ∈ cs, SmS 200000 t ∧ AllN t
theorem gd_norm {cs : List (Sx Hd)} (h : Gd cs) : Gd (norm HK cs) := ⟨Nat.le_trans (num_norm HK _ _ _) h.1, fun t ht => ⟨smS_norm (fun u hu => (h.2 u hu).1) h.1 t ht, alln_norm (fun u hu => (h.2 u hu).2) t ht⟩⟩
theorem wgt_app (x y : List (Sx Hd)) : wgt (x ++ y) = wgt x + wgt y := sumL_append _ _ _
theorem gd_take {l : List Zt} (h : Gd (cts l)) (k : Nat) : Gd (cts (l.take k)) := ⟨Nat.le_trans (wgt_take_le l k) h.1, fun t ht => h.2 t (by
  obtain ⟨u, hu, rfl⟩ := List.mem_map.1 ht
  exact List.mem_map_of_mem (List.mem_of_mem_take hu))⟩
theorem wgt_br {cs : List (Sx Hd)} {t : Sx Hd} {b : List (Sx Hd)} (ht : t ∈ cs) (hc : HK.c t.h = true) (hb : b ∈ t.br) : wgt b < wgt1 t ∧ wgt1 t ≤ wgt cs := by
  have h1 := wgt_case hc
  have h2 : wgt b ≤ sumL wgt t.br := sumL_mem wgt hb
  exact ⟨by omega, wgt_mem ht⟩
theorem gd_br {cs : List (Sx Hd)} {t : Sx Hd} {b : List (Sx Hd)} (h : Gd cs) (ht : t ∈ cs) (hc : HK.c t.h = true) (hb : b ∈ t.br) : Gd b := by
  obtain ⟨h1, h2⟩ := wgt_br ht hc hb
  have h3 := h.1
  exact ⟨by omega, fun u hu => ⟨(h.2 t ht).1.of.2.2.2.2 b hb u hu, (h.2 t ht).2.of.2 b hb u hu⟩⟩
theorem gd_sml {l : List Zt} (h : Gd (cts l)) : SmL 200000 l := by
  refine ⟨?_, fun t ht => smZ_ct t (h.2 t.ct (List.mem_map_of_mem ht)).1⟩
  have h1 := wgt_len (cts l)
  rw [show (cts l).length = l.length from List.length_map _] at h1
  exact Nat.le_trans h1 h.1
theorem gd_both {l : List Zt} {k : Nat} {z : Zt} {la : Sx Hd} {x b : List (Sx Hd)} (h : Gd (cts l)) (hz : l[k]? = some z) (hc : HK.c z.ct.h = true) (hb : b ∈ z.ct.br) (hl : la ∈ norm HK (cts (l.take k))) (hcl : HK.c la.h = true) (hx : x ∈ la.br) : Gd (x ++ norm HK b) ∧ wgt (x ++ norm HK b) < wgt (cts l) := by
  have hzm : z.ct ∈ cts l := List.mem_map_of_mem (List.mem_of_getElem? hz)
  obtain ⟨h1, h2⟩ := wgt_br hl hcl hx
  obtain ⟨h3, _⟩ := wgt_br hzm hc hb
  have h5 : wgt (norm HK b) ≤ wgt b := num_norm HK _ _ _
  have h6 : wgt (norm HK (cts (l.take k))) ≤ wgt (cts (l.take k)) := num_norm HK _ _ _
  have h7 : wgt (cts (l.take (k + 1))) = wgt (cts (l.take k)) + wgt1 z.ct := by
    rw [cts_take hz, wgt_app]
    show _ + (wgt1 z.ct + 0) = _
    rw [Nat.add_zero]
  have h8 := wgt_take_le l (k + 1)
  have h9 := h.1
  have h10 := wgt_app x (norm HK b)
  refine ⟨⟨by omega, fun t ht => ?_⟩, by omega⟩
  rcases List.mem_append.1 ht with ht | ht
  · exact (gd_br (gd_norm (gd_take h k)) hl hcl hx).2 t ht
  · exact (gd_norm (gd_br h hzm hc hb)).2 t ht
theorem emp_all (M : List (Rw Zt)) : empZ M = (M.map fun b => cts b.l).all List.isEmpty := by
  unfold empZ
  rw [List.all_map]
  congr 1
  funext b
  show _ = (b.l.map Zt.ct).isEmpty
  cases b.l <;> rfl
theorem rz_oth {W W' : World} {H B : Nat} {Q : Nat → Prop} {v : Value} {z : Zt} (h : RzQ W H (fun b => Q b ∨ Oth B W v b) z) (hH : H ≤ W.heap.size) (hQ : ∀ b, Q b → b < W.heap.size) (hb : Below W.heap.size W W') : RzQ W' H (fun b => Q b ∨ Oth B W' v b) z :=
  (h.keep (hb.mono hH) fun p hp => hb.cell (hp.elim (fun h => hQ _ h) fun h => h.2.1)).mono (Nat.le_refl _) fun b hb' => hb'.imp id fun h => ⟨h.1, Nat.lt_of_lt_of_le h.2.1 hb.size, h.2.2⟩
theorem own_g {W : World} {B n z c : Nat} {T : TypeId} {A : Option Addr} {xs : List Value} (h : W.ownsRow B T z (.slice A n c) n xs) (hn : 0 < n) : ∃ g, A = some ⟨g, 0, none⟩ := by
  rcases h.2 with ⟨_, h2⟩ | ⟨g, cap, cur, h1, _⟩
  · omega
  · injection h1 with h1
    exact ⟨g, h1⟩
theorem own_le {W : World} {B B' n z : Nat} {T : TypeId} {v : Value} {xs : List Value} (h : W.ownsRow B T z v n xs) (hB : B' ≤ B) : W.ownsRow B' T z v n xs := ⟨h.1, h.2.imp id fun ⟨g, cap, cur, h1, h2, h3⟩ => ⟨g, cap, cur, h1, Nat.le_trans hB h2, h3⟩⟩
theorem own_empty {B : Nat} (W : World) (T : TypeId) (hB : B ≤ W.heap.size) : (W.alloc (.cells #[] T)).ownsRow B T 12 (.slice (some ⟨W.heap.size, 0, none⟩) 0 0) 0 [] := own_le (own_lit W [] T (Nat.zero_le _)) hB
/-- one more list in the row of the joined branches -/
theorem both_step {w w5 wr wb w6 w8 : World} {H q c8 c9 c10 : Nat} {Q : Nat → Prop} {ow : Value} {A8 A9 A10 : Option Addr} {X : List (Rw Zt)} {L9 : List Zt} {o : Obj} (hH : H ≤ w.heap.size) (hQ : ∀ b, Q b → b < w.heap.size) (hl5 : w.heap.size ≤ w5.heap.size) (h5r : w5.heap.size + 1 ≤ wr.heap.size) (hXL : X.length = q)
    (hO : wr.ownsRow (w5.heap.size + 1) 22 1 (.slice A8 q c8) q (aC X)) (hE : ∀ b ∈ X, RlQ wr H (fun p => Q p ∨ Oth w.heap.size w5 ow p ∨ Oth (w5.heap.size + 1) wr (.slice A8 q c8) p) b)
    (hbb : Below wr.heap.size wr wb) (hb6 : Below wb.heap.size wb w6)
    (hLo : w6.ownsRow wb.heap.size 38 12 (.slice A9 L9.length c9) L9.length (zsC L9))
    (hLr : ∀ t ∈ L9, RzQ w6 H (fun b => ((Q b ∨ Oth w.heap.size w5 ow b) ∨ (wr.heap.size ≤ b ∧ b < wb.heap.size)) ∨ Oth wb.heap.size w6 (.slice A9 L9.length c9) b) t)
    (hown : w8.ownsRow (w5.heap.size + 1) 22 1 (.slice A10 (q + 1) c10) (q + 1) (aC X ++ [.slice A9 L9.length c9])) (hg : (w6.alloc o).grownBy w8 (Value.slice A8 q c8).ownBlock) (hd : (Value.slice A10 (q + 1) c10).ownBlock = (Value.slice A8 q c8).ownBlock ∨ (Value.slice A10 (q + 1) c10).ownBlock = some (w6.alloc o).heap.size) :
    (X ++ [(⟨A9, c9, L9⟩ : Rw Zt)]).length = q + 1 ∧ w8.ownsRow (w5.heap.size + 1) 22 1 (.slice A10 (q + 1) c10) (q + 1) (aC (X ++ [⟨A9, c9, L9⟩])) ∧ (∀ b ∈ X ++ [(⟨A9, c9, L9⟩ : Rw Zt)], RlQ w8 H (fun p => Q p ∨ Oth w.heap.size w5 ow p ∨ Oth (w5.heap.size + 1) w8 (.slice A10 (q + 1) c10) p) b) ∧ Below (w5.heap.size + 1) wr w8 := by
  have hb6w : Below wr.heap.size wr w6 := hbb.trans (hb6.mono hbb.size)
  obtain ⟨s1, s2, s3, s4, s5⟩ := oth_step (B := w5.heap.size + 1) h5r hO hb6w hg hd
  have e1 : aC X ++ [Value.slice A9 L9.length c9] = aC (X ++ [⟨A9, c9, L9⟩]) := by simp [aC]
  rw [e1] at hown
  have hsb := hbb.size
  have hs6 := hb6.size
  have h68 : Below (w5.heap.size + 1) w6 w8 := ((bel_box (w := w6) o).mono (by omega)).grown hg (by rw [World.size_alloc]; omega) fun k hk => (hO.lt k hk).1
  have hlt : ∀ p, (Q p ∨ Oth w.heap.size w5 ow p) → p < w5.heap.size + 1 := fun p hp => hp.elim (fun h => by have := hQ p h; omega) fun h => by have := h.2.1; omega
  have hl9 : L9.length ≤ maxLen := by
    rcases hLo.2 with ⟨_, h⟩ | ⟨_, _, _, _, _, _, h1, h2, _⟩
    · rw [h]; exact Nat.zero_le _
    · exact Nat.le_trans h1 h2
  refine ⟨by simp [hXL], hown, fun b hb => ?_, s5⟩
  rcases List.mem_append.1 hb with hb | hb
  · exact ((hE b hb).keep (s5.mono (by omega)) fun p hp => by
      rcases hp with hp | hp | hp
      · exact s5.cell (hlt _ (.inl hp))
      · exact s5.cell (hlt _ (.inr hp))
      · exact s2 p hp).mono (Nat.le_refl _) fun b hb => hb.imp id fun hb => hb.imp id (s1 b)
  · obtain rfl := List.mem_singleton.1 hb
    refine ⟨((own_rdq hLo hl9).keep oneB_Z fun p hp => s4 p ⟨Nat.le_trans hsb hp.1, hp.2.1⟩).mono fun b hb => .inr (.inr (s3 b ⟨Nat.le_trans hsb hb.1, hb.2.1⟩)), fun t ht => ((hLr t ht).keep (h68.mono (by omega)) fun p hp => ?_).mono (Nat.le_refl _) fun b hb => ?_⟩
    · rcases hp with (hp | hp) | hp
      · exact h68.cell (hlt _ hp)
      · exact s4 p ⟨hp.1, Nat.lt_of_lt_of_le hp.2 hs6⟩
      · exact s4 p ⟨Nat.le_trans hsb hp.1, hp.2.1⟩
    · rcases hb with (hb | hb) | hb
      · exact hb.elim .inl fun h => .inr (.inl h)
      · exact .inr (.inr (s3 b ⟨hb.1, Nat.lt_of_lt_of_le hb.2 hs6⟩))
      · exact .inr (.inr (s3 b ⟨Nat.le_trans hsb hb.1, hb.2.1⟩))
end fu
end Go.Proofs.Ytjodffbekipnlaa
/- The reference's Join, walked. -/
namespace Go.Proofs.Ytjodffbekipnlaa
set_option linter.unusedVariables false
set_option linter.unusedSimpArgs false
open Go.RowKit Go.Sort
namespace fu
set_option maxRecDepth 100000 in
set_option maxHeartbeats 12000000 in
theorem rjoin_of (a : Rw Zt) (w : World) (H : Nat) (Q : Nat → Prop) (hH : H ≤ w.heap.size) (hQ : ∀ b, Q b → b < w.heap.size) (hR : RlQ w H Q a) (hG : Gd (cts a.l))
    (KJ : Hid (∀ (b : Rw Zt) W (Q' : Nat → Prop), Below w.heap.size w W → (∀ p, Q' p → p < W.heap.size) → RlQ W H Q' b → wgt (cts b.l) < wgt (cts a.l) → Gd (cts b.l) → Calls Try.prog 11 #[.slice b.A b.l.length b.c] W (NewJr H Q' (norm HK (cts b.l)) W))) :
    Calls Try.prog 11 #[.slice a.A a.l.length a.c] w (NewJr H Q (norm HK (cts a.l)) w) := by
  obtain ⟨i0, hi, iz, is, ib⟩ := info_parts zpInfo
  obtain ⟨i1, hi1, iz1, is1, ib1⟩ := info_parts arInfo
  have HG := Lib.hid hG
  have hw := hG.1
  have hS := gd_sml hG
  have HR := Lib.hid (hR.rl hH hQ)
  have HQ := Lib.hid hR
  have HS := Lib.hid hS
  have hln : a.l.length ≤ 200000 := by
    have := wgt_len (cts a.l)
    rw [show (cts a.l).length = a.l.length from List.length_map _] at this
    omega
  have HP := Lib.hid (fun k => Nat.le_trans (wgt_len (norm HK (cts (a.l.take k)))) (Nat.le_trans (num_norm HK _ _ _) (Nat.le_trans (wgt_take_le a.l k) hw)))
  clear hR hS hG
  obtain ⟨A, c, l⟩ := a
  simp only at HR HQ KJ HP HS HG hw hln ⊢
  go_enter Try.func11, Try.ntmps11
  go_wp2
  go_loopw [3, 4] (fun v i wr => ∃ (k : Nat) (L : List Zt) (A2 : Option Addr) (c2 : Nat), k ≤ l.length ∧ i = .int .i64 (k : Int) ∧ v = .slice A2 L.length c2 ∧ Hid (cts L = norm HK (cts (l.take k))) ∧ Hid (wr.ownsRow w.heap.size 38 12 (.slice A2 L.length c2) L.length (zsC L)) ∧ Hid (∀ y ∈ L, RzQ wr H (fun b => Q b ∨ Oth w.heap.size wr (.slice A2 L.length c2) b) y) ∧ Below w.heap.size w wr) (fun _ i _ => l.length - (intOf i).toNat)
  case atStart => exact ⟨0, [], none, 0, by omega, rfl, rfl, Lib.hid rfl, Lib.hid ⟨rfl, .inl ⟨rfl, rfl⟩⟩, Lib.hid (by simp), Below.refl _ _⟩
  case round =>
    obtain ⟨k, L, A2, c2, hk, rfl, rfl, HC, HO, HE, hbl⟩ := hrel
    by_cases hlt : k < l.length
    · obtain ⟨ad, z, hA, had, hz, hm, d0, d1, d2, d3, d4, d5, d6, d7, d8, d9, d10, d11⟩ := (HR.out.1.blw oneB_Z hbl (Nat.le_refl _)).at_ hlt
      simp only at hA
      subst hA
      simp only at hz hm
      have e12 : (k : Int) < (l.length : Int) := by omega
      have HT : Hid (norm HK (cts (l.take (k + 1))) = app HK (norm HK (cts (l.take k))) (norm1 HK z.ct)) := Lib.hid (norm_take hz)
      have HM := Lib.hid hm
      have HZI := Lib.hid hz
      clear hz hm
      have hbz := boxZ_one wr z
      have hll : L.length ≤ 200000 := by
        have h1 := HP.out k
        have h2 := congrArg List.length HC.out
        rw [show (cts L).length = L.length from List.length_map _] at h2
        omega
      by_cases hk3 : z.k = 3
      · obtain ⟨wo, hwo⟩ : ∃ wo, wo = wr := ⟨wr, rfl⟩
        subst hwo
        rw [hk3] at d0
        have HBX : Hid (BF (wo.alloc (zB z)) wo.heap.size z) := Lib.hid ⟨hbz, fun i hi => by simp [go_sem]⟩
        have HX : Hid (St w H Q A2 c2 L wo) := Lib.hid ⟨HO.out, HE.out, hbl⟩
        have hsz := hbl.size
        have HZ := HQ.out.2 z HM.out
        have hcc : HK.c z.ct.h = true := by rw [Zt.ct_h]; exact decide_eq_true hk3
        have HCC := Lib.hid hcc
        have HKB : Hid (∀ b ∈ z.br.l, ∀ W, Below w.heap.size w W → Calls Try.prog 11 #[.slice b.A b.l.length b.c] W (NewJr H Q (norm HK (cts b.l)) W)) := Lib.hid fun b hb W hW => by
          have hbm : cts b.l ∈ z.ct.br := by rw [Zt.ct_br]; exact List.mem_map_of_mem hb
          have hzm : z.ct ∈ cts l := List.mem_map_of_mem HM.out
          obtain ⟨h1, h2⟩ := wgt_br hzm hcc hbm
          exact KJ.out b W Q hW (fun p hp => Nat.lt_of_lt_of_le (hQ p hp) hW.size) ((HZ.br hb).keep (hW.mono hH) fun p hp => hW.cell (hQ _ hp)) (by omega) (gd_br HG.out hzm hcc hbm)
        have HBR := Lib.hid (fun W (hb : Below w.heap.size w W) => HZ.of.2.2.2.1.keep (W := W) oneB_A fun p hp => hb.cell (hQ _ hp))
        have hbn : z.br.l.length ≤ 200000 := (HS.out.2 z HM.out).of.2.2.1
        have hlow := hbl
        clear hbz HO HE hbl HZ hcc
        go_wp2
        go_loopw [6, 7] (fun v j W => ∃ (m : Nat) (M : List (Rw Zt)) (A6 : Option Addr) (c6 : Nat), m ≤ z.br.l.length ∧ j = .int .i64 (m : Int) ∧ v = .slice A6 m c6 ∧ M.length = m ∧ Hid ((M.map fun b => cts b.l) = (z.br.l.take m).map fun b => norm HK (cts b.l)) ∧ Hid (W.ownsRow (wo.heap.size + 1) 22 1 (.slice A6 m c6) m (aC M)) ∧ Hid (∀ b ∈ M, RlQ W H (fun p => Q p ∨ Oth (wo.heap.size + 1) W (.slice A6 m c6) p) b) ∧ Below (wo.alloc (zB z)).heap.size (wo.alloc (zB z)) W) (fun _ j _ => z.br.l.length - (intOf j).toNat)
        case atStart => exact ⟨0, [], none, 0, by omega, rfl, rfl, rfl, Lib.hid rfl, Lib.hid ⟨rfl, .inl ⟨rfl, rfl⟩⟩, Lib.hid (by simp), by rw [← hk3]; exact Below.refl _ _⟩
        case round =>
          obtain ⟨m, M, A6, c6, hm, rfl, rfl, hML, HMC, HMO, HME, hbW⟩ := hrel
          have hxb : Below wo.heap.size wo wr := bel_step (bel_box (w := wo) (zB z)) hbW
          obtain ⟨hxo, hxe, _⟩ := HX.out.keep hH hQ hxb
          have HXO := Lib.hid hxo
          have HXE := Lib.hid hxe
          have hb9 : Below w.heap.size w wr := hlow.trans (hxb.mono hsz)
          clear hxo hxe d0 d1 d2 d3 d4 d5 d6 d7 d8 d9 d10 d11
          obtain ⟨m0, m1, m2, m3, m4, m5, m6, m7, m8, m9, m10, m11⟩ := (HBX.out.keep hbW).bx
          by_cases hlt2 : m < z.br.l.length
          · obtain ⟨ad2, b, hA2, had2, hb, hbm, c3⟩ := ((HBR.out wr hb9).rd (B := w.heap.size) hQ).at_ hlt2
            have KB := Lib.hid (HKB.out b hbm wr hb9)
            have HTB : Hid ((z.br.l.take (m + 1)).map (fun b => norm HK (cts b.l)) = (z.br.l.take m).map (fun b => norm HK (cts b.l)) ++ [norm HK (cts b.l)]) := Lib.hid (by rw [take_succ_of hb, List.map_append]; rfl)
            rw [hA2] at m11
            rw [Nat.mul_one] at c3
            have c4 : wr.cell? (ad2.add m) = some (.slice b.A b.l.length b.c) := c3
            clear hb hbm hA2 c3
            have e13 : (m : Int) < (z.br.l.length : Int) := by omega
            have hszW : wo.heap.size + 1 ≤ wr.heap.size := by have := hbW.size; rwa [World.size_alloc] at this
            go_wp2_with (first | (go_at_call 11; (with_reducible refine (KB.out).mono ?_); rintro e w6 ⟨A7, c7, L7, rfl, hLc, hLo, hLr, hb6⟩) | (at_builtin; (refine wpList_append_own_at _ rfl _ _ 36 rfl (wo.heap.size + 1) 22 i1 (.slice none 0 0) 1 24 Try.underlying36 hi1 iz1 is1 ib1 rfl (by decide) _ m (aC M) rfl (own_keepZ HMO.out ?_) ⟨w6.heap.size, 0, none⟩ 1 1 [.slice A7 L7.length c7] rfl rfl (rowA w6 _ _) (a_one ⟨A7, c7, L7⟩) (by unfold maxLen; omega) (by omega) ?_ ?_; (focus ((repeat (first | (with_reducible exact Below.refl _ _) | (with_reducible assumption) | (with_reducible exact bel_box _) | (with_reducible refine bel_step ?_ (by with_reducible assumption)) | (with_reducible refine Below.drew ?_) | (with_reducible refine below_drewN ?_ _) | (with_reducible refine bel_alloc ?_ _))); done)); (focus (have h1 := hb6.size; simp; omega)); intro v3 w3 hown3 hgrow3 _ hat3; obtain ⟨A3, c3', rfl⟩ := own_formZ hown3)))
            obtain ⟨s1, s2, s3, s4, s5⟩ := oth_step (B := wo.heap.size + 1) hszW HMO.out hb6 hgrow3 hat3
            have e1 : aC M ++ [Value.slice A7 L7.length c7] = aC (M ++ [⟨A7, c7, L7⟩]) := by simp [aC]
            have e2 : (M ++ [(⟨A7, c7, L7⟩ : Rw Zt)]).length = m + 1 := by simp [hML]
            rw [e1] at hown3
            have hgo := Lib.hid hown3
            have hlw : Below w.heap.size wr w3 := s5.mono (by omega)
            refine ⟨⟨m + 1, M ++ [⟨A7, c7, L7⟩], A3, c3', by omega, by congr 1, rfl, e2, Lib.hid (by rw [List.map_append, HMC.out, HTB.out, ← hLc]; rfl), Lib.hid hown3, Lib.hid fun y hy => ?_, hbW.trans (s5.mono (by rw [World.size_alloc]; omega))⟩, by simp [intOf]; omega⟩
            rcases List.mem_append.1 hy with hy | hy
            · exact ((HME.out y hy).keep (hlw.mono hH) fun p hp => hp.elim (fun h => hlw.cell (hQ _ h)) (s2 p)).mono (Nat.le_refl _) fun b hb => hb.imp id (s1 b)
            · obtain rfl := List.mem_singleton.1 hy
              have h6 := hb6.size
              have hl7 : L7.length ≤ maxLen := by
                rcases hLo.2 with ⟨_, h⟩ | ⟨_, _, _, _, _, _, h1, h2, _⟩
                · rw [h]; exact Nat.zero_le _
                · exact Nat.le_trans h1 h2
              have h67 : Below w.heap.size w6 w3 := ((bel_box (w := w6) _).mono (by omega)).grown hgrow3 (by rw [World.size_alloc]; omega) fun k hk => by have := (HMO.out.lt k hk).1; omega
              exact ⟨((own_rdq hLo hl7).keep oneB_Z fun p hp => s4 p ⟨hp.1, hp.2.1⟩).mono fun b hb => .inr (s3 b ⟨hb.1, hb.2.1⟩), fun t ht => ((hLr t ht).keep (h67.mono hH) fun p hp => hp.elim (fun h => h67.cell (hQ _ h)) fun h => s4 p ⟨h.1, h.2.1⟩).mono (Nat.le_refl _) fun b hb => hb.imp id fun h => s3 b ⟨h.1, h.2.1⟩⟩
          · have hmz : m = z.br.l.length := by omega
            have hMC : (M.map fun b => cts b.l) = z.br.l.map fun b => norm HK (cts b.l) := by rw [HMC.out, hmz, List.take_length]
            have hBF := HBX.out.keep hbW
            have f11 : wr.frozen? ⟨wo.heap.size, 11, none⟩ = false := hBF.fr 11 (by decide)
            have hMl : M.length ≤ 200000 := by omega
            have hzm : z.ct ∈ cts l := List.mem_map_of_mem HM.out
            have hbM : ∀ b ∈ M, b.l.length ≤ 200000 ∧ ∃ b' ∈ z.ct.br, cts b.l = norm HK b' := fun b hb => by
              have h1 : cts b.l ∈ z.br.l.map fun b => norm HK (cts b.l) := by rw [← hMC]; exact List.mem_map_of_mem hb
              obtain ⟨b', hb', h2⟩ := List.mem_map.1 h1
              have h3 : cts b'.l ∈ z.ct.br := by rw [Zt.ct_br]; exact List.mem_map_of_mem hb'
              have h4 := (gd_norm (gd_br HG.out hzm HCC.out h3)).1
              have h5 := wgt_len (norm HK (cts b'.l))
              rw [h2, show (cts b.l).length = b.l.length from List.length_map _] at h5
              rw [h2] at h4
              exact ⟨by omega, cts b'.l, h3, h2.symm⟩
            have hN1 : norm1 HK z.ct = if empZ M then [] else [(z.wb ⟨A6, c6, M⟩).ct] := by rw [norm1_case hk3, ← hMC, wb_ct, emp_all]
            have hszW : wo.heap.size + 1 ≤ wr.heap.size := by have := hbW.size; rwa [World.size_alloc] at this
            obtain ⟨W1, hW1⟩ : ∃ W1, wr.setCell ⟨wo.heap.size, 11, none⟩ (.slice A6 m c6) = W1 := ⟨_, rfl⟩
            have hz1 : W1.heap.size = wr.heap.size := by rw [← hW1]; simp [World.setCell]
            have hw1 : Below wo.heap.size wo W1 := by rw [← hW1]; exact hxb.setCell (Nat.le_refl _) _
            have hr1 : Below H wr W1 := by rw [← hW1]; exact (Below.refl _ _).setCell (Nat.le_trans hH hsz) _
            have hk1 : ∀ p : Addr, p.block ≠ wo.heap.size → W1.cell? p = wr.cell? p := fun p hp => by rw [← hW1]; exact World.cell?_setCell_other _ _ _ _ (fun e => hp (by rw [← e]))
            have hst := HX.out.keep hH hQ hw1
            have hoM : W1.ownsRow (wo.heap.size + 1) 22 1 (.slice A6 M.length c6) M.length (aC M) := by rw [← hW1, hML]; exact ownsRow_setCell_below HMO.out (a := ⟨wo.heap.size, 11, none⟩) (Nat.lt_succ_self _) _
            have hoE : ∀ b ∈ M, RlQ W1 H (fun p => Q p ∨ (wo.heap.size + 1 ≤ p ∧ p < W1.heap.size)) b := fun b hb => ((HME.out b hb).keep hr1 fun p hp => hk1 p (by
              rcases hp with hp | hp
              · have := hQ _ hp; omega
              · have := hp.1; omega)).mono (Nat.le_refl _) fun p hp => hp.imp id fun h => ⟨h.1, by rw [hz1]; exact h.2.1⟩
            have hzq : RzQ W1 H Q z := ((HQ.out.2 z HM.out).keep (hb9.mono hH) fun p hp => hb9.cell (hQ _ hp)).keep hr1 fun p hp => hk1 p (by have := hQ _ hp; omega)
            have hol : ∀ p, (.slice A2 L.length c2 : Value).ownBlock = some p → p < wo.heap.size := fun p hp => (HX.out.1.lt p hp).2
            have hsn : RzQ W1 H (fun b => Q b ∨ Oth w.heap.size W1 (.slice A2 L.length c2) b) (z.wb ⟨A6, c6, M⟩) := case_new hzq hoM (by unfold maxLen; omega) hoE (fun p hp => hp.imp id fun h => ⟨by omega, h.2, fun e => by have := hol p e; omega⟩) fun p h1 h2 => .inr ⟨by omega, h2, fun e => by have := hol p e; omega⟩
            have hBF1 : BF W1 wo.heap.size (z.wb ⟨A6, c6, M⟩) := by
              rw [← hW1]
              refine hBF.set [(11, .slice A6 m c6)] (by intro p hp; simp at hp; subst hp; exact (by decide : (11 : Nat) < 12)) fun i hi => ?_
              rcases i with _ | _ | _ | _ | _ | _ | _ | _ | _ | _ | _ | _ | i
              all_goals first | rfl | omega | skip
              show some (Value.slice A6 m c6) = some (.slice A6 M.length c6)
              rw [hML]
            have HMZ := Lib.hid hmz
            clear hmz
            have hS3 : (z.wb ⟨A6, c6, M⟩).k = 3 := hk3
            have hSb : (z.wb ⟨A6, c6, M⟩).br = ⟨A6, c6, M⟩ := rfl
            have hSc : (z.wb ⟨A6, c6, M⟩).ct = .mk z.hd (M.map fun b => cts b.l) := wb_ct _ _
            obtain ⟨S, hS⟩ : ∃ S, z.wb ⟨A6, c6, M⟩ = S := ⟨_, rfl⟩
            rw [hS] at hN1 hS3 hSb hsn hBF1 hSc
            have HSC := Lib.hid hSc
            have KE := rempty_any S W1 (by rw [hSb]; exact (own_rda hoM (by unfold maxLen; omega)).rd fun b hb => hb.2.1) (by rw [hSb]; exact hMl) fun b hb => by rw [hSb] at hb; have := (hbM b hb).1; omega
            obtain ⟨x0, x1, x2, x3, x4, x5, x6, x7, x8, x9, x10, x11⟩ := hBF1.bx
            have HSB := Lib.hid hSb
            have HS3 := Lib.hid hS3
            clear hS hS3 hSc
            have HN1 := Lib.hid hN1
            have HBM := Lib.hid hbM
            have HST := Lib.hid hst
            have HOM := Lib.hid hoM
            have HOE := Lib.hid hoE
            have HSN := Lib.hid hsn
            have HBF1 := Lib.hid hBF1
            have HOL := Lib.hid hol
            have hlw : Below w.heap.size w W1 := hst.2.2
            clear hN1 hbM hst hoM hoE hsn hBF1 hBF hMC hol hzq hk1 hr1 HXO HXE HMO HME HMC
            cases hem : empZ M with
            | true =>
              have hem2 : empZ S.br.l = true := by rw [HSB.out]; exact hem
              rw [hem2] at KE
              rw [hem] at HN1
              have KE2 := Lib.hid KE
              clear KE hem hem2 hSb
              go_wp2_with (go_at_call 23; (with_reducible refine (KE2.out).mono ?_); rintro e w4 ⟨rfl, hb4⟩)
              go_roundw
              case rel =>
                obtain ⟨q1, q2, q3⟩ := HST.out.keep hH hQ hb4
                exact ⟨k + 1, L, A2, c2, by omega, by go_num, rfl, Lib.hid (by rw [HT.out, HN1.out, HC.out]; exact (app_nil HK _).symm), Lib.hid q1, Lib.hid q2, q3⟩
              case measure => simp [intOf]; omega
            | false =>
              have hem2 : empZ S.br.l = false := by rw [HSB.out]; exact hem
              rw [hem2] at KE
              rw [hem] at HN1
              have KE2 := Lib.hid KE
              have hN2 : norm1 HK z.ct = [S.ct] := HN1.out.trans (if_neg (by decide))
              have HEM := Lib.hid hem
              clear KE HN1 hem hem2 hSb
              go_wp2_with (go_at_call 23; (with_reducible refine (KE2.out).mono ?_); rintro e w4 ⟨rfl, hb4⟩)
              clear KE2 m0 m1 m2 m3 m4 m5 m6 m7 m8 m9 m10 m11 f11 x0 x1 x2 x3 x4 x5 x6 x7 x8 x9 x10 x11
              have hst4 := HST.out.keep hH hQ hb4
              have hsn4 := rz_oth HSN.out (Nat.le_trans hH hlw.size) (fun b hb => Nat.lt_of_lt_of_le (hQ b hb) hlw.size) hb4
              have hbf4 := HBF1.out.keep hb4
              have hlw4 : Below w.heap.size w w4 := hst4.2.2
              obtain ⟨n0, n1, n2, n3, n4, n5, n6, n7, n8, n9, n10, n11⟩ := hbf4.bx
              have b0 := cell_regrown n0
              have b1 := cell_regrown n1
              have b2 := cell_regrown n2
              have b3 := cell_regrown n3
              have b4 := cell_regrown n4
              have b5 := cell_regrown n5
              have b6 := cell_regrown n6
              have b7 := cell_regrown n7
              have b8 := cell_regrown n8
              have b9 := cell_regrown n9
              have b10 := cell_regrown n10
              have b11 := cell_regrown n11
              by_cases hL : L = []
              · subst hL
                have HT2 : Hid (norm HK (cts (l.take (k + 1))) = [S.ct]) := Lib.hid (by rw [HT.out, hN2, ← HC.out]; exact app_first _)
                rw [List.length_nil]
                refine wp_region_quiet_below (by kernel_rfl) (by kernel_rfl) ?_
                repeat (go_big_quiet_step (fail))
                refine wpQuiet_nil ?_
                intro _ hw'
                obtain ⟨⟨dq, osq⟩, hw''⟩ := hw'
                subst hw''
                have hb45 : Below w4.heap.size w4 (grow (redrawn w4 dq) osq) := below_regrown w4 dq osq
                generalize grow (redrawn w4 dq) osq = w5 at hb45 ⊢
                obtain ⟨hO5, hE5, hlw5⟩ := hst4.keep hH hQ hb45
                have HSN5 := rz_oth hsn4 (Nat.le_trans hH hlw4.size) (fun b hb => Nat.lt_of_lt_of_le (hQ b hb) hlw4.size) hb45
                obtain ⟨g0, g1, g2, g3, g4, g5, g6, g7, g8, g9, g10, g11⟩ := (hbf4.keep hb45).bx
                clear n0 n1 n2 n3 n4 n5 n6 n7 n8 n9 n10 n11 b0 b1 b2 b3 b4 b5 b6 b7 b8 b9 b10 b11
                have hb5w : Below wo.heap.size wo w5 := (hw1.trans (hb4.mono hw1.size)).trans (hb45.mono (Nat.le_trans hw1.size hb4.size))
                have hrz := rowZ w5 S 38
                go_wp2_with (at_builtin; (refine wpList_append_own_at _ rfl _ _ 22 rfl w.heap.size 38 i0 z0 12 176 Try.underlying22 hi iz is ib rfl (by decide) _ 0 (zsC ([] : List Zt)) rfl (own_keepZ hO5 ?_) ⟨w5.heap.size, 0, none⟩ 1 1 (zCs S) rfl rfl hrz (z_one S) (by unfold maxLen; omega) (by omega) ?_ ?_; (focus ((repeat (first | (with_reducible exact Below.refl _ _) | (with_reducible assumption) | (with_reducible exact bel_box _) | (with_reducible refine bel_step ?_ (by with_reducible assumption)) | (with_reducible refine Below.drew ?_) | (with_reducible refine below_drewN ?_ _) | (with_reducible refine bel_alloc ?_ _))); done)); (focus (have h2 := hlw5.size; simp; omega)); intro v3 w3 hown3 hgrow3 _ hat3; obtain ⟨A3, c3', rfl⟩ := own_formZ hown3))
                obtain ⟨s1, s2, _, _, s5⟩ := oth_step (B := w.heap.size) (w5 := w5) hlw5.size hO5 (Below.refl _ _) hgrow3 hat3
                have e1 : zsC ([] : List Zt) ++ zCs S = zsC (([] : List Zt) ++ [S]) := by rw [zsC_app, zsC_one]
                have e2 : (([] : List Zt) ++ [S]).length = 0 + 1 := by simp []
                rw [e1] at hown3
                go_roundw
                case rel =>
                  refine ⟨k + 1, ([] : List Zt) ++ [S], A3, c3', by omega, by go_num, by rw [e2], Lib.hid (by rw [HT2.out]; simp [cts]), Lib.hid (by rw [e2]; exact hown3), Lib.hid fun y hy => ?_, hlw5.trans s5⟩
                  rw [e2]
                  rcases List.mem_append.1 hy with hy | hy
                  · exact ((hE5 y hy).keep (s5.mono hH) fun p hp => hp.elim (fun h => s5.cell (hQ _ h)) (s2 p)).mono (Nat.le_refl _) fun b hb => hb.imp id (s1 b)
                  · obtain rfl := List.mem_singleton.1 hy
                    exact (HSN5.keep (s5.mono hH) fun p hp => hp.elim (fun h => s5.cell (hQ _ h)) (s2 p)).mono (Nat.le_refl _) fun b hb => hb.imp id (s1 b)
                case measure => simp [intOf]; omega
              · obtain ⟨Lp, z1, hLe⟩ : ∃ Lp z1, L = Lp ++ [z1] := by
                  rcases List.eq_nil_or_concat L with h | ⟨x, y, h⟩
                  · exact absurd h hL
                  · exact ⟨x, y, by rw [h, List.concat_eq_append]⟩
                have hLl : L.length = Lp.length + 1 := by rw [hLe]; simp
                have hz1m : z1 ∈ L := by rw [hLe]; simp
                have hz1a : L[Lp.length]? = some z1 := by rw [hLe]; simp
                have hz1n : z1.ct ∈ norm HK (cts (l.take k)) := by rw [← HC.out]; exact List.mem_map_of_mem hz1m
                have hsm1 : SmZ 200000 z1 := smZ_ct z1 ((gd_norm (gd_take HG.out k)).2 z1.ct hz1n).1
                obtain ⟨g, rfl⟩ := own_g hst4.1 (by omega)
                obtain ⟨ad4, y4, hA4, had4, hy4, _, o0, o1, o2, o3, o4, o5, o6, o7, o8, o9, o10, o11⟩ := ((own_rdq hst4.1 (by unfold maxLen; omega)).rd (B := w4.heap.size) fun b hb => hb.2.1).at_ (i := Lp.length) (by simp only; omega)
                simp only at hA4 hy4
                obtain rfl := Option.some.inj hA4
                obtain rfl : z1 = y4 := Option.some.inj (hz1a.symm.trans hy4)
                have hle4 : S.br.l.length ≤ 9223372036854775807 := by rw [HSB.out]; show M.length ≤ _; omega
                have KM := fun dd os => Calls.regrown_of (rmates_any z1 S (grow (redrawn w4 dd) os) (((hst4.2.1 z1 hz1m).rz (Nat.le_trans hH hlw4.size) fun b hb => hb.elim (fun h => Nat.lt_of_lt_of_le (hQ _ h) hlw4.size) fun h => h.2.1).blw (below_regrown w4 dd os) (below_regrown w4 dd os).size) hsm1 hle4)
                have hmm : mateR z1 S = mate HK z1.ct S.ct := mateR_eq HS3.out
                simp only [addZ] at o0 o1 o2 o3 o4 o5 o6 o7 o8 o9 o10 o11
                have a0 := cell_regrown o0
                have a1 := cell_regrown o1
                have a2 := cell_regrown o2
                have a3 := cell_regrown o3
                have a4 := cell_regrown o4
                have a5 := cell_regrown o5
                have a6 := cell_regrown o6
                have a7 := cell_regrown o7
                have a8 := cell_regrown o8
                have a9 := cell_regrown o9
                have a10 := cell_regrown o10
                have a11 := cell_regrown o11
                have e31 : ((L.length : Nat) : Int) = (Lp.length : Int) + 1 := by omega
                have e33 : (((Lp.length : Int) + 1) == 0) = false := by rw [beq_eq_false_iff_ne]; omega
                clear o0 o1 o2 o3 o4 o5 o6 o7 o8 o9 o10 o11 n0 n1 n2 n3 n4 n5 n6 n7 n8 n9 n10 n11 hy4 hA4
                have HLE := Lib.hid hLe
                have HLL := Lib.hid hLl
                clear hLe hz1a hL
                cases hmt : mateR z1 S with
                | false =>
                  rw [hmt] at hmm
                  have HT2 : Hid (norm HK (cts (l.take (k + 1))) = cts L ++ [S.ct]) := Lib.hid (by rw [HT.out, hN2, ← HC.out, HLE.out, show cts (Lp ++ [z1]) = cts Lp ++ [z1.ct] by simp [cts]]; exact app_apart hmm.symm)
                  simp only [hmt] at KM
                  clear hmm hN2 hmt
                  refine wp_region_quiet_below (by kernel_rfl) (by kernel_rfl) ?_
                  repeat (go_big_quiet_step (with_reducible exact KM _ _))
                  refine wpQuiet_nil ?_
                  intro _ hw'
                  obtain ⟨⟨dq, osq⟩, hw''⟩ := hw'
                  subst hw''
                  have hb45 : Below w4.heap.size w4 (grow (redrawn w4 dq) osq) := below_regrown w4 dq osq
                  generalize grow (redrawn w4 dq) osq = w5 at hb45 ⊢
                  obtain ⟨hO5, hE5, hlw5⟩ := hst4.keep hH hQ hb45
                  have HSN5 := rz_oth hsn4 (Nat.le_trans hH hlw4.size) (fun b hb => Nat.lt_of_lt_of_le (hQ b hb) hlw4.size) hb45
                  obtain ⟨g0, g1, g2, g3, g4, g5, g6, g7, g8, g9, g10, g11⟩ := (hbf4.keep hb45).bx
                  clear b0 b1 b2 b3 b4 b5 b6 b7 b8 b9 b10 b11 a0 a1 a2 a3 a4 a5 a6 a7 a8 a9 a10 a11 KM
                  have hrz := rowZ w5 S 38
                  go_wp2_with (at_builtin; (refine wpList_append_own_at _ rfl _ _ 22 rfl w.heap.size 38 i0 z0 12 176 Try.underlying22 hi iz is ib rfl (by decide) _ L.length (zsC L) rfl (own_keepZ hO5 ?_) ⟨w5.heap.size, 0, none⟩ 1 1 (zCs S) rfl rfl hrz (z_one S) (by unfold maxLen; omega) (by omega) ?_ ?_; (focus ((repeat (first | (with_reducible exact Below.refl _ _) | (with_reducible assumption) | (with_reducible exact bel_box _) | (with_reducible refine bel_step ?_ (by with_reducible assumption)) | (with_reducible refine Below.drew ?_) | (with_reducible refine below_drewN ?_ _) | (with_reducible refine bel_alloc ?_ _))); done)); (focus (have h2 := hlw5.size; simp; omega)); intro v3 w3 hown3 hgrow3 _ hat3; obtain ⟨A3, c3', rfl⟩ := own_formZ hown3))
                  obtain ⟨s1, s2, _, _, s5⟩ := oth_step (B := w.heap.size) (w5 := w5) hlw5.size hO5 (Below.refl _ _) hgrow3 hat3
                  have e1 : zsC L ++ zCs S = zsC (L ++ [S]) := by rw [zsC_app, zsC_one]
                  have e2 : (L ++ [S]).length = L.length + 1 := by simp
                  rw [e1] at hown3
                  go_roundw
                  case rel =>
                    refine ⟨k + 1, L ++ [S], A3, c3', by omega, by go_num, by rw [e2, HLL.out], Lib.hid (by rw [HT2.out, cts, List.map_append]; rfl), Lib.hid (by rw [e2]; exact hown3), Lib.hid fun y hy => ?_, hlw5.trans s5⟩
                    rw [e2]
                    rcases List.mem_append.1 hy with hy | hy
                    · exact ((hE5 y hy).keep (s5.mono hH) fun p hp => hp.elim (fun h => s5.cell (hQ _ h)) (s2 p)).mono (Nat.le_refl _) fun b hb => hb.imp id (s1 b)
                    · obtain rfl := List.mem_singleton.1 hy
                      exact (HSN5.keep (s5.mono hH) fun p hp => hp.elim (fun h => s5.cell (hQ _ h)) (s2 p)).mono (Nat.le_refl _) fun b hb => hb.imp id (s1 b)
                  case measure => simp [intOf]; omega
                | true =>
                  rw [hmt] at hmm
                  have hmp := mate_parts HK hmm.symm
                  have hfx : ∀ y ∈ S.ct.br, norm HK y = y := fun y hy => by
                    rw [HSC.out] at hy
                    obtain ⟨b, hb, rfl⟩ := List.mem_map.1 hy
                    obtain ⟨_, b', _, e⟩ := HBM.out b hb
                    rw [e, norm_norm]
                  have hbo := both_is hz1n hmm.symm hfx
                  have HT2 : Hid (norm HK (cts (l.take (k + 1))) = cts Lp ++ [.mk z1.ct.h (List.zipWith (fun x y => norm HK (x ++ y)) z1.ct.br S.ct.br)]) := Lib.hid (by rw [HT.out, hN2, ← HC.out, HLE.out, show cts (Lp ++ [z1]) = cts Lp ++ [z1.ct] by simp [cts], app_both hmm.symm, hbo])
                  simp only [hmt] at KM
                  have hMpos : 0 < M.length := by
                    rcases Nat.eq_zero_or_pos M.length with h | h
                    · rw [List.length_eq_zero_iff] at h
                      have := HEM.out
                      rw [h] at this
                      cases this
                    · exact h
                  obtain ⟨g6, rfl⟩ := own_g HOM.out hMpos
                  have hSl : S.ct.br = M.map fun b => cts b.l := by rw [HSC.out]; rfl
                  have hzl : z1.br.l.length = m := by
                    have h1 := hmp.2.2.2.1
                    rw [hSl, Zt.ct_br, List.length_map, List.length_map, hML] at h1
                    exact h1
                  have HMP := Lib.hid hmp.1
                  have HSL := Lib.hid hSl
                  have HZL := Lib.hid hzl
                  clear hmm hN2 hmt hmp hfx hbo hMpos hSl hzl
                  refine wp_region_quiet_below (by kernel_rfl) (by kernel_rfl) ?_
                  repeat (go_big_quiet_step (with_reducible exact KM _ _))
                  refine wpQuiet_nil ?_
                  intro _ hw'
                  obtain ⟨⟨dq, osq⟩, hw''⟩ := hw'
                  subst hw''
                  have hb45 : Below w4.heap.size w4 (grow (redrawn w4 dq) osq) := below_regrown w4 dq osq
                  generalize grow (redrawn w4 dq) osq = w5 at hb45 ⊢
                  have hst5 := hst4.keep hH hQ hb45
                  have hlw5 : Below w.heap.size w w5 := hst5.2.2
                  have hsn5 := rz_oth hsn4 (Nat.le_trans hH hlw4.size) (fun b hb => Nat.lt_of_lt_of_le (hQ b hb) hlw4.size) hb45
                  obtain ⟨ad4, y4, hA4, had4, hy4, _, o0, o1, o2, o3, o4, o5, o6, o7, o8, o9, o10, o11⟩ := ((own_rdq hst5.1 (by unfold maxLen; omega)).rd (B := w5.heap.size) fun b hb => hb.2.1).at_ (i := Lp.length) (by simp only; omega)
                  simp only at hA4 hy4
                  obtain rfl := Option.some.inj hA4
                  obtain rfl : z1 = y4 := Option.some.inj ((by rw [HLE.out]; simp : L[Lp.length]? = some z1).symm.trans hy4)
                  simp only [addZ] at o0 o1 o2 o3 o4 o5 o6 o7 o8 o9 o10 o11
                  have hgl : w.heap.size ≤ g ∧ g < w5.heap.size := hst5.1.lt g rfl
                  have HX5 := Lib.hid (hst5.2.1 z1 hz1m)
                  have HY5 := Lib.hid hsn5
                  have HST5 := Lib.hid hst5
                  have HB2 : Hid (BF (w5.alloc (zB z1)) w5.heap.size z1) := Lib.hid ⟨boxZ_one w5 z1, fun i hi => by simp [go_sem]⟩
                  have HM1 := Lib.hid hz1m
                  have HN1 := Lib.hid hz1n
                  have HB5 : Hid (Below wo.heap.size wo w5) := Lib.hid ((hw1.trans (hb4.mono hw1.size)).trans (hb45.mono (Nat.le_trans hw1.size hb4.size)))
                  have hmb : m ≤ 200000 := by omega
                  clear hst4 hsn4 hst5 hsn5 hz1m hz1n KM hbf4 hsm1 hle4 hA4 hy4 b0 b1 b2 b3 b4 b5 b6 b7 b8 b9 b10 b11 a0 a1 a2 a3 a4 a5 a6 a7 a8 a9 a10 a11
                  go_wp2
                  go_loopw [9, 10] (fun v j W => ∃ (q : Nat) (X : List (Rw Zt)) (A8 : Option Addr) (c8 : Nat), q ≤ m ∧ j = .int .i64 (q : Int) ∧ v = .slice A8 q c8 ∧ X.length = q ∧ Hid ((X.map fun b => cts b.l) = List.zipWith (fun x y => norm HK (x ++ y)) (z1.ct.br.take q) (S.ct.br.take q)) ∧ Hid (W.ownsRow (w5.heap.size + 1) 22 1 (.slice A8 q c8) q (aC X)) ∧ Hid (∀ b ∈ X, RlQ W H (fun p => Q p ∨ Oth w.heap.size w5 (.slice (some ⟨g, 0, none⟩) L.length c2) p ∨ Oth (w5.heap.size + 1) W (.slice A8 q c8) p) b) ∧ Below (w5.alloc (zB z1)).heap.size (w5.alloc (zB z1)) W) (fun _ j _ => m - (intOf j).toNat)
                  case atStart => exact ⟨0, [], none, 0, by omega, rfl, rfl, rfl, Lib.hid rfl, Lib.hid ⟨rfl, .inl ⟨rfl, rfl⟩⟩, Lib.hid (by simp), Below.refl _ _⟩
                  case round =>
                    obtain ⟨q, X, A8, c8, hq, rfl, rfl, hXL, HXC, HXO8, HXE8, hbq⟩ := hrel
                    have hq5 : Below w5.heap.size w5 wr := bel_step (bel_box (w := w5) (zB z1)) hbq
                    clear o0 o1 o2 o3 o4 o5 o6 o7 o8 o9 o10 o11
                    obtain ⟨r0, r1, r2, r3, r4, r5, r6, r7, r8, r9, r10, r11⟩ := (HB2.out.keep hbq).bx
                    by_cases hlt3 : q < m
                    · have hl5 := hlw5.size
                      have hsz5 : w5.heap.size + 1 ≤ wr.heap.size := by have := hbq.size; rwa [World.size_alloc] at this
                      have kq : ∀ W, Below wr.heap.size wr W → ∀ p : Addr, (Q p.block ∨ Oth w.heap.size w5 (.slice (some ⟨g, 0, none⟩) L.length c2) p.block) → W.cell? p = w5.cell? p := fun W hW p hp => by
                        have hp5 : p.block < w5.heap.size := hp.elim (fun h => Nat.lt_of_lt_of_le (hQ _ h) hl5) fun h => h.2.1
                        exact (hW.cell (by omega)).trans (hq5.cell hp5)
                      have hlt5 : ∀ b, (Q b ∨ Oth w.heap.size w5 (.slice (some ⟨g, 0, none⟩) L.length c2) b) → b < w5.heap.size := fun b hp => hp.elim (fun h => Nat.lt_of_lt_of_le (hQ _ h) hl5) fun h => h.2.1
                      obtain ⟨ad5, x, hA5, had5, hx, hxm, x5⟩ := ((HX5.out.of.2.2.2.1.keep oneB_A (kq wr (Below.refl _ _))).rd hlt5).at_ (i := q) (by rw [HZL.out]; exact hlt3)
                      have hsb := HY5.out.of.2.2.2.1.keep oneB_A (kq wr (Below.refl _ _))
                      rw [HSB.out] at hsb
                      obtain ⟨ad6, y, hA6, had6, hy, hym, y5⟩ := (hsb.rd hlt5).at_ (i := q) (by show q < M.length; omega)
                      simp only at hA6 hy hym
                      obtain rfl := Option.some.inj hA6
                      have hyS : y ∈ S.br.l := by rw [HSB.out]; exact hym
                      rw [hA5] at r11
                      rw [Nat.mul_one] at x5 y5
                      rw [addZ] at y5
                      have xc : wr.cell? (ad5.add q) = some (.slice x.A x.l.length x.c) := x5
                      have yc : wr.cell? ⟨g6, q, none⟩ = some (.slice y.A y.l.length y.c) := y5
                      have hxb : z1.ct.br[q]? = some (cts x.l) := by rw [Zt.ct_br, List.getElem?_map, hx]; rfl
                      have hyb : S.ct.br[q]? = some (cts y.l) := by rw [HSL.out, List.getElem?_map, hy]; rfl
                      obtain ⟨_, b', hb', hyn⟩ := HBM.out y hym
                      obtain ⟨hgd, hwt⟩ := gd_both HG.out HZI.out HCC.out hb' HN1.out HMP.out (List.mem_of_getElem? hxb)
                      rw [← hyn] at hgd hwt
                      have hxyl : x.l.length + y.l.length ≤ 200000 := by
                        have h1 := wgt_len (cts x.l ++ cts y.l)
                        rw [List.length_append, show (cts x.l).length = x.l.length from List.length_map _, show (cts y.l).length = y.l.length from List.length_map _] at h1
                        exact Nat.le_trans h1 hgd.1
                      have HXQ := Lib.hid (HX5.out.br hxm)
                      have HYQ := Lib.hid (HY5.out.br hyS)
                      have KX : Hid (∀ W, Below wr.heap.size wr W → RdV W x.A (zsC x.l)) := Lib.hid fun W hW => zs_rdv (HXQ.out.1.keep oneB_Z (kq W hW))
                      have KY : Hid (∀ W, Below wr.heap.size wr W → RdV W y.A (zsC y.l)) := Lib.hid fun W hW => zs_rdv (HYQ.out.1.keep oneB_Z (kq W hW))
                      have hqw : Below w.heap.size w wr := hlw5.trans (hq5.mono hl5)
                      have KR : Hid (∀ (A : Option Addr) (n c : Nat) W, n = x.l.length + y.l.length → Below wr.heap.size wr W → W.ownsRow wr.heap.size 38 12 (.slice A n c) n (zsC x.l ++ zsC y.l) → Calls Try.prog 11 #[.slice A n c] W (NewJr H (fun p => (Q p ∨ Oth w.heap.size w5 (.slice (some ⟨g, 0, none⟩) L.length c2) p) ∨ (wr.heap.size ≤ p ∧ p < W.heap.size)) (norm HK (cts x.l ++ cts y.l)) W)) := Lib.hid fun A n c W hn hW hown => by
                        have hnl : n = (x.l ++ y.l).length := by rw [hn, List.length_append]
                        have hcc : cts (x.l ++ y.l) = cts x.l ++ cts y.l := by simp [cts]
                        rw [← zsC_app, hnl] at hown
                        have hws := hW.size
                        have h1 := KJ.out ⟨A, c, x.l ++ y.l⟩ W (fun p => (Q p ∨ Oth w.heap.size w5 (.slice (some ⟨g, 0, none⟩) L.length c2) p) ∨ (wr.heap.size ≤ p ∧ p < W.heap.size)) (hqw.trans (hW.mono hqw.size)) (fun p hp => hp.elim (fun h => by have := hlt5 p h; omega) fun h => h.2) ⟨(own_rdq hown (by rw [List.length_append]; unfold maxLen; omega)).mono fun b hb => .inr ⟨hb.1, hb.2.1⟩, fun t ht => by
                          rcases List.mem_append.1 ht with ht | ht
                          · exact ((HXQ.out.2 t ht).keep ((hq5.mono (Nat.le_trans hH hl5)).trans (hW.mono (by omega))) (kq W hW)).mono (Nat.le_refl _) fun b hb => .inl hb
                          · exact ((HYQ.out.2 t ht).keep ((hq5.mono (Nat.le_trans hH hl5)).trans (hW.mono (by omega))) (kq W hW)).mono (Nat.le_refl _) fun b hb => .inl hb⟩ (by rw [hcc]; exact hwt) (by rw [hcc]; exact hgd)
                        rw [hcc] at h1
                        rw [hnl]
                        exact h1
                      have HKQ := Lib.hid kq
                      have HLT5 := Lib.hid hlt5
                      have HXB := Lib.hid hxb
                      have HYB := Lib.hid hyb
                      have e41 : (q : Int) < (m : Int) := by omega
                      have e42 : (q : Int) < (z1.br.l.length : Int) := by rw [HZL.out]; omega
                      have e43 : ¬ z1.br.l = [] := by
                        intro e
                        have := HZL.out
                        rw [e] at this
                        simp at this
                        omega
                      have q11 := fun o => cell_alc o r11
                      have qx := fun o => cell_alc o xc
                      have qy := fun o => cell_alc o yc
                      clear kq hlt5 hxb hyb hwt hgd hyn hb' hsb hx hy hym hyS hxm x5 y5 hA6 hA5 KJ
                      have HIX : ((X.map fun b => cts b.l) ++ [norm HK (cts x.l ++ cts y.l)]) = List.zipWith (fun x y => norm HK (x ++ y)) (z1.ct.br.take (q + 1)) (S.ct.br.take (q + 1)) := by rw [zip_take _ HXB.out HYB.out, HXC.out]
                      have HIZ := Lib.hid HIX
                      clear HIX
                      go_upto_block 5 with fail
                      go_cut [9] from 78 to 93 (fun v W => ∃ (A10 : Option Addr) (c10 : Nat) (X' : List (Rw Zt)), v = .slice A10 (q + 1) c10 ∧ X'.length = q + 1 ∧ Hid ((X'.map fun b => cts b.l) = List.zipWith (fun x y => norm HK (x ++ y)) (z1.ct.br.take (q + 1)) (S.ct.br.take (q + 1))) ∧ Hid (W.ownsRow (w5.heap.size + 1) 22 1 (.slice A10 (q + 1) c10) (q + 1) (aC X')) ∧ Hid (∀ b ∈ X', RlQ W H (fun p => Q p ∨ Oth w.heap.size w5 (.slice (some ⟨g, 0, none⟩) L.length c2) p ∨ Oth (w5.heap.size + 1) W (.slice A10 (q + 1) c10) p) b) ∧ Hid (Below (w5.heap.size + 1) wr W))
                      case rest =>
                        obtain ⟨A10, c10, X', rfl, hX', hC', hO', hE', hB'⟩ := hcut
                        have hB'' := hB'.out
                        go_wp2
                        go_roundw
                        case rel => exact ⟨q + 1, X', A10, c10, by omega, by go_num, rfl, hX', hC', hO', hE', hbq.trans (hB''.mono (by rw [World.size_alloc]; omega))⟩
                        case measure => simp [intOf]; omega
                      case first =>
                       go_wp2
                       go_region_law (first
                        | (go_simp; go_at_call 11; (with_reducible refine (KR.out _ _ _ _ (by omega) hbb hownb).mono ?_); rintro e w6 ⟨A9, c9, L9, rfl, hLc, hLo, hLr, hb6⟩; have hb6w : Below wr.heap.size wr w6 := hbb.trans (hb6.mono hbb.size); have HLC := Lib.hid (And.intro hLc (And.intro hLo hLr)); clear hLc hLo hLr)
                        | ((refine step_append_rdZ _ rfl _ _ 22 rfl wr.heap.size 38 i0 z0 12 176 Try.underlying22 hi iz is ib rfl (by decide) _ x.l.length (zsC x.l) rfl (own_keepZ howna ?_) y.A y.l.length y.c (zsC y.l) rfl (zsC_length y.l) (KY.out _ ?_) (zs_one y.l) (by unfold maxLen; omega) (by omega) ?_ ?_); (focus ((repeat (first | (with_reducible exact Below.refl _ _) | (with_reducible assumption) | (with_reducible exact bel_box _) | (with_reducible refine bel_step ?_ (by with_reducible assumption)) | (with_reducible refine Below.drew ?_) | (with_reducible refine below_drewN ?_ _) | (with_reducible refine bel_alloc ?_ _))); done)); (focus (exact hba.trans ((by (repeat (first | (with_reducible exact Below.refl _ _) | (with_reducible assumption) | (with_reducible exact bel_box _) | (with_reducible refine bel_step ?_ (by with_reducible assumption)) | (with_reducible refine Below.drew ?_) | (with_reducible refine below_drewN ?_ _) | (with_reducible refine bel_alloc ?_ _))) : Below wa.heap.size wa _).mono hba.size))); (focus (exact hba.size)); intro vb wb hownb hgrowb _; obtain ⟨Ab, cb, rfl⟩ := own_formZ hownb; have hbb : Below wr.heap.size wr wb := hba.grown hgrowb hba.size (fun e he => (howna.lt e he).1))
                        | ((refine step_append_rdZ _ rfl _ _ 36 rfl (w5.heap.size + 1) 22 i1 (.slice none 0 0) 1 24 Try.underlying36 hi1 iz1 is1 ib1 rfl (by decide) _ q (aC X) rfl (own_keepZ HXO8.out ?_) (some ⟨w6.heap.size, 0, none⟩) 1 1 [.slice A9 L9.length c9] rfl rfl (fun _ => ⟨_, rfl, rowA w6 _ _⟩) (a_one ⟨A9, c9, L9⟩) (by unfold maxLen; omega) (by omega) ?_ ?_); (focus ((repeat (first | (with_reducible exact Below.refl _ _) | (with_reducible assumption) | (with_reducible exact bel_box _) | (with_reducible refine bel_step ?_ (by with_reducible assumption)) | (with_reducible refine Below.drew ?_) | (with_reducible refine below_drewN ?_ _) | (with_reducible refine bel_alloc ?_ _))); done)); (focus (have h1 := hb6w.size; rw [World.size_alloc]; omega)); intro v8 w8 hown8 hgrow8 hat8; obtain ⟨A10, c10, rfl⟩ := own_formZ hown8)
                        | ((refine step_append_rdZ _ rfl _ _ 22 rfl wr.heap.size 38 i0 z0 12 176 Try.underlying22 hi iz is ib rfl (by decide) _ 0 [] rfl (own_keepZ (own_empty wr _ (Nat.le_refl _)) ?_) x.A x.l.length x.c (zsC x.l) rfl (zsC_length x.l) (KX.out _ ?_) (zs_one x.l) (by unfold maxLen; omega) (by omega) ?_ ?_); (focus ((repeat (first | (with_reducible exact Below.refl _ _) | (with_reducible assumption) | (with_reducible exact bel_box _) | (with_reducible refine bel_step ?_ (by with_reducible assumption)) | (with_reducible refine Below.drew ?_) | (with_reducible refine below_drewN ?_ _) | (with_reducible refine bel_alloc ?_ _))); done)); (focus ((repeat (first | (with_reducible exact Below.refl _ _) | (with_reducible assumption) | (with_reducible exact bel_box _) | (with_reducible refine bel_step ?_ (by with_reducible assumption)) | (with_reducible refine Below.drew ?_) | (with_reducible refine below_drewN ?_ _) | (with_reducible refine bel_alloc ?_ _))); done)); (focus (simp; done)); intro va wa howna hgrowa _; rw [Nat.zero_add, List.nil_append] at howna; obtain ⟨Aa, ca, rfl⟩ := own_formZ howna; have hba : Below wr.heap.size wr wa := (by (repeat (first | (with_reducible exact Below.refl _ _) | (with_reducible assumption) | (with_reducible exact bel_box _) | (with_reducible refine bel_step ?_ (by with_reducible assumption)) | (with_reducible refine Below.drew ?_) | (with_reducible refine below_drewN ?_ _) | (with_reducible refine bel_alloc ?_ _))) : Below wr.heap.size wr _).grown hgrowa (by simp) (fun e he => by have e2 : wr.heap.size = e := Option.some.inj he; omega); have ya : wa.cell? ⟨g6, q, none⟩ = some (.slice y.A y.l.length y.c) := (hba.cell (World.block_lt_of_cell? wr _ yc)).trans yc))
                       all_goals
                         go_wp2_with fail
                         go_meet
                         have hf := both_step hH hQ hl5 hsz5 hXL HXO8.out HXE8.out hbb hb6 HLC.out.2.1 HLC.out.2.2 hown8 hgrow8 hat8
                         exact ⟨A10, c10, X ++ [⟨A9, c9, L9⟩], rfl, hf.1, Lib.hid (by rw [List.map_append, ← HIZ.out, ← HLC.out.1]; rfl), Lib.hid hf.2.1, Lib.hid hf.2.2.1, Lib.hid hf.2.2.2⟩
                    · have hqm : q = m := by omega
                      have hXC : (X.map fun b => cts b.l) = List.zipWith (fun x y => norm HK (x ++ y)) z1.ct.br S.ct.br := by rw [HXC.out, hqm, List.take_of_length_le (by rw [Zt.ct_br, List.length_map, HZL.out]; exact Nat.le_refl _), List.take_of_length_le (by rw [HSL.out, List.length_map, hML]; exact Nat.le_refl _)]
                      have f11 : wr.frozen? ⟨w5.heap.size, 11, none⟩ = false := (HB2.out.keep hbq).fr 11 (by decide)
                      have hsz5 : w5.heap.size + 1 ≤ wr.heap.size := by have := hbq.size; rwa [World.size_alloc] at this
                      obtain ⟨W2, hW2⟩ : ∃ W2, wr.setCell ⟨w5.heap.size, 11, none⟩ (.slice A8 q c8) = W2 := ⟨_, rfl⟩
                      have hz2 : W2.heap.size = wr.heap.size := by rw [← hW2]; simp [World.setCell]
                      have hw2 : Below w5.heap.size w5 W2 := by rw [← hW2]; exact hq5.setCell (Nat.le_refl _) _
                      have hr2 : Below H wr W2 := by rw [← hW2]; exact (Below.refl _ _).setCell (Nat.le_trans hH hlw5.size) _
                      have hk2 : ∀ p : Addr, p.block ≠ w5.heap.size → W2.cell? p = wr.cell? p := fun p hp => by rw [← hW2]; exact World.cell?_setCell_other _ _ _ _ (fun e => hp (by rw [← e]))
                      have hl5 := hlw5.size
                      have hst2 := HST5.out.keep hH hQ hw2
                      have hXn : X.length ≤ maxLen := by unfold maxLen; omega
                      have hoX : W2.ownsRow (w5.heap.size + 1) 22 1 (.slice A8 X.length c8) X.length (aC X) := by rw [← hW2, hXL]; exact ownsRow_setCell_below HXO8.out (a := ⟨w5.heap.size, 11, none⟩) (Nat.lt_succ_self _) _
                      have hoE : ∀ b ∈ X, RlQ W2 H (fun p => Q p ∨ Oth w.heap.size w5 (.slice (some ⟨g, 0, none⟩) L.length c2) p ∨ Oth (w5.heap.size + 1) wr (.slice A8 q c8) p) b := fun b hb => (HXE8.out b hb).keep hr2 fun p hp => hk2 p (by
                        rcases hp with hp | hp | hp
                        · have := hQ _ hp; omega
                        · have := hp.2.1; omega
                        · have := hp.1; omega)
                      have hZ2 : RzQ W2 H (fun b => Q b ∨ Oth w.heap.size W2 (.slice (some ⟨g, 0, none⟩) L.length c2) b) (z1.wb ⟨A8, c8, X⟩) := case_new (hst2.2.1 z1 HM1.out) hoX hXn hoE (fun p hp => by
                        rcases hp with hp | hp | hp
                        · exact .inl hp
                        · exact .inr ⟨hp.1, by have := hp.2.1; omega, hp.2.2⟩
                        · exact .inr ⟨by have := hp.1; omega, by rw [hz2]; exact hp.2.1, fun e => by have e2 : g = p := Option.some.inj e; have := hp.1; omega⟩) fun p h1 h2 => .inr ⟨by omega, h2, fun e => by have e2 : g = p := Option.some.inj e; omega⟩
                      have hBF2 : BF W2 w5.heap.size (z1.wb ⟨A8, c8, X⟩) := by
                        rw [← hW2]
                        refine (HB2.out.keep hbq).set [(11, .slice A8 q c8)] (by intro p hp; simp at hp; subst hp; exact (by decide : (11 : Nat) < 12)) fun i hi => ?_
                        rcases i with _ | _ | _ | _ | _ | _ | _ | _ | _ | _ | _ | _ | i
                        all_goals first | rfl | omega | skip
                        show some (Value.slice A8 q c8) = some (.slice A8 X.length c8)
                        rw [hXL]
                      have hZc : (z1.wb ⟨A8, c8, X⟩).ct = .mk z1.ct.h (List.zipWith (fun x y => norm HK (x ++ y)) z1.ct.br S.ct.br) := by rw [wb_ct, Zt.ct_h, hXC]
                      obtain ⟨Z2, hZe⟩ : ∃ Z2, z1.wb ⟨A8, c8, X⟩ = Z2 := ⟨_, rfl⟩
                      rw [hZe] at hZ2 hBF2 hZc
                      obtain ⟨t0, t1, t2, t3, t4, t5, t6, t7, t8, t9, t10, t11⟩ := hBF2.bx
                      obtain ⟨ad4, y4, hA4, had4, hy4, _, o0, o1, o2, o3, o4, o5, o6, o7, o8, o9, o10, o11⟩ := ((own_rdq hst2.1 (by unfold maxLen; omega)).rd (B := W2.heap.size) fun b hb => hb.2.1).at_ (i := Lp.length) (by simp only; omega)
                      simp only at hA4 hy4
                      obtain rfl := Option.some.inj hA4
                      simp only [addZ] at o0 o1 o2 o3 o4 o5 o6 o7 o8 o9 o10 o11
                      have hfz : ∀ j, W2.frozen? ⟨g, j, none⟩ = false := fun j => hst2.1.frozenAt j
                      have hst9 := St.store hH hQ (n := L.length) (by rw [HLE.out]) rfl (by rw [← HLE.out]; exact hst2) hZ2
                      rw [addZ] at hst9
                      have HST9 := Lib.hid hst9
                      have HZC := Lib.hid hZc
                      clear hst9 hZc hZe hBF2 hZ2 hoE hoX hst2 hk2 hXC hqm HXC HXO8 HXE8 hA4 hy4
                      go_wp2
                      go_roundw
                      case rel =>
                        obtain ⟨v1, v2, v3⟩ := HST9.out
                        exact ⟨k + 1, Lp ++ [Z2], some ⟨g, 0, none⟩, c2, by omega, by go_num, by simp [HLL.out], Lib.hid (by rw [HT2.out, ← HZC.out]; simp [cts]), Lib.hid v1, Lib.hid v2, v3⟩
                      case measure => simp [intOf]; omega
      · clear hbz
        have hrz := rowZ (wr.alloc (zB z)) z 38
        rw [World.size_alloc] at hrz
        go_wp2_with (at_builtin; (refine wpList_append_own_at _ rfl _ _ 22 rfl w.heap.size 38 i0 z0 12 176 Try.underlying22 hi iz is ib rfl (by decide) _ L.length (zsC L) rfl (own_keepZ HO.out ?_) ⟨wr.heap.size + 1, 0, none⟩ 1 1 (zCs z) rfl rfl hrz (z_one z) (by unfold maxLen; omega) (by omega) ?_ ?_; (focus ((repeat (first | (with_reducible exact Below.refl _ _) | (with_reducible assumption) | (with_reducible exact bel_box _) | (with_reducible refine bel_step ?_ (by with_reducible assumption)) | (with_reducible refine Below.drew ?_) | (with_reducible refine below_drewN ?_ _) | (with_reducible refine bel_alloc ?_ _))); done)); (focus (have h2 := hbl.size; simp; omega)); intro v3 w3 hown3 hgrow3 _ hat3; obtain ⟨A3, c3', rfl⟩ := own_formZ hown3))
        obtain ⟨s1, s2, _, _, s5⟩ := oth_step (B := w.heap.size) (w5 := wr.alloc (zB z)) hbl.size HO.out (bel_box _) hgrow3 hat3
        have e1 : zsC L ++ zCs z = zsC (L ++ [z]) := by rw [zsC_app, zsC_one]
        have e2 : (L ++ [z]).length = L.length + 1 := by simp
        rw [e1] at hown3
        refine ⟨⟨k + 1, L ++ [z], A3, c3', by omega, by congr 1, by rw [e2], Lib.hid (by rw [HT.out, ← HC.out, norm1_plain hk3, app_plain (by rw [Zt.ct_h]; show ¬ decide (z.k = 3) = true; simpa using hk3)]; simp [cts]), Lib.hid (by rw [e2]; exact hown3), Lib.hid fun y hy => ?_, hbl.trans s5⟩, by simp [intOf]; omega⟩
        rw [e2]
        rcases List.mem_append.1 hy with hy | hy
        · exact ((HE.out y hy).keep (s5.mono hH) fun p hp => hp.elim (fun h => s5.cell (hQ _ h)) (s2 p)).mono (Nat.le_refl _) fun b hb => hb.imp id (s1 b)
        · obtain rfl := List.mem_singleton.1 hy
          have hlow : Below w.heap.size w w3 := hbl.trans s5
          exact ((HQ.out.2 _ HM.out).keep (hlow.mono hH) fun p hp => hlow.cell (hQ _ hp)).mono (Nat.le_refl _) fun b hb => .inl hb
    · have hke : l.take k = l := List.take_of_length_le (by omega)
      have e12 : ¬ ((k : Int) < (l.length : Int)) := by omega
      rw [hke] at HC
      go_wp2
      go_ret
      exact ⟨A2, c2, L, rfl, HC.out, HO.out, HE.out, hbl⟩
end fu
end Go.Proofs.Ytjodffbekipnlaa
/- The examples of the law, walked: awake. -/
namespace Go.Proofs.Ytjodffbekipnlaa
set_option linter.unusedVariables false
set_option linter.unusedSimpArgs false
open Go.RowKit Go.Sort
namespace fu
set_option maxHeartbeats 8000000 in
set_option maxRecDepth 100000 in
theorem awake_any (w : World) : Calls Try.prog 8 #[] w (Bel (.bool true) w) := by
  have b1 := True.intro
  have b2 := True.intro
  have b3 := True.intro
  have b4 := True.intro
  have b5 := True.intro
  have b6 := True.intro
  have b7 := True.intro
  have b8 := True.intro
  have b9 := True.intro
  go_enter Try.func8, Try.ntmps8
  go_upto_region 4 with (first
    | (have bb := b1; clear bb; go_at_call 18; (with_reducible refine (as_is ⟨#[120]⟩ 1 _).mono ?_); rintro e w1 ⟨z1, rfl, HE1, HB1⟩; clear b1)
    | (have bb := b2; clear bb; go_at_call 17; (with_reducible refine (by_is _ ⟨none, 0, []⟩ ⟨some ⟨w1.heap.size, 0, none⟩, 1, [z1]⟩ _).mono ?_); rintro e w2 ⟨za, rfl, HE2, HB2⟩; clear b2)
    | (have bb := b3; clear bb; go_at_call 18; (with_reducible refine (as_is ⟨#[121]⟩ 2 _).mono ?_); rintro e w3 ⟨z2, rfl, HE3, HB3⟩; clear b3)
    | (have bb := b4; clear bb; go_at_call 18; (with_reducible refine (as_is ⟨#[121]⟩ 3 _).mono ?_); rintro e w4 ⟨z3, rfl, HE4, HB4⟩; clear b4)
    | (have bb := b5; clear bb; go_at_call 17; (with_reducible refine (by_is _ ⟨some ⟨w3.heap.size, 0, none⟩, 1, [z2]⟩ ⟨some ⟨w4.heap.size, 0, none⟩, 1, [z3]⟩ _).mono ?_); rintro e w5 ⟨zb, rfl, HE5, HB5⟩; clear b5)
    | (have bb := b6; clear bb; go_at_call 18; (with_reducible refine (as_is ⟨#[121]⟩ 2 _).mono ?_); rintro e w6 ⟨z4, rfl, HE6, HB6⟩; clear b6)
    | (have bb := b7; clear bb; go_at_call 18; (with_reducible refine (as_is ⟨#[120]⟩ 1 _).mono ?_); rintro e w7 ⟨z5, rfl, HE7, HB7⟩; clear b7)
    | (have bb := b8; clear bb; go_at_call 18; (with_reducible refine (as_is ⟨#[121]⟩ 3 _).mono ?_); rintro e w8 ⟨z6, rfl, HE8, HB8⟩; clear b8)
    | (have bb := b9; clear bb; go_at_call 17; (with_reducible refine (by_is _ ⟨some ⟨w6.heap.size, 0, none⟩, 1, [z4]⟩ ⟨some ⟨w8.heap.size, 0, none⟩, 2, [z5, z6]⟩ _).mono ?_); rintro e w9 ⟨zc, rfl, HE9, HB9⟩; clear b9))
  have hEX : Ex (w9.alloc (zB zc)) w2.heap.size w5.heap.size w9.heap.size za zb zc := by
    have hb1 := HB1.out
    have hb2 := HB2.out
    have hb3 := HB3.out
    have hb4 := HB4.out
    have hb5 := HB5.out
    have hb6 := HB6.out
    have hb7 := HB7.out
    have hb8 := HB8.out
    have hb9 := HB9.out
    have g7 := bel_step (bel_box (w := w6) (zB z4)) hb7
    have g9 := bel_alloc (bel_step (bel_alloc (bel_alloc (bel_step g7 hb8) _) _) hb9) (zB zc)
    have k5 : Below (w5.alloc (zB zb)).heap.size (w5.alloc (zB zb)) (w9.alloc (zB zc)) := bel_step hb6 g9
    have k5' : Below w5.heap.size w5 (w9.alloc (zB zc)) := bel_step (bel_box (w := w5) (zB zb)) k5
    have f5 := bel_step (bel_alloc (bel_alloc (bel_step (bel_alloc hb3 (zB z2)) hb4) _) _) hb5
    have k2 : Below (w2.alloc (zB za)).heap.size (w2.alloc (zB za)) (w9.alloc (zB zc)) := bel_step f5 k5'
    have k2' : Below w2.heap.size w2 (w9.alloc (zB zc)) := bel_step (bel_box (w := w2) (zB za)) k2
    have k9' : Below w9.heap.size w9 (w9.alloc (zB zc)) := bel_box _
    have k34 : Below (w3.alloc (zB z2)).heap.size (w3.alloc (zB z2)) w4 := hb4
    have k68 : Below (w6.alloc (zB z4)).heap.size (w6.alloc (zB z4)) w8 := bel_step hb7 hb8
    have ml2 : (2 : Nat) ≤ maxLen := by unfold maxLen; omega
    have a1 : RsL (w1.alloc (.cells (zsC [z1]).toArray 38)) (w1.heap.size + 1) ⟨some ⟨w1.heap.size, 0, none⟩, 1, [z1]⟩ := row_at rfl (Nat.le_refl _) ml1 (one_rs HE1.out)
    have a2 : RsLs ((w1.alloc (.cells (zsC [z1]).toArray 38)).alloc (.cells (aC [⟨none, 0, []⟩, ⟨some ⟨w1.heap.size, 0, none⟩, 1, [z1]⟩]).toArray 22)) (w1.heap.size + 1 + 1) ⟨some ⟨w1.heap.size + 1, 0, none⟩, 2, [⟨none, 0, []⟩, ⟨some ⟨w1.heap.size, 0, none⟩, 1, [z1]⟩]⟩ := rows_at (World.size_alloc _ _) (Nat.le_refl _) ml2 (two_ls (rsl_nil _ _) a1)
    have hb2m := below_le (B' := w1.heap.size + 1 + 1) hb2 (by simp)
    have a3 : RsZ w2 w2.heap.size za := by
      rw [HE2.out]
      have h1 := hb2.size
      exact byZ_rs (a2.blw hb2m (by simp at h1; omega))
    have c1 : RsL (w3.alloc (.cells (zsC [z2]).toArray 38)) (w3.heap.size + 1) ⟨some ⟨w3.heap.size, 0, none⟩, 1, [z2]⟩ := row_at rfl (Nat.le_refl _) ml1 (one_rs HE3.out)
    have hs4 := k34.size
    rw [World.size_alloc] at hs4
    have c1' : RsL w4 w4.heap.size ⟨some ⟨w3.heap.size, 0, none⟩, 1, [z2]⟩ := c1.blw (k34.mono (by simp)) hs4
    have c2 : RsL (w4.alloc (.cells (zsC [z3]).toArray 38)) (w4.heap.size + 1) ⟨some ⟨w4.heap.size, 0, none⟩, 1, [z3]⟩ := row_at rfl (Nat.le_refl _) ml1 (one_rs HE4.out)
    have c3 : RsLs ((w4.alloc (.cells (zsC [z3]).toArray 38)).alloc (.cells (aC [⟨some ⟨w3.heap.size, 0, none⟩, 1, [z2]⟩, ⟨some ⟨w4.heap.size, 0, none⟩, 1, [z3]⟩]).toArray 22)) (w4.heap.size + 1 + 1) ⟨some ⟨w4.heap.size + 1, 0, none⟩, 2, [⟨some ⟨w3.heap.size, 0, none⟩, 1, [z2]⟩, ⟨some ⟨w4.heap.size, 0, none⟩, 1, [z3]⟩]⟩ := rows_at (World.size_alloc _ _) (Nat.le_refl _) ml2 (two_ls (c1'.blw (bel_box _) (Nat.le_succ _)) c2)
    have hb5m := below_le (B' := w4.heap.size + 1 + 1) hb5 (by simp)
    have c4 : RsZ w5 w5.heap.size zb := by
      rw [HE5.out]
      have h1 := hb5.size
      exact byZ_rs (c3.blw hb5m (by simp at h1; omega))
    have d1 : RsL (w6.alloc (.cells (zsC [z4]).toArray 38)) (w6.heap.size + 1) ⟨some ⟨w6.heap.size, 0, none⟩, 1, [z4]⟩ := row_at rfl (Nat.le_refl _) ml1 (one_rs HE6.out)
    have hs8 := k68.size
    rw [World.size_alloc] at hs8
    have d1' : RsL w8 w8.heap.size ⟨some ⟨w6.heap.size, 0, none⟩, 1, [z4]⟩ := d1.blw (k68.mono (by simp)) hs8
    have d2 : RsL (w8.alloc (.cells (zsC [z5, z6]).toArray 38)) (w8.heap.size + 1) ⟨some ⟨w8.heap.size, 0, none⟩, 2, [z5, z6]⟩ := row_at rfl (Nat.le_refl _) ml2 (two_rs HE7.out HE8.out)
    have d3 : RsLs ((w8.alloc (.cells (zsC [z5, z6]).toArray 38)).alloc (.cells (aC [⟨some ⟨w6.heap.size, 0, none⟩, 1, [z4]⟩, ⟨some ⟨w8.heap.size, 0, none⟩, 2, [z5, z6]⟩]).toArray 22)) (w8.heap.size + 1 + 1) ⟨some ⟨w8.heap.size + 1, 0, none⟩, 2, [⟨some ⟨w6.heap.size, 0, none⟩, 1, [z4]⟩, ⟨some ⟨w8.heap.size, 0, none⟩, 2, [z5, z6]⟩]⟩ := rows_at (World.size_alloc _ _) (Nat.le_refl _) ml2 (two_ls (d1'.blw (bel_box _) (Nat.le_succ _)) d2)
    have hb9m := below_le (B' := w8.heap.size + 1 + 1) hb9 (by simp)
    have d4 : RsZ w9 w9.heap.size zc := by
      rw [HE9.out]
      have h1 := hb9.size
      exact byZ_rs (d3.blw hb9m (by simp at h1; omega))
    exact ⟨(boxZ_one w2 za).keep k2, (boxZ_one w5 zb).keep k5, boxZ_one w9 zc, a3.blw k2' k2'.size, c4.blw k5' k5'.size, d4.blw k9' k9'.size⟩
  have hBW : Below w.heap.size w (w9.alloc (zB zc)) := by
    have hb1 := HB1.out
    have hb2 := HB2.out
    have hb3 := HB3.out
    have hb4 := HB4.out
    have hb5 := HB5.out
    have hb6 := HB6.out
    have hb7 := HB7.out
    have hb8 := HB8.out
    have hb9 := HB9.out
    exact (by repeat (first | (with_reducible exact Below.refl _ _) | (with_reducible assumption) | (with_reducible exact bel_box _) | (with_reducible refine bel_step ?_ (by with_reducible assumption)) | (with_reducible refine Below.drew ?_) | (with_reducible refine below_drewN ?_ _) | (with_reducible refine bel_alloc ?_ _)))
  have hca : za.ct = sC [[], [sA [120] 1]] := by rw [HE2.out, byZ_ct, HE1.out]; simp [cts, asZ_ct]
  have hcb : zb.ct = sC [[sA [121] 2], [sA [121] 3]] := by rw [HE5.out, byZ_ct, HE3.out, HE4.out]; simp [cts, asZ_ct]
  have hcc : zc.ct = sC [[sA [121] 2], [sA [120] 1, sA [121] 3]] := by rw [HE9.out, byZ_ct, HE6.out, HE7.out, HE8.out]; simp [cts, asZ_ct]
  have HCT := Lib.hid (And.intro hca (And.intro hcb hcc))
  have HBW := Lib.hid hBW
  obtain ⟨Wb, hWb⟩ : ∃ W, w9.alloc (zB zc) = W := ⟨_, rfl⟩
  rw [hWb] at hEX
  have HEX : Hid (∀ W, Below Wb.heap.size Wb W → Ex W w2.heap.size w5.heap.size w9.heap.size za zb zc) := Lib.hid fun W hb => hEX.keep hb
  rw [hWb] at HBW
  rw [hWb]
  clear hca hcb hcc hBW hEX hWb HE1 HE2 HE3 HE4 HE5 HE6 HE7 HE8 HE9 HB1 HB2 HB3 HB4 HB5 HB6 HB7 HB8 HB9
  have hx0 := HEX.out Wb (Below.refl _ _)
  obtain ⟨m0, m1, m2, m3, m4, m5, m6, m7, m8, m9, m10, m11⟩ := hx0.ba
  obtain ⟨n0, n1, n2, n3, n4, n5, n6, n7, n8, n9, n10, n11⟩ := hx0.bb
  clear hx0
  go_wp2_with (go_at_call 10; (refine (join_lit Wb [za, zb] 2 1 _ rfl (by unfold maxLen; omega) (by show [za.ct, zb.ct] = _; rw [HCT.out.1, HCT.out.2.1]) (two_zs (HEX.out Wb (Below.refl _ _)).ra (HEX.out Wb (Below.refl _ _)).rb) jok_l (by rw [ex_l]; rfl)).mono ?_); rintro e x1 ⟨r1, rfl, HL1, HC1, HR1, HX1⟩; have hbx1 := HX1.out)
  clear m0 m1 m2 m3 m4 m5 m6 m7 m8 m9 m10 m11 n0 n1 n2 n3 n4 n5 n6 n7 n8 n9 n10 n11
  go_region_held3 (fun W => (W.cell? ⟨w2.heap.size, 0, none⟩ = some (.int .i64 za.k) ∧ W.cell? ⟨w2.heap.size, 1, none⟩ = some (.string za.nm) ∧ W.cell? ⟨w2.heap.size, 2, none⟩ = some (.int .i64 za.t) ∧ W.cell? ⟨w2.heap.size, 3, none⟩ = some (.int .i64 za.r.k) ∧ W.cell? ⟨w2.heap.size, 4, none⟩ = some (.int .i64 za.r.op) ∧ W.cell? ⟨w2.heap.size, 5, none⟩ = some (.int .i64 za.r.t) ∧ W.cell? ⟨w2.heap.size, 6, none⟩ = some (.int .i64 za.r.v) ∧ W.cell? ⟨w2.heap.size, 7, none⟩ = some (.string za.r.nm) ∧ W.cell? ⟨w2.heap.size, 8, none⟩ = some (.slice za.r.A za.r.ar.length za.r.c) ∧ W.cell? ⟨w2.heap.size, 9, none⟩ = some (.slice za.ou.A za.ou.l.length za.ou.c) ∧ W.cell? ⟨w2.heap.size, 10, none⟩ = some (.slice za.ar.A za.ar.l.length za.ar.c) ∧ W.cell? ⟨w2.heap.size, 11, none⟩ = some (.slice za.br.A za.br.l.length za.br.c)) ∧ (W.cell? ⟨w5.heap.size, 0, none⟩ = some (.int .i64 zb.k) ∧ W.cell? ⟨w5.heap.size, 1, none⟩ = some (.string zb.nm) ∧ W.cell? ⟨w5.heap.size, 2, none⟩ = some (.int .i64 zb.t) ∧ W.cell? ⟨w5.heap.size, 3, none⟩ = some (.int .i64 zb.r.k) ∧ W.cell? ⟨w5.heap.size, 4, none⟩ = some (.int .i64 zb.r.op) ∧ W.cell? ⟨w5.heap.size, 5, none⟩ = some (.int .i64 zb.r.t) ∧ W.cell? ⟨w5.heap.size, 6, none⟩ = some (.int .i64 zb.r.v) ∧ W.cell? ⟨w5.heap.size, 7, none⟩ = some (.string zb.r.nm) ∧ W.cell? ⟨w5.heap.size, 8, none⟩ = some (.slice zb.r.A zb.r.ar.length zb.r.c) ∧ W.cell? ⟨w5.heap.size, 9, none⟩ = some (.slice zb.ou.A zb.ou.l.length zb.ou.c) ∧ W.cell? ⟨w5.heap.size, 10, none⟩ = some (.slice zb.ar.A zb.ar.l.length zb.ar.c) ∧ W.cell? ⟨w5.heap.size, 11, none⟩ = some (.slice zb.br.A zb.br.l.length zb.br.c))) (first | exact ⟨(HEX.out _ (by repeat (first | (with_reducible exact Below.refl _ _) | (with_reducible assumption) | (with_reducible exact bel_box _) | (with_reducible refine bel_step ?_ (by with_reducible assumption)) | (with_reducible refine Below.drew ?_) | (with_reducible refine below_drewN ?_ _) | (with_reducible refine bel_alloc ?_ _)))).ba, (HEX.out _ (by repeat (first | (with_reducible exact Below.refl _ _) | (with_reducible assumption) | (with_reducible exact bel_box _) | (with_reducible refine bel_step ?_ (by with_reducible assumption)) | (with_reducible refine Below.drew ?_) | (with_reducible refine below_drewN ?_ _) | (with_reducible refine bel_alloc ?_ _)))).bb⟩) (first
    | (go_at_call 18; (with_reducible refine (as_at ⟨#[122]⟩ 1 _).mono ?_); rintro e x2 ⟨z7, rfl, HC7, HZ7, HB7⟩; have hbx2 := HB7.out)
    | (go_at_call 10; (refine (join_lit x2 [za, z7, zb] 3 3 _ rfl (by unfold maxLen; omega) (by show [za.ct, z7.ct, zb.ct] = _; rw [HCT.out.1, HC7.out, HCT.out.2.1]) (three_zs (HEX.out x2 (by repeat (first | (with_reducible exact Below.refl _ _) | (with_reducible assumption) | (with_reducible exact bel_box _) | (with_reducible refine bel_step ?_ (by with_reducible assumption)) | (with_reducible refine Below.drew ?_) | (with_reducible refine below_drewN ?_ _) | (with_reducible refine bel_alloc ?_ _)))).ra (HZ7.out _ _) (HEX.out x2 (by repeat (first | (with_reducible exact Below.refl _ _) | (with_reducible assumption) | (with_reducible exact bel_box _) | (with_reducible refine bel_step ?_ (by with_reducible assumption)) | (with_reducible refine Below.drew ?_) | (with_reducible refine below_drewN ?_ _) | (with_reducible refine bel_alloc ?_ _)))).rb) jok_m ex_m).mono ?_); rintro e x3 ⟨r2, rfl, HL2, HC2, HR2, HX2⟩; have hbx3 := HX2.out))
  have b1 := True.intro
  have b2 := True.intro
  have b3 := True.intro
  have HNN := True.intro
  all_goals
    go_wp2
    go_region_held3 (fun W => (W.cell? ⟨w2.heap.size, 0, none⟩ = some (.int .i64 za.k) ∧ W.cell? ⟨w2.heap.size, 1, none⟩ = some (.string za.nm) ∧ W.cell? ⟨w2.heap.size, 2, none⟩ = some (.int .i64 za.t) ∧ W.cell? ⟨w2.heap.size, 3, none⟩ = some (.int .i64 za.r.k) ∧ W.cell? ⟨w2.heap.size, 4, none⟩ = some (.int .i64 za.r.op) ∧ W.cell? ⟨w2.heap.size, 5, none⟩ = some (.int .i64 za.r.t) ∧ W.cell? ⟨w2.heap.size, 6, none⟩ = some (.int .i64 za.r.v) ∧ W.cell? ⟨w2.heap.size, 7, none⟩ = some (.string za.r.nm) ∧ W.cell? ⟨w2.heap.size, 8, none⟩ = some (.slice za.r.A za.r.ar.length za.r.c) ∧ W.cell? ⟨w2.heap.size, 9, none⟩ = some (.slice za.ou.A za.ou.l.length za.ou.c) ∧ W.cell? ⟨w2.heap.size, 10, none⟩ = some (.slice za.ar.A za.ar.l.length za.ar.c) ∧ W.cell? ⟨w2.heap.size, 11, none⟩ = some (.slice za.br.A za.br.l.length za.br.c))) (first | exact (HEX.out _ (by repeat (first | (with_reducible exact Below.refl _ _) | (with_reducible assumption) | (with_reducible exact bel_box _) | (with_reducible refine bel_step ?_ (by with_reducible assumption)) | (with_reducible refine Below.drew ?_) | (with_reducible refine below_drewN ?_ _) | (with_reducible refine bel_alloc ?_ _)))).ba) (first
      | (go_at_call 18; (with_reducible refine (as_at ⟨#[99]⟩ 1 _).mono ?_); rintro e x4 ⟨z8, rfl, HC8, HZ8, HB8⟩; have hbx4 := HB8.out; (first | ((refine (fun (HNN : RsLs x4 x4.heap.size ⟨some ⟨x3.heap.size, 0, none⟩, 2, [⟨none, 0, []⟩, ⟨none, 0, []⟩]⟩) => ?_) ?_); rotate_left; (focus (refine nn_mk ?_ hbx4; (repeat (first | (with_reducible exact rsl_nil _ _) | (with_reducible exact HNN) | ((with_reducible refine row_lit ?_ (HZ8.out _ _)); (focus (first | (with_reducible rfl) | (simp; done)))) | ((with_reducible refine rows_lit ?_ ?_ ?_ ?_ ?_); (focus (first | (with_reducible rfl) | (simp; done))); (focus rfl); (focus rfl)) | (with_reducible refine RsLs.dr ?_) | (with_reducible refine RsL.dr ?_) | (with_reducible refine RsLs.up ?_) | (with_reducible refine RsL.up ?_))); done))) | skip))
      | (have bb := b1; clear bb; go_at_call 17; go_loud ((with_reducible refine (by_atL (z := z8) ?_ ?_).mono ?_); rotate_left; (focus ((repeat (first | (with_reducible exact rsl_nil _ _) | (with_reducible exact HNN) | ((with_reducible refine row_lit ?_ (HZ8.out _ _)); (focus (first | (with_reducible rfl) | (simp; done)))) | ((with_reducible refine rows_lit ?_ ?_ ?_ ?_ ?_); (focus (first | (with_reducible rfl) | (simp; done))); (focus rfl); (focus rfl)) | (with_reducible refine RsLs.dr ?_) | (with_reducible refine RsL.dr ?_) | (with_reducible refine RsLs.up ?_) | (with_reducible refine RsL.up ?_))); done)); rintro e x5 ⟨z9, rfl, HC9, HZ9, HB9⟩; have hbx5 := HB9.out; (first | ((refine (fun (HNN : RsLs x5 x5.heap.size ⟨some ⟨x3.heap.size, 0, none⟩, 2, [⟨none, 0, []⟩, ⟨none, 0, []⟩]⟩) => ?_) ?_); rotate_left; (focus (refine nn_mk ?_ hbx5; (repeat (first | (with_reducible exact rsl_nil _ _) | (with_reducible exact HNN) | ((with_reducible refine row_lit ?_ (HZ8.out _ _)); (focus (first | (with_reducible rfl) | (simp; done)))) | ((with_reducible refine rows_lit ?_ ?_ ?_ ?_ ?_); (focus (first | (with_reducible rfl) | (simp; done))); (focus rfl); (focus rfl)) | (with_reducible refine RsLs.dr ?_) | (with_reducible refine RsL.dr ?_) | (with_reducible refine RsLs.up ?_) | (with_reducible refine RsL.up ?_))); done))) | skip); (first | ((refine (fun (HNN : RsLs x5 x5.heap.size ⟨some ⟨x4.heap.size, 0, none⟩, 2, [⟨none, 0, []⟩, ⟨none, 0, []⟩]⟩) => ?_) ?_); rotate_left; (focus (refine nn_mk ?_ hbx5; (repeat (first | (with_reducible exact rsl_nil _ _) | (with_reducible exact HNN) | ((with_reducible refine row_lit ?_ (HZ8.out _ _)); (focus (first | (with_reducible rfl) | (simp; done)))) | ((with_reducible refine rows_lit ?_ ?_ ?_ ?_ ?_); (focus (first | (with_reducible rfl) | (simp; done))); (focus rfl); (focus rfl)) | (with_reducible refine RsLs.dr ?_) | (with_reducible refine RsL.dr ?_) | (with_reducible refine RsLs.up ?_) | (with_reducible refine RsL.up ?_))); done))) | skip); (first | ((refine (fun (HNN : RsLs x5 x5.heap.size ⟨some ⟨x4.heap.size + 1, 0, none⟩, 2, [⟨none, 0, []⟩, ⟨none, 0, []⟩]⟩) => ?_) ?_); rotate_left; (focus (refine nn_mk ?_ hbx5; (repeat (first | (with_reducible exact rsl_nil _ _) | (with_reducible exact HNN) | ((with_reducible refine row_lit ?_ (HZ8.out _ _)); (focus (first | (with_reducible rfl) | (simp; done)))) | ((with_reducible refine rows_lit ?_ ?_ ?_ ?_ ?_); (focus (first | (with_reducible rfl) | (simp; done))); (focus rfl); (focus rfl)) | (with_reducible refine RsLs.dr ?_) | (with_reducible refine RsL.dr ?_) | (with_reducible refine RsLs.up ?_) | (with_reducible refine RsL.up ?_))); done))) | skip); (first | ((refine (fun (HNN : RsLs x5 x5.heap.size ⟨some ⟨x4.heap.size + 1 + 1, 0, none⟩, 2, [⟨none, 0, []⟩, ⟨none, 0, []⟩]⟩) => ?_) ?_); rotate_left; (focus (refine nn_mk ?_ hbx5; (repeat (first | (with_reducible exact rsl_nil _ _) | (with_reducible exact HNN) | ((with_reducible refine row_lit ?_ (HZ8.out _ _)); (focus (first | (with_reducible rfl) | (simp; done)))) | ((with_reducible refine rows_lit ?_ ?_ ?_ ?_ ?_); (focus (first | (with_reducible rfl) | (simp; done))); (focus rfl); (focus rfl)) | (with_reducible refine RsLs.dr ?_) | (with_reducible refine RsL.dr ?_) | (with_reducible refine RsLs.up ?_) | (with_reducible refine RsL.up ?_))); done))) | skip)); clear b1)
      | (have bb := b2; clear bb; go_at_call 17; (with_reducible refine (by_at0 ?_).mono ?_); (focus ((repeat (first | (with_reducible exact rsl_nil _ _) | (with_reducible exact HNN) | ((with_reducible refine row_lit ?_ (HZ8.out _ _)); (focus (first | (with_reducible rfl) | (simp; done)))) | ((with_reducible refine rows_lit ?_ ?_ ?_ ?_ ?_); (focus (first | (with_reducible rfl) | (simp; done))); (focus rfl); (focus rfl)) | (with_reducible refine RsLs.dr ?_) | (with_reducible refine RsL.dr ?_) | (with_reducible refine RsLs.up ?_) | (with_reducible refine RsL.up ?_))); done)); rintro e x6 ⟨z10, rfl, HC10, HZ10, HB10⟩; have hbx6 := HB10.out; clear b2)
      | (have bb := b3; clear bb; go_at_call 17; (with_reducible refine (by_atR (z := z10) ?_ ?_).mono ?_); rotate_left; (focus ((repeat (first | (with_reducible exact rsl_nil _ _) | (with_reducible exact HNN) | ((with_reducible refine row_lit ?_ (HZ10.out)); (focus (first | (with_reducible rfl) | (simp; done)))) | ((with_reducible refine rows_lit ?_ ?_ ?_ ?_ ?_); (focus (first | (with_reducible rfl) | (simp; done))); (focus rfl); (focus rfl)) | (with_reducible refine RsLs.dr ?_) | (with_reducible refine RsL.dr ?_) | (with_reducible refine RsLs.up ?_) | (with_reducible refine RsL.up ?_))); done)); rintro e x7 ⟨z11, rfl, HC11, HZ11, HB11⟩; have hbx7 := HB11.out; clear b3)
      | (go_at_call 10; (refine (join_lit x7 [z9, za, z11] 3 2 _ rfl (by unfold maxLen; omega) (by show [z9.ct, za.ct, z11.ct] = _; rw [HC9.out, HCT.out.1, HC11.out, HC8.out, HC10.out]) (three_zs (HZ9.out.blw (by repeat (first | (with_reducible exact Below.refl _ _) | (with_reducible assumption) | (with_reducible exact bel_box _) | (with_reducible refine bel_step ?_ (by with_reducible assumption)) | (with_reducible refine Below.drew ?_) | (with_reducible refine below_drewN ?_ _) | (with_reducible refine bel_alloc ?_ _))) (Below.size (by repeat (first | (with_reducible exact Below.refl _ _) | (with_reducible assumption) | (with_reducible exact bel_box _) | (with_reducible refine bel_step ?_ (by with_reducible assumption)) | (with_reducible refine Below.drew ?_) | (with_reducible refine below_drewN ?_ _) | (with_reducible refine bel_alloc ?_ _))))) (HEX.out x7 (by repeat (first | (with_reducible exact Below.refl _ _) | (with_reducible assumption) | (with_reducible exact bel_box _) | (with_reducible refine bel_step ?_ (by with_reducible assumption)) | (with_reducible refine Below.drew ?_) | (with_reducible refine below_drewN ?_ _) | (with_reducible refine bel_alloc ?_ _)))).ra HZ11.out) jok_n ex_n).mono ?_); rintro e x8 ⟨r3, rfl, HL3, HC3, HR3, HX3⟩; have hbx8 := HX3.out))
  all_goals
    have hz8 : Below Wb.heap.size Wb x8 := (by repeat (first | (with_reducible exact Below.refl _ _) | (with_reducible assumption) | (with_reducible exact bel_box _) | (with_reducible refine bel_step ?_ (by with_reducible assumption)) | (with_reducible refine Below.drew ?_) | (with_reducible refine below_drewN ?_ _) | (with_reducible refine bel_alloc ?_ _)))
    have hb18 : Below x1.heap.size x1 x8 := by
      clear hbx1 hz8
      (repeat (first | (with_reducible exact Below.refl _ _) | (with_reducible assumption) | (with_reducible exact bel_box _) | (with_reducible refine bel_step ?_ (by with_reducible assumption)) | (with_reducible refine Below.drew ?_) | (with_reducible refine below_drewN ?_ _) | (with_reducible refine bel_alloc ?_ _)))
    have hr1 : RsL x8 x8.heap.size r1 := HR1.out.blw hb18 hb18.size
    have HBW8 : Hid (∀ W, Below x8.heap.size x8 W → Below w.heap.size w W) := Lib.hid fun W hb => bel_step (bel_step HBW.out hz8) hb
    have HX8 : Hid (∀ W, Below x8.heap.size x8 W → Ex W w2.heap.size w5.heap.size w9.heap.size za zb zc) := Lib.hid fun W hb => HEX.out W (bel_step hz8 hb)
    have HRR : Hid (∀ W, Below x8.heap.size x8 W → RsL W W.heap.size r1) := Lib.hid fun W hb => hr1.blw hb hb.size
    have hcr : cts r1.l = [zc.ct] := by rw [HC1.out, ex_l, HCT.out.2.2]
    have KS := Lib.hid (same_ex hr1 HL1.out hcr (HEX.out x8 hz8).rc (by rw [HCT.out.2.2]; exact ok_c.1))
    have KC2 : Hid (∀ W, Below x8.heap.size x8 W → Calls Try.prog 12 #[.slice r1.A 1 r1.c] W (fun e w' => e = .returned (.int .i64 ((1 : Nat) : Int)) ∧ Below W.heap.size W w')) := Lib.hid fun W hb => cases_r W r1 1 1 (HRR.out W hb) HL1.out (by rw [HC1.out, ex_l]; exact cas_both) (by omega)
    have hcas : cas (cts [za, zb]) = 2 := by
      show cas [za.ct, zb.ct] = 2
      rw [HCT.out.1, HCT.out.2.1]; exact cas_l
    have HCAS := Lib.hid hcas
    have c1 := True.intro
    have c2 := True.intro
    obtain ⟨n0, n1, n2, n3, n4, n5, n6, n7, n8, n9, n10, n11⟩ := (HEX.out x8 hz8).bc
    clear hz8 hb18 hr1 hcr hcas HR1 HEX hbx1 hbx2 hbx3 hbx4 hbx5 hbx6 hbx7 hbx8 HNN
    go_wp2_with (first
      | (go_at_call 9; (with_reducible refine (KS.out).mono ?_); rintro e y1 ⟨rfl, hby1⟩; clear n0 n1 n2 n3 n4 n5 n6 n7 n8 n9 n10 n11; have hx := HX8.out y1 hby1; obtain ⟨m0, m1, m2, m3, m4, m5, m6, m7, m8, m9, m10, m11⟩ := hx.ba; obtain ⟨n0, n1, n2, n3, n4, n5, n6, n7, n8, n9, n10, n11⟩ := hx.bb; clear hx)
      | (have bb := c1; clear bb; go_at_call 12; (refine (cases_lit y1 [za, zb] 2 2 rfl (by unfold maxLen; omega) (two_zs (HX8.out y1 hby1).ra (HX8.out y1 hby1).rb) HCAS.out (by omega)).mono ?_); rintro e y2 ⟨rfl, hby2⟩; clear c1)
      | (have bb := c2; clear bb; go_at_call 12; (with_reducible refine (KC2.out _ ?_).mono ?_); (focus ((repeat (first | (with_reducible exact Below.refl _ _) | (with_reducible assumption) | (with_reducible exact bel_box _) | (with_reducible refine bel_step ?_ (by with_reducible assumption)) | (with_reducible refine Below.drew ?_) | (with_reducible refine below_drewN ?_ _) | (with_reducible refine bel_alloc ?_ _))); done)); rintro e y3 ⟨rfl, hby3⟩; clear c2))
    go_ret
    exact ⟨rfl, HBW8.out _ (by repeat (first | (with_reducible exact Below.refl _ _) | (with_reducible assumption) | (with_reducible exact bel_box _) | (with_reducible refine bel_step ?_ (by with_reducible assumption)) | (with_reducible refine Below.drew ?_) | (with_reducible refine below_drewN ?_ _) | (with_reducible refine bel_alloc ?_ _)))⟩
end fu
end Go.Proofs.Ytjodffbekipnlaa
/- FuseAgain and FuseFewer, walked. -/
namespace Go.Proofs.Ytjodffbekipnlaa
set_option linter.unusedVariables false
set_option linter.unusedSimpArgs false
open Go.RowKit Go.Sort
namespace fu
theorem upH_le (z : Zt) : upH z.hd ≤ 1 + z.ou.l.length := by
  unfold upH
  have : z.hd.ou.length = z.ou.l.length := List.length_map _
  split
  · omega
  · split <;> omega
theorem up1_wz1 (z : Zt) : up1 z.ct ≤ wz1 z := by
  induction z using Zt.ind with
  | h z ih =>
    by_cases hc : HK.c z.ct.h = true
    · rw [up_case hc, wz1_eq, Zt.ct_br]
      have : sumL upL (z.br.l.map fun b => cts b.l) ≤ wzB z.br.l := by
        unfold wzB sumL
        rw [List.map_map]
        have hb : ∀ b ∈ z.br.l, upL (cts b.l) ≤ wz b.l := fun b hb => by
          have hl : ∀ l : List Zt, (∀ t ∈ l, up1 t.ct ≤ wz1 t) → upL (cts l) ≤ wz l := fun l => by
            induction l with
            | nil => intro _; exact Nat.le_refl _
            | cons a l ihl =>
              intro h
              have h1 := ihl fun t ht => h t (List.mem_cons_of_mem _ ht)
              have h2 := h a List.mem_cons_self
              have e1 : upL (cts (a :: l)) = up1 a.ct + upL (cts l) := sumL_cons _ _ _
              have e2 : wz (a :: l) = wz1 a + wz l := sumL_cons _ _ _
              omega
          exact hl b.l (ih b hb)
        generalize z.br.l = L at hb
        induction L with
        | nil => exact Nat.le_refl _
        | cons a L ihL =>
          have h1 := ihL fun b hb' => hb b (List.mem_cons_of_mem _ hb')
          have h2 := hb a List.mem_cons_self
          simp only [List.map_cons, List.sum_cons, Function.comp_apply] at h1 ⊢
          omega
      omega
    · rw [up_leaf hc, wz1_eq, Zt.ct_h]
      have := upH_le z
      omega
theorem up_wz : ∀ l : List Zt, upL (cts l) ≤ wz l
  | [] => Nat.le_refl _
  | a :: l => by
    have h1 := up_wz l
    have h2 := up1_wz1 a
    have e1 : upL (cts (a :: l)) = up1 a.ct + upL (cts l) := sumL_cons _ _ _
    have e2 : wz (a :: l) = wz1 a + wz l := sumL_cons _ _ _
    omega
theorem cas_wgt1 (s : Sx Hd) : cas1 s ≤ wgt1 s := by
  unfold cas1 wgt1
  induction s using Sx.ind with
  | h s ih =>
    rw [num1_eq, num1_eq]
    split
    · rename_i hc
      have : sumL (num HK (fun _ => 1) fun _ => 0) s.br ≤ sumL (num HK (fun n => n + 1) fun _ => 1) s.br := by
        generalize s.br = L at ih
        induction L with
        | nil => exact Nat.le_refl _
        | cons a L ihL =>
          have h1 := ihL fun b hb' => ih b (List.mem_cons_of_mem _ hb')
          have h2 : num HK (fun _ => 1) (fun _ => 0) a ≤ num HK (fun n => n + 1) (fun _ => 1) a := by
            have h3 := ih a List.mem_cons_self
            generalize a = l at h3
            induction l with
            | nil => exact Nat.le_refl _
            | cons t l ihl =>
              have h4 := ihl fun t ht => h3 t (List.mem_cons_of_mem _ ht)
              have h5 := h3 t List.mem_cons_self
              have e1 := sumL_cons (num1 HK (fun _ => 1) fun _ => 0) t l
              have e2 := sumL_cons (num1 HK (fun n => n + 1) fun _ => 1) t l
              unfold num at h4 ⊢
              omega
          rw [sumL_cons, sumL_cons]
          omega
      omega
    · exact Nat.zero_le _
theorem jok_wz {l : List Zt} (h : wz l < 400) (hn : ∀ t ∈ cts l, AllN t) : JOk (cts l) := by
  have h1 := wgt_wz l
  have h2 := up_wz l
  have h3 : SmL 200000 l := smL_of (by omega)
  exact ⟨⟨by rw [show (cts l).length = l.length from List.length_map _]; exact h3.1, fun t ht => by
    obtain ⟨z, hz, rfl⟩ := List.mem_map.1 ht
    exact smS_ct z (h3.2 z hz)⟩, hn, by omega, by omega⟩
theorem cas_le {a : Rw Zt} (hw : wz a.l < 400) : cas (cts a.l) ≤ 400 := by
  have h1 := wgt_wz a.l
  have h2 : cas (cts a.l) ≤ wgt (cts a.l) := by
    generalize cts a.l = l
    induction l with
    | nil => exact Nat.le_refl _
    | cons t l ihl =>
      have h5 := cas_wgt1 t
      have e1 : cas (t :: l) = cas1 t + cas l := sumL_cons _ _ _
      have e2 : wgt (t :: l) = wgt1 t + wgt l := sumL_cons _ _ _
      omega
  omega
end fu
end Go.Proofs.Ytjodffbekipnlaa
/- FuseJoins, walked, if the reference's Join is what it should be. -/
namespace Go.Proofs.Ytjodffbekipnlaa
set_option linter.unusedVariables false
set_option linter.unusedSimpArgs false
open Go.RowKit Go.Sort
namespace fu
/-- what is wanted of the reference's Join -/
def RJ : Prop := ∀ (a : Rw Zt) (w : World) (H : Nat) (Q : Nat → Prop), H ≤ w.heap.size → (∀ b, Q b → b < w.heap.size) → RlQ w H Q a → wgt (cts a.l) ≤ 200000 → SmL 200000 a.l → (∀ t ∈ cts a.l, AllN t) → Calls Try.prog 11 #[.slice a.A a.l.length a.c] w (NewJr H Q (norm HK (cts a.l)) w)
/-- the reference's Join, its answer read -/
theorem rjoin_r (KJ : RJ) (a : Rw Zt) (w : World) (hR : RsL w w.heap.size a) (hJ : JOk (cts a.l)) : Calls Try.prog 11 #[.slice a.A a.l.length a.c] w (fun e w' => ∃ r : Rw Zt, e = .returned (.slice r.A r.l.length r.c) ∧ Hid (cts r.l = norm HK (cts a.l)) ∧ Hid (RsL w' w'.heap.size r) ∧ Hid (Below w.heap.size w w')) := by
  refine (KJ a w w.heap.size (fun b => b < w.heap.size) (Nat.le_refl _) (fun _ h => h) hR.q hJ.wg hJ.sml hJ.nm).mono fun e w' h => ?_
  obtain ⟨A, c, L, h1, h2, h3, h4, h5⟩ := h
  have hl : L.length ≤ maxLen := by
    have e1 := (jok_norm hJ).sm.1
    rw [← h2, show (cts L).length = L.length from List.length_map _] at e1
    unfold maxLen
    omega
  exact ⟨⟨A, c, L⟩, h1, Lib.hid h2, Lib.hid ⟨(own_rdq h3 hl).rd fun b hb => hb.2.1, fun t ht => (h4 t ht).rz h5.size fun b hb => hb.elim (fun h => Nat.lt_of_lt_of_le h h5.size) fun h => h.2.1⟩, Lib.hid h5⟩
theorem same_joins {W : World} {r r2 : Rw Zt} {cs : List (Sx Hd)} (hJ : Hid (JOk cs)) (hc : Hid (cts r.l = norm HK cs)) (h2 : Hid (cts r2.l = norm HK cs)) (hR : RsL W W.heap.size r) (hR2 : Hid (RsL W W.heap.size r2)) : Calls Try.prog 9 #[.slice r.A r.l.length r.c, .slice r2.A r2.l.length r2.c] W (Bel (.bool true) W) := by
  have h3 : JOk (cts r.l) := by rw [hc.out]; exact jok_norm hJ.out
  have h4 : JOk (cts r2.l) := by rw [h2.out]; exact jok_norm hJ.out
  have := rsameZ_all _ r r2 W (Nat.le_refl _) hR hR2.out h3.sml h4.sml
  rwa [sameZ_yes (hc.out.trans h2.out.symm)] at this
theorem cases_both {W : World} {a : Rw Zt} (hR : RsL W W.heap.size a) (hw : Hid (cas (cts a.l) ≤ 400)) : Calls Try.prog 12 #[.slice a.A a.l.length a.c] W (fun e w' => ∃ n : Nat, e = .returned (.int .i64 (n : Int)) ∧ Hid (n = cas (cts a.l)) ∧ Hid (Below W.heap.size W w')) := by
  have h2 := hw.out
  exact (cases_all _ a W (Nat.le_refl _) hR (by omega)).mono fun e w' h => ⟨_, h.1, Lib.hid rfl, Lib.hid h.2⟩
theorem rcases_both {W : World} {a : Rw Zt} {n : Nat} (hn : Hid (n = cas (cts a.l))) (hR : RsL W W.heap.size a) (hw : Hid (cas (cts a.l) ≤ 400)) : Calls Try.prog 13 #[.slice a.A a.l.length a.c] W (fun e w' => e = .returned (.int .i64 (n : Int)) ∧ Hid (Below W.heap.size W w')) := by
  have h2 := hw.out
  have h3 := hn.out
  subst h3
  exact (rcases_all _ a W (Nat.le_refl _) hR (by omega)).mono fun e w' h => ⟨h.1, Lib.hid h.2⟩
set_option maxRecDepth 100000 in
set_option maxHeartbeats 4000000 in
theorem joins_of (KJ : RJ) (a : Rw Zt) (w : World) (h : Ra w a) : Calls Try.prog 3 #[.slice a.A a.l.length a.c] w (Bel (.bool true) w) := by
  by_cases hw : wz a.l < 400
  · have K1 : Hid (Calls Try.prog 7 #[.slice a.A a.l.length a.c] w (Bel (.bool true) w)) := Lib.hid (by have := light_any a w h.1 h.2.1; rwa [decide_eq_true hw] at this)
    have HR := Lib.hid h.1
    have HJ := Lib.hid (jok_wz hw h.2.2)
    have HC := Lib.hid (cas_le hw)
    have HK2 := Lib.hid KJ
    clear h hw KJ
    go_enter Try.func3, Try.ntmps3
    go_wp2_with (first
      | (go_at_call 7; (with_reducible refine (K1.out).mono ?_); clear K1; rintro e w1 ⟨rfl, hb1⟩)
      | (go_at_call 10; (with_reducible refine (join_r a w1 (HR.out.to hb1) HJ.out).mono ?_); rintro e w2 ⟨r, rfl, hc2, hR2, hb2⟩)
      | (go_at_call 11; (with_reducible refine (rjoin_r HK2.out a w2 ((HR.out.to hb1).to hb2.out) HJ.out).mono ?_); rintro e w3 ⟨r2, rfl, hc3, hR3, hb3⟩)
      | (go_at_call 9; (with_reducible refine (same_joins HJ hc2 hc3 (hR2.out.to hb3.out) hR3).mono ?_); rintro e w4 ⟨rfl, hb4⟩)
      | (go_at_call 12; (with_reducible refine (cases_both ((((HR.out.to hb1).to hb2.out).to hb3.out).to hb4) HC).mono ?_); rintro e w5 ⟨n, rfl, hn5, hb5⟩)
      | (go_at_call 13; (with_reducible refine (rcases_both hn5 (((((HR.out.to hb1).to hb2.out).to hb3.out).to hb4).to hb5.out) HC).mono ?_); rintro e w6 ⟨rfl, hb6⟩)
      | (go_at_call 8; (with_reducible refine (awake_any w6).mono ?_); rintro e w7 ⟨rfl, hb7⟩))
    go_ret
    exact ⟨rfl, bel_step hb1 (bel_step hb2.out (bel_step hb3.out (bel_step hb4 (bel_step hb5.out (bel_step hb6.out hb7)))))⟩
  · have K1 : Hid (Calls Try.prog 7 #[.slice a.A a.l.length a.c] w (Bel (.bool false) w)) := Lib.hid (by have := light_any a w h.1 h.2.1; rwa [decide_eq_false hw] at this)
    clear h hw
    go_enter Try.func3, Try.ntmps3
    go_wp2_with (first
      | (go_at_call 7; (with_reducible refine (K1.out).mono ?_); clear K1; rintro e w1 ⟨rfl, hb1⟩)
      | (go_at_call 8; (with_reducible refine (awake_any w1).mono ?_); rintro e w5 ⟨rfl, hb5⟩))
    go_ret
    exact ⟨rfl, bel_step hb1 hb5⟩
end fu
end Go.Proofs.Ytjodffbekipnlaa
/- The reference's Join: every list that is not too long. -/
namespace Go.Proofs.Ytjodffbekipnlaa
set_option linter.unusedVariables false
set_option linter.unusedSimpArgs false
open Go.RowKit Go.Sort
namespace fu
theorem rj_all : ∀ (n : Nat) (a : Rw Zt) (w : World) (H : Nat) (Q : Nat → Prop), wgt (cts a.l) ≤ n → H ≤ w.heap.size → (∀ b, Q b → b < w.heap.size) → RlQ w H Q a → Gd (cts a.l) → Calls Try.prog 11 #[.slice a.A a.l.length a.c] w (NewJr H Q (norm HK (cts a.l)) w) := by
  intro n
  induction n with
  | zero => exact fun a w H Q hn hH hQ hR hG => rjoin_of a w H Q hH hQ hR hG (Lib.hid fun b W Q' _ _ _ hlt _ => by omega)
  | succ n ih => exact fun a w H Q hn hH hQ hR hG => rjoin_of a w H Q hH hQ hR hG (Lib.hid fun b W Q' hW hQ' hR' hlt hG' => ih b W H Q' (by omega) (Nat.le_trans hH hW.size) hQ' hR' hG')
theorem rj : RJ := fun a w H Q hH hQ hR hw hS hN => rj_all _ a w H Q (Nat.le_refl _) hH hQ hR ⟨hw, fun t ht => by
  obtain ⟨z, hz, rfl⟩ := List.mem_map.1 ht
  exact ⟨smS_ct z (hS.2 z hz), hN _ ht⟩⟩
end fu
end Go.Proofs.Ytjodffbekipnlaa
