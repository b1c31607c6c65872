/- Texts of one chain, in one file. -/
import Derived.Test.YtnjaimpflaoehaaQD
import Derived.Deep.RegionWith
import Derived.Deep.RegionLaw
import Derived.Laws.BitsLemmas
set_option linter.unusedVariables false
set_option linter.unusedSimpArgs false
namespace Go.Proofs.Ytnjaimpflaoehaa
namespace fu
variable {H : Type} (K : Hk H)
def pth1 (q : H → Nat) (s : Sx H) : List (Sx H) := if K.c s.h then (match h : s.br[q s.h % s.br.length]? with | some b => (b.attach.map fun t => pth1 q t.1).flatten | none => []) else [s]
termination_by SizeOf.sizeOf s
decreasing_by exact Sx.lt_mem (List.mem_of_getElem? h) t.2
def pth (q : H → Nat) (l : List (Sx H)) : List (Sx H) := (l.map (pth1 K q)).flatten
theorem pth1_eq (q : H → Nat) (s : Sx H) : pth1 K q s = if K.c s.h then pth K q (s.br.getD (q s.h % s.br.length) []) else [s] := by
  rw [pth1]
  congr 1
  split
  · rename_i b h
    rw [List.getD, h]
    show _ = pth K q b
    unfold pth
    congr 1
    rw [List.map_attach_eq_pmap]
    simp
  · rename_i h
    rw [List.getD, h]
    rfl
theorem pth_append (q : H → Nat) (x y : List (Sx H)) : pth K q (x ++ y) = pth K q x ++ pth K q y := by simp [pth]
theorem pth_cons (q : H → Nat) (a : Sx H) (y : List (Sx H)) : pth K q (a :: y) = pth1 K q a ++ pth K q y := by simp [pth]
theorem pth_nil (q : H → Nat) : pth K q ([] : List (Sx H)) = [] := rfl
theorem zip_getD {α : Type} {f : List α → List α → List α} (h0 : f [] [] = []) : ∀ (l m : List (List α)) (i : Nat), l.length = m.length → (List.zipWith f l m).getD i [] = f (l.getD i []) (m.getD i [])
  | [], [], i, _ => by simp [h0]
  | [], _ :: _, _, h => by simp at h
  | _ :: _, [], _, h => by simp at h
  | a :: l, b :: m, 0, _ => by simp
  | a :: l, b :: m, i + 1, h => by
    have := zip_getD h0 l m i (by simpa using h)
    simpa using this
theorem pth_app (q : H → Nat) (hq : ∀ a b, K.key a b = true → q a = q b) : ∀ (k : Nat) (x y : List (Sx H)), SizeOf.sizeOf x ≤ k → pth K q (app K x y) = pth K q x ++ pth K q y := by
  intro k
  induction k with
  | zero => intro x y h; cases x <;> simp at h
  | succ k ih =>
    intro x y hk
    rcases List.eq_nil_or_concat x with rfl | ⟨x', a, rfl⟩
    · rw [nil_app, pth_nil]; rfl
    rw [List.concat_eq_append] at *
    have hsz : SizeOf.sizeOf a < SizeOf.sizeOf (x' ++ [a]) := List.sizeOf_lt_of_mem (by simp)
    cases y with
    | nil => rw [app_nil, pth_nil, List.append_nil]
    | cons b ys =>
      rw [app_snoc]
      by_cases hm : mate K a b = true
      · rw [if_pos hm]
        obtain ⟨h1, h2, h3, h4, h5⟩ := mate_parts K hm
        have e1 : (both K a b).h = a.h := rfl
        have e2 : (both K a b).br = List.zipWith (app K) a.br b.br := rfl
        have h6 : pth1 K q (both K a b) = pth1 K q a ++ pth1 K q b := by
          rw [pth1_eq K q (both K a b), pth1_eq K q a, pth1_eq K q b, e1, e2, h1, h2, if_pos rfl, if_pos rfl, if_pos rfl, List.length_zipWith, h4, Nat.min_self, zip_getD (app_nil K []) a.br b.br _ h4, ← hq a.h b.h h3]
          generalize q a.h % b.br.length = i
          by_cases hi : i < a.br.length
          · have hmem : a.br.getD i [] ∈ a.br := by
              rw [List.getD, List.getElem?_eq_getElem hi]
              exact List.getElem_mem hi
            exact ih _ _ (by have := Sx.lt_br hmem; omega)
          · have g1 : a.br.getD i [] = [] := by rw [List.getD, List.getElem?_eq_none (by omega)]; rfl
            have g2 : b.br.getD i [] = [] := by rw [List.getD, List.getElem?_eq_none (by omega)]; rfl
            rw [g1, g2, app_nil]
            rfl
        rw [pth_append, pth_cons, pth_append, pth_cons, pth_cons, h6, pth_nil]
        simp
      · rw [if_neg hm]
        simp only [pth_append, pth_cons, pth_nil]
        simp
theorem pth_norm1 (q : H → Nat) (hq : ∀ a b, K.key a b = true → q a = q b) (s : Sx H) : pth K q (norm1 K s) = pth1 K q s := by
  induction s using Sx.ind with
  | h s ih =>
    have hn : ∀ b ∈ s.br, pth K q (norm K b) = pth K q b := fun b hb => by
      have key : ∀ l : List (Sx H), (∀ t ∈ l, pth K q (norm1 K t) = pth1 K q t) → pth K q (norm K l) = pth K q l := by
        intro l
        induction l with
        | nil => intro _; rfl
        | cons a l ih2 =>
          intro h
          rw [norm_cons, pth_app K q hq _ _ _ (Nat.le_refl _), h a List.mem_cons_self, ih2 fun t ht => h t (List.mem_cons_of_mem _ ht), pth_cons]
      exact key b fun t ht => ih b hb t ht
    rw [norm1_eq]
    by_cases hc : K.c s.h = true
    · rw [if_pos hc, pth1_eq K q s, if_pos hc]
      by_cases hi : q s.h % s.br.length < s.br.length
      · have hmem : s.br.getD (q s.h % s.br.length) [] ∈ s.br := by
          rw [List.getD, List.getElem?_eq_getElem hi]
          exact List.getElem_mem hi
        have hg : (s.br.map (norm K)).getD (q s.h % s.br.length) [] = norm K (s.br.getD (q s.h % s.br.length) []) := by
          rw [List.getD, List.getD, List.getElem?_map, List.getElem?_eq_getElem hi]
          rfl
        split
        · rename_i hall
          rw [pth_nil, ← hn _ hmem, ← hg]
          have h1 : (s.br.map (norm K)).getD (q s.h % s.br.length) [] ∈ s.br.map (norm K) := by
            rw [hg]
            exact List.mem_map.2 ⟨_, hmem, rfl⟩
          have h2 := List.all_eq_true.1 hall _ h1
          rw [List.isEmpty_iff] at h2
          rw [h2]
          rfl
        · rw [pth_cons, pth_nil, List.append_nil, pth1_eq]
          rw [show (Sx.mk s.h (s.br.map (norm K))).h = s.h from rfl, show (Sx.mk s.h (s.br.map (norm K))).br = s.br.map (norm K) from rfl, if_pos hc, List.length_map, hg]
          exact hn _ hmem
      · have g1 : s.br.getD (q s.h % s.br.length) [] = [] := by rw [List.getD, List.getElem?_eq_none (by omega)]; rfl
        rw [g1]
        split
        · rfl
        · rw [pth_cons, pth_nil, List.append_nil, pth1_eq]
          rw [show (Sx.mk s.h (s.br.map (norm K))).h = s.h from rfl, show (Sx.mk s.h (s.br.map (norm K))).br = s.br.map (norm K) from rfl, if_pos hc, List.length_map]
          have g2 : (s.br.map (norm K)).getD (q s.h % s.br.length) [] = [] := by rw [List.getD, List.getElem?_eq_none (by rw [List.length_map]; omega)]; rfl
          rw [g2]
          rfl
    · rw [if_neg hc, pth1_eq K q s, if_neg hc, pth_cons, pth_nil, List.append_nil, pth1_eq K q s, if_neg hc]
theorem pth_norm (q : H → Nat) (hq : ∀ a b, K.key a b = true → q a = q b) (l : List (Sx H)) : pth K q (norm K l) = pth K q l := by
  induction l with
  | nil => rfl
  | cons a l ih => rw [norm_cons, pth_app K q hq _ _ _ (Nat.le_refl _), pth_norm1 K q hq, ih, pth_cons]
end fu
end Go.Proofs.Ytnjaimpflaoehaa
namespace Go.Proofs.Ytnjaimpflaoehaa
open Go.RowKit Go.Sort
namespace fu
theorem zs_one (l : List Zt) : ∀ u ∈ zsC l, u.oneCell' = true := by
  intro u hu
  simp only [zsC, List.mem_flatMap] at hu
  obtain ⟨z, _, h⟩ := hu
  exact z_one z u h
end fu
end Go.Proofs.Ytnjaimpflaoehaa
namespace Go.Proofs.Ytnjaimpflaoehaa
open Go.RowKit Go.Sort
namespace fu
section
variable {P : Program} (w : World)
end
theorem zc_at {w : World} {a : Addr} {z : Zt} (h : ZC w a z) : ∀ q u, q < 12 → (zCs z)[q]? = some u → w.cell? (a.add q) = some u := by
  intro q u hm hu2
  obtain ⟨k0, k1, k2, k3, k4, k5, k6, k7, k8, k9, k10, k11⟩ := h
  rcases q with _ | _ | _ | _ | _ | _ | _ | _ | _ | _ | _ | _ | q
  all_goals first | omega | skip
  all_goals (simp only [zCs, List.getElem?_cons_zero, List.getElem?_cons_succ, Option.some.injEq] at hu2; subst hu2)
  · rw [add_zero']; exact k0
  all_goals first | exact k1 | exact k2 | exact k3 | exact k4 | exact k5 | exact k6 | exact k7 | exact k8 | exact k9 | exact k10 | exact k11
theorem zs_rdv {w : World} {Q : Nat → Prop} {r : Rw Zt} (h : RdQ w Q 12 ZC r) : RdV w r.A (zsC r.l) := fun hn => by
  obtain ⟨A, c, l⟩ := r
  simp only at hn h ⊢
  obtain ⟨ad, e, hb⟩ := h.1 (by rintro rfl; exact hn rfl)
  refine ⟨ad, e, fun j u hu => ?_⟩
  have hj : j < l.length * 12 := by
    have := (List.getElem?_eq_some_iff.1 hu).1
    rwa [zsC_length] at this
  have hy : l[j / 12]? = some l[j / 12] := List.getElem?_eq_getElem (by omega)
  have hm : j % 12 < 12 := Nat.mod_lt _ (by decide)
  have hu2 := zsC_get l (j / 12) _ hy (j % 12) hm
  rw [show j / 12 * 12 + j % 12 = j by omega, hu] at hu2
  have hc := h.2.1 ad (j / 12) _ e hy
  have e1 : ad.add j = (ad.add (j / 12 * 12)).add (j % 12) := by rw [add_add', show j / 12 * 12 + j % 12 = j by omega]
  rw [e1]
  exact zc_at hc _ _ hm hu2.symm
end fu
end Go.Proofs.Ytnjaimpflaoehaa
namespace Go.Proofs.Ytnjaimpflaoehaa
open Go.RowKit Go.Sort
namespace fu
theorem pth_le_of (q : Hd → Nat) : ∀ l : List (Sx Hd), (∀ t ∈ l, (pth1 HK q t).length ≤ wgt1 t) → (pth HK q l).length ≤ wgt l
  | [], _ => Nat.zero_le _
  | t :: l, h => by
    have h1 := pth_le_of q l fun u hu => h u (List.mem_cons_of_mem _ hu)
    have h2 := h t List.mem_cons_self
    have e2 : wgt (t :: l) = wgt1 t + wgt l := sumL_cons _ _ _
    rw [pth_cons, List.length_append]
    omega
theorem pth1_le (q : Hd → Nat) (s : Sx Hd) : (pth1 HK q s).length ≤ wgt1 s := by
  induction s using Sx.ind with
  | h s ih =>
    rw [pth1_eq]
    by_cases hc : HK.c s.h = true
    · rw [if_pos hc, wgt_case hc]
      by_cases hi : q s.h % s.br.length < s.br.length
      · have hm : s.br[q s.h % s.br.length] ∈ s.br := List.getElem_mem hi
        have e : s.br.getD (q s.h % s.br.length) [] = s.br[q s.h % s.br.length] := by simp [hi]
        rw [e]
        have h1 := pth_le_of q _ (ih _ hm)
        have h2 : wgt s.br[q s.h % s.br.length] ≤ sumL wgt s.br := sumL_mem wgt hm
        omega
      · have e : s.br.getD (q s.h % s.br.length) [] = [] := by
          rw [List.getD_eq_getElem?_getD, List.getElem?_eq_none (by omega)]
          rfl
        rw [e, pth_nil]
        exact Nat.zero_le _
    · rw [if_neg hc]
      unfold wgt1
      rw [num1_eq, if_neg hc]
      simp
theorem pth_le (q : Hd → Nat) (l : List (Sx Hd)) : (pth HK q l).length ≤ wgt l := pth_le_of q l fun t _ => pth1_le q t
theorem wgt_take_le (l : List Zt) (k : Nat) : wgt (cts (l.take k)) ≤ wgt (cts l) := by
  rw [show cts (l.take k) = (cts l).take k from List.map_take]
  exact sumL_take_le _ _ _
theorem pth1_plain {q : Hd → Nat} {z : Zt} (h : ¬ z.k = 3) : pth1 HK q z.ct = [z.ct] := by
  rw [pth1_eq, Zt.ct_h, if_neg]
  show ¬ decide (z.k = 3) = true
  simpa using h
theorem and20 (n : Int) : bits .and .i64 n 1048575 = n % 1048576 := by
  have h127 : (BitVec.ofInt 64 1048575).toNat = 2 ^ 20 - 1 := by decide
  have key : (BitVec.ofInt 64 n &&& BitVec.ofInt 64 1048575).toNat = (n % ((2 ^ 64 : Nat) : Int)).toNat % 2 ^ 20 := by
    rw [BitVec.toNat_and, BitVec.toNat_ofInt, h127, Nat.and_two_pow_sub_one_eq_mod]
  show IntKind.i64.wrap ((BitVec.ofInt 64 n &&& BitVec.ofInt 64 1048575).toNat : Nat) = n % 1048576
  rw [key, IntKind.wrap_i64]
  omega
def phs (seed : Int) : List UInt8 → Int := List.foldl (fun k b => wrap64 (wrap64 (5 * k) + wrap64 (b.toNat : Int))) seed
theorem phs_more (seed : Int) (s : ByteArray) (m : Nat) (h : m < s.size) : phs seed (s.toList.take (m + 1)) = wrap64 (wrap64 (5 * phs seed (s.toList.take m)) + wrap64 (s[m].toNat : Int)) := by
  have h1 : s.toList[m]? = some s[m] := by
    rw [ByteArray.toList_eq, Array.getElem?_toList, Array.getElem?_eq_getElem h]
    rfl
  rw [take_succ_of h1]
  unfold phs
  rw [List.foldl_append]
  rfl
theorem pth1_case {q : Hd → Nat} {z : Zt} (h : z.k = 3) : pth1 HK q z.ct = pth HK q ((z.br.l.map fun b => cts b.l).getD (q z.hd % z.br.l.length) []) := by
  rw [pth1_eq, Zt.ct_h, if_pos, Zt.ct_br, List.length_map]
  show decide (z.k = 3) = true
  simpa using h
theorem pth1_none {q : Hd → Nat} {z : Zt} (h : z.k = 3) (hb : z.br.l.length = 0) : pth1 HK q z.ct = [] := by
  rw [pth1_case h, List.length_eq_zero_iff.1 hb]
  rfl
def qp (seed : Int) (h : Hd) : Nat := (wrap64 (phs seed h.nm + h.t) % 1048576).toNat
theorem qp_is (seed : Int) (z : Zt) : bits .and .i64 (wrap64 (phs seed z.nm.toList + z.t)) 1048575 = ((qp seed z.hd : Nat) : Int) := by
  rw [and20]
  unfold qp
  show _ = (((wrap64 (phs seed z.nm.toList + z.t)) % 1048576).toNat : Int)
  omega
theorem pth1_some {q : Hd → Nat} {z : Zt} {r : Rw Zt} (h : z.k = 3) (hb : z.br.l[q z.hd % z.br.l.length]? = some r) : pth1 HK q z.ct = pth HK q (cts r.l) := by
  rw [pth1_case h, List.getD_eq_getElem?_getD, List.getElem?_map, hb]
  rfl
def NewP (H : Nat) (cs : List (Sx Hd)) (w : World) (e : Ending) (w' : World) : Prop := ∃ (A : Option Addr) (c : Nat) (L : List Zt), e = .returned (.slice A L.length c) ∧ cts L = cs ∧ w'.ownsRow w.heap.size 38 12 (.slice A L.length c) L.length (zsC L) ∧ (∀ y ∈ L, RsZ w' H y) ∧ Below w.heap.size w w'
end fu
end Go.Proofs.Ytnjaimpflaoehaa
namespace Go.Proofs.Ytnjaimpflaoehaa
open Go.RowKit Go.Sort
namespace fu
set_option maxRecDepth 100000 in
set_option maxHeartbeats 4000000 in
theorem path_of (seed : Int) (a : Rw Zt) (w : World) (H : Nat) (hR : RsL w H a) (hH : H ≤ w.heap.size) (hw : wgt (cts a.l) ≤ 200000) (hN : ∀ t ∈ cts a.l, AllN t)
    (KP : Hid (∀ z ∈ a.l, z.k = 3 → ∀ b ∈ z.br.l, ∀ W, Below w.heap.size w W → Calls Try.prog 15 #[.slice b.A b.l.length b.c, .int .i64 seed] W (NewP H (pth HK (qp seed) (cts b.l)) W))) :
    Calls Try.prog 15 #[.slice a.A a.l.length a.c, .int .i64 seed] w (NewP H (pth HK (qp seed) (cts a.l)) w) := by
  obtain ⟨i0, hi, iz, is, ib⟩ := info_parts zpInfo
  have HR := Lib.hid (hR.blw (Below.refl H w) hH)
  have HRH := Lib.hid hR
  have hln : a.l.length ≤ 200000 := by
    have := wgt_len (cts a.l)
    rw [show (cts a.l).length = a.l.length from List.length_map _] at this
    omega
  have HP := Lib.hid (fun k => Nat.le_trans (pth_le (qp seed) (cts (a.l.take k))) (Nat.le_trans (wgt_take_le a.l k) hw))
  have HN := Lib.hid (fun z (hz : z ∈ a.l) => hN z.ct (List.mem_map_of_mem hz))
  clear hR hN
  obtain ⟨A, c, l⟩ := a
  simp only at HR HRH KP HN HP hw hln ⊢
  go_enter Try.func15, Try.ntmps15
  go_wp2
  go_loopw [5, 6] (fun v i wr => ∃ (k : Nat) (L : List Zt) (A2 : Option Addr) (c2 : Nat), k ≤ l.length ∧ i = .int .i64 (k : Int) ∧ v = .slice A2 L.length c2 ∧ Hid (cts L = pth HK (qp seed) (cts (l.take k))) ∧ Hid (wr.ownsRow w.heap.size 38 12 (.slice A2 L.length c2) L.length (zsC L)) ∧ Hid (∀ y ∈ L, RsZ wr H y) ∧ Below w.heap.size w wr) (fun _ i _ => l.length - (intOf i).toNat)
  case atStart => exact ⟨0, [], none, 0, by omega, rfl, rfl, Lib.hid rfl, Lib.hid ⟨rfl, .inl ⟨rfl, rfl⟩⟩, Lib.hid (by simp), Below.refl _ _⟩
  case round =>
    obtain ⟨k, L, A2, c2, hk, rfl, rfl, HC, HO, HE, hbl⟩ := hrel
    by_cases hlt : k < l.length
    · obtain ⟨ad, z, hA, had, hz, hm, d0, d1, d2, d3, d4, d5, d6, d7, d8, d9, d10, d11⟩ := (HR.out.1.blw oneB_Z hbl (Nat.le_refl _)).at_ hlt
      simp only at hA
      subst hA
      simp only at hz hm
      have e12 : (k : Int) < (l.length : Int) := by omega
      have HT : Hid (pth HK (qp seed) (cts (l.take (k + 1))) = pth HK (qp seed) (cts (l.take k)) ++ pth1 HK (qp seed) z.ct) := Lib.hid (by rw [cts_take hz, pth_append, pth_cons, pth_nil, List.append_nil])
      have HZ := Lib.hid hz
      have HM := Lib.hid hm
      clear hz hm
      have hbz := boxZ_one wr z
      have hb0 : Below w.heap.size w (wr.alloc (zB z)) := (by repeat (first | (with_reducible exact Below.refl _ _) | (with_reducible assumption) | (with_reducible exact bel_box _) | (with_reducible refine bel_step ?_ (by with_reducible assumption)) | (with_reducible refine Below.drew ?_) | (with_reducible refine below_drewN ?_ _) | (with_reducible refine bel_alloc ?_ _)))
      have hll : L.length ≤ 200000 := by
        have h1 := HP.out k
        have h2 := congrArg List.length HC.out
        rw [show (cts L).length = L.length from List.length_map _] at h2
        omega
      by_cases hk3 : z.k = 3
      · obtain ⟨wo, hwo⟩ : ∃ wo, wo = wr := ⟨wr, rfl⟩
        subst hwo
        rw [hk3] at d0
        have HBZ := Lib.hid hbz
        have HX : Hid (∀ W, Below (wo.alloc (zB z)).heap.size (wo.alloc (zB z)) W → W.ownsRow w.heap.size 38 12 (.slice A2 L.length c2) L.length (zsC L) ∧ (∀ y ∈ L, RsZ W H y) ∧ Below w.heap.size w W) := Lib.hid fun W hb => by
          have h1 : Below wo.heap.size wo W := bel_step (bel_box (w := wo) (zB z)) hb
          exact ⟨own_keepZ HO.out h1, fun y hy => (HE.out y hy).blw (h1.mono (Nat.le_trans hH hbl.size)) (Nat.le_refl _), hbl.trans (h1.mono hbl.size)⟩
        clear hbz hb0 HO HE hbl
        have hnz : z.nm.size ≤ maxLen := by
          have := (HN.out z HM.out).of.1.1
          rw [Zt.ct_h] at this
          rw [← toList_len]
          exact this
        unfold maxLen at hnz
        go_wp2
        go_loopw [8, 9] (fun v j W => ∃ m : Nat, m ≤ z.nm.size ∧ j = .int .i64 (m : Int) ∧ v = .int .i64 (phs seed (z.nm.toList.take m)) ∧ Below (wo.alloc (zB z)).heap.size (wo.alloc (zB z)) W) (fun _ j _ => z.nm.size - (intOf j).toNat)
        case atStart => exact ⟨0, by omega, rfl, rfl, by rw [← hk3]; exact Below.refl _ _⟩
        case round =>
          obtain ⟨m, hm, rfl, rfl, hbW⟩ := hrel
          obtain ⟨hxo, hxe, hb9⟩ := HX.out wr hbW
          have HXO := Lib.hid hxo
          have HXE := Lib.hid hxe
          clear hxo hxe
          clear d0 d1 d2 d3 d4 d5 d6 d7 d8 d9 d10 d11
          obtain ⟨m0, m1, m2, m3, m4, m5, m6, m7, m8, m9, m10, m11⟩ := HBZ.out.keep hbW
          by_cases hlt2 : m < z.nm.size
          · have e13 : (m : Int) < (z.nm.size : Int) := by omega
            have e14 : phs seed (z.nm.toList.take (m + 1)) = wrap64 (wrap64 (5 * phs seed (z.nm.toList.take m)) + wrap64 (z.nm[m].toNat : Int)) := phs_more seed z.nm m hlt2
            have E14 := Lib.hid e14
            clear e14
            go_wp2
            go_roundw
            case rel => exact ⟨m + 1, by omega, by go_num, by rw [E14.out], hbW⟩
            case measure => simp [intOf]; omega
          · have e13 : ¬ ((m : Int) < (z.nm.size : Int)) := by omega
            by_cases hb : 0 < z.br.l.length
            · have e15 : (0 : Int) < (z.br.l.length : Int) := by omega
              have hme : m = z.nm.size := by omega
              have hmt : z.nm.toList.take m = z.nm.toList := List.take_of_length_le (by rw [toList_len]; omega)
              have hv : bits .and .i64 (wrap64 (phs seed (z.nm.toList.take m) + z.t)) 1048575 = ((qp seed z.hd : Nat) : Int) := by rw [hmt]; exact qp_is seed z
              have HI : qp seed z.hd % z.br.l.length < z.br.l.length := Nat.mod_lt _ hb
              obtain ⟨ad2, b, hA2, had2, hbq, hbm, c2⟩ := ((HRH.out.2 z HM.out).brs.1.blw oneB_A (hb9.mono hH) (Nat.le_refl _)).at_ HI
              have KB := Lib.hid (fun W (h : Below w.heap.size w W) => KP.out z HM.out hk3 b hbm W h)
              have HT2 : Hid (pth HK (qp seed) (cts (l.take (k + 1))) = pth HK (qp seed) (cts (l.take k)) ++ pth HK (qp seed) (cts b.l)) := Lib.hid (by rw [HT.out, pth1_some hk3 hbq])
              have HS6 : Hid (∀ L6 : List Zt, cts L6 = pth HK (qp seed) (cts b.l) → L.length + L6.length ≤ 200000) := Lib.hid fun L6 h6 => by
                have h1 := HP.out (k + 1)
                rw [HT2.out, ← HC.out, ← h6, List.length_append] at h1
                simpa [cts] using h1
              rw [hA2] at m11
              rw [Nat.mul_one] at c2
              have c3 : wr.cell? (ad2.add (qp seed z.hd % z.br.l.length)) = some (.slice b.A b.l.length b.c) := c2
              have e20 : (qp seed z.hd : Int).tmod (z.br.l.length : Int) = ((qp seed z.hd % z.br.l.length : Nat) : Int) := rfl
              have e21 : (qp seed z.hd : Int) % (z.br.l.length : Int) = ((qp seed z.hd % z.br.l.length : Nat) : Int) := rfl
              have e22 : ¬ ((z.br.l.length : Int) = 0) := by omega
              have e23 : (0 : Int) ≤ ((qp seed z.hd % z.br.l.length : Nat) : Int) := by omega
              have e24 : ((qp seed z.hd % z.br.l.length : Nat) : Int) < (z.br.l.length : Int) := by omega
              have e25 : ¬ z.br.l = [] := by intro e; rw [e] at hb; simp at hb
              clear hA2 hbq hbm c2 hme hmt HI HT KP
              go_wp2
              clear hv
              generalize qp seed z.hd % z.br.l.length = I at *
              generalize qp seed z.hd = Q at *
              go_region_law (first | (go_simp; go_at_call 15; (with_reducible refine (KB.out _ ?_).mono ?_); (focus ((repeat (first | (with_reducible exact Below.refl _ _) | (with_reducible assumption) | (with_reducible exact bel_box _) | (with_reducible refine bel_step ?_ (by with_reducible assumption)) | (with_reducible refine Below.drew ?_) | (with_reducible refine below_drewN ?_ _) | (with_reducible refine bel_alloc ?_ _))); done)); rintro e w6 ⟨A6, c6, L6, rfl, hLc, hLo, hLr, hb6⟩; have hl6 := HS6.out L6 hLc; have hrv : RdV w6 A6 (zsC L6) := zs_rdv (own_rdq hLo (by unfold maxLen; omega)); have HLC := Lib.hid (And.intro hLc (And.intro hLo hLr)); clear hLc hLo hLr) | ((refine step_append_rdZ _ rfl _ _ 22 rfl w.heap.size 38 i0 z0 12 176 Try.underlying22 hi iz is ib rfl (by decide) _ L.length (zsC L) rfl (own_keepZ HXO.out ?_) A6 L6.length c6 (zsC L6) rfl (zsC_length L6) hrv (zs_one L6) (by unfold maxLen; omega) (by omega) ?_ ?_); (focus ((repeat (first | (with_reducible exact Below.refl _ _) | (with_reducible assumption) | (with_reducible exact bel_box _) | (with_reducible refine bel_step ?_ (by with_reducible assumption)) | (with_reducible refine Below.drew ?_) | (with_reducible refine below_drewN ?_ _) | (with_reducible refine bel_alloc ?_ _))); done)); (focus (exact Nat.le_trans hb9.size hb6.size)); intro v3 w3 hown3 hgrow3 hat3; obtain ⟨A5, c5, rfl⟩ := own_formZ hown3))
              all_goals
                have hb6w : Below wr.heap.size wr w6 := (by repeat (first | (with_reducible exact Below.refl _ _) | (with_reducible assumption) | (with_reducible exact bel_box _) | (with_reducible refine bel_step ?_ (by with_reducible assumption)) | (with_reducible refine Below.drew ?_) | (with_reducible refine below_drewN ?_ _) | (with_reducible refine bel_alloc ?_ _)))
                have hown6 := own_keepZ HXO.out hb6w
                have hb7 : Below w.heap.size w6 w3 := (Below.refl _ _).grown hgrow3 (Nat.le_trans hb9.size hb6w.size) fun e he => (hown6.lt e he).1
                have hb8 : Below w.heap.size wr w3 := (hb6w.mono hb9.size).trans hb7
                have e1 : zsC L ++ zsC L6 = zsC (L ++ L6) := (zsC_app L L6).symm
                have e2 : (L ++ L6).length = L.length + L6.length := List.length_append
                rw [e1] at hown3
                clear hgrow3 hat3 hown6 e1 hb6w hb6
                go_wp2
                go_roundw
                case rel =>
                  refine ⟨k + 1, L ++ L6, A5, c5, by omega, by go_num, by rw [e2], Lib.hid ?_, Lib.hid (by rw [e2]; exact hown3), Lib.hid fun y hy => ?_, hb9.trans hb8⟩
                  · rw [HT2.out, ← HC.out, ← HLC.out.1]
                    simp [cts]
                  · rcases List.mem_append.1 hy with hy | hy
                    · exact (HXE.out y hy).blw (hb8.mono hH) (Nat.le_refl _)
                    · exact (HLC.out.2.2 y hy).blw (hb7.mono hH) (Nat.le_refl _)
                case measure => simp [intOf]; omega
            · have e15 : ¬ (0 : Int) < (z.br.l.length : Int) := by omega
              have hbn : pth1 HK (qp seed) z.ct = [] := pth1_none hk3 (by omega)
              rw [hbn, List.append_nil] at HT
              go_wp2
              go_roundw
              case rel => exact ⟨k + 1, L, A2, c2, by omega, by go_num, rfl, Lib.hid (by rw [HT.out]; exact HC.out), HXO, HXE, hb9⟩
              case measure => simp [intOf]; omega
      · clear hbz hb0
        have hrz := rowZ (wr.alloc (zB z)) z 38
        rw [World.size_alloc] at hrz
        go_wp2_with (at_builtin; (refine wpList_append_own_at _ rfl _ _ 22 rfl w.heap.size 38 i0 z0 12 176 Try.underlying22 hi iz is ib rfl (by decide) _ L.length (zsC L) rfl (own_keepZ HO.out ?_) ⟨wr.heap.size + 1, 0, none⟩ 1 1 (zCs z) rfl rfl hrz (z_one z) (by unfold maxLen; omega) (by omega) ?_ ?_; (focus ((repeat (first | (with_reducible exact Below.refl _ _) | (with_reducible assumption) | (with_reducible exact bel_box _) | (with_reducible refine bel_step ?_ (by with_reducible assumption)) | (with_reducible refine Below.drew ?_) | (with_reducible refine below_drewN ?_ _) | (with_reducible refine bel_alloc ?_ _))); done)); (focus (have h2 := hbl.size; simp; omega)); intro v3 w3 hown3 hgrow3 _ hat3; obtain ⟨A3, c3', rfl⟩ := own_formZ hown3))
        obtain ⟨_, _, _, _, s5⟩ := oth_step (B := w.heap.size) (w5 := wr.alloc (zB z)) hbl.size HO.out (bel_box _) hgrow3 hat3
        have e1 : zsC L ++ zCs z = zsC (L ++ [z]) := by rw [zsC_app, zsC_one]
        have e2 : (L ++ [z]).length = L.length + 1 := by simp
        rw [e1] at hown3
        refine ⟨⟨k + 1, L ++ [z], A3, c3', by omega, by congr 1, by rw [e2], Lib.hid (by rw [HT.out, ← HC.out, pth1_plain hk3]; simp [cts]), Lib.hid (by rw [e2]; exact hown3), Lib.hid fun y hy => ?_, hbl.trans s5⟩, by simp [intOf]; omega⟩
        rcases List.mem_append.1 hy with hy | hy
        · exact (HE.out y hy).blw (s5.mono hH) (Nat.le_refl _)
        · obtain rfl := List.mem_singleton.1 hy
          exact (HRH.out.2 _ HM.out).blw ((hbl.trans s5).mono hH) (Nat.le_refl _)
    · have hke : l.take k = l := List.take_of_length_le (by omega)
      have e12 : ¬ ((k : Int) < (l.length : Int)) := by omega
      rw [hke] at HC
      go_wp2
      go_ret
      exact ⟨A2, c2, L, rfl, HC.out, HO.out, HE.out, hbl⟩
end fu
end Go.Proofs.Ytnjaimpflaoehaa
namespace Go.Proofs.Ytnjaimpflaoehaa
open Go.RowKit Go.Sort
namespace fu
theorem path_all (seed : Int) : ∀ (n : Nat) (a : Rw Zt) (w : World) (H : Nat), SizeOf.sizeOf a.l ≤ n → RsL w H a → H ≤ w.heap.size → wgt (cts a.l) ≤ 200000 → (∀ t ∈ cts a.l, AllN t) → Calls Try.prog 15 #[.slice a.A a.l.length a.c, .int .i64 seed] w (NewP H (pth HK (qp seed) (cts a.l)) w) := by
  intro n
  induction n with
  | zero => intro a w H h; cases ha : a.l <;> rw [ha] at h <;> simp at h
  | succ n ih =>
    intro a w H hn hR hH hw hN
    refine path_of seed a w H hR hH hw hN (Lib.hid fun z hz hk b hb W hbl => ?_)
    have hc : HK.c z.ct.h = true := by
      rw [Zt.ct_h]
      exact decide_eq_true hk
    have hbm : cts b.l ∈ z.ct.br := by
      rw [Zt.ct_br]
      exact List.mem_map_of_mem hb
    refine ih b W H ?_ (((hR.2 z hz).br hb).blw (hbl.mono hH) (Nat.le_refl _)) (Nat.le_trans hH hbl.size) ?_ ?_
    · have h1 := List.sizeOf_lt_of_mem hz
      have h2 := Zt.lt_row hb
      omega
    · have h1 := wgt_case hc
      have h2 : wgt (cts b.l) ≤ sumL wgt z.ct.br := sumL_mem wgt hbm
      have h3 : wgt1 z.ct ≤ wgt (cts a.l) := wgt_mem (List.mem_map_of_mem hz)
      omega
    · exact fun t ht => (hN z.ct (List.mem_map_of_mem hz)).of.2 _ hbm t ht
theorem smS_pth1 {m : Nat} (q : Hd → Nat) (s : Sx Hd) : SmS m s → ∀ t ∈ pth1 HK q s, SmS m t := by
  induction s using Sx.ind with
  | h s ih =>
    intro h t ht
    rw [pth1_eq] at ht
    by_cases hc : HK.c s.h = true
    · rw [if_pos hc] at ht
      by_cases hi : q s.h % s.br.length < s.br.length
      · have hm : s.br[q s.h % s.br.length] ∈ s.br := List.getElem_mem hi
        have e : s.br.getD (q s.h % s.br.length) [] = s.br[q s.h % s.br.length] := by simp [hi]
        rw [e] at ht
        obtain ⟨l, hl, htl⟩ := List.mem_flatten.1 ht
        obtain ⟨u, hu, rfl⟩ := List.mem_map.1 hl
        exact ih _ hm u hu (h.of.2.2.2.2 _ hm u hu) t htl
      · have e : s.br.getD (q s.h % s.br.length) [] = [] := by
          rw [List.getD_eq_getElem?_getD, List.getElem?_eq_none (by omega)]
          rfl
        rw [e, pth_nil] at ht
        cases ht
    · rw [if_neg hc] at ht
      obtain rfl := List.mem_singleton.1 ht
      exact h
theorem smS_pth {m : Nat} (q : Hd → Nat) {l : List (Sx Hd)} (h : ∀ t ∈ l, SmS m t) : ∀ t ∈ pth HK q l, SmS m t := fun t ht => by
  obtain ⟨b, hb, htb⟩ := List.mem_flatten.1 ht
  obtain ⟨u, hu, rfl⟩ := List.mem_map.1 hb
  exact smS_pth1 q u (h u hu) t htb
theorem qp_key (seed : Int) (a b : Hd) (h : HK.key a b = true) : qp seed a = qp seed b := by
  have h1 : (decide (a.nm = b.nm) && decide (a.t = b.t)) = true := h
  simp at h1
  unfold qp
  rw [h1.1, h1.2]
theorem path_r (seed : Int) (a : Rw Zt) (w : World) (hR : RsL w w.heap.size a) (hJ : JOk (cts a.l)) : Calls Try.prog 15 #[.slice a.A a.l.length a.c, .int .i64 seed] w (fun e w' => ∃ r : Rw Zt, e = .returned (.slice r.A r.l.length r.c) ∧ Hid (cts r.l = pth HK (qp seed) (cts a.l)) ∧ Hid (RsL w' w'.heap.size r) ∧ Hid (SmL 200000 r.l) ∧ Hid (Below w.heap.size w w')) := by
  refine (path_all seed _ a w w.heap.size (Nat.le_refl _) hR (Nat.le_refl _) hJ.wg hJ.nm).mono fun e w' h => ?_
  obtain ⟨A, c, L, h1, h2, h3, h4, h5⟩ := h
  have hl : L.length ≤ 200000 := by
    have e1 := pth_le (qp seed) (cts a.l)
    have e2 := hJ.wg
    rw [← h2, show (cts L).length = L.length from List.length_map _] at e1
    omega
  exact ⟨⟨A, c, L⟩, h1, Lib.hid h2, Lib.hid ⟨(own_rdq h3 (by unfold maxLen; omega)).rd fun b hb => hb.2.1, fun t ht => (h4 t ht).blw (Below.refl _ _) h5.size⟩, Lib.hid ⟨hl, fun t ht => smZ_ct t (smS_pth (qp seed) hJ.sm.2 _ (by rw [← h2]; exact List.mem_map_of_mem ht))⟩, Lib.hid h5⟩
theorem path_again (seed : Int) {W : World} {r : Rw Zt} {cs : List (Sx Hd)} (hc : Hid (cts r.l = norm HK cs)) (hR : Hid (RsL W W.heap.size r)) (hJ : Hid (JOk cs)) : Calls Try.prog 15 #[.slice r.A r.l.length r.c, .int .i64 seed] W (fun e w' => ∃ r2 : Rw Zt, e = .returned (.slice r2.A r2.l.length r2.c) ∧ Hid (cts r2.l = pth HK (qp seed) cs) ∧ Hid (RsL w' w'.heap.size r2) ∧ Hid (SmL 200000 r2.l) ∧ Hid (Below W.heap.size W w')) := by
  refine (path_r seed r W hR.out (by rw [hc.out]; exact jok_norm hJ.out)).mono fun e w' h => ?_
  obtain ⟨r2, e1, e2, e3, e4, e5⟩ := h
  exact ⟨r2, e1, Lib.hid (by rw [e2.out, hc.out]; exact pth_norm HK (qp seed) (qp_key seed) cs), e3, e4, e5⟩
theorem same_paths {W : World} {r r2 : Rw Zt} {cs : List (Sx Hd)} (hc : Hid (cts r.l = cs)) (h2 : Hid (cts r2.l = cs)) (hR : RsL W W.heap.size r) (hS : Hid (SmL 200000 r.l)) (hR2 : Hid (RsL W W.heap.size r2)) (hS2 : Hid (SmL 200000 r2.l)) : Calls Try.prog 9 #[.slice r.A r.l.length r.c, .slice r2.A r2.l.length r2.c] W (Bel (.bool true) W) := by
  have := rsameZ_all _ r r2 W (Nat.le_refl _) hR hR2.out hS.out hS2.out
  rwa [sameZ_yes (hc.out.trans h2.out.symm)] at this
set_option maxRecDepth 100000 in
set_option maxHeartbeats 4000000 in
theorem paths_any (a : Rw Zt) (s : Int) (w : World) (h : Ra w a) : Calls Try.prog 6 #[.slice a.A a.l.length a.c, .int .u16 s] w (Bel (.bool true) w) := by
  by_cases hw : wz a.l < 400
  · have K1 : Hid (Calls Try.prog 7 #[.slice a.A a.l.length a.c] w (Bel (.bool true) w)) := Lib.hid (by have := light_any a w h.1 h.2.1; rwa [decide_eq_true hw] at this)
    have HR := Lib.hid h.1
    have HJ := Lib.hid (jok_wz hw h.2.2)
    clear h hw
    have b1 := True.intro
    go_enter Try.func6, Try.ntmps6
    go_wp2_with (first
      | (go_at_call 7; (with_reducible refine (K1.out).mono ?_); clear K1; rintro e w1 ⟨rfl, hb1⟩)
      | (have bb := b1; clear bb; go_at_call 15; (with_reducible refine (path_r _ a w1 (HR.out.to hb1) HJ.out).mono ?_); rintro e w2 ⟨r1, rfl, hc2, hR2, hS2, hb2⟩; clear b1)
      | (go_at_call 10; (with_reducible refine (join_r a w2 ((HR.out.to hb1).to hb2.out) HJ.out).mono ?_); rintro e w3 ⟨r, rfl, hc3, hR3, hb3⟩)
      | (go_at_call 15; (with_reducible refine (path_again _ hc3 hR3 HJ).mono ?_); rintro e w4 ⟨r2, rfl, hc4, hR4, hS4, hb4⟩)
      | (go_at_call 9; (with_reducible refine (same_paths hc2 hc4 ((hR2.out.to hb3.out).to hb4.out) hS2 hR4 hS4).mono ?_); rintro e w5 ⟨rfl, hb5⟩)
      | (go_at_call 8; (with_reducible refine (awake_any w5).mono ?_); rintro e w6 ⟨rfl, hb6⟩))
    go_ret
    exact ⟨rfl, bel_step hb1 (bel_step hb2.out (bel_step hb3.out (bel_step hb4.out (bel_step hb5 hb6))))⟩
  · have K1 : Hid (Calls Try.prog 7 #[.slice a.A a.l.length a.c] w (Bel (.bool false) w)) := Lib.hid (by have := light_any a w h.1 h.2.1; rwa [decide_eq_false hw] at this)
    clear h hw
    go_enter Try.func6, Try.ntmps6
    go_wp2_with (first
      | (go_at_call 7; (with_reducible refine (K1.out).mono ?_); clear K1; rintro e w1 ⟨rfl, hb1⟩)
      | (go_at_call 8; (with_reducible refine (awake_any w1).mono ?_); rintro e w5 ⟨rfl, hb5⟩))
    go_ret
    exact ⟨rfl, bel_step hb1 hb5⟩
end fu
end Go.Proofs.Ytnjaimpflaoehaa
