/- Texts of one chain, in one file. -/
import Derived.ProofKit
import Derived.OpenShut
import Derived.Deep.Slices
import Derived.Lib.SmallJoins
import Derived.SizedLaws
import Derived.Deep.SlicePairs
import Derived.ChangeSlices
import Derived.ChangeSame
import Derived.Test.YtefmnjcllncmpaaQC
/- StreamMerge. -/
namespace Go.Proofs.Ytefmnjcllncmpaa
set_option linter.unusedVariables false
set_option linter.unusedSimpArgs false
open Go.RowKit Go.Sort
theorem togF_same (n : Nat) : ∀ ls : List St, (∀ s ∈ ls, s.l.length = n) → togF n ls = n
  | [], _ => rfl
  | s :: r, h => by
    show togF (min n s.l.length) r = n
    rw [h s (by simp), Nat.min_self]
    exact togF_same n r fun u hu => h u (by simp [hu])
theorem insts_of {w : World} {A : Option Addr} {l : List (Int × Int)} {t : Nat} (h : Hid (RdC w w.heap.size A l)) (ht : t < l.length) : ∃ ad e0 e1, A = some ad ∧ l[t]? = some (e0, e1) ∧ Hid (∀ W, Below w.heap.size w W → W.cell? (ad.add (t * 2)) = some (.int .i64 e0) ∧ W.cell? ⟨(ad.add (t * 2)).block, (ad.add (t * 2)).off + 1, none⟩ = some (.int .i64 e1)) := h.out.inst ht
theorem one_sl (A : Option Addr) (n c : Nat) : ∀ u ∈ [Value.slice A n c], u.oneCell' = true := by
  intro u hu
  obtain rfl : u = .slice A n c := by simpa using hu
  rfl
set_option maxHeartbeats 40000000 in
set_option maxRecDepth 20000 in
theorem mergel_any (A B : Option Addr) (c d : Nat) (l m : List (Int × Int)) (nn : Int) (w : World) (hA : RdC w w.heap.size A l) (hB : RdC w w.heap.size B m) (hl : l.length ≤ 9223372036854775807) (hm : m.length ≤ 9223372036854775807) (hlc : l.length ≤ c) (hmd : m.length ≤ d) (hn0 : 0 ≤ nn) (hn1 : nn ≤ 255) :
    Calls Try.prog 8 #[.slice A l.length c, .slice B m.length d, .int .u8 nn] w (Bel (.bool true) w) := by
  obtain ⟨i0, hi, iz, is, ib⟩ := info_parts cc.rowInfo
  have HA := Lib.hid hA
  have HB := Lib.hid hB
  have KG : Hid (∀ b W, RdS W W.heap.size (some ⟨b, 0, none⟩) [⟨A, c, l⟩, ⟨B, d, m⟩] → Calls Try.prog 9 #[.slice (some ⟨b, 0, none⟩) 2 2] W (Bel (.bool (longB [⟨A, c, l⟩, ⟨B, d, m⟩])) W)) := Lib.hid fun b W h => long_any (some ⟨b, 0, none⟩) 2 [⟨A, c, l⟩, ⟨B, d, m⟩] W h (by simp) (rl2 _ _ _ hl hm)
  have KL := Lib.hid lives_any
  cases hlg : longB [⟨A, c, l⟩, ⟨B, d, m⟩]
  · rw [hlg] at KG
    obtain ⟨_, h3⟩ := longB_no hlg
    have hl3 : l.length ≤ 300 := h3 ⟨A, c, l⟩ (by simp)
    have hm3 : m.length ≤ 300 := h3 ⟨B, d, m⟩ (by simp)
    clear hlg h3 hl hm
    by_cases hlm : m.length < l.length
    · have g1 : (m.length : Int) < (l.length : Int) := by omega
      have hq1 : m.length ≤ l.length := by omega
      have hq2 : m.length ≤ m.length := by omega
      have ca := cut_at A m.length c l.length hq1 hlc
      have cb := cut_at B m.length d m.length hq2 hmd
      have RA := Lib.hid (hA.cut m.length)
      have RB := Lib.hid (hB.cut m.length)
      have la : (l.take (m.length)).length = m.length := by rw [List.length_take]; omega
      have lb : (m.take (m.length)).length = m.length := by rw [List.length_take]; omega
      generalize hla : l.take (m.length) = l' at *
      generalize hma : m.take (m.length) = m' at *
      obtain ⟨K, hK⟩ : ∃ K : Nat, (K : Int) = nn % 8 + 1 := ⟨(nn % 8 + 1).toNat, by omega⟩
      have hK1 : 1 ≤ K := by omega
      have hK8 : K ≤ 8 := by omega
      have HKK := Lib.hid hK
      have PW : Hid (∀ i W, RdC W W.heap.size A l' → RdC W W.heap.size B m' → Calls Try.prog 30 #[.slice A (m.length) c, .slice B (m.length) d, .int .i64 i] W (NewG ((rowsTo [⟨A, c, l'⟩, ⟨B, d, m'⟩] (m.length)).map (whenF i)) (m.length) W)) := Lib.hid fun i W h k => by
        have := (whenF_any A B c d l' m' i W h k (by omega) (by omega)).mono fun e w' => newG (n := tog [⟨A, c, l'⟩, ⟨B, d, m'⟩]) (map_len _ _ _)
        rw [tog2, la, lb, Nat.min_self] at this
        exact this
      have PM : Hid (∀ V cv ls W, RdC W W.heap.size B m' → RdS W W.heap.size V ls → ls.length = K → (∀ s ∈ ls, s.l.length = m.length) → Calls Try.prog 24 #[.slice B (m.length) d, .slice V K cv] W (NewH ((rowsTo (⟨B, d, m'⟩ :: ls) (m.length)).map mergeF) (m.length) W)) := Lib.hid fun V cv ls W h k hk hs => by
        have htg : tog (⟨B, d, m'⟩ :: ls) = m.length := by
          rw [tog_cons, lb]; exact togF_same _ ls hs
        have := (mergeP_any B V d cv m' ls W h k (by omega) (by omega) (fun s hs' => by rw [hs s hs']; omega)).mono fun e w' => newH (n := tog (⟨B, d, m'⟩ :: ls)) (map_len _ _ _)
        rw [htg, lb, hk] at this
        exact this
      have FM : Hid (∀ (ls : List St) t, ls.length = K → (∀ (i : Nat) s, ls[i]? = some s → s.l = (rowsTo [⟨A, c, l'⟩, ⟨B, d, m'⟩] (m.length)).map (whenF (i : Int))) → t < m.length → ∀ v, m'.getD t (0, 0) = (1, v) → 0 ≤ v → v < (K : Int) → thB (l'.getD t (0, 0)) = true → ((rowsTo (⟨B, d, m'⟩ :: ls) (m.length)).map mergeF)[t]? = some (pl (l'.getD t (0, 0)))) := Lib.hid fun ls t hk hs ht v hv h0 h1 hth => merge_at B A B d c d m' l' ls (m.length) t ht hs v hv h0 (by rw [hk]; exact h1) hth
      have KT := Lib.hid rthere_any
      simp only [cV] at KT
      have HLA := Lib.hid la
      have HLB := Lib.hid lb
      clear hla hma hA hB hlc hmd hK
      go_enter Try.func8, Try.ntmps8
      go_wp2_with (go_at_call 9; (with_reducible refine (KG.out _ _ ?_).mono ?_); (focus (exact RdS.new [⟨A, c, l⟩, ⟨B, d, m⟩] _ rfl (rl2 _ _ _ (HA.out.to (by repeat (first | (with_reducible exact Below.refl _ _) | (with_reducible assumption) | (with_reducible exact bel_box _) | (with_reducible refine bel_step ?_ (by with_reducible assumption)) | (with_reducible refine Below.drew ?_) | (with_reducible refine below_drewN ?_ _) | (with_reducible refine bel_alloc ?_ _)))) (HB.out.to (by repeat (first | (with_reducible exact Below.refl _ _) | (with_reducible assumption) | (with_reducible exact bel_box _) | (with_reducible refine bel_step ?_ (by with_reducible assumption)) | (with_reducible refine Below.drew ?_) | (with_reducible refine below_drewN ?_ _) | (with_reducible refine bel_alloc ?_ _))))))); rintro e w0 ⟨rfl, hb0'⟩)
      go_region_held3 (fun W => True)
        ((exact trivial))
        (first | (fail))
      go_wp2
      have hWL : ∀ i : Int, ((rowsTo [⟨A, c, l'⟩, ⟨B, d, m'⟩] (m.length)).map (whenF i)).length = m.length := fun i => map_len _ _ _
      have HWL := Lib.hid hWL
      clear hWL
      obtain ⟨WL, hWL⟩ : ∃ WL : Nat → List (Int × Int), WL = fun i : Nat => (rowsTo [⟨A, c, l'⟩, ⟨B, d, m'⟩] (m.length)).map (whenF (i : Int)) := ⟨_, rfl⟩
      have HWE := Lib.hid hWL
      clear hWL
      go_loopw [8, 9] (fun v i wr => ∃ k : Nat, k ≤ K ∧ i = .int .i64 (k : Int) ∧ Hid (∃ ls : List St, ls.length = k ∧ wr.ownsRow w.heap.size 26 1 v k (ls.map stV) ∧ LsI wr v WL ls) ∧ Below w.heap.size w wr) (fun _ i _ => K - (intOf i).toNat)
      case atStart => exact ⟨0, by omega, rfl, Lib.hid ⟨[], rfl, World.ownsRow_nil _ _ _ _, fun j s h => by simp at h⟩, (by repeat (first | (with_reducible exact Below.refl _ _) | (with_reducible assumption) | (with_reducible exact bel_box _) | (with_reducible refine bel_step ?_ (by with_reducible assumption)) | (with_reducible refine Below.drew ?_) | (with_reducible refine below_drewN ?_ _) | (with_reducible refine bel_alloc ?_ _)))⟩
      case round =>
        obtain ⟨k, hk, rfl, hown, hbl⟩ := hrel
        have hsz := hbl.size
        by_cases hkn : k < K
        · obtain ⟨ls, hlk, hown1, hls⟩ := hown.out
          have HO := Lib.hid hown1
          have HLS := Lib.hid hls
          have HLK := Lib.hid hlk
          have hcmp : (k : Int) < nn % 8 + 1 := by have := HKK.out; omega
          clear hown hown1 hls hlk FM PM
          go_wp2_with (first
            | (go_at_call 30; (with_reducible refine (PW.out _ _ (RA.out.to ?_) (RB.out.to ?_)).mono ?_); (focus ((repeat (first | (with_reducible exact Below.refl _ _) | (with_reducible assumption) | (with_reducible exact bel_box _) | (with_reducible refine bel_step ?_ (by with_reducible assumption)) | (with_reducible refine Below.drew ?_) | (with_reducible refine below_drewN ?_ _) | (with_reducible refine bel_alloc ?_ _))); done)); (focus ((repeat (first | (with_reducible exact Below.refl _ _) | (with_reducible assumption) | (with_reducible exact bel_box _) | (with_reducible refine bel_step ?_ (by with_reducible assumption)) | (with_reducible refine Below.drew ?_) | (with_reducible refine below_drewN ?_ _) | (with_reducible refine bel_alloc ?_ _))); done)); rintro e w1 ⟨A1, c1, rfl, R1, hb1, F1⟩; have hz1 := hb1.size)
            | (at_builtin; refine wpList_append_own_at _ rfl _ _ 22 rfl w.heap.size 26 i0 (.slice none 0 0) 1 24 Try.underlying22 hi iz is ib rfl (by decide) _ k (ls.map stV) rfl (own2_keep HO.out (by repeat (first | (with_reducible exact Below.refl _ _) | (with_reducible assumption) | (with_reducible exact bel_box _) | (with_reducible refine bel_step ?_ (by with_reducible assumption)) | (with_reducible refine Below.drew ?_) | (with_reducible refine below_drewN ?_ _) | (with_reducible refine bel_alloc ?_ _)))) ⟨_, 0, none⟩ 1 1 [.slice A1 (m.length) c1] rfl rfl (by first | exact cell_one_new' _ _ _ | exact row1a _ _ _ _) (one_sl _ _ _) (by unfold maxLen; omega) (by omega) (by simp; omega) ?_; intro v1 w2 hown2 hgrow2 _ hv2))
          have hb2 : Below w.heap.size w w2 := own2_below hgrow2 rfl HO.out (by simp; omega) (by repeat (first | (with_reducible exact Below.refl _ _) | (with_reducible assumption) | (with_reducible exact bel_box _) | (with_reducible refine bel_step ?_ (by with_reducible assumption)) | (with_reducible refine Below.drew ?_) | (with_reducible refine below_drewN ?_ _) | (with_reducible refine bel_alloc ?_ _)))
          have hl1 : (rowsTo [⟨A, c, l'⟩, ⟨B, d, m'⟩] (m.length)).map (whenF (k : Int)) = WL k := by rw [HWE.out]
          have hLS := LsI.step (c1 := c1) HLS.out HO.out (by repeat (first | (with_reducible exact Below.refl _ _) | (with_reducible assumption) | (with_reducible exact bel_box _) | (with_reducible refine bel_step ?_ (by with_reducible assumption)) | (with_reducible refine Below.drew ?_) | (with_reducible refine below_drewN ?_ _) | (with_reducible refine bel_alloc ?_ _))) HLK.out hl1 R1.out (fun q hq => by have := F1.out q hq; omega) (by repeat (first | (with_reducible exact Below.refl _ _) | (with_reducible assumption) | (with_reducible exact bel_box _) | (with_reducible refine bel_step ?_ (by with_reducible assumption)) | (with_reducible refine Below.drew ?_) | (with_reducible refine below_drewN ?_ _) | (with_reducible refine bel_alloc ?_ _))) hgrow2 hv2
          have hcat : (ls ++ [(⟨A1, c1, (rowsTo [⟨A, c, l'⟩, ⟨B, d, m'⟩] (m.length)).map (whenF (k : Int))⟩ : St)]).map stV = ls.map stV ++ [.slice A1 (m.length) c1] := by
            rw [List.map_append]; simp only [List.map_cons, List.map_nil, stV]; rw [HWL.out]
          rw [← hcat] at hown2
          go_roundw
          case rel => exact ⟨k + 1, by omega, by go_num, Lib.hid ⟨_, by rw [List.length_append, HLK.out]; rfl, hown2, hLS⟩, hb2⟩
          case measure => simp [intOf]; omega
        · obtain rfl : k = K := by omega
          obtain ⟨ls, hlk, hown1, hls⟩ := hown.out
          obtain ⟨V, cv, rfl⟩ := own2_form hown1
          have hRS : RdS wr wr.heap.size V ls := ⟨Rd.of_own hown1, fun s hs => by
            obtain ⟨j, hj⟩ := List.getElem?_of_mem hs
            exact (hls j s hj).2.1⟩
          have hlen : ∀ s ∈ ls, s.l.length = m.length := fun s hs => by
            obtain ⟨j, hj⟩ := List.getElem?_of_mem hs
            rw [(hls j s hj).1, HWE.out]; exact HWL.out _
          have PM2 : Hid (∀ W, Below wr.heap.size wr W → Calls Try.prog 24 #[.slice B (m.length) d, .slice V k cv] W (NewH ((rowsTo (⟨B, d, m'⟩ :: ls) (m.length)).map mergeF) (m.length) W)) := Lib.hid fun W hb => PM.out V cv ls W ((RB.out.to hbl).to hb) (hRS.to hb) hlk hlen
          have FM2 := Lib.hid (fun t => FM.out ls t hlk (fun i s hi => by rw [(hls i s hi).1, HWE.out]))
          have L5 : Hid (((rowsTo (⟨B, d, m'⟩ :: ls) (m.length)).map mergeF).length = m.length) := Lib.hid (map_len _ _ _)
          have hcmp : ¬ (k : Int) < nn % 8 + 1 := by have := HKK.out; omega
          generalize (rowsTo (⟨B, d, m'⟩ :: ls) (m.length)).map mergeF = xo at *
          clear hown hown1 hls hlk PM FM PW hRS hlen HWE HWL
          obtain ⟨U, rfl⟩ : ∃ U, U = wr := ⟨_, rfl⟩
          go_wp2_with (go_at_call 24; (with_reducible refine (PM2.out _ ?_).mono ?_); (focus ((repeat (first | (with_reducible exact Below.refl _ _) | (with_reducible assumption) | (with_reducible exact bel_box _) | (with_reducible refine bel_step ?_ (by with_reducible assumption)) | (with_reducible refine Below.drew ?_) | (with_reducible refine below_drewN ?_ _) | (with_reducible refine bel_alloc ?_ _))); done)); rintro e w3 ⟨A3, c3, rfl, R3, hb3⟩)
          go_loopw [11] (fun i wr => ∃ t : Nat, t ≤ m.length ∧ i = .int .i64 (t : Int) ∧ Below w.heap.size w wr ∧ Below w3.heap.size w3 wr) (fun i _ => m.length - (intOf i).toNat)
          case atStart => exact ⟨0, by omega, rfl, (by repeat (first | (with_reducible exact Below.refl _ _) | (with_reducible assumption) | (with_reducible exact bel_box _) | (with_reducible refine bel_step ?_ (by with_reducible assumption)) | (with_reducible refine Below.drew ?_) | (with_reducible refine below_drewN ?_ _) | (with_reducible refine bel_alloc ?_ _))), (by repeat (first | (with_reducible exact Below.refl _ _) | (with_reducible assumption) | (with_reducible exact bel_box _) | (with_reducible refine bel_step ?_ (by with_reducible assumption)) | (with_reducible refine Below.drew ?_) | (with_reducible refine below_drewN ?_ _) | (with_reducible refine bel_alloc ?_ _)))⟩
          case round =>
            obtain ⟨t, ht, rfl, hbr, hbr3⟩ := hrel
            by_cases htn : t < m.length
            · obtain ⟨adA, a0, a1, rfl, hea, HEA⟩ := insts_of RA (show t < l'.length by rw [HLA.out]; exact htn)
              obtain ⟨adB, b0, b1, rfl, heb, HEB⟩ := insts_of RB (show t < m'.length by rw [HLB.out]; exact htn)
              obtain ⟨adO, o0, o1, rfl, heo, HEO⟩ := insts_of R3 (show t < xo.length by rw [L5.out]; exact htn)
              have KTA := Lib.hid (KT.out (a0, a1))
              have KTB := Lib.hid (KT.out (b0, b1))
              have hfm := FM2.out t htn
              rw [getD_of hea, getD_of heb, heo] at hfm
              have HF : Hid (b0 = 1 → 0 ≤ b1 → b1 < (k : Int) → thB (a0, a1) = true → o0 = a0 ∧ (a0 = 1 → o1 = a1)) := Lib.hid fun h1 h2 h3 h4 => by
                subst h1
                have h5 := Option.some.inj (hfm b1 rfl h2 h3 h4)
                have h6 := pl_kind h4
                rw [← h5] at h6
                exact h6
              have HK : Hid (∀ W, Below w.heap.size w W → Below w3.heap.size w3 W → W.cell? (adA.add (t * 2)) = some (.int .i64 a0) ∧ W.cell? ⟨(adA.add (t * 2)).block, (adA.add (t * 2)).off + 1, none⟩ = some (.int .i64 a1) ∧ W.cell? (adB.add (t * 2)) = some (.int .i64 b0) ∧ W.cell? ⟨(adB.add (t * 2)).block, (adB.add (t * 2)).off + 1, none⟩ = some (.int .i64 b1) ∧ W.cell? (adO.add (t * 2)) = some (.int .i64 o0) ∧ W.cell? ⟨(adO.add (t * 2)).block, (adO.add (t * 2)).off + 1, none⟩ = some (.int .i64 o1)) := Lib.hid fun W hW h3 => ⟨(HEA.out W hW).1, (HEA.out W hW).2, (HEB.out W hW).1, (HEB.out W hW).2, (HEO.out W h3).1, (HEO.out W h3).2⟩
              have i0 : (0 : Int) ≤ (t : Int) := by omega
              have i1 : (t : Int) < ((m.length : Nat) : Int) := by omega
              obtain ⟨q0, q1, q2, q3, q4, q5⟩ := HK.out wr hbr hbr3
              have HTB : Hid (b0 = 1 → thB (b0, b1) = true) := Lib.hid fun h => by subst h; rfl
              generalize thB (a0, a1) = ta at *
              generalize thB (b0, b1) = tb at *
              clear hea heb heo hfm HEA HEB FM2 KT PM2
              have hsp : tb = ta ∨ tb = !ta := by cases ta <;> cases tb <;> simp
              rcases hsp with rfl | rfl
              · have hsel : ¬ b0 = 1 ∨ (b0 = 1 ∧ b1 < 0) ∨ (b0 = 1 ∧ 0 ≤ b1 ∧ ¬ b1 < (k : Int)) ∨ (b0 = 1 ∧ 0 ≤ b1 ∧ b1 < (k : Int)) := by omega
                rcases hsel with e1 | ⟨rfl, e2⟩ | ⟨rfl, e2, e3⟩ | ⟨rfl, e2, e3⟩
                · clear HF HTB
                  cases tb
                  all_goals
                    go_wp2_with (fail)
                    go_region_held3 (fun W => W.cell? (adA.add (t * 2)) = some (.int .i64 a0) ∧ W.cell? ⟨(adA.add (t * 2)).block, (adA.add (t * 2)).off + 1, none⟩ = some (.int .i64 a1) ∧ W.cell? (adB.add (t * 2)) = some (.int .i64 b0) ∧ W.cell? ⟨(adB.add (t * 2)).block, (adB.add (t * 2)).off + 1, none⟩ = some (.int .i64 b1) ∧ W.cell? (adO.add (t * 2)) = some (.int .i64 o0) ∧ W.cell? ⟨(adO.add (t * 2)).block, (adO.add (t * 2)).off + 1, none⟩ = some (.int .i64 o1))
                      ((refine HK.out _ ?_ ?_; (focus ((repeat (first | (with_reducible exact Below.refl _ _) | (with_reducible assumption) | (with_reducible exact bel_box _) | (with_reducible refine bel_step ?_ (by with_reducible assumption)) | (with_reducible refine Below.drew ?_) | (with_reducible refine below_drewN ?_ _) | (with_reducible refine bel_alloc ?_ _))); done)); (focus ((repeat (first | (with_reducible exact Below.refl _ _) | (with_reducible assumption) | (with_reducible exact bel_box _) | (with_reducible refine bel_step ?_ (by with_reducible assumption)) | (with_reducible refine Below.drew ?_) | (with_reducible refine below_drewN ?_ _) | (with_reducible refine bel_alloc ?_ _))); done))))
                      (first
                        | (go_at_call 32; (with_reducible refine (KTA.out _).mono ?_); rintro e u1 ⟨rfl, hu1⟩)
                        | (go_at_call 32; (with_reducible refine (KTB.out _).mono ?_); rintro e u2 ⟨rfl, hu2⟩))
                  all_goals
                    go_wp2_with (fail)
                    refine wp_region_wq (by kernel_rfl) (by exact reg_lex) ?_
                    repeat (refine wqStep (fun K hK => ?_); go_simp; refine hK _ ?_; clear hK K)
                    refine wqNil ?_
                    intro _ hw'
                    obtain ⟨nq, hw''⟩ := hw'
                    subst hw''
                    go_wp2
                    go_roundw
                    case rel => exact ⟨t + 1, by omega, by go_num, (by repeat (first | (with_reducible exact Below.refl _ _) | (with_reducible assumption) | (with_reducible exact bel_box _) | (with_reducible refine bel_step ?_ (by with_reducible assumption)) | (with_reducible refine Below.drew ?_) | (with_reducible refine below_drewN ?_ _) | (with_reducible refine bel_alloc ?_ _))), (by repeat (first | (with_reducible exact Below.refl _ _) | (with_reducible assumption) | (with_reducible exact bel_box _) | (with_reducible refine bel_step ?_ (by with_reducible assumption)) | (with_reducible refine Below.drew ?_) | (with_reducible refine below_drewN ?_ _) | (with_reducible refine bel_alloc ?_ _)))⟩
                    case measure => simp [intOf]; omega
                · obtain rfl : tb = true := HTB.out rfl
                  clear HF HTB
                  go_wp2_with (fail)
                  go_region_held3 (fun W => W.cell? (adA.add (t * 2)) = some (.int .i64 a0) ∧ W.cell? ⟨(adA.add (t * 2)).block, (adA.add (t * 2)).off + 1, none⟩ = some (.int .i64 a1) ∧ W.cell? (adB.add (t * 2)) = some (.int .i64 1) ∧ W.cell? ⟨(adB.add (t * 2)).block, (adB.add (t * 2)).off + 1, none⟩ = some (.int .i64 b1) ∧ W.cell? (adO.add (t * 2)) = some (.int .i64 o0) ∧ W.cell? ⟨(adO.add (t * 2)).block, (adO.add (t * 2)).off + 1, none⟩ = some (.int .i64 o1))
                    ((refine HK.out _ ?_ ?_; (focus ((repeat (first | (with_reducible exact Below.refl _ _) | (with_reducible assumption) | (with_reducible exact bel_box _) | (with_reducible refine bel_step ?_ (by with_reducible assumption)) | (with_reducible refine Below.drew ?_) | (with_reducible refine below_drewN ?_ _) | (with_reducible refine bel_alloc ?_ _))); done)); (focus ((repeat (first | (with_reducible exact Below.refl _ _) | (with_reducible assumption) | (with_reducible exact bel_box _) | (with_reducible refine bel_step ?_ (by with_reducible assumption)) | (with_reducible refine Below.drew ?_) | (with_reducible refine below_drewN ?_ _) | (with_reducible refine bel_alloc ?_ _))); done))))
                    (first
                      | (go_at_call 32; (with_reducible refine (KTA.out _).mono ?_); rintro e u1 ⟨rfl, hu1⟩)
                      | (go_at_call 32; (with_reducible refine (KTB.out _).mono ?_); rintro e u2 ⟨rfl, hu2⟩))
                  all_goals
                    go_wp2_with (fail)
                    refine wp_region_wq (by kernel_rfl) (by exact reg_lex) ?_
                    repeat (refine wqStep (fun K hK => ?_); go_simp; refine hK _ ?_; clear hK K)
                    refine wqNil ?_
                    intro _ hw'
                    obtain ⟨nq, hw''⟩ := hw'
                    subst hw''
                    go_wp2
                    go_roundw
                    case rel => exact ⟨t + 1, by omega, by go_num, (by repeat (first | (with_reducible exact Below.refl _ _) | (with_reducible assumption) | (with_reducible exact bel_box _) | (with_reducible refine bel_step ?_ (by with_reducible assumption)) | (with_reducible refine Below.drew ?_) | (with_reducible refine below_drewN ?_ _) | (with_reducible refine bel_alloc ?_ _))), (by repeat (first | (with_reducible exact Below.refl _ _) | (with_reducible assumption) | (with_reducible exact bel_box _) | (with_reducible refine bel_step ?_ (by with_reducible assumption)) | (with_reducible refine Below.drew ?_) | (with_reducible refine below_drewN ?_ _) | (with_reducible refine bel_alloc ?_ _)))⟩
                    case measure => simp [intOf]; omega
                · obtain rfl : tb = true := HTB.out rfl
                  clear HF HTB
                  have e5 : decide (b1 < (k : Int)) = false := decide_eq_false e3
                  go_wp2_with (fail)
                  go_region_held3 (fun W => W.cell? (adA.add (t * 2)) = some (.int .i64 a0) ∧ W.cell? ⟨(adA.add (t * 2)).block, (adA.add (t * 2)).off + 1, none⟩ = some (.int .i64 a1) ∧ W.cell? (adB.add (t * 2)) = some (.int .i64 1) ∧ W.cell? ⟨(adB.add (t * 2)).block, (adB.add (t * 2)).off + 1, none⟩ = some (.int .i64 b1) ∧ W.cell? (adO.add (t * 2)) = some (.int .i64 o0) ∧ W.cell? ⟨(adO.add (t * 2)).block, (adO.add (t * 2)).off + 1, none⟩ = some (.int .i64 o1))
                    ((refine HK.out _ ?_ ?_; (focus ((repeat (first | (with_reducible exact Below.refl _ _) | (with_reducible assumption) | (with_reducible exact bel_box _) | (with_reducible refine bel_step ?_ (by with_reducible assumption)) | (with_reducible refine Below.drew ?_) | (with_reducible refine below_drewN ?_ _) | (with_reducible refine bel_alloc ?_ _))); done)); (focus ((repeat (first | (with_reducible exact Below.refl _ _) | (with_reducible assumption) | (with_reducible exact bel_box _) | (with_reducible refine bel_step ?_ (by with_reducible assumption)) | (with_reducible refine Below.drew ?_) | (with_reducible refine below_drewN ?_ _) | (with_reducible refine bel_alloc ?_ _))); done))))
                    (first
                      | (go_at_call 32; (with_reducible refine (KTA.out _).mono ?_); rintro e u1 ⟨rfl, hu1⟩)
                      | (go_at_call 32; (with_reducible refine (KTB.out _).mono ?_); rintro e u2 ⟨rfl, hu2⟩))
                  all_goals
                    go_wp2_with (fail)
                    refine wp_region_wq (by kernel_rfl) (by exact reg_lex) ?_
                    repeat (refine wqStep (fun K hK => ?_); go_simp; refine hK _ ?_; clear hK K)
                    refine wqNil ?_
                    intro _ hw'
                    obtain ⟨nq, hw''⟩ := hw'
                    subst hw''
                    go_wp2
                    go_roundw
                    case rel => exact ⟨t + 1, by omega, by go_num, (by repeat (first | (with_reducible exact Below.refl _ _) | (with_reducible assumption) | (with_reducible exact bel_box _) | (with_reducible refine bel_step ?_ (by with_reducible assumption)) | (with_reducible refine Below.drew ?_) | (with_reducible refine below_drewN ?_ _) | (with_reducible refine bel_alloc ?_ _))), (by repeat (first | (with_reducible exact Below.refl _ _) | (with_reducible assumption) | (with_reducible exact bel_box _) | (with_reducible refine bel_step ?_ (by with_reducible assumption)) | (with_reducible refine Below.drew ?_) | (with_reducible refine below_drewN ?_ _) | (with_reducible refine bel_alloc ?_ _)))⟩
                    case measure => simp [intOf]; omega
                · obtain rfl : tb = true := HTB.out rfl
                  obtain ⟨ho0, ho1⟩ := HF.out rfl e2 e3 rfl
                  obtain rfl : a0 = o0 := ho0.symm
                  clear HF HTB ho0
                  by_cases f1 : a0 = 1
                  · subst f1
                    obtain rfl : a1 = o1 := (ho1 rfl).symm
                    clear ho1
                    go_wp2_with (fail)
                    go_region_held3 (fun W => W.cell? (adA.add (t * 2)) = some (.int .i64 1) ∧ W.cell? ⟨(adA.add (t * 2)).block, (adA.add (t * 2)).off + 1, none⟩ = some (.int .i64 a1) ∧ W.cell? (adB.add (t * 2)) = some (.int .i64 1) ∧ W.cell? ⟨(adB.add (t * 2)).block, (adB.add (t * 2)).off + 1, none⟩ = some (.int .i64 b1) ∧ W.cell? (adO.add (t * 2)) = some (.int .i64 1) ∧ W.cell? ⟨(adO.add (t * 2)).block, (adO.add (t * 2)).off + 1, none⟩ = some (.int .i64 a1))
                      ((refine HK.out _ ?_ ?_; (focus ((repeat (first | (with_reducible exact Below.refl _ _) | (with_reducible assumption) | (with_reducible exact bel_box _) | (with_reducible refine bel_step ?_ (by with_reducible assumption)) | (with_reducible refine Below.drew ?_) | (with_reducible refine below_drewN ?_ _) | (with_reducible refine bel_alloc ?_ _))); done)); (focus ((repeat (first | (with_reducible exact Below.refl _ _) | (with_reducible assumption) | (with_reducible exact bel_box _) | (with_reducible refine bel_step ?_ (by with_reducible assumption)) | (with_reducible refine Below.drew ?_) | (with_reducible refine below_drewN ?_ _) | (with_reducible refine bel_alloc ?_ _))); done))))
                      (first
                        | (go_at_call 32; (with_reducible refine (KTA.out _).mono ?_); rintro e u1 ⟨rfl, hu1⟩)
                        | (go_at_call 32; (with_reducible refine (KTB.out _).mono ?_); rintro e u2 ⟨rfl, hu2⟩))
                    all_goals
                      go_wp2_with (fail)
                      refine wp_region_wq (by kernel_rfl) (by exact reg_lex) ?_
                      repeat (refine wqStep (fun K hK => ?_); go_simp; refine hK _ ?_; clear hK K)
                      refine wqNil ?_
                      intro _ hw'
                      obtain ⟨nq, hw''⟩ := hw'
                      subst hw''
                      go_wp2
                      go_roundw
                      case rel => exact ⟨t + 1, by omega, by go_num, (by repeat (first | (with_reducible exact Below.refl _ _) | (with_reducible assumption) | (with_reducible exact bel_box _) | (with_reducible refine bel_step ?_ (by with_reducible assumption)) | (with_reducible refine Below.drew ?_) | (with_reducible refine below_drewN ?_ _) | (with_reducible refine bel_alloc ?_ _))), (by repeat (first | (with_reducible exact Below.refl _ _) | (with_reducible assumption) | (with_reducible exact bel_box _) | (with_reducible refine bel_step ?_ (by with_reducible assumption)) | (with_reducible refine Below.drew ?_) | (with_reducible refine below_drewN ?_ _) | (with_reducible refine bel_alloc ?_ _)))⟩
                      case measure => simp [intOf]; omega
                  · clear ho1
                    go_wp2_with (fail)
                    go_region_held3 (fun W => W.cell? (adA.add (t * 2)) = some (.int .i64 a0) ∧ W.cell? ⟨(adA.add (t * 2)).block, (adA.add (t * 2)).off + 1, none⟩ = some (.int .i64 a1) ∧ W.cell? (adB.add (t * 2)) = some (.int .i64 1) ∧ W.cell? ⟨(adB.add (t * 2)).block, (adB.add (t * 2)).off + 1, none⟩ = some (.int .i64 b1) ∧ W.cell? (adO.add (t * 2)) = some (.int .i64 a0) ∧ W.cell? ⟨(adO.add (t * 2)).block, (adO.add (t * 2)).off + 1, none⟩ = some (.int .i64 o1))
                      ((refine HK.out _ ?_ ?_; (focus ((repeat (first | (with_reducible exact Below.refl _ _) | (with_reducible assumption) | (with_reducible exact bel_box _) | (with_reducible refine bel_step ?_ (by with_reducible assumption)) | (with_reducible refine Below.drew ?_) | (with_reducible refine below_drewN ?_ _) | (with_reducible refine bel_alloc ?_ _))); done)); (focus ((repeat (first | (with_reducible exact Below.refl _ _) | (with_reducible assumption) | (with_reducible exact bel_box _) | (with_reducible refine bel_step ?_ (by with_reducible assumption)) | (with_reducible refine Below.drew ?_) | (with_reducible refine below_drewN ?_ _) | (with_reducible refine bel_alloc ?_ _))); done))))
                      (first
                        | (go_at_call 32; (with_reducible refine (KTA.out _).mono ?_); rintro e u1 ⟨rfl, hu1⟩)
                        | (go_at_call 32; (with_reducible refine (KTB.out _).mono ?_); rintro e u2 ⟨rfl, hu2⟩))
                    all_goals
                      go_wp2_with (fail)
                      refine wp_region_wq (by kernel_rfl) (by exact reg_lex) ?_
                      repeat (refine wqStep (fun K hK => ?_); go_simp; refine hK _ ?_; clear hK K)
                      refine wqNil ?_
                      intro _ hw'
                      obtain ⟨nq, hw''⟩ := hw'
                      subst hw''
                      go_wp2
                      go_roundw
                      case rel => exact ⟨t + 1, by omega, by go_num, (by repeat (first | (with_reducible exact Below.refl _ _) | (with_reducible assumption) | (with_reducible exact bel_box _) | (with_reducible refine bel_step ?_ (by with_reducible assumption)) | (with_reducible refine Below.drew ?_) | (with_reducible refine below_drewN ?_ _) | (with_reducible refine bel_alloc ?_ _))), (by repeat (first | (with_reducible exact Below.refl _ _) | (with_reducible assumption) | (with_reducible exact bel_box _) | (with_reducible refine bel_step ?_ (by with_reducible assumption)) | (with_reducible refine Below.drew ?_) | (with_reducible refine below_drewN ?_ _) | (with_reducible refine bel_alloc ?_ _)))⟩
                      case measure => simp [intOf]; omega
              · clear HF HTB
                cases ta
                all_goals
                  go_wp2_with (fail)
                  go_region_held3 (fun W => W.cell? (adA.add (t * 2)) = some (.int .i64 a0) ∧ W.cell? ⟨(adA.add (t * 2)).block, (adA.add (t * 2)).off + 1, none⟩ = some (.int .i64 a1) ∧ W.cell? (adB.add (t * 2)) = some (.int .i64 b0) ∧ W.cell? ⟨(adB.add (t * 2)).block, (adB.add (t * 2)).off + 1, none⟩ = some (.int .i64 b1) ∧ W.cell? (adO.add (t * 2)) = some (.int .i64 o0) ∧ W.cell? ⟨(adO.add (t * 2)).block, (adO.add (t * 2)).off + 1, none⟩ = some (.int .i64 o1))
                    ((refine HK.out _ ?_ ?_; (focus ((repeat (first | (with_reducible exact Below.refl _ _) | (with_reducible assumption) | (with_reducible exact bel_box _) | (with_reducible refine bel_step ?_ (by with_reducible assumption)) | (with_reducible refine Below.drew ?_) | (with_reducible refine below_drewN ?_ _) | (with_reducible refine bel_alloc ?_ _))); done)); (focus ((repeat (first | (with_reducible exact Below.refl _ _) | (with_reducible assumption) | (with_reducible exact bel_box _) | (with_reducible refine bel_step ?_ (by with_reducible assumption)) | (with_reducible refine Below.drew ?_) | (with_reducible refine below_drewN ?_ _) | (with_reducible refine bel_alloc ?_ _))); done))))
                    (first
                      | (go_at_call 32; (with_reducible refine (KTA.out _).mono ?_); rintro e u1 ⟨rfl, hu1⟩)
                      | (go_at_call 32; (with_reducible refine (KTB.out _).mono ?_); rintro e u2 ⟨rfl, hu2⟩))
                all_goals
                  go_wp2_with (go_at_call 10; (with_reducible refine (KL.out _).mono ?_); rintro e u3 ⟨rfl, hu3⟩)
                  go_ret
                  exact ⟨rfl, (by repeat (first | (with_reducible exact Below.refl _ _) | (with_reducible assumption) | (with_reducible exact bel_box _) | (with_reducible refine bel_step ?_ (by with_reducible assumption)) | (with_reducible refine Below.drew ?_) | (with_reducible refine below_drewN ?_ _) | (with_reducible refine bel_alloc ?_ _)))⟩
            · obtain rfl : t = m.length := by omega
              clear FM2 KT PM2 R3
              go_wp2_with (go_at_call 10; (with_reducible refine (KL.out _).mono ?_); rintro e u3 ⟨rfl, hu3⟩)
              go_ret
              exact ⟨rfl, (by repeat (first | (with_reducible exact Below.refl _ _) | (with_reducible assumption) | (with_reducible exact bel_box _) | (with_reducible refine bel_step ?_ (by with_reducible assumption)) | (with_reducible refine Below.drew ?_) | (with_reducible refine below_drewN ?_ _) | (with_reducible refine bel_alloc ?_ _)))⟩
    · have g1 : ¬ (m.length : Int) < (l.length : Int) := by omega
      have hq1 : l.length ≤ l.length := by omega
      have hq2 : l.length ≤ m.length := by omega
      have ca := cut_at A l.length c l.length hq1 hlc
      have cb := cut_at B l.length d m.length hq2 hmd
      have RA := Lib.hid (hA.cut l.length)
      have RB := Lib.hid (hB.cut l.length)
      have la : (l.take (l.length)).length = l.length := by rw [List.length_take]; omega
      have lb : (m.take (l.length)).length = l.length := by rw [List.length_take]; omega
      generalize hla : l.take (l.length) = l' at *
      generalize hma : m.take (l.length) = m' at *
      obtain ⟨K, hK⟩ : ∃ K : Nat, (K : Int) = nn % 8 + 1 := ⟨(nn % 8 + 1).toNat, by omega⟩
      have hK1 : 1 ≤ K := by omega
      have hK8 : K ≤ 8 := by omega
      have HKK := Lib.hid hK
      have PW : Hid (∀ i W, RdC W W.heap.size A l' → RdC W W.heap.size B m' → Calls Try.prog 30 #[.slice A (l.length) c, .slice B (l.length) d, .int .i64 i] W (NewG ((rowsTo [⟨A, c, l'⟩, ⟨B, d, m'⟩] (l.length)).map (whenF i)) (l.length) W)) := Lib.hid fun i W h k => by
        have := (whenF_any A B c d l' m' i W h k (by omega) (by omega)).mono fun e w' => newG (n := tog [⟨A, c, l'⟩, ⟨B, d, m'⟩]) (map_len _ _ _)
        rw [tog2, la, lb, Nat.min_self] at this
        exact this
      have PM : Hid (∀ V cv ls W, RdC W W.heap.size B m' → RdS W W.heap.size V ls → ls.length = K → (∀ s ∈ ls, s.l.length = l.length) → Calls Try.prog 24 #[.slice B (l.length) d, .slice V K cv] W (NewH ((rowsTo (⟨B, d, m'⟩ :: ls) (l.length)).map mergeF) (l.length) W)) := Lib.hid fun V cv ls W h k hk hs => by
        have htg : tog (⟨B, d, m'⟩ :: ls) = l.length := by
          rw [tog_cons, lb]; exact togF_same _ ls hs
        have := (mergeP_any B V d cv m' ls W h k (by omega) (by omega) (fun s hs' => by rw [hs s hs']; omega)).mono fun e w' => newH (n := tog (⟨B, d, m'⟩ :: ls)) (map_len _ _ _)
        rw [htg, lb, hk] at this
        exact this
      have FM : Hid (∀ (ls : List St) t, ls.length = K → (∀ (i : Nat) s, ls[i]? = some s → s.l = (rowsTo [⟨A, c, l'⟩, ⟨B, d, m'⟩] (l.length)).map (whenF (i : Int))) → t < l.length → ∀ v, m'.getD t (0, 0) = (1, v) → 0 ≤ v → v < (K : Int) → thB (l'.getD t (0, 0)) = true → ((rowsTo (⟨B, d, m'⟩ :: ls) (l.length)).map mergeF)[t]? = some (pl (l'.getD t (0, 0)))) := Lib.hid fun ls t hk hs ht v hv h0 h1 hth => merge_at B A B d c d m' l' ls (l.length) t ht hs v hv h0 (by rw [hk]; exact h1) hth
      have KT := Lib.hid rthere_any
      simp only [cV] at KT
      have HLA := Lib.hid la
      have HLB := Lib.hid lb
      clear hla hma hA hB hlc hmd hK
      go_enter Try.func8, Try.ntmps8
      go_wp2_with (go_at_call 9; (with_reducible refine (KG.out _ _ ?_).mono ?_); (focus (exact RdS.new [⟨A, c, l⟩, ⟨B, d, m⟩] _ rfl (rl2 _ _ _ (HA.out.to (by repeat (first | (with_reducible exact Below.refl _ _) | (with_reducible assumption) | (with_reducible exact bel_box _) | (with_reducible refine bel_step ?_ (by with_reducible assumption)) | (with_reducible refine Below.drew ?_) | (with_reducible refine below_drewN ?_ _) | (with_reducible refine bel_alloc ?_ _)))) (HB.out.to (by repeat (first | (with_reducible exact Below.refl _ _) | (with_reducible assumption) | (with_reducible exact bel_box _) | (with_reducible refine bel_step ?_ (by with_reducible assumption)) | (with_reducible refine Below.drew ?_) | (with_reducible refine below_drewN ?_ _) | (with_reducible refine bel_alloc ?_ _))))))); rintro e w0 ⟨rfl, hb0'⟩)
      go_region_held3 (fun W => True)
        ((exact trivial))
        (first | (fail))
      go_wp2
      have hWL : ∀ i : Int, ((rowsTo [⟨A, c, l'⟩, ⟨B, d, m'⟩] (l.length)).map (whenF i)).length = l.length := fun i => map_len _ _ _
      have HWL := Lib.hid hWL
      clear hWL
      obtain ⟨WL, hWL⟩ : ∃ WL : Nat → List (Int × Int), WL = fun i : Nat => (rowsTo [⟨A, c, l'⟩, ⟨B, d, m'⟩] (l.length)).map (whenF (i : Int)) := ⟨_, rfl⟩
      have HWE := Lib.hid hWL
      clear hWL
      go_loopw [8, 9] (fun v i wr => ∃ k : Nat, k ≤ K ∧ i = .int .i64 (k : Int) ∧ Hid (∃ ls : List St, ls.length = k ∧ wr.ownsRow w.heap.size 26 1 v k (ls.map stV) ∧ LsI wr v WL ls) ∧ Below w.heap.size w wr) (fun _ i _ => K - (intOf i).toNat)
      case atStart => exact ⟨0, by omega, rfl, Lib.hid ⟨[], rfl, World.ownsRow_nil _ _ _ _, fun j s h => by simp at h⟩, (by repeat (first | (with_reducible exact Below.refl _ _) | (with_reducible assumption) | (with_reducible exact bel_box _) | (with_reducible refine bel_step ?_ (by with_reducible assumption)) | (with_reducible refine Below.drew ?_) | (with_reducible refine below_drewN ?_ _) | (with_reducible refine bel_alloc ?_ _)))⟩
      case round =>
        obtain ⟨k, hk, rfl, hown, hbl⟩ := hrel
        have hsz := hbl.size
        by_cases hkn : k < K
        · obtain ⟨ls, hlk, hown1, hls⟩ := hown.out
          have HO := Lib.hid hown1
          have HLS := Lib.hid hls
          have HLK := Lib.hid hlk
          have hcmp : (k : Int) < nn % 8 + 1 := by have := HKK.out; omega
          clear hown hown1 hls hlk FM PM
          go_wp2_with (first
            | (go_at_call 30; (with_reducible refine (PW.out _ _ (RA.out.to ?_) (RB.out.to ?_)).mono ?_); (focus ((repeat (first | (with_reducible exact Below.refl _ _) | (with_reducible assumption) | (with_reducible exact bel_box _) | (with_reducible refine bel_step ?_ (by with_reducible assumption)) | (with_reducible refine Below.drew ?_) | (with_reducible refine below_drewN ?_ _) | (with_reducible refine bel_alloc ?_ _))); done)); (focus ((repeat (first | (with_reducible exact Below.refl _ _) | (with_reducible assumption) | (with_reducible exact bel_box _) | (with_reducible refine bel_step ?_ (by with_reducible assumption)) | (with_reducible refine Below.drew ?_) | (with_reducible refine below_drewN ?_ _) | (with_reducible refine bel_alloc ?_ _))); done)); rintro e w1 ⟨A1, c1, rfl, R1, hb1, F1⟩; have hz1 := hb1.size)
            | (at_builtin; refine wpList_append_own_at _ rfl _ _ 22 rfl w.heap.size 26 i0 (.slice none 0 0) 1 24 Try.underlying22 hi iz is ib rfl (by decide) _ k (ls.map stV) rfl (own2_keep HO.out (by repeat (first | (with_reducible exact Below.refl _ _) | (with_reducible assumption) | (with_reducible exact bel_box _) | (with_reducible refine bel_step ?_ (by with_reducible assumption)) | (with_reducible refine Below.drew ?_) | (with_reducible refine below_drewN ?_ _) | (with_reducible refine bel_alloc ?_ _)))) ⟨_, 0, none⟩ 1 1 [.slice A1 (l.length) c1] rfl rfl (by first | exact cell_one_new' _ _ _ | exact row1a _ _ _ _) (one_sl _ _ _) (by unfold maxLen; omega) (by omega) (by simp; omega) ?_; intro v1 w2 hown2 hgrow2 _ hv2))
          have hb2 : Below w.heap.size w w2 := own2_below hgrow2 rfl HO.out (by simp; omega) (by repeat (first | (with_reducible exact Below.refl _ _) | (with_reducible assumption) | (with_reducible exact bel_box _) | (with_reducible refine bel_step ?_ (by with_reducible assumption)) | (with_reducible refine Below.drew ?_) | (with_reducible refine below_drewN ?_ _) | (with_reducible refine bel_alloc ?_ _)))
          have hl1 : (rowsTo [⟨A, c, l'⟩, ⟨B, d, m'⟩] (l.length)).map (whenF (k : Int)) = WL k := by rw [HWE.out]
          have hLS := LsI.step (c1 := c1) HLS.out HO.out (by repeat (first | (with_reducible exact Below.refl _ _) | (with_reducible assumption) | (with_reducible exact bel_box _) | (with_reducible refine bel_step ?_ (by with_reducible assumption)) | (with_reducible refine Below.drew ?_) | (with_reducible refine below_drewN ?_ _) | (with_reducible refine bel_alloc ?_ _))) HLK.out hl1 R1.out (fun q hq => by have := F1.out q hq; omega) (by repeat (first | (with_reducible exact Below.refl _ _) | (with_reducible assumption) | (with_reducible exact bel_box _) | (with_reducible refine bel_step ?_ (by with_reducible assumption)) | (with_reducible refine Below.drew ?_) | (with_reducible refine below_drewN ?_ _) | (with_reducible refine bel_alloc ?_ _))) hgrow2 hv2
          have hcat : (ls ++ [(⟨A1, c1, (rowsTo [⟨A, c, l'⟩, ⟨B, d, m'⟩] (l.length)).map (whenF (k : Int))⟩ : St)]).map stV = ls.map stV ++ [.slice A1 (l.length) c1] := by
            rw [List.map_append]; simp only [List.map_cons, List.map_nil, stV]; rw [HWL.out]
          rw [← hcat] at hown2
          go_roundw
          case rel => exact ⟨k + 1, by omega, by go_num, Lib.hid ⟨_, by rw [List.length_append, HLK.out]; rfl, hown2, hLS⟩, hb2⟩
          case measure => simp [intOf]; omega
        · obtain rfl : k = K := by omega
          obtain ⟨ls, hlk, hown1, hls⟩ := hown.out
          obtain ⟨V, cv, rfl⟩ := own2_form hown1
          have hRS : RdS wr wr.heap.size V ls := ⟨Rd.of_own hown1, fun s hs => by
            obtain ⟨j, hj⟩ := List.getElem?_of_mem hs
            exact (hls j s hj).2.1⟩
          have hlen : ∀ s ∈ ls, s.l.length = l.length := fun s hs => by
            obtain ⟨j, hj⟩ := List.getElem?_of_mem hs
            rw [(hls j s hj).1, HWE.out]; exact HWL.out _
          have PM2 : Hid (∀ W, Below wr.heap.size wr W → Calls Try.prog 24 #[.slice B (l.length) d, .slice V k cv] W (NewH ((rowsTo (⟨B, d, m'⟩ :: ls) (l.length)).map mergeF) (l.length) W)) := Lib.hid fun W hb => PM.out V cv ls W ((RB.out.to hbl).to hb) (hRS.to hb) hlk hlen
          have FM2 := Lib.hid (fun t => FM.out ls t hlk (fun i s hi => by rw [(hls i s hi).1, HWE.out]))
          have L5 : Hid (((rowsTo (⟨B, d, m'⟩ :: ls) (l.length)).map mergeF).length = l.length) := Lib.hid (map_len _ _ _)
          have hcmp : ¬ (k : Int) < nn % 8 + 1 := by have := HKK.out; omega
          generalize (rowsTo (⟨B, d, m'⟩ :: ls) (l.length)).map mergeF = xo at *
          clear hown hown1 hls hlk PM FM PW hRS hlen HWE HWL
          obtain ⟨U, rfl⟩ : ∃ U, U = wr := ⟨_, rfl⟩
          go_wp2_with (go_at_call 24; (with_reducible refine (PM2.out _ ?_).mono ?_); (focus ((repeat (first | (with_reducible exact Below.refl _ _) | (with_reducible assumption) | (with_reducible exact bel_box _) | (with_reducible refine bel_step ?_ (by with_reducible assumption)) | (with_reducible refine Below.drew ?_) | (with_reducible refine below_drewN ?_ _) | (with_reducible refine bel_alloc ?_ _))); done)); rintro e w3 ⟨A3, c3, rfl, R3, hb3⟩)
          go_loopw [11] (fun i wr => ∃ t : Nat, t ≤ l.length ∧ i = .int .i64 (t : Int) ∧ Below w.heap.size w wr ∧ Below w3.heap.size w3 wr) (fun i _ => l.length - (intOf i).toNat)
          case atStart => exact ⟨0, by omega, rfl, (by repeat (first | (with_reducible exact Below.refl _ _) | (with_reducible assumption) | (with_reducible exact bel_box _) | (with_reducible refine bel_step ?_ (by with_reducible assumption)) | (with_reducible refine Below.drew ?_) | (with_reducible refine below_drewN ?_ _) | (with_reducible refine bel_alloc ?_ _))), (by repeat (first | (with_reducible exact Below.refl _ _) | (with_reducible assumption) | (with_reducible exact bel_box _) | (with_reducible refine bel_step ?_ (by with_reducible assumption)) | (with_reducible refine Below.drew ?_) | (with_reducible refine below_drewN ?_ _) | (with_reducible refine bel_alloc ?_ _)))⟩
          case round =>
            obtain ⟨t, ht, rfl, hbr, hbr3⟩ := hrel
            by_cases htn : t < l.length
            · obtain ⟨adA, a0, a1, rfl, hea, HEA⟩ := insts_of RA (show t < l'.length by rw [HLA.out]; exact htn)
              obtain ⟨adB, b0, b1, rfl, heb, HEB⟩ := insts_of RB (show t < m'.length by rw [HLB.out]; exact htn)
              obtain ⟨adO, o0, o1, rfl, heo, HEO⟩ := insts_of R3 (show t < xo.length by rw [L5.out]; exact htn)
              have KTA := Lib.hid (KT.out (a0, a1))
              have KTB := Lib.hid (KT.out (b0, b1))
              have hfm := FM2.out t htn
              rw [getD_of hea, getD_of heb, heo] at hfm
              have HF : Hid (b0 = 1 → 0 ≤ b1 → b1 < (k : Int) → thB (a0, a1) = true → o0 = a0 ∧ (a0 = 1 → o1 = a1)) := Lib.hid fun h1 h2 h3 h4 => by
                subst h1
                have h5 := Option.some.inj (hfm b1 rfl h2 h3 h4)
                have h6 := pl_kind h4
                rw [← h5] at h6
                exact h6
              have HK : Hid (∀ W, Below w.heap.size w W → Below w3.heap.size w3 W → W.cell? (adA.add (t * 2)) = some (.int .i64 a0) ∧ W.cell? ⟨(adA.add (t * 2)).block, (adA.add (t * 2)).off + 1, none⟩ = some (.int .i64 a1) ∧ W.cell? (adB.add (t * 2)) = some (.int .i64 b0) ∧ W.cell? ⟨(adB.add (t * 2)).block, (adB.add (t * 2)).off + 1, none⟩ = some (.int .i64 b1) ∧ W.cell? (adO.add (t * 2)) = some (.int .i64 o0) ∧ W.cell? ⟨(adO.add (t * 2)).block, (adO.add (t * 2)).off + 1, none⟩ = some (.int .i64 o1)) := Lib.hid fun W hW h3 => ⟨(HEA.out W hW).1, (HEA.out W hW).2, (HEB.out W hW).1, (HEB.out W hW).2, (HEO.out W h3).1, (HEO.out W h3).2⟩
              have i0 : (0 : Int) ≤ (t : Int) := by omega
              have i1 : (t : Int) < ((l.length : Nat) : Int) := by omega
              obtain ⟨q0, q1, q2, q3, q4, q5⟩ := HK.out wr hbr hbr3
              have HTB : Hid (b0 = 1 → thB (b0, b1) = true) := Lib.hid fun h => by subst h; rfl
              generalize thB (a0, a1) = ta at *
              generalize thB (b0, b1) = tb at *
              clear hea heb heo hfm HEA HEB FM2 KT PM2
              have hsp : tb = ta ∨ tb = !ta := by cases ta <;> cases tb <;> simp
              rcases hsp with rfl | rfl
              · have hsel : ¬ b0 = 1 ∨ (b0 = 1 ∧ b1 < 0) ∨ (b0 = 1 ∧ 0 ≤ b1 ∧ ¬ b1 < (k : Int)) ∨ (b0 = 1 ∧ 0 ≤ b1 ∧ b1 < (k : Int)) := by omega
                rcases hsel with e1 | ⟨rfl, e2⟩ | ⟨rfl, e2, e3⟩ | ⟨rfl, e2, e3⟩
                · clear HF HTB
                  cases tb
                  all_goals
                    go_wp2_with (fail)
                    go_region_held3 (fun W => W.cell? (adA.add (t * 2)) = some (.int .i64 a0) ∧ W.cell? ⟨(adA.add (t * 2)).block, (adA.add (t * 2)).off + 1, none⟩ = some (.int .i64 a1) ∧ W.cell? (adB.add (t * 2)) = some (.int .i64 b0) ∧ W.cell? ⟨(adB.add (t * 2)).block, (adB.add (t * 2)).off + 1, none⟩ = some (.int .i64 b1) ∧ W.cell? (adO.add (t * 2)) = some (.int .i64 o0) ∧ W.cell? ⟨(adO.add (t * 2)).block, (adO.add (t * 2)).off + 1, none⟩ = some (.int .i64 o1))
                      ((refine HK.out _ ?_ ?_; (focus ((repeat (first | (with_reducible exact Below.refl _ _) | (with_reducible assumption) | (with_reducible exact bel_box _) | (with_reducible refine bel_step ?_ (by with_reducible assumption)) | (with_reducible refine Below.drew ?_) | (with_reducible refine below_drewN ?_ _) | (with_reducible refine bel_alloc ?_ _))); done)); (focus ((repeat (first | (with_reducible exact Below.refl _ _) | (with_reducible assumption) | (with_reducible exact bel_box _) | (with_reducible refine bel_step ?_ (by with_reducible assumption)) | (with_reducible refine Below.drew ?_) | (with_reducible refine below_drewN ?_ _) | (with_reducible refine bel_alloc ?_ _))); done))))
                      (first
                        | (go_at_call 32; (with_reducible refine (KTA.out _).mono ?_); rintro e u1 ⟨rfl, hu1⟩)
                        | (go_at_call 32; (with_reducible refine (KTB.out _).mono ?_); rintro e u2 ⟨rfl, hu2⟩))
                  all_goals
                    go_wp2_with (fail)
                    refine wp_region_wq (by kernel_rfl) (by exact reg_lex) ?_
                    repeat (refine wqStep (fun K hK => ?_); go_simp; refine hK _ ?_; clear hK K)
                    refine wqNil ?_
                    intro _ hw'
                    obtain ⟨nq, hw''⟩ := hw'
                    subst hw''
                    go_wp2
                    go_roundw
                    case rel => exact ⟨t + 1, by omega, by go_num, (by repeat (first | (with_reducible exact Below.refl _ _) | (with_reducible assumption) | (with_reducible exact bel_box _) | (with_reducible refine bel_step ?_ (by with_reducible assumption)) | (with_reducible refine Below.drew ?_) | (with_reducible refine below_drewN ?_ _) | (with_reducible refine bel_alloc ?_ _))), (by repeat (first | (with_reducible exact Below.refl _ _) | (with_reducible assumption) | (with_reducible exact bel_box _) | (with_reducible refine bel_step ?_ (by with_reducible assumption)) | (with_reducible refine Below.drew ?_) | (with_reducible refine below_drewN ?_ _) | (with_reducible refine bel_alloc ?_ _)))⟩
                    case measure => simp [intOf]; omega
                · obtain rfl : tb = true := HTB.out rfl
                  clear HF HTB
                  go_wp2_with (fail)
                  go_region_held3 (fun W => W.cell? (adA.add (t * 2)) = some (.int .i64 a0) ∧ W.cell? ⟨(adA.add (t * 2)).block, (adA.add (t * 2)).off + 1, none⟩ = some (.int .i64 a1) ∧ W.cell? (adB.add (t * 2)) = some (.int .i64 1) ∧ W.cell? ⟨(adB.add (t * 2)).block, (adB.add (t * 2)).off + 1, none⟩ = some (.int .i64 b1) ∧ W.cell? (adO.add (t * 2)) = some (.int .i64 o0) ∧ W.cell? ⟨(adO.add (t * 2)).block, (adO.add (t * 2)).off + 1, none⟩ = some (.int .i64 o1))
                    ((refine HK.out _ ?_ ?_; (focus ((repeat (first | (with_reducible exact Below.refl _ _) | (with_reducible assumption) | (with_reducible exact bel_box _) | (with_reducible refine bel_step ?_ (by with_reducible assumption)) | (with_reducible refine Below.drew ?_) | (with_reducible refine below_drewN ?_ _) | (with_reducible refine bel_alloc ?_ _))); done)); (focus ((repeat (first | (with_reducible exact Below.refl _ _) | (with_reducible assumption) | (with_reducible exact bel_box _) | (with_reducible refine bel_step ?_ (by with_reducible assumption)) | (with_reducible refine Below.drew ?_) | (with_reducible refine below_drewN ?_ _) | (with_reducible refine bel_alloc ?_ _))); done))))
                    (first
                      | (go_at_call 32; (with_reducible refine (KTA.out _).mono ?_); rintro e u1 ⟨rfl, hu1⟩)
                      | (go_at_call 32; (with_reducible refine (KTB.out _).mono ?_); rintro e u2 ⟨rfl, hu2⟩))
                  all_goals
                    go_wp2_with (fail)
                    refine wp_region_wq (by kernel_rfl) (by exact reg_lex) ?_
                    repeat (refine wqStep (fun K hK => ?_); go_simp; refine hK _ ?_; clear hK K)
                    refine wqNil ?_
                    intro _ hw'
                    obtain ⟨nq, hw''⟩ := hw'
                    subst hw''
                    go_wp2
                    go_roundw
                    case rel => exact ⟨t + 1, by omega, by go_num, (by repeat (first | (with_reducible exact Below.refl _ _) | (with_reducible assumption) | (with_reducible exact bel_box _) | (with_reducible refine bel_step ?_ (by with_reducible assumption)) | (with_reducible refine Below.drew ?_) | (with_reducible refine below_drewN ?_ _) | (with_reducible refine bel_alloc ?_ _))), (by repeat (first | (with_reducible exact Below.refl _ _) | (with_reducible assumption) | (with_reducible exact bel_box _) | (with_reducible refine bel_step ?_ (by with_reducible assumption)) | (with_reducible refine Below.drew ?_) | (with_reducible refine below_drewN ?_ _) | (with_reducible refine bel_alloc ?_ _)))⟩
                    case measure => simp [intOf]; omega
                · obtain rfl : tb = true := HTB.out rfl
                  clear HF HTB
                  have e5 : decide (b1 < (k : Int)) = false := decide_eq_false e3
                  go_wp2_with (fail)
                  go_region_held3 (fun W => W.cell? (adA.add (t * 2)) = some (.int .i64 a0) ∧ W.cell? ⟨(adA.add (t * 2)).block, (adA.add (t * 2)).off + 1, none⟩ = some (.int .i64 a1) ∧ W.cell? (adB.add (t * 2)) = some (.int .i64 1) ∧ W.cell? ⟨(adB.add (t * 2)).block, (adB.add (t * 2)).off + 1, none⟩ = some (.int .i64 b1) ∧ W.cell? (adO.add (t * 2)) = some (.int .i64 o0) ∧ W.cell? ⟨(adO.add (t * 2)).block, (adO.add (t * 2)).off + 1, none⟩ = some (.int .i64 o1))
                    ((refine HK.out _ ?_ ?_; (focus ((repeat (first | (with_reducible exact Below.refl _ _) | (with_reducible assumption) | (with_reducible exact bel_box _) | (with_reducible refine bel_step ?_ (by with_reducible assumption)) | (with_reducible refine Below.drew ?_) | (with_reducible refine below_drewN ?_ _) | (with_reducible refine bel_alloc ?_ _))); done)); (focus ((repeat (first | (with_reducible exact Below.refl _ _) | (with_reducible assumption) | (with_reducible exact bel_box _) | (with_reducible refine bel_step ?_ (by with_reducible assumption)) | (with_reducible refine Below.drew ?_) | (with_reducible refine below_drewN ?_ _) | (with_reducible refine bel_alloc ?_ _))); done))))
                    (first
                      | (go_at_call 32; (with_reducible refine (KTA.out _).mono ?_); rintro e u1 ⟨rfl, hu1⟩)
                      | (go_at_call 32; (with_reducible refine (KTB.out _).mono ?_); rintro e u2 ⟨rfl, hu2⟩))
                  all_goals
                    go_wp2_with (fail)
                    refine wp_region_wq (by kernel_rfl) (by exact reg_lex) ?_
                    repeat (refine wqStep (fun K hK => ?_); go_simp; refine hK _ ?_; clear hK K)
                    refine wqNil ?_
                    intro _ hw'
                    obtain ⟨nq, hw''⟩ := hw'
                    subst hw''
                    go_wp2
                    go_roundw
                    case rel => exact ⟨t + 1, by omega, by go_num, (by repeat (first | (with_reducible exact Below.refl _ _) | (with_reducible assumption) | (with_reducible exact bel_box _) | (with_reducible refine bel_step ?_ (by with_reducible assumption)) | (with_reducible refine Below.drew ?_) | (with_reducible refine below_drewN ?_ _) | (with_reducible refine bel_alloc ?_ _))), (by repeat (first | (with_reducible exact Below.refl _ _) | (with_reducible assumption) | (with_reducible exact bel_box _) | (with_reducible refine bel_step ?_ (by with_reducible assumption)) | (with_reducible refine Below.drew ?_) | (with_reducible refine below_drewN ?_ _) | (with_reducible refine bel_alloc ?_ _)))⟩
                    case measure => simp [intOf]; omega
                · obtain rfl : tb = true := HTB.out rfl
                  obtain ⟨ho0, ho1⟩ := HF.out rfl e2 e3 rfl
                  obtain rfl : a0 = o0 := ho0.symm
                  clear HF HTB ho0
                  by_cases f1 : a0 = 1
                  · subst f1
                    obtain rfl : a1 = o1 := (ho1 rfl).symm
                    clear ho1
                    go_wp2_with (fail)
                    go_region_held3 (fun W => W.cell? (adA.add (t * 2)) = some (.int .i64 1) ∧ W.cell? ⟨(adA.add (t * 2)).block, (adA.add (t * 2)).off + 1, none⟩ = some (.int .i64 a1) ∧ W.cell? (adB.add (t * 2)) = some (.int .i64 1) ∧ W.cell? ⟨(adB.add (t * 2)).block, (adB.add (t * 2)).off + 1, none⟩ = some (.int .i64 b1) ∧ W.cell? (adO.add (t * 2)) = some (.int .i64 1) ∧ W.cell? ⟨(adO.add (t * 2)).block, (adO.add (t * 2)).off + 1, none⟩ = some (.int .i64 a1))
                      ((refine HK.out _ ?_ ?_; (focus ((repeat (first | (with_reducible exact Below.refl _ _) | (with_reducible assumption) | (with_reducible exact bel_box _) | (with_reducible refine bel_step ?_ (by with_reducible assumption)) | (with_reducible refine Below.drew ?_) | (with_reducible refine below_drewN ?_ _) | (with_reducible refine bel_alloc ?_ _))); done)); (focus ((repeat (first | (with_reducible exact Below.refl _ _) | (with_reducible assumption) | (with_reducible exact bel_box _) | (with_reducible refine bel_step ?_ (by with_reducible assumption)) | (with_reducible refine Below.drew ?_) | (with_reducible refine below_drewN ?_ _) | (with_reducible refine bel_alloc ?_ _))); done))))
                      (first
                        | (go_at_call 32; (with_reducible refine (KTA.out _).mono ?_); rintro e u1 ⟨rfl, hu1⟩)
                        | (go_at_call 32; (with_reducible refine (KTB.out _).mono ?_); rintro e u2 ⟨rfl, hu2⟩))
                    all_goals
                      go_wp2_with (fail)
                      refine wp_region_wq (by kernel_rfl) (by exact reg_lex) ?_
                      repeat (refine wqStep (fun K hK => ?_); go_simp; refine hK _ ?_; clear hK K)
                      refine wqNil ?_
                      intro _ hw'
                      obtain ⟨nq, hw''⟩ := hw'
                      subst hw''
                      go_wp2
                      go_roundw
                      case rel => exact ⟨t + 1, by omega, by go_num, (by repeat (first | (with_reducible exact Below.refl _ _) | (with_reducible assumption) | (with_reducible exact bel_box _) | (with_reducible refine bel_step ?_ (by with_reducible assumption)) | (with_reducible refine Below.drew ?_) | (with_reducible refine below_drewN ?_ _) | (with_reducible refine bel_alloc ?_ _))), (by repeat (first | (with_reducible exact Below.refl _ _) | (with_reducible assumption) | (with_reducible exact bel_box _) | (with_reducible refine bel_step ?_ (by with_reducible assumption)) | (with_reducible refine Below.drew ?_) | (with_reducible refine below_drewN ?_ _) | (with_reducible refine bel_alloc ?_ _)))⟩
                      case measure => simp [intOf]; omega
                  · clear ho1
                    go_wp2_with (fail)
                    go_region_held3 (fun W => W.cell? (adA.add (t * 2)) = some (.int .i64 a0) ∧ W.cell? ⟨(adA.add (t * 2)).block, (adA.add (t * 2)).off + 1, none⟩ = some (.int .i64 a1) ∧ W.cell? (adB.add (t * 2)) = some (.int .i64 1) ∧ W.cell? ⟨(adB.add (t * 2)).block, (adB.add (t * 2)).off + 1, none⟩ = some (.int .i64 b1) ∧ W.cell? (adO.add (t * 2)) = some (.int .i64 a0) ∧ W.cell? ⟨(adO.add (t * 2)).block, (adO.add (t * 2)).off + 1, none⟩ = some (.int .i64 o1))
                      ((refine HK.out _ ?_ ?_; (focus ((repeat (first | (with_reducible exact Below.refl _ _) | (with_reducible assumption) | (with_reducible exact bel_box _) | (with_reducible refine bel_step ?_ (by with_reducible assumption)) | (with_reducible refine Below.drew ?_) | (with_reducible refine below_drewN ?_ _) | (with_reducible refine bel_alloc ?_ _))); done)); (focus ((repeat (first | (with_reducible exact Below.refl _ _) | (with_reducible assumption) | (with_reducible exact bel_box _) | (with_reducible refine bel_step ?_ (by with_reducible assumption)) | (with_reducible refine Below.drew ?_) | (with_reducible refine below_drewN ?_ _) | (with_reducible refine bel_alloc ?_ _))); done))))
                      (first
                        | (go_at_call 32; (with_reducible refine (KTA.out _).mono ?_); rintro e u1 ⟨rfl, hu1⟩)
                        | (go_at_call 32; (with_reducible refine (KTB.out _).mono ?_); rintro e u2 ⟨rfl, hu2⟩))
                    all_goals
                      go_wp2_with (fail)
                      refine wp_region_wq (by kernel_rfl) (by exact reg_lex) ?_
                      repeat (refine wqStep (fun K hK => ?_); go_simp; refine hK _ ?_; clear hK K)
                      refine wqNil ?_
                      intro _ hw'
                      obtain ⟨nq, hw''⟩ := hw'
                      subst hw''
                      go_wp2
                      go_roundw
                      case rel => exact ⟨t + 1, by omega, by go_num, (by repeat (first | (with_reducible exact Below.refl _ _) | (with_reducible assumption) | (with_reducible exact bel_box _) | (with_reducible refine bel_step ?_ (by with_reducible assumption)) | (with_reducible refine Below.drew ?_) | (with_reducible refine below_drewN ?_ _) | (with_reducible refine bel_alloc ?_ _))), (by repeat (first | (with_reducible exact Below.refl _ _) | (with_reducible assumption) | (with_reducible exact bel_box _) | (with_reducible refine bel_step ?_ (by with_reducible assumption)) | (with_reducible refine Below.drew ?_) | (with_reducible refine below_drewN ?_ _) | (with_reducible refine bel_alloc ?_ _)))⟩
                      case measure => simp [intOf]; omega
              · clear HF HTB
                cases ta
                all_goals
                  go_wp2_with (fail)
                  go_region_held3 (fun W => W.cell? (adA.add (t * 2)) = some (.int .i64 a0) ∧ W.cell? ⟨(adA.add (t * 2)).block, (adA.add (t * 2)).off + 1, none⟩ = some (.int .i64 a1) ∧ W.cell? (adB.add (t * 2)) = some (.int .i64 b0) ∧ W.cell? ⟨(adB.add (t * 2)).block, (adB.add (t * 2)).off + 1, none⟩ = some (.int .i64 b1) ∧ W.cell? (adO.add (t * 2)) = some (.int .i64 o0) ∧ W.cell? ⟨(adO.add (t * 2)).block, (adO.add (t * 2)).off + 1, none⟩ = some (.int .i64 o1))
                    ((refine HK.out _ ?_ ?_; (focus ((repeat (first | (with_reducible exact Below.refl _ _) | (with_reducible assumption) | (with_reducible exact bel_box _) | (with_reducible refine bel_step ?_ (by with_reducible assumption)) | (with_reducible refine Below.drew ?_) | (with_reducible refine below_drewN ?_ _) | (with_reducible refine bel_alloc ?_ _))); done)); (focus ((repeat (first | (with_reducible exact Below.refl _ _) | (with_reducible assumption) | (with_reducible exact bel_box _) | (with_reducible refine bel_step ?_ (by with_reducible assumption)) | (with_reducible refine Below.drew ?_) | (with_reducible refine below_drewN ?_ _) | (with_reducible refine bel_alloc ?_ _))); done))))
                    (first
                      | (go_at_call 32; (with_reducible refine (KTA.out _).mono ?_); rintro e u1 ⟨rfl, hu1⟩)
                      | (go_at_call 32; (with_reducible refine (KTB.out _).mono ?_); rintro e u2 ⟨rfl, hu2⟩))
                all_goals
                  go_wp2_with (go_at_call 10; (with_reducible refine (KL.out _).mono ?_); rintro e u3 ⟨rfl, hu3⟩)
                  go_ret
                  exact ⟨rfl, (by repeat (first | (with_reducible exact Below.refl _ _) | (with_reducible assumption) | (with_reducible exact bel_box _) | (with_reducible refine bel_step ?_ (by with_reducible assumption)) | (with_reducible refine Below.drew ?_) | (with_reducible refine below_drewN ?_ _) | (with_reducible refine bel_alloc ?_ _)))⟩
            · obtain rfl : t = l.length := by omega
              clear FM2 KT PM2 R3
              go_wp2_with (go_at_call 10; (with_reducible refine (KL.out _).mono ?_); rintro e u3 ⟨rfl, hu3⟩)
              go_ret
              exact ⟨rfl, (by repeat (first | (with_reducible exact Below.refl _ _) | (with_reducible assumption) | (with_reducible exact bel_box _) | (with_reducible refine bel_step ?_ (by with_reducible assumption)) | (with_reducible refine Below.drew ?_) | (with_reducible refine below_drewN ?_ _) | (with_reducible refine bel_alloc ?_ _)))⟩
  · rw [hlg] at KG
    clear hA hB hlg hl hm
    go_enter Try.func8, Try.ntmps8
    go_wp2_with (first
      | (go_at_call 9; (with_reducible refine (KG.out _ _ ?_).mono ?_); (focus (exact RdS.new [⟨A, c, l⟩, ⟨B, d, m⟩] _ rfl (rl2 _ _ _ (HA.out.to (by repeat (first | (with_reducible exact Below.refl _ _) | (with_reducible assumption) | (with_reducible exact bel_box _) | (with_reducible refine bel_step ?_ (by with_reducible assumption)) | (with_reducible refine Below.drew ?_) | (with_reducible refine below_drewN ?_ _) | (with_reducible refine bel_alloc ?_ _)))) (HB.out.to (by repeat (first | (with_reducible exact Below.refl _ _) | (with_reducible assumption) | (with_reducible exact bel_box _) | (with_reducible refine bel_step ?_ (by with_reducible assumption)) | (with_reducible refine Below.drew ?_) | (with_reducible refine below_drewN ?_ _) | (with_reducible refine bel_alloc ?_ _))))))); rintro e w0 ⟨rfl, hb0⟩)
      | (go_at_call 10; (with_reducible refine (KL.out _).mono ?_); rintro e u4 ⟨rfl, hu4⟩))
    go_ret
    exact ⟨rfl, (by repeat (first | (with_reducible exact Below.refl _ _) | (with_reducible assumption) | (with_reducible exact bel_box _) | (with_reducible refine bel_step ?_ (by with_reducible assumption)) | (with_reducible refine Below.drew ?_) | (with_reducible refine below_drewN ?_ _) | (with_reducible refine bel_alloc ?_ _)))⟩
end Go.Proofs.Ytefmnjcllncmpaa
/- The frame of a law's row: a call that returns true and leaves the old blocks alone meets the row; arguments that are slices of bools are opened. -/
namespace Go.Proofs.Ytefmnjcllncmpaa
set_option linter.unusedVariables false
set_option linter.unusedSimpArgs false
open Go.ChangeShapes Go.WideShapes Go.ChangeAt Go.RowKit Go.Deep
section
variable {H : Type} {enc : TypeId × Value → H} {P : Program}
theorem trodAll_below (hl : laidOutB P = true) {W W' : World} (hb : Below W.heap.size W W') : ∀ {ts : List TypeId} {vs : List Value} {ds : List (DataW H)} {ps : List MemPlace},
    (∀ t ∈ ts, P.readableRec t = true ∧ t < P.types.size) → DataW.TrodAll enc P W 0 (fun _ => true) true ts vs ds ps → (∀ x ∈ ps, x.block < W.heap.size) →
    DataW.TrodAll enc P W' 0 (fun b => decide (b < W.heap.size)) true ts vs ds ps := by
  intro ts
  induction ts with
  | nil => intro vs ds ps _ h _; cases vs <;> cases ds <;> simp_all [DataW.TrodAll]
  | cons t ts ih =>
    intro vs ds ps ht h hlt
    match vs, ds, h with
    | v :: vs, d :: ds, ⟨p, q, h1, h2, e⟩ =>
      subst e
      obtain ⟨hr, hs⟩ := ht t (by simp)
      exact ⟨p, q, Below.trod hl hr hs h1 hb (fun x hx => hlt x (by simp [hx])), ih (fun u hu => ht u (by simp [hu])) h2 (fun x hx => hlt x (by simp [hx])), rfl⟩
theorem law_post {f : Func} {s : ChangeSpec} {W W' : World} {args : Array Value} {ds gs : List (DataW H)} {before : List MemPlace} {tb : TypeId}
    (hW : DataW.Whole enc P f.params.toList s.vars false W args.toList ds gs before) (hv : s.vars = [])
    (hs : (s.fn H (ds ++ gs)).results = [.lit (.bool true)] ∧ (s.fn H (ds ++ gs)).args = ds ∧ (s.fn H (ds ++ gs)).vars = [])
    (hf : f.resultTypes = #[tb]) (htb : P.underlying tb = some .bool) (hl : laidOutB P = true) (hts : ∀ t ∈ f.params.toList, P.readableRec t = true ∧ t < P.types.size)
    (hb : Below W.heap.size W W') : s.post enc P f false true false false W args (.bool true) W' := by
  have hW' := hW
  obtain ⟨p, q, hA, hV, rfl, _, _⟩ := hW
  rw [hv] at hV
  obtain ⟨rfl, rfl⟩ := trodVars_none hV
  refine ⟨ds, [], p ++ [], [], p, [], hW', ?_, ?_, ?_, hb.frame _, fun h => by cases h⟩
  · rw [hs.1, hf]
    exact trodAll_mk1 (shut_bool htb true)
  · rw [hs.2.1]
    exact trodAll_below hl hb hts hA (fun x hx => hW'.lt x (by simp [hx]))
  · rw [hv, hs.2.2]
    rfl
end
end Go.Proofs.Ytefmnjcllncmpaa
/- Arguments that are streams, and rows of streams, opened. -/
namespace Go.Proofs.Ytefmnjcllncmpaa
set_option linter.unusedVariables false
set_option linter.unusedSimpArgs false
open Go.ChangeShapes Go.WideShapes Go.ChangeAt Go.RowKit Go.Deep Go.WideElems
theorem u8_le {n : Int} (h : (Lit.int .u8 n).wf = true) : n ≤ 255 := by
  have h2 : n ≤ IntKind.u8.max := by simp only [Lit.wf, Bool.and_eq_true, decide_eq_true_eq] at h; exact h.2
  exact h2
theorem u8_ge {n : Int} (h : (Lit.int .u8 n).wf = true) : 0 ≤ n := by
  have h2 : IntKind.u8.min ≤ n := by simp only [Lit.wf, Bool.and_eq_true, decide_eq_true_eq] at h; exact h.1
  exact h2
section
variable {H : Type} {enc : TypeId × Value → H} {P : Program} {w : World} {held : Bool} {base : Nat}
theorem choose_list {α : Type} {p : Nat → α → Prop} : ∀ n, (∀ i, i < n → ∃ e, p i e) → ∃ l : List α, l.length = n ∧ ∀ i e, l[i]? = some e → p i e := by
  intro n
  induction n with
  | zero => exact fun _ => ⟨[], rfl, fun i e h => by simp at h⟩
  | succ n ih =>
    intro h
    obtain ⟨l, hl, hp⟩ := ih fun i hi => h i (by omega)
    obtain ⟨e, he⟩ := h n (by omega)
    refine ⟨l ++ [e], by simp [hl], fun i x hx => ?_⟩
    rcases Nat.lt_or_ge i n with hi | hi
    · exact hp i x (by rwa [List.getElem?_append_left (by omega)] at hx)
    · rw [List.getElem?_append_right (by omega)] at hx
      have hi2 : i = n := by
        have := (List.getElem?_eq_some_iff.1 hx).1
        simp at this
        omega
      subst hi2
      rw [hl, Nat.sub_self] at hx
      obtain rfl : e = x := by simpa using hx
      exact he
/-- a slice of cells, opened -/
theorem rd_cells {t e : TypeId} {f0 f1 : Field} {fuel : Nat} {v : Value} {x : DataW H × List MemPlace} (ht : P.underlying t = some (.slice e)) (he : P.underlying e = some (.struct #[f0, f1]))
    (ce : P.cellsOf e = 2) (o0 : f0.offset = 0) (o1 : f1.offset = 1) (c0 : P.cellsOf f0.type = 1) (c1 : P.cellsOf f1.type = 1) (i0 : P.underlying f0.type = some (.int .i64)) (i1 : P.underlying f1.type = some (.int .i64))
    (h : DataW.trod enc P w base (fun _ => true) held fuel t [v] = some x) :
    ∃ (A : Option Addr) (l : List (Int × Int)) (c : Nat), v = .slice A l.length c ∧ RdC w w.heap.size A l ∧ l.length ≤ 9223372036854775807 := by
  rcases open_slice_pairs ht he ce o0 o1 c0 c1 h with ⟨hv, _⟩ | ⟨a, len, cap, m, n, V0, V1, D0, D1, P0, P1, hv, _, hl, hm, hmm, _, hx⟩
  · simp only [List.cons.injEq, and_true] at hv
    exact ⟨none, [], 0, hv, fun h => absurd rfl h, by simp⟩
  · simp only [List.cons.injEq, and_true] at hv
    have hmc : m = cap := by simpa using hmm
    obtain ⟨l, hll, hp⟩ := choose_list (p := fun i (e : Int × Int) => w.cell? (a.add (i * 2)) = some (.int .i64 e.1) ∧ w.cell? (a.add (i * 2 + 1)) = some (.int .i64 e.2)) len fun i hi => by
      obtain ⟨h1, h2, h3, h4⟩ := hx i (by omega)
      obtain ⟨n0, e0, _⟩ := DataW.trod_int i0 h3
      obtain ⟨n1, e1, _⟩ := DataW.trod_int i1 h4
      simp only [List.cons.injEq, and_true] at e0 e1
      exact ⟨(n0, n1), by rw [h1, e0], by rw [h2, e1]⟩
    refine ⟨some a, l, cap, by rw [hll]; exact hv, fun hne => ⟨a, rfl, ?_, hp⟩, by rw [hll]; unfold maxLen at hm; omega⟩
    have h0 : 0 < l.length := List.length_pos_iff.2 hne
    have := World.block_lt_of_cell? w _ (hp 0 _ (List.getElem?_eq_getElem h0)).1
    rwa [add_block] at this
end
end Go.Proofs.Ytefmnjcllncmpaa
/- The length of a slice of cells is at most its capacity. -/
namespace Go.Proofs.Ytefmnjcllncmpaa
set_option linter.unusedVariables false
set_option linter.unusedSimpArgs false
open Go.ChangeShapes Go.WideShapes Go.ChangeAt Go.RowKit Go.Deep Go.WideElems
section
variable {H : Type} {enc : TypeId × Value → H} {P : Program} {w : World} {held : Bool} {base : Nat}
theorem rd_cap {t e : TypeId} {f0 f1 : Field} {fuel : Nat} {A : Option Addr} {n c : Nat} {x : DataW H × List MemPlace} (ht : P.underlying t = some (.slice e)) (he : P.underlying e = some (.struct #[f0, f1]))
    (ce : P.cellsOf e = 2) (o0 : f0.offset = 0) (o1 : f1.offset = 1) (c0 : P.cellsOf f0.type = 1) (c1 : P.cellsOf f1.type = 1)
    (h : DataW.trod enc P w base (fun _ => true) held fuel t [.slice A n c] = some x) : n ≤ c := by
  rcases open_slice_pairs ht he ce o0 o1 c0 c1 h with ⟨hv, _⟩ | ⟨a, len, cap, m, k, V0, V1, D0, D1, P0, P1, hv, _, hl, _⟩
  · simp only [List.cons.injEq, and_true, Value.slice.injEq] at hv
    obtain ⟨_, rfl, rfl⟩ := hv
    exact Nat.le_refl _
  · simp only [List.cons.injEq, and_true, Value.slice.injEq] at hv
    obtain ⟨_, rfl, rfl⟩ := hv
    exact hl
end
end Go.Proofs.Ytefmnjcllncmpaa
