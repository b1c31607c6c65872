/- Texts of one chain, in one file. -/
import Derived.Test.YtefmnjcllncmpaaQD
/- StreamFby. -/
namespace Go.Proofs.Ytefmnjcllncmpaa
set_option linter.unusedVariables false
set_option linter.unusedSimpArgs false
open Go.RowKit
theorem outT_get {S : Type} (stp : S → List (Int × Int) → S × (Int × Int)) (s : S) (ls : List St) (n t : Nat) (h : t < n) : (outT stp s ls n)[t]? = some (stp (stT stp s ls t) (rowAt ls t)).2 := by
  induction n with
  | zero => omega
  | succ n ih =>
    rw [outT_succ]
    rcases Nat.lt_or_ge t n with h1 | h1
    · rw [List.getElem?_append_left (by rw [outT_length]; exact h1)]
      exact ih h1
    · obtain rfl : t = n := by omega
      rw [List.getElem?_append_right (by rw [outT_length]; omega), outT_length, Nat.sub_self]
      rfl
theorem pl_pl (c : Int × Int) : pl (pl c) = pl c := by
  obtain ⟨a, b⟩ := c
  unfold pl
  by_cases h1 : a = 1
  · subst h1; rfl
  · by_cases h2 : a = 2
    · subst h2; rfl
    · simp [h1, h2]
theorem pre_there (s : St) (t : Nat) : thB (stT preS (2, 0) [s] t) = true ∧ pl (stT preS (2, 0) [s] t) = stT preS (2, 0) [s] t := by
  induction t with
  | zero => exact ⟨rfl, rfl⟩
  | succ t ih =>
    rw [pre_st]
    cases h : thB (s.l.getD t (0, 0))
    · exact ih
    · exact ⟨by rw [if_pos rfl, thB_pl, h], by rw [if_pos rfl, pl_pl]⟩
theorem pre_get (s : St) (n t : Nat) (h : t < n) : (outT preS (2, 0) [s] n)[t]? = some (if thB (s.l.getD t (0, 0)) then stT preS (2, 0) [s] t else (0, 0)) := by
  rw [outT_get _ _ _ _ _ h]
  show some (preS _ [pl (s.l.getD t (0, 0))]).2 = _
  generalize s.l.getD t (0, 0) = c
  generalize stT preS (2, 0) [s] t = st
  unfold preS
  rw [jnt1]
  cases thB c <;> rfl
theorem jnt2 (a b : Int × Int) : jnt [pl a, pl b] = (thB a && thB b) := by simp [jnt, thB_pl]
theorem fby_arrow (A B P : Option Addr) (c d e : Nat) (l m : List (Int × Int)) (n : Nat) (h : ∀ i, i < n → thB (l.getD i (0, 0)) = thB (m.getD i (0, 0))) :
    outT fbyS (0, 0) [⟨A, c, l⟩, ⟨B, d, m⟩] n = outT arrowS false [⟨A, c, l⟩, ⟨P, e, outT preS (2, 0) [⟨B, d, m⟩] n⟩] n := by
  have hg : ∀ t, t < n → (outT preS (2, 0) [⟨B, d, m⟩] n).getD t (0, 0) = if thB (m.getD t (0, 0)) then stT preS (2, 0) [⟨B, d, m⟩] t else (0, 0) := fun t ht => getD_of (pre_get ⟨B, d, m⟩ n t ht)
  generalize outT preS (2, 0) [⟨B, d, m⟩] n = p at *
  have key : ∀ t, t ≤ n → outT fbyS (0, 0) [⟨A, c, l⟩, ⟨B, d, m⟩] t = outT arrowS false [⟨A, c, l⟩, ⟨P, e, p⟩] t ∧
      ((stT arrowS false [⟨A, c, l⟩, ⟨P, e, p⟩] t = false ∧ stT fbyS (0, 0) [⟨A, c, l⟩, ⟨B, d, m⟩] t = (0, 0)) ∨ (stT arrowS false [⟨A, c, l⟩, ⟨P, e, p⟩] t = true ∧ stT fbyS (0, 0) [⟨A, c, l⟩, ⟨B, d, m⟩] t = stT preS (2, 0) [⟨B, d, m⟩] t)) := by
    intro t
    induction t with
    | zero => exact fun _ => ⟨rfl, .inl ⟨rfl, rfl⟩⟩
    | succ t ih =>
      intro ht
      obtain ⟨h1, h2⟩ := ih (by omega)
      have r1 : rowAt [⟨A, c, l⟩, ⟨B, d, m⟩] t = [pl (l.getD t (0, 0)), pl (m.getD t (0, 0))] := rfl
      have r2 : rowAt [⟨A, c, l⟩, ⟨P, e, p⟩] t = [pl (l.getD t (0, 0)), pl (p.getD t (0, 0))] := rfl
      rw [outT_succ, outT_succ, stT_succ, stT_succ, r1, r2, hg t (by omega), h1, pre_st]
      have hth := h t (by omega)
      obtain ⟨p1, p2⟩ := pre_there ⟨B, d, m⟩ t
      simp only
      generalize l.getD t (0, 0) = a at *
      generalize m.getD t (0, 0) = b at *
      generalize stT preS (2, 0) [⟨B, d, m⟩] t = ps at *
      generalize stT fbyS (0, 0) [⟨A, c, l⟩, ⟨B, d, m⟩] t = fs at *
      generalize stT arrowS false [⟨A, c, l⟩, ⟨P, e, p⟩] t = ast at *
      have j1 := jnt2 a b
      cases hb : thB b
      · rw [hb] at hth j1
        rw [hth] at j1
        have j2 := jnt2 a (0, 0)
        rw [hth] at j2
        simp only [Bool.false_eq_true, if_false]
        rw [fbyS_no j1]
        have : arrowS ast [pl a, pl (0, 0)] = (ast, (0, 0)) := by unfold arrowS; rw [j2]; rfl
        rw [this]
        exact ⟨rfl, h2⟩
      · rw [hb] at hth j1
        rw [hth] at j1
        have j2 := jnt2 a ps
        rw [hth, p1] at j2
        simp only [if_true]
        rcases h2 with ⟨rfl, rfl⟩ | ⟨rfl, rfl⟩
        · rw [fbyS_a j1 rfl]
          have : arrowS false [pl a, pl ps] = (true, pl a) := by unfold arrowS; rw [j2]; rfl
          rw [this]
          exact ⟨rfl, .inr ⟨rfl, rfl⟩⟩
        · rw [fbyS_b j1 p1]
          have : arrowS true [pl a, pl fs] = (true, pl fs) := by unfold arrowS; rw [j2]; rfl
          rw [this, p2]
          exact ⟨rfl, .inr ⟨rfl, rfl⟩⟩
  exact (key n (Nat.le_refl _)).1
theorem RdC.cut {w : World} {B : Nat} {A : Option Addr} {l : List (Int × Int)} (h : RdC w B A l) (n : Nat) : RdC w B A (l.take n) := fun hn => by
  obtain ⟨ad, e, hb, hc⟩ := h (by rintro rfl; simp at hn)
  refine ⟨ad, e, hb, fun i c hi => hc i c ?_⟩
  rw [List.getElem?_take] at hi
  split at hi
  · exact hi
  · cases hi
theorem cut_at (A : Option Addr) (n c len : Nat) (h1 : n ≤ len) (h2 : len ≤ c) : ∀ W, (Instr.slice 26 (.slice A len c) none (some (.int .i64 (n : Int))) none).run Try.prog W = .ok (.slice A n c) W := fun W => by
  have h : (Instr.slice 26 (.slice A len c) none (some (.int .i64 (n : Int))) none).run Try.prog W = _ := run_slice_h W 26 A len c (by kernel_rfl) .i64 n (by omega) (by omega)
  rw [h]
  have hz : ∀ a : Addr, a.add 0 = a := fun a => add_zero' a
  by_cases hc : c = 0
  · subst hc; simp [go_sem, sliced]
  · cases A <;> simp [go_sem, sliced, hc, hz]
end Go.Proofs.Ytefmnjcllncmpaa
/- StreamFby. -/
namespace Go.Proofs.Ytefmnjcllncmpaa
set_option linter.unusedVariables false
set_option linter.unusedSimpArgs false
open Go.RowKit
set_option maxHeartbeats 4000000 in
set_option maxRecDepth 20000 in
theorem fbyl_any (A B : Option Addr) (c d : Nat) (l m : List (Int × Int)) (w : World) (hA : RdC w w.heap.size A l) (hB : RdC w w.heap.size B m) (hl : l.length ≤ 9223372036854775807) (hm : m.length ≤ 9223372036854775807) (hlc : l.length ≤ c) (hmd : m.length ≤ d) :
    Calls Try.prog 6 #[.slice A l.length c, .slice B m.length d] w (Bel (.bool true) w) := by
  have HA := Lib.hid hA
  have HB := Lib.hid hB
  have KG : Hid (∀ b W, RdS W W.heap.size (some ⟨b, 0, none⟩) [⟨A, c, l⟩, ⟨B, d, m⟩] → Calls Try.prog 9 #[.slice (some ⟨b, 0, none⟩) 2 2] W (Bel (.bool (longB [⟨A, c, l⟩, ⟨B, d, m⟩])) W)) := Lib.hid fun b W h => long_any (some ⟨b, 0, none⟩) 2 [⟨A, c, l⟩, ⟨B, d, m⟩] W h (by simp) (rl2 _ _ _ hl hm)
  have KL := Lib.hid lives_any
  cases hlg : longB [⟨A, c, l⟩, ⟨B, d, m⟩]
  · rw [hlg] at KG
    obtain ⟨_, h3⟩ := longB_no hlg
    have hl3 : l.length ≤ 300 := h3 ⟨A, c, l⟩ (by simp)
    have hm3 : m.length ≤ 300 := h3 ⟨B, d, m⟩ (by simp)
    clear hlg h3 hl hm
    by_cases hlm : m.length < l.length
    · have g1 : (m.length : Int) < (l.length : Int) := by omega
      have hn1 : m.length ≤ l.length := by omega
      have hn2 : m.length ≤ m.length := by omega
      have ca := cut_at A m.length c l.length hn1 hlc
      have cb := cut_at B m.length d m.length hn2 hmd
      have RA := Lib.hid (hA.cut m.length)
      have RB := Lib.hid (hB.cut m.length)
      have la : (l.take (m.length)).length = m.length := by rw [List.length_take]; omega
      have lb : (m.take (m.length)).length = m.length := by rw [List.length_take]; omega
      have ha0 := hA.cut m.length
      have hb0 := hB.cut m.length
      generalize hla : l.take (m.length) = l' at *
      generalize hma : m.take (m.length) = m' at *
      have P1 : Hid (∀ W, RdC W W.heap.size B m' → Calls Try.prog 18 #[.slice B (m.length) d] W (NewH (outT preS (2, 0) [⟨B, d, m'⟩] (m.length)) (m.length) W)) := Lib.hid fun W h => by
        have := (pre_any B d m' W h (by omega)).mono fun e w' => newH (n := tog [⟨B, d, m'⟩]) (outT_length _ _ _ _)
        rw [tog1, lb] at this
        exact this
      have P2 : Hid (∀ W, RdC W W.heap.size A l' → RdC W W.heap.size B m' → Calls Try.prog 22 #[.slice A (m.length) c, .slice B (m.length) d] W (NewH (outT fbyS (0, 0) [⟨A, c, l'⟩, ⟨B, d, m'⟩] (m.length)) (m.length) W)) := Lib.hid fun W h k => by
        have := (fby_any A B c d l' m' W h k (by omega) (by omega)).mono fun e w' => newH (n := tog [⟨A, c, l'⟩, ⟨B, d, m'⟩]) (outT_length _ _ _ _)
        rw [tog2, la, lb, Nat.min_self] at this
        exact this
      have P3 : Hid (∀ P e W, RdC W W.heap.size A l' → RdC W W.heap.size P (outT preS (2, 0) [⟨B, d, m'⟩] (m.length)) → Calls Try.prog 20 #[.slice A (m.length) c, .slice P (m.length) e] W (NewH (outT arrowS false [⟨A, c, l'⟩, ⟨P, e, outT preS (2, 0) [⟨B, d, m'⟩] (m.length)⟩] (m.length)) (m.length) W)) := Lib.hid fun P e W h k => by
        have hpl : (outT preS (2, 0) [⟨B, d, m'⟩] (m.length)).length = m.length := outT_length _ _ _ _
        have := (arrow_any A P c e l' (outT preS (2, 0) [⟨B, d, m'⟩] (m.length)) W h k (by omega) (by omega)).mono fun ev w' => newH (n := tog [⟨A, c, l'⟩, ⟨P, e, outT preS (2, 0) [⟨B, d, m'⟩] (m.length)⟩]) (outT_length _ _ _ _)
        rw [tog2, la, hpl, Nat.min_self] at this
        exact this
      have FA : Hid (∀ P e, (∀ i, i < m.length → thB (l'.getD i (0, 0)) = thB (m'.getD i (0, 0))) → outT arrowS false [⟨A, c, l'⟩, ⟨P, e, outT preS (2, 0) [⟨B, d, m'⟩] (m.length)⟩] (m.length) = outT fbyS (0, 0) [⟨A, c, l'⟩, ⟨B, d, m'⟩] (m.length)) := Lib.hid fun P e h => (fby_arrow A B P c d e l' m' (m.length) h).symm
      have S1 := same_h (outT fbyS (0, 0) [⟨A, c, l'⟩, ⟨B, d, m'⟩] (m.length)) (m.length) (outT_length _ _ _ _) (by omega)
      generalize outT preS (2, 0) [⟨B, d, m'⟩] (m.length) = x1 at *
      generalize outT fbyS (0, 0) [⟨A, c, l'⟩, ⟨B, d, m'⟩] (m.length) = x2 at *
      have KT := Lib.hid rthere_any
      simp only [cV] at KT
      clear hla hma hA hB hlc hmd
      go_enter Try.func6, Try.ntmps6
      go_wp2_with (go_at_call 9; (with_reducible refine (KG.out _ _ ?_).mono ?_); (focus (exact RdS.new [⟨A, c, l⟩, ⟨B, d, m⟩] _ rfl (rl2 _ _ _ (HA.out.to (by repeat (first | (with_reducible exact Below.refl _ _) | (with_reducible assumption) | (with_reducible exact bel_box _) | (with_reducible refine bel_step ?_ (by with_reducible assumption)) | (with_reducible refine Below.drew ?_) | (with_reducible refine below_drewN ?_ _) | (with_reducible refine bel_alloc ?_ _)))) (HB.out.to (by repeat (first | (with_reducible exact Below.refl _ _) | (with_reducible assumption) | (with_reducible exact bel_box _) | (with_reducible refine bel_step ?_ (by with_reducible assumption)) | (with_reducible refine Below.drew ?_) | (with_reducible refine below_drewN ?_ _) | (with_reducible refine bel_alloc ?_ _))))))); rintro e w0 ⟨rfl, hb0'⟩)
      go_region_held3 (fun W => True)
        ((exact trivial))
        (first | (fail))
      go_wp2
      go_loopw [6] (fun i wr => ∃ k : Nat, k ≤ m.length ∧ i = .int .i64 (k : Int) ∧ Hid (∀ i, i < k → thB (l'.getD i (0, 0)) = thB (m'.getD i (0, 0))) ∧ Below w.heap.size w wr) (fun i _ => m.length - (intOf i).toNat)
      case atStart => exact ⟨0, by omega, rfl, Lib.hid (fun i h => absurd h (by omega)), (by repeat (first | (with_reducible exact Below.refl _ _) | (with_reducible assumption) | (with_reducible exact bel_box _) | (with_reducible refine bel_step ?_ (by with_reducible assumption)) | (with_reducible refine Below.drew ?_) | (with_reducible refine below_drewN ?_ _) | (with_reducible refine bel_alloc ?_ _)))⟩
      case round =>
        obtain ⟨k, hk, rfl, hall, hbl⟩ := hrel
        by_cases hkn : k < m.length
        · obtain ⟨adA, a0, a1, rfl, hea, HEA⟩ := ha0.inst (show k < l'.length by omega)
          obtain ⟨adB, b0, b1, rfl, heb, HEB⟩ := hb0.inst (show k < m'.length by omega)
          have KTA := Lib.hid (KT.out (a0, a1))
          have KTB := Lib.hid (KT.out (b0, b1))
          have hga := getD_of hea
          have hgb := getD_of heb
          have HK : Hid (∀ W, Below w.heap.size w W → W.cell? (adA.add (k * 2)) = some (.int .i64 a0) ∧ W.cell? ⟨(adA.add (k * 2)).block, (adA.add (k * 2)).off + 1, none⟩ = some (.int .i64 a1) ∧ W.cell? (adB.add (k * 2)) = some (.int .i64 b0) ∧ W.cell? ⟨(adB.add (k * 2)).block, (adB.add (k * 2)).off + 1, none⟩ = some (.int .i64 b1)) := Lib.hid fun W hW => ⟨(HEA.out W hW).1, (HEA.out W hW).2, (HEB.out W hW).1, (HEB.out W hW).2⟩
          have HN : Hid (thB (a0, a1) = thB (b0, b1) → ∀ i, i < k + 1 → thB (l'.getD i (0, 0)) = thB (m'.getD i (0, 0))) := Lib.hid fun h i hi => by
            rcases Nat.lt_or_ge i k with h1 | h1
            · exact hall.out i h1
            · obtain rfl : i = k := by omega
              rw [hga, hgb]; exact h
          have i0 : (0 : Int) ≤ (k : Int) := by omega
          have i1 : (k : Int) < ((m.length : Nat) : Int) := by omega
          obtain ⟨q0, q1, q2, q3⟩ := HK.out wr hbl
          generalize thB (a0, a1) = ta at *
          generalize thB (b0, b1) = tb at *
          clear hea heb HEA HEB hga hgb P1 P2 P3 FA S1 KT ha0 hb0
          have hsp : tb = ta ∨ tb = !ta := by cases ta <;> cases tb <;> simp
          rcases hsp with rfl | rfl
          · have HN2 := Lib.hid (HN.out rfl)
            clear HN hall
            cases tb
            all_goals
              go_wp2_with (fail)
              go_region_held3 (fun W => W.cell? (adA.add (k * 2)) = some (.int .i64 a0) ∧ W.cell? ⟨(adA.add (k * 2)).block, (adA.add (k * 2)).off + 1, none⟩ = some (.int .i64 a1) ∧ W.cell? (adB.add (k * 2)) = some (.int .i64 b0) ∧ W.cell? ⟨(adB.add (k * 2)).block, (adB.add (k * 2)).off + 1, none⟩ = some (.int .i64 b1))
                ((refine HK.out _ ?_; (focus ((repeat (first | (with_reducible exact Below.refl _ _) | (with_reducible assumption) | (with_reducible exact bel_box _) | (with_reducible refine bel_step ?_ (by with_reducible assumption)) | (with_reducible refine Below.drew ?_) | (with_reducible refine below_drewN ?_ _) | (with_reducible refine bel_alloc ?_ _))); done))))
                (first
                  | (go_at_call 32; (with_reducible refine (KTA.out _).mono ?_); rintro e w1 ⟨rfl, hb1⟩)
                  | (go_at_call 32; (with_reducible refine (KTB.out _).mono ?_); rintro e w2 ⟨rfl, hb2⟩))
            all_goals
              go_wp2
              go_roundw
              case rel => exact ⟨k + 1, by omega, by go_num, HN2, (by repeat (first | (with_reducible exact Below.refl _ _) | (with_reducible assumption) | (with_reducible exact bel_box _) | (with_reducible refine bel_step ?_ (by with_reducible assumption)) | (with_reducible refine Below.drew ?_) | (with_reducible refine below_drewN ?_ _) | (with_reducible refine bel_alloc ?_ _)))⟩
              case measure => simp [intOf]; omega
          · clear HN hall
            cases ta
            all_goals
              go_wp2_with (fail)
              go_region_held3 (fun W => W.cell? (adA.add (k * 2)) = some (.int .i64 a0) ∧ W.cell? ⟨(adA.add (k * 2)).block, (adA.add (k * 2)).off + 1, none⟩ = some (.int .i64 a1) ∧ W.cell? (adB.add (k * 2)) = some (.int .i64 b0) ∧ W.cell? ⟨(adB.add (k * 2)).block, (adB.add (k * 2)).off + 1, none⟩ = some (.int .i64 b1))
                ((refine HK.out _ ?_; (focus ((repeat (first | (with_reducible exact Below.refl _ _) | (with_reducible assumption) | (with_reducible exact bel_box _) | (with_reducible refine bel_step ?_ (by with_reducible assumption)) | (with_reducible refine Below.drew ?_) | (with_reducible refine below_drewN ?_ _) | (with_reducible refine bel_alloc ?_ _))); done))))
                (first
                  | (go_at_call 32; (with_reducible refine (KTA.out _).mono ?_); rintro e w1 ⟨rfl, hb1⟩)
                  | (go_at_call 32; (with_reducible refine (KTB.out _).mono ?_); rintro e w2 ⟨rfl, hb2⟩))
            all_goals
              go_wp2_with (go_at_call 10; (with_reducible refine (KL.out _).mono ?_); rintro e w3 ⟨rfl, hb3⟩)
              go_ret
              exact ⟨rfl, (by repeat (first | (with_reducible exact Below.refl _ _) | (with_reducible assumption) | (with_reducible exact bel_box _) | (with_reducible refine bel_step ?_ (by with_reducible assumption)) | (with_reducible refine Below.drew ?_) | (with_reducible refine below_drewN ?_ _) | (with_reducible refine bel_alloc ?_ _)))⟩
        · obtain rfl : k = m.length := by omega
          have FA2 : Hid (∀ P e, _) := Lib.hid (fun P e => FA.out P e hall.out)
          clear FA KT
          simp only [FA2.out] at P3
          go_wp2_with (first
            | (go_at_call 22; (with_reducible refine (P2.out _ (RA.out.to ?_) (RB.out.to ?_)).mono ?_); (focus ((repeat (first | (with_reducible exact Below.refl _ _) | (with_reducible assumption) | (with_reducible exact bel_box _) | (with_reducible refine bel_step ?_ (by with_reducible assumption)) | (with_reducible refine Below.drew ?_) | (with_reducible refine below_drewN ?_ _) | (with_reducible refine bel_alloc ?_ _))); done)); (focus ((repeat (first | (with_reducible exact Below.refl _ _) | (with_reducible assumption) | (with_reducible exact bel_box _) | (with_reducible refine bel_step ?_ (by with_reducible assumption)) | (with_reducible refine Below.drew ?_) | (with_reducible refine below_drewN ?_ _) | (with_reducible refine bel_alloc ?_ _))); done)); rintro e w3 ⟨A3, c3, rfl, R3, hb3⟩)
            | (go_at_call 18; (with_reducible refine (P1.out _ (RB.out.to ?_)).mono ?_); (focus ((repeat (first | (with_reducible exact Below.refl _ _) | (with_reducible assumption) | (with_reducible exact bel_box _) | (with_reducible refine bel_step ?_ (by with_reducible assumption)) | (with_reducible refine Below.drew ?_) | (with_reducible refine below_drewN ?_ _) | (with_reducible refine bel_alloc ?_ _))); done)); rintro e w4 ⟨A4, c4, rfl, R4, hb4⟩)
            | (go_at_call 20; (with_reducible refine (P3.out _ _ _ (RA.out.to ?_) (htoR R4 ?_)).mono ?_); (focus ((repeat (first | (with_reducible exact Below.refl _ _) | (with_reducible assumption) | (with_reducible exact bel_box _) | (with_reducible refine bel_step ?_ (by with_reducible assumption)) | (with_reducible refine Below.drew ?_) | (with_reducible refine below_drewN ?_ _) | (with_reducible refine bel_alloc ?_ _))); done)); (focus ((repeat (first | (with_reducible exact Below.refl _ _) | (with_reducible assumption) | (with_reducible exact bel_box _) | (with_reducible refine bel_step ?_ (by with_reducible assumption)) | (with_reducible refine Below.drew ?_) | (with_reducible refine below_drewN ?_ _) | (with_reducible refine bel_alloc ?_ _))); done)); rintro e w5 ⟨A5, c5, rfl, R5, hb5⟩)
            | (go_at_call 11; (with_reducible refine (S1.out _ _ _ _ _ (htoR R3 ?_) (htoR R5 ?_)).mono ?_); (focus ((repeat (first | (with_reducible exact Below.refl _ _) | (with_reducible assumption) | (with_reducible exact bel_box _) | (with_reducible refine bel_step ?_ (by with_reducible assumption)) | (with_reducible refine Below.drew ?_) | (with_reducible refine below_drewN ?_ _) | (with_reducible refine bel_alloc ?_ _))); done)); (focus ((repeat (first | (with_reducible exact Below.refl _ _) | (with_reducible assumption) | (with_reducible exact bel_box _) | (with_reducible refine bel_step ?_ (by with_reducible assumption)) | (with_reducible refine Below.drew ?_) | (with_reducible refine below_drewN ?_ _) | (with_reducible refine bel_alloc ?_ _))); done)); rintro e u1 ⟨rfl, hu1⟩)
            | (go_at_call 10; (with_reducible refine (KL.out _).mono ?_); rintro e u4 ⟨rfl, hu4⟩))
          go_ret
          exact ⟨rfl, (by repeat (first | (with_reducible exact Below.refl _ _) | (with_reducible assumption) | (with_reducible exact bel_box _) | (with_reducible refine bel_step ?_ (by with_reducible assumption)) | (with_reducible refine Below.drew ?_) | (with_reducible refine below_drewN ?_ _) | (with_reducible refine bel_alloc ?_ _)))⟩
    · have g1 : ¬ (m.length : Int) < (l.length : Int) := by omega
      have hn1 : l.length ≤ l.length := by omega
      have hn2 : l.length ≤ m.length := by omega
      have ca := cut_at A l.length c l.length hn1 hlc
      have cb := cut_at B l.length d m.length hn2 hmd
      have RA := Lib.hid (hA.cut l.length)
      have RB := Lib.hid (hB.cut l.length)
      have la : (l.take (l.length)).length = l.length := by rw [List.length_take]; omega
      have lb : (m.take (l.length)).length = l.length := by rw [List.length_take]; omega
      have ha0 := hA.cut l.length
      have hb0 := hB.cut l.length
      generalize hla : l.take (l.length) = l' at *
      generalize hma : m.take (l.length) = m' at *
      have P1 : Hid (∀ W, RdC W W.heap.size B m' → Calls Try.prog 18 #[.slice B (l.length) d] W (NewH (outT preS (2, 0) [⟨B, d, m'⟩] (l.length)) (l.length) W)) := Lib.hid fun W h => by
        have := (pre_any B d m' W h (by omega)).mono fun e w' => newH (n := tog [⟨B, d, m'⟩]) (outT_length _ _ _ _)
        rw [tog1, lb] at this
        exact this
      have P2 : Hid (∀ W, RdC W W.heap.size A l' → RdC W W.heap.size B m' → Calls Try.prog 22 #[.slice A (l.length) c, .slice B (l.length) d] W (NewH (outT fbyS (0, 0) [⟨A, c, l'⟩, ⟨B, d, m'⟩] (l.length)) (l.length) W)) := Lib.hid fun W h k => by
        have := (fby_any A B c d l' m' W h k (by omega) (by omega)).mono fun e w' => newH (n := tog [⟨A, c, l'⟩, ⟨B, d, m'⟩]) (outT_length _ _ _ _)
        rw [tog2, la, lb, Nat.min_self] at this
        exact this
      have P3 : Hid (∀ P e W, RdC W W.heap.size A l' → RdC W W.heap.size P (outT preS (2, 0) [⟨B, d, m'⟩] (l.length)) → Calls Try.prog 20 #[.slice A (l.length) c, .slice P (l.length) e] W (NewH (outT arrowS false [⟨A, c, l'⟩, ⟨P, e, outT preS (2, 0) [⟨B, d, m'⟩] (l.length)⟩] (l.length)) (l.length) W)) := Lib.hid fun P e W h k => by
        have hpl : (outT preS (2, 0) [⟨B, d, m'⟩] (l.length)).length = l.length := outT_length _ _ _ _
        have := (arrow_any A P c e l' (outT preS (2, 0) [⟨B, d, m'⟩] (l.length)) W h k (by omega) (by omega)).mono fun ev w' => newH (n := tog [⟨A, c, l'⟩, ⟨P, e, outT preS (2, 0) [⟨B, d, m'⟩] (l.length)⟩]) (outT_length _ _ _ _)
        rw [tog2, la, hpl, Nat.min_self] at this
        exact this
      have FA : Hid (∀ P e, (∀ i, i < l.length → thB (l'.getD i (0, 0)) = thB (m'.getD i (0, 0))) → outT arrowS false [⟨A, c, l'⟩, ⟨P, e, outT preS (2, 0) [⟨B, d, m'⟩] (l.length)⟩] (l.length) = outT fbyS (0, 0) [⟨A, c, l'⟩, ⟨B, d, m'⟩] (l.length)) := Lib.hid fun P e h => (fby_arrow A B P c d e l' m' (l.length) h).symm
      have S1 := same_h (outT fbyS (0, 0) [⟨A, c, l'⟩, ⟨B, d, m'⟩] (l.length)) (l.length) (outT_length _ _ _ _) (by omega)
      generalize outT preS (2, 0) [⟨B, d, m'⟩] (l.length) = x1 at *
      generalize outT fbyS (0, 0) [⟨A, c, l'⟩, ⟨B, d, m'⟩] (l.length) = x2 at *
      have KT := Lib.hid rthere_any
      simp only [cV] at KT
      clear hla hma hA hB hlc hmd
      go_enter Try.func6, Try.ntmps6
      go_wp2_with (go_at_call 9; (with_reducible refine (KG.out _ _ ?_).mono ?_); (focus (exact RdS.new [⟨A, c, l⟩, ⟨B, d, m⟩] _ rfl (rl2 _ _ _ (HA.out.to (by repeat (first | (with_reducible exact Below.refl _ _) | (with_reducible assumption) | (with_reducible exact bel_box _) | (with_reducible refine bel_step ?_ (by with_reducible assumption)) | (with_reducible refine Below.drew ?_) | (with_reducible refine below_drewN ?_ _) | (with_reducible refine bel_alloc ?_ _)))) (HB.out.to (by repeat (first | (with_reducible exact Below.refl _ _) | (with_reducible assumption) | (with_reducible exact bel_box _) | (with_reducible refine bel_step ?_ (by with_reducible assumption)) | (with_reducible refine Below.drew ?_) | (with_reducible refine below_drewN ?_ _) | (with_reducible refine bel_alloc ?_ _))))))); rintro e w0 ⟨rfl, hb0'⟩)
      go_region_held3 (fun W => True)
        ((exact trivial))
        (first | (fail))
      go_wp2
      go_loopw [6] (fun i wr => ∃ k : Nat, k ≤ l.length ∧ i = .int .i64 (k : Int) ∧ Hid (∀ i, i < k → thB (l'.getD i (0, 0)) = thB (m'.getD i (0, 0))) ∧ Below w.heap.size w wr) (fun i _ => l.length - (intOf i).toNat)
      case atStart => exact ⟨0, by omega, rfl, Lib.hid (fun i h => absurd h (by omega)), (by repeat (first | (with_reducible exact Below.refl _ _) | (with_reducible assumption) | (with_reducible exact bel_box _) | (with_reducible refine bel_step ?_ (by with_reducible assumption)) | (with_reducible refine Below.drew ?_) | (with_reducible refine below_drewN ?_ _) | (with_reducible refine bel_alloc ?_ _)))⟩
      case round =>
        obtain ⟨k, hk, rfl, hall, hbl⟩ := hrel
        by_cases hkn : k < l.length
        · obtain ⟨adA, a0, a1, rfl, hea, HEA⟩ := ha0.inst (show k < l'.length by omega)
          obtain ⟨adB, b0, b1, rfl, heb, HEB⟩ := hb0.inst (show k < m'.length by omega)
          have KTA := Lib.hid (KT.out (a0, a1))
          have KTB := Lib.hid (KT.out (b0, b1))
          have hga := getD_of hea
          have hgb := getD_of heb
          have HK : Hid (∀ W, Below w.heap.size w W → W.cell? (adA.add (k * 2)) = some (.int .i64 a0) ∧ W.cell? ⟨(adA.add (k * 2)).block, (adA.add (k * 2)).off + 1, none⟩ = some (.int .i64 a1) ∧ W.cell? (adB.add (k * 2)) = some (.int .i64 b0) ∧ W.cell? ⟨(adB.add (k * 2)).block, (adB.add (k * 2)).off + 1, none⟩ = some (.int .i64 b1)) := Lib.hid fun W hW => ⟨(HEA.out W hW).1, (HEA.out W hW).2, (HEB.out W hW).1, (HEB.out W hW).2⟩
          have HN : Hid (thB (a0, a1) = thB (b0, b1) → ∀ i, i < k + 1 → thB (l'.getD i (0, 0)) = thB (m'.getD i (0, 0))) := Lib.hid fun h i hi => by
            rcases Nat.lt_or_ge i k with h1 | h1
            · exact hall.out i h1
            · obtain rfl : i = k := by omega
              rw [hga, hgb]; exact h
          have i0 : (0 : Int) ≤ (k : Int) := by omega
          have i1 : (k : Int) < ((l.length : Nat) : Int) := by omega
          obtain ⟨q0, q1, q2, q3⟩ := HK.out wr hbl
          generalize thB (a0, a1) = ta at *
          generalize thB (b0, b1) = tb at *
          clear hea heb HEA HEB hga hgb P1 P2 P3 FA S1 KT ha0 hb0
          have hsp : tb = ta ∨ tb = !ta := by cases ta <;> cases tb <;> simp
          rcases hsp with rfl | rfl
          · have HN2 := Lib.hid (HN.out rfl)
            clear HN hall
            cases tb
            all_goals
              go_wp2_with (fail)
              go_region_held3 (fun W => W.cell? (adA.add (k * 2)) = some (.int .i64 a0) ∧ W.cell? ⟨(adA.add (k * 2)).block, (adA.add (k * 2)).off + 1, none⟩ = some (.int .i64 a1) ∧ W.cell? (adB.add (k * 2)) = some (.int .i64 b0) ∧ W.cell? ⟨(adB.add (k * 2)).block, (adB.add (k * 2)).off + 1, none⟩ = some (.int .i64 b1))
                ((refine HK.out _ ?_; (focus ((repeat (first | (with_reducible exact Below.refl _ _) | (with_reducible assumption) | (with_reducible exact bel_box _) | (with_reducible refine bel_step ?_ (by with_reducible assumption)) | (with_reducible refine Below.drew ?_) | (with_reducible refine below_drewN ?_ _) | (with_reducible refine bel_alloc ?_ _))); done))))
                (first
                  | (go_at_call 32; (with_reducible refine (KTA.out _).mono ?_); rintro e w1 ⟨rfl, hb1⟩)
                  | (go_at_call 32; (with_reducible refine (KTB.out _).mono ?_); rintro e w2 ⟨rfl, hb2⟩))
            all_goals
              go_wp2
              go_roundw
              case rel => exact ⟨k + 1, by omega, by go_num, HN2, (by repeat (first | (with_reducible exact Below.refl _ _) | (with_reducible assumption) | (with_reducible exact bel_box _) | (with_reducible refine bel_step ?_ (by with_reducible assumption)) | (with_reducible refine Below.drew ?_) | (with_reducible refine below_drewN ?_ _) | (with_reducible refine bel_alloc ?_ _)))⟩
              case measure => simp [intOf]; omega
          · clear HN hall
            cases ta
            all_goals
              go_wp2_with (fail)
              go_region_held3 (fun W => W.cell? (adA.add (k * 2)) = some (.int .i64 a0) ∧ W.cell? ⟨(adA.add (k * 2)).block, (adA.add (k * 2)).off + 1, none⟩ = some (.int .i64 a1) ∧ W.cell? (adB.add (k * 2)) = some (.int .i64 b0) ∧ W.cell? ⟨(adB.add (k * 2)).block, (adB.add (k * 2)).off + 1, none⟩ = some (.int .i64 b1))
                ((refine HK.out _ ?_; (focus ((repeat (first | (with_reducible exact Below.refl _ _) | (with_reducible assumption) | (with_reducible exact bel_box _) | (with_reducible refine bel_step ?_ (by with_reducible assumption)) | (with_reducible refine Below.drew ?_) | (with_reducible refine below_drewN ?_ _) | (with_reducible refine bel_alloc ?_ _))); done))))
                (first
                  | (go_at_call 32; (with_reducible refine (KTA.out _).mono ?_); rintro e w1 ⟨rfl, hb1⟩)
                  | (go_at_call 32; (with_reducible refine (KTB.out _).mono ?_); rintro e w2 ⟨rfl, hb2⟩))
            all_goals
              go_wp2_with (go_at_call 10; (with_reducible refine (KL.out _).mono ?_); rintro e w3 ⟨rfl, hb3⟩)
              go_ret
              exact ⟨rfl, (by repeat (first | (with_reducible exact Below.refl _ _) | (with_reducible assumption) | (with_reducible exact bel_box _) | (with_reducible refine bel_step ?_ (by with_reducible assumption)) | (with_reducible refine Below.drew ?_) | (with_reducible refine below_drewN ?_ _) | (with_reducible refine bel_alloc ?_ _)))⟩
        · obtain rfl : k = l.length := by omega
          have FA2 : Hid (∀ P e, _) := Lib.hid (fun P e => FA.out P e hall.out)
          clear FA KT
          simp only [FA2.out] at P3
          go_wp2_with (first
            | (go_at_call 22; (with_reducible refine (P2.out _ (RA.out.to ?_) (RB.out.to ?_)).mono ?_); (focus ((repeat (first | (with_reducible exact Below.refl _ _) | (with_reducible assumption) | (with_reducible exact bel_box _) | (with_reducible refine bel_step ?_ (by with_reducible assumption)) | (with_reducible refine Below.drew ?_) | (with_reducible refine below_drewN ?_ _) | (with_reducible refine bel_alloc ?_ _))); done)); (focus ((repeat (first | (with_reducible exact Below.refl _ _) | (with_reducible assumption) | (with_reducible exact bel_box _) | (with_reducible refine bel_step ?_ (by with_reducible assumption)) | (with_reducible refine Below.drew ?_) | (with_reducible refine below_drewN ?_ _) | (with_reducible refine bel_alloc ?_ _))); done)); rintro e w3 ⟨A3, c3, rfl, R3, hb3⟩)
            | (go_at_call 18; (with_reducible refine (P1.out _ (RB.out.to ?_)).mono ?_); (focus ((repeat (first | (with_reducible exact Below.refl _ _) | (with_reducible assumption) | (with_reducible exact bel_box _) | (with_reducible refine bel_step ?_ (by with_reducible assumption)) | (with_reducible refine Below.drew ?_) | (with_reducible refine below_drewN ?_ _) | (with_reducible refine bel_alloc ?_ _))); done)); rintro e w4 ⟨A4, c4, rfl, R4, hb4⟩)
            | (go_at_call 20; (with_reducible refine (P3.out _ _ _ (RA.out.to ?_) (htoR R4 ?_)).mono ?_); (focus ((repeat (first | (with_reducible exact Below.refl _ _) | (with_reducible assumption) | (with_reducible exact bel_box _) | (with_reducible refine bel_step ?_ (by with_reducible assumption)) | (with_reducible refine Below.drew ?_) | (with_reducible refine below_drewN ?_ _) | (with_reducible refine bel_alloc ?_ _))); done)); (focus ((repeat (first | (with_reducible exact Below.refl _ _) | (with_reducible assumption) | (with_reducible exact bel_box _) | (with_reducible refine bel_step ?_ (by with_reducible assumption)) | (with_reducible refine Below.drew ?_) | (with_reducible refine below_drewN ?_ _) | (with_reducible refine bel_alloc ?_ _))); done)); rintro e w5 ⟨A5, c5, rfl, R5, hb5⟩)
            | (go_at_call 11; (with_reducible refine (S1.out _ _ _ _ _ (htoR R3 ?_) (htoR R5 ?_)).mono ?_); (focus ((repeat (first | (with_reducible exact Below.refl _ _) | (with_reducible assumption) | (with_reducible exact bel_box _) | (with_reducible refine bel_step ?_ (by with_reducible assumption)) | (with_reducible refine Below.drew ?_) | (with_reducible refine below_drewN ?_ _) | (with_reducible refine bel_alloc ?_ _))); done)); (focus ((repeat (first | (with_reducible exact Below.refl _ _) | (with_reducible assumption) | (with_reducible exact bel_box _) | (with_reducible refine bel_step ?_ (by with_reducible assumption)) | (with_reducible refine Below.drew ?_) | (with_reducible refine below_drewN ?_ _) | (with_reducible refine bel_alloc ?_ _))); done)); rintro e u1 ⟨rfl, hu1⟩)
            | (go_at_call 10; (with_reducible refine (KL.out _).mono ?_); rintro e u4 ⟨rfl, hu4⟩))
          go_ret
          exact ⟨rfl, (by repeat (first | (with_reducible exact Below.refl _ _) | (with_reducible assumption) | (with_reducible exact bel_box _) | (with_reducible refine bel_step ?_ (by with_reducible assumption)) | (with_reducible refine Below.drew ?_) | (with_reducible refine below_drewN ?_ _) | (with_reducible refine bel_alloc ?_ _)))⟩
  · rw [hlg] at KG
    clear hA hB hlg hl hm
    go_enter Try.func6, Try.ntmps6
    go_wp2_with (first
      | (go_at_call 9; (with_reducible refine (KG.out _ _ ?_).mono ?_); (focus (exact RdS.new [⟨A, c, l⟩, ⟨B, d, m⟩] _ rfl (rl2 _ _ _ (HA.out.to (by repeat (first | (with_reducible exact Below.refl _ _) | (with_reducible assumption) | (with_reducible exact bel_box _) | (with_reducible refine bel_step ?_ (by with_reducible assumption)) | (with_reducible refine Below.drew ?_) | (with_reducible refine below_drewN ?_ _) | (with_reducible refine bel_alloc ?_ _)))) (HB.out.to (by repeat (first | (with_reducible exact Below.refl _ _) | (with_reducible assumption) | (with_reducible exact bel_box _) | (with_reducible refine bel_step ?_ (by with_reducible assumption)) | (with_reducible refine Below.drew ?_) | (with_reducible refine below_drewN ?_ _) | (with_reducible refine bel_alloc ?_ _))))))); rintro e w0 ⟨rfl, hb0⟩)
      | (go_at_call 10; (with_reducible refine (KL.out _).mono ?_); rintro e u4 ⟨rfl, hu4⟩))
    go_ret
    exact ⟨rfl, (by repeat (first | (with_reducible exact Below.refl _ _) | (with_reducible assumption) | (with_reducible exact bel_box _) | (with_reducible refine bel_step ?_ (by with_reducible assumption)) | (with_reducible refine Below.drew ?_) | (with_reducible refine below_drewN ?_ _) | (with_reducible refine bel_alloc ?_ _)))⟩
end Go.Proofs.Ytefmnjcllncmpaa
/- The length of a slice of cells is at most its capacity. -/
namespace Go.Proofs.Ytefmnjcllncmpaa
set_option linter.unusedVariables false
set_option linter.unusedSimpArgs false
open Go.ChangeShapes Go.WideShapes Go.ChangeAt Go.RowKit Go.Deep Go.WideElems
section
variable {H : Type} {enc : TypeId × Value → H} {P : Program} {w : World} {held : Bool} {base : Nat}
theorem rd_cap {t e : TypeId} {f0 f1 : Field} {fuel : Nat} {A : Option Addr} {n c : Nat} {x : DataW H × List MemPlace} (ht : P.underlying t = some (.slice e)) (he : P.underlying e = some (.struct #[f0, f1]))
    (ce : P.cellsOf e = 2) (o0 : f0.offset = 0) (o1 : f1.offset = 1) (c0 : P.cellsOf f0.type = 1) (c1 : P.cellsOf f1.type = 1)
    (h : DataW.trod enc P w base (fun _ => true) held fuel t [.slice A n c] = some x) : n ≤ c := by
  rcases open_slice_pairs ht he ce o0 o1 c0 c1 h with ⟨hv, _⟩ | ⟨a, len, cap, m, k, V0, V1, D0, D1, P0, P1, hv, _, hl, _⟩
  · simp only [List.cons.injEq, and_true, Value.slice.injEq] at hv
    obtain ⟨_, rfl, rfl⟩ := hv
    exact Nat.le_refl _
  · simp only [List.cons.injEq, and_true, Value.slice.injEq] at hv
    obtain ⟨_, rfl, rfl⟩ := hv
    exact hl
end
end Go.Proofs.Ytefmnjcllncmpaa
