/- Texts of one chain, in one file. -/
import Derived.Test.YtefmnjcllncmpaaQD
/- StreamFby. -/
namespace Go.Proofs.Ytefmnjcllncmpaa
set_option linter.unusedVariables false
set_option linter.unusedSimpArgs false
open Go.RowKit
theorem outT_get {S : Type} (stp : S → List (Int × Int) → S × (Int × Int)) (s : S) (ls : List St) (n t : Nat) (h : t < n) : (outT stp s ls n)[t]? = some (stp (stT stp s ls t) (rowAt ls t)).2 := by
  induction n with
  | zero => omega
  | succ n ih =>
    rw [outT_succ]
    rcases Nat.lt_or_ge t n with h1 | h1
    · rw [List.getElem?_append_left (by rw [outT_length]; exact h1)]
      exact ih h1
    · obtain rfl : t = n := by omega
      rw [List.getElem?_append_right (by rw [outT_length]; omega), outT_length, Nat.sub_self]
      rfl
theorem pl_pl (c : Int × Int) : pl (pl c) = pl c := by
  obtain ⟨a, b⟩ := c
  unfold pl
  by_cases h1 : a = 1
  · subst h1; rfl
  · by_cases h2 : a = 2
    · subst h2; rfl
    · simp [h1, h2]
theorem pre_there (s : St) (t : Nat) : thB (stT preS (2, 0) [s] t) = true ∧ pl (stT preS (2, 0) [s] t) = stT preS (2, 0) [s] t := by
  induction t with
  | zero => exact ⟨rfl, rfl⟩
  | succ t ih =>
    rw [pre_st]
    cases h : thB (s.l.getD t (0, 0))
    · exact ih
    · exact ⟨by rw [if_pos rfl, thB_pl, h], by rw [if_pos rfl, pl_pl]⟩
theorem pre_get (s : St) (n t : Nat) (h : t < n) : (outT preS (2, 0) [s] n)[t]? = some (if thB (s.l.getD t (0, 0)) then stT preS (2, 0) [s] t else (0, 0)) := by
  rw [outT_get _ _ _ _ _ h]
  show some (preS _ [pl (s.l.getD t (0, 0))]).2 = _
  generalize s.l.getD t (0, 0) = c
  generalize stT preS (2, 0) [s] t = st
  unfold preS
  rw [jnt1]
  cases thB c <;> rfl
theorem jnt2 (a b : Int × Int) : jnt [pl a, pl b] = (thB a && thB b) := by simp [jnt, thB_pl]
theorem fby_arrow (A B P : Option Addr) (c d e : Nat) (l m : List (Int × Int)) (n : Nat) (h : ∀ i, i < n → thB (l.getD i (0, 0)) = thB (m.getD i (0, 0))) :
    outT fbyS (0, 0) [⟨A, c, l⟩, ⟨B, d, m⟩] n = outT arrowS false [⟨A, c, l⟩, ⟨P, e, outT preS (2, 0) [⟨B, d, m⟩] n⟩] n := by
  have hg : ∀ t, t < n → (outT preS (2, 0) [⟨B, d, m⟩] n).getD t (0, 0) = if thB (m.getD t (0, 0)) then stT preS (2, 0) [⟨B, d, m⟩] t else (0, 0) := fun t ht => getD_of (pre_get ⟨B, d, m⟩ n t ht)
  generalize outT preS (2, 0) [⟨B, d, m⟩] n = p at *
  have key : ∀ t, t ≤ n → outT fbyS (0, 0) [⟨A, c, l⟩, ⟨B, d, m⟩] t = outT arrowS false [⟨A, c, l⟩, ⟨P, e, p⟩] t ∧
      ((stT arrowS false [⟨A, c, l⟩, ⟨P, e, p⟩] t = false ∧ stT fbyS (0, 0) [⟨A, c, l⟩, ⟨B, d, m⟩] t = (0, 0)) ∨ (stT arrowS false [⟨A, c, l⟩, ⟨P, e, p⟩] t = true ∧ stT fbyS (0, 0) [⟨A, c, l⟩, ⟨B, d, m⟩] t = stT preS (2, 0) [⟨B, d, m⟩] t)) := by
    intro t
    induction t with
    | zero => exact fun _ => ⟨rfl, .inl ⟨rfl, rfl⟩⟩
    | succ t ih =>
      intro ht
      obtain ⟨h1, h2⟩ := ih (by omega)
      have r1 : rowAt [⟨A, c, l⟩, ⟨B, d, m⟩] t = [pl (l.getD t (0, 0)), pl (m.getD t (0, 0))] := rfl
      have r2 : rowAt [⟨A, c, l⟩, ⟨P, e, p⟩] t = [pl (l.getD t (0, 0)), pl (p.getD t (0, 0))] := rfl
      rw [outT_succ, outT_succ, stT_succ, stT_succ, r1, r2, hg t (by omega), h1, pre_st]
      have hth := h t (by omega)
      obtain ⟨p1, p2⟩ := pre_there ⟨B, d, m⟩ t
      simp only
      generalize l.getD t (0, 0) = a at *
      generalize m.getD t (0, 0) = b at *
      generalize stT preS (2, 0) [⟨B, d, m⟩] t = ps at *
      generalize stT fbyS (0, 0) [⟨A, c, l⟩, ⟨B, d, m⟩] t = fs at *
      generalize stT arrowS false [⟨A, c, l⟩, ⟨P, e, p⟩] t = ast at *
      have j1 := jnt2 a b
      cases hb : thB b
      · rw [hb] at hth j1
        rw [hth] at j1
        have j2 := jnt2 a (0, 0)
        rw [hth] at j2
        simp only [Bool.false_eq_true, if_false]
        rw [fbyS_no j1]
        have : arrowS ast [pl a, pl (0, 0)] = (ast, (0, 0)) := by unfold arrowS; rw [j2]; rfl
        rw [this]
        exact ⟨rfl, h2⟩
      · rw [hb] at hth j1
        rw [hth] at j1
        have j2 := jnt2 a ps
        rw [hth, p1] at j2
        simp only [if_true]
        rcases h2 with ⟨rfl, rfl⟩ | ⟨rfl, rfl⟩
        · rw [fbyS_a j1 rfl]
          have : arrowS false [pl a, pl ps] = (true, pl a) := by unfold arrowS; rw [j2]; rfl
          rw [this]
          exact ⟨rfl, .inr ⟨rfl, rfl⟩⟩
        · rw [fbyS_b j1 p1]
          have : arrowS true [pl a, pl fs] = (true, pl fs) := by unfold arrowS; rw [j2]; rfl
          rw [this, p2]
          exact ⟨rfl, .inr ⟨rfl, rfl⟩⟩
  exact (key n (Nat.le_refl _)).1
theorem RdC.cut {w : World} {B : Nat} {A : Option Addr} {l : List (Int × Int)} (h : RdC w B A l) (n : Nat) : RdC w B A (l.take n) := fun hn => by
  obtain ⟨ad, e, hb, hc⟩ := h (by rintro rfl; simp at hn)
  refine ⟨ad, e, hb, fun i c hi => hc i c ?_⟩
  rw [List.getElem?_take] at hi
  split at hi
  · exact hi
  · cases hi
theorem cut_at (A : Option Addr) (n c len : Nat) (h1 : n ≤ len) (h2 : len ≤ c) : ∀ W, (Instr.slice 26 (.slice A len c) none (some (.int .i64 (n : Int))) none).run Try.prog W = .ok (.slice A n c) W := fun W => by
  have h : (Instr.slice 26 (.slice A len c) none (some (.int .i64 (n : Int))) none).run Try.prog W = _ := run_slice_h W 26 A len c (by kernel_rfl) .i64 n (by omega) (by omega)
  rw [h]
  have hz : ∀ a : Addr, a.add 0 = a := fun a => add_zero' a
  by_cases hc : c = 0
  · subst hc; simp [go_sem, sliced]
  · cases A <;> simp [go_sem, sliced, hc, hz]
end Go.Proofs.Ytefmnjcllncmpaa
/- Where results are there. -/
namespace Go.Proofs.Ytefmnjcllncmpaa
set_option linter.unusedVariables false
set_option linter.unusedSimpArgs false
open Go.RowKit
theorem pres_pre (s : St) (n t : Nat) (h : t < n) : ∃ c, (outT preS (2, 0) [s] n)[t]? = some c ∧ thB c = thB (s.l.getD t (0, 0)) := by
  refine ⟨_, pre_get s n t h, ?_⟩
  cases hb : thB (s.l.getD t (0, 0))
  · rfl
  · rw [if_pos rfl]; exact (pre_there s t).1
theorem fby_there (s a b : Int × Int) : thB (fbyS s [pl a, pl b]).2 = (thB a && thB b) := by
  have j := jnt2 a b
  cases h : (thB a && thB b)
  · rw [h] at j; rw [fbyS_no j]; rfl
  · rw [h] at j
    rw [Bool.and_eq_true] at h
    cases hs : thB s
    · rw [fbyS_a j hs]; show thB (pl a) = true; rw [thB_pl]; exact h.1
    · rw [fbyS_b j hs]; exact hs
theorem arrow_there (s : Bool) (a b : Int × Int) : thB (arrowS s [pl a, pl b]).2 = (thB a && thB b) := by
  have j := jnt2 a b
  cases h : (thB a && thB b)
  · rw [h] at j; unfold arrowS; rw [j]; rfl
  · rw [h] at j
    rw [Bool.and_eq_true] at h
    unfold arrowS; rw [j]
    cases s
    · show thB (pl a) = true; rw [thB_pl]; exact h.1
    · show thB (pl b) = true; rw [thB_pl]; exact h.2
theorem pres_two {S : Type} (stp : S → List (Int × Int) → S × (Int × Int)) (s0 : S) (hs : ∀ s a b, thB (stp s [pl a, pl b]).2 = (thB a && thB b)) (u v : St) (n t : Nat) (h : t < n) :
    ∃ c, (outT stp s0 [u, v] n)[t]? = some c ∧ thB c = (thB (u.l.getD t (0, 0)) && thB (v.l.getD t (0, 0))) :=
  ⟨_, outT_get stp s0 [u, v] n t h, hs _ _ _⟩
theorem lift_there (op : Int) {r : List (Int × Int)} (h : jnt r = true) : thB (liftF op r) = true := by
  have hb : badK r = false := by
    rw [badK, List.any_eq_false]
    intro c hc
    have := (List.all_eq_true.1 h) c hc
    simp [thB] at this
    simp; omega
  unfold liftF lifK lifV thB
  rw [hb]
  simp only [Bool.false_eq_true, if_false]
  split <;> rfl
theorem pres_lift (op : Int) (u v : St) (n t : Nat) (h : t < n) :
    ∃ c, ((rowsTo [u, v] n).map (liftF op))[t]? = some c ∧ thB c = (thB (u.l.getD t (0, 0)) && thB (v.l.getD t (0, 0))) := by
  refine ⟨liftF op (rowAt [u, v] t), ?_, ?_⟩
  · rw [List.getElem?_map]
    unfold rowsTo
    rw [List.getElem?_map, List.getElem?_range h]
    rfl
  · have j := jnt2 (u.l.getD t (0, 0)) (v.l.getD t (0, 0))
    rw [← j]
    show thB (liftF op [pl (u.l.getD t (0, 0)), pl (v.l.getD t (0, 0))]) = _
    generalize [pl (u.l.getD t (0, 0)), pl (v.l.getD t (0, 0))] = r
    cases hj : jnt r
    · rw [lift_no op hj]; rfl
    · exact lift_there op hj
/-- the cells of an entry -/
theorem RdC.insts {w : World} {A : Option Addr} {l : List (Int × Int)} {t : Nat} (h : Hid (RdC w w.heap.size A l)) (ht : t < l.length) : ∃ ad e0 e1, A = some ad ∧ l[t]? = some (e0, e1) ∧ Hid (∀ W, Below w.heap.size w W → W.cell? (ad.add (t * 2)) = some (.int .i64 e0) ∧ W.cell? ⟨(ad.add (t * 2)).block, (ad.add (t * 2)).off + 1, none⟩ = some (.int .i64 e1)) := h.out.inst ht
end Go.Proofs.Ytefmnjcllncmpaa
/- StreamPresence. -/
namespace Go.Proofs.Ytefmnjcllncmpaa
set_option linter.unusedVariables false
set_option linter.unusedSimpArgs false
open Go.RowKit
set_option maxHeartbeats 8000000 in
set_option maxRecDepth 20000 in
theorem presl_any (A B : Option Addr) (c d : Nat) (l m : List (Int × Int)) (w : World) (hA : RdC w w.heap.size A l) (hB : RdC w w.heap.size B m) (hl : l.length ≤ 9223372036854775807) (hm : m.length ≤ 9223372036854775807) :
    Calls Try.prog 7 #[.slice A l.length c, .slice B m.length d] w (Bel (.bool true) w) := by
  have HA := Lib.hid hA
  have HB := Lib.hid hB
  have KG : Hid (∀ b W, RdS W W.heap.size (some ⟨b, 0, none⟩) [⟨A, c, l⟩, ⟨B, d, m⟩] → Calls Try.prog 9 #[.slice (some ⟨b, 0, none⟩) 2 2] W (Bel (.bool (longB [⟨A, c, l⟩, ⟨B, d, m⟩])) W)) := Lib.hid fun b W h => long_any (some ⟨b, 0, none⟩) 2 [⟨A, c, l⟩, ⟨B, d, m⟩] W h (by simp) (rl2 _ _ _ hl hm)
  have KL := Lib.hid lives_any
  cases hlg : longB [⟨A, c, l⟩, ⟨B, d, m⟩]
  · rw [hlg] at KG
    obtain ⟨_, h3⟩ := longB_no hlg
    have hl3 : l.length ≤ 300 := h3 ⟨A, c, l⟩ (by simp)
    have hm3 : m.length ≤ 300 := h3 ⟨B, d, m⟩ (by simp)
    clear hlg h3 hl hm
    by_cases hlm : m.length < l.length
    · have g1 : (m.length : Int) < (l.length : Int) := by omega
      have tg1 : tog [⟨A, c, l⟩] = l.length := tog1 _
      have tg2 : tog [⟨A, c, l⟩, ⟨B, d, m⟩] = m.length := (tog2 _ _).trans (by simp only; omega)
      have P1 : Hid (∀ W, RdC W W.heap.size A l → Calls Try.prog 18 #[.slice A l.length c] W (NewH (outT preS (2, 0) [⟨A, c, l⟩] l.length) l.length W)) := Lib.hid fun W h => by
        have := (pre_any A c l W h (by omega)).mono fun e w' => newH (n := tog [⟨A, c, l⟩]) (outT_length _ _ _ _)
        rwa [tg1] at this
      have P2 : Hid (∀ W, RdC W W.heap.size A l → RdC W W.heap.size B m → Calls Try.prog 20 #[.slice A l.length c, .slice B m.length d] W (NewH (outT arrowS false [⟨A, c, l⟩, ⟨B, d, m⟩] m.length) (m.length) W)) := Lib.hid fun W h k => by
        have := (arrow_any A B c d l m W h k (by omega) (by omega)).mono fun e w' => newH (n := tog [⟨A, c, l⟩, ⟨B, d, m⟩]) (outT_length _ _ _ _)
        rwa [tg2] at this
      have P3 : Hid (∀ W, RdC W W.heap.size A l → RdC W W.heap.size B m → Calls Try.prog 22 #[.slice A l.length c, .slice B m.length d] W (NewH (outT fbyS (0, 0) [⟨A, c, l⟩, ⟨B, d, m⟩] m.length) (m.length) W)) := Lib.hid fun W h k => by
        have := (fby_any A B c d l m W h k (by omega) (by omega)).mono fun e w' => newH (n := tog [⟨A, c, l⟩, ⟨B, d, m⟩]) (outT_length _ _ _ _)
        rwa [tg2] at this
      have P4 : Hid (∀ b W, RdS W W.heap.size (some ⟨b, 0, none⟩) [⟨A, c, l⟩, ⟨B, d, m⟩] → Calls Try.prog 12 #[.int .i64 6, .slice (some ⟨b, 0, none⟩) 2 2] W (NewH ((rowsTo [⟨A, c, l⟩, ⟨B, d, m⟩] m.length).map (liftF 6)) (m.length) W)) := Lib.hid fun b W h => by
        have := (liftP_any 6 (some ⟨b, 0, none⟩) 2 [⟨A, c, l⟩, ⟨B, d, m⟩] W h (by simp) (rl2 _ _ _ (by simp only; omega) (by simp only; omega))).mono fun e w' => newH (n := tog [⟨A, c, l⟩, ⟨B, d, m⟩]) (map_len _ _ _)
        rwa [tg2] at this
      have F1 := Lib.hid (pres_pre ⟨A, c, l⟩ l.length)
      have F2 := Lib.hid (pres_two arrowS false arrow_there ⟨A, c, l⟩ ⟨B, d, m⟩ m.length)
      have F3 := Lib.hid (pres_two fbyS (0, 0) fby_there ⟨A, c, l⟩ ⟨B, d, m⟩ m.length)
      have F4 := Lib.hid (pres_lift 6 ⟨A, c, l⟩ ⟨B, d, m⟩ m.length)
      have L1 : (outT preS (2, 0) [⟨A, c, l⟩] l.length).length = l.length := outT_length _ _ _ _
      have L2 : (outT arrowS false [⟨A, c, l⟩, ⟨B, d, m⟩] m.length).length = m.length := outT_length _ _ _ _
      have L3 : (outT fbyS (0, 0) [⟨A, c, l⟩, ⟨B, d, m⟩] m.length).length = m.length := outT_length _ _ _ _
      have L4 : ((rowsTo [⟨A, c, l⟩, ⟨B, d, m⟩] m.length).map (liftF 6)).length = m.length := map_len _ _ _
      generalize outT preS (2, 0) [⟨A, c, l⟩] l.length = x1 at *
      generalize outT arrowS false [⟨A, c, l⟩, ⟨B, d, m⟩] m.length = x2 at *
      generalize outT fbyS (0, 0) [⟨A, c, l⟩, ⟨B, d, m⟩] m.length = x3 at *
      generalize (rowsTo [⟨A, c, l⟩, ⟨B, d, m⟩] m.length).map (liftF 6) = x4 at *
      have L1 := Lib.hid L1
      have L2 := Lib.hid L2
      have L3 := Lib.hid L3
      have L4 := Lib.hid L4
      have HS : Hid (∀ W (t : TypeId), Below w.heap.size w W → RdS (W.alloc (.cells #[.slice A l.length c, .slice B m.length d] t)) (W.alloc (.cells #[.slice A l.length c, .slice B m.length d] t)).heap.size (some ⟨W.heap.size, 0, none⟩) [⟨A, c, l⟩, ⟨B, d, m⟩]) := Lib.hid fun W t hW => RdS.new [⟨A, c, l⟩, ⟨B, d, m⟩] _ rfl (rl2 _ _ _ (HA.out.to hW) (HB.out.to hW))
      have KT := Lib.hid rthere_any
      simp only [cV] at KT
      clear hA hB tg1 tg2
      go_enter Try.func7, Try.ntmps7
      go_wp2_with (first
        | (go_at_call 9; (with_reducible refine (KG.out _ _ (HS.out _ _ ?_)).mono ?_); (focus ((repeat (first | (with_reducible exact Below.refl _ _) | (with_reducible assumption) | (with_reducible exact bel_box _) | (with_reducible refine bel_step ?_ (by with_reducible assumption)) | (with_reducible refine Below.drew ?_) | (with_reducible refine below_drewN ?_ _) | (with_reducible refine bel_alloc ?_ _))); done)); rintro e w0 ⟨rfl, hb0⟩)
        | (go_at_call 18; (with_reducible refine (P1.out _ (HA.out.to ?_)).mono ?_); (focus ((repeat (first | (with_reducible exact Below.refl _ _) | (with_reducible assumption) | (with_reducible exact bel_box _) | (with_reducible refine bel_step ?_ (by with_reducible assumption)) | (with_reducible refine Below.drew ?_) | (with_reducible refine below_drewN ?_ _) | (with_reducible refine bel_alloc ?_ _))); done)); rintro e w1 ⟨A1, c1, rfl, R1, hb1⟩)
        | (go_at_call 22; (with_reducible refine (P3.out _ (HA.out.to ?_) (HB.out.to ?_)).mono ?_); (focus ((repeat (first | (with_reducible exact Below.refl _ _) | (with_reducible assumption) | (with_reducible exact bel_box _) | (with_reducible refine bel_step ?_ (by with_reducible assumption)) | (with_reducible refine Below.drew ?_) | (with_reducible refine below_drewN ?_ _) | (with_reducible refine bel_alloc ?_ _))); done)); (focus ((repeat (first | (with_reducible exact Below.refl _ _) | (with_reducible assumption) | (with_reducible exact bel_box _) | (with_reducible refine bel_step ?_ (by with_reducible assumption)) | (with_reducible refine Below.drew ?_) | (with_reducible refine below_drewN ?_ _) | (with_reducible refine bel_alloc ?_ _))); done)); rintro e w3 ⟨A3, c3, rfl, R3, hb3⟩)
        | (go_at_call 20; (with_reducible refine (P2.out _ (HA.out.to ?_) (HB.out.to ?_)).mono ?_); (focus ((repeat (first | (with_reducible exact Below.refl _ _) | (with_reducible assumption) | (with_reducible exact bel_box _) | (with_reducible refine bel_step ?_ (by with_reducible assumption)) | (with_reducible refine Below.drew ?_) | (with_reducible refine below_drewN ?_ _) | (with_reducible refine bel_alloc ?_ _))); done)); (focus ((repeat (first | (with_reducible exact Below.refl _ _) | (with_reducible assumption) | (with_reducible exact bel_box _) | (with_reducible refine bel_step ?_ (by with_reducible assumption)) | (with_reducible refine Below.drew ?_) | (with_reducible refine below_drewN ?_ _) | (with_reducible refine bel_alloc ?_ _))); done)); rintro e w2 ⟨A2, c2, rfl, R2, hb2⟩)
        | (go_at_call 12; (with_reducible refine (P4.out _ _ (HS.out _ _ ?_)).mono ?_); (focus ((repeat (first | (with_reducible exact Below.refl _ _) | (with_reducible assumption) | (with_reducible exact bel_box _) | (with_reducible refine bel_step ?_ (by with_reducible assumption)) | (with_reducible refine Below.drew ?_) | (with_reducible refine below_drewN ?_ _) | (with_reducible refine bel_alloc ?_ _))); done)); rintro e w4 ⟨A4, c4, rfl, R4, hb4⟩))
      go_loopw [10] (fun i wr => ∃ k : Nat, k ≤ l.length ∧ i = .int .i64 (k : Int) ∧ Below w.heap.size w wr ∧ Below w1.heap.size w1 wr ∧ Below w2.heap.size w2 wr ∧ Below w3.heap.size w3 wr ∧ Below w4.heap.size w4 wr) (fun i _ => l.length - (intOf i).toNat)
      case atStart => exact ⟨0, by omega, rfl, (by repeat (first | (with_reducible exact Below.refl _ _) | (with_reducible assumption) | (with_reducible exact bel_box _) | (with_reducible refine bel_step ?_ (by with_reducible assumption)) | (with_reducible refine Below.drew ?_) | (with_reducible refine below_drewN ?_ _) | (with_reducible refine bel_alloc ?_ _))), (by repeat (first | (with_reducible exact Below.refl _ _) | (with_reducible assumption) | (with_reducible exact bel_box _) | (with_reducible refine bel_step ?_ (by with_reducible assumption)) | (with_reducible refine Below.drew ?_) | (with_reducible refine below_drewN ?_ _) | (with_reducible refine bel_alloc ?_ _))), (by repeat (first | (with_reducible exact Below.refl _ _) | (with_reducible assumption) | (with_reducible exact bel_box _) | (with_reducible refine bel_step ?_ (by with_reducible assumption)) | (with_reducible refine Below.drew ?_) | (with_reducible refine below_drewN ?_ _) | (with_reducible refine bel_alloc ?_ _))), (by repeat (first | (with_reducible exact Below.refl _ _) | (with_reducible assumption) | (with_reducible exact bel_box _) | (with_reducible refine bel_step ?_ (by with_reducible assumption)) | (with_reducible refine Below.drew ?_) | (with_reducible refine below_drewN ?_ _) | (with_reducible refine bel_alloc ?_ _))), (by repeat (first | (with_reducible exact Below.refl _ _) | (with_reducible assumption) | (with_reducible exact bel_box _) | (with_reducible refine bel_step ?_ (by with_reducible assumption)) | (with_reducible refine Below.drew ?_) | (with_reducible refine below_drewN ?_ _) | (with_reducible refine bel_alloc ?_ _)))⟩
      case round =>
        obtain ⟨k, hk, rfl, hbl, hbl1, hbl2, hbl3, hbl4⟩ := hrel
        by_cases hkn : k < l.length
        · obtain ⟨adA, a0, a1, rfl, hea, HEA⟩ := RdC.insts HA hkn
          obtain ⟨adP, p0, p1, rfl, hep, HEP⟩ := RdC.insts R1 (show k < x1.length by rw [L1.out]; exact hkn)
          obtain ⟨pc, hpc, hpt⟩ := F1.out k hkn
          obtain rfl : (p0, p1) = pc := by rw [hep] at hpc; exact Option.some.inj hpc
          rw [getD_of hea] at hpt
          have KTA := Lib.hid (KT.out (a0, a1))
          have KTP := Lib.hid (KT.out (p0, p1))
          rw [hpt] at KTP
          have HK : Hid (∀ W, Below w.heap.size w W → Below w1.heap.size w1 W → W.cell? (adA.add (k * 2)) = some (.int .i64 a0) ∧ W.cell? ⟨(adA.add (k * 2)).block, (adA.add (k * 2)).off + 1, none⟩ = some (.int .i64 a1) ∧ W.cell? (adP.add (k * 2)) = some (.int .i64 p0) ∧ W.cell? ⟨(adP.add (k * 2)).block, (adP.add (k * 2)).off + 1, none⟩ = some (.int .i64 p1)) := Lib.hid fun W hW h1 => ⟨(HEA.out W hW).1, (HEA.out W hW).2, (HEP.out W h1).1, (HEP.out W h1).2⟩
          have i0 : (0 : Int) ≤ (k : Int) := by omega
          have i1 : (k : Int) < (l.length : Int) := by omega
          obtain ⟨q0, q1, q2, q3⟩ := HK.out wr hbl hbl1
          generalize thB (a0, a1) = ta at *
          clear hea hep hpc hpt HEA HEP P1 P2 P3 P4 F1 F2 F3 F4 KT KG
          cases ta
          all_goals
            go_wp2_with (fail)
            go_region_held3 (fun W => W.cell? (adA.add (k * 2)) = some (.int .i64 a0) ∧ W.cell? ⟨(adA.add (k * 2)).block, (adA.add (k * 2)).off + 1, none⟩ = some (.int .i64 a1) ∧ W.cell? (adP.add (k * 2)) = some (.int .i64 p0) ∧ W.cell? ⟨(adP.add (k * 2)).block, (adP.add (k * 2)).off + 1, none⟩ = some (.int .i64 p1))
              ((refine HK.out _ ?_ ?_; (focus ((repeat (first | (with_reducible exact Below.refl _ _) | (with_reducible assumption) | (with_reducible exact bel_box _) | (with_reducible refine bel_step ?_ (by with_reducible assumption)) | (with_reducible refine Below.drew ?_) | (with_reducible refine below_drewN ?_ _) | (with_reducible refine bel_alloc ?_ _))); done)); (focus ((repeat (first | (with_reducible exact Below.refl _ _) | (with_reducible assumption) | (with_reducible exact bel_box _) | (with_reducible refine bel_step ?_ (by with_reducible assumption)) | (with_reducible refine Below.drew ?_) | (with_reducible refine below_drewN ?_ _) | (with_reducible refine bel_alloc ?_ _))); done))))
              (first
                | (go_at_call 32; (with_reducible refine (KTA.out _).mono ?_); rintro e u1 ⟨rfl, hu1⟩)
                | (go_at_call 32; (with_reducible refine (KTP.out _).mono ?_); rintro e u2 ⟨rfl, hu2⟩))
          all_goals
            go_wp2
            go_roundw
            case rel => exact ⟨k + 1, by omega, by go_num, (by repeat (first | (with_reducible exact Below.refl _ _) | (with_reducible assumption) | (with_reducible exact bel_box _) | (with_reducible refine bel_step ?_ (by with_reducible assumption)) | (with_reducible refine Below.drew ?_) | (with_reducible refine below_drewN ?_ _) | (with_reducible refine bel_alloc ?_ _))), (by repeat (first | (with_reducible exact Below.refl _ _) | (with_reducible assumption) | (with_reducible exact bel_box _) | (with_reducible refine bel_step ?_ (by with_reducible assumption)) | (with_reducible refine Below.drew ?_) | (with_reducible refine below_drewN ?_ _) | (with_reducible refine bel_alloc ?_ _))), (by repeat (first | (with_reducible exact Below.refl _ _) | (with_reducible assumption) | (with_reducible exact bel_box _) | (with_reducible refine bel_step ?_ (by with_reducible assumption)) | (with_reducible refine Below.drew ?_) | (with_reducible refine below_drewN ?_ _) | (with_reducible refine bel_alloc ?_ _))), (by repeat (first | (with_reducible exact Below.refl _ _) | (with_reducible assumption) | (with_reducible exact bel_box _) | (with_reducible refine bel_step ?_ (by with_reducible assumption)) | (with_reducible refine Below.drew ?_) | (with_reducible refine below_drewN ?_ _) | (with_reducible refine bel_alloc ?_ _))), (by repeat (first | (with_reducible exact Below.refl _ _) | (with_reducible assumption) | (with_reducible exact bel_box _) | (with_reducible refine bel_step ?_ (by with_reducible assumption)) | (with_reducible refine Below.drew ?_) | (with_reducible refine below_drewN ?_ _) | (with_reducible refine bel_alloc ?_ _)))⟩
            case measure => simp [intOf]; omega
        · obtain rfl : k = l.length := by omega
          obtain ⟨U, rfl⟩ : ∃ U, U = wr := ⟨_, rfl⟩
          clear P1 P2 P3 P4 F1 KG R1 hbl1
          go_wp2
          go_loopw [11] (fun i wr => ∃ k : Nat, k ≤ m.length ∧ i = .int .i64 (k : Int) ∧ Below w.heap.size w wr ∧ Below w2.heap.size w2 wr ∧ Below w3.heap.size w3 wr ∧ Below w4.heap.size w4 wr) (fun i _ => m.length - (intOf i).toNat)
          case atStart => exact ⟨0, by omega, rfl, (by repeat (first | (with_reducible exact Below.refl _ _) | (with_reducible assumption) | (with_reducible exact bel_box _) | (with_reducible refine bel_step ?_ (by with_reducible assumption)) | (with_reducible refine Below.drew ?_) | (with_reducible refine below_drewN ?_ _) | (with_reducible refine bel_alloc ?_ _))), (by repeat (first | (with_reducible exact Below.refl _ _) | (with_reducible assumption) | (with_reducible exact bel_box _) | (with_reducible refine bel_step ?_ (by with_reducible assumption)) | (with_reducible refine Below.drew ?_) | (with_reducible refine below_drewN ?_ _) | (with_reducible refine bel_alloc ?_ _))), (by repeat (first | (with_reducible exact Below.refl _ _) | (with_reducible assumption) | (with_reducible exact bel_box _) | (with_reducible refine bel_step ?_ (by with_reducible assumption)) | (with_reducible refine Below.drew ?_) | (with_reducible refine below_drewN ?_ _) | (with_reducible refine bel_alloc ?_ _))), (by repeat (first | (with_reducible exact Below.refl _ _) | (with_reducible assumption) | (with_reducible exact bel_box _) | (with_reducible refine bel_step ?_ (by with_reducible assumption)) | (with_reducible refine Below.drew ?_) | (with_reducible refine below_drewN ?_ _) | (with_reducible refine bel_alloc ?_ _)))⟩
          case round =>
            obtain ⟨k, hk, rfl, hbl, hbl2, hbl3, hbl4⟩ := hrel
            by_cases hkn : k < m.length
            · obtain ⟨adA, a0, a1, rfl, hea, HEA⟩ := RdC.insts HA (show k < l.length by omega)
              obtain ⟨adB, b0, b1, rfl, heb, HEB⟩ := RdC.insts HB (show k < m.length by omega)
              obtain ⟨ad2, r0, r1, rfl, he2, HE2⟩ := RdC.insts R2 (show k < x2.length by rw [L2.out]; exact hkn)
              obtain ⟨ad3, f0, f1, rfl, he3, HE3⟩ := RdC.insts R3 (show k < x3.length by rw [L3.out]; exact hkn)
              obtain ⟨ad4, s0, s1, rfl, he4, HE4⟩ := RdC.insts R4 (show k < x4.length by rw [L4.out]; exact hkn)
              obtain ⟨c2', hc2, ht2⟩ := F2.out k hkn
              obtain rfl : (r0, r1) = c2' := by rw [he2] at hc2; exact Option.some.inj hc2
              obtain ⟨c3', hc3, ht3⟩ := F3.out k hkn
              obtain rfl : (f0, f1) = c3' := by rw [he3] at hc3; exact Option.some.inj hc3
              obtain ⟨c4', hc4, ht4⟩ := F4.out k hkn
              obtain rfl : (s0, s1) = c4' := by rw [he4] at hc4; exact Option.some.inj hc4
              rw [getD_of hea, getD_of heb] at ht2 ht3 ht4
              have KTA := Lib.hid (KT.out (a0, a1))
              have KTB := Lib.hid (KT.out (b0, b1))
              have KT2 := Lib.hid (KT.out (r0, r1))
              have KT3 := Lib.hid (KT.out (f0, f1))
              have KT4 := Lib.hid (KT.out (s0, s1))
              rw [ht2] at KT2
              rw [ht3] at KT3
              rw [ht4] at KT4
              have HCA : Hid (∀ W, Below w.heap.size w W → W.cell? (adA.add (k * 2)) = some (.int .i64 a0) ∧ W.cell? ⟨(adA.add (k * 2)).block, (adA.add (k * 2)).off + 1, none⟩ = some (.int .i64 a1)) := HEA
              have i0 : (0 : Int) ≤ (k : Int) := by omega
              have i1 : (k : Int) < ((m.length : Nat) : Int) := by omega
              have i2 : (k : Int) < (l.length : Int) := by omega
              have i3 : (k : Int) < (m.length : Int) := by omega
              obtain ⟨q0, q1⟩ := HEA.out wr hbl
              obtain ⟨q2, q3⟩ := HEB.out wr hbl
              obtain ⟨q4, q5⟩ := HE2.out wr hbl2
              obtain ⟨q6, q7⟩ := HE3.out wr hbl3
              obtain ⟨q8, q9⟩ := HE4.out wr hbl4
              generalize thB (a0, a1) = ta at *
              generalize thB (b0, b1) = tb at *
              clear hea heb he2 he3 he4 hc2 hc3 hc4 ht2 ht3 ht4 F2 F3 F4 KT
              cases ta <;> cases tb
              all_goals
                go_wp2_with (first
                  | (go_at_call 32; (with_reducible refine (KTA.out _).mono ?_); rintro e u1 ⟨rfl, hu1⟩; obtain ⟨y0, y1⟩ := HEB.out u1 (by repeat (first | (with_reducible exact Below.refl _ _) | (with_reducible assumption) | (with_reducible exact bel_box _) | (with_reducible refine bel_step ?_ (by with_reducible assumption)) | (with_reducible refine Below.drew ?_) | (with_reducible refine below_drewN ?_ _) | (with_reducible refine bel_alloc ?_ _))); obtain ⟨y4, y5⟩ := HE2.out u1 (by repeat (first | (with_reducible exact Below.refl _ _) | (with_reducible assumption) | (with_reducible exact bel_box _) | (with_reducible refine bel_step ?_ (by with_reducible assumption)) | (with_reducible refine Below.drew ?_) | (with_reducible refine below_drewN ?_ _) | (with_reducible refine bel_alloc ?_ _))); obtain ⟨y6, y7⟩ := HE3.out u1 (by repeat (first | (with_reducible exact Below.refl _ _) | (with_reducible assumption) | (with_reducible exact bel_box _) | (with_reducible refine bel_step ?_ (by with_reducible assumption)) | (with_reducible refine Below.drew ?_) | (with_reducible refine below_drewN ?_ _) | (with_reducible refine bel_alloc ?_ _))); obtain ⟨y8, y9⟩ := HE4.out u1 (by repeat (first | (with_reducible exact Below.refl _ _) | (with_reducible assumption) | (with_reducible exact bel_box _) | (with_reducible refine bel_step ?_ (by with_reducible assumption)) | (with_reducible refine Below.drew ?_) | (with_reducible refine below_drewN ?_ _) | (with_reducible refine bel_alloc ?_ _))))
                  | (go_at_call 32; (with_reducible refine (KTB.out _).mono ?_); rintro e u2 ⟨rfl, hu2⟩; obtain ⟨y4, y5⟩ := HE2.out u2 (by repeat (first | (with_reducible exact Below.refl _ _) | (with_reducible assumption) | (with_reducible exact bel_box _) | (with_reducible refine bel_step ?_ (by with_reducible assumption)) | (with_reducible refine Below.drew ?_) | (with_reducible refine below_drewN ?_ _) | (with_reducible refine bel_alloc ?_ _))); obtain ⟨y6, y7⟩ := HE3.out u2 (by repeat (first | (with_reducible exact Below.refl _ _) | (with_reducible assumption) | (with_reducible exact bel_box _) | (with_reducible refine bel_step ?_ (by with_reducible assumption)) | (with_reducible refine Below.drew ?_) | (with_reducible refine below_drewN ?_ _) | (with_reducible refine bel_alloc ?_ _))); obtain ⟨y8, y9⟩ := HE4.out u2 (by repeat (first | (with_reducible exact Below.refl _ _) | (with_reducible assumption) | (with_reducible exact bel_box _) | (with_reducible refine bel_step ?_ (by with_reducible assumption)) | (with_reducible refine Below.drew ?_) | (with_reducible refine below_drewN ?_ _) | (with_reducible refine bel_alloc ?_ _))))
                  | (go_at_call 32; (with_reducible refine (KT3.out _).mono ?_); rintro e u3 ⟨rfl, hu3⟩; obtain ⟨y4, y5⟩ := HE2.out u3 (by repeat (first | (with_reducible exact Below.refl _ _) | (with_reducible assumption) | (with_reducible exact bel_box _) | (with_reducible refine bel_step ?_ (by with_reducible assumption)) | (with_reducible refine Below.drew ?_) | (with_reducible refine below_drewN ?_ _) | (with_reducible refine bel_alloc ?_ _))); obtain ⟨y8, y9⟩ := HE4.out u3 (by repeat (first | (with_reducible exact Below.refl _ _) | (with_reducible assumption) | (with_reducible exact bel_box _) | (with_reducible refine bel_step ?_ (by with_reducible assumption)) | (with_reducible refine Below.drew ?_) | (with_reducible refine below_drewN ?_ _) | (with_reducible refine bel_alloc ?_ _))))
                  | (go_at_call 32; (with_reducible refine (KT2.out _).mono ?_); rintro e u4 ⟨rfl, hu4⟩; obtain ⟨y8, y9⟩ := HE4.out u4 (by repeat (first | (with_reducible exact Below.refl _ _) | (with_reducible assumption) | (with_reducible exact bel_box _) | (with_reducible refine bel_step ?_ (by with_reducible assumption)) | (with_reducible refine Below.drew ?_) | (with_reducible refine below_drewN ?_ _) | (with_reducible refine bel_alloc ?_ _))))
                  | (go_at_call 32; (with_reducible refine (KT4.out _).mono ?_); rintro e u5 ⟨rfl, hu5⟩))
              all_goals
                go_roundw
                case rel => exact ⟨k + 1, by omega, by go_num, (by repeat (first | (with_reducible exact Below.refl _ _) | (with_reducible assumption) | (with_reducible exact bel_box _) | (with_reducible refine bel_step ?_ (by with_reducible assumption)) | (with_reducible refine Below.drew ?_) | (with_reducible refine below_drewN ?_ _) | (with_reducible refine bel_alloc ?_ _))), (by repeat (first | (with_reducible exact Below.refl _ _) | (with_reducible assumption) | (with_reducible exact bel_box _) | (with_reducible refine bel_step ?_ (by with_reducible assumption)) | (with_reducible refine Below.drew ?_) | (with_reducible refine below_drewN ?_ _) | (with_reducible refine bel_alloc ?_ _))), (by repeat (first | (with_reducible exact Below.refl _ _) | (with_reducible assumption) | (with_reducible exact bel_box _) | (with_reducible refine bel_step ?_ (by with_reducible assumption)) | (with_reducible refine Below.drew ?_) | (with_reducible refine below_drewN ?_ _) | (with_reducible refine bel_alloc ?_ _))), (by repeat (first | (with_reducible exact Below.refl _ _) | (with_reducible assumption) | (with_reducible exact bel_box _) | (with_reducible refine bel_step ?_ (by with_reducible assumption)) | (with_reducible refine Below.drew ?_) | (with_reducible refine below_drewN ?_ _) | (with_reducible refine bel_alloc ?_ _)))⟩
                case measure => simp [intOf]; omega
            · obtain rfl : k = m.length := by omega
              clear F2 F3 F4 KT R2 R3 R4
              go_wp2_with (go_at_call 10; (with_reducible refine (KL.out _).mono ?_); rintro e u4 ⟨rfl, hu4⟩)
              go_ret
              exact ⟨rfl, (by repeat (first | (with_reducible exact Below.refl _ _) | (with_reducible assumption) | (with_reducible exact bel_box _) | (with_reducible refine bel_step ?_ (by with_reducible assumption)) | (with_reducible refine Below.drew ?_) | (with_reducible refine below_drewN ?_ _) | (with_reducible refine bel_alloc ?_ _)))⟩
    · have g1 : ¬ (m.length : Int) < (l.length : Int) := by omega
      have tg1 : tog [⟨A, c, l⟩] = l.length := tog1 _
      have tg2 : tog [⟨A, c, l⟩, ⟨B, d, m⟩] = l.length := (tog2 _ _).trans (by simp only; omega)
      have P1 : Hid (∀ W, RdC W W.heap.size A l → Calls Try.prog 18 #[.slice A l.length c] W (NewH (outT preS (2, 0) [⟨A, c, l⟩] l.length) l.length W)) := Lib.hid fun W h => by
        have := (pre_any A c l W h (by omega)).mono fun e w' => newH (n := tog [⟨A, c, l⟩]) (outT_length _ _ _ _)
        rwa [tg1] at this
      have P2 : Hid (∀ W, RdC W W.heap.size A l → RdC W W.heap.size B m → Calls Try.prog 20 #[.slice A l.length c, .slice B m.length d] W (NewH (outT arrowS false [⟨A, c, l⟩, ⟨B, d, m⟩] l.length) (l.length) W)) := Lib.hid fun W h k => by
        have := (arrow_any A B c d l m W h k (by omega) (by omega)).mono fun e w' => newH (n := tog [⟨A, c, l⟩, ⟨B, d, m⟩]) (outT_length _ _ _ _)
        rwa [tg2] at this
      have P3 : Hid (∀ W, RdC W W.heap.size A l → RdC W W.heap.size B m → Calls Try.prog 22 #[.slice A l.length c, .slice B m.length d] W (NewH (outT fbyS (0, 0) [⟨A, c, l⟩, ⟨B, d, m⟩] l.length) (l.length) W)) := Lib.hid fun W h k => by
        have := (fby_any A B c d l m W h k (by omega) (by omega)).mono fun e w' => newH (n := tog [⟨A, c, l⟩, ⟨B, d, m⟩]) (outT_length _ _ _ _)
        rwa [tg2] at this
      have P4 : Hid (∀ b W, RdS W W.heap.size (some ⟨b, 0, none⟩) [⟨A, c, l⟩, ⟨B, d, m⟩] → Calls Try.prog 12 #[.int .i64 6, .slice (some ⟨b, 0, none⟩) 2 2] W (NewH ((rowsTo [⟨A, c, l⟩, ⟨B, d, m⟩] l.length).map (liftF 6)) (l.length) W)) := Lib.hid fun b W h => by
        have := (liftP_any 6 (some ⟨b, 0, none⟩) 2 [⟨A, c, l⟩, ⟨B, d, m⟩] W h (by simp) (rl2 _ _ _ (by simp only; omega) (by simp only; omega))).mono fun e w' => newH (n := tog [⟨A, c, l⟩, ⟨B, d, m⟩]) (map_len _ _ _)
        rwa [tg2] at this
      have F1 := Lib.hid (pres_pre ⟨A, c, l⟩ l.length)
      have F2 := Lib.hid (pres_two arrowS false arrow_there ⟨A, c, l⟩ ⟨B, d, m⟩ l.length)
      have F3 := Lib.hid (pres_two fbyS (0, 0) fby_there ⟨A, c, l⟩ ⟨B, d, m⟩ l.length)
      have F4 := Lib.hid (pres_lift 6 ⟨A, c, l⟩ ⟨B, d, m⟩ l.length)
      have L1 : (outT preS (2, 0) [⟨A, c, l⟩] l.length).length = l.length := outT_length _ _ _ _
      have L2 : (outT arrowS false [⟨A, c, l⟩, ⟨B, d, m⟩] l.length).length = l.length := outT_length _ _ _ _
      have L3 : (outT fbyS (0, 0) [⟨A, c, l⟩, ⟨B, d, m⟩] l.length).length = l.length := outT_length _ _ _ _
      have L4 : ((rowsTo [⟨A, c, l⟩, ⟨B, d, m⟩] l.length).map (liftF 6)).length = l.length := map_len _ _ _
      generalize outT preS (2, 0) [⟨A, c, l⟩] l.length = x1 at *
      generalize outT arrowS false [⟨A, c, l⟩, ⟨B, d, m⟩] l.length = x2 at *
      generalize outT fbyS (0, 0) [⟨A, c, l⟩, ⟨B, d, m⟩] l.length = x3 at *
      generalize (rowsTo [⟨A, c, l⟩, ⟨B, d, m⟩] l.length).map (liftF 6) = x4 at *
      have L1 := Lib.hid L1
      have L2 := Lib.hid L2
      have L3 := Lib.hid L3
      have L4 := Lib.hid L4
      have HS : Hid (∀ W (t : TypeId), Below w.heap.size w W → RdS (W.alloc (.cells #[.slice A l.length c, .slice B m.length d] t)) (W.alloc (.cells #[.slice A l.length c, .slice B m.length d] t)).heap.size (some ⟨W.heap.size, 0, none⟩) [⟨A, c, l⟩, ⟨B, d, m⟩]) := Lib.hid fun W t hW => RdS.new [⟨A, c, l⟩, ⟨B, d, m⟩] _ rfl (rl2 _ _ _ (HA.out.to hW) (HB.out.to hW))
      have KT := Lib.hid rthere_any
      simp only [cV] at KT
      clear hA hB tg1 tg2
      go_enter Try.func7, Try.ntmps7
      go_wp2_with (first
        | (go_at_call 9; (with_reducible refine (KG.out _ _ (HS.out _ _ ?_)).mono ?_); (focus ((repeat (first | (with_reducible exact Below.refl _ _) | (with_reducible assumption) | (with_reducible exact bel_box _) | (with_reducible refine bel_step ?_ (by with_reducible assumption)) | (with_reducible refine Below.drew ?_) | (with_reducible refine below_drewN ?_ _) | (with_reducible refine bel_alloc ?_ _))); done)); rintro e w0 ⟨rfl, hb0⟩)
        | (go_at_call 18; (with_reducible refine (P1.out _ (HA.out.to ?_)).mono ?_); (focus ((repeat (first | (with_reducible exact Below.refl _ _) | (with_reducible assumption) | (with_reducible exact bel_box _) | (with_reducible refine bel_step ?_ (by with_reducible assumption)) | (with_reducible refine Below.drew ?_) | (with_reducible refine below_drewN ?_ _) | (with_reducible refine bel_alloc ?_ _))); done)); rintro e w1 ⟨A1, c1, rfl, R1, hb1⟩)
        | (go_at_call 22; (with_reducible refine (P3.out _ (HA.out.to ?_) (HB.out.to ?_)).mono ?_); (focus ((repeat (first | (with_reducible exact Below.refl _ _) | (with_reducible assumption) | (with_reducible exact bel_box _) | (with_reducible refine bel_step ?_ (by with_reducible assumption)) | (with_reducible refine Below.drew ?_) | (with_reducible refine below_drewN ?_ _) | (with_reducible refine bel_alloc ?_ _))); done)); (focus ((repeat (first | (with_reducible exact Below.refl _ _) | (with_reducible assumption) | (with_reducible exact bel_box _) | (with_reducible refine bel_step ?_ (by with_reducible assumption)) | (with_reducible refine Below.drew ?_) | (with_reducible refine below_drewN ?_ _) | (with_reducible refine bel_alloc ?_ _))); done)); rintro e w3 ⟨A3, c3, rfl, R3, hb3⟩)
        | (go_at_call 20; (with_reducible refine (P2.out _ (HA.out.to ?_) (HB.out.to ?_)).mono ?_); (focus ((repeat (first | (with_reducible exact Below.refl _ _) | (with_reducible assumption) | (with_reducible exact bel_box _) | (with_reducible refine bel_step ?_ (by with_reducible assumption)) | (with_reducible refine Below.drew ?_) | (with_reducible refine below_drewN ?_ _) | (with_reducible refine bel_alloc ?_ _))); done)); (focus ((repeat (first | (with_reducible exact Below.refl _ _) | (with_reducible assumption) | (with_reducible exact bel_box _) | (with_reducible refine bel_step ?_ (by with_reducible assumption)) | (with_reducible refine Below.drew ?_) | (with_reducible refine below_drewN ?_ _) | (with_reducible refine bel_alloc ?_ _))); done)); rintro e w2 ⟨A2, c2, rfl, R2, hb2⟩)
        | (go_at_call 12; (with_reducible refine (P4.out _ _ (HS.out _ _ ?_)).mono ?_); (focus ((repeat (first | (with_reducible exact Below.refl _ _) | (with_reducible assumption) | (with_reducible exact bel_box _) | (with_reducible refine bel_step ?_ (by with_reducible assumption)) | (with_reducible refine Below.drew ?_) | (with_reducible refine below_drewN ?_ _) | (with_reducible refine bel_alloc ?_ _))); done)); rintro e w4 ⟨A4, c4, rfl, R4, hb4⟩))
      go_loopw [10] (fun i wr => ∃ k : Nat, k ≤ l.length ∧ i = .int .i64 (k : Int) ∧ Below w.heap.size w wr ∧ Below w1.heap.size w1 wr ∧ Below w2.heap.size w2 wr ∧ Below w3.heap.size w3 wr ∧ Below w4.heap.size w4 wr) (fun i _ => l.length - (intOf i).toNat)
      case atStart => exact ⟨0, by omega, rfl, (by repeat (first | (with_reducible exact Below.refl _ _) | (with_reducible assumption) | (with_reducible exact bel_box _) | (with_reducible refine bel_step ?_ (by with_reducible assumption)) | (with_reducible refine Below.drew ?_) | (with_reducible refine below_drewN ?_ _) | (with_reducible refine bel_alloc ?_ _))), (by repeat (first | (with_reducible exact Below.refl _ _) | (with_reducible assumption) | (with_reducible exact bel_box _) | (with_reducible refine bel_step ?_ (by with_reducible assumption)) | (with_reducible refine Below.drew ?_) | (with_reducible refine below_drewN ?_ _) | (with_reducible refine bel_alloc ?_ _))), (by repeat (first | (with_reducible exact Below.refl _ _) | (with_reducible assumption) | (with_reducible exact bel_box _) | (with_reducible refine bel_step ?_ (by with_reducible assumption)) | (with_reducible refine Below.drew ?_) | (with_reducible refine below_drewN ?_ _) | (with_reducible refine bel_alloc ?_ _))), (by repeat (first | (with_reducible exact Below.refl _ _) | (with_reducible assumption) | (with_reducible exact bel_box _) | (with_reducible refine bel_step ?_ (by with_reducible assumption)) | (with_reducible refine Below.drew ?_) | (with_reducible refine below_drewN ?_ _) | (with_reducible refine bel_alloc ?_ _))), (by repeat (first | (with_reducible exact Below.refl _ _) | (with_reducible assumption) | (with_reducible exact bel_box _) | (with_reducible refine bel_step ?_ (by with_reducible assumption)) | (with_reducible refine Below.drew ?_) | (with_reducible refine below_drewN ?_ _) | (with_reducible refine bel_alloc ?_ _)))⟩
      case round =>
        obtain ⟨k, hk, rfl, hbl, hbl1, hbl2, hbl3, hbl4⟩ := hrel
        by_cases hkn : k < l.length
        · obtain ⟨adA, a0, a1, rfl, hea, HEA⟩ := RdC.insts HA hkn
          obtain ⟨adP, p0, p1, rfl, hep, HEP⟩ := RdC.insts R1 (show k < x1.length by rw [L1.out]; exact hkn)
          obtain ⟨pc, hpc, hpt⟩ := F1.out k hkn
          obtain rfl : (p0, p1) = pc := by rw [hep] at hpc; exact Option.some.inj hpc
          rw [getD_of hea] at hpt
          have KTA := Lib.hid (KT.out (a0, a1))
          have KTP := Lib.hid (KT.out (p0, p1))
          rw [hpt] at KTP
          have HK : Hid (∀ W, Below w.heap.size w W → Below w1.heap.size w1 W → W.cell? (adA.add (k * 2)) = some (.int .i64 a0) ∧ W.cell? ⟨(adA.add (k * 2)).block, (adA.add (k * 2)).off + 1, none⟩ = some (.int .i64 a1) ∧ W.cell? (adP.add (k * 2)) = some (.int .i64 p0) ∧ W.cell? ⟨(adP.add (k * 2)).block, (adP.add (k * 2)).off + 1, none⟩ = some (.int .i64 p1)) := Lib.hid fun W hW h1 => ⟨(HEA.out W hW).1, (HEA.out W hW).2, (HEP.out W h1).1, (HEP.out W h1).2⟩
          have i0 : (0 : Int) ≤ (k : Int) := by omega
          have i1 : (k : Int) < (l.length : Int) := by omega
          obtain ⟨q0, q1, q2, q3⟩ := HK.out wr hbl hbl1
          generalize thB (a0, a1) = ta at *
          clear hea hep hpc hpt HEA HEP P1 P2 P3 P4 F1 F2 F3 F4 KT KG
          cases ta
          all_goals
            go_wp2_with (fail)
            go_region_held3 (fun W => W.cell? (adA.add (k * 2)) = some (.int .i64 a0) ∧ W.cell? ⟨(adA.add (k * 2)).block, (adA.add (k * 2)).off + 1, none⟩ = some (.int .i64 a1) ∧ W.cell? (adP.add (k * 2)) = some (.int .i64 p0) ∧ W.cell? ⟨(adP.add (k * 2)).block, (adP.add (k * 2)).off + 1, none⟩ = some (.int .i64 p1))
              ((refine HK.out _ ?_ ?_; (focus ((repeat (first | (with_reducible exact Below.refl _ _) | (with_reducible assumption) | (with_reducible exact bel_box _) | (with_reducible refine bel_step ?_ (by with_reducible assumption)) | (with_reducible refine Below.drew ?_) | (with_reducible refine below_drewN ?_ _) | (with_reducible refine bel_alloc ?_ _))); done)); (focus ((repeat (first | (with_reducible exact Below.refl _ _) | (with_reducible assumption) | (with_reducible exact bel_box _) | (with_reducible refine bel_step ?_ (by with_reducible assumption)) | (with_reducible refine Below.drew ?_) | (with_reducible refine below_drewN ?_ _) | (with_reducible refine bel_alloc ?_ _))); done))))
              (first
                | (go_at_call 32; (with_reducible refine (KTA.out _).mono ?_); rintro e u1 ⟨rfl, hu1⟩)
                | (go_at_call 32; (with_reducible refine (KTP.out _).mono ?_); rintro e u2 ⟨rfl, hu2⟩))
          all_goals
            go_wp2
            go_roundw
            case rel => exact ⟨k + 1, by omega, by go_num, (by repeat (first | (with_reducible exact Below.refl _ _) | (with_reducible assumption) | (with_reducible exact bel_box _) | (with_reducible refine bel_step ?_ (by with_reducible assumption)) | (with_reducible refine Below.drew ?_) | (with_reducible refine below_drewN ?_ _) | (with_reducible refine bel_alloc ?_ _))), (by repeat (first | (with_reducible exact Below.refl _ _) | (with_reducible assumption) | (with_reducible exact bel_box _) | (with_reducible refine bel_step ?_ (by with_reducible assumption)) | (with_reducible refine Below.drew ?_) | (with_reducible refine below_drewN ?_ _) | (with_reducible refine bel_alloc ?_ _))), (by repeat (first | (with_reducible exact Below.refl _ _) | (with_reducible assumption) | (with_reducible exact bel_box _) | (with_reducible refine bel_step ?_ (by with_reducible assumption)) | (with_reducible refine Below.drew ?_) | (with_reducible refine below_drewN ?_ _) | (with_reducible refine bel_alloc ?_ _))), (by repeat (first | (with_reducible exact Below.refl _ _) | (with_reducible assumption) | (with_reducible exact bel_box _) | (with_reducible refine bel_step ?_ (by with_reducible assumption)) | (with_reducible refine Below.drew ?_) | (with_reducible refine below_drewN ?_ _) | (with_reducible refine bel_alloc ?_ _))), (by repeat (first | (with_reducible exact Below.refl _ _) | (with_reducible assumption) | (with_reducible exact bel_box _) | (with_reducible refine bel_step ?_ (by with_reducible assumption)) | (with_reducible refine Below.drew ?_) | (with_reducible refine below_drewN ?_ _) | (with_reducible refine bel_alloc ?_ _)))⟩
            case measure => simp [intOf]; omega
        · obtain rfl : k = l.length := by omega
          obtain ⟨U, rfl⟩ : ∃ U, U = wr := ⟨_, rfl⟩
          clear P1 P2 P3 P4 F1 KG R1 hbl1
          go_wp2
          go_loopw [11] (fun i wr => ∃ k : Nat, k ≤ l.length ∧ i = .int .i64 (k : Int) ∧ Below w.heap.size w wr ∧ Below w2.heap.size w2 wr ∧ Below w3.heap.size w3 wr ∧ Below w4.heap.size w4 wr) (fun i _ => l.length - (intOf i).toNat)
          case atStart => exact ⟨0, by omega, rfl, (by repeat (first | (with_reducible exact Below.refl _ _) | (with_reducible assumption) | (with_reducible exact bel_box _) | (with_reducible refine bel_step ?_ (by with_reducible assumption)) | (with_reducible refine Below.drew ?_) | (with_reducible refine below_drewN ?_ _) | (with_reducible refine bel_alloc ?_ _))), (by repeat (first | (with_reducible exact Below.refl _ _) | (with_reducible assumption) | (with_reducible exact bel_box _) | (with_reducible refine bel_step ?_ (by with_reducible assumption)) | (with_reducible refine Below.drew ?_) | (with_reducible refine below_drewN ?_ _) | (with_reducible refine bel_alloc ?_ _))), (by repeat (first | (with_reducible exact Below.refl _ _) | (with_reducible assumption) | (with_reducible exact bel_box _) | (with_reducible refine bel_step ?_ (by with_reducible assumption)) | (with_reducible refine Below.drew ?_) | (with_reducible refine below_drewN ?_ _) | (with_reducible refine bel_alloc ?_ _))), (by repeat (first | (with_reducible exact Below.refl _ _) | (with_reducible assumption) | (with_reducible exact bel_box _) | (with_reducible refine bel_step ?_ (by with_reducible assumption)) | (with_reducible refine Below.drew ?_) | (with_reducible refine below_drewN ?_ _) | (with_reducible refine bel_alloc ?_ _)))⟩
          case round =>
            obtain ⟨k, hk, rfl, hbl, hbl2, hbl3, hbl4⟩ := hrel
            by_cases hkn : k < l.length
            · obtain ⟨adA, a0, a1, rfl, hea, HEA⟩ := RdC.insts HA (show k < l.length by omega)
              obtain ⟨adB, b0, b1, rfl, heb, HEB⟩ := RdC.insts HB (show k < m.length by omega)
              obtain ⟨ad2, r0, r1, rfl, he2, HE2⟩ := RdC.insts R2 (show k < x2.length by rw [L2.out]; exact hkn)
              obtain ⟨ad3, f0, f1, rfl, he3, HE3⟩ := RdC.insts R3 (show k < x3.length by rw [L3.out]; exact hkn)
              obtain ⟨ad4, s0, s1, rfl, he4, HE4⟩ := RdC.insts R4 (show k < x4.length by rw [L4.out]; exact hkn)
              obtain ⟨c2', hc2, ht2⟩ := F2.out k hkn
              obtain rfl : (r0, r1) = c2' := by rw [he2] at hc2; exact Option.some.inj hc2
              obtain ⟨c3', hc3, ht3⟩ := F3.out k hkn
              obtain rfl : (f0, f1) = c3' := by rw [he3] at hc3; exact Option.some.inj hc3
              obtain ⟨c4', hc4, ht4⟩ := F4.out k hkn
              obtain rfl : (s0, s1) = c4' := by rw [he4] at hc4; exact Option.some.inj hc4
              rw [getD_of hea, getD_of heb] at ht2 ht3 ht4
              have KTA := Lib.hid (KT.out (a0, a1))
              have KTB := Lib.hid (KT.out (b0, b1))
              have KT2 := Lib.hid (KT.out (r0, r1))
              have KT3 := Lib.hid (KT.out (f0, f1))
              have KT4 := Lib.hid (KT.out (s0, s1))
              rw [ht2] at KT2
              rw [ht3] at KT3
              rw [ht4] at KT4
              have HCA : Hid (∀ W, Below w.heap.size w W → W.cell? (adA.add (k * 2)) = some (.int .i64 a0) ∧ W.cell? ⟨(adA.add (k * 2)).block, (adA.add (k * 2)).off + 1, none⟩ = some (.int .i64 a1)) := HEA
              have i0 : (0 : Int) ≤ (k : Int) := by omega
              have i1 : (k : Int) < ((l.length : Nat) : Int) := by omega
              have i2 : (k : Int) < (l.length : Int) := by omega
              have i3 : (k : Int) < (m.length : Int) := by omega
              obtain ⟨q0, q1⟩ := HEA.out wr hbl
              obtain ⟨q2, q3⟩ := HEB.out wr hbl
              obtain ⟨q4, q5⟩ := HE2.out wr hbl2
              obtain ⟨q6, q7⟩ := HE3.out wr hbl3
              obtain ⟨q8, q9⟩ := HE4.out wr hbl4
              generalize thB (a0, a1) = ta at *
              generalize thB (b0, b1) = tb at *
              clear hea heb he2 he3 he4 hc2 hc3 hc4 ht2 ht3 ht4 F2 F3 F4 KT
              cases ta <;> cases tb
              all_goals
                go_wp2_with (first
                  | (go_at_call 32; (with_reducible refine (KTA.out _).mono ?_); rintro e u1 ⟨rfl, hu1⟩; obtain ⟨y0, y1⟩ := HEB.out u1 (by repeat (first | (with_reducible exact Below.refl _ _) | (with_reducible assumption) | (with_reducible exact bel_box _) | (with_reducible refine bel_step ?_ (by with_reducible assumption)) | (with_reducible refine Below.drew ?_) | (with_reducible refine below_drewN ?_ _) | (with_reducible refine bel_alloc ?_ _))); obtain ⟨y4, y5⟩ := HE2.out u1 (by repeat (first | (with_reducible exact Below.refl _ _) | (with_reducible assumption) | (with_reducible exact bel_box _) | (with_reducible refine bel_step ?_ (by with_reducible assumption)) | (with_reducible refine Below.drew ?_) | (with_reducible refine below_drewN ?_ _) | (with_reducible refine bel_alloc ?_ _))); obtain ⟨y6, y7⟩ := HE3.out u1 (by repeat (first | (with_reducible exact Below.refl _ _) | (with_reducible assumption) | (with_reducible exact bel_box _) | (with_reducible refine bel_step ?_ (by with_reducible assumption)) | (with_reducible refine Below.drew ?_) | (with_reducible refine below_drewN ?_ _) | (with_reducible refine bel_alloc ?_ _))); obtain ⟨y8, y9⟩ := HE4.out u1 (by repeat (first | (with_reducible exact Below.refl _ _) | (with_reducible assumption) | (with_reducible exact bel_box _) | (with_reducible refine bel_step ?_ (by with_reducible assumption)) | (with_reducible refine Below.drew ?_) | (with_reducible refine below_drewN ?_ _) | (with_reducible refine bel_alloc ?_ _))))
                  | (go_at_call 32; (with_reducible refine (KTB.out _).mono ?_); rintro e u2 ⟨rfl, hu2⟩; obtain ⟨y4, y5⟩ := HE2.out u2 (by repeat (first | (with_reducible exact Below.refl _ _) | (with_reducible assumption) | (with_reducible exact bel_box _) | (with_reducible refine bel_step ?_ (by with_reducible assumption)) | (with_reducible refine Below.drew ?_) | (with_reducible refine below_drewN ?_ _) | (with_reducible refine bel_alloc ?_ _))); obtain ⟨y6, y7⟩ := HE3.out u2 (by repeat (first | (with_reducible exact Below.refl _ _) | (with_reducible assumption) | (with_reducible exact bel_box _) | (with_reducible refine bel_step ?_ (by with_reducible assumption)) | (with_reducible refine Below.drew ?_) | (with_reducible refine below_drewN ?_ _) | (with_reducible refine bel_alloc ?_ _))); obtain ⟨y8, y9⟩ := HE4.out u2 (by repeat (first | (with_reducible exact Below.refl _ _) | (with_reducible assumption) | (with_reducible exact bel_box _) | (with_reducible refine bel_step ?_ (by with_reducible assumption)) | (with_reducible refine Below.drew ?_) | (with_reducible refine below_drewN ?_ _) | (with_reducible refine bel_alloc ?_ _))))
                  | (go_at_call 32; (with_reducible refine (KT3.out _).mono ?_); rintro e u3 ⟨rfl, hu3⟩; obtain ⟨y4, y5⟩ := HE2.out u3 (by repeat (first | (with_reducible exact Below.refl _ _) | (with_reducible assumption) | (with_reducible exact bel_box _) | (with_reducible refine bel_step ?_ (by with_reducible assumption)) | (with_reducible refine Below.drew ?_) | (with_reducible refine below_drewN ?_ _) | (with_reducible refine bel_alloc ?_ _))); obtain ⟨y8, y9⟩ := HE4.out u3 (by repeat (first | (with_reducible exact Below.refl _ _) | (with_reducible assumption) | (with_reducible exact bel_box _) | (with_reducible refine bel_step ?_ (by with_reducible assumption)) | (with_reducible refine Below.drew ?_) | (with_reducible refine below_drewN ?_ _) | (with_reducible refine bel_alloc ?_ _))))
                  | (go_at_call 32; (with_reducible refine (KT2.out _).mono ?_); rintro e u4 ⟨rfl, hu4⟩; obtain ⟨y8, y9⟩ := HE4.out u4 (by repeat (first | (with_reducible exact Below.refl _ _) | (with_reducible assumption) | (with_reducible exact bel_box _) | (with_reducible refine bel_step ?_ (by with_reducible assumption)) | (with_reducible refine Below.drew ?_) | (with_reducible refine below_drewN ?_ _) | (with_reducible refine bel_alloc ?_ _))))
                  | (go_at_call 32; (with_reducible refine (KT4.out _).mono ?_); rintro e u5 ⟨rfl, hu5⟩))
              all_goals
                go_roundw
                case rel => exact ⟨k + 1, by omega, by go_num, (by repeat (first | (with_reducible exact Below.refl _ _) | (with_reducible assumption) | (with_reducible exact bel_box _) | (with_reducible refine bel_step ?_ (by with_reducible assumption)) | (with_reducible refine Below.drew ?_) | (with_reducible refine below_drewN ?_ _) | (with_reducible refine bel_alloc ?_ _))), (by repeat (first | (with_reducible exact Below.refl _ _) | (with_reducible assumption) | (with_reducible exact bel_box _) | (with_reducible refine bel_step ?_ (by with_reducible assumption)) | (with_reducible refine Below.drew ?_) | (with_reducible refine below_drewN ?_ _) | (with_reducible refine bel_alloc ?_ _))), (by repeat (first | (with_reducible exact Below.refl _ _) | (with_reducible assumption) | (with_reducible exact bel_box _) | (with_reducible refine bel_step ?_ (by with_reducible assumption)) | (with_reducible refine Below.drew ?_) | (with_reducible refine below_drewN ?_ _) | (with_reducible refine bel_alloc ?_ _))), (by repeat (first | (with_reducible exact Below.refl _ _) | (with_reducible assumption) | (with_reducible exact bel_box _) | (with_reducible refine bel_step ?_ (by with_reducible assumption)) | (with_reducible refine Below.drew ?_) | (with_reducible refine below_drewN ?_ _) | (with_reducible refine bel_alloc ?_ _)))⟩
                case measure => simp [intOf]; omega
            · obtain rfl : k = l.length := by omega
              clear F2 F3 F4 KT R2 R3 R4
              go_wp2_with (go_at_call 10; (with_reducible refine (KL.out _).mono ?_); rintro e u4 ⟨rfl, hu4⟩)
              go_ret
              exact ⟨rfl, (by repeat (first | (with_reducible exact Below.refl _ _) | (with_reducible assumption) | (with_reducible exact bel_box _) | (with_reducible refine bel_step ?_ (by with_reducible assumption)) | (with_reducible refine Below.drew ?_) | (with_reducible refine below_drewN ?_ _) | (with_reducible refine bel_alloc ?_ _)))⟩
  · rw [hlg] at KG
    clear hA hB hlg hl hm
    go_enter Try.func7, Try.ntmps7
    go_wp2_with (first
      | (go_at_call 9; (with_reducible refine (KG.out _ _ ?_).mono ?_); (focus (exact RdS.new [⟨A, c, l⟩, ⟨B, d, m⟩] _ rfl (rl2 _ _ _ (HA.out.to (by repeat (first | (with_reducible exact Below.refl _ _) | (with_reducible assumption) | (with_reducible exact bel_box _) | (with_reducible refine bel_step ?_ (by with_reducible assumption)) | (with_reducible refine Below.drew ?_) | (with_reducible refine below_drewN ?_ _) | (with_reducible refine bel_alloc ?_ _)))) (HB.out.to (by repeat (first | (with_reducible exact Below.refl _ _) | (with_reducible assumption) | (with_reducible exact bel_box _) | (with_reducible refine bel_step ?_ (by with_reducible assumption)) | (with_reducible refine Below.drew ?_) | (with_reducible refine below_drewN ?_ _) | (with_reducible refine bel_alloc ?_ _))))))); rintro e w0 ⟨rfl, hb0⟩)
      | (go_at_call 10; (with_reducible refine (KL.out _).mono ?_); rintro e u4 ⟨rfl, hu4⟩))
    go_ret
    exact ⟨rfl, (by repeat (first | (with_reducible exact Below.refl _ _) | (with_reducible assumption) | (with_reducible exact bel_box _) | (with_reducible refine bel_step ?_ (by with_reducible assumption)) | (with_reducible refine Below.drew ?_) | (with_reducible refine below_drewN ?_ _) | (with_reducible refine bel_alloc ?_ _)))⟩
end Go.Proofs.Ytefmnjcllncmpaa
