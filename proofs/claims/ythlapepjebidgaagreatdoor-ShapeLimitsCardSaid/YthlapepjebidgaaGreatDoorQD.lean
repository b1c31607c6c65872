/- Texts of one chain, in one file. -/
import Derived.Laws.EntriesVeiled
import Derived.Lib.QuietBelow
import Derived.Test.YthlapepjebidgaaGreatDoorQC
/- transition, unless, automaton, state of the program: closures. -/
namespace Go.Proofs.YthlapepjebidgaaGreatDoor
set_option linter.unusedVariables false
set_option linter.unusedSimpArgs false
open Go.RowKit
/-- a closure's box holds v -/
def Cap (w : World) (p : Addr) (v : Value) : Prop := w.cell? p = some v ∧ p.block < w.heap.size
theorem Cap.to {w W : World} {p : Addr} {v : Value} (h : Cap w p v) (hb : Below w.heap.size w W) : Cap W p v := ⟨(hb.cell h.2).trans h.1, Nat.lt_of_lt_of_le h.2 hb.size⟩
theorem Cap.al {w : World} {p : Addr} {v : Value} (h : Cap w p v) : ∀ o, (w.alloc o).cell? p = some v := fun o => cell_al o h.1
set_option maxHeartbeats 1000000 in
set_option maxRecDepth 20000 in
theorem sh_trans1 (E : Rw va.En) (n : Int) (t : Tt) (p q : Addr) (w : World) (hs : Std w) (hE : RsE w w.heap.size E) (hX : RsX w w.heap.size t.cd) (hp : Cap w p (.int .i64 n)) (hq : Cap w q (.slice E.A E.l.length E.c)) :
    Calls Tryz.prog 171 #[tV t, .pointer (some p), .pointer (some q)] w (Bel (.int .i64 (trnE E.l n false t)) w) := by
  have KE := Lib.hid (fun W (h : Below w.heap.size w W) => sh_expr E t.cd W (hs.to h) (hE.blw h h.size) (hX.blw h h.size))
  unfold trnE
  generalize expE E.l t.cd = v at *
  simp only [xV, ckV] at KE
  have hp0 := hp.1
  have hq0 := hq.1
  have hp1 := hp.al
  have hq1 := hq.al
  clear hs hE hX hp hq
  by_cases z : t.to < 0
  · rw [if_pos (.inl z)]
    go_enter Tryz.func171, Tryz.ntmps171
    go_wp2
    go_ret
    exact ⟨rfl, (by repeat (first | (with_reducible exact Below.refl _ _) | (with_reducible assumption) | (with_reducible exact bel_box _) | (with_reducible refine bel_step ?_ (by with_reducible assumption)) | (with_reducible refine Below.drew ?_) | (with_reducible refine below_drewN ?_ _) | (with_reducible refine bel_alloc ?_ _)))⟩
  by_cases z2 : n ≤ t.to
  · rw [if_pos (.inr z2)]
    have y : 0 ≤ t.to := by omega
    clear z
    go_enter Tryz.func171, Tryz.ntmps171
    go_wp2
    go_ret
    exact ⟨rfl, (by repeat (first | (with_reducible exact Below.refl _ _) | (with_reducible assumption) | (with_reducible exact bel_box _) | (with_reducible refine bel_step ?_ (by with_reducible assumption)) | (with_reducible refine Below.drew ?_) | (with_reducible refine below_drewN ?_ _) | (with_reducible refine bel_alloc ?_ _)))⟩
  rw [if_neg (by omega)]
  have y : 0 ≤ t.to := by omega
  have y2 : t.to < n := by omega
  have hv : orE v (if (false = true ∧ (t.cd.list.any fun y => stK y.k) = true) then 5 else 0) = v := by
    rw [if_neg (by simp)]
    unfold orE
    split
    · rename_i h; exact h.symm
    · rfl
  rw [hv]
  clear z z2 hv
  go_enter Tryz.func171, Tryz.ntmps171
  go_wp2_with (go_at_call 55; (with_reducible refine (KE.out _ ?_).mono ?_); (focus ((repeat (first | (with_reducible exact Below.refl _ _) | (with_reducible assumption) | (with_reducible exact bel_box _) | (with_reducible refine bel_step ?_ (by with_reducible assumption)) | (with_reducible refine Below.drew ?_) | (with_reducible refine below_drewN ?_ _) | (with_reducible refine bel_alloc ?_ _))); done)); rintro e w1 ⟨rfl, hb1⟩)
  go_ret
  exact ⟨rfl, (by repeat (first | (with_reducible exact Below.refl _ _) | (with_reducible assumption) | (with_reducible exact bel_box _) | (with_reducible refine bel_step ?_ (by with_reducible assumption)) | (with_reducible refine Below.drew ?_) | (with_reducible refine below_drewN ?_ _) | (with_reducible refine bel_alloc ?_ _)))⟩
theorem trn_false (es : List va.En) (n : Int) (t : Tt) : trnE es n true t = orE (trnE es n false t) (if (t.cd.list.any fun y => stK y.k) = true then 5 else 0) := by
  unfold trnE
  by_cases z : t.to < 0 ∨ n ≤ t.to
  · rw [if_pos z, if_pos z]
    rfl
  · rw [if_neg z, if_neg z]
    unfold orE
    by_cases h : expE es t.cd = 0
    · simp [h]
    · simp [h]
theorem chk_size {wok : ByteArray → Bool} {x : Xt} (h : chkAll wok x = 0) : x.size ≤ 400 := by
  unfold chkAll at h
  split at h
  · cases h
  · omega
theorem trn_size {es : List va.En} {n : Int} {t : Tt} (h : trnE es n false t = 0) : t.cd.size ≤ 400 := by
  unfold trnE at h
  split at h
  · cases h
  · unfold orE at h
    split at h
    · rename_i h0
      unfold expE orE at h0
      split at h0
      · rename_i h1; exact chk_size h1
      · rename_i h1; exact absurd h0 h1
    · rename_i h0; exact absurd h h0
set_option maxHeartbeats 1000000 in
set_option maxRecDepth 20000 in
theorem sh_unless1 (E : Rw va.En) (n : Int) (t : Tt) (c p q : Addr) (w : World) (hs : Std w) (hE : RsE w w.heap.size E) (hX : RsX w w.heap.size t.cd) (hc : Cap w c (.func (.func 171) #[] #[.pointer (some p), .pointer (some q)])) (hp : Cap w p (.int .i64 n)) (hq : Cap w q (.slice E.A E.l.length E.c)) :
    Calls Tryz.prog 170 #[tV t, .pointer (some c)] w (Bel (.int .i64 (trnE E.l n true t)) w) := by
  have KT := Lib.hid (fun W (h : Below w.heap.size w W) => sh_trans1 E n t p q W (hs.to h) (hE.blw h h.size) (hX.blw h h.size) (hp.to h) (hq.to h))
  have KS : trnE E.l n false t = 0 → Hid (∀ W, Below w.heap.size w W → Calls Tryz.prog 41 #[xV t.cd] W (Bel (.bool (!t.cd.list.any fun y => stK y.k)) W)) := fun h0 => Lib.hid fun W h =>
    stateless_any t.cd W (hX.blw h h.size).1 (by have := trn_size h0; omega)
  rw [trn_false]
  generalize trnE E.l n false t = v at *
  generalize (t.cd.list.any fun y => stK y.k) = b at *
  have hc0 := hc.1
  have hc1 := hc.al
  clear hs hE hX hp hq hc
  by_cases hv : v = 0
  · subst hv
    replace KS := KS rfl
    simp only [xV] at KS
    rw [orE0]
    cases b
    all_goals
      go_enter Tryz.func170, Tryz.ntmps170
      go_wp2_with (first | (go_at_call 171; (with_reducible refine (KT.out _ ?_).mono ?_); (focus ((repeat (first | (with_reducible exact Below.refl _ _) | (with_reducible assumption) | (with_reducible exact bel_box _) | (with_reducible refine bel_step ?_ (by with_reducible assumption)) | (with_reducible refine Below.drew ?_) | (with_reducible refine below_drewN ?_ _) | (with_reducible refine bel_alloc ?_ _))); done)); rintro e w1 ⟨rfl, hb1⟩; obtain ⟨g0, g1, g2, g3, g4, g5, g6, g7, g8⟩ := B1T (w := w) (W := w1) t (by repeat (first | (with_reducible exact Below.refl _ _) | (with_reducible assumption) | (with_reducible exact bel_box _) | (with_reducible refine bel_step ?_ (by with_reducible assumption)) | (with_reducible refine Below.drew ?_) | (with_reducible refine below_drewN ?_ _) | (with_reducible refine bel_alloc ?_ _)))) | (go_at_call 41; (with_reducible refine (KS.out _ ?_).mono ?_); (focus ((repeat (first | (with_reducible exact Below.refl _ _) | (with_reducible assumption) | (with_reducible exact bel_box _) | (with_reducible refine bel_step ?_ (by with_reducible assumption)) | (with_reducible refine Below.drew ?_) | (with_reducible refine below_drewN ?_ _) | (with_reducible refine bel_alloc ?_ _))); done)); rintro e w2 ⟨rfl, hb2⟩))
      go_ret
      exact ⟨rfl, (by repeat (first | (with_reducible exact Below.refl _ _) | (with_reducible assumption) | (with_reducible exact bel_box _) | (with_reducible refine bel_step ?_ (by with_reducible assumption)) | (with_reducible refine Below.drew ?_) | (with_reducible refine below_drewN ?_ _) | (with_reducible refine bel_alloc ?_ _)))⟩
  · have q2 : (v == 0) = false := by simp [hv]
    rw [orEn hv]
    clear hv KS
    go_enter Tryz.func170, Tryz.ntmps170
    go_wp2_with (go_at_call 171; (with_reducible refine (KT.out _ ?_).mono ?_); (focus ((repeat (first | (with_reducible exact Below.refl _ _) | (with_reducible assumption) | (with_reducible exact bel_box _) | (with_reducible refine bel_step ?_ (by with_reducible assumption)) | (with_reducible refine Below.drew ?_) | (with_reducible refine below_drewN ?_ _) | (with_reducible refine bel_alloc ?_ _))); done)); rintro e w1 ⟨rfl, hb1⟩; obtain ⟨g0, g1, g2, g3, g4, g5, g6, g7, g8⟩ := B1T (w := w) (W := w1) t (by repeat (first | (with_reducible exact Below.refl _ _) | (with_reducible assumption) | (with_reducible exact bel_box _) | (with_reducible refine bel_step ?_ (by with_reducible assumption)) | (with_reducible refine Below.drew ?_) | (with_reducible refine below_drewN ?_ _) | (with_reducible refine bel_alloc ?_ _))))
    go_ret
    exact ⟨rfl, (by repeat (first | (with_reducible exact Below.refl _ _) | (with_reducible assumption) | (with_reducible exact bel_box _) | (with_reducible refine bel_step ?_ (by with_reducible assumption)) | (with_reducible refine Below.drew ?_) | (with_reducible refine below_drewN ?_ _) | (with_reducible refine bel_alloc ?_ _)))⟩
set_option maxHeartbeats 1000000 in
theorem sh_transition (E : Rw va.En) (n : Int) (w : World) : Calls Tryz.prog 149 #[ckV E, .int .i64 n] w (fun e w' => ∃ p q, e = .returned (.func (.func 171) #[] #[.pointer (some p), .pointer (some q)]) ∧ Cap w' p (.int .i64 n) ∧ Cap w' q (.slice E.A E.l.length E.c) ∧ Below w.heap.size w w') := by
  go_enter Tryz.func149, Tryz.ntmps149
  go_wp2
  go_ret
  refine ⟨_, _, rfl, ⟨?_, ?_⟩, ⟨?_, ?_⟩, (by repeat (first | (with_reducible exact Below.refl _ _) | (with_reducible assumption) | (with_reducible exact bel_box _) | (with_reducible refine bel_step ?_ (by with_reducible assumption)) | (with_reducible refine Below.drew ?_) | (with_reducible refine below_drewN ?_ _) | (with_reducible refine bel_alloc ?_ _)))⟩ <;> simp [go_sem]
set_option maxHeartbeats 1000000 in
theorem sh_unless (E : Rw va.En) (n : Int) (w : World) : Calls Tryz.prog 148 #[ckV E, .int .i64 n] w (fun e w' => ∃ c p q, e = .returned (.func (.func 170) #[] #[.pointer (some c)]) ∧ Cap w' c (.func (.func 171) #[] #[.pointer (some p), .pointer (some q)]) ∧ Cap w' p (.int .i64 n) ∧ Cap w' q (.slice E.A E.l.length E.c) ∧ Below w.heap.size w w') := by
  have KT := Lib.hid (fun W => sh_transition E n W)
  go_enter Tryz.func148, Tryz.ntmps148
  go_wp2_with (go_at_call 149; (with_reducible refine (KT.out _).mono ?_); rintro e w1 ⟨p, q, rfl, hp, hq, hb1⟩)
  go_ret
  refine ⟨_, p, q, rfl, ⟨?_, ?_⟩, hp.to (bel_box _), hq.to (bel_box _), (by repeat (first | (with_reducible exact Below.refl _ _) | (with_reducible assumption) | (with_reducible exact bel_box _) | (with_reducible refine bel_step ?_ (by with_reducible assumption)) | (with_reducible refine Below.drew ?_) | (with_reducible refine below_drewN ?_ _) | (with_reducible refine bel_alloc ?_ _)))⟩ <;> simp [go_sem]
set_option maxHeartbeats 1000000 in
theorem sh_automaton (E : Rw va.En) (n : Int) (w : World) : Calls Tryz.prog 81 #[ckV E, .int .i64 n] w (fun e w' => ∃ p q, e = .returned (.func (.func 114) #[] #[.pointer (some p), .pointer (some q)]) ∧ Cap w' p (.int .i64 n) ∧ Cap w' q (.slice E.A E.l.length E.c) ∧ Below w.heap.size w w') := by
  go_enter Tryz.func81, Tryz.ntmps81
  go_wp2
  go_ret
  refine ⟨_, _, rfl, ⟨?_, ?_⟩, ⟨?_, ?_⟩, (by repeat (first | (with_reducible exact Below.refl _ _) | (with_reducible assumption) | (with_reducible exact bel_box _) | (with_reducible refine bel_step ?_ (by with_reducible assumption)) | (with_reducible refine Below.drew ?_) | (with_reducible refine below_drewN ?_ _) | (with_reducible refine bel_alloc ?_ _)))⟩ <;> simp [go_sem]
set_option maxHeartbeats 1000000 in
theorem sh_state (E : Rw va.En) (n k : Int) (w : World) : Calls Tryz.prog 116 #[ckV E, .int .i64 n, .int .i64 k] w (fun e w' => ∃ c p q, e = .returned (.func (.func 145) #[] #[.pointer (some c), .pointer (some p), .pointer (some q)]) ∧ Cap w' c (.slice E.A E.l.length E.c) ∧ Cap w' p (.int .i64 k) ∧ Cap w' q (.int .i64 n) ∧ Below w.heap.size w w') := by
  go_enter Tryz.func116, Tryz.ntmps116
  go_wp2
  go_ret
  refine ⟨_, _, _, rfl, ⟨?_, ?_⟩, ⟨?_, ?_⟩, ⟨?_, ?_⟩, (by repeat (first | (with_reducible exact Below.refl _ _) | (with_reducible assumption) | (with_reducible exact bel_box _) | (with_reducible refine bel_step ?_ (by with_reducible assumption)) | (with_reducible refine Below.drew ?_) | (with_reducible refine below_drewN ?_ _) | (with_reducible refine bel_alloc ?_ _)))⟩ <;> simp [go_sem]
end Go.Proofs.YthlapepjebidgaaGreatDoor
/- slices.EqualFunc of the program. -/
namespace Go.Proofs.YthlapepjebidgaaGreatDoor
set_option linter.unusedVariables false
set_option linter.unusedSimpArgs false
open Go.RowKit
abbrev eV (e : va.En) : Value := .agg #[.string e.name, .slice e.A e.tags.length e.c]
def all2 {α : Type} (f : α → α → Bool) : List α → List α → Bool
  | [], [] => true
  | a :: l, b :: m => f a b && all2 f l m
  | _, _ => false
theorem all2_len {α : Type} {f : α → α → Bool} {l m : List α} (h : l.length ≠ m.length) : all2 f l m = false := by
  induction l generalizing m with
  | nil => cases m with
    | nil => simp at h
    | cons b m => rfl
  | cons a l ih => cases m with
    | nil => rfl
    | cons b m => rw [all2, ih (by simpa using h)]; simp
theorem all2_steps {α : Type} (f : α → α → Bool) (l m : List α) (h : l.length = m.length) : ∃ F : Nat → Bool, F 0 = all2 f l m ∧ F l.length = true ∧ Hid (∀ (k : Nat) (y z : α), l[k]? = some y → m[k]? = some z → F k = (f y z && F (k+1))) := by
  refine ⟨fun k => all2 f (l.drop k) (m.drop k), by simp, by show all2 f (l.drop l.length) (m.drop l.length) = true; rw [List.drop_length, h, List.drop_length]; rfl, Lib.hid fun k y z hy hz => ?_⟩
  obtain ⟨hk, rfl⟩ := List.getElem?_eq_some_iff.1 hy
  obtain ⟨hk', rfl⟩ := List.getElem?_eq_some_iff.1 hz
  show all2 f (l.drop k) (m.drop k) = _
  rw [List.drop_eq_getElem_cons hk, List.drop_eq_getElem_cons hk', all2]
set_option maxHeartbeats 2000000 in
set_option maxRecDepth 20000 in
theorem eqf_Decl (r s : Rw (Dt)) (f : Dt → Dt → Bool) (w : World) (hR : RdR w w.heap.size 3 DC r) (hS : RdR w w.heap.size 3 DC s)
    (K : Hid (∀ (k : Nat) (y z : Dt), r.l[k]? = some y → s.l[k]? = some z → ∀ W, Below w.heap.size w W → Calls Tryz.prog 96 #[dV y, dV z] W (Bel (.bool (f y z)) W))) :
    Calls Tryz.prog 95 #[.slice r.A r.l.length r.c, .slice s.A s.l.length s.c, .func (.func 96) #[] #[]] w (Bel (.bool (all2 f r.l s.l)) w) := by
  have h9 := hR.len
  have h9s := hS.len
  unfold maxLen at h9 h9s
  have HR := Lib.hid hR
  have HS := Lib.hid hS
  clear hR hS
  cases q : (((r.l.length : Nat) : Int) != ((s.l.length : Nat) : Int))
  case true =>
    have hv : all2 f r.l s.l = false := all2_len (by intro h; simp [h] at q)
    rw [hv]
    clear hv K HR HS
    go_enter Tryz.func95, Tryz.ntmps95
    go_wp2
    go_ret
    exact ⟨rfl, (by repeat (first | (with_reducible exact Below.refl _ _) | (with_reducible assumption) | (with_reducible exact bel_box _) | (with_reducible refine bel_step ?_ (by with_reducible assumption)) | (with_reducible refine Below.drew ?_) | (with_reducible refine below_drewN ?_ _) | (with_reducible refine bel_alloc ?_ _)))⟩
  case false =>
    have hll : r.l.length = s.l.length := by
      have h : ((r.l.length : Nat) : Int) = ((s.l.length : Nat) : Int) := by simpa using q
      omega
    obtain ⟨F, hF0, hFl, HF⟩ := all2_steps f r.l s.l hll
    rw [← hF0]
    obtain ⟨V, hV⟩ : ∃ V, F 0 = V := ⟨_, rfl⟩
    have HV := Lib.hid hV
    have HL := Lib.hid hFl
    rw [hV]
    have HLL := Lib.hid hll
    clear hll hV hFl hF0
    skip
    go_enter Tryz.func95, Tryz.ntmps95
    go_wp2
    go_loopw [17] (fun i wr => ∃ k : Nat, k ≤ r.l.length ∧ i = .int .i64 (k : Int) ∧ Below w.heap.size w wr ∧ Hid (F k = V)) (fun i _ => r.l.length - (intOf i).toNat)
    case atStart => exact ⟨0, by omega, rfl, Below.refl _ _, HV⟩
    case round =>
      obtain ⟨k, hk, rfl, hbl, hno⟩ := hrel
      by_cases hlt : k < r.l.length
      · have hlt2 : k < s.l.length := by have := HLL.out; omega
        obtain ⟨ad, y, hA1, _, hy, _, ⟨c0, c1, c2⟩⟩ := (HR.out.blw oneB_D hbl hbl.size).at_ hlt
        obtain ⟨ad', z, hA2, _, hz, _, ⟨e0, e1, e2⟩⟩ := (HS.out.blw oneB_D hbl hbl.size).at_ hlt2
        rw [hA1, hA2]
        clear hA1 hA2
        have hst := HF.out k y z hy hz
        have KS := Lib.hid (K.out k y z hy hz)
        clear hy hz HF
        generalize f y z = b at *
        have a0 := fun o => cell_al o e0
        have a1 := fun o => cell_al o e1
        have a2 := fun o => cell_al o e2
        cases b
        · have hv : V = false := by rw [← hno.out, hst]; rfl
          subst hv
          clear hst hno HV
          go_wp2_with (go_at_call 96; (with_reducible refine (KS.out _ ?_).mono ?_); (focus ((repeat (first | (with_reducible exact Below.refl _ _) | (with_reducible assumption) | (with_reducible exact bel_box _) | (with_reducible refine bel_step ?_ (by with_reducible assumption)) | (with_reducible refine Below.drew ?_) | (with_reducible refine below_drewN ?_ _) | (with_reducible refine bel_alloc ?_ _))); done)); rintro e w1 ⟨rfl, hb1⟩)
          go_ret
          exact ⟨rfl, (by repeat (first | (with_reducible exact Below.refl _ _) | (with_reducible assumption) | (with_reducible exact bel_box _) | (with_reducible refine bel_step ?_ (by with_reducible assumption)) | (with_reducible refine Below.drew ?_) | (with_reducible refine below_drewN ?_ _) | (with_reducible refine bel_alloc ?_ _)))⟩
        · have hn : Hid (F (k+1) = V) := Lib.hid (by rw [← hno.out, hst]; simp)
          clear hst hno
          go_wp2_with (go_at_call 96; (with_reducible refine (KS.out _ ?_).mono ?_); (focus ((repeat (first | (with_reducible exact Below.refl _ _) | (with_reducible assumption) | (with_reducible exact bel_box _) | (with_reducible refine bel_step ?_ (by with_reducible assumption)) | (with_reducible refine Below.drew ?_) | (with_reducible refine below_drewN ?_ _) | (with_reducible refine bel_alloc ?_ _))); done)); rintro e w1 ⟨rfl, hb1⟩)
          go_roundw
          case rel => exact ⟨k+1, by omega, by go_num, (by repeat (first | (with_reducible exact Below.refl _ _) | (with_reducible assumption) | (with_reducible exact bel_box _) | (with_reducible refine bel_step ?_ (by with_reducible assumption)) | (with_reducible refine Below.drew ?_) | (with_reducible refine below_drewN ?_ _) | (with_reducible refine bel_alloc ?_ _))), hn⟩
          case measure => simp [intOf]; omega
      · obtain rfl : k = r.l.length := by omega
        have hv : V = true := by rw [← hno.out]; exact HL.out
        subst hv
        clear hno HF HV HL
        go_wp2
        go_ret
        exact ⟨rfl, hbl⟩
end Go.Proofs.YthlapepjebidgaaGreatDoor
/- slices.EqualFunc of the program. -/
namespace Go.Proofs.YthlapepjebidgaaGreatDoor
set_option linter.unusedVariables false
set_option linter.unusedSimpArgs false
open Go.RowKit
set_option maxHeartbeats 2000000 in
set_option maxRecDepth 20000 in
theorem eqf_Node (r s : Rw (Nt)) (f : Nt → Nt → Bool) (w : World) (hR : RdR w w.heap.size 8 NC r) (hS : RdR w w.heap.size 8 NC s)
    (K : Hid (∀ (k : Nat) (y z : Nt), r.l[k]? = some y → s.l[k]? = some z → ∀ W, Below w.heap.size w W → Calls Tryz.prog 61 #[nV y, nV z] W (Bel (.bool (f y z)) W))) :
    Calls Tryz.prog 60 #[.slice r.A r.l.length r.c, .slice s.A s.l.length s.c, .func (.func 61) #[] #[]] w (Bel (.bool (all2 f r.l s.l)) w) := by
  have h9 := hR.len
  have h9s := hS.len
  unfold maxLen at h9 h9s
  have HR := Lib.hid hR
  have HS := Lib.hid hS
  clear hR hS
  cases q : (((r.l.length : Nat) : Int) != ((s.l.length : Nat) : Int))
  case true =>
    have hv : all2 f r.l s.l = false := all2_len (by intro h; simp [h] at q)
    rw [hv]
    clear hv K HR HS
    go_enter Tryz.func60, Tryz.ntmps60
    go_wp2
    go_ret
    exact ⟨rfl, (by repeat (first | (with_reducible exact Below.refl _ _) | (with_reducible assumption) | (with_reducible exact bel_box _) | (with_reducible refine bel_step ?_ (by with_reducible assumption)) | (with_reducible refine Below.drew ?_) | (with_reducible refine below_drewN ?_ _) | (with_reducible refine bel_alloc ?_ _)))⟩
  case false =>
    have hll : r.l.length = s.l.length := by
      have h : ((r.l.length : Nat) : Int) = ((s.l.length : Nat) : Int) := by simpa using q
      omega
    obtain ⟨F, hF0, hFl, HF⟩ := all2_steps f r.l s.l hll
    rw [← hF0]
    obtain ⟨V, hV⟩ : ∃ V, F 0 = V := ⟨_, rfl⟩
    have HV := Lib.hid hV
    have HL := Lib.hid hFl
    rw [hV]
    have HLL := Lib.hid hll
    clear hll hV hFl hF0
    skip
    go_enter Tryz.func60, Tryz.ntmps60
    go_wp2
    go_loopw [17] (fun i wr => ∃ k : Nat, k ≤ r.l.length ∧ i = .int .i64 (k : Int) ∧ Below w.heap.size w wr ∧ Hid (F k = V)) (fun i _ => r.l.length - (intOf i).toNat)
    case atStart => exact ⟨0, by omega, rfl, Below.refl _ _, HV⟩
    case round =>
      obtain ⟨k, hk, rfl, hbl, hno⟩ := hrel
      by_cases hlt : k < r.l.length
      · have hlt2 : k < s.l.length := by have := HLL.out; omega
        obtain ⟨ad, y, hA1, _, hy, _, ⟨c0, c1, c2, c3, c4, c5, c6, c7⟩⟩ := (HR.out.blw oneB_N hbl hbl.size).at_ hlt
        obtain ⟨ad', z, hA2, _, hz, _, ⟨e0, e1, e2, e3, e4, e5, e6, e7⟩⟩ := (HS.out.blw oneB_N hbl hbl.size).at_ hlt2
        rw [hA1, hA2]
        clear hA1 hA2
        have hst := HF.out k y z hy hz
        have KS := Lib.hid (K.out k y z hy hz)
        clear hy hz HF
        generalize f y z = b at *
        have a0 := fun o => cell_al o e0
        have a1 := fun o => cell_al o e1
        have a2 := fun o => cell_al o e2
        have a3 := fun o => cell_al o e3
        have a4 := fun o => cell_al o e4
        have a5 := fun o => cell_al o e5
        have a6 := fun o => cell_al o e6
        have a7 := fun o => cell_al o e7
        cases b
        · have hv : V = false := by rw [← hno.out, hst]; rfl
          subst hv
          clear hst hno HV
          go_wp2_with (go_at_call 61; (with_reducible refine (KS.out _ ?_).mono ?_); (focus ((repeat (first | (with_reducible exact Below.refl _ _) | (with_reducible assumption) | (with_reducible exact bel_box _) | (with_reducible refine bel_step ?_ (by with_reducible assumption)) | (with_reducible refine Below.drew ?_) | (with_reducible refine below_drewN ?_ _) | (with_reducible refine bel_alloc ?_ _))); done)); rintro e w1 ⟨rfl, hb1⟩)
          go_ret
          exact ⟨rfl, (by repeat (first | (with_reducible exact Below.refl _ _) | (with_reducible assumption) | (with_reducible exact bel_box _) | (with_reducible refine bel_step ?_ (by with_reducible assumption)) | (with_reducible refine Below.drew ?_) | (with_reducible refine below_drewN ?_ _) | (with_reducible refine bel_alloc ?_ _)))⟩
        · have hn : Hid (F (k+1) = V) := Lib.hid (by rw [← hno.out, hst]; simp)
          clear hst hno
          go_wp2_with (go_at_call 61; (with_reducible refine (KS.out _ ?_).mono ?_); (focus ((repeat (first | (with_reducible exact Below.refl _ _) | (with_reducible assumption) | (with_reducible exact bel_box _) | (with_reducible refine bel_step ?_ (by with_reducible assumption)) | (with_reducible refine Below.drew ?_) | (with_reducible refine below_drewN ?_ _) | (with_reducible refine bel_alloc ?_ _))); done)); rintro e w1 ⟨rfl, hb1⟩)
          go_roundw
          case rel => exact ⟨k+1, by omega, by go_num, (by repeat (first | (with_reducible exact Below.refl _ _) | (with_reducible assumption) | (with_reducible exact bel_box _) | (with_reducible refine bel_step ?_ (by with_reducible assumption)) | (with_reducible refine Below.drew ?_) | (with_reducible refine below_drewN ?_ _) | (with_reducible refine bel_alloc ?_ _))), hn⟩
          case measure => simp [intOf]; omega
      · obtain rfl : k = r.l.length := by omega
        have hv : V = true := by rw [← hno.out]; exact HL.out
        subst hv
        clear hno HF HV HL
        go_wp2
        go_ret
        exact ⟨rfl, hbl⟩
set_option maxHeartbeats 2000000 in
set_option maxRecDepth 20000 in
theorem eqf_Eq (r s : Rw (Qt)) (f : Qt → Qt → Bool) (w : World) (hR : RdR w w.heap.size 7 QC r) (hS : RdR w w.heap.size 7 QC s)
    (K : Hid (∀ (k : Nat) (y z : Qt), r.l[k]? = some y → s.l[k]? = some z → ∀ W, Below w.heap.size w W → Calls Tryz.prog 98 #[qV y, qV z] W (Bel (.bool (f y z)) W))) :
    Calls Tryz.prog 97 #[.slice r.A r.l.length r.c, .slice s.A s.l.length s.c, .func (.func 98) #[] #[]] w (Bel (.bool (all2 f r.l s.l)) w) := by
  have h9 := hR.len
  have h9s := hS.len
  unfold maxLen at h9 h9s
  have HR := Lib.hid hR
  have HS := Lib.hid hS
  clear hR hS
  cases q : (((r.l.length : Nat) : Int) != ((s.l.length : Nat) : Int))
  case true =>
    have hv : all2 f r.l s.l = false := all2_len (by intro h; simp [h] at q)
    rw [hv]
    clear hv K HR HS
    go_enter Tryz.func97, Tryz.ntmps97
    go_wp2
    go_ret
    exact ⟨rfl, (by repeat (first | (with_reducible exact Below.refl _ _) | (with_reducible assumption) | (with_reducible exact bel_box _) | (with_reducible refine bel_step ?_ (by with_reducible assumption)) | (with_reducible refine Below.drew ?_) | (with_reducible refine below_drewN ?_ _) | (with_reducible refine bel_alloc ?_ _)))⟩
  case false =>
    have hll : r.l.length = s.l.length := by
      have h : ((r.l.length : Nat) : Int) = ((s.l.length : Nat) : Int) := by simpa using q
      omega
    obtain ⟨F, hF0, hFl, HF⟩ := all2_steps f r.l s.l hll
    rw [← hF0]
    obtain ⟨V, hV⟩ : ∃ V, F 0 = V := ⟨_, rfl⟩
    have HV := Lib.hid hV
    have HL := Lib.hid hFl
    rw [hV]
    have HLL := Lib.hid hll
    clear hll hV hFl hF0
    skip
    go_enter Tryz.func97, Tryz.ntmps97
    go_wp2
    go_loopw [17] (fun i wr => ∃ k : Nat, k ≤ r.l.length ∧ i = .int .i64 (k : Int) ∧ Below w.heap.size w wr ∧ Hid (F k = V)) (fun i _ => r.l.length - (intOf i).toNat)
    case atStart => exact ⟨0, by omega, rfl, Below.refl _ _, HV⟩
    case round =>
      obtain ⟨k, hk, rfl, hbl, hno⟩ := hrel
      by_cases hlt : k < r.l.length
      · have hlt2 : k < s.l.length := by have := HLL.out; omega
        obtain ⟨ad, y, hA1, _, hy, _, ⟨c0, c1, c2, c3, c4, c5, c6⟩⟩ := (HR.out.blw oneB_Q hbl hbl.size).at_ hlt
        obtain ⟨ad', z, hA2, _, hz, _, ⟨e0, e1, e2, e3, e4, e5, e6⟩⟩ := (HS.out.blw oneB_Q hbl hbl.size).at_ hlt2
        rw [hA1, hA2]
        clear hA1 hA2
        have hst := HF.out k y z hy hz
        have KS := Lib.hid (K.out k y z hy hz)
        clear hy hz HF
        generalize f y z = b at *
        have a0 := fun o => cell_al o e0
        have a1 := fun o => cell_al o e1
        have a2 := fun o => cell_al o e2
        have a3 := fun o => cell_al o e3
        have a4 := fun o => cell_al o e4
        have a5 := fun o => cell_al o e5
        have a6 := fun o => cell_al o e6
        cases b
        · have hv : V = false := by rw [← hno.out, hst]; rfl
          subst hv
          clear hst hno HV
          go_wp2_with (go_at_call 98; (with_reducible refine (KS.out _ ?_).mono ?_); (focus ((repeat (first | (with_reducible exact Below.refl _ _) | (with_reducible assumption) | (with_reducible exact bel_box _) | (with_reducible refine bel_step ?_ (by with_reducible assumption)) | (with_reducible refine Below.drew ?_) | (with_reducible refine below_drewN ?_ _) | (with_reducible refine bel_alloc ?_ _))); done)); rintro e w1 ⟨rfl, hb1⟩)
          go_ret
          exact ⟨rfl, (by repeat (first | (with_reducible exact Below.refl _ _) | (with_reducible assumption) | (with_reducible exact bel_box _) | (with_reducible refine bel_step ?_ (by with_reducible assumption)) | (with_reducible refine Below.drew ?_) | (with_reducible refine below_drewN ?_ _) | (with_reducible refine bel_alloc ?_ _)))⟩
        · have hn : Hid (F (k+1) = V) := Lib.hid (by rw [← hno.out, hst]; simp)
          clear hst hno
          go_wp2_with (go_at_call 98; (with_reducible refine (KS.out _ ?_).mono ?_); (focus ((repeat (first | (with_reducible exact Below.refl _ _) | (with_reducible assumption) | (with_reducible exact bel_box _) | (with_reducible refine bel_step ?_ (by with_reducible assumption)) | (with_reducible refine Below.drew ?_) | (with_reducible refine below_drewN ?_ _) | (with_reducible refine bel_alloc ?_ _))); done)); rintro e w1 ⟨rfl, hb1⟩)
          go_roundw
          case rel => exact ⟨k+1, by omega, by go_num, (by repeat (first | (with_reducible exact Below.refl _ _) | (with_reducible assumption) | (with_reducible exact bel_box _) | (with_reducible refine bel_step ?_ (by with_reducible assumption)) | (with_reducible refine Below.drew ?_) | (with_reducible refine below_drewN ?_ _) | (with_reducible refine bel_alloc ?_ _))), hn⟩
          case measure => simp [intOf]; omega
      · obtain rfl : k = r.l.length := by omega
        have hv : V = true := by rw [← hno.out]; exact HL.out
        subst hv
        clear hno HF HV HL
        go_wp2
        go_ret
        exact ⟨rfl, hbl⟩
set_option maxHeartbeats 2000000 in
set_option maxRecDepth 20000 in
theorem eqf_Auto (r s : Rw (Rw St)) (f : Rw St → Rw St → Bool) (w : World) (hR : RdR w w.heap.size 1 AC r) (hS : RdR w w.heap.size 1 AC s)
    (K : Hid (∀ (k : Nat) (y z : Rw St), r.l[k]? = some y → s.l[k]? = some z → ∀ W, Below w.heap.size w W → Calls Tryz.prog 100 #[aV y, aV z] W (Bel (.bool (f y z)) W))) :
    Calls Tryz.prog 99 #[.slice r.A r.l.length r.c, .slice s.A s.l.length s.c, .func (.func 100) #[] #[]] w (Bel (.bool (all2 f r.l s.l)) w) := by
  have h9 := hR.len
  have h9s := hS.len
  unfold maxLen at h9 h9s
  have HR := Lib.hid hR
  have HS := Lib.hid hS
  clear hR hS
  cases q : (((r.l.length : Nat) : Int) != ((s.l.length : Nat) : Int))
  case true =>
    have hv : all2 f r.l s.l = false := all2_len (by intro h; simp [h] at q)
    rw [hv]
    clear hv K HR HS
    go_enter Tryz.func99, Tryz.ntmps99
    go_wp2
    go_ret
    exact ⟨rfl, (by repeat (first | (with_reducible exact Below.refl _ _) | (with_reducible assumption) | (with_reducible exact bel_box _) | (with_reducible refine bel_step ?_ (by with_reducible assumption)) | (with_reducible refine Below.drew ?_) | (with_reducible refine below_drewN ?_ _) | (with_reducible refine bel_alloc ?_ _)))⟩
  case false =>
    have hll : r.l.length = s.l.length := by
      have h : ((r.l.length : Nat) : Int) = ((s.l.length : Nat) : Int) := by simpa using q
      omega
    obtain ⟨F, hF0, hFl, HF⟩ := all2_steps f r.l s.l hll
    rw [← hF0]
    obtain ⟨V, hV⟩ : ∃ V, F 0 = V := ⟨_, rfl⟩
    have HV := Lib.hid hV
    have HL := Lib.hid hFl
    rw [hV]
    have HLL := Lib.hid hll
    clear hll hV hFl hF0
    skip
    go_enter Tryz.func99, Tryz.ntmps99
    go_wp2
    go_loopw [17] (fun i wr => ∃ k : Nat, k ≤ r.l.length ∧ i = .int .i64 (k : Int) ∧ Below w.heap.size w wr ∧ Hid (F k = V)) (fun i _ => r.l.length - (intOf i).toNat)
    case atStart => exact ⟨0, by omega, rfl, Below.refl _ _, HV⟩
    case round =>
      obtain ⟨k, hk, rfl, hbl, hno⟩ := hrel
      by_cases hlt : k < r.l.length
      · have hlt2 : k < s.l.length := by have := HLL.out; omega
        obtain ⟨ad, y, hA1, _, hy, _, c0⟩ := (HR.out.blw oneB_A hbl hbl.size).at_ hlt
        unfold AC at c0
        rw [Nat.mul_one] at c0
        obtain ⟨ad', z, hA2, _, hz, _, e0⟩ := (HS.out.blw oneB_A hbl hbl.size).at_ hlt2
        unfold AC at e0
        rw [Nat.mul_one] at e0
        rw [hA1, hA2]
        clear hA1 hA2
        have hst := HF.out k y z hy hz
        have KS := Lib.hid (K.out k y z hy hz)
        clear hy hz HF
        generalize f y z = b at *
        have a0 := fun o => cell_al o e0
        cases b
        · have hv : V = false := by rw [← hno.out, hst]; rfl
          subst hv
          clear hst hno HV
          go_wp2_with (go_at_call 100; (with_reducible refine (KS.out _ ?_).mono ?_); (focus ((repeat (first | (with_reducible exact Below.refl _ _) | (with_reducible assumption) | (with_reducible exact bel_box _) | (with_reducible refine bel_step ?_ (by with_reducible assumption)) | (with_reducible refine Below.drew ?_) | (with_reducible refine below_drewN ?_ _) | (with_reducible refine bel_alloc ?_ _))); done)); rintro e w1 ⟨rfl, hb1⟩)
          go_ret
          exact ⟨rfl, (by repeat (first | (with_reducible exact Below.refl _ _) | (with_reducible assumption) | (with_reducible exact bel_box _) | (with_reducible refine bel_step ?_ (by with_reducible assumption)) | (with_reducible refine Below.drew ?_) | (with_reducible refine below_drewN ?_ _) | (with_reducible refine bel_alloc ?_ _)))⟩
        · have hn : Hid (F (k+1) = V) := Lib.hid (by rw [← hno.out, hst]; simp)
          clear hst hno
          go_wp2_with (go_at_call 100; (with_reducible refine (KS.out _ ?_).mono ?_); (focus ((repeat (first | (with_reducible exact Below.refl _ _) | (with_reducible assumption) | (with_reducible exact bel_box _) | (with_reducible refine bel_step ?_ (by with_reducible assumption)) | (with_reducible refine Below.drew ?_) | (with_reducible refine below_drewN ?_ _) | (with_reducible refine bel_alloc ?_ _))); done)); rintro e w1 ⟨rfl, hb1⟩)
          go_roundw
          case rel => exact ⟨k+1, by omega, by go_num, (by repeat (first | (with_reducible exact Below.refl _ _) | (with_reducible assumption) | (with_reducible exact bel_box _) | (with_reducible refine bel_step ?_ (by with_reducible assumption)) | (with_reducible refine Below.drew ?_) | (with_reducible refine below_drewN ?_ _) | (with_reducible refine bel_alloc ?_ _))), hn⟩
          case measure => simp [intOf]; omega
      · obtain rfl : k = r.l.length := by omega
        have hv : V = true := by rw [← hno.out]; exact HL.out
        subst hv
        clear hno HF HV HL
        go_wp2
        go_ret
        exact ⟨rfl, hbl⟩
end Go.Proofs.YthlapepjebidgaaGreatDoor
/- Same of both, by the content of a tree. -/
namespace Go.Proofs.YthlapepjebidgaaGreatDoor
set_option linter.unusedVariables false
set_option linter.unusedSimpArgs false
open Go.RowKit Go.Sort
/-- what a tree says, without its addresses -/
inductive Xc where
  | mk (k op t v : Int) (nm : List UInt8) (ar : List Xc)
def Xt.ct (x : Xt) : Xc := .mk x.k x.op x.t x.v x.nm.toList (x.ar.attach.map fun a => Xt.ct a.1)
termination_by SizeOf.sizeOf x
decreasing_by exact Xt.lt_of_mem a.2
theorem Xt.ct_eq (x : Xt) : x.ct = .mk x.k x.op x.t x.v x.nm.toList (x.ar.map Xt.ct) := by
  rw [Xt.ct]
  congr 1
  simp
open Classical in
noncomputable def sameX (a b : Xt) : Bool := decide (a.ct = b.ct)
open Classical in
theorem sameX_iff {a b : Xt} : sameX a b = true ↔ a.ct = b.ct := by
  unfold sameX; exact decide_eq_true_iff
theorem sameX_yes {a b : Xt} (h : a.ct = b.ct) : sameX a b = true := sameX_iff.2 h
theorem sameX_no {a b : Xt} (h : ¬ a.ct = b.ct) : sameX a b = false := by
  cases q : sameX a b
  · rfl
  · exact absurd (sameX_iff.1 q) h
theorem ct_parts {a b : Xt} (h : a.ct = b.ct) : a.k = b.k ∧ a.op = b.op ∧ a.t = b.t ∧ a.v = b.v ∧ a.nm.toList = b.nm.toList ∧ a.ar.map Xt.ct = b.ar.map Xt.ct ∧ a.ar.length = b.ar.length := by
  rw [Xt.ct_eq, Xt.ct_eq] at h
  injection h with h1 h2 h3 h4 h5 h6
  exact ⟨h1, h2, h3, h4, h5, h6, by have := congrArg List.length h6; simpa using this⟩
theorem ct_of {a b : Xt} (h1 : a.k = b.k) (h2 : a.op = b.op) (h3 : a.t = b.t) (h4 : a.v = b.v) (h5 : a.nm.toList = b.nm.toList) (h6 : a.ar.map Xt.ct = b.ar.map Xt.ct) : a.ct = b.ct := by
  rw [Xt.ct_eq, Xt.ct_eq, h1, h2, h3, h4, h5, h6]
theorem ct_take {a b : List Xt} {k : Nat} {y z : Xt} (ha : a[k]? = some y) (hb : b[k]? = some z) (h : (a.take k).map Xt.ct = (b.take k).map Xt.ct) (hy : sameX y z = true) : (a.take (k+1)).map Xt.ct = (b.take (k+1)).map Xt.ct := by
  rw [take_succ_of ha, take_succ_of hb, List.map_append, List.map_append, h, List.map_singleton, List.map_singleton, sameX_iff.1 hy]
theorem ct_differ {a b : List Xt} {k : Nat} {y z : Xt} (ha : a[k]? = some y) (hb : b[k]? = some z) (hy : sameX y z = false) : ¬ a.map Xt.ct = b.map Xt.ct := by
  intro e
  have h := congrArg (fun l => l[k]?) e
  simp only [List.getElem?_map, ha, hb, Option.map_some] at h
  rw [sameX_yes (Option.some.inj h)] at hy
  cases hy
end Go.Proofs.YthlapepjebidgaaGreatDoor
/- slices.EqualFunc of the program. -/
namespace Go.Proofs.YthlapepjebidgaaGreatDoor
set_option linter.unusedVariables false
set_option linter.unusedSimpArgs false
open Go.RowKit
set_option maxHeartbeats 2000000 in
set_option maxRecDepth 20000 in
theorem eqf_State (r s : Rw (St)) (f : St → St → Bool) (w : World) (hR : RdR w w.heap.size 6 SC r) (hS : RdR w w.heap.size 6 SC s)
    (K : Hid (∀ (k : Nat) (y z : St), r.l[k]? = some y → s.l[k]? = some z → ∀ W, Below w.heap.size w W → Calls Tryz.prog 128 #[sV y, sV z] W (Bel (.bool (f y z)) W))) :
    Calls Tryz.prog 127 #[.slice r.A r.l.length r.c, .slice s.A s.l.length s.c, .func (.func 128) #[] #[]] w (Bel (.bool (all2 f r.l s.l)) w) := by
  have h9 := hR.len
  have h9s := hS.len
  unfold maxLen at h9 h9s
  have HR := Lib.hid hR
  have HS := Lib.hid hS
  clear hR hS
  cases q : (((r.l.length : Nat) : Int) != ((s.l.length : Nat) : Int))
  case true =>
    have hv : all2 f r.l s.l = false := all2_len (by intro h; simp [h] at q)
    rw [hv]
    clear hv K HR HS
    go_enter Tryz.func127, Tryz.ntmps127
    go_wp2
    go_ret
    exact ⟨rfl, (by repeat (first | (with_reducible exact Below.refl _ _) | (with_reducible assumption) | (with_reducible exact bel_box _) | (with_reducible refine bel_step ?_ (by with_reducible assumption)) | (with_reducible refine Below.drew ?_) | (with_reducible refine below_drewN ?_ _) | (with_reducible refine bel_alloc ?_ _)))⟩
  case false =>
    have hll : r.l.length = s.l.length := by
      have h : ((r.l.length : Nat) : Int) = ((s.l.length : Nat) : Int) := by simpa using q
      omega
    obtain ⟨F, hF0, hFl, HF⟩ := all2_steps f r.l s.l hll
    rw [← hF0]
    obtain ⟨V, hV⟩ : ∃ V, F 0 = V := ⟨_, rfl⟩
    have HV := Lib.hid hV
    have HL := Lib.hid hFl
    rw [hV]
    have HLL := Lib.hid hll
    clear hll hV hFl hF0
    skip
    go_enter Tryz.func127, Tryz.ntmps127
    go_wp2
    go_loopw [17] (fun i wr => ∃ k : Nat, k ≤ r.l.length ∧ i = .int .i64 (k : Int) ∧ Below w.heap.size w wr ∧ Hid (F k = V)) (fun i _ => r.l.length - (intOf i).toNat)
    case atStart => exact ⟨0, by omega, rfl, Below.refl _ _, HV⟩
    case round =>
      obtain ⟨k, hk, rfl, hbl, hno⟩ := hrel
      by_cases hlt : k < r.l.length
      · have hlt2 : k < s.l.length := by have := HLL.out; omega
        obtain ⟨ad, y, hA1, _, hy, _, ⟨c0, c1, c2, c3, c4, c5⟩⟩ := (HR.out.blw oneB_S hbl hbl.size).at_ hlt
        obtain ⟨ad', z, hA2, _, hz, _, ⟨e0, e1, e2, e3, e4, e5⟩⟩ := (HS.out.blw oneB_S hbl hbl.size).at_ hlt2
        rw [hA1, hA2]
        clear hA1 hA2
        have hst := HF.out k y z hy hz
        have KS := Lib.hid (K.out k y z hy hz)
        clear hy hz HF
        generalize f y z = b at *
        have a0 := fun o => cell_al o e0
        have a1 := fun o => cell_al o e1
        have a2 := fun o => cell_al o e2
        have a3 := fun o => cell_al o e3
        have a4 := fun o => cell_al o e4
        have a5 := fun o => cell_al o e5
        cases b
        · have hv : V = false := by rw [← hno.out, hst]; rfl
          subst hv
          clear hst hno HV
          go_wp2_with (go_at_call 128; (with_reducible refine (KS.out _ ?_).mono ?_); (focus ((repeat (first | (with_reducible exact Below.refl _ _) | (with_reducible assumption) | (with_reducible exact bel_box _) | (with_reducible refine bel_step ?_ (by with_reducible assumption)) | (with_reducible refine Below.drew ?_) | (with_reducible refine below_drewN ?_ _) | (with_reducible refine bel_alloc ?_ _))); done)); rintro e w1 ⟨rfl, hb1⟩)
          go_ret
          exact ⟨rfl, (by repeat (first | (with_reducible exact Below.refl _ _) | (with_reducible assumption) | (with_reducible exact bel_box _) | (with_reducible refine bel_step ?_ (by with_reducible assumption)) | (with_reducible refine Below.drew ?_) | (with_reducible refine below_drewN ?_ _) | (with_reducible refine bel_alloc ?_ _)))⟩
        · have hn : Hid (F (k+1) = V) := Lib.hid (by rw [← hno.out, hst]; simp)
          clear hst hno
          go_wp2_with (go_at_call 128; (with_reducible refine (KS.out _ ?_).mono ?_); (focus ((repeat (first | (with_reducible exact Below.refl _ _) | (with_reducible assumption) | (with_reducible exact bel_box _) | (with_reducible refine bel_step ?_ (by with_reducible assumption)) | (with_reducible refine Below.drew ?_) | (with_reducible refine below_drewN ?_ _) | (with_reducible refine bel_alloc ?_ _))); done)); rintro e w1 ⟨rfl, hb1⟩)
          go_roundw
          case rel => exact ⟨k+1, by omega, by go_num, (by repeat (first | (with_reducible exact Below.refl _ _) | (with_reducible assumption) | (with_reducible exact bel_box _) | (with_reducible refine bel_step ?_ (by with_reducible assumption)) | (with_reducible refine Below.drew ?_) | (with_reducible refine below_drewN ?_ _) | (with_reducible refine bel_alloc ?_ _))), hn⟩
          case measure => simp [intOf]; omega
      · obtain rfl : k = r.l.length := by omega
        have hv : V = true := by rw [← hno.out]; exact HL.out
        subst hv
        clear hno HF HV HL
        go_wp2
        go_ret
        exact ⟨rfl, hbl⟩
set_option maxHeartbeats 2000000 in
set_option maxRecDepth 20000 in
theorem eqf_Trans (r s : Rw (Tt)) (f : Tt → Tt → Bool) (w : World) (hR : RdR w w.heap.size 8 TC r) (hS : RdR w w.heap.size 8 TC s)
    (K : Hid (∀ (k : Nat) (y z : Tt), r.l[k]? = some y → s.l[k]? = some z → ∀ W, Below w.heap.size w W → Calls Tryz.prog 158 #[tV y, tV z] W (Bel (.bool (f y z)) W))) :
    Calls Tryz.prog 157 #[.slice r.A r.l.length r.c, .slice s.A s.l.length s.c, .func (.func 158) #[] #[]] w (Bel (.bool (all2 f r.l s.l)) w) := by
  have h9 := hR.len
  have h9s := hS.len
  unfold maxLen at h9 h9s
  have HR := Lib.hid hR
  have HS := Lib.hid hS
  clear hR hS
  cases q : (((r.l.length : Nat) : Int) != ((s.l.length : Nat) : Int))
  case true =>
    have hv : all2 f r.l s.l = false := all2_len (by intro h; simp [h] at q)
    rw [hv]
    clear hv K HR HS
    go_enter Tryz.func157, Tryz.ntmps157
    go_wp2
    go_ret
    exact ⟨rfl, (by repeat (first | (with_reducible exact Below.refl _ _) | (with_reducible assumption) | (with_reducible exact bel_box _) | (with_reducible refine bel_step ?_ (by with_reducible assumption)) | (with_reducible refine Below.drew ?_) | (with_reducible refine below_drewN ?_ _) | (with_reducible refine bel_alloc ?_ _)))⟩
  case false =>
    have hll : r.l.length = s.l.length := by
      have h : ((r.l.length : Nat) : Int) = ((s.l.length : Nat) : Int) := by simpa using q
      omega
    obtain ⟨F, hF0, hFl, HF⟩ := all2_steps f r.l s.l hll
    rw [← hF0]
    obtain ⟨V, hV⟩ : ∃ V, F 0 = V := ⟨_, rfl⟩
    have HV := Lib.hid hV
    have HL := Lib.hid hFl
    rw [hV]
    have HLL := Lib.hid hll
    clear hll hV hFl hF0
    skip
    go_enter Tryz.func157, Tryz.ntmps157
    go_wp2
    go_loopw [17] (fun i wr => ∃ k : Nat, k ≤ r.l.length ∧ i = .int .i64 (k : Int) ∧ Below w.heap.size w wr ∧ Hid (F k = V)) (fun i _ => r.l.length - (intOf i).toNat)
    case atStart => exact ⟨0, by omega, rfl, Below.refl _ _, HV⟩
    case round =>
      obtain ⟨k, hk, rfl, hbl, hno⟩ := hrel
      by_cases hlt : k < r.l.length
      · have hlt2 : k < s.l.length := by have := HLL.out; omega
        obtain ⟨ad, y, hA1, _, hy, _, ⟨⟨c0, c1, c2, c3, c4, c5⟩, c6, c7⟩⟩ := (HR.out.blw oneB_T hbl hbl.size).at_ hlt
        obtain ⟨ad', z, hA2, _, hz, _, ⟨⟨e0, e1, e2, e3, e4, e5⟩, e6, e7⟩⟩ := (HS.out.blw oneB_T hbl hbl.size).at_ hlt2
        rw [hA1, hA2]
        clear hA1 hA2
        have hst := HF.out k y z hy hz
        have KS := Lib.hid (K.out k y z hy hz)
        clear hy hz HF
        generalize f y z = b at *
        have a0 := fun o => cell_al o e0
        have a1 := fun o => cell_al o e1
        have a2 := fun o => cell_al o e2
        have a3 := fun o => cell_al o e3
        have a4 := fun o => cell_al o e4
        have a5 := fun o => cell_al o e5
        have a6 := fun o => cell_al o e6
        have a7 := fun o => cell_al o e7
        cases b
        · have hv : V = false := by rw [← hno.out, hst]; rfl
          subst hv
          clear hst hno HV
          go_wp2_with (go_at_call 158; (with_reducible refine (KS.out _ ?_).mono ?_); (focus ((repeat (first | (with_reducible exact Below.refl _ _) | (with_reducible assumption) | (with_reducible exact bel_box _) | (with_reducible refine bel_step ?_ (by with_reducible assumption)) | (with_reducible refine Below.drew ?_) | (with_reducible refine below_drewN ?_ _) | (with_reducible refine bel_alloc ?_ _))); done)); rintro e w1 ⟨rfl, hb1⟩)
          go_ret
          exact ⟨rfl, (by repeat (first | (with_reducible exact Below.refl _ _) | (with_reducible assumption) | (with_reducible exact bel_box _) | (with_reducible refine bel_step ?_ (by with_reducible assumption)) | (with_reducible refine Below.drew ?_) | (with_reducible refine below_drewN ?_ _) | (with_reducible refine bel_alloc ?_ _)))⟩
        · have hn : Hid (F (k+1) = V) := Lib.hid (by rw [← hno.out, hst]; simp)
          clear hst hno
          go_wp2_with (go_at_call 158; (with_reducible refine (KS.out _ ?_).mono ?_); (focus ((repeat (first | (with_reducible exact Below.refl _ _) | (with_reducible assumption) | (with_reducible exact bel_box _) | (with_reducible refine bel_step ?_ (by with_reducible assumption)) | (with_reducible refine Below.drew ?_) | (with_reducible refine below_drewN ?_ _) | (with_reducible refine bel_alloc ?_ _))); done)); rintro e w1 ⟨rfl, hb1⟩)
          go_roundw
          case rel => exact ⟨k+1, by omega, by go_num, (by repeat (first | (with_reducible exact Below.refl _ _) | (with_reducible assumption) | (with_reducible exact bel_box _) | (with_reducible refine bel_step ?_ (by with_reducible assumption)) | (with_reducible refine Below.drew ?_) | (with_reducible refine below_drewN ?_ _) | (with_reducible refine bel_alloc ?_ _))), hn⟩
          case measure => simp [intOf]; omega
      · obtain rfl : k = r.l.length := by omega
        have hv : V = true := by rw [← hno.out]; exact HL.out
        subst hv
        clear hno HF HV HL
        go_wp2
        go_ret
        exact ⟨rfl, hbl⟩
set_option maxHeartbeats 2000000 in
set_option maxRecDepth 20000 in
theorem eqf_Expr (r s : Rw (Xt)) (f : Xt → Xt → Bool) (w : World) (hR : RdR w w.heap.size 6 XC r) (hS : RdR w w.heap.size 6 XC s)
    (K : Hid (∀ (k : Nat) (y z : Xt), r.l[k]? = some y → s.l[k]? = some z → ∀ W, Below w.heap.size w W → Calls Tryz.prog 102 #[xV y, xV z] W (Bel (.bool (f y z)) W))) :
    Calls Tryz.prog 101 #[.slice r.A r.l.length r.c, .slice s.A s.l.length s.c, .func (.func 102) #[] #[]] w (Bel (.bool (all2 f r.l s.l)) w) := by
  have h9 := hR.len
  have h9s := hS.len
  unfold maxLen at h9 h9s
  have HR := Lib.hid hR
  have HS := Lib.hid hS
  clear hR hS
  cases q : (((r.l.length : Nat) : Int) != ((s.l.length : Nat) : Int))
  case true =>
    have hv : all2 f r.l s.l = false := all2_len (by intro h; simp [h] at q)
    rw [hv]
    clear hv K HR HS
    go_enter Tryz.func101, Tryz.ntmps101
    go_wp2
    go_ret
    exact ⟨rfl, (by repeat (first | (with_reducible exact Below.refl _ _) | (with_reducible assumption) | (with_reducible exact bel_box _) | (with_reducible refine bel_step ?_ (by with_reducible assumption)) | (with_reducible refine Below.drew ?_) | (with_reducible refine below_drewN ?_ _) | (with_reducible refine bel_alloc ?_ _)))⟩
  case false =>
    have hll : r.l.length = s.l.length := by
      have h : ((r.l.length : Nat) : Int) = ((s.l.length : Nat) : Int) := by simpa using q
      omega
    obtain ⟨F, hF0, hFl, HF⟩ := all2_steps f r.l s.l hll
    rw [← hF0]
    obtain ⟨V, hV⟩ : ∃ V, F 0 = V := ⟨_, rfl⟩
    have HV := Lib.hid hV
    have HL := Lib.hid hFl
    rw [hV]
    have HLL := Lib.hid hll
    clear hll hV hFl hF0
    simp only [xV] at K
    go_enter Tryz.func101, Tryz.ntmps101
    go_wp2
    go_loopw [17] (fun i wr => ∃ k : Nat, k ≤ r.l.length ∧ i = .int .i64 (k : Int) ∧ Below w.heap.size w wr ∧ Hid (F k = V)) (fun i _ => r.l.length - (intOf i).toNat)
    case atStart => exact ⟨0, by omega, rfl, Below.refl _ _, HV⟩
    case round =>
      obtain ⟨k, hk, rfl, hbl, hno⟩ := hrel
      by_cases hlt : k < r.l.length
      · have hlt2 : k < s.l.length := by have := HLL.out; omega
        obtain ⟨ad, y, hA1, _, hy, _, ⟨c0, c1, c2, c3, c4, c5⟩⟩ := (HR.out.blw oneB_X hbl hbl.size).at_ hlt
        obtain ⟨ad', z, hA2, _, hz, _, ⟨e0, e1, e2, e3, e4, e5⟩⟩ := (HS.out.blw oneB_X hbl hbl.size).at_ hlt2
        rw [hA1, hA2]
        clear hA1 hA2
        have hst := HF.out k y z hy hz
        have KS := Lib.hid (K.out k y z hy hz)
        clear hy hz HF
        generalize f y z = b at *
        have a0 := fun o => cell_al o e0
        have a1 := fun o => cell_al o e1
        have a2 := fun o => cell_al o e2
        have a3 := fun o => cell_al o e3
        have a4 := fun o => cell_al o e4
        have a5 := fun o => cell_al o e5
        cases b
        · have hv : V = false := by rw [← hno.out, hst]; rfl
          subst hv
          clear hst hno HV
          go_wp2_with (go_at_call 102; (with_reducible refine (KS.out _ ?_).mono ?_); (focus ((repeat (first | (with_reducible exact Below.refl _ _) | (with_reducible assumption) | (with_reducible exact bel_box _) | (with_reducible refine bel_step ?_ (by with_reducible assumption)) | (with_reducible refine Below.drew ?_) | (with_reducible refine below_drewN ?_ _) | (with_reducible refine bel_alloc ?_ _))); done)); rintro e w1 ⟨rfl, hb1⟩)
          go_ret
          exact ⟨rfl, (by repeat (first | (with_reducible exact Below.refl _ _) | (with_reducible assumption) | (with_reducible exact bel_box _) | (with_reducible refine bel_step ?_ (by with_reducible assumption)) | (with_reducible refine Below.drew ?_) | (with_reducible refine below_drewN ?_ _) | (with_reducible refine bel_alloc ?_ _)))⟩
        · have hn : Hid (F (k+1) = V) := Lib.hid (by rw [← hno.out, hst]; simp)
          clear hst hno
          go_wp2_with (go_at_call 102; (with_reducible refine (KS.out _ ?_).mono ?_); (focus ((repeat (first | (with_reducible exact Below.refl _ _) | (with_reducible assumption) | (with_reducible exact bel_box _) | (with_reducible refine bel_step ?_ (by with_reducible assumption)) | (with_reducible refine Below.drew ?_) | (with_reducible refine below_drewN ?_ _) | (with_reducible refine bel_alloc ?_ _))); done)); rintro e w1 ⟨rfl, hb1⟩)
          go_roundw
          case rel => exact ⟨k+1, by omega, by go_num, (by repeat (first | (with_reducible exact Below.refl _ _) | (with_reducible assumption) | (with_reducible exact bel_box _) | (with_reducible refine bel_step ?_ (by with_reducible assumption)) | (with_reducible refine Below.drew ?_) | (with_reducible refine below_drewN ?_ _) | (with_reducible refine bel_alloc ?_ _))), hn⟩
          case measure => simp [intOf]; omega
      · obtain rfl : k = r.l.length := by omega
        have hv : V = true := by rw [← hno.out]; exact HL.out
        subst hv
        clear hno HF HV HL
        go_wp2
        go_ret
        exact ⟨rfl, hbl⟩
set_option maxHeartbeats 2000000 in
set_option maxRecDepth 20000 in
theorem eqf_Enum (r s : Rw (va.En)) (f : va.En → va.En → Bool) (w : World) (hR : va.RdE w w.heap.size r.A r.l ∧ r.l.length ≤ maxLen) (hS : va.RdE w w.heap.size s.A s.l ∧ s.l.length ≤ maxLen)
    (K : Hid (∀ (k : Nat) (y z : va.En), r.l[k]? = some y → s.l[k]? = some z → ∀ W, Below w.heap.size w W → Calls Tryz.prog 59 #[eV y, eV z] W (Bel (.bool (f y z)) W))) :
    Calls Tryz.prog 58 #[.slice r.A r.l.length r.c, .slice s.A s.l.length s.c, .func (.func 59) #[] #[]] w (Bel (.bool (all2 f r.l s.l)) w) := by
  have h9 := hR.2
  have h9s := hS.2
  unfold maxLen at h9 h9s
  have HR := Lib.hid hR
  have HS := Lib.hid hS
  clear hR hS
  cases q : (((r.l.length : Nat) : Int) != ((s.l.length : Nat) : Int))
  case true =>
    have hv : all2 f r.l s.l = false := all2_len (by intro h; simp [h] at q)
    rw [hv]
    clear hv K HR HS
    go_enter Tryz.func58, Tryz.ntmps58
    go_wp2
    go_ret
    exact ⟨rfl, (by repeat (first | (with_reducible exact Below.refl _ _) | (with_reducible assumption) | (with_reducible exact bel_box _) | (with_reducible refine bel_step ?_ (by with_reducible assumption)) | (with_reducible refine Below.drew ?_) | (with_reducible refine below_drewN ?_ _) | (with_reducible refine bel_alloc ?_ _)))⟩
  case false =>
    have hll : r.l.length = s.l.length := by
      have h : ((r.l.length : Nat) : Int) = ((s.l.length : Nat) : Int) := by simpa using q
      omega
    obtain ⟨F, hF0, hFl, HF⟩ := all2_steps f r.l s.l hll
    rw [← hF0]
    obtain ⟨V, hV⟩ : ∃ V, F 0 = V := ⟨_, rfl⟩
    have HV := Lib.hid hV
    have HL := Lib.hid hFl
    rw [hV]
    have HLL := Lib.hid hll
    clear hll hV hFl hF0
    skip
    go_enter Tryz.func58, Tryz.ntmps58
    go_wp2
    go_loopw [17] (fun i wr => ∃ k : Nat, k ≤ r.l.length ∧ i = .int .i64 (k : Int) ∧ Below w.heap.size w wr ∧ Hid (F k = V)) (fun i _ => r.l.length - (intOf i).toNat)
    case atStart => exact ⟨0, by omega, rfl, Below.refl _ _, HV⟩
    case round =>
      obtain ⟨k, hk, rfl, hbl, hno⟩ := hrel
      by_cases hlt : k < r.l.length
      · have hlt2 : k < s.l.length := by have := HLL.out; omega
        obtain ⟨ad, y, hA1, _, hy, c0, c1, _⟩ := (HR.out.1.to hbl).at_ hlt
        obtain ⟨ad', z, hA2, _, hz, e0, e1, _⟩ := (HS.out.1.to hbl).at_ hlt2
        rw [hA1, hA2]
        clear hA1 hA2
        have hst := HF.out k y z hy hz
        have KS := Lib.hid (K.out k y z hy hz)
        clear hy hz HF
        generalize f y z = b at *
        have a0 := fun o => cell_al o e0
        have a1 := fun o => cell_al o e1
        cases b
        · have hv : V = false := by rw [← hno.out, hst]; rfl
          subst hv
          clear hst hno HV
          go_wp2_with (go_at_call 59; (with_reducible refine (KS.out _ ?_).mono ?_); (focus ((repeat (first | (with_reducible exact Below.refl _ _) | (with_reducible assumption) | (with_reducible exact bel_box _) | (with_reducible refine bel_step ?_ (by with_reducible assumption)) | (with_reducible refine Below.drew ?_) | (with_reducible refine below_drewN ?_ _) | (with_reducible refine bel_alloc ?_ _))); done)); rintro e w1 ⟨rfl, hb1⟩)
          go_ret
          exact ⟨rfl, (by repeat (first | (with_reducible exact Below.refl _ _) | (with_reducible assumption) | (with_reducible exact bel_box _) | (with_reducible refine bel_step ?_ (by with_reducible assumption)) | (with_reducible refine Below.drew ?_) | (with_reducible refine below_drewN ?_ _) | (with_reducible refine bel_alloc ?_ _)))⟩
        · have hn : Hid (F (k+1) = V) := Lib.hid (by rw [← hno.out, hst]; simp)
          clear hst hno
          go_wp2_with (go_at_call 59; (with_reducible refine (KS.out _ ?_).mono ?_); (focus ((repeat (first | (with_reducible exact Below.refl _ _) | (with_reducible assumption) | (with_reducible exact bel_box _) | (with_reducible refine bel_step ?_ (by with_reducible assumption)) | (with_reducible refine Below.drew ?_) | (with_reducible refine below_drewN ?_ _) | (with_reducible refine bel_alloc ?_ _))); done)); rintro e w1 ⟨rfl, hb1⟩)
          go_roundw
          case rel => exact ⟨k+1, by omega, by go_num, (by repeat (first | (with_reducible exact Below.refl _ _) | (with_reducible assumption) | (with_reducible exact bel_box _) | (with_reducible refine bel_step ?_ (by with_reducible assumption)) | (with_reducible refine Below.drew ?_) | (with_reducible refine below_drewN ?_ _) | (with_reducible refine bel_alloc ?_ _))), hn⟩
          case measure => simp [intOf]; omega
      · obtain rfl : k = r.l.length := by omega
        have hv : V = true := by rw [← hno.out]; exact HL.out
        subst hv
        clear hno HF HV HL
        go_wp2
        go_ret
        exact ⟨rfl, hbl⟩
end Go.Proofs.YthlapepjebidgaaGreatDoor
/- slices.EqualFunc of the program. -/
namespace Go.Proofs.YthlapepjebidgaaGreatDoor
set_option linter.unusedVariables false
set_option linter.unusedSimpArgs false
open Go.RowKit
def samO (a b : Ot) : Bool := a.nm.toList == b.nm.toList && (a.t == b.t && a.tag == b.tag)
set_option maxHeartbeats 2000000 in
set_option maxRecDepth 20000 in
theorem eq_On (r s : Rw Ot) (w : World) (hR : RdR w w.heap.size 3 OC r) (hS : RdR w w.heap.size 3 OC s) :
    Calls Tryz.prog 126 #[.slice r.A r.l.length r.c, .slice s.A s.l.length s.c] w (Bel (.bool (all2 samO r.l s.l)) w) := by
  have h9 := hR.len
  have h9s := hS.len
  unfold maxLen at h9 h9s
  have HR := Lib.hid hR
  have HS := Lib.hid hS
  clear hR hS
  cases q : (((r.l.length : Nat) : Int) != ((s.l.length : Nat) : Int))
  case true =>
    have hv : all2 samO r.l s.l = false := all2_len (by intro h; simp [h] at q)
    rw [hv]
    clear hv HR HS
    go_enter Tryz.func126, Tryz.ntmps126
    go_wp2
    go_ret
    exact ⟨rfl, (by repeat (first | (with_reducible exact Below.refl _ _) | (with_reducible assumption) | (with_reducible exact bel_box _) | (with_reducible refine bel_step ?_ (by with_reducible assumption)) | (with_reducible refine Below.drew ?_) | (with_reducible refine below_drewN ?_ _) | (with_reducible refine bel_alloc ?_ _)))⟩
  case false =>
    have hll : r.l.length = s.l.length := by
      have h : ((r.l.length : Nat) : Int) = ((s.l.length : Nat) : Int) := by simpa using q
      omega
    obtain ⟨F, hF0, hFl, HF⟩ := all2_steps samO r.l s.l hll
    rw [← hF0]
    obtain ⟨V, hV⟩ : ∃ V, F 0 = V := ⟨_, rfl⟩
    have HV := Lib.hid hV
    have HL := Lib.hid hFl
    rw [hV]
    have HLL := Lib.hid hll
    clear hll hV hFl hF0
    go_enter Tryz.func126, Tryz.ntmps126
    go_wp2
    go_loopw [13] (fun i wr => ∃ k : Nat, k ≤ r.l.length ∧ i = .int .i64 (k : Int) ∧ Below w.heap.size w wr ∧ Hid (F k = V)) (fun i _ => r.l.length - (intOf i).toNat)
    case atStart => exact ⟨0, by omega, rfl, Below.refl _ _, HV⟩
    case round =>
      obtain ⟨k, hk, rfl, hbl, hno⟩ := hrel
      by_cases hlt : k < r.l.length
      · have hlt2 : k < s.l.length := by have := HLL.out; omega
        obtain ⟨ad, y, hA1, _, hy, _, ⟨c0, c1, c2⟩⟩ := (HR.out.blw oneB_O hbl hbl.size).at_ hlt
        obtain ⟨ad', z, hA2, _, hz, _, ⟨e0, e1, e2⟩⟩ := (HS.out.blw oneB_O hbl hbl.size).at_ hlt2
        rw [hA1, hA2]
        clear hA1 hA2
        have hst := HF.out k y z hy hz
        clear hy hz HF
        have hf : samO y z = (y.nm.toList == z.nm.toList && (y.t == z.t && y.tag == z.tag)) := rfl
        rw [hf] at hst
        clear hf
        cases q1 : (y.nm.toList == z.nm.toList)
        · have hv : V = false := by rw [← hno.out, hst, q1]; rfl
          subst hv
          clear hst hno HV
          go_wp2
          go_quiet (fail)
          go_wp2
          go_ret
          exact ⟨rfl, (by repeat (first | (with_reducible exact Below.refl _ _) | (with_reducible assumption) | (with_reducible exact bel_box _) | (with_reducible refine bel_step ?_ (by with_reducible assumption)) | (with_reducible refine Below.drew ?_) | (with_reducible refine below_drewN ?_ _) | (with_reducible refine bel_alloc ?_ _)))⟩
        cases q2 : (y.t == z.t)
        · have hv : V = false := by rw [← hno.out, hst, q1, q2]; rfl
          subst hv
          clear hst hno HV
          go_wp2
          go_quiet (fail)
          go_wp2
          go_ret
          exact ⟨rfl, (by repeat (first | (with_reducible exact Below.refl _ _) | (with_reducible assumption) | (with_reducible exact bel_box _) | (with_reducible refine bel_step ?_ (by with_reducible assumption)) | (with_reducible refine Below.drew ?_) | (with_reducible refine below_drewN ?_ _) | (with_reducible refine bel_alloc ?_ _)))⟩
        cases q3 : (y.tag == z.tag)
        · have hv : V = false := by rw [← hno.out, hst, q1, q2, q3]; rfl
          subst hv
          clear hst hno HV
          go_wp2
          go_quiet (fail)
          go_wp2
          go_ret
          exact ⟨rfl, (by repeat (first | (with_reducible exact Below.refl _ _) | (with_reducible assumption) | (with_reducible exact bel_box _) | (with_reducible refine bel_step ?_ (by with_reducible assumption)) | (with_reducible refine Below.drew ?_) | (with_reducible refine below_drewN ?_ _) | (with_reducible refine bel_alloc ?_ _)))⟩
        · have hn : Hid (F (k+1) = V) := Lib.hid (by rw [← hno.out, hst, q1, q2, q3]; simp)
          clear hst hno
          go_wp2
          go_quiet (fail)
          go_wp2
          go_roundw
          case rel => exact ⟨k+1, by omega, by go_num, (by repeat (first | (with_reducible exact Below.refl _ _) | (with_reducible assumption) | (with_reducible exact bel_box _) | (with_reducible refine bel_step ?_ (by with_reducible assumption)) | (with_reducible refine Below.drew ?_) | (with_reducible refine below_drewN ?_ _) | (with_reducible refine bel_alloc ?_ _))), hn⟩
          case measure => simp [intOf]; omega
      · obtain rfl : k = r.l.length := by omega
        have hv : V = true := by rw [← hno.out]; exact HL.out
        subst hv
        clear hno HF HV HL
        go_wp2
        go_ret
        exact ⟨rfl, hbl⟩
end Go.Proofs.YthlapepjebidgaaGreatDoor
/- Same of the program, with slices.EqualFunc. -/
namespace Go.Proofs.YthlapepjebidgaaGreatDoor
set_option linter.unusedVariables false
set_option linter.unusedSimpArgs false
open Go.RowKit Go.Sort
set_option maxHeartbeats 2000000 in
set_option maxRecDepth 20000 in
theorem equalfunc_any (la lb : List Xt) (A B : Option Addr) (c d : Nat) (w : World) (hA : RdXs w w.heap.size A la) (hB : RdXs w w.heap.size B lb) (ha : la.length ≤ 2 ^ 63 - 1) (hb : lb.length ≤ 2 ^ 63 - 1)
    (hK : Hid (∀ (k : Nat) (y z : Xt), la[k]? = some y → lb[k]? = some z → ∀ W, Below w.heap.size w W → Calls Tryz.prog 102 #[xV y, xV z] W (Bel (.bool (sameX y z)) W))) (V : Bool) (HN : Hid (¬ la.map Xt.ct = lb.map Xt.ct → V = false)) (HY : Hid (la.map Xt.ct = lb.map Xt.ct → V = true)) :
    Calls Tryz.prog 101 #[.slice A la.length c, .slice B lb.length d, .func (.func 102) #[] #[]] w (Bel (.bool V) w) := by
  cases q : (((la.length : Nat) : Int) != ((lb.length : Nat) : Int))
  case true =>
    have hv : V = false := HN.out fun e => by
      have := congrArg List.length e
      simp at this
      simp [this] at q
    clear HN HY hK hA hB
    go_enter Tryz.func101, Tryz.ntmps101
    go_wp2
    go_ret
    exact ⟨by rw [hv]; rfl, (by repeat (first | (with_reducible exact Below.refl _ _) | (with_reducible assumption) | (with_reducible exact bel_box _) | (with_reducible refine bel_step ?_ (by with_reducible assumption)) | (with_reducible refine Below.drew ?_) | (with_reducible refine below_drewN ?_ _) | (with_reducible refine bel_alloc ?_ _)))⟩
  case false =>
    have hll : la.length = lb.length := by
      have h : ((la.length : Nat) : Int) = ((lb.length : Nat) : Int) := by simpa using q
      omega
    have HLL := Lib.hid hll
    clear hll
    simp only [xV] at hK
    go_enter Tryz.func101, Tryz.ntmps101
    go_wp2
    go_loopw [17] (fun i wr => ∃ k : Nat, k ≤ la.length ∧ i = .int .i64 (k : Int) ∧ Below w.heap.size w wr ∧ Hid ((la.take k).map Xt.ct = (lb.take k).map Xt.ct)) (fun i _ => la.length - (intOf i).toNat)
    case atStart => exact ⟨0, by omega, rfl, Below.refl _ _, Lib.hid rfl⟩
    case round =>
      obtain ⟨k, hk, rfl, hbl, hno⟩ := hrel
      by_cases hlt : k < la.length
      · have hlt2 : k < lb.length := by have := HLL.out; omega
        obtain ⟨ad, y, rfl, had, hy, _, ⟨c0, c1, c2, c3, c4, c5⟩⟩ := (hA.to hbl).at_ hlt
        obtain ⟨ad', z, rfl, had', hz, _, ⟨e0, e1, e2, e3, e4, e5⟩⟩ := (hB.to hbl).at_ hlt2
        have H1 := fun h => ct_take hy hz hno.out h
        have H2 := fun h => ct_differ hy hz h
        have KS := hK.out k y z hy hz
        generalize sameX y z = r at H1 H2 KS
        have KS2 := Lib.hid KS
        clear KS hy hz hno hA hB
        have e0' := fun o => cell_al o e0
        have e1' := fun o => cell_al o e1
        have e2' := fun o => cell_al o e2
        have e3' := fun o => cell_al o e3
        have e4' := fun o => cell_al o e4
        have e5' := fun o => cell_al o e5
        cases r
        · have H := Lib.hid (HN.out (H2 rfl))
          clear H1 H2 HN HY
          go_wp2_with (go_at_call 102; (with_reducible refine (KS2.out _ ?_).mono ?_); (focus ((repeat (first | (with_reducible exact Below.refl _ _) | (with_reducible assumption) | (with_reducible exact bel_box _) | (with_reducible refine bel_step ?_ (by with_reducible assumption)) | (with_reducible refine Below.drew ?_) | (with_reducible refine below_drewN ?_ _) | (with_reducible refine bel_alloc ?_ _))); done)); rintro e w1 ⟨rfl, hb1⟩)
          go_ret
          exact ⟨by rw [H.out]; rfl, (by repeat (first | (with_reducible exact Below.refl _ _) | (with_reducible assumption) | (with_reducible exact bel_box _) | (with_reducible refine bel_step ?_ (by with_reducible assumption)) | (with_reducible refine Below.drew ?_) | (with_reducible refine below_drewN ?_ _) | (with_reducible refine bel_alloc ?_ _)))⟩
        · have H := Lib.hid (H1 rfl)
          clear H1 H2 HN HY
          go_wp2_with (go_at_call 102; (with_reducible refine (KS2.out _ ?_).mono ?_); (focus ((repeat (first | (with_reducible exact Below.refl _ _) | (with_reducible assumption) | (with_reducible exact bel_box _) | (with_reducible refine bel_step ?_ (by with_reducible assumption)) | (with_reducible refine Below.drew ?_) | (with_reducible refine below_drewN ?_ _) | (with_reducible refine bel_alloc ?_ _))); done)); rintro e w1 ⟨rfl, hb1⟩)
          go_roundw
          case rel => exact ⟨k+1, by omega, by go_num, (by repeat (first | (with_reducible exact Below.refl _ _) | (with_reducible assumption) | (with_reducible exact bel_box _) | (with_reducible refine bel_step ?_ (by with_reducible assumption)) | (with_reducible refine Below.drew ?_) | (with_reducible refine below_drewN ?_ _) | (with_reducible refine bel_alloc ?_ _))), H⟩
          case measure => simp [intOf]; omega
      · obtain rfl : k = la.length := by omega
        have h1 := hno.out
        rw [List.take_length, HLL.out, List.take_length] at h1
        have h2 := HY.out h1
        clear h1 hno HN HY
        go_wp2
        go_ret
        exact ⟨by rw [h2]; rfl, hbl⟩
end Go.Proofs.YthlapepjebidgaaGreatDoor
/- Same of the program. -/
namespace Go.Proofs.YthlapepjebidgaaGreatDoor
set_option linter.unusedVariables false
set_option linter.unusedSimpArgs false
open Go.RowKit Go.Sort
theorem kids_read {w : World} {x : Xt} (h : RdX w w.heap.size x) : RdXs w w.heap.size x.A x.ar := by
  cases h with
  | mk x h0 h1 h2 h3 =>
    intro hn
    obtain ⟨ad, e, hb⟩ := h0 hn
    exact ⟨ad, e, hb, fun i y hy => h1 ad i y e hy⟩
set_option maxHeartbeats 2000000 in
set_option maxRecDepth 20000 in
theorem sameX_all (a : Xt) : ∀ (b : Xt) w, RdX w w.heap.size a → RdX w w.heap.size b → Calls Tryz.prog 102 #[xV a, xV b] w (Bel (.bool (sameX a b)) w) := by
  induction a using Xt.ind with
  | h a ih =>
    intro b w hA hB
    have h9 := hA.len.1
    have h9b := hB.len.1
    unfold maxLen at h9 h9b
    have KE : ∀ V, Hid (¬ a.ar.map Xt.ct = b.ar.map Xt.ct → V = false) → Hid (a.ar.map Xt.ct = b.ar.map Xt.ct → V = true) → Hid (∀ W, Below w.heap.size w W → Calls Tryz.prog 101 #[.slice a.A a.ar.length a.c, .slice b.A b.ar.length b.c, .func (.func 102) #[] #[]] W (Bel (.bool V) W)) := fun V hN hY => Lib.hid fun W h =>
      equalfunc_any a.ar b.ar a.A b.A a.c b.c W (kids_read (hA.to h)) (kids_read (hB.to h)) h9 h9b (Lib.hid fun k y z hy hz W' h' => ih y (List.mem_of_getElem? hy) z W' (((hA.to h).kid (List.mem_of_getElem? hy)).to h') (((hB.to h).kid (List.mem_of_getElem? hz)).to h')) V hN hY
    clear ih hA hB h9 h9b
    simp only [xV]
    obtain ⟨b0, b1, b2, b3, b4, b5, b6⟩ := bxW_cells (w := w) (x := a) (W := bxW (bxW w a) b) (bel_box _)
    obtain ⟨d0, d1, d2, d3, d4, d5, d6⟩ := bxW_cells (w := bxW w a) (x := b) (W := bxW (bxW w a) b) (Below.refl _ _)
    rw [bxW_size] at d0 d1 d2 d3 d4 d5 d6
    have hBW : Below w.heap.size w (bxW (bxW w a) b) := bel_alloc (bel_box _) _
    obtain ⟨V, hV⟩ : ∃ V, sameX a b = V := ⟨_, rfl⟩
    have HN : Hid (¬ a.ct = b.ct → V = false) := Lib.hid fun h => hV ▸ sameX_no h
    have HY : Hid (a.ct = b.ct → V = true) := Lib.hid fun h => hV ▸ sameX_yes h
    rw [hV]
    clear hV
    cases q1 : (a.k == b.k)
    case false =>
      have hv : V = false := HN.out fun e => by
        obtain ⟨g1, g2, g3, g4, g5, g6, g7⟩ := ct_parts e
        simp [g1] at q1
      clear HN HY KE
      go_enter Tryz.func102, Tryz.ntmps102
      go_wp2
      go_ret
      exact ⟨by rw [hv]; rfl, (by repeat (first | (with_reducible exact Below.refl _ _) | (with_reducible assumption) | (with_reducible exact bel_box _) | (with_reducible refine bel_step ?_ (by with_reducible assumption)) | (with_reducible refine Below.drew ?_) | (with_reducible refine below_drewN ?_ _) | (with_reducible refine bel_alloc ?_ _)))⟩
    cases q2 : (a.op == b.op)
    case false =>
      have hv : V = false := HN.out fun e => by
        obtain ⟨g1, g2, g3, g4, g5, g6, g7⟩ := ct_parts e
        simp [g2] at q2
      clear HN HY KE
      go_enter Tryz.func102, Tryz.ntmps102
      go_wp2
      go_ret
      exact ⟨by rw [hv]; rfl, (by repeat (first | (with_reducible exact Below.refl _ _) | (with_reducible assumption) | (with_reducible exact bel_box _) | (with_reducible refine bel_step ?_ (by with_reducible assumption)) | (with_reducible refine Below.drew ?_) | (with_reducible refine below_drewN ?_ _) | (with_reducible refine bel_alloc ?_ _)))⟩
    cases q3 : (a.t == b.t)
    case false =>
      have hv : V = false := HN.out fun e => by
        obtain ⟨g1, g2, g3, g4, g5, g6, g7⟩ := ct_parts e
        simp [g3] at q3
      clear HN HY KE
      go_enter Tryz.func102, Tryz.ntmps102
      go_wp2
      go_ret
      exact ⟨by rw [hv]; rfl, (by repeat (first | (with_reducible exact Below.refl _ _) | (with_reducible assumption) | (with_reducible exact bel_box _) | (with_reducible refine bel_step ?_ (by with_reducible assumption)) | (with_reducible refine Below.drew ?_) | (with_reducible refine below_drewN ?_ _) | (with_reducible refine bel_alloc ?_ _)))⟩
    cases q4 : (a.v == b.v)
    case false =>
      have hv : V = false := HN.out fun e => by
        obtain ⟨g1, g2, g3, g4, g5, g6, g7⟩ := ct_parts e
        simp [g4] at q4
      clear HN HY KE
      go_enter Tryz.func102, Tryz.ntmps102
      go_wp2
      go_ret
      exact ⟨by rw [hv]; rfl, (by repeat (first | (with_reducible exact Below.refl _ _) | (with_reducible assumption) | (with_reducible exact bel_box _) | (with_reducible refine bel_step ?_ (by with_reducible assumption)) | (with_reducible refine Below.drew ?_) | (with_reducible refine below_drewN ?_ _) | (with_reducible refine bel_alloc ?_ _)))⟩
    cases q5 : (a.nm.toList == b.nm.toList)
    case false =>
      have hv : V = false := HN.out fun e => by
        obtain ⟨g1, g2, g3, g4, g5, g6, g7⟩ := ct_parts e
        simp [g5] at q5
      clear HN HY KE
      go_enter Tryz.func102, Tryz.ntmps102
      go_wp2
      go_ret
      exact ⟨by rw [hv]; rfl, (by repeat (first | (with_reducible exact Below.refl _ _) | (with_reducible assumption) | (with_reducible exact bel_box _) | (with_reducible refine bel_step ?_ (by with_reducible assumption)) | (with_reducible refine Below.drew ?_) | (with_reducible refine below_drewN ?_ _) | (with_reducible refine bel_alloc ?_ _)))⟩
    have p1 : a.k = b.k := by simpa using q1
    have p2 : a.op = b.op := by simpa using q2
    have p3 : a.t = b.t := by simpa using q3
    have p4 : a.v = b.v := by simpa using q4
    have p5 : a.nm.toList = b.nm.toList := by simpa using q5
    have KE2 := KE V (Lib.hid fun h => HN.out fun e => h (ct_parts e).2.2.2.2.2.1) (Lib.hid fun h => HY.out (ct_of p1 p2 p3 p4 p5 h))
    clear p1 p2 p3 p4 p5 HN HY KE
    have HBW := Lib.hid hBW
    clear hBW
    go_enter Tryz.func102, Tryz.ntmps102
    go_wp2_with (go_at_call 101; (with_reducible refine (KE2.out _ ?_).mono ?_); (focus (exact HBW.out; done)); rintro e w1 ⟨rfl, hb1⟩)
    go_ret
    exact ⟨rfl, HBW.out.trans (Below.mono hb1 HBW.out.size)⟩
theorem sameX_any {B : Nat} (a b : Xt) (w : World) (hA : RdX w w.heap.size a) (hB : RdX w w.heap.size b) (_ : a.size ≤ B) : Calls Tryz.prog 102 #[xV a, xV b] w (Bel (.bool (sameX a b)) w) := sameX_all a b w hA hB
end Go.Proofs.YthlapepjebidgaaGreatDoor
/- sameDecl, sameEnum, sameTrans, sameAuto of the program; slices.Equal at texts. -/
namespace Go.Proofs.YthlapepjebidgaaGreatDoor
set_option linter.unusedVariables false
set_option linter.unusedSimpArgs false
open Go.RowKit
variable {Bd : Nat}
theorem all2_iff {α : Type} {f : α → α → Bool} {l m : List α} : all2 f l m = true ↔ l.length = m.length ∧ ∀ (i : Nat) (y z : α), l[i]? = some y → m[i]? = some z → f y z = true := by
  induction l generalizing m with
  | nil => cases m <;> simp [all2]
  | cons a l ih => cases m with
    | nil => simp [all2]
    | cons b m =>
      rw [all2, Bool.and_eq_true, ih]
      constructor
      · rintro ⟨h1, h2, h3⟩
        refine ⟨by simp [h2], fun i y z hy hz => ?_⟩
        cases i with
        | zero => simp at hy hz; subst hy; subst hz; exact h1
        | succ i => exact h3 i y z (by simpa using hy) (by simpa using hz)
      · rintro ⟨h1, h2⟩
        exact ⟨h2 0 a b rfl rfl, by simpa using h1, fun i y z hy hz => h2 (i+1) y z (by simpa using hy) (by simpa using hz)⟩
def samB (a b : ByteArray) : Bool := a.toList == b.toList
theorem samB_iff {a b : ByteArray} : samB a b = true ↔ a = b := by
  unfold samB
  rw [beq_iff_eq, Lib.toList_data, Lib.toList_data]
  exact ⟨fun h => ByteArray.ext (Array.toList_inj.mp h), fun h => by rw [h]⟩
theorem samB_all {l m : List ByteArray} : all2 samB l m = decide (l = m) := by
  rw [Bool.eq_iff_iff, all2_iff, decide_eq_true_iff]
  constructor
  · rintro ⟨h1, h2⟩
    apply List.ext_getElem h1
    intro i hi hj
    exact samB_iff.1 (h2 i _ _ (List.getElem?_eq_getElem hi) (List.getElem?_eq_getElem hj))
  · rintro rfl
    exact ⟨rfl, fun i y z hy hz => samB_iff.2 (Option.some.inj (hy.symm.trans hz))⟩
def samE (a b : va.En) : Bool := a.name.toList == b.name.toList && all2 samB a.tags b.tags
def samD (a b : Dt) : Bool := a.nm.toList == b.nm.toList && (a.ty == b.ty && all2 samO a.ck.l b.ck.l)
noncomputable def samQ (a b : Qt) : Bool := all2 samB a.lf.l b.lf.l && sameX a.r b.r
noncomputable def samT (a b : Tt) : Bool := a.to == b.to && (a.re == b.re && sameX a.cd b.cd)
theorem below_drewN' (w : World) (q : Nat) : Below w.heap.size w (w.drewN q) := below_drewN (Below.refl _ _) q
set_option maxHeartbeats 1000000 in
theorem eq_texts (r s : Rw ByteArray) (w : World) (hR : RdR w w.heap.size 1 BC r) (hS : RdR w w.heap.size 1 BC s) :
    Calls Tryz.prog 94 #[.slice r.A r.l.length r.c, .slice s.A s.l.length s.c] w (Bel (.bool (all2 samB r.l s.l)) w) := by
  have h9 := hR.len
  have h9s := hS.len
  unfold maxLen at h9 h9s
  by_cases hl : r.l.length = s.l.length
  · by_cases h0 : r.l.length = 0
    · have e1 : r.l = [] := List.length_eq_zero_iff.1 h0
      have e2 : s.l = [] := List.length_eq_zero_iff.1 (by omega)
      have k := Tryz.slices_Equal_string_empty r.A s.A r.c 0 s.c w (by omega)
      rw [e1, e2]
      exact k.mono fun e w' h => ⟨h.1, by rw [h.2]; exact Below.refl _ _⟩
    · obtain ⟨ad, hA, _⟩ := hR.1 (by intro e; rw [e] at h0; exact h0 rfl)
      obtain ⟨ad', hA', _⟩ := hS.1 (by intro e; rw [e] at hl; exact h0 hl)
      have hc := hR.2.1 ad
      have hc' := hS.2.1 ad'
      have hx : ∀ (l : List ByteArray) (a : Addr), (∀ (i : Nat) (y : ByteArray), l[i]? = some y → BC w (a.add (i * 1)) y) → 0 < l.length → a.spot = none ∧ ∀ j, j < l.length → w.cell? ⟨a.block, a.off + j, none⟩ = some (.string (l.getD j ByteArray.empty)) := by
        intro l a h hl0
        have key : ∀ j, j < l.length → w.cell? (a.add j) = some (.string (l.getD j ByteArray.empty)) := fun j hj => by
          have := h j _ (List.getElem?_eq_getElem hj)
          unfold BC at this
          rw [Nat.mul_one] at this
          rw [this, List.getD, List.getElem?_eq_getElem hj]
          rfl
        have k0 := key 0 hl0
        have hs := va.spot_of k0
        rw [add_zero'] at hs
        refine ⟨hs, fun j hj => ?_⟩
        rw [← key j hj]
        unfold Addr.add
        split
        · rename_i h0
          subst h0
          obtain ⟨b, o, sp⟩ := a
          simp only at hs
          subst hs
          rfl
        · rfl
      obtain ⟨s1, k1⟩ := hx r.l ad (fun i y hy => hc i y hA hy) (by omega)
      obtain ⟨s2, k2⟩ := hx s.l ad' (fun i y hy => hc' i y hA' hy) (by omega)
      obtain ⟨b1, o1, sp1⟩ := ad
      obtain ⟨b2, o2, sp2⟩ := ad'
      simp only at s1 s2
      subst s1
      subst s2
      have k := Tryz.slices_Equal_string b1 o1 r.l.length r.c b2 o2 s.l.length s.c r.l s.l w (Nat.le_refl _) (Nat.le_refl _) (by omega) (by omega) k1 k2
      rw [List.take_length, List.take_length] at k
      rw [hA, hA', samB_all]
      exact k.mono fun e w' h => ⟨h.1, by obtain ⟨q, rfl⟩ := h.2; exact below_drewN' w q⟩
  · have k := Tryz.slices_Equal_string_lens r.A s.A r.l.length r.c s.l.length s.c w hl
    rw [all2_len hl]
    exact k.mono fun e w' h => ⟨h.1, by rw [h.2]; exact Below.refl _ _⟩
set_option maxHeartbeats 1000000 in
set_option maxRecDepth 20000 in
theorem sh_sameDecl (a b : Dt) (w : World) (hA : RsD w w.heap.size a) (hB : RsD w w.heap.size b) :
    Calls Tryz.prog 96 #[dV a, dV b] w (Bel (.bool (samD a b)) w) := by
  have K := Lib.hid (fun W (h : Below w.heap.size w W) => eq_On a.ck b.ck W (hA.2.blw h h.size).1 (hB.2.blw h h.size).1)
  unfold samD
  generalize all2 samO a.ck.l b.ck.l = v at *
  clear hA hB
  cases q1 : (a.nm.toList == b.nm.toList)
  · clear K
    go_enter Tryz.func96, Tryz.ntmps96
    go_wp2
    go_ret
    exact ⟨rfl, (by repeat (first | (with_reducible exact Below.refl _ _) | (with_reducible assumption) | (with_reducible exact bel_box _) | (with_reducible refine bel_step ?_ (by with_reducible assumption)) | (with_reducible refine Below.drew ?_) | (with_reducible refine below_drewN ?_ _) | (with_reducible refine bel_alloc ?_ _)))⟩
  cases q2 : (a.ty == b.ty)
  · clear K
    go_enter Tryz.func96, Tryz.ntmps96
    go_wp2
    go_ret
    exact ⟨rfl, (by repeat (first | (with_reducible exact Below.refl _ _) | (with_reducible assumption) | (with_reducible exact bel_box _) | (with_reducible refine bel_step ?_ (by with_reducible assumption)) | (with_reducible refine Below.drew ?_) | (with_reducible refine below_drewN ?_ _) | (with_reducible refine bel_alloc ?_ _)))⟩
  go_enter Tryz.func96, Tryz.ntmps96
  go_wp2_with (go_at_call 126; (with_reducible refine (K.out _ ?_).mono ?_); (focus ((repeat (first | (with_reducible exact Below.refl _ _) | (with_reducible assumption) | (with_reducible exact bel_box _) | (with_reducible refine bel_step ?_ (by with_reducible assumption)) | (with_reducible refine Below.drew ?_) | (with_reducible refine below_drewN ?_ _) | (with_reducible refine bel_alloc ?_ _))); done)); rintro e w1 ⟨rfl, hb1⟩)
  go_ret
  exact ⟨rfl, (by repeat (first | (with_reducible exact Below.refl _ _) | (with_reducible assumption) | (with_reducible exact bel_box _) | (with_reducible refine bel_step ?_ (by with_reducible assumption)) | (with_reducible refine Below.drew ?_) | (with_reducible refine below_drewN ?_ _) | (with_reducible refine bel_alloc ?_ _)))⟩
set_option maxHeartbeats 1000000 in
set_option maxRecDepth 20000 in
theorem sh_sameEnum (a b : va.En) (w : World) (hA : RdR w w.heap.size 1 BC ⟨a.A, a.c, a.tags⟩) (hB : RdR w w.heap.size 1 BC ⟨b.A, b.c, b.tags⟩) :
    Calls Tryz.prog 59 #[eV a, eV b] w (Bel (.bool (samE a b)) w) := by
  have K : Hid (∀ W, Below w.heap.size w W → Calls Tryz.prog 94 #[.slice a.A a.tags.length a.c, .slice b.A b.tags.length b.c] W (Bel (.bool (all2 samB a.tags b.tags)) W)) := Lib.hid fun W h => eq_texts ⟨a.A, a.c, a.tags⟩ ⟨b.A, b.c, b.tags⟩ W (hA.blw oneB_B h h.size) (hB.blw oneB_B h h.size)
  unfold samE
  generalize all2 samB a.tags b.tags = v at *
  clear hA hB
  cases q1 : (a.name.toList == b.name.toList)
  · clear K
    go_enter Tryz.func59, Tryz.ntmps59
    go_wp2
    go_ret
    exact ⟨rfl, (by repeat (first | (with_reducible exact Below.refl _ _) | (with_reducible assumption) | (with_reducible exact bel_box _) | (with_reducible refine bel_step ?_ (by with_reducible assumption)) | (with_reducible refine Below.drew ?_) | (with_reducible refine below_drewN ?_ _) | (with_reducible refine bel_alloc ?_ _)))⟩
  go_enter Tryz.func59, Tryz.ntmps59
  go_wp2_with (go_at_call 94; (with_reducible refine (K.out _ ?_).mono ?_); (focus ((repeat (first | (with_reducible exact Below.refl _ _) | (with_reducible assumption) | (with_reducible exact bel_box _) | (with_reducible refine bel_step ?_ (by with_reducible assumption)) | (with_reducible refine Below.drew ?_) | (with_reducible refine below_drewN ?_ _) | (with_reducible refine bel_alloc ?_ _))); done)); rintro e w1 ⟨rfl, hb1⟩)
  go_ret
  exact ⟨rfl, (by repeat (first | (with_reducible exact Below.refl _ _) | (with_reducible assumption) | (with_reducible exact bel_box _) | (with_reducible refine bel_step ?_ (by with_reducible assumption)) | (with_reducible refine Below.drew ?_) | (with_reducible refine below_drewN ?_ _) | (with_reducible refine bel_alloc ?_ _)))⟩
set_option maxHeartbeats 1000000 in
set_option maxRecDepth 20000 in
theorem sh_sameTrans (a b : Tt) (w : World) (hA : RdX w w.heap.size a.cd) (hB : RdX w w.heap.size b.cd) (hs : a.cd.size ≤ Bd) :
    Calls Tryz.prog 158 #[tV a, tV b] w (Bel (.bool (samT a b)) w) := by
  have K := Lib.hid (fun W (h : Below w.heap.size w W) => sameX_any a.cd b.cd W (hA.to h) (hB.to h) hs)
  unfold samT
  generalize sameX a.cd b.cd = v at *
  simp only [xV] at K
  clear hA hB
  cases q1 : (a.to == b.to)
  · clear K
    go_enter Tryz.func158, Tryz.ntmps158
    go_wp2
    go_ret
    exact ⟨rfl, (by repeat (first | (with_reducible exact Below.refl _ _) | (with_reducible assumption) | (with_reducible exact bel_box _) | (with_reducible refine bel_step ?_ (by with_reducible assumption)) | (with_reducible refine Below.drew ?_) | (with_reducible refine below_drewN ?_ _) | (with_reducible refine bel_alloc ?_ _)))⟩
  cases q2 : (a.re == b.re)
  · clear K
    go_enter Tryz.func158, Tryz.ntmps158
    go_wp2
    go_ret
    exact ⟨rfl, (by repeat (first | (with_reducible exact Below.refl _ _) | (with_reducible assumption) | (with_reducible exact bel_box _) | (with_reducible refine bel_step ?_ (by with_reducible assumption)) | (with_reducible refine Below.drew ?_) | (with_reducible refine below_drewN ?_ _) | (with_reducible refine bel_alloc ?_ _)))⟩
  go_enter Tryz.func158, Tryz.ntmps158
  go_wp2_with (go_at_call 102; (with_reducible refine (K.out _ ?_).mono ?_); (focus ((repeat (first | (with_reducible exact Below.refl _ _) | (with_reducible assumption) | (with_reducible exact bel_box _) | (with_reducible refine bel_step ?_ (by with_reducible assumption)) | (with_reducible refine Below.drew ?_) | (with_reducible refine below_drewN ?_ _) | (with_reducible refine bel_alloc ?_ _))); done)); rintro e w1 ⟨rfl, hb1⟩)
  go_ret
  exact ⟨rfl, (by repeat (first | (with_reducible exact Below.refl _ _) | (with_reducible assumption) | (with_reducible exact bel_box _) | (with_reducible refine bel_step ?_ (by with_reducible assumption)) | (with_reducible refine Below.drew ?_) | (with_reducible refine below_drewN ?_ _) | (with_reducible refine bel_alloc ?_ _)))⟩
end Go.Proofs.YthlapepjebidgaaGreatDoor
/- sameEq, sameState, sameAuto of the program. -/
namespace Go.Proofs.YthlapepjebidgaaGreatDoor
set_option linter.unusedVariables false
set_option linter.unusedSimpArgs false
open Go.RowKit
variable {Bd : Nat}
theorem BPQ {w W : World} (a b : Qt) (h : Below ((w.alloc (.cells #[.slice a.lf.A a.lf.l.length a.lf.c, .int .i64 a.r.k, .int .i64 a.r.op, .int .i64 a.r.t, .int .i64 a.r.v, .string a.r.nm, .slice a.r.A a.r.ar.length a.r.c] 59)).alloc (.cells #[.slice b.lf.A b.lf.l.length b.lf.c, .int .i64 b.r.k, .int .i64 b.r.op, .int .i64 b.r.t, .int .i64 b.r.v, .string b.r.nm, .slice b.r.A b.r.ar.length b.r.c] 59)).heap.size ((w.alloc (.cells #[.slice a.lf.A a.lf.l.length a.lf.c, .int .i64 a.r.k, .int .i64 a.r.op, .int .i64 a.r.t, .int .i64 a.r.v, .string a.r.nm, .slice a.r.A a.r.ar.length a.r.c] 59)).alloc (.cells #[.slice b.lf.A b.lf.l.length b.lf.c, .int .i64 b.r.k, .int .i64 b.r.op, .int .i64 b.r.t, .int .i64 b.r.v, .string b.r.nm, .slice b.r.A b.r.ar.length b.r.c] 59)) W) :
    W.cell? ⟨w.heap.size, 0, none⟩ = some (.slice a.lf.A a.lf.l.length a.lf.c) ∧ W.cell? ⟨w.heap.size, 1, none⟩ = some (.int .i64 a.r.k) ∧ W.cell? ⟨w.heap.size, 2, none⟩ = some (.int .i64 a.r.op) ∧ W.cell? ⟨w.heap.size, 3, none⟩ = some (.int .i64 a.r.t) ∧ W.cell? ⟨w.heap.size, 4, none⟩ = some (.int .i64 a.r.v) ∧ W.cell? ⟨w.heap.size, 5, none⟩ = some (.string a.r.nm) ∧ W.cell? ⟨w.heap.size, 6, none⟩ = some (.slice a.r.A a.r.ar.length a.r.c) ∧ W.cell? ⟨w.heap.size+1, 0, none⟩ = some (.slice b.lf.A b.lf.l.length b.lf.c) ∧ W.cell? ⟨w.heap.size+1, 1, none⟩ = some (.int .i64 b.r.k) ∧ W.cell? ⟨w.heap.size+1, 2, none⟩ = some (.int .i64 b.r.op) ∧ W.cell? ⟨w.heap.size+1, 3, none⟩ = some (.int .i64 b.r.t) ∧ W.cell? ⟨w.heap.size+1, 4, none⟩ = some (.int .i64 b.r.v) ∧ W.cell? ⟨w.heap.size+1, 5, none⟩ = some (.string b.r.nm) ∧ W.cell? ⟨w.heap.size+1, 6, none⟩ = some (.slice b.r.A b.r.ar.length b.r.c) := by
  have hc : ∀ q : Addr, q.block < w.heap.size + 2 → W.cell? q = _ := fun q hq => h.cell (by rw [World.size_alloc, World.size_alloc]; exact hq)
  refine ⟨?_, ?_, ?_, ?_, ?_, ?_, ?_, ?_, ?_, ?_, ?_, ?_, ?_, ?_⟩
  all_goals (rw [hc _ (by simp)]; simp [go_sem])
theorem BPA {w W : World} (a b : Rw St) (h : Below ((w.alloc (.cells #[.slice a.A a.l.length a.c] 101)).alloc (.cells #[.slice b.A b.l.length b.c] 101)).heap.size ((w.alloc (.cells #[.slice a.A a.l.length a.c] 101)).alloc (.cells #[.slice b.A b.l.length b.c] 101)) W) :
    W.cell? ⟨w.heap.size, 0, none⟩ = some (.slice a.A a.l.length a.c) ∧ W.cell? ⟨w.heap.size+1, 0, none⟩ = some (.slice b.A b.l.length b.c) := by
  have hc : ∀ q : Addr, q.block < w.heap.size + 2 → W.cell? q = _ := fun q hq => h.cell (by rw [World.size_alloc, World.size_alloc]; exact hq)
  refine ⟨?_, ?_⟩
  all_goals (rw [hc _ (by simp)]; simp [go_sem])
theorem BPS {w W : World} (a b : St) (h : Below ((w.alloc (.cells #[.string a.nm, .slice a.lc.A a.lc.l.length a.lc.c, .slice a.qs.A a.qs.l.length a.qs.c, .slice a.au.A a.au.l.length a.au.c, .slice a.un.A a.un.l.length a.un.c, .slice a.ut.A a.ut.l.length a.ut.c] 95)).alloc (.cells #[.string b.nm, .slice b.lc.A b.lc.l.length b.lc.c, .slice b.qs.A b.qs.l.length b.qs.c, .slice b.au.A b.au.l.length b.au.c, .slice b.un.A b.un.l.length b.un.c, .slice b.ut.A b.ut.l.length b.ut.c] 95)).heap.size ((w.alloc (.cells #[.string a.nm, .slice a.lc.A a.lc.l.length a.lc.c, .slice a.qs.A a.qs.l.length a.qs.c, .slice a.au.A a.au.l.length a.au.c, .slice a.un.A a.un.l.length a.un.c, .slice a.ut.A a.ut.l.length a.ut.c] 95)).alloc (.cells #[.string b.nm, .slice b.lc.A b.lc.l.length b.lc.c, .slice b.qs.A b.qs.l.length b.qs.c, .slice b.au.A b.au.l.length b.au.c, .slice b.un.A b.un.l.length b.un.c, .slice b.ut.A b.ut.l.length b.ut.c] 95)) W) :
    W.cell? ⟨w.heap.size, 0, none⟩ = some (.string a.nm) ∧ W.cell? ⟨w.heap.size, 1, none⟩ = some (.slice a.lc.A a.lc.l.length a.lc.c) ∧ W.cell? ⟨w.heap.size, 2, none⟩ = some (.slice a.qs.A a.qs.l.length a.qs.c) ∧ W.cell? ⟨w.heap.size, 3, none⟩ = some (.slice a.au.A a.au.l.length a.au.c) ∧ W.cell? ⟨w.heap.size, 4, none⟩ = some (.slice a.un.A a.un.l.length a.un.c) ∧ W.cell? ⟨w.heap.size, 5, none⟩ = some (.slice a.ut.A a.ut.l.length a.ut.c) ∧ W.cell? ⟨w.heap.size+1, 0, none⟩ = some (.string b.nm) ∧ W.cell? ⟨w.heap.size+1, 1, none⟩ = some (.slice b.lc.A b.lc.l.length b.lc.c) ∧ W.cell? ⟨w.heap.size+1, 2, none⟩ = some (.slice b.qs.A b.qs.l.length b.qs.c) ∧ W.cell? ⟨w.heap.size+1, 3, none⟩ = some (.slice b.au.A b.au.l.length b.au.c) ∧ W.cell? ⟨w.heap.size+1, 4, none⟩ = some (.slice b.un.A b.un.l.length b.un.c) ∧ W.cell? ⟨w.heap.size+1, 5, none⟩ = some (.slice b.ut.A b.ut.l.length b.ut.c) := by
  have hc : ∀ q : Addr, q.block < w.heap.size + 2 → W.cell? q = _ := fun q hq => h.cell (by rw [World.size_alloc, World.size_alloc]; exact hq)
  refine ⟨?_, ?_, ?_, ?_, ?_, ?_, ?_, ?_, ?_, ?_, ?_, ?_⟩
  all_goals (rw [hc _ (by simp)]; simp [go_sem])
set_option maxHeartbeats 4000000 in
set_option maxRecDepth 20000 in
theorem sh_sameEq (a b : Qt) (w : World) (hA : RsQ w w.heap.size a) (hB : RsQ w w.heap.size b) (hs : a.r.size ≤ Bd) :
    Calls Tryz.prog 98 #[qV a, qV b] w (Bel (.bool (samQ a b)) w) := by
  have K1 := Lib.hid (fun W (h : Below w.heap.size w W) => eq_texts a.lf b.lf W (hA.1.blw h h.size).1 (hB.1.blw h h.size).1)
  have K2 := Lib.hid (fun W (h : Below w.heap.size w W) => sameX_any a.r b.r W (hA.2.1.to h) (hB.2.1.to h) hs)
  unfold samQ
  generalize all2 samB a.lf.l b.lf.l = v1 at *
  generalize sameX a.r b.r = v2 at *
  simp only [xV] at K2
  clear hA hB hs
  cases v1
  · go_enter Tryz.func98, Tryz.ntmps98
    go_wp2_with (first | (go_at_call 94; (with_reducible refine (K1.out _ ?_).mono ?_); (focus ((repeat (first | (with_reducible exact Below.refl _ _) | (with_reducible assumption) | (with_reducible exact bel_box _) | (with_reducible refine bel_step ?_ (by with_reducible assumption)) | (with_reducible refine Below.drew ?_) | (with_reducible refine below_drewN ?_ _) | (with_reducible refine bel_alloc ?_ _))); done)); rintro e w1 ⟨rfl, hb1⟩; obtain ⟨m0, m1, m2, m3, m4, m5, m6, m7, m8, m9, m10, m11, m12, m13⟩ := BPQ (w := w) (W := w1) a b (by repeat (first | (with_reducible exact Below.refl _ _) | (with_reducible assumption) | (with_reducible exact bel_box _) | (with_reducible refine bel_step ?_ (by with_reducible assumption)) | (with_reducible refine Below.drew ?_) | (with_reducible refine below_drewN ?_ _) | (with_reducible refine bel_alloc ?_ _)))))
    go_ret
    exact ⟨rfl, (by repeat (first | (with_reducible exact Below.refl _ _) | (with_reducible assumption) | (with_reducible exact bel_box _) | (with_reducible refine bel_step ?_ (by with_reducible assumption)) | (with_reducible refine Below.drew ?_) | (with_reducible refine below_drewN ?_ _) | (with_reducible refine bel_alloc ?_ _)))⟩
  · cases v2
    · go_enter Tryz.func98, Tryz.ntmps98
      go_wp2_with (first | (go_at_call 94; (with_reducible refine (K1.out _ ?_).mono ?_); (focus ((repeat (first | (with_reducible exact Below.refl _ _) | (with_reducible assumption) | (with_reducible exact bel_box _) | (with_reducible refine bel_step ?_ (by with_reducible assumption)) | (with_reducible refine Below.drew ?_) | (with_reducible refine below_drewN ?_ _) | (with_reducible refine bel_alloc ?_ _))); done)); rintro e w1 ⟨rfl, hb1⟩; obtain ⟨m0, m1, m2, m3, m4, m5, m6, m7, m8, m9, m10, m11, m12, m13⟩ := BPQ (w := w) (W := w1) a b (by repeat (first | (with_reducible exact Below.refl _ _) | (with_reducible assumption) | (with_reducible exact bel_box _) | (with_reducible refine bel_step ?_ (by with_reducible assumption)) | (with_reducible refine Below.drew ?_) | (with_reducible refine below_drewN ?_ _) | (with_reducible refine bel_alloc ?_ _)))) | (go_at_call 102; (with_reducible refine (K2.out _ ?_).mono ?_); (focus ((repeat (first | (with_reducible exact Below.refl _ _) | (with_reducible assumption) | (with_reducible exact bel_box _) | (with_reducible refine bel_step ?_ (by with_reducible assumption)) | (with_reducible refine Below.drew ?_) | (with_reducible refine below_drewN ?_ _) | (with_reducible refine bel_alloc ?_ _))); done)); rintro e w2 ⟨rfl, hb2⟩; obtain ⟨m0, m1, m2, m3, m4, m5, m6, m7, m8, m9, m10, m11, m12, m13⟩ := BPQ (w := w) (W := w2) a b (by repeat (first | (with_reducible exact Below.refl _ _) | (with_reducible assumption) | (with_reducible exact bel_box _) | (with_reducible refine bel_step ?_ (by with_reducible assumption)) | (with_reducible refine Below.drew ?_) | (with_reducible refine below_drewN ?_ _) | (with_reducible refine bel_alloc ?_ _)))))
      go_ret
      exact ⟨rfl, (by repeat (first | (with_reducible exact Below.refl _ _) | (with_reducible assumption) | (with_reducible exact bel_box _) | (with_reducible refine bel_step ?_ (by with_reducible assumption)) | (with_reducible refine Below.drew ?_) | (with_reducible refine below_drewN ?_ _) | (with_reducible refine bel_alloc ?_ _)))⟩
    · go_enter Tryz.func98, Tryz.ntmps98
      go_wp2_with (first | (go_at_call 94; (with_reducible refine (K1.out _ ?_).mono ?_); (focus ((repeat (first | (with_reducible exact Below.refl _ _) | (with_reducible assumption) | (with_reducible exact bel_box _) | (with_reducible refine bel_step ?_ (by with_reducible assumption)) | (with_reducible refine Below.drew ?_) | (with_reducible refine below_drewN ?_ _) | (with_reducible refine bel_alloc ?_ _))); done)); rintro e w1 ⟨rfl, hb1⟩; obtain ⟨m0, m1, m2, m3, m4, m5, m6, m7, m8, m9, m10, m11, m12, m13⟩ := BPQ (w := w) (W := w1) a b (by repeat (first | (with_reducible exact Below.refl _ _) | (with_reducible assumption) | (with_reducible exact bel_box _) | (with_reducible refine bel_step ?_ (by with_reducible assumption)) | (with_reducible refine Below.drew ?_) | (with_reducible refine below_drewN ?_ _) | (with_reducible refine bel_alloc ?_ _)))) | (go_at_call 102; (with_reducible refine (K2.out _ ?_).mono ?_); (focus ((repeat (first | (with_reducible exact Below.refl _ _) | (with_reducible assumption) | (with_reducible exact bel_box _) | (with_reducible refine bel_step ?_ (by with_reducible assumption)) | (with_reducible refine Below.drew ?_) | (with_reducible refine below_drewN ?_ _) | (with_reducible refine bel_alloc ?_ _))); done)); rintro e w2 ⟨rfl, hb2⟩; obtain ⟨m0, m1, m2, m3, m4, m5, m6, m7, m8, m9, m10, m11, m12, m13⟩ := BPQ (w := w) (W := w2) a b (by repeat (first | (with_reducible exact Below.refl _ _) | (with_reducible assumption) | (with_reducible exact bel_box _) | (with_reducible refine bel_step ?_ (by with_reducible assumption)) | (with_reducible refine Below.drew ?_) | (with_reducible refine below_drewN ?_ _) | (with_reducible refine bel_alloc ?_ _)))))
      go_ret
      exact ⟨rfl, (by repeat (first | (with_reducible exact Below.refl _ _) | (with_reducible assumption) | (with_reducible exact bel_box _) | (with_reducible refine bel_step ?_ (by with_reducible assumption)) | (with_reducible refine Below.drew ?_) | (with_reducible refine below_drewN ?_ _) | (with_reducible refine bel_alloc ?_ _)))⟩
/-- two states are equal -/
inductive EqS : St → St → Prop
  | mk (a b : St) (h1 : a.nm.toList == b.nm.toList) (h2 : all2 samD a.lc.l b.lc.l = true) (h3 : all2 samQ a.qs.l b.qs.l = true) (h4 : a.au.l.length = b.au.l.length)
      (h5 : ∀ (i : Nat) (x y : Rw St), a.au.l[i]? = some x → b.au.l[i]? = some y → x.l.length = y.l.length)
      (h6 : ∀ (i : Nat) (x y : Rw St), a.au.l[i]? = some x → b.au.l[i]? = some y → ∀ (j : Nat) (s t : St), x.l[j]? = some s → y.l[j]? = some t → EqS s t)
      (h7 : all2 samT a.un.l b.un.l = true) (h8 : all2 samT a.ut.l b.ut.l = true) : EqS a b
open Classical in
noncomputable def samS (a b : St) : Bool := decide (EqS a b)
noncomputable def samA (a b : Rw St) : Bool := all2 samS a.l b.l
open Classical in
theorem samS_iff {a b : St} : samS a b = true ↔ EqS a b := by
  unfold samS; exact decide_eq_true_iff
theorem samS_eq (a b : St) : samS a b = (a.nm.toList == b.nm.toList && (all2 samD a.lc.l b.lc.l && (all2 samQ a.qs.l b.qs.l && (all2 samA a.au.l b.au.l && (all2 samT a.un.l b.un.l && all2 samT a.ut.l b.ut.l))))) := by
  rw [Bool.eq_iff_iff, samS_iff]
  simp only [Bool.and_eq_true]
  constructor
  · intro h
    cases h with
    | mk a b h1 h2 h3 h4 h5 h6 h7 h8 =>
      refine ⟨h1, h2, h3, all2_iff.2 ⟨h4, fun i x y hx hy => ?_⟩, h7, h8⟩
      exact all2_iff.2 ⟨h5 i x y hx hy, fun j s t hs ht => samS_iff.2 (h6 i x y hx hy j s t hs ht)⟩
  · rintro ⟨h1, h2, h3, h4, h7, h8⟩
    obtain ⟨h4, h5⟩ := all2_iff.1 h4
    exact .mk a b h1 h2 h3 h4 (fun i x y hx hy => (all2_iff.1 (h5 i x y hx hy)).1) (fun i x y hx hy j s t hs ht => samS_iff.1 ((all2_iff.1 (h5 i x y hx hy)).2 j s t hs ht)) h7 h8
/-- how many expressions, at most -/
inductive SmS (B : Nat) : St → Prop
  | mk (s : St) (h1 : ∀ q ∈ s.qs.l, q.r.size ≤ B) (h2 : ∀ t ∈ s.un.l, t.cd.size ≤ B) (h3 : ∀ t ∈ s.ut.l, t.cd.size ≤ B) (h4 : ∀ a ∈ s.au.l, ∀ t ∈ a.l, SmS B t) : SmS B s
theorem SmS.of {B : Nat} {s : St} (h : SmS B s) : (∀ q ∈ s.qs.l, q.r.size ≤ B) ∧ (∀ t ∈ s.un.l, t.cd.size ≤ B) ∧ (∀ t ∈ s.ut.l, t.cd.size ≤ B) ∧ ∀ a ∈ s.au.l, ∀ t ∈ a.l, SmS B t := by
  cases h with
  | mk s h1 h2 h3 h4 => exact ⟨h1, h2, h3, h4⟩
structure SmN (B : Nat) (n : Nt) : Prop where
  qs : ∀ q ∈ n.qs.l, q.r.size ≤ B
  au : ∀ a ∈ n.au.l, ∀ t ∈ a.l, SmS B t
  asm : ∀ x ∈ n.asm.l, x.size ≤ B
  ens : ∀ x ∈ n.ens.l, x.size ≤ B
noncomputable def samN (a b : Nt) : Bool := a.nm.toList == b.nm.toList && (all2 samD a.ins.l b.ins.l && (all2 samD a.outs.l b.outs.l && (all2 samD a.locs.l b.locs.l && (all2 samQ a.qs.l b.qs.l && (all2 samA a.au.l b.au.l && (all2 sameX a.asm.l b.asm.l && all2 sameX a.ens.l b.ens.l))))))
noncomputable def samP (a b : Pt) : Bool := all2 samE a.es.l b.es.l && all2 samN a.ns.l b.ns.l
set_option maxHeartbeats 4000000 in
set_option maxRecDepth 20000 in
theorem sh_sameAuto (a b : Rw St) (w : World) (hA : RsA w w.heap.size a) (hB : RsA w w.heap.size b)
    (K : Hid (∀ s ∈ a.l, ∀ t ∈ b.l, ∀ W, Below w.heap.size w W → Calls Tryz.prog 128 #[sV s, sV t] W (Bel (.bool (samS s t)) W))) :
    Calls Tryz.prog 100 #[aV a, aV b] w (Bel (.bool (samA a b)) w) := by
  have K1 : Hid (∀ W, Below w.heap.size w W → Calls Tryz.prog 127 #[.slice a.A a.l.length a.c, .slice b.A b.l.length b.c, .func (.func 128) #[] #[]] W (Bel (.bool (all2 samS a.l b.l)) W)) := Lib.hid fun W h =>
    eqf_State a b samS W ((hA.blw h h.size).1) ((hB.blw h h.size).1) (Lib.hid fun k y z hy hz W' h' => K.out y (List.mem_of_getElem? hy) z (List.mem_of_getElem? hz) W' (h.trans (h'.mono h.size)))
  unfold samA
  generalize all2 samS a.l b.l = v1 at *
  clear hA hB K
  cases v1
  · go_enter Tryz.func100, Tryz.ntmps100
    go_wp2_with (first | (go_at_call 127; (with_reducible refine (K1.out _ ?_).mono ?_); (focus ((repeat (first | (with_reducible exact Below.refl _ _) | (with_reducible assumption) | (with_reducible exact bel_box _) | (with_reducible refine bel_step ?_ (by with_reducible assumption)) | (with_reducible refine Below.drew ?_) | (with_reducible refine below_drewN ?_ _) | (with_reducible refine bel_alloc ?_ _))); done)); rintro e w1 ⟨rfl, hb1⟩; obtain ⟨m0, m1⟩ := BPA (w := w) (W := w1) a b (by repeat (first | (with_reducible exact Below.refl _ _) | (with_reducible assumption) | (with_reducible exact bel_box _) | (with_reducible refine bel_step ?_ (by with_reducible assumption)) | (with_reducible refine Below.drew ?_) | (with_reducible refine below_drewN ?_ _) | (with_reducible refine bel_alloc ?_ _)))))
    go_ret
    exact ⟨rfl, (by repeat (first | (with_reducible exact Below.refl _ _) | (with_reducible assumption) | (with_reducible exact bel_box _) | (with_reducible refine bel_step ?_ (by with_reducible assumption)) | (with_reducible refine Below.drew ?_) | (with_reducible refine below_drewN ?_ _) | (with_reducible refine bel_alloc ?_ _)))⟩
  · go_enter Tryz.func100, Tryz.ntmps100
    go_wp2_with (first | (go_at_call 127; (with_reducible refine (K1.out _ ?_).mono ?_); (focus ((repeat (first | (with_reducible exact Below.refl _ _) | (with_reducible assumption) | (with_reducible exact bel_box _) | (with_reducible refine bel_step ?_ (by with_reducible assumption)) | (with_reducible refine Below.drew ?_) | (with_reducible refine below_drewN ?_ _) | (with_reducible refine bel_alloc ?_ _))); done)); rintro e w1 ⟨rfl, hb1⟩; obtain ⟨m0, m1⟩ := BPA (w := w) (W := w1) a b (by repeat (first | (with_reducible exact Below.refl _ _) | (with_reducible assumption) | (with_reducible exact bel_box _) | (with_reducible refine bel_step ?_ (by with_reducible assumption)) | (with_reducible refine Below.drew ?_) | (with_reducible refine below_drewN ?_ _) | (with_reducible refine bel_alloc ?_ _)))))
    go_ret
    exact ⟨rfl, (by repeat (first | (with_reducible exact Below.refl _ _) | (with_reducible assumption) | (with_reducible exact bel_box _) | (with_reducible refine bel_step ?_ (by with_reducible assumption)) | (with_reducible refine Below.drew ?_) | (with_reducible refine below_drewN ?_ _) | (with_reducible refine bel_alloc ?_ _)))⟩
set_option maxHeartbeats 4000000 in
set_option maxRecDepth 20000 in
theorem sh_sameState (a : St) : ∀ (b : St) (w : World), RsS w w.heap.size a → RsS w w.heap.size b → SmS Bd a →
    Calls Tryz.prog 128 #[sV a, sV b] w (Bel (.bool (samS a b)) w) := by
  induction a using St.ind with
  | h a ih =>
    intro b w hA hB hm
    obtain ⟨_, h2, h3, h4, h5, h6, h7, h8⟩ := hA.of
    obtain ⟨_, k2, k3, k4, k5, k6, k7, k8⟩ := hB.of
    obtain ⟨m1, m2, m3, m4⟩ := hm.of
    have hau : RsAs w w.heap.size a.au := ⟨h4, fun x hx => ⟨h5 x hx, h6 x hx⟩⟩
    have kau : RsAs w w.heap.size b.au := ⟨k4, fun x hx => ⟨k5 x hx, k6 x hx⟩⟩
    have K1 : Hid (∀ W, Below w.heap.size w W → Calls Tryz.prog 95 #[.slice a.lc.A a.lc.l.length a.lc.c, .slice b.lc.A b.lc.l.length b.lc.c, .func (.func 96) #[] #[]] W (Bel (.bool (all2 samD a.lc.l b.lc.l)) W)) := Lib.hid fun W h =>
      eqf_Decl a.lc b.lc samD W ((h2.blw h h.size).1) ((k2.blw h h.size).1) (Lib.hid fun k y z hy hz W' h' => sh_sameDecl y z W' ((h2.blw (h.trans (h'.mono h.size)) (Nat.le_trans h.size h'.size)).2 y (List.mem_of_getElem? hy)) ((k2.blw (h.trans (h'.mono h.size)) (Nat.le_trans h.size h'.size)).2 z (List.mem_of_getElem? hz)))
    have K2 : Hid (∀ W, Below w.heap.size w W → Calls Tryz.prog 97 #[.slice a.qs.A a.qs.l.length a.qs.c, .slice b.qs.A b.qs.l.length b.qs.c, .func (.func 98) #[] #[]] W (Bel (.bool (all2 samQ a.qs.l b.qs.l)) W)) := Lib.hid fun W h =>
      eqf_Eq a.qs b.qs samQ W ((h3.blw h h.size).1) ((k3.blw h h.size).1) (Lib.hid fun k y z hy hz W' h' => sh_sameEq y z W' ((h3.blw (h.trans (h'.mono h.size)) (Nat.le_trans h.size h'.size)).2 y (List.mem_of_getElem? hy)) ((k3.blw (h.trans (h'.mono h.size)) (Nat.le_trans h.size h'.size)).2 z (List.mem_of_getElem? hz)) (m1 y (List.mem_of_getElem? hy)))
    have K3 : Hid (∀ W, Below w.heap.size w W → Calls Tryz.prog 99 #[.slice a.au.A a.au.l.length a.au.c, .slice b.au.A b.au.l.length b.au.c, .func (.func 100) #[] #[]] W (Bel (.bool (all2 samA a.au.l b.au.l)) W)) := Lib.hid fun W h =>
      eqf_Auto a.au b.au samA W ((hau.blw h h.size).1) ((kau.blw h h.size).1) (Lib.hid fun k y z hy hz W' h' => sh_sameAuto y z W' ((hau.blw (h.trans (h'.mono h.size)) (Nat.le_trans h.size h'.size)).2 y (List.mem_of_getElem? hy)) ((kau.blw (h.trans (h'.mono h.size)) (Nat.le_trans h.size h'.size)).2 z (List.mem_of_getElem? hz)) (Lib.hid fun s hs t ht W2 h2' => ih y (List.mem_of_getElem? hy) s hs t W2 ((((hau.blw (h.trans (h'.mono h.size)) (Nat.le_trans h.size h'.size)).2 y (List.mem_of_getElem? hy)).2 s hs).blw h2' h2'.size) ((((kau.blw (h.trans (h'.mono h.size)) (Nat.le_trans h.size h'.size)).2 z (List.mem_of_getElem? hz)).2 t ht).blw h2' h2'.size) (m4 y (List.mem_of_getElem? hy) s hs)))
    have K4 : Hid (∀ W, Below w.heap.size w W → Calls Tryz.prog 157 #[.slice a.un.A a.un.l.length a.un.c, .slice b.un.A b.un.l.length b.un.c, .func (.func 158) #[] #[]] W (Bel (.bool (all2 samT a.un.l b.un.l)) W)) := Lib.hid fun W h =>
      eqf_Trans a.un b.un samT W ((h7.blw h h.size).1) ((k7.blw h h.size).1) (Lib.hid fun k y z hy hz W' h' => sh_sameTrans y z W' ((h7.blw (h.trans (h'.mono h.size)) (Nat.le_trans h.size h'.size)).2 y (List.mem_of_getElem? hy)).1 ((k7.blw (h.trans (h'.mono h.size)) (Nat.le_trans h.size h'.size)).2 z (List.mem_of_getElem? hz)).1 (m2 y (List.mem_of_getElem? hy)))
    have K5 : Hid (∀ W, Below w.heap.size w W → Calls Tryz.prog 157 #[.slice a.ut.A a.ut.l.length a.ut.c, .slice b.ut.A b.ut.l.length b.ut.c, .func (.func 158) #[] #[]] W (Bel (.bool (all2 samT a.ut.l b.ut.l)) W)) := Lib.hid fun W h =>
      eqf_Trans a.ut b.ut samT W ((h8.blw h h.size).1) ((k8.blw h h.size).1) (Lib.hid fun k y z hy hz W' h' => sh_sameTrans y z W' ((h8.blw (h.trans (h'.mono h.size)) (Nat.le_trans h.size h'.size)).2 y (List.mem_of_getElem? hy)).1 ((k8.blw (h.trans (h'.mono h.size)) (Nat.le_trans h.size h'.size)).2 z (List.mem_of_getElem? hz)).1 (m3 y (List.mem_of_getElem? hy)))
    rw [samS_eq]
    generalize all2 samD a.lc.l b.lc.l = v1 at *
    generalize all2 samQ a.qs.l b.qs.l = v2 at *
    generalize all2 samA a.au.l b.au.l = v3 at *
    generalize all2 samT a.un.l b.un.l = v4 at *
    generalize all2 samT a.ut.l b.ut.l = v5 at *
    clear hA hB hm h2 h3 h4 h5 h6 h7 h8 k2 k3 k4 k5 k6 k7 k8 m1 m2 m3 m4 hau kau ih
    cases q0 : (a.nm.toList == b.nm.toList)
    · go_enter Tryz.func128, Tryz.ntmps128
      go_wp2
      go_ret
      exact ⟨rfl, (by repeat (first | (with_reducible exact Below.refl _ _) | (with_reducible assumption) | (with_reducible exact bel_box _) | (with_reducible refine bel_step ?_ (by with_reducible assumption)) | (with_reducible refine Below.drew ?_) | (with_reducible refine below_drewN ?_ _) | (with_reducible refine bel_alloc ?_ _)))⟩
    cases v1
    · go_enter Tryz.func128, Tryz.ntmps128
      go_wp2_with (first | (go_at_call 95; (with_reducible refine (K1.out _ ?_).mono ?_); (focus ((repeat (first | (with_reducible exact Below.refl _ _) | (with_reducible assumption) | (with_reducible exact bel_box _) | (with_reducible refine bel_step ?_ (by with_reducible assumption)) | (with_reducible refine Below.drew ?_) | (with_reducible refine below_drewN ?_ _) | (with_reducible refine bel_alloc ?_ _))); done)); rintro e w1 ⟨rfl, hb1⟩; obtain ⟨m0, m1, m2, m3, m4, m5, m6, m7, m8, m9, m10, m11⟩ := BPS (w := w) (W := w1) a b (by repeat (first | (with_reducible exact Below.refl _ _) | (with_reducible assumption) | (with_reducible exact bel_box _) | (with_reducible refine bel_step ?_ (by with_reducible assumption)) | (with_reducible refine Below.drew ?_) | (with_reducible refine below_drewN ?_ _) | (with_reducible refine bel_alloc ?_ _)))))
      go_ret
      exact ⟨rfl, (by repeat (first | (with_reducible exact Below.refl _ _) | (with_reducible assumption) | (with_reducible exact bel_box _) | (with_reducible refine bel_step ?_ (by with_reducible assumption)) | (with_reducible refine Below.drew ?_) | (with_reducible refine below_drewN ?_ _) | (with_reducible refine bel_alloc ?_ _)))⟩
    · cases v2
      · go_enter Tryz.func128, Tryz.ntmps128
        go_wp2_with (first | (go_at_call 95; (with_reducible refine (K1.out _ ?_).mono ?_); (focus ((repeat (first | (with_reducible exact Below.refl _ _) | (with_reducible assumption) | (with_reducible exact bel_box _) | (with_reducible refine bel_step ?_ (by with_reducible assumption)) | (with_reducible refine Below.drew ?_) | (with_reducible refine below_drewN ?_ _) | (with_reducible refine bel_alloc ?_ _))); done)); rintro e w1 ⟨rfl, hb1⟩; obtain ⟨m0, m1, m2, m3, m4, m5, m6, m7, m8, m9, m10, m11⟩ := BPS (w := w) (W := w1) a b (by repeat (first | (with_reducible exact Below.refl _ _) | (with_reducible assumption) | (with_reducible exact bel_box _) | (with_reducible refine bel_step ?_ (by with_reducible assumption)) | (with_reducible refine Below.drew ?_) | (with_reducible refine below_drewN ?_ _) | (with_reducible refine bel_alloc ?_ _)))) | (go_at_call 97; (with_reducible refine (K2.out _ ?_).mono ?_); (focus ((repeat (first | (with_reducible exact Below.refl _ _) | (with_reducible assumption) | (with_reducible exact bel_box _) | (with_reducible refine bel_step ?_ (by with_reducible assumption)) | (with_reducible refine Below.drew ?_) | (with_reducible refine below_drewN ?_ _) | (with_reducible refine bel_alloc ?_ _))); done)); rintro e w2 ⟨rfl, hb2⟩; obtain ⟨m0, m1, m2, m3, m4, m5, m6, m7, m8, m9, m10, m11⟩ := BPS (w := w) (W := w2) a b (by repeat (first | (with_reducible exact Below.refl _ _) | (with_reducible assumption) | (with_reducible exact bel_box _) | (with_reducible refine bel_step ?_ (by with_reducible assumption)) | (with_reducible refine Below.drew ?_) | (with_reducible refine below_drewN ?_ _) | (with_reducible refine bel_alloc ?_ _)))))
        go_ret
        exact ⟨rfl, (by repeat (first | (with_reducible exact Below.refl _ _) | (with_reducible assumption) | (with_reducible exact bel_box _) | (with_reducible refine bel_step ?_ (by with_reducible assumption)) | (with_reducible refine Below.drew ?_) | (with_reducible refine below_drewN ?_ _) | (with_reducible refine bel_alloc ?_ _)))⟩
      · cases v3
        · go_enter Tryz.func128, Tryz.ntmps128
          go_wp2_with (first | (go_at_call 95; (with_reducible refine (K1.out _ ?_).mono ?_); (focus ((repeat (first | (with_reducible exact Below.refl _ _) | (with_reducible assumption) | (with_reducible exact bel_box _) | (with_reducible refine bel_step ?_ (by with_reducible assumption)) | (with_reducible refine Below.drew ?_) | (with_reducible refine below_drewN ?_ _) | (with_reducible refine bel_alloc ?_ _))); done)); rintro e w1 ⟨rfl, hb1⟩; obtain ⟨m0, m1, m2, m3, m4, m5, m6, m7, m8, m9, m10, m11⟩ := BPS (w := w) (W := w1) a b (by repeat (first | (with_reducible exact Below.refl _ _) | (with_reducible assumption) | (with_reducible exact bel_box _) | (with_reducible refine bel_step ?_ (by with_reducible assumption)) | (with_reducible refine Below.drew ?_) | (with_reducible refine below_drewN ?_ _) | (with_reducible refine bel_alloc ?_ _)))) | (go_at_call 97; (with_reducible refine (K2.out _ ?_).mono ?_); (focus ((repeat (first | (with_reducible exact Below.refl _ _) | (with_reducible assumption) | (with_reducible exact bel_box _) | (with_reducible refine bel_step ?_ (by with_reducible assumption)) | (with_reducible refine Below.drew ?_) | (with_reducible refine below_drewN ?_ _) | (with_reducible refine bel_alloc ?_ _))); done)); rintro e w2 ⟨rfl, hb2⟩; obtain ⟨m0, m1, m2, m3, m4, m5, m6, m7, m8, m9, m10, m11⟩ := BPS (w := w) (W := w2) a b (by repeat (first | (with_reducible exact Below.refl _ _) | (with_reducible assumption) | (with_reducible exact bel_box _) | (with_reducible refine bel_step ?_ (by with_reducible assumption)) | (with_reducible refine Below.drew ?_) | (with_reducible refine below_drewN ?_ _) | (with_reducible refine bel_alloc ?_ _)))) | (go_at_call 99; (with_reducible refine (K3.out _ ?_).mono ?_); (focus ((repeat (first | (with_reducible exact Below.refl _ _) | (with_reducible assumption) | (with_reducible exact bel_box _) | (with_reducible refine bel_step ?_ (by with_reducible assumption)) | (with_reducible refine Below.drew ?_) | (with_reducible refine below_drewN ?_ _) | (with_reducible refine bel_alloc ?_ _))); done)); rintro e w3 ⟨rfl, hb3⟩; obtain ⟨m0, m1, m2, m3, m4, m5, m6, m7, m8, m9, m10, m11⟩ := BPS (w := w) (W := w3) a b (by repeat (first | (with_reducible exact Below.refl _ _) | (with_reducible assumption) | (with_reducible exact bel_box _) | (with_reducible refine bel_step ?_ (by with_reducible assumption)) | (with_reducible refine Below.drew ?_) | (with_reducible refine below_drewN ?_ _) | (with_reducible refine bel_alloc ?_ _)))))
          go_ret
          exact ⟨rfl, (by repeat (first | (with_reducible exact Below.refl _ _) | (with_reducible assumption) | (with_reducible exact bel_box _) | (with_reducible refine bel_step ?_ (by with_reducible assumption)) | (with_reducible refine Below.drew ?_) | (with_reducible refine below_drewN ?_ _) | (with_reducible refine bel_alloc ?_ _)))⟩
        · cases v4
          · go_enter Tryz.func128, Tryz.ntmps128
            go_wp2_with (first | (go_at_call 95; (with_reducible refine (K1.out _ ?_).mono ?_); (focus ((repeat (first | (with_reducible exact Below.refl _ _) | (with_reducible assumption) | (with_reducible exact bel_box _) | (with_reducible refine bel_step ?_ (by with_reducible assumption)) | (with_reducible refine Below.drew ?_) | (with_reducible refine below_drewN ?_ _) | (with_reducible refine bel_alloc ?_ _))); done)); rintro e w1 ⟨rfl, hb1⟩; obtain ⟨m0, m1, m2, m3, m4, m5, m6, m7, m8, m9, m10, m11⟩ := BPS (w := w) (W := w1) a b (by repeat (first | (with_reducible exact Below.refl _ _) | (with_reducible assumption) | (with_reducible exact bel_box _) | (with_reducible refine bel_step ?_ (by with_reducible assumption)) | (with_reducible refine Below.drew ?_) | (with_reducible refine below_drewN ?_ _) | (with_reducible refine bel_alloc ?_ _)))) | (go_at_call 97; (with_reducible refine (K2.out _ ?_).mono ?_); (focus ((repeat (first | (with_reducible exact Below.refl _ _) | (with_reducible assumption) | (with_reducible exact bel_box _) | (with_reducible refine bel_step ?_ (by with_reducible assumption)) | (with_reducible refine Below.drew ?_) | (with_reducible refine below_drewN ?_ _) | (with_reducible refine bel_alloc ?_ _))); done)); rintro e w2 ⟨rfl, hb2⟩; obtain ⟨m0, m1, m2, m3, m4, m5, m6, m7, m8, m9, m10, m11⟩ := BPS (w := w) (W := w2) a b (by repeat (first | (with_reducible exact Below.refl _ _) | (with_reducible assumption) | (with_reducible exact bel_box _) | (with_reducible refine bel_step ?_ (by with_reducible assumption)) | (with_reducible refine Below.drew ?_) | (with_reducible refine below_drewN ?_ _) | (with_reducible refine bel_alloc ?_ _)))) | (go_at_call 99; (with_reducible refine (K3.out _ ?_).mono ?_); (focus ((repeat (first | (with_reducible exact Below.refl _ _) | (with_reducible assumption) | (with_reducible exact bel_box _) | (with_reducible refine bel_step ?_ (by with_reducible assumption)) | (with_reducible refine Below.drew ?_) | (with_reducible refine below_drewN ?_ _) | (with_reducible refine bel_alloc ?_ _))); done)); rintro e w3 ⟨rfl, hb3⟩; obtain ⟨m0, m1, m2, m3, m4, m5, m6, m7, m8, m9, m10, m11⟩ := BPS (w := w) (W := w3) a b (by repeat (first | (with_reducible exact Below.refl _ _) | (with_reducible assumption) | (with_reducible exact bel_box _) | (with_reducible refine bel_step ?_ (by with_reducible assumption)) | (with_reducible refine Below.drew ?_) | (with_reducible refine below_drewN ?_ _) | (with_reducible refine bel_alloc ?_ _)))) | (go_at_call 157; (with_reducible refine (K4.out _ ?_).mono ?_); (focus ((repeat (first | (with_reducible exact Below.refl _ _) | (with_reducible assumption) | (with_reducible exact bel_box _) | (with_reducible refine bel_step ?_ (by with_reducible assumption)) | (with_reducible refine Below.drew ?_) | (with_reducible refine below_drewN ?_ _) | (with_reducible refine bel_alloc ?_ _))); done)); rintro e w4 ⟨rfl, hb4⟩; obtain ⟨m0, m1, m2, m3, m4, m5, m6, m7, m8, m9, m10, m11⟩ := BPS (w := w) (W := w4) a b (by repeat (first | (with_reducible exact Below.refl _ _) | (with_reducible assumption) | (with_reducible exact bel_box _) | (with_reducible refine bel_step ?_ (by with_reducible assumption)) | (with_reducible refine Below.drew ?_) | (with_reducible refine below_drewN ?_ _) | (with_reducible refine bel_alloc ?_ _)))))
            go_ret
            exact ⟨rfl, (by repeat (first | (with_reducible exact Below.refl _ _) | (with_reducible assumption) | (with_reducible exact bel_box _) | (with_reducible refine bel_step ?_ (by with_reducible assumption)) | (with_reducible refine Below.drew ?_) | (with_reducible refine below_drewN ?_ _) | (with_reducible refine bel_alloc ?_ _)))⟩
          · cases v5
            · go_enter Tryz.func128, Tryz.ntmps128
              go_wp2_with (first | (go_at_call 95; (with_reducible refine (K1.out _ ?_).mono ?_); (focus ((repeat (first | (with_reducible exact Below.refl _ _) | (with_reducible assumption) | (with_reducible exact bel_box _) | (with_reducible refine bel_step ?_ (by with_reducible assumption)) | (with_reducible refine Below.drew ?_) | (with_reducible refine below_drewN ?_ _) | (with_reducible refine bel_alloc ?_ _))); done)); rintro e w1 ⟨rfl, hb1⟩; obtain ⟨m0, m1, m2, m3, m4, m5, m6, m7, m8, m9, m10, m11⟩ := BPS (w := w) (W := w1) a b (by repeat (first | (with_reducible exact Below.refl _ _) | (with_reducible assumption) | (with_reducible exact bel_box _) | (with_reducible refine bel_step ?_ (by with_reducible assumption)) | (with_reducible refine Below.drew ?_) | (with_reducible refine below_drewN ?_ _) | (with_reducible refine bel_alloc ?_ _)))) | (go_at_call 97; (with_reducible refine (K2.out _ ?_).mono ?_); (focus ((repeat (first | (with_reducible exact Below.refl _ _) | (with_reducible assumption) | (with_reducible exact bel_box _) | (with_reducible refine bel_step ?_ (by with_reducible assumption)) | (with_reducible refine Below.drew ?_) | (with_reducible refine below_drewN ?_ _) | (with_reducible refine bel_alloc ?_ _))); done)); rintro e w2 ⟨rfl, hb2⟩; obtain ⟨m0, m1, m2, m3, m4, m5, m6, m7, m8, m9, m10, m11⟩ := BPS (w := w) (W := w2) a b (by repeat (first | (with_reducible exact Below.refl _ _) | (with_reducible assumption) | (with_reducible exact bel_box _) | (with_reducible refine bel_step ?_ (by with_reducible assumption)) | (with_reducible refine Below.drew ?_) | (with_reducible refine below_drewN ?_ _) | (with_reducible refine bel_alloc ?_ _)))) | (go_at_call 99; (with_reducible refine (K3.out _ ?_).mono ?_); (focus ((repeat (first | (with_reducible exact Below.refl _ _) | (with_reducible assumption) | (with_reducible exact bel_box _) | (with_reducible refine bel_step ?_ (by with_reducible assumption)) | (with_reducible refine Below.drew ?_) | (with_reducible refine below_drewN ?_ _) | (with_reducible refine bel_alloc ?_ _))); done)); rintro e w3 ⟨rfl, hb3⟩; obtain ⟨m0, m1, m2, m3, m4, m5, m6, m7, m8, m9, m10, m11⟩ := BPS (w := w) (W := w3) a b (by repeat (first | (with_reducible exact Below.refl _ _) | (with_reducible assumption) | (with_reducible exact bel_box _) | (with_reducible refine bel_step ?_ (by with_reducible assumption)) | (with_reducible refine Below.drew ?_) | (with_reducible refine below_drewN ?_ _) | (with_reducible refine bel_alloc ?_ _)))) | (go_at_call 157; (with_reducible refine (K4.out _ ?_).mono ?_); (focus ((repeat (first | (with_reducible exact Below.refl _ _) | (with_reducible assumption) | (with_reducible exact bel_box _) | (with_reducible refine bel_step ?_ (by with_reducible assumption)) | (with_reducible refine Below.drew ?_) | (with_reducible refine below_drewN ?_ _) | (with_reducible refine bel_alloc ?_ _))); done)); rintro e w4 ⟨rfl, hb4⟩; obtain ⟨m0, m1, m2, m3, m4, m5, m6, m7, m8, m9, m10, m11⟩ := BPS (w := w) (W := w4) a b (by repeat (first | (with_reducible exact Below.refl _ _) | (with_reducible assumption) | (with_reducible exact bel_box _) | (with_reducible refine bel_step ?_ (by with_reducible assumption)) | (with_reducible refine Below.drew ?_) | (with_reducible refine below_drewN ?_ _) | (with_reducible refine bel_alloc ?_ _)))) | (go_at_call 157; (with_reducible refine (K5.out _ ?_).mono ?_); (focus ((repeat (first | (with_reducible exact Below.refl _ _) | (with_reducible assumption) | (with_reducible exact bel_box _) | (with_reducible refine bel_step ?_ (by with_reducible assumption)) | (with_reducible refine Below.drew ?_) | (with_reducible refine below_drewN ?_ _) | (with_reducible refine bel_alloc ?_ _))); done)); rintro e w5 ⟨rfl, hb5⟩; obtain ⟨m0, m1, m2, m3, m4, m5, m6, m7, m8, m9, m10, m11⟩ := BPS (w := w) (W := w5) a b (by repeat (first | (with_reducible exact Below.refl _ _) | (with_reducible assumption) | (with_reducible exact bel_box _) | (with_reducible refine bel_step ?_ (by with_reducible assumption)) | (with_reducible refine Below.drew ?_) | (with_reducible refine below_drewN ?_ _) | (with_reducible refine bel_alloc ?_ _)))))
              go_ret
              exact ⟨rfl, (by repeat (first | (with_reducible exact Below.refl _ _) | (with_reducible assumption) | (with_reducible exact bel_box _) | (with_reducible refine bel_step ?_ (by with_reducible assumption)) | (with_reducible refine Below.drew ?_) | (with_reducible refine below_drewN ?_ _) | (with_reducible refine bel_alloc ?_ _)))⟩
            · go_enter Tryz.func128, Tryz.ntmps128
              go_wp2_with (first | (go_at_call 95; (with_reducible refine (K1.out _ ?_).mono ?_); (focus ((repeat (first | (with_reducible exact Below.refl _ _) | (with_reducible assumption) | (with_reducible exact bel_box _) | (with_reducible refine bel_step ?_ (by with_reducible assumption)) | (with_reducible refine Below.drew ?_) | (with_reducible refine below_drewN ?_ _) | (with_reducible refine bel_alloc ?_ _))); done)); rintro e w1 ⟨rfl, hb1⟩; obtain ⟨m0, m1, m2, m3, m4, m5, m6, m7, m8, m9, m10, m11⟩ := BPS (w := w) (W := w1) a b (by repeat (first | (with_reducible exact Below.refl _ _) | (with_reducible assumption) | (with_reducible exact bel_box _) | (with_reducible refine bel_step ?_ (by with_reducible assumption)) | (with_reducible refine Below.drew ?_) | (with_reducible refine below_drewN ?_ _) | (with_reducible refine bel_alloc ?_ _)))) | (go_at_call 97; (with_reducible refine (K2.out _ ?_).mono ?_); (focus ((repeat (first | (with_reducible exact Below.refl _ _) | (with_reducible assumption) | (with_reducible exact bel_box _) | (with_reducible refine bel_step ?_ (by with_reducible assumption)) | (with_reducible refine Below.drew ?_) | (with_reducible refine below_drewN ?_ _) | (with_reducible refine bel_alloc ?_ _))); done)); rintro e w2 ⟨rfl, hb2⟩; obtain ⟨m0, m1, m2, m3, m4, m5, m6, m7, m8, m9, m10, m11⟩ := BPS (w := w) (W := w2) a b (by repeat (first | (with_reducible exact Below.refl _ _) | (with_reducible assumption) | (with_reducible exact bel_box _) | (with_reducible refine bel_step ?_ (by with_reducible assumption)) | (with_reducible refine Below.drew ?_) | (with_reducible refine below_drewN ?_ _) | (with_reducible refine bel_alloc ?_ _)))) | (go_at_call 99; (with_reducible refine (K3.out _ ?_).mono ?_); (focus ((repeat (first | (with_reducible exact Below.refl _ _) | (with_reducible assumption) | (with_reducible exact bel_box _) | (with_reducible refine bel_step ?_ (by with_reducible assumption)) | (with_reducible refine Below.drew ?_) | (with_reducible refine below_drewN ?_ _) | (with_reducible refine bel_alloc ?_ _))); done)); rintro e w3 ⟨rfl, hb3⟩; obtain ⟨m0, m1, m2, m3, m4, m5, m6, m7, m8, m9, m10, m11⟩ := BPS (w := w) (W := w3) a b (by repeat (first | (with_reducible exact Below.refl _ _) | (with_reducible assumption) | (with_reducible exact bel_box _) | (with_reducible refine bel_step ?_ (by with_reducible assumption)) | (with_reducible refine Below.drew ?_) | (with_reducible refine below_drewN ?_ _) | (with_reducible refine bel_alloc ?_ _)))) | (go_at_call 157; (with_reducible refine (K4.out _ ?_).mono ?_); (focus ((repeat (first | (with_reducible exact Below.refl _ _) | (with_reducible assumption) | (with_reducible exact bel_box _) | (with_reducible refine bel_step ?_ (by with_reducible assumption)) | (with_reducible refine Below.drew ?_) | (with_reducible refine below_drewN ?_ _) | (with_reducible refine bel_alloc ?_ _))); done)); rintro e w4 ⟨rfl, hb4⟩; obtain ⟨m0, m1, m2, m3, m4, m5, m6, m7, m8, m9, m10, m11⟩ := BPS (w := w) (W := w4) a b (by repeat (first | (with_reducible exact Below.refl _ _) | (with_reducible assumption) | (with_reducible exact bel_box _) | (with_reducible refine bel_step ?_ (by with_reducible assumption)) | (with_reducible refine Below.drew ?_) | (with_reducible refine below_drewN ?_ _) | (with_reducible refine bel_alloc ?_ _)))) | (go_at_call 157; (with_reducible refine (K5.out _ ?_).mono ?_); (focus ((repeat (first | (with_reducible exact Below.refl _ _) | (with_reducible assumption) | (with_reducible exact bel_box _) | (with_reducible refine bel_step ?_ (by with_reducible assumption)) | (with_reducible refine Below.drew ?_) | (with_reducible refine below_drewN ?_ _) | (with_reducible refine bel_alloc ?_ _))); done)); rintro e w5 ⟨rfl, hb5⟩; obtain ⟨m0, m1, m2, m3, m4, m5, m6, m7, m8, m9, m10, m11⟩ := BPS (w := w) (W := w5) a b (by repeat (first | (with_reducible exact Below.refl _ _) | (with_reducible assumption) | (with_reducible exact bel_box _) | (with_reducible refine bel_step ?_ (by with_reducible assumption)) | (with_reducible refine Below.drew ?_) | (with_reducible refine below_drewN ?_ _) | (with_reducible refine bel_alloc ?_ _)))))
              go_ret
              exact ⟨rfl, (by repeat (first | (with_reducible exact Below.refl _ _) | (with_reducible assumption) | (with_reducible exact bel_box _) | (with_reducible refine bel_step ?_ (by with_reducible assumption)) | (with_reducible refine Below.drew ?_) | (with_reducible refine below_drewN ?_ _) | (with_reducible refine bel_alloc ?_ _)))⟩
end Go.Proofs.YthlapepjebidgaaGreatDoor
