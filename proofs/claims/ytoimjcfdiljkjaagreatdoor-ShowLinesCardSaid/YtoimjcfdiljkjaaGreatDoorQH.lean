import Derived.Test.YtoimjcfdiljkjaaGreatDoorQG
set_option linter.unusedVariables false
set_option linter.unusedSimpArgs false
namespace Go.Proofs.YtoimjcfdiljkjaaGreatDoor
open Go.RowKit
set_option maxHeartbeats 1000000 in
set_option maxRecDepth 20000 in
theorem first_Decl_local (b0 : Value) (r : Rw (Dt)) (err : Dt → Int) (w : World) (hR : RdR w w.heap.size 3 DC r)
    (K : Hid (∀ y ∈ r.l, ∀ W, Below w.heap.size w W → Calls Tryz.prog 120 #[b0, dV y] W (Bel (.int .i64 (err y)) W))) :
    Calls Tryz.prog 118 #[.slice r.A r.l.length r.c, .func (.func 120) #[b0] #[]] w (Bel (.int .i64 (errs (r.l.map err))) w) := by
  have h9 := hR.len
  unfold maxLen at h9
  have HR := Lib.hid hR
  obtain ⟨E, hE0, hEl, HE⟩ := errs_steps r.l err
  rw [← hE0]
  obtain ⟨V, hV⟩ : ∃ V, E 0 = V := ⟨_, rfl⟩
  have HV := Lib.hid hV
  have HL := Lib.hid hEl
  rw [hV]
  clear hR hE0 hEl hV
  skip
  go_enter Tryz.func118, Tryz.ntmps118
  go_wp2
  go_loopw [10] (fun i wr => ∃ k : Nat, k ≤ r.l.length ∧ i = .int .i64 (k : Int) ∧ Hid (E k = V) ∧ Below w.heap.size w wr) (fun i _ => r.l.length - (intOf i).toNat)
  case atStart => exact ⟨0, by omega, rfl, HV, Below.refl _ _⟩
  case round =>
    obtain ⟨k, hk, rfl, hE, hbl⟩ := hrel
    by_cases hlt : k < r.l.length
    · obtain ⟨ad, y, hA, had, hy, hm, ⟨c0, c1, c2⟩⟩ := (HR.out.blw oneB_D hbl hbl.size).at_ hlt
      rw [hA]
      clear hA
      have hs := HE.out k y hy
      have KY := Lib.hid (K.out y hm)
      clear hy hm HE
      generalize err y = v at *
      by_cases hv : v = 0
      · subst hv
        have hn : Hid (E (k + 1) = V) := Lib.hid (by rw [← hE.out, hs]; rfl)
        clear hs hE
        go_wp2_with (go_at_call 120; (with_reducible refine (KY.out _ ?_).mono ?_); (exact bl); rintro e w1 ⟨rfl, hb1⟩)
        exact ⟨⟨k + 1, by omega, by congr 1, hn, bl⟩, by simp [intOf]; omega⟩
      · have hv2 : v = V := by rw [← hE.out, hs, orE, if_neg hv]
        have e0 : (v == 0) = false := by simp [hv]
        clear hs hE hv
        go_wp2_with (go_at_call 120; (with_reducible refine (KY.out _ ?_).mono ?_); (exact bl); rintro e w1 ⟨rfl, hb1⟩)
        go_ret
        exact ⟨(by first | rfl | exact congrArg (fun z : Int => Ending.returned (.int .i64 z)) hv2), bl⟩
    · obtain rfl : k = r.l.length := by omega
      have hv2 : 0 = V := HL.out.symm.trans hE.out
      clear hE HE HV HL
      go_wp2
      go_ret
      exact ⟨(by first | rfl | exact congrArg (fun z : Int => Ending.returned (.int .i64 z)) hv2), hbl⟩
set_option maxHeartbeats 1000000 in
set_option maxRecDepth 20000 in
theorem first_Enum_checkEnum  (A : Option Addr) (c : Nat) (l : List va.En) (err : va.En → Int) (w : World) (hR : va.RdE w w.heap.size A l) (h9 : l.length ≤ 9223372036854775807)
    (K : Hid (∀ y ∈ l, ∀ W, Below w.heap.size w W → Calls Tryz.prog 48 #[.agg #[.string y.name, .slice y.A y.tags.length y.c]] W (Bel (.int .i64 (err y)) W))) :
    Calls Tryz.prog 47 #[.slice A l.length c, .func (.func 48) #[] #[]] w (Bel (.int .i64 (errs (l.map err))) w) := by
  have HR := Lib.hid hR
  obtain ⟨E, hE0, hEl, HE⟩ := errs_steps l err
  rw [← hE0]
  obtain ⟨V, hV⟩ : ∃ V, E 0 = V := ⟨_, rfl⟩
  have HV := Lib.hid hV
  have HL := Lib.hid hEl
  rw [hV]
  clear hR hE0 hEl hV
  skip
  go_enter Tryz.func47, Tryz.ntmps47
  go_wp2
  go_loopw [10] (fun i wr => ∃ k : Nat, k ≤ l.length ∧ i = .int .i64 (k : Int) ∧ Hid (E k = V) ∧ Below w.heap.size w wr) (fun i _ => l.length - (intOf i).toNat)
  case atStart => exact ⟨0, by omega, rfl, HV, Below.refl _ _⟩
  case round =>
    obtain ⟨k, hk, rfl, hE, hbl⟩ := hrel
    by_cases hlt : k < l.length
    · obtain ⟨ad, y, hA, had, hy, c0, c1, _⟩ := (HR.out.to hbl).at_ hlt
      have hm := List.mem_of_getElem? hy
      rw [hA]
      clear hA
      have hs := HE.out k y hy
      have KY := Lib.hid (K.out y hm)
      clear hy hm HE
      generalize err y = v at *
      by_cases hv : v = 0
      · subst hv
        have hn : Hid (E (k + 1) = V) := Lib.hid (by rw [← hE.out, hs]; rfl)
        clear hs hE
        go_wp2_with (go_at_call 48; (with_reducible refine (KY.out _ ?_).mono ?_); (exact bl); rintro e w1 ⟨rfl, hb1⟩)
        exact ⟨⟨k + 1, by omega, by congr 1, hn, bl⟩, by simp [intOf]; omega⟩
      · have hv2 : v = V := by rw [← hE.out, hs, orE, if_neg hv]
        have e0 : (v == 0) = false := by simp [hv]
        clear hs hE hv
        go_wp2_with (go_at_call 48; (with_reducible refine (KY.out _ ?_).mono ?_); (exact bl); rintro e w1 ⟨rfl, hb1⟩)
        go_ret
        exact ⟨(by first | rfl | exact congrArg (fun z : Int => Ending.returned (.int .i64 z)) hv2), bl⟩
    · obtain rfl : k = l.length := by omega
      have hv2 : 0 = V := HL.out.symm.trans hE.out
      clear hE HE HV HL
      go_wp2
      go_ret
      exact ⟨(by first | rfl | exact congrArg (fun z : Int => Ending.returned (.int .i64 z)) hv2), hbl⟩
set_option maxHeartbeats 1000000 in
set_option maxRecDepth 20000 in
theorem first_string_checkIdent  (r : Rw (ByteArray)) (err : ByteArray → Int) (w : World) (hR : RdR w w.heap.size 1 BC r)
    (K : Hid (∀ y ∈ r.l, ∀ W, Below w.heap.size w W → Calls Tryz.prog 83 #[.string y] W (Bel (.int .i64 (err y)) W))) :
    Calls Tryz.prog 82 #[.slice r.A r.l.length r.c, .func (.func 83) #[] #[]] w (Bel (.int .i64 (errs (r.l.map err))) w) := by
  have h9 := hR.len
  unfold maxLen at h9
  have HR := Lib.hid hR
  obtain ⟨E, hE0, hEl, HE⟩ := errs_steps r.l err
  rw [← hE0]
  obtain ⟨V, hV⟩ : ∃ V, E 0 = V := ⟨_, rfl⟩
  have HV := Lib.hid hV
  have HL := Lib.hid hEl
  rw [hV]
  clear hR hE0 hEl hV
  skip
  go_enter Tryz.func82, Tryz.ntmps82
  go_wp2
  go_loopw [10] (fun i wr => ∃ k : Nat, k ≤ r.l.length ∧ i = .int .i64 (k : Int) ∧ Hid (E k = V) ∧ Below w.heap.size w wr) (fun i _ => r.l.length - (intOf i).toNat)
  case atStart => exact ⟨0, by omega, rfl, HV, Below.refl _ _⟩
  case round =>
    obtain ⟨k, hk, rfl, hE, hbl⟩ := hrel
    by_cases hlt : k < r.l.length
    · obtain ⟨ad, y, hA, had, hy, hm, c0⟩ := (HR.out.blw oneB_B hbl hbl.size).at_ hlt
      unfold BC at c0
      rw [Nat.mul_one] at c0
      rw [hA]
      clear hA
      have hs := HE.out k y hy
      have KY := Lib.hid (K.out y hm)
      clear hy hm HE
      generalize err y = v at *
      by_cases hv : v = 0
      · subst hv
        have hn : Hid (E (k + 1) = V) := Lib.hid (by rw [← hE.out, hs]; rfl)
        clear hs hE
        go_wp2_with (go_at_call 83; (with_reducible refine (KY.out _ ?_).mono ?_); (exact bl); rintro e w1 ⟨rfl, hb1⟩)
        exact ⟨⟨k + 1, by omega, by congr 1, hn, bl⟩, by simp [intOf]; omega⟩
      · have hv2 : v = V := by rw [← hE.out, hs, orE, if_neg hv]
        have e0 : (v == 0) = false := by simp [hv]
        clear hs hE hv
        go_wp2_with (go_at_call 83; (with_reducible refine (KY.out _ ?_).mono ?_); (exact bl); rintro e w1 ⟨rfl, hb1⟩)
        go_ret
        exact ⟨(by first | rfl | exact congrArg (fun z : Int => Ending.returned (.int .i64 z)) hv2), bl⟩
    · obtain rfl : k = r.l.length := by omega
      have hv2 : 0 = V := HL.out.symm.trans hE.out
      clear hE HE HV HL
      go_wp2
      go_ret
      exact ⟨(by first | rfl | exact congrArg (fun z : Int => Ending.returned (.int .i64 z)) hv2), hbl⟩
set_option maxHeartbeats 1000000 in
set_option maxRecDepth 20000 in
theorem first_On_sampling (b0 : Value) (r : Rw (Ot)) (err : Ot → Int) (w : World) (hR : RdR w w.heap.size 3 OC r)
    (K : Hid (∀ y ∈ r.l, ∀ W, Below w.heap.size w W → Calls Tryz.prog 158 #[b0, oV y] W (Bel (.int .i64 (err y)) W))) :
    Calls Tryz.prog 157 #[.slice r.A r.l.length r.c, .func (.func 158) #[b0] #[]] w (Bel (.int .i64 (errs (r.l.map err))) w) := by
  have h9 := hR.len
  unfold maxLen at h9
  have HR := Lib.hid hR
  obtain ⟨E, hE0, hEl, HE⟩ := errs_steps r.l err
  rw [← hE0]
  obtain ⟨V, hV⟩ : ∃ V, E 0 = V := ⟨_, rfl⟩
  have HV := Lib.hid hV
  have HL := Lib.hid hEl
  rw [hV]
  clear hR hE0 hEl hV
  skip
  go_enter Tryz.func157, Tryz.ntmps157
  go_wp2
  go_loopw [10] (fun i wr => ∃ k : Nat, k ≤ r.l.length ∧ i = .int .i64 (k : Int) ∧ Hid (E k = V) ∧ Below w.heap.size w wr) (fun i _ => r.l.length - (intOf i).toNat)
  case atStart => exact ⟨0, by omega, rfl, HV, Below.refl _ _⟩
  case round =>
    obtain ⟨k, hk, rfl, hE, hbl⟩ := hrel
    by_cases hlt : k < r.l.length
    · obtain ⟨ad, y, hA, had, hy, hm, ⟨c0, c1, c2⟩⟩ := (HR.out.blw oneB_O hbl hbl.size).at_ hlt
      rw [hA]
      clear hA
      have hs := HE.out k y hy
      have KY := Lib.hid (K.out y hm)
      clear hy hm HE
      generalize err y = v at *
      by_cases hv : v = 0
      · subst hv
        have hn : Hid (E (k + 1) = V) := Lib.hid (by rw [← hE.out, hs]; rfl)
        clear hs hE
        go_wp2_with (go_at_call 158; (with_reducible refine (KY.out _ ?_).mono ?_); (exact bl); rintro e w1 ⟨rfl, hb1⟩)
        exact ⟨⟨k + 1, by omega, by congr 1, hn, bl⟩, by simp [intOf]; omega⟩
      · have hv2 : v = V := by rw [← hE.out, hs, orE, if_neg hv]
        have e0 : (v == 0) = false := by simp [hv]
        clear hs hE hv
        go_wp2_with (go_at_call 158; (with_reducible refine (KY.out _ ?_).mono ?_); (exact bl); rintro e w1 ⟨rfl, hb1⟩)
        go_ret
        exact ⟨(by first | rfl | exact congrArg (fun z : Int => Ending.returned (.int .i64 z)) hv2), bl⟩
    · obtain rfl : k = r.l.length := by omega
      have hv2 : 0 = V := HL.out.symm.trans hE.out
      clear hE HE HV HL
      go_wp2
      go_ret
      exact ⟨(by first | rfl | exact congrArg (fun z : Int => Ending.returned (.int .i64 z)) hv2), hbl⟩
set_option maxHeartbeats 1000000 in
set_option maxRecDepth 20000 in
theorem first_Auto_automaton1 (f0 : Value) (f1 : Value) (r : Rw (Rw St)) (err : Rw St → Int) (w : World) (hR : RdR w w.heap.size 1 AC r)
    (K : Hid (∀ y ∈ r.l, ∀ W, Below w.heap.size w W → Calls Tryz.prog 121 #[aV y, f0, f1] W (Bel (.int .i64 (err y)) W))) :
    Calls Tryz.prog 86 #[.slice r.A r.l.length r.c, .func (.func 121) #[] #[f0, f1]] w (Bel (.int .i64 (errs (r.l.map err))) w) := by
  have h9 := hR.len
  unfold maxLen at h9
  have HR := Lib.hid hR
  obtain ⟨E, hE0, hEl, HE⟩ := errs_steps r.l err
  rw [← hE0]
  obtain ⟨V, hV⟩ : ∃ V, E 0 = V := ⟨_, rfl⟩
  have HV := Lib.hid hV
  have HL := Lib.hid hEl
  rw [hV]
  clear hR hE0 hEl hV
  skip
  go_enter Tryz.func86, Tryz.ntmps86
  go_wp2
  go_loopw [10] (fun i wr => ∃ k : Nat, k ≤ r.l.length ∧ i = .int .i64 (k : Int) ∧ Hid (E k = V) ∧ Below w.heap.size w wr) (fun i _ => r.l.length - (intOf i).toNat)
  case atStart => exact ⟨0, by omega, rfl, HV, Below.refl _ _⟩
  case round =>
    obtain ⟨k, hk, rfl, hE, hbl⟩ := hrel
    by_cases hlt : k < r.l.length
    · obtain ⟨ad, y, hA, had, hy, hm, c0⟩ := (HR.out.blw oneB_A hbl hbl.size).at_ hlt
      unfold AC at c0
      rw [Nat.mul_one] at c0
      rw [hA]
      clear hA
      have hs := HE.out k y hy
      have KY := Lib.hid (K.out y hm)
      clear hy hm HE
      generalize err y = v at *
      by_cases hv : v = 0
      · subst hv
        have hn : Hid (E (k + 1) = V) := Lib.hid (by rw [← hE.out, hs]; rfl)
        clear hs hE
        go_wp2_with (go_at_call 121; (with_reducible refine (KY.out _ ?_).mono ?_); (exact bl); rintro e w1 ⟨rfl, hb1⟩)
        exact ⟨⟨k + 1, by omega, by congr 1, hn, bl⟩, by simp [intOf]; omega⟩
      · have hv2 : v = V := by rw [← hE.out, hs, orE, if_neg hv]
        have e0 : (v == 0) = false := by simp [hv]
        clear hs hE hv
        go_wp2_with (go_at_call 121; (with_reducible refine (KY.out _ ?_).mono ?_); (exact bl); rintro e w1 ⟨rfl, hb1⟩)
        go_ret
        exact ⟨(by first | rfl | exact congrArg (fun z : Int => Ending.returned (.int .i64 z)) hv2), bl⟩
    · obtain rfl : k = r.l.length := by omega
      have hv2 : 0 = V := HL.out.symm.trans hE.out
      clear hE HE HV HL
      go_wp2
      go_ret
      exact ⟨(by first | rfl | exact congrArg (fun z : Int => Ending.returned (.int .i64 z)) hv2), hbl⟩
end Go.Proofs.YtoimjcfdiljkjaaGreatDoor
namespace Go.Proofs.YtoimjcfdiljkjaaGreatDoor
open Go.RowKit
abbrev ckV (E : Rw va.En) : Value := .agg #[.slice E.A E.l.length E.c]
theorem orE0 (b : Int) : orE 0 b = b := rfl
theorem orEn {a : Int} (h : a ≠ 0) (b : Int) : orE a b = a := if_neg h
theorem RsE.len {w : World} {B : Nat} {r : Rw va.En} (h : RsE w B r) : r.l.length ≤ 9223372036854775807 := by
  have := h.2.1.1
  unfold maxLen at this
  omega
theorem rdr_of_ss {w : World} {B c : Nat} {A : Option Addr} {l : List ByteArray} (h : Rd w B A (va.ss l)) (h1 : l.length ≤ maxLen) (h2 : l.length ≤ c) : RdR w B 1 BC ⟨A, c, l⟩ := by
  refine ⟨fun hn => ?_, fun ad i y hA hy => ?_, h1, h2⟩
  · obtain ⟨ad, e, hb, _⟩ := h (by intro e; exact hn (by have := congrArg List.length e; simp [va.ss] at this; exact this))
    exact ⟨ad, e, hb⟩
  · obtain ⟨ad', e, hb, hc⟩ := h (by intro e; have := congrArg List.length e; simp [va.ss] at this; simp only at hy; rw [this] at hy; simp at hy)
    obtain rfl : ad = ad' := Option.some.inj (Eq.trans (Eq.symm hA) e)
    show w.cell? (ad.add (i * 1)) = _
    rw [Nat.mul_one]
    exact hc i _ (va.ss_get hy)
set_option maxHeartbeats 1000000 in
theorem sh_ident (s : ByteArray) (w : World) (hs : Std w) (h9 : s.size ≤ 140737488351232) : Calls Tryz.prog 83 #[.string s] w (Bel (.int .i64 (idE s)) w) := by
  have K := Lib.hid (fun W (h : Below w.heap.size w W) => ident_any s W (hs.to h) h9)
  unfold idE
  generalize idP s = b at *
  clear hs h9
  cases b
  all_goals
    go_enter Tryz.func83, Tryz.ntmps83
    go_wp2_with (go_at_call 81; (with_reducible refine (K.out _ ?_).mono ?_); (exact bl); rintro e w1 ⟨rfl, hb1⟩)
    go_ret
    exact ⟨rfl, bl⟩
set_option maxHeartbeats 1000000 in
set_option maxRecDepth 20000 in
theorem sh_enum (e : va.En) (w : World) (hs : Std w) (hR : Rd w w.heap.size e.A (va.ss e.tags)) (h1 : e.name.size ≤ 140737488351232) (h2 : e.tags.length ≤ maxLen ∧ e.tags.length ≤ e.c) (h3 : ∀ b ∈ e.tags, b.size ≤ 140737488351232) :
    Calls Tryz.prog 48 #[.agg #[.string e.name, .slice e.A e.tags.length e.c]] w (Bel (.int .i64 (enumE e)) w) := by
  have K := Lib.hid (fun W (h : Below w.heap.size w W) => ident_any e.name W (hs.to h) h1)
  have KF : Hid (∀ W, Below w.heap.size w W → Calls Tryz.prog 82 #[.slice e.A e.tags.length e.c, .func (.func 83) #[] #[]] W (Bel (.int .i64 (errs (e.tags.map idE))) W)) := Lib.hid fun W h =>
    first_string_checkIdent ⟨e.A, e.c, e.tags⟩ idE W ((rdr_of_ss hR h2.1 h2.2).blw oneB_B h h.size) (Lib.hid fun y hy W' h' => sh_ident y W' (hs.to (h.trans (h'.mono h.size))) (h3 y hy))
  have h9 := h2.1
  unfold maxLen at h9
  unfold enumE
  generalize errs (e.tags.map idE) = v at *
  generalize idP e.name = b at *
  clear hR h3 h2 h1 hs
  cases b
  · go_enter Tryz.func48, Tryz.ntmps48
    go_wp2_with (go_at_call 81; (with_reducible refine (K.out _ ?_).mono ?_); (exact bl); rintro e w1 ⟨rfl, hb1⟩; obtain ⟨g0, g1, g2⟩ := B1E (w := w) (W := w1) e bl)
    go_ret
    exact ⟨rfl, bl⟩
  · by_cases z0 : e.tags.length = 0
    · have q0 : ((e.tags.length : Int) == 0) = true := by simp [z0]
      rw [if_pos rfl, if_pos z0]
      clear z0
      go_enter Tryz.func48, Tryz.ntmps48
      go_wp2_with (go_at_call 81; (with_reducible refine (K.out _ ?_).mono ?_); (exact bl); rintro e w1 ⟨rfl, hb1⟩; obtain ⟨g0, g1, g2⟩ := B1E (w := w) (W := w1) e bl)
      go_ret
      exact ⟨rfl, bl⟩
    · by_cases z1 : 16 < e.tags.length
      · have q0 : ((e.tags.length : Int) == 0) = false := by simp [z0]
        have q1 : (16 : Int) < (e.tags.length : Int) := by omega
        rw [if_pos rfl, if_neg z0, if_pos z1]
        clear z0 z1
        go_enter Tryz.func48, Tryz.ntmps48
        go_wp2_with (go_at_call 81; (with_reducible refine (K.out _ ?_).mono ?_); (exact bl); rintro e w1 ⟨rfl, hb1⟩; obtain ⟨g0, g1, g2⟩ := B1E (w := w) (W := w1) e bl)
        go_ret
        exact ⟨rfl, bl⟩
      · have q0 : ((e.tags.length : Int) == 0) = false := by simp [z0]
        have q1 : (e.tags.length : Int) ≤ (16 : Int) := by omega
        rw [if_pos rfl, if_neg z0, if_neg z1]
        clear z0 z1
        go_enter Tryz.func48, Tryz.ntmps48
        go_wp2_with (first | (go_at_call 81; (with_reducible refine (K.out _ ?_).mono ?_); (exact bl); rintro e w1 ⟨rfl, hb1⟩; obtain ⟨g0, g1, g2⟩ := B1E (w := w) (W := w1) e bl) | (go_at_call 82; (with_reducible refine (KF.out _ ?_).mono ?_); (exact bl); rintro e w2 ⟨rfl, hb2⟩))
        go_ret
        exact ⟨rfl, bl⟩
set_option maxHeartbeats 1000000 in
set_option maxRecDepth 20000 in
theorem sh_declared (E : Rw va.En) (d : Dt) (w : World) (hs : Std w) (hE : RsE w w.heap.size E) (h1 : d.nm.size ≤ 140737488351232) (h2 : d.ty ≤ 9223372036854775807) :
    Calls Tryz.prog 156 #[ckV E, dV d] w (Bel (.int .i64 (dclE E.l d)) w) := by
  have K := Lib.hid (fun W (h : Below w.heap.size w W) => ident_any d.nm W (hs.to h) h1)
  have KN := Lib.hid (fun W (h : Below w.heap.size w W) => va.name_any E.A E.c E.l d.ty W (hE.blw h h.size).1 hE.len h2)
  unfold dclE
  generalize idP d.nm = b1 at *
  generalize va.valB E.l d.ty = b2 at *
  generalize va.nameT E.l d.ty = nt at *
  clear hs hE h1 h2
  cases b1
  · go_enter Tryz.func156, Tryz.ntmps156
    go_wp2_with (go_at_call 81; (with_reducible refine (K.out _ ?_).mono ?_); (exact bl); rintro e w1 ⟨rfl, hb1⟩; obtain ⟨g0, g1, g2, g3, g4⟩ := B2D (w := w) (W := w1) E d bl)
    go_ret
    exact ⟨rfl, bl⟩
  · cases b2
    all_goals
      go_enter Tryz.func156, Tryz.ntmps156
      go_wp2_with (first | (go_at_call 81; (with_reducible refine (K.out _ ?_).mono ?_); (exact bl); rintro e w1 ⟨rfl, hb1⟩; obtain ⟨g0, g1, g2, g3, g4⟩ := B2D (w := w) (W := w1) E d bl) | (go_at_call 126; (with_reducible refine (KN.out _ ?_).mono ?_); (exact bl); rintro e w2 ⟨rfl, hb2⟩))
      go_ret
      exact ⟨rfl, bl⟩
set_option maxHeartbeats 1000000 in
set_option maxRecDepth 20000 in
theorem sh_sampling (E : Rw va.En) (o : Ot) (w : World) (hs : Std w) (hE : RsE w w.heap.size E) (h1 : o.nm.size ≤ 140737488351232) (h2 : o.t ≤ 9223372036854775807) :
    Calls Tryz.prog 158 #[ckV E, oV o] w (Bel (.int .i64 (onE E.l o)) w) := by
  have K := Lib.hid (fun W (h : Below w.heap.size w W) => ident_any o.nm W (hs.to h) h1)
  have KH := Lib.hid (fun W (h : Below w.heap.size w W) => va.has_any E.A E.c E.l o.t o.tag W (hE.blw h h.size).1 hE.len h2)
  unfold onE
  generalize idP o.nm = b1 at *
  generalize va.hasB E.l o.t o.tag = b2 at *
  clear hs hE h1 h2
  cases b1
  · go_enter Tryz.func158, Tryz.ntmps158
    go_wp2_with (go_at_call 81; (with_reducible refine (K.out _ ?_).mono ?_); (exact bl); rintro e w1 ⟨rfl, hb1⟩; obtain ⟨g0, g1, g2, g3, g4⟩ := B2O (w := w) (W := w1) E o bl)
    go_ret
    exact ⟨rfl, bl⟩
  · rw [if_pos rfl]
    by_cases z : o.t = 2
    · have q : (o.t == 2) = true := by simp [z]
      rw [if_pos (.inl z)]
      clear z
      go_enter Tryz.func158, Tryz.ntmps158
      go_wp2_with (first | (go_at_call 81; (with_reducible refine (K.out _ ?_).mono ?_); (exact bl); rintro e w1 ⟨rfl, hb1⟩; obtain ⟨g0, g1, g2, g3, g4⟩ := B2O (w := w) (W := w1) E o bl) | (go_at_call 39; (with_reducible refine (KH.out _ ?_).mono ?_); (exact bl); rintro e w2 ⟨rfl, hb2⟩))
      go_ret
      exact ⟨rfl, bl⟩
    · have q : (o.t == 2) = false := by simp [z]
      cases b2
      · rw [if_pos (.inr rfl)]
        clear z
        go_enter Tryz.func158, Tryz.ntmps158
        go_wp2_with (first | (go_at_call 81; (with_reducible refine (K.out _ ?_).mono ?_); (exact bl); rintro e w1 ⟨rfl, hb1⟩; obtain ⟨g0, g1, g2, g3, g4⟩ := B2O (w := w) (W := w1) E o bl) | (go_at_call 39; (with_reducible refine (KH.out _ ?_).mono ?_); (exact bl); rintro e w2 ⟨rfl, hb2⟩))
        go_ret
        exact ⟨rfl, bl⟩
      · rw [if_neg (by simp [z])]
        clear z
        go_enter Tryz.func158, Tryz.ntmps158
        go_wp2_with (first | (go_at_call 81; (with_reducible refine (K.out _ ?_).mono ?_); (exact bl); rintro e w1 ⟨rfl, hb1⟩; obtain ⟨g0, g1, g2, g3, g4⟩ := B2O (w := w) (W := w1) E o bl) | (go_at_call 39; (with_reducible refine (KH.out _ ?_).mono ?_); (exact bl); rintro e w2 ⟨rfl, hb2⟩))
        go_ret
        exact ⟨rfl, bl⟩
set_option maxHeartbeats 1000000 in
set_option maxRecDepth 20000 in
theorem sh_port (E : Rw va.En) (d : Dt) (w : World) (hs : Std w) (hE : RsE w w.heap.size E) (hd : RsD w w.heap.size d) :
    Calls Tryz.prog 119 #[ckV E, dV d] w (Bel (.int .i64 (portE E.l d)) w) := by
  have K := Lib.hid (fun W (h : Below w.heap.size w W) => sh_declared E d W (hs.to h) (hE.blw h h.size) hd.1.1 hd.1.2)
  have h9 := hd.2.1.len
  unfold maxLen at h9
  unfold portE
  generalize dclE E.l d = v at *
  clear hs hE hd
  by_cases hv : v = 0
  · subst hv
    rw [orE0]
    by_cases hn : 0 < d.ck.l.length
    · have q : (0 : Int) < (d.ck.l.length : Int) := by omega
      rw [if_pos hn]
      clear hn
      go_enter Tryz.func119, Tryz.ntmps119
      go_wp2_with (go_at_call 156; (with_reducible refine (K.out _ ?_).mono ?_); (exact bl); rintro e w1 ⟨rfl, hb1⟩; obtain ⟨g0, g1, g2, g3, g4⟩ := B2D (w := w) (W := w1) E d bl)
      go_ret
      exact ⟨rfl, bl⟩
    · have q : (d.ck.l.length : Int) ≤ (0 : Int) := by omega
      rw [if_neg hn]
      clear hn
      go_enter Tryz.func119, Tryz.ntmps119
      go_wp2_with (go_at_call 156; (with_reducible refine (K.out _ ?_).mono ?_); (exact bl); rintro e w1 ⟨rfl, hb1⟩; obtain ⟨g0, g1, g2, g3, g4⟩ := B2D (w := w) (W := w1) E d bl)
      go_ret
      exact ⟨rfl, bl⟩
  · have q : (v == 0) = false := by simp [hv]
    rw [orEn hv]
    clear hv
    go_enter Tryz.func119, Tryz.ntmps119
    go_wp2_with (go_at_call 156; (with_reducible refine (K.out _ ?_).mono ?_); (exact bl); rintro e w1 ⟨rfl, hb1⟩; obtain ⟨g0, g1, g2, g3, g4⟩ := B2D (w := w) (W := w1) E d bl)
    go_ret
    exact ⟨rfl, bl⟩
set_option maxHeartbeats 1000000 in
set_option maxRecDepth 20000 in
theorem sh_local (E : Rw va.En) (d : Dt) (w : World) (hs : Std w) (hE : RsE w w.heap.size E) (hd : RsD w w.heap.size d) :
    Calls Tryz.prog 120 #[ckV E, dV d] w (Bel (.int .i64 (locE E.l d)) w) := by
  have K := Lib.hid (fun W (h : Below w.heap.size w W) => sh_declared E d W (hs.to h) (hE.blw h h.size) hd.1.1 hd.1.2)
  have KF : Hid (∀ W, Below w.heap.size w W → Calls Tryz.prog 157 #[.slice d.ck.A d.ck.l.length d.ck.c, .func (.func 158) #[ckV E] #[]] W (Bel (.int .i64 (errs (d.ck.l.map (onE E.l)))) W)) := Lib.hid fun W h =>
    first_On_sampling (ckV E) d.ck (onE E.l) W ((hd.2.blw h h.size).1) (Lib.hid fun y hy W' h' => sh_sampling E y W' (hs.to (h.trans (h'.mono h.size))) (hE.blw (h.trans (h'.mono h.size)) (Nat.le_trans h.size h'.size)) (hd.2.2 y hy).1 (hd.2.2 y hy).2)
  have h9 := hd.2.1.len
  unfold maxLen at h9
  unfold locE
  generalize errs (d.ck.l.map (onE E.l)) = u at *
  generalize dclE E.l d = v at *
  clear hs hE hd
  by_cases hv : v = 0
  · subst hv
    rw [orE0]
    by_cases hn : 4 < d.ck.l.length
    · have q : (4 : Int) < (d.ck.l.length : Int) := by omega
      rw [if_pos hn]
      clear hn
      go_enter Tryz.func120, Tryz.ntmps120
      go_wp2_with (go_at_call 156; (with_reducible refine (K.out _ ?_).mono ?_); (exact bl); rintro e w1 ⟨rfl, hb1⟩; obtain ⟨g0, g1, g2, g3, g4⟩ := B2D (w := w) (W := w1) E d bl)
      go_ret
      exact ⟨rfl, bl⟩
    · have q : (d.ck.l.length : Int) ≤ (4 : Int) := by omega
      rw [if_neg hn]
      clear hn
      go_enter Tryz.func120, Tryz.ntmps120
      go_wp2_with (first | (go_at_call 156; (with_reducible refine (K.out _ ?_).mono ?_); (exact bl); rintro e w1 ⟨rfl, hb1⟩; obtain ⟨g0, g1, g2, g3, g4⟩ := B2D (w := w) (W := w1) E d bl) | (go_at_call 157; (with_reducible refine (KF.out _ ?_).mono ?_); (exact bl); rintro e w2 ⟨rfl, hb2⟩))
      go_ret
      exact ⟨rfl, bl⟩
  · have q : (v == 0) = false := by simp [hv]
    rw [orEn hv]
    clear hv
    go_enter Tryz.func120, Tryz.ntmps120
    go_wp2_with (go_at_call 156; (with_reducible refine (K.out _ ?_).mono ?_); (exact bl); rintro e w1 ⟨rfl, hb1⟩; obtain ⟨g0, g1, g2, g3, g4⟩ := B2D (w := w) (W := w1) E d bl)
    go_ret
    exact ⟨rfl, bl⟩
end Go.Proofs.YtoimjcfdiljkjaaGreatDoor
namespace Go.Proofs.YtoimjcfdiljkjaaGreatDoor
open Go.RowKit
set_option maxHeartbeats 1000000 in
set_option maxRecDepth 20000 in
theorem first_State_state1 (f0 : Value) (f1 : Value) (f2 : Value) (r : Rw (St)) (err : St → Int) (w : World) (hR : RdR w w.heap.size 6 SC r)
    (K : Hid (∀ y ∈ r.l, ∀ W, Below w.heap.size w W → Calls Tryz.prog 159 #[sV y, f0, f1, f2] W (Bel (.int .i64 (err y)) W))) :
    Calls Tryz.prog 122 #[.slice r.A r.l.length r.c, .func (.func 159) #[] #[f0, f1, f2]] w (Bel (.int .i64 (errs (r.l.map err))) w) := by
  have h9 := hR.len
  unfold maxLen at h9
  have HR := Lib.hid hR
  obtain ⟨E, hE0, hEl, HE⟩ := errs_steps r.l err
  rw [← hE0]
  obtain ⟨V, hV⟩ : ∃ V, E 0 = V := ⟨_, rfl⟩
  have HV := Lib.hid hV
  have HL := Lib.hid hEl
  rw [hV]
  clear hR hE0 hEl hV
  skip
  go_enter Tryz.func122, Tryz.ntmps122
  go_wp2
  go_loopw [10] (fun i wr => ∃ k : Nat, k ≤ r.l.length ∧ i = .int .i64 (k : Int) ∧ Hid (E k = V) ∧ Below w.heap.size w wr) (fun i _ => r.l.length - (intOf i).toNat)
  case atStart => exact ⟨0, by omega, rfl, HV, Below.refl _ _⟩
  case round =>
    obtain ⟨k, hk, rfl, hE, hbl⟩ := hrel
    by_cases hlt : k < r.l.length
    · obtain ⟨ad, y, hA, had, hy, hm, ⟨c0, c1, c2, c3, c4, c5⟩⟩ := (HR.out.blw oneB_S hbl hbl.size).at_ hlt
      rw [hA]
      clear hA
      have hs := HE.out k y hy
      have KY := Lib.hid (K.out y hm)
      clear hy hm HE
      generalize err y = v at *
      by_cases hv : v = 0
      · subst hv
        have hn : Hid (E (k + 1) = V) := Lib.hid (by rw [← hE.out, hs]; rfl)
        clear hs hE
        go_wp2_with (go_at_call 159; (with_reducible refine (KY.out _ ?_).mono ?_); (exact bl); rintro e w1 ⟨rfl, hb1⟩)
        exact ⟨⟨k + 1, by omega, by congr 1, hn, bl⟩, by simp [intOf]; omega⟩
      · have hv2 : v = V := by rw [← hE.out, hs, orE, if_neg hv]
        have e0 : (v == 0) = false := by simp [hv]
        clear hs hE hv
        go_wp2_with (go_at_call 159; (with_reducible refine (KY.out _ ?_).mono ?_); (exact bl); rintro e w1 ⟨rfl, hb1⟩)
        go_ret
        exact ⟨(by first | rfl | exact congrArg (fun z : Int => Ending.returned (.int .i64 z)) hv2), bl⟩
    · obtain rfl : k = r.l.length := by omega
      have hv2 : 0 = V := HL.out.symm.trans hE.out
      clear hE HE HV HL
      go_wp2
      go_ret
      exact ⟨(by first | rfl | exact congrArg (fun z : Int => Ending.returned (.int .i64 z)) hv2), hbl⟩
set_option maxHeartbeats 1000000 in
set_option maxRecDepth 20000 in
theorem first_Trans_transition1 (f0 : Value) (f1 : Value) (r : Rw (Tt)) (err : Tt → Int) (w : World) (hR : RdR w w.heap.size 8 TC r)
    (K : Hid (∀ y ∈ r.l, ∀ W, Below w.heap.size w W → Calls Tryz.prog 186 #[tV y, f0, f1] W (Bel (.int .i64 (err y)) W))) :
    Calls Tryz.prog 161 #[.slice r.A r.l.length r.c, .func (.func 186) #[] #[f0, f1]] w (Bel (.int .i64 (errs (r.l.map err))) w) := by
  have h9 := hR.len
  unfold maxLen at h9
  have HR := Lib.hid hR
  obtain ⟨E, hE0, hEl, HE⟩ := errs_steps r.l err
  rw [← hE0]
  obtain ⟨V, hV⟩ : ∃ V, E 0 = V := ⟨_, rfl⟩
  have HV := Lib.hid hV
  have HL := Lib.hid hEl
  rw [hV]
  clear hR hE0 hEl hV
  skip
  go_enter Tryz.func161, Tryz.ntmps161
  go_wp2
  go_loopw [10] (fun i wr => ∃ k : Nat, k ≤ r.l.length ∧ i = .int .i64 (k : Int) ∧ Hid (E k = V) ∧ Below w.heap.size w wr) (fun i _ => r.l.length - (intOf i).toNat)
  case atStart => exact ⟨0, by omega, rfl, HV, Below.refl _ _⟩
  case round =>
    obtain ⟨k, hk, rfl, hE, hbl⟩ := hrel
    by_cases hlt : k < r.l.length
    · obtain ⟨ad, y, hA, had, hy, hm, ⟨⟨c0, c1, c2, c3, c4, c5⟩, c6, c7⟩⟩ := (HR.out.blw oneB_T hbl hbl.size).at_ hlt
      rw [hA]
      clear hA
      have hs := HE.out k y hy
      have KY := Lib.hid (K.out y hm)
      clear hy hm HE
      generalize err y = v at *
      by_cases hv : v = 0
      · subst hv
        have hn : Hid (E (k + 1) = V) := Lib.hid (by rw [← hE.out, hs]; rfl)
        clear hs hE
        go_wp2_with (go_at_call 186; (with_reducible refine (KY.out _ ?_).mono ?_); (exact bl); rintro e w1 ⟨rfl, hb1⟩)
        exact ⟨⟨k + 1, by omega, by congr 1, hn, bl⟩, by simp [intOf]; omega⟩
      · have hv2 : v = V := by rw [← hE.out, hs, orE, if_neg hv]
        have e0 : (v == 0) = false := by simp [hv]
        clear hs hE hv
        go_wp2_with (go_at_call 186; (with_reducible refine (KY.out _ ?_).mono ?_); (exact bl); rintro e w1 ⟨rfl, hb1⟩)
        go_ret
        exact ⟨(by first | rfl | exact congrArg (fun z : Int => Ending.returned (.int .i64 z)) hv2), bl⟩
    · obtain rfl : k = r.l.length := by omega
      have hv2 : 0 = V := HL.out.symm.trans hE.out
      clear hE HE HV HL
      go_wp2
      go_ret
      exact ⟨(by first | rfl | exact congrArg (fun z : Int => Ending.returned (.int .i64 z)) hv2), hbl⟩
set_option maxHeartbeats 1000000 in
set_option maxRecDepth 20000 in
theorem first_Trans_unless1 (f0 : Value) (r : Rw (Tt)) (err : Tt → Int) (w : World) (hR : RdR w w.heap.size 8 TC r)
    (K : Hid (∀ y ∈ r.l, ∀ W, Below w.heap.size w W → Calls Tryz.prog 184 #[tV y, f0] W (Bel (.int .i64 (err y)) W))) :
    Calls Tryz.prog 161 #[.slice r.A r.l.length r.c, .func (.func 184) #[] #[f0]] w (Bel (.int .i64 (errs (r.l.map err))) w) := by
  have h9 := hR.len
  unfold maxLen at h9
  have HR := Lib.hid hR
  obtain ⟨E, hE0, hEl, HE⟩ := errs_steps r.l err
  rw [← hE0]
  obtain ⟨V, hV⟩ : ∃ V, E 0 = V := ⟨_, rfl⟩
  have HV := Lib.hid hV
  have HL := Lib.hid hEl
  rw [hV]
  clear hR hE0 hEl hV
  skip
  go_enter Tryz.func161, Tryz.ntmps161
  go_wp2
  go_loopw [10] (fun i wr => ∃ k : Nat, k ≤ r.l.length ∧ i = .int .i64 (k : Int) ∧ Hid (E k = V) ∧ Below w.heap.size w wr) (fun i _ => r.l.length - (intOf i).toNat)
  case atStart => exact ⟨0, by omega, rfl, HV, Below.refl _ _⟩
  case round =>
    obtain ⟨k, hk, rfl, hE, hbl⟩ := hrel
    by_cases hlt : k < r.l.length
    · obtain ⟨ad, y, hA, had, hy, hm, ⟨⟨c0, c1, c2, c3, c4, c5⟩, c6, c7⟩⟩ := (HR.out.blw oneB_T hbl hbl.size).at_ hlt
      rw [hA]
      clear hA
      have hs := HE.out k y hy
      have KY := Lib.hid (K.out y hm)
      clear hy hm HE
      generalize err y = v at *
      by_cases hv : v = 0
      · subst hv
        have hn : Hid (E (k + 1) = V) := Lib.hid (by rw [← hE.out, hs]; rfl)
        clear hs hE
        go_wp2_with (go_at_call 184; (with_reducible refine (KY.out _ ?_).mono ?_); (exact bl); rintro e w1 ⟨rfl, hb1⟩)
        exact ⟨⟨k + 1, by omega, by congr 1, hn, bl⟩, by simp [intOf]; omega⟩
      · have hv2 : v = V := by rw [← hE.out, hs, orE, if_neg hv]
        have e0 : (v == 0) = false := by simp [hv]
        clear hs hE hv
        go_wp2_with (go_at_call 184; (with_reducible refine (KY.out _ ?_).mono ?_); (exact bl); rintro e w1 ⟨rfl, hb1⟩)
        go_ret
        exact ⟨(by first | rfl | exact congrArg (fun z : Int => Ending.returned (.int .i64 z)) hv2), bl⟩
    · obtain rfl : k = r.l.length := by omega
      have hv2 : 0 = V := HL.out.symm.trans hE.out
      clear hE HE HV HL
      go_wp2
      go_ret
      exact ⟨(by first | rfl | exact congrArg (fun z : Int => Ending.returned (.int .i64 z)) hv2), hbl⟩
set_option maxHeartbeats 1000000 in
set_option maxRecDepth 20000 in
theorem first_Expr_expr (b0 : Value) (r : Rw (Xt)) (err : Xt → Int) (w : World) (hR : RdR w w.heap.size 6 XC r)
    (K : Hid (∀ y ∈ r.l, ∀ W, Below w.heap.size w W → Calls Tryz.prog 62 #[b0, xV y] W (Bel (.int .i64 (err y)) W))) :
    Calls Tryz.prog 88 #[.slice r.A r.l.length r.c, .func (.func 62) #[b0] #[]] w (Bel (.int .i64 (errs (r.l.map err))) w) := by
  have h9 := hR.len
  unfold maxLen at h9
  have HR := Lib.hid hR
  obtain ⟨E, hE0, hEl, HE⟩ := errs_steps r.l err
  rw [← hE0]
  obtain ⟨V, hV⟩ : ∃ V, E 0 = V := ⟨_, rfl⟩
  have HV := Lib.hid hV
  have HL := Lib.hid hEl
  rw [hV]
  clear hR hE0 hEl hV
  simp only [xV] at K ⊢
  go_enter Tryz.func88, Tryz.ntmps88
  go_wp2
  go_loopw [10] (fun i wr => ∃ k : Nat, k ≤ r.l.length ∧ i = .int .i64 (k : Int) ∧ Hid (E k = V) ∧ Below w.heap.size w wr) (fun i _ => r.l.length - (intOf i).toNat)
  case atStart => exact ⟨0, by omega, rfl, HV, Below.refl _ _⟩
  case round =>
    obtain ⟨k, hk, rfl, hE, hbl⟩ := hrel
    by_cases hlt : k < r.l.length
    · obtain ⟨ad, y, hA, had, hy, hm, ⟨c0, c1, c2, c3, c4, c5⟩⟩ := (HR.out.blw oneB_X hbl hbl.size).at_ hlt
      rw [hA]
      clear hA
      have hs := HE.out k y hy
      have KY := Lib.hid (K.out y hm)
      clear hy hm HE
      generalize err y = v at *
      by_cases hv : v = 0
      · subst hv
        have hn : Hid (E (k + 1) = V) := Lib.hid (by rw [← hE.out, hs]; rfl)
        clear hs hE
        go_wp2_with (go_at_call 62; (with_reducible refine (KY.out _ ?_).mono ?_); (exact bl); rintro e w1 ⟨rfl, hb1⟩)
        exact ⟨⟨k + 1, by omega, by congr 1, hn, bl⟩, by simp [intOf]; omega⟩
      · have hv2 : v = V := by rw [← hE.out, hs, orE, if_neg hv]
        have e0 : (v == 0) = false := by simp [hv]
        clear hs hE hv
        go_wp2_with (go_at_call 62; (with_reducible refine (KY.out _ ?_).mono ?_); (exact bl); rintro e w1 ⟨rfl, hb1⟩)
        go_ret
        exact ⟨(by first | rfl | exact congrArg (fun z : Int => Ending.returned (.int .i64 z)) hv2), bl⟩
    · obtain rfl : k = r.l.length := by omega
      have hv2 : 0 = V := HL.out.symm.trans hE.out
      clear hE HE HV HL
      go_wp2
      go_ret
      exact ⟨(by first | rfl | exact congrArg (fun z : Int => Ending.returned (.int .i64 z)) hv2), hbl⟩
set_option maxHeartbeats 1000000 in
set_option maxRecDepth 20000 in
theorem first_Expr_within (b0 : Value) (r : Rw (Xt)) (err : Xt → Int) (w : World) (hR : RdR w w.heap.size 6 XC r)
    (K : Hid (∀ y ∈ r.l, ∀ W, Below w.heap.size w W → Calls Tryz.prog 102 #[b0, xV y] W (Bel (.int .i64 (err y)) W))) :
    Calls Tryz.prog 88 #[.slice r.A r.l.length r.c, .func (.func 102) #[b0] #[]] w (Bel (.int .i64 (errs (r.l.map err))) w) := by
  have h9 := hR.len
  unfold maxLen at h9
  have HR := Lib.hid hR
  obtain ⟨E, hE0, hEl, HE⟩ := errs_steps r.l err
  rw [← hE0]
  obtain ⟨V, hV⟩ : ∃ V, E 0 = V := ⟨_, rfl⟩
  have HV := Lib.hid hV
  have HL := Lib.hid hEl
  rw [hV]
  clear hR hE0 hEl hV
  simp only [xV] at K ⊢
  go_enter Tryz.func88, Tryz.ntmps88
  go_wp2
  go_loopw [10] (fun i wr => ∃ k : Nat, k ≤ r.l.length ∧ i = .int .i64 (k : Int) ∧ Hid (E k = V) ∧ Below w.heap.size w wr) (fun i _ => r.l.length - (intOf i).toNat)
  case atStart => exact ⟨0, by omega, rfl, HV, Below.refl _ _⟩
  case round =>
    obtain ⟨k, hk, rfl, hE, hbl⟩ := hrel
    by_cases hlt : k < r.l.length
    · obtain ⟨ad, y, hA, had, hy, hm, ⟨c0, c1, c2, c3, c4, c5⟩⟩ := (HR.out.blw oneB_X hbl hbl.size).at_ hlt
      rw [hA]
      clear hA
      have hs := HE.out k y hy
      have KY := Lib.hid (K.out y hm)
      clear hy hm HE
      generalize err y = v at *
      by_cases hv : v = 0
      · subst hv
        have hn : Hid (E (k + 1) = V) := Lib.hid (by rw [← hE.out, hs]; rfl)
        clear hs hE
        go_wp2_with (go_at_call 102; (with_reducible refine (KY.out _ ?_).mono ?_); (exact bl); rintro e w1 ⟨rfl, hb1⟩)
        exact ⟨⟨k + 1, by omega, by congr 1, hn, bl⟩, by simp [intOf]; omega⟩
      · have hv2 : v = V := by rw [← hE.out, hs, orE, if_neg hv]
        have e0 : (v == 0) = false := by simp [hv]
        clear hs hE hv
        go_wp2_with (go_at_call 102; (with_reducible refine (KY.out _ ?_).mono ?_); (exact bl); rintro e w1 ⟨rfl, hb1⟩)
        go_ret
        exact ⟨(by first | rfl | exact congrArg (fun z : Int => Ending.returned (.int .i64 z)) hv2), bl⟩
    · obtain rfl : k = r.l.length := by omega
      have hv2 : 0 = V := HL.out.symm.trans hE.out
      clear hE HE HV HL
      go_wp2
      go_ret
      exact ⟨(by first | rfl | exact congrArg (fun z : Int => Ending.returned (.int .i64 z)) hv2), hbl⟩
set_option maxHeartbeats 1000000 in
set_option maxRecDepth 20000 in
theorem first_Eq_equation (b0 : Value) (r : Rw (Qt)) (err : Qt → Int) (w : World) (hR : RdR w w.heap.size 7 QC r)
    (K : Hid (∀ y ∈ r.l, ∀ W, Below w.heap.size w W → Calls Tryz.prog 85 #[b0, qV y] W (Bel (.int .i64 (err y)) W))) :
    Calls Tryz.prog 160 #[.slice r.A r.l.length r.c, .func (.func 85) #[b0] #[]] w (Bel (.int .i64 (errs (r.l.map err))) w) := by
  have h9 := hR.len
  unfold maxLen at h9
  have HR := Lib.hid hR
  obtain ⟨E, hE0, hEl, HE⟩ := errs_steps r.l err
  rw [← hE0]
  obtain ⟨V, hV⟩ : ∃ V, E 0 = V := ⟨_, rfl⟩
  have HV := Lib.hid hV
  have HL := Lib.hid hEl
  rw [hV]
  clear hR hE0 hEl hV
  skip
  go_enter Tryz.func160, Tryz.ntmps160
  go_wp2
  go_loopw [10] (fun i wr => ∃ k : Nat, k ≤ r.l.length ∧ i = .int .i64 (k : Int) ∧ Hid (E k = V) ∧ Below w.heap.size w wr) (fun i _ => r.l.length - (intOf i).toNat)
  case atStart => exact ⟨0, by omega, rfl, HV, Below.refl _ _⟩
  case round =>
    obtain ⟨k, hk, rfl, hE, hbl⟩ := hrel
    by_cases hlt : k < r.l.length
    · obtain ⟨ad, y, hA, had, hy, hm, ⟨c0, c1, c2, c3, c4, c5, c6⟩⟩ := (HR.out.blw oneB_Q hbl hbl.size).at_ hlt
      rw [hA]
      clear hA
      have hs := HE.out k y hy
      have KY := Lib.hid (K.out y hm)
      clear hy hm HE
      generalize err y = v at *
      by_cases hv : v = 0
      · subst hv
        have hn : Hid (E (k + 1) = V) := Lib.hid (by rw [← hE.out, hs]; rfl)
        clear hs hE
        go_wp2_with (go_at_call 85; (with_reducible refine (KY.out _ ?_).mono ?_); (exact bl); rintro e w1 ⟨rfl, hb1⟩)
        exact ⟨⟨k + 1, by omega, by congr 1, hn, bl⟩, by simp [intOf]; omega⟩
      · have hv2 : v = V := by rw [← hE.out, hs, orE, if_neg hv]
        have e0 : (v == 0) = false := by simp [hv]
        clear hs hE hv
        go_wp2_with (go_at_call 85; (with_reducible refine (KY.out _ ?_).mono ?_); (exact bl); rintro e w1 ⟨rfl, hb1⟩)
        go_ret
        exact ⟨(by first | rfl | exact congrArg (fun z : Int => Ending.returned (.int .i64 z)) hv2), bl⟩
    · obtain rfl : k = r.l.length := by omega
      have hv2 : 0 = V := HL.out.symm.trans hE.out
      clear hE HE HV HL
      go_wp2
      go_ret
      exact ⟨(by first | rfl | exact congrArg (fun z : Int => Ending.returned (.int .i64 z)) hv2), hbl⟩
end Go.Proofs.YtoimjcfdiljkjaaGreatDoor
namespace Go.Proofs.YtoimjcfdiljkjaaGreatDoor
open Go.RowKit
theorem named_any (n : Int) (w : World) : Calls Tryz.prog 112 #[.int .i64 n] w (Bel (.bool (hasIdn n)) w) := by
  go_enter Tryz.func112, Tryz.ntmps112
  go_wp2
  all_goals go_ret
  all_goals exact ⟨ret_bool (by simp_all [hasIdn, hasVar]), bl⟩
def tagP (t v : Int) : Bool := decide (t = 1 ∧ (v = 0 ∨ v = 1) ∨ 3 ≤ t ∧ 0 ≤ v ∧ v < 16)
theorem tagged_any (t v : Int) (w : World) : Calls Tryz.prog 143 #[.int .i64 t, .int .i64 v] w (Bel (.bool (tagP t v)) w) := by
  go_enter Tryz.func143, Tryz.ntmps143
  go_wp2
  all_goals go_ret
  all_goals refine ⟨ret_bool ?_, bl⟩
  all_goals (rw [Bool.eq_iff_iff]; simp_all [tagP]; try omega)
def argP (k op t v n : Int) : Bool :=
  if k = 1 ∨ k = 2 ∨ k = 11 then n == 0 else if k = 3 then n == opnds op else if k = 4 then n == 3 else if k = 5 ∨ k = 8 then n == 1 else if k = 6 ∨ k = 7 then n == 2 else if k = 9 then (if t = 1 then n == 2 else decide (1 ≤ n ∧ n ≤ 16)) else decide (1 ≤ n) || v == 0
set_option maxHeartbeats 2000000 in
set_option maxRecDepth 20000 in
theorem args_any (x : Xt) (w : World) : Calls Tryz.prog 142 #[xV x] w (Bel (.bool (argP x.k x.op x.t x.v x.ar.length)) w) := by
  cases x with
  | mk k op t v nm A c ar =>
    simp only [xV, Xt.k, Xt.op, Xt.t, Xt.v, Xt.nm, Xt.A, Xt.c, Xt.ar]
    by_cases h1 : k = 1
    · subst h1
      go_enter Tryz.func142, Tryz.ntmps142
      go_wp2
      all_goals go_ret
      all_goals refine ⟨ret_bool ?_, bl⟩
      all_goals (rw [Bool.eq_iff_iff]; simp_all [argP, opnds]; try omega)
    by_cases h2 : k = 2
    · subst h2
      go_enter Tryz.func142, Tryz.ntmps142
      go_wp2
      all_goals go_ret
      all_goals refine ⟨ret_bool ?_, bl⟩
      all_goals (rw [Bool.eq_iff_iff]; simp_all [argP, opnds]; try omega)
    by_cases h11 : k = 11
    · subst h11
      go_enter Tryz.func142, Tryz.ntmps142
      go_wp2
      all_goals go_ret
      all_goals refine ⟨ret_bool ?_, bl⟩
      all_goals (rw [Bool.eq_iff_iff]; simp_all [argP, opnds]; try omega)
    by_cases h3 : k = 3
    · subst h3
      go_enter Tryz.func142, Tryz.ntmps142
      go_wp2
      all_goals go_ret
      all_goals refine ⟨ret_bool ?_, bl⟩
      all_goals (rw [Bool.eq_iff_iff]; simp_all [argP, opnds]; try omega)
    by_cases h4 : k = 4
    · subst h4
      go_enter Tryz.func142, Tryz.ntmps142
      go_wp2
      all_goals go_ret
      all_goals refine ⟨ret_bool ?_, bl⟩
      all_goals (rw [Bool.eq_iff_iff]; simp_all [argP, opnds]; try omega)
    by_cases h5 : k = 5
    · subst h5
      go_enter Tryz.func142, Tryz.ntmps142
      go_wp2
      all_goals go_ret
      all_goals refine ⟨ret_bool ?_, bl⟩
      all_goals (rw [Bool.eq_iff_iff]; simp_all [argP, opnds]; try omega)
    by_cases h8 : k = 8
    · subst h8
      go_enter Tryz.func142, Tryz.ntmps142
      go_wp2
      all_goals go_ret
      all_goals refine ⟨ret_bool ?_, bl⟩
      all_goals (rw [Bool.eq_iff_iff]; simp_all [argP, opnds]; try omega)
    by_cases h6 : k = 6
    · subst h6
      go_enter Tryz.func142, Tryz.ntmps142
      go_wp2
      all_goals go_ret
      all_goals refine ⟨ret_bool ?_, bl⟩
      all_goals (rw [Bool.eq_iff_iff]; simp_all [argP, opnds]; try omega)
    by_cases h7 : k = 7
    · subst h7
      go_enter Tryz.func142, Tryz.ntmps142
      go_wp2
      all_goals go_ret
      all_goals refine ⟨ret_bool ?_, bl⟩
      all_goals (rw [Bool.eq_iff_iff]; simp_all [argP, opnds]; try omega)
    by_cases h9 : k = 9
    · subst h9
      go_enter Tryz.func142, Tryz.ntmps142
      go_wp2
      all_goals go_ret
      all_goals refine ⟨ret_bool ?_, bl⟩
      all_goals (rw [Bool.eq_iff_iff]; simp_all [argP, opnds]; try omega)
    have q1 : (k == 1) = false := by simpa using h1
    have q2 : (k == 2) = false := by simpa using h2
    have q11 : (k == 11) = false := by simpa using h11
    have q3 : (k == 3) = false := by simpa using h3
    have q4 : (k == 4) = false := by simpa using h4
    have q5 : (k == 5) = false := by simpa using h5
    have q8 : (k == 8) = false := by simpa using h8
    have q6 : (k == 6) = false := by simpa using h6
    have q7 : (k == 7) = false := by simpa using h7
    have q9 : (k == 9) = false := by simpa using h9
    have e : argP k op t v (ar.length : Int) = (decide (1 ≤ (ar.length : Int)) || v == 0) := by
      rw [argP, if_neg (by omega), if_neg (by omega), if_neg (by omega), if_neg (by omega), if_neg (by omega), if_neg (by omega)]
    rw [e]
    clear e h1 h2 h11 h3 h4 h5 h8 h6 h7 h9
    go_enter Tryz.func142, Tryz.ntmps142
    go_wp2
    all_goals go_ret
    all_goals refine ⟨ret_bool ?_, bl⟩
    all_goals (first | rfl | (rw [Bool.eq_iff_iff]; done) | (rw [Bool.eq_iff_iff]; simp_all; done) | (rw [Bool.eq_iff_iff]; simp_all; omega))
end Go.Proofs.YtoimjcfdiljkjaaGreatDoor
namespace Go.Proofs.YtoimjcfdiljkjaaGreatDoor
open Go.RowKit
theorem bx6 {w W : World} {v0 v1 v2 v3 v4 v5 : Value} {T : TypeId} (h : Below (w.alloc (.cells #[v0, v1, v2, v3, v4, v5] T)).heap.size (w.alloc (.cells #[v0, v1, v2, v3, v4, v5] T)) W) :
    W.cell? ⟨w.heap.size, 0, none⟩ = some v0 ∧ W.cell? ⟨w.heap.size, 1, none⟩ = some v1 ∧ W.cell? ⟨w.heap.size, 2, none⟩ = some v2 ∧ W.cell? ⟨w.heap.size, 3, none⟩ = some v3 ∧ W.cell? ⟨w.heap.size, 4, none⟩ = some v4 ∧ W.cell? ⟨w.heap.size, 5, none⟩ = some v5 := by
  obtain ⟨hc, _, _⟩ := bcell h
  rw [hc _ _ (by simp), hc _ _ (by simp), hc _ _ (by simp), hc _ _ (by simp), hc _ _ (by simp), hc _ _ (by simp)]
  refine ⟨?_, ?_, ?_, ?_, ?_, ?_⟩ <;> simp [go_sem]
def formRP (k op t v : Int) (ba tg ne wok : Bool) : Bool :=
  if k < 1 ∨ 11 < k ∨ ba = false then false
  else if (k == 3) != (op != 0) || (op != 0 && decide (op < 1 ∨ 16 < op)) then false
  else if (!hasIdn k && (k != 11 && !ne)) = true then false
  else if k = 1 then (if t = 2 then decide (-32768 ≤ v ∧ v ≤ 32767) else tg)
  else if k = 8 then tg
  else if k = 9 then (t == 1 || decide (2 < t)) && v == 0
  else if k = 10 then t == 0 && (v == 0 || v == 1)
  else if k = 11 then t == 0 && v == 0 && wok
  else t == 0 && v == 0
set_option maxHeartbeats 4000000 in
set_option maxRecDepth 20000 in
theorem rform_any (x : Xt) (wok : Bool) (w : World) (KP : x.k = 11 → Hid (∀ W, Below w.heap.size w W → Calls Tryz.prog 144 #[.string x.nm] W (fun e w' => ∃ (A1 A2 : Option Addr) (n1 c1 n2 c2 : Nat) (er : Int), e = .returned (.tuple #[.agg #[.slice A1 n1 c1, .slice A2 n2 c2], .int .i64 er]) ∧ (er == 0) = wok ∧ Below W.heap.size W w'))) :
    Calls Tryz.prog 111 #[xV x] w (Bel (.bool (formRP x.k x.op x.t x.v (argP x.k x.op x.t x.v x.ar.length) (tagP x.t x.v) (x.nm.toList == []) wok)) w) := by
  have KA := Lib.hid (fun W => args_any x W)
  have KN := Lib.hid (fun W => named_any x.k W)
  have KT := Lib.hid (fun W => tagged_any x.t x.v W)
  generalize argP x.k x.op x.t x.v x.ar.length = ba at *
  generalize tagP x.t x.v = tg at *
  obtain ⟨ne, hne⟩ : ∃ ne, (x.nm.toList == []) = ne := ⟨_, rfl⟩
  rw [hne]
  cases x with
  | mk k op t v nm A c ar =>
    simp only [xV, Xt.k, Xt.op, Xt.t, Xt.v, Xt.nm, Xt.A, Xt.c, Xt.ar] at *
    by_cases h1 : k = 1
    · subst h1
      have hi : hasIdn 1 = false := rfl
      rw [hi] at KN
      clear KP
      go_enter Tryz.func111, Tryz.ntmps111
      go_wp2_with (first
        | (go_at_call 142; (with_reducible refine (KA.out _).mono ?_); rintro e w1 ⟨rfl, hb1⟩; obtain ⟨b0, b1, b2, b3, b4, b5⟩ := bx6 (w := w) (W := w1) (v0 := .int .i64 1) (v1 := .int .i64 op) (v2 := .int .i64 t) (v3 := .int .i64 v) (v4 := .string nm) (v5 := .slice A ar.length c) (T := 33) bl)
        | (go_at_call 112; (with_reducible refine (KN.out _).mono ?_); rintro e w2 ⟨rfl, hb2⟩; obtain ⟨d0, d1, d2, d3, d4, d5⟩ := bx6 (w := w) (W := w2) (v0 := .int .i64 1) (v1 := .int .i64 op) (v2 := .int .i64 t) (v3 := .int .i64 v) (v4 := .string nm) (v5 := .slice A ar.length c) (T := 33) bl)
        | (go_at_call 143; (with_reducible refine (KT.out _).mono ?_); rintro e w3 ⟨rfl, hb3⟩))
      all_goals go_ret
      all_goals refine ⟨ret_bool ?_, bl⟩
      all_goals (first | rfl | (simp_all [formRP]; done) | (rw [Bool.eq_iff_iff]; simp_all [formRP]; omega) | (simp [formRP]; omega))
    by_cases h2 : k = 2
    · subst h2
      have hi : hasIdn 2 = true := rfl
      rw [hi] at KN
      clear KP
      go_enter Tryz.func111, Tryz.ntmps111
      go_wp2_with (first
        | (go_at_call 142; (with_reducible refine (KA.out _).mono ?_); rintro e w1 ⟨rfl, hb1⟩; obtain ⟨b0, b1, b2, b3, b4, b5⟩ := bx6 (w := w) (W := w1) (v0 := .int .i64 2) (v1 := .int .i64 op) (v2 := .int .i64 t) (v3 := .int .i64 v) (v4 := .string nm) (v5 := .slice A ar.length c) (T := 33) bl)
        | (go_at_call 112; (with_reducible refine (KN.out _).mono ?_); rintro e w2 ⟨rfl, hb2⟩; obtain ⟨d0, d1, d2, d3, d4, d5⟩ := bx6 (w := w) (W := w2) (v0 := .int .i64 2) (v1 := .int .i64 op) (v2 := .int .i64 t) (v3 := .int .i64 v) (v4 := .string nm) (v5 := .slice A ar.length c) (T := 33) bl)
        | (go_at_call 143; (with_reducible refine (KT.out _).mono ?_); rintro e w3 ⟨rfl, hb3⟩))
      all_goals go_ret
      all_goals refine ⟨ret_bool ?_, bl⟩
      all_goals (first | rfl | (simp_all [formRP]; done) | (rw [Bool.eq_iff_iff]; simp_all [formRP]; omega) | (simp [formRP]; omega))
    by_cases h3 : k = 3
    · subst h3
      have hi : hasIdn 3 = false := rfl
      rw [hi] at KN
      clear KP
      go_enter Tryz.func111, Tryz.ntmps111
      go_wp2_with (first
        | (go_at_call 142; (with_reducible refine (KA.out _).mono ?_); rintro e w1 ⟨rfl, hb1⟩; obtain ⟨b0, b1, b2, b3, b4, b5⟩ := bx6 (w := w) (W := w1) (v0 := .int .i64 3) (v1 := .int .i64 op) (v2 := .int .i64 t) (v3 := .int .i64 v) (v4 := .string nm) (v5 := .slice A ar.length c) (T := 33) bl)
        | (go_at_call 112; (with_reducible refine (KN.out _).mono ?_); rintro e w2 ⟨rfl, hb2⟩; obtain ⟨d0, d1, d2, d3, d4, d5⟩ := bx6 (w := w) (W := w2) (v0 := .int .i64 3) (v1 := .int .i64 op) (v2 := .int .i64 t) (v3 := .int .i64 v) (v4 := .string nm) (v5 := .slice A ar.length c) (T := 33) bl)
        | (go_at_call 143; (with_reducible refine (KT.out _).mono ?_); rintro e w3 ⟨rfl, hb3⟩))
      all_goals go_ret
      all_goals refine ⟨ret_bool ?_, bl⟩
      all_goals (first | rfl | (simp_all [formRP]; done) | (rw [Bool.eq_iff_iff]; simp_all [formRP]; omega) | (simp [formRP]; omega))
    by_cases h4 : k = 4
    · subst h4
      have hi : hasIdn 4 = false := rfl
      rw [hi] at KN
      clear KP
      go_enter Tryz.func111, Tryz.ntmps111
      go_wp2_with (first
        | (go_at_call 142; (with_reducible refine (KA.out _).mono ?_); rintro e w1 ⟨rfl, hb1⟩; obtain ⟨b0, b1, b2, b3, b4, b5⟩ := bx6 (w := w) (W := w1) (v0 := .int .i64 4) (v1 := .int .i64 op) (v2 := .int .i64 t) (v3 := .int .i64 v) (v4 := .string nm) (v5 := .slice A ar.length c) (T := 33) bl)
        | (go_at_call 112; (with_reducible refine (KN.out _).mono ?_); rintro e w2 ⟨rfl, hb2⟩; obtain ⟨d0, d1, d2, d3, d4, d5⟩ := bx6 (w := w) (W := w2) (v0 := .int .i64 4) (v1 := .int .i64 op) (v2 := .int .i64 t) (v3 := .int .i64 v) (v4 := .string nm) (v5 := .slice A ar.length c) (T := 33) bl)
        | (go_at_call 143; (with_reducible refine (KT.out _).mono ?_); rintro e w3 ⟨rfl, hb3⟩))
      all_goals go_ret
      all_goals refine ⟨ret_bool ?_, bl⟩
      all_goals (first | rfl | (simp_all [formRP]; done) | (rw [Bool.eq_iff_iff]; simp_all [formRP]; omega) | (simp [formRP]; omega))
    by_cases h5 : k = 5
    · subst h5
      have hi : hasIdn 5 = false := rfl
      rw [hi] at KN
      clear KP
      go_enter Tryz.func111, Tryz.ntmps111
      go_wp2_with (first
        | (go_at_call 142; (with_reducible refine (KA.out _).mono ?_); rintro e w1 ⟨rfl, hb1⟩; obtain ⟨b0, b1, b2, b3, b4, b5⟩ := bx6 (w := w) (W := w1) (v0 := .int .i64 5) (v1 := .int .i64 op) (v2 := .int .i64 t) (v3 := .int .i64 v) (v4 := .string nm) (v5 := .slice A ar.length c) (T := 33) bl)
        | (go_at_call 112; (with_reducible refine (KN.out _).mono ?_); rintro e w2 ⟨rfl, hb2⟩; obtain ⟨d0, d1, d2, d3, d4, d5⟩ := bx6 (w := w) (W := w2) (v0 := .int .i64 5) (v1 := .int .i64 op) (v2 := .int .i64 t) (v3 := .int .i64 v) (v4 := .string nm) (v5 := .slice A ar.length c) (T := 33) bl)
        | (go_at_call 143; (with_reducible refine (KT.out _).mono ?_); rintro e w3 ⟨rfl, hb3⟩))
      all_goals go_ret
      all_goals refine ⟨ret_bool ?_, bl⟩
      all_goals (first | rfl | (simp_all [formRP]; done) | (rw [Bool.eq_iff_iff]; simp_all [formRP]; omega) | (simp [formRP]; omega))
    by_cases h6 : k = 6
    · subst h6
      have hi : hasIdn 6 = false := rfl
      rw [hi] at KN
      clear KP
      go_enter Tryz.func111, Tryz.ntmps111
      go_wp2_with (first
        | (go_at_call 142; (with_reducible refine (KA.out _).mono ?_); rintro e w1 ⟨rfl, hb1⟩; obtain ⟨b0, b1, b2, b3, b4, b5⟩ := bx6 (w := w) (W := w1) (v0 := .int .i64 6) (v1 := .int .i64 op) (v2 := .int .i64 t) (v3 := .int .i64 v) (v4 := .string nm) (v5 := .slice A ar.length c) (T := 33) bl)
        | (go_at_call 112; (with_reducible refine (KN.out _).mono ?_); rintro e w2 ⟨rfl, hb2⟩; obtain ⟨d0, d1, d2, d3, d4, d5⟩ := bx6 (w := w) (W := w2) (v0 := .int .i64 6) (v1 := .int .i64 op) (v2 := .int .i64 t) (v3 := .int .i64 v) (v4 := .string nm) (v5 := .slice A ar.length c) (T := 33) bl)
        | (go_at_call 143; (with_reducible refine (KT.out _).mono ?_); rintro e w3 ⟨rfl, hb3⟩))
      all_goals go_ret
      all_goals refine ⟨ret_bool ?_, bl⟩
      all_goals (first | rfl | (simp_all [formRP]; done) | (rw [Bool.eq_iff_iff]; simp_all [formRP]; omega) | (simp [formRP]; omega))
    by_cases h7 : k = 7
    · subst h7
      have hi : hasIdn 7 = false := rfl
      rw [hi] at KN
      clear KP
      go_enter Tryz.func111, Tryz.ntmps111
      go_wp2_with (first
        | (go_at_call 142; (with_reducible refine (KA.out _).mono ?_); rintro e w1 ⟨rfl, hb1⟩; obtain ⟨b0, b1, b2, b3, b4, b5⟩ := bx6 (w := w) (W := w1) (v0 := .int .i64 7) (v1 := .int .i64 op) (v2 := .int .i64 t) (v3 := .int .i64 v) (v4 := .string nm) (v5 := .slice A ar.length c) (T := 33) bl)
        | (go_at_call 112; (with_reducible refine (KN.out _).mono ?_); rintro e w2 ⟨rfl, hb2⟩; obtain ⟨d0, d1, d2, d3, d4, d5⟩ := bx6 (w := w) (W := w2) (v0 := .int .i64 7) (v1 := .int .i64 op) (v2 := .int .i64 t) (v3 := .int .i64 v) (v4 := .string nm) (v5 := .slice A ar.length c) (T := 33) bl)
        | (go_at_call 143; (with_reducible refine (KT.out _).mono ?_); rintro e w3 ⟨rfl, hb3⟩))
      all_goals go_ret
      all_goals refine ⟨ret_bool ?_, bl⟩
      all_goals (first | rfl | (simp_all [formRP]; done) | (rw [Bool.eq_iff_iff]; simp_all [formRP]; omega) | (simp [formRP]; omega))
    by_cases h8 : k = 8
    · subst h8
      have hi : hasIdn 8 = true := rfl
      rw [hi] at KN
      clear KP
      go_enter Tryz.func111, Tryz.ntmps111
      go_wp2_with (first
        | (go_at_call 142; (with_reducible refine (KA.out _).mono ?_); rintro e w1 ⟨rfl, hb1⟩; obtain ⟨b0, b1, b2, b3, b4, b5⟩ := bx6 (w := w) (W := w1) (v0 := .int .i64 8) (v1 := .int .i64 op) (v2 := .int .i64 t) (v3 := .int .i64 v) (v4 := .string nm) (v5 := .slice A ar.length c) (T := 33) bl)
        | (go_at_call 112; (with_reducible refine (KN.out _).mono ?_); rintro e w2 ⟨rfl, hb2⟩; obtain ⟨d0, d1, d2, d3, d4, d5⟩ := bx6 (w := w) (W := w2) (v0 := .int .i64 8) (v1 := .int .i64 op) (v2 := .int .i64 t) (v3 := .int .i64 v) (v4 := .string nm) (v5 := .slice A ar.length c) (T := 33) bl)
        | (go_at_call 143; (with_reducible refine (KT.out _).mono ?_); rintro e w3 ⟨rfl, hb3⟩))
      all_goals go_ret
      all_goals refine ⟨ret_bool ?_, bl⟩
      all_goals (first | rfl | (simp_all [formRP]; done) | (rw [Bool.eq_iff_iff]; simp_all [formRP]; omega) | (simp [formRP]; omega))
    by_cases h9 : k = 9
    · subst h9
      have hi : hasIdn 9 = true := rfl
      rw [hi] at KN
      clear KP
      go_enter Tryz.func111, Tryz.ntmps111
      go_wp2_with (first
        | (go_at_call 142; (with_reducible refine (KA.out _).mono ?_); rintro e w1 ⟨rfl, hb1⟩; obtain ⟨b0, b1, b2, b3, b4, b5⟩ := bx6 (w := w) (W := w1) (v0 := .int .i64 9) (v1 := .int .i64 op) (v2 := .int .i64 t) (v3 := .int .i64 v) (v4 := .string nm) (v5 := .slice A ar.length c) (T := 33) bl)
        | (go_at_call 112; (with_reducible refine (KN.out _).mono ?_); rintro e w2 ⟨rfl, hb2⟩; obtain ⟨d0, d1, d2, d3, d4, d5⟩ := bx6 (w := w) (W := w2) (v0 := .int .i64 9) (v1 := .int .i64 op) (v2 := .int .i64 t) (v3 := .int .i64 v) (v4 := .string nm) (v5 := .slice A ar.length c) (T := 33) bl)
        | (go_at_call 143; (with_reducible refine (KT.out _).mono ?_); rintro e w3 ⟨rfl, hb3⟩))
      all_goals go_ret
      all_goals refine ⟨ret_bool ?_, bl⟩
      all_goals (first | rfl | (simp_all [formRP]; done) | (rw [Bool.eq_iff_iff]; simp_all [formRP]; omega) | (simp [formRP]; omega))
    by_cases h10 : k = 10
    · subst h10
      have hi : hasIdn 10 = true := rfl
      rw [hi] at KN
      clear KP
      go_enter Tryz.func111, Tryz.ntmps111
      go_wp2_with (first
        | (go_at_call 142; (with_reducible refine (KA.out _).mono ?_); rintro e w1 ⟨rfl, hb1⟩; obtain ⟨b0, b1, b2, b3, b4, b5⟩ := bx6 (w := w) (W := w1) (v0 := .int .i64 10) (v1 := .int .i64 op) (v2 := .int .i64 t) (v3 := .int .i64 v) (v4 := .string nm) (v5 := .slice A ar.length c) (T := 33) bl)
        | (go_at_call 112; (with_reducible refine (KN.out _).mono ?_); rintro e w2 ⟨rfl, hb2⟩; obtain ⟨d0, d1, d2, d3, d4, d5⟩ := bx6 (w := w) (W := w2) (v0 := .int .i64 10) (v1 := .int .i64 op) (v2 := .int .i64 t) (v3 := .int .i64 v) (v4 := .string nm) (v5 := .slice A ar.length c) (T := 33) bl)
        | (go_at_call 143; (with_reducible refine (KT.out _).mono ?_); rintro e w3 ⟨rfl, hb3⟩))
      all_goals go_ret
      all_goals refine ⟨ret_bool ?_, bl⟩
      all_goals (first | rfl | (simp_all [formRP]; done) | (rw [Bool.eq_iff_iff]; simp_all [formRP]; omega) | (simp [formRP]; omega))
    by_cases h11 : k = 11
    · subst h11
      have hi : hasIdn 11 = false := rfl
      rw [hi] at KN
      have KP2 := KP rfl
      clear KP
      go_enter Tryz.func111, Tryz.ntmps111
      go_wp2_with (first
        | (go_at_call 142; (with_reducible refine (KA.out _).mono ?_); rintro e w1 ⟨rfl, hb1⟩; obtain ⟨b0, b1, b2, b3, b4, b5⟩ := bx6 (w := w) (W := w1) (v0 := .int .i64 11) (v1 := .int .i64 op) (v2 := .int .i64 t) (v3 := .int .i64 v) (v4 := .string nm) (v5 := .slice A ar.length c) (T := 33) bl)
        | (go_at_call 112; (with_reducible refine (KN.out _).mono ?_); rintro e w2 ⟨rfl, hb2⟩; obtain ⟨d0, d1, d2, d3, d4, d5⟩ := bx6 (w := w) (W := w2) (v0 := .int .i64 11) (v1 := .int .i64 op) (v2 := .int .i64 t) (v3 := .int .i64 v) (v4 := .string nm) (v5 := .slice A ar.length c) (T := 33) bl)
        | (go_at_call 143; (with_reducible refine (KT.out _).mono ?_); rintro e w3 ⟨rfl, hb3⟩)
        | (go_at_call 144; (with_reducible refine (KP2.out _ ?_).mono ?_); (exact bl); rintro e w4 ⟨A1, A2, n1, c1, n2, c2, er, rfl, her, hb4⟩; obtain ⟨g0, g1, g2, g3, g4, g5⟩ := bx6 (w := w) (W := w4) (v0 := .int .i64 11) (v1 := .int .i64 op) (v2 := .int .i64 t) (v3 := .int .i64 v) (v4 := .string nm) (v5 := .slice A ar.length c) (T := 33) bl; have g2' := fun o => cell_al o g2; have g3' := fun o => cell_al o g3))
      all_goals go_ret
      all_goals refine ⟨ret_bool ?_, bl⟩
      all_goals (first | rfl | (simp_all [formRP]; done) | (rw [Bool.eq_iff_iff]; simp_all [formRP]; omega) | (simp [formRP]; omega))
    have hout : k < 1 ∨ 11 < k := by omega
    have e : formRP k op t v ba tg ne wok = false := by
      rw [formRP, if_pos]
      rcases hout with h | h
      · exact .inl h
      · exact .inr (.inl h)
    rw [e]
    clear e h1 h2 h3 h4 h5 h6 h7 h8 h9 h10 h11 KP
    rcases hout with h | h
    · go_enter Tryz.func111, Tryz.ntmps111
      go_wp2
      go_ret
      exact ⟨rfl, bl⟩
    · have h' : (1 : Int) ≤ k := by omega
      go_enter Tryz.func111, Tryz.ntmps111
      go_wp2
      go_ret
      exact ⟨rfl, bl⟩
end Go.Proofs.YtoimjcfdiljkjaaGreatDoor
namespace Go.Proofs.YtoimjcfdiljkjaaGreatDoor
open Go.RowKit Go.Shelf
attribute [local go_sem] Oper.semAt_some
set_option maxHeartbeats 2000000 in
set_option maxRecDepth 100000 in
theorem exceeds_any (x : Xt) (N : Nat) (w : World) (hX : RdX w w.heap.size x) (hN : N ≤ 1048576) : Calls Tryz.prog 133 #[xV x, .int .i64 (N : Int)] w (Bel (.bool (decide (N < x.size))) w) := by
  have hdd : ∀ k : Nat, (Fence.wide.depth.isSome = true → 1 ≤ k) := fun k h => by cases h
  have KW := Lib.hid (fun W => within_any x 136 W)
  have HX := Lib.hid hX
  clear hX
  simp only [xV] at KW ⊢
  refine (callsIn_wide (n := 3)).1 ?_
  refine callsIn_of_wp_marks Tryz.func133 rfl trivial ?_ rfl
  simp only [Tryz.ntmps133, List.size_toArray, List.length_cons, List.length_nil, Nat.reduceAdd, Nat.reduceSub, Array.replicate_succ, Array.replicate_zero, List.push_toArray, List.append_toArray, List.nil_append, List.cons_append]
  gi_wp2_with (refine ⟨trivial, ?_⟩; gi_at_call 135; refine (callsIn_wide.2 (KW.out _)).mono ?_; rintro e W1 ⟨rfl, rfl⟩)
  obtain ⟨Wc, hWc⟩ : ∃ Wc, (((bxW w x).alloc (.cells #[.int .i64 (N : Int)] 3)).alloc (.cells #[.bool false] 4)) = Wc := ⟨_, rfl⟩
  have hz : Wc.heap.size = w.heap.size + 3 := by rw [← hWc]; simp only [World.size_alloc]
  have hBc : Below w.heap.size w Wc := by rw [← hWc]; exact bel_alloc (bel_alloc (bel_box _) _) _
  have g0 : Wc.cell? ⟨w.heap.size + 1, 0, none⟩ = some (.int .i64 (N : Int)) := by rw [← hWc]; simp [go_sem]
  have g1 : Wc.frozen? ⟨w.heap.size + 1, 0, none⟩ = false := by rw [← hWc]; simp [go_sem]
  have g2 : Wc.cell? ⟨w.heap.size + 2, 0, none⟩ = some (.bool false) := by rw [← hWc]; simp [go_sem]
  have g3 : Wc.frozen? ⟨w.heap.size + 2, 0, none⟩ = false := by rw [← hWc]; simp [go_sem]
  have hst := within_at (3 - 1) w.heap.size (fun k => k = w.heap.size + 1 ∨ k = w.heap.size + 2) x Wc (fun k hk => by rcases hk with rfl | rfl <;> omega) (by omega) (HX.out.blw hBc (Nat.le_refl _))
  obtain ⟨W0, hW0⟩ : ∃ W0, inW Wc x 136 = W0 := ⟨_, rfl⟩
  have hz0 : W0.heap.size = w.heap.size + 5 := by rw [← hW0, inW_size]; omega
  have hB0 : Below w.heap.size w W0 := by rw [← hW0]; exact hBc.trans ((inW_below Wc x _).mono (by omega))
  have f0 : W0.cell? ⟨w.heap.size + 1, 0, none⟩ = some (.int .i64 (N : Int)) := by rw [← hW0]; exact (inW_old (by omega)).1.trans g0
  have f1 : W0.frozen? ⟨w.heap.size + 1, 0, none⟩ = false := by rw [← hW0]; exact (inW_old (by omega)).2.trans g1
  have f2 : W0.cell? ⟨w.heap.size + 2, 0, none⟩ = some (.bool false) := by rw [← hW0]; exact (inW_old (by omega)).1.trans g2
  have f3 : W0.frozen? ⟨w.heap.size + 2, 0, none⟩ = false := by rw [← hW0]; exact (inW_old (by omega)).2.trans g3
  rw [hz, hW0] at hst
  rw [show (bxW (((w.alloc (Obj.cells #[.int .i64 x.k, .int .i64 x.op, .int .i64 x.t, .int .i64 x.v, .string x.nm, .slice x.A x.ar.length x.c] 33)).alloc (.cells #[.int .i64 (N : Int)] 3)).alloc (.cells #[.bool false] 4)) x).alloc (.cells #[.func (.func 136) #[] #[]] 155) = W0 by rw [← hW0, ← hWc]]
  clear hW0 hWc g0 g1 g2 g3 KW HX
  have hll := list_length x
  refine wpIn_rangeFunc_ownF rfl (by decide) (gf := 170) (lb := #[.pointer (some ⟨w.heap.size + 3, 0, none⟩), .pointer (some ⟨w.heap.size + 3 + 1, 0, none⟩)]) rfl trivial (enters_of Tryz.func170 (by kernel_rfl) rfl)
    hst KX_t KX_b (Below.refl _ _) (fun _ => rfl)
    (fun pre W => (pre.length ≤ N ∧ W.cell? ⟨w.heap.size + 1, 0, none⟩ = some (.int .i64 ((N - pre.length : Nat) : Int)) ∧ W.frozen? ⟨w.heap.size + 1, 0, none⟩ = false ∧ W.cell? ⟨w.heap.size + 2, 0, none⟩ = some (.bool false) ∧ W.frozen? ⟨w.heap.size + 2, 0, none⟩ = false) ∧ Below w.heap.size w W)
    (fun c pre W => (c = .ret ∧ N < pre.length ∧ W.cell? ⟨w.heap.size + 2, 0, none⟩ = some (.bool true)) ∧ Below w.heap.size w W)
    (OwnFrom.and (Own.from (fun s A B row hs hg hr => ⟨hs.1, cell_kept hs.2.1 hg hr, (frozen_kept hs.2.1 hg hr).trans hs.2.2.1, cell_kept hs.2.2.2.1 hg hr, (frozen_kept hs.2.2.2.1 hg hr).trans hs.2.2.2.2⟩) _) (ownFrom_below (Nat.le_refl _) (by omega)))
    (fun c => OwnFrom.and (Own.from (fun s A B row hs hg hr => ⟨hs.1, hs.2.1, cell_kept hs.2.2 hg hr⟩) _) (ownFrom_below (Nat.le_refl _) (by omega)))
    ⟨⟨by simp, by simpa using f0, f1, f2, f3⟩, hB0⟩
    (fun y => { tmps := #[.agg #[.int .i64 x.k, .int .i64 x.op, .int .i64 x.t, .int .i64 x.v, .string x.nm, .slice x.A x.ar.length x.c], .int .i64 (N : Int), .pointer (some ⟨w.heap.size, 0, none⟩), .pointer (some ⟨w.heap.size + 1, 0, none⟩), .pointer (some ⟨w.heap.size + 1 + 1, 0, none⟩), .agg #[.int .i64 x.k, .int .i64 x.op, .int .i64 x.t, .int .i64 x.v, .string x.nm, .slice x.A x.ar.length x.c], .func (.func 170) #[] #[.pointer (some ⟨w.heap.size + 3, 0, none⟩), .pointer (some ⟨w.heap.size + 3 + 1, 0, none⟩)], xV y, undef, undef, undef, undef], defers := [] }) ?assign ?body ?done ?stop
  case assign =>
    intro l y W K hK
    gi_wp2
    simpa using hK
  case body =>
    rintro l pre y W ⟨⟨i0, i1, i2, i3, i4⟩, hB⟩ hlt
    by_cases hq : pre.length < N
    · obtain ⟨m, hm⟩ : ∃ m, N - pre.length = m + 1 := ⟨N - pre.length - 1, by omega⟩
      have hm2 : N - (pre.length + 1) = m := by omega
      rw [hm] at i1
      have u1 : ((m + 1 : Nat) : Int) - 1 = (m : Int) := by omega
      have u2 : (0 : Int) ≤ (m : Int) := by omega
      gi_wp2
      exact ⟨KeepsOthers.setCell _ _ _, KX.set (S := fun k => k = w.heap.size + 1 ∨ k = w.heap.size + 2) (a := ⟨w.heap.size + 1, 0, none⟩) (.inl rfl) _, ⟨by rw [List.length_append, List.length_singleton]; omega, by rw [List.length_append, List.length_singleton, hm2]; exact World.cell?_setCell_same' _ _ _ (by rw [i1]; rfl), by rw [World.frozen?_setCell]; exact i2, (World.cell?_setCell_other _ _ _ _ (by simp)).trans i3, by rw [World.frozen?_setCell]; exact i4⟩, hB.setCell (p := ⟨w.heap.size + 1, 0, none⟩) (by simp) _⟩
    · have hm : N - pre.length = 0 := by omega
      rw [hm] at i1
      gi_wp2
      exact ⟨(KeepsOthers.setCell _ _ _).trans (KeepsOthers.setCell _ _ _), ⟨rfl, by rw [List.length_append, List.length_singleton]; omega, World.cell?_setCell_same' _ _ _ (by rw [World.cell?_setCell_other _ _ _ _ (by simp), i3]; rfl)⟩, (hB.setCell (p := ⟨w.heap.size + 1, 0, none⟩) (by simp) _).setCell (p := ⟨w.heap.size + 2, 0, none⟩) (by simp) _⟩
  case done =>
    rintro D ys W hD rfl ⟨⟨hn, _, _, hc, hf⟩, hB⟩ hK
    have hdec : decide (N < x.size) = false := decide_eq_false (by omega)
    gi_wp2
    have hK' := (KeepsOthers.setCell W ⟨w.heap.size + 2, 0, none⟩ (.bool false)).same D _ hK rfl
    refine ⟨by simp, .inl ⟨_, _, rfl, run_takeDeferred hK', ?_⟩⟩
    have hc5 := cell_kept (World.cell?_setCell_same' W ⟨w.heap.size + 2, 0, none⟩ (.bool false) (by rw [hc]; rfl)) (grownBy_putObj' _ D (.deferred none)) (fun r e => by cases e; exact ⟨_, hK', rfl⟩)
    refine ⟨.bool false, ?_, by rw [hdec], (hB.setCell (p := ⟨w.heap.size + 2, 0, none⟩) (by simp) _).trans (belowK_b (w := w) (Nat.le_refl _) _ D _ _ (by omega) hK' rfl rfl)⟩
    simp [results, Tryz.f133, go_sem, hc5]
  case stop =>
    rintro D c pre W hD ⟨t, ht⟩ ⟨⟨rfl, hin, hc⟩, hB⟩ hK
    have hdec : decide (N < x.size) = true := decide_eq_true (by rw [← hll, ← ht, List.length_append]; omega)
    gi_wp2
    refine ⟨by simp, .inl ⟨_, _, rfl, run_takeDeferred hK, ?_⟩⟩
    have hc5 := cell_kept hc (grownBy_putObj' _ D (.deferred none)) (fun r e => by cases e; exact ⟨_, hK, rfl⟩)
    refine ⟨.bool true, ?_, by rw [hdec], hB.trans (belowK_b (w := w) (Nat.le_refl _) W D _ _ (by omega) hK rfl rfl)⟩
    simp [results, Tryz.f133, go_sem, hc5]
end Go.Proofs.YtoimjcfdiljkjaaGreatDoor
namespace Go.Proofs.YtoimjcfdiljkjaaGreatDoor
open Go.RowKit Go.Shelf
attribute [local go_sem] Oper.semAt_some
def upJ {P : Xt → Prop} (J : List {y : Xt // P y} → World → Prop) (pre : List Xt) (W : World) : Prop := ∃ q, q.map (·.1) = pre ∧ J q W
set_option maxHeartbeats 1000000 in
set_option maxRecDepth 100000 in
theorem within_stopsP (P : Xt → Prop) (n be bp n₀ : Nat) (S : Nat → Prop) (x : Xt) (w : World) (hP : ∀ y ∈ x.list, P y) (hS : ∀ k, S k → n₀ ≤ k ∧ k < w.heap.size) (hn₀ : n₀ ≤ w.heap.size) (hbe : be < w.heap.size) (hbp : bp < w.heap.size) (hX : RdX w n₀ x)
    (c0 : w.cell? ⟨be, 0, none⟩ = some (.int .i64 x.k)) (c1 : w.cell? ⟨be, 1, none⟩ = some (.int .i64 x.op)) (c2 : w.cell? ⟨be, 2, none⟩ = some (.int .i64 x.t)) (c3 : w.cell? ⟨be, 3, none⟩ = some (.int .i64 x.v)) (c4 : w.cell? ⟨be, 4, none⟩ = some (.string x.nm)) (c5 : w.cell? ⟨be, 5, none⟩ = some (.slice x.A x.ar.length x.c)) (cp : w.cell? ⟨bp, 0, none⟩ = some (.func (.func 136) #[] #[])) :
    SeqStopsK Fence.wide n Tryz.prog 170 #[.pointer (some ⟨be, 0, none⟩), .pointer (some ⟨bp, 0, none⟩)] (fun y : {y : Xt // P y} => #[xV y.1]) (KX S) (fun ys => ys.map (·.1) = x.list) (fun pre => pre.map (·.1) <+: x.list) x.size w := by
  intro l J Jx W hW hJ _ hY h0
  have hdd : ∀ k : Nat, (Fence.wide.depth.isSome = true → 1 ≤ k) := fun k h => by cases h
  have hWs := hW.size
  have d0 := (hW.cell (p := ⟨be, 0, none⟩) hbe).trans c0
  have d1 := (hW.cell (p := ⟨be, 1, none⟩) hbe).trans c1
  have d2 := (hW.cell (p := ⟨be, 2, none⟩) hbe).trans c2
  have d3 := (hW.cell (p := ⟨be, 3, none⟩) hbe).trans c3
  have d4 := (hW.cell (p := ⟨be, 4, none⟩) hbe).trans c4
  have d5 := (hW.cell (p := ⟨be, 5, none⟩) hbe).trans c5
  have dp := (hW.cell (p := ⟨bp, 0, none⟩) hbp).trans cp
  have hp := walk_each_in l n₀ W.heap.size x.size S (fun k hs => ⟨(hS k hs).1, by have := (hS k hs).2; omega⟩) (upJ J) (upJ Jx) (fun s A B row ⟨q, hq, hs⟩ hg hr => ⟨q, hq, hJ q A B row hs hg hr⟩) P
    (fun m pre y W1 hPy ⟨q, hq, hj⟩ hl => yield_any rfl m (YieldAt.mono (hY q ⟨y, hPy⟩ W1 hj (by rw [← hq, List.length_map] at hl; exact hl)) fun e W' h => h.elim
      (fun ⟨he, hj2, hk⟩ => .inl ⟨he, ⟨q ++ [⟨y, hPy⟩], by rw [List.map_append, hq]; rfl, hj2⟩, hk⟩) (fun ⟨he, hx⟩ => .inr ⟨he, q ++ [⟨y, hPy⟩], by rw [List.map_append, hq]; rfl, hx⟩))) x (n - 1) [] W hP (hX.blw (hW.mono hn₀) (Nat.le_refl _)) (Nat.le_refl _) ⟨[], rfl, h0⟩ (by simp)
  simp only [List.nil_append, xV] at hp
  clear hY c0 c1 c2 c3 c4 c5 cp
  simp only [List.append_toArray, List.cons_append, List.nil_append, Array.append_eq_append] at *
  refine callsIn_of_wp Tryz.func170 rfl trivial ?_ rfl
  simp only [Tryz.ntmps170, List.size_toArray, List.length_cons, List.length_nil, Nat.reduceAdd, Nat.reduceSub, Array.replicate_succ, Array.replicate_zero, List.push_toArray, List.append_toArray, List.nil_append, List.cons_append]
  gi_wp2_with (refine ⟨trivial, hdd _, ?_⟩; gi_at_call 171; refine hp.mono ?_; clear hp; rintro e W1 (⟨rfl, ⟨ys, hys, hJ1⟩, _⟩ | ⟨rfl, q, hq, ys, hys, hx⟩))
  · go_end0
    exact ⟨⟨_, rfl⟩, .inl ⟨ys, hys, hJ1⟩⟩
  · go_end0
    exact ⟨⟨_, rfl⟩, .inr ⟨ys, by rw [hys]; exact hq, hx⟩⟩
theorem within_atP (P : Xt → Prop) (n n₀ : Nat) (S : Nat → Prop) (x : Xt) (w : World) (hP : ∀ y ∈ x.list, P y) (hS : ∀ k, S k → n₀ ≤ k ∧ k < w.heap.size) (hn₀ : n₀ ≤ w.heap.size) (hX : RdX w n₀ x) :
    SeqStopsK Fence.wide n Tryz.prog 170 #[.pointer (some ⟨w.heap.size, 0, none⟩), .pointer (some ⟨w.heap.size + 1, 0, none⟩)] (fun y : {y : Xt // P y} => #[xV y.1]) (KX S) (fun ys => ys.map (·.1) = x.list) (fun pre => pre.map (·.1) <+: x.list) x.size (inW w x 136) := by
  obtain ⟨b0, b1, b2, b3, b4, b5, _⟩ := bxW_cells (w := w) (x := x) (W := inW w x 136) (bel_box _)
  exact within_stopsP P n w.heap.size (w.heap.size + 1) n₀ S x _ hP (fun k hs => ⟨(hS k hs).1, by rw [inW_size]; have := (hS k hs).2; omega⟩) (by rw [inW_size]; omega) (by rw [inW_size]; omega) (by rw [inW_size]; omega) (hX.blw ((inW_below w x _).mono hn₀) (Nat.le_refl _)) b0 b1 b2 b3 b4 b5 (by simp [go_sem])
theorem RdX.all {w : World} {B : Nat} {x : Xt} (h : RdX w B x) : ∀ y ∈ x.list, y.ar.length ≤ maxLen := by
  induction x using Xt.ind with
  | h x ih =>
    intro y hy
    rw [Xt.list_eq] at hy
    rcases List.mem_cons.1 hy with rfl | hy
    · exact h.len.1
    · obtain ⟨l, hl, hyl⟩ := List.mem_flatten.1 hy
      obtain ⟨z, hz, rfl⟩ := List.mem_map.1 hl
      exact ih z hz (h.kid hz) y hyl
def firstE (f : Xt → Int) : List Xt → Int
  | [] => 0
  | y :: r => if f y = 0 then firstE f r else f y
theorem firstE_ok {f : Xt → Int} {l : List Xt} (h : ∀ y ∈ l, f y = 0) : firstE f l = 0 := by
  induction l with
  | nil => rfl
  | cons y r ih => rw [firstE, if_pos (h y (by simp))]; exact ih fun z hz => h z (by simp [hz])
theorem firstE_at {f : Xt → Int} {l r : List Xt} {y : Xt} (h : ∀ z ∈ l, f z = 0) (hy : f y ≠ 0) : firstE f (l ++ y :: r) = f y := by
  induction l with
  | nil => rw [List.nil_append, firstE, if_neg hy]
  | cons z l ih => rw [List.cons_append, firstE, if_pos (h z (by simp))]; exact ih fun u hu => h u (by simp [hu])
theorem bx2 {w W : World} {x : Xt} {v : Value} {t : TypeId} (h : Below ((bxW w x).alloc (.cells #[v] t)).heap.size ((bxW w x).alloc (.cells #[v] t)) W) :
    (W.cell? ⟨w.heap.size, 0, none⟩ = some (.int .i64 x.k) ∧ W.cell? ⟨w.heap.size, 1, none⟩ = some (.int .i64 x.op) ∧ W.cell? ⟨w.heap.size, 2, none⟩ = some (.int .i64 x.t) ∧ W.cell? ⟨w.heap.size, 3, none⟩ = some (.int .i64 x.v) ∧ W.cell? ⟨w.heap.size, 4, none⟩ = some (.string x.nm) ∧ W.cell? ⟨w.heap.size, 5, none⟩ = some (.slice x.A x.ar.length x.c)) ∧ (W.cell? ⟨w.heap.size + 1, 0, none⟩ = some v ∧ W.frozen? ⟨w.heap.size + 1, 0, none⟩ = false) ∧ w.heap.size + 1 < W.heap.size ∧ Below w.heap.size w W := by
  have hz := h.size
  have hz2 : ((bxW w x).alloc (.cells #[v] t)).heap.size = w.heap.size + 2 := by simp only [World.size_alloc]
  rw [hz2] at hz
  have hb : Below (bxW w x).heap.size (bxW w x) W := (bel_box _).trans (h.mono (by rw [World.size_alloc]; omega))
  obtain ⟨b0, b1, b2, b3, b4, b5, _⟩ := bxW_cells hb
  refine ⟨⟨b0, b1, b2, b3, b4, b5⟩, ⟨?_, ?_⟩, by omega, bxW_below hb⟩
  · exact (h.cell (p := ⟨w.heap.size + 1, 0, none⟩) (by rw [hz2]; simp)).trans (by simp [go_sem])
  · exact (h.frozen (p := ⟨w.heap.size + 1, 0, none⟩) (by rw [hz2]; simp)).trans (by simp [go_sem])
def chkAll (wok : ByteArray → Bool) (x : Xt) : Int := if 400 < x.size ∨ 32 < x.depth then 3 else firstE (chk1 wok) x.list
set_option maxHeartbeats 2000000 in
set_option maxRecDepth 100000 in
theorem check_any (wok : ByteArray → Bool) (x : Xt) (w : World) (hX : RdX w w.heap.size x) (hN : ∀ y ∈ x.list, NmOk wok w y) : Calls Tryz.prog 101 #[xV x] w (Bel (.int .i64 (chkAll wok x)) w) := by
  have hdd : ∀ k : Nat, (Fence.wide.depth.isSome = true → 1 ≤ k) := fun k h => by cases h
  have KW := Lib.hid (fun W => within_any x 136 W)
  have KE : Hid (∀ W, Below w.heap.size w W → Calls Tryz.prog 133 #[xV x, .int .i64 400] W (Bel (.bool (decide (400 < x.size))) W)) := Lib.hid fun W hb => exceeds_any x 400 W (hX.to hb) (by omega)
  have HX := Lib.hid hX
  have hal := hX.all
  have hsz : x.size ≤ 400 → Hid (∀ W, Below w.heap.size w W → Calls Tryz.prog 134 #[xV x] W (Bel (.int .i64 (x.depth : Nat)) W)) := fun h => Lib.hid fun W hb => depth_any x W (hX.to hb) (by omega)
  clear hX
  simp only [xV] at KW KE hsz ⊢
  refine (callsIn_wide (n := 3)).1 ?_
  by_cases h400 : 400 < x.size
  · rw [chkAll, if_pos (.inl h400)]
    rw [decide_eq_true h400] at KE
    refine callsIn_of_wp_marks Tryz.func101 rfl trivial ?_ rfl
    simp only [Tryz.ntmps101, List.size_toArray, List.length_cons, List.length_nil, Nat.reduceAdd, Nat.reduceSub, Array.replicate_succ, Array.replicate_zero, List.push_toArray, List.append_toArray, List.nil_append, List.cons_append]
    gi_wp2_with (refine ⟨trivial, ?_⟩; gi_at_call 133; refine (callsIn_wide.2 (KE.out _ ?_)).mono ?_; (exact bl); rintro e W1 ⟨rfl, hb1⟩; obtain ⟨⟨a0, a1, a2, a3, a4, a5⟩, ⟨r0, r1⟩, hzz, hBB⟩ := bx2 hb1; clear hb1)
    refine ⟨trivial, ?_⟩
    gi_wp2
    refine ⟨.int .i64 3, ?_, rfl, hBB.setCell (p := ⟨w.heap.size + 1, 0, none⟩) (by simp) _⟩
    have hc5 := World.cell?_setCell_same' W1 ⟨w.heap.size + 1, 0, none⟩ (.int .i64 3) (by rw [r0]; rfl)
    simp [results, Tryz.f101, go_sem, hc5]
  rw [decide_eq_false h400] at KE
  have KD := hsz (by omega)
  clear hsz
  have hdl := depth_le x
  by_cases h32 : 32 < x.depth
  · rw [chkAll, if_pos (.inr h32)]
    have u1 : (32 : Int) < (x.depth : Int) := by omega
    refine callsIn_of_wp_marks Tryz.func101 rfl trivial ?_ rfl
    simp only [Tryz.ntmps101, List.size_toArray, List.length_cons, List.length_nil, Nat.reduceAdd, Nat.reduceSub, Array.replicate_succ, Array.replicate_zero, List.push_toArray, List.append_toArray, List.nil_append, List.cons_append]
    gi_wp2_with (first
      | (refine ⟨trivial, ?_⟩; gi_at_call 133; refine (callsIn_wide.2 (KE.out _ ?_)).mono ?_; (exact bl); rintro e W1 ⟨rfl, hb1⟩; obtain ⟨⟨a0, a1, a2, a3, a4, a5⟩, ⟨r0, r1⟩, hzz, hBB⟩ := bx2 hb1)
      | (refine ⟨trivial, ?_⟩; gi_at_call 134; refine (callsIn_wide.2 (KD.out _ ?_)).mono ?_; (focus (exact hBB; done)); rintro e W2 ⟨rfl, hb2⟩; obtain ⟨_, ⟨s0, s1⟩, hzy, hBC⟩ := bx2 (hb1.trans (hb2.mono hb1.size))))
    refine ⟨.int .i64 3, ?_, rfl, hBC.setCell (p := ⟨w.heap.size + 1, 0, none⟩) (by simp) _⟩
    have hc5 := World.cell?_setCell_same' W2 ⟨w.heap.size + 1, 0, none⟩ (.int .i64 3) (by rw [s0]; rfl)
    simp [results, Tryz.f101, go_sem, hc5]
  rw [chkAll, if_neg (by omega)]
  have u1 : (x.depth : Int) ≤ 32 := by omega
  refine callsIn_of_wp_marks Tryz.func101 rfl trivial ?_ rfl
  simp only [Tryz.ntmps101, List.size_toArray, List.length_cons, List.length_nil, Nat.reduceAdd, Nat.reduceSub, Array.replicate_succ, Array.replicate_zero, List.push_toArray, List.append_toArray, List.nil_append, List.cons_append]
  gi_wp2_with (first
    | (refine ⟨trivial, ?_⟩; gi_at_call 133; refine (callsIn_wide.2 (KE.out _ ?_)).mono ?_; (exact bl); rintro e W1 ⟨rfl, hb1⟩; obtain ⟨⟨a0, a1, a2, a3, a4, a5⟩, ⟨r0, r1⟩, hzz, hBB⟩ := bx2 hb1)
    | (refine ⟨trivial, ?_⟩; gi_at_call 134; refine (callsIn_wide.2 (KD.out _ ?_)).mono ?_; (focus (exact hBB; done)); rintro e W2 ⟨rfl, hb2⟩; obtain ⟨⟨e0, e1, e2, e3, e4, e5⟩, ⟨s0, s1⟩, hzy, hBC⟩ := bx2 (hb1.trans (hb2.mono hb1.size)))
    | (refine ⟨trivial, ?_⟩; gi_at_call 135; refine (callsIn_wide.2 (KW.out _)).mono ?_; rintro e W3 ⟨rfl, rfl⟩))
  have hst := within_atP (fun y => y ∈ x.list) (3 - 1) w.heap.size (fun k => k = w.heap.size + 1) x W2 (fun y h => h) (fun k hk => by subst hk; omega) (by omega) (HX.out.blw hBC (Nat.le_refl _))
  obtain ⟨W0, hW0⟩ : ∃ W0, inW W2 x 136 = W0 := ⟨_, rfl⟩
  have hz0 : W0.heap.size = W2.heap.size + 2 := by rw [← hW0, inW_size]
  have hB0 : Below w.heap.size w W0 := by rw [← hW0]; exact hBC.trans ((inW_below W2 x _).mono (by omega))
  have f2 : W0.cell? ⟨w.heap.size + 1, 0, none⟩ = some (.int .i64 0) := by rw [← hW0]; exact (inW_old (by omega)).1.trans s0
  have f3 : W0.frozen? ⟨w.heap.size + 1, 0, none⟩ = false := by rw [← hW0]; exact (inW_old (by omega)).2.trans s1
  rw [hW0] at hst
  rw [show (bxW W2 x).alloc (.cells #[.func (.func 136) #[] #[]] 155) = W0 from hW0]
  have HN := Lib.hid hN
  have HAL := Lib.hid hal
  clear hW0 KW KE KD HX hN hal a0 a1 a2 a3 a4 a5 r0 r1 e0 e1 e2 e3 e4 e5 s0 s1 hb1 hb2 hBB hBC hzz
  refine wpIn_rangeFunc_ownH rfl (by decide) (gf := 170) (lb := #[.pointer (some ⟨W2.heap.size, 0, none⟩), .pointer (some ⟨W2.heap.size + 1, 0, none⟩)]) rfl trivial (enters_of Tryz.func170 (by kernel_rfl) rfl)
    hst KX_t KX_b (Below.refl _ _) (fun _ => rfl)
    (fun pre W => ((∀ y ∈ pre, chk1 wok y.1 = 0) ∧ W.cell? ⟨w.heap.size + 1, 0, none⟩ = some (.int .i64 0) ∧ W.frozen? ⟨w.heap.size + 1, 0, none⟩ = false) ∧ Below w.heap.size w W)
    (fun c pre W => (c = .ret ∧ ∃ q y, pre = q ++ [y] ∧ (∀ z ∈ q, chk1 wok z.1 = 0) ∧ chk1 wok y.1 ≠ 0 ∧ W.cell? ⟨w.heap.size + 1, 0, none⟩ = some (.int .i64 (chk1 wok y.1))) ∧ Below w.heap.size w W)
    (OwnFrom.and (Own.from (fun s A B row hs hg hr => ⟨hs.1, cell_kept hs.2.1 hg hr, (frozen_kept hs.2.1 hg hr).trans hs.2.2⟩) _) (ownFrom_below (Nat.le_refl _) (by omega)))
    (fun c => OwnFrom.and (Own.from (fun s A B row hs hg hr => by
      obtain ⟨h1, q, y, h2, h3, h4, h5⟩ := hs
      exact ⟨h1, q, y, h2, h3, h4, cell_kept h5 hg hr⟩) _) (ownFrom_below (Nat.le_refl _) (by omega)))
    ⟨⟨by simp, f2, f3⟩, hB0⟩
    (fun y a' W => ∃ Bx, (w.heap.size + 2 ≤ Bx ∧ W.cell? ⟨Bx, 0, none⟩ = some (.int .i64 y.1.k) ∧ W.cell? ⟨Bx, 1, none⟩ = some (.int .i64 y.1.op) ∧ W.cell? ⟨Bx, 2, none⟩ = some (.int .i64 y.1.t) ∧ W.cell? ⟨Bx, 3, none⟩ = some (.int .i64 y.1.v) ∧ W.cell? ⟨Bx, 4, none⟩ = some (.string y.1.nm) ∧ W.cell? ⟨Bx, 5, none⟩ = some (.slice y.1.A y.1.ar.length y.1.c)) ∧ a' = { tmps := #[.agg #[.int .i64 x.k, .int .i64 x.op, .int .i64 x.t, .int .i64 x.v, .string x.nm, .slice x.A x.ar.length x.c], .pointer (some ⟨w.heap.size, 0, none⟩), .pointer (some ⟨w.heap.size + 1, 0, none⟩), .pointer (some ⟨Bx, 0, none⟩), undef, .agg #[.int .i64 x.k, .int .i64 x.op, .int .i64 x.t, .int .i64 x.v, .string x.nm, .slice x.A x.ar.length x.c], .bool false, .bool false, .agg #[.int .i64 x.k, .int .i64 x.op, .int .i64 x.t, .int .i64 x.v, .string x.nm, .slice x.A x.ar.length x.c], .int .i64 (x.depth : Int), .bool (decide ((32 : Int) < (x.depth : Int))), .bool (decide ((32 : Int) < (x.depth : Int))), .agg #[.int .i64 x.k, .int .i64 x.op, .int .i64 x.t, .int .i64 x.v, .string x.nm, .slice x.A x.ar.length x.c], .func (.func 170) #[] #[.pointer (some ⟨W2.heap.size, 0, none⟩), .pointer (some ⟨W2.heap.size + 1, 0, none⟩)], xV y.1, undef, undef, undef, undef, undef], defers := [] })
    (fun y a' s A B row hs hg hr => by
      obtain ⟨Bx, ⟨h1, h2, h3, h4, h5, h6, h7⟩, h8⟩ := hs
      exact ⟨Bx, ⟨h1, cell_kept h2 hg (fun r e => (hr r e).2), cell_kept h3 hg (fun r e => (hr r e).2), cell_kept h4 hg (fun r e => (hr r e).2), cell_kept h5 hg (fun r e => (hr r e).2), cell_kept h6 hg (fun r e => (hr r e).2), cell_kept h7 hg (fun r e => (hr r e).2)⟩, h8⟩) ?assign ?body ?done ?stop
  case assign =>
    rintro l pre y W K ⟨⟨i1, i2, i3⟩, hB⟩ hK
    rw [fold1]
    simp only [xV] at hK ⊢
    gi_wp2
    obtain ⟨d0, d1, d2, d3, d4, d5⟩ := bx_box W y.1
    exact hK _ _ ((KeepsOthers.alloc _ _).from _) (KX.of_below (bel_box _)) ⟨⟨i1, cell_al _ i2, frozen_al _ i2 i3⟩, bel_alloc hB _⟩ ⟨W.heap.size, ⟨by have := World.block_lt_of_cell? W _ i2; simp only at this; omega, d0, d1, d2, d3, d4, d5⟩, rfl⟩
  case body =>
    rintro l pre y a' W hl ⟨r, hr⟩ ⟨⟨i1, i2, i3⟩, hB⟩ ⟨Bx, ⟨hBx, d0, d1, d2, d3, d4, d5⟩, rfl⟩ hlt
    have hbk := World.block_lt_of_cell? W _ i2
    have KC : Hid (Calls Tryz.prog 137 #[xV y.1] W (Bel (.int .i64 (chk1 wok y.1)) W)) := Lib.hid (checkone_any wok y.1 W (HAL.out _ y.2) ((HN.out _ y.2).to hB))
    simp only [xV] at KC
    by_cases hc : chk1 wok y.1 = 0
    · gi_wp2_with (refine ⟨trivial, ?_⟩; gi_at_call 137; refine (CallsIn.inRound l (callsIn_wide.2 KC.out)).mono ?_; rintro e W5 ⟨rfl, hb5⟩)
      exact ⟨(KeepsOthers.of_grownBy (below_grown hb5) (fun j o e => by cases e)).from _, KX.of_below hb5, ⟨fun z hz => (List.mem_append.1 hz).elim (i1 z) (fun h => by rw [List.mem_singleton.1 h]; exact hc), (hb5.cell (p := ⟨w.heap.size + 1, 0, none⟩) hbk).trans i2, (hb5.frozen (p := ⟨w.heap.size + 1, 0, none⟩) hbk).trans i3⟩, hB.trans (hb5.mono hB.size)⟩
    · gi_wp2_with (refine ⟨trivial, ?_⟩; gi_at_call 137; refine (CallsIn.inRound l (callsIn_wide.2 KC.out)).mono ?_; rintro e W5 ⟨rfl, hb5⟩; have j2 := (hb5.cell (p := ⟨w.heap.size + 1, 0, none⟩) hbk).trans i2; have j3 := (hb5.frozen (p := ⟨w.heap.size + 1, 0, none⟩) hbk).trans i3)
      exact ⟨((KeepsOthers.of_grownBy (below_grown hb5) (fun j o e => by cases e)).trans (KeepsOthers.setCell _ _ _)).from _, ⟨rfl, pre, y, rfl, i1, hc, World.cell?_setCell_same' _ _ _ (by rw [j2]; rfl)⟩, (hB.trans (hb5.mono hB.size)).setCell (p := ⟨w.heap.size + 1, 0, none⟩) (by simp) _⟩
  case done =>
    rintro D ys W hD hys ⟨⟨hn, hc, hf⟩, hB⟩ hK
    have hv : firstE (chk1 wok) x.list = 0 := firstE_ok fun y hy => by
      rw [← hys] at hy
      obtain ⟨z, hz, rfl⟩ := List.mem_map.1 hy
      exact hn z hz
    gi_wp2
    have hK' := (KeepsOthers.setCell W ⟨w.heap.size + 1, 0, none⟩ (.int .i64 0)).same D _ hK rfl
    refine ⟨by simp, .inl ⟨_, _, rfl, run_takeDeferred hK', ?_⟩⟩
    have hc5 := cell_kept (World.cell?_setCell_same' W ⟨w.heap.size + 1, 0, none⟩ (.int .i64 0) (by rw [hc]; rfl)) (grownBy_putObj' _ D (.deferred none)) (fun r e => by cases e; exact ⟨_, hK', rfl⟩)
    refine ⟨.int .i64 0, ?_, rfl, (hB.setCell (p := ⟨w.heap.size + 1, 0, none⟩) (by simp) _).trans (belowK_b (w := w) (Nat.le_refl _) _ D _ _ (by omega) hK' rfl rfl)⟩
    simp [results, Tryz.f101, go_sem, hc5]
  case stop =>
    rintro D c pre W hD ⟨t, ht⟩ ⟨⟨rfl, q, y, rfl, hq, hy, hc⟩, hB⟩ hK
    have hv : firstE (chk1 wok) x.list = chk1 wok y.1 := by
      have hl : x.list = q.map (·.1) ++ y.1 :: t := ht.symm.trans (by rw [List.map_append, List.append_assoc]; rfl)
      exact (congrArg _ hl).trans (firstE_at (fun z hz => by obtain ⟨u, hu, rfl⟩ := List.mem_map.1 hz; exact hq u hu) hy)
    gi_wp2
    refine ⟨by simp, .inl ⟨_, _, rfl, run_takeDeferred hK, ?_⟩⟩
    have hc5 := cell_kept hc (grownBy_putObj' _ D (.deferred none)) (fun r e => by cases e; exact ⟨_, hK, rfl⟩)
    refine ⟨.int .i64 (chk1 wok y.1), ?_, rfl, hB.trans (belowK_b (w := w) (Nat.le_refl _) W D _ _ (by omega) hK rfl rfl)⟩
    simp [results, Tryz.f101, go_sem, hc5]
end Go.Proofs.YtoimjcfdiljkjaaGreatDoor
namespace Go.Proofs.YtoimjcfdiljkjaaGreatDoor
open Go.RowKit Go.Sort
set_option maxHeartbeats 2000000 in
theorem form_one (k op t v : Int) (n : Nat) (ne wok : Bool) : formRP k op t v (argP k op t v n) (tagP t v) ne wok = (formedP k op t v n wok && onlyP k op t v ne) := by
  by_cases h1 : k = 1
  · subst h1; by_cases h2t : t = 2 <;> by_cases h3t : 3 ≤ t <;> by_cases h0v : 0 ≤ v <;> by_cases ho : op = 0 <;> by_cases ht : t = 1 <;> by_cases hv : v = 0 <;> cases ne <;> cases wok <;> (first | (rw [Bool.eq_iff_iff]; simp [formRP, argP, tagP, formedP, onlyP, hasVal, hasBr, opnds, hasIdn, hasVar, *]; done) | (rw [Bool.eq_iff_iff]; simp [formRP, argP, tagP, formedP, onlyP, hasVal, hasBr, opnds, hasIdn, hasVar, *]; omega) | (rw [Bool.eq_iff_iff]; simp_all [formRP, argP, tagP, formedP, onlyP, hasVal, hasBr, opnds, hasIdn, hasVar]; omega))
  by_cases h2 : k = 2
  · subst h2; by_cases ho : op = 0 <;> by_cases ht : t = 1 <;> by_cases hv : v = 0 <;> cases ne <;> cases wok <;> (first | (rw [Bool.eq_iff_iff]; simp [formRP, argP, tagP, formedP, onlyP, hasVal, hasBr, opnds, hasIdn, hasVar, *]; done) | (rw [Bool.eq_iff_iff]; simp [formRP, argP, tagP, formedP, onlyP, hasVal, hasBr, opnds, hasIdn, hasVar, *]; omega) | (rw [Bool.eq_iff_iff]; simp_all [formRP, argP, tagP, formedP, onlyP, hasVal, hasBr, opnds, hasIdn, hasVar]; omega))
  by_cases h3 : k = 3
  · subst h3; by_cases ho : op = 0 <;> by_cases ht : t = 1 <;> by_cases hv : v = 0 <;> cases ne <;> cases wok <;> (first | (rw [Bool.eq_iff_iff]; simp [formRP, argP, tagP, formedP, onlyP, hasVal, hasBr, opnds, hasIdn, hasVar, *]; done) | (rw [Bool.eq_iff_iff]; simp [formRP, argP, tagP, formedP, onlyP, hasVal, hasBr, opnds, hasIdn, hasVar, *]; omega) | (rw [Bool.eq_iff_iff]; simp_all [formRP, argP, tagP, formedP, onlyP, hasVal, hasBr, opnds, hasIdn, hasVar]; omega))
  by_cases h4 : k = 4
  · subst h4; by_cases ho : op = 0 <;> by_cases ht : t = 1 <;> by_cases hv : v = 0 <;> cases ne <;> cases wok <;> (first | (rw [Bool.eq_iff_iff]; simp [formRP, argP, tagP, formedP, onlyP, hasVal, hasBr, opnds, hasIdn, hasVar, *]; done) | (rw [Bool.eq_iff_iff]; simp [formRP, argP, tagP, formedP, onlyP, hasVal, hasBr, opnds, hasIdn, hasVar, *]; omega) | (rw [Bool.eq_iff_iff]; simp_all [formRP, argP, tagP, formedP, onlyP, hasVal, hasBr, opnds, hasIdn, hasVar]; omega))
  by_cases h5 : k = 5
  · subst h5; by_cases ho : op = 0 <;> by_cases ht : t = 1 <;> by_cases hv : v = 0 <;> cases ne <;> cases wok <;> (first | (rw [Bool.eq_iff_iff]; simp [formRP, argP, tagP, formedP, onlyP, hasVal, hasBr, opnds, hasIdn, hasVar, *]; done) | (rw [Bool.eq_iff_iff]; simp [formRP, argP, tagP, formedP, onlyP, hasVal, hasBr, opnds, hasIdn, hasVar, *]; omega) | (rw [Bool.eq_iff_iff]; simp_all [formRP, argP, tagP, formedP, onlyP, hasVal, hasBr, opnds, hasIdn, hasVar]; omega))
  by_cases h6 : k = 6
  · subst h6; by_cases ho : op = 0 <;> by_cases ht : t = 1 <;> by_cases hv : v = 0 <;> cases ne <;> cases wok <;> (first | (rw [Bool.eq_iff_iff]; simp [formRP, argP, tagP, formedP, onlyP, hasVal, hasBr, opnds, hasIdn, hasVar, *]; done) | (rw [Bool.eq_iff_iff]; simp [formRP, argP, tagP, formedP, onlyP, hasVal, hasBr, opnds, hasIdn, hasVar, *]; omega) | (rw [Bool.eq_iff_iff]; simp_all [formRP, argP, tagP, formedP, onlyP, hasVal, hasBr, opnds, hasIdn, hasVar]; omega))
  by_cases h7 : k = 7
  · subst h7; by_cases ho : op = 0 <;> by_cases ht : t = 1 <;> by_cases hv : v = 0 <;> cases ne <;> cases wok <;> (first | (rw [Bool.eq_iff_iff]; simp [formRP, argP, tagP, formedP, onlyP, hasVal, hasBr, opnds, hasIdn, hasVar, *]; done) | (rw [Bool.eq_iff_iff]; simp [formRP, argP, tagP, formedP, onlyP, hasVal, hasBr, opnds, hasIdn, hasVar, *]; omega) | (rw [Bool.eq_iff_iff]; simp_all [formRP, argP, tagP, formedP, onlyP, hasVal, hasBr, opnds, hasIdn, hasVar]; omega))
  by_cases h8 : k = 8
  · subst h8; by_cases ho : op = 0 <;> by_cases ht : t = 1 <;> by_cases hv : v = 0 <;> cases ne <;> cases wok <;> (first | (rw [Bool.eq_iff_iff]; simp [formRP, argP, tagP, formedP, onlyP, hasVal, hasBr, opnds, hasIdn, hasVar, *]; done) | (rw [Bool.eq_iff_iff]; simp [formRP, argP, tagP, formedP, onlyP, hasVal, hasBr, opnds, hasIdn, hasVar, *]; omega) | (rw [Bool.eq_iff_iff]; simp_all [formRP, argP, tagP, formedP, onlyP, hasVal, hasBr, opnds, hasIdn, hasVar]; omega))
  by_cases h9 : k = 9
  · subst h9; by_cases ho : op = 0 <;> by_cases ht : t = 1 <;> by_cases hv : v = 0 <;> cases ne <;> cases wok <;> (first | (rw [Bool.eq_iff_iff]; simp [formRP, argP, tagP, formedP, onlyP, hasVal, hasBr, opnds, hasIdn, hasVar, *]; done) | (rw [Bool.eq_iff_iff]; simp [formRP, argP, tagP, formedP, onlyP, hasVal, hasBr, opnds, hasIdn, hasVar, *]; omega) | (rw [Bool.eq_iff_iff]; simp_all [formRP, argP, tagP, formedP, onlyP, hasVal, hasBr, opnds, hasIdn, hasVar]; omega))
  by_cases h10 : k = 10
  · subst h10; by_cases ho : op = 0 <;> by_cases ht : t = 1 <;> by_cases hv : v = 0 <;> cases ne <;> cases wok <;> (first | (rw [Bool.eq_iff_iff]; simp [formRP, argP, tagP, formedP, onlyP, hasVal, hasBr, opnds, hasIdn, hasVar, *]; done) | (rw [Bool.eq_iff_iff]; simp [formRP, argP, tagP, formedP, onlyP, hasVal, hasBr, opnds, hasIdn, hasVar, *]; omega) | (rw [Bool.eq_iff_iff]; simp_all [formRP, argP, tagP, formedP, onlyP, hasVal, hasBr, opnds, hasIdn, hasVar]; omega))
  by_cases h11 : k = 11
  · subst h11; by_cases ho : op = 0 <;> by_cases ht : t = 1 <;> by_cases hv : v = 0 <;> cases ne <;> cases wok <;> (first | (rw [Bool.eq_iff_iff]; simp [formRP, argP, tagP, formedP, onlyP, hasVal, hasBr, opnds, hasIdn, hasVar, *]; done) | (rw [Bool.eq_iff_iff]; simp [formRP, argP, tagP, formedP, onlyP, hasVal, hasBr, opnds, hasIdn, hasVar, *]; omega) | (rw [Bool.eq_iff_iff]; simp_all [formRP, argP, tagP, formedP, onlyP, hasVal, hasBr, opnds, hasIdn, hasVar]; omega))
  have e1 : formRP k op t v (argP k op t v n) (tagP t v) ne wok = false := by
    rw [formRP, if_pos]
    omega
  have e2 : formedP k op t v n wok = false := by
    rw [formedP, if_neg h1, if_neg h2, if_neg h3, if_neg h4, if_neg h5, if_neg (by omega), if_neg h8, if_neg h9, if_neg h10, if_neg h11]
  rw [e1, e2]
  rfl
end Go.Proofs.YtoimjcfdiljkjaaGreatDoor
