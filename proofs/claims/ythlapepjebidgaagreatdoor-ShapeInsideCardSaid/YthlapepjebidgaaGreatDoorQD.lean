/- Texts of one chain, in one file. -/
import Derived.Test.YthlapepjebidgaaGreatDoorQC
import Derived.Test.YthlapepjebidgaaGreatDoorQA
/- first of the program, further. -/
namespace Go.Proofs.YthlapepjebidgaaGreatDoor
set_option linter.unusedVariables false
set_option linter.unusedSimpArgs false
open Go.RowKit
set_option maxHeartbeats 1000000 in
set_option maxRecDepth 20000 in
theorem first_Decl_local (b0 : Value) (r : Rw (Dt)) (err : Dt → Int) (w : World) (hR : RdR w w.heap.size 3 DC r)
    (K : Hid (∀ y ∈ r.l, ∀ W, Below w.heap.size w W → Calls Tryz.prog 113 #[b0, dV y] W (Bel (.int .i64 (err y)) W))) :
    Calls Tryz.prog 111 #[.slice r.A r.l.length r.c, .func (.func 113) #[b0] #[]] w (Bel (.int .i64 (errs (r.l.map err))) w) := by
  have h9 := hR.len
  unfold maxLen at h9
  have HR := Lib.hid hR
  obtain ⟨E, hE0, hEl, HE⟩ := errs_steps r.l err
  rw [← hE0]
  obtain ⟨V, hV⟩ : ∃ V, E 0 = V := ⟨_, rfl⟩
  have HV := Lib.hid hV
  have HL := Lib.hid hEl
  rw [hV]
  clear hR hE0 hEl hV
  skip
  go_enter Tryz.func111, Tryz.ntmps111
  go_wp2
  go_loopw [10] (fun i wr => ∃ k : Nat, k ≤ r.l.length ∧ i = .int .i64 (k : Int) ∧ Hid (E k = V) ∧ Below w.heap.size w wr) (fun i _ => r.l.length - (intOf i).toNat)
  case atStart => exact ⟨0, by omega, rfl, HV, Below.refl _ _⟩
  case round =>
    obtain ⟨k, hk, rfl, hE, hbl⟩ := hrel
    by_cases hlt : k < r.l.length
    · obtain ⟨ad, y, hA, had, hy, hm, ⟨c0, c1, c2⟩⟩ := (HR.out.blw oneB_D hbl hbl.size).at_ hlt
      rw [hA]
      clear hA
      have hs := HE.out k y hy
      have KY := Lib.hid (K.out y hm)
      clear hy hm HE
      generalize err y = v at *
      by_cases hv : v = 0
      · subst hv
        have hn : Hid (E (k + 1) = V) := Lib.hid (by rw [← hE.out, hs]; rfl)
        clear hs hE
        go_wp2_with (go_at_call 113; (with_reducible refine (KY.out _ ?_).mono ?_); (focus ((repeat (first | (with_reducible exact Below.refl _ _) | (with_reducible assumption) | (with_reducible exact bel_box _) | (with_reducible refine bel_step ?_ (by with_reducible assumption)) | (with_reducible refine Below.drew ?_) | (with_reducible refine below_drewN ?_ _) | (with_reducible refine bel_alloc ?_ _))); done)); rintro e w1 ⟨rfl, hb1⟩)
        exact ⟨⟨k + 1, by omega, by congr 1, hn, (by repeat (first | (with_reducible exact Below.refl _ _) | (with_reducible assumption) | (with_reducible exact bel_box _) | (with_reducible refine bel_step ?_ (by with_reducible assumption)) | (with_reducible refine Below.drew ?_) | (with_reducible refine below_drewN ?_ _) | (with_reducible refine bel_alloc ?_ _)))⟩, by simp [intOf]; omega⟩
      · have hv2 : v = V := by rw [← hE.out, hs, orE, if_neg hv]
        have e0 : (v == 0) = false := by simp [hv]
        clear hs hE hv
        go_wp2_with (go_at_call 113; (with_reducible refine (KY.out _ ?_).mono ?_); (focus ((repeat (first | (with_reducible exact Below.refl _ _) | (with_reducible assumption) | (with_reducible exact bel_box _) | (with_reducible refine bel_step ?_ (by with_reducible assumption)) | (with_reducible refine Below.drew ?_) | (with_reducible refine below_drewN ?_ _) | (with_reducible refine bel_alloc ?_ _))); done)); rintro e w1 ⟨rfl, hb1⟩)
        go_ret
        exact ⟨(by first | rfl | exact congrArg (fun z : Int => Ending.returned (.int .i64 z)) hv2), (by repeat (first | (with_reducible exact Below.refl _ _) | (with_reducible assumption) | (with_reducible exact bel_box _) | (with_reducible refine bel_step ?_ (by with_reducible assumption)) | (with_reducible refine Below.drew ?_) | (with_reducible refine below_drewN ?_ _) | (with_reducible refine bel_alloc ?_ _)))⟩
    · obtain rfl : k = r.l.length := by omega
      have hv2 : 0 = V := HL.out.symm.trans hE.out
      clear hE HE HV HL
      go_wp2
      go_ret
      exact ⟨(by first | rfl | exact congrArg (fun z : Int => Ending.returned (.int .i64 z)) hv2), hbl⟩
set_option maxHeartbeats 1000000 in
set_option maxRecDepth 20000 in
theorem first_Enum_checkEnum  (A : Option Addr) (c : Nat) (l : List va.En) (err : va.En → Int) (w : World) (hR : va.RdE w w.heap.size A l) (h9 : l.length ≤ 9223372036854775807)
    (K : Hid (∀ y ∈ l, ∀ W, Below w.heap.size w W → Calls Tryz.prog 44 #[.agg #[.string y.name, .slice y.A y.tags.length y.c]] W (Bel (.int .i64 (err y)) W))) :
    Calls Tryz.prog 43 #[.slice A l.length c, .func (.func 44) #[] #[]] w (Bel (.int .i64 (errs (l.map err))) w) := by
  have HR := Lib.hid hR
  obtain ⟨E, hE0, hEl, HE⟩ := errs_steps l err
  rw [← hE0]
  obtain ⟨V, hV⟩ : ∃ V, E 0 = V := ⟨_, rfl⟩
  have HV := Lib.hid hV
  have HL := Lib.hid hEl
  rw [hV]
  clear hR hE0 hEl hV
  skip
  go_enter Tryz.func43, Tryz.ntmps43
  go_wp2
  go_loopw [10] (fun i wr => ∃ k : Nat, k ≤ l.length ∧ i = .int .i64 (k : Int) ∧ Hid (E k = V) ∧ Below w.heap.size w wr) (fun i _ => l.length - (intOf i).toNat)
  case atStart => exact ⟨0, by omega, rfl, HV, Below.refl _ _⟩
  case round =>
    obtain ⟨k, hk, rfl, hE, hbl⟩ := hrel
    by_cases hlt : k < l.length
    · obtain ⟨ad, y, hA, had, hy, c0, c1, _⟩ := (HR.out.to hbl).at_ hlt
      have hm := List.mem_of_getElem? hy
      rw [hA]
      clear hA
      have hs := HE.out k y hy
      have KY := Lib.hid (K.out y hm)
      clear hy hm HE
      generalize err y = v at *
      by_cases hv : v = 0
      · subst hv
        have hn : Hid (E (k + 1) = V) := Lib.hid (by rw [← hE.out, hs]; rfl)
        clear hs hE
        go_wp2_with (go_at_call 44; (with_reducible refine (KY.out _ ?_).mono ?_); (focus ((repeat (first | (with_reducible exact Below.refl _ _) | (with_reducible assumption) | (with_reducible exact bel_box _) | (with_reducible refine bel_step ?_ (by with_reducible assumption)) | (with_reducible refine Below.drew ?_) | (with_reducible refine below_drewN ?_ _) | (with_reducible refine bel_alloc ?_ _))); done)); rintro e w1 ⟨rfl, hb1⟩)
        exact ⟨⟨k + 1, by omega, by congr 1, hn, (by repeat (first | (with_reducible exact Below.refl _ _) | (with_reducible assumption) | (with_reducible exact bel_box _) | (with_reducible refine bel_step ?_ (by with_reducible assumption)) | (with_reducible refine Below.drew ?_) | (with_reducible refine below_drewN ?_ _) | (with_reducible refine bel_alloc ?_ _)))⟩, by simp [intOf]; omega⟩
      · have hv2 : v = V := by rw [← hE.out, hs, orE, if_neg hv]
        have e0 : (v == 0) = false := by simp [hv]
        clear hs hE hv
        go_wp2_with (go_at_call 44; (with_reducible refine (KY.out _ ?_).mono ?_); (focus ((repeat (first | (with_reducible exact Below.refl _ _) | (with_reducible assumption) | (with_reducible exact bel_box _) | (with_reducible refine bel_step ?_ (by with_reducible assumption)) | (with_reducible refine Below.drew ?_) | (with_reducible refine below_drewN ?_ _) | (with_reducible refine bel_alloc ?_ _))); done)); rintro e w1 ⟨rfl, hb1⟩)
        go_ret
        exact ⟨(by first | rfl | exact congrArg (fun z : Int => Ending.returned (.int .i64 z)) hv2), (by repeat (first | (with_reducible exact Below.refl _ _) | (with_reducible assumption) | (with_reducible exact bel_box _) | (with_reducible refine bel_step ?_ (by with_reducible assumption)) | (with_reducible refine Below.drew ?_) | (with_reducible refine below_drewN ?_ _) | (with_reducible refine bel_alloc ?_ _)))⟩
    · obtain rfl : k = l.length := by omega
      have hv2 : 0 = V := HL.out.symm.trans hE.out
      clear hE HE HV HL
      go_wp2
      go_ret
      exact ⟨(by first | rfl | exact congrArg (fun z : Int => Ending.returned (.int .i64 z)) hv2), hbl⟩
set_option maxHeartbeats 1000000 in
set_option maxRecDepth 20000 in
theorem first_string_checkIdent  (r : Rw (ByteArray)) (err : ByteArray → Int) (w : World) (hR : RdR w w.heap.size 1 BC r)
    (K : Hid (∀ y ∈ r.l, ∀ W, Below w.heap.size w W → Calls Tryz.prog 77 #[.string y] W (Bel (.int .i64 (err y)) W))) :
    Calls Tryz.prog 76 #[.slice r.A r.l.length r.c, .func (.func 77) #[] #[]] w (Bel (.int .i64 (errs (r.l.map err))) w) := by
  have h9 := hR.len
  unfold maxLen at h9
  have HR := Lib.hid hR
  obtain ⟨E, hE0, hEl, HE⟩ := errs_steps r.l err
  rw [← hE0]
  obtain ⟨V, hV⟩ : ∃ V, E 0 = V := ⟨_, rfl⟩
  have HV := Lib.hid hV
  have HL := Lib.hid hEl
  rw [hV]
  clear hR hE0 hEl hV
  skip
  go_enter Tryz.func76, Tryz.ntmps76
  go_wp2
  go_loopw [10] (fun i wr => ∃ k : Nat, k ≤ r.l.length ∧ i = .int .i64 (k : Int) ∧ Hid (E k = V) ∧ Below w.heap.size w wr) (fun i _ => r.l.length - (intOf i).toNat)
  case atStart => exact ⟨0, by omega, rfl, HV, Below.refl _ _⟩
  case round =>
    obtain ⟨k, hk, rfl, hE, hbl⟩ := hrel
    by_cases hlt : k < r.l.length
    · obtain ⟨ad, y, hA, had, hy, hm, c0⟩ := (HR.out.blw oneB_B hbl hbl.size).at_ hlt
      unfold BC at c0
      rw [Nat.mul_one] at c0
      rw [hA]
      clear hA
      have hs := HE.out k y hy
      have KY := Lib.hid (K.out y hm)
      clear hy hm HE
      generalize err y = v at *
      by_cases hv : v = 0
      · subst hv
        have hn : Hid (E (k + 1) = V) := Lib.hid (by rw [← hE.out, hs]; rfl)
        clear hs hE
        go_wp2_with (go_at_call 77; (with_reducible refine (KY.out _ ?_).mono ?_); (focus ((repeat (first | (with_reducible exact Below.refl _ _) | (with_reducible assumption) | (with_reducible exact bel_box _) | (with_reducible refine bel_step ?_ (by with_reducible assumption)) | (with_reducible refine Below.drew ?_) | (with_reducible refine below_drewN ?_ _) | (with_reducible refine bel_alloc ?_ _))); done)); rintro e w1 ⟨rfl, hb1⟩)
        exact ⟨⟨k + 1, by omega, by congr 1, hn, (by repeat (first | (with_reducible exact Below.refl _ _) | (with_reducible assumption) | (with_reducible exact bel_box _) | (with_reducible refine bel_step ?_ (by with_reducible assumption)) | (with_reducible refine Below.drew ?_) | (with_reducible refine below_drewN ?_ _) | (with_reducible refine bel_alloc ?_ _)))⟩, by simp [intOf]; omega⟩
      · have hv2 : v = V := by rw [← hE.out, hs, orE, if_neg hv]
        have e0 : (v == 0) = false := by simp [hv]
        clear hs hE hv
        go_wp2_with (go_at_call 77; (with_reducible refine (KY.out _ ?_).mono ?_); (focus ((repeat (first | (with_reducible exact Below.refl _ _) | (with_reducible assumption) | (with_reducible exact bel_box _) | (with_reducible refine bel_step ?_ (by with_reducible assumption)) | (with_reducible refine Below.drew ?_) | (with_reducible refine below_drewN ?_ _) | (with_reducible refine bel_alloc ?_ _))); done)); rintro e w1 ⟨rfl, hb1⟩)
        go_ret
        exact ⟨(by first | rfl | exact congrArg (fun z : Int => Ending.returned (.int .i64 z)) hv2), (by repeat (first | (with_reducible exact Below.refl _ _) | (with_reducible assumption) | (with_reducible exact bel_box _) | (with_reducible refine bel_step ?_ (by with_reducible assumption)) | (with_reducible refine Below.drew ?_) | (with_reducible refine below_drewN ?_ _) | (with_reducible refine bel_alloc ?_ _)))⟩
    · obtain rfl : k = r.l.length := by omega
      have hv2 : 0 = V := HL.out.symm.trans hE.out
      clear hE HE HV HL
      go_wp2
      go_ret
      exact ⟨(by first | rfl | exact congrArg (fun z : Int => Ending.returned (.int .i64 z)) hv2), hbl⟩
set_option maxHeartbeats 1000000 in
set_option maxRecDepth 20000 in
theorem first_On_sampling (b0 : Value) (r : Rw (Ot)) (err : Ot → Int) (w : World) (hR : RdR w w.heap.size 3 OC r)
    (K : Hid (∀ y ∈ r.l, ∀ W, Below w.heap.size w W → Calls Tryz.prog 144 #[b0, oV y] W (Bel (.int .i64 (err y)) W))) :
    Calls Tryz.prog 143 #[.slice r.A r.l.length r.c, .func (.func 144) #[b0] #[]] w (Bel (.int .i64 (errs (r.l.map err))) w) := by
  have h9 := hR.len
  unfold maxLen at h9
  have HR := Lib.hid hR
  obtain ⟨E, hE0, hEl, HE⟩ := errs_steps r.l err
  rw [← hE0]
  obtain ⟨V, hV⟩ : ∃ V, E 0 = V := ⟨_, rfl⟩
  have HV := Lib.hid hV
  have HL := Lib.hid hEl
  rw [hV]
  clear hR hE0 hEl hV
  skip
  go_enter Tryz.func143, Tryz.ntmps143
  go_wp2
  go_loopw [10] (fun i wr => ∃ k : Nat, k ≤ r.l.length ∧ i = .int .i64 (k : Int) ∧ Hid (E k = V) ∧ Below w.heap.size w wr) (fun i _ => r.l.length - (intOf i).toNat)
  case atStart => exact ⟨0, by omega, rfl, HV, Below.refl _ _⟩
  case round =>
    obtain ⟨k, hk, rfl, hE, hbl⟩ := hrel
    by_cases hlt : k < r.l.length
    · obtain ⟨ad, y, hA, had, hy, hm, ⟨c0, c1, c2⟩⟩ := (HR.out.blw oneB_O hbl hbl.size).at_ hlt
      rw [hA]
      clear hA
      have hs := HE.out k y hy
      have KY := Lib.hid (K.out y hm)
      clear hy hm HE
      generalize err y = v at *
      by_cases hv : v = 0
      · subst hv
        have hn : Hid (E (k + 1) = V) := Lib.hid (by rw [← hE.out, hs]; rfl)
        clear hs hE
        go_wp2_with (go_at_call 144; (with_reducible refine (KY.out _ ?_).mono ?_); (focus ((repeat (first | (with_reducible exact Below.refl _ _) | (with_reducible assumption) | (with_reducible exact bel_box _) | (with_reducible refine bel_step ?_ (by with_reducible assumption)) | (with_reducible refine Below.drew ?_) | (with_reducible refine below_drewN ?_ _) | (with_reducible refine bel_alloc ?_ _))); done)); rintro e w1 ⟨rfl, hb1⟩)
        exact ⟨⟨k + 1, by omega, by congr 1, hn, (by repeat (first | (with_reducible exact Below.refl _ _) | (with_reducible assumption) | (with_reducible exact bel_box _) | (with_reducible refine bel_step ?_ (by with_reducible assumption)) | (with_reducible refine Below.drew ?_) | (with_reducible refine below_drewN ?_ _) | (with_reducible refine bel_alloc ?_ _)))⟩, by simp [intOf]; omega⟩
      · have hv2 : v = V := by rw [← hE.out, hs, orE, if_neg hv]
        have e0 : (v == 0) = false := by simp [hv]
        clear hs hE hv
        go_wp2_with (go_at_call 144; (with_reducible refine (KY.out _ ?_).mono ?_); (focus ((repeat (first | (with_reducible exact Below.refl _ _) | (with_reducible assumption) | (with_reducible exact bel_box _) | (with_reducible refine bel_step ?_ (by with_reducible assumption)) | (with_reducible refine Below.drew ?_) | (with_reducible refine below_drewN ?_ _) | (with_reducible refine bel_alloc ?_ _))); done)); rintro e w1 ⟨rfl, hb1⟩)
        go_ret
        exact ⟨(by first | rfl | exact congrArg (fun z : Int => Ending.returned (.int .i64 z)) hv2), (by repeat (first | (with_reducible exact Below.refl _ _) | (with_reducible assumption) | (with_reducible exact bel_box _) | (with_reducible refine bel_step ?_ (by with_reducible assumption)) | (with_reducible refine Below.drew ?_) | (with_reducible refine below_drewN ?_ _) | (with_reducible refine bel_alloc ?_ _)))⟩
    · obtain rfl : k = r.l.length := by omega
      have hv2 : 0 = V := HL.out.symm.trans hE.out
      clear hE HE HV HL
      go_wp2
      go_ret
      exact ⟨(by first | rfl | exact congrArg (fun z : Int => Ending.returned (.int .i64 z)) hv2), hbl⟩
set_option maxHeartbeats 1000000 in
set_option maxRecDepth 20000 in
theorem first_Auto_automaton1 (f0 : Value) (f1 : Value) (r : Rw (Rw St)) (err : Rw St → Int) (w : World) (hR : RdR w w.heap.size 1 AC r)
    (K : Hid (∀ y ∈ r.l, ∀ W, Below w.heap.size w W → Calls Tryz.prog 114 #[aV y, f0, f1] W (Bel (.int .i64 (err y)) W))) :
    Calls Tryz.prog 80 #[.slice r.A r.l.length r.c, .func (.func 114) #[] #[f0, f1]] w (Bel (.int .i64 (errs (r.l.map err))) w) := by
  have h9 := hR.len
  unfold maxLen at h9
  have HR := Lib.hid hR
  obtain ⟨E, hE0, hEl, HE⟩ := errs_steps r.l err
  rw [← hE0]
  obtain ⟨V, hV⟩ : ∃ V, E 0 = V := ⟨_, rfl⟩
  have HV := Lib.hid hV
  have HL := Lib.hid hEl
  rw [hV]
  clear hR hE0 hEl hV
  skip
  go_enter Tryz.func80, Tryz.ntmps80
  go_wp2
  go_loopw [10] (fun i wr => ∃ k : Nat, k ≤ r.l.length ∧ i = .int .i64 (k : Int) ∧ Hid (E k = V) ∧ Below w.heap.size w wr) (fun i _ => r.l.length - (intOf i).toNat)
  case atStart => exact ⟨0, by omega, rfl, HV, Below.refl _ _⟩
  case round =>
    obtain ⟨k, hk, rfl, hE, hbl⟩ := hrel
    by_cases hlt : k < r.l.length
    · obtain ⟨ad, y, hA, had, hy, hm, c0⟩ := (HR.out.blw oneB_A hbl hbl.size).at_ hlt
      unfold AC at c0
      rw [Nat.mul_one] at c0
      rw [hA]
      clear hA
      have hs := HE.out k y hy
      have KY := Lib.hid (K.out y hm)
      clear hy hm HE
      generalize err y = v at *
      by_cases hv : v = 0
      · subst hv
        have hn : Hid (E (k + 1) = V) := Lib.hid (by rw [← hE.out, hs]; rfl)
        clear hs hE
        go_wp2_with (go_at_call 114; (with_reducible refine (KY.out _ ?_).mono ?_); (focus ((repeat (first | (with_reducible exact Below.refl _ _) | (with_reducible assumption) | (with_reducible exact bel_box _) | (with_reducible refine bel_step ?_ (by with_reducible assumption)) | (with_reducible refine Below.drew ?_) | (with_reducible refine below_drewN ?_ _) | (with_reducible refine bel_alloc ?_ _))); done)); rintro e w1 ⟨rfl, hb1⟩)
        exact ⟨⟨k + 1, by omega, by congr 1, hn, (by repeat (first | (with_reducible exact Below.refl _ _) | (with_reducible assumption) | (with_reducible exact bel_box _) | (with_reducible refine bel_step ?_ (by with_reducible assumption)) | (with_reducible refine Below.drew ?_) | (with_reducible refine below_drewN ?_ _) | (with_reducible refine bel_alloc ?_ _)))⟩, by simp [intOf]; omega⟩
      · have hv2 : v = V := by rw [← hE.out, hs, orE, if_neg hv]
        have e0 : (v == 0) = false := by simp [hv]
        clear hs hE hv
        go_wp2_with (go_at_call 114; (with_reducible refine (KY.out _ ?_).mono ?_); (focus ((repeat (first | (with_reducible exact Below.refl _ _) | (with_reducible assumption) | (with_reducible exact bel_box _) | (with_reducible refine bel_step ?_ (by with_reducible assumption)) | (with_reducible refine Below.drew ?_) | (with_reducible refine below_drewN ?_ _) | (with_reducible refine bel_alloc ?_ _))); done)); rintro e w1 ⟨rfl, hb1⟩)
        go_ret
        exact ⟨(by first | rfl | exact congrArg (fun z : Int => Ending.returned (.int .i64 z)) hv2), (by repeat (first | (with_reducible exact Below.refl _ _) | (with_reducible assumption) | (with_reducible exact bel_box _) | (with_reducible refine bel_step ?_ (by with_reducible assumption)) | (with_reducible refine Below.drew ?_) | (with_reducible refine below_drewN ?_ _) | (with_reducible refine bel_alloc ?_ _)))⟩
    · obtain rfl : k = r.l.length := by omega
      have hv2 : 0 = V := HL.out.symm.trans hE.out
      clear hE HE HV HL
      go_wp2
      go_ret
      exact ⟨(by first | rfl | exact congrArg (fun z : Int => Ending.returned (.int .i64 z)) hv2), hbl⟩
end Go.Proofs.YthlapepjebidgaaGreatDoor
/- The boxes of struct parameters, in any later world. -/
namespace Go.Proofs.YthlapepjebidgaaGreatDoor
set_option linter.unusedVariables false
set_option linter.unusedSimpArgs false
open Go.RowKit
theorem B1D {w W : World} (d : Dt) (h : Below (w.alloc (.cells #[.string d.nm, .int .i64 d.ty, .slice d.ck.A d.ck.l.length d.ck.c] 98)).heap.size (w.alloc (.cells #[.string d.nm, .int .i64 d.ty, .slice d.ck.A d.ck.l.length d.ck.c] 98)) W) :
    W.cell? ⟨w.heap.size, 0, none⟩ = some (.string d.nm) ∧ W.cell? ⟨w.heap.size, 1, none⟩ = some (.int .i64 d.ty) ∧ W.cell? ⟨w.heap.size, 2, none⟩ = some (.slice d.ck.A d.ck.l.length d.ck.c) ∧ w.heap.size < W.heap.size := by
  have hs := h.size
  rw [World.size_alloc] at hs
  have hc : ∀ q : Addr, q.block < w.heap.size + 1 → W.cell? q = _ := fun q hq => h.cell (by rw [World.size_alloc]; exact hq)
  refine ⟨?_, ?_, ?_, hs⟩
  all_goals (rw [hc _ (by simp)]; simp [go_sem])
theorem B2D {w W : World} (E : Rw va.En) (d : Dt) (h : Below ((w.alloc (.cells #[.slice E.A E.l.length E.c] 75)).alloc (.cells #[.string d.nm, .int .i64 d.ty, .slice d.ck.A d.ck.l.length d.ck.c] 98)).heap.size ((w.alloc (.cells #[.slice E.A E.l.length E.c] 75)).alloc (.cells #[.string d.nm, .int .i64 d.ty, .slice d.ck.A d.ck.l.length d.ck.c] 98)) W) :
    W.cell? ⟨w.heap.size, 0, none⟩ = some (.slice E.A E.l.length E.c) ∧ W.cell? ⟨w.heap.size + 1, 0, none⟩ = some (.string d.nm) ∧ W.cell? ⟨w.heap.size + 1, 1, none⟩ = some (.int .i64 d.ty) ∧ W.cell? ⟨w.heap.size + 1, 2, none⟩ = some (.slice d.ck.A d.ck.l.length d.ck.c) ∧ w.heap.size + 1 < W.heap.size := by
  have hs := h.size
  rw [World.size_alloc, World.size_alloc] at hs
  have hc : ∀ q : Addr, q.block < w.heap.size + 2 → W.cell? q = _ := fun q hq => h.cell (by rw [World.size_alloc, World.size_alloc]; exact hq)
  refine ⟨?_, ?_, ?_, ?_, hs⟩
  all_goals (rw [hc _ (by simp)]; simp [go_sem])
theorem B1O {w W : World} (o : Ot) (h : Below (w.alloc (.cells #[.string o.nm, .int .i64 o.t, .int .i64 o.tag] 153)).heap.size (w.alloc (.cells #[.string o.nm, .int .i64 o.t, .int .i64 o.tag] 153)) W) :
    W.cell? ⟨w.heap.size, 0, none⟩ = some (.string o.nm) ∧ W.cell? ⟨w.heap.size, 1, none⟩ = some (.int .i64 o.t) ∧ W.cell? ⟨w.heap.size, 2, none⟩ = some (.int .i64 o.tag) ∧ w.heap.size < W.heap.size := by
  have hs := h.size
  rw [World.size_alloc] at hs
  have hc : ∀ q : Addr, q.block < w.heap.size + 1 → W.cell? q = _ := fun q hq => h.cell (by rw [World.size_alloc]; exact hq)
  refine ⟨?_, ?_, ?_, hs⟩
  all_goals (rw [hc _ (by simp)]; simp [go_sem])
theorem B2O {w W : World} (E : Rw va.En) (o : Ot) (h : Below ((w.alloc (.cells #[.slice E.A E.l.length E.c] 75)).alloc (.cells #[.string o.nm, .int .i64 o.t, .int .i64 o.tag] 153)).heap.size ((w.alloc (.cells #[.slice E.A E.l.length E.c] 75)).alloc (.cells #[.string o.nm, .int .i64 o.t, .int .i64 o.tag] 153)) W) :
    W.cell? ⟨w.heap.size, 0, none⟩ = some (.slice E.A E.l.length E.c) ∧ W.cell? ⟨w.heap.size + 1, 0, none⟩ = some (.string o.nm) ∧ W.cell? ⟨w.heap.size + 1, 1, none⟩ = some (.int .i64 o.t) ∧ W.cell? ⟨w.heap.size + 1, 2, none⟩ = some (.int .i64 o.tag) ∧ w.heap.size + 1 < W.heap.size := by
  have hs := h.size
  rw [World.size_alloc, World.size_alloc] at hs
  have hc : ∀ q : Addr, q.block < w.heap.size + 2 → W.cell? q = _ := fun q hq => h.cell (by rw [World.size_alloc, World.size_alloc]; exact hq)
  refine ⟨?_, ?_, ?_, ?_, hs⟩
  all_goals (rw [hc _ (by simp)]; simp [go_sem])
theorem B1X {w W : World} (x : Xt) (h : Below (w.alloc (.cells #[.int .i64 x.k, .int .i64 x.op, .int .i64 x.t, .int .i64 x.v, .string x.nm, .slice x.A x.ar.length x.c] 24)).heap.size (w.alloc (.cells #[.int .i64 x.k, .int .i64 x.op, .int .i64 x.t, .int .i64 x.v, .string x.nm, .slice x.A x.ar.length x.c] 24)) W) :
    W.cell? ⟨w.heap.size, 0, none⟩ = some (.int .i64 x.k) ∧ W.cell? ⟨w.heap.size, 1, none⟩ = some (.int .i64 x.op) ∧ W.cell? ⟨w.heap.size, 2, none⟩ = some (.int .i64 x.t) ∧ W.cell? ⟨w.heap.size, 3, none⟩ = some (.int .i64 x.v) ∧ W.cell? ⟨w.heap.size, 4, none⟩ = some (.string x.nm) ∧ W.cell? ⟨w.heap.size, 5, none⟩ = some (.slice x.A x.ar.length x.c) ∧ w.heap.size < W.heap.size := by
  have hs := h.size
  rw [World.size_alloc] at hs
  have hc : ∀ q : Addr, q.block < w.heap.size + 1 → W.cell? q = _ := fun q hq => h.cell (by rw [World.size_alloc]; exact hq)
  refine ⟨?_, ?_, ?_, ?_, ?_, ?_, hs⟩
  all_goals (rw [hc _ (by simp)]; simp [go_sem])
theorem B2X {w W : World} (E : Rw va.En) (x : Xt) (h : Below ((w.alloc (.cells #[.slice E.A E.l.length E.c] 75)).alloc (.cells #[.int .i64 x.k, .int .i64 x.op, .int .i64 x.t, .int .i64 x.v, .string x.nm, .slice x.A x.ar.length x.c] 24)).heap.size ((w.alloc (.cells #[.slice E.A E.l.length E.c] 75)).alloc (.cells #[.int .i64 x.k, .int .i64 x.op, .int .i64 x.t, .int .i64 x.v, .string x.nm, .slice x.A x.ar.length x.c] 24)) W) :
    W.cell? ⟨w.heap.size, 0, none⟩ = some (.slice E.A E.l.length E.c) ∧ W.cell? ⟨w.heap.size + 1, 0, none⟩ = some (.int .i64 x.k) ∧ W.cell? ⟨w.heap.size + 1, 1, none⟩ = some (.int .i64 x.op) ∧ W.cell? ⟨w.heap.size + 1, 2, none⟩ = some (.int .i64 x.t) ∧ W.cell? ⟨w.heap.size + 1, 3, none⟩ = some (.int .i64 x.v) ∧ W.cell? ⟨w.heap.size + 1, 4, none⟩ = some (.string x.nm) ∧ W.cell? ⟨w.heap.size + 1, 5, none⟩ = some (.slice x.A x.ar.length x.c) ∧ w.heap.size + 1 < W.heap.size := by
  have hs := h.size
  rw [World.size_alloc, World.size_alloc] at hs
  have hc : ∀ q : Addr, q.block < w.heap.size + 2 → W.cell? q = _ := fun q hq => h.cell (by rw [World.size_alloc, World.size_alloc]; exact hq)
  refine ⟨?_, ?_, ?_, ?_, ?_, ?_, ?_, hs⟩
  all_goals (rw [hc _ (by simp)]; simp [go_sem])
theorem B1Q {w W : World} (q : Qt) (h : Below (w.alloc (.cells #[.slice q.lf.A q.lf.l.length q.lf.c, .int .i64 q.r.k, .int .i64 q.r.op, .int .i64 q.r.t, .int .i64 q.r.v, .string q.r.nm, .slice q.r.A q.r.ar.length q.r.c] 59)).heap.size (w.alloc (.cells #[.slice q.lf.A q.lf.l.length q.lf.c, .int .i64 q.r.k, .int .i64 q.r.op, .int .i64 q.r.t, .int .i64 q.r.v, .string q.r.nm, .slice q.r.A q.r.ar.length q.r.c] 59)) W) :
    W.cell? ⟨w.heap.size, 0, none⟩ = some (.slice q.lf.A q.lf.l.length q.lf.c) ∧ W.cell? ⟨w.heap.size, 1, none⟩ = some (.int .i64 q.r.k) ∧ W.cell? ⟨w.heap.size, 2, none⟩ = some (.int .i64 q.r.op) ∧ W.cell? ⟨w.heap.size, 3, none⟩ = some (.int .i64 q.r.t) ∧ W.cell? ⟨w.heap.size, 4, none⟩ = some (.int .i64 q.r.v) ∧ W.cell? ⟨w.heap.size, 5, none⟩ = some (.string q.r.nm) ∧ W.cell? ⟨w.heap.size, 6, none⟩ = some (.slice q.r.A q.r.ar.length q.r.c) ∧ w.heap.size < W.heap.size := by
  have hs := h.size
  rw [World.size_alloc] at hs
  have hc : ∀ q : Addr, q.block < w.heap.size + 1 → W.cell? q = _ := fun q hq => h.cell (by rw [World.size_alloc]; exact hq)
  refine ⟨?_, ?_, ?_, ?_, ?_, ?_, ?_, hs⟩
  all_goals (rw [hc _ (by simp)]; simp [go_sem])
theorem B2Q {w W : World} (E : Rw va.En) (q : Qt) (h : Below ((w.alloc (.cells #[.slice E.A E.l.length E.c] 75)).alloc (.cells #[.slice q.lf.A q.lf.l.length q.lf.c, .int .i64 q.r.k, .int .i64 q.r.op, .int .i64 q.r.t, .int .i64 q.r.v, .string q.r.nm, .slice q.r.A q.r.ar.length q.r.c] 59)).heap.size ((w.alloc (.cells #[.slice E.A E.l.length E.c] 75)).alloc (.cells #[.slice q.lf.A q.lf.l.length q.lf.c, .int .i64 q.r.k, .int .i64 q.r.op, .int .i64 q.r.t, .int .i64 q.r.v, .string q.r.nm, .slice q.r.A q.r.ar.length q.r.c] 59)) W) :
    W.cell? ⟨w.heap.size, 0, none⟩ = some (.slice E.A E.l.length E.c) ∧ W.cell? ⟨w.heap.size + 1, 0, none⟩ = some (.slice q.lf.A q.lf.l.length q.lf.c) ∧ W.cell? ⟨w.heap.size + 1, 1, none⟩ = some (.int .i64 q.r.k) ∧ W.cell? ⟨w.heap.size + 1, 2, none⟩ = some (.int .i64 q.r.op) ∧ W.cell? ⟨w.heap.size + 1, 3, none⟩ = some (.int .i64 q.r.t) ∧ W.cell? ⟨w.heap.size + 1, 4, none⟩ = some (.int .i64 q.r.v) ∧ W.cell? ⟨w.heap.size + 1, 5, none⟩ = some (.string q.r.nm) ∧ W.cell? ⟨w.heap.size + 1, 6, none⟩ = some (.slice q.r.A q.r.ar.length q.r.c) ∧ w.heap.size + 1 < W.heap.size := by
  have hs := h.size
  rw [World.size_alloc, World.size_alloc] at hs
  have hc : ∀ q : Addr, q.block < w.heap.size + 2 → W.cell? q = _ := fun q hq => h.cell (by rw [World.size_alloc, World.size_alloc]; exact hq)
  refine ⟨?_, ?_, ?_, ?_, ?_, ?_, ?_, ?_, hs⟩
  all_goals (rw [hc _ (by simp)]; simp [go_sem])
theorem B1T {w W : World} (t : Tt) (h : Below (w.alloc (.cells #[.int .i64 t.cd.k, .int .i64 t.cd.op, .int .i64 t.cd.t, .int .i64 t.cd.v, .string t.cd.nm, .slice t.cd.A t.cd.ar.length t.cd.c, .int .i64 t.to, .bool t.re] 103)).heap.size (w.alloc (.cells #[.int .i64 t.cd.k, .int .i64 t.cd.op, .int .i64 t.cd.t, .int .i64 t.cd.v, .string t.cd.nm, .slice t.cd.A t.cd.ar.length t.cd.c, .int .i64 t.to, .bool t.re] 103)) W) :
    W.cell? ⟨w.heap.size, 0, none⟩ = some (.int .i64 t.cd.k) ∧ W.cell? ⟨w.heap.size, 1, none⟩ = some (.int .i64 t.cd.op) ∧ W.cell? ⟨w.heap.size, 2, none⟩ = some (.int .i64 t.cd.t) ∧ W.cell? ⟨w.heap.size, 3, none⟩ = some (.int .i64 t.cd.v) ∧ W.cell? ⟨w.heap.size, 4, none⟩ = some (.string t.cd.nm) ∧ W.cell? ⟨w.heap.size, 5, none⟩ = some (.slice t.cd.A t.cd.ar.length t.cd.c) ∧ W.cell? ⟨w.heap.size, 6, none⟩ = some (.int .i64 t.to) ∧ W.cell? ⟨w.heap.size, 7, none⟩ = some (.bool t.re) ∧ w.heap.size < W.heap.size := by
  have hs := h.size
  rw [World.size_alloc] at hs
  have hc : ∀ q : Addr, q.block < w.heap.size + 1 → W.cell? q = _ := fun q hq => h.cell (by rw [World.size_alloc]; exact hq)
  refine ⟨?_, ?_, ?_, ?_, ?_, ?_, ?_, ?_, hs⟩
  all_goals (rw [hc _ (by simp)]; simp [go_sem])
theorem B2T {w W : World} (E : Rw va.En) (t : Tt) (h : Below ((w.alloc (.cells #[.slice E.A E.l.length E.c] 75)).alloc (.cells #[.int .i64 t.cd.k, .int .i64 t.cd.op, .int .i64 t.cd.t, .int .i64 t.cd.v, .string t.cd.nm, .slice t.cd.A t.cd.ar.length t.cd.c, .int .i64 t.to, .bool t.re] 103)).heap.size ((w.alloc (.cells #[.slice E.A E.l.length E.c] 75)).alloc (.cells #[.int .i64 t.cd.k, .int .i64 t.cd.op, .int .i64 t.cd.t, .int .i64 t.cd.v, .string t.cd.nm, .slice t.cd.A t.cd.ar.length t.cd.c, .int .i64 t.to, .bool t.re] 103)) W) :
    W.cell? ⟨w.heap.size, 0, none⟩ = some (.slice E.A E.l.length E.c) ∧ W.cell? ⟨w.heap.size + 1, 0, none⟩ = some (.int .i64 t.cd.k) ∧ W.cell? ⟨w.heap.size + 1, 1, none⟩ = some (.int .i64 t.cd.op) ∧ W.cell? ⟨w.heap.size + 1, 2, none⟩ = some (.int .i64 t.cd.t) ∧ W.cell? ⟨w.heap.size + 1, 3, none⟩ = some (.int .i64 t.cd.v) ∧ W.cell? ⟨w.heap.size + 1, 4, none⟩ = some (.string t.cd.nm) ∧ W.cell? ⟨w.heap.size + 1, 5, none⟩ = some (.slice t.cd.A t.cd.ar.length t.cd.c) ∧ W.cell? ⟨w.heap.size + 1, 6, none⟩ = some (.int .i64 t.to) ∧ W.cell? ⟨w.heap.size + 1, 7, none⟩ = some (.bool t.re) ∧ w.heap.size + 1 < W.heap.size := by
  have hs := h.size
  rw [World.size_alloc, World.size_alloc] at hs
  have hc : ∀ q : Addr, q.block < w.heap.size + 2 → W.cell? q = _ := fun q hq => h.cell (by rw [World.size_alloc, World.size_alloc]; exact hq)
  refine ⟨?_, ?_, ?_, ?_, ?_, ?_, ?_, ?_, ?_, hs⟩
  all_goals (rw [hc _ (by simp)]; simp [go_sem])
theorem B1S {w W : World} (s : St) (h : Below (w.alloc (.cells #[.string s.nm, .slice s.lc.A s.lc.l.length s.lc.c, .slice s.qs.A s.qs.l.length s.qs.c, .slice s.au.A s.au.l.length s.au.c, .slice s.un.A s.un.l.length s.un.c, .slice s.ut.A s.ut.l.length s.ut.c] 95)).heap.size (w.alloc (.cells #[.string s.nm, .slice s.lc.A s.lc.l.length s.lc.c, .slice s.qs.A s.qs.l.length s.qs.c, .slice s.au.A s.au.l.length s.au.c, .slice s.un.A s.un.l.length s.un.c, .slice s.ut.A s.ut.l.length s.ut.c] 95)) W) :
    W.cell? ⟨w.heap.size, 0, none⟩ = some (.string s.nm) ∧ W.cell? ⟨w.heap.size, 1, none⟩ = some (.slice s.lc.A s.lc.l.length s.lc.c) ∧ W.cell? ⟨w.heap.size, 2, none⟩ = some (.slice s.qs.A s.qs.l.length s.qs.c) ∧ W.cell? ⟨w.heap.size, 3, none⟩ = some (.slice s.au.A s.au.l.length s.au.c) ∧ W.cell? ⟨w.heap.size, 4, none⟩ = some (.slice s.un.A s.un.l.length s.un.c) ∧ W.cell? ⟨w.heap.size, 5, none⟩ = some (.slice s.ut.A s.ut.l.length s.ut.c) ∧ w.heap.size < W.heap.size := by
  have hs := h.size
  rw [World.size_alloc] at hs
  have hc : ∀ q : Addr, q.block < w.heap.size + 1 → W.cell? q = _ := fun q hq => h.cell (by rw [World.size_alloc]; exact hq)
  refine ⟨?_, ?_, ?_, ?_, ?_, ?_, hs⟩
  all_goals (rw [hc _ (by simp)]; simp [go_sem])
theorem B2S {w W : World} (E : Rw va.En) (s : St) (h : Below ((w.alloc (.cells #[.slice E.A E.l.length E.c] 75)).alloc (.cells #[.string s.nm, .slice s.lc.A s.lc.l.length s.lc.c, .slice s.qs.A s.qs.l.length s.qs.c, .slice s.au.A s.au.l.length s.au.c, .slice s.un.A s.un.l.length s.un.c, .slice s.ut.A s.ut.l.length s.ut.c] 95)).heap.size ((w.alloc (.cells #[.slice E.A E.l.length E.c] 75)).alloc (.cells #[.string s.nm, .slice s.lc.A s.lc.l.length s.lc.c, .slice s.qs.A s.qs.l.length s.qs.c, .slice s.au.A s.au.l.length s.au.c, .slice s.un.A s.un.l.length s.un.c, .slice s.ut.A s.ut.l.length s.ut.c] 95)) W) :
    W.cell? ⟨w.heap.size, 0, none⟩ = some (.slice E.A E.l.length E.c) ∧ W.cell? ⟨w.heap.size + 1, 0, none⟩ = some (.string s.nm) ∧ W.cell? ⟨w.heap.size + 1, 1, none⟩ = some (.slice s.lc.A s.lc.l.length s.lc.c) ∧ W.cell? ⟨w.heap.size + 1, 2, none⟩ = some (.slice s.qs.A s.qs.l.length s.qs.c) ∧ W.cell? ⟨w.heap.size + 1, 3, none⟩ = some (.slice s.au.A s.au.l.length s.au.c) ∧ W.cell? ⟨w.heap.size + 1, 4, none⟩ = some (.slice s.un.A s.un.l.length s.un.c) ∧ W.cell? ⟨w.heap.size + 1, 5, none⟩ = some (.slice s.ut.A s.ut.l.length s.ut.c) ∧ w.heap.size + 1 < W.heap.size := by
  have hs := h.size
  rw [World.size_alloc, World.size_alloc] at hs
  have hc : ∀ q : Addr, q.block < w.heap.size + 2 → W.cell? q = _ := fun q hq => h.cell (by rw [World.size_alloc, World.size_alloc]; exact hq)
  refine ⟨?_, ?_, ?_, ?_, ?_, ?_, ?_, hs⟩
  all_goals (rw [hc _ (by simp)]; simp [go_sem])
theorem B1A {w W : World} (a : Rw St) (h : Below (w.alloc (.cells #[.slice a.A a.l.length a.c] 101)).heap.size (w.alloc (.cells #[.slice a.A a.l.length a.c] 101)) W) :
    W.cell? ⟨w.heap.size, 0, none⟩ = some (.slice a.A a.l.length a.c) ∧ w.heap.size < W.heap.size := by
  have hs := h.size
  rw [World.size_alloc] at hs
  have hc : ∀ q : Addr, q.block < w.heap.size + 1 → W.cell? q = _ := fun q hq => h.cell (by rw [World.size_alloc]; exact hq)
  refine ⟨?_, hs⟩
  all_goals (rw [hc _ (by simp)]; simp [go_sem])
theorem B2A {w W : World} (E : Rw va.En) (a : Rw St) (h : Below ((w.alloc (.cells #[.slice E.A E.l.length E.c] 75)).alloc (.cells #[.slice a.A a.l.length a.c] 101)).heap.size ((w.alloc (.cells #[.slice E.A E.l.length E.c] 75)).alloc (.cells #[.slice a.A a.l.length a.c] 101)) W) :
    W.cell? ⟨w.heap.size, 0, none⟩ = some (.slice E.A E.l.length E.c) ∧ W.cell? ⟨w.heap.size + 1, 0, none⟩ = some (.slice a.A a.l.length a.c) ∧ w.heap.size + 1 < W.heap.size := by
  have hs := h.size
  rw [World.size_alloc, World.size_alloc] at hs
  have hc : ∀ q : Addr, q.block < w.heap.size + 2 → W.cell? q = _ := fun q hq => h.cell (by rw [World.size_alloc, World.size_alloc]; exact hq)
  refine ⟨?_, ?_, hs⟩
  all_goals (rw [hc _ (by simp)]; simp [go_sem])
theorem B1N {w W : World} (n : Nt) (h : Below (w.alloc (.cells #[.string n.nm, .slice n.ins.A n.ins.l.length n.ins.c, .slice n.outs.A n.outs.l.length n.outs.c, .slice n.locs.A n.locs.l.length n.locs.c, .slice n.qs.A n.qs.l.length n.qs.c, .slice n.au.A n.au.l.length n.au.c, .slice n.asm.A n.asm.l.length n.asm.c, .slice n.ens.A n.ens.l.length n.ens.c] 56)).heap.size (w.alloc (.cells #[.string n.nm, .slice n.ins.A n.ins.l.length n.ins.c, .slice n.outs.A n.outs.l.length n.outs.c, .slice n.locs.A n.locs.l.length n.locs.c, .slice n.qs.A n.qs.l.length n.qs.c, .slice n.au.A n.au.l.length n.au.c, .slice n.asm.A n.asm.l.length n.asm.c, .slice n.ens.A n.ens.l.length n.ens.c] 56)) W) :
    W.cell? ⟨w.heap.size, 0, none⟩ = some (.string n.nm) ∧ W.cell? ⟨w.heap.size, 1, none⟩ = some (.slice n.ins.A n.ins.l.length n.ins.c) ∧ W.cell? ⟨w.heap.size, 2, none⟩ = some (.slice n.outs.A n.outs.l.length n.outs.c) ∧ W.cell? ⟨w.heap.size, 3, none⟩ = some (.slice n.locs.A n.locs.l.length n.locs.c) ∧ W.cell? ⟨w.heap.size, 4, none⟩ = some (.slice n.qs.A n.qs.l.length n.qs.c) ∧ W.cell? ⟨w.heap.size, 5, none⟩ = some (.slice n.au.A n.au.l.length n.au.c) ∧ W.cell? ⟨w.heap.size, 6, none⟩ = some (.slice n.asm.A n.asm.l.length n.asm.c) ∧ W.cell? ⟨w.heap.size, 7, none⟩ = some (.slice n.ens.A n.ens.l.length n.ens.c) ∧ w.heap.size < W.heap.size := by
  have hs := h.size
  rw [World.size_alloc] at hs
  have hc : ∀ q : Addr, q.block < w.heap.size + 1 → W.cell? q = _ := fun q hq => h.cell (by rw [World.size_alloc]; exact hq)
  refine ⟨?_, ?_, ?_, ?_, ?_, ?_, ?_, ?_, hs⟩
  all_goals (rw [hc _ (by simp)]; simp [go_sem])
theorem B2N {w W : World} (E : Rw va.En) (n : Nt) (h : Below ((w.alloc (.cells #[.slice E.A E.l.length E.c] 75)).alloc (.cells #[.string n.nm, .slice n.ins.A n.ins.l.length n.ins.c, .slice n.outs.A n.outs.l.length n.outs.c, .slice n.locs.A n.locs.l.length n.locs.c, .slice n.qs.A n.qs.l.length n.qs.c, .slice n.au.A n.au.l.length n.au.c, .slice n.asm.A n.asm.l.length n.asm.c, .slice n.ens.A n.ens.l.length n.ens.c] 56)).heap.size ((w.alloc (.cells #[.slice E.A E.l.length E.c] 75)).alloc (.cells #[.string n.nm, .slice n.ins.A n.ins.l.length n.ins.c, .slice n.outs.A n.outs.l.length n.outs.c, .slice n.locs.A n.locs.l.length n.locs.c, .slice n.qs.A n.qs.l.length n.qs.c, .slice n.au.A n.au.l.length n.au.c, .slice n.asm.A n.asm.l.length n.asm.c, .slice n.ens.A n.ens.l.length n.ens.c] 56)) W) :
    W.cell? ⟨w.heap.size, 0, none⟩ = some (.slice E.A E.l.length E.c) ∧ W.cell? ⟨w.heap.size + 1, 0, none⟩ = some (.string n.nm) ∧ W.cell? ⟨w.heap.size + 1, 1, none⟩ = some (.slice n.ins.A n.ins.l.length n.ins.c) ∧ W.cell? ⟨w.heap.size + 1, 2, none⟩ = some (.slice n.outs.A n.outs.l.length n.outs.c) ∧ W.cell? ⟨w.heap.size + 1, 3, none⟩ = some (.slice n.locs.A n.locs.l.length n.locs.c) ∧ W.cell? ⟨w.heap.size + 1, 4, none⟩ = some (.slice n.qs.A n.qs.l.length n.qs.c) ∧ W.cell? ⟨w.heap.size + 1, 5, none⟩ = some (.slice n.au.A n.au.l.length n.au.c) ∧ W.cell? ⟨w.heap.size + 1, 6, none⟩ = some (.slice n.asm.A n.asm.l.length n.asm.c) ∧ W.cell? ⟨w.heap.size + 1, 7, none⟩ = some (.slice n.ens.A n.ens.l.length n.ens.c) ∧ w.heap.size + 1 < W.heap.size := by
  have hs := h.size
  rw [World.size_alloc, World.size_alloc] at hs
  have hc : ∀ q : Addr, q.block < w.heap.size + 2 → W.cell? q = _ := fun q hq => h.cell (by rw [World.size_alloc, World.size_alloc]; exact hq)
  refine ⟨?_, ?_, ?_, ?_, ?_, ?_, ?_, ?_, ?_, hs⟩
  all_goals (rw [hc _ (by simp)]; simp [go_sem])
theorem B1P {w W : World} (p : Pt) (h : Below (w.alloc (.cells #[.slice p.es.A p.es.l.length p.es.c, .slice p.ns.A p.ns.l.length p.ns.c] 36)).heap.size (w.alloc (.cells #[.slice p.es.A p.es.l.length p.es.c, .slice p.ns.A p.ns.l.length p.ns.c] 36)) W) :
    W.cell? ⟨w.heap.size, 0, none⟩ = some (.slice p.es.A p.es.l.length p.es.c) ∧ W.cell? ⟨w.heap.size, 1, none⟩ = some (.slice p.ns.A p.ns.l.length p.ns.c) ∧ w.heap.size < W.heap.size := by
  have hs := h.size
  rw [World.size_alloc] at hs
  have hc : ∀ q : Addr, q.block < w.heap.size + 1 → W.cell? q = _ := fun q hq => h.cell (by rw [World.size_alloc]; exact hq)
  refine ⟨?_, ?_, hs⟩
  all_goals (rw [hc _ (by simp)]; simp [go_sem])
theorem B2P {w W : World} (E : Rw va.En) (p : Pt) (h : Below ((w.alloc (.cells #[.slice E.A E.l.length E.c] 75)).alloc (.cells #[.slice p.es.A p.es.l.length p.es.c, .slice p.ns.A p.ns.l.length p.ns.c] 36)).heap.size ((w.alloc (.cells #[.slice E.A E.l.length E.c] 75)).alloc (.cells #[.slice p.es.A p.es.l.length p.es.c, .slice p.ns.A p.ns.l.length p.ns.c] 36)) W) :
    W.cell? ⟨w.heap.size, 0, none⟩ = some (.slice E.A E.l.length E.c) ∧ W.cell? ⟨w.heap.size + 1, 0, none⟩ = some (.slice p.es.A p.es.l.length p.es.c) ∧ W.cell? ⟨w.heap.size + 1, 1, none⟩ = some (.slice p.ns.A p.ns.l.length p.ns.c) ∧ w.heap.size + 1 < W.heap.size := by
  have hs := h.size
  rw [World.size_alloc, World.size_alloc] at hs
  have hc : ∀ q : Addr, q.block < w.heap.size + 2 → W.cell? q = _ := fun q hq => h.cell (by rw [World.size_alloc, World.size_alloc]; exact hq)
  refine ⟨?_, ?_, ?_, hs⟩
  all_goals (rw [hc _ (by simp)]; simp [go_sem])
theorem B1E {w W : World} (e : va.En) (h : Below (w.alloc (.cells #[.string e.name, .slice e.A e.tags.length e.c] 72)).heap.size (w.alloc (.cells #[.string e.name, .slice e.A e.tags.length e.c] 72)) W) :
    W.cell? ⟨w.heap.size, 0, none⟩ = some (.string e.name) ∧ W.cell? ⟨w.heap.size, 1, none⟩ = some (.slice e.A e.tags.length e.c) ∧ w.heap.size < W.heap.size := by
  have hs := h.size
  rw [World.size_alloc] at hs
  have hc : ∀ q : Addr, q.block < w.heap.size + 1 → W.cell? q = _ := fun q hq => h.cell (by rw [World.size_alloc]; exact hq)
  refine ⟨?_, ?_, hs⟩
  all_goals (rw [hc _ (by simp)]; simp [go_sem])
theorem B2E {w W : World} (E : Rw va.En) (e : va.En) (h : Below ((w.alloc (.cells #[.slice E.A E.l.length E.c] 75)).alloc (.cells #[.string e.name, .slice e.A e.tags.length e.c] 72)).heap.size ((w.alloc (.cells #[.slice E.A E.l.length E.c] 75)).alloc (.cells #[.string e.name, .slice e.A e.tags.length e.c] 72)) W) :
    W.cell? ⟨w.heap.size, 0, none⟩ = some (.slice E.A E.l.length E.c) ∧ W.cell? ⟨w.heap.size + 1, 0, none⟩ = some (.string e.name) ∧ W.cell? ⟨w.heap.size + 1, 1, none⟩ = some (.slice e.A e.tags.length e.c) ∧ w.heap.size + 1 < W.heap.size := by
  have hs := h.size
  rw [World.size_alloc, World.size_alloc] at hs
  have hc : ∀ q : Addr, q.block < w.heap.size + 2 → W.cell? q = _ := fun q hq => h.cell (by rw [World.size_alloc, World.size_alloc]; exact hq)
  refine ⟨?_, ?_, ?_, hs⟩
  all_goals (rw [hc _ (by simp)]; simp [go_sem])
theorem B1K {w W : World} (E : Rw va.En) (h : Below (w.alloc (.cells #[.slice E.A E.l.length E.c] 75)).heap.size (w.alloc (.cells #[.slice E.A E.l.length E.c] 75)) W) :
    W.cell? ⟨w.heap.size, 0, none⟩ = some (.slice E.A E.l.length E.c) ∧ w.heap.size < W.heap.size := by
  have hs := h.size
  rw [World.size_alloc] at hs
  have hc : ∀ q : Addr, q.block < w.heap.size + 1 → W.cell? q = _ := fun q hq => h.cell (by rw [World.size_alloc]; exact hq)
  refine ⟨?_, hs⟩
  all_goals (rw [hc _ (by simp)]; simp [go_sem])
end Go.Proofs.YthlapepjebidgaaGreatDoor
/- checkIdent, checkEnum, declared, sampling, port, local, typed of the program. -/
namespace Go.Proofs.YthlapepjebidgaaGreatDoor
set_option linter.unusedVariables false
set_option linter.unusedSimpArgs false
open Go.RowKit
abbrev ckV (E : Rw va.En) : Value := .agg #[.slice E.A E.l.length E.c]
theorem orE0 (b : Int) : orE 0 b = b := rfl
theorem orEn {a : Int} (h : a ≠ 0) (b : Int) : orE a b = a := if_neg h
theorem RsE.len {w : World} {B : Nat} {r : Rw va.En} (h : RsE w B r) : r.l.length ≤ 9223372036854775807 := by
  have := h.2.1.1
  unfold maxLen at this
  omega
theorem rdr_of_ss {w : World} {B c : Nat} {A : Option Addr} {l : List ByteArray} (h : Rd w B A (va.ss l)) (h1 : l.length ≤ maxLen) (h2 : l.length ≤ c) : RdR w B 1 BC ⟨A, c, l⟩ := by
  refine ⟨fun hn => ?_, fun ad i y hA hy => ?_, h1, h2⟩
  · obtain ⟨ad, e, hb, _⟩ := h (by intro e; exact hn (by have := congrArg List.length e; simp [va.ss] at this; exact this))
    exact ⟨ad, e, hb⟩
  · obtain ⟨ad', e, hb, hc⟩ := h (by intro e; have := congrArg List.length e; simp [va.ss] at this; simp only at hy; rw [this] at hy; simp at hy)
    obtain rfl : ad = ad' := Option.some.inj (Eq.trans (Eq.symm hA) e)
    show w.cell? (ad.add (i * 1)) = _
    rw [Nat.mul_one]
    exact hc i _ (va.ss_get hy)
set_option maxHeartbeats 1000000 in
theorem sh_ident (s : ByteArray) (w : World) (hs : Std w) (h9 : s.size ≤ 140737488351232) : Calls Tryz.prog 77 #[.string s] w (Bel (.int .i64 (idE s)) w) := by
  have K := Lib.hid (fun W (h : Below w.heap.size w W) => ident_any s W (hs.to h) h9)
  unfold idE
  generalize idP s = b at *
  clear hs h9
  cases b
  all_goals
    go_enter Tryz.func77, Tryz.ntmps77
    go_wp2_with (go_at_call 75; (with_reducible refine (K.out _ ?_).mono ?_); (focus ((repeat (first | (with_reducible exact Below.refl _ _) | (with_reducible assumption) | (with_reducible exact bel_box _) | (with_reducible refine bel_step ?_ (by with_reducible assumption)) | (with_reducible refine Below.drew ?_) | (with_reducible refine below_drewN ?_ _) | (with_reducible refine bel_alloc ?_ _))); done)); rintro e w1 ⟨rfl, hb1⟩)
    go_ret
    exact ⟨rfl, (by repeat (first | (with_reducible exact Below.refl _ _) | (with_reducible assumption) | (with_reducible exact bel_box _) | (with_reducible refine bel_step ?_ (by with_reducible assumption)) | (with_reducible refine Below.drew ?_) | (with_reducible refine below_drewN ?_ _) | (with_reducible refine bel_alloc ?_ _)))⟩
set_option maxHeartbeats 1000000 in
set_option maxRecDepth 20000 in
theorem sh_enum (e : va.En) (w : World) (hs : Std w) (hR : Rd w w.heap.size e.A (va.ss e.tags)) (h1 : e.name.size ≤ 140737488351232) (h2 : e.tags.length ≤ maxLen ∧ e.tags.length ≤ e.c) (h3 : ∀ b ∈ e.tags, b.size ≤ 140737488351232) :
    Calls Tryz.prog 44 #[.agg #[.string e.name, .slice e.A e.tags.length e.c]] w (Bel (.int .i64 (enumE e)) w) := by
  have K := Lib.hid (fun W (h : Below w.heap.size w W) => ident_any e.name W (hs.to h) h1)
  have KF : Hid (∀ W, Below w.heap.size w W → Calls Tryz.prog 76 #[.slice e.A e.tags.length e.c, .func (.func 77) #[] #[]] W (Bel (.int .i64 (errs (e.tags.map idE))) W)) := Lib.hid fun W h =>
    first_string_checkIdent ⟨e.A, e.c, e.tags⟩ idE W ((rdr_of_ss hR h2.1 h2.2).blw oneB_B h h.size) (Lib.hid fun y hy W' h' => sh_ident y W' (hs.to (h.trans (h'.mono h.size))) (h3 y hy))
  have h9 := h2.1
  unfold maxLen at h9
  unfold enumE
  generalize errs (e.tags.map idE) = v at *
  generalize idP e.name = b at *
  clear hR h3 h2 h1 hs
  cases b
  · go_enter Tryz.func44, Tryz.ntmps44
    go_wp2_with (go_at_call 75; (with_reducible refine (K.out _ ?_).mono ?_); (focus ((repeat (first | (with_reducible exact Below.refl _ _) | (with_reducible assumption) | (with_reducible exact bel_box _) | (with_reducible refine bel_step ?_ (by with_reducible assumption)) | (with_reducible refine Below.drew ?_) | (with_reducible refine below_drewN ?_ _) | (with_reducible refine bel_alloc ?_ _))); done)); rintro e w1 ⟨rfl, hb1⟩; obtain ⟨g0, g1, g2⟩ := B1E (w := w) (W := w1) e (by repeat (first | (with_reducible exact Below.refl _ _) | (with_reducible assumption) | (with_reducible exact bel_box _) | (with_reducible refine bel_step ?_ (by with_reducible assumption)) | (with_reducible refine Below.drew ?_) | (with_reducible refine below_drewN ?_ _) | (with_reducible refine bel_alloc ?_ _))))
    go_ret
    exact ⟨rfl, (by repeat (first | (with_reducible exact Below.refl _ _) | (with_reducible assumption) | (with_reducible exact bel_box _) | (with_reducible refine bel_step ?_ (by with_reducible assumption)) | (with_reducible refine Below.drew ?_) | (with_reducible refine below_drewN ?_ _) | (with_reducible refine bel_alloc ?_ _)))⟩
  · by_cases z0 : e.tags.length = 0
    · have q0 : ((e.tags.length : Int) == 0) = true := by simp [z0]
      rw [if_pos rfl, if_pos z0]
      clear z0
      go_enter Tryz.func44, Tryz.ntmps44
      go_wp2_with (go_at_call 75; (with_reducible refine (K.out _ ?_).mono ?_); (focus ((repeat (first | (with_reducible exact Below.refl _ _) | (with_reducible assumption) | (with_reducible exact bel_box _) | (with_reducible refine bel_step ?_ (by with_reducible assumption)) | (with_reducible refine Below.drew ?_) | (with_reducible refine below_drewN ?_ _) | (with_reducible refine bel_alloc ?_ _))); done)); rintro e w1 ⟨rfl, hb1⟩; obtain ⟨g0, g1, g2⟩ := B1E (w := w) (W := w1) e (by repeat (first | (with_reducible exact Below.refl _ _) | (with_reducible assumption) | (with_reducible exact bel_box _) | (with_reducible refine bel_step ?_ (by with_reducible assumption)) | (with_reducible refine Below.drew ?_) | (with_reducible refine below_drewN ?_ _) | (with_reducible refine bel_alloc ?_ _))))
      go_ret
      exact ⟨rfl, (by repeat (first | (with_reducible exact Below.refl _ _) | (with_reducible assumption) | (with_reducible exact bel_box _) | (with_reducible refine bel_step ?_ (by with_reducible assumption)) | (with_reducible refine Below.drew ?_) | (with_reducible refine below_drewN ?_ _) | (with_reducible refine bel_alloc ?_ _)))⟩
    · by_cases z1 : 16 < e.tags.length
      · have q0 : ((e.tags.length : Int) == 0) = false := by simp [z0]
        have q1 : (16 : Int) < (e.tags.length : Int) := by omega
        rw [if_pos rfl, if_neg z0, if_pos z1]
        clear z0 z1
        go_enter Tryz.func44, Tryz.ntmps44
        go_wp2_with (go_at_call 75; (with_reducible refine (K.out _ ?_).mono ?_); (focus ((repeat (first | (with_reducible exact Below.refl _ _) | (with_reducible assumption) | (with_reducible exact bel_box _) | (with_reducible refine bel_step ?_ (by with_reducible assumption)) | (with_reducible refine Below.drew ?_) | (with_reducible refine below_drewN ?_ _) | (with_reducible refine bel_alloc ?_ _))); done)); rintro e w1 ⟨rfl, hb1⟩; obtain ⟨g0, g1, g2⟩ := B1E (w := w) (W := w1) e (by repeat (first | (with_reducible exact Below.refl _ _) | (with_reducible assumption) | (with_reducible exact bel_box _) | (with_reducible refine bel_step ?_ (by with_reducible assumption)) | (with_reducible refine Below.drew ?_) | (with_reducible refine below_drewN ?_ _) | (with_reducible refine bel_alloc ?_ _))))
        go_ret
        exact ⟨rfl, (by repeat (first | (with_reducible exact Below.refl _ _) | (with_reducible assumption) | (with_reducible exact bel_box _) | (with_reducible refine bel_step ?_ (by with_reducible assumption)) | (with_reducible refine Below.drew ?_) | (with_reducible refine below_drewN ?_ _) | (with_reducible refine bel_alloc ?_ _)))⟩
      · have q0 : ((e.tags.length : Int) == 0) = false := by simp [z0]
        have q1 : (e.tags.length : Int) ≤ (16 : Int) := by omega
        rw [if_pos rfl, if_neg z0, if_neg z1]
        clear z0 z1
        go_enter Tryz.func44, Tryz.ntmps44
        go_wp2_with (first | (go_at_call 75; (with_reducible refine (K.out _ ?_).mono ?_); (focus ((repeat (first | (with_reducible exact Below.refl _ _) | (with_reducible assumption) | (with_reducible exact bel_box _) | (with_reducible refine bel_step ?_ (by with_reducible assumption)) | (with_reducible refine Below.drew ?_) | (with_reducible refine below_drewN ?_ _) | (with_reducible refine bel_alloc ?_ _))); done)); rintro e w1 ⟨rfl, hb1⟩; obtain ⟨g0, g1, g2⟩ := B1E (w := w) (W := w1) e (by repeat (first | (with_reducible exact Below.refl _ _) | (with_reducible assumption) | (with_reducible exact bel_box _) | (with_reducible refine bel_step ?_ (by with_reducible assumption)) | (with_reducible refine Below.drew ?_) | (with_reducible refine below_drewN ?_ _) | (with_reducible refine bel_alloc ?_ _)))) | (go_at_call 76; (with_reducible refine (KF.out _ ?_).mono ?_); (focus ((repeat (first | (with_reducible exact Below.refl _ _) | (with_reducible assumption) | (with_reducible exact bel_box _) | (with_reducible refine bel_step ?_ (by with_reducible assumption)) | (with_reducible refine Below.drew ?_) | (with_reducible refine below_drewN ?_ _) | (with_reducible refine bel_alloc ?_ _))); done)); rintro e w2 ⟨rfl, hb2⟩))
        go_ret
        exact ⟨rfl, (by repeat (first | (with_reducible exact Below.refl _ _) | (with_reducible assumption) | (with_reducible exact bel_box _) | (with_reducible refine bel_step ?_ (by with_reducible assumption)) | (with_reducible refine Below.drew ?_) | (with_reducible refine below_drewN ?_ _) | (with_reducible refine bel_alloc ?_ _)))⟩
set_option maxHeartbeats 1000000 in
set_option maxRecDepth 20000 in
theorem sh_declared (E : Rw va.En) (d : Dt) (w : World) (hs : Std w) (hE : RsE w w.heap.size E) (h1 : d.nm.size ≤ 140737488351232) (h2 : d.ty ≤ 9223372036854775807) :
    Calls Tryz.prog 142 #[ckV E, dV d] w (Bel (.int .i64 (dclE E.l d)) w) := by
  have K := Lib.hid (fun W (h : Below w.heap.size w W) => ident_any d.nm W (hs.to h) h1)
  have KN := Lib.hid (fun W (h : Below w.heap.size w W) => va.name_any E.A E.c E.l d.ty W (hE.blw h h.size).1 hE.len h2)
  unfold dclE
  generalize idP d.nm = b1 at *
  generalize va.valB E.l d.ty = b2 at *
  generalize va.nameT E.l d.ty = nt at *
  clear hs hE h1 h2
  cases b1
  · go_enter Tryz.func142, Tryz.ntmps142
    go_wp2_with (go_at_call 75; (with_reducible refine (K.out _ ?_).mono ?_); (focus ((repeat (first | (with_reducible exact Below.refl _ _) | (with_reducible assumption) | (with_reducible exact bel_box _) | (with_reducible refine bel_step ?_ (by with_reducible assumption)) | (with_reducible refine Below.drew ?_) | (with_reducible refine below_drewN ?_ _) | (with_reducible refine bel_alloc ?_ _))); done)); rintro e w1 ⟨rfl, hb1⟩; obtain ⟨g0, g1, g2, g3, g4⟩ := B2D (w := w) (W := w1) E d (by repeat (first | (with_reducible exact Below.refl _ _) | (with_reducible assumption) | (with_reducible exact bel_box _) | (with_reducible refine bel_step ?_ (by with_reducible assumption)) | (with_reducible refine Below.drew ?_) | (with_reducible refine below_drewN ?_ _) | (with_reducible refine bel_alloc ?_ _))))
    go_ret
    exact ⟨rfl, (by repeat (first | (with_reducible exact Below.refl _ _) | (with_reducible assumption) | (with_reducible exact bel_box _) | (with_reducible refine bel_step ?_ (by with_reducible assumption)) | (with_reducible refine Below.drew ?_) | (with_reducible refine below_drewN ?_ _) | (with_reducible refine bel_alloc ?_ _)))⟩
  · cases b2
    all_goals
      go_enter Tryz.func142, Tryz.ntmps142
      go_wp2_with (first | (go_at_call 75; (with_reducible refine (K.out _ ?_).mono ?_); (focus ((repeat (first | (with_reducible exact Below.refl _ _) | (with_reducible assumption) | (with_reducible exact bel_box _) | (with_reducible refine bel_step ?_ (by with_reducible assumption)) | (with_reducible refine Below.drew ?_) | (with_reducible refine below_drewN ?_ _) | (with_reducible refine bel_alloc ?_ _))); done)); rintro e w1 ⟨rfl, hb1⟩; obtain ⟨g0, g1, g2, g3, g4⟩ := B2D (w := w) (W := w1) E d (by repeat (first | (with_reducible exact Below.refl _ _) | (with_reducible assumption) | (with_reducible exact bel_box _) | (with_reducible refine bel_step ?_ (by with_reducible assumption)) | (with_reducible refine Below.drew ?_) | (with_reducible refine below_drewN ?_ _) | (with_reducible refine bel_alloc ?_ _)))) | (go_at_call 169; (with_reducible refine (KN.out _ ?_).mono ?_); (focus ((repeat (first | (with_reducible exact Below.refl _ _) | (with_reducible assumption) | (with_reducible exact bel_box _) | (with_reducible refine bel_step ?_ (by with_reducible assumption)) | (with_reducible refine Below.drew ?_) | (with_reducible refine below_drewN ?_ _) | (with_reducible refine bel_alloc ?_ _))); done)); rintro e w2 ⟨rfl, hb2⟩))
      go_ret
      exact ⟨rfl, (by repeat (first | (with_reducible exact Below.refl _ _) | (with_reducible assumption) | (with_reducible exact bel_box _) | (with_reducible refine bel_step ?_ (by with_reducible assumption)) | (with_reducible refine Below.drew ?_) | (with_reducible refine below_drewN ?_ _) | (with_reducible refine bel_alloc ?_ _)))⟩
set_option maxHeartbeats 1000000 in
set_option maxRecDepth 20000 in
theorem sh_sampling (E : Rw va.En) (o : Ot) (w : World) (hs : Std w) (hE : RsE w w.heap.size E) (h1 : o.nm.size ≤ 140737488351232) (h2 : o.t ≤ 9223372036854775807) :
    Calls Tryz.prog 144 #[ckV E, oV o] w (Bel (.int .i64 (onE E.l o)) w) := by
  have K := Lib.hid (fun W (h : Below w.heap.size w W) => ident_any o.nm W (hs.to h) h1)
  have KH := Lib.hid (fun W (h : Below w.heap.size w W) => va.has_any E.A E.c E.l o.t o.tag W (hE.blw h h.size).1 hE.len h2)
  unfold onE
  generalize idP o.nm = b1 at *
  generalize va.hasB E.l o.t o.tag = b2 at *
  clear hs hE h1 h2
  cases b1
  · go_enter Tryz.func144, Tryz.ntmps144
    go_wp2_with (go_at_call 75; (with_reducible refine (K.out _ ?_).mono ?_); (focus ((repeat (first | (with_reducible exact Below.refl _ _) | (with_reducible assumption) | (with_reducible exact bel_box _) | (with_reducible refine bel_step ?_ (by with_reducible assumption)) | (with_reducible refine Below.drew ?_) | (with_reducible refine below_drewN ?_ _) | (with_reducible refine bel_alloc ?_ _))); done)); rintro e w1 ⟨rfl, hb1⟩; obtain ⟨g0, g1, g2, g3, g4⟩ := B2O (w := w) (W := w1) E o (by repeat (first | (with_reducible exact Below.refl _ _) | (with_reducible assumption) | (with_reducible exact bel_box _) | (with_reducible refine bel_step ?_ (by with_reducible assumption)) | (with_reducible refine Below.drew ?_) | (with_reducible refine below_drewN ?_ _) | (with_reducible refine bel_alloc ?_ _))))
    go_ret
    exact ⟨rfl, (by repeat (first | (with_reducible exact Below.refl _ _) | (with_reducible assumption) | (with_reducible exact bel_box _) | (with_reducible refine bel_step ?_ (by with_reducible assumption)) | (with_reducible refine Below.drew ?_) | (with_reducible refine below_drewN ?_ _) | (with_reducible refine bel_alloc ?_ _)))⟩
  · rw [if_pos rfl]
    by_cases z : o.t = 2
    · have q : (o.t == 2) = true := by simp [z]
      rw [if_pos (.inl z)]
      clear z
      go_enter Tryz.func144, Tryz.ntmps144
      go_wp2_with (first | (go_at_call 75; (with_reducible refine (K.out _ ?_).mono ?_); (focus ((repeat (first | (with_reducible exact Below.refl _ _) | (with_reducible assumption) | (with_reducible exact bel_box _) | (with_reducible refine bel_step ?_ (by with_reducible assumption)) | (with_reducible refine Below.drew ?_) | (with_reducible refine below_drewN ?_ _) | (with_reducible refine bel_alloc ?_ _))); done)); rintro e w1 ⟨rfl, hb1⟩; obtain ⟨g0, g1, g2, g3, g4⟩ := B2O (w := w) (W := w1) E o (by repeat (first | (with_reducible exact Below.refl _ _) | (with_reducible assumption) | (with_reducible exact bel_box _) | (with_reducible refine bel_step ?_ (by with_reducible assumption)) | (with_reducible refine Below.drew ?_) | (with_reducible refine below_drewN ?_ _) | (with_reducible refine bel_alloc ?_ _)))) | (go_at_call 154; (with_reducible refine (KH.out _ ?_).mono ?_); (focus ((repeat (first | (with_reducible exact Below.refl _ _) | (with_reducible assumption) | (with_reducible exact bel_box _) | (with_reducible refine bel_step ?_ (by with_reducible assumption)) | (with_reducible refine Below.drew ?_) | (with_reducible refine below_drewN ?_ _) | (with_reducible refine bel_alloc ?_ _))); done)); rintro e w2 ⟨rfl, hb2⟩))
      go_ret
      exact ⟨rfl, (by repeat (first | (with_reducible exact Below.refl _ _) | (with_reducible assumption) | (with_reducible exact bel_box _) | (with_reducible refine bel_step ?_ (by with_reducible assumption)) | (with_reducible refine Below.drew ?_) | (with_reducible refine below_drewN ?_ _) | (with_reducible refine bel_alloc ?_ _)))⟩
    · have q : (o.t == 2) = false := by simp [z]
      cases b2
      · rw [if_pos (.inr rfl)]
        clear z
        go_enter Tryz.func144, Tryz.ntmps144
        go_wp2_with (first | (go_at_call 75; (with_reducible refine (K.out _ ?_).mono ?_); (focus ((repeat (first | (with_reducible exact Below.refl _ _) | (with_reducible assumption) | (with_reducible exact bel_box _) | (with_reducible refine bel_step ?_ (by with_reducible assumption)) | (with_reducible refine Below.drew ?_) | (with_reducible refine below_drewN ?_ _) | (with_reducible refine bel_alloc ?_ _))); done)); rintro e w1 ⟨rfl, hb1⟩; obtain ⟨g0, g1, g2, g3, g4⟩ := B2O (w := w) (W := w1) E o (by repeat (first | (with_reducible exact Below.refl _ _) | (with_reducible assumption) | (with_reducible exact bel_box _) | (with_reducible refine bel_step ?_ (by with_reducible assumption)) | (with_reducible refine Below.drew ?_) | (with_reducible refine below_drewN ?_ _) | (with_reducible refine bel_alloc ?_ _)))) | (go_at_call 154; (with_reducible refine (KH.out _ ?_).mono ?_); (focus ((repeat (first | (with_reducible exact Below.refl _ _) | (with_reducible assumption) | (with_reducible exact bel_box _) | (with_reducible refine bel_step ?_ (by with_reducible assumption)) | (with_reducible refine Below.drew ?_) | (with_reducible refine below_drewN ?_ _) | (with_reducible refine bel_alloc ?_ _))); done)); rintro e w2 ⟨rfl, hb2⟩))
        go_ret
        exact ⟨rfl, (by repeat (first | (with_reducible exact Below.refl _ _) | (with_reducible assumption) | (with_reducible exact bel_box _) | (with_reducible refine bel_step ?_ (by with_reducible assumption)) | (with_reducible refine Below.drew ?_) | (with_reducible refine below_drewN ?_ _) | (with_reducible refine bel_alloc ?_ _)))⟩
      · rw [if_neg (by simp [z])]
        clear z
        go_enter Tryz.func144, Tryz.ntmps144
        go_wp2_with (first | (go_at_call 75; (with_reducible refine (K.out _ ?_).mono ?_); (focus ((repeat (first | (with_reducible exact Below.refl _ _) | (with_reducible assumption) | (with_reducible exact bel_box _) | (with_reducible refine bel_step ?_ (by with_reducible assumption)) | (with_reducible refine Below.drew ?_) | (with_reducible refine below_drewN ?_ _) | (with_reducible refine bel_alloc ?_ _))); done)); rintro e w1 ⟨rfl, hb1⟩; obtain ⟨g0, g1, g2, g3, g4⟩ := B2O (w := w) (W := w1) E o (by repeat (first | (with_reducible exact Below.refl _ _) | (with_reducible assumption) | (with_reducible exact bel_box _) | (with_reducible refine bel_step ?_ (by with_reducible assumption)) | (with_reducible refine Below.drew ?_) | (with_reducible refine below_drewN ?_ _) | (with_reducible refine bel_alloc ?_ _)))) | (go_at_call 154; (with_reducible refine (KH.out _ ?_).mono ?_); (focus ((repeat (first | (with_reducible exact Below.refl _ _) | (with_reducible assumption) | (with_reducible exact bel_box _) | (with_reducible refine bel_step ?_ (by with_reducible assumption)) | (with_reducible refine Below.drew ?_) | (with_reducible refine below_drewN ?_ _) | (with_reducible refine bel_alloc ?_ _))); done)); rintro e w2 ⟨rfl, hb2⟩))
        go_ret
        exact ⟨rfl, (by repeat (first | (with_reducible exact Below.refl _ _) | (with_reducible assumption) | (with_reducible exact bel_box _) | (with_reducible refine bel_step ?_ (by with_reducible assumption)) | (with_reducible refine Below.drew ?_) | (with_reducible refine below_drewN ?_ _) | (with_reducible refine bel_alloc ?_ _)))⟩
set_option maxHeartbeats 1000000 in
set_option maxRecDepth 20000 in
theorem sh_port (E : Rw va.En) (d : Dt) (w : World) (hs : Std w) (hE : RsE w w.heap.size E) (hd : RsD w w.heap.size d) :
    Calls Tryz.prog 112 #[ckV E, dV d] w (Bel (.int .i64 (portE E.l d)) w) := by
  have K := Lib.hid (fun W (h : Below w.heap.size w W) => sh_declared E d W (hs.to h) (hE.blw h h.size) hd.1.1 hd.1.2)
  have h9 := hd.2.1.len
  unfold maxLen at h9
  unfold portE
  generalize dclE E.l d = v at *
  clear hs hE hd
  by_cases hv : v = 0
  · subst hv
    rw [orE0]
    by_cases hn : 0 < d.ck.l.length
    · have q : (0 : Int) < (d.ck.l.length : Int) := by omega
      rw [if_pos hn]
      clear hn
      go_enter Tryz.func112, Tryz.ntmps112
      go_wp2_with (go_at_call 142; (with_reducible refine (K.out _ ?_).mono ?_); (focus ((repeat (first | (with_reducible exact Below.refl _ _) | (with_reducible assumption) | (with_reducible exact bel_box _) | (with_reducible refine bel_step ?_ (by with_reducible assumption)) | (with_reducible refine Below.drew ?_) | (with_reducible refine below_drewN ?_ _) | (with_reducible refine bel_alloc ?_ _))); done)); rintro e w1 ⟨rfl, hb1⟩; obtain ⟨g0, g1, g2, g3, g4⟩ := B2D (w := w) (W := w1) E d (by repeat (first | (with_reducible exact Below.refl _ _) | (with_reducible assumption) | (with_reducible exact bel_box _) | (with_reducible refine bel_step ?_ (by with_reducible assumption)) | (with_reducible refine Below.drew ?_) | (with_reducible refine below_drewN ?_ _) | (with_reducible refine bel_alloc ?_ _))))
      go_ret
      exact ⟨rfl, (by repeat (first | (with_reducible exact Below.refl _ _) | (with_reducible assumption) | (with_reducible exact bel_box _) | (with_reducible refine bel_step ?_ (by with_reducible assumption)) | (with_reducible refine Below.drew ?_) | (with_reducible refine below_drewN ?_ _) | (with_reducible refine bel_alloc ?_ _)))⟩
    · have q : (d.ck.l.length : Int) ≤ (0 : Int) := by omega
      rw [if_neg hn]
      clear hn
      go_enter Tryz.func112, Tryz.ntmps112
      go_wp2_with (go_at_call 142; (with_reducible refine (K.out _ ?_).mono ?_); (focus ((repeat (first | (with_reducible exact Below.refl _ _) | (with_reducible assumption) | (with_reducible exact bel_box _) | (with_reducible refine bel_step ?_ (by with_reducible assumption)) | (with_reducible refine Below.drew ?_) | (with_reducible refine below_drewN ?_ _) | (with_reducible refine bel_alloc ?_ _))); done)); rintro e w1 ⟨rfl, hb1⟩; obtain ⟨g0, g1, g2, g3, g4⟩ := B2D (w := w) (W := w1) E d (by repeat (first | (with_reducible exact Below.refl _ _) | (with_reducible assumption) | (with_reducible exact bel_box _) | (with_reducible refine bel_step ?_ (by with_reducible assumption)) | (with_reducible refine Below.drew ?_) | (with_reducible refine below_drewN ?_ _) | (with_reducible refine bel_alloc ?_ _))))
      go_ret
      exact ⟨rfl, (by repeat (first | (with_reducible exact Below.refl _ _) | (with_reducible assumption) | (with_reducible exact bel_box _) | (with_reducible refine bel_step ?_ (by with_reducible assumption)) | (with_reducible refine Below.drew ?_) | (with_reducible refine below_drewN ?_ _) | (with_reducible refine bel_alloc ?_ _)))⟩
  · have q : (v == 0) = false := by simp [hv]
    rw [orEn hv]
    clear hv
    go_enter Tryz.func112, Tryz.ntmps112
    go_wp2_with (go_at_call 142; (with_reducible refine (K.out _ ?_).mono ?_); (focus ((repeat (first | (with_reducible exact Below.refl _ _) | (with_reducible assumption) | (with_reducible exact bel_box _) | (with_reducible refine bel_step ?_ (by with_reducible assumption)) | (with_reducible refine Below.drew ?_) | (with_reducible refine below_drewN ?_ _) | (with_reducible refine bel_alloc ?_ _))); done)); rintro e w1 ⟨rfl, hb1⟩; obtain ⟨g0, g1, g2, g3, g4⟩ := B2D (w := w) (W := w1) E d (by repeat (first | (with_reducible exact Below.refl _ _) | (with_reducible assumption) | (with_reducible exact bel_box _) | (with_reducible refine bel_step ?_ (by with_reducible assumption)) | (with_reducible refine Below.drew ?_) | (with_reducible refine below_drewN ?_ _) | (with_reducible refine bel_alloc ?_ _))))
    go_ret
    exact ⟨rfl, (by repeat (first | (with_reducible exact Below.refl _ _) | (with_reducible assumption) | (with_reducible exact bel_box _) | (with_reducible refine bel_step ?_ (by with_reducible assumption)) | (with_reducible refine Below.drew ?_) | (with_reducible refine below_drewN ?_ _) | (with_reducible refine bel_alloc ?_ _)))⟩
set_option maxHeartbeats 1000000 in
set_option maxRecDepth 20000 in
theorem sh_local (E : Rw va.En) (d : Dt) (w : World) (hs : Std w) (hE : RsE w w.heap.size E) (hd : RsD w w.heap.size d) :
    Calls Tryz.prog 113 #[ckV E, dV d] w (Bel (.int .i64 (locE E.l d)) w) := by
  have K := Lib.hid (fun W (h : Below w.heap.size w W) => sh_declared E d W (hs.to h) (hE.blw h h.size) hd.1.1 hd.1.2)
  have KF : Hid (∀ W, Below w.heap.size w W → Calls Tryz.prog 143 #[.slice d.ck.A d.ck.l.length d.ck.c, .func (.func 144) #[ckV E] #[]] W (Bel (.int .i64 (errs (d.ck.l.map (onE E.l)))) W)) := Lib.hid fun W h =>
    first_On_sampling (ckV E) d.ck (onE E.l) W ((hd.2.blw h h.size).1) (Lib.hid fun y hy W' h' => sh_sampling E y W' (hs.to (h.trans (h'.mono h.size))) (hE.blw (h.trans (h'.mono h.size)) (Nat.le_trans h.size h'.size)) (hd.2.2 y hy).1 (hd.2.2 y hy).2)
  have h9 := hd.2.1.len
  unfold maxLen at h9
  unfold locE
  generalize errs (d.ck.l.map (onE E.l)) = u at *
  generalize dclE E.l d = v at *
  clear hs hE hd
  by_cases hv : v = 0
  · subst hv
    rw [orE0]
    by_cases hn : 4 < d.ck.l.length
    · have q : (4 : Int) < (d.ck.l.length : Int) := by omega
      rw [if_pos hn]
      clear hn
      go_enter Tryz.func113, Tryz.ntmps113
      go_wp2_with (go_at_call 142; (with_reducible refine (K.out _ ?_).mono ?_); (focus ((repeat (first | (with_reducible exact Below.refl _ _) | (with_reducible assumption) | (with_reducible exact bel_box _) | (with_reducible refine bel_step ?_ (by with_reducible assumption)) | (with_reducible refine Below.drew ?_) | (with_reducible refine below_drewN ?_ _) | (with_reducible refine bel_alloc ?_ _))); done)); rintro e w1 ⟨rfl, hb1⟩; obtain ⟨g0, g1, g2, g3, g4⟩ := B2D (w := w) (W := w1) E d (by repeat (first | (with_reducible exact Below.refl _ _) | (with_reducible assumption) | (with_reducible exact bel_box _) | (with_reducible refine bel_step ?_ (by with_reducible assumption)) | (with_reducible refine Below.drew ?_) | (with_reducible refine below_drewN ?_ _) | (with_reducible refine bel_alloc ?_ _))))
      go_ret
      exact ⟨rfl, (by repeat (first | (with_reducible exact Below.refl _ _) | (with_reducible assumption) | (with_reducible exact bel_box _) | (with_reducible refine bel_step ?_ (by with_reducible assumption)) | (with_reducible refine Below.drew ?_) | (with_reducible refine below_drewN ?_ _) | (with_reducible refine bel_alloc ?_ _)))⟩
    · have q : (d.ck.l.length : Int) ≤ (4 : Int) := by omega
      rw [if_neg hn]
      clear hn
      go_enter Tryz.func113, Tryz.ntmps113
      go_wp2_with (first | (go_at_call 142; (with_reducible refine (K.out _ ?_).mono ?_); (focus ((repeat (first | (with_reducible exact Below.refl _ _) | (with_reducible assumption) | (with_reducible exact bel_box _) | (with_reducible refine bel_step ?_ (by with_reducible assumption)) | (with_reducible refine Below.drew ?_) | (with_reducible refine below_drewN ?_ _) | (with_reducible refine bel_alloc ?_ _))); done)); rintro e w1 ⟨rfl, hb1⟩; obtain ⟨g0, g1, g2, g3, g4⟩ := B2D (w := w) (W := w1) E d (by repeat (first | (with_reducible exact Below.refl _ _) | (with_reducible assumption) | (with_reducible exact bel_box _) | (with_reducible refine bel_step ?_ (by with_reducible assumption)) | (with_reducible refine Below.drew ?_) | (with_reducible refine below_drewN ?_ _) | (with_reducible refine bel_alloc ?_ _)))) | (go_at_call 143; (with_reducible refine (KF.out _ ?_).mono ?_); (focus ((repeat (first | (with_reducible exact Below.refl _ _) | (with_reducible assumption) | (with_reducible exact bel_box _) | (with_reducible refine bel_step ?_ (by with_reducible assumption)) | (with_reducible refine Below.drew ?_) | (with_reducible refine below_drewN ?_ _) | (with_reducible refine bel_alloc ?_ _))); done)); rintro e w2 ⟨rfl, hb2⟩))
      go_ret
      exact ⟨rfl, (by repeat (first | (with_reducible exact Below.refl _ _) | (with_reducible assumption) | (with_reducible exact bel_box _) | (with_reducible refine bel_step ?_ (by with_reducible assumption)) | (with_reducible refine Below.drew ?_) | (with_reducible refine below_drewN ?_ _) | (with_reducible refine bel_alloc ?_ _)))⟩
  · have q : (v == 0) = false := by simp [hv]
    rw [orEn hv]
    clear hv
    go_enter Tryz.func113, Tryz.ntmps113
    go_wp2_with (go_at_call 142; (with_reducible refine (K.out _ ?_).mono ?_); (focus ((repeat (first | (with_reducible exact Below.refl _ _) | (with_reducible assumption) | (with_reducible exact bel_box _) | (with_reducible refine bel_step ?_ (by with_reducible assumption)) | (with_reducible refine Below.drew ?_) | (with_reducible refine below_drewN ?_ _) | (with_reducible refine bel_alloc ?_ _))); done)); rintro e w1 ⟨rfl, hb1⟩; obtain ⟨g0, g1, g2, g3, g4⟩ := B2D (w := w) (W := w1) E d (by repeat (first | (with_reducible exact Below.refl _ _) | (with_reducible assumption) | (with_reducible exact bel_box _) | (with_reducible refine bel_step ?_ (by with_reducible assumption)) | (with_reducible refine Below.drew ?_) | (with_reducible refine below_drewN ?_ _) | (with_reducible refine bel_alloc ?_ _))))
    go_ret
    exact ⟨rfl, (by repeat (first | (with_reducible exact Below.refl _ _) | (with_reducible assumption) | (with_reducible exact bel_box _) | (with_reducible refine bel_step ?_ (by with_reducible assumption)) | (with_reducible refine Below.drew ?_) | (with_reducible refine below_drewN ?_ _) | (with_reducible refine bel_alloc ?_ _)))⟩
end Go.Proofs.YthlapepjebidgaaGreatDoor
/- first of the program, the rest. -/
namespace Go.Proofs.YthlapepjebidgaaGreatDoor
set_option linter.unusedVariables false
set_option linter.unusedSimpArgs false
open Go.RowKit
set_option maxHeartbeats 1000000 in
set_option maxRecDepth 20000 in
theorem first_State_state1 (f0 : Value) (f1 : Value) (f2 : Value) (r : Rw (St)) (err : St → Int) (w : World) (hR : RdR w w.heap.size 6 SC r)
    (K : Hid (∀ y ∈ r.l, ∀ W, Below w.heap.size w W → Calls Tryz.prog 145 #[sV y, f0, f1, f2] W (Bel (.int .i64 (err y)) W))) :
    Calls Tryz.prog 115 #[.slice r.A r.l.length r.c, .func (.func 145) #[] #[f0, f1, f2]] w (Bel (.int .i64 (errs (r.l.map err))) w) := by
  have h9 := hR.len
  unfold maxLen at h9
  have HR := Lib.hid hR
  obtain ⟨E, hE0, hEl, HE⟩ := errs_steps r.l err
  rw [← hE0]
  obtain ⟨V, hV⟩ : ∃ V, E 0 = V := ⟨_, rfl⟩
  have HV := Lib.hid hV
  have HL := Lib.hid hEl
  rw [hV]
  clear hR hE0 hEl hV
  skip
  go_enter Tryz.func115, Tryz.ntmps115
  go_wp2
  go_loopw [10] (fun i wr => ∃ k : Nat, k ≤ r.l.length ∧ i = .int .i64 (k : Int) ∧ Hid (E k = V) ∧ Below w.heap.size w wr) (fun i _ => r.l.length - (intOf i).toNat)
  case atStart => exact ⟨0, by omega, rfl, HV, Below.refl _ _⟩
  case round =>
    obtain ⟨k, hk, rfl, hE, hbl⟩ := hrel
    by_cases hlt : k < r.l.length
    · obtain ⟨ad, y, hA, had, hy, hm, ⟨c0, c1, c2, c3, c4, c5⟩⟩ := (HR.out.blw oneB_S hbl hbl.size).at_ hlt
      rw [hA]
      clear hA
      have hs := HE.out k y hy
      have KY := Lib.hid (K.out y hm)
      clear hy hm HE
      generalize err y = v at *
      by_cases hv : v = 0
      · subst hv
        have hn : Hid (E (k + 1) = V) := Lib.hid (by rw [← hE.out, hs]; rfl)
        clear hs hE
        go_wp2_with (go_at_call 145; (with_reducible refine (KY.out _ ?_).mono ?_); (focus ((repeat (first | (with_reducible exact Below.refl _ _) | (with_reducible assumption) | (with_reducible exact bel_box _) | (with_reducible refine bel_step ?_ (by with_reducible assumption)) | (with_reducible refine Below.drew ?_) | (with_reducible refine below_drewN ?_ _) | (with_reducible refine bel_alloc ?_ _))); done)); rintro e w1 ⟨rfl, hb1⟩)
        exact ⟨⟨k + 1, by omega, by congr 1, hn, (by repeat (first | (with_reducible exact Below.refl _ _) | (with_reducible assumption) | (with_reducible exact bel_box _) | (with_reducible refine bel_step ?_ (by with_reducible assumption)) | (with_reducible refine Below.drew ?_) | (with_reducible refine below_drewN ?_ _) | (with_reducible refine bel_alloc ?_ _)))⟩, by simp [intOf]; omega⟩
      · have hv2 : v = V := by rw [← hE.out, hs, orE, if_neg hv]
        have e0 : (v == 0) = false := by simp [hv]
        clear hs hE hv
        go_wp2_with (go_at_call 145; (with_reducible refine (KY.out _ ?_).mono ?_); (focus ((repeat (first | (with_reducible exact Below.refl _ _) | (with_reducible assumption) | (with_reducible exact bel_box _) | (with_reducible refine bel_step ?_ (by with_reducible assumption)) | (with_reducible refine Below.drew ?_) | (with_reducible refine below_drewN ?_ _) | (with_reducible refine bel_alloc ?_ _))); done)); rintro e w1 ⟨rfl, hb1⟩)
        go_ret
        exact ⟨(by first | rfl | exact congrArg (fun z : Int => Ending.returned (.int .i64 z)) hv2), (by repeat (first | (with_reducible exact Below.refl _ _) | (with_reducible assumption) | (with_reducible exact bel_box _) | (with_reducible refine bel_step ?_ (by with_reducible assumption)) | (with_reducible refine Below.drew ?_) | (with_reducible refine below_drewN ?_ _) | (with_reducible refine bel_alloc ?_ _)))⟩
    · obtain rfl : k = r.l.length := by omega
      have hv2 : 0 = V := HL.out.symm.trans hE.out
      clear hE HE HV HL
      go_wp2
      go_ret
      exact ⟨(by first | rfl | exact congrArg (fun z : Int => Ending.returned (.int .i64 z)) hv2), hbl⟩
set_option maxHeartbeats 1000000 in
set_option maxRecDepth 20000 in
theorem first_Trans_transition1 (f0 : Value) (f1 : Value) (r : Rw (Tt)) (err : Tt → Int) (w : World) (hR : RdR w w.heap.size 8 TC r)
    (K : Hid (∀ y ∈ r.l, ∀ W, Below w.heap.size w W → Calls Tryz.prog 171 #[tV y, f0, f1] W (Bel (.int .i64 (err y)) W))) :
    Calls Tryz.prog 147 #[.slice r.A r.l.length r.c, .func (.func 171) #[] #[f0, f1]] w (Bel (.int .i64 (errs (r.l.map err))) w) := by
  have h9 := hR.len
  unfold maxLen at h9
  have HR := Lib.hid hR
  obtain ⟨E, hE0, hEl, HE⟩ := errs_steps r.l err
  rw [← hE0]
  obtain ⟨V, hV⟩ : ∃ V, E 0 = V := ⟨_, rfl⟩
  have HV := Lib.hid hV
  have HL := Lib.hid hEl
  rw [hV]
  clear hR hE0 hEl hV
  skip
  go_enter Tryz.func147, Tryz.ntmps147
  go_wp2
  go_loopw [10] (fun i wr => ∃ k : Nat, k ≤ r.l.length ∧ i = .int .i64 (k : Int) ∧ Hid (E k = V) ∧ Below w.heap.size w wr) (fun i _ => r.l.length - (intOf i).toNat)
  case atStart => exact ⟨0, by omega, rfl, HV, Below.refl _ _⟩
  case round =>
    obtain ⟨k, hk, rfl, hE, hbl⟩ := hrel
    by_cases hlt : k < r.l.length
    · obtain ⟨ad, y, hA, had, hy, hm, ⟨⟨c0, c1, c2, c3, c4, c5⟩, c6, c7⟩⟩ := (HR.out.blw oneB_T hbl hbl.size).at_ hlt
      rw [hA]
      clear hA
      have hs := HE.out k y hy
      have KY := Lib.hid (K.out y hm)
      clear hy hm HE
      generalize err y = v at *
      by_cases hv : v = 0
      · subst hv
        have hn : Hid (E (k + 1) = V) := Lib.hid (by rw [← hE.out, hs]; rfl)
        clear hs hE
        go_wp2_with (go_at_call 171; (with_reducible refine (KY.out _ ?_).mono ?_); (focus ((repeat (first | (with_reducible exact Below.refl _ _) | (with_reducible assumption) | (with_reducible exact bel_box _) | (with_reducible refine bel_step ?_ (by with_reducible assumption)) | (with_reducible refine Below.drew ?_) | (with_reducible refine below_drewN ?_ _) | (with_reducible refine bel_alloc ?_ _))); done)); rintro e w1 ⟨rfl, hb1⟩)
        exact ⟨⟨k + 1, by omega, by congr 1, hn, (by repeat (first | (with_reducible exact Below.refl _ _) | (with_reducible assumption) | (with_reducible exact bel_box _) | (with_reducible refine bel_step ?_ (by with_reducible assumption)) | (with_reducible refine Below.drew ?_) | (with_reducible refine below_drewN ?_ _) | (with_reducible refine bel_alloc ?_ _)))⟩, by simp [intOf]; omega⟩
      · have hv2 : v = V := by rw [← hE.out, hs, orE, if_neg hv]
        have e0 : (v == 0) = false := by simp [hv]
        clear hs hE hv
        go_wp2_with (go_at_call 171; (with_reducible refine (KY.out _ ?_).mono ?_); (focus ((repeat (first | (with_reducible exact Below.refl _ _) | (with_reducible assumption) | (with_reducible exact bel_box _) | (with_reducible refine bel_step ?_ (by with_reducible assumption)) | (with_reducible refine Below.drew ?_) | (with_reducible refine below_drewN ?_ _) | (with_reducible refine bel_alloc ?_ _))); done)); rintro e w1 ⟨rfl, hb1⟩)
        go_ret
        exact ⟨(by first | rfl | exact congrArg (fun z : Int => Ending.returned (.int .i64 z)) hv2), (by repeat (first | (with_reducible exact Below.refl _ _) | (with_reducible assumption) | (with_reducible exact bel_box _) | (with_reducible refine bel_step ?_ (by with_reducible assumption)) | (with_reducible refine Below.drew ?_) | (with_reducible refine below_drewN ?_ _) | (with_reducible refine bel_alloc ?_ _)))⟩
    · obtain rfl : k = r.l.length := by omega
      have hv2 : 0 = V := HL.out.symm.trans hE.out
      clear hE HE HV HL
      go_wp2
      go_ret
      exact ⟨(by first | rfl | exact congrArg (fun z : Int => Ending.returned (.int .i64 z)) hv2), hbl⟩
set_option maxHeartbeats 1000000 in
set_option maxRecDepth 20000 in
theorem first_Trans_unless1 (f0 : Value) (r : Rw (Tt)) (err : Tt → Int) (w : World) (hR : RdR w w.heap.size 8 TC r)
    (K : Hid (∀ y ∈ r.l, ∀ W, Below w.heap.size w W → Calls Tryz.prog 170 #[tV y, f0] W (Bel (.int .i64 (err y)) W))) :
    Calls Tryz.prog 147 #[.slice r.A r.l.length r.c, .func (.func 170) #[] #[f0]] w (Bel (.int .i64 (errs (r.l.map err))) w) := by
  have h9 := hR.len
  unfold maxLen at h9
  have HR := Lib.hid hR
  obtain ⟨E, hE0, hEl, HE⟩ := errs_steps r.l err
  rw [← hE0]
  obtain ⟨V, hV⟩ : ∃ V, E 0 = V := ⟨_, rfl⟩
  have HV := Lib.hid hV
  have HL := Lib.hid hEl
  rw [hV]
  clear hR hE0 hEl hV
  skip
  go_enter Tryz.func147, Tryz.ntmps147
  go_wp2
  go_loopw [10] (fun i wr => ∃ k : Nat, k ≤ r.l.length ∧ i = .int .i64 (k : Int) ∧ Hid (E k = V) ∧ Below w.heap.size w wr) (fun i _ => r.l.length - (intOf i).toNat)
  case atStart => exact ⟨0, by omega, rfl, HV, Below.refl _ _⟩
  case round =>
    obtain ⟨k, hk, rfl, hE, hbl⟩ := hrel
    by_cases hlt : k < r.l.length
    · obtain ⟨ad, y, hA, had, hy, hm, ⟨⟨c0, c1, c2, c3, c4, c5⟩, c6, c7⟩⟩ := (HR.out.blw oneB_T hbl hbl.size).at_ hlt
      rw [hA]
      clear hA
      have hs := HE.out k y hy
      have KY := Lib.hid (K.out y hm)
      clear hy hm HE
      generalize err y = v at *
      by_cases hv : v = 0
      · subst hv
        have hn : Hid (E (k + 1) = V) := Lib.hid (by rw [← hE.out, hs]; rfl)
        clear hs hE
        go_wp2_with (go_at_call 170; (with_reducible refine (KY.out _ ?_).mono ?_); (focus ((repeat (first | (with_reducible exact Below.refl _ _) | (with_reducible assumption) | (with_reducible exact bel_box _) | (with_reducible refine bel_step ?_ (by with_reducible assumption)) | (with_reducible refine Below.drew ?_) | (with_reducible refine below_drewN ?_ _) | (with_reducible refine bel_alloc ?_ _))); done)); rintro e w1 ⟨rfl, hb1⟩)
        exact ⟨⟨k + 1, by omega, by congr 1, hn, (by repeat (first | (with_reducible exact Below.refl _ _) | (with_reducible assumption) | (with_reducible exact bel_box _) | (with_reducible refine bel_step ?_ (by with_reducible assumption)) | (with_reducible refine Below.drew ?_) | (with_reducible refine below_drewN ?_ _) | (with_reducible refine bel_alloc ?_ _)))⟩, by simp [intOf]; omega⟩
      · have hv2 : v = V := by rw [← hE.out, hs, orE, if_neg hv]
        have e0 : (v == 0) = false := by simp [hv]
        clear hs hE hv
        go_wp2_with (go_at_call 170; (with_reducible refine (KY.out _ ?_).mono ?_); (focus ((repeat (first | (with_reducible exact Below.refl _ _) | (with_reducible assumption) | (with_reducible exact bel_box _) | (with_reducible refine bel_step ?_ (by with_reducible assumption)) | (with_reducible refine Below.drew ?_) | (with_reducible refine below_drewN ?_ _) | (with_reducible refine bel_alloc ?_ _))); done)); rintro e w1 ⟨rfl, hb1⟩)
        go_ret
        exact ⟨(by first | rfl | exact congrArg (fun z : Int => Ending.returned (.int .i64 z)) hv2), (by repeat (first | (with_reducible exact Below.refl _ _) | (with_reducible assumption) | (with_reducible exact bel_box _) | (with_reducible refine bel_step ?_ (by with_reducible assumption)) | (with_reducible refine Below.drew ?_) | (with_reducible refine below_drewN ?_ _) | (with_reducible refine bel_alloc ?_ _)))⟩
    · obtain rfl : k = r.l.length := by omega
      have hv2 : 0 = V := HL.out.symm.trans hE.out
      clear hE HE HV HL
      go_wp2
      go_ret
      exact ⟨(by first | rfl | exact congrArg (fun z : Int => Ending.returned (.int .i64 z)) hv2), hbl⟩
set_option maxHeartbeats 1000000 in
set_option maxRecDepth 20000 in
theorem first_Expr_expr (b0 : Value) (r : Rw (Xt)) (err : Xt → Int) (w : World) (hR : RdR w w.heap.size 6 XC r)
    (K : Hid (∀ y ∈ r.l, ∀ W, Below w.heap.size w W → Calls Tryz.prog 55 #[b0, xV y] W (Bel (.int .i64 (err y)) W))) :
    Calls Tryz.prog 82 #[.slice r.A r.l.length r.c, .func (.func 55) #[b0] #[]] w (Bel (.int .i64 (errs (r.l.map err))) w) := by
  have h9 := hR.len
  unfold maxLen at h9
  have HR := Lib.hid hR
  obtain ⟨E, hE0, hEl, HE⟩ := errs_steps r.l err
  rw [← hE0]
  obtain ⟨V, hV⟩ : ∃ V, E 0 = V := ⟨_, rfl⟩
  have HV := Lib.hid hV
  have HL := Lib.hid hEl
  rw [hV]
  clear hR hE0 hEl hV
  simp only [xV] at K ⊢
  go_enter Tryz.func82, Tryz.ntmps82
  go_wp2
  go_loopw [10] (fun i wr => ∃ k : Nat, k ≤ r.l.length ∧ i = .int .i64 (k : Int) ∧ Hid (E k = V) ∧ Below w.heap.size w wr) (fun i _ => r.l.length - (intOf i).toNat)
  case atStart => exact ⟨0, by omega, rfl, HV, Below.refl _ _⟩
  case round =>
    obtain ⟨k, hk, rfl, hE, hbl⟩ := hrel
    by_cases hlt : k < r.l.length
    · obtain ⟨ad, y, hA, had, hy, hm, ⟨c0, c1, c2, c3, c4, c5⟩⟩ := (HR.out.blw oneB_X hbl hbl.size).at_ hlt
      rw [hA]
      clear hA
      have hs := HE.out k y hy
      have KY := Lib.hid (K.out y hm)
      clear hy hm HE
      generalize err y = v at *
      by_cases hv : v = 0
      · subst hv
        have hn : Hid (E (k + 1) = V) := Lib.hid (by rw [← hE.out, hs]; rfl)
        clear hs hE
        go_wp2_with (go_at_call 55; (with_reducible refine (KY.out _ ?_).mono ?_); (focus ((repeat (first | (with_reducible exact Below.refl _ _) | (with_reducible assumption) | (with_reducible exact bel_box _) | (with_reducible refine bel_step ?_ (by with_reducible assumption)) | (with_reducible refine Below.drew ?_) | (with_reducible refine below_drewN ?_ _) | (with_reducible refine bel_alloc ?_ _))); done)); rintro e w1 ⟨rfl, hb1⟩)
        exact ⟨⟨k + 1, by omega, by congr 1, hn, (by repeat (first | (with_reducible exact Below.refl _ _) | (with_reducible assumption) | (with_reducible exact bel_box _) | (with_reducible refine bel_step ?_ (by with_reducible assumption)) | (with_reducible refine Below.drew ?_) | (with_reducible refine below_drewN ?_ _) | (with_reducible refine bel_alloc ?_ _)))⟩, by simp [intOf]; omega⟩
      · have hv2 : v = V := by rw [← hE.out, hs, orE, if_neg hv]
        have e0 : (v == 0) = false := by simp [hv]
        clear hs hE hv
        go_wp2_with (go_at_call 55; (with_reducible refine (KY.out _ ?_).mono ?_); (focus ((repeat (first | (with_reducible exact Below.refl _ _) | (with_reducible assumption) | (with_reducible exact bel_box _) | (with_reducible refine bel_step ?_ (by with_reducible assumption)) | (with_reducible refine Below.drew ?_) | (with_reducible refine below_drewN ?_ _) | (with_reducible refine bel_alloc ?_ _))); done)); rintro e w1 ⟨rfl, hb1⟩)
        go_ret
        exact ⟨(by first | rfl | exact congrArg (fun z : Int => Ending.returned (.int .i64 z)) hv2), (by repeat (first | (with_reducible exact Below.refl _ _) | (with_reducible assumption) | (with_reducible exact bel_box _) | (with_reducible refine bel_step ?_ (by with_reducible assumption)) | (with_reducible refine Below.drew ?_) | (with_reducible refine below_drewN ?_ _) | (with_reducible refine bel_alloc ?_ _)))⟩
    · obtain rfl : k = r.l.length := by omega
      have hv2 : 0 = V := HL.out.symm.trans hE.out
      clear hE HE HV HL
      go_wp2
      go_ret
      exact ⟨(by first | rfl | exact congrArg (fun z : Int => Ending.returned (.int .i64 z)) hv2), hbl⟩
set_option maxHeartbeats 1000000 in
set_option maxRecDepth 20000 in
theorem first_Expr_within (b0 : Value) (r : Rw (Xt)) (err : Xt → Int) (w : World) (hR : RdR w w.heap.size 6 XC r)
    (K : Hid (∀ y ∈ r.l, ∀ W, Below w.heap.size w W → Calls Tryz.prog 86 #[b0, xV y] W (Bel (.int .i64 (err y)) W))) :
    Calls Tryz.prog 82 #[.slice r.A r.l.length r.c, .func (.func 86) #[b0] #[]] w (Bel (.int .i64 (errs (r.l.map err))) w) := by
  have h9 := hR.len
  unfold maxLen at h9
  have HR := Lib.hid hR
  obtain ⟨E, hE0, hEl, HE⟩ := errs_steps r.l err
  rw [← hE0]
  obtain ⟨V, hV⟩ : ∃ V, E 0 = V := ⟨_, rfl⟩
  have HV := Lib.hid hV
  have HL := Lib.hid hEl
  rw [hV]
  clear hR hE0 hEl hV
  simp only [xV] at K ⊢
  go_enter Tryz.func82, Tryz.ntmps82
  go_wp2
  go_loopw [10] (fun i wr => ∃ k : Nat, k ≤ r.l.length ∧ i = .int .i64 (k : Int) ∧ Hid (E k = V) ∧ Below w.heap.size w wr) (fun i _ => r.l.length - (intOf i).toNat)
  case atStart => exact ⟨0, by omega, rfl, HV, Below.refl _ _⟩
  case round =>
    obtain ⟨k, hk, rfl, hE, hbl⟩ := hrel
    by_cases hlt : k < r.l.length
    · obtain ⟨ad, y, hA, had, hy, hm, ⟨c0, c1, c2, c3, c4, c5⟩⟩ := (HR.out.blw oneB_X hbl hbl.size).at_ hlt
      rw [hA]
      clear hA
      have hs := HE.out k y hy
      have KY := Lib.hid (K.out y hm)
      clear hy hm HE
      generalize err y = v at *
      by_cases hv : v = 0
      · subst hv
        have hn : Hid (E (k + 1) = V) := Lib.hid (by rw [← hE.out, hs]; rfl)
        clear hs hE
        go_wp2_with (go_at_call 86; (with_reducible refine (KY.out _ ?_).mono ?_); (focus ((repeat (first | (with_reducible exact Below.refl _ _) | (with_reducible assumption) | (with_reducible exact bel_box _) | (with_reducible refine bel_step ?_ (by with_reducible assumption)) | (with_reducible refine Below.drew ?_) | (with_reducible refine below_drewN ?_ _) | (with_reducible refine bel_alloc ?_ _))); done)); rintro e w1 ⟨rfl, hb1⟩)
        exact ⟨⟨k + 1, by omega, by congr 1, hn, (by repeat (first | (with_reducible exact Below.refl _ _) | (with_reducible assumption) | (with_reducible exact bel_box _) | (with_reducible refine bel_step ?_ (by with_reducible assumption)) | (with_reducible refine Below.drew ?_) | (with_reducible refine below_drewN ?_ _) | (with_reducible refine bel_alloc ?_ _)))⟩, by simp [intOf]; omega⟩
      · have hv2 : v = V := by rw [← hE.out, hs, orE, if_neg hv]
        have e0 : (v == 0) = false := by simp [hv]
        clear hs hE hv
        go_wp2_with (go_at_call 86; (with_reducible refine (KY.out _ ?_).mono ?_); (focus ((repeat (first | (with_reducible exact Below.refl _ _) | (with_reducible assumption) | (with_reducible exact bel_box _) | (with_reducible refine bel_step ?_ (by with_reducible assumption)) | (with_reducible refine Below.drew ?_) | (with_reducible refine below_drewN ?_ _) | (with_reducible refine bel_alloc ?_ _))); done)); rintro e w1 ⟨rfl, hb1⟩)
        go_ret
        exact ⟨(by first | rfl | exact congrArg (fun z : Int => Ending.returned (.int .i64 z)) hv2), (by repeat (first | (with_reducible exact Below.refl _ _) | (with_reducible assumption) | (with_reducible exact bel_box _) | (with_reducible refine bel_step ?_ (by with_reducible assumption)) | (with_reducible refine Below.drew ?_) | (with_reducible refine below_drewN ?_ _) | (with_reducible refine bel_alloc ?_ _)))⟩
    · obtain rfl : k = r.l.length := by omega
      have hv2 : 0 = V := HL.out.symm.trans hE.out
      clear hE HE HV HL
      go_wp2
      go_ret
      exact ⟨(by first | rfl | exact congrArg (fun z : Int => Ending.returned (.int .i64 z)) hv2), hbl⟩
set_option maxHeartbeats 1000000 in
set_option maxRecDepth 20000 in
theorem first_Eq_equation (b0 : Value) (r : Rw (Qt)) (err : Qt → Int) (w : World) (hR : RdR w w.heap.size 7 QC r)
    (K : Hid (∀ y ∈ r.l, ∀ W, Below w.heap.size w W → Calls Tryz.prog 79 #[b0, qV y] W (Bel (.int .i64 (err y)) W))) :
    Calls Tryz.prog 146 #[.slice r.A r.l.length r.c, .func (.func 79) #[b0] #[]] w (Bel (.int .i64 (errs (r.l.map err))) w) := by
  have h9 := hR.len
  unfold maxLen at h9
  have HR := Lib.hid hR
  obtain ⟨E, hE0, hEl, HE⟩ := errs_steps r.l err
  rw [← hE0]
  obtain ⟨V, hV⟩ : ∃ V, E 0 = V := ⟨_, rfl⟩
  have HV := Lib.hid hV
  have HL := Lib.hid hEl
  rw [hV]
  clear hR hE0 hEl hV
  skip
  go_enter Tryz.func146, Tryz.ntmps146
  go_wp2
  go_loopw [10] (fun i wr => ∃ k : Nat, k ≤ r.l.length ∧ i = .int .i64 (k : Int) ∧ Hid (E k = V) ∧ Below w.heap.size w wr) (fun i _ => r.l.length - (intOf i).toNat)
  case atStart => exact ⟨0, by omega, rfl, HV, Below.refl _ _⟩
  case round =>
    obtain ⟨k, hk, rfl, hE, hbl⟩ := hrel
    by_cases hlt : k < r.l.length
    · obtain ⟨ad, y, hA, had, hy, hm, ⟨c0, c1, c2, c3, c4, c5, c6⟩⟩ := (HR.out.blw oneB_Q hbl hbl.size).at_ hlt
      rw [hA]
      clear hA
      have hs := HE.out k y hy
      have KY := Lib.hid (K.out y hm)
      clear hy hm HE
      generalize err y = v at *
      by_cases hv : v = 0
      · subst hv
        have hn : Hid (E (k + 1) = V) := Lib.hid (by rw [← hE.out, hs]; rfl)
        clear hs hE
        go_wp2_with (go_at_call 79; (with_reducible refine (KY.out _ ?_).mono ?_); (focus ((repeat (first | (with_reducible exact Below.refl _ _) | (with_reducible assumption) | (with_reducible exact bel_box _) | (with_reducible refine bel_step ?_ (by with_reducible assumption)) | (with_reducible refine Below.drew ?_) | (with_reducible refine below_drewN ?_ _) | (with_reducible refine bel_alloc ?_ _))); done)); rintro e w1 ⟨rfl, hb1⟩)
        exact ⟨⟨k + 1, by omega, by congr 1, hn, (by repeat (first | (with_reducible exact Below.refl _ _) | (with_reducible assumption) | (with_reducible exact bel_box _) | (with_reducible refine bel_step ?_ (by with_reducible assumption)) | (with_reducible refine Below.drew ?_) | (with_reducible refine below_drewN ?_ _) | (with_reducible refine bel_alloc ?_ _)))⟩, by simp [intOf]; omega⟩
      · have hv2 : v = V := by rw [← hE.out, hs, orE, if_neg hv]
        have e0 : (v == 0) = false := by simp [hv]
        clear hs hE hv
        go_wp2_with (go_at_call 79; (with_reducible refine (KY.out _ ?_).mono ?_); (focus ((repeat (first | (with_reducible exact Below.refl _ _) | (with_reducible assumption) | (with_reducible exact bel_box _) | (with_reducible refine bel_step ?_ (by with_reducible assumption)) | (with_reducible refine Below.drew ?_) | (with_reducible refine below_drewN ?_ _) | (with_reducible refine bel_alloc ?_ _))); done)); rintro e w1 ⟨rfl, hb1⟩)
        go_ret
        exact ⟨(by first | rfl | exact congrArg (fun z : Int => Ending.returned (.int .i64 z)) hv2), (by repeat (first | (with_reducible exact Below.refl _ _) | (with_reducible assumption) | (with_reducible exact bel_box _) | (with_reducible refine bel_step ?_ (by with_reducible assumption)) | (with_reducible refine Below.drew ?_) | (with_reducible refine below_drewN ?_ _) | (with_reducible refine bel_alloc ?_ _)))⟩
    · obtain rfl : k = r.l.length := by omega
      have hv2 : 0 = V := HL.out.symm.trans hE.out
      clear hE HE HV HL
      go_wp2
      go_ret
      exact ⟨(by first | rfl | exact congrArg (fun z : Int => Ending.returned (.int .i64 z)) hv2), hbl⟩
end Go.Proofs.YthlapepjebidgaaGreatDoor
/- Ident of both is one. -/
namespace Go.Proofs.YthlapepjebidgaaGreatDoor
set_option linter.unusedVariables false
set_option linter.unusedSimpArgs false
open Go.RowKit
theorem ext_all (s : ByteArray) : s.extract 0 s.size = s := by
  apply ByteArray.ext
  apply Array.toList_inj.mp
  rw [head_extract, ← len_toList, List.take_length]
theorem id_eq (s : ByteArray) : idP s = idR s := by
  unfold idP idR
  by_cases h0 : 0 < s.size
  · have hh : (s.data.toList.headD 0) = s[0] := by
      have := byte_get s 0 h0
      rcases hl : s.data.toList with _ | ⟨c, r⟩
      · rw [hl] at this; cases this
      · rw [hl] at this; simpa using this
    rw [decide_eq_true h0, Bool.true_and, Bool.true_and, hh, fst, dif_pos h0]
    by_cases hL : pL ((s[0].toNat : Nat) : Int) = true
    · rw [if_pos hL, hL, Bool.and_true]
      have hle := sp_le pI s
      by_cases hk : sp pI s.data.toList ≤ 40
      · rw [if_pos hk]
        by_cases hs : sp pI s.data.toList = s.size
        · rw [hs, ext_all, nmK]
          rw [hs] at hk
          rw [decide_eq_true hk]
          cases isKw s <;> simp
        · have q : ((((sp pI s.data.toList : Nat) : Int)) == (s.size : Int)) = false := by rw [beq_eq_false_iff_ne]; omega
          simp only [q, Bool.and_false]
          rw [decide_eq_false hs, Bool.and_false, Bool.false_and]
      · rw [if_neg hk]
        have : ¬ (s.size ≤ 40 ∧ sp pI s.data.toList = s.size) := by omega
        by_cases h4 : s.size ≤ 40
        · rw [decide_eq_false (fun e => this ⟨h4, e⟩), Bool.and_false, Bool.false_and]; rfl
        · rw [decide_eq_false h4, Bool.false_and, Bool.false_and]; rfl
    · rw [if_neg hL]
      rw [Bool.not_eq_true] at hL
      rw [hL, Bool.and_false, Bool.false_and]
      split
      · split
        · rfl
        · split <;> rfl
      · split
        · split <;> rfl
        · split
          · rfl
          · split <;> rfl
  · rw [decide_eq_false h0, Bool.false_and, Bool.false_and, Bool.false_and, Bool.false_and, Bool.false_and]
end Go.Proofs.YthlapepjebidgaaGreatDoor
/- The checks of one expression, of the program. -/
namespace Go.Proofs.YthlapepjebidgaaGreatDoor
set_option linter.unusedVariables false
set_option linter.unusedSimpArgs false
open Go.RowKit
def hasVar (n : Int) : Bool := n == 2 || n == 8 || n == 9
def hasIdn (n : Int) : Bool := hasVar n || n == 10
def hasVal (t v : Int) : Bool := decide (t = 1 ∧ (v = 0 ∨ v = 1) ∨ t = 2 ∧ -32768 ≤ v ∧ v ≤ 32767 ∨ 3 ≤ t ∧ 0 ≤ v ∧ v < 16)
def opnds (op : Int) : Int := if op = 1 ∨ op = 2 then 1 else 2
def hasBr (t n : Int) : Bool := decide (t = 1 ∧ n = 2 ∨ 3 ≤ t ∧ 1 ≤ n ∧ n ≤ 16)
theorem hasvar_any (n : Int) (w : World) : Calls Tryz.prog 109 #[.int .i64 n] w (Bel (.bool (hasVar n)) w) := by
  go_enter Tryz.func109, Tryz.ntmps109
  go_wp2
  all_goals go_ret
  all_goals exact ⟨ret_bool (by simp_all [hasVar]), (by repeat (first | (with_reducible exact Below.refl _ _) | (with_reducible assumption) | (with_reducible exact bel_box _) | (with_reducible refine bel_step ?_ (by with_reducible assumption)) | (with_reducible refine Below.drew ?_) | (with_reducible refine below_drewN ?_ _) | (with_reducible refine bel_alloc ?_ _)))⟩
theorem hasident_any (n : Int) (w : World) : Calls Tryz.prog 108 #[.int .i64 n] w (Bel (.bool (hasIdn n)) w) := by
  have k1 := Lib.hid (hasvar_any n)
  have e : hasIdn n = (hasVar n || n == 10) := rfl
  rw [e]
  clear e
  generalize hasVar n = b at *
  cases b
  all_goals
    go_enter Tryz.func108, Tryz.ntmps108
    go_wp2_with (go_at_call 109; refine (k1.out _).mono ?_; rintro e w1 ⟨rfl, hb1⟩)
  all_goals go_ret
  all_goals exact ⟨ret_bool (by simp), (by repeat (first | (with_reducible exact Below.refl _ _) | (with_reducible assumption) | (with_reducible exact bel_box _) | (with_reducible refine bel_step ?_ (by with_reducible assumption)) | (with_reducible refine Below.drew ?_) | (with_reducible refine below_drewN ?_ _) | (with_reducible refine bel_alloc ?_ _)))⟩
theorem operands_any (n : Int) (w : World) : Calls Tryz.prog 130 #[.int .i64 n] w (Bel (.int .i64 (opnds n)) w) := by
  by_cases h1 : n = 1
  · subst h1
    go_enter Tryz.func130, Tryz.ntmps130
    go_wp2
    go_ret
    exact ⟨rfl, (by repeat (first | (with_reducible exact Below.refl _ _) | (with_reducible assumption) | (with_reducible exact bel_box _) | (with_reducible refine bel_step ?_ (by with_reducible assumption)) | (with_reducible refine Below.drew ?_) | (with_reducible refine below_drewN ?_ _) | (with_reducible refine bel_alloc ?_ _)))⟩
  by_cases h2 : n = 2
  · subst h2
    go_enter Tryz.func130, Tryz.ntmps130
    go_wp2
    go_ret
    exact ⟨rfl, (by repeat (first | (with_reducible exact Below.refl _ _) | (with_reducible assumption) | (with_reducible exact bel_box _) | (with_reducible refine bel_step ?_ (by with_reducible assumption)) | (with_reducible refine Below.drew ?_) | (with_reducible refine below_drewN ?_ _) | (with_reducible refine bel_alloc ?_ _)))⟩
  have e : opnds n = 2 := by rw [opnds, if_neg (by omega)]
  rw [e]
  have q1 : (n == 1) = false := by simpa using h1
  have q2 : (n == 2) = false := by simpa using h2
  go_enter Tryz.func130, Tryz.ntmps130
  go_wp2
  go_ret
  exact ⟨rfl, (by repeat (first | (with_reducible exact Below.refl _ _) | (with_reducible assumption) | (with_reducible exact bel_box _) | (with_reducible refine bel_step ?_ (by with_reducible assumption)) | (with_reducible refine Below.drew ?_) | (with_reducible refine below_drewN ?_ _) | (with_reducible refine bel_alloc ?_ _)))⟩
theorem hasvalue_any (t v : Int) (w : World) : Calls Tryz.prog 129 #[.int .i64 t, .int .i64 v] w (Bel (.bool (hasVal t v)) w) := by
  by_cases h1 : t = 1
  · subst h1
    go_enter Tryz.func129, Tryz.ntmps129
    go_wp2
    all_goals go_ret
    all_goals refine ⟨ret_bool ?_, (by repeat (first | (with_reducible exact Below.refl _ _) | (with_reducible assumption) | (with_reducible exact bel_box _) | (with_reducible refine bel_step ?_ (by with_reducible assumption)) | (with_reducible refine Below.drew ?_) | (with_reducible refine below_drewN ?_ _) | (with_reducible refine bel_alloc ?_ _)))⟩
    all_goals (rw [Bool.eq_iff_iff]; simp_all [hasVal])
  by_cases h2 : t = 2
  · subst h2
    go_enter Tryz.func129, Tryz.ntmps129
    go_wp2
    all_goals go_ret
    all_goals refine ⟨ret_bool ?_, (by repeat (first | (with_reducible exact Below.refl _ _) | (with_reducible assumption) | (with_reducible exact bel_box _) | (with_reducible refine bel_step ?_ (by with_reducible assumption)) | (with_reducible refine Below.drew ?_) | (with_reducible refine below_drewN ?_ _) | (with_reducible refine bel_alloc ?_ _)))⟩
    all_goals (rw [Bool.eq_iff_iff]; simp [hasVal]; omega)
  have q1 : (t == 1) = false := by simpa using h1
  have q2 : (t == 2) = false := by simpa using h2
  go_enter Tryz.func129, Tryz.ntmps129
  go_wp2
  all_goals go_ret
  all_goals refine ⟨ret_bool ?_, (by repeat (first | (with_reducible exact Below.refl _ _) | (with_reducible assumption) | (with_reducible exact bel_box _) | (with_reducible refine bel_step ?_ (by with_reducible assumption)) | (with_reducible refine Below.drew ?_) | (with_reducible refine below_drewN ?_ _) | (with_reducible refine bel_alloc ?_ _)))⟩
  all_goals (rw [Bool.eq_iff_iff]; simp [hasVal]; omega)
theorem hasbranches_any (t n : Int) (w : World) : Calls Tryz.prog 131 #[.int .i64 t, .int .i64 n] w (Bel (.bool (hasBr t n)) w) := by
  by_cases h1 : t = 1
  · subst h1
    go_enter Tryz.func131, Tryz.ntmps131
    go_wp2
    all_goals go_ret
    all_goals refine ⟨ret_bool ?_, (by repeat (first | (with_reducible exact Below.refl _ _) | (with_reducible assumption) | (with_reducible exact bel_box _) | (with_reducible refine bel_step ?_ (by with_reducible assumption)) | (with_reducible refine Below.drew ?_) | (with_reducible refine below_drewN ?_ _) | (with_reducible refine bel_alloc ?_ _)))⟩
    all_goals (rw [Bool.eq_iff_iff]; simp_all [hasBr])
  have q1 : (t == 1) = false := by simpa using h1
  go_enter Tryz.func131, Tryz.ntmps131
  go_wp2
  all_goals go_ret
  all_goals refine ⟨ret_bool ?_, (by repeat (first | (with_reducible exact Below.refl _ _) | (with_reducible assumption) | (with_reducible exact bel_box _) | (with_reducible refine bel_step ?_ (by with_reducible assumption)) | (with_reducible refine Below.drew ?_) | (with_reducible refine below_drewN ?_ _) | (with_reducible refine bel_alloc ?_ _)))⟩
  all_goals (rw [Bool.eq_iff_iff]; simp [hasBr]; omega)
end Go.Proofs.YthlapepjebidgaaGreatDoor
/- formed, hasOnly of the program. -/
namespace Go.Proofs.YthlapepjebidgaaGreatDoor
set_option linter.unusedVariables false
set_option linter.unusedSimpArgs false
open Go.RowKit
def formedP (k op t v n : Int) (wok : Bool) : Bool :=
  if k = 1 then n == 0 && hasVal t v else if k = 2 then n == 0 else if k = 3 then decide (1 ≤ op ∧ op ≤ 16) && n == opnds op else if k = 4 then n == 3 else if k = 5 then n == 1 else if k = 6 ∨ k = 7 then n == 2
  else if k = 8 then n == 1 && (t != 2 && hasVal t v) else if k = 9 then hasBr t n else if k = 10 then v == 0 || (v == 1 && decide (0 < n)) else if k = 11 then n == 0 && wok else false
def onlyP (k op t v : Int) (ne : Bool) : Bool :=
  if k ≠ 3 ∧ op ≠ 0 then false else if k = 1 then ne else if k = 8 then true else if k = 9 then v == 0 else if k = 10 then t == 0 else if k = 2 ∨ k = 11 then t == 0 && v == 0 else t == 0 && (v == 0 && ne)
set_option maxHeartbeats 2000000 in
set_option maxRecDepth 20000 in
theorem formed_any (x : Xt) (wok : Bool) (w : World) (KP : x.k = 11 → Hid (∀ W, Below w.heap.size w W → Calls Tryz.prog 132 #[.string x.nm] W (fun e w' => ∃ (A1 A2 : Option Addr) (n1 c1 n2 c2 : Nat) (er : Int), e = .returned (.tuple #[.agg #[.slice A1 n1 c1, .slice A2 n2 c2], .int .i64 er]) ∧ (er == 0) = wok ∧ Below W.heap.size W w'))) :
    Calls Tryz.prog 106 #[xV x] w (Bel (.bool (formedP x.k x.op x.t x.v x.ar.length wok)) w) := by
  have HV := Lib.hid (hasvalue_any x.t x.v)
  have HO := Lib.hid (operands_any x.op)
  have HB := Lib.hid (hasbranches_any x.t x.ar.length)
  obtain ⟨k, op, t, v, nm, A, c, ar⟩ := x
  simp only [xV, Xt.k, Xt.op, Xt.t, Xt.v, Xt.nm, Xt.A, Xt.c, Xt.ar] at *
  obtain ⟨n, hn⟩ : ∃ n : Nat, ar.length = n := ⟨_, rfl⟩
  rw [hn] at HB ⊢
  clear hn
  by_cases h1 : k = 1
  · subst h1
    rw [formedP, if_pos rfl]
    generalize hasVal t v = b at *
    cases b
    all_goals
      go_enter Tryz.func106, Tryz.ntmps106
      go_wp2_with (go_at_call 129; refine (HV.out _).mono ?_; rintro e w1 ⟨rfl, hb1⟩)
    all_goals go_ret
    all_goals exact ⟨ret_bool (by simp_all), (by repeat (first | (with_reducible exact Below.refl _ _) | (with_reducible assumption) | (with_reducible exact bel_box _) | (with_reducible refine bel_step ?_ (by with_reducible assumption)) | (with_reducible refine Below.drew ?_) | (with_reducible refine below_drewN ?_ _) | (with_reducible refine bel_alloc ?_ _)))⟩
  by_cases h2 : k = 2
  · subst h2
    go_enter Tryz.func106, Tryz.ntmps106
    go_wp2
    all_goals go_ret
    all_goals exact ⟨ret_bool (by simp_all [formedP]), (by repeat (first | (with_reducible exact Below.refl _ _) | (with_reducible assumption) | (with_reducible exact bel_box _) | (with_reducible refine bel_step ?_ (by with_reducible assumption)) | (with_reducible refine Below.drew ?_) | (with_reducible refine below_drewN ?_ _) | (with_reducible refine bel_alloc ?_ _)))⟩
  by_cases h3 : k = 3
  · subst h3
    rw [formedP, if_neg (by decide), if_neg (by decide), if_pos rfl]
    generalize opnds op = q at *
    go_enter Tryz.func106, Tryz.ntmps106
    go_wp2_with (go_at_call 130; refine (HO.out _).mono ?_; rintro e w1 ⟨rfl, hb1⟩)
    all_goals go_ret
    all_goals refine ⟨ret_bool ?_, (by repeat (first | (with_reducible exact Below.refl _ _) | (with_reducible assumption) | (with_reducible exact bel_box _) | (with_reducible refine bel_step ?_ (by with_reducible assumption)) | (with_reducible refine Below.drew ?_) | (with_reducible refine below_drewN ?_ _) | (with_reducible refine bel_alloc ?_ _)))⟩
    all_goals (rw [Bool.eq_iff_iff]; simp; omega)
  by_cases h4 : k = 4
  · subst h4
    go_enter Tryz.func106, Tryz.ntmps106
    go_wp2
    all_goals go_ret
    all_goals exact ⟨ret_bool (by simp_all [formedP]), (by repeat (first | (with_reducible exact Below.refl _ _) | (with_reducible assumption) | (with_reducible exact bel_box _) | (with_reducible refine bel_step ?_ (by with_reducible assumption)) | (with_reducible refine Below.drew ?_) | (with_reducible refine below_drewN ?_ _) | (with_reducible refine bel_alloc ?_ _)))⟩
  by_cases h5 : k = 5
  · subst h5
    go_enter Tryz.func106, Tryz.ntmps106
    go_wp2
    all_goals go_ret
    all_goals exact ⟨ret_bool (by simp_all [formedP]), (by repeat (first | (with_reducible exact Below.refl _ _) | (with_reducible assumption) | (with_reducible exact bel_box _) | (with_reducible refine bel_step ?_ (by with_reducible assumption)) | (with_reducible refine Below.drew ?_) | (with_reducible refine below_drewN ?_ _) | (with_reducible refine bel_alloc ?_ _)))⟩
  by_cases h6 : k = 6
  · subst h6
    go_enter Tryz.func106, Tryz.ntmps106
    go_wp2
    all_goals go_ret
    all_goals exact ⟨ret_bool (by simp_all [formedP]), (by repeat (first | (with_reducible exact Below.refl _ _) | (with_reducible assumption) | (with_reducible exact bel_box _) | (with_reducible refine bel_step ?_ (by with_reducible assumption)) | (with_reducible refine Below.drew ?_) | (with_reducible refine below_drewN ?_ _) | (with_reducible refine bel_alloc ?_ _)))⟩
  by_cases h7 : k = 7
  · subst h7
    go_enter Tryz.func106, Tryz.ntmps106
    go_wp2
    all_goals go_ret
    all_goals exact ⟨ret_bool (by simp_all [formedP]), (by repeat (first | (with_reducible exact Below.refl _ _) | (with_reducible assumption) | (with_reducible exact bel_box _) | (with_reducible refine bel_step ?_ (by with_reducible assumption)) | (with_reducible refine Below.drew ?_) | (with_reducible refine below_drewN ?_ _) | (with_reducible refine bel_alloc ?_ _)))⟩
  by_cases h8 : k = 8
  · subst h8
    rw [formedP, if_neg (by decide), if_neg (by decide), if_neg (by decide), if_neg (by decide), if_neg (by decide), if_neg (by decide), if_pos rfl]
    generalize hasVal t v = b at *
    cases b
    all_goals
      go_enter Tryz.func106, Tryz.ntmps106
      go_wp2_with (go_at_call 129; refine (HV.out _).mono ?_; rintro e w1 ⟨rfl, hb1⟩)
    all_goals go_ret
    all_goals exact ⟨ret_bool (by simp_all), (by repeat (first | (with_reducible exact Below.refl _ _) | (with_reducible assumption) | (with_reducible exact bel_box _) | (with_reducible refine bel_step ?_ (by with_reducible assumption)) | (with_reducible refine Below.drew ?_) | (with_reducible refine below_drewN ?_ _) | (with_reducible refine bel_alloc ?_ _)))⟩
  by_cases h9 : k = 9
  · subst h9
    rw [formedP, if_neg (by decide), if_neg (by decide), if_neg (by decide), if_neg (by decide), if_neg (by decide), if_neg (by decide), if_neg (by decide), if_pos rfl]
    generalize hasBr t n = b at *
    go_enter Tryz.func106, Tryz.ntmps106
    go_wp2_with (go_at_call 131; refine (HB.out _).mono ?_; rintro e w1 ⟨rfl, hb1⟩)
    all_goals go_ret
    all_goals exact ⟨rfl, (by repeat (first | (with_reducible exact Below.refl _ _) | (with_reducible assumption) | (with_reducible exact bel_box _) | (with_reducible refine bel_step ?_ (by with_reducible assumption)) | (with_reducible refine Below.drew ?_) | (with_reducible refine below_drewN ?_ _) | (with_reducible refine bel_alloc ?_ _)))⟩
  by_cases h10 : k = 10
  · subst h10
    rw [formedP, if_neg (by decide), if_neg (by decide), if_neg (by decide), if_neg (by decide), if_neg (by decide), if_neg (by decide), if_neg (by decide), if_neg (by decide), if_pos rfl]
    go_enter Tryz.func106, Tryz.ntmps106
    go_wp2
    all_goals go_ret
    all_goals refine ⟨ret_bool ?_, (by repeat (first | (with_reducible exact Below.refl _ _) | (with_reducible assumption) | (with_reducible exact bel_box _) | (with_reducible refine bel_step ?_ (by with_reducible assumption)) | (with_reducible refine Below.drew ?_) | (with_reducible refine below_drewN ?_ _) | (with_reducible refine bel_alloc ?_ _)))⟩
    all_goals (rw [Bool.eq_iff_iff]; simp_all)
  by_cases h11 : k = 11
  · subst h11
    have KQ := KP rfl
    rw [formedP, if_neg (by decide), if_neg (by decide), if_neg (by decide), if_neg (by decide), if_neg (by decide), if_neg (by decide), if_neg (by decide), if_neg (by decide), if_neg (by decide), if_pos rfl]
    clear KP
    cases wok
    all_goals
      go_enter Tryz.func106, Tryz.ntmps106
      go_wp2_with (go_at_call 132; refine (KQ.out _ ?_).mono ?_; (focus ((repeat (first | (with_reducible exact Below.refl _ _) | (with_reducible assumption) | (with_reducible exact bel_box _) | (with_reducible refine bel_step ?_ (by with_reducible assumption)) | (with_reducible refine Below.drew ?_) | (with_reducible refine below_drewN ?_ _) | (with_reducible refine bel_alloc ?_ _))); done)); rintro e w1 ⟨A1, A2, n1, c1, n2, c2, er, rfl, her, hb1⟩)
    all_goals go_ret
    all_goals exact ⟨ret_bool (by simp_all), (by repeat (first | (with_reducible exact Below.refl _ _) | (with_reducible assumption) | (with_reducible exact bel_box _) | (with_reducible refine bel_step ?_ (by with_reducible assumption)) | (with_reducible refine Below.drew ?_) | (with_reducible refine below_drewN ?_ _) | (with_reducible refine bel_alloc ?_ _)))⟩
  have e : formedP k op t v n wok = false := by
    rw [formedP, if_neg h1, if_neg h2, if_neg h3, if_neg h4, if_neg h5, if_neg (by omega), if_neg h8, if_neg h9, if_neg h10, if_neg h11]
  rw [e]
  have q1 : (k == 1) = false := by simpa using h1
  have q2 : (k == 2) = false := by simpa using h2
  have q3 : (k == 3) = false := by simpa using h3
  have q4 : (k == 4) = false := by simpa using h4
  have q5 : (k == 5) = false := by simpa using h5
  have q6 : (k == 6) = false := by simpa using h6
  have q7 : (k == 7) = false := by simpa using h7
  have q8 : (k == 8) = false := by simpa using h8
  have q9 : (k == 9) = false := by simpa using h9
  have q10 : (k == 10) = false := by simpa using h10
  have q11 : (k == 11) = false := by simpa using h11
  go_enter Tryz.func106, Tryz.ntmps106
  go_wp2
  go_ret
  exact ⟨rfl, (by repeat (first | (with_reducible exact Below.refl _ _) | (with_reducible assumption) | (with_reducible exact bel_box _) | (with_reducible refine bel_step ?_ (by with_reducible assumption)) | (with_reducible refine Below.drew ?_) | (with_reducible refine below_drewN ?_ _) | (with_reducible refine bel_alloc ?_ _)))⟩
set_option maxHeartbeats 2000000 in
set_option maxRecDepth 20000 in
theorem hasonly_any (x : Xt) (w : World) : Calls Tryz.prog 107 #[xV x] w (Bel (.bool (onlyP x.k x.op x.t x.v (x.nm.toList == []))) w) := by
  obtain ⟨k, op, t, v, nm, A, c, ar⟩ := x
  simp only [xV, Xt.k, Xt.op, Xt.t, Xt.v, Xt.nm, Xt.A, Xt.c, Xt.ar] at *
  have hne : (nm.toList == []) = nm.toList.isEmpty := by cases nm.toList <;> rfl
  by_cases h0 : k ≠ 3 ∧ op ≠ 0
  · rw [onlyP, if_pos h0]
    have q1 : (k != 3) = true := by simpa using h0.1
    have q2 : (op != 0) = true := by simpa using h0.2
    go_enter Tryz.func107, Tryz.ntmps107
    go_wp2
    all_goals go_ret
    all_goals exact ⟨rfl, (by repeat (first | (with_reducible exact Below.refl _ _) | (with_reducible assumption) | (with_reducible exact bel_box _) | (with_reducible refine bel_step ?_ (by with_reducible assumption)) | (with_reducible refine Below.drew ?_) | (with_reducible refine below_drewN ?_ _) | (with_reducible refine bel_alloc ?_ _)))⟩
  rw [onlyP, if_neg h0]
  have hq : (k != 3) = false ∨ (k != 3) = true ∧ (op != 0) = false := by
    by_cases h : k = 3
    · exact .inl (by simp [h])
    · exact .inr ⟨by simpa using h, by simpa using fun e => h0 ⟨h, e⟩⟩
  clear h0
  by_cases h1 : k = 1
  · subst h1
    rw [if_pos rfl]
    rcases hq with hq | ⟨_, hq⟩
    · cases hq
    go_enter Tryz.func107, Tryz.ntmps107
    go_wp2
    all_goals go_ret
    all_goals exact ⟨ret_bool (by simp_all), (by repeat (first | (with_reducible exact Below.refl _ _) | (with_reducible assumption) | (with_reducible exact bel_box _) | (with_reducible refine bel_step ?_ (by with_reducible assumption)) | (with_reducible refine Below.drew ?_) | (with_reducible refine below_drewN ?_ _) | (with_reducible refine bel_alloc ?_ _)))⟩
  by_cases h8 : k = 8
  · subst h8
    rw [if_neg (by decide), if_pos rfl]
    rcases hq with hq | ⟨_, hq⟩
    · cases hq
    go_enter Tryz.func107, Tryz.ntmps107
    go_wp2
    all_goals go_ret
    all_goals exact ⟨rfl, (by repeat (first | (with_reducible exact Below.refl _ _) | (with_reducible assumption) | (with_reducible exact bel_box _) | (with_reducible refine bel_step ?_ (by with_reducible assumption)) | (with_reducible refine Below.drew ?_) | (with_reducible refine below_drewN ?_ _) | (with_reducible refine bel_alloc ?_ _)))⟩
  by_cases h9 : k = 9
  · subst h9
    rw [if_neg (by decide), if_neg (by decide), if_pos rfl]
    rcases hq with hq | ⟨_, hq⟩
    · cases hq
    go_enter Tryz.func107, Tryz.ntmps107
    go_wp2
    all_goals go_ret
    all_goals exact ⟨rfl, (by repeat (first | (with_reducible exact Below.refl _ _) | (with_reducible assumption) | (with_reducible exact bel_box _) | (with_reducible refine bel_step ?_ (by with_reducible assumption)) | (with_reducible refine Below.drew ?_) | (with_reducible refine below_drewN ?_ _) | (with_reducible refine bel_alloc ?_ _)))⟩
  by_cases h10 : k = 10
  · subst h10
    rw [if_neg (by decide), if_neg (by decide), if_neg (by decide), if_pos rfl]
    rcases hq with hq | ⟨_, hq⟩
    · cases hq
    go_enter Tryz.func107, Tryz.ntmps107
    go_wp2
    all_goals go_ret
    all_goals exact ⟨rfl, (by repeat (first | (with_reducible exact Below.refl _ _) | (with_reducible assumption) | (with_reducible exact bel_box _) | (with_reducible refine bel_step ?_ (by with_reducible assumption)) | (with_reducible refine Below.drew ?_) | (with_reducible refine below_drewN ?_ _) | (with_reducible refine bel_alloc ?_ _)))⟩
  have q1 : (k == 1) = false := by simpa using h1
  have q8 : (k == 8) = false := by simpa using h8
  have q9 : (k == 9) = false := by simpa using h9
  have q10 : (k == 10) = false := by simpa using h10
  rw [if_neg h1, if_neg h8, if_neg h9, if_neg h10]
  by_cases h2 : k = 2
  · subst h2
    rw [if_pos (.inl rfl)]
    rcases hq with hq | ⟨_, hq⟩
    · cases hq
    go_enter Tryz.func107, Tryz.ntmps107
    go_wp2
    all_goals go_ret
    all_goals exact ⟨ret_bool (by simp_all), (by repeat (first | (with_reducible exact Below.refl _ _) | (with_reducible assumption) | (with_reducible exact bel_box _) | (with_reducible refine bel_step ?_ (by with_reducible assumption)) | (with_reducible refine Below.drew ?_) | (with_reducible refine below_drewN ?_ _) | (with_reducible refine bel_alloc ?_ _)))⟩
  by_cases h11 : k = 11
  · subst h11
    rw [if_pos (.inr rfl)]
    rcases hq with hq | ⟨_, hq⟩
    · cases hq
    go_enter Tryz.func107, Tryz.ntmps107
    go_wp2
    all_goals go_ret
    all_goals exact ⟨ret_bool (by simp_all), (by repeat (first | (with_reducible exact Below.refl _ _) | (with_reducible assumption) | (with_reducible exact bel_box _) | (with_reducible refine bel_step ?_ (by with_reducible assumption)) | (with_reducible refine Below.drew ?_) | (with_reducible refine below_drewN ?_ _) | (with_reducible refine bel_alloc ?_ _)))⟩
  have q2 : (k == 2) = false := by simpa using h2
  have q11 : (k == 11) = false := by simpa using h11
  rw [if_neg (by omega)]
  rcases hq with hq | ⟨hk3, hq⟩
  all_goals
    go_enter Tryz.func107, Tryz.ntmps107
    go_wp2
  all_goals go_ret
  all_goals exact ⟨ret_bool (by simp_all), (by repeat (first | (with_reducible exact Below.refl _ _) | (with_reducible assumption) | (with_reducible exact bel_box _) | (with_reducible refine bel_step ?_ (by with_reducible assumption)) | (with_reducible refine Below.drew ?_) | (with_reducible refine below_drewN ?_ _) | (with_reducible refine bel_alloc ?_ _)))⟩
end Go.Proofs.YthlapepjebidgaaGreatDoor
/- args, tagged, Named of the reference. -/
namespace Go.Proofs.YthlapepjebidgaaGreatDoor
set_option linter.unusedVariables false
set_option linter.unusedSimpArgs false
open Go.RowKit
theorem named_any (n : Int) (w : World) : Calls Tryz.prog 90 #[.int .i64 n] w (Bel (.bool (hasIdn n)) w) := by
  go_enter Tryz.func90, Tryz.ntmps90
  go_wp2
  all_goals go_ret
  all_goals exact ⟨ret_bool (by simp_all [hasIdn, hasVar]), (by repeat (first | (with_reducible exact Below.refl _ _) | (with_reducible assumption) | (with_reducible exact bel_box _) | (with_reducible refine bel_step ?_ (by with_reducible assumption)) | (with_reducible refine Below.drew ?_) | (with_reducible refine below_drewN ?_ _) | (with_reducible refine bel_alloc ?_ _)))⟩
def tagP (t v : Int) : Bool := decide (t = 1 ∧ (v = 0 ∨ v = 1) ∨ 3 ≤ t ∧ 0 ≤ v ∧ v < 16)
theorem tagged_any (t v : Int) (w : World) : Calls Tryz.prog 124 #[.int .i64 t, .int .i64 v] w (Bel (.bool (tagP t v)) w) := by
  go_enter Tryz.func124, Tryz.ntmps124
  go_wp2
  all_goals go_ret
  all_goals refine ⟨ret_bool ?_, (by repeat (first | (with_reducible exact Below.refl _ _) | (with_reducible assumption) | (with_reducible exact bel_box _) | (with_reducible refine bel_step ?_ (by with_reducible assumption)) | (with_reducible refine Below.drew ?_) | (with_reducible refine below_drewN ?_ _) | (with_reducible refine bel_alloc ?_ _)))⟩
  all_goals (rw [Bool.eq_iff_iff]; simp_all [tagP]; try omega)
def argP (k op t v n : Int) : Bool :=
  if k = 1 ∨ k = 2 ∨ k = 11 then n == 0 else if k = 3 then n == opnds op else if k = 4 then n == 3 else if k = 5 ∨ k = 8 then n == 1 else if k = 6 ∨ k = 7 then n == 2 else if k = 9 then (if t = 1 then n == 2 else decide (1 ≤ n ∧ n ≤ 16)) else decide (1 ≤ n) || v == 0
set_option maxHeartbeats 2000000 in
set_option maxRecDepth 20000 in
theorem args_any (x : Xt) (w : World) : Calls Tryz.prog 123 #[xV x] w (Bel (.bool (argP x.k x.op x.t x.v x.ar.length)) w) := by
  cases x with
  | mk k op t v nm A c ar =>
    simp only [xV, Xt.k, Xt.op, Xt.t, Xt.v, Xt.nm, Xt.A, Xt.c, Xt.ar]
    by_cases h1 : k = 1
    · subst h1
      go_enter Tryz.func123, Tryz.ntmps123
      go_wp2
      all_goals go_ret
      all_goals refine ⟨ret_bool ?_, (by repeat (first | (with_reducible exact Below.refl _ _) | (with_reducible assumption) | (with_reducible exact bel_box _) | (with_reducible refine bel_step ?_ (by with_reducible assumption)) | (with_reducible refine Below.drew ?_) | (with_reducible refine below_drewN ?_ _) | (with_reducible refine bel_alloc ?_ _)))⟩
      all_goals (rw [Bool.eq_iff_iff]; simp_all [argP, opnds]; try omega)
    by_cases h2 : k = 2
    · subst h2
      go_enter Tryz.func123, Tryz.ntmps123
      go_wp2
      all_goals go_ret
      all_goals refine ⟨ret_bool ?_, (by repeat (first | (with_reducible exact Below.refl _ _) | (with_reducible assumption) | (with_reducible exact bel_box _) | (with_reducible refine bel_step ?_ (by with_reducible assumption)) | (with_reducible refine Below.drew ?_) | (with_reducible refine below_drewN ?_ _) | (with_reducible refine bel_alloc ?_ _)))⟩
      all_goals (rw [Bool.eq_iff_iff]; simp_all [argP, opnds]; try omega)
    by_cases h11 : k = 11
    · subst h11
      go_enter Tryz.func123, Tryz.ntmps123
      go_wp2
      all_goals go_ret
      all_goals refine ⟨ret_bool ?_, (by repeat (first | (with_reducible exact Below.refl _ _) | (with_reducible assumption) | (with_reducible exact bel_box _) | (with_reducible refine bel_step ?_ (by with_reducible assumption)) | (with_reducible refine Below.drew ?_) | (with_reducible refine below_drewN ?_ _) | (with_reducible refine bel_alloc ?_ _)))⟩
      all_goals (rw [Bool.eq_iff_iff]; simp_all [argP, opnds]; try omega)
    by_cases h3 : k = 3
    · subst h3
      go_enter Tryz.func123, Tryz.ntmps123
      go_wp2
      all_goals go_ret
      all_goals refine ⟨ret_bool ?_, (by repeat (first | (with_reducible exact Below.refl _ _) | (with_reducible assumption) | (with_reducible exact bel_box _) | (with_reducible refine bel_step ?_ (by with_reducible assumption)) | (with_reducible refine Below.drew ?_) | (with_reducible refine below_drewN ?_ _) | (with_reducible refine bel_alloc ?_ _)))⟩
      all_goals (rw [Bool.eq_iff_iff]; simp_all [argP, opnds]; try omega)
    by_cases h4 : k = 4
    · subst h4
      go_enter Tryz.func123, Tryz.ntmps123
      go_wp2
      all_goals go_ret
      all_goals refine ⟨ret_bool ?_, (by repeat (first | (with_reducible exact Below.refl _ _) | (with_reducible assumption) | (with_reducible exact bel_box _) | (with_reducible refine bel_step ?_ (by with_reducible assumption)) | (with_reducible refine Below.drew ?_) | (with_reducible refine below_drewN ?_ _) | (with_reducible refine bel_alloc ?_ _)))⟩
      all_goals (rw [Bool.eq_iff_iff]; simp_all [argP, opnds]; try omega)
    by_cases h5 : k = 5
    · subst h5
      go_enter Tryz.func123, Tryz.ntmps123
      go_wp2
      all_goals go_ret
      all_goals refine ⟨ret_bool ?_, (by repeat (first | (with_reducible exact Below.refl _ _) | (with_reducible assumption) | (with_reducible exact bel_box _) | (with_reducible refine bel_step ?_ (by with_reducible assumption)) | (with_reducible refine Below.drew ?_) | (with_reducible refine below_drewN ?_ _) | (with_reducible refine bel_alloc ?_ _)))⟩
      all_goals (rw [Bool.eq_iff_iff]; simp_all [argP, opnds]; try omega)
    by_cases h8 : k = 8
    · subst h8
      go_enter Tryz.func123, Tryz.ntmps123
      go_wp2
      all_goals go_ret
      all_goals refine ⟨ret_bool ?_, (by repeat (first | (with_reducible exact Below.refl _ _) | (with_reducible assumption) | (with_reducible exact bel_box _) | (with_reducible refine bel_step ?_ (by with_reducible assumption)) | (with_reducible refine Below.drew ?_) | (with_reducible refine below_drewN ?_ _) | (with_reducible refine bel_alloc ?_ _)))⟩
      all_goals (rw [Bool.eq_iff_iff]; simp_all [argP, opnds]; try omega)
    by_cases h6 : k = 6
    · subst h6
      go_enter Tryz.func123, Tryz.ntmps123
      go_wp2
      all_goals go_ret
      all_goals refine ⟨ret_bool ?_, (by repeat (first | (with_reducible exact Below.refl _ _) | (with_reducible assumption) | (with_reducible exact bel_box _) | (with_reducible refine bel_step ?_ (by with_reducible assumption)) | (with_reducible refine Below.drew ?_) | (with_reducible refine below_drewN ?_ _) | (with_reducible refine bel_alloc ?_ _)))⟩
      all_goals (rw [Bool.eq_iff_iff]; simp_all [argP, opnds]; try omega)
    by_cases h7 : k = 7
    · subst h7
      go_enter Tryz.func123, Tryz.ntmps123
      go_wp2
      all_goals go_ret
      all_goals refine ⟨ret_bool ?_, (by repeat (first | (with_reducible exact Below.refl _ _) | (with_reducible assumption) | (with_reducible exact bel_box _) | (with_reducible refine bel_step ?_ (by with_reducible assumption)) | (with_reducible refine Below.drew ?_) | (with_reducible refine below_drewN ?_ _) | (with_reducible refine bel_alloc ?_ _)))⟩
      all_goals (rw [Bool.eq_iff_iff]; simp_all [argP, opnds]; try omega)
    by_cases h9 : k = 9
    · subst h9
      go_enter Tryz.func123, Tryz.ntmps123
      go_wp2
      all_goals go_ret
      all_goals refine ⟨ret_bool ?_, (by repeat (first | (with_reducible exact Below.refl _ _) | (with_reducible assumption) | (with_reducible exact bel_box _) | (with_reducible refine bel_step ?_ (by with_reducible assumption)) | (with_reducible refine Below.drew ?_) | (with_reducible refine below_drewN ?_ _) | (with_reducible refine bel_alloc ?_ _)))⟩
      all_goals (rw [Bool.eq_iff_iff]; simp_all [argP, opnds]; try omega)
    have q1 : (k == 1) = false := by simpa using h1
    have q2 : (k == 2) = false := by simpa using h2
    have q11 : (k == 11) = false := by simpa using h11
    have q3 : (k == 3) = false := by simpa using h3
    have q4 : (k == 4) = false := by simpa using h4
    have q5 : (k == 5) = false := by simpa using h5
    have q8 : (k == 8) = false := by simpa using h8
    have q6 : (k == 6) = false := by simpa using h6
    have q7 : (k == 7) = false := by simpa using h7
    have q9 : (k == 9) = false := by simpa using h9
    have e : argP k op t v (ar.length : Int) = (decide (1 ≤ (ar.length : Int)) || v == 0) := by
      rw [argP, if_neg (by omega), if_neg (by omega), if_neg (by omega), if_neg (by omega), if_neg (by omega), if_neg (by omega)]
    rw [e]
    clear e h1 h2 h11 h3 h4 h5 h8 h6 h7 h9
    go_enter Tryz.func123, Tryz.ntmps123
    go_wp2
    all_goals go_ret
    all_goals refine ⟨ret_bool ?_, (by repeat (first | (with_reducible exact Below.refl _ _) | (with_reducible assumption) | (with_reducible exact bel_box _) | (with_reducible refine bel_step ?_ (by with_reducible assumption)) | (with_reducible refine Below.drew ?_) | (with_reducible refine below_drewN ?_ _) | (with_reducible refine bel_alloc ?_ _)))⟩
    all_goals (first | rfl | (rw [Bool.eq_iff_iff]; done) | (rw [Bool.eq_iff_iff]; simp_all; done) | (rw [Bool.eq_iff_iff]; simp_all; omega))
end Go.Proofs.YthlapepjebidgaaGreatDoor
