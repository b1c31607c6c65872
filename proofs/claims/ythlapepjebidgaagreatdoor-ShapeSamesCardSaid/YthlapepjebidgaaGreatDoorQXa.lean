/- Texts of one chain, in one file. -/
import Derived.Test.YthlapepjebidgaaGreatDoorQH
/- The reference's equality of programs: rows of texts, samplings, expressions. -/
namespace Go.Proofs.YthlapepjebidgaaGreatDoor
set_option linter.unusedVariables false
set_option linter.unusedSimpArgs false
open Go.RowKit Go.Sort
variable {Bd : Nat}
set_option maxHeartbeats 2000000 in
set_option maxRecDepth 20000 in
theorem rs_texts (r s : Rw ByteArray) (w : World) (hR : RsB w w.heap.size r) (hS : RsB w w.heap.size s) :
    Calls Tryz.prog 62 #[.slice r.A r.l.length r.c, .slice s.A s.l.length s.c] w (Bel (.bool (all2 samB r.l s.l)) w) := by
  have h9 := hR.1.len
  have h9s := hS.1.len
  unfold maxLen at h9 h9s
  have HR := Lib.hid hR
  have HS := Lib.hid hS
  clear hR hS
  cases q : (((r.l.length : Nat) : Int) != ((s.l.length : Nat) : Int))
  case true =>
    have hv : all2 samB r.l s.l = false := all2_len (by intro h; simp [h] at q)
    rw [hv]
    clear hv HR HS
    go_enter Tryz.func62, Tryz.ntmps62
    go_wp2
    go_ret
    exact ⟨rfl, (by repeat (first | (with_reducible exact Below.refl _ _) | (with_reducible assumption) | (with_reducible exact bel_box _) | (with_reducible refine bel_step ?_ (by with_reducible assumption)) | (with_reducible refine Below.drew ?_) | (with_reducible refine below_drewN ?_ _) | (with_reducible refine bel_alloc ?_ _)))⟩
  case false =>
    have hll : r.l.length = s.l.length := by
      have h : ((r.l.length : Nat) : Int) = ((s.l.length : Nat) : Int) := by simpa using q
      omega
    obtain ⟨F, hF0, hFl, HF⟩ := all2_steps samB r.l s.l hll
    rw [← hF0]
    obtain ⟨V, hV⟩ : ∃ V, F 0 = V := ⟨_, rfl⟩
    have HV := Lib.hid hV
    have HL := Lib.hid hFl
    rw [hV]
    have HLL := Lib.hid hll
    clear hll hV hFl hF0
    go_enter Tryz.func62, Tryz.ntmps62
    go_wp2
    go_loopw [5] (fun i wr => ∃ k : Nat, k ≤ r.l.length ∧ i = .int .i64 (k : Int) ∧ Below w.heap.size w wr ∧ Hid (F k = V)) (fun i _ => r.l.length - (intOf i).toNat)
    case atStart => exact ⟨0, by omega, rfl, Below.refl _ _, HV⟩
    case round =>
      obtain ⟨k, hk, rfl, hbl, hK⟩ := hrel
      by_cases hlt : k < r.l.length
      · have w6 : wrap64 ((k : Int) + 1) = ((k + 1 : Nat) : Int) := by rw [IntWalk.wrap64_in _ (by omega)]; omega
        have l1 : (k : Int) < (r.l.length : Int) := by omega
        have l2 : (k : Int) < (s.l.length : Int) := by rw [← HLL.out]; exact l1
        have l0 : (0 : Int) ≤ (k : Int) := by omega
        have hfin : ∀ W, Below w.heap.size w W → F (k + 1) = V → (∃ j : Nat, j ≤ r.l.length ∧ Value.int IntKind.i64 (wrap64 ((k : Int) + 1)) = Value.int IntKind.i64 (j : Int) ∧ Below w.heap.size w W ∧ Hid (F j = V)) ∧ r.l.length - (intOf (Value.int IntKind.i64 (wrap64 ((k : Int) + 1)))).toNat < r.l.length - (intOf (Value.int IntKind.i64 (k : Int))).toNat := by
          intro W hW hF
          rw [w6]
          refine ⟨⟨k + 1, hlt, rfl, hW, Lib.hid hF⟩, ?_⟩
          simp only [intOf, Int.toNat_natCast]
          exact Nat.sub_lt_sub_left hlt (Nat.lt_succ_self k)
        have HFin := Lib.hid hfin
        clear hfin w6
        obtain ⟨ad, y, hA, _, hy, hmy, e0⟩ := ((HR.out.blw hbl hbl.size).1).at_ hlt
        obtain ⟨ad', z, hA', _, hz, hmz, g0⟩ := ((HS.out.blw hbl hbl.size).1).at_ (i := k) (by rw [← HLL.out]; exact hlt)
        unfold BC at e0
        rw [Nat.mul_one] at e0
        unfold BC at g0
        rw [Nat.mul_one] at g0
        have hst := HF.out k y z hy hz
        rw [hA, hA']
        unfold samB at hst
        clear hA hA' hy hz hmy hmz hlt h9 h9s
        cases hqq : (y.toList == z.toList)
        · rw [hqq] at hst
          have hv : V = false := by rw [← hK.out, hst]; rfl
          subst hv
          clear hst hK HF HV HL HFin
          go_wp2
          go_quiet (fail)
          go_wp2
          go_ret
          exact ⟨rfl, (by repeat (first | (with_reducible exact Below.refl _ _) | (with_reducible assumption) | (with_reducible exact bel_box _) | (with_reducible refine bel_step ?_ (by with_reducible assumption)) | (with_reducible refine Below.drew ?_) | (with_reducible refine below_drewN ?_ _) | (with_reducible refine bel_alloc ?_ _)))⟩
        · rw [hqq] at hst
          have hv : F (k + 1) = V := by rw [← hK.out, hst]; rfl
          have HV2 := Lib.hid hv
          clear hst hK HF HV HL hv
          go_wp2
          go_quiet (fail)
          go_wp2
          exact HFin.out _ (by repeat (first | (with_reducible exact Below.refl _ _) | (with_reducible assumption) | (with_reducible exact bel_box _) | (with_reducible refine bel_step ?_ (by with_reducible assumption)) | (with_reducible refine Below.drew ?_) | (with_reducible refine below_drewN ?_ _) | (with_reducible refine bel_alloc ?_ _))) HV2.out
      · obtain rfl : k = r.l.length := by omega
        have hv : V = true := by rw [← hK.out, HL.out]
        subst hv
        clear HF HV hK HL HR HS
        go_wp2
        go_ret
        exact ⟨rfl, (by repeat (first | (with_reducible exact Below.refl _ _) | (with_reducible assumption) | (with_reducible exact bel_box _) | (with_reducible refine bel_step ?_ (by with_reducible assumption)) | (with_reducible refine Below.drew ?_) | (with_reducible refine below_drewN ?_ _) | (with_reducible refine bel_alloc ?_ _)))⟩
set_option maxHeartbeats 2000000 in
set_option maxRecDepth 20000 in
theorem rs_clocks (r s : Rw Ot) (w : World) (hR : RsO w w.heap.size r) (hS : RsO w w.heap.size s) :
    Calls Tryz.prog 103 #[.slice r.A r.l.length r.c, .slice s.A s.l.length s.c] w (Bel (.bool (all2 samO r.l s.l)) w) := by
  have h9 := hR.1.len
  have h9s := hS.1.len
  unfold maxLen at h9 h9s
  have HR := Lib.hid hR
  have HS := Lib.hid hS
  clear hR hS
  cases q : (((r.l.length : Nat) : Int) != ((s.l.length : Nat) : Int))
  case true =>
    have hv : all2 samO r.l s.l = false := all2_len (by intro h; simp [h] at q)
    rw [hv]
    clear hv HR HS
    go_enter Tryz.func103, Tryz.ntmps103
    go_wp2
    go_ret
    exact ⟨rfl, (by repeat (first | (with_reducible exact Below.refl _ _) | (with_reducible assumption) | (with_reducible exact bel_box _) | (with_reducible refine bel_step ?_ (by with_reducible assumption)) | (with_reducible refine Below.drew ?_) | (with_reducible refine below_drewN ?_ _) | (with_reducible refine bel_alloc ?_ _)))⟩
  case false =>
    have hll : r.l.length = s.l.length := by
      have h : ((r.l.length : Nat) : Int) = ((s.l.length : Nat) : Int) := by simpa using q
      omega
    obtain ⟨F, hF0, hFl, HF⟩ := all2_steps samO r.l s.l hll
    rw [← hF0]
    obtain ⟨V, hV⟩ : ∃ V, F 0 = V := ⟨_, rfl⟩
    have HV := Lib.hid hV
    have HL := Lib.hid hFl
    rw [hV]
    have HLL := Lib.hid hll
    clear hll hV hFl hF0
    go_enter Tryz.func103, Tryz.ntmps103
    go_wp2
    go_loopw [5] (fun i wr => ∃ k : Nat, k ≤ r.l.length ∧ i = .int .i64 (k : Int) ∧ Below w.heap.size w wr ∧ Hid (F k = V)) (fun i _ => r.l.length - (intOf i).toNat)
    case atStart => exact ⟨0, by omega, rfl, Below.refl _ _, HV⟩
    case round =>
      obtain ⟨k, hk, rfl, hbl, hK⟩ := hrel
      by_cases hlt : k < r.l.length
      · have w6 : wrap64 ((k : Int) + 1) = ((k + 1 : Nat) : Int) := by rw [IntWalk.wrap64_in _ (by omega)]; omega
        have l1 : (k : Int) < (r.l.length : Int) := by omega
        have l2 : (k : Int) < (s.l.length : Int) := by rw [← HLL.out]; exact l1
        have l0 : (0 : Int) ≤ (k : Int) := by omega
        have hfin : ∀ W, Below w.heap.size w W → F (k + 1) = V → (∃ j : Nat, j ≤ r.l.length ∧ Value.int IntKind.i64 (wrap64 ((k : Int) + 1)) = Value.int IntKind.i64 (j : Int) ∧ Below w.heap.size w W ∧ Hid (F j = V)) ∧ r.l.length - (intOf (Value.int IntKind.i64 (wrap64 ((k : Int) + 1)))).toNat < r.l.length - (intOf (Value.int IntKind.i64 (k : Int))).toNat := by
          intro W hW hF
          rw [w6]
          refine ⟨⟨k + 1, hlt, rfl, hW, Lib.hid hF⟩, ?_⟩
          simp only [intOf, Int.toNat_natCast]
          exact Nat.sub_lt_sub_left hlt (Nat.lt_succ_self k)
        have HFin := Lib.hid hfin
        clear hfin w6
        obtain ⟨ad, y, hA, _, hy, hmy, ⟨e0, e1, e2⟩⟩ := ((HR.out.blw hbl hbl.size).1).at_ hlt
        obtain ⟨ad', z, hA', _, hz, hmz, ⟨g0, g1, g2⟩⟩ := ((HS.out.blw hbl hbl.size).1).at_ (i := k) (by rw [← HLL.out]; exact hlt)
        have hst := HF.out k y z hy hz
        rw [hA, hA']
        have hf : samO y z = (y.nm.toList == z.nm.toList && (y.t == z.t && y.tag == z.tag)) := rfl
        rw [hf] at hst
        clear hf hA hA' hy hz hmy hmz hlt h9 h9s
        cases q1 : (y.nm.toList == z.nm.toList)
        · have hv : V = false := by rw [← hK.out, hst, q1]; rfl
          subst hv
          clear hst hK HF HV HL HFin
          go_wp2
          go_quiet (fail)
          go_wp2
          go_ret
          exact ⟨rfl, (by repeat (first | (with_reducible exact Below.refl _ _) | (with_reducible assumption) | (with_reducible exact bel_box _) | (with_reducible refine bel_step ?_ (by with_reducible assumption)) | (with_reducible refine Below.drew ?_) | (with_reducible refine below_drewN ?_ _) | (with_reducible refine bel_alloc ?_ _)))⟩
        cases q2 : (y.t == z.t)
        · have hv : V = false := by rw [← hK.out, hst, q1, q2]; rfl
          subst hv
          clear hst hK HF HV HL HFin
          go_wp2
          go_quiet (fail)
          go_wp2
          go_ret
          exact ⟨rfl, (by repeat (first | (with_reducible exact Below.refl _ _) | (with_reducible assumption) | (with_reducible exact bel_box _) | (with_reducible refine bel_step ?_ (by with_reducible assumption)) | (with_reducible refine Below.drew ?_) | (with_reducible refine below_drewN ?_ _) | (with_reducible refine bel_alloc ?_ _)))⟩
        cases q3 : (y.tag == z.tag)
        · have hv : V = false := by rw [← hK.out, hst, q1, q2, q3]; rfl
          subst hv
          clear hst hK HF HV HL HFin
          go_wp2
          go_quiet (fail)
          go_wp2
          go_ret
          exact ⟨rfl, (by repeat (first | (with_reducible exact Below.refl _ _) | (with_reducible assumption) | (with_reducible exact bel_box _) | (with_reducible refine bel_step ?_ (by with_reducible assumption)) | (with_reducible refine Below.drew ?_) | (with_reducible refine below_drewN ?_ _) | (with_reducible refine bel_alloc ?_ _)))⟩
        have hv : F (k + 1) = V := by rw [← hK.out, hst, q1, q2, q3]; rfl
        have HV2 := Lib.hid hv
        clear hst hK HF HV HL hv
        go_wp2
        go_quiet (fail)
        go_wp2
        exact HFin.out _ (by repeat (first | (with_reducible exact Below.refl _ _) | (with_reducible assumption) | (with_reducible exact bel_box _) | (with_reducible refine bel_step ?_ (by with_reducible assumption)) | (with_reducible refine Below.drew ?_) | (with_reducible refine below_drewN ?_ _) | (with_reducible refine bel_alloc ?_ _))) HV2.out
      · obtain rfl : k = r.l.length := by omega
        have hv : V = true := by rw [← hK.out, HL.out]
        subst hv
        clear HF HV hK HL HR HS
        go_wp2
        go_ret
        exact ⟨rfl, (by repeat (first | (with_reducible exact Below.refl _ _) | (with_reducible assumption) | (with_reducible exact bel_box _) | (with_reducible refine bel_step ?_ (by with_reducible assumption)) | (with_reducible refine Below.drew ?_) | (with_reducible refine below_drewN ?_ _) | (with_reducible refine bel_alloc ?_ _)))⟩
set_option maxHeartbeats 2000000 in
set_option maxRecDepth 20000 in
theorem rs_claims (r s : Rw Xt) (w : World) (hR : RsXs w w.heap.size r) (hS : RsXs w w.heap.size s) (hz : ∀ x ∈ r.l, x.size ≤ Bd) :
    Calls Tryz.prog 66 #[.slice r.A r.l.length r.c, .slice s.A s.l.length s.c] w (Bel (.bool (all2 sameX r.l s.l)) w) := by
  have h9 := hR.1.len
  have h9s := hS.1.len
  unfold maxLen at h9 h9s
  have KX : Hid (∀ y ∈ r.l, ∀ z ∈ s.l, ∀ W, Below w.heap.size w W → Calls Tryz.prog 14 #[xV y, xV z] W (Bel (.bool (sameX y z)) W)) := Lib.hid fun y hy z hz' W h => rsameX_any y z W ((hR.2 y hy).1.blw h h.size) ((hS.2 z hz').1.blw h h.size) (hz y hy)
  simp only [xV] at KX
  have HR := Lib.hid hR
  have HS := Lib.hid hS
  clear hR hS
  cases q : (((r.l.length : Nat) : Int) != ((s.l.length : Nat) : Int))
  case true =>
    have hv : all2 sameX r.l s.l = false := all2_len (by intro h; simp [h] at q)
    rw [hv]
    clear hv HR HS
    go_enter Tryz.func66, Tryz.ntmps66
    go_wp2
    go_ret
    exact ⟨rfl, (by repeat (first | (with_reducible exact Below.refl _ _) | (with_reducible assumption) | (with_reducible exact bel_box _) | (with_reducible refine bel_step ?_ (by with_reducible assumption)) | (with_reducible refine Below.drew ?_) | (with_reducible refine below_drewN ?_ _) | (with_reducible refine bel_alloc ?_ _)))⟩
  case false =>
    have hll : r.l.length = s.l.length := by
      have h : ((r.l.length : Nat) : Int) = ((s.l.length : Nat) : Int) := by simpa using q
      omega
    obtain ⟨F, hF0, hFl, HF⟩ := all2_steps sameX r.l s.l hll
    rw [← hF0]
    obtain ⟨V, hV⟩ : ∃ V, F 0 = V := ⟨_, rfl⟩
    have HV := Lib.hid hV
    have HL := Lib.hid hFl
    rw [hV]
    have HLL := Lib.hid hll
    clear hll hV hFl hF0
    go_enter Tryz.func66, Tryz.ntmps66
    go_wp2
    go_loopw [5] (fun i wr => ∃ k : Nat, k ≤ r.l.length ∧ i = .int .i64 (k : Int) ∧ Below w.heap.size w wr ∧ Hid (F k = V)) (fun i _ => r.l.length - (intOf i).toNat)
    case atStart => exact ⟨0, by omega, rfl, Below.refl _ _, HV⟩
    case round =>
      obtain ⟨k, hk, rfl, hbl, hK⟩ := hrel
      by_cases hlt : k < r.l.length
      · have w6 : wrap64 ((k : Int) + 1) = ((k + 1 : Nat) : Int) := by rw [IntWalk.wrap64_in _ (by omega)]; omega
        have l1 : (k : Int) < (r.l.length : Int) := by omega
        have l2 : (k : Int) < (s.l.length : Int) := by rw [← HLL.out]; exact l1
        have l0 : (0 : Int) ≤ (k : Int) := by omega
        have hfin : ∀ W, Below w.heap.size w W → F (k + 1) = V → (∃ j : Nat, j ≤ r.l.length ∧ Value.int IntKind.i64 (wrap64 ((k : Int) + 1)) = Value.int IntKind.i64 (j : Int) ∧ Below w.heap.size w W ∧ Hid (F j = V)) ∧ r.l.length - (intOf (Value.int IntKind.i64 (wrap64 ((k : Int) + 1)))).toNat < r.l.length - (intOf (Value.int IntKind.i64 (k : Int))).toNat := by
          intro W hW hF
          rw [w6]
          refine ⟨⟨k + 1, hlt, rfl, hW, Lib.hid hF⟩, ?_⟩
          simp only [intOf, Int.toNat_natCast]
          exact Nat.sub_lt_sub_left hlt (Nat.lt_succ_self k)
        have HFin := Lib.hid hfin
        clear hfin w6
        obtain ⟨ad, y, hA, _, hy, hmy, ⟨e0, e1, e2, e3, e4, e5⟩⟩ := ((HR.out.blw hbl hbl.size).1).at_ hlt
        obtain ⟨ad', z, hA', _, hz, hmz, ⟨g0, g1, g2, g3, g4, g5⟩⟩ := ((HS.out.blw hbl hbl.size).1).at_ (i := k) (by rw [← HLL.out]; exact hlt)
        have hst := HF.out k y z hy hz
        rw [hA, hA']
        have KE := Lib.hid (KX.out y hmy z hmz)
        clear KX
        generalize sameX y z = v at *
        have TQ : Hid (∀ W, Below w.heap.size w W → (W.cell? (ad.add (k * 6)) = some (.int .i64 y.k) ∧ W.cell? ⟨(ad.add (k * 6)).block, (ad.add (k * 6)).off + 1, none⟩ = some (.int .i64 y.op) ∧ W.cell? ⟨(ad.add (k * 6)).block, (ad.add (k * 6)).off + 2, none⟩ = some (.int .i64 y.t) ∧ W.cell? ⟨(ad.add (k * 6)).block, (ad.add (k * 6)).off + 3, none⟩ = some (.int .i64 y.v) ∧ W.cell? ⟨(ad.add (k * 6)).block, (ad.add (k * 6)).off + 4, none⟩ = some (.string y.nm) ∧ W.cell? ⟨(ad.add (k * 6)).block, (ad.add (k * 6)).off + 5, none⟩ = some (.slice y.A y.ar.length y.c) ∧ W.cell? (ad'.add (k * 6)) = some (.int .i64 z.k) ∧ W.cell? ⟨(ad'.add (k * 6)).block, (ad'.add (k * 6)).off + 1, none⟩ = some (.int .i64 z.op) ∧ W.cell? ⟨(ad'.add (k * 6)).block, (ad'.add (k * 6)).off + 2, none⟩ = some (.int .i64 z.t) ∧ W.cell? ⟨(ad'.add (k * 6)).block, (ad'.add (k * 6)).off + 3, none⟩ = some (.int .i64 z.v) ∧ W.cell? ⟨(ad'.add (k * 6)).block, (ad'.add (k * 6)).off + 4, none⟩ = some (.string z.nm) ∧ W.cell? ⟨(ad'.add (k * 6)).block, (ad'.add (k * 6)).off + 5, none⟩ = some (.slice z.A z.ar.length z.c))) := Lib.hid fun W h => by
          obtain ⟨x0, x1, x2, x3, x4, x5⟩ := (HR.out.blw h h.size).1.2.1 ad k y hA hy
          obtain ⟨y0, y1, y2, y3, y4, y5⟩ := (HS.out.blw h h.size).1.2.1 ad' k z hA' hz
          exact ⟨x0, x1, x2, x3, x4, x5, y0, y1, y2, y3, y4, y5⟩
        clear hA hA' hy hz hmy hmz hlt h9 h9s e0 e1 e2 e3 e4 e5 g0 g1 g2 g3 g4 g5
        cases v
        · have hv : V = false := by rw [← hK.out, hst]; rfl
          subst hv
          clear hst hK HF HV HL HFin
          obtain ⟨e0, e1, e2, e3, e4, e5, g0, g1, g2, g3, g4, g5⟩ := TQ.out wr hbl
          have f0 := cell_regrown e0
          have f1 := cell_regrown e1
          have f2 := cell_regrown e2
          have f3 := cell_regrown e3
          have f4 := cell_regrown e4
          have f5 := cell_regrown e5
          have f6 := cell_regrown g0
          have f7 := cell_regrown g1
          have f8 := cell_regrown g2
          have f9 := cell_regrown g3
          have f10 := cell_regrown g4
          have f11 := cell_regrown g5
          have c1' := fun dd os => Calls.regrown_of (KE.out (grow (redrawn wr dd) os) (hbl.trans ((below_regrown wr dd os).mono hbl.size)))
          go_wp2
          refine wp_region_quiet_below (by kernel_rfl) (by kernel_rfl) ?_
          repeat (quiet_step (with_reducible exact c1' _ _))
          refine wpQuiet_nil ?_
          intro _ hw'
          obtain ⟨⟨dq, osq⟩, hw''⟩ := hw'
          subst hw''
          have hbw2 : Below w.heap.size w (grow (redrawn wr dq) osq) := hbl.trans ((below_regrown wr dq osq).mono hbl.size)
          generalize grow (redrawn wr dq) osq = w2 at hbw2 ⊢
          clear c1' f0 f1 f2 f3 f4 f5 f6 f7 f8 f9 f10 f11 e0 e1 e2 e3 e4 e5 g0 g1 g2 g3 g4 g5
          go_wp2
          go_ret
          exact ⟨rfl, hbw2⟩
        · have hv : F (k + 1) = V := by rw [← hK.out, hst]; rfl
          have HV2 := Lib.hid hv
          clear hst hK HF HV HL hv
          obtain ⟨e0, e1, e2, e3, e4, e5, g0, g1, g2, g3, g4, g5⟩ := TQ.out wr hbl
          have f0 := cell_regrown e0
          have f1 := cell_regrown e1
          have f2 := cell_regrown e2
          have f3 := cell_regrown e3
          have f4 := cell_regrown e4
          have f5 := cell_regrown e5
          have f6 := cell_regrown g0
          have f7 := cell_regrown g1
          have f8 := cell_regrown g2
          have f9 := cell_regrown g3
          have f10 := cell_regrown g4
          have f11 := cell_regrown g5
          have c1' := fun dd os => Calls.regrown_of (KE.out (grow (redrawn wr dd) os) (hbl.trans ((below_regrown wr dd os).mono hbl.size)))
          go_wp2
          refine wp_region_quiet_below (by kernel_rfl) (by kernel_rfl) ?_
          repeat (quiet_step (with_reducible exact c1' _ _))
          refine wpQuiet_nil ?_
          intro _ hw'
          obtain ⟨⟨dq, osq⟩, hw''⟩ := hw'
          subst hw''
          have hbw2 : Below w.heap.size w (grow (redrawn wr dq) osq) := hbl.trans ((below_regrown wr dq osq).mono hbl.size)
          generalize grow (redrawn wr dq) osq = w2 at hbw2 ⊢
          clear c1' f0 f1 f2 f3 f4 f5 f6 f7 f8 f9 f10 f11 e0 e1 e2 e3 e4 e5 g0 g1 g2 g3 g4 g5
          go_wp2
          exact HFin.out _ hbw2 HV2.out
      · obtain rfl : k = r.l.length := by omega
        have hv : V = true := by rw [← hK.out, HL.out]
        subst hv
        clear HF HV hK HL HR HS
        go_wp2
        go_ret
        exact ⟨rfl, (by repeat (first | (with_reducible exact Below.refl _ _) | (with_reducible assumption) | (with_reducible exact bel_box _) | (with_reducible refine bel_step ?_ (by with_reducible assumption)) | (with_reducible refine Below.drew ?_) | (with_reducible refine below_drewN ?_ _) | (with_reducible refine bel_alloc ?_ _)))⟩
end Go.Proofs.YthlapepjebidgaaGreatDoor
/- The reference's equality of programs: rows of declarations, equations, transitions. -/
namespace Go.Proofs.YthlapepjebidgaaGreatDoor
set_option linter.unusedVariables false
set_option linter.unusedSimpArgs false
open Go.RowKit Go.Sort
set_option maxHeartbeats 2000000 in
set_option maxRecDepth 20000 in
theorem rs_decls (r s : Rw Dt) (w : World) (hR : RsDs w w.heap.size r) (hS : RsDs w w.heap.size s) :
    Calls Tryz.prog 63 #[.slice r.A r.l.length r.c, .slice s.A s.l.length s.c] w (Bel (.bool (all2 samD r.l s.l)) w) := by
  have h9 := hR.1.len
  have h9s := hS.1.len
  unfold maxLen at h9 h9s
  have KX : Hid (∀ y ∈ r.l, ∀ z ∈ s.l, ∀ W, Below w.heap.size w W → Calls Tryz.prog 103 #[.slice y.ck.A y.ck.l.length y.ck.c, .slice z.ck.A z.ck.l.length z.ck.c] W (Bel (.bool (all2 samO y.ck.l z.ck.l)) W)) := Lib.hid fun y hy z hz' W h => rs_clocks y.ck z.ck W ((hR.2 y hy).2.blw h h.size) ((hS.2 z hz').2.blw h h.size)
  have HR := Lib.hid hR
  have HS := Lib.hid hS
  clear hR hS
  cases q : (((r.l.length : Nat) : Int) != ((s.l.length : Nat) : Int))
  case true =>
    have hv : all2 samD r.l s.l = false := all2_len (by intro h; simp [h] at q)
    rw [hv]
    clear hv HR HS
    go_enter Tryz.func63, Tryz.ntmps63
    go_wp2
    go_ret
    exact ⟨rfl, (by repeat (first | (with_reducible exact Below.refl _ _) | (with_reducible assumption) | (with_reducible exact bel_box _) | (with_reducible refine bel_step ?_ (by with_reducible assumption)) | (with_reducible refine Below.drew ?_) | (with_reducible refine below_drewN ?_ _) | (with_reducible refine bel_alloc ?_ _)))⟩
  case false =>
    have hll : r.l.length = s.l.length := by
      have h : ((r.l.length : Nat) : Int) = ((s.l.length : Nat) : Int) := by simpa using q
      omega
    obtain ⟨F, hF0, hFl, HF⟩ := all2_steps samD r.l s.l hll
    rw [← hF0]
    obtain ⟨V, hV⟩ : ∃ V, F 0 = V := ⟨_, rfl⟩
    have HV := Lib.hid hV
    have HL := Lib.hid hFl
    rw [hV]
    have HLL := Lib.hid hll
    clear hll hV hFl hF0
    go_enter Tryz.func63, Tryz.ntmps63
    go_wp2
    go_loopw [5] (fun i wr => ∃ k : Nat, k ≤ r.l.length ∧ i = .int .i64 (k : Int) ∧ Below w.heap.size w wr ∧ Hid (F k = V)) (fun i _ => r.l.length - (intOf i).toNat)
    case atStart => exact ⟨0, by omega, rfl, Below.refl _ _, HV⟩
    case round =>
      obtain ⟨k, hk, rfl, hbl, hK⟩ := hrel
      by_cases hlt : k < r.l.length
      · have w6 : wrap64 ((k : Int) + 1) = ((k + 1 : Nat) : Int) := by rw [IntWalk.wrap64_in _ (by omega)]; omega
        have l1 : (k : Int) < (r.l.length : Int) := by omega
        have l2 : (k : Int) < (s.l.length : Int) := by rw [← HLL.out]; exact l1
        have l0 : (0 : Int) ≤ (k : Int) := by omega
        have hfin : ∀ W, Below w.heap.size w W → F (k + 1) = V → (∃ j : Nat, j ≤ r.l.length ∧ Value.int IntKind.i64 (wrap64 ((k : Int) + 1)) = Value.int IntKind.i64 (j : Int) ∧ Below w.heap.size w W ∧ Hid (F j = V)) ∧ r.l.length - (intOf (Value.int IntKind.i64 (wrap64 ((k : Int) + 1)))).toNat < r.l.length - (intOf (Value.int IntKind.i64 (k : Int))).toNat := by
          intro W hW hF
          rw [w6]
          refine ⟨⟨k + 1, hlt, rfl, hW, Lib.hid hF⟩, ?_⟩
          simp only [intOf, Int.toNat_natCast]
          exact Nat.sub_lt_sub_left hlt (Nat.lt_succ_self k)
        have HFin := Lib.hid hfin
        clear hfin w6
        obtain ⟨ad, y, hA, _, hy, hmy, ⟨e0, e1, e2⟩⟩ := ((HR.out.blw hbl hbl.size).1).at_ hlt
        obtain ⟨ad', z, hA', _, hz, hmz, ⟨g0, g1, g2⟩⟩ := ((HS.out.blw hbl hbl.size).1).at_ (i := k) (by rw [← HLL.out]; exact hlt)
        have hst := HF.out k y z hy hz
        rw [hA, hA']
        have KE := Lib.hid (KX.out y hmy z hmz)
        clear KX
        have hf : samD y z = (y.nm.toList == z.nm.toList && (y.ty == z.ty && all2 samO y.ck.l z.ck.l)) := rfl
        rw [hf] at hst
        clear hf
        generalize all2 samO y.ck.l z.ck.l = v at *
        have TQ : Hid (∀ W, Below w.heap.size w W → (W.cell? (ad.add (k * 3)) = some (.string y.nm) ∧ W.cell? ⟨(ad.add (k * 3)).block, (ad.add (k * 3)).off + 1, none⟩ = some (.int .i64 y.ty) ∧ W.cell? ⟨(ad.add (k * 3)).block, (ad.add (k * 3)).off + 2, none⟩ = some (.slice y.ck.A y.ck.l.length y.ck.c) ∧ W.cell? (ad'.add (k * 3)) = some (.string z.nm) ∧ W.cell? ⟨(ad'.add (k * 3)).block, (ad'.add (k * 3)).off + 1, none⟩ = some (.int .i64 z.ty) ∧ W.cell? ⟨(ad'.add (k * 3)).block, (ad'.add (k * 3)).off + 2, none⟩ = some (.slice z.ck.A z.ck.l.length z.ck.c))) := Lib.hid fun W h => by
          obtain ⟨x0, x1, x2⟩ := (HR.out.blw h h.size).1.2.1 ad k y hA hy
          obtain ⟨y0, y1, y2⟩ := (HS.out.blw h h.size).1.2.1 ad' k z hA' hz
          exact ⟨x0, x1, x2, y0, y1, y2⟩
        clear hA hA' hy hz hmy hmz hlt h9 h9s e0 e1 e2 g0 g1 g2
        cases q1 : (y.nm.toList == z.nm.toList)
        · have hv : V = false := by rw [← hK.out, hst, q1]; rfl
          subst hv
          clear hst hK HF HV HL HFin
          obtain ⟨e0, e1, e2, g0, g1, g2⟩ := TQ.out wr hbl
          have f0 := cell_regrown e0
          have f1 := cell_regrown e1
          have f2 := cell_regrown e2
          have f3 := cell_regrown g0
          have f4 := cell_regrown g1
          have f5 := cell_regrown g2
          go_wp2
          refine wp_region_quiet_below (by kernel_rfl) (by kernel_rfl) ?_
          quiet_step (fail)
          quiet_step (fail)
          quiet_step (fail)
          quiet_step (fail)
          quiet_step (fail)
          quiet_step (fail)
          quiet_step (fail)
          quiet_step (fail)
          quiet_step (fail)
          quiet_step (fail)
          quiet_step (fail)
          quiet_step (fail)
          rw [wpQuiet_no]
          rotate_left
          (focus (go_simp; done))
          rw [wpQuiet_no]
          rotate_left
          (focus (go_simp; done))
          rw [wpQuiet_no]
          rotate_left
          (focus (go_simp; done))
          rw [wpQuiet_no]
          rotate_left
          (focus (go_simp; done))
          rw [wpQuiet_no]
          rotate_left
          (focus (go_simp; done))
          rw [wpQuiet_no]
          rotate_left
          (focus (go_simp; done))
          rw [wpQuiet_no]
          rotate_left
          (focus (go_simp; done))
          rw [wpQuiet_no]
          rotate_left
          (focus (go_simp; done))
          rw [wpQuiet_no]
          rotate_left
          (focus (go_simp; done))
          rw [wpQuiet_no]
          rotate_left
          (focus (go_simp; done))
          rw [wpQuiet_no]
          rotate_left
          (focus (go_simp; done))
          quiet_step (fail)
          quiet_step (fail)
          rw [wpQuiet_no]
          rotate_left
          (focus (go_simp; done))
          rw [wpQuiet_no]
          rotate_left
          (focus (go_simp; done))
          rw [wpQuiet_no]
          rotate_left
          (focus (go_simp; done))
          rw [wpQuiet_no]
          rotate_left
          (focus (go_simp; done))
          rw [wpQuiet_no]
          rotate_left
          (focus (go_simp; done))
          rw [wpQuiet_no]
          rotate_left
          (focus (go_simp; done))
          rw [wpQuiet_no]
          rotate_left
          (focus (go_simp; done))
          rw [wpQuiet_no]
          rotate_left
          (focus (go_simp; done))
          rw [wpQuiet_no]
          rotate_left
          (focus (go_simp; done))
          rw [wpQuiet_no]
          rotate_left
          (focus (go_simp; done))
          rw [wpQuiet_no]
          rotate_left
          (focus (go_simp; done))
          rw [wpQuiet_no]
          rotate_left
          (focus (go_simp; done))
          quiet_step (fail)
          refine wpQuiet_nil ?_
          intro _ hw'
          obtain ⟨⟨dq, osq⟩, hw''⟩ := hw'
          subst hw''
          have hbw2 : Below w.heap.size w (grow (redrawn wr dq) osq) := hbl.trans ((below_regrown wr dq osq).mono hbl.size)
          generalize grow (redrawn wr dq) osq = w2 at hbw2 ⊢
          clear f0 f1 f2 f3 f4 f5 e0 e1 e2 g0 g1 g2
          go_wp2
          go_ret
          exact ⟨rfl, hbw2⟩
        cases q2 : (y.ty == z.ty)
        · have hv : V = false := by rw [← hK.out, hst, q1, q2]; rfl
          subst hv
          clear hst hK HF HV HL HFin
          have n2 : ¬ y.ty = z.ty := by simpa using q2
          obtain ⟨e0, e1, e2, g0, g1, g2⟩ := TQ.out wr hbl
          have f0 := cell_regrown e0
          have f1 := cell_regrown e1
          have f2 := cell_regrown e2
          have f3 := cell_regrown g0
          have f4 := cell_regrown g1
          have f5 := cell_regrown g2
          go_wp2
          refine wp_region_quiet_below (by kernel_rfl) (by kernel_rfl) ?_
          quiet_step (fail)
          quiet_step (fail)
          quiet_step (fail)
          quiet_step (fail)
          quiet_step (fail)
          quiet_step (fail)
          quiet_step (fail)
          quiet_step (fail)
          quiet_step (fail)
          quiet_step (fail)
          quiet_step (fail)
          quiet_step (fail)
          quiet_step (fail)
          quiet_step (fail)
          quiet_step (fail)
          quiet_step (fail)
          quiet_step (fail)
          quiet_step (fail)
          quiet_step (fail)
          quiet_step (fail)
          quiet_step (fail)
          quiet_step (fail)
          quiet_step (fail)
          quiet_step (fail)
          quiet_step (fail)
          rw [wpQuiet_no]
          rotate_left
          (focus (go_simp; done))
          rw [wpQuiet_no]
          rotate_left
          (focus (go_simp; done))
          rw [wpQuiet_no]
          rotate_left
          (focus (go_simp; done))
          rw [wpQuiet_no]
          rotate_left
          (focus (go_simp; done))
          rw [wpQuiet_no]
          rotate_left
          (focus (go_simp; done))
          rw [wpQuiet_no]
          rotate_left
          (focus (go_simp; done))
          rw [wpQuiet_no]
          rotate_left
          (focus (go_simp; done))
          rw [wpQuiet_no]
          rotate_left
          (focus (go_simp; done))
          rw [wpQuiet_no]
          rotate_left
          (focus (go_simp; done))
          rw [wpQuiet_no]
          rotate_left
          (focus (go_simp; done))
          rw [wpQuiet_no]
          rotate_left
          (focus (go_simp; done))
          rw [wpQuiet_no]
          rotate_left
          (focus (go_simp; done))
          quiet_step (fail)
          refine wpQuiet_nil ?_
          intro _ hw'
          obtain ⟨⟨dq, osq⟩, hw''⟩ := hw'
          subst hw''
          have hbw2 : Below w.heap.size w (grow (redrawn wr dq) osq) := hbl.trans ((below_regrown wr dq osq).mono hbl.size)
          generalize grow (redrawn wr dq) osq = w2 at hbw2 ⊢
          clear f0 f1 f2 f3 f4 f5 e0 e1 e2 g0 g1 g2
          go_wp2
          go_ret
          exact ⟨rfl, hbw2⟩
        have n2 : y.ty = z.ty := by simpa using q2
        cases v
        · have hv : V = false := by rw [← hK.out, hst, q1, q2]; rfl
          subst hv
          clear hst hK HF HV HL HFin
          obtain ⟨e0, e1, e2, g0, g1, g2⟩ := TQ.out wr hbl
          have f0 := cell_regrown e0
          have f1 := cell_regrown e1
          have f2 := cell_regrown e2
          have f3 := cell_regrown g0
          have f4 := cell_regrown g1
          have f5 := cell_regrown g2
          have c0' := fun dd os => Calls.regrown_of (KE.out (grow (redrawn wr dd) os) (hbl.trans ((below_regrown wr dd os).mono hbl.size)))
          go_wp2
          refine wp_region_quiet_below (by kernel_rfl) (by kernel_rfl) ?_
          repeat (quiet_step (first | with_reducible exact c0' _ _))
          refine wpQuiet_nil ?_
          intro _ hw'
          obtain ⟨⟨dq, osq⟩, hw''⟩ := hw'
          subst hw''
          have hbw2 : Below w.heap.size w (grow (redrawn wr dq) osq) := hbl.trans ((below_regrown wr dq osq).mono hbl.size)
          generalize grow (redrawn wr dq) osq = w2 at hbw2 ⊢
          clear f0 f1 f2 f3 f4 f5 e0 e1 e2 g0 g1 g2
          go_wp2
          go_ret
          exact ⟨rfl, hbw2⟩
        · have hv : F (k + 1) = V := by rw [← hK.out, hst, q1, q2]; rfl
          have HV2 := Lib.hid hv
          clear hst hK HF HV HL hv
          obtain ⟨e0, e1, e2, g0, g1, g2⟩ := TQ.out wr hbl
          have f0 := cell_regrown e0
          have f1 := cell_regrown e1
          have f2 := cell_regrown e2
          have f3 := cell_regrown g0
          have f4 := cell_regrown g1
          have f5 := cell_regrown g2
          have c0' := fun dd os => Calls.regrown_of (KE.out (grow (redrawn wr dd) os) (hbl.trans ((below_regrown wr dd os).mono hbl.size)))
          go_wp2
          refine wp_region_quiet_below (by kernel_rfl) (by kernel_rfl) ?_
          repeat (quiet_step (first | with_reducible exact c0' _ _))
          refine wpQuiet_nil ?_
          intro _ hw'
          obtain ⟨⟨dq, osq⟩, hw''⟩ := hw'
          subst hw''
          have hbw2 : Below w.heap.size w (grow (redrawn wr dq) osq) := hbl.trans ((below_regrown wr dq osq).mono hbl.size)
          generalize grow (redrawn wr dq) osq = w2 at hbw2 ⊢
          clear f0 f1 f2 f3 f4 f5 e0 e1 e2 g0 g1 g2
          go_wp2
          exact HFin.out _ hbw2 HV2.out
      · obtain rfl : k = r.l.length := by omega
        have hv : V = true := by rw [← hK.out, HL.out]
        subst hv
        clear HF HV hK HL HR HS
        go_wp2
        go_ret
        exact ⟨rfl, (by repeat (first | (with_reducible exact Below.refl _ _) | (with_reducible assumption) | (with_reducible exact bel_box _) | (with_reducible refine bel_step ?_ (by with_reducible assumption)) | (with_reducible refine Below.drew ?_) | (with_reducible refine below_drewN ?_ _) | (with_reducible refine bel_alloc ?_ _)))⟩
end Go.Proofs.YthlapepjebidgaaGreatDoor
/- The reference's equality of programs: rows of equations, transitions. -/
namespace Go.Proofs.YthlapepjebidgaaGreatDoor
set_option linter.unusedVariables false
set_option linter.unusedSimpArgs false
open Go.RowKit Go.Sort
variable {Bd : Nat}
set_option maxHeartbeats 2000000 in
set_option maxRecDepth 20000 in
theorem rs_steps (r s : Rw Tt) (w : World) (hR : RsTs w w.heap.size r) (hS : RsTs w w.heap.size s) (hz : ∀ x ∈ r.l, x.cd.size ≤ Bd) :
    Calls Tryz.prog 104 #[.slice r.A r.l.length r.c, .slice s.A s.l.length s.c] w (Bel (.bool (all2 samT r.l s.l)) w) := by
  have h9 := hR.1.len
  have h9s := hS.1.len
  unfold maxLen at h9 h9s
  have KX : Hid (∀ y ∈ r.l, ∀ z ∈ s.l, ∀ W, Below w.heap.size w W → Calls Tryz.prog 14 #[xV y.cd, xV z.cd] W (Bel (.bool (sameX y.cd z.cd)) W)) := Lib.hid fun y hy z hz' W h => rsameX_any y.cd z.cd W ((hR.2 y hy).1.blw h h.size) ((hS.2 z hz').1.blw h h.size) (hz y hy)
  simp only [xV] at KX
  have HR := Lib.hid hR
  have HS := Lib.hid hS
  clear hR hS
  cases q : (((r.l.length : Nat) : Int) != ((s.l.length : Nat) : Int))
  case true =>
    have hv : all2 samT r.l s.l = false := all2_len (by intro h; simp [h] at q)
    rw [hv]
    clear hv HR HS
    go_enter Tryz.func104, Tryz.ntmps104
    go_wp2
    go_ret
    exact ⟨rfl, (by repeat (first | (with_reducible exact Below.refl _ _) | (with_reducible assumption) | (with_reducible exact bel_box _) | (with_reducible refine bel_step ?_ (by with_reducible assumption)) | (with_reducible refine Below.drew ?_) | (with_reducible refine below_drewN ?_ _) | (with_reducible refine bel_alloc ?_ _)))⟩
  case false =>
    have hll : r.l.length = s.l.length := by
      have h : ((r.l.length : Nat) : Int) = ((s.l.length : Nat) : Int) := by simpa using q
      omega
    obtain ⟨F, hF0, hFl, HF⟩ := all2_steps samT r.l s.l hll
    rw [← hF0]
    obtain ⟨V, hV⟩ : ∃ V, F 0 = V := ⟨_, rfl⟩
    have HV := Lib.hid hV
    have HL := Lib.hid hFl
    rw [hV]
    have HLL := Lib.hid hll
    clear hll hV hFl hF0
    go_enter Tryz.func104, Tryz.ntmps104
    go_wp2
    go_loopw [5] (fun i wr => ∃ k : Nat, k ≤ r.l.length ∧ i = .int .i64 (k : Int) ∧ Below w.heap.size w wr ∧ Hid (F k = V)) (fun i _ => r.l.length - (intOf i).toNat)
    case atStart => exact ⟨0, by omega, rfl, Below.refl _ _, HV⟩
    case round =>
      obtain ⟨k, hk, rfl, hbl, hK⟩ := hrel
      by_cases hlt : k < r.l.length
      · have w6 : wrap64 ((k : Int) + 1) = ((k + 1 : Nat) : Int) := by rw [IntWalk.wrap64_in _ (by omega)]; omega
        have l1 : (k : Int) < (r.l.length : Int) := by omega
        have l2 : (k : Int) < (s.l.length : Int) := by rw [← HLL.out]; exact l1
        have l0 : (0 : Int) ≤ (k : Int) := by omega
        have hfin : ∀ W, Below w.heap.size w W → F (k + 1) = V → (∃ j : Nat, j ≤ r.l.length ∧ Value.int IntKind.i64 (wrap64 ((k : Int) + 1)) = Value.int IntKind.i64 (j : Int) ∧ Below w.heap.size w W ∧ Hid (F j = V)) ∧ r.l.length - (intOf (Value.int IntKind.i64 (wrap64 ((k : Int) + 1)))).toNat < r.l.length - (intOf (Value.int IntKind.i64 (k : Int))).toNat := by
          intro W hW hF
          rw [w6]
          refine ⟨⟨k + 1, hlt, rfl, hW, Lib.hid hF⟩, ?_⟩
          simp only [intOf, Int.toNat_natCast]
          exact Nat.sub_lt_sub_left hlt (Nat.lt_succ_self k)
        have HFin := Lib.hid hfin
        clear hfin w6
        obtain ⟨ad, y, hA, _, hy, hmy, e0⟩ := ((HR.out.blw hbl hbl.size).1).at_ hlt
        obtain ⟨ad', z, hA', _, hz, hmz, g0⟩ := ((HS.out.blw hbl hbl.size).1).at_ (i := k) (by rw [← HLL.out]; exact hlt)
        have hst := HF.out k y z hy hz
        rw [hA, hA']
        have KE := Lib.hid (KX.out y hmy z hmz)
        clear KX
        have hf : samT y z = (y.to == z.to && (y.re == z.re && sameX y.cd z.cd)) := rfl
        rw [hf] at hst
        clear hf
        generalize sameX y.cd z.cd = v at *
        have TQ : Hid (∀ W, Below w.heap.size w W → (W.cell? (ad.add (k * 8)) = some (.int .i64 y.cd.k) ∧ W.cell? ⟨(ad.add (k * 8)).block, (ad.add (k * 8)).off + 1, none⟩ = some (.int .i64 y.cd.op) ∧ W.cell? ⟨(ad.add (k * 8)).block, (ad.add (k * 8)).off + 2, none⟩ = some (.int .i64 y.cd.t) ∧ W.cell? ⟨(ad.add (k * 8)).block, (ad.add (k * 8)).off + 3, none⟩ = some (.int .i64 y.cd.v) ∧ W.cell? ⟨(ad.add (k * 8)).block, (ad.add (k * 8)).off + 4, none⟩ = some (.string y.cd.nm) ∧ W.cell? ⟨(ad.add (k * 8)).block, (ad.add (k * 8)).off + 5, none⟩ = some (.slice y.cd.A y.cd.ar.length y.cd.c) ∧ W.cell? ⟨(ad.add (k * 8)).block, (ad.add (k * 8)).off + 6, none⟩ = some (.int .i64 y.to) ∧ W.cell? ⟨(ad.add (k * 8)).block, (ad.add (k * 8)).off + 7, none⟩ = some (.bool y.re) ∧ W.cell? (ad'.add (k * 8)) = some (.int .i64 z.cd.k) ∧ W.cell? ⟨(ad'.add (k * 8)).block, (ad'.add (k * 8)).off + 1, none⟩ = some (.int .i64 z.cd.op) ∧ W.cell? ⟨(ad'.add (k * 8)).block, (ad'.add (k * 8)).off + 2, none⟩ = some (.int .i64 z.cd.t) ∧ W.cell? ⟨(ad'.add (k * 8)).block, (ad'.add (k * 8)).off + 3, none⟩ = some (.int .i64 z.cd.v) ∧ W.cell? ⟨(ad'.add (k * 8)).block, (ad'.add (k * 8)).off + 4, none⟩ = some (.string z.cd.nm) ∧ W.cell? ⟨(ad'.add (k * 8)).block, (ad'.add (k * 8)).off + 5, none⟩ = some (.slice z.cd.A z.cd.ar.length z.cd.c) ∧ W.cell? ⟨(ad'.add (k * 8)).block, (ad'.add (k * 8)).off + 6, none⟩ = some (.int .i64 z.to) ∧ W.cell? ⟨(ad'.add (k * 8)).block, (ad'.add (k * 8)).off + 7, none⟩ = some (.bool z.re))) := Lib.hid fun W h => by
          obtain ⟨⟨x0, x1, x2, x3, x4, x5⟩, x6, x7⟩ := (HR.out.blw h h.size).1.2.1 ad k y hA hy
          obtain ⟨⟨y0, y1, y2, y3, y4, y5⟩, y6, y7⟩ := (HS.out.blw h h.size).1.2.1 ad' k z hA' hz
          exact ⟨x0, x1, x2, x3, x4, x5, x6, x7, y0, y1, y2, y3, y4, y5, y6, y7⟩
        clear hA hA' hy hz hmy hmz hlt h9 h9s e0 g0
        cases q1 : (y.to == z.to)
        · have hv : V = false := by rw [← hK.out, hst, q1]; rfl
          subst hv
          clear hst hK HF HV HL HFin
          have n1 : ¬ y.to = z.to := by simpa using q1
          obtain ⟨e0, e1, e2, e3, e4, e5, e6, e7, g0, g1, g2, g3, g4, g5, g6, g7⟩ := TQ.out wr hbl
          have f0 := cell_regrown e0
          have f1 := cell_regrown e1
          have f2 := cell_regrown e2
          have f3 := cell_regrown e3
          have f4 := cell_regrown e4
          have f5 := cell_regrown e5
          have f6 := cell_regrown e6
          have f7 := cell_regrown e7
          have f8 := cell_regrown g0
          have f9 := cell_regrown g1
          have f10 := cell_regrown g2
          have f11 := cell_regrown g3
          have f12 := cell_regrown g4
          have f13 := cell_regrown g5
          have f14 := cell_regrown g6
          have f15 := cell_regrown g7
          go_wp2
          refine wp_region_quiet_below (by kernel_rfl) (by kernel_rfl) ?_
          quiet_step (fail)
          quiet_step (fail)
          quiet_step (fail)
          quiet_step (fail)
          quiet_step (fail)
          quiet_step (fail)
          quiet_step (fail)
          quiet_step (fail)
          quiet_step (fail)
          quiet_step (fail)
          quiet_step (fail)
          quiet_step (fail)
          rw [wpQuiet_no]
          rotate_left
          (focus (go_simp; done))
          rw [wpQuiet_no]
          rotate_left
          (focus (go_simp; done))
          rw [wpQuiet_no]
          rotate_left
          (focus (go_simp; done))
          rw [wpQuiet_no]
          rotate_left
          (focus (go_simp; done))
          rw [wpQuiet_no]
          rotate_left
          (focus (go_simp; done))
          rw [wpQuiet_no]
          rotate_left
          (focus (go_simp; done))
          rw [wpQuiet_no]
          rotate_left
          (focus (go_simp; done))
          rw [wpQuiet_no]
          rotate_left
          (focus (go_simp; done))
          rw [wpQuiet_no]
          rotate_left
          (focus (go_simp; done))
          rw [wpQuiet_no]
          rotate_left
          (focus (go_simp; done))
          rw [wpQuiet_no]
          rotate_left
          (focus (go_simp; done))
          quiet_step (fail)
          quiet_step (fail)
          rw [wpQuiet_no]
          rotate_left
          (focus (go_simp; done))
          rw [wpQuiet_no]
          rotate_left
          (focus (go_simp; done))
          rw [wpQuiet_no]
          rotate_left
          (focus (go_simp; done))
          rw [wpQuiet_no]
          rotate_left
          (focus (go_simp; done))
          rw [wpQuiet_no]
          rotate_left
          (focus (go_simp; done))
          rw [wpQuiet_no]
          rotate_left
          (focus (go_simp; done))
          rw [wpQuiet_no]
          rotate_left
          (focus (go_simp; done))
          rw [wpQuiet_no]
          rotate_left
          (focus (go_simp; done))
          rw [wpQuiet_no]
          rotate_left
          (focus (go_simp; done))
          rw [wpQuiet_no]
          rotate_left
          (focus (go_simp; done))
          rw [wpQuiet_no]
          rotate_left
          (focus (go_simp; done))
          rw [wpQuiet_no]
          rotate_left
          (focus (go_simp; done))
          quiet_step (fail)
          refine wpQuiet_nil ?_
          intro _ hw'
          obtain ⟨⟨dq, osq⟩, hw''⟩ := hw'
          subst hw''
          have hbw2 : Below w.heap.size w (grow (redrawn wr dq) osq) := hbl.trans ((below_regrown wr dq osq).mono hbl.size)
          generalize grow (redrawn wr dq) osq = w2 at hbw2 ⊢
          clear f0 f1 f2 f3 f4 f5 f6 f7 f8 f9 f10 f11 f12 f13 f14 f15 e0 e1 e2 e3 e4 e5 e6 e7 g0 g1 g2 g3 g4 g5 g6 g7
          go_wp2
          go_ret
          exact ⟨rfl, hbw2⟩
        have n1 : y.to = z.to := by simpa using q1
        cases q2 : (y.re == z.re)
        · have hv : V = false := by rw [← hK.out, hst, q1, q2]; rfl
          subst hv
          clear hst hK HF HV HL HFin
          have n2 : ¬ y.re = z.re := by simpa using q2
          obtain ⟨e0, e1, e2, e3, e4, e5, e6, e7, g0, g1, g2, g3, g4, g5, g6, g7⟩ := TQ.out wr hbl
          have f0 := cell_regrown e0
          have f1 := cell_regrown e1
          have f2 := cell_regrown e2
          have f3 := cell_regrown e3
          have f4 := cell_regrown e4
          have f5 := cell_regrown e5
          have f6 := cell_regrown e6
          have f7 := cell_regrown e7
          have f8 := cell_regrown g0
          have f9 := cell_regrown g1
          have f10 := cell_regrown g2
          have f11 := cell_regrown g3
          have f12 := cell_regrown g4
          have f13 := cell_regrown g5
          have f14 := cell_regrown g6
          have f15 := cell_regrown g7
          go_wp2
          refine wp_region_quiet_below (by kernel_rfl) (by kernel_rfl) ?_
          quiet_step (fail)
          quiet_step (fail)
          quiet_step (fail)
          quiet_step (fail)
          quiet_step (fail)
          quiet_step (fail)
          quiet_step (fail)
          quiet_step (fail)
          quiet_step (fail)
          quiet_step (fail)
          quiet_step (fail)
          quiet_step (fail)
          quiet_step (fail)
          quiet_step (fail)
          quiet_step (fail)
          quiet_step (fail)
          quiet_step (fail)
          quiet_step (fail)
          quiet_step (fail)
          quiet_step (fail)
          quiet_step (fail)
          quiet_step (fail)
          quiet_step (fail)
          quiet_step (fail)
          quiet_step (fail)
          rw [wpQuiet_no]
          rotate_left
          (focus (go_simp; done))
          rw [wpQuiet_no]
          rotate_left
          (focus (go_simp; done))
          rw [wpQuiet_no]
          rotate_left
          (focus (go_simp; done))
          rw [wpQuiet_no]
          rotate_left
          (focus (go_simp; done))
          rw [wpQuiet_no]
          rotate_left
          (focus (go_simp; done))
          rw [wpQuiet_no]
          rotate_left
          (focus (go_simp; done))
          rw [wpQuiet_no]
          rotate_left
          (focus (go_simp; done))
          rw [wpQuiet_no]
          rotate_left
          (focus (go_simp; done))
          rw [wpQuiet_no]
          rotate_left
          (focus (go_simp; done))
          rw [wpQuiet_no]
          rotate_left
          (focus (go_simp; done))
          rw [wpQuiet_no]
          rotate_left
          (focus (go_simp; done))
          rw [wpQuiet_no]
          rotate_left
          (focus (go_simp; done))
          quiet_step (fail)
          refine wpQuiet_nil ?_
          intro _ hw'
          obtain ⟨⟨dq, osq⟩, hw''⟩ := hw'
          subst hw''
          have hbw2 : Below w.heap.size w (grow (redrawn wr dq) osq) := hbl.trans ((below_regrown wr dq osq).mono hbl.size)
          generalize grow (redrawn wr dq) osq = w2 at hbw2 ⊢
          clear f0 f1 f2 f3 f4 f5 f6 f7 f8 f9 f10 f11 f12 f13 f14 f15 e0 e1 e2 e3 e4 e5 e6 e7 g0 g1 g2 g3 g4 g5 g6 g7
          go_wp2
          go_ret
          exact ⟨rfl, hbw2⟩
        have n2 : y.re = z.re := by simpa using q2
        cases v
        · have hv : V = false := by rw [← hK.out, hst, q1, q2]; rfl
          subst hv
          clear hst hK HF HV HL HFin
          obtain ⟨e0, e1, e2, e3, e4, e5, e6, e7, g0, g1, g2, g3, g4, g5, g6, g7⟩ := TQ.out wr hbl
          have f0 := cell_regrown e0
          have f1 := cell_regrown e1
          have f2 := cell_regrown e2
          have f3 := cell_regrown e3
          have f4 := cell_regrown e4
          have f5 := cell_regrown e5
          have f6 := cell_regrown e6
          have f7 := cell_regrown e7
          have f8 := cell_regrown g0
          have f9 := cell_regrown g1
          have f10 := cell_regrown g2
          have f11 := cell_regrown g3
          have f12 := cell_regrown g4
          have f13 := cell_regrown g5
          have f14 := cell_regrown g6
          have f15 := cell_regrown g7
          have c0' := fun dd os => Calls.regrown_of (KE.out (grow (redrawn wr dd) os) (hbl.trans ((below_regrown wr dd os).mono hbl.size)))
          go_wp2
          refine wp_region_quiet_below (by kernel_rfl) (by kernel_rfl) ?_
          repeat (quiet_step (first | with_reducible exact c0' _ _))
          refine wpQuiet_nil ?_
          intro _ hw'
          obtain ⟨⟨dq, osq⟩, hw''⟩ := hw'
          subst hw''
          have hbw2 : Below w.heap.size w (grow (redrawn wr dq) osq) := hbl.trans ((below_regrown wr dq osq).mono hbl.size)
          generalize grow (redrawn wr dq) osq = w2 at hbw2 ⊢
          clear f0 f1 f2 f3 f4 f5 f6 f7 f8 f9 f10 f11 f12 f13 f14 f15 e0 e1 e2 e3 e4 e5 e6 e7 g0 g1 g2 g3 g4 g5 g6 g7
          go_wp2
          go_ret
          exact ⟨rfl, hbw2⟩
        · have hv : F (k + 1) = V := by rw [← hK.out, hst, q1, q2]; rfl
          have HV2 := Lib.hid hv
          clear hst hK HF HV HL hv
          obtain ⟨e0, e1, e2, e3, e4, e5, e6, e7, g0, g1, g2, g3, g4, g5, g6, g7⟩ := TQ.out wr hbl
          have f0 := cell_regrown e0
          have f1 := cell_regrown e1
          have f2 := cell_regrown e2
          have f3 := cell_regrown e3
          have f4 := cell_regrown e4
          have f5 := cell_regrown e5
          have f6 := cell_regrown e6
          have f7 := cell_regrown e7
          have f8 := cell_regrown g0
          have f9 := cell_regrown g1
          have f10 := cell_regrown g2
          have f11 := cell_regrown g3
          have f12 := cell_regrown g4
          have f13 := cell_regrown g5
          have f14 := cell_regrown g6
          have f15 := cell_regrown g7
          have c0' := fun dd os => Calls.regrown_of (KE.out (grow (redrawn wr dd) os) (hbl.trans ((below_regrown wr dd os).mono hbl.size)))
          go_wp2
          refine wp_region_quiet_below (by kernel_rfl) (by kernel_rfl) ?_
          repeat (quiet_step (first | with_reducible exact c0' _ _))
          refine wpQuiet_nil ?_
          intro _ hw'
          obtain ⟨⟨dq, osq⟩, hw''⟩ := hw'
          subst hw''
          have hbw2 : Below w.heap.size w (grow (redrawn wr dq) osq) := hbl.trans ((below_regrown wr dq osq).mono hbl.size)
          generalize grow (redrawn wr dq) osq = w2 at hbw2 ⊢
          clear f0 f1 f2 f3 f4 f5 f6 f7 f8 f9 f10 f11 f12 f13 f14 f15 e0 e1 e2 e3 e4 e5 e6 e7 g0 g1 g2 g3 g4 g5 g6 g7
          go_wp2
          exact HFin.out _ hbw2 HV2.out
      · obtain rfl : k = r.l.length := by omega
        have hv : V = true := by rw [← hK.out, HL.out]
        subst hv
        clear HF HV hK HL HR HS
        go_wp2
        go_ret
        exact ⟨rfl, (by repeat (first | (with_reducible exact Below.refl _ _) | (with_reducible assumption) | (with_reducible exact bel_box _) | (with_reducible refine bel_step ?_ (by with_reducible assumption)) | (with_reducible refine Below.drew ?_) | (with_reducible refine below_drewN ?_ _) | (with_reducible refine bel_alloc ?_ _)))⟩
end Go.Proofs.YthlapepjebidgaaGreatDoor
/- The reference's equality of programs: rows of equations, transitions. -/
namespace Go.Proofs.YthlapepjebidgaaGreatDoor
set_option linter.unusedVariables false
set_option linter.unusedSimpArgs false
open Go.RowKit Go.Sort
variable {Bd : Nat}
set_option maxHeartbeats 2000000 in
set_option maxRecDepth 20000 in
theorem rs_eqs (r s : Rw Qt) (w : World) (hR : RsQs w w.heap.size r) (hS : RsQs w w.heap.size s) (hz : ∀ x ∈ r.l, x.r.size ≤ Bd) :
    Calls Tryz.prog 64 #[.slice r.A r.l.length r.c, .slice s.A s.l.length s.c] w (Bel (.bool (all2 samQ r.l s.l)) w) := by
  have h9 := hR.1.len
  have h9s := hS.1.len
  unfold maxLen at h9 h9s
  have KX : Hid (∀ y ∈ r.l, ∀ z ∈ s.l, ∀ W, Below w.heap.size w W → Calls Tryz.prog 14 #[xV y.r, xV z.r] W (Bel (.bool (sameX y.r z.r)) W)) := Lib.hid fun y hy z hz' W h => rsameX_any y.r z.r W ((hR.2 y hy).2.1.blw h h.size) ((hS.2 z hz').2.1.blw h h.size) (hz y hy)
  simp only [xV] at KX
  have KY : Hid (∀ y ∈ r.l, ∀ z ∈ s.l, ∀ W, Below w.heap.size w W → Calls Tryz.prog 62 #[.slice y.lf.A y.lf.l.length y.lf.c, .slice z.lf.A z.lf.l.length z.lf.c] W (Bel (.bool (all2 samB y.lf.l z.lf.l)) W)) := Lib.hid fun y hy z hz' W h => rs_texts y.lf z.lf W ((hR.2 y hy).1.blw h h.size) ((hS.2 z hz').1.blw h h.size)
  have HR := Lib.hid hR
  have HS := Lib.hid hS
  clear hR hS
  cases q : (((r.l.length : Nat) : Int) != ((s.l.length : Nat) : Int))
  case true =>
    have hv : all2 samQ r.l s.l = false := all2_len (by intro h; simp [h] at q)
    rw [hv]
    clear hv HR HS
    go_enter Tryz.func64, Tryz.ntmps64
    go_wp2
    go_ret
    exact ⟨rfl, (by repeat (first | (with_reducible exact Below.refl _ _) | (with_reducible assumption) | (with_reducible exact bel_box _) | (with_reducible refine bel_step ?_ (by with_reducible assumption)) | (with_reducible refine Below.drew ?_) | (with_reducible refine below_drewN ?_ _) | (with_reducible refine bel_alloc ?_ _)))⟩
  case false =>
    have hll : r.l.length = s.l.length := by
      have h : ((r.l.length : Nat) : Int) = ((s.l.length : Nat) : Int) := by simpa using q
      omega
    obtain ⟨F, hF0, hFl, HF⟩ := all2_steps samQ r.l s.l hll
    rw [← hF0]
    obtain ⟨V, hV⟩ : ∃ V, F 0 = V := ⟨_, rfl⟩
    have HV := Lib.hid hV
    have HL := Lib.hid hFl
    rw [hV]
    have HLL := Lib.hid hll
    clear hll hV hFl hF0
    go_enter Tryz.func64, Tryz.ntmps64
    go_wp2
    go_loopw [5] (fun i wr => ∃ k : Nat, k ≤ r.l.length ∧ i = .int .i64 (k : Int) ∧ Below w.heap.size w wr ∧ Hid (F k = V)) (fun i _ => r.l.length - (intOf i).toNat)
    case atStart => exact ⟨0, by omega, rfl, Below.refl _ _, HV⟩
    case round =>
      obtain ⟨k, hk, rfl, hbl, hK⟩ := hrel
      by_cases hlt : k < r.l.length
      · have w6 : wrap64 ((k : Int) + 1) = ((k + 1 : Nat) : Int) := by rw [IntWalk.wrap64_in _ (by omega)]; omega
        have l1 : (k : Int) < (r.l.length : Int) := by omega
        have l2 : (k : Int) < (s.l.length : Int) := by rw [← HLL.out]; exact l1
        have l0 : (0 : Int) ≤ (k : Int) := by omega
        have hfin : ∀ W, Below w.heap.size w W → F (k + 1) = V → (∃ j : Nat, j ≤ r.l.length ∧ Value.int IntKind.i64 (wrap64 ((k : Int) + 1)) = Value.int IntKind.i64 (j : Int) ∧ Below w.heap.size w W ∧ Hid (F j = V)) ∧ r.l.length - (intOf (Value.int IntKind.i64 (wrap64 ((k : Int) + 1)))).toNat < r.l.length - (intOf (Value.int IntKind.i64 (k : Int))).toNat := by
          intro W hW hF
          rw [w6]
          refine ⟨⟨k + 1, hlt, rfl, hW, Lib.hid hF⟩, ?_⟩
          simp only [intOf, Int.toNat_natCast]
          exact Nat.sub_lt_sub_left hlt (Nat.lt_succ_self k)
        have HFin := Lib.hid hfin
        clear hfin w6
        obtain ⟨ad, y, hA, _, hy, hmy, e0⟩ := ((HR.out.blw hbl hbl.size).1).at_ hlt
        obtain ⟨ad', z, hA', _, hz, hmz, g0⟩ := ((HS.out.blw hbl hbl.size).1).at_ (i := k) (by rw [← HLL.out]; exact hlt)
        have hst := HF.out k y z hy hz
        rw [hA, hA']
        have KE := Lib.hid (KX.out y hmy z hmz)
        have KT := Lib.hid (KY.out y hmy z hmz)
        clear KX KY
        have hf : samQ y z = (all2 samB y.lf.l z.lf.l && sameX y.r z.r) := rfl
        rw [hf] at hst
        clear hf
        generalize sameX y.r z.r = v at *
        generalize all2 samB y.lf.l z.lf.l = u at *
        have TQ : Hid (∀ W, Below w.heap.size w W → (W.cell? (ad.add (k * 7)) = some (.slice y.lf.A y.lf.l.length y.lf.c) ∧ W.cell? ⟨(ad.add (k * 7)).block, (ad.add (k * 7)).off + 1, none⟩ = some (.int .i64 y.r.k) ∧ W.cell? ⟨(ad.add (k * 7)).block, (ad.add (k * 7)).off + 2, none⟩ = some (.int .i64 y.r.op) ∧ W.cell? ⟨(ad.add (k * 7)).block, (ad.add (k * 7)).off + 3, none⟩ = some (.int .i64 y.r.t) ∧ W.cell? ⟨(ad.add (k * 7)).block, (ad.add (k * 7)).off + 4, none⟩ = some (.int .i64 y.r.v) ∧ W.cell? ⟨(ad.add (k * 7)).block, (ad.add (k * 7)).off + 5, none⟩ = some (.string y.r.nm) ∧ W.cell? ⟨(ad.add (k * 7)).block, (ad.add (k * 7)).off + 6, none⟩ = some (.slice y.r.A y.r.ar.length y.r.c) ∧ W.cell? (ad'.add (k * 7)) = some (.slice z.lf.A z.lf.l.length z.lf.c) ∧ W.cell? ⟨(ad'.add (k * 7)).block, (ad'.add (k * 7)).off + 1, none⟩ = some (.int .i64 z.r.k) ∧ W.cell? ⟨(ad'.add (k * 7)).block, (ad'.add (k * 7)).off + 2, none⟩ = some (.int .i64 z.r.op) ∧ W.cell? ⟨(ad'.add (k * 7)).block, (ad'.add (k * 7)).off + 3, none⟩ = some (.int .i64 z.r.t) ∧ W.cell? ⟨(ad'.add (k * 7)).block, (ad'.add (k * 7)).off + 4, none⟩ = some (.int .i64 z.r.v) ∧ W.cell? ⟨(ad'.add (k * 7)).block, (ad'.add (k * 7)).off + 5, none⟩ = some (.string z.r.nm) ∧ W.cell? ⟨(ad'.add (k * 7)).block, (ad'.add (k * 7)).off + 6, none⟩ = some (.slice z.r.A z.r.ar.length z.r.c))) := Lib.hid fun W h => by
          obtain ⟨x0, x1, x2, x3, x4, x5, x6⟩ := (HR.out.blw h h.size).1.2.1 ad k y hA hy
          obtain ⟨y0, y1, y2, y3, y4, y5, y6⟩ := (HS.out.blw h h.size).1.2.1 ad' k z hA' hz
          exact ⟨x0, x1, x2, x3, x4, x5, x6, y0, y1, y2, y3, y4, y5, y6⟩
        clear hA hA' hy hz hmy hmz hlt h9 h9s e0 g0
        cases u
        · have hv : V = false := by rw [← hK.out, hst]; rfl
          subst hv
          clear hst hK HF HV HL HFin
          obtain ⟨e0, e1, e2, e3, e4, e5, e6, g0, g1, g2, g3, g4, g5, g6⟩ := TQ.out wr hbl
          have f0 := cell_regrown e0
          have f1 := cell_regrown e1
          have f2 := cell_regrown e2
          have f3 := cell_regrown e3
          have f4 := cell_regrown e4
          have f5 := cell_regrown e5
          have f6 := cell_regrown e6
          have f7 := cell_regrown g0
          have f8 := cell_regrown g1
          have f9 := cell_regrown g2
          have f10 := cell_regrown g3
          have f11 := cell_regrown g4
          have f12 := cell_regrown g5
          have f13 := cell_regrown g6
          have c0' := fun dd os => Calls.regrown_of (KT.out (grow (redrawn wr dd) os) (hbl.trans ((below_regrown wr dd os).mono hbl.size)))
          go_wp2
          refine wp_region_quiet_below (by kernel_rfl) (by kernel_rfl) ?_
          quiet_step (first | with_reducible exact c0' _ _)
          quiet_step (first | with_reducible exact c0' _ _)
          quiet_step (first | with_reducible exact c0' _ _)
          quiet_step (first | with_reducible exact c0' _ _)
          quiet_step (first | with_reducible exact c0' _ _)
          quiet_step (first | with_reducible exact c0' _ _)
          quiet_step (first | with_reducible exact c0' _ _)
          quiet_step (first | with_reducible exact c0' _ _)
          quiet_step (first | with_reducible exact c0' _ _)
          quiet_step (first | with_reducible exact c0' _ _)
          quiet_step (first | with_reducible exact c0' _ _)
          quiet_step (first | with_reducible exact c0' _ _)
          quiet_step (first | with_reducible exact c0' _ _)
          rw [wpQuiet_no]
          rotate_left
          (focus (go_simp; done))
          rw [wpQuiet_no]
          rotate_left
          (focus (go_simp; done))
          rw [wpQuiet_no]
          rotate_left
          (focus (go_simp; done))
          rw [wpQuiet_no]
          rotate_left
          (focus (go_simp; done))
          rw [wpQuiet_no]
          rotate_left
          (focus (go_simp; done))
          rw [wpQuiet_no]
          rotate_left
          (focus (go_simp; done))
          rw [wpQuiet_no]
          rotate_left
          (focus (go_simp; done))
          rw [wpQuiet_no]
          rotate_left
          (focus (go_simp; done))
          rw [wpQuiet_no]
          rotate_left
          (focus (go_simp; done))
          rw [wpQuiet_no]
          rotate_left
          (focus (go_simp; done))
          rw [wpQuiet_no]
          rotate_left
          (focus (go_simp; done))
          rw [wpQuiet_no]
          rotate_left
          (focus (go_simp; done))
          quiet_step (first | with_reducible exact c0' _ _)
          refine wpQuiet_nil ?_
          intro _ hw'
          obtain ⟨⟨dq, osq⟩, hw''⟩ := hw'
          subst hw''
          have hbw2 : Below w.heap.size w (grow (redrawn wr dq) osq) := hbl.trans ((below_regrown wr dq osq).mono hbl.size)
          generalize grow (redrawn wr dq) osq = w2 at hbw2 ⊢
          clear f0 f1 f2 f3 f4 f5 f6 f7 f8 f9 f10 f11 f12 f13 e0 e1 e2 e3 e4 e5 e6 g0 g1 g2 g3 g4 g5 g6
          go_wp2
          go_ret
          exact ⟨rfl, hbw2⟩
        cases v
        · have hv : V = false := by rw [← hK.out, hst]; rfl
          subst hv
          clear hst hK HF HV HL HFin
          obtain ⟨e0, e1, e2, e3, e4, e5, e6, g0, g1, g2, g3, g4, g5, g6⟩ := TQ.out wr hbl
          have f0 := cell_regrown e0
          have f1 := cell_regrown e1
          have f2 := cell_regrown e2
          have f3 := cell_regrown e3
          have f4 := cell_regrown e4
          have f5 := cell_regrown e5
          have f6 := cell_regrown e6
          have f7 := cell_regrown g0
          have f8 := cell_regrown g1
          have f9 := cell_regrown g2
          have f10 := cell_regrown g3
          have f11 := cell_regrown g4
          have f12 := cell_regrown g5
          have f13 := cell_regrown g6
          have c0' := fun dd os => Calls.regrown_of (KT.out (grow (redrawn wr dd) os) (hbl.trans ((below_regrown wr dd os).mono hbl.size)))
          have c1' := fun dd os => Calls.regrown_of (KE.out (grow (redrawn wr dd) os) (hbl.trans ((below_regrown wr dd os).mono hbl.size)))
          go_wp2
          refine wp_region_quiet_below (by kernel_rfl) (by kernel_rfl) ?_
          repeat (quiet_step (first | with_reducible exact c0' _ _ | with_reducible exact c1' _ _))
          refine wpQuiet_nil ?_
          intro _ hw'
          obtain ⟨⟨dq, osq⟩, hw''⟩ := hw'
          subst hw''
          have hbw2 : Below w.heap.size w (grow (redrawn wr dq) osq) := hbl.trans ((below_regrown wr dq osq).mono hbl.size)
          generalize grow (redrawn wr dq) osq = w2 at hbw2 ⊢
          clear f0 f1 f2 f3 f4 f5 f6 f7 f8 f9 f10 f11 f12 f13 e0 e1 e2 e3 e4 e5 e6 g0 g1 g2 g3 g4 g5 g6
          go_wp2
          go_ret
          exact ⟨rfl, hbw2⟩
        · have hv : F (k + 1) = V := by rw [← hK.out, hst]; rfl
          have HV2 := Lib.hid hv
          clear hst hK HF HV HL hv
          obtain ⟨e0, e1, e2, e3, e4, e5, e6, g0, g1, g2, g3, g4, g5, g6⟩ := TQ.out wr hbl
          have f0 := cell_regrown e0
          have f1 := cell_regrown e1
          have f2 := cell_regrown e2
          have f3 := cell_regrown e3
          have f4 := cell_regrown e4
          have f5 := cell_regrown e5
          have f6 := cell_regrown e6
          have f7 := cell_regrown g0
          have f8 := cell_regrown g1
          have f9 := cell_regrown g2
          have f10 := cell_regrown g3
          have f11 := cell_regrown g4
          have f12 := cell_regrown g5
          have f13 := cell_regrown g6
          have c0' := fun dd os => Calls.regrown_of (KT.out (grow (redrawn wr dd) os) (hbl.trans ((below_regrown wr dd os).mono hbl.size)))
          have c1' := fun dd os => Calls.regrown_of (KE.out (grow (redrawn wr dd) os) (hbl.trans ((below_regrown wr dd os).mono hbl.size)))
          go_wp2
          refine wp_region_quiet_below (by kernel_rfl) (by kernel_rfl) ?_
          repeat (quiet_step (first | with_reducible exact c0' _ _ | with_reducible exact c1' _ _))
          refine wpQuiet_nil ?_
          intro _ hw'
          obtain ⟨⟨dq, osq⟩, hw''⟩ := hw'
          subst hw''
          have hbw2 : Below w.heap.size w (grow (redrawn wr dq) osq) := hbl.trans ((below_regrown wr dq osq).mono hbl.size)
          generalize grow (redrawn wr dq) osq = w2 at hbw2 ⊢
          clear f0 f1 f2 f3 f4 f5 f6 f7 f8 f9 f10 f11 f12 f13 e0 e1 e2 e3 e4 e5 e6 g0 g1 g2 g3 g4 g5 g6
          go_wp2
          exact HFin.out _ hbw2 HV2.out
      · obtain rfl : k = r.l.length := by omega
        have hv : V = true := by rw [← hK.out, HL.out]
        subst hv
        clear HF HV hK HL HR HS
        go_wp2
        go_ret
        exact ⟨rfl, (by repeat (first | (with_reducible exact Below.refl _ _) | (with_reducible assumption) | (with_reducible exact bel_box _) | (with_reducible refine bel_step ?_ (by with_reducible assumption)) | (with_reducible refine Below.drew ?_) | (with_reducible refine below_drewN ?_ _) | (with_reducible refine bel_alloc ?_ _)))⟩
end Go.Proofs.YthlapepjebidgaaGreatDoor
/- The reference's equality of programs: automata. -/
namespace Go.Proofs.YthlapepjebidgaaGreatDoor
set_option linter.unusedVariables false
set_option linter.unusedSimpArgs false
open Go.RowKit Go.Sort
variable {Bd : Nat}
set_option maxHeartbeats 4000000 in
set_option maxRecDepth 20000 in
theorem rs_autos_of (r s : Rw (Rw St)) (w : World) (hR : RsAs w w.heap.size r) (hS : RsAs w w.heap.size s) (hm : ∀ a ∈ r.l, ∀ t ∈ a.l, SmS Bd t)
    (K : Hid (∀ a ∈ r.l, ∀ t ∈ a.l, ∀ b ∈ s.l, ∀ u ∈ b.l, ∀ W, Below w.heap.size w W → Calls Tryz.prog 65 #[.slice t.au.A t.au.l.length t.au.c, .slice u.au.A u.au.l.length u.au.c] W (Bel (.bool (all2 samA t.au.l u.au.l)) W))) :
    Calls Tryz.prog 65 #[.slice r.A r.l.length r.c, .slice s.A s.l.length s.c] w (Bel (.bool (all2 samA r.l s.l)) w) := by
  have h9 := hR.1.len
  have h9s := hS.1.len
  unfold maxLen at h9 h9s
  have HR := Lib.hid hR
  have HS := Lib.hid hS
  have HM := Lib.hid hm
  clear hR hS hm
  cases q : (((r.l.length : Nat) : Int) != ((s.l.length : Nat) : Int))
  case true =>
    have hv : all2 samA r.l s.l = false := all2_len (by intro h; simp [h] at q)
    rw [hv]
    clear hv HR HS HM K
    go_enter Tryz.func65, Tryz.ntmps65
    go_wp2
    go_ret
    exact ⟨rfl, (by repeat (first | (with_reducible exact Below.refl _ _) | (with_reducible assumption) | (with_reducible exact bel_box _) | (with_reducible refine bel_step ?_ (by with_reducible assumption)) | (with_reducible refine Below.drew ?_) | (with_reducible refine below_drewN ?_ _) | (with_reducible refine bel_alloc ?_ _)))⟩
  case false =>
    have hll : r.l.length = s.l.length := by
      have h : ((r.l.length : Nat) : Int) = ((s.l.length : Nat) : Int) := by simpa using q
      omega
    obtain ⟨F, hF0, hFl, HF⟩ := all2_steps samA r.l s.l hll
    rw [← hF0]
    obtain ⟨V, hV⟩ : ∃ V, F 0 = V := ⟨_, rfl⟩
    have HV := Lib.hid hV
    have HL := Lib.hid hFl
    rw [hV]
    have HLL := Lib.hid hll
    clear hll hV hFl hF0
    go_enter Tryz.func65, Tryz.ntmps65
    go_wp2
    go_loopw [5] (fun i wr => ∃ k : Nat, k ≤ r.l.length ∧ i = .int .i64 (k : Int) ∧ Below w.heap.size w wr ∧ Hid (F k = V)) (fun i _ => r.l.length - (intOf i).toNat)
    case atStart => exact ⟨0, by omega, rfl, Below.refl _ _, HV⟩
    case round =>
      obtain ⟨k, hk, rfl, hbl, hK⟩ := hrel
      by_cases hlt : k < r.l.length
      · have w6 : wrap64 ((k : Int) + 1) = ((k + 1 : Nat) : Int) := by rw [IntWalk.wrap64_in _ (by omega)]; omega
        have l1 : (k : Int) < (r.l.length : Int) := by omega
        have l2 : (k : Int) < (s.l.length : Int) := by rw [← HLL.out]; exact l1
        have l0 : (0 : Int) ≤ (k : Int) := by omega
        have HFin : Hid (∀ W (i1 : Int), Below w.heap.size w W → F (k + 1) = V → i1 = ((k + 1 : Nat) : Int) → (∃ j : Nat, j ≤ r.l.length ∧ Value.int IntKind.i64 i1 = Value.int IntKind.i64 (j : Int) ∧ Below w.heap.size w W ∧ Hid (F j = V)) ∧ r.l.length - (intOf (Value.int IntKind.i64 i1)).toNat < r.l.length - (intOf (Value.int IntKind.i64 (k : Int))).toNat) := Lib.hid fun W i1 hW hF hi1 => by
          rw [hi1]
          refine ⟨⟨k + 1, hlt, rfl, hW, Lib.hid hF⟩, ?_⟩
          simp only [intOf, Int.toNat_natCast]
          exact Nat.sub_lt_sub_left hlt (Nat.lt_succ_self k)
        clear w6
        obtain ⟨ad, a, hA, _, ha, hma, _⟩ := ((HR.out.blw hbl hbl.size).1).at_ hlt
        obtain ⟨ad', b, hA', _, hb, hmb, _⟩ := ((HS.out.blw hbl hbl.size).1).at_ (i := k) (by rw [← HLL.out]; exact hlt)
        have hst := HF.out k a b ha hb
        have T2 : Hid (∀ W, Below w.heap.size w W → W.cell? (ad.add k) = some (.slice a.A a.l.length a.c) ∧ W.cell? (ad'.add k) = some (.slice b.A b.l.length b.c)) := Lib.hid fun W h => by
          have x0 := (HR.out.blw h h.size).1.2.1 ad k a hA ha
          have y0 := (HS.out.blw h h.size).1.2.1 ad' k b hA' hb
          unfold AC at x0 y0
          rw [Nat.mul_one] at x0 y0
          exact ⟨x0, y0⟩
        have HAa := Lib.hid (HR.out.2 a hma)
        have HBb := Lib.hid (HS.out.2 b hmb)
        have KK := Lib.hid (K.out a hma)
        have HMa := Lib.hid (HM.out a hma)
        rw [hA, hA']
        have Kb := Lib.hid (fun t ht u hu W h => KK.out t ht b hmb u hu W h)
        clear hA hA' ha hb hma hmb KK HM K HR HS HF
        have h8 := HAa.out.1.len
        have h8b := HBb.out.1.len
        unfold maxLen at h8 h8b
        cases q2 : (((a.l.length : Nat) : Int) != ((b.l.length : Nat) : Int))
        case true =>
          have hv : samA a b = false := all2_len (by intro h; simp [h] at q2)
          have hv : V = false := by rw [← hK.out, hst, hv]; rfl
          subst hv
          clear hst hK HV HL HFin h9 h9s h8 h8b
          obtain ⟨e0, g0⟩ := T2.out wr hbl
          have f0 := cell_regrown e0
          have f1 := cell_regrown g0
          go_wp2
          refine wp_region_quiet_below (by kernel_rfl) (by kernel_rfl) ?_
          repeat (quiet_step (fail))
          refine wpQuiet_nil ?_
          intro _ hw'
          obtain ⟨⟨dq, osq⟩, hw''⟩ := hw'
          subst hw''
          have hbw2 : Below w.heap.size w (grow (redrawn wr dq) osq) := hbl.trans ((below_regrown wr dq osq).mono hbl.size)
          generalize grow (redrawn wr dq) osq = w2 at hbw2 ⊢
          clear f0 f1 e0 g0
          go_wp2
          go_ret
          exact ⟨rfl, hbw2⟩
        case false =>
          have hll2 : a.l.length = b.l.length := by
            have h : ((a.l.length : Nat) : Int) = ((b.l.length : Nat) : Int) := by simpa using q2
            omega
          obtain ⟨G, hG0, hGl, HG⟩ := all2_steps samS a.l b.l hll2
          have hG0 : G 0 = samA a b := hG0
          rw [← hG0] at hst
          obtain ⟨B, hB⟩ : ∃ B, G 0 = B := ⟨_, rfl⟩
          rw [hB] at hst
          have HB := Lib.hid hB
          have HGl := Lib.hid hGl
          have HLL2 := Lib.hid hll2
          have HST := Lib.hid hst
          clear hll2 hB hGl hG0 hst
          obtain ⟨e0, g0⟩ := T2.out wr hbl
          have f0 := cell_regrown e0
          have f1 := cell_regrown g0
          go_wp2
          refine wp_region_quiet_below (by kernel_rfl) (by kernel_rfl) ?_
          repeat (quiet_step (fail))
          refine wpQuiet_nil ?_
          intro _ hw'
          obtain ⟨⟨dq, osq⟩, hw''⟩ := hw'
          subst hw''
          have hbw2 : Below w.heap.size w (grow (redrawn wr dq) osq) := hbl.trans ((below_regrown wr dq osq).mono hbl.size)
          generalize grow (redrawn wr dq) osq = w2 at hbw2 ⊢
          clear f0 f1 e0 g0
          obtain ⟨e0, g0⟩ := T2.out w2 hbw2
          go_wp2
          go_loopw [6] (fun i w3 => ∃ j : Nat, j ≤ a.l.length ∧ i = .int .i64 (j : Int) ∧ Below w.heap.size w w3 ∧ Hid (G j = B)) (fun i _ => a.l.length - (intOf i).toNat)
          case atStart => exact ⟨0, by omega, rfl, hbw2, HB⟩
          case round =>
            obtain ⟨j, hj, rfl, hbl3, hK3⟩ := hrel
            obtain ⟨e0, g0⟩ := T2.out _ hbl3
            by_cases hlt3 : j < a.l.length
            · obtain ⟨sa, x, hSA, _, hx, hmx, _⟩ := ((HAa.out.blw hbl3 hbl3.size).1).at_ hlt3
              obtain ⟨sb, y, hSB, _, hy, hmy, _⟩ := ((HBb.out.blw hbl3 hbl3.size).1).at_ (i := j) (by rw [← HLL2.out]; exact hlt3)
              have hs3 := HG.out j x y hx hy
              have m1 : (j : Int) < (a.l.length : Int) := by omega
              have m2 : (j : Int) < (b.l.length : Int) := by rw [← HLL2.out]; exact m1
              have m0 : (0 : Int) ≤ (j : Int) := by omega
              have TS : Hid (∀ W, Below w.heap.size w W → (W.cell? (ad.add k) = some (.slice (some sa) a.l.length a.c) ∧ W.cell? (ad'.add k) = some (.slice (some sb) b.l.length b.c) ∧ W.cell? (sa.add (j * 6)) = some (.string x.nm) ∧ W.cell? ⟨(sa.add (j * 6)).block, (sa.add (j * 6)).off + 1, none⟩ = some (.slice x.lc.A x.lc.l.length x.lc.c) ∧ W.cell? ⟨(sa.add (j * 6)).block, (sa.add (j * 6)).off + 2, none⟩ = some (.slice x.qs.A x.qs.l.length x.qs.c) ∧ W.cell? ⟨(sa.add (j * 6)).block, (sa.add (j * 6)).off + 3, none⟩ = some (.slice x.au.A x.au.l.length x.au.c) ∧ W.cell? ⟨(sa.add (j * 6)).block, (sa.add (j * 6)).off + 4, none⟩ = some (.slice x.un.A x.un.l.length x.un.c) ∧ W.cell? ⟨(sa.add (j * 6)).block, (sa.add (j * 6)).off + 5, none⟩ = some (.slice x.ut.A x.ut.l.length x.ut.c) ∧ W.cell? (sb.add (j * 6)) = some (.string y.nm) ∧ W.cell? ⟨(sb.add (j * 6)).block, (sb.add (j * 6)).off + 1, none⟩ = some (.slice y.lc.A y.lc.l.length y.lc.c) ∧ W.cell? ⟨(sb.add (j * 6)).block, (sb.add (j * 6)).off + 2, none⟩ = some (.slice y.qs.A y.qs.l.length y.qs.c) ∧ W.cell? ⟨(sb.add (j * 6)).block, (sb.add (j * 6)).off + 3, none⟩ = some (.slice y.au.A y.au.l.length y.au.c) ∧ W.cell? ⟨(sb.add (j * 6)).block, (sb.add (j * 6)).off + 4, none⟩ = some (.slice y.un.A y.un.l.length y.un.c) ∧ W.cell? ⟨(sb.add (j * 6)).block, (sb.add (j * 6)).off + 5, none⟩ = some (.slice y.ut.A y.ut.l.length y.ut.c))) := Lib.hid fun W h => by
                obtain ⟨z0, z1⟩ := T2.out W h
                obtain ⟨x0, x1, x2, x3, x4, x5⟩ := (HAa.out.blw h h.size).1.2.1 sa j x hSA hx
                obtain ⟨y0, y1, y2, y3, y4, y5⟩ := (HBb.out.blw h h.size).1.2.1 sb j y hSB hy
                rw [hSA] at z0
                rw [hSB] at z1
                exact ⟨z0, z1, x0, x1, x2, x3, x4, x5, y0, y1, y2, y3, y4, y5⟩
              have HX := Lib.hid (HAa.out.2 x hmx)
              have HY := Lib.hid (HBb.out.2 y hmy)
              have HMx := Lib.hid (HMa.out x hmx)
              have Ky := Lib.hid (fun W h => Kb.out x hmx y hmy W h)
              rw [hSA] at e0
              rw [hSB] at g0
              have KD := Lib.hid (fun W (h : Below w.heap.size w W) => rs_decls x.lc y.lc W (HX.out.of.2.1.blw h h.size) (HY.out.of.2.1.blw h h.size))
              have KQ := Lib.hid (fun W (h : Below w.heap.size w W) => rs_eqs x.qs y.qs W (HX.out.of.2.2.1.blw h h.size) (HY.out.of.2.2.1.blw h h.size) HMx.out.of.1)
              have KU := Lib.hid (fun W (h : Below w.heap.size w W) => rs_steps x.un y.un W (HX.out.of.2.2.2.2.2.2.1.blw h h.size) (HY.out.of.2.2.2.2.2.2.1.blw h h.size) HMx.out.of.2.1)
              have KV := Lib.hid (fun W (h : Below w.heap.size w W) => rs_steps x.ut y.ut W (HX.out.of.2.2.2.2.2.2.2.blw h h.size) (HY.out.of.2.2.2.2.2.2.2.blw h h.size) HMx.out.of.2.2.1)
              rw [samS_eq] at hs3
              generalize all2 samD x.lc.l y.lc.l = v1 at *
              generalize all2 samQ x.qs.l y.qs.l = v2 at *
              generalize all2 samA x.au.l y.au.l = v3 at *
              generalize all2 samT x.un.l y.un.l = v4 at *
              generalize all2 samT x.ut.l y.ut.l = v5 at *
              have HS3 := Lib.hid hs3
              have HFin3 : Hid (∀ W (i1 : Int), Below w.heap.size w W → G (j + 1) = B → i1 = ((j + 1 : Nat) : Int) → (∃ j' : Nat, j' ≤ a.l.length ∧ Value.int IntKind.i64 i1 = Value.int IntKind.i64 (j' : Int) ∧ Below w.heap.size w W ∧ Hid (G j' = B)) ∧ a.l.length - (intOf (Value.int IntKind.i64 i1)).toNat < a.l.length - (intOf (Value.int IntKind.i64 (j : Int))).toNat) := Lib.hid fun W i1 hW hF hi1 => by
                rw [hi1]
                refine ⟨⟨j + 1, hlt3, rfl, hW, Lib.hid hF⟩, ?_⟩
                simp only [intOf, Int.toNat_natCast]
                exact Nat.sub_lt_sub_left hlt3 (Nat.lt_succ_self j)
              clear hSA hSB hx hy hmx hmy Kb HMa HX HY HMx hs3 HG HV HB
              go_wp2
              obtain ⟨_, _, x0, x1, x2, x3, x4, x5, y0, y1, y2, y3, y4, y5⟩ := TS.out wr hbl3
              go_region_held3 (fun w' => (w'.cell? (ad.add k) = some (.slice (some sa) a.l.length a.c) ∧ w'.cell? (ad'.add k) = some (.slice (some sb) b.l.length b.c) ∧ w'.cell? (sa.add (j * 6)) = some (.string x.nm) ∧ w'.cell? ⟨(sa.add (j * 6)).block, (sa.add (j * 6)).off + 1, none⟩ = some (.slice x.lc.A x.lc.l.length x.lc.c) ∧ w'.cell? ⟨(sa.add (j * 6)).block, (sa.add (j * 6)).off + 2, none⟩ = some (.slice x.qs.A x.qs.l.length x.qs.c) ∧ w'.cell? ⟨(sa.add (j * 6)).block, (sa.add (j * 6)).off + 3, none⟩ = some (.slice x.au.A x.au.l.length x.au.c) ∧ w'.cell? ⟨(sa.add (j * 6)).block, (sa.add (j * 6)).off + 4, none⟩ = some (.slice x.un.A x.un.l.length x.un.c) ∧ w'.cell? ⟨(sa.add (j * 6)).block, (sa.add (j * 6)).off + 5, none⟩ = some (.slice x.ut.A x.ut.l.length x.ut.c) ∧ w'.cell? (sb.add (j * 6)) = some (.string y.nm) ∧ w'.cell? ⟨(sb.add (j * 6)).block, (sb.add (j * 6)).off + 1, none⟩ = some (.slice y.lc.A y.lc.l.length y.lc.c) ∧ w'.cell? ⟨(sb.add (j * 6)).block, (sb.add (j * 6)).off + 2, none⟩ = some (.slice y.qs.A y.qs.l.length y.qs.c) ∧ w'.cell? ⟨(sb.add (j * 6)).block, (sb.add (j * 6)).off + 3, none⟩ = some (.slice y.au.A y.au.l.length y.au.c) ∧ w'.cell? ⟨(sb.add (j * 6)).block, (sb.add (j * 6)).off + 4, none⟩ = some (.slice y.un.A y.un.l.length y.un.c) ∧ w'.cell? ⟨(sb.add (j * 6)).block, (sb.add (j * 6)).off + 5, none⟩ = some (.slice y.ut.A y.ut.l.length y.ut.c)))
                ((refine TS.out _ ?_; (focus ((repeat (first | (with_reducible exact Below.refl _ _) | (with_reducible assumption) | (with_reducible exact bel_box _) | (with_reducible refine bel_step ?_ (by with_reducible assumption)) | (with_reducible refine Below.drew ?_) | (with_reducible refine below_drewN ?_ _) | (with_reducible refine bel_alloc ?_ _))); done))))
                (fail)
              · cases q0 : (x.nm.toList == y.nm.toList)
                · have hv : B = false := by rw [← hK3.out, HS3.out, q0]; rfl
                  have hv : V = false := by rw [← hK.out, HST.out, hv]; rfl
                  subst hv
                  clear HST HS3 hK3 hK HGl HL HFin HFin3 hv h9 h9s h8 h8b
                  go_wp2
                  go_ret
                  exact ⟨rfl, (by repeat (first | (with_reducible exact Below.refl _ _) | (with_reducible assumption) | (with_reducible exact bel_box _) | (with_reducible refine bel_step ?_ (by with_reducible assumption)) | (with_reducible refine Below.drew ?_) | (with_reducible refine below_drewN ?_ _) | (with_reducible refine bel_alloc ?_ _)))⟩
                cases v1
                · have hv : B = false := by rw [← hK3.out, HS3.out, q0]; rfl
                  have hv : V = false := by rw [← hK.out, HST.out, hv]; rfl
                  subst hv
                  clear HST HS3 hK3 hK HGl HL HFin HFin3 hv h9 h9s h8 h8b
                  go_wp2_with (first | (go_at_call 63; (with_reducible refine (KD.out _ ?_).mono ?_); (focus ((repeat (first | (with_reducible exact Below.refl _ _) | (with_reducible assumption) | (with_reducible exact bel_box _) | (with_reducible refine bel_step ?_ (by with_reducible assumption)) | (with_reducible refine Below.drew ?_) | (with_reducible refine below_drewN ?_ _) | (with_reducible refine bel_alloc ?_ _))); done)); rintro e w4 ⟨rfl, hb4⟩; obtain ⟨m0, m1, m2, m3, m4, m5, m6, m7, m8, m9, m10, m11⟩ := BPS (w := wr) (W := w4) x y (by repeat (first | (with_reducible exact Below.refl _ _) | (with_reducible assumption) | (with_reducible exact bel_box _) | (with_reducible refine bel_step ?_ (by with_reducible assumption)) | (with_reducible refine Below.drew ?_) | (with_reducible refine below_drewN ?_ _) | (with_reducible refine bel_alloc ?_ _)))))
                  go_ret
                  exact ⟨rfl, (by repeat (first | (with_reducible exact Below.refl _ _) | (with_reducible assumption) | (with_reducible exact bel_box _) | (with_reducible refine bel_step ?_ (by with_reducible assumption)) | (with_reducible refine Below.drew ?_) | (with_reducible refine below_drewN ?_ _) | (with_reducible refine bel_alloc ?_ _)))⟩
                cases v2
                · have hv : B = false := by rw [← hK3.out, HS3.out, q0]; rfl
                  have hv : V = false := by rw [← hK.out, HST.out, hv]; rfl
                  subst hv
                  clear HST HS3 hK3 hK HGl HL HFin HFin3 hv h9 h9s h8 h8b
                  go_wp2_with (first | (go_at_call 63; (with_reducible refine (KD.out _ ?_).mono ?_); (focus ((repeat (first | (with_reducible exact Below.refl _ _) | (with_reducible assumption) | (with_reducible exact bel_box _) | (with_reducible refine bel_step ?_ (by with_reducible assumption)) | (with_reducible refine Below.drew ?_) | (with_reducible refine below_drewN ?_ _) | (with_reducible refine bel_alloc ?_ _))); done)); rintro e w4 ⟨rfl, hb4⟩; obtain ⟨m0, m1, m2, m3, m4, m5, m6, m7, m8, m9, m10, m11⟩ := BPS (w := wr) (W := w4) x y (by repeat (first | (with_reducible exact Below.refl _ _) | (with_reducible assumption) | (with_reducible exact bel_box _) | (with_reducible refine bel_step ?_ (by with_reducible assumption)) | (with_reducible refine Below.drew ?_) | (with_reducible refine below_drewN ?_ _) | (with_reducible refine bel_alloc ?_ _)))) | (go_at_call 64; (with_reducible refine (KQ.out _ ?_).mono ?_); (focus ((repeat (first | (with_reducible exact Below.refl _ _) | (with_reducible assumption) | (with_reducible exact bel_box _) | (with_reducible refine bel_step ?_ (by with_reducible assumption)) | (with_reducible refine Below.drew ?_) | (with_reducible refine below_drewN ?_ _) | (with_reducible refine bel_alloc ?_ _))); done)); rintro e w5 ⟨rfl, hb5⟩; obtain ⟨m0, m1, m2, m3, m4, m5, m6, m7, m8, m9, m10, m11⟩ := BPS (w := wr) (W := w5) x y (by repeat (first | (with_reducible exact Below.refl _ _) | (with_reducible assumption) | (with_reducible exact bel_box _) | (with_reducible refine bel_step ?_ (by with_reducible assumption)) | (with_reducible refine Below.drew ?_) | (with_reducible refine below_drewN ?_ _) | (with_reducible refine bel_alloc ?_ _)))))
                  go_ret
                  exact ⟨rfl, (by repeat (first | (with_reducible exact Below.refl _ _) | (with_reducible assumption) | (with_reducible exact bel_box _) | (with_reducible refine bel_step ?_ (by with_reducible assumption)) | (with_reducible refine Below.drew ?_) | (with_reducible refine below_drewN ?_ _) | (with_reducible refine bel_alloc ?_ _)))⟩
                cases v3
                · have hv : B = false := by rw [← hK3.out, HS3.out, q0]; rfl
                  have hv : V = false := by rw [← hK.out, HST.out, hv]; rfl
                  subst hv
                  clear HST HS3 hK3 hK HGl HL HFin HFin3 hv h9 h9s h8 h8b
                  go_wp2_with (first | (go_at_call 63; (with_reducible refine (KD.out _ ?_).mono ?_); (focus ((repeat (first | (with_reducible exact Below.refl _ _) | (with_reducible assumption) | (with_reducible exact bel_box _) | (with_reducible refine bel_step ?_ (by with_reducible assumption)) | (with_reducible refine Below.drew ?_) | (with_reducible refine below_drewN ?_ _) | (with_reducible refine bel_alloc ?_ _))); done)); rintro e w4 ⟨rfl, hb4⟩; obtain ⟨m0, m1, m2, m3, m4, m5, m6, m7, m8, m9, m10, m11⟩ := BPS (w := wr) (W := w4) x y (by repeat (first | (with_reducible exact Below.refl _ _) | (with_reducible assumption) | (with_reducible exact bel_box _) | (with_reducible refine bel_step ?_ (by with_reducible assumption)) | (with_reducible refine Below.drew ?_) | (with_reducible refine below_drewN ?_ _) | (with_reducible refine bel_alloc ?_ _)))) | (go_at_call 64; (with_reducible refine (KQ.out _ ?_).mono ?_); (focus ((repeat (first | (with_reducible exact Below.refl _ _) | (with_reducible assumption) | (with_reducible exact bel_box _) | (with_reducible refine bel_step ?_ (by with_reducible assumption)) | (with_reducible refine Below.drew ?_) | (with_reducible refine below_drewN ?_ _) | (with_reducible refine bel_alloc ?_ _))); done)); rintro e w5 ⟨rfl, hb5⟩; obtain ⟨m0, m1, m2, m3, m4, m5, m6, m7, m8, m9, m10, m11⟩ := BPS (w := wr) (W := w5) x y (by repeat (first | (with_reducible exact Below.refl _ _) | (with_reducible assumption) | (with_reducible exact bel_box _) | (with_reducible refine bel_step ?_ (by with_reducible assumption)) | (with_reducible refine Below.drew ?_) | (with_reducible refine below_drewN ?_ _) | (with_reducible refine bel_alloc ?_ _)))) | (go_at_call 65; (with_reducible refine (Ky.out _ ?_).mono ?_); (focus ((repeat (first | (with_reducible exact Below.refl _ _) | (with_reducible assumption) | (with_reducible exact bel_box _) | (with_reducible refine bel_step ?_ (by with_reducible assumption)) | (with_reducible refine Below.drew ?_) | (with_reducible refine below_drewN ?_ _) | (with_reducible refine bel_alloc ?_ _))); done)); rintro e w6 ⟨rfl, hb6⟩; obtain ⟨m0, m1, m2, m3, m4, m5, m6, m7, m8, m9, m10, m11⟩ := BPS (w := wr) (W := w6) x y (by repeat (first | (with_reducible exact Below.refl _ _) | (with_reducible assumption) | (with_reducible exact bel_box _) | (with_reducible refine bel_step ?_ (by with_reducible assumption)) | (with_reducible refine Below.drew ?_) | (with_reducible refine below_drewN ?_ _) | (with_reducible refine bel_alloc ?_ _)))))
                  go_ret
                  exact ⟨rfl, (by repeat (first | (with_reducible exact Below.refl _ _) | (with_reducible assumption) | (with_reducible exact bel_box _) | (with_reducible refine bel_step ?_ (by with_reducible assumption)) | (with_reducible refine Below.drew ?_) | (with_reducible refine below_drewN ?_ _) | (with_reducible refine bel_alloc ?_ _)))⟩
                cases v4
                · have hv : B = false := by rw [← hK3.out, HS3.out, q0]; rfl
                  have hv : V = false := by rw [← hK.out, HST.out, hv]; rfl
                  subst hv
                  clear HST HS3 hK3 hK HGl HL HFin HFin3 hv h9 h9s h8 h8b
                  go_wp2_with (first | (go_at_call 63; (with_reducible refine (KD.out _ ?_).mono ?_); (focus ((repeat (first | (with_reducible exact Below.refl _ _) | (with_reducible assumption) | (with_reducible exact bel_box _) | (with_reducible refine bel_step ?_ (by with_reducible assumption)) | (with_reducible refine Below.drew ?_) | (with_reducible refine below_drewN ?_ _) | (with_reducible refine bel_alloc ?_ _))); done)); rintro e w4 ⟨rfl, hb4⟩; obtain ⟨m0, m1, m2, m3, m4, m5, m6, m7, m8, m9, m10, m11⟩ := BPS (w := wr) (W := w4) x y (by repeat (first | (with_reducible exact Below.refl _ _) | (with_reducible assumption) | (with_reducible exact bel_box _) | (with_reducible refine bel_step ?_ (by with_reducible assumption)) | (with_reducible refine Below.drew ?_) | (with_reducible refine below_drewN ?_ _) | (with_reducible refine bel_alloc ?_ _)))) | (go_at_call 64; (with_reducible refine (KQ.out _ ?_).mono ?_); (focus ((repeat (first | (with_reducible exact Below.refl _ _) | (with_reducible assumption) | (with_reducible exact bel_box _) | (with_reducible refine bel_step ?_ (by with_reducible assumption)) | (with_reducible refine Below.drew ?_) | (with_reducible refine below_drewN ?_ _) | (with_reducible refine bel_alloc ?_ _))); done)); rintro e w5 ⟨rfl, hb5⟩; obtain ⟨m0, m1, m2, m3, m4, m5, m6, m7, m8, m9, m10, m11⟩ := BPS (w := wr) (W := w5) x y (by repeat (first | (with_reducible exact Below.refl _ _) | (with_reducible assumption) | (with_reducible exact bel_box _) | (with_reducible refine bel_step ?_ (by with_reducible assumption)) | (with_reducible refine Below.drew ?_) | (with_reducible refine below_drewN ?_ _) | (with_reducible refine bel_alloc ?_ _)))) | (go_at_call 65; (with_reducible refine (Ky.out _ ?_).mono ?_); (focus ((repeat (first | (with_reducible exact Below.refl _ _) | (with_reducible assumption) | (with_reducible exact bel_box _) | (with_reducible refine bel_step ?_ (by with_reducible assumption)) | (with_reducible refine Below.drew ?_) | (with_reducible refine below_drewN ?_ _) | (with_reducible refine bel_alloc ?_ _))); done)); rintro e w6 ⟨rfl, hb6⟩; obtain ⟨m0, m1, m2, m3, m4, m5, m6, m7, m8, m9, m10, m11⟩ := BPS (w := wr) (W := w6) x y (by repeat (first | (with_reducible exact Below.refl _ _) | (with_reducible assumption) | (with_reducible exact bel_box _) | (with_reducible refine bel_step ?_ (by with_reducible assumption)) | (with_reducible refine Below.drew ?_) | (with_reducible refine below_drewN ?_ _) | (with_reducible refine bel_alloc ?_ _)))) | (go_at_call 104; (with_reducible refine (KU.out _ ?_).mono ?_); (focus ((repeat (first | (with_reducible exact Below.refl _ _) | (with_reducible assumption) | (with_reducible exact bel_box _) | (with_reducible refine bel_step ?_ (by with_reducible assumption)) | (with_reducible refine Below.drew ?_) | (with_reducible refine below_drewN ?_ _) | (with_reducible refine bel_alloc ?_ _))); done)); rintro e w7 ⟨rfl, hb7⟩; obtain ⟨m0, m1, m2, m3, m4, m5, m6, m7, m8, m9, m10, m11⟩ := BPS (w := wr) (W := w7) x y (by repeat (first | (with_reducible exact Below.refl _ _) | (with_reducible assumption) | (with_reducible exact bel_box _) | (with_reducible refine bel_step ?_ (by with_reducible assumption)) | (with_reducible refine Below.drew ?_) | (with_reducible refine below_drewN ?_ _) | (with_reducible refine bel_alloc ?_ _)))))
                  go_ret
                  exact ⟨rfl, (by repeat (first | (with_reducible exact Below.refl _ _) | (with_reducible assumption) | (with_reducible exact bel_box _) | (with_reducible refine bel_step ?_ (by with_reducible assumption)) | (with_reducible refine Below.drew ?_) | (with_reducible refine below_drewN ?_ _) | (with_reducible refine bel_alloc ?_ _)))⟩
                cases v5
                · have hv : B = false := by rw [← hK3.out, HS3.out, q0]; rfl
                  have hv : V = false := by rw [← hK.out, HST.out, hv]; rfl
                  subst hv
                  clear HST HS3 hK3 hK HGl HL HFin HFin3 hv h9 h9s h8 h8b
                  go_wp2_with (first | (go_at_call 63; (with_reducible refine (KD.out _ ?_).mono ?_); (focus ((repeat (first | (with_reducible exact Below.refl _ _) | (with_reducible assumption) | (with_reducible exact bel_box _) | (with_reducible refine bel_step ?_ (by with_reducible assumption)) | (with_reducible refine Below.drew ?_) | (with_reducible refine below_drewN ?_ _) | (with_reducible refine bel_alloc ?_ _))); done)); rintro e w4 ⟨rfl, hb4⟩; obtain ⟨m0, m1, m2, m3, m4, m5, m6, m7, m8, m9, m10, m11⟩ := BPS (w := wr) (W := w4) x y (by repeat (first | (with_reducible exact Below.refl _ _) | (with_reducible assumption) | (with_reducible exact bel_box _) | (with_reducible refine bel_step ?_ (by with_reducible assumption)) | (with_reducible refine Below.drew ?_) | (with_reducible refine below_drewN ?_ _) | (with_reducible refine bel_alloc ?_ _)))) | (go_at_call 64; (with_reducible refine (KQ.out _ ?_).mono ?_); (focus ((repeat (first | (with_reducible exact Below.refl _ _) | (with_reducible assumption) | (with_reducible exact bel_box _) | (with_reducible refine bel_step ?_ (by with_reducible assumption)) | (with_reducible refine Below.drew ?_) | (with_reducible refine below_drewN ?_ _) | (with_reducible refine bel_alloc ?_ _))); done)); rintro e w5 ⟨rfl, hb5⟩; obtain ⟨m0, m1, m2, m3, m4, m5, m6, m7, m8, m9, m10, m11⟩ := BPS (w := wr) (W := w5) x y (by repeat (first | (with_reducible exact Below.refl _ _) | (with_reducible assumption) | (with_reducible exact bel_box _) | (with_reducible refine bel_step ?_ (by with_reducible assumption)) | (with_reducible refine Below.drew ?_) | (with_reducible refine below_drewN ?_ _) | (with_reducible refine bel_alloc ?_ _)))) | (go_at_call 65; (with_reducible refine (Ky.out _ ?_).mono ?_); (focus ((repeat (first | (with_reducible exact Below.refl _ _) | (with_reducible assumption) | (with_reducible exact bel_box _) | (with_reducible refine bel_step ?_ (by with_reducible assumption)) | (with_reducible refine Below.drew ?_) | (with_reducible refine below_drewN ?_ _) | (with_reducible refine bel_alloc ?_ _))); done)); rintro e w6 ⟨rfl, hb6⟩; obtain ⟨m0, m1, m2, m3, m4, m5, m6, m7, m8, m9, m10, m11⟩ := BPS (w := wr) (W := w6) x y (by repeat (first | (with_reducible exact Below.refl _ _) | (with_reducible assumption) | (with_reducible exact bel_box _) | (with_reducible refine bel_step ?_ (by with_reducible assumption)) | (with_reducible refine Below.drew ?_) | (with_reducible refine below_drewN ?_ _) | (with_reducible refine bel_alloc ?_ _)))) | (go_at_call 104; (with_reducible refine (KU.out _ ?_).mono ?_); (focus ((repeat (first | (with_reducible exact Below.refl _ _) | (with_reducible assumption) | (with_reducible exact bel_box _) | (with_reducible refine bel_step ?_ (by with_reducible assumption)) | (with_reducible refine Below.drew ?_) | (with_reducible refine below_drewN ?_ _) | (with_reducible refine bel_alloc ?_ _))); done)); rintro e w7 ⟨rfl, hb7⟩; obtain ⟨m0, m1, m2, m3, m4, m5, m6, m7, m8, m9, m10, m11⟩ := BPS (w := wr) (W := w7) x y (by repeat (first | (with_reducible exact Below.refl _ _) | (with_reducible assumption) | (with_reducible exact bel_box _) | (with_reducible refine bel_step ?_ (by with_reducible assumption)) | (with_reducible refine Below.drew ?_) | (with_reducible refine below_drewN ?_ _) | (with_reducible refine bel_alloc ?_ _)))) | (go_at_call 104; (with_reducible refine (KV.out _ ?_).mono ?_); (focus ((repeat (first | (with_reducible exact Below.refl _ _) | (with_reducible assumption) | (with_reducible exact bel_box _) | (with_reducible refine bel_step ?_ (by with_reducible assumption)) | (with_reducible refine Below.drew ?_) | (with_reducible refine below_drewN ?_ _) | (with_reducible refine bel_alloc ?_ _))); done)); rintro e w8 ⟨rfl, hb8⟩; obtain ⟨m0, m1, m2, m3, m4, m5, m6, m7, m8, m9, m10, m11⟩ := BPS (w := wr) (W := w8) x y (by repeat (first | (with_reducible exact Below.refl _ _) | (with_reducible assumption) | (with_reducible exact bel_box _) | (with_reducible refine bel_step ?_ (by with_reducible assumption)) | (with_reducible refine Below.drew ?_) | (with_reducible refine below_drewN ?_ _) | (with_reducible refine bel_alloc ?_ _)))))
                  go_ret
                  exact ⟨rfl, (by repeat (first | (with_reducible exact Below.refl _ _) | (with_reducible assumption) | (with_reducible exact bel_box _) | (with_reducible refine bel_step ?_ (by with_reducible assumption)) | (with_reducible refine Below.drew ?_) | (with_reducible refine below_drewN ?_ _) | (with_reducible refine bel_alloc ?_ _)))⟩
                have hv : G (j + 1) = B := by rw [← hK3.out, HS3.out, q0]; rfl
                have HV3 := Lib.hid hv
                have HW6 : Hid (wrap64 ((j : Int) + 1) = ((j + 1 : Nat) : Int)) := Lib.hid (by rw [IntWalk.wrap64_in _ (by omega)]; omega)
                clear HST HS3 hK3 hK HGl HL HFin hv h9 h9s h8 h8b
                go_wp2_with (first | (go_at_call 63; (with_reducible refine (KD.out _ ?_).mono ?_); (focus ((repeat (first | (with_reducible exact Below.refl _ _) | (with_reducible assumption) | (with_reducible exact bel_box _) | (with_reducible refine bel_step ?_ (by with_reducible assumption)) | (with_reducible refine Below.drew ?_) | (with_reducible refine below_drewN ?_ _) | (with_reducible refine bel_alloc ?_ _))); done)); rintro e w4 ⟨rfl, hb4⟩; obtain ⟨m0, m1, m2, m3, m4, m5, m6, m7, m8, m9, m10, m11⟩ := BPS (w := wr) (W := w4) x y (by repeat (first | (with_reducible exact Below.refl _ _) | (with_reducible assumption) | (with_reducible exact bel_box _) | (with_reducible refine bel_step ?_ (by with_reducible assumption)) | (with_reducible refine Below.drew ?_) | (with_reducible refine below_drewN ?_ _) | (with_reducible refine bel_alloc ?_ _)))) | (go_at_call 64; (with_reducible refine (KQ.out _ ?_).mono ?_); (focus ((repeat (first | (with_reducible exact Below.refl _ _) | (with_reducible assumption) | (with_reducible exact bel_box _) | (with_reducible refine bel_step ?_ (by with_reducible assumption)) | (with_reducible refine Below.drew ?_) | (with_reducible refine below_drewN ?_ _) | (with_reducible refine bel_alloc ?_ _))); done)); rintro e w5 ⟨rfl, hb5⟩; obtain ⟨m0, m1, m2, m3, m4, m5, m6, m7, m8, m9, m10, m11⟩ := BPS (w := wr) (W := w5) x y (by repeat (first | (with_reducible exact Below.refl _ _) | (with_reducible assumption) | (with_reducible exact bel_box _) | (with_reducible refine bel_step ?_ (by with_reducible assumption)) | (with_reducible refine Below.drew ?_) | (with_reducible refine below_drewN ?_ _) | (with_reducible refine bel_alloc ?_ _)))) | (go_at_call 65; (with_reducible refine (Ky.out _ ?_).mono ?_); (focus ((repeat (first | (with_reducible exact Below.refl _ _) | (with_reducible assumption) | (with_reducible exact bel_box _) | (with_reducible refine bel_step ?_ (by with_reducible assumption)) | (with_reducible refine Below.drew ?_) | (with_reducible refine below_drewN ?_ _) | (with_reducible refine bel_alloc ?_ _))); done)); rintro e w6 ⟨rfl, hb6⟩; obtain ⟨m0, m1, m2, m3, m4, m5, m6, m7, m8, m9, m10, m11⟩ := BPS (w := wr) (W := w6) x y (by repeat (first | (with_reducible exact Below.refl _ _) | (with_reducible assumption) | (with_reducible exact bel_box _) | (with_reducible refine bel_step ?_ (by with_reducible assumption)) | (with_reducible refine Below.drew ?_) | (with_reducible refine below_drewN ?_ _) | (with_reducible refine bel_alloc ?_ _)))) | (go_at_call 104; (with_reducible refine (KU.out _ ?_).mono ?_); (focus ((repeat (first | (with_reducible exact Below.refl _ _) | (with_reducible assumption) | (with_reducible exact bel_box _) | (with_reducible refine bel_step ?_ (by with_reducible assumption)) | (with_reducible refine Below.drew ?_) | (with_reducible refine below_drewN ?_ _) | (with_reducible refine bel_alloc ?_ _))); done)); rintro e w7 ⟨rfl, hb7⟩; obtain ⟨m0, m1, m2, m3, m4, m5, m6, m7, m8, m9, m10, m11⟩ := BPS (w := wr) (W := w7) x y (by repeat (first | (with_reducible exact Below.refl _ _) | (with_reducible assumption) | (with_reducible exact bel_box _) | (with_reducible refine bel_step ?_ (by with_reducible assumption)) | (with_reducible refine Below.drew ?_) | (with_reducible refine below_drewN ?_ _) | (with_reducible refine bel_alloc ?_ _)))) | (go_at_call 104; (with_reducible refine (KV.out _ ?_).mono ?_); (focus ((repeat (first | (with_reducible exact Below.refl _ _) | (with_reducible assumption) | (with_reducible exact bel_box _) | (with_reducible refine bel_step ?_ (by with_reducible assumption)) | (with_reducible refine Below.drew ?_) | (with_reducible refine below_drewN ?_ _) | (with_reducible refine bel_alloc ?_ _))); done)); rintro e w8 ⟨rfl, hb8⟩; obtain ⟨m0, m1, m2, m3, m4, m5, m6, m7, m8, m9, m10, m11⟩ := BPS (w := wr) (W := w8) x y (by repeat (first | (with_reducible exact Below.refl _ _) | (with_reducible assumption) | (with_reducible exact bel_box _) | (with_reducible refine bel_step ?_ (by with_reducible assumption)) | (with_reducible refine Below.drew ?_) | (with_reducible refine below_drewN ?_ _) | (with_reducible refine bel_alloc ?_ _)))))
                exact HFin3.out _ _ (by repeat (first | (with_reducible exact Below.refl _ _) | (with_reducible assumption) | (with_reducible exact bel_box _) | (with_reducible refine bel_step ?_ (by with_reducible assumption)) | (with_reducible refine Below.drew ?_) | (with_reducible refine below_drewN ?_ _) | (with_reducible refine bel_alloc ?_ _))) HV3.out (by first | rfl | omega | exact HW6.out)
              · cases q0 : (x.nm.toList == y.nm.toList)
                · have hv : B = false := by rw [← hK3.out, HS3.out, q0]; rfl
                  have hv : V = false := by rw [← hK.out, HST.out, hv]; rfl
                  subst hv
                  clear HST HS3 hK3 hK HGl HL HFin HFin3 hv h9 h9s h8 h8b
                  go_wp2
                  go_ret
                  exact ⟨rfl, (by repeat (first | (with_reducible exact Below.refl _ _) | (with_reducible assumption) | (with_reducible exact bel_box _) | (with_reducible refine bel_step ?_ (by with_reducible assumption)) | (with_reducible refine Below.drew ?_) | (with_reducible refine below_drewN ?_ _) | (with_reducible refine bel_alloc ?_ _)))⟩
                cases v1
                · have hv : B = false := by rw [← hK3.out, HS3.out, q0]; rfl
                  have hv : V = false := by rw [← hK.out, HST.out, hv]; rfl
                  subst hv
                  clear HST HS3 hK3 hK HGl HL HFin HFin3 hv h9 h9s h8 h8b
                  go_wp2_with (first | (go_at_call 63; (with_reducible refine (KD.out _ ?_).mono ?_); (focus ((repeat (first | (with_reducible exact Below.refl _ _) | (with_reducible assumption) | (with_reducible exact bel_box _) | (with_reducible refine bel_step ?_ (by with_reducible assumption)) | (with_reducible refine Below.drew ?_) | (with_reducible refine below_drewN ?_ _) | (with_reducible refine bel_alloc ?_ _))); done)); rintro e w4 ⟨rfl, hb4⟩; obtain ⟨m0, m1, m2, m3, m4, m5, m6, m7, m8, m9, m10, m11⟩ := BPS (w := wr) (W := w4) y x (by repeat (first | (with_reducible exact Below.refl _ _) | (with_reducible assumption) | (with_reducible exact bel_box _) | (with_reducible refine bel_step ?_ (by with_reducible assumption)) | (with_reducible refine Below.drew ?_) | (with_reducible refine below_drewN ?_ _) | (with_reducible refine bel_alloc ?_ _)))))
                  go_ret
                  exact ⟨rfl, (by repeat (first | (with_reducible exact Below.refl _ _) | (with_reducible assumption) | (with_reducible exact bel_box _) | (with_reducible refine bel_step ?_ (by with_reducible assumption)) | (with_reducible refine Below.drew ?_) | (with_reducible refine below_drewN ?_ _) | (with_reducible refine bel_alloc ?_ _)))⟩
                cases v2
                · have hv : B = false := by rw [← hK3.out, HS3.out, q0]; rfl
                  have hv : V = false := by rw [← hK.out, HST.out, hv]; rfl
                  subst hv
                  clear HST HS3 hK3 hK HGl HL HFin HFin3 hv h9 h9s h8 h8b
                  go_wp2_with (first | (go_at_call 63; (with_reducible refine (KD.out _ ?_).mono ?_); (focus ((repeat (first | (with_reducible exact Below.refl _ _) | (with_reducible assumption) | (with_reducible exact bel_box _) | (with_reducible refine bel_step ?_ (by with_reducible assumption)) | (with_reducible refine Below.drew ?_) | (with_reducible refine below_drewN ?_ _) | (with_reducible refine bel_alloc ?_ _))); done)); rintro e w4 ⟨rfl, hb4⟩; obtain ⟨m0, m1, m2, m3, m4, m5, m6, m7, m8, m9, m10, m11⟩ := BPS (w := wr) (W := w4) y x (by repeat (first | (with_reducible exact Below.refl _ _) | (with_reducible assumption) | (with_reducible exact bel_box _) | (with_reducible refine bel_step ?_ (by with_reducible assumption)) | (with_reducible refine Below.drew ?_) | (with_reducible refine below_drewN ?_ _) | (with_reducible refine bel_alloc ?_ _)))) | (go_at_call 64; (with_reducible refine (KQ.out _ ?_).mono ?_); (focus ((repeat (first | (with_reducible exact Below.refl _ _) | (with_reducible assumption) | (with_reducible exact bel_box _) | (with_reducible refine bel_step ?_ (by with_reducible assumption)) | (with_reducible refine Below.drew ?_) | (with_reducible refine below_drewN ?_ _) | (with_reducible refine bel_alloc ?_ _))); done)); rintro e w5 ⟨rfl, hb5⟩; obtain ⟨m0, m1, m2, m3, m4, m5, m6, m7, m8, m9, m10, m11⟩ := BPS (w := wr) (W := w5) y x (by repeat (first | (with_reducible exact Below.refl _ _) | (with_reducible assumption) | (with_reducible exact bel_box _) | (with_reducible refine bel_step ?_ (by with_reducible assumption)) | (with_reducible refine Below.drew ?_) | (with_reducible refine below_drewN ?_ _) | (with_reducible refine bel_alloc ?_ _)))))
                  go_ret
                  exact ⟨rfl, (by repeat (first | (with_reducible exact Below.refl _ _) | (with_reducible assumption) | (with_reducible exact bel_box _) | (with_reducible refine bel_step ?_ (by with_reducible assumption)) | (with_reducible refine Below.drew ?_) | (with_reducible refine below_drewN ?_ _) | (with_reducible refine bel_alloc ?_ _)))⟩
                cases v3
                · have hv : B = false := by rw [← hK3.out, HS3.out, q0]; rfl
                  have hv : V = false := by rw [← hK.out, HST.out, hv]; rfl
                  subst hv
                  clear HST HS3 hK3 hK HGl HL HFin HFin3 hv h9 h9s h8 h8b
                  go_wp2_with (first | (go_at_call 63; (with_reducible refine (KD.out _ ?_).mono ?_); (focus ((repeat (first | (with_reducible exact Below.refl _ _) | (with_reducible assumption) | (with_reducible exact bel_box _) | (with_reducible refine bel_step ?_ (by with_reducible assumption)) | (with_reducible refine Below.drew ?_) | (with_reducible refine below_drewN ?_ _) | (with_reducible refine bel_alloc ?_ _))); done)); rintro e w4 ⟨rfl, hb4⟩; obtain ⟨m0, m1, m2, m3, m4, m5, m6, m7, m8, m9, m10, m11⟩ := BPS (w := wr) (W := w4) y x (by repeat (first | (with_reducible exact Below.refl _ _) | (with_reducible assumption) | (with_reducible exact bel_box _) | (with_reducible refine bel_step ?_ (by with_reducible assumption)) | (with_reducible refine Below.drew ?_) | (with_reducible refine below_drewN ?_ _) | (with_reducible refine bel_alloc ?_ _)))) | (go_at_call 64; (with_reducible refine (KQ.out _ ?_).mono ?_); (focus ((repeat (first | (with_reducible exact Below.refl _ _) | (with_reducible assumption) | (with_reducible exact bel_box _) | (with_reducible refine bel_step ?_ (by with_reducible assumption)) | (with_reducible refine Below.drew ?_) | (with_reducible refine below_drewN ?_ _) | (with_reducible refine bel_alloc ?_ _))); done)); rintro e w5 ⟨rfl, hb5⟩; obtain ⟨m0, m1, m2, m3, m4, m5, m6, m7, m8, m9, m10, m11⟩ := BPS (w := wr) (W := w5) y x (by repeat (first | (with_reducible exact Below.refl _ _) | (with_reducible assumption) | (with_reducible exact bel_box _) | (with_reducible refine bel_step ?_ (by with_reducible assumption)) | (with_reducible refine Below.drew ?_) | (with_reducible refine below_drewN ?_ _) | (with_reducible refine bel_alloc ?_ _)))) | (go_at_call 65; (with_reducible refine (Ky.out _ ?_).mono ?_); (focus ((repeat (first | (with_reducible exact Below.refl _ _) | (with_reducible assumption) | (with_reducible exact bel_box _) | (with_reducible refine bel_step ?_ (by with_reducible assumption)) | (with_reducible refine Below.drew ?_) | (with_reducible refine below_drewN ?_ _) | (with_reducible refine bel_alloc ?_ _))); done)); rintro e w6 ⟨rfl, hb6⟩; obtain ⟨m0, m1, m2, m3, m4, m5, m6, m7, m8, m9, m10, m11⟩ := BPS (w := wr) (W := w6) y x (by repeat (first | (with_reducible exact Below.refl _ _) | (with_reducible assumption) | (with_reducible exact bel_box _) | (with_reducible refine bel_step ?_ (by with_reducible assumption)) | (with_reducible refine Below.drew ?_) | (with_reducible refine below_drewN ?_ _) | (with_reducible refine bel_alloc ?_ _)))))
                  go_ret
                  exact ⟨rfl, (by repeat (first | (with_reducible exact Below.refl _ _) | (with_reducible assumption) | (with_reducible exact bel_box _) | (with_reducible refine bel_step ?_ (by with_reducible assumption)) | (with_reducible refine Below.drew ?_) | (with_reducible refine below_drewN ?_ _) | (with_reducible refine bel_alloc ?_ _)))⟩
                cases v4
                · have hv : B = false := by rw [← hK3.out, HS3.out, q0]; rfl
                  have hv : V = false := by rw [← hK.out, HST.out, hv]; rfl
                  subst hv
                  clear HST HS3 hK3 hK HGl HL HFin HFin3 hv h9 h9s h8 h8b
                  go_wp2_with (first | (go_at_call 63; (with_reducible refine (KD.out _ ?_).mono ?_); (focus ((repeat (first | (with_reducible exact Below.refl _ _) | (with_reducible assumption) | (with_reducible exact bel_box _) | (with_reducible refine bel_step ?_ (by with_reducible assumption)) | (with_reducible refine Below.drew ?_) | (with_reducible refine below_drewN ?_ _) | (with_reducible refine bel_alloc ?_ _))); done)); rintro e w4 ⟨rfl, hb4⟩; obtain ⟨m0, m1, m2, m3, m4, m5, m6, m7, m8, m9, m10, m11⟩ := BPS (w := wr) (W := w4) y x (by repeat (first | (with_reducible exact Below.refl _ _) | (with_reducible assumption) | (with_reducible exact bel_box _) | (with_reducible refine bel_step ?_ (by with_reducible assumption)) | (with_reducible refine Below.drew ?_) | (with_reducible refine below_drewN ?_ _) | (with_reducible refine bel_alloc ?_ _)))) | (go_at_call 64; (with_reducible refine (KQ.out _ ?_).mono ?_); (focus ((repeat (first | (with_reducible exact Below.refl _ _) | (with_reducible assumption) | (with_reducible exact bel_box _) | (with_reducible refine bel_step ?_ (by with_reducible assumption)) | (with_reducible refine Below.drew ?_) | (with_reducible refine below_drewN ?_ _) | (with_reducible refine bel_alloc ?_ _))); done)); rintro e w5 ⟨rfl, hb5⟩; obtain ⟨m0, m1, m2, m3, m4, m5, m6, m7, m8, m9, m10, m11⟩ := BPS (w := wr) (W := w5) y x (by repeat (first | (with_reducible exact Below.refl _ _) | (with_reducible assumption) | (with_reducible exact bel_box _) | (with_reducible refine bel_step ?_ (by with_reducible assumption)) | (with_reducible refine Below.drew ?_) | (with_reducible refine below_drewN ?_ _) | (with_reducible refine bel_alloc ?_ _)))) | (go_at_call 65; (with_reducible refine (Ky.out _ ?_).mono ?_); (focus ((repeat (first | (with_reducible exact Below.refl _ _) | (with_reducible assumption) | (with_reducible exact bel_box _) | (with_reducible refine bel_step ?_ (by with_reducible assumption)) | (with_reducible refine Below.drew ?_) | (with_reducible refine below_drewN ?_ _) | (with_reducible refine bel_alloc ?_ _))); done)); rintro e w6 ⟨rfl, hb6⟩; obtain ⟨m0, m1, m2, m3, m4, m5, m6, m7, m8, m9, m10, m11⟩ := BPS (w := wr) (W := w6) y x (by repeat (first | (with_reducible exact Below.refl _ _) | (with_reducible assumption) | (with_reducible exact bel_box _) | (with_reducible refine bel_step ?_ (by with_reducible assumption)) | (with_reducible refine Below.drew ?_) | (with_reducible refine below_drewN ?_ _) | (with_reducible refine bel_alloc ?_ _)))) | (go_at_call 104; (with_reducible refine (KU.out _ ?_).mono ?_); (focus ((repeat (first | (with_reducible exact Below.refl _ _) | (with_reducible assumption) | (with_reducible exact bel_box _) | (with_reducible refine bel_step ?_ (by with_reducible assumption)) | (with_reducible refine Below.drew ?_) | (with_reducible refine below_drewN ?_ _) | (with_reducible refine bel_alloc ?_ _))); done)); rintro e w7 ⟨rfl, hb7⟩; obtain ⟨m0, m1, m2, m3, m4, m5, m6, m7, m8, m9, m10, m11⟩ := BPS (w := wr) (W := w7) y x (by repeat (first | (with_reducible exact Below.refl _ _) | (with_reducible assumption) | (with_reducible exact bel_box _) | (with_reducible refine bel_step ?_ (by with_reducible assumption)) | (with_reducible refine Below.drew ?_) | (with_reducible refine below_drewN ?_ _) | (with_reducible refine bel_alloc ?_ _)))))
                  go_ret
                  exact ⟨rfl, (by repeat (first | (with_reducible exact Below.refl _ _) | (with_reducible assumption) | (with_reducible exact bel_box _) | (with_reducible refine bel_step ?_ (by with_reducible assumption)) | (with_reducible refine Below.drew ?_) | (with_reducible refine below_drewN ?_ _) | (with_reducible refine bel_alloc ?_ _)))⟩
                cases v5
                · have hv : B = false := by rw [← hK3.out, HS3.out, q0]; rfl
                  have hv : V = false := by rw [← hK.out, HST.out, hv]; rfl
                  subst hv
                  clear HST HS3 hK3 hK HGl HL HFin HFin3 hv h9 h9s h8 h8b
                  go_wp2_with (first | (go_at_call 63; (with_reducible refine (KD.out _ ?_).mono ?_); (focus ((repeat (first | (with_reducible exact Below.refl _ _) | (with_reducible assumption) | (with_reducible exact bel_box _) | (with_reducible refine bel_step ?_ (by with_reducible assumption)) | (with_reducible refine Below.drew ?_) | (with_reducible refine below_drewN ?_ _) | (with_reducible refine bel_alloc ?_ _))); done)); rintro e w4 ⟨rfl, hb4⟩; obtain ⟨m0, m1, m2, m3, m4, m5, m6, m7, m8, m9, m10, m11⟩ := BPS (w := wr) (W := w4) y x (by repeat (first | (with_reducible exact Below.refl _ _) | (with_reducible assumption) | (with_reducible exact bel_box _) | (with_reducible refine bel_step ?_ (by with_reducible assumption)) | (with_reducible refine Below.drew ?_) | (with_reducible refine below_drewN ?_ _) | (with_reducible refine bel_alloc ?_ _)))) | (go_at_call 64; (with_reducible refine (KQ.out _ ?_).mono ?_); (focus ((repeat (first | (with_reducible exact Below.refl _ _) | (with_reducible assumption) | (with_reducible exact bel_box _) | (with_reducible refine bel_step ?_ (by with_reducible assumption)) | (with_reducible refine Below.drew ?_) | (with_reducible refine below_drewN ?_ _) | (with_reducible refine bel_alloc ?_ _))); done)); rintro e w5 ⟨rfl, hb5⟩; obtain ⟨m0, m1, m2, m3, m4, m5, m6, m7, m8, m9, m10, m11⟩ := BPS (w := wr) (W := w5) y x (by repeat (first | (with_reducible exact Below.refl _ _) | (with_reducible assumption) | (with_reducible exact bel_box _) | (with_reducible refine bel_step ?_ (by with_reducible assumption)) | (with_reducible refine Below.drew ?_) | (with_reducible refine below_drewN ?_ _) | (with_reducible refine bel_alloc ?_ _)))) | (go_at_call 65; (with_reducible refine (Ky.out _ ?_).mono ?_); (focus ((repeat (first | (with_reducible exact Below.refl _ _) | (with_reducible assumption) | (with_reducible exact bel_box _) | (with_reducible refine bel_step ?_ (by with_reducible assumption)) | (with_reducible refine Below.drew ?_) | (with_reducible refine below_drewN ?_ _) | (with_reducible refine bel_alloc ?_ _))); done)); rintro e w6 ⟨rfl, hb6⟩; obtain ⟨m0, m1, m2, m3, m4, m5, m6, m7, m8, m9, m10, m11⟩ := BPS (w := wr) (W := w6) y x (by repeat (first | (with_reducible exact Below.refl _ _) | (with_reducible assumption) | (with_reducible exact bel_box _) | (with_reducible refine bel_step ?_ (by with_reducible assumption)) | (with_reducible refine Below.drew ?_) | (with_reducible refine below_drewN ?_ _) | (with_reducible refine bel_alloc ?_ _)))) | (go_at_call 104; (with_reducible refine (KU.out _ ?_).mono ?_); (focus ((repeat (first | (with_reducible exact Below.refl _ _) | (with_reducible assumption) | (with_reducible exact bel_box _) | (with_reducible refine bel_step ?_ (by with_reducible assumption)) | (with_reducible refine Below.drew ?_) | (with_reducible refine below_drewN ?_ _) | (with_reducible refine bel_alloc ?_ _))); done)); rintro e w7 ⟨rfl, hb7⟩; obtain ⟨m0, m1, m2, m3, m4, m5, m6, m7, m8, m9, m10, m11⟩ := BPS (w := wr) (W := w7) y x (by repeat (first | (with_reducible exact Below.refl _ _) | (with_reducible assumption) | (with_reducible exact bel_box _) | (with_reducible refine bel_step ?_ (by with_reducible assumption)) | (with_reducible refine Below.drew ?_) | (with_reducible refine below_drewN ?_ _) | (with_reducible refine bel_alloc ?_ _)))) | (go_at_call 104; (with_reducible refine (KV.out _ ?_).mono ?_); (focus ((repeat (first | (with_reducible exact Below.refl _ _) | (with_reducible assumption) | (with_reducible exact bel_box _) | (with_reducible refine bel_step ?_ (by with_reducible assumption)) | (with_reducible refine Below.drew ?_) | (with_reducible refine below_drewN ?_ _) | (with_reducible refine bel_alloc ?_ _))); done)); rintro e w8 ⟨rfl, hb8⟩; obtain ⟨m0, m1, m2, m3, m4, m5, m6, m7, m8, m9, m10, m11⟩ := BPS (w := wr) (W := w8) y x (by repeat (first | (with_reducible exact Below.refl _ _) | (with_reducible assumption) | (with_reducible exact bel_box _) | (with_reducible refine bel_step ?_ (by with_reducible assumption)) | (with_reducible refine Below.drew ?_) | (with_reducible refine below_drewN ?_ _) | (with_reducible refine bel_alloc ?_ _)))))
                  go_ret
                  exact ⟨rfl, (by repeat (first | (with_reducible exact Below.refl _ _) | (with_reducible assumption) | (with_reducible exact bel_box _) | (with_reducible refine bel_step ?_ (by with_reducible assumption)) | (with_reducible refine Below.drew ?_) | (with_reducible refine below_drewN ?_ _) | (with_reducible refine bel_alloc ?_ _)))⟩
                have hv : G (j + 1) = B := by rw [← hK3.out, HS3.out, q0]; rfl
                have HV3 := Lib.hid hv
                have HW6 : Hid (wrap64 ((j : Int) + 1) = ((j + 1 : Nat) : Int)) := Lib.hid (by rw [IntWalk.wrap64_in _ (by omega)]; omega)
                clear HST HS3 hK3 hK HGl HL HFin hv h9 h9s h8 h8b
                go_wp2_with (first | (go_at_call 63; (with_reducible refine (KD.out _ ?_).mono ?_); (focus ((repeat (first | (with_reducible exact Below.refl _ _) | (with_reducible assumption) | (with_reducible exact bel_box _) | (with_reducible refine bel_step ?_ (by with_reducible assumption)) | (with_reducible refine Below.drew ?_) | (with_reducible refine below_drewN ?_ _) | (with_reducible refine bel_alloc ?_ _))); done)); rintro e w4 ⟨rfl, hb4⟩; obtain ⟨m0, m1, m2, m3, m4, m5, m6, m7, m8, m9, m10, m11⟩ := BPS (w := wr) (W := w4) y x (by repeat (first | (with_reducible exact Below.refl _ _) | (with_reducible assumption) | (with_reducible exact bel_box _) | (with_reducible refine bel_step ?_ (by with_reducible assumption)) | (with_reducible refine Below.drew ?_) | (with_reducible refine below_drewN ?_ _) | (with_reducible refine bel_alloc ?_ _)))) | (go_at_call 64; (with_reducible refine (KQ.out _ ?_).mono ?_); (focus ((repeat (first | (with_reducible exact Below.refl _ _) | (with_reducible assumption) | (with_reducible exact bel_box _) | (with_reducible refine bel_step ?_ (by with_reducible assumption)) | (with_reducible refine Below.drew ?_) | (with_reducible refine below_drewN ?_ _) | (with_reducible refine bel_alloc ?_ _))); done)); rintro e w5 ⟨rfl, hb5⟩; obtain ⟨m0, m1, m2, m3, m4, m5, m6, m7, m8, m9, m10, m11⟩ := BPS (w := wr) (W := w5) y x (by repeat (first | (with_reducible exact Below.refl _ _) | (with_reducible assumption) | (with_reducible exact bel_box _) | (with_reducible refine bel_step ?_ (by with_reducible assumption)) | (with_reducible refine Below.drew ?_) | (with_reducible refine below_drewN ?_ _) | (with_reducible refine bel_alloc ?_ _)))) | (go_at_call 65; (with_reducible refine (Ky.out _ ?_).mono ?_); (focus ((repeat (first | (with_reducible exact Below.refl _ _) | (with_reducible assumption) | (with_reducible exact bel_box _) | (with_reducible refine bel_step ?_ (by with_reducible assumption)) | (with_reducible refine Below.drew ?_) | (with_reducible refine below_drewN ?_ _) | (with_reducible refine bel_alloc ?_ _))); done)); rintro e w6 ⟨rfl, hb6⟩; obtain ⟨m0, m1, m2, m3, m4, m5, m6, m7, m8, m9, m10, m11⟩ := BPS (w := wr) (W := w6) y x (by repeat (first | (with_reducible exact Below.refl _ _) | (with_reducible assumption) | (with_reducible exact bel_box _) | (with_reducible refine bel_step ?_ (by with_reducible assumption)) | (with_reducible refine Below.drew ?_) | (with_reducible refine below_drewN ?_ _) | (with_reducible refine bel_alloc ?_ _)))) | (go_at_call 104; (with_reducible refine (KU.out _ ?_).mono ?_); (focus ((repeat (first | (with_reducible exact Below.refl _ _) | (with_reducible assumption) | (with_reducible exact bel_box _) | (with_reducible refine bel_step ?_ (by with_reducible assumption)) | (with_reducible refine Below.drew ?_) | (with_reducible refine below_drewN ?_ _) | (with_reducible refine bel_alloc ?_ _))); done)); rintro e w7 ⟨rfl, hb7⟩; obtain ⟨m0, m1, m2, m3, m4, m5, m6, m7, m8, m9, m10, m11⟩ := BPS (w := wr) (W := w7) y x (by repeat (first | (with_reducible exact Below.refl _ _) | (with_reducible assumption) | (with_reducible exact bel_box _) | (with_reducible refine bel_step ?_ (by with_reducible assumption)) | (with_reducible refine Below.drew ?_) | (with_reducible refine below_drewN ?_ _) | (with_reducible refine bel_alloc ?_ _)))) | (go_at_call 104; (with_reducible refine (KV.out _ ?_).mono ?_); (focus ((repeat (first | (with_reducible exact Below.refl _ _) | (with_reducible assumption) | (with_reducible exact bel_box _) | (with_reducible refine bel_step ?_ (by with_reducible assumption)) | (with_reducible refine Below.drew ?_) | (with_reducible refine below_drewN ?_ _) | (with_reducible refine bel_alloc ?_ _))); done)); rintro e w8 ⟨rfl, hb8⟩; obtain ⟨m0, m1, m2, m3, m4, m5, m6, m7, m8, m9, m10, m11⟩ := BPS (w := wr) (W := w8) y x (by repeat (first | (with_reducible exact Below.refl _ _) | (with_reducible assumption) | (with_reducible exact bel_box _) | (with_reducible refine bel_step ?_ (by with_reducible assumption)) | (with_reducible refine Below.drew ?_) | (with_reducible refine below_drewN ?_ _) | (with_reducible refine bel_alloc ?_ _)))))
                exact HFin3.out _ _ (by repeat (first | (with_reducible exact Below.refl _ _) | (with_reducible assumption) | (with_reducible exact bel_box _) | (with_reducible refine bel_step ?_ (by with_reducible assumption)) | (with_reducible refine Below.drew ?_) | (with_reducible refine below_drewN ?_ _) | (with_reducible refine bel_alloc ?_ _))) HV3.out (by first | rfl | omega | exact HW6.out)
            · obtain rfl : j = a.l.length := by omega
              have hv : B = true := by rw [← hK3.out, HGl.out]
              subst hv
              have hv : F (k + 1) = V := by rw [← hK.out, HST.out]; rfl
              have HV2 := Lib.hid hv
              clear HST hv
              go_wp2
              exact HFin.out _ _ (by repeat (first | (with_reducible exact Below.refl _ _) | (with_reducible assumption) | (with_reducible exact bel_box _) | (with_reducible refine bel_step ?_ (by with_reducible assumption)) | (with_reducible refine Below.drew ?_) | (with_reducible refine below_drewN ?_ _) | (with_reducible refine bel_alloc ?_ _))) HV2.out (by first | rfl | omega | (rw [IntWalk.wrap64_in _ (by omega)]; omega))
      · obtain rfl : k = r.l.length := by omega
        have hv : V = true := by rw [← hK.out, HL.out]
        subst hv
        clear HF HV hK HL HR HS K HM
        go_wp2
        go_ret
        exact ⟨rfl, (by repeat (first | (with_reducible exact Below.refl _ _) | (with_reducible assumption) | (with_reducible exact bel_box _) | (with_reducible refine bel_step ?_ (by with_reducible assumption)) | (with_reducible refine Below.drew ?_) | (with_reducible refine below_drewN ?_ _) | (with_reducible refine bel_alloc ?_ _)))⟩
end Go.Proofs.YthlapepjebidgaaGreatDoor
/- The reference's equality of programs: automata, all levels. -/
namespace Go.Proofs.YthlapepjebidgaaGreatDoor
set_option linter.unusedVariables false
set_option linter.unusedSimpArgs false
open Go.RowKit
variable {Bd : Nat}
theorem rs_autos_st (x : St) : ∀ (y : St) (w : World), RsS w w.heap.size x → RsS w w.heap.size y → SmS Bd x → Calls Tryz.prog 65 #[.slice x.au.A x.au.l.length x.au.c, .slice y.au.A y.au.l.length y.au.c] w (Bel (.bool (all2 samA x.au.l y.au.l)) w) := by
  induction x using St.ind with
  | h s ih =>
    intro y w hX hY hm
    have RX : RsAs w w.heap.size s.au := ⟨hX.of.2.2.2.1, fun a ha => ⟨hX.of.2.2.2.2.1 a ha, hX.of.2.2.2.2.2.1 a ha⟩⟩
    have RY : RsAs w w.heap.size y.au := ⟨hY.of.2.2.2.1, fun a ha => ⟨hY.of.2.2.2.2.1 a ha, hY.of.2.2.2.2.2.1 a ha⟩⟩
    exact rs_autos_of s.au y.au w RX RY hm.of.2.2.2 (Lib.hid fun a ha t ht b hb u hu W h => ih a ha t ht u W (((RX.2 a ha).2 t ht).blw h h.size) (((RY.2 b hb).2 u hu).blw h h.size) (hm.of.2.2.2 a ha t ht))
theorem rs_autos (r s : Rw (Rw St)) (w : World) (hR : RsAs w w.heap.size r) (hS : RsAs w w.heap.size s) (hm : ∀ a ∈ r.l, ∀ t ∈ a.l, SmS Bd t) :
    Calls Tryz.prog 65 #[.slice r.A r.l.length r.c, .slice s.A s.l.length s.c] w (Bel (.bool (all2 samA r.l s.l)) w) :=
  rs_autos_of r s w hR hS hm (Lib.hid fun a ha t ht b hb u hu W h => rs_autos_st t u W (((hR.2 a ha).2 t ht).blw h h.size) (((hS.2 b hb).2 u hu).blw h h.size) (hm a ha t ht))
end Go.Proofs.YthlapepjebidgaaGreatDoor
/- Equality of programs: each is equal to itself, and the order does not matter. -/
namespace Go.Proofs.YthlapepjebidgaaGreatDoor
set_option linter.unusedVariables false
set_option linter.unusedSimpArgs false
open Go.RowKit
theorem beq_cm {α : Type} [BEq α] [LawfulBEq α] (a b : α) : (a == b) = (b == a) := by
  rw [Bool.eq_iff_iff, beq_iff_eq, beq_iff_eq]
  exact eq_comm
theorem samB_refl (a : ByteArray) : samB a a = true := by unfold samB; exact beq_self_eq_true _
theorem samB_symm (a b : ByteArray) : samB a b = samB b a := by unfold samB; exact beq_cm _ _
theorem samO_refl (a : Ot) : samO a a = true := by unfold samO; simp
theorem samO_symm (a b : Ot) : samO a b = samO b a := by unfold samO; rw [beq_cm a.nm.toList, beq_cm a.t, beq_cm a.tag]
theorem samD_refl (a : Dt) : samD a a = true := by unfold samD; rw [all2_refl fun x _ => samO_refl x]; simp
theorem samD_symm (a b : Dt) : samD a b = samD b a := by unfold samD; rw [beq_cm a.nm.toList, beq_cm a.ty, all2_symm fun x _ y _ => samO_symm x y]
theorem samE_refl (a : va.En) : samE a a = true := by unfold samE; rw [all2_refl fun x _ => samB_refl x]; simp
theorem samE_symm (a b : va.En) : samE a b = samE b a := by unfold samE; rw [beq_cm a.name.toList, all2_symm fun x _ y _ => samB_symm x y]
theorem samQ_refl (a : Qt) : samQ a a = true := by unfold samQ; rw [all2_refl fun x _ => samB_refl x, sameX_refl]; rfl
theorem samQ_symm (a b : Qt) : samQ a b = samQ b a := by unfold samQ; rw [all2_symm fun x _ y _ => samB_symm x y, sameX_symm]
theorem samT_refl (a : Tt) : samT a a = true := by unfold samT; rw [sameX_refl]; simp
theorem samT_symm (a b : Tt) : samT a b = samT b a := by unfold samT; rw [beq_cm a.to, beq_cm a.re, sameX_symm]
theorem samS_refl (a : St) : samS a a = true := by
  induction a using St.ind with
  | h s ih =>
    rw [samS_eq, all2_refl fun x _ => samD_refl x, all2_refl fun x _ => samQ_refl x, all2_refl fun x _ => samT_refl x, all2_refl fun x _ => samT_refl x, all2_refl (f := samA) fun x hx => all2_refl fun t ht => ih x hx t ht]
    simp
theorem samS_symm (a : St) : ∀ b, samS a b = samS b a := by
  induction a using St.ind with
  | h s ih =>
    intro b
    rw [samS_eq, samS_eq, beq_cm s.nm.toList, all2_symm fun x _ y _ => samD_symm x y, all2_symm fun x _ y _ => samQ_symm x y, all2_symm (f := samA) fun x hx y _ => all2_symm fun t ht u _ => ih x hx t ht u, all2_symm (l := s.un.l) fun x _ y _ => samT_symm x y, all2_symm (l := s.ut.l) fun x _ y _ => samT_symm x y]
theorem samA_refl (a : Rw St) : samA a a = true := all2_refl fun t _ => samS_refl t
theorem samA_symm (a b : Rw St) : samA a b = samA b a := all2_symm fun t _ u _ => samS_symm t u
theorem samN_refl (a : Nt) : samN a a = true := by
  unfold samN
  rw [all2_refl fun x _ => samD_refl x, all2_refl fun x _ => samD_refl x, all2_refl fun x _ => samD_refl x, all2_refl fun x _ => samQ_refl x, all2_refl fun x _ => samA_refl x, all2_refl fun x _ => sameX_refl x, all2_refl fun x _ => sameX_refl x]
  simp
theorem samN_symm (a b : Nt) : samN a b = samN b a := by
  unfold samN
  rw [beq_cm a.nm.toList, all2_symm (l := a.ins.l) fun x _ y _ => samD_symm x y, all2_symm (l := a.outs.l) fun x _ y _ => samD_symm x y, all2_symm (l := a.locs.l) fun x _ y _ => samD_symm x y, all2_symm fun x _ y _ => samQ_symm x y, all2_symm fun x _ y _ => samA_symm x y, all2_symm (l := a.asm.l) fun x _ y _ => sameX_symm x y, all2_symm (l := a.ens.l) fun x _ y _ => sameX_symm x y]
theorem samP_refl (a : Pt) : samP a a = true := by unfold samP; rw [all2_refl fun x _ => samE_refl x, all2_refl fun x _ => samN_refl x]; rfl
theorem samP_symm (a b : Pt) : samP a b = samP b a := by unfold samP; rw [all2_symm fun x _ y _ => samE_symm x y, all2_symm fun x _ y _ => samN_symm x y]
end Go.Proofs.YthlapepjebidgaaGreatDoor
