import Derived.Laws.EntriesVeiled
import Derived.Test.YtoimjcfdiljkjaaGreatDoorQI
set_option linter.unusedVariables false
set_option linter.unusedSimpArgs false
namespace Go.Proofs.YtoimjcfdiljkjaaGreatDoor
open Go.RowKit
theorem RdX.rdr {w : World} {B : Nat} {x : Xt} (h : RdX w B x) : RdR w B 6 XC ⟨x.A, x.c, x.ar⟩ := by
  cases h with
  | mk x h0 h1 h2 h3 => exact ⟨h0, h1, h3.1.1, h3.2⟩
theorem mem_list_self (x : Xt) : x ∈ x.list := by rw [Xt.list_eq]; exact List.mem_cons_self
theorem RsX.kid {w : World} {B : Nat} {x y : Xt} (h : RsX w B x) (hy : y ∈ x.ar) : RsX w B y :=
  ⟨h.1.kid hy, fun z hz => h.2 z (by rw [Xt.list_eq]; exact List.mem_cons.2 (.inr (List.mem_flatten.2 ⟨_, List.mem_map_of_mem hy, hz⟩)))⟩
theorem RsX.nmb {w : World} {B : Nat} {x : Xt} (h : RsX w B x) : NmB x := fun y hy => (h.2 y hy).1
set_option maxHeartbeats 2000000 in
set_option maxRecDepth 20000 in
theorem sh_typed (E : Rw va.En) (x : Xt) (w : World) (hE : RsE w w.heap.size E) (hX : RsX w w.heap.size x) :
    Calls Tryz.prog 138 #[ckV E, xV x] w (Bel (.int .i64 (typE E.l x)) w) := by
  have ht := (hX.2 x (mem_list_self x)).2
  have KS := Lib.hid (fun W (h : Below w.heap.size w W) => va.size_any E.A E.c E.l x.t W (hE.blw h h.size).1 hE.len ht)
  have KH := Lib.hid (fun W (h : Below w.heap.size w W) => va.has_any E.A E.c E.l x.t x.v W (hE.blw h h.size).1 hE.len ht)
  have h9 := hX.1.len.1
  unfold maxLen at h9
  unfold typE
  generalize va.hasB E.l x.t x.v = hb at *
  generalize va.sizeT E.l x.t = sz at *
  clear ht hE hX
  simp only [xV]
  by_cases k0 : x.k = 1 ∨ x.k = 8 ∨ x.k = 9
  · rw [if_pos k0]
    have kk : ((x.k == 1) = true ∧ (x.k == 9) = false ∧ (x.k != 9) = true ∧ x.k ≠ 9) ∨ ((x.k == 1) = false ∧ (x.k == 8) = true ∧ (x.k == 9) = false ∧ (x.k != 9) = true ∧ x.k ≠ 9) ∨ ((x.k == 1) = false ∧ (x.k == 8) = false ∧ (x.k == 9) = true ∧ (x.k != 9) = false ∧ x.k = 9) := by
      rcases k0 with k | k | k <;> rw [k] <;> simp
    clear k0
    by_cases z0 : sz = 0
    · subst z0
      rw [if_pos rfl]
      rcases kk with ⟨k1, k3, k5, k4⟩ | ⟨k1, k2, k3, k5, k4⟩ | ⟨k1, k2, k3, k5, k4⟩
      all_goals
        clear k4
        go_enter Tryz.func138, Tryz.ntmps138
        go_wp2_with (go_at_call 77; (with_reducible refine (KS.out _ ?_).mono ?_); (exact bl); rintro e w1 ⟨rfl, hb1⟩; obtain ⟨g0, g1, g2, g3, g4, g5, g6, g7⟩ := B2X (w := w) (W := w1) E x bl)
        go_ret
        exact ⟨rfl, bl⟩
    · rw [if_neg z0]
      have q0 : (sz == 0) = false := by simp [z0]
      rcases kk with ⟨k1, k3, k5, k4⟩ | ⟨k1, k2, k3, k5, k4⟩ | ⟨k1, k2, k3, k5, k4⟩
      · rw [if_neg (by intro h; exact k4 h.1)]
        cases hb
        · rw [if_pos ⟨k4, rfl⟩]
          clear k4 z0
          go_enter Tryz.func138, Tryz.ntmps138
          go_wp2_with (first | (go_at_call 77; (with_reducible refine (KS.out _ ?_).mono ?_); (exact bl); rintro e w1 ⟨rfl, hb1⟩; obtain ⟨g0, g1, g2, g3, g4, g5, g6, g7⟩ := B2X (w := w) (W := w1) E x bl) | (go_at_call 39; (with_reducible refine (KH.out _ ?_).mono ?_); (exact bl); rintro e w2 ⟨rfl, hb2⟩))
          go_ret
          exact ⟨rfl, bl⟩
        · rw [if_neg (by simp)]
          clear k4 z0
          go_enter Tryz.func138, Tryz.ntmps138
          go_wp2_with (first | (go_at_call 77; (with_reducible refine (KS.out _ ?_).mono ?_); (exact bl); rintro e w1 ⟨rfl, hb1⟩; obtain ⟨g0, g1, g2, g3, g4, g5, g6, g7⟩ := B2X (w := w) (W := w1) E x bl) | (go_at_call 39; (with_reducible refine (KH.out _ ?_).mono ?_); (exact bl); rintro e w2 ⟨rfl, hb2⟩))
          go_ret
          exact ⟨rfl, bl⟩
      · rw [if_neg (by intro h; exact k4 h.1)]
        cases hb
        · rw [if_pos ⟨k4, rfl⟩]
          clear k4 z0
          go_enter Tryz.func138, Tryz.ntmps138
          go_wp2_with (first | (go_at_call 77; (with_reducible refine (KS.out _ ?_).mono ?_); (exact bl); rintro e w1 ⟨rfl, hb1⟩; obtain ⟨g0, g1, g2, g3, g4, g5, g6, g7⟩ := B2X (w := w) (W := w1) E x bl) | (go_at_call 39; (with_reducible refine (KH.out _ ?_).mono ?_); (exact bl); rintro e w2 ⟨rfl, hb2⟩))
          go_ret
          exact ⟨rfl, bl⟩
        · rw [if_neg (by simp)]
          clear k4 z0
          go_enter Tryz.func138, Tryz.ntmps138
          go_wp2_with (first | (go_at_call 77; (with_reducible refine (KS.out _ ?_).mono ?_); (exact bl); rintro e w1 ⟨rfl, hb1⟩; obtain ⟨g0, g1, g2, g3, g4, g5, g6, g7⟩ := B2X (w := w) (W := w1) E x bl) | (go_at_call 39; (with_reducible refine (KH.out _ ?_).mono ?_); (exact bl); rintro e w2 ⟨rfl, hb2⟩))
          go_ret
          exact ⟨rfl, bl⟩
      · by_cases z1 : (x.ar.length : Int) = sz
        · rw [if_neg (by intro h; exact h.2 z1), if_neg (by intro h; exact h.1 k4)]
          have q1 : ((x.ar.length : Int) == sz) = true := by simp [z1]
          clear k4 z0 z1
          go_enter Tryz.func138, Tryz.ntmps138
          go_wp2_with (first | (go_at_call 77; (with_reducible refine (KS.out _ ?_).mono ?_); (exact bl); rintro e w1 ⟨rfl, hb1⟩; obtain ⟨g0, g1, g2, g3, g4, g5, g6, g7⟩ := B2X (w := w) (W := w1) E x bl) | (go_at_call 39; (with_reducible refine (KH.out _ ?_).mono ?_); (exact bl); rintro e w2 ⟨rfl, hb2⟩))
          go_ret
          exact ⟨rfl, bl⟩
        · rw [if_pos ⟨k4, z1⟩]
          have q1 : ((x.ar.length : Int) == sz) = false := by simp [z1]
          clear k4 z0 z1
          go_enter Tryz.func138, Tryz.ntmps138
          go_wp2_with (first | (go_at_call 77; (with_reducible refine (KS.out _ ?_).mono ?_); (exact bl); rintro e w1 ⟨rfl, hb1⟩; obtain ⟨g0, g1, g2, g3, g4, g5, g6, g7⟩ := B2X (w := w) (W := w1) E x bl) | (go_at_call 39; (with_reducible refine (KH.out _ ?_).mono ?_); (exact bl); rintro e w2 ⟨rfl, hb2⟩))
          go_ret
          exact ⟨rfl, bl⟩
  · rw [if_neg k0]
    have k1 : (x.k == 1) = false := by rw [beq_eq_false_iff_ne]; omega
    have k2 : (x.k == 8) = false := by rw [beq_eq_false_iff_ne]; omega
    have k3 : (x.k == 9) = false := by rw [beq_eq_false_iff_ne]; omega
    clear k0
    go_enter Tryz.func138, Tryz.ntmps138
    go_wp2
    go_ret
    exact ⟨rfl, bl⟩
set_option maxHeartbeats 2000000 in
set_option maxRecDepth 20000 in
theorem sh_within (E : Rw va.En) (x : Xt) : ∀ w, RsE w w.heap.size E → RsX w w.heap.size x →
    Calls Tryz.prog 102 #[ckV E, xV x] w (Bel (.int .i64 (insE E.l x)) w) := by
  induction x using Xt.ind with
  | h x ih =>
    intro w hE hX
    have KT := Lib.hid (fun W (h : Below w.heap.size w W) => sh_typed E x W (hE.blw h h.size) (hX.blw h h.size))
    have KF : Hid (∀ W, Below w.heap.size w W → Calls Tryz.prog 88 #[.slice x.A x.ar.length x.c, .func (.func 102) #[ckV E] #[]] W (Bel (.int .i64 (errs (x.ar.map (insE E.l)))) W)) := Lib.hid fun W h =>
      first_Expr_within (ckV E) ⟨x.A, x.c, x.ar⟩ (insE E.l) W ((hX.1.rdr).blw oneB_X h h.size) (Lib.hid fun y hy W' h' => ih y hy W' (hE.blw (h.trans (h'.mono h.size)) (Nat.le_trans h.size h'.size)) ((hX.kid hy).blw (h.trans (h'.mono h.size)) (Nat.le_trans h.size h'.size)))
    have h9 := hX.1.len.1
    unfold maxLen at h9
    rw [insE_eq]
    generalize errs (x.ar.map (insE E.l)) = u at *
    generalize typE E.l x = v at *
    clear hE hX ih
    simp only [xV] at KT KF ⊢
    by_cases hv : v = 0
    · subst hv
      rw [orE0]
      go_enter Tryz.func102, Tryz.ntmps102
      go_wp2_with (first | (go_at_call 138; (with_reducible refine (KT.out _ ?_).mono ?_); (exact bl); rintro e w1 ⟨rfl, hb1⟩; obtain ⟨g0, g1, g2, g3, g4, g5, g6, g7⟩ := B2X (w := w) (W := w1) E x bl) | (go_at_call 88; (with_reducible refine (KF.out _ ?_).mono ?_); (exact bl); rintro e w2 ⟨rfl, hb2⟩))
      go_ret
      exact ⟨rfl, bl⟩
    · have q : (v == 0) = false := by simp [hv]
      rw [orEn hv]
      clear hv
      go_enter Tryz.func102, Tryz.ntmps102
      go_wp2_with (first | (go_at_call 138; (with_reducible refine (KT.out _ ?_).mono ?_); (exact bl); rintro e w1 ⟨rfl, hb1⟩; obtain ⟨g0, g1, g2, g3, g4, g5, g6, g7⟩ := B2X (w := w) (W := w1) E x bl) | (go_at_call 88; (with_reducible refine (KF.out _ ?_).mono ?_); (exact bl); rintro e w2 ⟨rfl, hb2⟩))
      go_ret
      exact ⟨rfl, bl⟩
set_option maxHeartbeats 1000000 in
set_option maxRecDepth 20000 in
theorem sh_expr (E : Rw va.En) (x : Xt) (w : World) (hs : Std w) (hE : RsE w w.heap.size E) (hX : RsX w w.heap.size x) :
    Calls Tryz.prog 62 #[ckV E, xV x] w (Bel (.int .i64 (expE E.l x)) w) := by
  have KT := Lib.hid (fun W (h : Below w.heap.size w W) => sh_within E x W (hE.blw h h.size) (hX.blw h h.size))
  have KC := Lib.hid (fun W (h : Below w.heap.size w W) => check_any wokP x W (hX.blw h h.size).1 (nm_prog (hs.to h) hX.nmb))
  have h9 := hX.1.len.1
  unfold maxLen at h9
  unfold expE
  generalize insE E.l x = u at *
  generalize chkAll wokP x = v at *
  clear hs hE hX
  simp only [xV] at KT KC ⊢
  by_cases hv : v = 0
  · subst hv
    rw [orE0]
    go_enter Tryz.func62, Tryz.ntmps62
    go_wp2_with (first | (go_at_call 101; (with_reducible refine (KC.out _ ?_).mono ?_); (exact bl); rintro e w1 ⟨rfl, hb1⟩; obtain ⟨g0, g1, g2, g3, g4, g5, g6, g7⟩ := B2X (w := w) (W := w1) E x bl) | (go_at_call 102; (with_reducible refine (KT.out _ ?_).mono ?_); (exact bl); rintro e w2 ⟨rfl, hb2⟩))
    go_ret
    exact ⟨rfl, bl⟩
  · have q : (v == 0) = false := by simp [hv]
    rw [orEn hv]
    clear hv
    go_enter Tryz.func62, Tryz.ntmps62
    go_wp2_with (go_at_call 101; (with_reducible refine (KC.out _ ?_).mono ?_); (exact bl); rintro e w1 ⟨rfl, hb1⟩; obtain ⟨g0, g1, g2, g3, g4, g5, g6, g7⟩ := B2X (w := w) (W := w1) E x bl)
    go_ret
    exact ⟨rfl, bl⟩
set_option maxHeartbeats 1000000 in
set_option maxRecDepth 20000 in
theorem sh_equation (E : Rw va.En) (q : Qt) (w : World) (hs : Std w) (hE : RsE w w.heap.size E) (hq : RsQ w w.heap.size q) :
    Calls Tryz.prog 85 #[ckV E, qV q] w (Bel (.int .i64 (eqnE E.l q)) w) := by
  have KF : Hid (∀ W, Below w.heap.size w W → Calls Tryz.prog 82 #[.slice q.lf.A q.lf.l.length q.lf.c, .func (.func 83) #[] #[]] W (Bel (.int .i64 (errs (q.lf.l.map idE))) W)) := Lib.hid fun W h =>
    first_string_checkIdent q.lf idE W ((hq.1.blw h h.size).1) (Lib.hid fun y hy W' h' => sh_ident y W' (hs.to (h.trans (h'.mono h.size))) (hq.1.2 y hy))
  have KE := Lib.hid (fun W (h : Below w.heap.size w W) => sh_expr E q.r W (hs.to h) (hE.blw h h.size) (hq.2.blw h h.size))
  have h9 := hq.1.1.len
  unfold maxLen at h9
  unfold eqnE
  generalize errs (q.lf.l.map idE) = u at *
  generalize expE E.l q.r = v at *
  simp only [xV] at KE
  clear hs hE hq
  by_cases z0 : q.lf.l.length = 0
  · have q0 : ((q.lf.l.length : Int) == 0) = true := by simp [z0]
    rw [if_pos z0]
    clear z0
    go_enter Tryz.func85, Tryz.ntmps85
    go_wp2
    go_ret
    exact ⟨rfl, bl⟩
  have q0 : ((q.lf.l.length : Int) == 0) = false := by simp [z0]
  rw [if_neg z0]
  by_cases z1 : 64 < q.lf.l.length
  · have q1 : (64 : Int) < (q.lf.l.length : Int) := by omega
    rw [if_pos z1]
    clear z0 z1
    go_enter Tryz.func85, Tryz.ntmps85
    go_wp2
    go_ret
    exact ⟨rfl, bl⟩
  have q1 : (q.lf.l.length : Int) ≤ (64 : Int) := by omega
  rw [if_neg z1]
  by_cases hu : u = 0
  · subst hu
    rw [orE0]
    by_cases hv : v = 0
    · subst hv
      rw [orE0]
      by_cases z2 : 1 < q.lf.l.length
      · have q2 : (1 : Int) < (q.lf.l.length : Int) := by omega
        by_cases z3 : q.r.k = 10
        · have q3 : (q.r.k == 10) = true := by simp [z3]
          have q4 : (q.r.k != 10) = false := by simp [z3]
          rw [if_neg (by omega)]
          clear z0 z1 z2 z3
          go_enter Tryz.func85, Tryz.ntmps85
          go_wp2_with (first | (go_at_call 82; (with_reducible refine (KF.out _ ?_).mono ?_); (exact bl); rintro e w1 ⟨rfl, hb1⟩; obtain ⟨g0, g1, g2, g3, g4, g5, g6, g7, g8⟩ := B2Q (w := w) (W := w1) E q bl) | (go_at_call 62; (with_reducible refine (KE.out _ ?_).mono ?_); (exact bl); rintro e w2 ⟨rfl, hb2⟩; obtain ⟨g0, g1, g2, g3, g4, g5, g6, g7, g8⟩ := B2Q (w := w) (W := w2) E q bl))
          go_ret
          exact ⟨rfl, bl⟩
        · have q3 : (q.r.k == 10) = false := by simp [z3]
          have q4 : (q.r.k != 10) = true := by simp [z3]
          rw [if_pos ⟨z2, z3⟩]
          clear z0 z1 z2 z3
          go_enter Tryz.func85, Tryz.ntmps85
          go_wp2_with (first | (go_at_call 82; (with_reducible refine (KF.out _ ?_).mono ?_); (exact bl); rintro e w1 ⟨rfl, hb1⟩; obtain ⟨g0, g1, g2, g3, g4, g5, g6, g7, g8⟩ := B2Q (w := w) (W := w1) E q bl) | (go_at_call 62; (with_reducible refine (KE.out _ ?_).mono ?_); (exact bl); rintro e w2 ⟨rfl, hb2⟩; obtain ⟨g0, g1, g2, g3, g4, g5, g6, g7, g8⟩ := B2Q (w := w) (W := w2) E q bl))
          go_ret
          exact ⟨rfl, bl⟩
      · have q2 : (q.lf.l.length : Int) ≤ (1 : Int) := by omega
        rw [if_neg (by omega)]
        clear z0 z1 z2
        go_enter Tryz.func85, Tryz.ntmps85
        go_wp2_with (first | (go_at_call 82; (with_reducible refine (KF.out _ ?_).mono ?_); (exact bl); rintro e w1 ⟨rfl, hb1⟩; obtain ⟨g0, g1, g2, g3, g4, g5, g6, g7, g8⟩ := B2Q (w := w) (W := w1) E q bl) | (go_at_call 62; (with_reducible refine (KE.out _ ?_).mono ?_); (exact bl); rintro e w2 ⟨rfl, hb2⟩; obtain ⟨g0, g1, g2, g3, g4, g5, g6, g7, g8⟩ := B2Q (w := w) (W := w2) E q bl))
        go_ret
        exact ⟨rfl, bl⟩
    · have q2 : (v == 0) = false := by simp [hv]
      rw [orEn hv]
      clear z0 z1 hv
      go_enter Tryz.func85, Tryz.ntmps85
      go_wp2_with (first | (go_at_call 82; (with_reducible refine (KF.out _ ?_).mono ?_); (exact bl); rintro e w1 ⟨rfl, hb1⟩; obtain ⟨g0, g1, g2, g3, g4, g5, g6, g7, g8⟩ := B2Q (w := w) (W := w1) E q bl) | (go_at_call 62; (with_reducible refine (KE.out _ ?_).mono ?_); (exact bl); rintro e w2 ⟨rfl, hb2⟩; obtain ⟨g0, g1, g2, g3, g4, g5, g6, g7, g8⟩ := B2Q (w := w) (W := w2) E q bl))
      go_ret
      exact ⟨rfl, bl⟩
  · have q2 : (u == 0) = false := by simp [hu]
    rw [orEn hu]
    clear z0 z1 hu
    go_enter Tryz.func85, Tryz.ntmps85
    go_wp2_with (first | (go_at_call 82; (with_reducible refine (KF.out _ ?_).mono ?_); (exact bl); rintro e w1 ⟨rfl, hb1⟩; obtain ⟨g0, g1, g2, g3, g4, g5, g6, g7, g8⟩ := B2Q (w := w) (W := w1) E q bl) | (go_at_call 62; (with_reducible refine (KE.out _ ?_).mono ?_); (exact bl); rintro e w2 ⟨rfl, hb2⟩; obtain ⟨g0, g1, g2, g3, g4, g5, g6, g7, g8⟩ := B2Q (w := w) (W := w2) E q bl))
    go_ret
    exact ⟨rfl, bl⟩
end Go.Proofs.YtoimjcfdiljkjaaGreatDoor
namespace Go.Proofs.YtoimjcfdiljkjaaGreatDoor
open Go.RowKit
def Cap (w : World) (p : Addr) (v : Value) : Prop := w.cell? p = some v ∧ p.block < w.heap.size
theorem Cap.to {w W : World} {p : Addr} {v : Value} (h : Cap w p v) (hb : Below w.heap.size w W) : Cap W p v := ⟨(hb.cell h.2).trans h.1, Nat.lt_of_lt_of_le h.2 hb.size⟩
theorem Cap.al {w : World} {p : Addr} {v : Value} (h : Cap w p v) : ∀ o, (w.alloc o).cell? p = some v := fun o => cell_al o h.1
set_option maxHeartbeats 1000000 in
set_option maxRecDepth 20000 in
theorem sh_trans1 (E : Rw va.En) (n : Int) (t : Tt) (p q : Addr) (w : World) (hs : Std w) (hE : RsE w w.heap.size E) (hX : RsX w w.heap.size t.cd) (hp : Cap w p (.int .i64 n)) (hq : Cap w q (.slice E.A E.l.length E.c)) :
    Calls Tryz.prog 186 #[tV t, .pointer (some p), .pointer (some q)] w (Bel (.int .i64 (trnE E.l n false t)) w) := by
  have KE := Lib.hid (fun W (h : Below w.heap.size w W) => sh_expr E t.cd W (hs.to h) (hE.blw h h.size) (hX.blw h h.size))
  unfold trnE
  generalize expE E.l t.cd = v at *
  simp only [xV, ckV] at KE
  have hp0 := hp.1
  have hq0 := hq.1
  have hp1 := hp.al
  have hq1 := hq.al
  clear hs hE hX hp hq
  by_cases z : t.to < 0
  · rw [if_pos (.inl z)]
    go_enter Tryz.func186, Tryz.ntmps186
    go_wp2
    go_ret
    exact ⟨rfl, bl⟩
  by_cases z2 : n ≤ t.to
  · rw [if_pos (.inr z2)]
    have y : 0 ≤ t.to := by omega
    clear z
    go_enter Tryz.func186, Tryz.ntmps186
    go_wp2
    go_ret
    exact ⟨rfl, bl⟩
  rw [if_neg (by omega)]
  have y : 0 ≤ t.to := by omega
  have y2 : t.to < n := by omega
  have hv : orE v (if (false = true ∧ (t.cd.list.any fun y => stK y.k) = true) then 5 else 0) = v := by
    rw [if_neg (by simp)]
    unfold orE
    split
    · rename_i h; exact h.symm
    · rfl
  rw [hv]
  clear z z2 hv
  go_enter Tryz.func186, Tryz.ntmps186
  go_wp2_with (go_at_call 62; (with_reducible refine (KE.out _ ?_).mono ?_); (exact bl); rintro e w1 ⟨rfl, hb1⟩)
  go_ret
  exact ⟨rfl, bl⟩
theorem trn_false (es : List va.En) (n : Int) (t : Tt) : trnE es n true t = orE (trnE es n false t) (if (t.cd.list.any fun y => stK y.k) = true then 5 else 0) := by
  unfold trnE
  by_cases z : t.to < 0 ∨ n ≤ t.to
  · rw [if_pos z, if_pos z]
    rfl
  · rw [if_neg z, if_neg z]
    unfold orE
    by_cases h : expE es t.cd = 0
    · simp [h]
    · simp [h]
theorem chk_size {wok : ByteArray → Bool} {x : Xt} (h : chkAll wok x = 0) : x.size ≤ 400 := by
  unfold chkAll at h
  split at h
  · cases h
  · omega
theorem trn_size {es : List va.En} {n : Int} {t : Tt} (h : trnE es n false t = 0) : t.cd.size ≤ 400 := by
  unfold trnE at h
  split at h
  · cases h
  · unfold orE at h
    split at h
    · rename_i h0
      unfold expE orE at h0
      split at h0
      · rename_i h1; exact chk_size h1
      · rename_i h1; exact absurd h0 h1
    · rename_i h0; exact absurd h h0
set_option maxHeartbeats 1000000 in
set_option maxRecDepth 20000 in
theorem sh_unless1 (E : Rw va.En) (n : Int) (t : Tt) (c p q : Addr) (w : World) (hs : Std w) (hE : RsE w w.heap.size E) (hX : RsX w w.heap.size t.cd) (hc : Cap w c (.func (.func 186) #[] #[.pointer (some p), .pointer (some q)])) (hp : Cap w p (.int .i64 n)) (hq : Cap w q (.slice E.A E.l.length E.c)) :
    Calls Tryz.prog 184 #[tV t, .pointer (some c)] w (Bel (.int .i64 (trnE E.l n true t)) w) := by
  have KT := Lib.hid (fun W (h : Below w.heap.size w W) => sh_trans1 E n t p q W (hs.to h) (hE.blw h h.size) (hX.blw h h.size) (hp.to h) (hq.to h))
  have KS : trnE E.l n false t = 0 → Hid (∀ W, Below w.heap.size w W → Calls Tryz.prog 185 #[xV t.cd] W (Bel (.bool (!t.cd.list.any fun y => stK y.k)) W)) := fun h0 => Lib.hid fun W h =>
    stateless_any t.cd W (hX.blw h h.size).1 (by have := trn_size h0; omega)
  rw [trn_false]
  generalize trnE E.l n false t = v at *
  generalize (t.cd.list.any fun y => stK y.k) = b at *
  have hc0 := hc.1
  have hc1 := hc.al
  clear hs hE hX hp hq hc
  by_cases hv : v = 0
  · subst hv
    replace KS := KS rfl
    simp only [xV] at KS
    rw [orE0]
    cases b
    all_goals
      go_enter Tryz.func184, Tryz.ntmps184
      go_wp2_with (first | (go_at_call 186; (with_reducible refine (KT.out _ ?_).mono ?_); (exact bl); rintro e w1 ⟨rfl, hb1⟩; obtain ⟨g0, g1, g2, g3, g4, g5, g6, g7, g8⟩ := B1T (w := w) (W := w1) t bl) | (go_at_call 185; (with_reducible refine (KS.out _ ?_).mono ?_); (exact bl); rintro e w2 ⟨rfl, hb2⟩))
      go_ret
      exact ⟨rfl, bl⟩
  · have q2 : (v == 0) = false := by simp [hv]
    rw [orEn hv]
    clear hv KS
    go_enter Tryz.func184, Tryz.ntmps184
    go_wp2_with (go_at_call 186; (with_reducible refine (KT.out _ ?_).mono ?_); (exact bl); rintro e w1 ⟨rfl, hb1⟩; obtain ⟨g0, g1, g2, g3, g4, g5, g6, g7, g8⟩ := B1T (w := w) (W := w1) t bl)
    go_ret
    exact ⟨rfl, bl⟩
set_option maxHeartbeats 1000000 in
theorem sh_transition (E : Rw va.En) (n : Int) (w : World) : Calls Tryz.prog 163 #[ckV E, .int .i64 n] w (fun e w' => ∃ p q, e = .returned (.func (.func 186) #[] #[.pointer (some p), .pointer (some q)]) ∧ Cap w' p (.int .i64 n) ∧ Cap w' q (.slice E.A E.l.length E.c) ∧ Below w.heap.size w w') := by
  go_enter Tryz.func163, Tryz.ntmps163
  go_wp2
  go_ret
  refine ⟨_, _, rfl, ⟨?_, ?_⟩, ⟨?_, ?_⟩, bl⟩ <;> simp [go_sem]
set_option maxHeartbeats 1000000 in
theorem sh_unless (E : Rw va.En) (n : Int) (w : World) : Calls Tryz.prog 162 #[ckV E, .int .i64 n] w (fun e w' => ∃ c p q, e = .returned (.func (.func 184) #[] #[.pointer (some c)]) ∧ Cap w' c (.func (.func 186) #[] #[.pointer (some p), .pointer (some q)]) ∧ Cap w' p (.int .i64 n) ∧ Cap w' q (.slice E.A E.l.length E.c) ∧ Below w.heap.size w w') := by
  have KT := Lib.hid (fun W => sh_transition E n W)
  go_enter Tryz.func162, Tryz.ntmps162
  go_wp2_with (go_at_call 163; (with_reducible refine (KT.out _).mono ?_); rintro e w1 ⟨p, q, rfl, hp, hq, hb1⟩)
  go_ret
  refine ⟨_, p, q, rfl, ⟨?_, ?_⟩, hp.to (bel_box _), hq.to (bel_box _), bl⟩ <;> simp [go_sem]
set_option maxHeartbeats 1000000 in
theorem sh_automaton (E : Rw va.En) (n : Int) (w : World) : Calls Tryz.prog 87 #[ckV E, .int .i64 n] w (fun e w' => ∃ p q, e = .returned (.func (.func 121) #[] #[.pointer (some p), .pointer (some q)]) ∧ Cap w' p (.int .i64 n) ∧ Cap w' q (.slice E.A E.l.length E.c) ∧ Below w.heap.size w w') := by
  go_enter Tryz.func87, Tryz.ntmps87
  go_wp2
  go_ret
  refine ⟨_, _, rfl, ⟨?_, ?_⟩, ⟨?_, ?_⟩, bl⟩ <;> simp [go_sem]
set_option maxHeartbeats 1000000 in
theorem sh_state (E : Rw va.En) (n k : Int) (w : World) : Calls Tryz.prog 123 #[ckV E, .int .i64 n, .int .i64 k] w (fun e w' => ∃ c p q, e = .returned (.func (.func 159) #[] #[.pointer (some c), .pointer (some p), .pointer (some q)]) ∧ Cap w' c (.slice E.A E.l.length E.c) ∧ Cap w' p (.int .i64 k) ∧ Cap w' q (.int .i64 n) ∧ Below w.heap.size w w') := by
  go_enter Tryz.func123, Tryz.ntmps123
  go_wp2
  go_ret
  refine ⟨_, _, _, rfl, ⟨?_, ?_⟩, ⟨?_, ?_⟩, ⟨?_, ?_⟩, bl⟩ <;> simp [go_sem]
end Go.Proofs.YtoimjcfdiljkjaaGreatDoor
namespace Go.Proofs.YtoimjcfdiljkjaaGreatDoor
open Go.RowKit
set_option maxHeartbeats 4000000 in
set_option maxRecDepth 20000 in
theorem sh_head (E : Rw va.En) (n : Nt) (w : World) (hs : Std w) (hE : RsE w w.heap.size E) (hn : RsN w w.heap.size n) :
    Calls Tryz.prog 84 #[ckV E, nV n] w (Bel (.int .i64 (hedE E.l n)) w) := by
  obtain ⟨h1, h2, h3, h4, h5, h6, h7, h8⟩ := hn
  have K := Lib.hid (fun W (h : Below w.heap.size w W) => ident_any n.nm W (hs.to h) h1)
  have KI : Hid (∀ W, Below w.heap.size w W → Calls Tryz.prog 118 #[.slice n.ins.A n.ins.l.length n.ins.c, .func (.func 119) #[ckV E] #[]] W (Bel (.int .i64 (errs (n.ins.l.map (portE E.l)))) W)) := Lib.hid fun W h =>
    first_Decl_port (ckV E) n.ins (portE E.l) W ((h2.blw h h.size).1) (Lib.hid fun y hy W' h' => sh_port E y W' (hs.to (h.trans (h'.mono h.size))) (hE.blw (h.trans (h'.mono h.size)) (Nat.le_trans h.size h'.size)) ((h2.blw (h.trans (h'.mono h.size)) (Nat.le_trans h.size h'.size)).2 y hy))
  have KO : Hid (∀ W, Below w.heap.size w W → Calls Tryz.prog 118 #[.slice n.outs.A n.outs.l.length n.outs.c, .func (.func 119) #[ckV E] #[]] W (Bel (.int .i64 (errs (n.outs.l.map (portE E.l)))) W)) := Lib.hid fun W h =>
    first_Decl_port (ckV E) n.outs (portE E.l) W ((h3.blw h h.size).1) (Lib.hid fun y hy W' h' => sh_port E y W' (hs.to (h.trans (h'.mono h.size))) (hE.blw (h.trans (h'.mono h.size)) (Nat.le_trans h.size h'.size)) ((h3.blw (h.trans (h'.mono h.size)) (Nat.le_trans h.size h'.size)).2 y hy))
  have KL : Hid (∀ W, Below w.heap.size w W → Calls Tryz.prog 118 #[.slice n.locs.A n.locs.l.length n.locs.c, .func (.func 120) #[ckV E] #[]] W (Bel (.int .i64 (errs (n.locs.l.map (locE E.l)))) W)) := Lib.hid fun W h =>
    first_Decl_local (ckV E) n.locs (locE E.l) W ((h4.blw h h.size).1) (Lib.hid fun y hy W' h' => sh_local E y W' (hs.to (h.trans (h'.mono h.size))) (hE.blw (h.trans (h'.mono h.size)) (Nat.le_trans h.size h'.size)) ((h4.blw (h.trans (h'.mono h.size)) (Nat.le_trans h.size h'.size)).2 y hy))
  unfold hedE
  generalize errs (n.ins.l.map (portE E.l)) = u at *
  generalize errs (n.outs.l.map (portE E.l)) = v at *
  generalize errs (n.locs.l.map (locE E.l)) = x at *
  generalize idP n.nm = b at *
  clear hs hE h1 h2 h3 h4 h5 h6 h7 h8
  cases b
  · rw [if_neg (by simp)]
    go_enter Tryz.func84, Tryz.ntmps84
    go_wp2_with (first | (go_at_call 81; (with_reducible refine (K.out _ ?_).mono ?_); (exact bl); rintro e w1 ⟨rfl, hb1⟩; obtain ⟨g0, g1, g2, g3, g4, g5, g6, g7, g8, g9⟩ := B2N (w := w) (W := w1) E n bl))
    go_ret
    exact ⟨(by first | rfl | assumption), bl⟩
  rw [if_pos rfl]
  by_cases z0 : 64 < n.ins.l.length
  · have q0 : (64 : Int) < (n.ins.l.length : Int) := by omega
    rw [if_pos (by omega)]
    clear z0
    go_enter Tryz.func84, Tryz.ntmps84
    go_wp2_with (first | (go_at_call 81; (with_reducible refine (K.out _ ?_).mono ?_); (exact bl); rintro e w1 ⟨rfl, hb1⟩; obtain ⟨g0, g1, g2, g3, g4, g5, g6, g7, g8, g9⟩ := B2N (w := w) (W := w1) E n bl))
    go_ret
    exact ⟨(by first | rfl | assumption), bl⟩
  have q0 : (n.ins.l.length : Int) ≤ (64 : Int) := by omega
  by_cases z1 : 64 < n.outs.l.length
  · have q1 : (64 : Int) < (n.outs.l.length : Int) := by omega
    rw [if_pos (by omega)]
    clear z0 z1
    go_enter Tryz.func84, Tryz.ntmps84
    go_wp2_with (first | (go_at_call 81; (with_reducible refine (K.out _ ?_).mono ?_); (exact bl); rintro e w1 ⟨rfl, hb1⟩; obtain ⟨g0, g1, g2, g3, g4, g5, g6, g7, g8, g9⟩ := B2N (w := w) (W := w1) E n bl))
    go_ret
    exact ⟨(by first | rfl | assumption), bl⟩
  have q1 : (n.outs.l.length : Int) ≤ (64 : Int) := by omega
  by_cases z2 : 256 < n.locs.l.length
  · have q2 : (256 : Int) < (n.locs.l.length : Int) := by omega
    rw [if_pos (by omega)]
    clear z0 z1 z2
    go_enter Tryz.func84, Tryz.ntmps84
    go_wp2_with (first | (go_at_call 81; (with_reducible refine (K.out _ ?_).mono ?_); (exact bl); rintro e w1 ⟨rfl, hb1⟩; obtain ⟨g0, g1, g2, g3, g4, g5, g6, g7, g8, g9⟩ := B2N (w := w) (W := w1) E n bl))
    go_ret
    exact ⟨(by first | rfl | assumption), bl⟩
  have q2 : (n.locs.l.length : Int) ≤ (256 : Int) := by omega
  by_cases z3 : 256 < n.qs.l.length
  · have q3 : (256 : Int) < (n.qs.l.length : Int) := by omega
    rw [if_pos (by omega)]
    clear z0 z1 z2 z3
    go_enter Tryz.func84, Tryz.ntmps84
    go_wp2_with (first | (go_at_call 81; (with_reducible refine (K.out _ ?_).mono ?_); (exact bl); rintro e w1 ⟨rfl, hb1⟩; obtain ⟨g0, g1, g2, g3, g4, g5, g6, g7, g8, g9⟩ := B2N (w := w) (W := w1) E n bl))
    go_ret
    exact ⟨(by first | rfl | assumption), bl⟩
  have q3 : (n.qs.l.length : Int) ≤ (256 : Int) := by omega
  by_cases z4 : 8 < n.au.l.length
  · have q4 : (8 : Int) < (n.au.l.length : Int) := by omega
    rw [if_pos (by omega)]
    clear z0 z1 z2 z3 z4
    go_enter Tryz.func84, Tryz.ntmps84
    go_wp2_with (first | (go_at_call 81; (with_reducible refine (K.out _ ?_).mono ?_); (exact bl); rintro e w1 ⟨rfl, hb1⟩; obtain ⟨g0, g1, g2, g3, g4, g5, g6, g7, g8, g9⟩ := B2N (w := w) (W := w1) E n bl))
    go_ret
    exact ⟨(by first | rfl | assumption), bl⟩
  have q4 : (n.au.l.length : Int) ≤ (8 : Int) := by omega
  by_cases z5 : 8 < n.asm.l.length
  · have q5 : (8 : Int) < (n.asm.l.length : Int) := by omega
    rw [if_pos (by omega)]
    clear z0 z1 z2 z3 z4 z5
    go_enter Tryz.func84, Tryz.ntmps84
    go_wp2_with (first | (go_at_call 81; (with_reducible refine (K.out _ ?_).mono ?_); (exact bl); rintro e w1 ⟨rfl, hb1⟩; obtain ⟨g0, g1, g2, g3, g4, g5, g6, g7, g8, g9⟩ := B2N (w := w) (W := w1) E n bl))
    go_ret
    exact ⟨(by first | rfl | assumption), bl⟩
  have q5 : (n.asm.l.length : Int) ≤ (8 : Int) := by omega
  by_cases z6 : 8 < n.ens.l.length
  · have q6 : (8 : Int) < (n.ens.l.length : Int) := by omega
    rw [if_pos (by omega)]
    clear z0 z1 z2 z3 z4 z5 z6
    go_enter Tryz.func84, Tryz.ntmps84
    go_wp2_with (first | (go_at_call 81; (with_reducible refine (K.out _ ?_).mono ?_); (exact bl); rintro e w1 ⟨rfl, hb1⟩; obtain ⟨g0, g1, g2, g3, g4, g5, g6, g7, g8, g9⟩ := B2N (w := w) (W := w1) E n bl))
    go_ret
    exact ⟨(by first | rfl | assumption), bl⟩
  have q6 : (n.ens.l.length : Int) ≤ (8 : Int) := by omega
  rw [if_neg (by omega)]
  clear z0 z1 z2 z3 z4 z5 z6
  by_cases z : n.outs.l.length = 0
  · have q : ((n.outs.l.length : Int) == 0) = true := by simp [z]
    rw [if_pos z]
    clear z
    go_enter Tryz.func84, Tryz.ntmps84
    go_wp2_with (first | (go_at_call 81; (with_reducible refine (K.out _ ?_).mono ?_); (exact bl); rintro e w1 ⟨rfl, hb1⟩; obtain ⟨g0, g1, g2, g3, g4, g5, g6, g7, g8, g9⟩ := B2N (w := w) (W := w1) E n bl))
    go_ret
    exact ⟨(by first | rfl | assumption), bl⟩
  have q : ((n.outs.l.length : Int) == 0) = false := by simp [z]
  rw [if_neg z]
  clear z
  by_cases h_u : u = 0
  · subst h_u
    rw [orE0]
    by_cases h_v : v = 0
    · subst h_v
      rw [orE0]
      go_enter Tryz.func84, Tryz.ntmps84
      go_wp2_with (first | (go_at_call 81; (with_reducible refine (K.out _ ?_).mono ?_); (exact bl); rintro e w1 ⟨rfl, hb1⟩; obtain ⟨g0, g1, g2, g3, g4, g5, g6, g7, g8, g9⟩ := B2N (w := w) (W := w1) E n bl) | (go_at_call 118; (with_reducible refine (KI.out _ ?_).mono ?_); (exact bl); rintro e w2 ⟨rfl, hb2⟩; obtain ⟨g0, g1, g2, g3, g4, g5, g6, g7, g8, g9⟩ := B2N (w := w) (W := w2) E n bl) | (go_at_call 118; (with_reducible refine (KO.out _ ?_).mono ?_); (exact bl); rintro e w3 ⟨rfl, hb3⟩; obtain ⟨g0, g1, g2, g3, g4, g5, g6, g7, g8, g9⟩ := B2N (w := w) (W := w3) E n bl) | (go_at_call 118; (with_reducible refine (KL.out _ ?_).mono ?_); (exact bl); rintro e w4 ⟨rfl, hb4⟩; obtain ⟨g0, g1, g2, g3, g4, g5, g6, g7, g8, g9⟩ := B2N (w := w) (W := w4) E n bl))
      go_ret
      exact ⟨(by first | rfl | assumption), bl⟩
    · have y_v : (v == 0) = false := by simp [h_v]
      rw [orEn h_v]
      clear h_v
      go_enter Tryz.func84, Tryz.ntmps84
      go_wp2_with (first | (go_at_call 81; (with_reducible refine (K.out _ ?_).mono ?_); (exact bl); rintro e w1 ⟨rfl, hb1⟩; obtain ⟨g0, g1, g2, g3, g4, g5, g6, g7, g8, g9⟩ := B2N (w := w) (W := w1) E n bl) | (go_at_call 118; (with_reducible refine (KI.out _ ?_).mono ?_); (exact bl); rintro e w2 ⟨rfl, hb2⟩; obtain ⟨g0, g1, g2, g3, g4, g5, g6, g7, g8, g9⟩ := B2N (w := w) (W := w2) E n bl) | (go_at_call 118; (with_reducible refine (KO.out _ ?_).mono ?_); (exact bl); rintro e w3 ⟨rfl, hb3⟩; obtain ⟨g0, g1, g2, g3, g4, g5, g6, g7, g8, g9⟩ := B2N (w := w) (W := w3) E n bl) | (go_at_call 118; (with_reducible refine (KL.out _ ?_).mono ?_); (exact bl); rintro e w4 ⟨rfl, hb4⟩; obtain ⟨g0, g1, g2, g3, g4, g5, g6, g7, g8, g9⟩ := B2N (w := w) (W := w4) E n bl))
      go_ret
      exact ⟨(by first | rfl | assumption), bl⟩
  · have y_u : (u == 0) = false := by simp [h_u]
    rw [orEn h_u]
    clear h_u
    go_enter Tryz.func84, Tryz.ntmps84
    go_wp2_with (first | (go_at_call 81; (with_reducible refine (K.out _ ?_).mono ?_); (exact bl); rintro e w1 ⟨rfl, hb1⟩; obtain ⟨g0, g1, g2, g3, g4, g5, g6, g7, g8, g9⟩ := B2N (w := w) (W := w1) E n bl) | (go_at_call 118; (with_reducible refine (KI.out _ ?_).mono ?_); (exact bl); rintro e w2 ⟨rfl, hb2⟩; obtain ⟨g0, g1, g2, g3, g4, g5, g6, g7, g8, g9⟩ := B2N (w := w) (W := w2) E n bl) | (go_at_call 118; (with_reducible refine (KO.out _ ?_).mono ?_); (exact bl); rintro e w3 ⟨rfl, hb3⟩; obtain ⟨g0, g1, g2, g3, g4, g5, g6, g7, g8, g9⟩ := B2N (w := w) (W := w3) E n bl) | (go_at_call 118; (with_reducible refine (KL.out _ ?_).mono ?_); (exact bl); rintro e w4 ⟨rfl, hb4⟩; obtain ⟨g0, g1, g2, g3, g4, g5, g6, g7, g8, g9⟩ := B2N (w := w) (W := w4) E n bl))
    go_ret
    exact ⟨(by first | rfl | assumption), bl⟩
def AutC (r : Nat) : Prop := ∀ (E : Rw va.En) (a : Rw St) (p q : Addr) (w : World), Std w → RsE w w.heap.size E → RsA w w.heap.size a → Cap w p (.int .i64 ((3 : Int) - (r : Int))) → Cap w q (.slice E.A E.l.length E.c) →
    Calls Tryz.prog 121 #[aV a, .pointer (some p), .pointer (some q)] w (Bel (.int .i64 (autE E.l r a)) w)
set_option maxHeartbeats 4000000 in
set_option maxRecDepth 20000 in
theorem sh_state1 (r : Nat) (hr : r + 1 ≤ 3) (IH : Hid (AutC r)) (E : Rw va.En) (n : Int) (s : St) (c p q : Addr) (w : World) (hs : Std w) (hE : RsE w w.heap.size E) (hS : RsS w w.heap.size s)
    (hc : Cap w c (.slice E.A E.l.length E.c)) (hp : Cap w p (.int .i64 ((3 : Int) - ((r + 1 : Nat) : Int)))) (hq : Cap w q (.int .i64 n)) :
    Calls Tryz.prog 159 #[sV s, .pointer (some c), .pointer (some p), .pointer (some q)] w (Bel (.int .i64 (staE E.l (autE E.l r) n s)) w) := by
  obtain ⟨h1, h2, h3, h4, h5, h6, h7, h8⟩ := hS.of
  have hau : RsAs w w.heap.size s.au := ⟨h4, fun a ha => ⟨h5 a ha, h6 a ha⟩⟩
  obtain ⟨m, hm⟩ : ∃ m : Int, (3 : Int) - ((r + 1 : Nat) : Int) = m := ⟨_, rfl⟩
  have hm1 : (3 : Int) - (r : Int) = m + 1 := by omega
  rw [hm] at hp
  have u1 : IntKind.i64.wrap (m + 1) = m + 1 := Go.IntWalk.i64_in _ ⟨by omega, by omega⟩
  have K := Lib.hid (fun W (h : Below w.heap.size w W) => ident_any s.nm W (hs.to h) h1)
  have KL : Hid (∀ W, Below w.heap.size w W → Calls Tryz.prog 118 #[.slice s.lc.A s.lc.l.length s.lc.c, .func (.func 120) #[ckV E] #[]] W (Bel (.int .i64 (errs (s.lc.l.map (locE E.l)))) W)) := Lib.hid fun W h =>
    first_Decl_local (ckV E) s.lc (locE E.l) W ((h2.blw h h.size).1) (Lib.hid fun y hy W' h' => sh_local E y W' (hs.to (h.trans (h'.mono h.size))) (hE.blw (h.trans (h'.mono h.size)) (Nat.le_trans h.size h'.size)) ((h2.blw (h.trans (h'.mono h.size)) (Nat.le_trans h.size h'.size)).2 y hy))
  have KQ : Hid (∀ W, Below w.heap.size w W → Calls Tryz.prog 160 #[.slice s.qs.A s.qs.l.length s.qs.c, .func (.func 85) #[ckV E] #[]] W (Bel (.int .i64 (errs (s.qs.l.map (eqnE E.l)))) W)) := Lib.hid fun W h =>
    first_Eq_equation (ckV E) s.qs (eqnE E.l) W ((h3.blw h h.size).1) (Lib.hid fun y hy W' h' => sh_equation E y W' (hs.to (h.trans (h'.mono h.size))) (hE.blw (h.trans (h'.mono h.size)) (Nat.le_trans h.size h'.size)) ((h3.blw (h.trans (h'.mono h.size)) (Nat.le_trans h.size h'.size)).2 y hy))
  have KA := Lib.hid (fun W => sh_automaton E (m + 1) W)
  have KU := Lib.hid (fun W => sh_unless E n W)
  have KT := Lib.hid (fun W => sh_transition E n W)
  have KFA : Hid (∀ p' q' W, Cap W p' (.int .i64 (m + 1)) → Cap W q' (.slice E.A E.l.length E.c) → Below w.heap.size w W → Calls Tryz.prog 86 #[.slice s.au.A s.au.l.length s.au.c, .func (.func 121) #[] #[.pointer (some p'), .pointer (some q')]] W (Bel (.int .i64 (errs (s.au.l.map (autE E.l r)))) W)) := Lib.hid fun p' q' W kp kq h =>
    first_Auto_automaton1 _ _ s.au (autE E.l r) W ((hau.blw h h.size).1) (Lib.hid fun y hy W' h' => IH.out E y p' q' W' (hs.to (h.trans (h'.mono h.size))) (hE.blw (h.trans (h'.mono h.size)) (Nat.le_trans h.size h'.size)) ((hau.blw (h.trans (h'.mono h.size)) (Nat.le_trans h.size h'.size)).2 y hy) (by rw [hm1]; exact kp.to h') (kq.to h'))
  have KFU : Hid (∀ c' p' q' W, Cap W c' (.func (.func 186) #[] #[.pointer (some p'), .pointer (some q')]) → Cap W p' (.int .i64 n) → Cap W q' (.slice E.A E.l.length E.c) → Below w.heap.size w W → Calls Tryz.prog 161 #[.slice s.un.A s.un.l.length s.un.c, .func (.func 184) #[] #[.pointer (some c')]] W (Bel (.int .i64 (errs (s.un.l.map (trnE E.l n true)))) W)) := Lib.hid fun c' p' q' W kc kp kq h =>
    first_Trans_unless1 _ s.un (trnE E.l n true) W ((h7.blw h h.size).1) (Lib.hid fun y hy W' h' => sh_unless1 E n y c' p' q' W' (hs.to (h.trans (h'.mono h.size))) (hE.blw (h.trans (h'.mono h.size)) (Nat.le_trans h.size h'.size)) ((h7.blw (h.trans (h'.mono h.size)) (Nat.le_trans h.size h'.size)).2 y hy) (kc.to h') (kp.to h') (kq.to h'))
  have KFT : Hid (∀ p' q' W, Cap W p' (.int .i64 n) → Cap W q' (.slice E.A E.l.length E.c) → Below w.heap.size w W → Calls Tryz.prog 161 #[.slice s.ut.A s.ut.l.length s.ut.c, .func (.func 186) #[] #[.pointer (some p'), .pointer (some q')]] W (Bel (.int .i64 (errs (s.ut.l.map (trnE E.l n false)))) W)) := Lib.hid fun p' q' W kp kq h =>
    first_Trans_transition1 _ _ s.ut (trnE E.l n false) W ((h8.blw h h.size).1) (Lib.hid fun y hy W' h' => sh_trans1 E n y p' q' W' (hs.to (h.trans (h'.mono h.size))) (hE.blw (h.trans (h'.mono h.size)) (Nat.le_trans h.size h'.size)) ((h8.blw (h.trans (h'.mono h.size)) (Nat.le_trans h.size h'.size)).2 y hy) (kp.to h') (kq.to h'))
  have HC : Hid (∀ W, Below w.heap.size w W → W.cell? c = some (.slice E.A E.l.length E.c) ∧ W.cell? p = some (.int .i64 m) ∧ W.cell? q = some (.int .i64 n)) := Lib.hid fun W h => ⟨(hc.to h).1, (hp.to h).1, (hq.to h).1⟩
  have TB : Hid (∀ W, Below (w.alloc (.cells #[.string s.nm, .slice s.lc.A s.lc.l.length s.lc.c, .slice s.qs.A s.qs.l.length s.qs.c, .slice s.au.A s.au.l.length s.au.c, .slice s.un.A s.un.l.length s.un.c, .slice s.ut.A s.ut.l.length s.ut.c] 95)).heap.size (w.alloc (.cells #[.string s.nm, .slice s.lc.A s.lc.l.length s.lc.c, .slice s.qs.A s.qs.l.length s.qs.c, .slice s.au.A s.au.l.length s.au.c, .slice s.un.A s.un.l.length s.un.c, .slice s.ut.A s.ut.l.length s.ut.c] 95)) W → W.cell? ⟨w.heap.size, 0, none⟩ = some (.string s.nm) ∧ W.cell? ⟨w.heap.size, 1, none⟩ = some (.slice s.lc.A s.lc.l.length s.lc.c) ∧ W.cell? ⟨w.heap.size, 2, none⟩ = some (.slice s.qs.A s.qs.l.length s.qs.c) ∧ W.cell? ⟨w.heap.size, 3, none⟩ = some (.slice s.au.A s.au.l.length s.au.c) ∧ W.cell? ⟨w.heap.size, 4, none⟩ = some (.slice s.un.A s.un.l.length s.un.c) ∧ W.cell? ⟨w.heap.size, 5, none⟩ = some (.slice s.ut.A s.ut.l.length s.ut.c) ∧ W.cell? c = some (.slice E.A E.l.length E.c) ∧ W.cell? p = some (.int .i64 m) ∧ W.cell? q = some (.int .i64 n)) := Lib.hid fun W h => by
    obtain ⟨g0, g1, g2, g3, g4, g5, g6⟩ := B1S s h
    have hb : Below w.heap.size w W := (bel_box _).trans (h.mono (by rw [World.size_alloc]; omega))
    obtain ⟨k0, k1, k2⟩ := HC.out W hb
    exact ⟨g0, g1, g2, g3, g4, g5, k0, k1, k2⟩
  have a0 := hc.al
  have a1 := hp.al
  have a2 := hq.al
  unfold staE
  generalize errs (s.lc.l.map (locE E.l)) = v1 at *
  generalize errs (s.qs.l.map (eqnE E.l)) = v2 at *
  generalize errs (s.au.l.map (autE E.l r)) = v3 at *
  generalize errs (s.un.l.map (trnE E.l n true)) = v4 at *
  generalize errs (s.ut.l.map (trnE E.l n false)) = v5 at *
  generalize idP s.nm = b at *
  clear hs hE hS h1 h2 h3 h4 h5 h6 h7 h8 hau hc hp hq hm hm1 IH hr
  cases b
  · rw [if_neg (by simp)]
    go_enter Tryz.func159, Tryz.ntmps159
    go_wp2_with (first | (go_at_call 81; (with_reducible refine (K.out _ ?_).mono ?_); (exact bl); rintro e w1 ⟨rfl, hb1⟩; obtain ⟨g0, g1, g2, g3, g4, g5, g6⟩ := B1S (w := w) (W := w1) s bl; obtain ⟨k0, k1, k2⟩ := HC.out w1 bl))
    go_ret
    exact ⟨(by first | rfl | assumption), bl⟩
  rw [if_pos rfl]
  by_cases z0 : 256 < s.lc.l.length
  · have q0 : (256 : Int) < (s.lc.l.length : Int) := by omega
    rw [if_pos (by omega)]
    clear z0
    go_enter Tryz.func159, Tryz.ntmps159
    go_wp2_with (first | (go_at_call 81; (with_reducible refine (K.out _ ?_).mono ?_); (exact bl); rintro e w1 ⟨rfl, hb1⟩; obtain ⟨g0, g1, g2, g3, g4, g5, g6⟩ := B1S (w := w) (W := w1) s bl; obtain ⟨k0, k1, k2⟩ := HC.out w1 bl))
    go_ret
    exact ⟨(by first | rfl | assumption), bl⟩
  have q0 : (s.lc.l.length : Int) ≤ (256 : Int) := by omega
  by_cases z1 : 256 < s.qs.l.length
  · have q1 : (256 : Int) < (s.qs.l.length : Int) := by omega
    rw [if_pos (by omega)]
    clear z0 z1
    go_enter Tryz.func159, Tryz.ntmps159
    go_wp2_with (first | (go_at_call 81; (with_reducible refine (K.out _ ?_).mono ?_); (exact bl); rintro e w1 ⟨rfl, hb1⟩; obtain ⟨g0, g1, g2, g3, g4, g5, g6⟩ := B1S (w := w) (W := w1) s bl; obtain ⟨k0, k1, k2⟩ := HC.out w1 bl))
    go_ret
    exact ⟨(by first | rfl | assumption), bl⟩
  have q1 : (s.qs.l.length : Int) ≤ (256 : Int) := by omega
  by_cases z2 : 8 < s.au.l.length
  · have q2 : (8 : Int) < (s.au.l.length : Int) := by omega
    rw [if_pos (by omega)]
    clear z0 z1 z2
    go_enter Tryz.func159, Tryz.ntmps159
    go_wp2_with (first | (go_at_call 81; (with_reducible refine (K.out _ ?_).mono ?_); (exact bl); rintro e w1 ⟨rfl, hb1⟩; obtain ⟨g0, g1, g2, g3, g4, g5, g6⟩ := B1S (w := w) (W := w1) s bl; obtain ⟨k0, k1, k2⟩ := HC.out w1 bl))
    go_ret
    exact ⟨(by first | rfl | assumption), bl⟩
  have q2 : (s.au.l.length : Int) ≤ (8 : Int) := by omega
  by_cases z3 : 4 < s.un.l.length
  · have q3 : (4 : Int) < (s.un.l.length : Int) := by omega
    rw [if_pos (by omega)]
    clear z0 z1 z2 z3
    go_enter Tryz.func159, Tryz.ntmps159
    go_wp2_with (first | (go_at_call 81; (with_reducible refine (K.out _ ?_).mono ?_); (exact bl); rintro e w1 ⟨rfl, hb1⟩; obtain ⟨g0, g1, g2, g3, g4, g5, g6⟩ := B1S (w := w) (W := w1) s bl; obtain ⟨k0, k1, k2⟩ := HC.out w1 bl))
    go_ret
    exact ⟨(by first | rfl | assumption), bl⟩
  have q3 : (s.un.l.length : Int) ≤ (4 : Int) := by omega
  by_cases z4 : 4 < s.ut.l.length
  · have q4 : (4 : Int) < (s.ut.l.length : Int) := by omega
    rw [if_pos (by omega)]
    clear z0 z1 z2 z3 z4
    go_enter Tryz.func159, Tryz.ntmps159
    go_wp2_with (first | (go_at_call 81; (with_reducible refine (K.out _ ?_).mono ?_); (exact bl); rintro e w1 ⟨rfl, hb1⟩; obtain ⟨g0, g1, g2, g3, g4, g5, g6⟩ := B1S (w := w) (W := w1) s bl; obtain ⟨k0, k1, k2⟩ := HC.out w1 bl))
    go_ret
    exact ⟨(by first | rfl | assumption), bl⟩
  have q4 : (s.ut.l.length : Int) ≤ (4 : Int) := by omega
  rw [if_neg (by omega)]
  clear z0 z1 z2 z3 z4
  by_cases h_v1 : v1 = 0
  · subst h_v1
    rw [orE0]
    by_cases h_v2 : v2 = 0
    · subst h_v2
      rw [orE0]
      by_cases h_v3 : v3 = 0
      · subst h_v3
        rw [orE0]
        by_cases h_v4 : v4 = 0
        · subst h_v4
          rw [orE0]
          go_enter Tryz.func159, Tryz.ntmps159
          go_wp2_with (first | (go_at_call 81; (with_reducible refine (K.out _ ?_).mono ?_); (exact bl); rintro e w1 ⟨rfl, hb1⟩; obtain ⟨g0, g1, g2, g3, g4, g5, g6⟩ := B1S (w := w) (W := w1) s bl; obtain ⟨k0, k1, k2⟩ := HC.out w1 bl) | (go_at_call 118; (with_reducible refine (KL.out _ ?_).mono ?_); (exact bl); rintro e w2 ⟨rfl, hb2⟩; obtain ⟨g0, g1, g2, g3, g4, g5, g6⟩ := B1S (w := w) (W := w2) s bl; obtain ⟨k0, k1, k2⟩ := HC.out w2 bl) | (go_at_call 160; (with_reducible refine (KQ.out _ ?_).mono ?_); (exact bl); rintro e w3 ⟨rfl, hb3⟩; obtain ⟨g0, g1, g2, g3, g4, g5, g6⟩ := B1S (w := w) (W := w3) s bl; obtain ⟨k0, k1, k2⟩ := HC.out w3 bl))
          go_region_held3 (fun w' => w'.cell? ⟨w.heap.size, 0, none⟩ = some (.string s.nm) ∧ w'.cell? ⟨w.heap.size, 1, none⟩ = some (.slice s.lc.A s.lc.l.length s.lc.c) ∧ w'.cell? ⟨w.heap.size, 2, none⟩ = some (.slice s.qs.A s.qs.l.length s.qs.c) ∧ w'.cell? ⟨w.heap.size, 3, none⟩ = some (.slice s.au.A s.au.l.length s.au.c) ∧ w'.cell? ⟨w.heap.size, 4, none⟩ = some (.slice s.un.A s.un.l.length s.un.c) ∧ w'.cell? ⟨w.heap.size, 5, none⟩ = some (.slice s.ut.A s.ut.l.length s.ut.c) ∧ w'.cell? c = some (.slice E.A E.l.length E.c) ∧ w'.cell? p = some (.int .i64 m) ∧ w'.cell? q = some (.int .i64 n))
            ((refine TB.out _ ?_; (exact bl)))
            (first | (go_at_call 87; (with_reducible refine (KA.out _).mono ?_); rintro e w4 ⟨p4, q4, rfl, hp4, hq4, hb4⟩) | (go_at_call 86; (with_reducible refine (KFA.out _ _ _ hp4 hq4 ?_).mono ?_); (exact bl); rintro e w5 ⟨rfl, hb5⟩))
          go_wp2
          go_region_held3 (fun w' => w'.cell? ⟨w.heap.size, 0, none⟩ = some (.string s.nm) ∧ w'.cell? ⟨w.heap.size, 1, none⟩ = some (.slice s.lc.A s.lc.l.length s.lc.c) ∧ w'.cell? ⟨w.heap.size, 2, none⟩ = some (.slice s.qs.A s.qs.l.length s.qs.c) ∧ w'.cell? ⟨w.heap.size, 3, none⟩ = some (.slice s.au.A s.au.l.length s.au.c) ∧ w'.cell? ⟨w.heap.size, 4, none⟩ = some (.slice s.un.A s.un.l.length s.un.c) ∧ w'.cell? ⟨w.heap.size, 5, none⟩ = some (.slice s.ut.A s.ut.l.length s.ut.c) ∧ w'.cell? c = some (.slice E.A E.l.length E.c) ∧ w'.cell? p = some (.int .i64 m) ∧ w'.cell? q = some (.int .i64 n))
            ((refine TB.out _ ?_; (exact bl)))
            (first | (go_at_call 162; (with_reducible refine (KU.out _).mono ?_); rintro e w6 ⟨c6, p6, q6, rfl, hc6, hp6, hq6, hb6⟩) | (go_at_call 161; (with_reducible refine (KFU.out _ _ _ _ hc6 hp6 hq6 ?_).mono ?_); (exact bl); rintro e w7 ⟨rfl, hb7⟩))
          go_wp2
          go_region_held3 (fun w' => w'.cell? ⟨w.heap.size, 0, none⟩ = some (.string s.nm) ∧ w'.cell? ⟨w.heap.size, 1, none⟩ = some (.slice s.lc.A s.lc.l.length s.lc.c) ∧ w'.cell? ⟨w.heap.size, 2, none⟩ = some (.slice s.qs.A s.qs.l.length s.qs.c) ∧ w'.cell? ⟨w.heap.size, 3, none⟩ = some (.slice s.au.A s.au.l.length s.au.c) ∧ w'.cell? ⟨w.heap.size, 4, none⟩ = some (.slice s.un.A s.un.l.length s.un.c) ∧ w'.cell? ⟨w.heap.size, 5, none⟩ = some (.slice s.ut.A s.ut.l.length s.ut.c) ∧ w'.cell? c = some (.slice E.A E.l.length E.c) ∧ w'.cell? p = some (.int .i64 m) ∧ w'.cell? q = some (.int .i64 n))
            ((refine TB.out _ ?_; (exact bl)))
            (first | (go_at_call 163; (with_reducible refine (KT.out _).mono ?_); rintro e w8 ⟨p8, q8, rfl, hp8, hq8, hb8⟩) | (go_at_call 161; (with_reducible refine (KFT.out _ _ _ hp8 hq8 ?_).mono ?_); (exact bl); rintro e w9 ⟨rfl, hb9⟩))
          all_goals
            go_wp2
            go_ret
            exact ⟨(by first | rfl | assumption), bl⟩
        · have y_v4 : (v4 == 0) = false := by simp [h_v4]
          rw [orEn h_v4]
          clear h_v4
          go_enter Tryz.func159, Tryz.ntmps159
          go_wp2_with (first | (go_at_call 81; (with_reducible refine (K.out _ ?_).mono ?_); (exact bl); rintro e w1 ⟨rfl, hb1⟩; obtain ⟨g0, g1, g2, g3, g4, g5, g6⟩ := B1S (w := w) (W := w1) s bl; obtain ⟨k0, k1, k2⟩ := HC.out w1 bl) | (go_at_call 118; (with_reducible refine (KL.out _ ?_).mono ?_); (exact bl); rintro e w2 ⟨rfl, hb2⟩; obtain ⟨g0, g1, g2, g3, g4, g5, g6⟩ := B1S (w := w) (W := w2) s bl; obtain ⟨k0, k1, k2⟩ := HC.out w2 bl) | (go_at_call 160; (with_reducible refine (KQ.out _ ?_).mono ?_); (exact bl); rintro e w3 ⟨rfl, hb3⟩; obtain ⟨g0, g1, g2, g3, g4, g5, g6⟩ := B1S (w := w) (W := w3) s bl; obtain ⟨k0, k1, k2⟩ := HC.out w3 bl))
          go_region_held3 (fun w' => w'.cell? ⟨w.heap.size, 0, none⟩ = some (.string s.nm) ∧ w'.cell? ⟨w.heap.size, 1, none⟩ = some (.slice s.lc.A s.lc.l.length s.lc.c) ∧ w'.cell? ⟨w.heap.size, 2, none⟩ = some (.slice s.qs.A s.qs.l.length s.qs.c) ∧ w'.cell? ⟨w.heap.size, 3, none⟩ = some (.slice s.au.A s.au.l.length s.au.c) ∧ w'.cell? ⟨w.heap.size, 4, none⟩ = some (.slice s.un.A s.un.l.length s.un.c) ∧ w'.cell? ⟨w.heap.size, 5, none⟩ = some (.slice s.ut.A s.ut.l.length s.ut.c) ∧ w'.cell? c = some (.slice E.A E.l.length E.c) ∧ w'.cell? p = some (.int .i64 m) ∧ w'.cell? q = some (.int .i64 n))
            ((refine TB.out _ ?_; (exact bl)))
            (first | (go_at_call 87; (with_reducible refine (KA.out _).mono ?_); rintro e w4 ⟨p4, q4, rfl, hp4, hq4, hb4⟩) | (go_at_call 86; (with_reducible refine (KFA.out _ _ _ hp4 hq4 ?_).mono ?_); (exact bl); rintro e w5 ⟨rfl, hb5⟩))
          go_wp2
          go_region_held3 (fun w' => w'.cell? ⟨w.heap.size, 0, none⟩ = some (.string s.nm) ∧ w'.cell? ⟨w.heap.size, 1, none⟩ = some (.slice s.lc.A s.lc.l.length s.lc.c) ∧ w'.cell? ⟨w.heap.size, 2, none⟩ = some (.slice s.qs.A s.qs.l.length s.qs.c) ∧ w'.cell? ⟨w.heap.size, 3, none⟩ = some (.slice s.au.A s.au.l.length s.au.c) ∧ w'.cell? ⟨w.heap.size, 4, none⟩ = some (.slice s.un.A s.un.l.length s.un.c) ∧ w'.cell? ⟨w.heap.size, 5, none⟩ = some (.slice s.ut.A s.ut.l.length s.ut.c) ∧ w'.cell? c = some (.slice E.A E.l.length E.c) ∧ w'.cell? p = some (.int .i64 m) ∧ w'.cell? q = some (.int .i64 n))
            ((refine TB.out _ ?_; (exact bl)))
            (first | (go_at_call 162; (with_reducible refine (KU.out _).mono ?_); rintro e w6 ⟨c6, p6, q6, rfl, hc6, hp6, hq6, hb6⟩) | (go_at_call 161; (with_reducible refine (KFU.out _ _ _ _ hc6 hp6 hq6 ?_).mono ?_); (exact bl); rintro e w7 ⟨rfl, hb7⟩))
          all_goals
            go_wp2
            go_ret
            exact ⟨(by first | rfl | assumption), bl⟩
      · have y_v3 : (v3 == 0) = false := by simp [h_v3]
        rw [orEn h_v3]
        clear h_v3
        go_enter Tryz.func159, Tryz.ntmps159
        go_wp2_with (first | (go_at_call 81; (with_reducible refine (K.out _ ?_).mono ?_); (exact bl); rintro e w1 ⟨rfl, hb1⟩; obtain ⟨g0, g1, g2, g3, g4, g5, g6⟩ := B1S (w := w) (W := w1) s bl; obtain ⟨k0, k1, k2⟩ := HC.out w1 bl) | (go_at_call 118; (with_reducible refine (KL.out _ ?_).mono ?_); (exact bl); rintro e w2 ⟨rfl, hb2⟩; obtain ⟨g0, g1, g2, g3, g4, g5, g6⟩ := B1S (w := w) (W := w2) s bl; obtain ⟨k0, k1, k2⟩ := HC.out w2 bl) | (go_at_call 160; (with_reducible refine (KQ.out _ ?_).mono ?_); (exact bl); rintro e w3 ⟨rfl, hb3⟩; obtain ⟨g0, g1, g2, g3, g4, g5, g6⟩ := B1S (w := w) (W := w3) s bl; obtain ⟨k0, k1, k2⟩ := HC.out w3 bl))
        go_region_held3 (fun w' => w'.cell? ⟨w.heap.size, 0, none⟩ = some (.string s.nm) ∧ w'.cell? ⟨w.heap.size, 1, none⟩ = some (.slice s.lc.A s.lc.l.length s.lc.c) ∧ w'.cell? ⟨w.heap.size, 2, none⟩ = some (.slice s.qs.A s.qs.l.length s.qs.c) ∧ w'.cell? ⟨w.heap.size, 3, none⟩ = some (.slice s.au.A s.au.l.length s.au.c) ∧ w'.cell? ⟨w.heap.size, 4, none⟩ = some (.slice s.un.A s.un.l.length s.un.c) ∧ w'.cell? ⟨w.heap.size, 5, none⟩ = some (.slice s.ut.A s.ut.l.length s.ut.c) ∧ w'.cell? c = some (.slice E.A E.l.length E.c) ∧ w'.cell? p = some (.int .i64 m) ∧ w'.cell? q = some (.int .i64 n))
          ((refine TB.out _ ?_; (exact bl)))
          (first | (go_at_call 87; (with_reducible refine (KA.out _).mono ?_); rintro e w4 ⟨p4, q4, rfl, hp4, hq4, hb4⟩) | (go_at_call 86; (with_reducible refine (KFA.out _ _ _ hp4 hq4 ?_).mono ?_); (exact bl); rintro e w5 ⟨rfl, hb5⟩))
        all_goals
          go_wp2
          go_ret
          exact ⟨(by first | rfl | assumption), bl⟩
    · have y_v2 : (v2 == 0) = false := by simp [h_v2]
      rw [orEn h_v2]
      clear h_v2
      go_enter Tryz.func159, Tryz.ntmps159
      go_wp2_with (first | (go_at_call 81; (with_reducible refine (K.out _ ?_).mono ?_); (exact bl); rintro e w1 ⟨rfl, hb1⟩; obtain ⟨g0, g1, g2, g3, g4, g5, g6⟩ := B1S (w := w) (W := w1) s bl; obtain ⟨k0, k1, k2⟩ := HC.out w1 bl) | (go_at_call 118; (with_reducible refine (KL.out _ ?_).mono ?_); (exact bl); rintro e w2 ⟨rfl, hb2⟩; obtain ⟨g0, g1, g2, g3, g4, g5, g6⟩ := B1S (w := w) (W := w2) s bl; obtain ⟨k0, k1, k2⟩ := HC.out w2 bl) | (go_at_call 160; (with_reducible refine (KQ.out _ ?_).mono ?_); (exact bl); rintro e w3 ⟨rfl, hb3⟩; obtain ⟨g0, g1, g2, g3, g4, g5, g6⟩ := B1S (w := w) (W := w3) s bl; obtain ⟨k0, k1, k2⟩ := HC.out w3 bl))
      go_ret
      exact ⟨(by first | rfl | assumption), bl⟩
  · have y_v1 : (v1 == 0) = false := by simp [h_v1]
    rw [orEn h_v1]
    clear h_v1
    go_enter Tryz.func159, Tryz.ntmps159
    go_wp2_with (first | (go_at_call 81; (with_reducible refine (K.out _ ?_).mono ?_); (exact bl); rintro e w1 ⟨rfl, hb1⟩; obtain ⟨g0, g1, g2, g3, g4, g5, g6⟩ := B1S (w := w) (W := w1) s bl; obtain ⟨k0, k1, k2⟩ := HC.out w1 bl) | (go_at_call 118; (with_reducible refine (KL.out _ ?_).mono ?_); (exact bl); rintro e w2 ⟨rfl, hb2⟩; obtain ⟨g0, g1, g2, g3, g4, g5, g6⟩ := B1S (w := w) (W := w2) s bl; obtain ⟨k0, k1, k2⟩ := HC.out w2 bl) | (go_at_call 160; (with_reducible refine (KQ.out _ ?_).mono ?_); (exact bl); rintro e w3 ⟨rfl, hb3⟩; obtain ⟨g0, g1, g2, g3, g4, g5, g6⟩ := B1S (w := w) (W := w3) s bl; obtain ⟨k0, k1, k2⟩ := HC.out w3 bl))
    go_ret
    exact ⟨(by first | rfl | assumption), bl⟩
set_option maxHeartbeats 4000000 in
set_option maxRecDepth 20000 in
theorem sh_aut1 (r : Nat) : r ≤ 3 → AutC r := by
  induction r with
  | zero =>
    intro _ E a p q w hs hE hA hp hq
    rw [show (3 : Int) - ((0 : Nat) : Int) = 3 from rfl] at hp
    have p0 := hp.1
    have q0 := hq.1
    have p1 := hp.al
    have q1 := hq.al
    unfold autE
    clear hs hE hA hp hq
    go_enter Tryz.func121, Tryz.ntmps121
    go_wp2
    go_ret
    exact ⟨rfl, bl⟩
  | succ r ih =>
    intro hr E a p q w hs hE hA hp hq
    have IH := Lib.hid (ih (by omega))
    have hl := hA.1.len
    unfold maxLen at hl
    obtain ⟨m, hm⟩ : ∃ m : Int, (3 : Int) - ((r + 1 : Nat) : Int) = m := ⟨_, rfl⟩
    have hm3 : m < 3 := by omega
    have KS := Lib.hid (fun W => sh_state E a.l.length m W)
    have KF : Hid (∀ c' p' q' W, Cap W c' (.slice E.A E.l.length E.c) → Cap W p' (.int .i64 m) → Cap W q' (.int .i64 a.l.length) → Below w.heap.size w W → Calls Tryz.prog 122 #[.slice a.A a.l.length a.c, .func (.func 159) #[] #[.pointer (some c'), .pointer (some p'), .pointer (some q')]] W (Bel (.int .i64 (errs (a.l.map (staE E.l (autE E.l r) a.l.length)))) W)) := Lib.hid fun c' p' q' W kc kp kq h =>
      first_State_state1 _ _ _ a (staE E.l (autE E.l r) a.l.length) W ((hA.blw h h.size).1) (Lib.hid fun y hy W' h' => sh_state1 r hr IH E a.l.length y c' p' q' W' (hs.to (h.trans (h'.mono h.size))) (hE.blw (h.trans (h'.mono h.size)) (Nat.le_trans h.size h'.size)) ((hA.blw (h.trans (h'.mono h.size)) (Nat.le_trans h.size h'.size)).2 y hy) (kc.to h') (by rw [hm]; exact kp.to h') (kq.to h'))
    rw [hm] at hp
    have p0 := hp.1
    have q0 := hq.1
    have p1 := hp.al
    have q1 := hq.al
    have TB : Hid (∀ W, Below (w.alloc (.cells #[.slice a.A a.l.length a.c] 92)).heap.size (w.alloc (.cells #[.slice a.A a.l.length a.c] 92)) W → W.cell? ⟨w.heap.size, 0, none⟩ = some (.slice a.A a.l.length a.c) ∧ W.cell? q = some (.slice E.A E.l.length E.c) ∧ W.cell? p = some (.int .i64 m)) := Lib.hid fun W h => by
      have hb : Below w.heap.size w W := (bel_box _).trans (h.mono (by rw [World.size_alloc]; omega))
      exact ⟨(B1A a h).1, (hq.to hb).1, (hp.to hb).1⟩
    unfold autE
    generalize errs (a.l.map (staE E.l (autE E.l r) a.l.length)) = v at *
    clear hs hE hA hp hq hm IH ih hr
    by_cases z0 : a.l.length = 0
    · have y0 : ((a.l.length : Int) == 0) = true := by simp [z0]
      rw [if_pos z0]
      clear z0
      go_enter Tryz.func121, Tryz.ntmps121
      go_wp2
      go_ret
      exact ⟨(by first | rfl | assumption), bl⟩
    have y0 : ((a.l.length : Int) == 0) = false := by simp [z0]
    rw [if_neg z0]
    by_cases z1 : 8 < a.l.length
    · have y1 : (8 : Int) < (a.l.length : Int) := by omega
      rw [if_pos z1]
      clear z0 z1
      go_enter Tryz.func121, Tryz.ntmps121
      go_wp2
      go_ret
      exact ⟨(by first | rfl | assumption), bl⟩
    have y1 : (a.l.length : Int) ≤ (8 : Int) := by omega
    rw [if_neg z1]
    clear z0 z1
    go_enter Tryz.func121, Tryz.ntmps121
    go_wp2
    go_region_held3 (fun w' => w'.cell? ⟨w.heap.size, 0, none⟩ = some (.slice a.A a.l.length a.c) ∧ w'.cell? q = some (.slice E.A E.l.length E.c) ∧ w'.cell? p = some (.int .i64 m))
      ((refine TB.out _ ?_; (exact bl)))
      (first | (go_at_call 123; (with_reducible refine (KS.out _).mono ?_); rintro e w1 ⟨c1, p1, q1, rfl, hc1, hp1, hq1, hb1⟩) | (go_at_call 122; (with_reducible refine (KF.out _ _ _ _ hc1 hp1 hq1 ?_).mono ?_); (exact bl); rintro e w2 ⟨rfl, hb2⟩))
    all_goals
      go_wp2
      go_ret
      exact ⟨(by first | rfl | assumption), bl⟩
end Go.Proofs.YtoimjcfdiljkjaaGreatDoor
