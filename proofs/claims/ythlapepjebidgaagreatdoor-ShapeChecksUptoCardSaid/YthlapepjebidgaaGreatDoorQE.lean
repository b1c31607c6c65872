/- Texts of one chain, in one file. -/
import Derived.Laws.EntriesVeiled
import Derived.Lib.QuietBelow
import Derived.Test.YthlapepjebidgaaGreatDoorQD
/- typed, within, expr, transition, unless, equation of the program. -/
namespace Go.Proofs.YthlapepjebidgaaGreatDoor
set_option linter.unusedVariables false
set_option linter.unusedSimpArgs false
open Go.RowKit
theorem RdX.rdr {w : World} {B : Nat} {x : Xt} (h : RdX w B x) : RdR w B 6 XC ⟨x.A, x.c, x.ar⟩ := by
  cases h with
  | mk x h0 h1 h2 h3 => exact ⟨h0, h1, h3.1.1, h3.2⟩
theorem mem_list_self (x : Xt) : x ∈ x.list := by rw [Xt.list_eq]; exact List.mem_cons_self
theorem RsX.kid {w : World} {B : Nat} {x y : Xt} (h : RsX w B x) (hy : y ∈ x.ar) : RsX w B y :=
  ⟨h.1.kid hy, fun z hz => h.2 z (by rw [Xt.list_eq]; exact List.mem_cons.2 (.inr (List.mem_flatten.2 ⟨_, List.mem_map_of_mem hy, hz⟩)))⟩
theorem RsX.nmb {w : World} {B : Nat} {x : Xt} (h : RsX w B x) : NmB x := fun y hy => (h.2 y hy).1
set_option maxHeartbeats 2000000 in
set_option maxRecDepth 20000 in
theorem sh_typed (E : Rw va.En) (x : Xt) (w : World) (hE : RsE w w.heap.size E) (hX : RsX w w.heap.size x) :
    Calls Tryz.prog 122 #[ckV E, xV x] w (Bel (.int .i64 (typE E.l x)) w) := by
  have ht := (hX.2 x (mem_list_self x)).2
  have KS := Lib.hid (fun W (h : Below w.heap.size w W) => va.size_any E.A E.c E.l x.t W (hE.blw h h.size).1 hE.len ht)
  have KH := Lib.hid (fun W (h : Below w.heap.size w W) => va.has_any E.A E.c E.l x.t x.v W (hE.blw h h.size).1 hE.len ht)
  have h9 := hX.1.len.1
  unfold maxLen at h9
  unfold typE
  generalize va.hasB E.l x.t x.v = hb at *
  generalize va.sizeT E.l x.t = sz at *
  clear ht hE hX
  simp only [xV]
  by_cases k0 : x.k = 1 ∨ x.k = 8 ∨ x.k = 9
  · rw [if_pos k0]
    have kk : ((x.k == 1) = true ∧ (x.k == 9) = false ∧ (x.k != 9) = true ∧ x.k ≠ 9) ∨ ((x.k == 1) = false ∧ (x.k == 8) = true ∧ (x.k == 9) = false ∧ (x.k != 9) = true ∧ x.k ≠ 9) ∨ ((x.k == 1) = false ∧ (x.k == 8) = false ∧ (x.k == 9) = true ∧ (x.k != 9) = false ∧ x.k = 9) := by
      rcases k0 with k | k | k <;> rw [k] <;> simp
    clear k0
    by_cases z0 : sz = 0
    · subst z0
      rw [if_pos rfl]
      rcases kk with ⟨k1, k3, k5, k4⟩ | ⟨k1, k2, k3, k5, k4⟩ | ⟨k1, k2, k3, k5, k4⟩
      all_goals
        clear k4
        go_enter Tryz.func122, Tryz.ntmps122
        go_wp2_with (go_at_call 153; (with_reducible refine (KS.out _ ?_).mono ?_); (focus ((repeat (first | (with_reducible exact Below.refl _ _) | (with_reducible assumption) | (with_reducible exact bel_box _) | (with_reducible refine bel_step ?_ (by with_reducible assumption)) | (with_reducible refine Below.drew ?_) | (with_reducible refine below_drewN ?_ _) | (with_reducible refine bel_alloc ?_ _))); done)); rintro e w1 ⟨rfl, hb1⟩; obtain ⟨g0, g1, g2, g3, g4, g5, g6, g7⟩ := B2X (w := w) (W := w1) E x (by repeat (first | (with_reducible exact Below.refl _ _) | (with_reducible assumption) | (with_reducible exact bel_box _) | (with_reducible refine bel_step ?_ (by with_reducible assumption)) | (with_reducible refine Below.drew ?_) | (with_reducible refine below_drewN ?_ _) | (with_reducible refine bel_alloc ?_ _))))
        go_ret
        exact ⟨rfl, (by repeat (first | (with_reducible exact Below.refl _ _) | (with_reducible assumption) | (with_reducible exact bel_box _) | (with_reducible refine bel_step ?_ (by with_reducible assumption)) | (with_reducible refine Below.drew ?_) | (with_reducible refine below_drewN ?_ _) | (with_reducible refine bel_alloc ?_ _)))⟩
    · rw [if_neg z0]
      have q0 : (sz == 0) = false := by simp [z0]
      rcases kk with ⟨k1, k3, k5, k4⟩ | ⟨k1, k2, k3, k5, k4⟩ | ⟨k1, k2, k3, k5, k4⟩
      · rw [if_neg (by intro h; exact k4 h.1)]
        cases hb
        · rw [if_pos ⟨k4, rfl⟩]
          clear k4 z0
          go_enter Tryz.func122, Tryz.ntmps122
          go_wp2_with (first | (go_at_call 153; (with_reducible refine (KS.out _ ?_).mono ?_); (focus ((repeat (first | (with_reducible exact Below.refl _ _) | (with_reducible assumption) | (with_reducible exact bel_box _) | (with_reducible refine bel_step ?_ (by with_reducible assumption)) | (with_reducible refine Below.drew ?_) | (with_reducible refine below_drewN ?_ _) | (with_reducible refine bel_alloc ?_ _))); done)); rintro e w1 ⟨rfl, hb1⟩; obtain ⟨g0, g1, g2, g3, g4, g5, g6, g7⟩ := B2X (w := w) (W := w1) E x (by repeat (first | (with_reducible exact Below.refl _ _) | (with_reducible assumption) | (with_reducible exact bel_box _) | (with_reducible refine bel_step ?_ (by with_reducible assumption)) | (with_reducible refine Below.drew ?_) | (with_reducible refine below_drewN ?_ _) | (with_reducible refine bel_alloc ?_ _)))) | (go_at_call 154; (with_reducible refine (KH.out _ ?_).mono ?_); (focus ((repeat (first | (with_reducible exact Below.refl _ _) | (with_reducible assumption) | (with_reducible exact bel_box _) | (with_reducible refine bel_step ?_ (by with_reducible assumption)) | (with_reducible refine Below.drew ?_) | (with_reducible refine below_drewN ?_ _) | (with_reducible refine bel_alloc ?_ _))); done)); rintro e w2 ⟨rfl, hb2⟩))
          go_ret
          exact ⟨rfl, (by repeat (first | (with_reducible exact Below.refl _ _) | (with_reducible assumption) | (with_reducible exact bel_box _) | (with_reducible refine bel_step ?_ (by with_reducible assumption)) | (with_reducible refine Below.drew ?_) | (with_reducible refine below_drewN ?_ _) | (with_reducible refine bel_alloc ?_ _)))⟩
        · rw [if_neg (by simp)]
          clear k4 z0
          go_enter Tryz.func122, Tryz.ntmps122
          go_wp2_with (first | (go_at_call 153; (with_reducible refine (KS.out _ ?_).mono ?_); (focus ((repeat (first | (with_reducible exact Below.refl _ _) | (with_reducible assumption) | (with_reducible exact bel_box _) | (with_reducible refine bel_step ?_ (by with_reducible assumption)) | (with_reducible refine Below.drew ?_) | (with_reducible refine below_drewN ?_ _) | (with_reducible refine bel_alloc ?_ _))); done)); rintro e w1 ⟨rfl, hb1⟩; obtain ⟨g0, g1, g2, g3, g4, g5, g6, g7⟩ := B2X (w := w) (W := w1) E x (by repeat (first | (with_reducible exact Below.refl _ _) | (with_reducible assumption) | (with_reducible exact bel_box _) | (with_reducible refine bel_step ?_ (by with_reducible assumption)) | (with_reducible refine Below.drew ?_) | (with_reducible refine below_drewN ?_ _) | (with_reducible refine bel_alloc ?_ _)))) | (go_at_call 154; (with_reducible refine (KH.out _ ?_).mono ?_); (focus ((repeat (first | (with_reducible exact Below.refl _ _) | (with_reducible assumption) | (with_reducible exact bel_box _) | (with_reducible refine bel_step ?_ (by with_reducible assumption)) | (with_reducible refine Below.drew ?_) | (with_reducible refine below_drewN ?_ _) | (with_reducible refine bel_alloc ?_ _))); done)); rintro e w2 ⟨rfl, hb2⟩))
          go_ret
          exact ⟨rfl, (by repeat (first | (with_reducible exact Below.refl _ _) | (with_reducible assumption) | (with_reducible exact bel_box _) | (with_reducible refine bel_step ?_ (by with_reducible assumption)) | (with_reducible refine Below.drew ?_) | (with_reducible refine below_drewN ?_ _) | (with_reducible refine bel_alloc ?_ _)))⟩
      · rw [if_neg (by intro h; exact k4 h.1)]
        cases hb
        · rw [if_pos ⟨k4, rfl⟩]
          clear k4 z0
          go_enter Tryz.func122, Tryz.ntmps122
          go_wp2_with (first | (go_at_call 153; (with_reducible refine (KS.out _ ?_).mono ?_); (focus ((repeat (first | (with_reducible exact Below.refl _ _) | (with_reducible assumption) | (with_reducible exact bel_box _) | (with_reducible refine bel_step ?_ (by with_reducible assumption)) | (with_reducible refine Below.drew ?_) | (with_reducible refine below_drewN ?_ _) | (with_reducible refine bel_alloc ?_ _))); done)); rintro e w1 ⟨rfl, hb1⟩; obtain ⟨g0, g1, g2, g3, g4, g5, g6, g7⟩ := B2X (w := w) (W := w1) E x (by repeat (first | (with_reducible exact Below.refl _ _) | (with_reducible assumption) | (with_reducible exact bel_box _) | (with_reducible refine bel_step ?_ (by with_reducible assumption)) | (with_reducible refine Below.drew ?_) | (with_reducible refine below_drewN ?_ _) | (with_reducible refine bel_alloc ?_ _)))) | (go_at_call 154; (with_reducible refine (KH.out _ ?_).mono ?_); (focus ((repeat (first | (with_reducible exact Below.refl _ _) | (with_reducible assumption) | (with_reducible exact bel_box _) | (with_reducible refine bel_step ?_ (by with_reducible assumption)) | (with_reducible refine Below.drew ?_) | (with_reducible refine below_drewN ?_ _) | (with_reducible refine bel_alloc ?_ _))); done)); rintro e w2 ⟨rfl, hb2⟩))
          go_ret
          exact ⟨rfl, (by repeat (first | (with_reducible exact Below.refl _ _) | (with_reducible assumption) | (with_reducible exact bel_box _) | (with_reducible refine bel_step ?_ (by with_reducible assumption)) | (with_reducible refine Below.drew ?_) | (with_reducible refine below_drewN ?_ _) | (with_reducible refine bel_alloc ?_ _)))⟩
        · rw [if_neg (by simp)]
          clear k4 z0
          go_enter Tryz.func122, Tryz.ntmps122
          go_wp2_with (first | (go_at_call 153; (with_reducible refine (KS.out _ ?_).mono ?_); (focus ((repeat (first | (with_reducible exact Below.refl _ _) | (with_reducible assumption) | (with_reducible exact bel_box _) | (with_reducible refine bel_step ?_ (by with_reducible assumption)) | (with_reducible refine Below.drew ?_) | (with_reducible refine below_drewN ?_ _) | (with_reducible refine bel_alloc ?_ _))); done)); rintro e w1 ⟨rfl, hb1⟩; obtain ⟨g0, g1, g2, g3, g4, g5, g6, g7⟩ := B2X (w := w) (W := w1) E x (by repeat (first | (with_reducible exact Below.refl _ _) | (with_reducible assumption) | (with_reducible exact bel_box _) | (with_reducible refine bel_step ?_ (by with_reducible assumption)) | (with_reducible refine Below.drew ?_) | (with_reducible refine below_drewN ?_ _) | (with_reducible refine bel_alloc ?_ _)))) | (go_at_call 154; (with_reducible refine (KH.out _ ?_).mono ?_); (focus ((repeat (first | (with_reducible exact Below.refl _ _) | (with_reducible assumption) | (with_reducible exact bel_box _) | (with_reducible refine bel_step ?_ (by with_reducible assumption)) | (with_reducible refine Below.drew ?_) | (with_reducible refine below_drewN ?_ _) | (with_reducible refine bel_alloc ?_ _))); done)); rintro e w2 ⟨rfl, hb2⟩))
          go_ret
          exact ⟨rfl, (by repeat (first | (with_reducible exact Below.refl _ _) | (with_reducible assumption) | (with_reducible exact bel_box _) | (with_reducible refine bel_step ?_ (by with_reducible assumption)) | (with_reducible refine Below.drew ?_) | (with_reducible refine below_drewN ?_ _) | (with_reducible refine bel_alloc ?_ _)))⟩
      · by_cases z1 : (x.ar.length : Int) = sz
        · rw [if_neg (by intro h; exact h.2 z1), if_neg (by intro h; exact h.1 k4)]
          have q1 : ((x.ar.length : Int) == sz) = true := by simp [z1]
          clear k4 z0 z1
          go_enter Tryz.func122, Tryz.ntmps122
          go_wp2_with (first | (go_at_call 153; (with_reducible refine (KS.out _ ?_).mono ?_); (focus ((repeat (first | (with_reducible exact Below.refl _ _) | (with_reducible assumption) | (with_reducible exact bel_box _) | (with_reducible refine bel_step ?_ (by with_reducible assumption)) | (with_reducible refine Below.drew ?_) | (with_reducible refine below_drewN ?_ _) | (with_reducible refine bel_alloc ?_ _))); done)); rintro e w1 ⟨rfl, hb1⟩; obtain ⟨g0, g1, g2, g3, g4, g5, g6, g7⟩ := B2X (w := w) (W := w1) E x (by repeat (first | (with_reducible exact Below.refl _ _) | (with_reducible assumption) | (with_reducible exact bel_box _) | (with_reducible refine bel_step ?_ (by with_reducible assumption)) | (with_reducible refine Below.drew ?_) | (with_reducible refine below_drewN ?_ _) | (with_reducible refine bel_alloc ?_ _)))) | (go_at_call 154; (with_reducible refine (KH.out _ ?_).mono ?_); (focus ((repeat (first | (with_reducible exact Below.refl _ _) | (with_reducible assumption) | (with_reducible exact bel_box _) | (with_reducible refine bel_step ?_ (by with_reducible assumption)) | (with_reducible refine Below.drew ?_) | (with_reducible refine below_drewN ?_ _) | (with_reducible refine bel_alloc ?_ _))); done)); rintro e w2 ⟨rfl, hb2⟩))
          go_ret
          exact ⟨rfl, (by repeat (first | (with_reducible exact Below.refl _ _) | (with_reducible assumption) | (with_reducible exact bel_box _) | (with_reducible refine bel_step ?_ (by with_reducible assumption)) | (with_reducible refine Below.drew ?_) | (with_reducible refine below_drewN ?_ _) | (with_reducible refine bel_alloc ?_ _)))⟩
        · rw [if_pos ⟨k4, z1⟩]
          have q1 : ((x.ar.length : Int) == sz) = false := by simp [z1]
          clear k4 z0 z1
          go_enter Tryz.func122, Tryz.ntmps122
          go_wp2_with (first | (go_at_call 153; (with_reducible refine (KS.out _ ?_).mono ?_); (focus ((repeat (first | (with_reducible exact Below.refl _ _) | (with_reducible assumption) | (with_reducible exact bel_box _) | (with_reducible refine bel_step ?_ (by with_reducible assumption)) | (with_reducible refine Below.drew ?_) | (with_reducible refine below_drewN ?_ _) | (with_reducible refine bel_alloc ?_ _))); done)); rintro e w1 ⟨rfl, hb1⟩; obtain ⟨g0, g1, g2, g3, g4, g5, g6, g7⟩ := B2X (w := w) (W := w1) E x (by repeat (first | (with_reducible exact Below.refl _ _) | (with_reducible assumption) | (with_reducible exact bel_box _) | (with_reducible refine bel_step ?_ (by with_reducible assumption)) | (with_reducible refine Below.drew ?_) | (with_reducible refine below_drewN ?_ _) | (with_reducible refine bel_alloc ?_ _)))) | (go_at_call 154; (with_reducible refine (KH.out _ ?_).mono ?_); (focus ((repeat (first | (with_reducible exact Below.refl _ _) | (with_reducible assumption) | (with_reducible exact bel_box _) | (with_reducible refine bel_step ?_ (by with_reducible assumption)) | (with_reducible refine Below.drew ?_) | (with_reducible refine below_drewN ?_ _) | (with_reducible refine bel_alloc ?_ _))); done)); rintro e w2 ⟨rfl, hb2⟩))
          go_ret
          exact ⟨rfl, (by repeat (first | (with_reducible exact Below.refl _ _) | (with_reducible assumption) | (with_reducible exact bel_box _) | (with_reducible refine bel_step ?_ (by with_reducible assumption)) | (with_reducible refine Below.drew ?_) | (with_reducible refine below_drewN ?_ _) | (with_reducible refine bel_alloc ?_ _)))⟩
  · rw [if_neg k0]
    have k1 : (x.k == 1) = false := by rw [beq_eq_false_iff_ne]; omega
    have k2 : (x.k == 8) = false := by rw [beq_eq_false_iff_ne]; omega
    have k3 : (x.k == 9) = false := by rw [beq_eq_false_iff_ne]; omega
    clear k0
    go_enter Tryz.func122, Tryz.ntmps122
    go_wp2
    go_ret
    exact ⟨rfl, (by repeat (first | (with_reducible exact Below.refl _ _) | (with_reducible assumption) | (with_reducible exact bel_box _) | (with_reducible refine bel_step ?_ (by with_reducible assumption)) | (with_reducible refine Below.drew ?_) | (with_reducible refine below_drewN ?_ _) | (with_reducible refine bel_alloc ?_ _)))⟩
set_option maxHeartbeats 2000000 in
set_option maxRecDepth 20000 in
theorem sh_within (E : Rw va.En) (x : Xt) : ∀ w, RsE w w.heap.size E → RsX w w.heap.size x →
    Calls Tryz.prog 86 #[ckV E, xV x] w (Bel (.int .i64 (insE E.l x)) w) := by
  induction x using Xt.ind with
  | h x ih =>
    intro w hE hX
    have KT := Lib.hid (fun W (h : Below w.heap.size w W) => sh_typed E x W (hE.blw h h.size) (hX.blw h h.size))
    have KF : Hid (∀ W, Below w.heap.size w W → Calls Tryz.prog 82 #[.slice x.A x.ar.length x.c, .func (.func 86) #[ckV E] #[]] W (Bel (.int .i64 (errs (x.ar.map (insE E.l)))) W)) := Lib.hid fun W h =>
      first_Expr_within (ckV E) ⟨x.A, x.c, x.ar⟩ (insE E.l) W ((hX.1.rdr).blw oneB_X h h.size) (Lib.hid fun y hy W' h' => ih y hy W' (hE.blw (h.trans (h'.mono h.size)) (Nat.le_trans h.size h'.size)) ((hX.kid hy).blw (h.trans (h'.mono h.size)) (Nat.le_trans h.size h'.size)))
    have h9 := hX.1.len.1
    unfold maxLen at h9
    rw [insE_eq]
    generalize errs (x.ar.map (insE E.l)) = u at *
    generalize typE E.l x = v at *
    clear hE hX ih
    simp only [xV] at KT KF ⊢
    by_cases hv : v = 0
    · subst hv
      rw [orE0]
      go_enter Tryz.func86, Tryz.ntmps86
      go_wp2_with (first | (go_at_call 122; (with_reducible refine (KT.out _ ?_).mono ?_); (focus ((repeat (first | (with_reducible exact Below.refl _ _) | (with_reducible assumption) | (with_reducible exact bel_box _) | (with_reducible refine bel_step ?_ (by with_reducible assumption)) | (with_reducible refine Below.drew ?_) | (with_reducible refine below_drewN ?_ _) | (with_reducible refine bel_alloc ?_ _))); done)); rintro e w1 ⟨rfl, hb1⟩; obtain ⟨g0, g1, g2, g3, g4, g5, g6, g7⟩ := B2X (w := w) (W := w1) E x (by repeat (first | (with_reducible exact Below.refl _ _) | (with_reducible assumption) | (with_reducible exact bel_box _) | (with_reducible refine bel_step ?_ (by with_reducible assumption)) | (with_reducible refine Below.drew ?_) | (with_reducible refine below_drewN ?_ _) | (with_reducible refine bel_alloc ?_ _)))) | (go_at_call 82; (with_reducible refine (KF.out _ ?_).mono ?_); (focus ((repeat (first | (with_reducible exact Below.refl _ _) | (with_reducible assumption) | (with_reducible exact bel_box _) | (with_reducible refine bel_step ?_ (by with_reducible assumption)) | (with_reducible refine Below.drew ?_) | (with_reducible refine below_drewN ?_ _) | (with_reducible refine bel_alloc ?_ _))); done)); rintro e w2 ⟨rfl, hb2⟩))
      go_ret
      exact ⟨rfl, (by repeat (first | (with_reducible exact Below.refl _ _) | (with_reducible assumption) | (with_reducible exact bel_box _) | (with_reducible refine bel_step ?_ (by with_reducible assumption)) | (with_reducible refine Below.drew ?_) | (with_reducible refine below_drewN ?_ _) | (with_reducible refine bel_alloc ?_ _)))⟩
    · have q : (v == 0) = false := by simp [hv]
      rw [orEn hv]
      clear hv
      go_enter Tryz.func86, Tryz.ntmps86
      go_wp2_with (first | (go_at_call 122; (with_reducible refine (KT.out _ ?_).mono ?_); (focus ((repeat (first | (with_reducible exact Below.refl _ _) | (with_reducible assumption) | (with_reducible exact bel_box _) | (with_reducible refine bel_step ?_ (by with_reducible assumption)) | (with_reducible refine Below.drew ?_) | (with_reducible refine below_drewN ?_ _) | (with_reducible refine bel_alloc ?_ _))); done)); rintro e w1 ⟨rfl, hb1⟩; obtain ⟨g0, g1, g2, g3, g4, g5, g6, g7⟩ := B2X (w := w) (W := w1) E x (by repeat (first | (with_reducible exact Below.refl _ _) | (with_reducible assumption) | (with_reducible exact bel_box _) | (with_reducible refine bel_step ?_ (by with_reducible assumption)) | (with_reducible refine Below.drew ?_) | (with_reducible refine below_drewN ?_ _) | (with_reducible refine bel_alloc ?_ _)))) | (go_at_call 82; (with_reducible refine (KF.out _ ?_).mono ?_); (focus ((repeat (first | (with_reducible exact Below.refl _ _) | (with_reducible assumption) | (with_reducible exact bel_box _) | (with_reducible refine bel_step ?_ (by with_reducible assumption)) | (with_reducible refine Below.drew ?_) | (with_reducible refine below_drewN ?_ _) | (with_reducible refine bel_alloc ?_ _))); done)); rintro e w2 ⟨rfl, hb2⟩))
      go_ret
      exact ⟨rfl, (by repeat (first | (with_reducible exact Below.refl _ _) | (with_reducible assumption) | (with_reducible exact bel_box _) | (with_reducible refine bel_step ?_ (by with_reducible assumption)) | (with_reducible refine Below.drew ?_) | (with_reducible refine below_drewN ?_ _) | (with_reducible refine bel_alloc ?_ _)))⟩
set_option maxHeartbeats 1000000 in
set_option maxRecDepth 20000 in
theorem sh_expr (E : Rw va.En) (x : Xt) (w : World) (hs : Std w) (hE : RsE w w.heap.size E) (hX : RsX w w.heap.size x) :
    Calls Tryz.prog 55 #[ckV E, xV x] w (Bel (.int .i64 (expE E.l x)) w) := by
  have KT := Lib.hid (fun W (h : Below w.heap.size w W) => sh_within E x W (hE.blw h h.size) (hX.blw h h.size))
  have KC := Lib.hid (fun W (h : Below w.heap.size w W) => check_any wokP x W (hX.blw h h.size).1 (nm_prog (hs.to h) hX.nmb))
  have h9 := hX.1.len.1
  unfold maxLen at h9
  unfold expE
  generalize insE E.l x = u at *
  generalize chkAll wokP x = v at *
  clear hs hE hX
  simp only [xV] at KT KC ⊢
  by_cases hv : v = 0
  · subst hv
    rw [orE0]
    go_enter Tryz.func55, Tryz.ntmps55
    go_wp2_with (first | (go_at_call 34; (with_reducible refine (KC.out _ ?_).mono ?_); (focus ((repeat (first | (with_reducible exact Below.refl _ _) | (with_reducible assumption) | (with_reducible exact bel_box _) | (with_reducible refine bel_step ?_ (by with_reducible assumption)) | (with_reducible refine Below.drew ?_) | (with_reducible refine below_drewN ?_ _) | (with_reducible refine bel_alloc ?_ _))); done)); rintro e w1 ⟨rfl, hb1⟩; obtain ⟨g0, g1, g2, g3, g4, g5, g6, g7⟩ := B2X (w := w) (W := w1) E x (by repeat (first | (with_reducible exact Below.refl _ _) | (with_reducible assumption) | (with_reducible exact bel_box _) | (with_reducible refine bel_step ?_ (by with_reducible assumption)) | (with_reducible refine Below.drew ?_) | (with_reducible refine below_drewN ?_ _) | (with_reducible refine bel_alloc ?_ _)))) | (go_at_call 86; (with_reducible refine (KT.out _ ?_).mono ?_); (focus ((repeat (first | (with_reducible exact Below.refl _ _) | (with_reducible assumption) | (with_reducible exact bel_box _) | (with_reducible refine bel_step ?_ (by with_reducible assumption)) | (with_reducible refine Below.drew ?_) | (with_reducible refine below_drewN ?_ _) | (with_reducible refine bel_alloc ?_ _))); done)); rintro e w2 ⟨rfl, hb2⟩))
    go_ret
    exact ⟨rfl, (by repeat (first | (with_reducible exact Below.refl _ _) | (with_reducible assumption) | (with_reducible exact bel_box _) | (with_reducible refine bel_step ?_ (by with_reducible assumption)) | (with_reducible refine Below.drew ?_) | (with_reducible refine below_drewN ?_ _) | (with_reducible refine bel_alloc ?_ _)))⟩
  · have q : (v == 0) = false := by simp [hv]
    rw [orEn hv]
    clear hv
    go_enter Tryz.func55, Tryz.ntmps55
    go_wp2_with (go_at_call 34; (with_reducible refine (KC.out _ ?_).mono ?_); (focus ((repeat (first | (with_reducible exact Below.refl _ _) | (with_reducible assumption) | (with_reducible exact bel_box _) | (with_reducible refine bel_step ?_ (by with_reducible assumption)) | (with_reducible refine Below.drew ?_) | (with_reducible refine below_drewN ?_ _) | (with_reducible refine bel_alloc ?_ _))); done)); rintro e w1 ⟨rfl, hb1⟩; obtain ⟨g0, g1, g2, g3, g4, g5, g6, g7⟩ := B2X (w := w) (W := w1) E x (by repeat (first | (with_reducible exact Below.refl _ _) | (with_reducible assumption) | (with_reducible exact bel_box _) | (with_reducible refine bel_step ?_ (by with_reducible assumption)) | (with_reducible refine Below.drew ?_) | (with_reducible refine below_drewN ?_ _) | (with_reducible refine bel_alloc ?_ _))))
    go_ret
    exact ⟨rfl, (by repeat (first | (with_reducible exact Below.refl _ _) | (with_reducible assumption) | (with_reducible exact bel_box _) | (with_reducible refine bel_step ?_ (by with_reducible assumption)) | (with_reducible refine Below.drew ?_) | (with_reducible refine below_drewN ?_ _) | (with_reducible refine bel_alloc ?_ _)))⟩
set_option maxHeartbeats 1000000 in
set_option maxRecDepth 20000 in
theorem sh_equation (E : Rw va.En) (q : Qt) (w : World) (hs : Std w) (hE : RsE w w.heap.size E) (hq : RsQ w w.heap.size q) :
    Calls Tryz.prog 79 #[ckV E, qV q] w (Bel (.int .i64 (eqnE E.l q)) w) := by
  have KF : Hid (∀ W, Below w.heap.size w W → Calls Tryz.prog 76 #[.slice q.lf.A q.lf.l.length q.lf.c, .func (.func 77) #[] #[]] W (Bel (.int .i64 (errs (q.lf.l.map idE))) W)) := Lib.hid fun W h =>
    first_string_checkIdent q.lf idE W ((hq.1.blw h h.size).1) (Lib.hid fun y hy W' h' => sh_ident y W' (hs.to (h.trans (h'.mono h.size))) (hq.1.2 y hy))
  have KE := Lib.hid (fun W (h : Below w.heap.size w W) => sh_expr E q.r W (hs.to h) (hE.blw h h.size) (hq.2.blw h h.size))
  have h9 := hq.1.1.len
  unfold maxLen at h9
  unfold eqnE
  generalize errs (q.lf.l.map idE) = u at *
  generalize expE E.l q.r = v at *
  simp only [xV] at KE
  clear hs hE hq
  by_cases z0 : q.lf.l.length = 0
  · have q0 : ((q.lf.l.length : Int) == 0) = true := by simp [z0]
    rw [if_pos z0]
    clear z0
    go_enter Tryz.func79, Tryz.ntmps79
    go_wp2
    go_ret
    exact ⟨rfl, (by repeat (first | (with_reducible exact Below.refl _ _) | (with_reducible assumption) | (with_reducible exact bel_box _) | (with_reducible refine bel_step ?_ (by with_reducible assumption)) | (with_reducible refine Below.drew ?_) | (with_reducible refine below_drewN ?_ _) | (with_reducible refine bel_alloc ?_ _)))⟩
  have q0 : ((q.lf.l.length : Int) == 0) = false := by simp [z0]
  rw [if_neg z0]
  by_cases z1 : 64 < q.lf.l.length
  · have q1 : (64 : Int) < (q.lf.l.length : Int) := by omega
    rw [if_pos z1]
    clear z0 z1
    go_enter Tryz.func79, Tryz.ntmps79
    go_wp2
    go_ret
    exact ⟨rfl, (by repeat (first | (with_reducible exact Below.refl _ _) | (with_reducible assumption) | (with_reducible exact bel_box _) | (with_reducible refine bel_step ?_ (by with_reducible assumption)) | (with_reducible refine Below.drew ?_) | (with_reducible refine below_drewN ?_ _) | (with_reducible refine bel_alloc ?_ _)))⟩
  have q1 : (q.lf.l.length : Int) ≤ (64 : Int) := by omega
  rw [if_neg z1]
  by_cases hu : u = 0
  · subst hu
    rw [orE0]
    by_cases hv : v = 0
    · subst hv
      rw [orE0]
      by_cases z2 : 1 < q.lf.l.length
      · have q2 : (1 : Int) < (q.lf.l.length : Int) := by omega
        by_cases z3 : q.r.k = 10
        · have q3 : (q.r.k == 10) = true := by simp [z3]
          have q4 : (q.r.k != 10) = false := by simp [z3]
          rw [if_neg (by omega)]
          clear z0 z1 z2 z3
          go_enter Tryz.func79, Tryz.ntmps79
          go_wp2_with (first | (go_at_call 76; (with_reducible refine (KF.out _ ?_).mono ?_); (focus ((repeat (first | (with_reducible exact Below.refl _ _) | (with_reducible assumption) | (with_reducible exact bel_box _) | (with_reducible refine bel_step ?_ (by with_reducible assumption)) | (with_reducible refine Below.drew ?_) | (with_reducible refine below_drewN ?_ _) | (with_reducible refine bel_alloc ?_ _))); done)); rintro e w1 ⟨rfl, hb1⟩; obtain ⟨g0, g1, g2, g3, g4, g5, g6, g7, g8⟩ := B2Q (w := w) (W := w1) E q (by repeat (first | (with_reducible exact Below.refl _ _) | (with_reducible assumption) | (with_reducible exact bel_box _) | (with_reducible refine bel_step ?_ (by with_reducible assumption)) | (with_reducible refine Below.drew ?_) | (with_reducible refine below_drewN ?_ _) | (with_reducible refine bel_alloc ?_ _)))) | (go_at_call 55; (with_reducible refine (KE.out _ ?_).mono ?_); (focus ((repeat (first | (with_reducible exact Below.refl _ _) | (with_reducible assumption) | (with_reducible exact bel_box _) | (with_reducible refine bel_step ?_ (by with_reducible assumption)) | (with_reducible refine Below.drew ?_) | (with_reducible refine below_drewN ?_ _) | (with_reducible refine bel_alloc ?_ _))); done)); rintro e w2 ⟨rfl, hb2⟩; obtain ⟨g0, g1, g2, g3, g4, g5, g6, g7, g8⟩ := B2Q (w := w) (W := w2) E q (by repeat (first | (with_reducible exact Below.refl _ _) | (with_reducible assumption) | (with_reducible exact bel_box _) | (with_reducible refine bel_step ?_ (by with_reducible assumption)) | (with_reducible refine Below.drew ?_) | (with_reducible refine below_drewN ?_ _) | (with_reducible refine bel_alloc ?_ _)))))
          go_ret
          exact ⟨rfl, (by repeat (first | (with_reducible exact Below.refl _ _) | (with_reducible assumption) | (with_reducible exact bel_box _) | (with_reducible refine bel_step ?_ (by with_reducible assumption)) | (with_reducible refine Below.drew ?_) | (with_reducible refine below_drewN ?_ _) | (with_reducible refine bel_alloc ?_ _)))⟩
        · have q3 : (q.r.k == 10) = false := by simp [z3]
          have q4 : (q.r.k != 10) = true := by simp [z3]
          rw [if_pos ⟨z2, z3⟩]
          clear z0 z1 z2 z3
          go_enter Tryz.func79, Tryz.ntmps79
          go_wp2_with (first | (go_at_call 76; (with_reducible refine (KF.out _ ?_).mono ?_); (focus ((repeat (first | (with_reducible exact Below.refl _ _) | (with_reducible assumption) | (with_reducible exact bel_box _) | (with_reducible refine bel_step ?_ (by with_reducible assumption)) | (with_reducible refine Below.drew ?_) | (with_reducible refine below_drewN ?_ _) | (with_reducible refine bel_alloc ?_ _))); done)); rintro e w1 ⟨rfl, hb1⟩; obtain ⟨g0, g1, g2, g3, g4, g5, g6, g7, g8⟩ := B2Q (w := w) (W := w1) E q (by repeat (first | (with_reducible exact Below.refl _ _) | (with_reducible assumption) | (with_reducible exact bel_box _) | (with_reducible refine bel_step ?_ (by with_reducible assumption)) | (with_reducible refine Below.drew ?_) | (with_reducible refine below_drewN ?_ _) | (with_reducible refine bel_alloc ?_ _)))) | (go_at_call 55; (with_reducible refine (KE.out _ ?_).mono ?_); (focus ((repeat (first | (with_reducible exact Below.refl _ _) | (with_reducible assumption) | (with_reducible exact bel_box _) | (with_reducible refine bel_step ?_ (by with_reducible assumption)) | (with_reducible refine Below.drew ?_) | (with_reducible refine below_drewN ?_ _) | (with_reducible refine bel_alloc ?_ _))); done)); rintro e w2 ⟨rfl, hb2⟩; obtain ⟨g0, g1, g2, g3, g4, g5, g6, g7, g8⟩ := B2Q (w := w) (W := w2) E q (by repeat (first | (with_reducible exact Below.refl _ _) | (with_reducible assumption) | (with_reducible exact bel_box _) | (with_reducible refine bel_step ?_ (by with_reducible assumption)) | (with_reducible refine Below.drew ?_) | (with_reducible refine below_drewN ?_ _) | (with_reducible refine bel_alloc ?_ _)))))
          go_ret
          exact ⟨rfl, (by repeat (first | (with_reducible exact Below.refl _ _) | (with_reducible assumption) | (with_reducible exact bel_box _) | (with_reducible refine bel_step ?_ (by with_reducible assumption)) | (with_reducible refine Below.drew ?_) | (with_reducible refine below_drewN ?_ _) | (with_reducible refine bel_alloc ?_ _)))⟩
      · have q2 : (q.lf.l.length : Int) ≤ (1 : Int) := by omega
        rw [if_neg (by omega)]
        clear z0 z1 z2
        go_enter Tryz.func79, Tryz.ntmps79
        go_wp2_with (first | (go_at_call 76; (with_reducible refine (KF.out _ ?_).mono ?_); (focus ((repeat (first | (with_reducible exact Below.refl _ _) | (with_reducible assumption) | (with_reducible exact bel_box _) | (with_reducible refine bel_step ?_ (by with_reducible assumption)) | (with_reducible refine Below.drew ?_) | (with_reducible refine below_drewN ?_ _) | (with_reducible refine bel_alloc ?_ _))); done)); rintro e w1 ⟨rfl, hb1⟩; obtain ⟨g0, g1, g2, g3, g4, g5, g6, g7, g8⟩ := B2Q (w := w) (W := w1) E q (by repeat (first | (with_reducible exact Below.refl _ _) | (with_reducible assumption) | (with_reducible exact bel_box _) | (with_reducible refine bel_step ?_ (by with_reducible assumption)) | (with_reducible refine Below.drew ?_) | (with_reducible refine below_drewN ?_ _) | (with_reducible refine bel_alloc ?_ _)))) | (go_at_call 55; (with_reducible refine (KE.out _ ?_).mono ?_); (focus ((repeat (first | (with_reducible exact Below.refl _ _) | (with_reducible assumption) | (with_reducible exact bel_box _) | (with_reducible refine bel_step ?_ (by with_reducible assumption)) | (with_reducible refine Below.drew ?_) | (with_reducible refine below_drewN ?_ _) | (with_reducible refine bel_alloc ?_ _))); done)); rintro e w2 ⟨rfl, hb2⟩; obtain ⟨g0, g1, g2, g3, g4, g5, g6, g7, g8⟩ := B2Q (w := w) (W := w2) E q (by repeat (first | (with_reducible exact Below.refl _ _) | (with_reducible assumption) | (with_reducible exact bel_box _) | (with_reducible refine bel_step ?_ (by with_reducible assumption)) | (with_reducible refine Below.drew ?_) | (with_reducible refine below_drewN ?_ _) | (with_reducible refine bel_alloc ?_ _)))))
        go_ret
        exact ⟨rfl, (by repeat (first | (with_reducible exact Below.refl _ _) | (with_reducible assumption) | (with_reducible exact bel_box _) | (with_reducible refine bel_step ?_ (by with_reducible assumption)) | (with_reducible refine Below.drew ?_) | (with_reducible refine below_drewN ?_ _) | (with_reducible refine bel_alloc ?_ _)))⟩
    · have q2 : (v == 0) = false := by simp [hv]
      rw [orEn hv]
      clear z0 z1 hv
      go_enter Tryz.func79, Tryz.ntmps79
      go_wp2_with (first | (go_at_call 76; (with_reducible refine (KF.out _ ?_).mono ?_); (focus ((repeat (first | (with_reducible exact Below.refl _ _) | (with_reducible assumption) | (with_reducible exact bel_box _) | (with_reducible refine bel_step ?_ (by with_reducible assumption)) | (with_reducible refine Below.drew ?_) | (with_reducible refine below_drewN ?_ _) | (with_reducible refine bel_alloc ?_ _))); done)); rintro e w1 ⟨rfl, hb1⟩; obtain ⟨g0, g1, g2, g3, g4, g5, g6, g7, g8⟩ := B2Q (w := w) (W := w1) E q (by repeat (first | (with_reducible exact Below.refl _ _) | (with_reducible assumption) | (with_reducible exact bel_box _) | (with_reducible refine bel_step ?_ (by with_reducible assumption)) | (with_reducible refine Below.drew ?_) | (with_reducible refine below_drewN ?_ _) | (with_reducible refine bel_alloc ?_ _)))) | (go_at_call 55; (with_reducible refine (KE.out _ ?_).mono ?_); (focus ((repeat (first | (with_reducible exact Below.refl _ _) | (with_reducible assumption) | (with_reducible exact bel_box _) | (with_reducible refine bel_step ?_ (by with_reducible assumption)) | (with_reducible refine Below.drew ?_) | (with_reducible refine below_drewN ?_ _) | (with_reducible refine bel_alloc ?_ _))); done)); rintro e w2 ⟨rfl, hb2⟩; obtain ⟨g0, g1, g2, g3, g4, g5, g6, g7, g8⟩ := B2Q (w := w) (W := w2) E q (by repeat (first | (with_reducible exact Below.refl _ _) | (with_reducible assumption) | (with_reducible exact bel_box _) | (with_reducible refine bel_step ?_ (by with_reducible assumption)) | (with_reducible refine Below.drew ?_) | (with_reducible refine below_drewN ?_ _) | (with_reducible refine bel_alloc ?_ _)))))
      go_ret
      exact ⟨rfl, (by repeat (first | (with_reducible exact Below.refl _ _) | (with_reducible assumption) | (with_reducible exact bel_box _) | (with_reducible refine bel_step ?_ (by with_reducible assumption)) | (with_reducible refine Below.drew ?_) | (with_reducible refine below_drewN ?_ _) | (with_reducible refine bel_alloc ?_ _)))⟩
  · have q2 : (u == 0) = false := by simp [hu]
    rw [orEn hu]
    clear z0 z1 hu
    go_enter Tryz.func79, Tryz.ntmps79
    go_wp2_with (first | (go_at_call 76; (with_reducible refine (KF.out _ ?_).mono ?_); (focus ((repeat (first | (with_reducible exact Below.refl _ _) | (with_reducible assumption) | (with_reducible exact bel_box _) | (with_reducible refine bel_step ?_ (by with_reducible assumption)) | (with_reducible refine Below.drew ?_) | (with_reducible refine below_drewN ?_ _) | (with_reducible refine bel_alloc ?_ _))); done)); rintro e w1 ⟨rfl, hb1⟩; obtain ⟨g0, g1, g2, g3, g4, g5, g6, g7, g8⟩ := B2Q (w := w) (W := w1) E q (by repeat (first | (with_reducible exact Below.refl _ _) | (with_reducible assumption) | (with_reducible exact bel_box _) | (with_reducible refine bel_step ?_ (by with_reducible assumption)) | (with_reducible refine Below.drew ?_) | (with_reducible refine below_drewN ?_ _) | (with_reducible refine bel_alloc ?_ _)))) | (go_at_call 55; (with_reducible refine (KE.out _ ?_).mono ?_); (focus ((repeat (first | (with_reducible exact Below.refl _ _) | (with_reducible assumption) | (with_reducible exact bel_box _) | (with_reducible refine bel_step ?_ (by with_reducible assumption)) | (with_reducible refine Below.drew ?_) | (with_reducible refine below_drewN ?_ _) | (with_reducible refine bel_alloc ?_ _))); done)); rintro e w2 ⟨rfl, hb2⟩; obtain ⟨g0, g1, g2, g3, g4, g5, g6, g7, g8⟩ := B2Q (w := w) (W := w2) E q (by repeat (first | (with_reducible exact Below.refl _ _) | (with_reducible assumption) | (with_reducible exact bel_box _) | (with_reducible refine bel_step ?_ (by with_reducible assumption)) | (with_reducible refine Below.drew ?_) | (with_reducible refine below_drewN ?_ _) | (with_reducible refine bel_alloc ?_ _)))))
    go_ret
    exact ⟨rfl, (by repeat (first | (with_reducible exact Below.refl _ _) | (with_reducible assumption) | (with_reducible exact bel_box _) | (with_reducible refine bel_step ?_ (by with_reducible assumption)) | (with_reducible refine Below.drew ?_) | (with_reducible refine below_drewN ?_ _) | (with_reducible refine bel_alloc ?_ _)))⟩
end Go.Proofs.YthlapepjebidgaaGreatDoor
/- transition, unless, automaton, state of the program: closures. -/
namespace Go.Proofs.YthlapepjebidgaaGreatDoor
set_option linter.unusedVariables false
set_option linter.unusedSimpArgs false
open Go.RowKit
/-- a closure's box holds v -/
def Cap (w : World) (p : Addr) (v : Value) : Prop := w.cell? p = some v ∧ p.block < w.heap.size
theorem Cap.to {w W : World} {p : Addr} {v : Value} (h : Cap w p v) (hb : Below w.heap.size w W) : Cap W p v := ⟨(hb.cell h.2).trans h.1, Nat.lt_of_lt_of_le h.2 hb.size⟩
theorem Cap.al {w : World} {p : Addr} {v : Value} (h : Cap w p v) : ∀ o, (w.alloc o).cell? p = some v := fun o => cell_al o h.1
set_option maxHeartbeats 1000000 in
set_option maxRecDepth 20000 in
theorem sh_trans1 (E : Rw va.En) (n : Int) (t : Tt) (p q : Addr) (w : World) (hs : Std w) (hE : RsE w w.heap.size E) (hX : RsX w w.heap.size t.cd) (hp : Cap w p (.int .i64 n)) (hq : Cap w q (.slice E.A E.l.length E.c)) :
    Calls Tryz.prog 171 #[tV t, .pointer (some p), .pointer (some q)] w (Bel (.int .i64 (trnE E.l n false t)) w) := by
  have KE := Lib.hid (fun W (h : Below w.heap.size w W) => sh_expr E t.cd W (hs.to h) (hE.blw h h.size) (hX.blw h h.size))
  unfold trnE
  generalize expE E.l t.cd = v at *
  simp only [xV, ckV] at KE
  have hp0 := hp.1
  have hq0 := hq.1
  have hp1 := hp.al
  have hq1 := hq.al
  clear hs hE hX hp hq
  by_cases z : t.to < 0
  · rw [if_pos (.inl z)]
    go_enter Tryz.func171, Tryz.ntmps171
    go_wp2
    go_ret
    exact ⟨rfl, (by repeat (first | (with_reducible exact Below.refl _ _) | (with_reducible assumption) | (with_reducible exact bel_box _) | (with_reducible refine bel_step ?_ (by with_reducible assumption)) | (with_reducible refine Below.drew ?_) | (with_reducible refine below_drewN ?_ _) | (with_reducible refine bel_alloc ?_ _)))⟩
  by_cases z2 : n ≤ t.to
  · rw [if_pos (.inr z2)]
    have y : 0 ≤ t.to := by omega
    clear z
    go_enter Tryz.func171, Tryz.ntmps171
    go_wp2
    go_ret
    exact ⟨rfl, (by repeat (first | (with_reducible exact Below.refl _ _) | (with_reducible assumption) | (with_reducible exact bel_box _) | (with_reducible refine bel_step ?_ (by with_reducible assumption)) | (with_reducible refine Below.drew ?_) | (with_reducible refine below_drewN ?_ _) | (with_reducible refine bel_alloc ?_ _)))⟩
  rw [if_neg (by omega)]
  have y : 0 ≤ t.to := by omega
  have y2 : t.to < n := by omega
  have hv : orE v (if (false = true ∧ (t.cd.list.any fun y => stK y.k) = true) then 5 else 0) = v := by
    rw [if_neg (by simp)]
    unfold orE
    split
    · rename_i h; exact h.symm
    · rfl
  rw [hv]
  clear z z2 hv
  go_enter Tryz.func171, Tryz.ntmps171
  go_wp2_with (go_at_call 55; (with_reducible refine (KE.out _ ?_).mono ?_); (focus ((repeat (first | (with_reducible exact Below.refl _ _) | (with_reducible assumption) | (with_reducible exact bel_box _) | (with_reducible refine bel_step ?_ (by with_reducible assumption)) | (with_reducible refine Below.drew ?_) | (with_reducible refine below_drewN ?_ _) | (with_reducible refine bel_alloc ?_ _))); done)); rintro e w1 ⟨rfl, hb1⟩)
  go_ret
  exact ⟨rfl, (by repeat (first | (with_reducible exact Below.refl _ _) | (with_reducible assumption) | (with_reducible exact bel_box _) | (with_reducible refine bel_step ?_ (by with_reducible assumption)) | (with_reducible refine Below.drew ?_) | (with_reducible refine below_drewN ?_ _) | (with_reducible refine bel_alloc ?_ _)))⟩
theorem trn_false (es : List va.En) (n : Int) (t : Tt) : trnE es n true t = orE (trnE es n false t) (if (t.cd.list.any fun y => stK y.k) = true then 5 else 0) := by
  unfold trnE
  by_cases z : t.to < 0 ∨ n ≤ t.to
  · rw [if_pos z, if_pos z]
    rfl
  · rw [if_neg z, if_neg z]
    unfold orE
    by_cases h : expE es t.cd = 0
    · simp [h]
    · simp [h]
theorem chk_size {wok : ByteArray → Bool} {x : Xt} (h : chkAll wok x = 0) : x.size ≤ 400 := by
  unfold chkAll at h
  split at h
  · cases h
  · omega
theorem trn_size {es : List va.En} {n : Int} {t : Tt} (h : trnE es n false t = 0) : t.cd.size ≤ 400 := by
  unfold trnE at h
  split at h
  · cases h
  · unfold orE at h
    split at h
    · rename_i h0
      unfold expE orE at h0
      split at h0
      · rename_i h1; exact chk_size h1
      · rename_i h1; exact absurd h0 h1
    · rename_i h0; exact absurd h h0
set_option maxHeartbeats 1000000 in
set_option maxRecDepth 20000 in
theorem sh_unless1 (E : Rw va.En) (n : Int) (t : Tt) (c p q : Addr) (w : World) (hs : Std w) (hE : RsE w w.heap.size E) (hX : RsX w w.heap.size t.cd) (hc : Cap w c (.func (.func 171) #[] #[.pointer (some p), .pointer (some q)])) (hp : Cap w p (.int .i64 n)) (hq : Cap w q (.slice E.A E.l.length E.c)) :
    Calls Tryz.prog 170 #[tV t, .pointer (some c)] w (Bel (.int .i64 (trnE E.l n true t)) w) := by
  have KT := Lib.hid (fun W (h : Below w.heap.size w W) => sh_trans1 E n t p q W (hs.to h) (hE.blw h h.size) (hX.blw h h.size) (hp.to h) (hq.to h))
  have KS : trnE E.l n false t = 0 → Hid (∀ W, Below w.heap.size w W → Calls Tryz.prog 41 #[xV t.cd] W (Bel (.bool (!t.cd.list.any fun y => stK y.k)) W)) := fun h0 => Lib.hid fun W h =>
    stateless_any t.cd W (hX.blw h h.size).1 (by have := trn_size h0; omega)
  rw [trn_false]
  generalize trnE E.l n false t = v at *
  generalize (t.cd.list.any fun y => stK y.k) = b at *
  have hc0 := hc.1
  have hc1 := hc.al
  clear hs hE hX hp hq hc
  by_cases hv : v = 0
  · subst hv
    replace KS := KS rfl
    simp only [xV] at KS
    rw [orE0]
    cases b
    all_goals
      go_enter Tryz.func170, Tryz.ntmps170
      go_wp2_with (first | (go_at_call 171; (with_reducible refine (KT.out _ ?_).mono ?_); (focus ((repeat (first | (with_reducible exact Below.refl _ _) | (with_reducible assumption) | (with_reducible exact bel_box _) | (with_reducible refine bel_step ?_ (by with_reducible assumption)) | (with_reducible refine Below.drew ?_) | (with_reducible refine below_drewN ?_ _) | (with_reducible refine bel_alloc ?_ _))); done)); rintro e w1 ⟨rfl, hb1⟩; obtain ⟨g0, g1, g2, g3, g4, g5, g6, g7, g8⟩ := B1T (w := w) (W := w1) t (by repeat (first | (with_reducible exact Below.refl _ _) | (with_reducible assumption) | (with_reducible exact bel_box _) | (with_reducible refine bel_step ?_ (by with_reducible assumption)) | (with_reducible refine Below.drew ?_) | (with_reducible refine below_drewN ?_ _) | (with_reducible refine bel_alloc ?_ _)))) | (go_at_call 41; (with_reducible refine (KS.out _ ?_).mono ?_); (focus ((repeat (first | (with_reducible exact Below.refl _ _) | (with_reducible assumption) | (with_reducible exact bel_box _) | (with_reducible refine bel_step ?_ (by with_reducible assumption)) | (with_reducible refine Below.drew ?_) | (with_reducible refine below_drewN ?_ _) | (with_reducible refine bel_alloc ?_ _))); done)); rintro e w2 ⟨rfl, hb2⟩))
      go_ret
      exact ⟨rfl, (by repeat (first | (with_reducible exact Below.refl _ _) | (with_reducible assumption) | (with_reducible exact bel_box _) | (with_reducible refine bel_step ?_ (by with_reducible assumption)) | (with_reducible refine Below.drew ?_) | (with_reducible refine below_drewN ?_ _) | (with_reducible refine bel_alloc ?_ _)))⟩
  · have q2 : (v == 0) = false := by simp [hv]
    rw [orEn hv]
    clear hv KS
    go_enter Tryz.func170, Tryz.ntmps170
    go_wp2_with (go_at_call 171; (with_reducible refine (KT.out _ ?_).mono ?_); (focus ((repeat (first | (with_reducible exact Below.refl _ _) | (with_reducible assumption) | (with_reducible exact bel_box _) | (with_reducible refine bel_step ?_ (by with_reducible assumption)) | (with_reducible refine Below.drew ?_) | (with_reducible refine below_drewN ?_ _) | (with_reducible refine bel_alloc ?_ _))); done)); rintro e w1 ⟨rfl, hb1⟩; obtain ⟨g0, g1, g2, g3, g4, g5, g6, g7, g8⟩ := B1T (w := w) (W := w1) t (by repeat (first | (with_reducible exact Below.refl _ _) | (with_reducible assumption) | (with_reducible exact bel_box _) | (with_reducible refine bel_step ?_ (by with_reducible assumption)) | (with_reducible refine Below.drew ?_) | (with_reducible refine below_drewN ?_ _) | (with_reducible refine bel_alloc ?_ _))))
    go_ret
    exact ⟨rfl, (by repeat (first | (with_reducible exact Below.refl _ _) | (with_reducible assumption) | (with_reducible exact bel_box _) | (with_reducible refine bel_step ?_ (by with_reducible assumption)) | (with_reducible refine Below.drew ?_) | (with_reducible refine below_drewN ?_ _) | (with_reducible refine bel_alloc ?_ _)))⟩
set_option maxHeartbeats 1000000 in
theorem sh_transition (E : Rw va.En) (n : Int) (w : World) : Calls Tryz.prog 149 #[ckV E, .int .i64 n] w (fun e w' => ∃ p q, e = .returned (.func (.func 171) #[] #[.pointer (some p), .pointer (some q)]) ∧ Cap w' p (.int .i64 n) ∧ Cap w' q (.slice E.A E.l.length E.c) ∧ Below w.heap.size w w') := by
  go_enter Tryz.func149, Tryz.ntmps149
  go_wp2
  go_ret
  refine ⟨_, _, rfl, ⟨?_, ?_⟩, ⟨?_, ?_⟩, (by repeat (first | (with_reducible exact Below.refl _ _) | (with_reducible assumption) | (with_reducible exact bel_box _) | (with_reducible refine bel_step ?_ (by with_reducible assumption)) | (with_reducible refine Below.drew ?_) | (with_reducible refine below_drewN ?_ _) | (with_reducible refine bel_alloc ?_ _)))⟩ <;> simp [go_sem]
set_option maxHeartbeats 1000000 in
theorem sh_unless (E : Rw va.En) (n : Int) (w : World) : Calls Tryz.prog 148 #[ckV E, .int .i64 n] w (fun e w' => ∃ c p q, e = .returned (.func (.func 170) #[] #[.pointer (some c)]) ∧ Cap w' c (.func (.func 171) #[] #[.pointer (some p), .pointer (some q)]) ∧ Cap w' p (.int .i64 n) ∧ Cap w' q (.slice E.A E.l.length E.c) ∧ Below w.heap.size w w') := by
  have KT := Lib.hid (fun W => sh_transition E n W)
  go_enter Tryz.func148, Tryz.ntmps148
  go_wp2_with (go_at_call 149; (with_reducible refine (KT.out _).mono ?_); rintro e w1 ⟨p, q, rfl, hp, hq, hb1⟩)
  go_ret
  refine ⟨_, p, q, rfl, ⟨?_, ?_⟩, hp.to (bel_box _), hq.to (bel_box _), (by repeat (first | (with_reducible exact Below.refl _ _) | (with_reducible assumption) | (with_reducible exact bel_box _) | (with_reducible refine bel_step ?_ (by with_reducible assumption)) | (with_reducible refine Below.drew ?_) | (with_reducible refine below_drewN ?_ _) | (with_reducible refine bel_alloc ?_ _)))⟩ <;> simp [go_sem]
set_option maxHeartbeats 1000000 in
theorem sh_automaton (E : Rw va.En) (n : Int) (w : World) : Calls Tryz.prog 81 #[ckV E, .int .i64 n] w (fun e w' => ∃ p q, e = .returned (.func (.func 114) #[] #[.pointer (some p), .pointer (some q)]) ∧ Cap w' p (.int .i64 n) ∧ Cap w' q (.slice E.A E.l.length E.c) ∧ Below w.heap.size w w') := by
  go_enter Tryz.func81, Tryz.ntmps81
  go_wp2
  go_ret
  refine ⟨_, _, rfl, ⟨?_, ?_⟩, ⟨?_, ?_⟩, (by repeat (first | (with_reducible exact Below.refl _ _) | (with_reducible assumption) | (with_reducible exact bel_box _) | (with_reducible refine bel_step ?_ (by with_reducible assumption)) | (with_reducible refine Below.drew ?_) | (with_reducible refine below_drewN ?_ _) | (with_reducible refine bel_alloc ?_ _)))⟩ <;> simp [go_sem]
set_option maxHeartbeats 1000000 in
theorem sh_state (E : Rw va.En) (n k : Int) (w : World) : Calls Tryz.prog 116 #[ckV E, .int .i64 n, .int .i64 k] w (fun e w' => ∃ c p q, e = .returned (.func (.func 145) #[] #[.pointer (some c), .pointer (some p), .pointer (some q)]) ∧ Cap w' c (.slice E.A E.l.length E.c) ∧ Cap w' p (.int .i64 k) ∧ Cap w' q (.int .i64 n) ∧ Below w.heap.size w w') := by
  go_enter Tryz.func116, Tryz.ntmps116
  go_wp2
  go_ret
  refine ⟨_, _, _, rfl, ⟨?_, ?_⟩, ⟨?_, ?_⟩, ⟨?_, ?_⟩, (by repeat (first | (with_reducible exact Below.refl _ _) | (with_reducible assumption) | (with_reducible exact bel_box _) | (with_reducible refine bel_step ?_ (by with_reducible assumption)) | (with_reducible refine Below.drew ?_) | (with_reducible refine below_drewN ?_ _) | (with_reducible refine bel_alloc ?_ _)))⟩ <;> simp [go_sem]
end Go.Proofs.YthlapepjebidgaaGreatDoor
/- slices.EqualFunc of the program. -/
namespace Go.Proofs.YthlapepjebidgaaGreatDoor
set_option linter.unusedVariables false
set_option linter.unusedSimpArgs false
open Go.RowKit
abbrev eV (e : va.En) : Value := .agg #[.string e.name, .slice e.A e.tags.length e.c]
def all2 {α : Type} (f : α → α → Bool) : List α → List α → Bool
  | [], [] => true
  | a :: l, b :: m => f a b && all2 f l m
  | _, _ => false
theorem all2_len {α : Type} {f : α → α → Bool} {l m : List α} (h : l.length ≠ m.length) : all2 f l m = false := by
  induction l generalizing m with
  | nil => cases m with
    | nil => simp at h
    | cons b m => rfl
  | cons a l ih => cases m with
    | nil => rfl
    | cons b m => rw [all2, ih (by simpa using h)]; simp
theorem all2_steps {α : Type} (f : α → α → Bool) (l m : List α) (h : l.length = m.length) : ∃ F : Nat → Bool, F 0 = all2 f l m ∧ F l.length = true ∧ Hid (∀ (k : Nat) (y z : α), l[k]? = some y → m[k]? = some z → F k = (f y z && F (k + 1))) := by
  refine ⟨fun k => all2 f (l.drop k) (m.drop k), by simp, by show all2 f (l.drop l.length) (m.drop l.length) = true; rw [List.drop_length, h, List.drop_length]; rfl, Lib.hid fun k y z hy hz => ?_⟩
  obtain ⟨hk, rfl⟩ := List.getElem?_eq_some_iff.1 hy
  obtain ⟨hk', rfl⟩ := List.getElem?_eq_some_iff.1 hz
  show all2 f (l.drop k) (m.drop k) = _
  rw [List.drop_eq_getElem_cons hk, List.drop_eq_getElem_cons hk', all2]
theorem all2_refl {α : Type} {f : α → α → Bool} {l : List α} (h : ∀ a ∈ l, f a a = true) : all2 f l l = true := by
  induction l with
  | nil => rfl
  | cons a l ih => rw [all2, h a (List.mem_cons_self), ih fun x hx => h x (List.mem_cons_of_mem _ hx)]; rfl
theorem all2_symm {α : Type} {f : α → α → Bool} {l m : List α} (h : ∀ a ∈ l, ∀ b ∈ m, f a b = f b a) : all2 f l m = all2 f m l := by
  induction l generalizing m with
  | nil => cases m <;> rfl
  | cons a l ih => cases m with
    | nil => rfl
    | cons b m => rw [all2, all2, h a (List.mem_cons_self) b (List.mem_cons_self), ih fun x hx y hy => h x (List.mem_cons_of_mem _ hx) y (List.mem_cons_of_mem _ hy)]
set_option maxHeartbeats 2000000 in
set_option maxRecDepth 20000 in
theorem eqf_Decl (r s : Rw (Dt)) (f : Dt → Dt → Bool) (w : World) (hR : RdR w w.heap.size 3 DC r) (hS : RdR w w.heap.size 3 DC s)
    (K : Hid (∀ (k : Nat) (y z : Dt), r.l[k]? = some y → s.l[k]? = some z → ∀ W, Below w.heap.size w W → Calls Tryz.prog 96 #[dV y, dV z] W (Bel (.bool (f y z)) W))) :
    Calls Tryz.prog 95 #[.slice r.A r.l.length r.c, .slice s.A s.l.length s.c, .func (.func 96) #[] #[]] w (Bel (.bool (all2 f r.l s.l)) w) := by
  have h9 := hR.len
  have h9s := hS.len
  unfold maxLen at h9 h9s
  have HR := Lib.hid hR
  have HS := Lib.hid hS
  clear hR hS
  cases q : (((r.l.length : Nat) : Int) != ((s.l.length : Nat) : Int))
  case true =>
    have hv : all2 f r.l s.l = false := all2_len (by intro h; simp [h] at q)
    rw [hv]
    clear hv K HR HS
    go_enter Tryz.func95, Tryz.ntmps95
    go_wp2
    go_ret
    exact ⟨rfl, (by repeat (first | (with_reducible exact Below.refl _ _) | (with_reducible assumption) | (with_reducible exact bel_box _) | (with_reducible refine bel_step ?_ (by with_reducible assumption)) | (with_reducible refine Below.drew ?_) | (with_reducible refine below_drewN ?_ _) | (with_reducible refine bel_alloc ?_ _)))⟩
  case false =>
    have hll : r.l.length = s.l.length := by
      have h : ((r.l.length : Nat) : Int) = ((s.l.length : Nat) : Int) := by simpa using q
      omega
    obtain ⟨F, hF0, hFl, HF⟩ := all2_steps f r.l s.l hll
    rw [← hF0]
    obtain ⟨V, hV⟩ : ∃ V, F 0 = V := ⟨_, rfl⟩
    have HV := Lib.hid hV
    have HL := Lib.hid hFl
    rw [hV]
    have HLL := Lib.hid hll
    clear hll hV hFl hF0
    skip
    go_enter Tryz.func95, Tryz.ntmps95
    go_wp2
    go_loopw [17] (fun i wr => ∃ k : Nat, k ≤ r.l.length ∧ i = .int .i64 (k : Int) ∧ Below w.heap.size w wr ∧ Hid (F k = V)) (fun i _ => r.l.length - (intOf i).toNat)
    case atStart => exact ⟨0, by omega, rfl, Below.refl _ _, HV⟩
    case round =>
      obtain ⟨k, hk, rfl, hbl, hno⟩ := hrel
      by_cases hlt : k < r.l.length
      · have hlt2 : k < s.l.length := by have := HLL.out; omega
        obtain ⟨ad, y, hA1, _, hy, _, ⟨c0, c1, c2⟩⟩ := (HR.out.blw oneB_D hbl hbl.size).at_ hlt
        obtain ⟨ad', z, hA2, _, hz, _, ⟨e0, e1, e2⟩⟩ := (HS.out.blw oneB_D hbl hbl.size).at_ hlt2
        rw [hA1, hA2]
        clear hA1 hA2
        have hst := HF.out k y z hy hz
        have KS := Lib.hid (K.out k y z hy hz)
        clear hy hz HF
        generalize f y z = b at *
        have a0 := fun o => cell_al o e0
        have a1 := fun o => cell_al o e1
        have a2 := fun o => cell_al o e2
        cases b
        · have hv : V = false := by rw [← hno.out, hst]; rfl
          subst hv
          clear hst hno HV
          go_wp2_with (go_at_call 96; (with_reducible refine (KS.out _ ?_).mono ?_); (focus ((repeat (first | (with_reducible exact Below.refl _ _) | (with_reducible assumption) | (with_reducible exact bel_box _) | (with_reducible refine bel_step ?_ (by with_reducible assumption)) | (with_reducible refine Below.drew ?_) | (with_reducible refine below_drewN ?_ _) | (with_reducible refine bel_alloc ?_ _))); done)); rintro e w1 ⟨rfl, hb1⟩)
          go_ret
          exact ⟨rfl, (by repeat (first | (with_reducible exact Below.refl _ _) | (with_reducible assumption) | (with_reducible exact bel_box _) | (with_reducible refine bel_step ?_ (by with_reducible assumption)) | (with_reducible refine Below.drew ?_) | (with_reducible refine below_drewN ?_ _) | (with_reducible refine bel_alloc ?_ _)))⟩
        · have hn : Hid (F (k + 1) = V) := Lib.hid (by rw [← hno.out, hst]; simp)
          clear hst hno
          go_wp2_with (go_at_call 96; (with_reducible refine (KS.out _ ?_).mono ?_); (focus ((repeat (first | (with_reducible exact Below.refl _ _) | (with_reducible assumption) | (with_reducible exact bel_box _) | (with_reducible refine bel_step ?_ (by with_reducible assumption)) | (with_reducible refine Below.drew ?_) | (with_reducible refine below_drewN ?_ _) | (with_reducible refine bel_alloc ?_ _))); done)); rintro e w1 ⟨rfl, hb1⟩)
          go_roundw
          case rel => exact ⟨k + 1, by omega, by go_num, (by repeat (first | (with_reducible exact Below.refl _ _) | (with_reducible assumption) | (with_reducible exact bel_box _) | (with_reducible refine bel_step ?_ (by with_reducible assumption)) | (with_reducible refine Below.drew ?_) | (with_reducible refine below_drewN ?_ _) | (with_reducible refine bel_alloc ?_ _))), hn⟩
          case measure => simp [intOf]; omega
      · obtain rfl : k = r.l.length := by omega
        have hv : V = true := by rw [← hno.out]; exact HL.out
        subst hv
        clear hno HF HV HL
        go_wp2
        go_ret
        exact ⟨rfl, hbl⟩
end Go.Proofs.YthlapepjebidgaaGreatDoor
/- slices.EqualFunc of the program. -/
namespace Go.Proofs.YthlapepjebidgaaGreatDoor
set_option linter.unusedVariables false
set_option linter.unusedSimpArgs false
open Go.RowKit
set_option maxHeartbeats 2000000 in
set_option maxRecDepth 20000 in
theorem eqf_Node (r s : Rw (Nt)) (f : Nt → Nt → Bool) (w : World) (hR : RdR w w.heap.size 8 NC r) (hS : RdR w w.heap.size 8 NC s)
    (K : Hid (∀ (k : Nat) (y z : Nt), r.l[k]? = some y → s.l[k]? = some z → ∀ W, Below w.heap.size w W → Calls Tryz.prog 61 #[nV y, nV z] W (Bel (.bool (f y z)) W))) :
    Calls Tryz.prog 60 #[.slice r.A r.l.length r.c, .slice s.A s.l.length s.c, .func (.func 61) #[] #[]] w (Bel (.bool (all2 f r.l s.l)) w) := by
  have h9 := hR.len
  have h9s := hS.len
  unfold maxLen at h9 h9s
  have HR := Lib.hid hR
  have HS := Lib.hid hS
  clear hR hS
  cases q : (((r.l.length : Nat) : Int) != ((s.l.length : Nat) : Int))
  case true =>
    have hv : all2 f r.l s.l = false := all2_len (by intro h; simp [h] at q)
    rw [hv]
    clear hv K HR HS
    go_enter Tryz.func60, Tryz.ntmps60
    go_wp2
    go_ret
    exact ⟨rfl, (by repeat (first | (with_reducible exact Below.refl _ _) | (with_reducible assumption) | (with_reducible exact bel_box _) | (with_reducible refine bel_step ?_ (by with_reducible assumption)) | (with_reducible refine Below.drew ?_) | (with_reducible refine below_drewN ?_ _) | (with_reducible refine bel_alloc ?_ _)))⟩
  case false =>
    have hll : r.l.length = s.l.length := by
      have h : ((r.l.length : Nat) : Int) = ((s.l.length : Nat) : Int) := by simpa using q
      omega
    obtain ⟨F, hF0, hFl, HF⟩ := all2_steps f r.l s.l hll
    rw [← hF0]
    obtain ⟨V, hV⟩ : ∃ V, F 0 = V := ⟨_, rfl⟩
    have HV := Lib.hid hV
    have HL := Lib.hid hFl
    rw [hV]
    have HLL := Lib.hid hll
    clear hll hV hFl hF0
    skip
    go_enter Tryz.func60, Tryz.ntmps60
    go_wp2
    go_loopw [17] (fun i wr => ∃ k : Nat, k ≤ r.l.length ∧ i = .int .i64 (k : Int) ∧ Below w.heap.size w wr ∧ Hid (F k = V)) (fun i _ => r.l.length - (intOf i).toNat)
    case atStart => exact ⟨0, by omega, rfl, Below.refl _ _, HV⟩
    case round =>
      obtain ⟨k, hk, rfl, hbl, hno⟩ := hrel
      by_cases hlt : k < r.l.length
      · have hlt2 : k < s.l.length := by have := HLL.out; omega
        obtain ⟨ad, y, hA1, _, hy, _, ⟨c0, c1, c2, c3, c4, c5, c6, c7⟩⟩ := (HR.out.blw oneB_N hbl hbl.size).at_ hlt
        obtain ⟨ad', z, hA2, _, hz, _, ⟨e0, e1, e2, e3, e4, e5, e6, e7⟩⟩ := (HS.out.blw oneB_N hbl hbl.size).at_ hlt2
        rw [hA1, hA2]
        clear hA1 hA2
        have hst := HF.out k y z hy hz
        have KS := Lib.hid (K.out k y z hy hz)
        clear hy hz HF
        generalize f y z = b at *
        have a0 := fun o => cell_al o e0
        have a1 := fun o => cell_al o e1
        have a2 := fun o => cell_al o e2
        have a3 := fun o => cell_al o e3
        have a4 := fun o => cell_al o e4
        have a5 := fun o => cell_al o e5
        have a6 := fun o => cell_al o e6
        have a7 := fun o => cell_al o e7
        cases b
        · have hv : V = false := by rw [← hno.out, hst]; rfl
          subst hv
          clear hst hno HV
          go_wp2_with (go_at_call 61; (with_reducible refine (KS.out _ ?_).mono ?_); (focus ((repeat (first | (with_reducible exact Below.refl _ _) | (with_reducible assumption) | (with_reducible exact bel_box _) | (with_reducible refine bel_step ?_ (by with_reducible assumption)) | (with_reducible refine Below.drew ?_) | (with_reducible refine below_drewN ?_ _) | (with_reducible refine bel_alloc ?_ _))); done)); rintro e w1 ⟨rfl, hb1⟩)
          go_ret
          exact ⟨rfl, (by repeat (first | (with_reducible exact Below.refl _ _) | (with_reducible assumption) | (with_reducible exact bel_box _) | (with_reducible refine bel_step ?_ (by with_reducible assumption)) | (with_reducible refine Below.drew ?_) | (with_reducible refine below_drewN ?_ _) | (with_reducible refine bel_alloc ?_ _)))⟩
        · have hn : Hid (F (k + 1) = V) := Lib.hid (by rw [← hno.out, hst]; simp)
          clear hst hno
          go_wp2_with (go_at_call 61; (with_reducible refine (KS.out _ ?_).mono ?_); (focus ((repeat (first | (with_reducible exact Below.refl _ _) | (with_reducible assumption) | (with_reducible exact bel_box _) | (with_reducible refine bel_step ?_ (by with_reducible assumption)) | (with_reducible refine Below.drew ?_) | (with_reducible refine below_drewN ?_ _) | (with_reducible refine bel_alloc ?_ _))); done)); rintro e w1 ⟨rfl, hb1⟩)
          go_roundw
          case rel => exact ⟨k + 1, by omega, by go_num, (by repeat (first | (with_reducible exact Below.refl _ _) | (with_reducible assumption) | (with_reducible exact bel_box _) | (with_reducible refine bel_step ?_ (by with_reducible assumption)) | (with_reducible refine Below.drew ?_) | (with_reducible refine below_drewN ?_ _) | (with_reducible refine bel_alloc ?_ _))), hn⟩
          case measure => simp [intOf]; omega
      · obtain rfl : k = r.l.length := by omega
        have hv : V = true := by rw [← hno.out]; exact HL.out
        subst hv
        clear hno HF HV HL
        go_wp2
        go_ret
        exact ⟨rfl, hbl⟩
set_option maxHeartbeats 2000000 in
set_option maxRecDepth 20000 in
theorem eqf_Eq (r s : Rw (Qt)) (f : Qt → Qt → Bool) (w : World) (hR : RdR w w.heap.size 7 QC r) (hS : RdR w w.heap.size 7 QC s)
    (K : Hid (∀ (k : Nat) (y z : Qt), r.l[k]? = some y → s.l[k]? = some z → ∀ W, Below w.heap.size w W → Calls Tryz.prog 98 #[qV y, qV z] W (Bel (.bool (f y z)) W))) :
    Calls Tryz.prog 97 #[.slice r.A r.l.length r.c, .slice s.A s.l.length s.c, .func (.func 98) #[] #[]] w (Bel (.bool (all2 f r.l s.l)) w) := by
  have h9 := hR.len
  have h9s := hS.len
  unfold maxLen at h9 h9s
  have HR := Lib.hid hR
  have HS := Lib.hid hS
  clear hR hS
  cases q : (((r.l.length : Nat) : Int) != ((s.l.length : Nat) : Int))
  case true =>
    have hv : all2 f r.l s.l = false := all2_len (by intro h; simp [h] at q)
    rw [hv]
    clear hv K HR HS
    go_enter Tryz.func97, Tryz.ntmps97
    go_wp2
    go_ret
    exact ⟨rfl, (by repeat (first | (with_reducible exact Below.refl _ _) | (with_reducible assumption) | (with_reducible exact bel_box _) | (with_reducible refine bel_step ?_ (by with_reducible assumption)) | (with_reducible refine Below.drew ?_) | (with_reducible refine below_drewN ?_ _) | (with_reducible refine bel_alloc ?_ _)))⟩
  case false =>
    have hll : r.l.length = s.l.length := by
      have h : ((r.l.length : Nat) : Int) = ((s.l.length : Nat) : Int) := by simpa using q
      omega
    obtain ⟨F, hF0, hFl, HF⟩ := all2_steps f r.l s.l hll
    rw [← hF0]
    obtain ⟨V, hV⟩ : ∃ V, F 0 = V := ⟨_, rfl⟩
    have HV := Lib.hid hV
    have HL := Lib.hid hFl
    rw [hV]
    have HLL := Lib.hid hll
    clear hll hV hFl hF0
    skip
    go_enter Tryz.func97, Tryz.ntmps97
    go_wp2
    go_loopw [17] (fun i wr => ∃ k : Nat, k ≤ r.l.length ∧ i = .int .i64 (k : Int) ∧ Below w.heap.size w wr ∧ Hid (F k = V)) (fun i _ => r.l.length - (intOf i).toNat)
    case atStart => exact ⟨0, by omega, rfl, Below.refl _ _, HV⟩
    case round =>
      obtain ⟨k, hk, rfl, hbl, hno⟩ := hrel
      by_cases hlt : k < r.l.length
      · have hlt2 : k < s.l.length := by have := HLL.out; omega
        obtain ⟨ad, y, hA1, _, hy, _, ⟨c0, c1, c2, c3, c4, c5, c6⟩⟩ := (HR.out.blw oneB_Q hbl hbl.size).at_ hlt
        obtain ⟨ad', z, hA2, _, hz, _, ⟨e0, e1, e2, e3, e4, e5, e6⟩⟩ := (HS.out.blw oneB_Q hbl hbl.size).at_ hlt2
        rw [hA1, hA2]
        clear hA1 hA2
        have hst := HF.out k y z hy hz
        have KS := Lib.hid (K.out k y z hy hz)
        clear hy hz HF
        generalize f y z = b at *
        have a0 := fun o => cell_al o e0
        have a1 := fun o => cell_al o e1
        have a2 := fun o => cell_al o e2
        have a3 := fun o => cell_al o e3
        have a4 := fun o => cell_al o e4
        have a5 := fun o => cell_al o e5
        have a6 := fun o => cell_al o e6
        cases b
        · have hv : V = false := by rw [← hno.out, hst]; rfl
          subst hv
          clear hst hno HV
          go_wp2_with (go_at_call 98; (with_reducible refine (KS.out _ ?_).mono ?_); (focus ((repeat (first | (with_reducible exact Below.refl _ _) | (with_reducible assumption) | (with_reducible exact bel_box _) | (with_reducible refine bel_step ?_ (by with_reducible assumption)) | (with_reducible refine Below.drew ?_) | (with_reducible refine below_drewN ?_ _) | (with_reducible refine bel_alloc ?_ _))); done)); rintro e w1 ⟨rfl, hb1⟩)
          go_ret
          exact ⟨rfl, (by repeat (first | (with_reducible exact Below.refl _ _) | (with_reducible assumption) | (with_reducible exact bel_box _) | (with_reducible refine bel_step ?_ (by with_reducible assumption)) | (with_reducible refine Below.drew ?_) | (with_reducible refine below_drewN ?_ _) | (with_reducible refine bel_alloc ?_ _)))⟩
        · have hn : Hid (F (k + 1) = V) := Lib.hid (by rw [← hno.out, hst]; simp)
          clear hst hno
          go_wp2_with (go_at_call 98; (with_reducible refine (KS.out _ ?_).mono ?_); (focus ((repeat (first | (with_reducible exact Below.refl _ _) | (with_reducible assumption) | (with_reducible exact bel_box _) | (with_reducible refine bel_step ?_ (by with_reducible assumption)) | (with_reducible refine Below.drew ?_) | (with_reducible refine below_drewN ?_ _) | (with_reducible refine bel_alloc ?_ _))); done)); rintro e w1 ⟨rfl, hb1⟩)
          go_roundw
          case rel => exact ⟨k + 1, by omega, by go_num, (by repeat (first | (with_reducible exact Below.refl _ _) | (with_reducible assumption) | (with_reducible exact bel_box _) | (with_reducible refine bel_step ?_ (by with_reducible assumption)) | (with_reducible refine Below.drew ?_) | (with_reducible refine below_drewN ?_ _) | (with_reducible refine bel_alloc ?_ _))), hn⟩
          case measure => simp [intOf]; omega
      · obtain rfl : k = r.l.length := by omega
        have hv : V = true := by rw [← hno.out]; exact HL.out
        subst hv
        clear hno HF HV HL
        go_wp2
        go_ret
        exact ⟨rfl, hbl⟩
set_option maxHeartbeats 2000000 in
set_option maxRecDepth 20000 in
theorem eqf_Auto (r s : Rw (Rw St)) (f : Rw St → Rw St → Bool) (w : World) (hR : RdR w w.heap.size 1 AC r) (hS : RdR w w.heap.size 1 AC s)
    (K : Hid (∀ (k : Nat) (y z : Rw St), r.l[k]? = some y → s.l[k]? = some z → ∀ W, Below w.heap.size w W → Calls Tryz.prog 100 #[aV y, aV z] W (Bel (.bool (f y z)) W))) :
    Calls Tryz.prog 99 #[.slice r.A r.l.length r.c, .slice s.A s.l.length s.c, .func (.func 100) #[] #[]] w (Bel (.bool (all2 f r.l s.l)) w) := by
  have h9 := hR.len
  have h9s := hS.len
  unfold maxLen at h9 h9s
  have HR := Lib.hid hR
  have HS := Lib.hid hS
  clear hR hS
  cases q : (((r.l.length : Nat) : Int) != ((s.l.length : Nat) : Int))
  case true =>
    have hv : all2 f r.l s.l = false := all2_len (by intro h; simp [h] at q)
    rw [hv]
    clear hv K HR HS
    go_enter Tryz.func99, Tryz.ntmps99
    go_wp2
    go_ret
    exact ⟨rfl, (by repeat (first | (with_reducible exact Below.refl _ _) | (with_reducible assumption) | (with_reducible exact bel_box _) | (with_reducible refine bel_step ?_ (by with_reducible assumption)) | (with_reducible refine Below.drew ?_) | (with_reducible refine below_drewN ?_ _) | (with_reducible refine bel_alloc ?_ _)))⟩
  case false =>
    have hll : r.l.length = s.l.length := by
      have h : ((r.l.length : Nat) : Int) = ((s.l.length : Nat) : Int) := by simpa using q
      omega
    obtain ⟨F, hF0, hFl, HF⟩ := all2_steps f r.l s.l hll
    rw [← hF0]
    obtain ⟨V, hV⟩ : ∃ V, F 0 = V := ⟨_, rfl⟩
    have HV := Lib.hid hV
    have HL := Lib.hid hFl
    rw [hV]
    have HLL := Lib.hid hll
    clear hll hV hFl hF0
    skip
    go_enter Tryz.func99, Tryz.ntmps99
    go_wp2
    go_loopw [17] (fun i wr => ∃ k : Nat, k ≤ r.l.length ∧ i = .int .i64 (k : Int) ∧ Below w.heap.size w wr ∧ Hid (F k = V)) (fun i _ => r.l.length - (intOf i).toNat)
    case atStart => exact ⟨0, by omega, rfl, Below.refl _ _, HV⟩
    case round =>
      obtain ⟨k, hk, rfl, hbl, hno⟩ := hrel
      by_cases hlt : k < r.l.length
      · have hlt2 : k < s.l.length := by have := HLL.out; omega
        obtain ⟨ad, y, hA1, _, hy, _, c0⟩ := (HR.out.blw oneB_A hbl hbl.size).at_ hlt
        unfold AC at c0
        rw [Nat.mul_one] at c0
        obtain ⟨ad', z, hA2, _, hz, _, e0⟩ := (HS.out.blw oneB_A hbl hbl.size).at_ hlt2
        unfold AC at e0
        rw [Nat.mul_one] at e0
        rw [hA1, hA2]
        clear hA1 hA2
        have hst := HF.out k y z hy hz
        have KS := Lib.hid (K.out k y z hy hz)
        clear hy hz HF
        generalize f y z = b at *
        have a0 := fun o => cell_al o e0
        cases b
        · have hv : V = false := by rw [← hno.out, hst]; rfl
          subst hv
          clear hst hno HV
          go_wp2_with (go_at_call 100; (with_reducible refine (KS.out _ ?_).mono ?_); (focus ((repeat (first | (with_reducible exact Below.refl _ _) | (with_reducible assumption) | (with_reducible exact bel_box _) | (with_reducible refine bel_step ?_ (by with_reducible assumption)) | (with_reducible refine Below.drew ?_) | (with_reducible refine below_drewN ?_ _) | (with_reducible refine bel_alloc ?_ _))); done)); rintro e w1 ⟨rfl, hb1⟩)
          go_ret
          exact ⟨rfl, (by repeat (first | (with_reducible exact Below.refl _ _) | (with_reducible assumption) | (with_reducible exact bel_box _) | (with_reducible refine bel_step ?_ (by with_reducible assumption)) | (with_reducible refine Below.drew ?_) | (with_reducible refine below_drewN ?_ _) | (with_reducible refine bel_alloc ?_ _)))⟩
        · have hn : Hid (F (k + 1) = V) := Lib.hid (by rw [← hno.out, hst]; simp)
          clear hst hno
          go_wp2_with (go_at_call 100; (with_reducible refine (KS.out _ ?_).mono ?_); (focus ((repeat (first | (with_reducible exact Below.refl _ _) | (with_reducible assumption) | (with_reducible exact bel_box _) | (with_reducible refine bel_step ?_ (by with_reducible assumption)) | (with_reducible refine Below.drew ?_) | (with_reducible refine below_drewN ?_ _) | (with_reducible refine bel_alloc ?_ _))); done)); rintro e w1 ⟨rfl, hb1⟩)
          go_roundw
          case rel => exact ⟨k + 1, by omega, by go_num, (by repeat (first | (with_reducible exact Below.refl _ _) | (with_reducible assumption) | (with_reducible exact bel_box _) | (with_reducible refine bel_step ?_ (by with_reducible assumption)) | (with_reducible refine Below.drew ?_) | (with_reducible refine below_drewN ?_ _) | (with_reducible refine bel_alloc ?_ _))), hn⟩
          case measure => simp [intOf]; omega
      · obtain rfl : k = r.l.length := by omega
        have hv : V = true := by rw [← hno.out]; exact HL.out
        subst hv
        clear hno HF HV HL
        go_wp2
        go_ret
        exact ⟨rfl, hbl⟩
end Go.Proofs.YthlapepjebidgaaGreatDoor
/- Same of both, by the content of a tree. -/
namespace Go.Proofs.YthlapepjebidgaaGreatDoor
set_option linter.unusedVariables false
set_option linter.unusedSimpArgs false
open Go.RowKit Go.Sort
/-- what a tree says, without its addresses -/
inductive Xc where
  | mk (k op t v : Int) (nm : List UInt8) (ar : List Xc)
def Xt.ct (x : Xt) : Xc := .mk x.k x.op x.t x.v x.nm.toList (x.ar.attach.map fun a => Xt.ct a.1)
termination_by SizeOf.sizeOf x
decreasing_by exact Xt.lt_of_mem a.2
theorem Xt.ct_eq (x : Xt) : x.ct = .mk x.k x.op x.t x.v x.nm.toList (x.ar.map Xt.ct) := by
  rw [Xt.ct]
  congr 1
  simp
open Classical in
noncomputable def sameX (a b : Xt) : Bool := decide (a.ct = b.ct)
open Classical in
theorem sameX_iff {a b : Xt} : sameX a b = true ↔ a.ct = b.ct := by
  unfold sameX; exact decide_eq_true_iff
theorem sameX_yes {a b : Xt} (h : a.ct = b.ct) : sameX a b = true := sameX_iff.2 h
theorem sameX_no {a b : Xt} (h : ¬ a.ct = b.ct) : sameX a b = false := by
  cases q : sameX a b
  · rfl
  · exact absurd (sameX_iff.1 q) h
theorem sameX_refl (a : Xt) : sameX a a = true := sameX_yes rfl
theorem sameX_symm (a b : Xt) : sameX a b = sameX b a := by
  rw [Bool.eq_iff_iff, sameX_iff, sameX_iff]; exact eq_comm
theorem ct_parts {a b : Xt} (h : a.ct = b.ct) : a.k = b.k ∧ a.op = b.op ∧ a.t = b.t ∧ a.v = b.v ∧ a.nm.toList = b.nm.toList ∧ a.ar.map Xt.ct = b.ar.map Xt.ct ∧ a.ar.length = b.ar.length := by
  rw [Xt.ct_eq, Xt.ct_eq] at h
  injection h with h1 h2 h3 h4 h5 h6
  exact ⟨h1, h2, h3, h4, h5, h6, by have := congrArg List.length h6; simpa using this⟩
theorem ct_of {a b : Xt} (h1 : a.k = b.k) (h2 : a.op = b.op) (h3 : a.t = b.t) (h4 : a.v = b.v) (h5 : a.nm.toList = b.nm.toList) (h6 : a.ar.map Xt.ct = b.ar.map Xt.ct) : a.ct = b.ct := by
  rw [Xt.ct_eq, Xt.ct_eq, h1, h2, h3, h4, h5, h6]
theorem ct_take {a b : List Xt} {k : Nat} {y z : Xt} (ha : a[k]? = some y) (hb : b[k]? = some z) (h : (a.take k).map Xt.ct = (b.take k).map Xt.ct) (hy : sameX y z = true) : (a.take (k + 1)).map Xt.ct = (b.take (k + 1)).map Xt.ct := by
  rw [take_succ_of ha, take_succ_of hb, List.map_append, List.map_append, h, List.map_singleton, List.map_singleton, sameX_iff.1 hy]
theorem ct_differ {a b : List Xt} {k : Nat} {y z : Xt} (ha : a[k]? = some y) (hb : b[k]? = some z) (hy : sameX y z = false) : ¬ a.map Xt.ct = b.map Xt.ct := by
  intro e
  have h := congrArg (fun l => l[k]?) e
  simp only [List.getElem?_map, ha, hb, Option.map_some] at h
  rw [sameX_yes (Option.some.inj h)] at hy
  cases hy
set_option maxHeartbeats 2000000 in
set_option maxRecDepth 20000 in
theorem rsameX_all (a : Xt) : ∀ (b : Xt) w, RdX w w.heap.size a → RdX w w.heap.size b → Calls Tryz.prog 14 #[xV a, xV b] w (Bel (.bool (sameX a b)) w) := by
  induction a using Xt.ind with
  | h a ih =>
    intro b w hA hB
    have h9 := hA.len.1
    have h9b := hB.len.1
    unfold maxLen at h9 h9b
    have IH : Hid (∀ (k : Nat) (y : Xt), a.ar[k]? = some y → ∀ (z : Xt) W, RdX W W.heap.size y → RdX W W.heap.size z → Calls Tryz.prog 14 #[xV y, xV z] W (Bel (.bool (sameX y z)) W)) := Lib.hid fun k y hy z W h1 h2 => ih y (List.mem_of_getElem? hy) z W h1 h2
    clear ih
    simp only [xV] at IH ⊢
    have HA := Lib.hid hA
    have HB := Lib.hid hB
    clear hA hB
    obtain ⟨b0, b1, b2, b3, b4, b5, b6⟩ := bxW_cells (w := w) (x := a) (W := bxW (bxW w a) b) (bel_box _)
    obtain ⟨d0, d1, d2, d3, d4, d5, d6⟩ := bxW_cells (w := bxW w a) (x := b) (W := bxW (bxW w a) b) (Below.refl _ _)
    rw [bxW_size] at d0 d1 d2 d3 d4 d5 d6
    have hBW : Below w.heap.size w (bxW (bxW w a) b) := bel_alloc (bel_box _) _
    obtain ⟨V, hV⟩ : ∃ V, sameX a b = V := ⟨_, rfl⟩
    have HN : Hid (¬ a.ct = b.ct → V = false) := Lib.hid fun h => hV ▸ sameX_no h
    have HY : Hid (a.ct = b.ct → V = true) := Lib.hid fun h => hV ▸ sameX_yes h
    rw [hV]
    clear hV
    cases q1 : (a.k != b.k)
    case true =>
      have hv : V = false := HN.out fun e => by
        obtain ⟨g1, g2, g3, g4, g5, g6, g7⟩ := ct_parts e
        simp [g1] at q1
      clear HN HY IH HA HB
      go_enter Tryz.func14, Tryz.ntmps14
      go_wp2
      go_ret
      exact ⟨by rw [hv]; rfl, hBW⟩
    cases q2 : (a.op != b.op)
    case true =>
      have hv : V = false := HN.out fun e => by
        obtain ⟨g1, g2, g3, g4, g5, g6, g7⟩ := ct_parts e
        simp [g2] at q2
      clear HN HY IH HA HB
      go_enter Tryz.func14, Tryz.ntmps14
      go_wp2
      go_ret
      exact ⟨by rw [hv]; rfl, hBW⟩
    cases q3 : (a.t != b.t)
    case true =>
      have hv : V = false := HN.out fun e => by
        obtain ⟨g1, g2, g3, g4, g5, g6, g7⟩ := ct_parts e
        simp [g3] at q3
      clear HN HY IH HA HB
      go_enter Tryz.func14, Tryz.ntmps14
      go_wp2
      go_ret
      exact ⟨by rw [hv]; rfl, hBW⟩
    cases q4 : (a.v != b.v)
    case true =>
      have hv : V = false := HN.out fun e => by
        obtain ⟨g1, g2, g3, g4, g5, g6, g7⟩ := ct_parts e
        simp [g4] at q4
      clear HN HY IH HA HB
      go_enter Tryz.func14, Tryz.ntmps14
      go_wp2
      go_ret
      exact ⟨by rw [hv]; rfl, hBW⟩
    cases q5 : (a.nm.toList == b.nm.toList)
    case false =>
      have hv : V = false := HN.out fun e => by
        obtain ⟨g1, g2, g3, g4, g5, g6, g7⟩ := ct_parts e
        simp [g5] at q5
      clear HN HY IH HA HB
      go_enter Tryz.func14, Tryz.ntmps14
      go_wp2
      go_ret
      exact ⟨by rw [hv]; rfl, hBW⟩
    cases q6 : (((a.ar.length : Nat) : Int) != ((b.ar.length : Nat) : Int))
    case true =>
      have hv : V = false := HN.out fun e => by
        obtain ⟨g1, g2, g3, g4, g5, g6, g7⟩ := ct_parts e
        simp [g7] at q6
      clear HN HY IH HA HB
      go_enter Tryz.func14, Tryz.ntmps14
      go_wp2
      go_ret
      exact ⟨by rw [hv]; rfl, hBW⟩
    have p1 : a.k = b.k := by simpa using q1
    have p2 : a.op = b.op := by simpa using q2
    have p3 : a.t = b.t := by simpa using q3
    have p4 : a.v = b.v := by simpa using q4
    have p5 : a.nm.toList = b.nm.toList := by simpa using q5
    have HP := Lib.hid (And.intro p1 (And.intro p2 (And.intro p3 (And.intro p4 p5))))
    clear p1 p2 p3 p4 p5
    go_enter Tryz.func14, Tryz.ntmps14
    go_wp2
    have hll : a.ar.length = b.ar.length := by
      have h : ((a.ar.length : Nat) : Int) = ((b.ar.length : Nat) : Int) := by simpa using q6
      omega
    have HLL := Lib.hid hll
    clear hll
    clear q1 q2 q3 q4 q5 q6 b0 b1 b2 b3 b4 b5 b6 d0 d1 d2 d3 d4 d5 d6
    go_loopw [5] (fun i wr => ∃ k : Nat, k ≤ a.ar.length ∧ i = .int .i64 (k : Int) ∧ Below (bxW (bxW w a) b).heap.size (bxW (bxW w a) b) wr ∧ Hid ((a.ar.take k).map Xt.ct = (b.ar.take k).map Xt.ct)) (fun i _ => a.ar.length - (intOf i).toNat)
    case atStart => exact ⟨0, by omega, rfl, Below.refl _ _, Lib.hid rfl⟩
    case round =>
      obtain ⟨k, hk, rfl, hbl, hno⟩ := hrel
      have hb0 : Below (bxW w a).heap.size (bxW w a) wr := (bel_box _).trans (hbl.mono (by rw [bxW_size (bxW w a)]; omega))
      obtain ⟨b0, b1, b2, b3, b4, b5, b6⟩ := bxW_cells hb0
      obtain ⟨d0, d1, d2, d3, d4, d5, d6⟩ := bxW_cells (w := bxW w a) (x := b) hbl
      rw [bxW_size] at d0 d1 d2 d3 d4 d5 d6
      have hbw := bxW_below hb0
      by_cases hlt : k < a.ar.length
      · obtain ⟨ad, y, hA, had, hy, hm, ⟨c0, c1, c2, c3, c4, c5⟩, hr⟩ := (HA.out.to hbw).at_ hlt
        have hlt2 : k < b.ar.length := by have := HLL.out; omega
        obtain ⟨ad', z, hA', had', hz, hm', ⟨e0, e1, e2, e3, e4, e5⟩, hr'⟩ := (HB.out.to hbw).at_ (i := k) hlt2
        have H1 := fun h => ct_take hy hz hno.out h
        have H2 := fun h => ct_differ hy hz h
        have KS := IH.out k y hy z
        generalize sameX y z = r at H1 H2 KS
        have c1' := fun dd os => Calls.regrown_of (KS (grow (redrawn wr dd) os) (hr.to (below_regrown wr dd os)) (hr'.to (below_regrown wr dd os)))
        rw [hA] at b5
        rw [hA'] at d5
        clear hA hA' hy hz hm hm' KS hr hr'
        have f5 := cell_regrown b5
        have g5 := cell_regrown d5
        have f6 := cell_regrown c0
        have f7 := cell_regrown c1
        have f8 := cell_regrown c2
        have f9 := cell_regrown c3
        have f10 := cell_regrown c4
        have f11 := cell_regrown c5
        have g6 := cell_regrown e0
        have g7 := cell_regrown e1
        have g8 := cell_regrown e2
        have g9 := cell_regrown e3
        have g10 := cell_regrown e4
        have g11 := cell_regrown e5
        clear b0 b1 b2 b3 b4 d0 d1 d2 d3 d4 c0 c1 c2 c3 c4 c5 e0 e1 e2 e3 e4 e5
        cases r
        · have H := Lib.hid (HN.out fun e => H2 rfl (ct_parts e).2.2.2.2.2.1)
          clear H1 H2 HN HY HP IH hno
          go_wp2
          refine wp_region_quiet_below (by kernel_rfl) (by kernel_rfl) ?_
          repeat (quiet_step (with_reducible exact c1' _ _))
          refine wpQuiet_nil ?_
          intro _ hw'
          obtain ⟨⟨dq, osq⟩, hw''⟩ := hw'
          subst hw''
          go_wp2
          go_ret
          exact ⟨by rw [H.out]; rfl, hbw.trans ((below_regrown wr dq osq).mono hbw.size)⟩
        · have H := Lib.hid (H1 rfl)
          clear H1 H2 HN HY HP IH hno
          go_wp2
          refine wp_region_quiet_below (by kernel_rfl) (by kernel_rfl) ?_
          repeat (quiet_step (with_reducible exact c1' _ _))
          refine wpQuiet_nil ?_
          intro _ hw'
          obtain ⟨⟨dq, osq⟩, hw''⟩ := hw'
          subst hw''
          go_wp2
          go_roundw
          case rel => exact ⟨k + 1, by omega, by go_num, hbl.trans ((below_regrown wr dq osq).mono hbl.size), H⟩
          case measure => simp [intOf]; omega
      · obtain rfl : k = a.ar.length := by omega
        have h1 := hno.out
        rw [List.take_length, HLL.out, List.take_length] at h1
        have h2 := HY.out (ct_of HP.out.1 HP.out.2.1 HP.out.2.2.1 HP.out.2.2.2.1 HP.out.2.2.2.2 h1)
        clear h1 hno HP HN HY IH
        go_wp2
        go_ret
        exact ⟨by rw [h2]; rfl, hbw⟩
theorem rsameX_any {B : Nat} (a b : Xt) (w : World) (hA : RdX w w.heap.size a) (hB : RdX w w.heap.size b) (_ : a.size ≤ B) : Calls Tryz.prog 14 #[xV a, xV b] w (Bel (.bool (sameX a b)) w) := rsameX_all a b w hA hB
end Go.Proofs.YthlapepjebidgaaGreatDoor
/- slices.EqualFunc of the program. -/
namespace Go.Proofs.YthlapepjebidgaaGreatDoor
set_option linter.unusedVariables false
set_option linter.unusedSimpArgs false
open Go.RowKit
set_option maxHeartbeats 2000000 in
set_option maxRecDepth 20000 in
theorem eqf_State (r s : Rw (St)) (f : St → St → Bool) (w : World) (hR : RdR w w.heap.size 6 SC r) (hS : RdR w w.heap.size 6 SC s)
    (K : Hid (∀ (k : Nat) (y z : St), r.l[k]? = some y → s.l[k]? = some z → ∀ W, Below w.heap.size w W → Calls Tryz.prog 128 #[sV y, sV z] W (Bel (.bool (f y z)) W))) :
    Calls Tryz.prog 127 #[.slice r.A r.l.length r.c, .slice s.A s.l.length s.c, .func (.func 128) #[] #[]] w (Bel (.bool (all2 f r.l s.l)) w) := by
  have h9 := hR.len
  have h9s := hS.len
  unfold maxLen at h9 h9s
  have HR := Lib.hid hR
  have HS := Lib.hid hS
  clear hR hS
  cases q : (((r.l.length : Nat) : Int) != ((s.l.length : Nat) : Int))
  case true =>
    have hv : all2 f r.l s.l = false := all2_len (by intro h; simp [h] at q)
    rw [hv]
    clear hv K HR HS
    go_enter Tryz.func127, Tryz.ntmps127
    go_wp2
    go_ret
    exact ⟨rfl, (by repeat (first | (with_reducible exact Below.refl _ _) | (with_reducible assumption) | (with_reducible exact bel_box _) | (with_reducible refine bel_step ?_ (by with_reducible assumption)) | (with_reducible refine Below.drew ?_) | (with_reducible refine below_drewN ?_ _) | (with_reducible refine bel_alloc ?_ _)))⟩
  case false =>
    have hll : r.l.length = s.l.length := by
      have h : ((r.l.length : Nat) : Int) = ((s.l.length : Nat) : Int) := by simpa using q
      omega
    obtain ⟨F, hF0, hFl, HF⟩ := all2_steps f r.l s.l hll
    rw [← hF0]
    obtain ⟨V, hV⟩ : ∃ V, F 0 = V := ⟨_, rfl⟩
    have HV := Lib.hid hV
    have HL := Lib.hid hFl
    rw [hV]
    have HLL := Lib.hid hll
    clear hll hV hFl hF0
    skip
    go_enter Tryz.func127, Tryz.ntmps127
    go_wp2
    go_loopw [17] (fun i wr => ∃ k : Nat, k ≤ r.l.length ∧ i = .int .i64 (k : Int) ∧ Below w.heap.size w wr ∧ Hid (F k = V)) (fun i _ => r.l.length - (intOf i).toNat)
    case atStart => exact ⟨0, by omega, rfl, Below.refl _ _, HV⟩
    case round =>
      obtain ⟨k, hk, rfl, hbl, hno⟩ := hrel
      by_cases hlt : k < r.l.length
      · have hlt2 : k < s.l.length := by have := HLL.out; omega
        obtain ⟨ad, y, hA1, _, hy, _, ⟨c0, c1, c2, c3, c4, c5⟩⟩ := (HR.out.blw oneB_S hbl hbl.size).at_ hlt
        obtain ⟨ad', z, hA2, _, hz, _, ⟨e0, e1, e2, e3, e4, e5⟩⟩ := (HS.out.blw oneB_S hbl hbl.size).at_ hlt2
        rw [hA1, hA2]
        clear hA1 hA2
        have hst := HF.out k y z hy hz
        have KS := Lib.hid (K.out k y z hy hz)
        clear hy hz HF
        generalize f y z = b at *
        have a0 := fun o => cell_al o e0
        have a1 := fun o => cell_al o e1
        have a2 := fun o => cell_al o e2
        have a3 := fun o => cell_al o e3
        have a4 := fun o => cell_al o e4
        have a5 := fun o => cell_al o e5
        cases b
        · have hv : V = false := by rw [← hno.out, hst]; rfl
          subst hv
          clear hst hno HV
          go_wp2_with (go_at_call 128; (with_reducible refine (KS.out _ ?_).mono ?_); (focus ((repeat (first | (with_reducible exact Below.refl _ _) | (with_reducible assumption) | (with_reducible exact bel_box _) | (with_reducible refine bel_step ?_ (by with_reducible assumption)) | (with_reducible refine Below.drew ?_) | (with_reducible refine below_drewN ?_ _) | (with_reducible refine bel_alloc ?_ _))); done)); rintro e w1 ⟨rfl, hb1⟩)
          go_ret
          exact ⟨rfl, (by repeat (first | (with_reducible exact Below.refl _ _) | (with_reducible assumption) | (with_reducible exact bel_box _) | (with_reducible refine bel_step ?_ (by with_reducible assumption)) | (with_reducible refine Below.drew ?_) | (with_reducible refine below_drewN ?_ _) | (with_reducible refine bel_alloc ?_ _)))⟩
        · have hn : Hid (F (k + 1) = V) := Lib.hid (by rw [← hno.out, hst]; simp)
          clear hst hno
          go_wp2_with (go_at_call 128; (with_reducible refine (KS.out _ ?_).mono ?_); (focus ((repeat (first | (with_reducible exact Below.refl _ _) | (with_reducible assumption) | (with_reducible exact bel_box _) | (with_reducible refine bel_step ?_ (by with_reducible assumption)) | (with_reducible refine Below.drew ?_) | (with_reducible refine below_drewN ?_ _) | (with_reducible refine bel_alloc ?_ _))); done)); rintro e w1 ⟨rfl, hb1⟩)
          go_roundw
          case rel => exact ⟨k + 1, by omega, by go_num, (by repeat (first | (with_reducible exact Below.refl _ _) | (with_reducible assumption) | (with_reducible exact bel_box _) | (with_reducible refine bel_step ?_ (by with_reducible assumption)) | (with_reducible refine Below.drew ?_) | (with_reducible refine below_drewN ?_ _) | (with_reducible refine bel_alloc ?_ _))), hn⟩
          case measure => simp [intOf]; omega
      · obtain rfl : k = r.l.length := by omega
        have hv : V = true := by rw [← hno.out]; exact HL.out
        subst hv
        clear hno HF HV HL
        go_wp2
        go_ret
        exact ⟨rfl, hbl⟩
set_option maxHeartbeats 2000000 in
set_option maxRecDepth 20000 in
theorem eqf_Trans (r s : Rw (Tt)) (f : Tt → Tt → Bool) (w : World) (hR : RdR w w.heap.size 8 TC r) (hS : RdR w w.heap.size 8 TC s)
    (K : Hid (∀ (k : Nat) (y z : Tt), r.l[k]? = some y → s.l[k]? = some z → ∀ W, Below w.heap.size w W → Calls Tryz.prog 158 #[tV y, tV z] W (Bel (.bool (f y z)) W))) :
    Calls Tryz.prog 157 #[.slice r.A r.l.length r.c, .slice s.A s.l.length s.c, .func (.func 158) #[] #[]] w (Bel (.bool (all2 f r.l s.l)) w) := by
  have h9 := hR.len
  have h9s := hS.len
  unfold maxLen at h9 h9s
  have HR := Lib.hid hR
  have HS := Lib.hid hS
  clear hR hS
  cases q : (((r.l.length : Nat) : Int) != ((s.l.length : Nat) : Int))
  case true =>
    have hv : all2 f r.l s.l = false := all2_len (by intro h; simp [h] at q)
    rw [hv]
    clear hv K HR HS
    go_enter Tryz.func157, Tryz.ntmps157
    go_wp2
    go_ret
    exact ⟨rfl, (by repeat (first | (with_reducible exact Below.refl _ _) | (with_reducible assumption) | (with_reducible exact bel_box _) | (with_reducible refine bel_step ?_ (by with_reducible assumption)) | (with_reducible refine Below.drew ?_) | (with_reducible refine below_drewN ?_ _) | (with_reducible refine bel_alloc ?_ _)))⟩
  case false =>
    have hll : r.l.length = s.l.length := by
      have h : ((r.l.length : Nat) : Int) = ((s.l.length : Nat) : Int) := by simpa using q
      omega
    obtain ⟨F, hF0, hFl, HF⟩ := all2_steps f r.l s.l hll
    rw [← hF0]
    obtain ⟨V, hV⟩ : ∃ V, F 0 = V := ⟨_, rfl⟩
    have HV := Lib.hid hV
    have HL := Lib.hid hFl
    rw [hV]
    have HLL := Lib.hid hll
    clear hll hV hFl hF0
    skip
    go_enter Tryz.func157, Tryz.ntmps157
    go_wp2
    go_loopw [17] (fun i wr => ∃ k : Nat, k ≤ r.l.length ∧ i = .int .i64 (k : Int) ∧ Below w.heap.size w wr ∧ Hid (F k = V)) (fun i _ => r.l.length - (intOf i).toNat)
    case atStart => exact ⟨0, by omega, rfl, Below.refl _ _, HV⟩
    case round =>
      obtain ⟨k, hk, rfl, hbl, hno⟩ := hrel
      by_cases hlt : k < r.l.length
      · have hlt2 : k < s.l.length := by have := HLL.out; omega
        obtain ⟨ad, y, hA1, _, hy, _, ⟨⟨c0, c1, c2, c3, c4, c5⟩, c6, c7⟩⟩ := (HR.out.blw oneB_T hbl hbl.size).at_ hlt
        obtain ⟨ad', z, hA2, _, hz, _, ⟨⟨e0, e1, e2, e3, e4, e5⟩, e6, e7⟩⟩ := (HS.out.blw oneB_T hbl hbl.size).at_ hlt2
        rw [hA1, hA2]
        clear hA1 hA2
        have hst := HF.out k y z hy hz
        have KS := Lib.hid (K.out k y z hy hz)
        clear hy hz HF
        generalize f y z = b at *
        have a0 := fun o => cell_al o e0
        have a1 := fun o => cell_al o e1
        have a2 := fun o => cell_al o e2
        have a3 := fun o => cell_al o e3
        have a4 := fun o => cell_al o e4
        have a5 := fun o => cell_al o e5
        have a6 := fun o => cell_al o e6
        have a7 := fun o => cell_al o e7
        cases b
        · have hv : V = false := by rw [← hno.out, hst]; rfl
          subst hv
          clear hst hno HV
          go_wp2_with (go_at_call 158; (with_reducible refine (KS.out _ ?_).mono ?_); (focus ((repeat (first | (with_reducible exact Below.refl _ _) | (with_reducible assumption) | (with_reducible exact bel_box _) | (with_reducible refine bel_step ?_ (by with_reducible assumption)) | (with_reducible refine Below.drew ?_) | (with_reducible refine below_drewN ?_ _) | (with_reducible refine bel_alloc ?_ _))); done)); rintro e w1 ⟨rfl, hb1⟩)
          go_ret
          exact ⟨rfl, (by repeat (first | (with_reducible exact Below.refl _ _) | (with_reducible assumption) | (with_reducible exact bel_box _) | (with_reducible refine bel_step ?_ (by with_reducible assumption)) | (with_reducible refine Below.drew ?_) | (with_reducible refine below_drewN ?_ _) | (with_reducible refine bel_alloc ?_ _)))⟩
        · have hn : Hid (F (k + 1) = V) := Lib.hid (by rw [← hno.out, hst]; simp)
          clear hst hno
          go_wp2_with (go_at_call 158; (with_reducible refine (KS.out _ ?_).mono ?_); (focus ((repeat (first | (with_reducible exact Below.refl _ _) | (with_reducible assumption) | (with_reducible exact bel_box _) | (with_reducible refine bel_step ?_ (by with_reducible assumption)) | (with_reducible refine Below.drew ?_) | (with_reducible refine below_drewN ?_ _) | (with_reducible refine bel_alloc ?_ _))); done)); rintro e w1 ⟨rfl, hb1⟩)
          go_roundw
          case rel => exact ⟨k + 1, by omega, by go_num, (by repeat (first | (with_reducible exact Below.refl _ _) | (with_reducible assumption) | (with_reducible exact bel_box _) | (with_reducible refine bel_step ?_ (by with_reducible assumption)) | (with_reducible refine Below.drew ?_) | (with_reducible refine below_drewN ?_ _) | (with_reducible refine bel_alloc ?_ _))), hn⟩
          case measure => simp [intOf]; omega
      · obtain rfl : k = r.l.length := by omega
        have hv : V = true := by rw [← hno.out]; exact HL.out
        subst hv
        clear hno HF HV HL
        go_wp2
        go_ret
        exact ⟨rfl, hbl⟩
set_option maxHeartbeats 2000000 in
set_option maxRecDepth 20000 in
theorem eqf_Expr (r s : Rw (Xt)) (f : Xt → Xt → Bool) (w : World) (hR : RdR w w.heap.size 6 XC r) (hS : RdR w w.heap.size 6 XC s)
    (K : Hid (∀ (k : Nat) (y z : Xt), r.l[k]? = some y → s.l[k]? = some z → ∀ W, Below w.heap.size w W → Calls Tryz.prog 102 #[xV y, xV z] W (Bel (.bool (f y z)) W))) :
    Calls Tryz.prog 101 #[.slice r.A r.l.length r.c, .slice s.A s.l.length s.c, .func (.func 102) #[] #[]] w (Bel (.bool (all2 f r.l s.l)) w) := by
  have h9 := hR.len
  have h9s := hS.len
  unfold maxLen at h9 h9s
  have HR := Lib.hid hR
  have HS := Lib.hid hS
  clear hR hS
  cases q : (((r.l.length : Nat) : Int) != ((s.l.length : Nat) : Int))
  case true =>
    have hv : all2 f r.l s.l = false := all2_len (by intro h; simp [h] at q)
    rw [hv]
    clear hv K HR HS
    go_enter Tryz.func101, Tryz.ntmps101
    go_wp2
    go_ret
    exact ⟨rfl, (by repeat (first | (with_reducible exact Below.refl _ _) | (with_reducible assumption) | (with_reducible exact bel_box _) | (with_reducible refine bel_step ?_ (by with_reducible assumption)) | (with_reducible refine Below.drew ?_) | (with_reducible refine below_drewN ?_ _) | (with_reducible refine bel_alloc ?_ _)))⟩
  case false =>
    have hll : r.l.length = s.l.length := by
      have h : ((r.l.length : Nat) : Int) = ((s.l.length : Nat) : Int) := by simpa using q
      omega
    obtain ⟨F, hF0, hFl, HF⟩ := all2_steps f r.l s.l hll
    rw [← hF0]
    obtain ⟨V, hV⟩ : ∃ V, F 0 = V := ⟨_, rfl⟩
    have HV := Lib.hid hV
    have HL := Lib.hid hFl
    rw [hV]
    have HLL := Lib.hid hll
    clear hll hV hFl hF0
    simp only [xV] at K
    go_enter Tryz.func101, Tryz.ntmps101
    go_wp2
    go_loopw [17] (fun i wr => ∃ k : Nat, k ≤ r.l.length ∧ i = .int .i64 (k : Int) ∧ Below w.heap.size w wr ∧ Hid (F k = V)) (fun i _ => r.l.length - (intOf i).toNat)
    case atStart => exact ⟨0, by omega, rfl, Below.refl _ _, HV⟩
    case round =>
      obtain ⟨k, hk, rfl, hbl, hno⟩ := hrel
      by_cases hlt : k < r.l.length
      · have hlt2 : k < s.l.length := by have := HLL.out; omega
        obtain ⟨ad, y, hA1, _, hy, _, ⟨c0, c1, c2, c3, c4, c5⟩⟩ := (HR.out.blw oneB_X hbl hbl.size).at_ hlt
        obtain ⟨ad', z, hA2, _, hz, _, ⟨e0, e1, e2, e3, e4, e5⟩⟩ := (HS.out.blw oneB_X hbl hbl.size).at_ hlt2
        rw [hA1, hA2]
        clear hA1 hA2
        have hst := HF.out k y z hy hz
        have KS := Lib.hid (K.out k y z hy hz)
        clear hy hz HF
        generalize f y z = b at *
        have a0 := fun o => cell_al o e0
        have a1 := fun o => cell_al o e1
        have a2 := fun o => cell_al o e2
        have a3 := fun o => cell_al o e3
        have a4 := fun o => cell_al o e4
        have a5 := fun o => cell_al o e5
        cases b
        · have hv : V = false := by rw [← hno.out, hst]; rfl
          subst hv
          clear hst hno HV
          go_wp2_with (go_at_call 102; (with_reducible refine (KS.out _ ?_).mono ?_); (focus ((repeat (first | (with_reducible exact Below.refl _ _) | (with_reducible assumption) | (with_reducible exact bel_box _) | (with_reducible refine bel_step ?_ (by with_reducible assumption)) | (with_reducible refine Below.drew ?_) | (with_reducible refine below_drewN ?_ _) | (with_reducible refine bel_alloc ?_ _))); done)); rintro e w1 ⟨rfl, hb1⟩)
          go_ret
          exact ⟨rfl, (by repeat (first | (with_reducible exact Below.refl _ _) | (with_reducible assumption) | (with_reducible exact bel_box _) | (with_reducible refine bel_step ?_ (by with_reducible assumption)) | (with_reducible refine Below.drew ?_) | (with_reducible refine below_drewN ?_ _) | (with_reducible refine bel_alloc ?_ _)))⟩
        · have hn : Hid (F (k + 1) = V) := Lib.hid (by rw [← hno.out, hst]; simp)
          clear hst hno
          go_wp2_with (go_at_call 102; (with_reducible refine (KS.out _ ?_).mono ?_); (focus ((repeat (first | (with_reducible exact Below.refl _ _) | (with_reducible assumption) | (with_reducible exact bel_box _) | (with_reducible refine bel_step ?_ (by with_reducible assumption)) | (with_reducible refine Below.drew ?_) | (with_reducible refine below_drewN ?_ _) | (with_reducible refine bel_alloc ?_ _))); done)); rintro e w1 ⟨rfl, hb1⟩)
          go_roundw
          case rel => exact ⟨k + 1, by omega, by go_num, (by repeat (first | (with_reducible exact Below.refl _ _) | (with_reducible assumption) | (with_reducible exact bel_box _) | (with_reducible refine bel_step ?_ (by with_reducible assumption)) | (with_reducible refine Below.drew ?_) | (with_reducible refine below_drewN ?_ _) | (with_reducible refine bel_alloc ?_ _))), hn⟩
          case measure => simp [intOf]; omega
      · obtain rfl : k = r.l.length := by omega
        have hv : V = true := by rw [← hno.out]; exact HL.out
        subst hv
        clear hno HF HV HL
        go_wp2
        go_ret
        exact ⟨rfl, hbl⟩
set_option maxHeartbeats 2000000 in
set_option maxRecDepth 20000 in
theorem eqf_Enum (r s : Rw (va.En)) (f : va.En → va.En → Bool) (w : World) (hR : va.RdE w w.heap.size r.A r.l ∧ r.l.length ≤ maxLen) (hS : va.RdE w w.heap.size s.A s.l ∧ s.l.length ≤ maxLen)
    (K : Hid (∀ (k : Nat) (y z : va.En), r.l[k]? = some y → s.l[k]? = some z → ∀ W, Below w.heap.size w W → Calls Tryz.prog 59 #[eV y, eV z] W (Bel (.bool (f y z)) W))) :
    Calls Tryz.prog 58 #[.slice r.A r.l.length r.c, .slice s.A s.l.length s.c, .func (.func 59) #[] #[]] w (Bel (.bool (all2 f r.l s.l)) w) := by
  have h9 := hR.2
  have h9s := hS.2
  unfold maxLen at h9 h9s
  have HR := Lib.hid hR
  have HS := Lib.hid hS
  clear hR hS
  cases q : (((r.l.length : Nat) : Int) != ((s.l.length : Nat) : Int))
  case true =>
    have hv : all2 f r.l s.l = false := all2_len (by intro h; simp [h] at q)
    rw [hv]
    clear hv K HR HS
    go_enter Tryz.func58, Tryz.ntmps58
    go_wp2
    go_ret
    exact ⟨rfl, (by repeat (first | (with_reducible exact Below.refl _ _) | (with_reducible assumption) | (with_reducible exact bel_box _) | (with_reducible refine bel_step ?_ (by with_reducible assumption)) | (with_reducible refine Below.drew ?_) | (with_reducible refine below_drewN ?_ _) | (with_reducible refine bel_alloc ?_ _)))⟩
  case false =>
    have hll : r.l.length = s.l.length := by
      have h : ((r.l.length : Nat) : Int) = ((s.l.length : Nat) : Int) := by simpa using q
      omega
    obtain ⟨F, hF0, hFl, HF⟩ := all2_steps f r.l s.l hll
    rw [← hF0]
    obtain ⟨V, hV⟩ : ∃ V, F 0 = V := ⟨_, rfl⟩
    have HV := Lib.hid hV
    have HL := Lib.hid hFl
    rw [hV]
    have HLL := Lib.hid hll
    clear hll hV hFl hF0
    skip
    go_enter Tryz.func58, Tryz.ntmps58
    go_wp2
    go_loopw [17] (fun i wr => ∃ k : Nat, k ≤ r.l.length ∧ i = .int .i64 (k : Int) ∧ Below w.heap.size w wr ∧ Hid (F k = V)) (fun i _ => r.l.length - (intOf i).toNat)
    case atStart => exact ⟨0, by omega, rfl, Below.refl _ _, HV⟩
    case round =>
      obtain ⟨k, hk, rfl, hbl, hno⟩ := hrel
      by_cases hlt : k < r.l.length
      · have hlt2 : k < s.l.length := by have := HLL.out; omega
        obtain ⟨ad, y, hA1, _, hy, c0, c1, _⟩ := (HR.out.1.to hbl).at_ hlt
        obtain ⟨ad', z, hA2, _, hz, e0, e1, _⟩ := (HS.out.1.to hbl).at_ hlt2
        rw [hA1, hA2]
        clear hA1 hA2
        have hst := HF.out k y z hy hz
        have KS := Lib.hid (K.out k y z hy hz)
        clear hy hz HF
        generalize f y z = b at *
        have a0 := fun o => cell_al o e0
        have a1 := fun o => cell_al o e1
        cases b
        · have hv : V = false := by rw [← hno.out, hst]; rfl
          subst hv
          clear hst hno HV
          go_wp2_with (go_at_call 59; (with_reducible refine (KS.out _ ?_).mono ?_); (focus ((repeat (first | (with_reducible exact Below.refl _ _) | (with_reducible assumption) | (with_reducible exact bel_box _) | (with_reducible refine bel_step ?_ (by with_reducible assumption)) | (with_reducible refine Below.drew ?_) | (with_reducible refine below_drewN ?_ _) | (with_reducible refine bel_alloc ?_ _))); done)); rintro e w1 ⟨rfl, hb1⟩)
          go_ret
          exact ⟨rfl, (by repeat (first | (with_reducible exact Below.refl _ _) | (with_reducible assumption) | (with_reducible exact bel_box _) | (with_reducible refine bel_step ?_ (by with_reducible assumption)) | (with_reducible refine Below.drew ?_) | (with_reducible refine below_drewN ?_ _) | (with_reducible refine bel_alloc ?_ _)))⟩
        · have hn : Hid (F (k + 1) = V) := Lib.hid (by rw [← hno.out, hst]; simp)
          clear hst hno
          go_wp2_with (go_at_call 59; (with_reducible refine (KS.out _ ?_).mono ?_); (focus ((repeat (first | (with_reducible exact Below.refl _ _) | (with_reducible assumption) | (with_reducible exact bel_box _) | (with_reducible refine bel_step ?_ (by with_reducible assumption)) | (with_reducible refine Below.drew ?_) | (with_reducible refine below_drewN ?_ _) | (with_reducible refine bel_alloc ?_ _))); done)); rintro e w1 ⟨rfl, hb1⟩)
          go_roundw
          case rel => exact ⟨k + 1, by omega, by go_num, (by repeat (first | (with_reducible exact Below.refl _ _) | (with_reducible assumption) | (with_reducible exact bel_box _) | (with_reducible refine bel_step ?_ (by with_reducible assumption)) | (with_reducible refine Below.drew ?_) | (with_reducible refine below_drewN ?_ _) | (with_reducible refine bel_alloc ?_ _))), hn⟩
          case measure => simp [intOf]; omega
      · obtain rfl : k = r.l.length := by omega
        have hv : V = true := by rw [← hno.out]; exact HL.out
        subst hv
        clear hno HF HV HL
        go_wp2
        go_ret
        exact ⟨rfl, hbl⟩
end Go.Proofs.YthlapepjebidgaaGreatDoor
/- slices.EqualFunc of the program. -/
namespace Go.Proofs.YthlapepjebidgaaGreatDoor
set_option linter.unusedVariables false
set_option linter.unusedSimpArgs false
open Go.RowKit
def samO (a b : Ot) : Bool := a.nm.toList == b.nm.toList && (a.t == b.t && a.tag == b.tag)
set_option maxHeartbeats 2000000 in
set_option maxRecDepth 20000 in
theorem eq_On (r s : Rw Ot) (w : World) (hR : RdR w w.heap.size 3 OC r) (hS : RdR w w.heap.size 3 OC s) :
    Calls Tryz.prog 126 #[.slice r.A r.l.length r.c, .slice s.A s.l.length s.c] w (Bel (.bool (all2 samO r.l s.l)) w) := by
  have h9 := hR.len
  have h9s := hS.len
  unfold maxLen at h9 h9s
  have HR := Lib.hid hR
  have HS := Lib.hid hS
  clear hR hS
  cases q : (((r.l.length : Nat) : Int) != ((s.l.length : Nat) : Int))
  case true =>
    have hv : all2 samO r.l s.l = false := all2_len (by intro h; simp [h] at q)
    rw [hv]
    clear hv HR HS
    go_enter Tryz.func126, Tryz.ntmps126
    go_wp2
    go_ret
    exact ⟨rfl, (by repeat (first | (with_reducible exact Below.refl _ _) | (with_reducible assumption) | (with_reducible exact bel_box _) | (with_reducible refine bel_step ?_ (by with_reducible assumption)) | (with_reducible refine Below.drew ?_) | (with_reducible refine below_drewN ?_ _) | (with_reducible refine bel_alloc ?_ _)))⟩
  case false =>
    have hll : r.l.length = s.l.length := by
      have h : ((r.l.length : Nat) : Int) = ((s.l.length : Nat) : Int) := by simpa using q
      omega
    obtain ⟨F, hF0, hFl, HF⟩ := all2_steps samO r.l s.l hll
    rw [← hF0]
    obtain ⟨V, hV⟩ : ∃ V, F 0 = V := ⟨_, rfl⟩
    have HV := Lib.hid hV
    have HL := Lib.hid hFl
    rw [hV]
    have HLL := Lib.hid hll
    clear hll hV hFl hF0
    go_enter Tryz.func126, Tryz.ntmps126
    go_wp2
    go_loopw [13] (fun i wr => ∃ k : Nat, k ≤ r.l.length ∧ i = .int .i64 (k : Int) ∧ Below w.heap.size w wr ∧ Hid (F k = V)) (fun i _ => r.l.length - (intOf i).toNat)
    case atStart => exact ⟨0, by omega, rfl, Below.refl _ _, HV⟩
    case round =>
      obtain ⟨k, hk, rfl, hbl, hno⟩ := hrel
      by_cases hlt : k < r.l.length
      · have hlt2 : k < s.l.length := by have := HLL.out; omega
        obtain ⟨ad, y, hA1, _, hy, _, ⟨c0, c1, c2⟩⟩ := (HR.out.blw oneB_O hbl hbl.size).at_ hlt
        obtain ⟨ad', z, hA2, _, hz, _, ⟨e0, e1, e2⟩⟩ := (HS.out.blw oneB_O hbl hbl.size).at_ hlt2
        rw [hA1, hA2]
        clear hA1 hA2
        have hst := HF.out k y z hy hz
        clear hy hz HF
        have hf : samO y z = (y.nm.toList == z.nm.toList && (y.t == z.t && y.tag == z.tag)) := rfl
        rw [hf] at hst
        clear hf
        cases q1 : (y.nm.toList == z.nm.toList)
        · have hv : V = false := by rw [← hno.out, hst, q1]; rfl
          subst hv
          clear hst hno HV
          go_wp2
          go_quiet (fail)
          go_wp2
          go_ret
          exact ⟨rfl, (by repeat (first | (with_reducible exact Below.refl _ _) | (with_reducible assumption) | (with_reducible exact bel_box _) | (with_reducible refine bel_step ?_ (by with_reducible assumption)) | (with_reducible refine Below.drew ?_) | (with_reducible refine below_drewN ?_ _) | (with_reducible refine bel_alloc ?_ _)))⟩
        cases q2 : (y.t == z.t)
        · have hv : V = false := by rw [← hno.out, hst, q1, q2]; rfl
          subst hv
          clear hst hno HV
          go_wp2
          go_quiet (fail)
          go_wp2
          go_ret
          exact ⟨rfl, (by repeat (first | (with_reducible exact Below.refl _ _) | (with_reducible assumption) | (with_reducible exact bel_box _) | (with_reducible refine bel_step ?_ (by with_reducible assumption)) | (with_reducible refine Below.drew ?_) | (with_reducible refine below_drewN ?_ _) | (with_reducible refine bel_alloc ?_ _)))⟩
        cases q3 : (y.tag == z.tag)
        · have hv : V = false := by rw [← hno.out, hst, q1, q2, q3]; rfl
          subst hv
          clear hst hno HV
          go_wp2
          go_quiet (fail)
          go_wp2
          go_ret
          exact ⟨rfl, (by repeat (first | (with_reducible exact Below.refl _ _) | (with_reducible assumption) | (with_reducible exact bel_box _) | (with_reducible refine bel_step ?_ (by with_reducible assumption)) | (with_reducible refine Below.drew ?_) | (with_reducible refine below_drewN ?_ _) | (with_reducible refine bel_alloc ?_ _)))⟩
        · have hn : Hid (F (k + 1) = V) := Lib.hid (by rw [← hno.out, hst, q1, q2, q3]; simp)
          clear hst hno
          go_wp2
          go_quiet (fail)
          go_wp2
          go_roundw
          case rel => exact ⟨k + 1, by omega, by go_num, (by repeat (first | (with_reducible exact Below.refl _ _) | (with_reducible assumption) | (with_reducible exact bel_box _) | (with_reducible refine bel_step ?_ (by with_reducible assumption)) | (with_reducible refine Below.drew ?_) | (with_reducible refine below_drewN ?_ _) | (with_reducible refine bel_alloc ?_ _))), hn⟩
          case measure => simp [intOf]; omega
      · obtain rfl : k = r.l.length := by omega
        have hv : V = true := by rw [← hno.out]; exact HL.out
        subst hv
        clear hno HF HV HL
        go_wp2
        go_ret
        exact ⟨rfl, hbl⟩
end Go.Proofs.YthlapepjebidgaaGreatDoor
/- Same of the program, with slices.EqualFunc. -/
namespace Go.Proofs.YthlapepjebidgaaGreatDoor
set_option linter.unusedVariables false
set_option linter.unusedSimpArgs false
open Go.RowKit Go.Sort
set_option maxHeartbeats 2000000 in
set_option maxRecDepth 20000 in
theorem equalfunc_any (la lb : List Xt) (A B : Option Addr) (c d : Nat) (w : World) (hA : RdXs w w.heap.size A la) (hB : RdXs w w.heap.size B lb) (ha : la.length ≤ 2 ^ 63 - 1) (hb : lb.length ≤ 2 ^ 63 - 1)
    (hK : Hid (∀ (k : Nat) (y z : Xt), la[k]? = some y → lb[k]? = some z → ∀ W, Below w.heap.size w W → Calls Tryz.prog 102 #[xV y, xV z] W (Bel (.bool (sameX y z)) W))) (V : Bool) (HN : Hid (¬ la.map Xt.ct = lb.map Xt.ct → V = false)) (HY : Hid (la.map Xt.ct = lb.map Xt.ct → V = true)) :
    Calls Tryz.prog 101 #[.slice A la.length c, .slice B lb.length d, .func (.func 102) #[] #[]] w (Bel (.bool V) w) := by
  cases q : (((la.length : Nat) : Int) != ((lb.length : Nat) : Int))
  case true =>
    have hv : V = false := HN.out fun e => by
      have := congrArg List.length e
      simp at this
      simp [this] at q
    clear HN HY hK hA hB
    go_enter Tryz.func101, Tryz.ntmps101
    go_wp2
    go_ret
    exact ⟨by rw [hv]; rfl, (by repeat (first | (with_reducible exact Below.refl _ _) | (with_reducible assumption) | (with_reducible exact bel_box _) | (with_reducible refine bel_step ?_ (by with_reducible assumption)) | (with_reducible refine Below.drew ?_) | (with_reducible refine below_drewN ?_ _) | (with_reducible refine bel_alloc ?_ _)))⟩
  case false =>
    have hll : la.length = lb.length := by
      have h : ((la.length : Nat) : Int) = ((lb.length : Nat) : Int) := by simpa using q
      omega
    have HLL := Lib.hid hll
    clear hll
    simp only [xV] at hK
    go_enter Tryz.func101, Tryz.ntmps101
    go_wp2
    go_loopw [17] (fun i wr => ∃ k : Nat, k ≤ la.length ∧ i = .int .i64 (k : Int) ∧ Below w.heap.size w wr ∧ Hid ((la.take k).map Xt.ct = (lb.take k).map Xt.ct)) (fun i _ => la.length - (intOf i).toNat)
    case atStart => exact ⟨0, by omega, rfl, Below.refl _ _, Lib.hid rfl⟩
    case round =>
      obtain ⟨k, hk, rfl, hbl, hno⟩ := hrel
      by_cases hlt : k < la.length
      · have hlt2 : k < lb.length := by have := HLL.out; omega
        obtain ⟨ad, y, rfl, had, hy, _, ⟨c0, c1, c2, c3, c4, c5⟩⟩ := (hA.to hbl).at_ hlt
        obtain ⟨ad', z, rfl, had', hz, _, ⟨e0, e1, e2, e3, e4, e5⟩⟩ := (hB.to hbl).at_ hlt2
        have H1 := fun h => ct_take hy hz hno.out h
        have H2 := fun h => ct_differ hy hz h
        have KS := hK.out k y z hy hz
        generalize sameX y z = r at H1 H2 KS
        have KS2 := Lib.hid KS
        clear KS hy hz hno hA hB
        have e0' := fun o => cell_al o e0
        have e1' := fun o => cell_al o e1
        have e2' := fun o => cell_al o e2
        have e3' := fun o => cell_al o e3
        have e4' := fun o => cell_al o e4
        have e5' := fun o => cell_al o e5
        cases r
        · have H := Lib.hid (HN.out (H2 rfl))
          clear H1 H2 HN HY
          go_wp2_with (go_at_call 102; (with_reducible refine (KS2.out _ ?_).mono ?_); (focus ((repeat (first | (with_reducible exact Below.refl _ _) | (with_reducible assumption) | (with_reducible exact bel_box _) | (with_reducible refine bel_step ?_ (by with_reducible assumption)) | (with_reducible refine Below.drew ?_) | (with_reducible refine below_drewN ?_ _) | (with_reducible refine bel_alloc ?_ _))); done)); rintro e w1 ⟨rfl, hb1⟩)
          go_ret
          exact ⟨by rw [H.out]; rfl, (by repeat (first | (with_reducible exact Below.refl _ _) | (with_reducible assumption) | (with_reducible exact bel_box _) | (with_reducible refine bel_step ?_ (by with_reducible assumption)) | (with_reducible refine Below.drew ?_) | (with_reducible refine below_drewN ?_ _) | (with_reducible refine bel_alloc ?_ _)))⟩
        · have H := Lib.hid (H1 rfl)
          clear H1 H2 HN HY
          go_wp2_with (go_at_call 102; (with_reducible refine (KS2.out _ ?_).mono ?_); (focus ((repeat (first | (with_reducible exact Below.refl _ _) | (with_reducible assumption) | (with_reducible exact bel_box _) | (with_reducible refine bel_step ?_ (by with_reducible assumption)) | (with_reducible refine Below.drew ?_) | (with_reducible refine below_drewN ?_ _) | (with_reducible refine bel_alloc ?_ _))); done)); rintro e w1 ⟨rfl, hb1⟩)
          go_roundw
          case rel => exact ⟨k + 1, by omega, by go_num, (by repeat (first | (with_reducible exact Below.refl _ _) | (with_reducible assumption) | (with_reducible exact bel_box _) | (with_reducible refine bel_step ?_ (by with_reducible assumption)) | (with_reducible refine Below.drew ?_) | (with_reducible refine below_drewN ?_ _) | (with_reducible refine bel_alloc ?_ _))), H⟩
          case measure => simp [intOf]; omega
      · obtain rfl : k = la.length := by omega
        have h1 := hno.out
        rw [List.take_length, HLL.out, List.take_length] at h1
        have h2 := HY.out h1
        clear h1 hno HN HY
        go_wp2
        go_ret
        exact ⟨by rw [h2]; rfl, hbl⟩
end Go.Proofs.YthlapepjebidgaaGreatDoor
/- Same of the program. -/
namespace Go.Proofs.YthlapepjebidgaaGreatDoor
set_option linter.unusedVariables false
set_option linter.unusedSimpArgs false
open Go.RowKit Go.Sort
theorem kids_read {w : World} {x : Xt} (h : RdX w w.heap.size x) : RdXs w w.heap.size x.A x.ar := by
  cases h with
  | mk x h0 h1 h2 h3 =>
    intro hn
    obtain ⟨ad, e, hb⟩ := h0 hn
    exact ⟨ad, e, hb, fun i y hy => h1 ad i y e hy⟩
set_option maxHeartbeats 2000000 in
set_option maxRecDepth 20000 in
theorem sameX_all (a : Xt) : ∀ (b : Xt) w, RdX w w.heap.size a → RdX w w.heap.size b → Calls Tryz.prog 102 #[xV a, xV b] w (Bel (.bool (sameX a b)) w) := by
  induction a using Xt.ind with
  | h a ih =>
    intro b w hA hB
    have h9 := hA.len.1
    have h9b := hB.len.1
    unfold maxLen at h9 h9b
    have KE : ∀ V, Hid (¬ a.ar.map Xt.ct = b.ar.map Xt.ct → V = false) → Hid (a.ar.map Xt.ct = b.ar.map Xt.ct → V = true) → Hid (∀ W, Below w.heap.size w W → Calls Tryz.prog 101 #[.slice a.A a.ar.length a.c, .slice b.A b.ar.length b.c, .func (.func 102) #[] #[]] W (Bel (.bool V) W)) := fun V hN hY => Lib.hid fun W h =>
      equalfunc_any a.ar b.ar a.A b.A a.c b.c W (kids_read (hA.to h)) (kids_read (hB.to h)) h9 h9b (Lib.hid fun k y z hy hz W' h' => ih y (List.mem_of_getElem? hy) z W' (((hA.to h).kid (List.mem_of_getElem? hy)).to h') (((hB.to h).kid (List.mem_of_getElem? hz)).to h')) V hN hY
    clear ih hA hB h9 h9b
    simp only [xV]
    obtain ⟨b0, b1, b2, b3, b4, b5, b6⟩ := bxW_cells (w := w) (x := a) (W := bxW (bxW w a) b) (bel_box _)
    obtain ⟨d0, d1, d2, d3, d4, d5, d6⟩ := bxW_cells (w := bxW w a) (x := b) (W := bxW (bxW w a) b) (Below.refl _ _)
    rw [bxW_size] at d0 d1 d2 d3 d4 d5 d6
    have hBW : Below w.heap.size w (bxW (bxW w a) b) := bel_alloc (bel_box _) _
    obtain ⟨V, hV⟩ : ∃ V, sameX a b = V := ⟨_, rfl⟩
    have HN : Hid (¬ a.ct = b.ct → V = false) := Lib.hid fun h => hV ▸ sameX_no h
    have HY : Hid (a.ct = b.ct → V = true) := Lib.hid fun h => hV ▸ sameX_yes h
    rw [hV]
    clear hV
    cases q1 : (a.k == b.k)
    case false =>
      have hv : V = false := HN.out fun e => by
        obtain ⟨g1, g2, g3, g4, g5, g6, g7⟩ := ct_parts e
        simp [g1] at q1
      clear HN HY KE
      go_enter Tryz.func102, Tryz.ntmps102
      go_wp2
      go_ret
      exact ⟨by rw [hv]; rfl, (by repeat (first | (with_reducible exact Below.refl _ _) | (with_reducible assumption) | (with_reducible exact bel_box _) | (with_reducible refine bel_step ?_ (by with_reducible assumption)) | (with_reducible refine Below.drew ?_) | (with_reducible refine below_drewN ?_ _) | (with_reducible refine bel_alloc ?_ _)))⟩
    cases q2 : (a.op == b.op)
    case false =>
      have hv : V = false := HN.out fun e => by
        obtain ⟨g1, g2, g3, g4, g5, g6, g7⟩ := ct_parts e
        simp [g2] at q2
      clear HN HY KE
      go_enter Tryz.func102, Tryz.ntmps102
      go_wp2
      go_ret
      exact ⟨by rw [hv]; rfl, (by repeat (first | (with_reducible exact Below.refl _ _) | (with_reducible assumption) | (with_reducible exact bel_box _) | (with_reducible refine bel_step ?_ (by with_reducible assumption)) | (with_reducible refine Below.drew ?_) | (with_reducible refine below_drewN ?_ _) | (with_reducible refine bel_alloc ?_ _)))⟩
    cases q3 : (a.t == b.t)
    case false =>
      have hv : V = false := HN.out fun e => by
        obtain ⟨g1, g2, g3, g4, g5, g6, g7⟩ := ct_parts e
        simp [g3] at q3
      clear HN HY KE
      go_enter Tryz.func102, Tryz.ntmps102
      go_wp2
      go_ret
      exact ⟨by rw [hv]; rfl, (by repeat (first | (with_reducible exact Below.refl _ _) | (with_reducible assumption) | (with_reducible exact bel_box _) | (with_reducible refine bel_step ?_ (by with_reducible assumption)) | (with_reducible refine Below.drew ?_) | (with_reducible refine below_drewN ?_ _) | (with_reducible refine bel_alloc ?_ _)))⟩
    cases q4 : (a.v == b.v)
    case false =>
      have hv : V = false := HN.out fun e => by
        obtain ⟨g1, g2, g3, g4, g5, g6, g7⟩ := ct_parts e
        simp [g4] at q4
      clear HN HY KE
      go_enter Tryz.func102, Tryz.ntmps102
      go_wp2
      go_ret
      exact ⟨by rw [hv]; rfl, (by repeat (first | (with_reducible exact Below.refl _ _) | (with_reducible assumption) | (with_reducible exact bel_box _) | (with_reducible refine bel_step ?_ (by with_reducible assumption)) | (with_reducible refine Below.drew ?_) | (with_reducible refine below_drewN ?_ _) | (with_reducible refine bel_alloc ?_ _)))⟩
    cases q5 : (a.nm.toList == b.nm.toList)
    case false =>
      have hv : V = false := HN.out fun e => by
        obtain ⟨g1, g2, g3, g4, g5, g6, g7⟩ := ct_parts e
        simp [g5] at q5
      clear HN HY KE
      go_enter Tryz.func102, Tryz.ntmps102
      go_wp2
      go_ret
      exact ⟨by rw [hv]; rfl, (by repeat (first | (with_reducible exact Below.refl _ _) | (with_reducible assumption) | (with_reducible exact bel_box _) | (with_reducible refine bel_step ?_ (by with_reducible assumption)) | (with_reducible refine Below.drew ?_) | (with_reducible refine below_drewN ?_ _) | (with_reducible refine bel_alloc ?_ _)))⟩
    have p1 : a.k = b.k := by simpa using q1
    have p2 : a.op = b.op := by simpa using q2
    have p3 : a.t = b.t := by simpa using q3
    have p4 : a.v = b.v := by simpa using q4
    have p5 : a.nm.toList = b.nm.toList := by simpa using q5
    have KE2 := KE V (Lib.hid fun h => HN.out fun e => h (ct_parts e).2.2.2.2.2.1) (Lib.hid fun h => HY.out (ct_of p1 p2 p3 p4 p5 h))
    clear p1 p2 p3 p4 p5 HN HY KE
    have HBW := Lib.hid hBW
    clear hBW
    go_enter Tryz.func102, Tryz.ntmps102
    go_wp2_with (go_at_call 101; (with_reducible refine (KE2.out _ ?_).mono ?_); (focus (exact HBW.out; done)); rintro e w1 ⟨rfl, hb1⟩)
    go_ret
    exact ⟨rfl, HBW.out.trans (Below.mono hb1 HBW.out.size)⟩
theorem sameX_any {B : Nat} (a b : Xt) (w : World) (hA : RdX w w.heap.size a) (hB : RdX w w.heap.size b) (_ : a.size ≤ B) : Calls Tryz.prog 102 #[xV a, xV b] w (Bel (.bool (sameX a b)) w) := sameX_all a b w hA hB
end Go.Proofs.YthlapepjebidgaaGreatDoor
/- sameDecl, sameEnum, sameTrans, sameAuto of the program; slices.Equal at texts. -/
namespace Go.Proofs.YthlapepjebidgaaGreatDoor
set_option linter.unusedVariables false
set_option linter.unusedSimpArgs false
open Go.RowKit
variable {Bd : Nat}
theorem all2_iff {α : Type} {f : α → α → Bool} {l m : List α} : all2 f l m = true ↔ l.length = m.length ∧ ∀ (i : Nat) (y z : α), l[i]? = some y → m[i]? = some z → f y z = true := by
  induction l generalizing m with
  | nil => cases m <;> simp [all2]
  | cons a l ih => cases m with
    | nil => simp [all2]
    | cons b m =>
      rw [all2, Bool.and_eq_true, ih]
      constructor
      · rintro ⟨h1, h2, h3⟩
        refine ⟨by simp [h2], fun i y z hy hz => ?_⟩
        cases i with
        | zero => simp at hy hz; subst hy; subst hz; exact h1
        | succ i => exact h3 i y z (by simpa using hy) (by simpa using hz)
      · rintro ⟨h1, h2⟩
        exact ⟨h2 0 a b rfl rfl, by simpa using h1, fun i y z hy hz => h2 (i + 1) y z (by simpa using hy) (by simpa using hz)⟩
def samB (a b : ByteArray) : Bool := a.toList == b.toList
theorem samB_iff {a b : ByteArray} : samB a b = true ↔ a = b := by
  unfold samB
  rw [beq_iff_eq, Lib.toList_data, Lib.toList_data]
  exact ⟨fun h => ByteArray.ext (Array.toList_inj.mp h), fun h => by rw [h]⟩
theorem samB_all {l m : List ByteArray} : all2 samB l m = decide (l = m) := by
  rw [Bool.eq_iff_iff, all2_iff, decide_eq_true_iff]
  constructor
  · rintro ⟨h1, h2⟩
    apply List.ext_getElem h1
    intro i hi hj
    exact samB_iff.1 (h2 i _ _ (List.getElem?_eq_getElem hi) (List.getElem?_eq_getElem hj))
  · rintro rfl
    exact ⟨rfl, fun i y z hy hz => samB_iff.2 (Option.some.inj (hy.symm.trans hz))⟩
def samE (a b : va.En) : Bool := a.name.toList == b.name.toList && all2 samB a.tags b.tags
def samD (a b : Dt) : Bool := a.nm.toList == b.nm.toList && (a.ty == b.ty && all2 samO a.ck.l b.ck.l)
noncomputable def samQ (a b : Qt) : Bool := all2 samB a.lf.l b.lf.l && sameX a.r b.r
noncomputable def samT (a b : Tt) : Bool := a.to == b.to && (a.re == b.re && sameX a.cd b.cd)
theorem below_drewN' (w : World) (q : Nat) : Below w.heap.size w (w.drewN q) := below_drewN (Below.refl _ _) q
set_option maxHeartbeats 1000000 in
theorem eq_texts (r s : Rw ByteArray) (w : World) (hR : RdR w w.heap.size 1 BC r) (hS : RdR w w.heap.size 1 BC s) :
    Calls Tryz.prog 94 #[.slice r.A r.l.length r.c, .slice s.A s.l.length s.c] w (Bel (.bool (all2 samB r.l s.l)) w) := by
  have h9 := hR.len
  have h9s := hS.len
  unfold maxLen at h9 h9s
  by_cases hl : r.l.length = s.l.length
  · by_cases h0 : r.l.length = 0
    · have e1 : r.l = [] := List.length_eq_zero_iff.1 h0
      have e2 : s.l = [] := List.length_eq_zero_iff.1 (by omega)
      have k := Tryz.slices_Equal_string_empty r.A s.A r.c 0 s.c w (by omega)
      rw [e1, e2]
      exact k.mono fun e w' h => ⟨h.1, by rw [h.2]; exact Below.refl _ _⟩
    · obtain ⟨ad, hA, _⟩ := hR.1 (by intro e; rw [e] at h0; exact h0 rfl)
      obtain ⟨ad', hA', _⟩ := hS.1 (by intro e; rw [e] at hl; exact h0 hl)
      have hc := hR.2.1 ad
      have hc' := hS.2.1 ad'
      have hx : ∀ (l : List ByteArray) (a : Addr), (∀ (i : Nat) (y : ByteArray), l[i]? = some y → BC w (a.add (i * 1)) y) → 0 < l.length → a.spot = none ∧ ∀ j, j < l.length → w.cell? ⟨a.block, a.off + j, none⟩ = some (.string (l.getD j ByteArray.empty)) := by
        intro l a h hl0
        have key : ∀ j, j < l.length → w.cell? (a.add j) = some (.string (l.getD j ByteArray.empty)) := fun j hj => by
          have := h j _ (List.getElem?_eq_getElem hj)
          unfold BC at this
          rw [Nat.mul_one] at this
          rw [this, List.getD, List.getElem?_eq_getElem hj]
          rfl
        have k0 := key 0 hl0
        have hs := va.spot_of k0
        rw [add_zero'] at hs
        refine ⟨hs, fun j hj => ?_⟩
        rw [← key j hj]
        unfold Addr.add
        split
        · rename_i h0
          subst h0
          obtain ⟨b, o, sp⟩ := a
          simp only at hs
          subst hs
          rfl
        · rfl
      obtain ⟨s1, k1⟩ := hx r.l ad (fun i y hy => hc i y hA hy) (by omega)
      obtain ⟨s2, k2⟩ := hx s.l ad' (fun i y hy => hc' i y hA' hy) (by omega)
      obtain ⟨b1, o1, sp1⟩ := ad
      obtain ⟨b2, o2, sp2⟩ := ad'
      simp only at s1 s2
      subst s1
      subst s2
      have k := Tryz.slices_Equal_string b1 o1 r.l.length r.c b2 o2 s.l.length s.c r.l s.l w (Nat.le_refl _) (Nat.le_refl _) (by omega) (by omega) k1 k2
      rw [List.take_length, List.take_length] at k
      rw [hA, hA', samB_all]
      exact k.mono fun e w' h => ⟨h.1, by obtain ⟨q, rfl⟩ := h.2; exact below_drewN' w q⟩
  · have k := Tryz.slices_Equal_string_lens r.A s.A r.l.length r.c s.l.length s.c w hl
    rw [all2_len hl]
    exact k.mono fun e w' h => ⟨h.1, by rw [h.2]; exact Below.refl _ _⟩
set_option maxHeartbeats 1000000 in
set_option maxRecDepth 20000 in
theorem sh_sameDecl (a b : Dt) (w : World) (hA : RsD w w.heap.size a) (hB : RsD w w.heap.size b) :
    Calls Tryz.prog 96 #[dV a, dV b] w (Bel (.bool (samD a b)) w) := by
  have K := Lib.hid (fun W (h : Below w.heap.size w W) => eq_On a.ck b.ck W (hA.2.blw h h.size).1 (hB.2.blw h h.size).1)
  unfold samD
  generalize all2 samO a.ck.l b.ck.l = v at *
  clear hA hB
  cases q1 : (a.nm.toList == b.nm.toList)
  · clear K
    go_enter Tryz.func96, Tryz.ntmps96
    go_wp2
    go_ret
    exact ⟨rfl, (by repeat (first | (with_reducible exact Below.refl _ _) | (with_reducible assumption) | (with_reducible exact bel_box _) | (with_reducible refine bel_step ?_ (by with_reducible assumption)) | (with_reducible refine Below.drew ?_) | (with_reducible refine below_drewN ?_ _) | (with_reducible refine bel_alloc ?_ _)))⟩
  cases q2 : (a.ty == b.ty)
  · clear K
    go_enter Tryz.func96, Tryz.ntmps96
    go_wp2
    go_ret
    exact ⟨rfl, (by repeat (first | (with_reducible exact Below.refl _ _) | (with_reducible assumption) | (with_reducible exact bel_box _) | (with_reducible refine bel_step ?_ (by with_reducible assumption)) | (with_reducible refine Below.drew ?_) | (with_reducible refine below_drewN ?_ _) | (with_reducible refine bel_alloc ?_ _)))⟩
  go_enter Tryz.func96, Tryz.ntmps96
  go_wp2_with (go_at_call 126; (with_reducible refine (K.out _ ?_).mono ?_); (focus ((repeat (first | (with_reducible exact Below.refl _ _) | (with_reducible assumption) | (with_reducible exact bel_box _) | (with_reducible refine bel_step ?_ (by with_reducible assumption)) | (with_reducible refine Below.drew ?_) | (with_reducible refine below_drewN ?_ _) | (with_reducible refine bel_alloc ?_ _))); done)); rintro e w1 ⟨rfl, hb1⟩)
  go_ret
  exact ⟨rfl, (by repeat (first | (with_reducible exact Below.refl _ _) | (with_reducible assumption) | (with_reducible exact bel_box _) | (with_reducible refine bel_step ?_ (by with_reducible assumption)) | (with_reducible refine Below.drew ?_) | (with_reducible refine below_drewN ?_ _) | (with_reducible refine bel_alloc ?_ _)))⟩
set_option maxHeartbeats 1000000 in
set_option maxRecDepth 20000 in
theorem sh_sameEnum (a b : va.En) (w : World) (hA : RdR w w.heap.size 1 BC ⟨a.A, a.c, a.tags⟩) (hB : RdR w w.heap.size 1 BC ⟨b.A, b.c, b.tags⟩) :
    Calls Tryz.prog 59 #[eV a, eV b] w (Bel (.bool (samE a b)) w) := by
  have K : Hid (∀ W, Below w.heap.size w W → Calls Tryz.prog 94 #[.slice a.A a.tags.length a.c, .slice b.A b.tags.length b.c] W (Bel (.bool (all2 samB a.tags b.tags)) W)) := Lib.hid fun W h => eq_texts ⟨a.A, a.c, a.tags⟩ ⟨b.A, b.c, b.tags⟩ W (hA.blw oneB_B h h.size) (hB.blw oneB_B h h.size)
  unfold samE
  generalize all2 samB a.tags b.tags = v at *
  clear hA hB
  cases q1 : (a.name.toList == b.name.toList)
  · clear K
    go_enter Tryz.func59, Tryz.ntmps59
    go_wp2
    go_ret
    exact ⟨rfl, (by repeat (first | (with_reducible exact Below.refl _ _) | (with_reducible assumption) | (with_reducible exact bel_box _) | (with_reducible refine bel_step ?_ (by with_reducible assumption)) | (with_reducible refine Below.drew ?_) | (with_reducible refine below_drewN ?_ _) | (with_reducible refine bel_alloc ?_ _)))⟩
  go_enter Tryz.func59, Tryz.ntmps59
  go_wp2_with (go_at_call 94; (with_reducible refine (K.out _ ?_).mono ?_); (focus ((repeat (first | (with_reducible exact Below.refl _ _) | (with_reducible assumption) | (with_reducible exact bel_box _) | (with_reducible refine bel_step ?_ (by with_reducible assumption)) | (with_reducible refine Below.drew ?_) | (with_reducible refine below_drewN ?_ _) | (with_reducible refine bel_alloc ?_ _))); done)); rintro e w1 ⟨rfl, hb1⟩)
  go_ret
  exact ⟨rfl, (by repeat (first | (with_reducible exact Below.refl _ _) | (with_reducible assumption) | (with_reducible exact bel_box _) | (with_reducible refine bel_step ?_ (by with_reducible assumption)) | (with_reducible refine Below.drew ?_) | (with_reducible refine below_drewN ?_ _) | (with_reducible refine bel_alloc ?_ _)))⟩
set_option maxHeartbeats 1000000 in
set_option maxRecDepth 20000 in
theorem sh_sameTrans (a b : Tt) (w : World) (hA : RdX w w.heap.size a.cd) (hB : RdX w w.heap.size b.cd) (hs : a.cd.size ≤ Bd) :
    Calls Tryz.prog 158 #[tV a, tV b] w (Bel (.bool (samT a b)) w) := by
  have K := Lib.hid (fun W (h : Below w.heap.size w W) => sameX_any a.cd b.cd W (hA.to h) (hB.to h) hs)
  unfold samT
  generalize sameX a.cd b.cd = v at *
  simp only [xV] at K
  clear hA hB
  cases q1 : (a.to == b.to)
  · clear K
    go_enter Tryz.func158, Tryz.ntmps158
    go_wp2
    go_ret
    exact ⟨rfl, (by repeat (first | (with_reducible exact Below.refl _ _) | (with_reducible assumption) | (with_reducible exact bel_box _) | (with_reducible refine bel_step ?_ (by with_reducible assumption)) | (with_reducible refine Below.drew ?_) | (with_reducible refine below_drewN ?_ _) | (with_reducible refine bel_alloc ?_ _)))⟩
  cases q2 : (a.re == b.re)
  · clear K
    go_enter Tryz.func158, Tryz.ntmps158
    go_wp2
    go_ret
    exact ⟨rfl, (by repeat (first | (with_reducible exact Below.refl _ _) | (with_reducible assumption) | (with_reducible exact bel_box _) | (with_reducible refine bel_step ?_ (by with_reducible assumption)) | (with_reducible refine Below.drew ?_) | (with_reducible refine below_drewN ?_ _) | (with_reducible refine bel_alloc ?_ _)))⟩
  go_enter Tryz.func158, Tryz.ntmps158
  go_wp2_with (go_at_call 102; (with_reducible refine (K.out _ ?_).mono ?_); (focus ((repeat (first | (with_reducible exact Below.refl _ _) | (with_reducible assumption) | (with_reducible exact bel_box _) | (with_reducible refine bel_step ?_ (by with_reducible assumption)) | (with_reducible refine Below.drew ?_) | (with_reducible refine below_drewN ?_ _) | (with_reducible refine bel_alloc ?_ _))); done)); rintro e w1 ⟨rfl, hb1⟩)
  go_ret
  exact ⟨rfl, (by repeat (first | (with_reducible exact Below.refl _ _) | (with_reducible assumption) | (with_reducible exact bel_box _) | (with_reducible refine bel_step ?_ (by with_reducible assumption)) | (with_reducible refine Below.drew ?_) | (with_reducible refine below_drewN ?_ _) | (with_reducible refine bel_alloc ?_ _)))⟩
end Go.Proofs.YthlapepjebidgaaGreatDoor
