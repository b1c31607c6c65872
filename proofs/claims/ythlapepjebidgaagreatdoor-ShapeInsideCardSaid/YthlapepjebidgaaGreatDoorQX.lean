/- Texts of one chain, in one file. -/
import Derived.Test.YthlapepjebidgaaGreatDoorQI
import Derived.Test.YthlapepjebidgaaGreatDoorQJ
import Derived.Test.YthlapepjebidgaaGreatDoorQH
/- A program that is well-formed: what its parts are. -/
namespace Go.Proofs.YthlapepjebidgaaGreatDoor
set_option linter.unusedVariables false
set_option linter.unusedSimpArgs false
open Go.RowKit
theorem orE_zero {a b : Int} : orE a b = 0 ↔ a = 0 ∧ b = 0 := by
  unfold orE
  split
  · rename_i h; simp [h]
  · rename_i h; simp [h]
theorem ndsE_some {es : List va.En} : ∀ {l : List Nt} {q : Nat × (Int × Int)}, ndsE es l = some q → q.2.2 ≠ 0
  | [], _, h => by cases h
  | n :: l, q, h => by
    unfold ndsE at h
    split at h
    · obtain ⟨q', hq, rfl⟩ := Option.map_eq_some_iff.1 h
      show q'.2.2 ≠ 0
      exact ndsE_some hq
    · rename_i h0
      obtain rfl := Option.some.inj h
      exact h0
theorem ndsE_none {es : List va.En} : ∀ {l : List Nt}, ndsE es l = none ↔ ∀ n ∈ l, (nodE es n).2 = 0
  | [] => by simp [ndsE]
  | n :: l => by
    unfold ndsE
    split
    · rename_i h0
      rw [Option.map_eq_none_iff, ndsE_none]
      simp [h0]
    · rename_i h0
      simp [h0]
theorem wheR_zero {es : List va.En} {l : List Nt} : (wheR (ndsE es l)).2 = 0 ↔ ∀ n ∈ l, (nodE es n).2 = 0 := by
  cases h : ndsE es l with
  | none => exact ⟨fun _ => ndsE_none.1 h, fun _ => rfl⟩
  | some q =>
    have hq := ndsE_some h
    refine ⟨fun h0 => absurd h0 hq, fun h0 => ?_⟩
    rw [ndsE_none.2 h0] at h
    cases h
/-- well-formed -/
theorem chkE_zero {p : Pt} : (chkE p).2 = 0 ↔ (p.es.l.length ≤ 24 ∧ p.ns.l.length ≤ 96) ∧ errs (p.es.l.map enumE) = 0 ∧ ∀ n ∈ p.ns.l, (nodE p.es.l n).2 = 0 := by
  unfold chkE
  split
  · rename_i h
    refine ⟨fun h0 => absurd h0 (by decide), fun h0 => ?_⟩
    omega
  · rename_i h
    split
    · rename_i h1
      rw [wheR_zero]
      exact ⟨fun h2 => ⟨by omega, h1, h2⟩, fun h2 => h2.2.2⟩
    · rename_i h1
      exact ⟨fun h2 => absurd h2 h1, fun h2 => absurd h2.2.1 h1⟩
theorem eqsE_some {es : List va.En} : ∀ {l : List Qt} {q : Nat × Int}, eqsE es l = some q → q.2 ≠ 0
  | [], _, h => by cases h
  | n :: l, q, h => by
    unfold eqsE at h
    split at h
    · obtain ⟨q', hq, rfl⟩ := Option.map_eq_some_iff.1 h
      show q'.2 ≠ 0
      exact eqsE_some hq
    · rename_i h0
      obtain rfl := Option.some.inj h
      exact h0
theorem eqsE_none {es : List va.En} : ∀ {l : List Qt}, eqsE es l = none ↔ ∀ q ∈ l, eqnE es q = 0
  | [] => by simp [eqsE]
  | n :: l => by
    unfold eqsE
    split
    · rename_i h0
      rw [Option.map_eq_none_iff, eqsE_none]
      simp [h0]
    · rename_i h0
      simp [h0]
theorem nodE_eqs {es : List va.En} {n : Nt} (h : (nodE es n).2 = 0) : ∀ q ∈ n.qs.l, eqnE es q = 0 := by
  unfold nodE at h
  split at h
  · split at h
    · rename_i p hp
      exact absurd h (eqsE_some hp)
    · rename_i hp
      exact eqsE_none.1 hp
  · rename_i h0
    exact absurd h h0
theorem eqnE_exp {es : List va.En} {q : Qt} (h : eqnE es q = 0) : expE es q.r = 0 := by
  unfold eqnE at h
  split at h
  · exact absurd h (by decide)
  · split at h
    · exact absurd h (by decide)
    · exact (orE_zero.1 (orE_zero.1 h).2).1
/-- each right side satisfies what is said of expressions -/
theorem chkE_exp {p : Pt} (h : (chkE p).2 = 0) : ∀ n ∈ p.ns.l, ∀ q ∈ n.qs.l, expE p.es.l q.r = 0 := fun n hn q hq => eqnE_exp (nodE_eqs ((chkE_zero.1 h).2.2 n hn) q hq)
/-- without the last nodes -/
theorem chkE_take {p : Pt} (h : (chkE p).2 = 0) (k : Nat) : (chkE ⟨p.es, p.ns.A, p.ns.c, p.ns.l.take k⟩).2 = 0 := by
  obtain ⟨⟨h1, h2⟩, h3, h4⟩ := chkE_zero.1 h
  refine chkE_zero.2 ⟨⟨h1, ?_⟩, h3, fun n hn => h4 n (List.mem_of_mem_take hn)⟩
  simp only [List.length_take]
  omega
theorem RsP.take {w : World} {B : Nat} {p : Pt} (h : RsP w B p) (k : Nat) : RsP w B ⟨p.es, p.ns.A, p.ns.c, p.ns.l.take k⟩ := by
  obtain ⟨h1, ⟨h2, h3, h4, h5⟩, h6⟩ := h
  refine ⟨h1, ⟨fun hn => h2 fun e => hn (by simp [e]), fun ad i y hA hy => h3 ad i y hA ?_, ?_, ?_⟩, fun n hn => h6 n (List.mem_of_mem_take hn)⟩
  · have hy' : (p.ns.l.take k)[i]? = some y := hy
    rw [List.getElem?_take] at hy'
    split at hy'
    · exact hy'
    · cases hy'
  · simp only [List.length_take]; omega
  · simp only [List.length_take]; omega
end Go.Proofs.YthlapepjebidgaaGreatDoor
/- ShapeInside: the walk. -/
namespace Go.Proofs.YthlapepjebidgaaGreatDoor
set_option linter.unusedVariables false
set_option linter.unusedSimpArgs false
open Go.RowKit
set_option maxHeartbeats 2000000 in
set_option maxRecDepth 20000 in
theorem shapeinside_any (p : Pt) (m : Nat) (hm : m ≤ 255) (w : World) (hs : Std w) (hP : RsP w w.heap.size p) : Calls Tryz.prog 9 #[pV p, .int .u8 (m : Int)] w (Bel (.bool true) w) := by
  have KC : Hid (∀ W, Below w.heap.size w W → Calls Tryz.prog 15 #[pV p] W (Bel (.tuple #[.agg #[.int .i64 (chkE p).1.1, .int .i64 (chkE p).1.2], .int .i64 (chkE p).2]) W)) := Lib.hid fun W h => sh_check p W (hs.to h) (hP.blw h h.size)
  have KA : Hid (∀ W, Below w.heap.size w W → Calls Tryz.prog 21 #[] W (Bel (.bool true) W)) := Lib.hid fun W h => awake_any W (hs.to h)
  have KX : (chkE p).2 = 0 → Hid (∀ n ∈ p.ns.l, ∀ q ∈ n.qs.l, ∀ W, Below w.heap.size w W → Calls Tryz.prog 22 #[.slice p.es.A p.es.l.length p.es.c, xV q.r] W (Bel (.int .i64 0) W)) := fun h0 => Lib.hid fun n hn q hq W h => by
    have := sh_Expr p.es q.r W (hs.to h) (hP.1.blw h h.size) ((((hP.2.2 n hn).2.2.2.2.1).2 q hq).2.blw h h.size)
    rwa [chkE_exp h0 n hn q hq] at this
  have HN : Hid (RsP w w.heap.size p) := Lib.hid hP
  have hl := hP.2.1.len
  unfold maxLen at hl
  generalize chkE p = v at *
  obtain ⟨⟨v1, v2⟩, v3⟩ := v
  simp only at KC KX
  have TB : Hid (∀ W, Below (w.alloc (.cells #[.slice p.es.A p.es.l.length p.es.c, .slice p.ns.A p.ns.l.length p.ns.c] 36)).heap.size (w.alloc (.cells #[.slice p.es.A p.es.l.length p.es.c, .slice p.ns.A p.ns.l.length p.ns.c] 36)) W → W.cell? ⟨w.heap.size, 0, none⟩ = some (.slice p.es.A p.es.l.length p.es.c) ∧ W.cell? ⟨w.heap.size, 1, none⟩ = some (.slice p.ns.A p.ns.l.length p.ns.c) ∧ w.heap.size < W.heap.size) := Lib.hid fun W h => bx2' h
  have hL : Hid (p.ns.l.length = p.ns.l.length) := Lib.hid rfl
  clear hs hP
  simp only [pV] at KC ⊢
  obtain ⟨L, hLe⟩ : ∃ L, L = p.ns.l.length := ⟨_, rfl⟩
  have HL := Lib.hid hLe
  rw [← hLe] at KC TB hl ⊢
  clear hLe hL
  by_cases h3 : v3 = 0
  · subst h3
    have KY := KX rfl
    clear KX
    by_cases hn : L = 0
    · subst hn
      go_enter Tryz.func9, Tryz.ntmps9
      go_wp2_with (first | (go_at_call 15; (with_reducible refine (KC.out _ ?_).mono ?_); (focus ((repeat (first | (with_reducible exact Below.refl _ _) | (with_reducible assumption) | (with_reducible exact bel_box _) | (with_reducible refine bel_step ?_ (by with_reducible assumption)) | (with_reducible refine Below.drew ?_) | (with_reducible refine below_drewN ?_ _) | (with_reducible refine bel_alloc ?_ _))); done)); rintro e w1 ⟨rfl, hb1⟩; obtain ⟨g0, g1, g2⟩ := TB.out w1 (by repeat (first | (with_reducible exact Below.refl _ _) | (with_reducible assumption) | (with_reducible exact bel_box _) | (with_reducible refine bel_step ?_ (by with_reducible assumption)) | (with_reducible refine Below.drew ?_) | (with_reducible refine below_drewN ?_ _) | (with_reducible refine bel_alloc ?_ _))); have b0 := fun o => cell_al o g0; have b1 := fun o => cell_al o g1) | (go_at_call 21; (with_reducible refine (KA.out _ ?_).mono ?_); (focus ((repeat (first | (with_reducible exact Below.refl _ _) | (with_reducible assumption) | (with_reducible exact bel_box _) | (with_reducible refine bel_step ?_ (by with_reducible assumption)) | (with_reducible refine Below.drew ?_) | (with_reducible refine below_drewN ?_ _) | (with_reducible refine bel_alloc ?_ _))); done)); rintro e w2 ⟨rfl, hb2⟩))
      go_ret
      exact ⟨rfl, (by repeat (first | (with_reducible exact Below.refl _ _) | (with_reducible assumption) | (with_reducible exact bel_box _) | (with_reducible refine bel_step ?_ (by with_reducible assumption)) | (with_reducible refine Below.drew ?_) | (with_reducible refine below_drewN ?_ _) | (with_reducible refine bel_alloc ?_ _)))⟩
    · have e1 : ((L : Int) == 0) = false := by simp [hn]
      obtain ⟨j, hje⟩ : ∃ j, j = m % L := ⟨_, rfl⟩
      have hj : j < L := by rw [hje]; exact Nat.mod_lt _ (by omega)
      have f1 : (m : Int).tmod (L : Int) = (j : Int) := by rw [hje]; rfl
      obtain ⟨ad, y, hA, had, hy, hmem, _⟩ := (HN.out.2.1).at_ (i := j) (by rw [← HL.out]; exact hj)
      have KN : Hid (∀ W, Below w.heap.size w W → NC W (ad.add (j * 8)) y ∧ RsN W W.heap.size y) := Lib.hid fun W h => ⟨(HN.out.blw h h.size).2.1.2.1 ad j y hA hy, (HN.out.blw h h.size).2.2 y hmem⟩
      have KX := Lib.hid (KY.out y hmem)
      have HY := Lib.hid (HN.out.2.2 y hmem)
      rw [hA] at KC TB ⊢
      have TS : Hid (∀ W, Below (w.alloc (.cells #[.slice p.es.A p.es.l.length p.es.c, .slice (some ad) L p.ns.c] 36)).heap.size (w.alloc (.cells #[.slice p.es.A p.es.l.length p.es.c, .slice (some ad) L p.ns.c] 36)) W → (W.cell? ⟨w.heap.size, 0, none⟩ = some (.slice p.es.A p.es.l.length p.es.c) ∧ W.cell? ⟨w.heap.size, 1, none⟩ = some (.slice (some ad) L p.ns.c) ∧ W.cell? (ad.add (j * 8)) = some (.string y.nm) ∧ W.cell? ⟨(ad.add (j * 8)).block, (ad.add (j * 8)).off + 1, none⟩ = some (.slice y.ins.A y.ins.l.length y.ins.c) ∧ W.cell? ⟨(ad.add (j * 8)).block, (ad.add (j * 8)).off + 2, none⟩ = some (.slice y.outs.A y.outs.l.length y.outs.c) ∧ W.cell? ⟨(ad.add (j * 8)).block, (ad.add (j * 8)).off + 3, none⟩ = some (.slice y.locs.A y.locs.l.length y.locs.c) ∧ W.cell? ⟨(ad.add (j * 8)).block, (ad.add (j * 8)).off + 4, none⟩ = some (.slice y.qs.A y.qs.l.length y.qs.c) ∧ W.cell? ⟨(ad.add (j * 8)).block, (ad.add (j * 8)).off + 5, none⟩ = some (.slice y.au.A y.au.l.length y.au.c) ∧ W.cell? ⟨(ad.add (j * 8)).block, (ad.add (j * 8)).off + 6, none⟩ = some (.slice y.asm.A y.asm.l.length y.asm.c) ∧ W.cell? ⟨(ad.add (j * 8)).block, (ad.add (j * 8)).off + 7, none⟩ = some (.slice y.ens.A y.ens.l.length y.ens.c))) := Lib.hid fun W h => ⟨(TB.out W h).1, (TB.out W h).2.1, (KN.out W ((bel_box _).trans (h.mono (by rw [World.size_alloc]; omega)))).1⟩
      have wm : IntKind.i64.wrap (m : Int) = (m : Int) := IntWalk.i64_in _ (by omega)
      have wj : IntKind.i64.wrap (j : Int) = (j : Int) := IntWalk.i64_in _ (by omega)
      have j0 : (0 : Int) ≤ (j : Int) := by omega
      have j1 : (j : Int) < (L : Int) := by omega
      clear KY hje hA hy hmem
      go_enter Tryz.func9, Tryz.ntmps9
      go_wp2_with (first | (go_at_call 15; (with_reducible refine (KC.out _ ?_).mono ?_); (focus ((repeat (first | (with_reducible exact Below.refl _ _) | (with_reducible assumption) | (with_reducible exact bel_box _) | (with_reducible refine bel_step ?_ (by with_reducible assumption)) | (with_reducible refine Below.drew ?_) | (with_reducible refine below_drewN ?_ _) | (with_reducible refine bel_alloc ?_ _))); done)); rintro e w1 ⟨rfl, hb1⟩; obtain ⟨g0, g1, g2⟩ := TB.out w1 (by repeat (first | (with_reducible exact Below.refl _ _) | (with_reducible assumption) | (with_reducible exact bel_box _) | (with_reducible refine bel_step ?_ (by with_reducible assumption)) | (with_reducible refine Below.drew ?_) | (with_reducible refine below_drewN ?_ _) | (with_reducible refine bel_alloc ?_ _))); have b0 := fun o => cell_al o g0; have b1 := fun o => cell_al o g1; obtain ⟨⟨c0, c1, c2, c3, c4, c5, c6, c7⟩, HR⟩ := KN.out w1 (by repeat (first | (with_reducible exact Below.refl _ _) | (with_reducible assumption) | (with_reducible exact bel_box _) | (with_reducible refine bel_step ?_ (by with_reducible assumption)) | (with_reducible refine Below.drew ?_) | (with_reducible refine below_drewN ?_ _) | (with_reducible refine bel_alloc ?_ _))); have a0 := fun o => cell_al o c0; have a1 := fun o => cell_al o c1; have a2 := fun o => cell_al o c2; have a3 := fun o => cell_al o c3; have a4 := fun o => cell_al o c4; have a5 := fun o => cell_al o c5; have a6 := fun o => cell_al o c6; have a7 := fun o => cell_al o c7; have HR := Lib.hid HR) | (go_at_call 21; (with_reducible refine (KA.out _ ?_).mono ?_); (focus ((repeat (first | (with_reducible exact Below.refl _ _) | (with_reducible assumption) | (with_reducible exact bel_box _) | (with_reducible refine bel_step ?_ (by with_reducible assumption)) | (with_reducible refine Below.drew ?_) | (with_reducible refine below_drewN ?_ _) | (with_reducible refine bel_alloc ?_ _))); done)); rintro e w2 ⟨rfl, hb2⟩))
      go_region_held3 (fun w' => (w'.cell? ⟨w.heap.size, 0, none⟩ = some (.slice p.es.A p.es.l.length p.es.c) ∧ w'.cell? ⟨w.heap.size, 1, none⟩ = some (.slice (some ad) L p.ns.c) ∧ w'.cell? (ad.add (j * 8)) = some (.string y.nm) ∧ w'.cell? ⟨(ad.add (j * 8)).block, (ad.add (j * 8)).off + 1, none⟩ = some (.slice y.ins.A y.ins.l.length y.ins.c) ∧ w'.cell? ⟨(ad.add (j * 8)).block, (ad.add (j * 8)).off + 2, none⟩ = some (.slice y.outs.A y.outs.l.length y.outs.c) ∧ w'.cell? ⟨(ad.add (j * 8)).block, (ad.add (j * 8)).off + 3, none⟩ = some (.slice y.locs.A y.locs.l.length y.locs.c) ∧ w'.cell? ⟨(ad.add (j * 8)).block, (ad.add (j * 8)).off + 4, none⟩ = some (.slice y.qs.A y.qs.l.length y.qs.c) ∧ w'.cell? ⟨(ad.add (j * 8)).block, (ad.add (j * 8)).off + 5, none⟩ = some (.slice y.au.A y.au.l.length y.au.c) ∧ w'.cell? ⟨(ad.add (j * 8)).block, (ad.add (j * 8)).off + 6, none⟩ = some (.slice y.asm.A y.asm.l.length y.asm.c) ∧ w'.cell? ⟨(ad.add (j * 8)).block, (ad.add (j * 8)).off + 7, none⟩ = some (.slice y.ens.A y.ens.l.length y.ens.c)))
        ((refine TS.out _ ?_; (focus ((repeat (first | (with_reducible exact Below.refl _ _) | (with_reducible assumption) | (with_reducible exact bel_box _) | (with_reducible refine bel_step ?_ (by with_reducible assumption)) | (with_reducible refine Below.drew ?_) | (with_reducible refine below_drewN ?_ _) | (with_reducible refine bel_alloc ?_ _))); done))))
        (fail)
      generalize hw5 : World.drew _ = w5
      have hz5 : w5.heap.size = w1.heap.size + 1 + 1 := by rw [← hw5]; simp
      have hb5 : Below w1.heap.size w1 w5 := by rw [← hw5]; exact (by repeat (first | (with_reducible exact Below.refl _ _) | (with_reducible assumption) | (with_reducible exact bel_box _) | (with_reducible refine bel_step ?_ (by with_reducible assumption)) | (with_reducible refine Below.drew ?_) | (with_reducible refine below_drewN ?_ _) | (with_reducible refine bel_alloc ?_ _)))
      have e5 : w5.cell? ⟨w1.heap.size + 1, 4, none⟩ = some (.slice y.qs.A y.qs.l.length y.qs.c) := by rw [← hw5]; simp [go_sem]
      have TL : Hid (∀ W, Below w5.heap.size w5 W → W.cell? ⟨w.heap.size, 0, none⟩ = some (.slice p.es.A p.es.l.length p.es.c) ∧ W.cell? ⟨w1.heap.size + 1, 4, none⟩ = some (.slice y.qs.A y.qs.l.length y.qs.c)) := Lib.hid fun W h =>
        ⟨(TS.out W (hb1.trans ((hb5.trans (h.mono hb5.size)).mono hb1.size))).1, (h.cell (World.block_lt_of_cell? w5 _ e5)).trans e5⟩
      have hbw5 : Below w.heap.size w w5 := (by repeat (first | (with_reducible exact Below.refl _ _) | (with_reducible assumption) | (with_reducible exact bel_box _) | (with_reducible refine bel_step ?_ (by with_reducible assumption)) | (with_reducible refine Below.drew ?_) | (with_reducible refine below_drewN ?_ _) | (with_reducible refine bel_alloc ?_ _)))
      clear hw5 a0 a1 a2 a3 a4 a5 a6 a7 c0 c1 c2 c3 c4 c5 c6 c7 b0 b1 g0 g1
      have HQ : Hid (RsQs w w.heap.size y.qs) := Lib.hid (HY.out.2.2.2.2.1)
      simp only [xV] at KX
      have hlq := (HQ.out.1).len
      unfold maxLen at hlq
      go_wp2
      go_loopw [8] (fun i wr => ∃ k : Nat, k ≤ y.qs.l.length ∧ i = .int .i64 (k : Int) ∧ Below w5.heap.size w5 wr) (fun i _ => y.qs.l.length - (intOf i).toNat)
      case atStart => exact ⟨0, by omega, rfl, Below.refl _ _⟩
      case round =>
        obtain ⟨k, hk, rfl, hbl⟩ := hrel
        have hBW : Below w.heap.size w wr := (by repeat (first | (with_reducible exact Below.refl _ _) | (with_reducible assumption) | (with_reducible exact bel_box _) | (with_reducible refine bel_step ?_ (by with_reducible assumption)) | (with_reducible refine Below.drew ?_) | (with_reducible refine below_drewN ?_ _) | (with_reducible refine bel_alloc ?_ _)))
        obtain ⟨g0, g1⟩ := TL.out wr hbl
        by_cases hlt : k < y.qs.l.length
        · obtain ⟨aq, q, hAq, haq, hyq, hmq, _⟩ := (HQ.out.1).at_ hlt
          have KQ : Hid (∀ W, Below w.heap.size w W → QC W (aq.add (k * 7)) q) := Lib.hid fun W h => ((HQ.out.blw h h.size).1).2.1 aq k q hAq hyq
          have KE := Lib.hid (KX.out q hmq)
          rw [hAq] at TL g1 ⊢
          have TQ : Hid (∀ W, Below w5.heap.size w5 W → (W.cell? ⟨w.heap.size, 0, none⟩ = some (.slice p.es.A p.es.l.length p.es.c) ∧ W.cell? ⟨w1.heap.size + 1, 4, none⟩ = some (.slice (some aq) y.qs.l.length y.qs.c) ∧ W.cell? (aq.add (k * 7)) = some (.slice q.lf.A q.lf.l.length q.lf.c) ∧ W.cell? ⟨(aq.add (k * 7)).block, (aq.add (k * 7)).off + 1, none⟩ = some (.int .i64 q.r.k) ∧ W.cell? ⟨(aq.add (k * 7)).block, (aq.add (k * 7)).off + 2, none⟩ = some (.int .i64 q.r.op) ∧ W.cell? ⟨(aq.add (k * 7)).block, (aq.add (k * 7)).off + 3, none⟩ = some (.int .i64 q.r.t) ∧ W.cell? ⟨(aq.add (k * 7)).block, (aq.add (k * 7)).off + 4, none⟩ = some (.int .i64 q.r.v) ∧ W.cell? ⟨(aq.add (k * 7)).block, (aq.add (k * 7)).off + 5, none⟩ = some (.string q.r.nm) ∧ W.cell? ⟨(aq.add (k * 7)).block, (aq.add (k * 7)).off + 6, none⟩ = some (.slice q.r.A q.r.ar.length q.r.c))) := Lib.hid fun W h => ⟨(TL.out W h).1, (TL.out W h).2, KQ.out W (hbw5.trans (h.mono hbw5.size))⟩
          obtain ⟨_, _, c0, c1, c2, c3, c4, c5, c6⟩ := TQ.out wr hbl
          clear hAq hyq hmq
          go_wp2
          go_region_held3 (fun w' => (w'.cell? ⟨w.heap.size, 0, none⟩ = some (.slice p.es.A p.es.l.length p.es.c) ∧ w'.cell? ⟨w1.heap.size + 1, 4, none⟩ = some (.slice (some aq) y.qs.l.length y.qs.c) ∧ w'.cell? (aq.add (k * 7)) = some (.slice q.lf.A q.lf.l.length q.lf.c) ∧ w'.cell? ⟨(aq.add (k * 7)).block, (aq.add (k * 7)).off + 1, none⟩ = some (.int .i64 q.r.k) ∧ w'.cell? ⟨(aq.add (k * 7)).block, (aq.add (k * 7)).off + 2, none⟩ = some (.int .i64 q.r.op) ∧ w'.cell? ⟨(aq.add (k * 7)).block, (aq.add (k * 7)).off + 3, none⟩ = some (.int .i64 q.r.t) ∧ w'.cell? ⟨(aq.add (k * 7)).block, (aq.add (k * 7)).off + 4, none⟩ = some (.int .i64 q.r.v) ∧ w'.cell? ⟨(aq.add (k * 7)).block, (aq.add (k * 7)).off + 5, none⟩ = some (.string q.r.nm) ∧ w'.cell? ⟨(aq.add (k * 7)).block, (aq.add (k * 7)).off + 6, none⟩ = some (.slice q.r.A q.r.ar.length q.r.c)))
            ((refine TQ.out _ ?_; (focus ((repeat (first | (with_reducible exact Below.refl _ _) | (with_reducible assumption) | (with_reducible exact bel_box _) | (with_reducible refine bel_step ?_ (by with_reducible assumption)) | (with_reducible refine Below.drew ?_) | (with_reducible refine below_drewN ?_ _) | (with_reducible refine bel_alloc ?_ _))); done))))
            ((go_at_call 22; (with_reducible refine (KE.out _ ?_).mono ?_); (focus ((repeat (first | (with_reducible exact Below.refl _ _) | (with_reducible assumption) | (with_reducible exact bel_box _) | (with_reducible refine bel_step ?_ (by with_reducible assumption)) | (with_reducible refine Below.drew ?_) | (with_reducible refine below_drewN ?_ _) | (with_reducible refine bel_alloc ?_ _))); done)); rintro e w2 ⟨rfl, hb2⟩))
          all_goals
            have w6 : wrap64 ((k : Int) + 1) = ((k + 1 : Nat) : Int) := by rw [IntWalk.wrap64_in _ (by omega)]; omega
            have hk1 : k + 1 ≤ y.qs.l.length := hlt
            have hbe : Below w5.heap.size w5 w2 := (by repeat (first | (with_reducible exact Below.refl _ _) | (with_reducible assumption) | (with_reducible exact bel_box _) | (with_reducible refine bel_step ?_ (by with_reducible assumption)) | (with_reducible refine Below.drew ?_) | (with_reducible refine below_drewN ?_ _) | (with_reducible refine bel_alloc ?_ _)))
            have hfin : (∃ k_1 : Nat, k_1 ≤ y.qs.l.length ∧ Value.int IntKind.i64 (wrap64 ((k : Int) + 1)) = Value.int IntKind.i64 (k_1 : Int) ∧ Below w5.heap.size w5 w2) ∧ y.qs.l.length - (intOf (Value.int IntKind.i64 (wrap64 ((k : Int) + 1)))).toNat < y.qs.l.length - (intOf (Value.int IntKind.i64 (k : Int))).toNat := by
              rw [w6]
              refine ⟨⟨k + 1, hk1, rfl, hbe⟩, ?_⟩
              simp only [intOf, Int.toNat_natCast]
              exact Nat.sub_lt_sub_left hlt (Nat.lt_succ_self k)
            clear w6 hk1 hbe hbl hBW hb2 hb1 hb5 hbw5 e5 g0 g1 c0 c1 c2 c3 c4 c5 c6 had haq wm wj j0 j1 f1 e1 hj hm hl hk hlt hz5 hlq
            go_wp2
            exact hfin
        · obtain rfl : k = y.qs.l.length := by omega
          go_wp2_with (go_at_call 21; (with_reducible refine (KA.out _ ?_).mono ?_); (focus ((repeat (first | (with_reducible exact Below.refl _ _) | (with_reducible assumption) | (with_reducible exact bel_box _) | (with_reducible refine bel_step ?_ (by with_reducible assumption)) | (with_reducible refine Below.drew ?_) | (with_reducible refine below_drewN ?_ _) | (with_reducible refine bel_alloc ?_ _))); done)); rintro e w2 ⟨rfl, hb2⟩)
          go_ret
          exact ⟨rfl, (by repeat (first | (with_reducible exact Below.refl _ _) | (with_reducible assumption) | (with_reducible exact bel_box _) | (with_reducible refine bel_step ?_ (by with_reducible assumption)) | (with_reducible refine Below.drew ?_) | (with_reducible refine below_drewN ?_ _) | (with_reducible refine bel_alloc ?_ _)))⟩
  · go_enter Tryz.func9, Tryz.ntmps9
    have e0 : (v3 == 0) = false := by simp [h3]
    go_wp2_with (first | (go_at_call 15; (with_reducible refine (KC.out _ ?_).mono ?_); (focus ((repeat (first | (with_reducible exact Below.refl _ _) | (with_reducible assumption) | (with_reducible exact bel_box _) | (with_reducible refine bel_step ?_ (by with_reducible assumption)) | (with_reducible refine Below.drew ?_) | (with_reducible refine below_drewN ?_ _) | (with_reducible refine bel_alloc ?_ _))); done)); rintro e w1 ⟨rfl, hb1⟩; obtain ⟨g0, g1, g2⟩ := TB.out w1 (by repeat (first | (with_reducible exact Below.refl _ _) | (with_reducible assumption) | (with_reducible exact bel_box _) | (with_reducible refine bel_step ?_ (by with_reducible assumption)) | (with_reducible refine Below.drew ?_) | (with_reducible refine below_drewN ?_ _) | (with_reducible refine bel_alloc ?_ _))); have b0 := fun o => cell_al o g0; have b1 := fun o => cell_al o g1) | (go_at_call 21; (with_reducible refine (KA.out _ ?_).mono ?_); (focus ((repeat (first | (with_reducible exact Below.refl _ _) | (with_reducible assumption) | (with_reducible exact bel_box _) | (with_reducible refine bel_step ?_ (by with_reducible assumption)) | (with_reducible refine Below.drew ?_) | (with_reducible refine below_drewN ?_ _) | (with_reducible refine bel_alloc ?_ _))); done)); rintro e w2 ⟨rfl, hb2⟩))
    go_ret
    exact ⟨rfl, (by repeat (first | (with_reducible exact Below.refl _ _) | (with_reducible assumption) | (with_reducible exact bel_box _) | (with_reducible refine bel_step ?_ (by with_reducible assumption)) | (with_reducible refine Below.drew ?_) | (with_reducible refine below_drewN ?_ _) | (with_reducible refine bel_alloc ?_ _)))⟩
theorem shapeinside_int (p : Pt) (a : Int) (h0 : 0 ≤ a) (h1 : a ≤ 255) (w : World) (hs : Std w) (hP : RsP w w.heap.size p) : Calls Tryz.prog 9 #[pV p, .int .u8 a] w (Bel (.bool true) w) := by
  obtain ⟨m, rfl⟩ := Int.eq_ofNat_of_zero_le h0
  exact shapeinside_any p m (by omega) w hs hP
end Go.Proofs.YthlapepjebidgaaGreatDoor
/- A program that comes in, opened, with what the bound on its bulk gives. -/
namespace Go.Proofs.YthlapepjebidgaaGreatDoor
set_option linter.unusedVariables false
set_option linter.unusedSimpArgs false
open Go.ChangeShapes Go.WideShapes Go.ChangeAt Go.RowKit Go.Deep Go.WideElems
theorem mem_bulk {H : Type} {es : List (DataW H)} {z : DataW H} (h : z ∈ es) : Rows.uptoBulk z ≤ Rows.uptoBulkAll es := by
  induction es with
  | nil => cases h
  | cons a l ih =>
    simp only [Rows.uptoBulkAll]
    rcases List.mem_cons.1 h with rfl | h
    · omega
    · have := ih h
      omega
/-- whatever comes in at type T is the cells L of a y with R, R speaking of its bulk -/
def Opn {H : Type} (enc : TypeId × Value → H) (P : Program) (w : World) (held : Bool) {α : Type} (N : Nat) (T : TypeId) (L : α → List Value) (R : Nat → α → Prop) : Prop :=
  ∀ fuel, fuel < N → ∀ (cs : List Value) (x : DataW H × List MemPlace), DataW.trod enc P w 0 (fun _ => true) held fuel T cs = some x → (∀ n ∈ x.1.weights P T, n ≤ reachBytes) → ∃ y : α, cs = L y ∧ R (Rows.uptoBulk x.1) y
def Mono {α : Type} (R : Nat → α → Prop) : Prop := ∀ a b y, a ≤ b → R a y → R b y
abbrev rowL {α : Type} (r : Rw α) : List Value := [.slice r.A r.l.length r.c]
section
variable {H : Type} {enc : TypeId × Value → H} {P : Program} {w : World} {held : Bool}
theorem Opn.mono {α : Type} {N M : Nat} {T : TypeId} {L : α → List Value} {R : Nat → α → Prop} (h : Opn enc P w held N T L R) (hM : M ≤ N) : Opn enc P w held M T L R := fun fuel hf => h fuel (by omega)
theorem Opn.imp {α : Type} {N : Nat} {T : TypeId} {L : α → List Value} {R S : Nat → α → Prop} (h : Opn enc P w held N T L R) (hM : ∀ b y, R b y → S b y) : Opn enc P w held N T L S := fun fuel hf cs x h1 h2 => by
  obtain ⟨y, hy, hr⟩ := h fuel hf cs x h1 h2
  exact ⟨y, hy, hM _ _ hr⟩
theorem opn_str {N : Nat} {t : TypeId} (ht : P.underlying t = some .string) : Opn enc P w held N t (fun s : ByteArray => [.string s]) (fun _ s => s.size ≤ 140737488351232) := fun _ _ _ _ h hw => rd_strU ht h hw
theorem opn_int {N : Nat} {t : TypeId} (ht : P.underlying t = some (.int .i64)) : Opn enc P w held N t (fun n : Int => [.int .i64 n]) (fun _ n => n ≤ 9223372036854775807) := fun _ _ _ _ h _ => by
  obtain ⟨n, z, _, wf⟩ := DataW.trod_int ht h
  exact ⟨n, z, int_le wf⟩
theorem opn_bool {N : Nat} {t : TypeId} (ht : P.underlying t = some .bool) : Opn enc P w held N t (fun b : Bool => [.bool b]) (fun _ _ => True) := fun _ _ _ _ h _ => by
  obtain ⟨n, z, _⟩ := DataW.trod_bool ht h
  exact ⟨n, z, trivial⟩
/-- a row -/
theorem opn_row {α : Type} {N : Nat} {T e : TypeId} {sz : Nat} {C : World → Addr → α → Prop} {L : α → List Value} {R : Nat → α → Prop} (ht : P.underlying T = some (.slice e)) (ce : P.cellsOf e = sz) (hbl : ∀ a y, C w a y → a.block < w.heap.size)
    (hC : ∀ (a : Addr) y, (∀ j u, (L y)[j]? = some u → w.cell? (a.add j) = some u) → C w a y) (hm : Mono R) (he : Opn enc P w held N e L R) :
    Opn enc P w held (N + 1) T rowL (fun b (r : Rw α) => RdR w w.heap.size sz C r ∧ ∀ y ∈ r.l, R b y) := by
  intro fuel hN cs x h hw
  rcases DataW.trod_slice ht h with ⟨hv, hx⟩ | ⟨a, len, cap, elems, rest, n, hkn, hv, hx0, _, hl, hm2, hel, hx, _, _⟩
  · exact ⟨⟨none, 0, []⟩, hv, RdR.nil _ _ _ _ _, (fun y h => by cases h)⟩
  · have key : ∀ i, i < len → ∃ y : α, C w (a.add (i * sz)) y ∧ R (Rows.uptoBulk x.1) y := by
      intro i hi
      have h1 := hx i hi
      rw [ce, List.getElem?_eq_getElem (by omega)] at h1
      obtain ⟨cs', h2, h3⟩ := Option.bind_eq_some_iff.1 h1
      obtain ⟨_, hlen', hcell⟩ := World.cells?_some h2
      obtain ⟨y, hL, hR⟩ := he n (by omega) cs' _ h3 fun m hm => hw m (by
        rw [hx0]
        simp only [DataW.weights, ht, List.mem_cons, List.mem_append]
        exact .inr (.inl (mem_wAll (List.mem_map_of_mem (List.getElem_mem (by omega))) m hm)))
      refine ⟨y, hC _ _ fun j u hu => ?_, hm _ _ _ ?_ hR⟩
      · rw [← hL] at hu
        have hj := (List.getElem?_eq_some_iff.1 hu).1
        rw [hcell j (by omega)]
        exact hu
      · have hb : Rows.uptoBulk elems[i].1 ≤ Rows.uptoBulkAll (elems.map (·.1)) := mem_bulk (List.mem_map_of_mem (List.getElem_mem (by omega)))
        rw [hx0]
        simp only [Rows.uptoBulk]
        omega
    obtain ⟨l, hll, hp⟩ := choose_list len key
    refine ⟨⟨some a, cap, l⟩, by rw [rowL, hll]; exact hv, ⟨fun hne => ⟨a, rfl, ?_⟩, fun ad i y hA hy => ?_, by simp only; omega, by simp only; omega⟩, fun y hy => ?_⟩
    · have h0 : 0 < l.length := List.length_pos_iff.2 hne
      have := hbl _ _ (hp 0 _ (List.getElem?_eq_getElem h0)).1
      rwa [add_block] at this
    · obtain rfl : a = ad := Option.some.inj hA
      exact (hp i y hy).1
    · obtain ⟨j, hj⟩ := List.getElem?_of_mem hy
      exact (hp j y hj).2
theorem opn_two {α0 α1 : Type} {N : Nat} {T : TypeId} {f0 f1 : Field} {L0 : α0 → List Value} {R0 : Nat → α0 → Prop} {L1 : α1 → List Value} {R1 : Nat → α1 → Prop} (hT : P.underlying T = some (.struct #[f0, f1])) (ce : P.cellsOf T = 7) (o0 : f0.offset = 0) (c0 : P.cellsOf f0.type = 1) (o1 : f1.offset = 1) (c1 : P.cellsOf f1.type = 6) (m0 : Mono R0) (p0 : Opn enc P w held N f0.type L0 R0) (m1 : Mono R1) (p1 : Opn enc P w held N f1.type L1 R1) :
    Opn enc P w held (N + 1) T (fun y : α0 × α1 => L0 y.1 ++ L1 y.2) (fun b y => R0 b y.1 ∧ R1 b y.2) := by
  intro fuel hN cs x h hw
  obtain ⟨xs, k, hk, hxy, hlen, hxl, hf⟩ := DataW.trod_struct hT h
  rw [ce] at hlen
  match xs, hxl, cs, hlen with
  | [y0, y1], _, [v0, v1, v2, v3, v4, v5, v6], _ =>
    have g0 := hf 0 f0 rfl
    have g1 := hf 1 f1 rfl
    simp [o0, o1, c0, c1] at g0 g1
    have hwe : DataW.weights P T (.agg [y0.1, y1.1]) = y0.1.weights P f0.type ++ (y1.1.weights P f1.type ++ []) := by simp [DataW.weights, DataW.weightsEach, hT]
    obtain ⟨a0, z0, r0⟩ := p0 k (by omega) _ _ g0 fun n hn => hw n (by subst hxy; simp only [List.map_cons, List.map_nil]; rw [hwe]; simp [hn])
    obtain ⟨a1, z1, r1⟩ := p1 k (by omega) _ _ g1 fun n hn => hw n (by subst hxy; simp only [List.map_cons, List.map_nil]; rw [hwe]; simp [hn])
    refine ⟨⟨a0, a1⟩, ?_, ⟨m0 _ _ _ ?_ r0, m1 _ _ _ ?_ r1⟩⟩
    · show [v0, v1, v2, v3, v4, v5, v6] = L0 a0 ++ L1 a1
      rw [← z0, ← z1]
      rfl
    all_goals
      subst hxy
      simp only [List.map_cons, List.map_nil, Rows.uptoBulk, Rows.uptoBulkAll]
      omega
theorem opn_three {α0 α1 α2 : Type} {N : Nat} {T : TypeId} {f0 f1 f2 : Field} {L0 : α0 → List Value} {R0 : Nat → α0 → Prop} {L1 : α1 → List Value} {R1 : Nat → α1 → Prop} {L2 : α2 → List Value} {R2 : Nat → α2 → Prop} (hT : P.underlying T = some (.struct #[f0, f1, f2])) (ce : P.cellsOf T = 3) (o0 : f0.offset = 0) (c0 : P.cellsOf f0.type = 1) (o1 : f1.offset = 1) (c1 : P.cellsOf f1.type = 1) (o2 : f2.offset = 2) (c2 : P.cellsOf f2.type = 1) (m0 : Mono R0) (p0 : Opn enc P w held N f0.type L0 R0) (m1 : Mono R1) (p1 : Opn enc P w held N f1.type L1 R1) (m2 : Mono R2) (p2 : Opn enc P w held N f2.type L2 R2) :
    Opn enc P w held (N + 1) T (fun y : α0 × α1 × α2 => L0 y.1 ++ L1 y.2.1 ++ L2 y.2.2) (fun b y => R0 b y.1 ∧ R1 b y.2.1 ∧ R2 b y.2.2) := by
  intro fuel hN cs x h hw
  obtain ⟨xs, k, hk, hxy, hlen, hxl, hf⟩ := DataW.trod_struct hT h
  rw [ce] at hlen
  match xs, hxl, cs, hlen with
  | [y0, y1, y2], _, [v0, v1, v2], _ =>
    have g0 := hf 0 f0 rfl
    have g1 := hf 1 f1 rfl
    have g2 := hf 2 f2 rfl
    simp [o0, o1, o2, c0, c1, c2] at g0 g1 g2
    have hwe : DataW.weights P T (.agg [y0.1, y1.1, y2.1]) = y0.1.weights P f0.type ++ (y1.1.weights P f1.type ++ (y2.1.weights P f2.type ++ [])) := by simp [DataW.weights, DataW.weightsEach, hT]
    obtain ⟨a0, z0, r0⟩ := p0 k (by omega) _ _ g0 fun n hn => hw n (by subst hxy; simp only [List.map_cons, List.map_nil]; rw [hwe]; simp [hn])
    obtain ⟨a1, z1, r1⟩ := p1 k (by omega) _ _ g1 fun n hn => hw n (by subst hxy; simp only [List.map_cons, List.map_nil]; rw [hwe]; simp [hn])
    obtain ⟨a2, z2, r2⟩ := p2 k (by omega) _ _ g2 fun n hn => hw n (by subst hxy; simp only [List.map_cons, List.map_nil]; rw [hwe]; simp [hn])
    refine ⟨⟨a0, a1, a2⟩, ?_, ⟨m0 _ _ _ ?_ r0, m1 _ _ _ ?_ r1, m2 _ _ _ ?_ r2⟩⟩
    · show [v0, v1, v2] = L0 a0 ++ L1 a1 ++ L2 a2
      rw [← z0, ← z1, ← z2]
      rfl
    all_goals
      subst hxy
      simp only [List.map_cons, List.map_nil, Rows.uptoBulk, Rows.uptoBulkAll]
      omega
theorem opn_trans {α0 α1 α2 : Type} {N : Nat} {T : TypeId} {f0 f1 f2 : Field} {L0 : α0 → List Value} {R0 : Nat → α0 → Prop} {L1 : α1 → List Value} {R1 : Nat → α1 → Prop} {L2 : α2 → List Value} {R2 : Nat → α2 → Prop} (hT : P.underlying T = some (.struct #[f0, f1, f2])) (ce : P.cellsOf T = 8) (o0 : f0.offset = 0) (c0 : P.cellsOf f0.type = 6) (o1 : f1.offset = 6) (c1 : P.cellsOf f1.type = 1) (o2 : f2.offset = 7) (c2 : P.cellsOf f2.type = 1) (m0 : Mono R0) (p0 : Opn enc P w held N f0.type L0 R0) (m1 : Mono R1) (p1 : Opn enc P w held N f1.type L1 R1) (m2 : Mono R2) (p2 : Opn enc P w held N f2.type L2 R2) :
    Opn enc P w held (N + 1) T (fun y : α0 × α1 × α2 => L0 y.1 ++ L1 y.2.1 ++ L2 y.2.2) (fun b y => R0 b y.1 ∧ R1 b y.2.1 ∧ R2 b y.2.2) := by
  intro fuel hN cs x h hw
  obtain ⟨xs, k, hk, hxy, hlen, hxl, hf⟩ := DataW.trod_struct hT h
  rw [ce] at hlen
  match xs, hxl, cs, hlen with
  | [y0, y1, y2], _, [v0, v1, v2, v3, v4, v5, v6, v7], _ =>
    have g0 := hf 0 f0 rfl
    have g1 := hf 1 f1 rfl
    have g2 := hf 2 f2 rfl
    simp [o0, o1, o2, c0, c1, c2] at g0 g1 g2
    have hwe : DataW.weights P T (.agg [y0.1, y1.1, y2.1]) = y0.1.weights P f0.type ++ (y1.1.weights P f1.type ++ (y2.1.weights P f2.type ++ [])) := by simp [DataW.weights, DataW.weightsEach, hT]
    obtain ⟨a0, z0, r0⟩ := p0 k (by omega) _ _ g0 fun n hn => hw n (by subst hxy; simp only [List.map_cons, List.map_nil]; rw [hwe]; simp [hn])
    obtain ⟨a1, z1, r1⟩ := p1 k (by omega) _ _ g1 fun n hn => hw n (by subst hxy; simp only [List.map_cons, List.map_nil]; rw [hwe]; simp [hn])
    obtain ⟨a2, z2, r2⟩ := p2 k (by omega) _ _ g2 fun n hn => hw n (by subst hxy; simp only [List.map_cons, List.map_nil]; rw [hwe]; simp [hn])
    refine ⟨⟨a0, a1, a2⟩, ?_, ⟨m0 _ _ _ ?_ r0, m1 _ _ _ ?_ r1, m2 _ _ _ ?_ r2⟩⟩
    · show [v0, v1, v2, v3, v4, v5, v6, v7] = L0 a0 ++ L1 a1 ++ L2 a2
      rw [← z0, ← z1, ← z2]
      rfl
    all_goals
      subst hxy
      simp only [List.map_cons, List.map_nil, Rows.uptoBulk, Rows.uptoBulkAll]
      omega
theorem opn_six {α0 α1 α2 α3 α4 α5 : Type} {N : Nat} {T : TypeId} {f0 f1 f2 f3 f4 f5 : Field} {L0 : α0 → List Value} {R0 : Nat → α0 → Prop} {L1 : α1 → List Value} {R1 : Nat → α1 → Prop} {L2 : α2 → List Value} {R2 : Nat → α2 → Prop} {L3 : α3 → List Value} {R3 : Nat → α3 → Prop} {L4 : α4 → List Value} {R4 : Nat → α4 → Prop} {L5 : α5 → List Value} {R5 : Nat → α5 → Prop} (hT : P.underlying T = some (.struct #[f0, f1, f2, f3, f4, f5])) (ce : P.cellsOf T = 6) (o0 : f0.offset = 0) (c0 : P.cellsOf f0.type = 1) (o1 : f1.offset = 1) (c1 : P.cellsOf f1.type = 1) (o2 : f2.offset = 2) (c2 : P.cellsOf f2.type = 1) (o3 : f3.offset = 3) (c3 : P.cellsOf f3.type = 1) (o4 : f4.offset = 4) (c4 : P.cellsOf f4.type = 1) (o5 : f5.offset = 5) (c5 : P.cellsOf f5.type = 1) (m0 : Mono R0) (p0 : Opn enc P w held N f0.type L0 R0) (m1 : Mono R1) (p1 : Opn enc P w held N f1.type L1 R1) (m2 : Mono R2) (p2 : Opn enc P w held N f2.type L2 R2) (m3 : Mono R3) (p3 : Opn enc P w held N f3.type L3 R3) (m4 : Mono R4) (p4 : Opn enc P w held N f4.type L4 R4) (m5 : Mono R5) (p5 : Opn enc P w held N f5.type L5 R5) :
    Opn enc P w held (N + 1) T (fun y : α0 × α1 × α2 × α3 × α4 × α5 => L0 y.1 ++ L1 y.2.1 ++ L2 y.2.2.1 ++ L3 y.2.2.2.1 ++ L4 y.2.2.2.2.1 ++ L5 y.2.2.2.2.2) (fun b y => R0 b y.1 ∧ R1 b y.2.1 ∧ R2 b y.2.2.1 ∧ R3 b y.2.2.2.1 ∧ R4 b y.2.2.2.2.1 ∧ R5 b y.2.2.2.2.2) := by
  intro fuel hN cs x h hw
  obtain ⟨xs, k, hk, hxy, hlen, hxl, hf⟩ := DataW.trod_struct hT h
  rw [ce] at hlen
  match xs, hxl, cs, hlen with
  | [y0, y1, y2, y3, y4, y5], _, [v0, v1, v2, v3, v4, v5], _ =>
    have g0 := hf 0 f0 rfl
    have g1 := hf 1 f1 rfl
    have g2 := hf 2 f2 rfl
    have g3 := hf 3 f3 rfl
    have g4 := hf 4 f4 rfl
    have g5 := hf 5 f5 rfl
    simp [o0, o1, o2, o3, o4, o5, c0, c1, c2, c3, c4, c5] at g0 g1 g2 g3 g4 g5
    have hwe : DataW.weights P T (.agg [y0.1, y1.1, y2.1, y3.1, y4.1, y5.1]) = y0.1.weights P f0.type ++ (y1.1.weights P f1.type ++ (y2.1.weights P f2.type ++ (y3.1.weights P f3.type ++ (y4.1.weights P f4.type ++ (y5.1.weights P f5.type ++ []))))) := by simp [DataW.weights, DataW.weightsEach, hT]
    obtain ⟨a0, z0, r0⟩ := p0 k (by omega) _ _ g0 fun n hn => hw n (by subst hxy; simp only [List.map_cons, List.map_nil]; rw [hwe]; simp [hn])
    obtain ⟨a1, z1, r1⟩ := p1 k (by omega) _ _ g1 fun n hn => hw n (by subst hxy; simp only [List.map_cons, List.map_nil]; rw [hwe]; simp [hn])
    obtain ⟨a2, z2, r2⟩ := p2 k (by omega) _ _ g2 fun n hn => hw n (by subst hxy; simp only [List.map_cons, List.map_nil]; rw [hwe]; simp [hn])
    obtain ⟨a3, z3, r3⟩ := p3 k (by omega) _ _ g3 fun n hn => hw n (by subst hxy; simp only [List.map_cons, List.map_nil]; rw [hwe]; simp [hn])
    obtain ⟨a4, z4, r4⟩ := p4 k (by omega) _ _ g4 fun n hn => hw n (by subst hxy; simp only [List.map_cons, List.map_nil]; rw [hwe]; simp [hn])
    obtain ⟨a5, z5, r5⟩ := p5 k (by omega) _ _ g5 fun n hn => hw n (by subst hxy; simp only [List.map_cons, List.map_nil]; rw [hwe]; simp [hn])
    refine ⟨⟨a0, a1, a2, a3, a4, a5⟩, ?_, ⟨m0 _ _ _ ?_ r0, m1 _ _ _ ?_ r1, m2 _ _ _ ?_ r2, m3 _ _ _ ?_ r3, m4 _ _ _ ?_ r4, m5 _ _ _ ?_ r5⟩⟩
    · show [v0, v1, v2, v3, v4, v5] = L0 a0 ++ L1 a1 ++ L2 a2 ++ L3 a3 ++ L4 a4 ++ L5 a5
      rw [← z0, ← z1, ← z2, ← z3, ← z4, ← z5]
      rfl
    all_goals
      subst hxy
      simp only [List.map_cons, List.map_nil, Rows.uptoBulk, Rows.uptoBulkAll]
      omega
theorem opn_one {α0 : Type} {N : Nat} {T : TypeId} {f0 : Field} {L0 : α0 → List Value} {R0 : Nat → α0 → Prop} (hT : P.underlying T = some (.struct #[f0])) (ce : P.cellsOf T = 1) (o0 : f0.offset = 0) (c0 : P.cellsOf f0.type = 1) (m0 : Mono R0) (p0 : Opn enc P w held N f0.type L0 R0) :
    Opn enc P w held (N + 1) T (fun y : α0 => L0 y) (fun b y => R0 b y) := by
  intro fuel hN cs x h hw
  obtain ⟨xs, k, hk, hxy, hlen, hxl, hf⟩ := DataW.trod_struct hT h
  rw [ce] at hlen
  match xs, hxl, cs, hlen with
  | [y0], _, [v0], _ =>
    have g0 := hf 0 f0 rfl
    simp [o0, c0] at g0
    have hwe : DataW.weights P T (.agg [y0.1]) = y0.1.weights P f0.type ++ [] := by simp [DataW.weights, DataW.weightsEach, hT]
    obtain ⟨a0, z0, r0⟩ := p0 k (by omega) _ _ g0 fun n hn => hw n (by subst hxy; simp only [List.map_cons, List.map_nil]; rw [hwe]; simp [hn])
    refine ⟨a0, ?_, m0 _ _ _ ?_ r0⟩
    · show [v0] = L0 a0
      rw [← z0]
    all_goals
      subst hxy
      simp only [List.map_cons, List.map_nil, Rows.uptoBulk, Rows.uptoBulkAll]
      omega
theorem opn_eight {α0 α1 α2 α3 α4 α5 α6 α7 : Type} {N : Nat} {T : TypeId} {f0 f1 f2 f3 f4 f5 f6 f7 : Field} {L0 : α0 → List Value} {R0 : Nat → α0 → Prop} {L1 : α1 → List Value} {R1 : Nat → α1 → Prop} {L2 : α2 → List Value} {R2 : Nat → α2 → Prop} {L3 : α3 → List Value} {R3 : Nat → α3 → Prop} {L4 : α4 → List Value} {R4 : Nat → α4 → Prop} {L5 : α5 → List Value} {R5 : Nat → α5 → Prop} {L6 : α6 → List Value} {R6 : Nat → α6 → Prop} {L7 : α7 → List Value} {R7 : Nat → α7 → Prop} (hT : P.underlying T = some (.struct #[f0, f1, f2, f3, f4, f5, f6, f7])) (ce : P.cellsOf T = 8) (o0 : f0.offset = 0) (c0 : P.cellsOf f0.type = 1) (o1 : f1.offset = 1) (c1 : P.cellsOf f1.type = 1) (o2 : f2.offset = 2) (c2 : P.cellsOf f2.type = 1) (o3 : f3.offset = 3) (c3 : P.cellsOf f3.type = 1) (o4 : f4.offset = 4) (c4 : P.cellsOf f4.type = 1) (o5 : f5.offset = 5) (c5 : P.cellsOf f5.type = 1) (o6 : f6.offset = 6) (c6 : P.cellsOf f6.type = 1) (o7 : f7.offset = 7) (c7 : P.cellsOf f7.type = 1) (m0 : Mono R0) (p0 : Opn enc P w held N f0.type L0 R0) (m1 : Mono R1) (p1 : Opn enc P w held N f1.type L1 R1) (m2 : Mono R2) (p2 : Opn enc P w held N f2.type L2 R2) (m3 : Mono R3) (p3 : Opn enc P w held N f3.type L3 R3) (m4 : Mono R4) (p4 : Opn enc P w held N f4.type L4 R4) (m5 : Mono R5) (p5 : Opn enc P w held N f5.type L5 R5) (m6 : Mono R6) (p6 : Opn enc P w held N f6.type L6 R6) (m7 : Mono R7) (p7 : Opn enc P w held N f7.type L7 R7) :
    Opn enc P w held (N + 1) T (fun y : α0 × α1 × α2 × α3 × α4 × α5 × α6 × α7 => L0 y.1 ++ L1 y.2.1 ++ L2 y.2.2.1 ++ L3 y.2.2.2.1 ++ L4 y.2.2.2.2.1 ++ L5 y.2.2.2.2.2.1 ++ L6 y.2.2.2.2.2.2.1 ++ L7 y.2.2.2.2.2.2.2) (fun b y => R0 b y.1 ∧ R1 b y.2.1 ∧ R2 b y.2.2.1 ∧ R3 b y.2.2.2.1 ∧ R4 b y.2.2.2.2.1 ∧ R5 b y.2.2.2.2.2.1 ∧ R6 b y.2.2.2.2.2.2.1 ∧ R7 b y.2.2.2.2.2.2.2) := by
  intro fuel hN cs x h hw
  obtain ⟨xs, k, hk, hxy, hlen, hxl, hf⟩ := DataW.trod_struct hT h
  rw [ce] at hlen
  match xs, hxl, cs, hlen with
  | [y0, y1, y2, y3, y4, y5, y6, y7], _, [v0, v1, v2, v3, v4, v5, v6, v7], _ =>
    have g0 := hf 0 f0 rfl
    have g1 := hf 1 f1 rfl
    have g2 := hf 2 f2 rfl
    have g3 := hf 3 f3 rfl
    have g4 := hf 4 f4 rfl
    have g5 := hf 5 f5 rfl
    have g6 := hf 6 f6 rfl
    have g7 := hf 7 f7 rfl
    simp [o0, o1, o2, o3, o4, o5, o6, o7, c0, c1, c2, c3, c4, c5, c6, c7] at g0 g1 g2 g3 g4 g5 g6 g7
    have hwe : DataW.weights P T (.agg [y0.1, y1.1, y2.1, y3.1, y4.1, y5.1, y6.1, y7.1]) = y0.1.weights P f0.type ++ (y1.1.weights P f1.type ++ (y2.1.weights P f2.type ++ (y3.1.weights P f3.type ++ (y4.1.weights P f4.type ++ (y5.1.weights P f5.type ++ (y6.1.weights P f6.type ++ (y7.1.weights P f7.type ++ []))))))) := by simp [DataW.weights, DataW.weightsEach, hT]
    obtain ⟨a0, z0, r0⟩ := p0 k (by omega) _ _ g0 fun n hn => hw n (by subst hxy; simp only [List.map_cons, List.map_nil]; rw [hwe]; simp [hn])
    obtain ⟨a1, z1, r1⟩ := p1 k (by omega) _ _ g1 fun n hn => hw n (by subst hxy; simp only [List.map_cons, List.map_nil]; rw [hwe]; simp [hn])
    obtain ⟨a2, z2, r2⟩ := p2 k (by omega) _ _ g2 fun n hn => hw n (by subst hxy; simp only [List.map_cons, List.map_nil]; rw [hwe]; simp [hn])
    obtain ⟨a3, z3, r3⟩ := p3 k (by omega) _ _ g3 fun n hn => hw n (by subst hxy; simp only [List.map_cons, List.map_nil]; rw [hwe]; simp [hn])
    obtain ⟨a4, z4, r4⟩ := p4 k (by omega) _ _ g4 fun n hn => hw n (by subst hxy; simp only [List.map_cons, List.map_nil]; rw [hwe]; simp [hn])
    obtain ⟨a5, z5, r5⟩ := p5 k (by omega) _ _ g5 fun n hn => hw n (by subst hxy; simp only [List.map_cons, List.map_nil]; rw [hwe]; simp [hn])
    obtain ⟨a6, z6, r6⟩ := p6 k (by omega) _ _ g6 fun n hn => hw n (by subst hxy; simp only [List.map_cons, List.map_nil]; rw [hwe]; simp [hn])
    obtain ⟨a7, z7, r7⟩ := p7 k (by omega) _ _ g7 fun n hn => hw n (by subst hxy; simp only [List.map_cons, List.map_nil]; rw [hwe]; simp [hn])
    refine ⟨⟨a0, a1, a2, a3, a4, a5, a6, a7⟩, ?_, ⟨m0 _ _ _ ?_ r0, m1 _ _ _ ?_ r1, m2 _ _ _ ?_ r2, m3 _ _ _ ?_ r3, m4 _ _ _ ?_ r4, m5 _ _ _ ?_ r5, m6 _ _ _ ?_ r6, m7 _ _ _ ?_ r7⟩⟩
    · show [v0, v1, v2, v3, v4, v5, v6, v7] = L0 a0 ++ L1 a1 ++ L2 a2 ++ L3 a3 ++ L4 a4 ++ L5 a5 ++ L6 a6 ++ L7 a7
      rw [← z0, ← z1, ← z2, ← z3, ← z4, ← z5, ← z6, ← z7]
      rfl
    all_goals
      subst hxy
      simp only [List.map_cons, List.map_nil, Rows.uptoBulk, Rows.uptoBulkAll]
      omega
theorem opn_pair {α0 α1 : Type} {N : Nat} {T : TypeId} {f0 f1 : Field} {L0 : α0 → List Value} {R0 : Nat → α0 → Prop} {L1 : α1 → List Value} {R1 : Nat → α1 → Prop} (hT : P.underlying T = some (.struct #[f0, f1])) (ce : P.cellsOf T = 2) (o0 : f0.offset = 0) (c0 : P.cellsOf f0.type = 1) (o1 : f1.offset = 1) (c1 : P.cellsOf f1.type = 1) (m0 : Mono R0) (p0 : Opn enc P w held N f0.type L0 R0) (m1 : Mono R1) (p1 : Opn enc P w held N f1.type L1 R1) :
    Opn enc P w held (N + 1) T (fun y : α0 × α1 => L0 y.1 ++ L1 y.2) (fun b y => R0 b y.1 ∧ R1 b y.2) := by
  intro fuel hN cs x h hw
  obtain ⟨xs, k, hk, hxy, hlen, hxl, hf⟩ := DataW.trod_struct hT h
  rw [ce] at hlen
  match xs, hxl, cs, hlen with
  | [y0, y1], _, [v0, v1], _ =>
    have g0 := hf 0 f0 rfl
    have g1 := hf 1 f1 rfl
    simp [o0, o1, c0, c1] at g0 g1
    have hwe : DataW.weights P T (.agg [y0.1, y1.1]) = y0.1.weights P f0.type ++ (y1.1.weights P f1.type ++ []) := by simp [DataW.weights, DataW.weightsEach, hT]
    obtain ⟨a0, z0, r0⟩ := p0 k (by omega) _ _ g0 fun n hn => hw n (by subst hxy; simp only [List.map_cons, List.map_nil]; rw [hwe]; simp [hn])
    obtain ⟨a1, z1, r1⟩ := p1 k (by omega) _ _ g1 fun n hn => hw n (by subst hxy; simp only [List.map_cons, List.map_nil]; rw [hwe]; simp [hn])
    refine ⟨⟨a0, a1⟩, ?_, ⟨m0 _ _ _ ?_ r0, m1 _ _ _ ?_ r1⟩⟩
    · show [v0, v1] = L0 a0 ++ L1 a1
      rw [← z0, ← z1]
      rfl
    all_goals
      subst hxy
      simp only [List.map_cons, List.map_nil, Rows.uptoBulk, Rows.uptoBulkAll]
      omega
theorem Opn.map {α β : Type} {N : Nat} {T : TypeId} {L : α → List Value} {R : Nat → α → Prop} {L' : β → List Value} {R' : Nat → β → Prop} (h : Opn enc P w held N T L R) (g : α → β) (hL : ∀ y, L' (g y) = L y) (hR : ∀ b y, R b y → R' b (g y)) : Opn enc P w held N T L' R' := fun fuel hf cs x h1 h2 => by
  obtain ⟨y, hy, hr⟩ := h fuel hf cs x h1 h2
  exact ⟨g y, hy.trans (hL y).symm, hR _ _ hr⟩
end
theorem mono_k {α : Type} (p : α → Prop) : Mono (fun _ => p) := fun _ _ _ _ h => h
section
variable {H : Type} {enc : TypeId × Value → H} {w : World} {held : Bool}
abbrev xL (e : Xt) : List Value := [.int .i64 e.k, .int .i64 e.op, .int .i64 e.t, .int .i64 e.v, .string e.nm, .slice e.A e.ar.length e.c]
def ROx (w : World) (b : Nat) (e : Xt) : Prop := RsX w w.heap.size e ∧ e.size ≤ b
theorem mono_X : Mono (ROx w) := fun _ _ _ h k => ⟨k.1, Nat.le_trans k.2 h⟩
set_option maxRecDepth 100000 in
theorem opn_expr (N : Nat) : Opn enc Tryz.prog w held N 24 xL (ROx w) := fun fuel _ cs x h hw => by
  obtain ⟨e, he, hR, hN, hZ⟩ := rd_exprU Tryz.underlying24 (by kernel_rfl) rfl rfl rfl rfl rfl rfl (by kernel_rfl) (by kernel_rfl) (by kernel_rfl) (by kernel_rfl) (by kernel_rfl) (by kernel_rfl) Tryz.underlying3 Tryz.underlying3 Tryz.underlying3 Tryz.underlying3 Tryz.underlying9 Tryz.underlying22 fuel _ _ h hw
  exact ⟨e, he, ⟨hR, hN⟩, hZ⟩
theorem ofcX (a : Addr) (y : Xt) (h : ∀ j u, (xL y)[j]? = some u → w.cell? (a.add j) = some u) : XC w a y :=
  ⟨by have := h 0 _ rfl; rwa [add_zero'] at this, by have := h 1 _ rfl; simpa [Addr.add] using this, by have := h 2 _ rfl; simpa [Addr.add] using this, by have := h 3 _ rfl; simpa [Addr.add] using this, by have := h 4 _ rfl; simpa [Addr.add] using this, by have := h 5 _ rfl; simpa [Addr.add] using this⟩
set_option maxRecDepth 100000 in
theorem opn_exprs (N : Nat) : Opn enc Tryz.prog w held N 22 rowL (fun b r => RsXs w w.heap.size r ∧ ∀ x ∈ r.l, x.size ≤ b) :=
  ((opn_row (C := XC) Tryz.underlying22 (by kernel_rfl) (fun _ _ h => World.block_lt_of_cell? w _ h.1) ofcX mono_X (opn_expr N)).mono (Nat.le_succ _)).imp fun b r h => ⟨⟨h.1, fun x hx => (h.2 x hx).1⟩, fun x hx => (h.2 x hx).2⟩
abbrev oL (o : Ot) : List Value := [.string o.nm, .int .i64 o.t, .int .i64 o.tag]
set_option maxRecDepth 100000 in
theorem opn_on (N : Nat) : Opn enc Tryz.prog w held N 153 oL (fun _ o => o.nm.size ≤ 140737488351232 ∧ o.t ≤ 9223372036854775807) :=
  ((opn_three Tryz.underlying153 (by kernel_rfl) rfl (by kernel_rfl) rfl (by kernel_rfl) rfl (by kernel_rfl) (mono_k _) (opn_str (N := N) Tryz.underlying9) (mono_k _) (opn_int Tryz.underlying3) (mono_k _) (opn_int Tryz.underlying3)).mono (Nat.le_succ _)).map (fun y => ⟨y.1, y.2.1, y.2.2⟩) (fun _ => rfl) fun b y h => ⟨h.1, h.2.1⟩
theorem ofcO (a : Addr) (y : Ot) (h : ∀ j u, (oL y)[j]? = some u → w.cell? (a.add j) = some u) : OC w a y :=
  ⟨by have := h 0 _ rfl; rwa [add_zero'] at this, by have := h 1 _ rfl; simpa [Addr.add] using this, by have := h 2 _ rfl; simpa [Addr.add] using this⟩
set_option maxRecDepth 100000 in
theorem opn_ons (N : Nat) : Opn enc Tryz.prog w held N 96 rowL (fun _ r => RsO w w.heap.size r) :=
  ((opn_row (C := OC) Tryz.underlying96 (by kernel_rfl) (fun _ _ h => World.block_lt_of_cell? w _ h.1) ofcO (mono_k _) (opn_on N)).mono (Nat.le_succ _)).imp fun b r h => ⟨h.1, h.2⟩
abbrev dL (o : Dt) : List Value := [.string o.nm, .int .i64 o.ty, .slice o.ck.A o.ck.l.length o.ck.c]
set_option maxRecDepth 100000 in
theorem opn_decl (N : Nat) : Opn enc Tryz.prog w held N 98 dL (fun _ o => RsD w w.heap.size o) :=
  ((opn_three Tryz.underlying98 (by kernel_rfl) rfl (by kernel_rfl) rfl (by kernel_rfl) rfl (by kernel_rfl) (mono_k _) (opn_str (N := N) Tryz.underlying9) (mono_k _) (opn_int Tryz.underlying3) (mono_k _) (opn_ons N)).mono (Nat.le_succ _)).map (fun y => ⟨y.1, y.2.1, y.2.2⟩) (fun _ => rfl) fun b y h => ⟨⟨h.1, h.2.1⟩, h.2.2⟩
theorem ofcD (a : Addr) (y : Dt) (h : ∀ j u, (dL y)[j]? = some u → w.cell? (a.add j) = some u) : DC w a y :=
  ⟨by have := h 0 _ rfl; rwa [add_zero'] at this, by have := h 1 _ rfl; simpa [Addr.add] using this, by have := h 2 _ rfl; simpa [Addr.add] using this⟩
set_option maxRecDepth 100000 in
theorem opn_decls (N : Nat) : Opn enc Tryz.prog w held N 52 rowL (fun _ r => RsDs w w.heap.size r) :=
  ((opn_row (C := DC) Tryz.underlying52 (by kernel_rfl) (fun _ _ h => World.block_lt_of_cell? w _ h.1) ofcD (mono_k _) (opn_decl N)).mono (Nat.le_succ _)).imp fun b r h => ⟨h.1, h.2⟩
theorem ofcB (a : Addr) (y : ByteArray) (h : ∀ j u, [Value.string y][j]? = some u → w.cell? (a.add j) = some u) : BC w a y := by have := h 0 _ rfl; rwa [add_zero'] at this
set_option maxRecDepth 100000 in
theorem opn_texts (N : Nat) : Opn enc Tryz.prog w held N 57 rowL (fun _ r => RsB w w.heap.size r) :=
  ((opn_row (C := BC) Tryz.underlying57 (by kernel_rfl) (fun _ _ h => World.block_lt_of_cell? w _ h) ofcB (mono_k _) (opn_str (N := N) Tryz.underlying9)).mono (Nat.le_succ _)).imp fun b r h => ⟨h.1, h.2⟩
abbrev qL (q : Qt) : List Value := [.slice q.lf.A q.lf.l.length q.lf.c, .int .i64 q.r.k, .int .i64 q.r.op, .int .i64 q.r.t, .int .i64 q.r.v, .string q.r.nm, .slice q.r.A q.r.ar.length q.r.c]
def ROq (w : World) (b : Nat) (q : Qt) : Prop := RsQ w w.heap.size q ∧ q.r.size ≤ b
theorem mono_Q : Mono (ROq w) := fun _ _ _ h k => ⟨k.1, Nat.le_trans k.2 h⟩
set_option maxRecDepth 100000 in
theorem opn_eq (N : Nat) : Opn enc Tryz.prog w held N 59 qL (ROq w) :=
  ((opn_two Tryz.underlying59 (by kernel_rfl) rfl (by kernel_rfl) rfl (by kernel_rfl) (mono_k _) (opn_texts N) mono_X (opn_expr N)).mono (Nat.le_succ _)).map (fun y => ⟨y.1, y.2⟩) (fun _ => rfl) fun b y h => ⟨⟨h.1, h.2.1⟩, h.2.2⟩
theorem ofcQ (a : Addr) (y : Qt) (h : ∀ j u, (qL y)[j]? = some u → w.cell? (a.add j) = some u) : QC w a y :=
  ⟨by have := h 0 _ rfl; rwa [add_zero'] at this, by have := h 1 _ rfl; simpa [Addr.add] using this, by have := h 2 _ rfl; simpa [Addr.add] using this, by have := h 3 _ rfl; simpa [Addr.add] using this, by have := h 4 _ rfl; simpa [Addr.add] using this, by have := h 5 _ rfl; simpa [Addr.add] using this, by have := h 6 _ rfl; simpa [Addr.add] using this⟩
set_option maxRecDepth 100000 in
theorem opn_eqs (N : Nat) : Opn enc Tryz.prog w held N 53 rowL (fun b r => RsQs w w.heap.size r ∧ ∀ q ∈ r.l, q.r.size ≤ b) :=
  ((opn_row (C := QC) Tryz.underlying53 (by kernel_rfl) (fun _ _ h => World.block_lt_of_cell? w _ h.1) ofcQ mono_Q (opn_eq N)).mono (Nat.le_succ _)).imp fun b r h => ⟨⟨h.1, fun x hx => (h.2 x hx).1⟩, fun x hx => (h.2 x hx).2⟩
abbrev tL (t : Tt) : List Value := [.int .i64 t.cd.k, .int .i64 t.cd.op, .int .i64 t.cd.t, .int .i64 t.cd.v, .string t.cd.nm, .slice t.cd.A t.cd.ar.length t.cd.c, .int .i64 t.to, .bool t.re]
def ROt (w : World) (b : Nat) (t : Tt) : Prop := RsX w w.heap.size t.cd ∧ t.cd.size ≤ b
theorem mono_T : Mono (ROt w) := fun _ _ _ h k => ⟨k.1, Nat.le_trans k.2 h⟩
set_option maxRecDepth 100000 in
theorem opn_tr (N : Nat) : Opn enc Tryz.prog w held N 103 tL (ROt w) :=
  ((opn_trans Tryz.underlying103 (by kernel_rfl) rfl (by kernel_rfl) rfl (by kernel_rfl) rfl (by kernel_rfl) mono_X (opn_expr N) (mono_k _) (opn_int Tryz.underlying3) (mono_k _) (opn_bool Tryz.underlying4)).mono (Nat.le_succ _)).map (fun y => ⟨y.1, y.2.1, y.2.2⟩) (fun _ => rfl) fun b y h => h.1
theorem ofcT (a : Addr) (y : Tt) (h : ∀ j u, (tL y)[j]? = some u → w.cell? (a.add j) = some u) : TC w a y :=
  ⟨⟨by have := h 0 _ rfl; rwa [add_zero'] at this, by have := h 1 _ rfl; simpa [Addr.add] using this, by have := h 2 _ rfl; simpa [Addr.add] using this, by have := h 3 _ rfl; simpa [Addr.add] using this, by have := h 4 _ rfl; simpa [Addr.add] using this, by have := h 5 _ rfl; simpa [Addr.add] using this⟩, by have := h 6 _ rfl; simpa [Addr.add] using this, by have := h 7 _ rfl; simpa [Addr.add] using this⟩
set_option maxRecDepth 100000 in
theorem opn_trs (N : Nat) : Opn enc Tryz.prog w held N 93 rowL (fun b r => RsTs w w.heap.size r ∧ ∀ t ∈ r.l, t.cd.size ≤ b) :=
  ((opn_row (C := TC) Tryz.underlying93 (by kernel_rfl) (fun _ _ h => World.block_lt_of_cell? w _ h.1.1) ofcT mono_T (opn_tr N)).mono (Nat.le_succ _)).imp fun b r h => ⟨⟨h.1, fun x hx => (h.2 x hx).1⟩, fun x hx => (h.2 x hx).2⟩
abbrev sL (s : St) : List Value := [.string s.nm, .slice s.lc.A s.lc.l.length s.lc.c, .slice s.qs.A s.qs.l.length s.qs.c, .slice s.au.A s.au.l.length s.au.c, .slice s.un.A s.un.l.length s.un.c, .slice s.ut.A s.ut.l.length s.ut.c]
def ROs (w : World) (b : Nat) (s : St) : Prop := RsS w w.heap.size s ∧ SmS b s
theorem SmS.mono {a b : Nat} {s : St} (h : SmS a s) (hab : a ≤ b) : SmS b s := by
  induction h with
  | mk s h1 h2 h3 h4 ih => exact .mk s (fun q hq => Nat.le_trans (h1 q hq) hab) (fun q hq => Nat.le_trans (h2 q hq) hab) (fun q hq => Nat.le_trans (h3 q hq) hab) ih
theorem mono_S : Mono (ROs w) := fun _ _ _ h k => ⟨k.1, k.2.mono h⟩
theorem ofcS (a : Addr) (y : St) (h : ∀ j u, (sL y)[j]? = some u → w.cell? (a.add j) = some u) : SC w a y :=
  ⟨by have := h 0 _ rfl; rwa [add_zero'] at this, by have := h 1 _ rfl; simpa [Addr.add] using this, by have := h 2 _ rfl; simpa [Addr.add] using this, by have := h 3 _ rfl; simpa [Addr.add] using this, by have := h 4 _ rfl; simpa [Addr.add] using this, by have := h 5 _ rfl; simpa [Addr.add] using this⟩
def ROa (w : World) (b : Nat) (a : Rw St) : Prop := RsA w w.heap.size a ∧ ∀ t ∈ a.l, SmS b t
theorem mono_A : Mono (ROa w) := fun _ _ _ h k => ⟨k.1, fun t ht => (k.2 t ht).mono h⟩
theorem ofcA (a : Addr) (y : Rw St) (h : ∀ j u, (rowL y)[j]? = some u → w.cell? (a.add j) = some u) : AC w a y := by have := h 0 _ rfl; rwa [add_zero'] at this
set_option maxRecDepth 100000 in
theorem opn_autos_of {N : Nat} (h : Opn enc Tryz.prog w held N 95 sL (ROs w)) : Opn enc Tryz.prog w held N 54 rowL (fun b r => RsAs w w.heap.size r ∧ ∀ a ∈ r.l, ∀ t ∈ a.l, SmS b t) := by
  have h1 : Opn enc Tryz.prog w held N 99 rowL (ROa w) := ((opn_row (C := SC) Tryz.underlying99 (by kernel_rfl) (fun _ _ h => World.block_lt_of_cell? w _ h.1) ofcS mono_S h).mono (Nat.le_succ _)).imp fun b r h => ⟨⟨h.1, fun x hx => (h.2 x hx).1⟩, fun x hx => (h.2 x hx).2⟩
  have h2 : Opn enc Tryz.prog w held N 101 rowL (ROa w) := (opn_one Tryz.underlying101 (by kernel_rfl) rfl (by kernel_rfl) mono_A h1).mono (Nat.le_succ _)
  exact ((opn_row (C := AC) Tryz.underlying54 (by kernel_rfl) (fun _ _ h => World.block_lt_of_cell? w _ h) ofcA mono_A h2).mono (Nat.le_succ _)).imp fun b r h => ⟨⟨h.1, fun x hx => (h.2 x hx).1⟩, fun x hx => (h.2 x hx).2⟩
theorem mono_Qs : Mono (fun b (r : Rw Qt) => RsQs w w.heap.size r ∧ ∀ q ∈ r.l, q.r.size ≤ b) := fun _ _ _ h k => ⟨k.1, fun q hq => Nat.le_trans (k.2 q hq) h⟩
theorem mono_Ts : Mono (fun b (r : Rw Tt) => RsTs w w.heap.size r ∧ ∀ q ∈ r.l, q.cd.size ≤ b) := fun _ _ _ h k => ⟨k.1, fun q hq => Nat.le_trans (k.2 q hq) h⟩
theorem mono_Xs : Mono (fun b (r : Rw Xt) => RsXs w w.heap.size r ∧ ∀ q ∈ r.l, q.size ≤ b) := fun _ _ _ h k => ⟨k.1, fun q hq => Nat.le_trans (k.2 q hq) h⟩
theorem mono_As : Mono (fun b (r : Rw (Rw St)) => RsAs w w.heap.size r ∧ ∀ a ∈ r.l, ∀ t ∈ a.l, SmS b t) := fun _ _ _ h k => ⟨k.1, fun q hq t ht => (k.2 q hq t ht).mono h⟩
set_option maxRecDepth 100000 in
theorem opn_state (N : Nat) : Opn enc Tryz.prog w held N 95 sL (ROs w) := by
  induction N with
  | zero => exact fun _ h => absurd h (Nat.not_lt_zero _)
  | succ N ih =>
    exact (opn_six Tryz.underlying95 (by kernel_rfl) rfl (by kernel_rfl) rfl (by kernel_rfl) rfl (by kernel_rfl) rfl (by kernel_rfl) rfl (by kernel_rfl) rfl (by kernel_rfl) (mono_k _) (opn_str (N := N) Tryz.underlying9) (mono_k _) (opn_decls N) mono_Qs (opn_eqs N) mono_As (opn_autos_of ih) mono_Ts (opn_trs N) mono_Ts (opn_trs N)).map (fun y => .mk y.1 y.2.1 y.2.2.1 y.2.2.2.1 y.2.2.2.2.1 y.2.2.2.2.2) (fun _ => rfl) fun b y h =>
      ⟨.mk _ h.1 h.2.1 h.2.2.1.1 h.2.2.2.1.1.1 (fun a ha => (h.2.2.2.1.1.2 a ha).1) (fun a ha => (h.2.2.2.1.1.2 a ha).2) h.2.2.2.2.1.1 h.2.2.2.2.2.1, .mk _ h.2.2.1.2 h.2.2.2.2.1.2 h.2.2.2.2.2.2 h.2.2.2.1.2⟩
abbrev nL (n : Nt) : List Value := [.string n.nm, .slice n.ins.A n.ins.l.length n.ins.c, .slice n.outs.A n.outs.l.length n.outs.c, .slice n.locs.A n.locs.l.length n.locs.c, .slice n.qs.A n.qs.l.length n.qs.c, .slice n.au.A n.au.l.length n.au.c, .slice n.asm.A n.asm.l.length n.asm.c, .slice n.ens.A n.ens.l.length n.ens.c]
def ROn (w : World) (b : Nat) (n : Nt) : Prop := RsN w w.heap.size n ∧ SmN b n
theorem mono_N : Mono (ROn w) := fun _ _ _ h k => ⟨k.1, fun q hq => Nat.le_trans (k.2.qs q hq) h, fun q hq t ht => (k.2.au q hq t ht).mono h, fun q hq => Nat.le_trans (k.2.asm q hq) h, fun q hq => Nat.le_trans (k.2.ens q hq) h⟩
set_option maxRecDepth 100000 in
theorem opn_node (N : Nat) : Opn enc Tryz.prog w held N 56 nL (ROn w) :=
  ((opn_eight Tryz.underlying56 (by kernel_rfl) rfl (by kernel_rfl) rfl (by kernel_rfl) rfl (by kernel_rfl) rfl (by kernel_rfl) rfl (by kernel_rfl) rfl (by kernel_rfl) rfl (by kernel_rfl) rfl (by kernel_rfl) (mono_k _) (opn_str (N := N) Tryz.underlying9) (mono_k _) (opn_decls N) (mono_k _) (opn_decls N) (mono_k _) (opn_decls N) mono_Qs (opn_eqs N) mono_As (opn_autos_of (opn_state N)) mono_Xs (opn_exprs N) mono_Xs (opn_exprs N)).mono (Nat.le_succ _)).map (fun y => ⟨y.1, y.2.1, y.2.2.1, y.2.2.2.1, y.2.2.2.2.1, y.2.2.2.2.2.1, y.2.2.2.2.2.2.1, y.2.2.2.2.2.2.2⟩) (fun _ => rfl) fun b y h =>
    ⟨⟨h.1, h.2.1, h.2.2.1, h.2.2.2.1, h.2.2.2.2.1.1, h.2.2.2.2.2.1.1, h.2.2.2.2.2.2.1.1, h.2.2.2.2.2.2.2.1⟩, ⟨h.2.2.2.2.1.2, h.2.2.2.2.2.1.2, h.2.2.2.2.2.2.1.2, h.2.2.2.2.2.2.2.2⟩⟩
theorem ofcN (a : Addr) (y : Nt) (h : ∀ j u, (nL y)[j]? = some u → w.cell? (a.add j) = some u) : NC w a y :=
  ⟨by have := h 0 _ rfl; rwa [add_zero'] at this, by have := h 1 _ rfl; simpa [Addr.add] using this, by have := h 2 _ rfl; simpa [Addr.add] using this, by have := h 3 _ rfl; simpa [Addr.add] using this, by have := h 4 _ rfl; simpa [Addr.add] using this, by have := h 5 _ rfl; simpa [Addr.add] using this, by have := h 6 _ rfl; simpa [Addr.add] using this, by have := h 7 _ rfl; simpa [Addr.add] using this⟩
set_option maxRecDepth 100000 in
theorem opn_nodes (N : Nat) : Opn enc Tryz.prog w held N 34 rowL (fun b r => (RdR w w.heap.size 8 NC r ∧ ∀ n ∈ r.l, RsN w w.heap.size n) ∧ ∀ n ∈ r.l, SmN b n) :=
  ((opn_row (C := NC) Tryz.underlying34 (by kernel_rfl) (fun _ _ h => World.block_lt_of_cell? w _ h.1) ofcN mono_N (opn_node N)).mono (Nat.le_succ _)).imp fun b r h => ⟨⟨h.1, fun x hx => (h.2 x hx).1⟩, fun x hx => (h.2 x hx).2⟩
set_option maxRecDepth 100000 in
theorem opn_enums (N : Nat) : Opn enc Tryz.prog w held N 33 rowL (fun _ r => RsE w w.heap.size r) := fun fuel _ cs x h hw =>
  rd_enumsU Tryz.underlying33 Tryz.underlying72 (by kernel_rfl) rfl rfl (by kernel_rfl) (by kernel_rfl) Tryz.underlying9 Tryz.underlying57 Tryz.underlying9 (by kernel_rfl) fuel _ _ h hw
abbrev prL (p : Pt) : List Value := [.slice p.es.A p.es.l.length p.es.c, .slice p.ns.A p.ns.l.length p.ns.c]
def ROp (w : World) (b : Nat) (p : Pt) : Prop := RsP w w.heap.size p ∧ ∀ n ∈ p.ns.l, SmN b n
set_option maxRecDepth 100000 in
theorem opn_prog (N : Nat) : Opn enc Tryz.prog w held N 36 prL (ROp w) :=
  ((opn_pair Tryz.underlying36 (by kernel_rfl) rfl (by kernel_rfl) rfl (by kernel_rfl) (mono_k _) (opn_enums N) (fun _ _ _ h k => ⟨k.1, fun n hn => (mono_N (w := w) _ _ _ h ⟨k.1.2 n hn, k.2 n hn⟩).2⟩) (opn_nodes N)).mono (Nat.le_succ _)).map (fun y => ⟨y.1, y.2⟩) (fun _ => rfl) fun b y h => ⟨⟨h.1, h.2.1.1, h.2.1.2⟩, h.2.2⟩
set_option maxRecDepth 100000 in
/-- a program, opened, with its bulk -/
theorem open_progU {b0 : Nat} {r : Reach} {v : Value} {d : DataW H} {p : List MemPlace} (hv : Value.okWide Tryz.prog w r b0 36 v) (h : DataW.Trod enc Tryz.prog w 0 (fun _ => true) held 36 v d p) (hsz : ∀ n ∈ d.weights Tryz.prog 36, n ≤ reachBytes) :
    ∃ x : Pt, v = pV x ∧ RsP w w.heap.size x ∧ ∀ n ∈ x.ns.l, SmN (Rows.uptoBulk d) n := by
  obtain ⟨cs, rfl, hs⟩ := okWide_struct Tryz.underlying36 hv
  obtain ⟨fuel, hf⟩ := h
  obtain ⟨x, hx, hR, hN⟩ := opn_prog (fuel + 1) fuel (Nat.lt_succ_self _) _ _ hf hsz
  refine ⟨x, ?_, hR, hN⟩
  have : cs.toList = _ := hx
  congr 1
  exact Array.toList_inj.1 this
end
end Go.Proofs.YthlapepjebidgaaGreatDoor
