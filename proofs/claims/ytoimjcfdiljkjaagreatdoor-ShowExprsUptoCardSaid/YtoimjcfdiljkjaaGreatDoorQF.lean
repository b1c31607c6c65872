/- Texts of one chain, in one file. -/
import Derived.Test.YtoimjcfdiljkjaaGreatDoorQE
/- The boxes of struct parameters, in any later world. -/
namespace Go.Proofs.YtoimjcfdiljkjaaGreatDoor
set_option linter.unusedVariables false
set_option linter.unusedSimpArgs false
open Go.RowKit
theorem B2D {w W : World} (E : Rw va.En) (d : Dt) (h : Below ((w.alloc (.cells #[.slice E.A E.l.length E.c] 103)).alloc (.cells #[.string d.nm, .int .i64 d.ty, .slice d.ck.A d.ck.l.length d.ck.c] 50)).heap.size ((w.alloc (.cells #[.slice E.A E.l.length E.c] 103)).alloc (.cells #[.string d.nm, .int .i64 d.ty, .slice d.ck.A d.ck.l.length d.ck.c] 50)) W) :
    W.cell? ⟨w.heap.size, 0, none⟩ = some (.slice E.A E.l.length E.c) ∧ W.cell? ⟨w.heap.size + 1, 0, none⟩ = some (.string d.nm) ∧ W.cell? ⟨w.heap.size + 1, 1, none⟩ = some (.int .i64 d.ty) ∧ W.cell? ⟨w.heap.size + 1, 2, none⟩ = some (.slice d.ck.A d.ck.l.length d.ck.c) ∧ w.heap.size + 1 < W.heap.size := by
  have hs := h.size
  rw [World.size_alloc, World.size_alloc] at hs
  have hc : ∀ q : Addr, q.block < w.heap.size + 2 → W.cell? q = _ := fun q hq => h.cell (by rw [World.size_alloc, World.size_alloc]; exact hq)
  refine ⟨?_, ?_, ?_, ?_, hs⟩
  all_goals (rw [hc _ (by simp)]; simp [go_sem])
theorem B2O {w W : World} (E : Rw va.En) (o : Ot) (h : Below ((w.alloc (.cells #[.slice E.A E.l.length E.c] 103)).alloc (.cells #[.string o.nm, .int .i64 o.t, .int .i64 o.tag] 57)).heap.size ((w.alloc (.cells #[.slice E.A E.l.length E.c] 103)).alloc (.cells #[.string o.nm, .int .i64 o.t, .int .i64 o.tag] 57)) W) :
    W.cell? ⟨w.heap.size, 0, none⟩ = some (.slice E.A E.l.length E.c) ∧ W.cell? ⟨w.heap.size + 1, 0, none⟩ = some (.string o.nm) ∧ W.cell? ⟨w.heap.size + 1, 1, none⟩ = some (.int .i64 o.t) ∧ W.cell? ⟨w.heap.size + 1, 2, none⟩ = some (.int .i64 o.tag) ∧ w.heap.size + 1 < W.heap.size := by
  have hs := h.size
  rw [World.size_alloc, World.size_alloc] at hs
  have hc : ∀ q : Addr, q.block < w.heap.size + 2 → W.cell? q = _ := fun q hq => h.cell (by rw [World.size_alloc, World.size_alloc]; exact hq)
  refine ⟨?_, ?_, ?_, ?_, hs⟩
  all_goals (rw [hc _ (by simp)]; simp [go_sem])
theorem B1X {w W : World} (x : Xt) (h : Below (w.alloc (.cells #[.int .i64 x.k, .int .i64 x.op, .int .i64 x.t, .int .i64 x.v, .string x.nm, .slice x.A x.ar.length x.c] 33)).heap.size (w.alloc (.cells #[.int .i64 x.k, .int .i64 x.op, .int .i64 x.t, .int .i64 x.v, .string x.nm, .slice x.A x.ar.length x.c] 33)) W) :
    W.cell? ⟨w.heap.size, 0, none⟩ = some (.int .i64 x.k) ∧ W.cell? ⟨w.heap.size, 1, none⟩ = some (.int .i64 x.op) ∧ W.cell? ⟨w.heap.size, 2, none⟩ = some (.int .i64 x.t) ∧ W.cell? ⟨w.heap.size, 3, none⟩ = some (.int .i64 x.v) ∧ W.cell? ⟨w.heap.size, 4, none⟩ = some (.string x.nm) ∧ W.cell? ⟨w.heap.size, 5, none⟩ = some (.slice x.A x.ar.length x.c) ∧ w.heap.size < W.heap.size := by
  have hs := h.size
  rw [World.size_alloc] at hs
  have hc : ∀ q : Addr, q.block < w.heap.size + 1 → W.cell? q = _ := fun q hq => h.cell (by rw [World.size_alloc]; exact hq)
  refine ⟨?_, ?_, ?_, ?_, ?_, ?_, hs⟩
  all_goals (rw [hc _ (by simp)]; simp [go_sem])
theorem B2X {w W : World} (E : Rw va.En) (x : Xt) (h : Below ((w.alloc (.cells #[.slice E.A E.l.length E.c] 103)).alloc (.cells #[.int .i64 x.k, .int .i64 x.op, .int .i64 x.t, .int .i64 x.v, .string x.nm, .slice x.A x.ar.length x.c] 33)).heap.size ((w.alloc (.cells #[.slice E.A E.l.length E.c] 103)).alloc (.cells #[.int .i64 x.k, .int .i64 x.op, .int .i64 x.t, .int .i64 x.v, .string x.nm, .slice x.A x.ar.length x.c] 33)) W) :
    W.cell? ⟨w.heap.size, 0, none⟩ = some (.slice E.A E.l.length E.c) ∧ W.cell? ⟨w.heap.size + 1, 0, none⟩ = some (.int .i64 x.k) ∧ W.cell? ⟨w.heap.size + 1, 1, none⟩ = some (.int .i64 x.op) ∧ W.cell? ⟨w.heap.size + 1, 2, none⟩ = some (.int .i64 x.t) ∧ W.cell? ⟨w.heap.size + 1, 3, none⟩ = some (.int .i64 x.v) ∧ W.cell? ⟨w.heap.size + 1, 4, none⟩ = some (.string x.nm) ∧ W.cell? ⟨w.heap.size + 1, 5, none⟩ = some (.slice x.A x.ar.length x.c) ∧ w.heap.size + 1 < W.heap.size := by
  have hs := h.size
  rw [World.size_alloc, World.size_alloc] at hs
  have hc : ∀ q : Addr, q.block < w.heap.size + 2 → W.cell? q = _ := fun q hq => h.cell (by rw [World.size_alloc, World.size_alloc]; exact hq)
  refine ⟨?_, ?_, ?_, ?_, ?_, ?_, ?_, hs⟩
  all_goals (rw [hc _ (by simp)]; simp [go_sem])
theorem B2Q {w W : World} (E : Rw va.En) (q : Qt) (h : Below ((w.alloc (.cells #[.slice E.A E.l.length E.c] 103)).alloc (.cells #[.slice q.lf.A q.lf.l.length q.lf.c, .int .i64 q.r.k, .int .i64 q.r.op, .int .i64 q.r.t, .int .i64 q.r.v, .string q.r.nm, .slice q.r.A q.r.ar.length q.r.c] 54)).heap.size ((w.alloc (.cells #[.slice E.A E.l.length E.c] 103)).alloc (.cells #[.slice q.lf.A q.lf.l.length q.lf.c, .int .i64 q.r.k, .int .i64 q.r.op, .int .i64 q.r.t, .int .i64 q.r.v, .string q.r.nm, .slice q.r.A q.r.ar.length q.r.c] 54)) W) :
    W.cell? ⟨w.heap.size, 0, none⟩ = some (.slice E.A E.l.length E.c) ∧ W.cell? ⟨w.heap.size + 1, 0, none⟩ = some (.slice q.lf.A q.lf.l.length q.lf.c) ∧ W.cell? ⟨w.heap.size + 1, 1, none⟩ = some (.int .i64 q.r.k) ∧ W.cell? ⟨w.heap.size + 1, 2, none⟩ = some (.int .i64 q.r.op) ∧ W.cell? ⟨w.heap.size + 1, 3, none⟩ = some (.int .i64 q.r.t) ∧ W.cell? ⟨w.heap.size + 1, 4, none⟩ = some (.int .i64 q.r.v) ∧ W.cell? ⟨w.heap.size + 1, 5, none⟩ = some (.string q.r.nm) ∧ W.cell? ⟨w.heap.size + 1, 6, none⟩ = some (.slice q.r.A q.r.ar.length q.r.c) ∧ w.heap.size + 1 < W.heap.size := by
  have hs := h.size
  rw [World.size_alloc, World.size_alloc] at hs
  have hc : ∀ q : Addr, q.block < w.heap.size + 2 → W.cell? q = _ := fun q hq => h.cell (by rw [World.size_alloc, World.size_alloc]; exact hq)
  refine ⟨?_, ?_, ?_, ?_, ?_, ?_, ?_, ?_, hs⟩
  all_goals (rw [hc _ (by simp)]; simp [go_sem])
theorem B1T {w W : World} (t : Tt) (h : Below (w.alloc (.cells #[.int .i64 t.cd.k, .int .i64 t.cd.op, .int .i64 t.cd.t, .int .i64 t.cd.v, .string t.cd.nm, .slice t.cd.A t.cd.ar.length t.cd.c, .int .i64 t.to, .bool t.re] 160)).heap.size (w.alloc (.cells #[.int .i64 t.cd.k, .int .i64 t.cd.op, .int .i64 t.cd.t, .int .i64 t.cd.v, .string t.cd.nm, .slice t.cd.A t.cd.ar.length t.cd.c, .int .i64 t.to, .bool t.re] 160)) W) :
    W.cell? ⟨w.heap.size, 0, none⟩ = some (.int .i64 t.cd.k) ∧ W.cell? ⟨w.heap.size, 1, none⟩ = some (.int .i64 t.cd.op) ∧ W.cell? ⟨w.heap.size, 2, none⟩ = some (.int .i64 t.cd.t) ∧ W.cell? ⟨w.heap.size, 3, none⟩ = some (.int .i64 t.cd.v) ∧ W.cell? ⟨w.heap.size, 4, none⟩ = some (.string t.cd.nm) ∧ W.cell? ⟨w.heap.size, 5, none⟩ = some (.slice t.cd.A t.cd.ar.length t.cd.c) ∧ W.cell? ⟨w.heap.size, 6, none⟩ = some (.int .i64 t.to) ∧ W.cell? ⟨w.heap.size, 7, none⟩ = some (.bool t.re) ∧ w.heap.size < W.heap.size := by
  have hs := h.size
  rw [World.size_alloc] at hs
  have hc : ∀ q : Addr, q.block < w.heap.size + 1 → W.cell? q = _ := fun q hq => h.cell (by rw [World.size_alloc]; exact hq)
  refine ⟨?_, ?_, ?_, ?_, ?_, ?_, ?_, ?_, hs⟩
  all_goals (rw [hc _ (by simp)]; simp [go_sem])
theorem B1S {w W : World} (s : St) (h : Below (w.alloc (.cells #[.string s.nm, .slice s.lc.A s.lc.l.length s.lc.c, .slice s.qs.A s.qs.l.length s.qs.c, .slice s.au.A s.au.l.length s.au.c, .slice s.un.A s.un.l.length s.un.c, .slice s.ut.A s.ut.l.length s.ut.c] 95)).heap.size (w.alloc (.cells #[.string s.nm, .slice s.lc.A s.lc.l.length s.lc.c, .slice s.qs.A s.qs.l.length s.qs.c, .slice s.au.A s.au.l.length s.au.c, .slice s.un.A s.un.l.length s.un.c, .slice s.ut.A s.ut.l.length s.ut.c] 95)) W) :
    W.cell? ⟨w.heap.size, 0, none⟩ = some (.string s.nm) ∧ W.cell? ⟨w.heap.size, 1, none⟩ = some (.slice s.lc.A s.lc.l.length s.lc.c) ∧ W.cell? ⟨w.heap.size, 2, none⟩ = some (.slice s.qs.A s.qs.l.length s.qs.c) ∧ W.cell? ⟨w.heap.size, 3, none⟩ = some (.slice s.au.A s.au.l.length s.au.c) ∧ W.cell? ⟨w.heap.size, 4, none⟩ = some (.slice s.un.A s.un.l.length s.un.c) ∧ W.cell? ⟨w.heap.size, 5, none⟩ = some (.slice s.ut.A s.ut.l.length s.ut.c) ∧ w.heap.size < W.heap.size := by
  have hs := h.size
  rw [World.size_alloc] at hs
  have hc : ∀ q : Addr, q.block < w.heap.size + 1 → W.cell? q = _ := fun q hq => h.cell (by rw [World.size_alloc]; exact hq)
  refine ⟨?_, ?_, ?_, ?_, ?_, ?_, hs⟩
  all_goals (rw [hc _ (by simp)]; simp [go_sem])
theorem B1A {w W : World} (a : Rw St) (h : Below (w.alloc (.cells #[.slice a.A a.l.length a.c] 92)).heap.size (w.alloc (.cells #[.slice a.A a.l.length a.c] 92)) W) :
    W.cell? ⟨w.heap.size, 0, none⟩ = some (.slice a.A a.l.length a.c) ∧ w.heap.size < W.heap.size := by
  have hs := h.size
  rw [World.size_alloc] at hs
  have hc : ∀ q : Addr, q.block < w.heap.size + 1 → W.cell? q = _ := fun q hq => h.cell (by rw [World.size_alloc]; exact hq)
  refine ⟨?_, hs⟩
  all_goals (rw [hc _ (by simp)]; simp [go_sem])
theorem B2N {w W : World} (E : Rw va.En) (n : Nt) (h : Below ((w.alloc (.cells #[.slice E.A E.l.length E.c] 103)).alloc (.cells #[.string n.nm, .slice n.ins.A n.ins.l.length n.ins.c, .slice n.outs.A n.outs.l.length n.outs.c, .slice n.locs.A n.locs.l.length n.locs.c, .slice n.qs.A n.qs.l.length n.qs.c, .slice n.au.A n.au.l.length n.au.c, .slice n.asm.A n.asm.l.length n.asm.c, .slice n.ens.A n.ens.l.length n.ens.c] 45)).heap.size ((w.alloc (.cells #[.slice E.A E.l.length E.c] 103)).alloc (.cells #[.string n.nm, .slice n.ins.A n.ins.l.length n.ins.c, .slice n.outs.A n.outs.l.length n.outs.c, .slice n.locs.A n.locs.l.length n.locs.c, .slice n.qs.A n.qs.l.length n.qs.c, .slice n.au.A n.au.l.length n.au.c, .slice n.asm.A n.asm.l.length n.asm.c, .slice n.ens.A n.ens.l.length n.ens.c] 45)) W) :
    W.cell? ⟨w.heap.size, 0, none⟩ = some (.slice E.A E.l.length E.c) ∧ W.cell? ⟨w.heap.size + 1, 0, none⟩ = some (.string n.nm) ∧ W.cell? ⟨w.heap.size + 1, 1, none⟩ = some (.slice n.ins.A n.ins.l.length n.ins.c) ∧ W.cell? ⟨w.heap.size + 1, 2, none⟩ = some (.slice n.outs.A n.outs.l.length n.outs.c) ∧ W.cell? ⟨w.heap.size + 1, 3, none⟩ = some (.slice n.locs.A n.locs.l.length n.locs.c) ∧ W.cell? ⟨w.heap.size + 1, 4, none⟩ = some (.slice n.qs.A n.qs.l.length n.qs.c) ∧ W.cell? ⟨w.heap.size + 1, 5, none⟩ = some (.slice n.au.A n.au.l.length n.au.c) ∧ W.cell? ⟨w.heap.size + 1, 6, none⟩ = some (.slice n.asm.A n.asm.l.length n.asm.c) ∧ W.cell? ⟨w.heap.size + 1, 7, none⟩ = some (.slice n.ens.A n.ens.l.length n.ens.c) ∧ w.heap.size + 1 < W.heap.size := by
  have hs := h.size
  rw [World.size_alloc, World.size_alloc] at hs
  have hc : ∀ q : Addr, q.block < w.heap.size + 2 → W.cell? q = _ := fun q hq => h.cell (by rw [World.size_alloc, World.size_alloc]; exact hq)
  refine ⟨?_, ?_, ?_, ?_, ?_, ?_, ?_, ?_, ?_, hs⟩
  all_goals (rw [hc _ (by simp)]; simp [go_sem])
theorem B1E {w W : World} (e : va.En) (h : Below (w.alloc (.cells #[.string e.name, .slice e.A e.tags.length e.c] 73)).heap.size (w.alloc (.cells #[.string e.name, .slice e.A e.tags.length e.c] 73)) W) :
    W.cell? ⟨w.heap.size, 0, none⟩ = some (.string e.name) ∧ W.cell? ⟨w.heap.size, 1, none⟩ = some (.slice e.A e.tags.length e.c) ∧ w.heap.size < W.heap.size := by
  have hs := h.size
  rw [World.size_alloc] at hs
  have hc : ∀ q : Addr, q.block < w.heap.size + 1 → W.cell? q = _ := fun q hq => h.cell (by rw [World.size_alloc]; exact hq)
  refine ⟨?_, ?_, hs⟩
  all_goals (rw [hc _ (by simp)]; simp [go_sem])
theorem B1K {w W : World} (E : Rw va.En) (h : Below (w.alloc (.cells #[.slice E.A E.l.length E.c] 103)).heap.size (w.alloc (.cells #[.slice E.A E.l.length E.c] 103)) W) :
    W.cell? ⟨w.heap.size, 0, none⟩ = some (.slice E.A E.l.length E.c) ∧ w.heap.size < W.heap.size := by
  have hs := h.size
  rw [World.size_alloc] at hs
  have hc : ∀ q : Addr, q.block < w.heap.size + 1 → W.cell? q = _ := fun q hq => h.cell (by rw [World.size_alloc]; exact hq)
  refine ⟨?_, hs⟩
  all_goals (rw [hc _ (by simp)]; simp [go_sem])
end Go.Proofs.YtoimjcfdiljkjaaGreatDoor
/- symbol, val, list, line of the reference. -/
namespace Go.Proofs.YtoimjcfdiljkjaaGreatDoor
set_option linter.unusedVariables false
set_option linter.unusedSimpArgs false
open Go.RowKit Go.Sort
set_option maxHeartbeats 2000000 in
set_option maxRecDepth 20000 in
theorem vr_symbol (op : Int) (w : World) : Calls Tryz.prog 115 #[.int .i64 op] w (Bel (.string (tB (symS op))) w) := by
  by_cases p3 : op = 3
  · subst p3
    go_enter Tryz.func115, Tryz.ntmps115
    go_wp2
    go_ret
    exact ⟨rfl, (by repeat (first | (with_reducible exact Below.refl _ _) | (with_reducible assumption) | (with_reducible exact bel_box _) | (with_reducible refine bel_step ?_ (by with_reducible assumption)) | (with_reducible refine Below.drew ?_) | (with_reducible refine below_drewN ?_ _) | (with_reducible refine bel_alloc ?_ _)))⟩
  by_cases p4 : op = 4
  · subst p4
    go_enter Tryz.func115, Tryz.ntmps115
    go_wp2
    go_ret
    exact ⟨rfl, (by repeat (first | (with_reducible exact Below.refl _ _) | (with_reducible assumption) | (with_reducible exact bel_box _) | (with_reducible refine bel_step ?_ (by with_reducible assumption)) | (with_reducible refine Below.drew ?_) | (with_reducible refine below_drewN ?_ _) | (with_reducible refine bel_alloc ?_ _)))⟩
  by_cases p5 : op = 5
  · subst p5
    go_enter Tryz.func115, Tryz.ntmps115
    go_wp2
    go_ret
    exact ⟨rfl, (by repeat (first | (with_reducible exact Below.refl _ _) | (with_reducible assumption) | (with_reducible exact bel_box _) | (with_reducible refine bel_step ?_ (by with_reducible assumption)) | (with_reducible refine Below.drew ?_) | (with_reducible refine below_drewN ?_ _) | (with_reducible refine bel_alloc ?_ _)))⟩
  by_cases p6 : op = 6
  · subst p6
    go_enter Tryz.func115, Tryz.ntmps115
    go_wp2
    go_ret
    exact ⟨rfl, (by repeat (first | (with_reducible exact Below.refl _ _) | (with_reducible assumption) | (with_reducible exact bel_box _) | (with_reducible refine bel_step ?_ (by with_reducible assumption)) | (with_reducible refine Below.drew ?_) | (with_reducible refine below_drewN ?_ _) | (with_reducible refine bel_alloc ?_ _)))⟩
  by_cases p7 : op = 7
  · subst p7
    go_enter Tryz.func115, Tryz.ntmps115
    go_wp2
    go_ret
    exact ⟨rfl, (by repeat (first | (with_reducible exact Below.refl _ _) | (with_reducible assumption) | (with_reducible exact bel_box _) | (with_reducible refine bel_step ?_ (by with_reducible assumption)) | (with_reducible refine Below.drew ?_) | (with_reducible refine below_drewN ?_ _) | (with_reducible refine bel_alloc ?_ _)))⟩
  by_cases p8 : op = 8
  · subst p8
    go_enter Tryz.func115, Tryz.ntmps115
    go_wp2
    go_ret
    exact ⟨rfl, (by repeat (first | (with_reducible exact Below.refl _ _) | (with_reducible assumption) | (with_reducible exact bel_box _) | (with_reducible refine bel_step ?_ (by with_reducible assumption)) | (with_reducible refine Below.drew ?_) | (with_reducible refine below_drewN ?_ _) | (with_reducible refine bel_alloc ?_ _)))⟩
  by_cases p9 : op = 9
  · subst p9
    go_enter Tryz.func115, Tryz.ntmps115
    go_wp2
    go_ret
    exact ⟨rfl, (by repeat (first | (with_reducible exact Below.refl _ _) | (with_reducible assumption) | (with_reducible exact bel_box _) | (with_reducible refine bel_step ?_ (by with_reducible assumption)) | (with_reducible refine Below.drew ?_) | (with_reducible refine below_drewN ?_ _) | (with_reducible refine bel_alloc ?_ _)))⟩
  by_cases p10 : op = 10
  · subst p10
    go_enter Tryz.func115, Tryz.ntmps115
    go_wp2
    go_ret
    exact ⟨rfl, (by repeat (first | (with_reducible exact Below.refl _ _) | (with_reducible assumption) | (with_reducible exact bel_box _) | (with_reducible refine bel_step ?_ (by with_reducible assumption)) | (with_reducible refine Below.drew ?_) | (with_reducible refine below_drewN ?_ _) | (with_reducible refine bel_alloc ?_ _)))⟩
  by_cases p11 : op = 11
  · subst p11
    go_enter Tryz.func115, Tryz.ntmps115
    go_wp2
    go_ret
    exact ⟨rfl, (by repeat (first | (with_reducible exact Below.refl _ _) | (with_reducible assumption) | (with_reducible exact bel_box _) | (with_reducible refine bel_step ?_ (by with_reducible assumption)) | (with_reducible refine Below.drew ?_) | (with_reducible refine below_drewN ?_ _) | (with_reducible refine bel_alloc ?_ _)))⟩
  by_cases p12 : op = 12
  · subst p12
    go_enter Tryz.func115, Tryz.ntmps115
    go_wp2
    go_ret
    exact ⟨rfl, (by repeat (first | (with_reducible exact Below.refl _ _) | (with_reducible assumption) | (with_reducible exact bel_box _) | (with_reducible refine bel_step ?_ (by with_reducible assumption)) | (with_reducible refine Below.drew ?_) | (with_reducible refine below_drewN ?_ _) | (with_reducible refine bel_alloc ?_ _)))⟩
  by_cases p13 : op = 13
  · subst p13
    go_enter Tryz.func115, Tryz.ntmps115
    go_wp2
    go_ret
    exact ⟨rfl, (by repeat (first | (with_reducible exact Below.refl _ _) | (with_reducible assumption) | (with_reducible exact bel_box _) | (with_reducible refine bel_step ?_ (by with_reducible assumption)) | (with_reducible refine Below.drew ?_) | (with_reducible refine below_drewN ?_ _) | (with_reducible refine bel_alloc ?_ _)))⟩
  by_cases p14 : op = 14
  · subst p14
    go_enter Tryz.func115, Tryz.ntmps115
    go_wp2
    go_ret
    exact ⟨rfl, (by repeat (first | (with_reducible exact Below.refl _ _) | (with_reducible assumption) | (with_reducible exact bel_box _) | (with_reducible refine bel_step ?_ (by with_reducible assumption)) | (with_reducible refine Below.drew ?_) | (with_reducible refine below_drewN ?_ _) | (with_reducible refine bel_alloc ?_ _)))⟩
  by_cases p15 : op = 15
  · subst p15
    go_enter Tryz.func115, Tryz.ntmps115
    go_wp2
    go_ret
    exact ⟨rfl, (by repeat (first | (with_reducible exact Below.refl _ _) | (with_reducible assumption) | (with_reducible exact bel_box _) | (with_reducible refine bel_step ?_ (by with_reducible assumption)) | (with_reducible refine Below.drew ?_) | (with_reducible refine below_drewN ?_ _) | (with_reducible refine bel_alloc ?_ _)))⟩
  have hsy : symS op = [62, 61] := by unfold symS; rw [if_neg p3, if_neg p4, if_neg p5, if_neg p6, if_neg p7, if_neg p8, if_neg p9, if_neg p10, if_neg p11, if_neg p12, if_neg p13, if_neg p14, if_neg p15]
  rw [hsy]
  have q3 : (op == 3) = false := by simp [p3]
  have q4 : (op == 4) = false := by simp [p4]
  have q5 : (op == 5) = false := by simp [p5]
  have q6 : (op == 6) = false := by simp [p6]
  have q7 : (op == 7) = false := by simp [p7]
  have q8 : (op == 8) = false := by simp [p8]
  have q9 : (op == 9) = false := by simp [p9]
  have q10 : (op == 10) = false := by simp [p10]
  have q11 : (op == 11) = false := by simp [p11]
  have q12 : (op == 12) = false := by simp [p12]
  have q13 : (op == 13) = false := by simp [p13]
  have q14 : (op == 14) = false := by simp [p14]
  have q15 : (op == 15) = false := by simp [p15]
  clear p3 p4 p5 p6 p7 p8 p9 p10 p11 p12 p13 p14 p15 hsy
  go_enter Tryz.func115, Tryz.ntmps115
  go_wp2
  go_ret
  exact ⟨rfl, (by repeat (first | (with_reducible exact Below.refl _ _) | (with_reducible assumption) | (with_reducible exact bel_box _) | (with_reducible refine bel_step ?_ (by with_reducible assumption)) | (with_reducible refine Below.drew ?_) | (with_reducible refine below_drewN ?_ _) | (with_reducible refine bel_alloc ?_ _)))⟩
set_option maxHeartbeats 2000000 in
set_option maxRecDepth 20000 in
theorem vr_val (E : Rw va.En) (t v : Int) (w : World) (hE : RsE w w.heap.size E) (ht : t ≤ 9223372036854775807) : Calls Tryz.prog 72 #[.slice E.A E.l.length E.c, .int .i64 t, .int .i64 v] w (Bel (.string (tB (valS E.l t v))) w) := by
  have KT : Hid (∀ W, Below w.heap.size w W → Calls Tryz.prog 114 #[.slice E.A E.l.length E.c, .int .i64 t, .int .i64 v] W (Bel (.tuple #[.string (tB (valS E.l t v)), .int .i64 (va.textE E.l t v)]) W)) := Lib.hid fun W h => by
    have hE' := hE.blw h h.size
    have hl := hE'.2.1.1
    unfold maxLen at hl
    have := va.rtext_any E.A E.c E.l t v W hE'.1 (by omega) ht
    unfold valS
    rwa [tB_bsT]
  generalize valS E.l t v = s at *
  generalize va.textE E.l t v = r at *
  clear hE ht
  go_enter Tryz.func72, Tryz.ntmps72
  go_wp2_with (go_at_call 114; (with_reducible refine (KT.out _ ?_).mono ?_); (focus ((repeat (first | (with_reducible exact Below.refl _ _) | (with_reducible assumption) | (with_reducible exact bel_box _) | (with_reducible refine bel_step ?_ (by with_reducible assumption)) | (with_reducible refine Below.drew ?_) | (with_reducible refine below_drewN ?_ _) | (with_reducible refine bel_alloc ?_ _))); done)); rintro e w1 ⟨rfl, hb1⟩)
  go_ret
  exact ⟨rfl, (by repeat (first | (with_reducible exact Below.refl _ _) | (with_reducible assumption) | (with_reducible exact bel_box _) | (with_reducible refine bel_step ?_ (by with_reducible assumption)) | (with_reducible refine Below.drew ?_) | (with_reducible refine below_drewN ?_ _) | (with_reducible refine bel_alloc ?_ _)))⟩
theorem join_take {ts : List (List UInt8)} {sep : List UInt8} {k : Nat} {x : List UInt8} (h : ts[k]? = some x) : Lib.join (ts.take (k + 1)) sep = (if 0 < k then Lib.join (ts.take k) sep ++ sep else Lib.join (ts.take k) sep) ++ x := by
  cases ts with
  | nil => simp at h
  | cons a r =>
    cases k with
    | zero =>
      simp only [List.getElem?_cons_zero, Option.some.injEq] at h
      subst h
      simp [Lib.join_one, Lib.join_nil]
    | succ k =>
      rw [if_pos (by omega), List.take_succ_cons, List.take_succ_cons, Lib.join_cons, Lib.join_cons, Lib.joinTail_take_succ _ _ k x (by simpa using h)]
      simp [List.append_assoc]
theorem join_take_le (ts : List (List UInt8)) (sep : List UInt8) (k : Nat) : (Lib.join (ts.take k) sep).length ≤ (Lib.join ts sep).length := by
  cases ts with
  | nil => simp
  | cons a r =>
    cases k with
    | zero => simp [Lib.join_nil]
    | succ k =>
      rw [List.take_succ_cons, Lib.join_cons, Lib.join_cons, List.length_append, List.length_append]
      have := Lib.joinTail_take_le sep r k
      omega
set_option maxHeartbeats 2000000 in
set_option maxRecDepth 20000 in
theorem vr_list (r : Rw ByteArray) (sep : ByteArray) (w : World) (hR : RdR w w.heap.size 1 BC r) (h : (Lib.join (r.l.map bsT) (bsT sep)).length ≤ 140737488355328) :
    Calls Tryz.prog 29 #[.slice r.A r.l.length r.c, .string sep] w (Bel (.string (tB (Lib.join (r.l.map bsT) (bsT sep)))) w) := by
  have HR := Lib.hid hR
  have h9 := hR.len
  unfold maxLen at h9
  have HJ : Hid (∀ k y, r.l[k]? = some y → Lib.join ((r.l.map bsT).take (k + 1)) (bsT sep) = (if 0 < k then Lib.join ((r.l.map bsT).take k) (bsT sep) ++ bsT sep else Lib.join ((r.l.map bsT).take k) (bsT sep)) ++ bsT y ∧ (Lib.join ((r.l.map bsT).take (k + 1)) (bsT sep)).length ≤ 140737488355328) := Lib.hid fun k y hy =>
    ⟨join_take (by rw [List.getElem?_map, hy]; rfl), Nat.le_trans (join_take_le _ _ _) h⟩
  obtain ⟨F, hF⟩ : ∃ F : Nat → List UInt8, F = fun k => Lib.join ((r.l.map bsT).take k) (bsT sep) := ⟨_, rfl⟩
  have hF0 : F 0 = [] := by rw [hF]; simp [Lib.join_nil]
  have hFl : F r.l.length = Lib.join (r.l.map bsT) (bsT sep) := by rw [hF]; simp only; rw [List.take_of_length_le (by simp)]
  have HF : Hid (∀ k y, r.l[k]? = some y → F (k + 1) = (if 0 < k then F k ++ bsT sep else F k) ++ bsT y ∧ (F (k + 1)).length ≤ 140737488355328) := Lib.hid (by rw [hF]; exact HJ.out)
  rw [← hFl]
  have HF0 := Lib.hid hF0
  clear hR HJ hF hFl hF0 h
  go_enter Tryz.func29, Tryz.ntmps29
  go_wp2
  go_loopw [5, 6] (fun s i wr => ∃ k : Nat, k ≤ r.l.length ∧ i = .int .i64 (k : Int) ∧ s = .string (tB (F k)) ∧ Below w.heap.size w wr) (fun _ i _ => r.l.length - (intOf i).toNat)
  case atStart => exact ⟨0, by omega, rfl, by rw [HF0.out]; rfl, (by repeat (first | (with_reducible exact Below.refl _ _) | (with_reducible assumption) | (with_reducible exact bel_box _) | (with_reducible refine bel_step ?_ (by with_reducible assumption)) | (with_reducible refine Below.drew ?_) | (with_reducible refine below_drewN ?_ _) | (with_reducible refine bel_alloc ?_ _)))⟩
  case round =>
    obtain ⟨k, hk, rfl, rfl, hbl⟩ := hrel
    by_cases hlt : k < r.l.length
    · obtain ⟨ad, y, hA, had, hy, hm, c0⟩ := (HR.out.blw oneB_B hbl hbl.size).at_ hlt
      unfold BC at c0
      rw [Nat.mul_one] at c0
      rw [hA]
      clear hA
      obtain ⟨hj, hle⟩ := HF.out k y hy
      clear hy hm HF
      obtain ⟨s1, hs1⟩ : ∃ q, F (k + 1) = q := ⟨_, rfl⟩
      have HS1 := Lib.hid hs1
      rw [hs1] at hj hle
      clear hs1
      obtain ⟨s0, hs0⟩ : ∃ q, F k = q := ⟨_, rfl⟩
      rw [hs0] at hj ⊢
      clear hs0
      by_cases h0 : 0 < k
      · have g0 : (0 : Int) < (k : Int) := by omega
        rw [if_pos h0] at hj
        rw [hj] at hle
        obtain ⟨z1, hz1⟩ : ∃ q, (s0) ++ (bsT sep) = q := ⟨_, rfl⟩
        have lz1 := congrArg List.length hz1
        rw [List.length_append] at lz1
        obtain ⟨z2, hz2⟩ : ∃ q, (z1) ++ (bsT y) = q := ⟨_, rfl⟩
        have lz2 := congrArg List.length hz2
        rw [List.length_append] at lz2
        have heq : z2 = s0 ++ bsT sep ++ bsT y := by
          subst hz1 hz2
          rfl
        have hll : z2.length ≤ 140737488355328 := by rw [heq]; exact hle
        have kaz1 := fun w => add_tB (P := Tryz.prog) w (A := tB s0) (B := sep) rfl (tB_bsT _).symm hz1 (by (try simp only [List.length_cons, List.length_nil] at *); omega)
        have kaz2 := fun w => add_tB (P := Tryz.prog) w (A := tB z1) (B := y) rfl (tB_bsT _).symm hz2 (by (try simp only [List.length_cons, List.length_nil] at *); omega)
        have HZ := Lib.hid heq
        clear heq hll hz1 hz2 lz1 lz2
        have HN : Hid (F (k + 1) = z2) := Lib.hid (HS1.out.trans (hj.trans HZ.out.symm))
        clear hj hle HZ HS1
        go_wp2
        exact ⟨⟨k + 1, by omega, by congr 1, by rw [HN.out], (by repeat (first | (with_reducible exact Below.refl _ _) | (with_reducible assumption) | (with_reducible exact bel_box _) | (with_reducible refine bel_step ?_ (by with_reducible assumption)) | (with_reducible refine Below.drew ?_) | (with_reducible refine below_drewN ?_ _) | (with_reducible refine bel_alloc ?_ _)))⟩, by simp [intOf]; omega⟩
      · have g0 : (k : Int) ≤ (0 : Int) := by omega
        rw [if_neg h0] at hj
        rw [hj] at hle
        obtain ⟨z2, hz2⟩ : ∃ q, (s0) ++ (bsT y) = q := ⟨_, rfl⟩
        have lz2 := congrArg List.length hz2
        rw [List.length_append] at lz2
        have heq : z2 = s0 ++ bsT y := by
          subst hz2
          rfl
        have hll : z2.length ≤ 140737488355328 := by rw [heq]; exact hle
        have kaz2 := fun w => add_tB (P := Tryz.prog) w (A := tB s0) (B := y) rfl (tB_bsT _).symm hz2 (by (try simp only [List.length_cons, List.length_nil] at *); omega)
        have HZ := Lib.hid heq
        clear heq hll hz2 lz2
        have HN : Hid (F (k + 1) = z2) := Lib.hid (HS1.out.trans (hj.trans HZ.out.symm))
        clear hj hle HZ HS1
        go_wp2
        exact ⟨⟨k + 1, by omega, by congr 1, by rw [HN.out], (by repeat (first | (with_reducible exact Below.refl _ _) | (with_reducible assumption) | (with_reducible exact bel_box _) | (with_reducible refine bel_step ?_ (by with_reducible assumption)) | (with_reducible refine Below.drew ?_) | (with_reducible refine below_drewN ?_ _) | (with_reducible refine bel_alloc ?_ _)))⟩, by simp [intOf]; omega⟩
    · obtain rfl : k = r.l.length := by omega
      go_wp2
      go_ret
      exact ⟨rfl, (by repeat (first | (with_reducible exact Below.refl _ _) | (with_reducible assumption) | (with_reducible exact bel_box _) | (with_reducible refine bel_step ?_ (by with_reducible assumption)) | (with_reducible refine Below.drew ?_) | (with_reducible refine below_drewN ?_ _) | (with_reducible refine bel_alloc ?_ _)))⟩
end Go.Proofs.YtoimjcfdiljkjaaGreatDoor
/- operand, operation of the reference, given what text does. -/
namespace Go.Proofs.YtoimjcfdiljkjaaGreatDoor
set_option linter.unusedVariables false
set_option linter.unusedSimpArgs false
open Go.RowKit Go.Sort
set_option maxHeartbeats 2000000 in
set_option maxRecDepth 20000 in
theorem vr_operand (E : Rw va.En) (x : Xt) (s : List UInt8) (w : World) (h : (opdS x s).length ≤ 140737488355328)
    (KE : Hid (∀ W, Below w.heap.size w W → Calls Tryz.prog 38 #[.slice E.A E.l.length E.c, xV x] W (Bel (.string (tB s)) W))) :
    Calls Tryz.prog 74 #[.slice E.A E.l.length E.c, xV x] w (Bel (.string (tB (opdS x s))) w) := by
  unfold opdS at h ⊢
  simp only [xV] at KE ⊢
  by_cases k2 : x.k = 2
  · have hb : bareB x = true := by simp [bareB, k2]
    rw [if_pos hb]
    have q0 : (x.k == 2) = true := by simp [k2]
    clear k2 hb h
    go_enter Tryz.func74, Tryz.ntmps74
    go_wp2_with (first | (go_at_call 38; (with_reducible refine (KE.out _ ?_).mono ?_); (focus ((repeat (first | (with_reducible exact Below.refl _ _) | (with_reducible assumption) | (with_reducible exact bel_box _) | (with_reducible refine bel_step ?_ (by with_reducible assumption)) | (with_reducible refine Below.drew ?_) | (with_reducible refine below_drewN ?_ _) | (with_reducible refine bel_alloc ?_ _))); done)); rintro e w1 ⟨rfl, hb1⟩; obtain ⟨g0, g1, g2, g3, g4, g5, _⟩ := B1X x (w := w) (W := w1) (by repeat (first | (with_reducible exact Below.refl _ _) | (with_reducible assumption) | (with_reducible exact bel_box _) | (with_reducible refine bel_step ?_ (by with_reducible assumption)) | (with_reducible refine Below.drew ?_) | (with_reducible refine below_drewN ?_ _) | (with_reducible refine bel_alloc ?_ _)))))
    go_ret
    exact ⟨rfl, (by repeat (first | (with_reducible exact Below.refl _ _) | (with_reducible assumption) | (with_reducible exact bel_box _) | (with_reducible refine bel_step ?_ (by with_reducible assumption)) | (with_reducible refine Below.drew ?_) | (with_reducible refine below_drewN ?_ _) | (with_reducible refine bel_alloc ?_ _)))⟩
  by_cases k11 : x.k = 11
  · have hb : bareB x = true := by simp [bareB, k11]
    rw [if_pos hb]
    have q0 : (x.k == 2) = false := by simp [k11]
    have q1 : (x.k == 11) = true := by simp [k11]
    clear k2 k11 hb h
    go_enter Tryz.func74, Tryz.ntmps74
    go_wp2_with (first | (go_at_call 38; (with_reducible refine (KE.out _ ?_).mono ?_); (focus ((repeat (first | (with_reducible exact Below.refl _ _) | (with_reducible assumption) | (with_reducible exact bel_box _) | (with_reducible refine bel_step ?_ (by with_reducible assumption)) | (with_reducible refine Below.drew ?_) | (with_reducible refine below_drewN ?_ _) | (with_reducible refine bel_alloc ?_ _))); done)); rintro e w1 ⟨rfl, hb1⟩; obtain ⟨g0, g1, g2, g3, g4, g5, _⟩ := B1X x (w := w) (W := w1) (by repeat (first | (with_reducible exact Below.refl _ _) | (with_reducible assumption) | (with_reducible exact bel_box _) | (with_reducible refine bel_step ?_ (by with_reducible assumption)) | (with_reducible refine Below.drew ?_) | (with_reducible refine below_drewN ?_ _) | (with_reducible refine bel_alloc ?_ _)))))
    go_ret
    exact ⟨rfl, (by repeat (first | (with_reducible exact Below.refl _ _) | (with_reducible assumption) | (with_reducible exact bel_box _) | (with_reducible refine bel_step ?_ (by with_reducible assumption)) | (with_reducible refine Below.drew ?_) | (with_reducible refine below_drewN ?_ _) | (with_reducible refine bel_alloc ?_ _)))⟩
  by_cases k10 : x.k = 10
  · have hb : bareB x = true := by simp [bareB, k10]
    rw [if_pos hb]
    have q0 : (x.k == 2) = false := by simp [k10]
    have q1 : (x.k == 11) = false := by simp [k10]
    have q2 : (x.k == 10) = true := by simp [k10]
    clear k2 k11 k10 hb h
    go_enter Tryz.func74, Tryz.ntmps74
    go_wp2_with (first | (go_at_call 38; (with_reducible refine (KE.out _ ?_).mono ?_); (focus ((repeat (first | (with_reducible exact Below.refl _ _) | (with_reducible assumption) | (with_reducible exact bel_box _) | (with_reducible refine bel_step ?_ (by with_reducible assumption)) | (with_reducible refine Below.drew ?_) | (with_reducible refine below_drewN ?_ _) | (with_reducible refine bel_alloc ?_ _))); done)); rintro e w1 ⟨rfl, hb1⟩; obtain ⟨g0, g1, g2, g3, g4, g5, _⟩ := B1X x (w := w) (W := w1) (by repeat (first | (with_reducible exact Below.refl _ _) | (with_reducible assumption) | (with_reducible exact bel_box _) | (with_reducible refine bel_step ?_ (by with_reducible assumption)) | (with_reducible refine Below.drew ?_) | (with_reducible refine below_drewN ?_ _) | (with_reducible refine bel_alloc ?_ _)))))
    go_ret
    exact ⟨rfl, (by repeat (first | (with_reducible exact Below.refl _ _) | (with_reducible assumption) | (with_reducible exact bel_box _) | (with_reducible refine bel_step ?_ (by with_reducible assumption)) | (with_reducible refine Below.drew ?_) | (with_reducible refine below_drewN ?_ _) | (with_reducible refine bel_alloc ?_ _)))⟩
  have q0 : (x.k == 2) = false := by simp [k2]
  have q1 : (x.k == 11) = false := by simp [k11]
  have q2 : (x.k == 10) = false := by simp [k10]
  by_cases k1 : x.k = 1
  · have q3 : (x.k == 1) = true := by simp [k1]
    by_cases t2 : x.t = 2
    · have q4 : (x.t != 2) = false := by simp [t2]
      by_cases v0 : 0 ≤ x.v
      · have hb : bareB x = true := by simp [bareB, k1, v0]
        rw [if_pos hb]
        clear k1 k2 k11 k10 t2 hb h
        go_enter Tryz.func74, Tryz.ntmps74
        go_wp2_with (first | (go_at_call 38; (with_reducible refine (KE.out _ ?_).mono ?_); (focus ((repeat (first | (with_reducible exact Below.refl _ _) | (with_reducible assumption) | (with_reducible exact bel_box _) | (with_reducible refine bel_step ?_ (by with_reducible assumption)) | (with_reducible refine Below.drew ?_) | (with_reducible refine below_drewN ?_ _) | (with_reducible refine bel_alloc ?_ _))); done)); rintro e w1 ⟨rfl, hb1⟩; obtain ⟨g0, g1, g2, g3, g4, g5, _⟩ := B1X x (w := w) (W := w1) (by repeat (first | (with_reducible exact Below.refl _ _) | (with_reducible assumption) | (with_reducible exact bel_box _) | (with_reducible refine bel_step ?_ (by with_reducible assumption)) | (with_reducible refine Below.drew ?_) | (with_reducible refine below_drewN ?_ _) | (with_reducible refine bel_alloc ?_ _)))))
        go_ret
        exact ⟨rfl, (by repeat (first | (with_reducible exact Below.refl _ _) | (with_reducible assumption) | (with_reducible exact bel_box _) | (with_reducible refine bel_step ?_ (by with_reducible assumption)) | (with_reducible refine Below.drew ?_) | (with_reducible refine below_drewN ?_ _) | (with_reducible refine bel_alloc ?_ _)))⟩
      · have hb : bareB x = false := by simp [bareB, k1, t2]; omega
        have q5 : x.v < 0 := by omega
        rw [if_neg (by rw [hb]; decide)] at h ⊢
        obtain ⟨z1, hz1⟩ : ∃ q, ([40]) ++ (s) = q := ⟨_, rfl⟩
        have lz1 := congrArg List.length hz1
        rw [List.length_append] at lz1
        obtain ⟨z2, hz2⟩ : ∃ q, (z1) ++ ([41]) = q := ⟨_, rfl⟩
        have lz2 := congrArg List.length hz2
        rw [List.length_append] at lz2
        have heq : z2 = brS s := by
          subst hz1 hz2
          rfl
        have hll : z2.length ≤ 140737488355328 := by rw [heq]; exact h
        have kaz1 := fun w => add_tB (P := Tryz.prog) w (A := ⟨#[40]⟩) (B := tB s) rfl rfl hz1 (by (try simp only [List.length_cons, List.length_nil] at *); omega)
        have kaz2 := fun w => add_tB (P := Tryz.prog) w (A := tB z1) (B := ⟨#[41]⟩) rfl rfl hz2 (by (try simp only [List.length_cons, List.length_nil] at *); omega)
        have HZ := Lib.hid heq
        clear heq hll hz1 hz2 lz1 lz2
        rw [← HZ.out]
        clear HZ h
        clear k1 k2 k11 k10 t2 hb v0
        go_enter Tryz.func74, Tryz.ntmps74
        go_wp2_with (first | (go_at_call 38; (with_reducible refine (KE.out _ ?_).mono ?_); (focus ((repeat (first | (with_reducible exact Below.refl _ _) | (with_reducible assumption) | (with_reducible exact bel_box _) | (with_reducible refine bel_step ?_ (by with_reducible assumption)) | (with_reducible refine Below.drew ?_) | (with_reducible refine below_drewN ?_ _) | (with_reducible refine bel_alloc ?_ _))); done)); rintro e w1 ⟨rfl, hb1⟩; obtain ⟨g0, g1, g2, g3, g4, g5, _⟩ := B1X x (w := w) (W := w1) (by repeat (first | (with_reducible exact Below.refl _ _) | (with_reducible assumption) | (with_reducible exact bel_box _) | (with_reducible refine bel_step ?_ (by with_reducible assumption)) | (with_reducible refine Below.drew ?_) | (with_reducible refine below_drewN ?_ _) | (with_reducible refine bel_alloc ?_ _)))))
        go_ret
        exact ⟨rfl, (by repeat (first | (with_reducible exact Below.refl _ _) | (with_reducible assumption) | (with_reducible exact bel_box _) | (with_reducible refine bel_step ?_ (by with_reducible assumption)) | (with_reducible refine Below.drew ?_) | (with_reducible refine below_drewN ?_ _) | (with_reducible refine bel_alloc ?_ _)))⟩
    · have hb : bareB x = true := by simp [bareB, k1, t2]
      rw [if_pos hb]
      have q4 : (x.t != 2) = true := by simp [t2]
      clear k1 k2 k11 k10 t2 hb h
      go_enter Tryz.func74, Tryz.ntmps74
      go_wp2_with (first | (go_at_call 38; (with_reducible refine (KE.out _ ?_).mono ?_); (focus ((repeat (first | (with_reducible exact Below.refl _ _) | (with_reducible assumption) | (with_reducible exact bel_box _) | (with_reducible refine bel_step ?_ (by with_reducible assumption)) | (with_reducible refine Below.drew ?_) | (with_reducible refine below_drewN ?_ _) | (with_reducible refine bel_alloc ?_ _))); done)); rintro e w1 ⟨rfl, hb1⟩; obtain ⟨g0, g1, g2, g3, g4, g5, _⟩ := B1X x (w := w) (W := w1) (by repeat (first | (with_reducible exact Below.refl _ _) | (with_reducible assumption) | (with_reducible exact bel_box _) | (with_reducible refine bel_step ?_ (by with_reducible assumption)) | (with_reducible refine Below.drew ?_) | (with_reducible refine below_drewN ?_ _) | (with_reducible refine bel_alloc ?_ _)))))
      go_ret
      exact ⟨rfl, (by repeat (first | (with_reducible exact Below.refl _ _) | (with_reducible assumption) | (with_reducible exact bel_box _) | (with_reducible refine bel_step ?_ (by with_reducible assumption)) | (with_reducible refine Below.drew ?_) | (with_reducible refine below_drewN ?_ _) | (with_reducible refine bel_alloc ?_ _)))⟩
  · have hb : bareB x = false := by simp [bareB, k1, k2, k10, k11]
    have q3 : (x.k == 1) = false := by simp [k1]
    rw [if_neg (by rw [hb]; decide)] at h ⊢
    obtain ⟨z1, hz1⟩ : ∃ q, ([40]) ++ (s) = q := ⟨_, rfl⟩
    have lz1 := congrArg List.length hz1
    rw [List.length_append] at lz1
    obtain ⟨z2, hz2⟩ : ∃ q, (z1) ++ ([41]) = q := ⟨_, rfl⟩
    have lz2 := congrArg List.length hz2
    rw [List.length_append] at lz2
    have heq : z2 = brS s := by
      subst hz1 hz2
      rfl
    have hll : z2.length ≤ 140737488355328 := by rw [heq]; exact h
    have kaz1 := fun w => add_tB (P := Tryz.prog) w (A := ⟨#[40]⟩) (B := tB s) rfl rfl hz1 (by (try simp only [List.length_cons, List.length_nil] at *); omega)
    have kaz2 := fun w => add_tB (P := Tryz.prog) w (A := tB z1) (B := ⟨#[41]⟩) rfl rfl hz2 (by (try simp only [List.length_cons, List.length_nil] at *); omega)
    have HZ := Lib.hid heq
    clear heq hll hz1 hz2 lz1 lz2
    rw [← HZ.out]
    clear HZ h
    clear k1 k2 k11 k10 hb
    go_enter Tryz.func74, Tryz.ntmps74
    go_wp2_with (first | (go_at_call 38; (with_reducible refine (KE.out _ ?_).mono ?_); (focus ((repeat (first | (with_reducible exact Below.refl _ _) | (with_reducible assumption) | (with_reducible exact bel_box _) | (with_reducible refine bel_step ?_ (by with_reducible assumption)) | (with_reducible refine Below.drew ?_) | (with_reducible refine below_drewN ?_ _) | (with_reducible refine bel_alloc ?_ _))); done)); rintro e w1 ⟨rfl, hb1⟩; obtain ⟨g0, g1, g2, g3, g4, g5, _⟩ := B1X x (w := w) (W := w1) (by repeat (first | (with_reducible exact Below.refl _ _) | (with_reducible assumption) | (with_reducible exact bel_box _) | (with_reducible refine bel_step ?_ (by with_reducible assumption)) | (with_reducible refine Below.drew ?_) | (with_reducible refine below_drewN ?_ _) | (with_reducible refine bel_alloc ?_ _)))))
    go_ret
    exact ⟨rfl, (by repeat (first | (with_reducible exact Below.refl _ _) | (with_reducible assumption) | (with_reducible exact bel_box _) | (with_reducible refine bel_step ?_ (by with_reducible assumption)) | (with_reducible refine Below.drew ?_) | (with_reducible refine below_drewN ?_ _) | (with_reducible refine bel_alloc ?_ _)))⟩
set_option maxHeartbeats 2000000 in
set_option maxRecDepth 20000 in
theorem vr_operation (E : Rw va.En) (x : Xt) (f : Xt → List UInt8) (w : World) (hx : RdX w w.heap.size x) (hk : x.k = 3) (hw : wf1 x)
    (KX : Hid (∀ y ∈ x.ar, ∀ W, Below w.heap.size w W → Calls Tryz.prog 38 #[.slice E.A E.l.length E.c, xV y] W (Bel (.string (tB (f y))) W))) (h : (oprS x.op x.ar (x.ar.map f)).length ≤ 140737488355328) :
    Calls Tryz.prog 73 #[.slice E.A E.l.length E.c, xV x] w (Bel (.string (tB (oprS x.op x.ar (x.ar.map f)))) w) := by
  have hw3 := hw.1 hk
  clear hw hk
  by_cases p1 : x.op = 1
  · have hl : x.ar.length = 1 := by omega
    obtain ⟨a0, h0⟩ := one_of hl
    unfold oprS at h ⊢
    rw [if_pos p1, opI_at h0] at h ⊢
    have q0 : (x.op == 1) = true := by simp [p1]
    clear hw3 p1 hl
    have KO0 : Hid (∀ W, Below w.heap.size w W → Calls Tryz.prog 74 #[.slice E.A E.l.length E.c, xV a0] W (Bel (.string (tB (opdS a0 (f a0)))) W)) := Lib.hid fun W hb => vr_operand E a0 (f a0) W (by simp only [List.length_append] at h; omega) (Lib.hid fun W' hb' => KX.out a0 (List.mem_of_getElem? h0) W' (hb.trans (hb'.mono hb.size)))
    generalize opdS a0 (f a0) = o0 at *
    obtain ⟨z1, hz1⟩ : ∃ q, ([110, 111, 116, 32]) ++ (o0) = q := ⟨_, rfl⟩
    have lz1 := congrArg List.length hz1
    rw [List.length_append] at lz1
    have heq : z1 = [110, 111, 116, 32] ++ o0 := by
      subst hz1
      rfl
    have hll : z1.length ≤ 140737488355328 := by rw [heq]; exact h
    have kaz1 := fun w => add_tB (P := Tryz.prog) w (A := ⟨#[110, 111, 116, 32]⟩) (B := tB o0) rfl rfl hz1 (by (try simp only [List.length_cons, List.length_nil] at *); omega)
    have HZ := Lib.hid heq
    clear heq hll hz1 lz1
    rw [← HZ.out]
    have hlen : x.ar.length ≤ 9223372036854775807 := by have := hx.len.1; unfold maxLen at this; exact this
    have hmx := (List.getElem?_eq_some_iff.1 h0).1
    have hi0 : (0 : Int) < (x.ar.length : Int) := by omega
    have hn0 : 0 < x.ar.length := by omega
    simp only [xV] at KO0 ⊢
    clear KX HZ h
    obtain ⟨ad0, y0, hA0, had0, hy0, _, ⟨c00, c01, c02, c03, c04, c05⟩, _⟩ := hx.at_ (i := 0) (by have := (List.getElem?_eq_some_iff.1 h0).1; omega)
    obtain rfl : y0 = a0 := Option.some.inj (hy0.symm.trans h0)
    rw [hA0]
    clear hA0 hy0
    simp [go_sem] at c00 c01 c02 c03 c04 c05
    have e00 := fun o => cell_al o c00
    have e01 := fun o => cell_al o c01
    have e02 := fun o => cell_al o c02
    have e03 := fun o => cell_al o c03
    have e04 := fun o => cell_al o c04
    have e05 := fun o => cell_al o c05
    go_enter Tryz.func73, Tryz.ntmps73
    go_wp2_with (first | (go_at_call 74; (with_reducible refine (KO0.out _ ?_).mono ?_); (focus ((repeat (first | (with_reducible exact Below.refl _ _) | (with_reducible assumption) | (with_reducible exact bel_box _) | (with_reducible refine bel_step ?_ (by with_reducible assumption)) | (with_reducible refine Below.drew ?_) | (with_reducible refine below_drewN ?_ _) | (with_reducible refine bel_alloc ?_ _))); done)); rintro e w1 ⟨rfl, hb1⟩))
    go_ret
    exact ⟨rfl, (by repeat (first | (with_reducible exact Below.refl _ _) | (with_reducible assumption) | (with_reducible exact bel_box _) | (with_reducible refine bel_step ?_ (by with_reducible assumption)) | (with_reducible refine Below.drew ?_) | (with_reducible refine below_drewN ?_ _) | (with_reducible refine bel_alloc ?_ _)))⟩
  by_cases p2 : x.op = 2
  · have hl : x.ar.length = 1 := by omega
    obtain ⟨a0, h0⟩ := one_of hl
    unfold oprS at h ⊢
    rw [if_neg p1, if_pos p2] at h ⊢
    have e0 : negS (x.ar.getD 0 xt0) ((x.ar.map f).getD 0 []) = negS a0 (f a0) := by
      rw [List.getD_eq_getElem?_getD, List.getD_eq_getElem?_getD, List.getElem?_map, h0]
      rfl
    rw [e0] at h ⊢
    have q0 : (x.op == 1) = false := by simp [p1]
    have q1 : (x.op == 2) = true := by simp [p2]
    clear hw3 p1 p2 e0 hl
    unfold negS at h ⊢
    by_cases kt : a0.k = 1 ∧ a0.t = 2
    · rw [if_pos kt] at h ⊢
      have q2 : (a0.k == 1) = true := by simp [kt.1]
      have q3 : (a0.t == 2) = true := by simp [kt.2]
      clear kt
      have hlen : x.ar.length ≤ 9223372036854775807 := by have := hx.len.1; unfold maxLen at this; exact this
      have hmx := (List.getElem?_eq_some_iff.1 h0).1
      have hi0 : (0 : Int) < (x.ar.length : Int) := by omega
      have hn0 : 0 < x.ar.length := by omega
      have KC : Hid (∀ W, Below w.heap.size w W → Calls Tryz.prog 38 #[.slice E.A E.l.length E.c, xV a0] W (Bel (.string (tB (f a0))) W)) := Lib.hid (KX.out a0 (List.mem_of_getElem? h0))
      generalize f a0 = s0 at *
      obtain ⟨z1, hz1⟩ : ∃ q, ([45, 40]) ++ (s0) = q := ⟨_, rfl⟩
      have lz1 := congrArg List.length hz1
      rw [List.length_append] at lz1
      obtain ⟨z2, hz2⟩ : ∃ q, (z1) ++ ([41]) = q := ⟨_, rfl⟩
      have lz2 := congrArg List.length hz2
      rw [List.length_append] at lz2
      have heq : z2 = [45] ++ brS s0 := by
        subst hz1 hz2
        rfl
      have hll : z2.length ≤ 140737488355328 := by rw [heq]; exact h
      have kaz1 := fun w => add_tB (P := Tryz.prog) w (A := ⟨#[45, 40]⟩) (B := tB s0) rfl rfl hz1 (by (try simp only [List.length_cons, List.length_nil] at *); omega)
      have kaz2 := fun w => add_tB (P := Tryz.prog) w (A := tB z1) (B := ⟨#[41]⟩) rfl rfl hz2 (by (try simp only [List.length_cons, List.length_nil] at *); omega)
      have HZ := Lib.hid heq
      clear heq hll hz1 hz2 lz1 lz2
      rw [← HZ.out]
      simp only [xV] at KC ⊢
      clear KX HZ h
      obtain ⟨ad0, y0, hA0, had0, hy0, _, ⟨c00, c01, c02, c03, c04, c05⟩, _⟩ := hx.at_ (i := 0) (by have := (List.getElem?_eq_some_iff.1 h0).1; omega)
      obtain rfl : y0 = a0 := Option.some.inj (hy0.symm.trans h0)
      rw [hA0]
      clear hA0 hy0
      simp [go_sem] at c00 c01 c02 c03 c04 c05
      have e00 := fun o => cell_al o c00
      have e01 := fun o => cell_al o c01
      have e02 := fun o => cell_al o c02
      have e03 := fun o => cell_al o c03
      have e04 := fun o => cell_al o c04
      have e05 := fun o => cell_al o c05
      go_enter Tryz.func73, Tryz.ntmps73
      go_wp2_with (go_at_call 38; (with_reducible refine (KC.out _ ?_).mono ?_); (focus ((repeat (first | (with_reducible exact Below.refl _ _) | (with_reducible assumption) | (with_reducible exact bel_box _) | (with_reducible refine bel_step ?_ (by with_reducible assumption)) | (with_reducible refine Below.drew ?_) | (with_reducible refine below_drewN ?_ _) | (with_reducible refine bel_alloc ?_ _))); done)); rintro e w1 ⟨rfl, hb1⟩)
      go_ret
      exact ⟨rfl, (by repeat (first | (with_reducible exact Below.refl _ _) | (with_reducible assumption) | (with_reducible exact bel_box _) | (with_reducible refine bel_step ?_ (by with_reducible assumption)) | (with_reducible refine Below.drew ?_) | (with_reducible refine below_drewN ?_ _) | (with_reducible refine bel_alloc ?_ _)))⟩
    · rw [if_neg kt] at h ⊢
      by_cases k1 : a0.k = 1
      · have q2 : (a0.k == 1) = true := by simp [k1]
        have q3 : (a0.t == 2) = false := by simp; intro e; exact kt ⟨k1, e⟩
        clear kt k1
        have hlen : x.ar.length ≤ 9223372036854775807 := by have := hx.len.1; unfold maxLen at this; exact this
        have hmx := (List.getElem?_eq_some_iff.1 h0).1
        have hi0 : (0 : Int) < (x.ar.length : Int) := by omega
        have hn0 : 0 < x.ar.length := by omega
        have KC : Hid (∀ W, Below w.heap.size w W → Calls Tryz.prog 74 #[.slice E.A E.l.length E.c, xV a0] W (Bel (.string (tB (opdS a0 (f a0)))) W)) := Lib.hid fun W hb => vr_operand E a0 (f a0) W (by simp only [List.length_append] at h; omega) (Lib.hid fun W' hb' => KX.out a0 (List.mem_of_getElem? h0) W' (hb.trans (hb'.mono hb.size)))
        generalize opdS a0 (f a0) = o0 at *
        obtain ⟨z1, hz1⟩ : ∃ q, ([45]) ++ (o0) = q := ⟨_, rfl⟩
        have lz1 := congrArg List.length hz1
        rw [List.length_append] at lz1
        have heq : z1 = [45] ++ o0 := by
          subst hz1
          rfl
        have hll : z1.length ≤ 140737488355328 := by rw [heq]; exact h
        have kaz1 := fun w => add_tB (P := Tryz.prog) w (A := ⟨#[45]⟩) (B := tB o0) rfl rfl hz1 (by (try simp only [List.length_cons, List.length_nil] at *); omega)
        have HZ := Lib.hid heq
        clear heq hll hz1 lz1
        rw [← HZ.out]
        simp only [xV] at KC ⊢
        clear KX HZ h
        obtain ⟨ad0, y0, hA0, had0, hy0, _, ⟨c00, c01, c02, c03, c04, c05⟩, _⟩ := hx.at_ (i := 0) (by have := (List.getElem?_eq_some_iff.1 h0).1; omega)
        obtain rfl : y0 = a0 := Option.some.inj (hy0.symm.trans h0)
        rw [hA0]
        clear hA0 hy0
        simp [go_sem] at c00 c01 c02 c03 c04 c05
        have e00 := fun o => cell_al o c00
        have e01 := fun o => cell_al o c01
        have e02 := fun o => cell_al o c02
        have e03 := fun o => cell_al o c03
        have e04 := fun o => cell_al o c04
        have e05 := fun o => cell_al o c05
        go_enter Tryz.func73, Tryz.ntmps73
        go_wp2_with (go_at_call 74; (with_reducible refine (KC.out _ ?_).mono ?_); (focus ((repeat (first | (with_reducible exact Below.refl _ _) | (with_reducible assumption) | (with_reducible exact bel_box _) | (with_reducible refine bel_step ?_ (by with_reducible assumption)) | (with_reducible refine Below.drew ?_) | (with_reducible refine below_drewN ?_ _) | (with_reducible refine bel_alloc ?_ _))); done)); rintro e w1 ⟨rfl, hb1⟩)
        go_ret
        exact ⟨rfl, (by repeat (first | (with_reducible exact Below.refl _ _) | (with_reducible assumption) | (with_reducible exact bel_box _) | (with_reducible refine bel_step ?_ (by with_reducible assumption)) | (with_reducible refine Below.drew ?_) | (with_reducible refine below_drewN ?_ _) | (with_reducible refine bel_alloc ?_ _)))⟩
      · have q2 : (a0.k == 1) = false := by simp [k1]
        clear kt k1
        have hlen : x.ar.length ≤ 9223372036854775807 := by have := hx.len.1; unfold maxLen at this; exact this
        have hmx := (List.getElem?_eq_some_iff.1 h0).1
        have hi0 : (0 : Int) < (x.ar.length : Int) := by omega
        have hn0 : 0 < x.ar.length := by omega
        have KC : Hid (∀ W, Below w.heap.size w W → Calls Tryz.prog 74 #[.slice E.A E.l.length E.c, xV a0] W (Bel (.string (tB (opdS a0 (f a0)))) W)) := Lib.hid fun W hb => vr_operand E a0 (f a0) W (by simp only [List.length_append] at h; omega) (Lib.hid fun W' hb' => KX.out a0 (List.mem_of_getElem? h0) W' (hb.trans (hb'.mono hb.size)))
        generalize opdS a0 (f a0) = o0 at *
        obtain ⟨z1, hz1⟩ : ∃ q, ([45]) ++ (o0) = q := ⟨_, rfl⟩
        have lz1 := congrArg List.length hz1
        rw [List.length_append] at lz1
        have heq : z1 = [45] ++ o0 := by
          subst hz1
          rfl
        have hll : z1.length ≤ 140737488355328 := by rw [heq]; exact h
        have kaz1 := fun w => add_tB (P := Tryz.prog) w (A := ⟨#[45]⟩) (B := tB o0) rfl rfl hz1 (by (try simp only [List.length_cons, List.length_nil] at *); omega)
        have HZ := Lib.hid heq
        clear heq hll hz1 lz1
        rw [← HZ.out]
        simp only [xV] at KC ⊢
        clear KX HZ h
        obtain ⟨ad0, y0, hA0, had0, hy0, _, ⟨c00, c01, c02, c03, c04, c05⟩, _⟩ := hx.at_ (i := 0) (by have := (List.getElem?_eq_some_iff.1 h0).1; omega)
        obtain rfl : y0 = a0 := Option.some.inj (hy0.symm.trans h0)
        rw [hA0]
        clear hA0 hy0
        simp [go_sem] at c00 c01 c02 c03 c04 c05
        have e00 := fun o => cell_al o c00
        have e01 := fun o => cell_al o c01
        have e02 := fun o => cell_al o c02
        have e03 := fun o => cell_al o c03
        have e04 := fun o => cell_al o c04
        have e05 := fun o => cell_al o c05
        go_enter Tryz.func73, Tryz.ntmps73
        go_wp2_with (go_at_call 74; (with_reducible refine (KC.out _ ?_).mono ?_); (focus ((repeat (first | (with_reducible exact Below.refl _ _) | (with_reducible assumption) | (with_reducible exact bel_box _) | (with_reducible refine bel_step ?_ (by with_reducible assumption)) | (with_reducible refine Below.drew ?_) | (with_reducible refine below_drewN ?_ _) | (with_reducible refine bel_alloc ?_ _))); done)); rintro e w1 ⟨rfl, hb1⟩)
        go_ret
        exact ⟨rfl, (by repeat (first | (with_reducible exact Below.refl _ _) | (with_reducible assumption) | (with_reducible exact bel_box _) | (with_reducible refine bel_step ?_ (by with_reducible assumption)) | (with_reducible refine Below.drew ?_) | (with_reducible refine below_drewN ?_ _) | (with_reducible refine bel_alloc ?_ _)))⟩
  · have hl : x.ar.length = 2 := by omega
    have h3 : 3 ≤ x.op ∧ x.op ≤ 16 := by omega
    obtain ⟨a0, h0⟩ := at_of (l := x.ar) (i := 0) (by omega)
    obtain ⟨a1, h1⟩ := at_of (l := x.ar) (i := 1) (by omega)
    unfold oprS at h ⊢
    rw [if_neg p1, if_neg p2] at h ⊢
    unfold betS at h ⊢
    rw [opI_at h0, opI_at h1] at h ⊢
    have q0 : (x.op == 1) = false := by simp [p1]
    have q1 : (x.op == 2) = false := by simp [p2]
    have KS : Hid (∀ W, Below w.heap.size w W → Calls Tryz.prog 115 #[.int .i64 x.op] W (Bel (.string (tB (symS x.op))) W)) := Lib.hid fun W _ => vr_symbol x.op W
    clear hw3 p1 p2 h3 hl
    have KO0 : Hid (∀ W, Below w.heap.size w W → Calls Tryz.prog 74 #[.slice E.A E.l.length E.c, xV a0] W (Bel (.string (tB (opdS a0 (f a0)))) W)) := Lib.hid fun W hb => vr_operand E a0 (f a0) W (by simp only [List.length_append] at h; omega) (Lib.hid fun W' hb' => KX.out a0 (List.mem_of_getElem? h0) W' (hb.trans (hb'.mono hb.size)))
    have KO1 : Hid (∀ W, Below w.heap.size w W → Calls Tryz.prog 74 #[.slice E.A E.l.length E.c, xV a1] W (Bel (.string (tB (opdS a1 (f a1)))) W)) := Lib.hid fun W hb => vr_operand E a1 (f a1) W (by simp only [List.length_append] at h; omega) (Lib.hid fun W' hb' => KX.out a1 (List.mem_of_getElem? h1) W' (hb.trans (hb'.mono hb.size)))
    generalize opdS a0 (f a0) = o0 at *
    generalize opdS a1 (f a1) = o1 at *
    generalize symS x.op = sy at *
    obtain ⟨z1, hz1⟩ : ∃ q, (o0) ++ ([32]) = q := ⟨_, rfl⟩
    have lz1 := congrArg List.length hz1
    rw [List.length_append] at lz1
    obtain ⟨z2, hz2⟩ : ∃ q, (z1) ++ (sy) = q := ⟨_, rfl⟩
    have lz2 := congrArg List.length hz2
    rw [List.length_append] at lz2
    obtain ⟨z3, hz3⟩ : ∃ q, (z2) ++ ([32]) = q := ⟨_, rfl⟩
    have lz3 := congrArg List.length hz3
    rw [List.length_append] at lz3
    obtain ⟨z4, hz4⟩ : ∃ q, (z3) ++ (o1) = q := ⟨_, rfl⟩
    have lz4 := congrArg List.length hz4
    rw [List.length_append] at lz4
    have heq : z4 = o0 ++ [32] ++ sy ++ [32] ++ o1 := by
      subst hz1 hz2 hz3 hz4
      rfl
    have hll : z4.length ≤ 140737488355328 := by rw [heq]; exact h
    have kaz1 := fun w => add_tB (P := Tryz.prog) w (A := tB o0) (B := ⟨#[32]⟩) rfl rfl hz1 (by (try simp only [List.length_cons, List.length_nil] at *); omega)
    have kaz2 := fun w => add_tB (P := Tryz.prog) w (A := tB z1) (B := tB sy) rfl rfl hz2 (by (try simp only [List.length_cons, List.length_nil] at *); omega)
    have kaz3 := fun w => add_tB (P := Tryz.prog) w (A := tB z2) (B := ⟨#[32]⟩) rfl rfl hz3 (by (try simp only [List.length_cons, List.length_nil] at *); omega)
    have kaz4 := fun w => add_tB (P := Tryz.prog) w (A := tB z3) (B := tB o1) rfl rfl hz4 (by (try simp only [List.length_cons, List.length_nil] at *); omega)
    have HZ := Lib.hid heq
    clear heq hll hz1 hz2 hz3 hz4 lz1 lz2 lz3 lz4
    rw [← HZ.out]
    have hlen : x.ar.length ≤ 9223372036854775807 := by have := hx.len.1; unfold maxLen at this; exact this
    have hmx := (List.getElem?_eq_some_iff.1 h1).1
    have hi0 : (0 : Int) < (x.ar.length : Int) := by omega
    have hi1 : (1 : Int) < (x.ar.length : Int) := by omega
    have hn0 : 0 < x.ar.length := by omega
    have hn1 : 1 < x.ar.length := by omega
    simp only [xV] at KO0 KO1 ⊢
    clear KX HZ h
    go_enter Tryz.func73, Tryz.ntmps73
    go_wp2
    obtain ⟨W0, hW0⟩ : ∃ W0, (w.alloc (.cells #[.int .i64 x.k, .int .i64 x.op, .int .i64 x.t, .int .i64 x.v, .string x.nm, .slice x.A x.ar.length x.c] 33)) = W0 := ⟨_, rfl⟩
    have hB0 : Below w.heap.size w W0 := by rw [← hW0]; exact bel_box _
    have b0 : W0.cell? ⟨w.heap.size, 0, none⟩ = some (.int .i64 x.k) := by rw [← hW0]; simp [go_sem]
    have b1 : W0.cell? ⟨w.heap.size, 1, none⟩ = some (.int .i64 x.op) := by rw [← hW0]; simp [go_sem]
    have b2 : W0.cell? ⟨w.heap.size, 2, none⟩ = some (.int .i64 x.t) := by rw [← hW0]; simp [go_sem]
    have b3 : W0.cell? ⟨w.heap.size, 3, none⟩ = some (.int .i64 x.v) := by rw [← hW0]; simp [go_sem]
    have b4 : W0.cell? ⟨w.heap.size, 4, none⟩ = some (.string x.nm) := by rw [← hW0]; simp [go_sem]
    have b5 : W0.cell? ⟨w.heap.size, 5, none⟩ = some (.slice x.A x.ar.length x.c) := by rw [← hW0]; simp [go_sem]
    have HW0 := Lib.hid hW0
    clear hW0
    rw [HW0.out]
    obtain ⟨ad0, y0, hA0, had0, hy0, _, ⟨c00, c01, c02, c03, c04, c05⟩, _⟩ := (hx.to hB0).at_ (i := 0) (by have := (List.getElem?_eq_some_iff.1 h0).1; omega)
    obtain rfl : y0 = a0 := Option.some.inj (hy0.symm.trans h0)
    obtain ⟨ad1, y1, hA1, had1, hy1, _, ⟨c10, c11, c12, c13, c14, c15⟩, _⟩ := (hx.to hB0).at_ (i := 1) (by have := (List.getElem?_eq_some_iff.1 h1).1; omega)
    obtain rfl : y1 = a1 := Option.some.inj (hy1.symm.trans h1)
    obtain rfl : ad0 = ad1 := Option.some.inj (hA0.symm.trans hA1)
    rw [hA0] at b5 ⊢
    clear hA0 hy0 hA1 hy1
    simp [go_sem] at c00 c01 c02 c03 c04 c05 c10 c11 c12 c13 c14 c15
    have q_b0 := cell_regrown b0
    have q_b1 := cell_regrown b1
    have q_b2 := cell_regrown b2
    have q_b3 := cell_regrown b3
    have q_b4 := cell_regrown b4
    have q_b5 := cell_regrown b5
    have q_c00 := cell_regrown c00
    have q_c01 := cell_regrown c01
    have q_c02 := cell_regrown c02
    have q_c03 := cell_regrown c03
    have q_c04 := cell_regrown c04
    have q_c05 := cell_regrown c05
    have q_c10 := cell_regrown c10
    have q_c11 := cell_regrown c11
    have q_c12 := cell_regrown c12
    have q_c13 := cell_regrown c13
    have q_c14 := cell_regrown c14
    have q_c15 := cell_regrown c15
    have k_0 := fun dd os => Calls.regrown_of (KO0.out (grow (redrawn W0 dd) os) (hB0.trans ((below_regrown W0 dd os).mono hB0.size)))
    have k_1 := fun dd os => Calls.regrown_of (KO1.out (grow (redrawn W0 dd) os) (hB0.trans ((below_regrown W0 dd os).mono hB0.size)))
    have k_2 := fun dd os => Calls.regrown_of (KS.out (grow (redrawn W0 dd) os) (hB0.trans ((below_regrown W0 dd os).mono hB0.size)))
    refine wp_region_quiet_below (by kernel_rfl) (by kernel_rfl) ?_
    repeat (quiet_step (first | with_reducible exact k_0 _ _ | with_reducible exact k_1 _ _ | with_reducible exact k_2 _ _))
    refine wpQuiet_nil ?_
    intro _ hw'
    obtain ⟨⟨dq, osq⟩, hw''⟩ := hw'
    subst hw''
    have hrw9 : Below W0.heap.size W0 (grow (redrawn W0 dq) osq) := below_regrown W0 dq osq
    have hw9 : Below w.heap.size w (grow (redrawn W0 dq) osq) := hB0.trans (hrw9.mono hB0.size)
    generalize grow (redrawn W0 dq) osq = w9 at hw9 hrw9 ⊢
    clear q_b0 q_b1 q_b2 q_b3 q_b4 q_b5 q_c00 q_c01 q_c02 q_c03 q_c04 q_c05 q_c10 q_c11 q_c12 q_c13 q_c14 q_c15 k_0 k_1 k_2
    go_wp2
    go_ret
    exact ⟨rfl, hw9⟩
end Go.Proofs.YtoimjcfdiljkjaaGreatDoor
/- text of the reference, kind by kind. -/
namespace Go.Proofs.YtoimjcfdiljkjaaGreatDoor
set_option linter.unusedVariables false
set_option linter.unusedSimpArgs false
open Go.RowKit Go.Sort
set_option maxHeartbeats 2000000 in
set_option maxRecDepth 20000 in
theorem vr_text1 (E : Rw va.En) (x : Xt) (f : Xt → List UInt8) (w : World) (hE : RsE w w.heap.size E) (hx : RdX w w.heap.size x) (hxt : x.t ≤ 9223372036854775807) (hl : x.ar.length ≤ 1048576) (hw : wf1 x) (h : (ndS E.l x (x.ar.map f)).length ≤ 140737488355328) (hk : x.k = 1) :
    Calls Tryz.prog 38 #[.slice E.A E.l.length E.c, xV x] w (Bel (.string (tB (ndS E.l x (x.ar.map f)))) w) := by
  unfold ndS at h ⊢
  rw [if_pos hk] at h ⊢
  have KO : Hid (∀ W, Below w.heap.size w W → Calls Tryz.prog 72 #[.slice E.A E.l.length E.c, .int .i64 x.t, .int .i64 x.v] W (Bel (.string (tB (valS E.l x.t x.v))) W)) := Lib.hid fun W hb => vr_val E x.t x.v W (hE.blw hb hb.size) hxt
  have qk0 : (x.k == 1) = true := by simp [hk]
  generalize valS E.l x.t x.v = z at *
  clear hE hx h hw hk
  simp only [xV] at KO ⊢
  go_enter Tryz.func38, Tryz.ntmps38
  go_wp2_with (go_at_call 72; (with_reducible refine (KO.out _ ?_).mono ?_); (focus ((repeat (first | (with_reducible exact Below.refl _ _) | (with_reducible assumption) | (with_reducible exact bel_box _) | (with_reducible refine bel_step ?_ (by with_reducible assumption)) | (with_reducible refine Below.drew ?_) | (with_reducible refine below_drewN ?_ _) | (with_reducible refine bel_alloc ?_ _))); done)); rintro e w1 ⟨rfl, hb1⟩)
  go_ret
  exact ⟨rfl, (by repeat (first | (with_reducible exact Below.refl _ _) | (with_reducible assumption) | (with_reducible exact bel_box _) | (with_reducible refine bel_step ?_ (by with_reducible assumption)) | (with_reducible refine Below.drew ?_) | (with_reducible refine below_drewN ?_ _) | (with_reducible refine bel_alloc ?_ _)))⟩
set_option maxHeartbeats 2000000 in
set_option maxRecDepth 20000 in
theorem vr_text3 (E : Rw va.En) (x : Xt) (f : Xt → List UInt8) (w : World) (hE : RsE w w.heap.size E) (hx : RdX w w.heap.size x) (hxt : x.t ≤ 9223372036854775807) (hl : x.ar.length ≤ 1048576) (hw : wf1 x)
    (KX : Hid (∀ y ∈ x.ar, ∀ W, Below w.heap.size w W → Calls Tryz.prog 38 #[.slice E.A E.l.length E.c, xV y] W (Bel (.string (tB (f y))) W))) (h : (ndS E.l x (x.ar.map f)).length ≤ 140737488355328) (hk : x.k = 3) :
    Calls Tryz.prog 38 #[.slice E.A E.l.length E.c, xV x] w (Bel (.string (tB (ndS E.l x (x.ar.map f)))) w) := by
  unfold ndS at h ⊢
  rw [if_neg (by omega), if_pos hk] at h ⊢
  have KO : Hid (∀ W, Below w.heap.size w W → Calls Tryz.prog 73 #[.slice E.A E.l.length E.c, xV x] W (Bel (.string (tB (oprS x.op x.ar (x.ar.map f)))) W)) := Lib.hid fun W hb => vr_operation E x f W (hx.to hb) hk hw (Lib.hid fun y hy W' hb' => KX.out y hy W' (hb.trans (hb'.mono hb.size))) h
  have qk0 : (x.k == 1) = false := by simp [hk]
  have qk1 : (x.k == 2) = false := by simp [hk]
  have qk2 : (x.k == 3) = true := by simp [hk]
  generalize oprS x.op x.ar (x.ar.map f) = z at *
  clear hE hx KX h hw hk
  simp only [xV] at KO ⊢
  go_enter Tryz.func38, Tryz.ntmps38
  go_wp2_with (go_at_call 73; (with_reducible refine (KO.out _ ?_).mono ?_); (focus ((repeat (first | (with_reducible exact Below.refl _ _) | (with_reducible assumption) | (with_reducible exact bel_box _) | (with_reducible refine bel_step ?_ (by with_reducible assumption)) | (with_reducible refine Below.drew ?_) | (with_reducible refine below_drewN ?_ _) | (with_reducible refine bel_alloc ?_ _))); done)); rintro e w1 ⟨rfl, hb1⟩)
  go_ret
  exact ⟨rfl, (by repeat (first | (with_reducible exact Below.refl _ _) | (with_reducible assumption) | (with_reducible exact bel_box _) | (with_reducible refine bel_step ?_ (by with_reducible assumption)) | (with_reducible refine Below.drew ?_) | (with_reducible refine below_drewN ?_ _) | (with_reducible refine bel_alloc ?_ _)))⟩
set_option maxHeartbeats 2000000 in
set_option maxRecDepth 20000 in
theorem vr_text6 (E : Rw va.En) (x : Xt) (f : Xt → List UInt8) (w : World) (hE : RsE w w.heap.size E) (hx : RdX w w.heap.size x) (hxt : x.t ≤ 9223372036854775807) (hl : x.ar.length ≤ 1048576) (hw : wf1 x)
    (KX : Hid (∀ y ∈ x.ar, ∀ W, Below w.heap.size w W → Calls Tryz.prog 38 #[.slice E.A E.l.length E.c, xV y] W (Bel (.string (tB (f y))) W))) (h : (ndS E.l x (x.ar.map f)).length ≤ 140737488355328) (hk : x.k = 6) :
    Calls Tryz.prog 38 #[.slice E.A E.l.length E.c, xV x] w (Bel (.string (tB (ndS E.l x (x.ar.map f)))) w) := by
  have hl2 : x.ar.length = 2 := hw.2.2.2.1 (.inl hk)
  obtain ⟨a0, h0⟩ := at_of (l := x.ar) (i := 0) (by omega)
  obtain ⟨a1, h1⟩ := at_of (l := x.ar) (i := 1) (by omega)
  unfold ndS at h ⊢
  rw [if_neg (by omega), if_neg (by omega), if_neg (by omega), if_neg (by omega), if_pos hk] at h ⊢
  unfold betS at h ⊢
  rw [opI_at h0, opI_at h1] at h ⊢
  have KO0 : Hid (∀ W, Below w.heap.size w W → Calls Tryz.prog 74 #[.slice E.A E.l.length E.c, xV a0] W (Bel (.string (tB (opdS a0 (f a0)))) W)) := Lib.hid fun W hb => vr_operand E a0 (f a0) W (by simp only [List.length_append] at h; omega) (Lib.hid fun W' hb' => KX.out a0 (List.mem_of_getElem? h0) W' (hb.trans (hb'.mono hb.size)))
  have KO1 : Hid (∀ W, Below w.heap.size w W → Calls Tryz.prog 74 #[.slice E.A E.l.length E.c, xV a1] W (Bel (.string (tB (opdS a1 (f a1)))) W)) := Lib.hid fun W hb => vr_operand E a1 (f a1) W (by simp only [List.length_append] at h; omega) (Lib.hid fun W' hb' => KX.out a1 (List.mem_of_getElem? h1) W' (hb.trans (hb'.mono hb.size)))
  have qk0 : (x.k == 1) = false := by simp [hk]
  have qk1 : (x.k == 2) = false := by simp [hk]
  have qk2 : (x.k == 3) = false := by simp [hk]
  have qk3 : (x.k == 4) = false := by simp [hk]
  have qk4 : (x.k == 5) = false := by simp [hk]
  have qk5 : (x.k == 6) = true := by simp [hk]
  generalize opdS a0 (f a0) = o0 at *
  generalize opdS a1 (f a1) = o1 at *
  obtain ⟨z1, hz1⟩ : ∃ q, (o0) ++ ([32, 45, 62, 32]) = q := ⟨_, rfl⟩
  have lz1 := congrArg List.length hz1
  rw [List.length_append] at lz1
  obtain ⟨z2, hz2⟩ : ∃ q, (z1) ++ (o1) = q := ⟨_, rfl⟩
  have lz2 := congrArg List.length hz2
  rw [List.length_append] at lz2
  have heq : z2 = o0 ++ [32] ++ [45, 62] ++ [32] ++ o1 := by
    subst hz1 hz2
    simp only [List.append_assoc, List.cons_append, List.nil_append]
  have hll : z2.length ≤ 140737488355328 := by rw [heq]; exact h
  have kaz1 := fun w => add_tB (P := Tryz.prog) w (A := tB o0) (B := ⟨#[32, 45, 62, 32]⟩) rfl rfl hz1 (by (try simp only [List.length_cons, List.length_nil] at *); omega)
  have kaz2 := fun w => add_tB (P := Tryz.prog) w (A := tB z1) (B := tB o1) rfl rfl hz2 (by (try simp only [List.length_cons, List.length_nil] at *); omega)
  have HZ := Lib.hid heq
  clear heq hll hz1 hz2 lz1 lz2
  rw [← HZ.out]
  clear hl2 hw hk
  have hlen : x.ar.length ≤ 9223372036854775807 := by have := hx.len.1; unfold maxLen at this; exact this
  have hmx := (List.getElem?_eq_some_iff.1 h1).1
  have hi0 : (0 : Int) < (x.ar.length : Int) := by omega
  have hi1 : (1 : Int) < (x.ar.length : Int) := by omega
  have hn0 : 0 < x.ar.length := by omega
  have hn1 : 1 < x.ar.length := by omega
  simp only [xV] at KO0 KO1 ⊢
  clear KX HZ h hE
  go_enter Tryz.func38, Tryz.ntmps38
  go_wp2
  obtain ⟨W0, hW0⟩ : ∃ W0, (w.alloc (.cells #[.int .i64 x.k, .int .i64 x.op, .int .i64 x.t, .int .i64 x.v, .string x.nm, .slice x.A x.ar.length x.c] 33)) = W0 := ⟨_, rfl⟩
  have hB0 : Below w.heap.size w W0 := by rw [← hW0]; exact bel_box _
  have b0 : W0.cell? ⟨w.heap.size, 0, none⟩ = some (.int .i64 x.k) := by rw [← hW0]; simp [go_sem]
  have b1 : W0.cell? ⟨w.heap.size, 1, none⟩ = some (.int .i64 x.op) := by rw [← hW0]; simp [go_sem]
  have b2 : W0.cell? ⟨w.heap.size, 2, none⟩ = some (.int .i64 x.t) := by rw [← hW0]; simp [go_sem]
  have b3 : W0.cell? ⟨w.heap.size, 3, none⟩ = some (.int .i64 x.v) := by rw [← hW0]; simp [go_sem]
  have b4 : W0.cell? ⟨w.heap.size, 4, none⟩ = some (.string x.nm) := by rw [← hW0]; simp [go_sem]
  have b5 : W0.cell? ⟨w.heap.size, 5, none⟩ = some (.slice x.A x.ar.length x.c) := by rw [← hW0]; simp [go_sem]
  have HW0 := Lib.hid hW0
  clear hW0
  rw [HW0.out]
  obtain ⟨ad0, y0, hA0, had0, hy0, _, ⟨c00, c01, c02, c03, c04, c05⟩, _⟩ := (hx.to hB0).at_ (i := 0) (by have := (List.getElem?_eq_some_iff.1 h0).1; omega)
  obtain rfl : y0 = a0 := Option.some.inj (hy0.symm.trans h0)
  obtain ⟨ad1, y1, hA1, had1, hy1, _, ⟨c10, c11, c12, c13, c14, c15⟩, _⟩ := (hx.to hB0).at_ (i := 1) (by have := (List.getElem?_eq_some_iff.1 h1).1; omega)
  obtain rfl : y1 = a1 := Option.some.inj (hy1.symm.trans h1)
  obtain rfl : ad0 = ad1 := Option.some.inj (hA0.symm.trans hA1)
  rw [hA0] at b5 ⊢
  clear hA0 hy0 hA1 hy1
  simp [go_sem] at c00 c01 c02 c03 c04 c05 c10 c11 c12 c13 c14 c15
  have q_b0 := cell_regrown b0
  have q_b1 := cell_regrown b1
  have q_b2 := cell_regrown b2
  have q_b3 := cell_regrown b3
  have q_b4 := cell_regrown b4
  have q_b5 := cell_regrown b5
  have q_c00 := cell_regrown c00
  have q_c01 := cell_regrown c01
  have q_c02 := cell_regrown c02
  have q_c03 := cell_regrown c03
  have q_c04 := cell_regrown c04
  have q_c05 := cell_regrown c05
  have q_c10 := cell_regrown c10
  have q_c11 := cell_regrown c11
  have q_c12 := cell_regrown c12
  have q_c13 := cell_regrown c13
  have q_c14 := cell_regrown c14
  have q_c15 := cell_regrown c15
  have k_0 := fun dd os => Calls.regrown_of (KO0.out (grow (redrawn W0 dd) os) (hB0.trans ((below_regrown W0 dd os).mono hB0.size)))
  have k_1 := fun dd os => Calls.regrown_of (KO1.out (grow (redrawn W0 dd) os) (hB0.trans ((below_regrown W0 dd os).mono hB0.size)))
  refine wp_region_quiet_below (by kernel_rfl) (by kernel_rfl) ?_
  repeat (quiet_step (first | with_reducible exact k_0 _ _ | with_reducible exact k_1 _ _))
  refine wpQuiet_nil ?_
  intro _ hw'
  obtain ⟨⟨dq, osq⟩, hw''⟩ := hw'
  subst hw''
  have hrw9 : Below W0.heap.size W0 (grow (redrawn W0 dq) osq) := below_regrown W0 dq osq
  have hw9 : Below w.heap.size w (grow (redrawn W0 dq) osq) := hB0.trans (hrw9.mono hB0.size)
  generalize grow (redrawn W0 dq) osq = w9 at hw9 hrw9 ⊢
  clear q_b0 q_b1 q_b2 q_b3 q_b4 q_b5 q_c00 q_c01 q_c02 q_c03 q_c04 q_c05 q_c10 q_c11 q_c12 q_c13 q_c14 q_c15 k_0 k_1
  go_wp2
  go_ret
  exact ⟨rfl, hw9⟩
set_option maxHeartbeats 2000000 in
set_option maxRecDepth 20000 in
theorem vr_text7 (E : Rw va.En) (x : Xt) (f : Xt → List UInt8) (w : World) (hE : RsE w w.heap.size E) (hx : RdX w w.heap.size x) (hxt : x.t ≤ 9223372036854775807) (hl : x.ar.length ≤ 1048576) (hw : wf1 x)
    (KX : Hid (∀ y ∈ x.ar, ∀ W, Below w.heap.size w W → Calls Tryz.prog 38 #[.slice E.A E.l.length E.c, xV y] W (Bel (.string (tB (f y))) W))) (h : (ndS E.l x (x.ar.map f)).length ≤ 140737488355328) (hk : x.k = 7) :
    Calls Tryz.prog 38 #[.slice E.A E.l.length E.c, xV x] w (Bel (.string (tB (ndS E.l x (x.ar.map f)))) w) := by
  have hl2 : x.ar.length = 2 := hw.2.2.2.1 (.inr hk)
  obtain ⟨a0, h0⟩ := at_of (l := x.ar) (i := 0) (by omega)
  obtain ⟨a1, h1⟩ := at_of (l := x.ar) (i := 1) (by omega)
  unfold ndS at h ⊢
  rw [if_neg (by omega), if_neg (by omega), if_neg (by omega), if_neg (by omega), if_neg (by omega), if_pos hk] at h ⊢
  unfold betS at h ⊢
  rw [opI_at h0, opI_at h1] at h ⊢
  have KO0 : Hid (∀ W, Below w.heap.size w W → Calls Tryz.prog 74 #[.slice E.A E.l.length E.c, xV a0] W (Bel (.string (tB (opdS a0 (f a0)))) W)) := Lib.hid fun W hb => vr_operand E a0 (f a0) W (by simp only [List.length_append] at h; omega) (Lib.hid fun W' hb' => KX.out a0 (List.mem_of_getElem? h0) W' (hb.trans (hb'.mono hb.size)))
  have KO1 : Hid (∀ W, Below w.heap.size w W → Calls Tryz.prog 74 #[.slice E.A E.l.length E.c, xV a1] W (Bel (.string (tB (opdS a1 (f a1)))) W)) := Lib.hid fun W hb => vr_operand E a1 (f a1) W (by simp only [List.length_append] at h; omega) (Lib.hid fun W' hb' => KX.out a1 (List.mem_of_getElem? h1) W' (hb.trans (hb'.mono hb.size)))
  have qk0 : (x.k == 1) = false := by simp [hk]
  have qk1 : (x.k == 2) = false := by simp [hk]
  have qk2 : (x.k == 3) = false := by simp [hk]
  have qk3 : (x.k == 4) = false := by simp [hk]
  have qk4 : (x.k == 5) = false := by simp [hk]
  have qk5 : (x.k == 6) = false := by simp [hk]
  have qk6 : (x.k == 7) = true := by simp [hk]
  generalize opdS a0 (f a0) = o0 at *
  generalize opdS a1 (f a1) = o1 at *
  obtain ⟨z1, hz1⟩ : ∃ q, (o0) ++ ([32, 102, 98, 121, 32]) = q := ⟨_, rfl⟩
  have lz1 := congrArg List.length hz1
  rw [List.length_append] at lz1
  obtain ⟨z2, hz2⟩ : ∃ q, (z1) ++ (o1) = q := ⟨_, rfl⟩
  have lz2 := congrArg List.length hz2
  rw [List.length_append] at lz2
  have heq : z2 = o0 ++ [32] ++ [102, 98, 121] ++ [32] ++ o1 := by
    subst hz1 hz2
    simp only [List.append_assoc, List.cons_append, List.nil_append]
  have hll : z2.length ≤ 140737488355328 := by rw [heq]; exact h
  have kaz1 := fun w => add_tB (P := Tryz.prog) w (A := tB o0) (B := ⟨#[32, 102, 98, 121, 32]⟩) rfl rfl hz1 (by (try simp only [List.length_cons, List.length_nil] at *); omega)
  have kaz2 := fun w => add_tB (P := Tryz.prog) w (A := tB z1) (B := tB o1) rfl rfl hz2 (by (try simp only [List.length_cons, List.length_nil] at *); omega)
  have HZ := Lib.hid heq
  clear heq hll hz1 hz2 lz1 lz2
  rw [← HZ.out]
  clear hl2 hw hk
  have hlen : x.ar.length ≤ 9223372036854775807 := by have := hx.len.1; unfold maxLen at this; exact this
  have hmx := (List.getElem?_eq_some_iff.1 h1).1
  have hi0 : (0 : Int) < (x.ar.length : Int) := by omega
  have hi1 : (1 : Int) < (x.ar.length : Int) := by omega
  have hn0 : 0 < x.ar.length := by omega
  have hn1 : 1 < x.ar.length := by omega
  simp only [xV] at KO0 KO1 ⊢
  clear KX HZ h hE
  go_enter Tryz.func38, Tryz.ntmps38
  go_wp2
  obtain ⟨W0, hW0⟩ : ∃ W0, (w.alloc (.cells #[.int .i64 x.k, .int .i64 x.op, .int .i64 x.t, .int .i64 x.v, .string x.nm, .slice x.A x.ar.length x.c] 33)) = W0 := ⟨_, rfl⟩
  have hB0 : Below w.heap.size w W0 := by rw [← hW0]; exact bel_box _
  have b0 : W0.cell? ⟨w.heap.size, 0, none⟩ = some (.int .i64 x.k) := by rw [← hW0]; simp [go_sem]
  have b1 : W0.cell? ⟨w.heap.size, 1, none⟩ = some (.int .i64 x.op) := by rw [← hW0]; simp [go_sem]
  have b2 : W0.cell? ⟨w.heap.size, 2, none⟩ = some (.int .i64 x.t) := by rw [← hW0]; simp [go_sem]
  have b3 : W0.cell? ⟨w.heap.size, 3, none⟩ = some (.int .i64 x.v) := by rw [← hW0]; simp [go_sem]
  have b4 : W0.cell? ⟨w.heap.size, 4, none⟩ = some (.string x.nm) := by rw [← hW0]; simp [go_sem]
  have b5 : W0.cell? ⟨w.heap.size, 5, none⟩ = some (.slice x.A x.ar.length x.c) := by rw [← hW0]; simp [go_sem]
  have HW0 := Lib.hid hW0
  clear hW0
  rw [HW0.out]
  obtain ⟨ad0, y0, hA0, had0, hy0, _, ⟨c00, c01, c02, c03, c04, c05⟩, _⟩ := (hx.to hB0).at_ (i := 0) (by have := (List.getElem?_eq_some_iff.1 h0).1; omega)
  obtain rfl : y0 = a0 := Option.some.inj (hy0.symm.trans h0)
  obtain ⟨ad1, y1, hA1, had1, hy1, _, ⟨c10, c11, c12, c13, c14, c15⟩, _⟩ := (hx.to hB0).at_ (i := 1) (by have := (List.getElem?_eq_some_iff.1 h1).1; omega)
  obtain rfl : y1 = a1 := Option.some.inj (hy1.symm.trans h1)
  obtain rfl : ad0 = ad1 := Option.some.inj (hA0.symm.trans hA1)
  rw [hA0] at b5 ⊢
  clear hA0 hy0 hA1 hy1
  simp [go_sem] at c00 c01 c02 c03 c04 c05 c10 c11 c12 c13 c14 c15
  have q_b0 := cell_regrown b0
  have q_b1 := cell_regrown b1
  have q_b2 := cell_regrown b2
  have q_b3 := cell_regrown b3
  have q_b4 := cell_regrown b4
  have q_b5 := cell_regrown b5
  have q_c00 := cell_regrown c00
  have q_c01 := cell_regrown c01
  have q_c02 := cell_regrown c02
  have q_c03 := cell_regrown c03
  have q_c04 := cell_regrown c04
  have q_c05 := cell_regrown c05
  have q_c10 := cell_regrown c10
  have q_c11 := cell_regrown c11
  have q_c12 := cell_regrown c12
  have q_c13 := cell_regrown c13
  have q_c14 := cell_regrown c14
  have q_c15 := cell_regrown c15
  have k_0 := fun dd os => Calls.regrown_of (KO0.out (grow (redrawn W0 dd) os) (hB0.trans ((below_regrown W0 dd os).mono hB0.size)))
  have k_1 := fun dd os => Calls.regrown_of (KO1.out (grow (redrawn W0 dd) os) (hB0.trans ((below_regrown W0 dd os).mono hB0.size)))
  refine wp_region_quiet_below (by kernel_rfl) (by kernel_rfl) ?_
  repeat (quiet_step (first | with_reducible exact k_0 _ _ | with_reducible exact k_1 _ _))
  refine wpQuiet_nil ?_
  intro _ hw'
  obtain ⟨⟨dq, osq⟩, hw''⟩ := hw'
  subst hw''
  have hrw9 : Below W0.heap.size W0 (grow (redrawn W0 dq) osq) := below_regrown W0 dq osq
  have hw9 : Below w.heap.size w (grow (redrawn W0 dq) osq) := hB0.trans (hrw9.mono hB0.size)
  generalize grow (redrawn W0 dq) osq = w9 at hw9 hrw9 ⊢
  clear q_b0 q_b1 q_b2 q_b3 q_b4 q_b5 q_c00 q_c01 q_c02 q_c03 q_c04 q_c05 q_c10 q_c11 q_c12 q_c13 q_c14 q_c15 k_0 k_1
  go_wp2
  go_ret
  exact ⟨rfl, hw9⟩
set_option maxHeartbeats 2000000 in
set_option maxRecDepth 20000 in
theorem vr_text5 (E : Rw va.En) (x : Xt) (f : Xt → List UInt8) (w : World) (hE : RsE w w.heap.size E) (hx : RdX w w.heap.size x) (hxt : x.t ≤ 9223372036854775807) (hl : x.ar.length ≤ 1048576) (hw : wf1 x)
    (KX : Hid (∀ y ∈ x.ar, ∀ W, Below w.heap.size w W → Calls Tryz.prog 38 #[.slice E.A E.l.length E.c, xV y] W (Bel (.string (tB (f y))) W))) (h : (ndS E.l x (x.ar.map f)).length ≤ 140737488355328) (hk : x.k = 5) :
    Calls Tryz.prog 38 #[.slice E.A E.l.length E.c, xV x] w (Bel (.string (tB (ndS E.l x (x.ar.map f)))) w) := by
  have hl2 : x.ar.length = 1 := hw.2.2.1 (.inl hk)
  obtain ⟨a0, h0⟩ := at_of (l := x.ar) (i := 0) (by omega)
  unfold ndS at h ⊢
  rw [if_neg (by omega), if_neg (by omega), if_neg (by omega), if_pos hk] at h ⊢
  rw [opI_at h0] at h ⊢
  have KO0 : Hid (∀ W, Below w.heap.size w W → Calls Tryz.prog 74 #[.slice E.A E.l.length E.c, xV a0] W (Bel (.string (tB (opdS a0 (f a0)))) W)) := Lib.hid fun W hb => vr_operand E a0 (f a0) W (by simp only [List.length_append] at h; omega) (Lib.hid fun W' hb' => KX.out a0 (List.mem_of_getElem? h0) W' (hb.trans (hb'.mono hb.size)))
  have qk0 : (x.k == 1) = false := by simp [hk]
  have qk1 : (x.k == 2) = false := by simp [hk]
  have qk2 : (x.k == 3) = false := by simp [hk]
  have qk3 : (x.k == 4) = false := by simp [hk]
  have qk4 : (x.k == 5) = true := by simp [hk]
  generalize opdS a0 (f a0) = o0 at *
  obtain ⟨z1, hz1⟩ : ∃ q, ([112, 114, 101, 32]) ++ (o0) = q := ⟨_, rfl⟩
  have lz1 := congrArg List.length hz1
  rw [List.length_append] at lz1
  have heq : z1 = [112, 114, 101, 32] ++ o0 := by
    subst hz1
    rfl
  have hll : z1.length ≤ 140737488355328 := by rw [heq]; exact h
  have kaz1 := fun w => add_tB (P := Tryz.prog) w (A := ⟨#[112, 114, 101, 32]⟩) (B := tB o0) rfl rfl hz1 (by (try simp only [List.length_cons, List.length_nil] at *); omega)
  have HZ := Lib.hid heq
  clear heq hll hz1 lz1
  rw [← HZ.out]
  clear hl2 hw hk
  have hlen : x.ar.length ≤ 9223372036854775807 := by have := hx.len.1; unfold maxLen at this; exact this
  have hmx := (List.getElem?_eq_some_iff.1 h0).1
  have hi0 : (0 : Int) < (x.ar.length : Int) := by omega
  have hn0 : 0 < x.ar.length := by omega
  simp only [xV] at KO0 ⊢
  clear KX HZ h hE
  obtain ⟨ad0, y0, hA0, had0, hy0, _, ⟨c00, c01, c02, c03, c04, c05⟩, _⟩ := hx.at_ (i := 0) (by have := (List.getElem?_eq_some_iff.1 h0).1; omega)
  obtain rfl : y0 = a0 := Option.some.inj (hy0.symm.trans h0)
  rw [hA0]
  clear hA0 hy0
  simp [go_sem] at c00 c01 c02 c03 c04 c05
  have e00 := fun o => cell_al o c00
  have e01 := fun o => cell_al o c01
  have e02 := fun o => cell_al o c02
  have e03 := fun o => cell_al o c03
  have e04 := fun o => cell_al o c04
  have e05 := fun o => cell_al o c05
  go_enter Tryz.func38, Tryz.ntmps38
  go_wp2_with (first | (go_at_call 74; (with_reducible refine (KO0.out _ ?_).mono ?_); (focus ((repeat (first | (with_reducible exact Below.refl _ _) | (with_reducible assumption) | (with_reducible exact bel_box _) | (with_reducible refine bel_step ?_ (by with_reducible assumption)) | (with_reducible refine Below.drew ?_) | (with_reducible refine below_drewN ?_ _) | (with_reducible refine bel_alloc ?_ _))); done)); rintro e w1 ⟨rfl, hb1⟩))
  go_ret
  exact ⟨rfl, (by repeat (first | (with_reducible exact Below.refl _ _) | (with_reducible assumption) | (with_reducible exact bel_box _) | (with_reducible refine bel_step ?_ (by with_reducible assumption)) | (with_reducible refine Below.drew ?_) | (with_reducible refine below_drewN ?_ _) | (with_reducible refine bel_alloc ?_ _)))⟩
set_option maxHeartbeats 2000000 in
set_option maxRecDepth 20000 in
theorem vr_text4 (E : Rw va.En) (x : Xt) (f : Xt → List UInt8) (w : World) (hE : RsE w w.heap.size E) (hx : RdX w w.heap.size x) (hxt : x.t ≤ 9223372036854775807) (hl : x.ar.length ≤ 1048576) (hw : wf1 x)
    (KX : Hid (∀ y ∈ x.ar, ∀ W, Below w.heap.size w W → Calls Tryz.prog 38 #[.slice E.A E.l.length E.c, xV y] W (Bel (.string (tB (f y))) W))) (h : (ndS E.l x (x.ar.map f)).length ≤ 140737488355328) (hk : x.k = 4) :
    Calls Tryz.prog 38 #[.slice E.A E.l.length E.c, xV x] w (Bel (.string (tB (ndS E.l x (x.ar.map f)))) w) := by
  have hl3 : x.ar.length = 3 := hw.2.1 hk
  obtain ⟨a0, h0⟩ := at_of (l := x.ar) (i := 0) (by omega)
  obtain ⟨a1, h1⟩ := at_of (l := x.ar) (i := 1) (by omega)
  obtain ⟨a2, h2⟩ := at_of (l := x.ar) (i := 2) (by omega)
  unfold ndS at h ⊢
  rw [if_neg (by omega), if_neg (by omega), if_pos hk] at h ⊢
  rw [ts_at h0, ts_at h1, ts_at h2] at h ⊢
  have K0 := Lib.hid (KX.out a0 (List.mem_of_getElem? h0))
  have K1 := Lib.hid (KX.out a1 (List.mem_of_getElem? h1))
  have K2 := Lib.hid (KX.out a2 (List.mem_of_getElem? h2))
  have qk0 : (x.k == 1) = false := by simp [hk]
  have qk1 : (x.k == 2) = false := by simp [hk]
  have qk2 : (x.k == 3) = false := by simp [hk]
  have qk3 : (x.k == 4) = true := by simp [hk]
  generalize f a0 = s0 at *
  generalize f a1 = s1 at *
  generalize f a2 = s2 at *
  obtain ⟨z1, hz1⟩ : ∃ q, ([105, 102, 32]) ++ (s0) = q := ⟨_, rfl⟩
  have lz1 := congrArg List.length hz1
  rw [List.length_append] at lz1
  obtain ⟨z2, hz2⟩ : ∃ q, (z1) ++ ([32, 116, 104, 101, 110, 32]) = q := ⟨_, rfl⟩
  have lz2 := congrArg List.length hz2
  rw [List.length_append] at lz2
  obtain ⟨z3, hz3⟩ : ∃ q, (z2) ++ (s1) = q := ⟨_, rfl⟩
  have lz3 := congrArg List.length hz3
  rw [List.length_append] at lz3
  obtain ⟨z4, hz4⟩ : ∃ q, (z3) ++ ([32, 101, 108, 115, 101, 32]) = q := ⟨_, rfl⟩
  have lz4 := congrArg List.length hz4
  rw [List.length_append] at lz4
  obtain ⟨z5, hz5⟩ : ∃ q, (z4) ++ (s2) = q := ⟨_, rfl⟩
  have lz5 := congrArg List.length hz5
  rw [List.length_append] at lz5
  have heq : z5 = [105, 102, 32] ++ s0 ++ [32, 116, 104, 101, 110, 32] ++ s1 ++ [32, 101, 108, 115, 101, 32] ++ s2 := by
    subst hz1 hz2 hz3 hz4 hz5
    rfl
  have hll : z5.length ≤ 140737488355328 := by rw [heq]; exact h
  have kaz1 := fun w => add_tB (P := Tryz.prog) w (A := ⟨#[105, 102, 32]⟩) (B := tB s0) rfl rfl hz1 (by (try simp only [List.length_cons, List.length_nil] at *); omega)
  have kaz2 := fun w => add_tB (P := Tryz.prog) w (A := tB z1) (B := ⟨#[32, 116, 104, 101, 110, 32]⟩) rfl rfl hz2 (by (try simp only [List.length_cons, List.length_nil] at *); omega)
  have kaz3 := fun w => add_tB (P := Tryz.prog) w (A := tB z2) (B := tB s1) rfl rfl hz3 (by (try simp only [List.length_cons, List.length_nil] at *); omega)
  have kaz4 := fun w => add_tB (P := Tryz.prog) w (A := tB z3) (B := ⟨#[32, 101, 108, 115, 101, 32]⟩) rfl rfl hz4 (by (try simp only [List.length_cons, List.length_nil] at *); omega)
  have kaz5 := fun w => add_tB (P := Tryz.prog) w (A := tB z4) (B := tB s2) rfl rfl hz5 (by (try simp only [List.length_cons, List.length_nil] at *); omega)
  have HZ := Lib.hid heq
  clear heq hll hz1 hz2 hz3 hz4 hz5 lz1 lz2 lz3 lz4 lz5
  rw [← HZ.out]
  clear hl3 hw hk
  have hlen : x.ar.length ≤ 9223372036854775807 := by have := hx.len.1; unfold maxLen at this; exact this
  have hmx := (List.getElem?_eq_some_iff.1 h2).1
  have hi0 : (0 : Int) < (x.ar.length : Int) := by omega
  have hi1 : (1 : Int) < (x.ar.length : Int) := by omega
  have hi2 : (2 : Int) < (x.ar.length : Int) := by omega
  have hn0 : 0 < x.ar.length := by omega
  have hn1 : 1 < x.ar.length := by omega
  have hn2 : 2 < x.ar.length := by omega
  simp only [xV] at K0 K1 K2 ⊢
  clear KX HZ h hE
  go_enter Tryz.func38, Tryz.ntmps38
  go_wp2
  obtain ⟨W0, hW0⟩ : ∃ W0, (w.alloc (.cells #[.int .i64 x.k, .int .i64 x.op, .int .i64 x.t, .int .i64 x.v, .string x.nm, .slice x.A x.ar.length x.c] 33)) = W0 := ⟨_, rfl⟩
  have hB0 : Below w.heap.size w W0 := by rw [← hW0]; exact bel_box _
  have b0 : W0.cell? ⟨w.heap.size, 0, none⟩ = some (.int .i64 x.k) := by rw [← hW0]; simp [go_sem]
  have b1 : W0.cell? ⟨w.heap.size, 1, none⟩ = some (.int .i64 x.op) := by rw [← hW0]; simp [go_sem]
  have b2 : W0.cell? ⟨w.heap.size, 2, none⟩ = some (.int .i64 x.t) := by rw [← hW0]; simp [go_sem]
  have b3 : W0.cell? ⟨w.heap.size, 3, none⟩ = some (.int .i64 x.v) := by rw [← hW0]; simp [go_sem]
  have b4 : W0.cell? ⟨w.heap.size, 4, none⟩ = some (.string x.nm) := by rw [← hW0]; simp [go_sem]
  have b5 : W0.cell? ⟨w.heap.size, 5, none⟩ = some (.slice x.A x.ar.length x.c) := by rw [← hW0]; simp [go_sem]
  have HW0 := Lib.hid hW0
  clear hW0
  rw [HW0.out]
  obtain ⟨ad0, y0, hA0, had0, hy0, _, ⟨c00, c01, c02, c03, c04, c05⟩, _⟩ := (hx.to hB0).at_ (i := 0) (by have := (List.getElem?_eq_some_iff.1 h0).1; omega)
  obtain rfl : y0 = a0 := Option.some.inj (hy0.symm.trans h0)
  obtain ⟨ad1, y1, hA1, had1, hy1, _, ⟨c10, c11, c12, c13, c14, c15⟩, _⟩ := (hx.to hB0).at_ (i := 1) (by have := (List.getElem?_eq_some_iff.1 h1).1; omega)
  obtain rfl : y1 = a1 := Option.some.inj (hy1.symm.trans h1)
  obtain ⟨ad2, y2, hA2, had2, hy2, _, ⟨c20, c21, c22, c23, c24, c25⟩, _⟩ := (hx.to hB0).at_ (i := 2) (by have := (List.getElem?_eq_some_iff.1 h2).1; omega)
  obtain rfl : y2 = a2 := Option.some.inj (hy2.symm.trans h2)
  obtain rfl : ad0 = ad1 := Option.some.inj (hA0.symm.trans hA1)
  obtain rfl : ad0 = ad2 := Option.some.inj (hA0.symm.trans hA2)
  rw [hA0] at b5 ⊢
  clear hA0 hy0 hA1 hy1 hA2 hy2
  simp [go_sem] at c00 c01 c02 c03 c04 c05 c10 c11 c12 c13 c14 c15 c20 c21 c22 c23 c24 c25
  have q_b0 := cell_regrown b0
  have q_b1 := cell_regrown b1
  have q_b2 := cell_regrown b2
  have q_b3 := cell_regrown b3
  have q_b4 := cell_regrown b4
  have q_b5 := cell_regrown b5
  have q_c00 := cell_regrown c00
  have q_c01 := cell_regrown c01
  have q_c02 := cell_regrown c02
  have q_c03 := cell_regrown c03
  have q_c04 := cell_regrown c04
  have q_c05 := cell_regrown c05
  have q_c10 := cell_regrown c10
  have q_c11 := cell_regrown c11
  have q_c12 := cell_regrown c12
  have q_c13 := cell_regrown c13
  have q_c14 := cell_regrown c14
  have q_c15 := cell_regrown c15
  have q_c20 := cell_regrown c20
  have q_c21 := cell_regrown c21
  have q_c22 := cell_regrown c22
  have q_c23 := cell_regrown c23
  have q_c24 := cell_regrown c24
  have q_c25 := cell_regrown c25
  have k_0 := fun dd os => Calls.regrown_of (K0.out (grow (redrawn W0 dd) os) (hB0.trans ((below_regrown W0 dd os).mono hB0.size)))
  have k_1 := fun dd os => Calls.regrown_of (K1.out (grow (redrawn W0 dd) os) (hB0.trans ((below_regrown W0 dd os).mono hB0.size)))
  have k_2 := fun dd os => Calls.regrown_of (K2.out (grow (redrawn W0 dd) os) (hB0.trans ((below_regrown W0 dd os).mono hB0.size)))
  refine wp_region_quiet_below (by kernel_rfl) (by kernel_rfl) ?_
  repeat (quiet_step (first | with_reducible exact k_0 _ _ | with_reducible exact k_1 _ _ | with_reducible exact k_2 _ _))
  refine wpQuiet_nil ?_
  intro _ hw'
  obtain ⟨⟨dq, osq⟩, hw''⟩ := hw'
  subst hw''
  have hrw9 : Below W0.heap.size W0 (grow (redrawn W0 dq) osq) := below_regrown W0 dq osq
  have hw9 : Below w.heap.size w (grow (redrawn W0 dq) osq) := hB0.trans (hrw9.mono hB0.size)
  generalize grow (redrawn W0 dq) osq = w9 at hw9 hrw9 ⊢
  clear q_b0 q_b1 q_b2 q_b3 q_b4 q_b5 q_c00 q_c01 q_c02 q_c03 q_c04 q_c05 q_c10 q_c11 q_c12 q_c13 q_c14 q_c15 q_c20 q_c21 q_c22 q_c23 q_c24 q_c25 k_0 k_1 k_2
  go_wp2
  go_ret
  exact ⟨rfl, hw9⟩
set_option maxHeartbeats 2000000 in
set_option maxRecDepth 20000 in
theorem vr_text11 (E : Rw va.En) (x : Xt) (f : Xt → List UInt8) (w : World) (hE : RsE w w.heap.size E) (hx : RdX w w.heap.size x) (hxt : x.t ≤ 9223372036854775807) (hl : x.ar.length ≤ 1048576) (hw : wf1 x) (h : (ndS E.l x (x.ar.map f)).length ≤ 140737488355328) (hk : x.k = 11) :
    Calls Tryz.prog 38 #[.slice E.A E.l.length E.c, xV x] w (Bel (.string (tB (ndS E.l x (x.ar.map f)))) w) := by
  unfold ndS at h ⊢
  rw [if_neg (by omega), if_neg (by omega), if_neg (by omega), if_neg (by omega), if_neg (by omega), if_neg (by omega), if_neg (by omega), if_neg (by omega), if_neg (by omega), if_pos hk] at h ⊢
  have qk0 : (x.k == 1) = false := by simp [hk]
  have qk1 : (x.k == 2) = false := by simp [hk]
  have qk2 : (x.k == 3) = false := by simp [hk]
  have qk3 : (x.k == 4) = false := by simp [hk]
  have qk4 : (x.k == 5) = false := by simp [hk]
  have qk5 : (x.k == 6) = false := by simp [hk]
  have qk6 : (x.k == 7) = false := by simp [hk]
  have qk7 : (x.k == 8) = false := by simp [hk]
  have qk8 : (x.k == 9) = false := by simp [hk]
  have qk9 : (x.k == 10) = false := by simp [hk]
  obtain ⟨z1, hz1⟩ : ∃ q, ([39]) ++ (bsT x.nm) = q := ⟨_, rfl⟩
  have lz1 := congrArg List.length hz1
  rw [List.length_append] at lz1
  obtain ⟨z2, hz2⟩ : ∃ q, (z1) ++ ([39]) = q := ⟨_, rfl⟩
  have lz2 := congrArg List.length hz2
  rw [List.length_append] at lz2
  have heq : z2 = [39] ++ bsT x.nm ++ [39] := by
    subst hz1 hz2
    rfl
  have hll : z2.length ≤ 140737488355328 := by rw [heq]; exact h
  have kaz1 := fun w => add_tB (P := Tryz.prog) w (A := ⟨#[39]⟩) (B := x.nm) rfl (tB_bsT _).symm hz1 (by (try simp only [List.length_cons, List.length_nil] at *); omega)
  have kaz2 := fun w => add_tB (P := Tryz.prog) w (A := tB z1) (B := ⟨#[39]⟩) rfl rfl hz2 (by (try simp only [List.length_cons, List.length_nil] at *); omega)
  have HZ := Lib.hid heq
  clear heq hll hz1 hz2 lz1 lz2
  rw [← HZ.out]
  clear HZ hE hx h hw hk
  simp only [xV]
  go_enter Tryz.func38, Tryz.ntmps38
  go_wp2
  go_ret
  exact ⟨rfl, (by repeat (first | (with_reducible exact Below.refl _ _) | (with_reducible assumption) | (with_reducible exact bel_box _) | (with_reducible refine bel_step ?_ (by with_reducible assumption)) | (with_reducible refine Below.drew ?_) | (with_reducible refine below_drewN ?_ _) | (with_reducible refine bel_alloc ?_ _)))⟩
set_option maxHeartbeats 2000000 in
set_option maxRecDepth 20000 in
theorem vr_text2 (E : Rw va.En) (x : Xt) (f : Xt → List UInt8) (w : World) (hE : RsE w w.heap.size E) (hx : RdX w w.heap.size x) (hxt : x.t ≤ 9223372036854775807) (hl : x.ar.length ≤ 1048576) (hw : wf1 x) (h : (ndS E.l x (x.ar.map f)).length ≤ 140737488355328) (hk : x.k = 2) :
    Calls Tryz.prog 38 #[.slice E.A E.l.length E.c, xV x] w (Bel (.string (tB (ndS E.l x (x.ar.map f)))) w) := by
  unfold ndS
  rw [if_neg (by omega), if_neg (by omega), if_neg (by omega), if_neg (by omega), if_neg (by omega), if_neg (by omega), if_neg (by omega), if_neg (by omega), if_neg (by omega), if_neg (by omega)]
  rw [tB_bsT]
  have qk0 : (x.k == 1) = false := by simp [hk]
  have qk1 : (x.k == 2) = true := by simp [hk]
  clear hE hx h hw hk
  simp only [xV]
  go_enter Tryz.func38, Tryz.ntmps38
  go_wp2
  go_ret
  exact ⟨rfl, (by repeat (first | (with_reducible exact Below.refl _ _) | (with_reducible assumption) | (with_reducible exact bel_box _) | (with_reducible refine bel_step ?_ (by with_reducible assumption)) | (with_reducible refine Below.drew ?_) | (with_reducible refine below_drewN ?_ _) | (with_reducible refine bel_alloc ?_ _)))⟩
set_option maxHeartbeats 2000000 in
set_option maxRecDepth 20000 in
theorem vr_text8 (E : Rw va.En) (x : Xt) (f : Xt → List UInt8) (w : World) (hE : RsE w w.heap.size E) (hx : RdX w w.heap.size x) (hxt : x.t ≤ 9223372036854775807) (hl : x.ar.length ≤ 1048576) (hw : wf1 x)
    (KX : Hid (∀ y ∈ x.ar, ∀ W, Below w.heap.size w W → Calls Tryz.prog 38 #[.slice E.A E.l.length E.c, xV y] W (Bel (.string (tB (f y))) W))) (h : (ndS E.l x (x.ar.map f)).length ≤ 140737488355328) (hk : x.k = 8) :
    Calls Tryz.prog 38 #[.slice E.A E.l.length E.c, xV x] w (Bel (.string (tB (ndS E.l x (x.ar.map f)))) w) := by
  have hl2 : x.ar.length = 1 := hw.2.2.1 (.inr hk)
  obtain ⟨a0, h0⟩ := at_of (l := x.ar) (i := 0) (by omega)
  unfold ndS at h ⊢
  rw [if_neg (by omega), if_neg (by omega), if_neg (by omega), if_neg (by omega), if_neg (by omega), if_neg (by omega), if_pos hk] at h ⊢
  rw [opI_at h0] at h ⊢
  have KO0 : Hid (∀ W, Below w.heap.size w W → Calls Tryz.prog 74 #[.slice E.A E.l.length E.c, xV a0] W (Bel (.string (tB (opdS a0 (f a0)))) W)) := Lib.hid fun W hb => vr_operand E a0 (f a0) W (by simp only [List.length_append] at h; omega) (Lib.hid fun W' hb' => KX.out a0 (List.mem_of_getElem? h0) W' (hb.trans (hb'.mono hb.size)))
  have KS : Hid (∀ W, Below w.heap.size w W → Calls Tryz.prog 72 #[.slice E.A E.l.length E.c, .int .i64 x.t, .int .i64 x.v] W (Bel (.string (tB (valS E.l x.t x.v))) W)) := Lib.hid fun W hb => vr_val E x.t x.v W (hE.blw hb hb.size) hxt
  unfold smpS brS at h ⊢
  simp only [] at h ⊢
  have qk0 : (x.k == 1) = false := by simp [hk]
  have qk1 : (x.k == 2) = false := by simp [hk]
  have qk2 : (x.k == 3) = false := by simp [hk]
  have qk3 : (x.k == 4) = false := by simp [hk]
  have qk4 : (x.k == 5) = false := by simp [hk]
  have qk5 : (x.k == 6) = false := by simp [hk]
  have qk6 : (x.k == 7) = false := by simp [hk]
  have qk7 : (x.k == 8) = true := by simp [hk]
  generalize opdS a0 (f a0) = o0 at *
  generalize valS E.l x.t x.v = sm at *
  obtain ⟨z1, hz1⟩ : ∃ q, (o0) ++ ([32, 119, 104, 101, 110, 32]) = q := ⟨_, rfl⟩
  have lz1 := congrArg List.length hz1
  rw [List.length_append] at lz1
  obtain ⟨z2, hz2⟩ : ∃ q, (z1) ++ (sm) = q := ⟨_, rfl⟩
  have lz2 := congrArg List.length hz2
  rw [List.length_append] at lz2
  obtain ⟨z3, hz3⟩ : ∃ q, (z2) ++ ([40]) = q := ⟨_, rfl⟩
  have lz3 := congrArg List.length hz3
  rw [List.length_append] at lz3
  obtain ⟨z4, hz4⟩ : ∃ q, (z3) ++ (bsT x.nm) = q := ⟨_, rfl⟩
  have lz4 := congrArg List.length hz4
  rw [List.length_append] at lz4
  obtain ⟨z5, hz5⟩ : ∃ q, (z4) ++ ([41]) = q := ⟨_, rfl⟩
  have lz5 := congrArg List.length hz5
  rw [List.length_append] at lz5
  have heq : z5 = o0 ++ [32] ++ ([119, 104, 101, 110, 32] ++ sm ++ ([40] ++ bsT x.nm ++ [41])) := by
    subst hz1 hz2 hz3 hz4 hz5
    simp only [List.append_assoc, List.cons_append, List.nil_append]
  have hll : z5.length ≤ 140737488355328 := by rw [heq]; exact h
  have kaz1 := fun w => add_tB (P := Tryz.prog) w (A := tB o0) (B := ⟨#[32, 119, 104, 101, 110, 32]⟩) rfl rfl hz1 (by (try simp only [List.length_cons, List.length_nil] at *); omega)
  have kaz2 := fun w => add_tB (P := Tryz.prog) w (A := tB z1) (B := tB sm) rfl rfl hz2 (by (try simp only [List.length_cons, List.length_nil] at *); omega)
  have kaz3 := fun w => add_tB (P := Tryz.prog) w (A := tB z2) (B := ⟨#[40]⟩) rfl rfl hz3 (by (try simp only [List.length_cons, List.length_nil] at *); omega)
  have kaz4 := fun w => add_tB (P := Tryz.prog) w (A := tB z3) (B := x.nm) rfl (tB_bsT _).symm hz4 (by (try simp only [List.length_cons, List.length_nil] at *); omega)
  have kaz5 := fun w => add_tB (P := Tryz.prog) w (A := tB z4) (B := ⟨#[41]⟩) rfl rfl hz5 (by (try simp only [List.length_cons, List.length_nil] at *); omega)
  have HZ := Lib.hid heq
  clear heq hll hz1 hz2 hz3 hz4 hz5 lz1 lz2 lz3 lz4 lz5
  rw [← HZ.out]
  clear hl2 hw hk
  have hlen : x.ar.length ≤ 9223372036854775807 := by have := hx.len.1; unfold maxLen at this; exact this
  have hmx := (List.getElem?_eq_some_iff.1 h0).1
  have hi0 : (0 : Int) < (x.ar.length : Int) := by omega
  have hn0 : 0 < x.ar.length := by omega
  simp only [xV] at KO0 ⊢
  clear KX HZ h hE
  go_enter Tryz.func38, Tryz.ntmps38
  go_wp2
  obtain ⟨W0, hW0⟩ : ∃ W0, (w.alloc (.cells #[.int .i64 x.k, .int .i64 x.op, .int .i64 x.t, .int .i64 x.v, .string x.nm, .slice x.A x.ar.length x.c] 33)) = W0 := ⟨_, rfl⟩
  have hB0 : Below w.heap.size w W0 := by rw [← hW0]; exact bel_box _
  have b0 : W0.cell? ⟨w.heap.size, 0, none⟩ = some (.int .i64 x.k) := by rw [← hW0]; simp [go_sem]
  have b1 : W0.cell? ⟨w.heap.size, 1, none⟩ = some (.int .i64 x.op) := by rw [← hW0]; simp [go_sem]
  have b2 : W0.cell? ⟨w.heap.size, 2, none⟩ = some (.int .i64 x.t) := by rw [← hW0]; simp [go_sem]
  have b3 : W0.cell? ⟨w.heap.size, 3, none⟩ = some (.int .i64 x.v) := by rw [← hW0]; simp [go_sem]
  have b4 : W0.cell? ⟨w.heap.size, 4, none⟩ = some (.string x.nm) := by rw [← hW0]; simp [go_sem]
  have b5 : W0.cell? ⟨w.heap.size, 5, none⟩ = some (.slice x.A x.ar.length x.c) := by rw [← hW0]; simp [go_sem]
  have HW0 := Lib.hid hW0
  clear hW0
  rw [HW0.out]
  obtain ⟨ad0, y0, hA0, had0, hy0, _, ⟨c00, c01, c02, c03, c04, c05⟩, _⟩ := (hx.to hB0).at_ (i := 0) (by have := (List.getElem?_eq_some_iff.1 h0).1; omega)
  obtain rfl : y0 = a0 := Option.some.inj (hy0.symm.trans h0)
  rw [hA0] at b5 ⊢
  clear hA0 hy0
  simp [go_sem] at c00 c01 c02 c03 c04 c05
  have q_b0 := cell_regrown b0
  have q_b1 := cell_regrown b1
  have q_b2 := cell_regrown b2
  have q_b3 := cell_regrown b3
  have q_b4 := cell_regrown b4
  have q_b5 := cell_regrown b5
  have q_c00 := cell_regrown c00
  have q_c01 := cell_regrown c01
  have q_c02 := cell_regrown c02
  have q_c03 := cell_regrown c03
  have q_c04 := cell_regrown c04
  have q_c05 := cell_regrown c05
  have k_0 := fun dd os => Calls.regrown_of (KO0.out (grow (redrawn W0 dd) os) (hB0.trans ((below_regrown W0 dd os).mono hB0.size)))
  have k_1 := fun dd os => Calls.regrown_of (KS.out (grow (redrawn W0 dd) os) (hB0.trans ((below_regrown W0 dd os).mono hB0.size)))
  refine wp_region_quiet_below (by kernel_rfl) (by kernel_rfl) ?_
  repeat (quiet_step (first | with_reducible exact k_0 _ _ | with_reducible exact k_1 _ _))
  refine wpQuiet_nil ?_
  intro _ hw'
  obtain ⟨⟨dq, osq⟩, hw''⟩ := hw'
  subst hw''
  have hrw9 : Below W0.heap.size W0 (grow (redrawn W0 dq) osq) := below_regrown W0 dq osq
  have hw9 : Below w.heap.size w (grow (redrawn W0 dq) osq) := hB0.trans (hrw9.mono hB0.size)
  generalize grow (redrawn W0 dq) osq = w9 at hw9 hrw9 ⊢
  clear q_b0 q_b1 q_b2 q_b3 q_b4 q_b5 q_c00 q_c01 q_c02 q_c03 q_c04 q_c05 k_0 k_1
  go_wp2
  go_ret
  exact ⟨rfl, hw9⟩
end Go.Proofs.YtoimjcfdiljkjaaGreatDoor
/- text of the reference at a merge. -/
namespace Go.Proofs.YtoimjcfdiljkjaaGreatDoor
set_option linter.unusedVariables false
set_option linter.unusedSimpArgs false
open Go.RowKit Go.Sort
set_option maxHeartbeats 2000000 in
set_option maxRecDepth 20000 in
theorem vr_text9 (E : Rw va.En) (x : Xt) (f : Xt → List UInt8) (w : World) (hE : RsE w w.heap.size E) (hx : RdX w w.heap.size x) (hxt : x.t ≤ 9223372036854775807) (hl : x.ar.length ≤ 1048576) (hw : wf1 x)
    (KX : Hid (∀ y ∈ x.ar, ∀ W, Below w.heap.size w W → Calls Tryz.prog 38 #[.slice E.A E.l.length E.c, xV y] W (Bel (.string (tB (f y))) W))) (h : (ndS E.l x (x.ar.map f)).length ≤ 140737488355328) (hk : x.k = 9) :
    Calls Tryz.prog 38 #[.slice E.A E.l.length E.c, xV x] w (Bel (.string (tB (ndS E.l x (x.ar.map f)))) w) := by
  unfold ndS at h ⊢
  rw [if_neg (by omega), if_neg (by omega), if_neg (by omega), if_neg (by omega), if_neg (by omega), if_neg (by omega), if_neg (by omega), if_pos hk] at h ⊢
  have hL2 := hw.2.2.2.2.1 hk
  unfold mrgS at h ⊢
  obtain ⟨F, hF⟩ : ∃ F : Nat → List UInt8, F = fun k => [109, 101, 114, 103, 101, 32] ++ bsT x.nm ++ ((brsS E.l x.t (x.ar.map f)).take k).flatten := ⟨_, rfl⟩
  have hbl9 : (brsS E.l x.t (x.ar.map f)).length = x.ar.length := by
    unfold brsS
    split <;> simp
  have hfl : F x.ar.length = [109, 101, 114, 103, 101, 32] ++ bsT x.nm ++ (brsS E.l x.t (x.ar.map f)).flatten := by
    rw [hF]
    simp only
    rw [List.take_of_length_le (by omega)]
  have HF : Hid (∀ k kk y, k < x.ar.length → ((x.t ≠ 1 ∧ kk = k) ∨ (x.t = 1 ∧ kk = 1 - k)) → x.ar[kk]? = some y → F (k + 1) = F k ++ braS E.l x.t kk (f y) ∧ (F (k + 1)).length ≤ 140737488355328) := Lib.hid fun k kk y hk1 hkk hy => by
    have hb : (brsS E.l x.t (x.ar.map f))[k]? = some (braS E.l x.t kk (f y)) := by
      unfold brsS
      rcases hkk with ⟨h1, rfl⟩ | ⟨h1, rfl⟩
      · rw [if_neg h1]; exact bra_at E.l x.t hy
      · have h2 := hL2 h1
        rw [if_pos h1, List.getElem?_reverse (by simp; omega)]
        simp only [List.length_mapIdx, List.length_map]
        rw [show x.ar.length - 1 - k = 1 - k by omega]
        exact bra_at E.l x.t hy
    have hft := flat_take id (brsS E.l x.t (x.ar.map f)) hb
    simp only [List.map_id] at hft
    have e1 : F (k + 1) = F k ++ braS E.l x.t kk (f y) := by
      rw [hF]
      simp only
      rw [hft]
      simp only [List.append_assoc, id]
    refine ⟨e1, ?_⟩
    have hfle := flat_le id (brsS E.l x.t (x.ar.map f)) (k + 1)
    simp only [List.map_id] at hfle
    rw [hF]
    simp only [List.length_append] at h ⊢
    omega
  have hF0 : [109, 101, 114, 103, 101, 32] ++ bsT x.nm = F 0 := by rw [hF]; simp
  have hl0 : (F 0).length ≤ 140737488355328 := by
    rw [← hF0]
    simp only [List.length_append] at h ⊢
    omega
  rw [← hfl]
  have HX := Lib.hid hx
  have KVV : Hid (∀ (k : Nat) (W : World), Below w.heap.size w W → Calls Tryz.prog 72 #[.slice E.A E.l.length E.c, .int .i64 x.t, .int .i64 (k : Int)] W (Bel (.string (tB (valS E.l x.t k))) W)) := Lib.hid fun k W hb => vr_val E x.t k W (hE.blw hb hb.size) hxt
  have ka0 := fun w => add_tB (P := Tryz.prog) w (A := ⟨#[109, 101, 114, 103, 101, 32]⟩) (B := x.nm) rfl (tB_bsT _).symm hF0 (by rw [← hF0, List.length_append] at hl0; omega)
  have qk0 : (x.k == 1) = false := by simp [hk]
  have qk1 : (x.k == 2) = false := by simp [hk]
  have qk2 : (x.k == 3) = false := by simp [hk]
  have qk3 : (x.k == 4) = false := by simp [hk]
  have qk4 : (x.k == 5) = false := by simp [hk]
  have qk5 : (x.k == 6) = false := by simp [hk]
  have qk6 : (x.k == 7) = false := by simp [hk]
  have qk7 : (x.k == 8) = false := by simp [hk]
  have qk8 : (x.k == 9) = true := by simp [hk]
  have h9 := hx.len.1
  unfold maxLen at h9
  clear hbl9 hfl hF hF0 hl0 h hE hx hxt hw hk
  generalize hz0 : F 0 = z0 at *
  have HZ0 := Lib.hid hz0
  clear hz0
  simp only [xV]
  go_enter Tryz.func38, Tryz.ntmps38
  go_wp2
  obtain ⟨W0, hW0⟩ : ∃ W0, (w.alloc (.cells #[.int .i64 x.k, .int .i64 x.op, .int .i64 x.t, .int .i64 x.v, .string x.nm, .slice x.A x.ar.length x.c] 33)) = W0 := ⟨_, rfl⟩
  have hB0 : Below w.heap.size w W0 := by rw [← hW0]; exact bel_box _
  have b0 : W0.cell? ⟨w.heap.size, 0, none⟩ = some (.int .i64 x.k) := by rw [← hW0]; simp [go_sem]
  have b1 : W0.cell? ⟨w.heap.size, 1, none⟩ = some (.int .i64 x.op) := by rw [← hW0]; simp [go_sem]
  have b2 : W0.cell? ⟨w.heap.size, 2, none⟩ = some (.int .i64 x.t) := by rw [← hW0]; simp [go_sem]
  have b3 : W0.cell? ⟨w.heap.size, 3, none⟩ = some (.int .i64 x.v) := by rw [← hW0]; simp [go_sem]
  have b4 : W0.cell? ⟨w.heap.size, 4, none⟩ = some (.string x.nm) := by rw [← hW0]; simp [go_sem]
  have b5 : W0.cell? ⟨w.heap.size, 5, none⟩ = some (.slice x.A x.ar.length x.c) := by rw [← hW0]; simp [go_sem]
  have HW0 := Lib.hid hW0
  clear hW0
  rw [HW0.out]
  clear HW0 ka0
  go_loopw [5, 6] (fun s i wr => ∃ k : Nat, k ≤ x.ar.length ∧ i = .int .i64 (k : Int) ∧ s = .string (tB (F k)) ∧ Below W0.heap.size W0 wr) (fun _ i _ => x.ar.length - (intOf i).toNat)
  case atStart => exact ⟨0, by omega, rfl, by rw [HZ0.out], Below.refl _ _⟩
  case round =>
    obtain ⟨k, hk, rfl, rfl, hbl⟩ := hrel
    have hbw : Below w.heap.size w wr := hB0.trans (hbl.mono hB0.size)
    have b0 := cell_below hbl b0
    have b1 := cell_below hbl b1
    have b2 := cell_below hbl b2
    have b3 := cell_below hbl b3
    have b4 := cell_below hbl b4
    have b5 := cell_below hbl b5
    by_cases hlt : k < x.ar.length
    · have hik : (k : Int) < (x.ar.length : Int) := by omega
      by_cases t1 : x.t = 1
      · have q0 : (x.t == 1) = true := by simp [t1]
        have h2 := hL2 t1
        have e1 : (1 : Int) - (k : Int) = ((1 - k : Nat) : Int) := by omega
        obtain ⟨kk, hkk⟩ : ∃ kk, kk = 1 - k := ⟨_, rfl⟩
        rw [← hkk] at e1
        have hkl : kk < x.ar.length := by omega
        have hkl2 : (kk : Int) < (x.ar.length : Int) := by omega
        obtain ⟨ad, y, hA, had, hy, hm, ⟨c0, c1, c2, c3, c4, c5⟩, _⟩ := (HX.out.to hbw).at_ (i := kk) (by omega)
        rw [hA] at b5
        obtain ⟨hj, hle⟩ := HF.out k kk y hlt (by exact .inr ⟨t1, hkk⟩) hy
        have KY := Lib.hid (KX.out y hm)
        have KV := Lib.hid (KVV.out kk)
        clear hA hy hm HF KX KVV t1 hkk h2
        obtain ⟨s1, hs1⟩ : ∃ q, F (k + 1) = q := ⟨_, rfl⟩
        have HS1 := Lib.hid hs1
        rw [hs1] at hj hle
        clear hs1
        obtain ⟨s0, hs0⟩ : ∃ q, F k = q := ⟨_, rfl⟩
        rw [hs0] at hj ⊢
        clear hs0
        unfold braS brS at hj
        generalize f y = s at *
        generalize valS E.l x.t kk = v at *
        rw [hj] at hle
        obtain ⟨z1, hz1⟩ : ∃ q, (s0) ++ ([32, 40]) = q := ⟨_, rfl⟩
        have lz1 := congrArg List.length hz1
        rw [List.length_append] at lz1
        obtain ⟨z2, hz2⟩ : ∃ q, (z1) ++ (v) = q := ⟨_, rfl⟩
        have lz2 := congrArg List.length hz2
        rw [List.length_append] at lz2
        obtain ⟨z3, hz3⟩ : ∃ q, (z2) ++ ([32, 45, 62, 32]) = q := ⟨_, rfl⟩
        have lz3 := congrArg List.length hz3
        rw [List.length_append] at lz3
        obtain ⟨z4, hz4⟩ : ∃ q, (z3) ++ (s) = q := ⟨_, rfl⟩
        have lz4 := congrArg List.length hz4
        rw [List.length_append] at lz4
        obtain ⟨z5, hz5⟩ : ∃ q, (z4) ++ ([41]) = q := ⟨_, rfl⟩
        have lz5 := congrArg List.length hz5
        rw [List.length_append] at lz5
        have heq : z5 = s0 ++ ([32] ++ ([40] ++ (v ++ [32, 45, 62, 32] ++ s) ++ [41])) := by
          subst hz1 hz2 hz3 hz4 hz5
          simp only [List.append_assoc, List.cons_append, List.nil_append]
        have hll : z5.length ≤ 140737488355328 := by rw [heq]; exact hle
        have kaz1 := fun w => add_tB (P := Tryz.prog) w (A := tB s0) (B := ⟨#[32, 40]⟩) rfl rfl hz1 (by (try simp only [List.length_cons, List.length_nil] at *); omega)
        have kaz2 := fun w => add_tB (P := Tryz.prog) w (A := tB z1) (B := tB v) rfl rfl hz2 (by (try simp only [List.length_cons, List.length_nil] at *); omega)
        have kaz3 := fun w => add_tB (P := Tryz.prog) w (A := tB z2) (B := ⟨#[32, 45, 62, 32]⟩) rfl rfl hz3 (by (try simp only [List.length_cons, List.length_nil] at *); omega)
        have kaz4 := fun w => add_tB (P := Tryz.prog) w (A := tB z3) (B := tB s) rfl rfl hz4 (by (try simp only [List.length_cons, List.length_nil] at *); omega)
        have kaz5 := fun w => add_tB (P := Tryz.prog) w (A := tB z4) (B := ⟨#[41]⟩) rfl rfl hz5 (by (try simp only [List.length_cons, List.length_nil] at *); omega)
        have HZ := Lib.hid heq
        clear heq hll hz1 hz2 hz3 hz4 hz5 lz1 lz2 lz3 lz4 lz5
        have HN : Hid (F (k + 1) = z5) := Lib.hid (HS1.out.trans (hj.trans HZ.out.symm))
        clear hj hle HZ HS1
        simp only [xV] at KY
        go_wp2
        have q_b0 := cell_regrown b0
        have q_b1 := cell_regrown b1
        have q_b2 := cell_regrown b2
        have q_b3 := cell_regrown b3
        have q_b4 := cell_regrown b4
        have q_b5 := cell_regrown b5
        have q_c0 := cell_regrown c0
        have q_c1 := cell_regrown c1
        have q_c2 := cell_regrown c2
        have q_c3 := cell_regrown c3
        have q_c4 := cell_regrown c4
        have q_c5 := cell_regrown c5
        have k_0 := fun dd os => Calls.regrown_of (KV.out (grow (redrawn wr dd) os) (hbw.trans ((below_regrown wr dd os).mono hbw.size)))
        have k_1 := fun dd os => Calls.regrown_of (KY.out (grow (redrawn wr dd) os) (hbw.trans ((below_regrown wr dd os).mono hbw.size)))
        refine wp_region_quiet_below (by kernel_rfl) (by kernel_rfl) ?_
        repeat (quiet_step (first | with_reducible exact k_0 _ _ | with_reducible exact k_1 _ _))
        refine wpQuiet_nil ?_
        intro _ hw'
        obtain ⟨⟨dq, osq⟩, hw''⟩ := hw'
        subst hw''
        have hrw9 : Below wr.heap.size wr (grow (redrawn wr dq) osq) := below_regrown wr dq osq
        have hw9 : Below w.heap.size w (grow (redrawn wr dq) osq) := hbw.trans (hrw9.mono hbw.size)
        generalize grow (redrawn wr dq) osq = w9 at hw9 hrw9 ⊢
        clear q_b0 q_b1 q_b2 q_b3 q_b4 q_b5 q_c0 q_c1 q_c2 q_c3 q_c4 q_c5 k_0 k_1
        go_wp2
        exact ⟨⟨k + 1, by omega, by congr 1, by rw [HN.out], hbl.trans (hrw9.mono hbl.size)⟩, by simp [intOf]; omega⟩
      · have q0 : (x.t == 1) = false := by simp [t1]
        obtain ⟨ad, y, hA, had, hy, hm, ⟨c0, c1, c2, c3, c4, c5⟩, _⟩ := (HX.out.to hbw).at_ (i := k) (by omega)
        rw [hA] at b5
        obtain ⟨hj, hle⟩ := HF.out k k y hlt (by exact .inl ⟨t1, rfl⟩) hy
        have KY := Lib.hid (KX.out y hm)
        have KV := Lib.hid (KVV.out k)
        clear hA hy hm HF KX KVV t1
        obtain ⟨s1, hs1⟩ : ∃ q, F (k + 1) = q := ⟨_, rfl⟩
        have HS1 := Lib.hid hs1
        rw [hs1] at hj hle
        clear hs1
        obtain ⟨s0, hs0⟩ : ∃ q, F k = q := ⟨_, rfl⟩
        rw [hs0] at hj ⊢
        clear hs0
        unfold braS brS at hj
        generalize f y = s at *
        generalize valS E.l x.t k = v at *
        rw [hj] at hle
        obtain ⟨z1, hz1⟩ : ∃ q, (s0) ++ ([32, 40]) = q := ⟨_, rfl⟩
        have lz1 := congrArg List.length hz1
        rw [List.length_append] at lz1
        obtain ⟨z2, hz2⟩ : ∃ q, (z1) ++ (v) = q := ⟨_, rfl⟩
        have lz2 := congrArg List.length hz2
        rw [List.length_append] at lz2
        obtain ⟨z3, hz3⟩ : ∃ q, (z2) ++ ([32, 45, 62, 32]) = q := ⟨_, rfl⟩
        have lz3 := congrArg List.length hz3
        rw [List.length_append] at lz3
        obtain ⟨z4, hz4⟩ : ∃ q, (z3) ++ (s) = q := ⟨_, rfl⟩
        have lz4 := congrArg List.length hz4
        rw [List.length_append] at lz4
        obtain ⟨z5, hz5⟩ : ∃ q, (z4) ++ ([41]) = q := ⟨_, rfl⟩
        have lz5 := congrArg List.length hz5
        rw [List.length_append] at lz5
        have heq : z5 = s0 ++ ([32] ++ ([40] ++ (v ++ [32, 45, 62, 32] ++ s) ++ [41])) := by
          subst hz1 hz2 hz3 hz4 hz5
          simp only [List.append_assoc, List.cons_append, List.nil_append]
        have hll : z5.length ≤ 140737488355328 := by rw [heq]; exact hle
        have kaz1 := fun w => add_tB (P := Tryz.prog) w (A := tB s0) (B := ⟨#[32, 40]⟩) rfl rfl hz1 (by (try simp only [List.length_cons, List.length_nil] at *); omega)
        have kaz2 := fun w => add_tB (P := Tryz.prog) w (A := tB z1) (B := tB v) rfl rfl hz2 (by (try simp only [List.length_cons, List.length_nil] at *); omega)
        have kaz3 := fun w => add_tB (P := Tryz.prog) w (A := tB z2) (B := ⟨#[32, 45, 62, 32]⟩) rfl rfl hz3 (by (try simp only [List.length_cons, List.length_nil] at *); omega)
        have kaz4 := fun w => add_tB (P := Tryz.prog) w (A := tB z3) (B := tB s) rfl rfl hz4 (by (try simp only [List.length_cons, List.length_nil] at *); omega)
        have kaz5 := fun w => add_tB (P := Tryz.prog) w (A := tB z4) (B := ⟨#[41]⟩) rfl rfl hz5 (by (try simp only [List.length_cons, List.length_nil] at *); omega)
        have HZ := Lib.hid heq
        clear heq hll hz1 hz2 hz3 hz4 hz5 lz1 lz2 lz3 lz4 lz5
        have HN : Hid (F (k + 1) = z5) := Lib.hid (HS1.out.trans (hj.trans HZ.out.symm))
        clear hj hle HZ HS1
        simp only [xV] at KY
        go_wp2
        have q_b0 := cell_regrown b0
        have q_b1 := cell_regrown b1
        have q_b2 := cell_regrown b2
        have q_b3 := cell_regrown b3
        have q_b4 := cell_regrown b4
        have q_b5 := cell_regrown b5
        have q_c0 := cell_regrown c0
        have q_c1 := cell_regrown c1
        have q_c2 := cell_regrown c2
        have q_c3 := cell_regrown c3
        have q_c4 := cell_regrown c4
        have q_c5 := cell_regrown c5
        have k_0 := fun dd os => Calls.regrown_of (KV.out (grow (redrawn wr dd) os) (hbw.trans ((below_regrown wr dd os).mono hbw.size)))
        have k_1 := fun dd os => Calls.regrown_of (KY.out (grow (redrawn wr dd) os) (hbw.trans ((below_regrown wr dd os).mono hbw.size)))
        refine wp_region_quiet_below (by kernel_rfl) (by kernel_rfl) ?_
        repeat (quiet_step (first | with_reducible exact k_0 _ _ | with_reducible exact k_1 _ _))
        refine wpQuiet_nil ?_
        intro _ hw'
        obtain ⟨⟨dq, osq⟩, hw''⟩ := hw'
        subst hw''
        have hrw9 : Below wr.heap.size wr (grow (redrawn wr dq) osq) := below_regrown wr dq osq
        have hw9 : Below w.heap.size w (grow (redrawn wr dq) osq) := hbw.trans (hrw9.mono hbw.size)
        generalize grow (redrawn wr dq) osq = w9 at hw9 hrw9 ⊢
        clear q_b0 q_b1 q_b2 q_b3 q_b4 q_b5 q_c0 q_c1 q_c2 q_c3 q_c4 q_c5 k_0 k_1
        go_wp2
        exact ⟨⟨k + 1, by omega, by congr 1, by rw [HN.out], hbl.trans (hrw9.mono hbl.size)⟩, by simp [intOf]; omega⟩
    · obtain rfl : k = x.ar.length := by omega
      go_wp2
      go_ret
      exact ⟨rfl, hbw⟩
end Go.Proofs.YtoimjcfdiljkjaaGreatDoor
/- Has of the reference; rows of names. -/
namespace Go.Proofs.YtoimjcfdiljkjaaGreatDoor
set_option linter.unusedVariables false
set_option linter.unusedSimpArgs false
open Go.RowKit Go.Sort
def nmC (l : List ByteArray) : List Value := l.map Value.string
/-- A reads as these names, below block B -/
def RdN (w : World) (B : Nat) (A : Option Addr) (l : List ByteArray) : Prop := l ≠ [] → ∃ ad, A = some ad ∧ ad.block < B ∧ ∀ (i : Nat) (y : ByteArray), l[i]? = some y → w.cell? (ad.add i) = some (.string y)
theorem RdN.to {w W : World} {A : Option Addr} {l : List ByteArray} (h : RdN w w.heap.size A l) (hb : Below w.heap.size w W) : RdN W W.heap.size A l := fun hn => by
  obtain ⟨ad, e, hB, hc⟩ := h hn
  have hs := hb.size
  exact ⟨ad, e, by omega, fun i t ht => (hb.cell (by rw [add_block]; exact hB)).trans (hc i t ht)⟩
theorem RdN.at_ {w : World} {B : Nat} {A : Option Addr} {l : List ByteArray} (h : RdN w B A l) {k : Nat} (hk : k < l.length) : ∃ ad y, A = some ad ∧ ad.block < B ∧ l[k]? = some y ∧ w.cell? (ad.add k) = some (.string y) := by
  have he : l[k]? = some l[k] := List.getElem?_eq_getElem hk
  obtain ⟨ad, e, hb, hc⟩ := h (by rintro rfl; simp at hk)
  exact ⟨ad, _, e, hb, he, hc k _ he⟩
theorem RdN.of_own {w : World} {base : Nat} {e : TypeId} {A : Option Addr} {c : Nat} {l : List ByteArray} (h : w.ownsRow base e 1 (.slice A l.length c) l.length (nmC l)) : RdN w w.heap.size A l := fun hn => by
  rcases h.2 with ⟨h1, h2⟩ | ⟨g, cap, cur, h1, h2, h3, h4, h5, h6, h7⟩
  · exact absurd (List.length_eq_zero_iff.1 h2) hn
  · have hA : A = some ⟨g, 0, none⟩ := by injection h1
    subst hA
    refine ⟨_, rfl, (Array.getElem?_eq_some_iff.1 h3).1, fun i y hy => ?_⟩
    have hj : (nmC l)[i]? = some (.string y) := by rw [nmC, List.getElem?_map, hy]; rfl
    rw [(add_add6 g i 0).2.2, cell_of_row w g i cur _ (0, 0) h3]
    rw [← h7, List.getElem?_take] at hj
    split at hj
    · rw [← Array.getElem?_toList]; exact hj
    · cases hj
end Go.Proofs.YtoimjcfdiljkjaaGreatDoor
/- variable, names of the reference. -/
namespace Go.Proofs.YtoimjcfdiljkjaaGreatDoor
set_option linter.unusedVariables false
set_option linter.unusedSimpArgs false
open Go.RowKit Go.Sort
/-- the row l behind list, from the row v -/
def LqR (T : TypeId) (z : Nat) (w : World) (B : Nat) (v : Value) (n : Nat) (xs : List Value) (w' : World) (v' : Value) : Prop := w'.ownsRow B T z v' n xs ∧ w.grownBy w' v.ownBlock ∧ (v'.ownBlock = v.ownBlock ∨ ∃ j, v'.ownBlock = some j ∧ w.heap.size ≤ j)
/-- the row l while list is under way -/
def LqI (T : TypeId) (z : Nat) (w : World) (x : Xt) (B : Nat) (ob : Option Nat) (n : Nat) (xs : List Value) (v : Value) (wr : World) : Prop := wr.ownsRow B T z v n xs ∧ (bxW w x).grownBy wr ob ∧ (v.ownBlock = ob ∨ ∃ j, v.ownBlock = some j ∧ (bxW w x).heap.size ≤ j)
theorem LqI.open_ {T : TypeId} {z : Nat} {w wr : World} {x : Xt} {B n : Nat} {ob : Option Nat} {xs : List Value} {v : Value} (h : LqI T z w x B ob n xs v wr) (hB : B ≤ w.heap.size) (hl : ∀ j, ob = some j → B ≤ j ∧ j < w.heap.size) :
    Below B w wr ∧ (wr.cell? ⟨w.heap.size, 0, none⟩ = some (.int .i64 x.k) ∧ wr.cell? ⟨w.heap.size, 1, none⟩ = some (.int .i64 x.op) ∧ wr.cell? ⟨w.heap.size, 2, none⟩ = some (.int .i64 x.t) ∧ wr.cell? ⟨w.heap.size, 3, none⟩ = some (.int .i64 x.v) ∧ wr.cell? ⟨w.heap.size, 4, none⟩ = some (.string x.nm) ∧ wr.cell? ⟨w.heap.size, 5, none⟩ = some (.slice x.A x.ar.length x.c)) ∧ w.heap.size < wr.heap.size := by
  obtain ⟨_, hg, _⟩ := h
  have hz := hg.size
  rw [bxW_size] at hz
  have hne : some w.heap.size ≠ ob := fun e => by have := (hl _ e.symm).2; omega
  refine ⟨Below.grown ((bel_box _).mono hB) hg (by rw [bxW_size]; omega) (fun j hj => (hl j hj).1), ⟨?_, ?_, ?_, ?_, ?_, ?_⟩, by omega⟩ <;> exact hg.cell (by simp [go_sem]) hne
theorem LqI.next {T : TypeId} {z : Nat} {w wr w1 : World} {x : Xt} {B n m : Nat} {ob : Option Nat} {xs ys : List Value} {v v' : Value} (h : LqI T z w x B ob n xs v wr) (k : LqR T z wr B v m ys w1 v') : LqI T z w x B ob m ys v' w1 := by
  obtain ⟨_, hg, ha⟩ := h
  obtain ⟨k1, k2, k3⟩ := k
  have hz := hg.size
  refine ⟨k1, hg.andThen k2 fun j hj => ?_, ?_⟩
  · rcases ha with ha | ⟨j', e, hj'⟩
    · exact .inr (ha.symm.trans hj)
    · rw [e] at hj
      exact .inl (by have := Option.some.inj hj; omega)
  · rcases k3 with k3 | ⟨j, e, hj⟩
    · rw [k3]; exact ha
    · exact .inr ⟨j, e, by omega⟩
theorem LqI.first {T : TypeId} {z : Nat} {w W w3 : World} {x : Xt} {B m : Nat} {ob : Option Nat} {ys : List Value} {v' : Value} (hW : Below (bxW w x).heap.size (bxW w x) W) (h1 : w3.ownsRow B T z v' m ys) (h2 : W.grownBy w3 ob) (h3 : v'.ownBlock = ob ∨ v'.ownBlock = some W.heap.size) : LqI T z w x B ob m ys v' w3 := by
  refine ⟨h1, ?_, h3.imp id fun e => ⟨_, e, hW.size⟩⟩
  exact ((below_grown hW).but ob).andThen h2 fun j hj => .inr hj
theorem LqI.last {T : TypeId} {z : Nat} {w wr : World} {x : Xt} {B n : Nat} {v0 : Value} {xs : List Value} {v : Value} (h : LqI T z w x B v0.ownBlock n xs v wr) : LqR T z w B v0 n xs wr v := by
  obtain ⟨h1, h2, h3⟩ := h
  refine ⟨h1, (World.grownBy_alloc w _ _).trans h2, h3.imp id fun ⟨j, e, hj⟩ => ⟨j, e, by rw [bxW_size] at hj; omega⟩⟩
theorem stInfo : (Tryz.prog.info? 9).map (fun i => (i.zero, i.size, i.bytes)) = some (some (.string ⟨#[]⟩), 1, 16) := by kernel_rfl
theorem row1 (W : World) (nm : ByteArray) (t : TypeId) : ∀ j u, [Value.string nm][j]? = some u → (W.alloc (.cells #[.string nm] t)).cell? ((⟨W.heap.size, 0, none⟩ : Addr).add j) = some u := by
  intro j u hu
  rcases j with _ | j
  · obtain rfl : Value.string nm = u := by simpa using hu
    rw [show (Addr.add ⟨W.heap.size, 0, none⟩ 0) = ⟨W.heap.size, 0, none⟩ from rfl]
    simp [go_sem]
  · simp at hu
end Go.Proofs.YtoimjcfdiljkjaaGreatDoor
/- Rows of texts that grow; call of the reference, and text by induction. -/
namespace Go.Proofs.YtoimjcfdiljkjaaGreatDoor
set_option linter.unusedVariables false
set_option linter.unusedSimpArgs false
open Go.RowKit Go.Sort
theorem rdr_own {w : World} {base : Nat} {e : TypeId} {A : Option Addr} {c : Nat} {l : List ByteArray} (h : w.ownsRow base e 1 (.slice A l.length c) l.length (nmC l)) : RdR w w.heap.size 1 BC ⟨A, c, l⟩ := by
  refine ⟨fun hn => ?_, fun ad i y hA hy => ?_, ?_, ?_⟩
  · obtain ⟨ad, e, hb, _⟩ := RdN.of_own h hn
    exact ⟨ad, e, hb⟩
  · obtain ⟨ad', e, _, hc⟩ := RdN.of_own h (by rintro rfl; simp at hy)
    obtain rfl : ad = ad' := Option.some.inj (hA.symm.trans e)
    unfold BC
    rw [Nat.mul_one]
    exact hc i y hy
  · rcases h.2 with ⟨_, h2⟩ | ⟨g, cap, cur, h1, _, _, h4, h5, _⟩
    · show l.length ≤ _
      omega
    · show l.length ≤ _
      omega
  · rcases h.2 with ⟨_, h2⟩ | ⟨g, cap, cur, h1, _, _, h4, h5, _⟩
    · show l.length ≤ _
      omega
    · show l.length ≤ c
      injection h1
      omega
theorem tbm (ts : List (List UInt8)) : (ts.map tB).map bsT = ts := by
  rw [List.map_map]
  have : (bsT ∘ tB) = id := funext fun l => bsT_tB l
  rw [this, List.map_id]
theorem nm_next {ts : List (List UInt8)} {k : Nat} {s : List UInt8} (h : ts[k]? = some s) : nmC (((ts.take k).map tB)) ++ [Value.string (tB s)] = nmC ((ts.take (k + 1)).map tB) := by
  rw [List.take_add_one, h, List.map_append, nmC, nmC, List.map_append]
  rfl
/-- a row of texts that grows: k of them are there -/
def TOwn (B : Nat) (ts : List (List UInt8)) (v : Value) (k : Nat) (W : World) : Prop := W.ownsRow B 9 1 v k (nmC ((ts.take k).map tB))
/-- list of a row that has grown -/
theorem vr_listO (B : Nat) (ts : List (List UInt8)) (v : Value) (sep : ByteArray) (W : World) {n : Nat} (hn : n = ts.length) (h : TOwn B ts v n W) (hlen : (Lib.join ts (bsT sep)).length ≤ 140737488355328) :
    Hid (∀ W', Below W.heap.size W W' → Calls Tryz.prog 29 #[v, .string sep] W' (Bel (.string (tB (Lib.join ts (bsT sep)))) W')) := Lib.hid fun W' hb => by
  unfold TOwn at h
  subst hn
  obtain ⟨A, c, rfl⟩ := own_form6 h
  rw [List.take_length] at h
  have hl : (ts.map tB).length = ts.length := List.length_map _
  have h2 : W.ownsRow B 9 1 (.slice A (ts.map tB).length c) (ts.map tB).length (nmC (ts.map tB)) := by rw [hl]; exact h
  have hr := (rdr_own h2).blw oneB_B hb hb.size
  have := vr_list ⟨A, c, ts.map tB⟩ sep W' hr (by rw [tbm]; exact hlen)
  rw [tbm] at this
  show Calls Tryz.prog 29 #[.slice A ts.length c, .string sep] W' _
  rw [← hl]
  exact this
set_option maxHeartbeats 2000000 in
set_option maxRecDepth 20000 in
theorem vr_call (E : Rw va.En) (x : Xt) (f : Xt → List UInt8) (w : World) (hx : RdX w w.heap.size x) (hk : x.k = 10) (hw : wf1 x) (hl : x.ar.length ≤ 1048576)
    (KX : Hid (∀ y ∈ x.ar, ∀ W, Below w.heap.size w W → Calls Tryz.prog 38 #[.slice E.A E.l.length E.c, xV y] W (Bel (.string (tB (f y))) W))) (h : (calS x.v x.nm x.ar (x.ar.map f)).length ≤ 140737488355328) :
    Calls Tryz.prog 75 #[.slice E.A E.l.length E.c, xV x] w (Bel (.string (tB (calS x.v x.nm x.ar (x.ar.map f)))) w) := by
  have hv := hw.2.2.2.2.2 hk
  obtain ⟨i0, hi, iz, is, ib⟩ := info_parts stInfo
  have hcap := hx.cap
  have hAn : x.A = none → x.ar.length = 0 := fun e => by
    rcases Nat.eq_zero_or_pos x.ar.length with h0 | h0
    · exact h0
    · obtain ⟨ad, y, hA, _⟩ := hx.at_ h0
      rw [e] at hA
      cases hA
  clear hw hk
  unfold calS at h ⊢
  rw [List.length_map] at h ⊢
  rw [← List.map_take] at h ⊢
  by_cases v0 : x.v = 0
  · have hz : x.ar.length - x.v.toNat = x.ar.length := by rw [v0]; rfl
    rw [hz, if_neg (by omega), List.append_nil] at h ⊢
    obtain ⟨ts, hts⟩ : ∃ q, (x.ar.take x.ar.length).map f = q := ⟨_, rfl⟩
    have htl : ts.length = x.ar.length := by rw [← hts]; simp only [List.length_map, List.length_take]; omega
    have HS : Hid (∀ k y, k < x.ar.length → x.ar[k]? = some y → ts[k]? = some (f y)) := Lib.hid fun k y hk1 hy => by rw [← hts, List.getElem?_map, List.getElem?_take_of_lt hk1, hy]; rfl
    rw [hts] at h ⊢
    obtain ⟨jj, hjj⟩ : ∃ q, Lib.join ts [44, 32] = q := ⟨_, rfl⟩
    rw [hjj] at h ⊢
    unfold brS at h ⊢
    have hjl : jj.length ≤ 140737488355328 := by simp only [List.length_append] at h; omega
    have KJ := Lib.hid (fun v W (hT : TOwn (w.heap.size + 1) ts v x.ar.length W) => vr_listO (w.heap.size + 1) ts v ⟨#[44, 32]⟩ W htl.symm hT (by show (Lib.join ts [44, 32]).length ≤ _; rw [hjj]; exact hjl))
    have e44 : Lib.join ts (bsT ⟨#[44, 32]⟩) = jj := hjj
    rw [e44] at KJ
    obtain ⟨z1, hz1⟩ : ∃ q, (bsT x.nm) ++ ([40]) = q := ⟨_, rfl⟩
    have lz1 := congrArg List.length hz1
    rw [List.length_append] at lz1
    obtain ⟨z2, hz2⟩ : ∃ q, (z1) ++ (jj) = q := ⟨_, rfl⟩
    have lz2 := congrArg List.length hz2
    rw [List.length_append] at lz2
    obtain ⟨z3, hz3⟩ : ∃ q, (z2) ++ ([41]) = q := ⟨_, rfl⟩
    have lz3 := congrArg List.length hz3
    rw [List.length_append] at lz3
    have heq : z3 = bsT x.nm ++ ([40] ++ jj ++ [41]) := by
      subst hz1 hz2 hz3
      simp only [List.append_assoc, List.cons_append, List.nil_append]
    have hll : z3.length ≤ 140737488355328 := by rw [heq]; exact h
    have kaz1 := fun w => add_tB (P := Tryz.prog) w (A := x.nm) (B := ⟨#[40]⟩) (tB_bsT _).symm rfl hz1 (by (try simp only [List.length_cons, List.length_nil] at *); omega)
    have kaz2 := fun w => add_tB (P := Tryz.prog) w (A := tB z1) (B := tB jj) rfl rfl hz2 (by (try simp only [List.length_cons, List.length_nil] at *); omega)
    have kaz3 := fun w => add_tB (P := Tryz.prog) w (A := tB z2) (B := ⟨#[41]⟩) rfl rfl hz3 (by (try simp only [List.length_cons, List.length_nil] at *); omega)
    have HZ := Lib.hid heq
    clear heq hll hz1 hz2 hz3 lz1 lz2 lz3
    have q0 : (x.v == 1) = false := by simp [v0]
    have hlen : x.ar.length ≤ 9223372036854775807 := by omega
    have hcap2 : (x.ar.length : Int) ≤ (x.c : Int) := by omega
    rw [← HZ.out]
    have HX := Lib.hid hx
    have HTL := Lib.hid htl
    clear h hjl hjj HZ hz hv hts htl hx hAn e44 v0
    simp only [xV] at KX ⊢
    go_enter Tryz.func75, Tryz.ntmps75
    go_wp2
    obtain ⟨W0, hW0⟩ : ∃ W0, (w.alloc (.cells #[.int .i64 x.k, .int .i64 x.op, .int .i64 x.t, .int .i64 x.v, .string x.nm, .slice x.A x.ar.length x.c] 33)) = W0 := ⟨_, rfl⟩
    have hB0 : Below w.heap.size w W0 := by rw [← hW0]; exact bel_box _
    have b0 : W0.cell? ⟨w.heap.size, 0, none⟩ = some (.int .i64 x.k) := by rw [← hW0]; simp [go_sem]
    have b1 : W0.cell? ⟨w.heap.size, 1, none⟩ = some (.int .i64 x.op) := by rw [← hW0]; simp [go_sem]
    have b2 : W0.cell? ⟨w.heap.size, 2, none⟩ = some (.int .i64 x.t) := by rw [← hW0]; simp [go_sem]
    have b3 : W0.cell? ⟨w.heap.size, 3, none⟩ = some (.int .i64 x.v) := by rw [← hW0]; simp [go_sem]
    have b4 : W0.cell? ⟨w.heap.size, 4, none⟩ = some (.string x.nm) := by rw [← hW0]; simp [go_sem]
    have b5 : W0.cell? ⟨w.heap.size, 5, none⟩ = some (.slice x.A x.ar.length x.c) := by rw [← hW0]; simp [go_sem]
    have HW0 := Lib.hid hW0
    clear hW0
    have hz0 : W0.heap.size = w.heap.size + 1 := by rw [← HW0.out]; simp only [World.size_alloc]
    rw [HW0.out]
    rw [← hz0] at KJ
    have HT0 : Hid (TOwn W0.heap.size ts (.slice none 0 0) 0 W0) := Lib.hid (World.ownsRow_nil _ _ _ _)
    clear HW0 hz0
    go_loopw [6, 7] (fun v i wr => ∃ k : Nat, k ≤ x.ar.length ∧ i = .int .i64 (k : Int) ∧ Hid (TOwn W0.heap.size ts v k wr) ∧ Below W0.heap.size W0 wr) (fun _ i _ => x.ar.length - (intOf i).toNat)
    case atStart => exact ⟨0, by omega, rfl, HT0, Below.refl _ _⟩
    case round =>
      clear HT0
      obtain ⟨k, hk, rfl, hown, hbl⟩ := hrel
      have hsz := hbl.size
      have hbw : Below w.heap.size w wr := hB0.trans (hbl.mono hB0.size)
      have b0 := cell_below hbl b0
      have b1 := cell_below hbl b1
      have b2 := cell_below hbl b2
      have b3 := cell_below hbl b3
      have b4 := cell_below hbl b4
      have b5 := cell_below hbl b5
      by_cases hlt : k < x.ar.length
      · obtain ⟨ad, y, hA, had, hy, hm, ⟨c0, c1, c2, c3, c4, c5⟩, _⟩ := (HX.out.to hbw).at_ (i := k) (by omega)
        have KY := Lib.hid (KX.out y hm)
        have hs := HS.out k y hlt hy
        rw [hA]
        clear hy hm HS KX hA
        generalize f y = s at *
        have HSS := Lib.hid hs
        clear hs
        have hcap9 : k + 1 ≤ 1048576 := by omega
        go_wp2_with (first | (go_at_call 38; (with_reducible refine (KY.out _ ?_).mono ?_); (focus ((repeat (first | (with_reducible exact Below.refl _ _) | (with_reducible assumption) | (with_reducible exact bel_box _) | (with_reducible refine bel_step ?_ (by with_reducible assumption)) | (with_reducible refine Below.drew ?_) | (with_reducible refine below_drewN ?_ _) | (with_reducible refine bel_alloc ?_ _))); done)); rintro e w1 ⟨rfl, hb1⟩; have hz1 := hb1.size) | (at_builtin; (refine wpList_append_own_at _ rfl _ _ 51 rfl W0.heap.size 9 i0 (.string ⟨#[]⟩) 1 16 Tryz.underlying51 hi iz is ib rfl (by decide) _ k (nmC ((ts.take k).map tB)) rfl (own_keep6 hown.out ?_) ⟨w1.heap.size, 0, none⟩ 1 1 [.string (tB s)] rfl rfl (row1 _ _ _) (by intro u hu; obtain rfl := List.mem_singleton.1 hu; rfl) (by unfold maxLen; omega) (by omega) ?_ ?_; (focus ((repeat (first | (with_reducible exact Below.refl _ _) | (with_reducible assumption) | (with_reducible exact bel_box _) | (with_reducible refine bel_step ?_ (by with_reducible assumption)) | (with_reducible refine Below.drew ?_) | (with_reducible refine below_drewN ?_ _) | (with_reducible refine bel_alloc ?_ _))); done)); (focus (simp; omega)); intro v3 w3 hown3 hgrow3 _ hat3)))
        have hb3 : Below W0.heap.size W0 w3 := Below.grown (w := w1.alloc (.cells #[.string (tB s)] 9)) (by repeat (first | (with_reducible exact Below.refl _ _) | (with_reducible assumption) | (with_reducible exact bel_box _) | (with_reducible refine bel_step ?_ (by with_reducible assumption)) | (with_reducible refine Below.drew ?_) | (with_reducible refine below_drewN ?_ _) | (with_reducible refine bel_alloc ?_ _))) hgrow3 (by simp; omega) (fun j hj => (hown.out.lt j hj).1)
        rw [nm_next HSS.out] at hown3
        exact ⟨⟨k + 1, by omega, by congr 1, Lib.hid hown3, hb3⟩, by simp [intOf]; omega⟩
      · obtain rfl : k = x.ar.length := by omega
        have KL := KJ.out _ _ hown.out
        have hrf : Below wr.heap.size wr wr := Below.refl _ _
        clear hown
        go_wp2
        have q_b4 := cell_regrown b4
        have k_0 := fun dd os => Calls.regrown_of (KL.out (grow (redrawn wr dd) os) (hrf.trans ((below_regrown wr dd os).mono hrf.size)))
        refine wp_region_quiet_below (by kernel_rfl) (by kernel_rfl) ?_
        repeat (quiet_step (first | with_reducible exact k_0 _ _))
        refine wpQuiet_nil ?_
        intro _ hw'
        obtain ⟨⟨dq, osq⟩, hw''⟩ := hw'
        subst hw''
        have hrw9 : Below wr.heap.size wr (grow (redrawn wr dq) osq) := below_regrown wr dq osq
        have hw9 : Below wr.heap.size wr (grow (redrawn wr dq) osq) := hrf.trans (hrw9.mono hrf.size)
        generalize grow (redrawn wr dq) osq = w9 at hw9 hrw9 ⊢
        clear q_b4 k_0
        have hb9 : Below w.heap.size w w9 := hbw.trans (hw9.mono hbw.size)
        have b0 := cell_below hw9 b0
        have b1 := cell_below hw9 b1
        have b2 := cell_below hw9 b2
        have b3 := cell_below hw9 b3
        have b4 := cell_below hw9 b4
        have b5 := cell_below hw9 b5
        go_wp2
        go_ret
        exact ⟨rfl, hb9⟩
  · have v1 : x.v = 1 := by omega
    have hp : 0 < x.ar.length := by omega
    obtain ⟨n, hn⟩ : ∃ n, x.ar.length = n + 1 := ⟨x.ar.length - 1, by omega⟩
    have hz : x.ar.length - x.v.toNat = n := by rw [v1, hn]; rfl
    obtain ⟨a0, h0⟩ := at_of (l := x.ar) (i := n) (by omega)
    rw [hz, if_pos v1, show x.ar.length - 1 = n by omega, opI_at h0] at h ⊢
    obtain ⟨ts, hts⟩ : ∃ q, (x.ar.take n).map f = q := ⟨_, rfl⟩
    have htl : ts.length = n := by rw [← hts]; simp only [List.length_map, List.length_take]; omega
    have HS : Hid (∀ k y, k < n → x.ar[k]? = some y → ts[k]? = some (f y)) := Lib.hid fun k y hk1 hy => by rw [← hts, List.getElem?_map, List.getElem?_take_of_lt hk1, hy]; rfl
    rw [hts] at h ⊢
    obtain ⟨jj, hjj⟩ : ∃ q, Lib.join ts [44, 32] = q := ⟨_, rfl⟩
    rw [hjj] at h ⊢
    unfold brS at h ⊢
    have hjl : jj.length ≤ 140737488355328 := by simp only [List.length_append] at h; omega
    have KJ := Lib.hid (fun v W (hT : TOwn (w.heap.size + 1) ts v n W) => vr_listO (w.heap.size + 1) ts v ⟨#[44, 32]⟩ W htl.symm hT (by show (Lib.join ts [44, 32]).length ≤ _; rw [hjj]; exact hjl))
    have e44 : Lib.join ts (bsT ⟨#[44, 32]⟩) = jj := hjj
    rw [e44] at KJ
    have hol : (opdS a0 (f a0)).length ≤ 140737488355328 := by simp only [List.length_append] at h; omega
    have KO : Hid (∀ W, Below w.heap.size w W → Calls Tryz.prog 74 #[.slice E.A E.l.length E.c, xV a0] W (Bel (.string (tB (opdS a0 (f a0)))) W)) := Lib.hid fun W hb => vr_operand E a0 (f a0) W hol (Lib.hid fun W' hb' => KX.out a0 (List.mem_of_getElem? h0) W' (hb.trans (hb'.mono hb.size)))
    generalize opdS a0 (f a0) = oo at *
    obtain ⟨z1, hz1⟩ : ∃ q, (bsT x.nm) ++ ([40]) = q := ⟨_, rfl⟩
    have lz1 := congrArg List.length hz1
    rw [List.length_append] at lz1
    obtain ⟨z2, hz2⟩ : ∃ q, (z1) ++ (jj) = q := ⟨_, rfl⟩
    have lz2 := congrArg List.length hz2
    rw [List.length_append] at lz2
    obtain ⟨z3, hz3⟩ : ∃ q, (z2) ++ ([41]) = q := ⟨_, rfl⟩
    have lz3 := congrArg List.length hz3
    rw [List.length_append] at lz3
    obtain ⟨z4, hz4⟩ : ∃ q, (z3) ++ ([32, 101, 118, 101, 114, 121, 32]) = q := ⟨_, rfl⟩
    have lz4 := congrArg List.length hz4
    rw [List.length_append] at lz4
    obtain ⟨z5, hz5⟩ : ∃ q, (z4) ++ (oo) = q := ⟨_, rfl⟩
    have lz5 := congrArg List.length hz5
    rw [List.length_append] at lz5
    have heq : z5 = bsT x.nm ++ ([40] ++ jj ++ [41]) ++ ([32, 101, 118, 101, 114, 121, 32] ++ oo) := by
      subst hz1 hz2 hz3 hz4 hz5
      simp only [List.append_assoc, List.cons_append, List.nil_append]
    have hll : z5.length ≤ 140737488355328 := by rw [heq]; exact h
    have kaz1 := fun w => add_tB (P := Tryz.prog) w (A := x.nm) (B := ⟨#[40]⟩) (tB_bsT _).symm rfl hz1 (by (try simp only [List.length_cons, List.length_nil] at *); omega)
    have kaz2 := fun w => add_tB (P := Tryz.prog) w (A := tB z1) (B := tB jj) rfl rfl hz2 (by (try simp only [List.length_cons, List.length_nil] at *); omega)
    have kaz3 := fun w => add_tB (P := Tryz.prog) w (A := tB z2) (B := ⟨#[41]⟩) rfl rfl hz3 (by (try simp only [List.length_cons, List.length_nil] at *); omega)
    have kaz4 := fun w => add_tB (P := Tryz.prog) w (A := tB z3) (B := ⟨#[32, 101, 118, 101, 114, 121, 32]⟩) rfl rfl hz4 (by (try simp only [List.length_cons, List.length_nil] at *); omega)
    have kaz5 := fun w => add_tB (P := Tryz.prog) w (A := tB z4) (B := tB oo) rfl rfl hz5 (by (try simp only [List.length_cons, List.length_nil] at *); omega)
    have HZ := Lib.hid heq
    clear heq hll hz1 hz2 hz3 hz4 hz5 lz1 lz2 lz3 lz4 lz5
    have q0 : (x.v == 1) = true := by simp [v1]
    have hlen : x.ar.length ≤ 9223372036854775807 := by omega
    have hcap2 : (x.ar.length : Int) ≤ (x.c : Int) := by omega
    have hvv : (x.ar.length : Int) - 1 = (n : Int) := by omega
    have hcap3 : (n : Int) ≤ (x.c : Int) := by omega
    have hcap4 : n ≤ x.c := by omega
    have hcap5 : (n : Int) ≤ (x.ar.length : Int) := by omega
    have hin : (n : Int) < (x.ar.length : Int) := by omega
    have hin2 : n < x.ar.length := by omega
    rw [← HZ.out]
    have HN := Lib.hid hn
    have HX := Lib.hid hx
    have HTL := Lib.hid htl
    clear h hjl hjj HZ hz hv hts htl hx hAn e44 v0 v1 hn hol
    simp only [xV] at KO KX ⊢
    go_enter Tryz.func75, Tryz.ntmps75
    go_wp2
    obtain ⟨W0, hW0⟩ : ∃ W0, (w.alloc (.cells #[.int .i64 x.k, .int .i64 x.op, .int .i64 x.t, .int .i64 x.v, .string x.nm, .slice x.A x.ar.length x.c] 33)) = W0 := ⟨_, rfl⟩
    have hB0 : Below w.heap.size w W0 := by rw [← hW0]; exact bel_box _
    have b0 : W0.cell? ⟨w.heap.size, 0, none⟩ = some (.int .i64 x.k) := by rw [← hW0]; simp [go_sem]
    have b1 : W0.cell? ⟨w.heap.size, 1, none⟩ = some (.int .i64 x.op) := by rw [← hW0]; simp [go_sem]
    have b2 : W0.cell? ⟨w.heap.size, 2, none⟩ = some (.int .i64 x.t) := by rw [← hW0]; simp [go_sem]
    have b3 : W0.cell? ⟨w.heap.size, 3, none⟩ = some (.int .i64 x.v) := by rw [← hW0]; simp [go_sem]
    have b4 : W0.cell? ⟨w.heap.size, 4, none⟩ = some (.string x.nm) := by rw [← hW0]; simp [go_sem]
    have b5 : W0.cell? ⟨w.heap.size, 5, none⟩ = some (.slice x.A x.ar.length x.c) := by rw [← hW0]; simp [go_sem]
    have HW0 := Lib.hid hW0
    clear hW0
    have hz0 : W0.heap.size = w.heap.size + 1 := by rw [← HW0.out]; simp only [World.size_alloc]
    rw [HW0.out]
    rw [← hz0] at KJ
    have HT0 : Hid (TOwn W0.heap.size ts (.slice none 0 0) 0 W0) := Lib.hid (World.ownsRow_nil _ _ _ _)
    clear HW0 hz0
    go_loopw [6, 7] (fun v i wr => ∃ k : Nat, k ≤ n ∧ i = .int .i64 (k : Int) ∧ Hid (TOwn W0.heap.size ts v k wr) ∧ Below W0.heap.size W0 wr) (fun _ i _ => n - (intOf i).toNat)
    case atStart => exact ⟨0, by omega, rfl, HT0, Below.refl _ _⟩
    case round =>
      clear HT0
      obtain ⟨k, hk, rfl, hown, hbl⟩ := hrel
      have hsz := hbl.size
      have hbw : Below w.heap.size w wr := hB0.trans (hbl.mono hB0.size)
      have b0 := cell_below hbl b0
      have b1 := cell_below hbl b1
      have b2 := cell_below hbl b2
      have b3 := cell_below hbl b3
      have b4 := cell_below hbl b4
      have b5 := cell_below hbl b5
      by_cases hlt : k < n
      · obtain ⟨ad, y, hA, had, hy, hm, ⟨c0, c1, c2, c3, c4, c5⟩, _⟩ := (HX.out.to hbw).at_ (i := k) (by omega)
        have KY := Lib.hid (KX.out y hm)
        have hs := HS.out k y hlt hy
        rw [hA]
        clear hy hm HS KX hA
        generalize f y = s at *
        have HSS := Lib.hid hs
        clear hs
        have hcap9 : k + 1 ≤ 1048576 := by omega
        go_wp2_with (first | (go_at_call 38; (with_reducible refine (KY.out _ ?_).mono ?_); (focus ((repeat (first | (with_reducible exact Below.refl _ _) | (with_reducible assumption) | (with_reducible exact bel_box _) | (with_reducible refine bel_step ?_ (by with_reducible assumption)) | (with_reducible refine Below.drew ?_) | (with_reducible refine below_drewN ?_ _) | (with_reducible refine bel_alloc ?_ _))); done)); rintro e w1 ⟨rfl, hb1⟩; have hz1 := hb1.size) | (at_builtin; (refine wpList_append_own_at _ rfl _ _ 51 rfl W0.heap.size 9 i0 (.string ⟨#[]⟩) 1 16 Tryz.underlying51 hi iz is ib rfl (by decide) _ k (nmC ((ts.take k).map tB)) rfl (own_keep6 hown.out ?_) ⟨w1.heap.size, 0, none⟩ 1 1 [.string (tB s)] rfl rfl (row1 _ _ _) (by intro u hu; obtain rfl := List.mem_singleton.1 hu; rfl) (by unfold maxLen; omega) (by omega) ?_ ?_; (focus ((repeat (first | (with_reducible exact Below.refl _ _) | (with_reducible assumption) | (with_reducible exact bel_box _) | (with_reducible refine bel_step ?_ (by with_reducible assumption)) | (with_reducible refine Below.drew ?_) | (with_reducible refine below_drewN ?_ _) | (with_reducible refine bel_alloc ?_ _))); done)); (focus (simp; omega)); intro v3 w3 hown3 hgrow3 _ hat3)))
        have hb3 : Below W0.heap.size W0 w3 := Below.grown (w := w1.alloc (.cells #[.string (tB s)] 9)) (by repeat (first | (with_reducible exact Below.refl _ _) | (with_reducible assumption) | (with_reducible exact bel_box _) | (with_reducible refine bel_step ?_ (by with_reducible assumption)) | (with_reducible refine Below.drew ?_) | (with_reducible refine below_drewN ?_ _) | (with_reducible refine bel_alloc ?_ _))) hgrow3 (by simp; omega) (fun j hj => (hown.out.lt j hj).1)
        rw [nm_next HSS.out] at hown3
        exact ⟨⟨k + 1, by omega, by congr 1, Lib.hid hown3, hb3⟩, by simp [intOf]; omega⟩
      · obtain rfl : k = n := by omega
        have KL := KJ.out _ _ hown.out
        have hrf : Below wr.heap.size wr wr := Below.refl _ _
        clear hown
        go_wp2
        have q_b4 := cell_regrown b4
        have k_0 := fun dd os => Calls.regrown_of (KL.out (grow (redrawn wr dd) os) (hrf.trans ((below_regrown wr dd os).mono hrf.size)))
        refine wp_region_quiet_below (by kernel_rfl) (by kernel_rfl) ?_
        repeat (quiet_step (first | with_reducible exact k_0 _ _))
        refine wpQuiet_nil ?_
        intro _ hw'
        obtain ⟨⟨dq, osq⟩, hw''⟩ := hw'
        subst hw''
        have hrw9 : Below wr.heap.size wr (grow (redrawn wr dq) osq) := below_regrown wr dq osq
        have hw9 : Below wr.heap.size wr (grow (redrawn wr dq) osq) := hrf.trans (hrw9.mono hrf.size)
        generalize grow (redrawn wr dq) osq = w9 at hw9 hrw9 ⊢
        clear q_b4 k_0
        have hb9 : Below w.heap.size w w9 := hbw.trans (hw9.mono hbw.size)
        have b0 := cell_below hw9 b0
        have b1 := cell_below hw9 b1
        have b2 := cell_below hw9 b2
        have b3 := cell_below hw9 b3
        have b4 := cell_below hw9 b4
        have b5 := cell_below hw9 b5
        obtain ⟨ad0, y0, hA0, had0, hy0, _, ⟨c00, c01, c02, c03, c04, c05⟩, _⟩ := (HX.out.to hb9).at_ (i := k) (by omega)
        obtain rfl : y0 = a0 := Option.some.inj (hy0.symm.trans h0)
        rw [hA0] at b5
        clear hA0 hy0 h0
        go_wp2_with ((go_at_call 74; (with_reducible refine (KO.out _ ?_).mono ?_); (focus ((repeat (first | (with_reducible exact Below.refl _ _) | (with_reducible assumption) | (with_reducible exact bel_box _) | (with_reducible refine bel_step ?_ (by with_reducible assumption)) | (with_reducible refine Below.drew ?_) | (with_reducible refine below_drewN ?_ _) | (with_reducible refine bel_alloc ?_ _))); done)); rintro e w10 ⟨rfl, hb10⟩))
        go_ret
        exact ⟨rfl, hb9.trans (Below.mono (by repeat (first | (with_reducible exact Below.refl _ _) | (with_reducible assumption) | (with_reducible exact bel_box _) | (with_reducible refine bel_step ?_ (by with_reducible assumption)) | (with_reducible refine Below.drew ?_) | (with_reducible refine below_drewN ?_ _) | (with_reducible refine bel_alloc ?_ _))) hb9.size)⟩
set_option maxHeartbeats 2000000 in
set_option maxRecDepth 20000 in
theorem vr_text10 (E : Rw va.En) (x : Xt) (f : Xt → List UInt8) (w : World) (hE : RsE w w.heap.size E) (hx : RdX w w.heap.size x) (hxt : x.t ≤ 9223372036854775807) (hl : x.ar.length ≤ 1048576) (hw : wf1 x)
    (KX : Hid (∀ y ∈ x.ar, ∀ W, Below w.heap.size w W → Calls Tryz.prog 38 #[.slice E.A E.l.length E.c, xV y] W (Bel (.string (tB (f y))) W))) (h : (ndS E.l x (x.ar.map f)).length ≤ 140737488355328) (hk : x.k = 10) :
    Calls Tryz.prog 38 #[.slice E.A E.l.length E.c, xV x] w (Bel (.string (tB (ndS E.l x (x.ar.map f)))) w) := by
  unfold ndS at h ⊢
  rw [if_neg (by omega), if_neg (by omega), if_neg (by omega), if_neg (by omega), if_neg (by omega), if_neg (by omega), if_neg (by omega), if_neg (by omega), if_pos hk] at h ⊢
  have KO : Hid (∀ W, Below w.heap.size w W → Calls Tryz.prog 75 #[.slice E.A E.l.length E.c, xV x] W (Bel (.string (tB (calS x.v x.nm x.ar (x.ar.map f)))) W)) := Lib.hid fun W hb => vr_call E x f W (hx.to hb) hk hw hl (Lib.hid fun y hy W' hb' => KX.out y hy W' (hb.trans (hb'.mono hb.size))) h
  have qk0 : (x.k == 1) = false := by simp [hk]
  have qk1 : (x.k == 2) = false := by simp [hk]
  have qk2 : (x.k == 3) = false := by simp [hk]
  have qk3 : (x.k == 4) = false := by simp [hk]
  have qk4 : (x.k == 5) = false := by simp [hk]
  have qk5 : (x.k == 6) = false := by simp [hk]
  have qk6 : (x.k == 7) = false := by simp [hk]
  have qk7 : (x.k == 8) = false := by simp [hk]
  have qk8 : (x.k == 9) = false := by simp [hk]
  have qk9 : (x.k == 10) = true := by simp [hk]
  generalize calS x.v x.nm x.ar (x.ar.map f) = z at *
  clear hE hx KX h hw hk
  simp only [xV] at KO ⊢
  go_enter Tryz.func38, Tryz.ntmps38
  go_wp2_with (go_at_call 75; (with_reducible refine (KO.out _ ?_).mono ?_); (focus ((repeat (first | (with_reducible exact Below.refl _ _) | (with_reducible assumption) | (with_reducible exact bel_box _) | (with_reducible refine bel_step ?_ (by with_reducible assumption)) | (with_reducible refine Below.drew ?_) | (with_reducible refine below_drewN ?_ _) | (with_reducible refine bel_alloc ?_ _))); done)); rintro e w1 ⟨rfl, hb1⟩)
  go_ret
  exact ⟨rfl, (by repeat (first | (with_reducible exact Below.refl _ _) | (with_reducible assumption) | (with_reducible exact bel_box _) | (with_reducible refine bel_step ?_ (by with_reducible assumption)) | (with_reducible refine Below.drew ?_) | (with_reducible refine below_drewN ?_ _) | (with_reducible refine bel_alloc ?_ _)))⟩
/-- of the kinds that there are -/
def wfK (y : Xt) : Prop := wfX y ∧ (1 ≤ y.k ∧ y.k ≤ 11) ∧ y.ar.length ≤ 1048576
theorem vr_text (E : Rw va.En) : ∀ (x : Xt), (∀ y ∈ x.list, wfK y) → ∀ (w : World), RsE w w.heap.size E → RdX w w.heap.size x → (x.tx E.l).length ≤ 140737488355328 →
    Calls Tryz.prog 38 #[.slice E.A E.l.length E.c, xV x] w (Bel (.string (tB (x.tx E.l))) w) := by
  refine Xt.ind fun x ih hall w hE hx h => ?_
  rw [Xt.tx_eq] at h ⊢
  obtain ⟨⟨hw, hxt, _⟩, ⟨hk1, hk2⟩, hl⟩ := hall x (list_self x)
  by_cases hk : 3 ≤ x.k ∧ x.k ≤ 10
  · have KX : Hid (∀ y ∈ x.ar, ∀ W, Below w.heap.size w W → Calls Tryz.prog 38 #[.slice E.A E.l.length E.c, xV y] W (Bel (.string (tB (y.tx E.l))) W)) := Lib.hid fun y hy W hb =>
      ih y hy (fun z hz => hall z (list_kid hy hz)) W (hE.blw hb hb.size) ((hx.kid hy).to hb) (Nat.le_trans (kid_len E.l hw hk.1 hk.2 hy) h)
    have : x.k = 3 ∨ x.k = 4 ∨ x.k = 5 ∨ x.k = 6 ∨ x.k = 7 ∨ x.k = 8 ∨ x.k = 9 ∨ x.k = 10 := by omega
    rcases this with e | e | e | e | e | e | e | e
    · exact vr_text3 E x _ w hE hx hxt hl hw KX h e
    · exact vr_text4 E x _ w hE hx hxt hl hw KX h e
    · exact vr_text5 E x _ w hE hx hxt hl hw KX h e
    · exact vr_text6 E x _ w hE hx hxt hl hw KX h e
    · exact vr_text7 E x _ w hE hx hxt hl hw KX h e
    · exact vr_text8 E x _ w hE hx hxt hl hw KX h e
    · exact vr_text9 E x _ w hE hx hxt hl hw KX h e
    · exact vr_text10 E x _ w hE hx hxt hl hw KX h e
  · have : x.k = 1 ∨ x.k = 2 ∨ x.k = 11 := by omega
    rcases this with e | e | e
    · exact vr_text1 E x _ w hE hx hxt hl hw h e
    · exact vr_text2 E x _ w hE hx hxt hl hw h e
    · exact vr_text11 E x _ w hE hx hxt hl hw h e
end Go.Proofs.YtoimjcfdiljkjaaGreatDoor
