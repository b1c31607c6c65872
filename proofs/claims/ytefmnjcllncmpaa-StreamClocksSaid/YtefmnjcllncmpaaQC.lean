/- Texts of one chain, in one file. -/
import Derived.Laws.EntriesVeiled
import Derived.Lib.AppendZeros
import Derived.Shelf.Bits.Mul64
import Derived.Test.YtefmnjcllncmpaaProg
import Derived.Laws.CopyRow
import Derived.Laws.CopyOwn
import Derived.Test.YtefmnjcllncmpaaQB
/- each at its four steps. -/
namespace Go.Proofs.Ytefmnjcllncmpaa
set_option linter.unusedVariables false
set_option linter.unusedSimpArgs false
open Go.RowKit
def eS (f : List (Int × Int) → Int × Int) (_ : Unit) (r : List (Int × Int)) : Unit × (Int × Int) := ((), f r)
theorem outE (f : List (Int × Int) → Int × Int) (ls : List St) (t : Nat) : outT (eS f) () ls t = (rowsTo ls t).map f := by
  induction t with
  | zero => rfl
  | succ t ih => rw [outT_succ, ih, rowsTo_succ, List.map_append]; rfl
theorem e_box {w w1 : World} {x y : Value} {t0 t1 t2 : TypeId} (hb : Below (((w.alloc (.cells #[] t0)).alloc (.cells #[] t1)).alloc (.cells #[x, y] t2)).heap.size (((w.alloc (.cells #[] t0)).alloc (.cells #[] t1)).alloc (.cells #[x, y] t2)) w1) :
    w1.cell? ⟨w.heap.size + 1 + 1, 0, none⟩ = some x ∧ w1.cell? ⟨w.heap.size + 1 + 1, 1, none⟩ = some y ∧ w1.frozen? ⟨w.heap.size + 1 + 1, 0, none⟩ = false ∧ w1.frozen? ⟨w.heap.size + 1 + 1, 1, none⟩ = false := by
  have h := (Bk.new ((w.alloc (.cells #[] t0)).alloc (.cells #[] t1)) t2 #[x, y]).below hb (by simp)
  rw [World.size_alloc, World.size_alloc] at h
  exact ⟨h.cell 0, h.cell 1, h.frozen 0, h.frozen 1⟩
set_option maxHeartbeats 2000000 in
theorem each1_lift (p0 : Value) (f : List (Int × Int) → Int × Int) (r : List (Int × Int)) (g n : Nat) (pb : Addr) (w : World)
    (K : Hid (∀ W, Below w.heap.size w W → Calls Try.prog 35 #[.slice (some ⟨g, 0, none⟩) n n, p0] W (Bel (cV (f r)) W))) (hpb : pb.block < w.heap.size) (hc : w.cell? pb = some (.func (.func 35) #[] #[p0])) :
    Calls Try.prog 61 #[.agg #[], .slice (some ⟨g, 0, none⟩) n n, .pointer (some pb)] w (Bel (.tuple #[.agg #[], cV (f r)]) w) := by
  simp only [cV] at K ⊢
  generalize f r = z at *
  obtain ⟨z0, z1⟩ := z
  simp only at K ⊢
  have HK : Hid (∀ W, Below w.heap.size w W → W.cell? pb = some (.func (.func 35) #[] #[p0])) := Lib.hid fun W hb => (hb.cell hpb).trans hc
  clear hpb
  go_enter Try.func61, Try.ntmps61
  go_wp2
  go_region_held3 (fun W => W.cell? pb = some (.func (.func 35) #[] #[p0]))
    ((refine HK.out _ ?_; (first | (focus ((repeat (first | (with_reducible exact Below.refl _ _) | (with_reducible assumption) | (with_reducible exact bel_box _) | (with_reducible refine bel_step ?_ (by with_reducible assumption)) | (with_reducible refine Below.drew ?_) | (with_reducible refine below_drewN ?_ _) | (with_reducible refine bel_alloc ?_ _))); done)) | (refine bel_two ?_ (by omega) _ _; (focus ((repeat (first | (with_reducible exact Below.refl _ _) | (with_reducible assumption) | (with_reducible exact bel_box _) | (with_reducible refine bel_step ?_ (by with_reducible assumption)) | (with_reducible refine Below.drew ?_) | (with_reducible refine below_drewN ?_ _) | (with_reducible refine bel_alloc ?_ _))); done))))))
    (first | (go_at_call 35; (with_reducible refine (K.out _ ?_).mono ?_); (focus ((repeat (first | (with_reducible exact Below.refl _ _) | (with_reducible assumption) | (with_reducible exact bel_box _) | (with_reducible refine bel_step ?_ (by with_reducible assumption)) | (with_reducible refine Below.drew ?_) | (with_reducible refine below_drewN ?_ _) | (with_reducible refine bel_alloc ?_ _))); done)); rintro e w1 ⟨rfl, hb1⟩; obtain ⟨q0, q1, q2, q3⟩ := e_box (w := w) (w1 := w1) (by repeat (first | (with_reducible exact Below.refl _ _) | (with_reducible assumption) | (with_reducible exact bel_box _) | (with_reducible refine bel_step ?_ (by with_reducible assumption)) | (with_reducible refine Below.drew ?_) | (with_reducible refine below_drewN ?_ _) | (with_reducible refine bel_alloc ?_ _)))))
  go_wp2
  obtain ⟨t1, t2⟩ := set2_cells q0 q1 (.int .i64 z0) (.int .i64 z1)
  refine bodyPost_ret (v := .tuple #[.agg #[], cV (z0, z1)]) (by simp [results, Try.results61, go_sem, t1, t2, cV]) rfl ⟨rfl, ?_⟩
  first | exact bel_two (by repeat (first | (with_reducible exact Below.refl _ _) | (with_reducible assumption) | (with_reducible exact bel_box _) | (with_reducible refine bel_step ?_ (by with_reducible assumption)) | (with_reducible refine Below.drew ?_) | (with_reducible refine below_drewN ?_ _) | (with_reducible refine bel_alloc ?_ _))) (by omega) _ _ | exact Below.drew (bel_two (by repeat (first | (with_reducible exact Below.refl _ _) | (with_reducible assumption) | (with_reducible exact bel_box _) | (with_reducible refine bel_step ?_ (by with_reducible assumption)) | (with_reducible refine Below.drew ?_) | (with_reducible refine below_drewN ?_ _) | (with_reducible refine bel_alloc ?_ _))) (by omega) _ _)
set_option maxHeartbeats 2000000 in
theorem each_lift (p0 : Value) (f : List (Int × Int) → Int × Int) (A : Option Addr) (c : Nat) (ls : List St) (w : World) (hA : RdS w w.heap.size A ls) (hl : ls.length ≤ 100) (h3 : ∀ s ∈ ls, s.l.length ≤ 1000000)
    (K : Hid (∀ (r : List (Int × Int)) (g : Nat) (W : World), r.length = ls.length → RdC W W.heap.size (some ⟨g, 0, none⟩) r → Below w.heap.size w W → Calls Try.prog 35 #[.slice (some ⟨g, 0, none⟩) r.length r.length, p0] W (Bel (cV (f r)) W))) :
    Calls Try.prog 34 #[.func (.func 35) #[] #[p0], .slice A ls.length c] w (NewC ((rowsTo ls (tog ls)).map f) w) := by
  rw [← outE]
  have HA := Lib.hid hA
  have KC : Hid (∀ pb W, Below w.heap.size w W → pb.block < W.heap.size → W.cell? pb = some (.func (.func 35) #[] #[p0]) → Calls Try.prog 62 #[.agg #[], .func (.func 61) #[] #[.pointer (some pb)], .slice A ls.length c] W (NewC (outT (eS f) () ls (tog ls)) W)) :=
    Lib.hid fun pb W hb hpb hc => by
      by_cases h0 : ls.length = 0
      · obtain rfl : ls = [] := List.eq_nil_of_length_eq_zero h0
        go_enter Try.func62, Try.ntmps62
        go_wp2
        go_ret
        exact ⟨none, 0, rfl, fun h => absurd rfl h, (by repeat (first | (with_reducible exact Below.refl _ _) | (with_reducible assumption) | (with_reducible exact bel_box _) | (with_reducible refine bel_step ?_ (by with_reducible assumption)) | (with_reducible refine Below.drew ?_) | (with_reducible refine below_drewN ?_ _) | (with_reducible refine bel_alloc ?_ _)))⟩
      · exact combine_e (.pointer (some pb)) A c ls () (eS f) W (hA.to hb) hl (by omega) h3 (Lib.hid fun s r g X hr hR hX =>
          each1_lift p0 f r g r.length pb X (Lib.hid fun Y hY => K.out r g Y hr (hR.to hY) ((hb.trans (hX.mono hb.size)).trans (hY.mono (Nat.le_trans hb.size hX.size)))) (Nat.lt_of_lt_of_le hpb hX.size) ((hX.cell hpb).trans hc))
  clear hA K
  go_enter Try.func34, Try.ntmps34
  go_wp2_with (go_at_call 62; (refine (KC.out ⟨w.heap.size, 0, none⟩ _ ?_ ?_ ?_).mono ?_); (focus ((repeat (first | (with_reducible exact Below.refl _ _) | (with_reducible assumption) | (with_reducible exact bel_box _) | (with_reducible refine bel_step ?_ (by with_reducible assumption)) | (with_reducible refine Below.drew ?_) | (with_reducible refine below_drewN ?_ _) | (with_reducible refine bel_alloc ?_ _))); done)); (focus (simp)); (focus (simp [go_sem])); rintro e w2 ⟨A', c', rfl, hR', hb2⟩)
  go_ret
  exact ⟨A', c', rfl, hR', (by repeat (first | (with_reducible exact Below.refl _ _) | (with_reducible assumption) | (with_reducible exact bel_box _) | (with_reducible refine bel_step ?_ (by with_reducible assumption)) | (with_reducible refine Below.drew ?_) | (with_reducible refine below_drewN ?_ _) | (with_reducible refine bel_alloc ?_ _)))⟩
set_option maxHeartbeats 2000000 in
theorem each1_when (p0 : Value) (f : List (Int × Int) → Int × Int) (r : List (Int × Int)) (g n : Nat) (pb : Addr) (w : World)
    (K : Hid (∀ W, Below w.heap.size w W → Calls Try.prog 60 #[.slice (some ⟨g, 0, none⟩) n n, p0] W (Bel (cV (f r)) W))) (hpb : pb.block < w.heap.size) (hc : w.cell? pb = some (.func (.func 60) #[] #[p0])) :
    Calls Try.prog 61 #[.agg #[], .slice (some ⟨g, 0, none⟩) n n, .pointer (some pb)] w (Bel (.tuple #[.agg #[], cV (f r)]) w) := by
  simp only [cV] at K ⊢
  generalize f r = z at *
  obtain ⟨z0, z1⟩ := z
  simp only at K ⊢
  have HK : Hid (∀ W, Below w.heap.size w W → W.cell? pb = some (.func (.func 60) #[] #[p0])) := Lib.hid fun W hb => (hb.cell hpb).trans hc
  clear hpb
  go_enter Try.func61, Try.ntmps61
  go_wp2
  go_region_held3 (fun W => W.cell? pb = some (.func (.func 60) #[] #[p0]))
    ((refine HK.out _ ?_; (first | (focus ((repeat (first | (with_reducible exact Below.refl _ _) | (with_reducible assumption) | (with_reducible exact bel_box _) | (with_reducible refine bel_step ?_ (by with_reducible assumption)) | (with_reducible refine Below.drew ?_) | (with_reducible refine below_drewN ?_ _) | (with_reducible refine bel_alloc ?_ _))); done)) | (refine bel_two ?_ (by omega) _ _; (focus ((repeat (first | (with_reducible exact Below.refl _ _) | (with_reducible assumption) | (with_reducible exact bel_box _) | (with_reducible refine bel_step ?_ (by with_reducible assumption)) | (with_reducible refine Below.drew ?_) | (with_reducible refine below_drewN ?_ _) | (with_reducible refine bel_alloc ?_ _))); done))))))
    (first | (go_at_call 60; (with_reducible refine (K.out _ ?_).mono ?_); (focus ((repeat (first | (with_reducible exact Below.refl _ _) | (with_reducible assumption) | (with_reducible exact bel_box _) | (with_reducible refine bel_step ?_ (by with_reducible assumption)) | (with_reducible refine Below.drew ?_) | (with_reducible refine below_drewN ?_ _) | (with_reducible refine bel_alloc ?_ _))); done)); rintro e w1 ⟨rfl, hb1⟩; obtain ⟨q0, q1, q2, q3⟩ := e_box (w := w) (w1 := w1) (by repeat (first | (with_reducible exact Below.refl _ _) | (with_reducible assumption) | (with_reducible exact bel_box _) | (with_reducible refine bel_step ?_ (by with_reducible assumption)) | (with_reducible refine Below.drew ?_) | (with_reducible refine below_drewN ?_ _) | (with_reducible refine bel_alloc ?_ _)))))
  go_wp2
  obtain ⟨t1, t2⟩ := set2_cells q0 q1 (.int .i64 z0) (.int .i64 z1)
  refine bodyPost_ret (v := .tuple #[.agg #[], cV (z0, z1)]) (by simp [results, Try.results61, go_sem, t1, t2, cV]) rfl ⟨rfl, ?_⟩
  first | exact bel_two (by repeat (first | (with_reducible exact Below.refl _ _) | (with_reducible assumption) | (with_reducible exact bel_box _) | (with_reducible refine bel_step ?_ (by with_reducible assumption)) | (with_reducible refine Below.drew ?_) | (with_reducible refine below_drewN ?_ _) | (with_reducible refine bel_alloc ?_ _))) (by omega) _ _ | exact Below.drew (bel_two (by repeat (first | (with_reducible exact Below.refl _ _) | (with_reducible assumption) | (with_reducible exact bel_box _) | (with_reducible refine bel_step ?_ (by with_reducible assumption)) | (with_reducible refine Below.drew ?_) | (with_reducible refine below_drewN ?_ _) | (with_reducible refine bel_alloc ?_ _))) (by omega) _ _)
set_option maxHeartbeats 2000000 in
theorem each_when (p0 : Value) (f : List (Int × Int) → Int × Int) (A : Option Addr) (c : Nat) (ls : List St) (w : World) (hA : RdS w w.heap.size A ls) (hl : ls.length ≤ 100) (h3 : ∀ s ∈ ls, s.l.length ≤ 1000000)
    (K : Hid (∀ (r : List (Int × Int)) (g : Nat) (W : World), r.length = ls.length → RdC W W.heap.size (some ⟨g, 0, none⟩) r → Below w.heap.size w W → Calls Try.prog 60 #[.slice (some ⟨g, 0, none⟩) r.length r.length, p0] W (Bel (cV (f r)) W))) :
    Calls Try.prog 34 #[.func (.func 60) #[] #[p0], .slice A ls.length c] w (NewC ((rowsTo ls (tog ls)).map f) w) := by
  rw [← outE]
  have HA := Lib.hid hA
  have KC : Hid (∀ pb W, Below w.heap.size w W → pb.block < W.heap.size → W.cell? pb = some (.func (.func 60) #[] #[p0]) → Calls Try.prog 62 #[.agg #[], .func (.func 61) #[] #[.pointer (some pb)], .slice A ls.length c] W (NewC (outT (eS f) () ls (tog ls)) W)) :=
    Lib.hid fun pb W hb hpb hc => by
      by_cases h0 : ls.length = 0
      · obtain rfl : ls = [] := List.eq_nil_of_length_eq_zero h0
        go_enter Try.func62, Try.ntmps62
        go_wp2
        go_ret
        exact ⟨none, 0, rfl, fun h => absurd rfl h, (by repeat (first | (with_reducible exact Below.refl _ _) | (with_reducible assumption) | (with_reducible exact bel_box _) | (with_reducible refine bel_step ?_ (by with_reducible assumption)) | (with_reducible refine Below.drew ?_) | (with_reducible refine below_drewN ?_ _) | (with_reducible refine bel_alloc ?_ _)))⟩
      · exact combine_e (.pointer (some pb)) A c ls () (eS f) W (hA.to hb) hl (by omega) h3 (Lib.hid fun s r g X hr hR hX =>
          each1_when p0 f r g r.length pb X (Lib.hid fun Y hY => K.out r g Y hr (hR.to hY) ((hb.trans (hX.mono hb.size)).trans (hY.mono (Nat.le_trans hb.size hX.size)))) (Nat.lt_of_lt_of_le hpb hX.size) ((hX.cell hpb).trans hc))
  clear hA K
  go_enter Try.func34, Try.ntmps34
  go_wp2_with (go_at_call 62; (refine (KC.out ⟨w.heap.size, 0, none⟩ _ ?_ ?_ ?_).mono ?_); (focus ((repeat (first | (with_reducible exact Below.refl _ _) | (with_reducible assumption) | (with_reducible exact bel_box _) | (with_reducible refine bel_step ?_ (by with_reducible assumption)) | (with_reducible refine Below.drew ?_) | (with_reducible refine below_drewN ?_ _) | (with_reducible refine bel_alloc ?_ _))); done)); (focus (simp)); (focus (simp [go_sem])); rintro e w2 ⟨A', c', rfl, hR', hb2⟩)
  go_ret
  exact ⟨A', c', rfl, hR', (by repeat (first | (with_reducible exact Below.refl _ _) | (with_reducible assumption) | (with_reducible exact bel_box _) | (with_reducible refine bel_step ?_ (by with_reducible assumption)) | (with_reducible refine Below.drew ?_) | (with_reducible refine below_drewN ?_ _) | (with_reducible refine bel_alloc ?_ _)))⟩
set_option maxHeartbeats 2000000 in
theorem each1_merge (f : List (Int × Int) → Int × Int) (r : List (Int × Int)) (g n : Nat) (pb : Addr) (w : World)
    (K : Hid (∀ W, Below w.heap.size w W → Calls Try.prog 52 #[.slice (some ⟨g, 0, none⟩) n n] W (Bel (cV (f r)) W))) (hpb : pb.block < w.heap.size) (hc : w.cell? pb = some (.func (.func 52) #[] #[])) :
    Calls Try.prog 61 #[.agg #[], .slice (some ⟨g, 0, none⟩) n n, .pointer (some pb)] w (Bel (.tuple #[.agg #[], cV (f r)]) w) := by
  simp only [cV] at K ⊢
  generalize f r = z at *
  obtain ⟨z0, z1⟩ := z
  simp only at K ⊢
  have HK : Hid (∀ W, Below w.heap.size w W → W.cell? pb = some (.func (.func 52) #[] #[])) := Lib.hid fun W hb => (hb.cell hpb).trans hc
  clear hpb
  go_enter Try.func61, Try.ntmps61
  go_wp2
  go_region_held3 (fun W => W.cell? pb = some (.func (.func 52) #[] #[]))
    ((refine HK.out _ ?_; (first | (focus ((repeat (first | (with_reducible exact Below.refl _ _) | (with_reducible assumption) | (with_reducible exact bel_box _) | (with_reducible refine bel_step ?_ (by with_reducible assumption)) | (with_reducible refine Below.drew ?_) | (with_reducible refine below_drewN ?_ _) | (with_reducible refine bel_alloc ?_ _))); done)) | (refine bel_two ?_ (by omega) _ _; (focus ((repeat (first | (with_reducible exact Below.refl _ _) | (with_reducible assumption) | (with_reducible exact bel_box _) | (with_reducible refine bel_step ?_ (by with_reducible assumption)) | (with_reducible refine Below.drew ?_) | (with_reducible refine below_drewN ?_ _) | (with_reducible refine bel_alloc ?_ _))); done))))))
    (first | (go_at_call 52; (with_reducible refine (K.out _ ?_).mono ?_); (focus ((repeat (first | (with_reducible exact Below.refl _ _) | (with_reducible assumption) | (with_reducible exact bel_box _) | (with_reducible refine bel_step ?_ (by with_reducible assumption)) | (with_reducible refine Below.drew ?_) | (with_reducible refine below_drewN ?_ _) | (with_reducible refine bel_alloc ?_ _))); done)); rintro e w1 ⟨rfl, hb1⟩; obtain ⟨q0, q1, q2, q3⟩ := e_box (w := w) (w1 := w1) (by repeat (first | (with_reducible exact Below.refl _ _) | (with_reducible assumption) | (with_reducible exact bel_box _) | (with_reducible refine bel_step ?_ (by with_reducible assumption)) | (with_reducible refine Below.drew ?_) | (with_reducible refine below_drewN ?_ _) | (with_reducible refine bel_alloc ?_ _)))))
  go_wp2
  obtain ⟨t1, t2⟩ := set2_cells q0 q1 (.int .i64 z0) (.int .i64 z1)
  refine bodyPost_ret (v := .tuple #[.agg #[], cV (z0, z1)]) (by simp [results, Try.results61, go_sem, t1, t2, cV]) rfl ⟨rfl, ?_⟩
  first | exact bel_two (by repeat (first | (with_reducible exact Below.refl _ _) | (with_reducible assumption) | (with_reducible exact bel_box _) | (with_reducible refine bel_step ?_ (by with_reducible assumption)) | (with_reducible refine Below.drew ?_) | (with_reducible refine below_drewN ?_ _) | (with_reducible refine bel_alloc ?_ _))) (by omega) _ _ | exact Below.drew (bel_two (by repeat (first | (with_reducible exact Below.refl _ _) | (with_reducible assumption) | (with_reducible exact bel_box _) | (with_reducible refine bel_step ?_ (by with_reducible assumption)) | (with_reducible refine Below.drew ?_) | (with_reducible refine below_drewN ?_ _) | (with_reducible refine bel_alloc ?_ _))) (by omega) _ _)
set_option maxHeartbeats 2000000 in
theorem each_merge (f : List (Int × Int) → Int × Int) (A : Option Addr) (c : Nat) (ls : List St) (w : World) (hA : RdS w w.heap.size A ls) (hl : ls.length ≤ 100) (h3 : ∀ s ∈ ls, s.l.length ≤ 1000000)
    (K : Hid (∀ (r : List (Int × Int)) (g : Nat) (W : World), r.length = ls.length → RdC W W.heap.size (some ⟨g, 0, none⟩) r → Below w.heap.size w W → Calls Try.prog 52 #[.slice (some ⟨g, 0, none⟩) r.length r.length] W (Bel (cV (f r)) W))) :
    Calls Try.prog 34 #[.func (.func 52) #[] #[], .slice A ls.length c] w (NewC ((rowsTo ls (tog ls)).map f) w) := by
  rw [← outE]
  have HA := Lib.hid hA
  have KC : Hid (∀ pb W, Below w.heap.size w W → pb.block < W.heap.size → W.cell? pb = some (.func (.func 52) #[] #[]) → Calls Try.prog 62 #[.agg #[], .func (.func 61) #[] #[.pointer (some pb)], .slice A ls.length c] W (NewC (outT (eS f) () ls (tog ls)) W)) :=
    Lib.hid fun pb W hb hpb hc => by
      by_cases h0 : ls.length = 0
      · obtain rfl : ls = [] := List.eq_nil_of_length_eq_zero h0
        go_enter Try.func62, Try.ntmps62
        go_wp2
        go_ret
        exact ⟨none, 0, rfl, fun h => absurd rfl h, (by repeat (first | (with_reducible exact Below.refl _ _) | (with_reducible assumption) | (with_reducible exact bel_box _) | (with_reducible refine bel_step ?_ (by with_reducible assumption)) | (with_reducible refine Below.drew ?_) | (with_reducible refine below_drewN ?_ _) | (with_reducible refine bel_alloc ?_ _)))⟩
      · exact combine_e (.pointer (some pb)) A c ls () (eS f) W (hA.to hb) hl (by omega) h3 (Lib.hid fun s r g X hr hR hX =>
          each1_merge  f r g r.length pb X (Lib.hid fun Y hY => K.out r g Y hr (hR.to hY) ((hb.trans (hX.mono hb.size)).trans (hY.mono (Nat.le_trans hb.size hX.size)))) (Nat.lt_of_lt_of_le hpb hX.size) ((hX.cell hpb).trans hc))
  clear hA K
  go_enter Try.func34, Try.ntmps34
  go_wp2_with (go_at_call 62; (refine (KC.out ⟨w.heap.size, 0, none⟩ _ ?_ ?_ ?_).mono ?_); (focus ((repeat (first | (with_reducible exact Below.refl _ _) | (with_reducible assumption) | (with_reducible exact bel_box _) | (with_reducible refine bel_step ?_ (by with_reducible assumption)) | (with_reducible refine Below.drew ?_) | (with_reducible refine below_drewN ?_ _) | (with_reducible refine bel_alloc ?_ _))); done)); (focus (simp)); (focus (simp [go_sem])); rintro e w2 ⟨A', c', rfl, hR', hb2⟩)
  go_ret
  exact ⟨A', c', rfl, hR', (by repeat (first | (with_reducible exact Below.refl _ _) | (with_reducible assumption) | (with_reducible exact bel_box _) | (with_reducible refine bel_step ?_ (by with_reducible assumption)) | (with_reducible refine Below.drew ?_) | (with_reducible refine below_drewN ?_ _) | (with_reducible refine bel_alloc ?_ _)))⟩
end Go.Proofs.Ytefmnjcllncmpaa
/- slices.Grow of the nil slice, slices.Concat of two slices of bools, and append onto an owned slice. -/
namespace Go.Proofs.Ytefmnjcllncmpaa.cc
set_option linter.unusedVariables false
set_option linter.unusedSimpArgs false
open Go.RowKit
def bls (l : List St) : List Value := l.map stV
theorem bls_length (l : List St) : (bls l).length = l.length := by simp [bls]
theorem rowInfo : (Try.prog.info? 26).map (fun i => (i.zero, i.size, i.bytes)) = some (some (.slice none 0 0), 1, 24) := by kernel_rfl
section
variable {P : Program} (w : World)
theorem run_append_nothing (base : Nat) (t ty e : TypeId) (i : TypeInfo) (ht : P.underlying t = some (.slice e)) (hi : P.info? e = some i)
    (v : Value) (n : Nat) (xs : List Value) (hown : w.ownsRow base e 1 v n xs) (c : Nat) : (Builtin.append_ #[t, t] ty #[v, .slice none 0 c]).run P w = .ok v w := by
  rcases hown.2 with ⟨rfl, rfl⟩ | ⟨g, cap, cur, rfl, _, _, hnc, _⟩
  · simp [Builtin.append_, run_underlying ht, sizeOf, typeInfo, hi, Builtin.lenOf, Builtin.firstCells]
  · simp [Builtin.append_, run_underlying ht, sizeOf, typeInfo, hi, Builtin.lenOf, Builtin.firstCells, hnc, storeCells]
/-- append of a slice that is read (nil or not) onto a slice that the call owns -/
theorem run_append_rd (base : Nat) (t ty e : TypeId) (i : TypeInfo) (z : Value) (bytes : Nat) (ht : P.underlying t = some (.slice e)) (hi : P.info? e = some i) (hz : i.zero = some z)
    (hsize : i.size = 1) (hby : i.bytes = bytes) (hzs : z.cells.size = 1)
    (v : Value) (n : Nat) (xs : List Value) (hown : w.ownsRow base e 1 v n xs)
    (B : Nat) (A : Option Addr) (m c : Nat) (news : List Value) (hm : news.length = m) (hr : Rd w B A news) (h1 : ∀ u ∈ news, u.oneCell' = true)
    (h63 : n + m ≤ maxLen) (hbytes : (n + m) * bytes ≤ 140737488355328) (hbase : base ≤ w.heap.size) :
    ∃ v' w', (Builtin.append_ #[t, t] ty #[v, .slice A m c]).run P w = .ok v' w' ∧ w'.ownsRow base e 1 v' (n + m) (xs ++ news) ∧ w.grownBy w' v.ownBlock ∧
      (v'.ownBlock = v.ownBlock ∨ v'.ownBlock = some w.heap.size) := by
  subst hm
  rcases A with _ | ad
  · have hn : news = [] := by
      rcases Classical.em (news = []) with h | h
      · exact h
      · obtain ⟨ad, h, _⟩ := hr h
        cases h
    subst hn
    exact ⟨v, w, run_append_nothing w base t ty e i ht hi v n xs hown c, by simpa using hown, World.grownBy.refl w _, .inl rfl⟩
  · have hcells : ∀ j u, news[j]? = some u → w.cell? (ad.add j) = some u := by
      intro j u hu
      obtain ⟨ad', h, _, hc⟩ := hr (by rintro rfl; simp at hu)
      injection h with h
      subst h
      exact hc j u hu
    obtain ⟨v', w', hrun, h2, h3, _, h5⟩ := run_append_own_at (P := P) w base t ty e i z 1 bytes ht hi hz hsize hby hzs (by omega) v n xs hown ad news.length c news (by omega) hcells h1 h63 hbytes hbase
    exact ⟨v', w', hrun, h2, h3, h5⟩
theorem wp_append_rd {o : Oper} {a : Act} {K : Act → World → Prop} {Q : Exit → Act → World → Prop} (s x : Operand) (t : TypeId)
    (ho : o.op = .call { callee := .builtin .append, args := #[s, x], argTypes := #[t, t] })
    (base : Nat) (e : TypeId) (i : TypeInfo) (z : Value) (bytes : Nat) (ht : P.underlying t = some (.slice e)) (hi : P.info? e = some i) (hz : i.zero = some z)
    (hsize : i.size = 1) (hby : i.bytes = bytes) (hzs : z.cells.size = 1)
    (v : Value) (n : Nat) (xs : List Value) (hs : a.eval s = v) (hown : w.ownsRow base e 1 v n xs)
    (B : Nat) (A : Option Addr) (m c : Nat) (news : List Value) (hx : a.eval x = .slice A m c) (hm : news.length = m) (hr : Rd w B A news) (h1 : ∀ u ∈ news, u.oneCell' = true)
    (h63 : n + m ≤ maxLen) (hbytes : (n + m) * bytes ≤ 140737488355328) (hbase : base ≤ w.heap.size)
    (h : ∀ v' w', w'.ownsRow base e 1 v' (n + m) (xs ++ news) → w.grownBy w' v.ownBlock → (v'.ownBlock = v.ownBlock ∨ v'.ownBlock = some w.heap.size) → K (a.put o.dst v') w') : o.wp P a w K Q := by
  obtain ⟨v', w', hrun, h2, h3, h4⟩ := run_append_rd (P := P) w base t o.type e i z bytes ht hi hz hsize hby hzs v n xs hown B A m c news hm hr h1 h63 hbytes hbase
  unfold Oper.wp execOp
  simp only [ho, resolve, invoke, builtin, Sem.run_bind, Sem.run_pure, Result.andThen_ok, List.map_toArray, List.map_cons, List.map_nil, hs, hx, hrun]
  exact h v' w' h2 h3 h4
theorem wpList_append_rd {ops : Array Oper} {rest : List Oper} {o : Oper} {a : Act} {Q : Exit → Act → World → Prop} (hgd : o.guard = none) (s x : Operand) (t : TypeId)
    (ho : o.op = .call { callee := .builtin .append, args := #[s, x], argTypes := #[t, t] })
    (base : Nat) (e : TypeId) (i : TypeInfo) (z : Value) (bytes : Nat) (ht : P.underlying t = some (.slice e)) (hi : P.info? e = some i) (hz : i.zero = some z)
    (hsize : i.size = 1) (hby : i.bytes = bytes) (hzs : z.cells.size = 1)
    (v : Value) (n : Nat) (xs : List Value) (hs : a.eval s = v) (hown : w.ownsRow base e 1 v n xs)
    (B : Nat) (A : Option Addr) (m c : Nat) (news : List Value) (hx : a.eval x = .slice A m c) (hm : news.length = m) (hr : Rd w B A news) (h1 : ∀ u ∈ news, u.oneCell' = true)
    (h63 : n + m ≤ maxLen) (hbytes : (n + m) * bytes ≤ 140737488355328) (hbase : base ≤ w.heap.size)
    (h : ∀ v' w', w'.ownsRow base e 1 v' (n + m) (xs ++ news) → w.grownBy w' v.ownBlock → (v'.ownBlock = v.ownBlock ∨ v'.ownBlock = some w.heap.size) → wpList P ops Q rest (a.put o.dst v') w') : wpList P ops Q (o :: rest) a w :=
  wpList_plain hgd fun _ hK => wp_append_rd w s x t ho base e i z bytes ht hi hz hsize hby hzs v n xs hs hown B A m c news hx hm hr h1 h63 hbytes hbase fun v' w' h2 h3 h4 => hK _ _ (h v' w' h2 h3 h4)
end
theorem bls_one (l : List St) : ∀ u ∈ bls l, u.oneCell' = true := by
  intro u hu
  simp only [bls, List.mem_map] at hu
  obtain ⟨b, _, rfl⟩ := hu
  rfl
/-- a new slice with these bools, owned; the old blocks are left alone -/
def NewOwn (l : List St) (w : World) (e : Ending) (w' : World) : Prop := ∃ A c, e = .returned (.slice A l.length c) ∧ w'.ownsRow w.heap.size 26 1 (.slice A l.length c) l.length (bls l) ∧ Below w.heap.size w w'
set_option maxHeartbeats 2000000 in
set_option maxRecDepth 20000 in
theorem grow_nil (n : Nat) (w : World) (hn : n ≤ 1000000) :
    Calls Try.prog 67 #[.slice none 0 0, .int .i64 n] w (NewOwn [] w) := by
  obtain ⟨i0, hi, iz, is, ib⟩ := info_parts rowInfo
  rcases Nat.eq_zero_or_pos n with h0 | h0
  · subst h0
    go_enter Try.func67, Try.ntmps67
    go_wp2
    go_ret
    exact ⟨none, 0, rfl, World.ownsRow_nil _ _ _ _, Below.refl _ _⟩
  · have hb : Try.t26.bytes = 24 := by kernel_rfl
    have hns : Builtin.nextslicecap n 0 = n := nextslicecap_zero h0
    have hne : ¬ n = 0 := by omega
    go_enter Try.func67, Try.ntmps67
    go_wp2
    go_ret
    have hge := grownCap_ge w n 0 26
    have hm := grownCap_le_maxLen w n 0 26 (by unfold maxLen; omega)
    refine ⟨some ⟨w.heap.size, 0, none⟩, grownCap w n 0 26, rfl, ?_, (bel_box _).drew⟩
    refine (World.ownsRow_made (base := w.heap.size) (size := 1) (e := 26) w (Builtin.zeroCells #[Value.slice none 0 0] n ++ Builtin.zeroCells #[Value.slice none 0 0] (grownCap w n 0 26 - n)) (grownCap w n 0 26) (Nat.le_refl _) hm ?_).drew
    simp only [Array.size_append, size_zeroCells]
    simp
    omega
def catK (xs ys : List St) : Nat → List St
  | 0 => []
  | 1 => xs
  | _ => xs ++ ys
set_option maxHeartbeats 4000000 in
set_option maxRecDepth 20000 in
theorem concat_any (A B : Option Addr) (c d g : Nat) (xs ys : List St) (w : World) (hA : Rd w w.heap.size A (bls xs)) (hB : Rd w w.heap.size B (bls ys)) (hx : xs.length + ys.length ≤ 1000000)
    (hg0 : w.cell? ⟨g, 0, none⟩ = some (.slice A xs.length c)) (hg1 : w.cell? ⟨g, 1, none⟩ = some (.slice B ys.length d)) :
    Calls Try.prog 53 #[.slice (some ⟨g, 0, none⟩) 2 2] w (NewOwn (xs ++ ys) w) := by
  obtain ⟨i0, hi, iz, is, ib⟩ := info_parts rowInfo
  have hgl := World.block_lt_of_cell? w _ hg0
  simp only at hgl
  go_enter Try.func53, Try.ntmps53
  go_wp2
  go_loop [3, 11] (fun z i => ∃ k : Nat, k ≤ 2 ∧ i = .int .i64 k ∧ z = .int .i64 ((catK xs ys k).length : Nat)) (fun _ i => 2 - (intOf i).toNat)
  case atStart => exact ⟨0, by omega, rfl, rfl⟩
  case round =>
    obtain ⟨k, hk, rfl, rfl⟩ := hrel
    obtain rfl | rfl | rfl : k = 0 ∨ k = 1 ∨ k = 2 := by omega
    · simp only [catK, List.length_nil]
      go_wp2
      go_round
      case rel => exact ⟨1, by omega, rfl, by simp [catK]⟩
      case measure => simp [intOf]
    · simp only [catK]
      go_wp2
      go_round
      case rel => exact ⟨2, by omega, rfl, by simp [catK]⟩
      case measure => simp [intOf]
    · simp only [catK, List.length_append]
      go_wp2_with (go_at_call 67; refine (grow_nil (xs.length + ys.length) _ (by omega)).mono ?_; rintro e w1 ⟨V, cv, rfl, hown1, hb1⟩; obtain ⟨hc1, hf1, hz1⟩ := bcell hb1)
      have HO := Lib.hid hown1
      clear hown1
      go_loopw [6, 27] (fun v i wr => ∃ k : Nat, k ≤ 2 ∧ i = .int .i64 k ∧ wr.ownsRow w.heap.size 26 1 v (catK xs ys k).length (bls (catK xs ys k)) ∧ Below w.heap.size w wr) (fun _ i _ => 2 - (intOf i).toNat)
      case atStart => exact ⟨0, by omega, rfl, HO.out, hb1⟩
      case round =>
        obtain ⟨k, hk, rfl, hown, hbl⟩ := hrel
        have hg0' : wr.cell? ⟨g, 0, none⟩ = some (.slice A xs.length c) := (hbl.cell (p := ⟨g, 0, none⟩) hgl).trans hg0
        have hg1' : wr.cell? ⟨g, 1, none⟩ = some (.slice B ys.length d) := (hbl.cell (p := ⟨g, 1, none⟩) hgl).trans hg1
        have hA' := Lib.hid (hA.to hbl)
        have hB' := Lib.hid (hB.to hbl)
        have hsz := hbl.size
        obtain rfl | rfl | rfl : k = 0 ∨ k = 1 ∨ k = 2 := by omega
        · simp only [catK, List.length_nil] at hown
          go_wp2_with (at_builtin; refine wpList_append_rd _ rfl _ _ 22 rfl w.heap.size 26 i0 (.slice none 0 0) 24 Try.underlying22 hi iz is ib rfl _ _ _ rfl hown wr.heap.size A xs.length c (bls xs) rfl (bls_length _) hA'.out (bls_one _) (by unfold maxLen; omega) (by omega) hsz ?_; intro v2 w2 hown2 hgrow2 _)
          have hb2 : Below w.heap.size w w2 := hbl.grown hgrow2 hsz (fun k hk => (hown.lt k hk).1)
          go_roundw
          case rel => exact ⟨1, by omega, rfl, by simpa [catK, bls] using hown2, hb2⟩
          case measure => simp [intOf]
        · simp only [catK] at hown
          go_wp2_with (at_builtin; refine wpList_append_rd _ rfl _ _ 22 rfl w.heap.size 26 i0 (.slice none 0 0) 24 Try.underlying22 hi iz is ib rfl _ _ _ rfl hown wr.heap.size B ys.length d (bls ys) rfl (bls_length _) hB'.out (bls_one _) (by unfold maxLen; omega) (by omega) hsz ?_; intro v2 w2 hown2 hgrow2 _)
          have hb2 : Below w.heap.size w w2 := hbl.grown hgrow2 hsz (fun k hk => (hown.lt k hk).1)
          go_roundw
          case rel => exact ⟨2, by omega, rfl, by simpa [catK, bls] using hown2, hb2⟩
          case measure => simp [intOf]
        · simp only [catK] at hown
          go_wp2
          go_ret
          obtain ⟨V2, c2, hv2⟩ := own_form hown
          rw [hv2] at hown
          exact ⟨V2, c2, by rw [← hv2]; rfl, hown, hbl⟩
end Go.Proofs.Ytefmnjcllncmpaa.cc
/- Lift, If, When, Merge of the program. -/
namespace Go.Proofs.Ytefmnjcllncmpaa
set_option linter.unusedVariables false
set_option linter.unusedSimpArgs false
open Go.RowKit
set_option maxHeartbeats 1000000 in
theorem liftP_any (op : Int) (A : Option Addr) (c : Nat) (ls : List St) (w : World) (hA : RdS w w.heap.size A ls) (hl : ls.length ≤ 100) (h3 : ∀ s ∈ ls, s.l.length ≤ 1000000) :
    Calls Try.prog 12 #[.int .i64 op, .slice A ls.length c] w (NewC ((rowsTo ls (tog ls)).map (liftF op)) w) := by
  have KC : Hid (∀ p W, Below w.heap.size w W → p.block < W.heap.size → W.cell? p = some (.int .i64 op) → Calls Try.prog 34 #[.func (.func 35) #[] #[.pointer (some p)], .slice A ls.length c] W (NewC ((rowsTo ls (tog ls)).map (liftF op)) W)) :=
    Lib.hid fun p W hb hp hc => each_lift (.pointer (some p)) (liftF op) A c ls W (hA.to hb) hl h3 (Lib.hid fun r g X hr hR hX => lift1_any op p r g X (by omega) hR (Nat.lt_of_lt_of_le hp hX.size) ((hX.cell hp).trans hc))
  generalize (rowsTo ls (tog ls)).map (liftF op) = out at *
  clear hA h3
  go_enter Try.func12, Try.ntmps12
  go_wp2_with (go_at_call 34; (refine (KC.out ⟨w.heap.size, 0, none⟩ _ ?_ ?_ ?_).mono ?_); (focus ((repeat (first | (with_reducible exact Below.refl _ _) | (with_reducible assumption) | (with_reducible exact bel_box _) | (with_reducible refine bel_step ?_ (by with_reducible assumption)) | (with_reducible refine Below.drew ?_) | (with_reducible refine below_drewN ?_ _) | (with_reducible refine bel_alloc ?_ _))); done)); (focus (simp)); (focus (simp [go_sem])); rintro e w2 ⟨A', c', rfl, hR', hb2⟩)
  go_ret
  exact ⟨A', c', rfl, hR', (by repeat (first | (with_reducible exact Below.refl _ _) | (with_reducible assumption) | (with_reducible exact bel_box _) | (with_reducible refine bel_step ?_ (by with_reducible assumption)) | (with_reducible refine Below.drew ?_) | (with_reducible refine below_drewN ?_ _) | (with_reducible refine bel_alloc ?_ _)))⟩
theorem when_rds {W : World} {t t' : TypeId} (v : Value) (s u : St) {cs : Array Value} (h : RdC W W.heap.size s.A s.l) (h' : RdC W W.heap.size u.A u.l) (hcs : cs = #[stV s, stV u] := by rfl) : RdS ((W.alloc (.cells #[v] t)).alloc (.cells cs t')) ((W.alloc (.cells #[v] t)).alloc (.cells cs t')).heap.size (some ⟨W.heap.size + 1, 0, none⟩) [s, u] := by
  have := RdS.new (W := W.alloc (.cells #[v] t)) (t := t') [s, u] cs hcs (rl2 _ _ _ (h.to ((Below.refl _ _).alloc (Nat.le_refl _) _)) (h'.to ((Below.refl _ _).alloc (Nat.le_refl _) _)))
  rwa [World.size_alloc (w := W)] at this
set_option maxHeartbeats 1000000 in
theorem whenP_any (A B : Option Addr) (c d : Nat) (l m : List (Int × Int)) (tag : Int) (w : World) (hA : RdC w w.heap.size A l) (hB : RdC w w.heap.size B m) (hl : l.length ≤ 1000000) (hm : m.length ≤ 1000000) :
    Calls Try.prog 30 #[.slice A l.length c, .slice B m.length d, .int .i64 tag] w (NewC ((rowsTo [⟨A, c, l⟩, ⟨B, d, m⟩] (tog [⟨A, c, l⟩, ⟨B, d, m⟩])).map (whenF tag)) w) := by
  have HA := Lib.hid hA
  have HB := Lib.hid hB
  have KC : Hid (∀ p b W, RdS W W.heap.size (some ⟨b, 0, none⟩) [⟨A, c, l⟩, ⟨B, d, m⟩] → p.block < W.heap.size → W.cell? p = some (.int .i64 tag) → Calls Try.prog 34 #[.func (.func 60) #[] #[.pointer (some p)], .slice (some ⟨b, 0, none⟩) 2 2] W (NewC ((rowsTo [⟨A, c, l⟩, ⟨B, d, m⟩] (tog [⟨A, c, l⟩, ⟨B, d, m⟩])).map (whenF tag)) W)) :=
    Lib.hid fun p b W h hp hc => each_when (.pointer (some p)) (whenF tag) (some ⟨b, 0, none⟩) 2 [⟨A, c, l⟩, ⟨B, d, m⟩] W h (by simp) (rl2 _ _ _ hl hm) (Lib.hid fun r g X hr hR hX => when1_any tag p r g X hr hR (Nat.lt_of_lt_of_le hp hX.size) ((hX.cell hp).trans hc))
  generalize (rowsTo [⟨A, c, l⟩, ⟨B, d, m⟩] (tog [⟨A, c, l⟩, ⟨B, d, m⟩])).map (whenF tag) = out at *
  clear hA hB
  go_enter Try.func30, Try.ntmps30
  go_wp2_with (go_at_call 34; (refine (KC.out ⟨w.heap.size, 0, none⟩ _ _ ?_ ?_ ?_).mono ?_); (focus (exact when_rds _ _ _ (HA.out.to (by repeat (first | (with_reducible exact Below.refl _ _) | (with_reducible assumption) | (with_reducible exact bel_box _) | (with_reducible refine bel_step ?_ (by with_reducible assumption)) | (with_reducible refine Below.drew ?_) | (with_reducible refine below_drewN ?_ _) | (with_reducible refine bel_alloc ?_ _)))) (HB.out.to (by repeat (first | (with_reducible exact Below.refl _ _) | (with_reducible assumption) | (with_reducible exact bel_box _) | (with_reducible refine bel_step ?_ (by with_reducible assumption)) | (with_reducible refine Below.drew ?_) | (with_reducible refine below_drewN ?_ _) | (with_reducible refine bel_alloc ?_ _)))))); (focus (simp; omega)); (focus (simp [go_sem])); rintro e w2 ⟨A', c', rfl, hR', hb2⟩)
  go_ret
  exact ⟨A', c', rfl, hR', (by repeat (first | (with_reducible exact Below.refl _ _) | (with_reducible assumption) | (with_reducible exact bel_box _) | (with_reducible refine bel_step ?_ (by with_reducible assumption)) | (with_reducible refine Below.drew ?_) | (with_reducible refine below_drewN ?_ _) | (with_reducible refine bel_alloc ?_ _)))⟩
set_option maxHeartbeats 1000000 in
theorem mergeP_any (C A : Option Addr) (f c : Nat) (x : List (Int × Int)) (ls : List St) (w : World) (hC : RdC w w.heap.size C x) (hA : RdS w w.heap.size A ls) (hx : x.length ≤ 1000000) (hl : ls.length ≤ 90) (h3 : ∀ s ∈ ls, s.l.length ≤ 1000000) :
    Calls Try.prog 24 #[.slice C x.length f, .slice A ls.length c] w (NewC ((rowsTo (⟨C, f, x⟩ :: ls) (tog (⟨C, f, x⟩ :: ls))).map mergeF) w) := by
  have HC := Lib.hid hC
  have HA := Lib.hid hA
  have K1 : Hid (∀ g B W, Below w.heap.size w W → W.cell? ⟨g, 0, none⟩ = some (.slice (some ⟨B, 0, none⟩) 1 1) → W.cell? ⟨g, 1, none⟩ = some (.slice A ls.length c) → B < W.heap.size → W.cell? ⟨B, 0, none⟩ = some (.slice C x.length f) → Calls Try.prog 53 #[.slice (some ⟨g, 0, none⟩) 2 2] W (fun e w' => ∃ A1 c1, e = .returned (.slice A1 (ls.length + 1) c1) ∧ RdS w' w'.heap.size A1 (⟨C, f, x⟩ :: ls) ∧ Below W.heap.size W w')) :=
    Lib.hid fun g B W hb h0 h1 hB hc => (cc.concat_any (some ⟨B, 0, none⟩) A 1 c g [⟨C, f, x⟩] ls W (fun _ => ⟨_, rfl, hB, fun j v hj => by
      match j, hj with
      | 0, hj => obtain rfl : stV ⟨C, f, x⟩ = v := by simpa [cc.bls] using hj
                 exact hc⟩) (hA.to hb).1 (by simp; omega) h0 h1).mono fun e w' h => by
      obtain ⟨A1, c1, rfl, hown, hb1⟩ := h
      have hl1 : ([(⟨C, f, x⟩ : St)] ++ ls).length = ls.length + 1 := by simp
      rw [hl1] at hown ⊢
      have hbb : Below w.heap.size w w' := hb.trans (hb1.mono hb.size)
      refine ⟨A1, c1, rfl, ⟨Rd.of_own hown, fun s hs => ?_⟩, hb1⟩
      rcases List.mem_cons.1 hs with rfl | hs
      · exact hC.to hbb
      · exact (hA.2 s hs).to hbb
  have K2 : Hid (∀ A' c' W, RdS W W.heap.size A' (⟨C, f, x⟩ :: ls) → Calls Try.prog 34 #[.func (.func 52) #[] #[], .slice A' (ls.length + 1) c'] W (NewC ((rowsTo (⟨C, f, x⟩ :: ls) (tog (⟨C, f, x⟩ :: ls))).map mergeF) W)) :=
    Lib.hid fun A' c' W h => each_merge mergeF A' c' (⟨C, f, x⟩ :: ls) W h (by simp; omega) (by intro s hs; rcases List.mem_cons.1 hs with rfl | hs; exact hx; exact h3 s hs) (Lib.hid fun r g X hr hR hX => by
      match r, hr, hR with
      | b :: rest, hr, hR => exact merge1_any b rest g X (by simp at hr; omega) hR)
  generalize (rowsTo (⟨C, f, x⟩ :: ls) (tog (⟨C, f, x⟩ :: ls))).map mergeF = out at *
  clear hA hC
  go_enter Try.func24, Try.ntmps24
  go_wp2_with (first
    | (go_at_call 53; (refine (K1.out _ w.heap.size _ ?_ ?_ ?_ ?_ ?_).mono ?_); (focus ((repeat (first | (with_reducible exact Below.refl _ _) | (with_reducible assumption) | (with_reducible exact bel_box _) | (with_reducible refine bel_step ?_ (by with_reducible assumption)) | (with_reducible refine Below.drew ?_) | (with_reducible refine below_drewN ?_ _) | (with_reducible refine bel_alloc ?_ _))); done)); (focus (simp [go_sem])); (focus (simp [go_sem])); (focus (simp; omega)); (focus (simp [go_sem])); rintro e w1 ⟨A1, c1, rfl, hR1, hb1⟩)
    | (go_at_call 34; (refine (K2.out _ _ _ ?_).mono ?_); (focus (exact hR1)); rintro e w2 ⟨A', c', rfl, hR', hb2⟩))
  go_ret
  exact ⟨A', c', rfl, hR', (by repeat (first | (with_reducible exact Below.refl _ _) | (with_reducible assumption) | (with_reducible exact bel_box _) | (with_reducible refine bel_step ?_ (by with_reducible assumption)) | (with_reducible refine Below.drew ?_) | (with_reducible refine below_drewN ?_ _) | (with_reducible refine bel_alloc ?_ _)))⟩
end Go.Proofs.Ytefmnjcllncmpaa
/-
  DERIVED: THE SHELF's CONTRACTS AT THIS DUMP, IN PLAIN WORDS (tools/lay-plain.mjs out of 'TryShelf.lean', which tools/lay-shelf.mjs wrote): THE SAME DECLARATIONS UNDER THE SAME NAMES: 'import', 'namespace', 'open', 'def', 'theorem' AND NOTHING ELSE: no command of the shelf's: FOR A HAND-IN. Each laying: the table of numbers ('.._ren') and one theorem, a field a fact of the dump's own or the kernel's comparison; each contract: ONE APPLICATION.
-/
namespace Go.Proofs
open Go.Shelf
def Try.lays212_ren : Go.Shelf.Ren := ⟨fun | 212 => 65 | 263 => 80 | 264 => 81 | n => n, fun | 46 => 74 | 51 => 92 | 146 => 93 | 53 => 95 | 148 => 96 | n => n, fun | n => n⟩
theorem Try.lays212 : Go.Proofs.Lays.n212 Try.prog Try.lays212_ren := {
  mixed := by kernel_rfl
  f212 := Try.func65.trans (congrArg some (by kernel_rfl))
  f263 := Try.func80.trans (congrArg some (by kernel_rfl))
  f264 := Try.func81.trans (congrArg some (by kernel_rfl))
  t46 := Try.underlying74
  a46 := Try.isAgg74
  z46 := Try.sizeOf74
  v46 := Try.zeroValue74
  t51 := Try.underlying92
  a51 := Try.isAgg92
  z51 := Try.sizeOf92
  v51 := Try.zeroValue92
  t53 := Try.underlying95
  a53 := Try.isAgg95
  z53 := Try.sizeOf95
  v53 := Try.zeroValue95
  t146 := Try.underlying93
  a146 := Try.isAgg93
  z146 := Try.sizeOf93
  v146 := Try.zeroValue93
  t148 := Try.underlying96
  a148 := Try.isAgg96
  z148 := Try.sizeOf96
  v148 := Try.zeroValue96 }
open Go.RowKit Go.Lib in
/-- math/bits.Mul: "Mul returns the full-width product of x and y": on a machine of 64 bits: Mul64's. (LAID: no walk: one application.) -/
theorem Try.bits_Mul (x y : Nat) (hx : x < 18446744073709551616) (hy : y < 18446744073709551616) (w : World) :
    Calls Try.prog 65 #[.int .u64 x, .int .u64 y] w fun e w' => e = .returned (.tuple #[.int .u64 ((x * y / 18446744073709551616 : Nat) : Int), .int .u64 ((x * y % 18446744073709551616 : Nat) : Int)]) ∧ w' = w := Any.bits_Mul Try.lays212 x y hx hy w
end Go.Proofs
/- copy of cells; slices.Repeat of one cell; Const of the program. -/
namespace Go.Proofs.Ytefmnjcllncmpaa
set_option linter.unusedVariables false
set_option linter.unusedSimpArgs false
open Go.RowKit
theorem fl_append (a b : List (Int × Int)) : fl (a ++ b) = fl a ++ fl b := by simp [fl]
theorem fl_take (l : List (Int × Int)) (k : Nat) : (fl l).take (k * 2) = fl (l.take k) := by
  induction l generalizing k with
  | nil => simp [fl]
  | cons a l ih =>
    cases k with
    | zero => rfl
    | succ k => rw [fl_cons, show (k + 1) * 2 = k * 2 + 1 + 1 by omega, List.take_succ_cons, List.take_succ_cons, ih, List.take_succ_cons, fl_cons]
theorem fl_drop (l : List (Int × Int)) (k : Nat) : (fl l).drop (k * 2) = fl (l.drop k) := by
  induction l generalizing k with
  | nil => simp [fl]
  | cons a l ih =>
    cases k with
    | zero => rfl
    | succ k => rw [fl_cons, show (k + 1) * 2 = k * 2 + 1 + 1 by omega, List.drop_succ_cons, List.drop_succ_cons, ih, List.drop_succ_cons]
theorem fl_one (l : List (Int × Int)) : ∀ v ∈ fl l, v.oneCell' = true := by
  intro v hv
  simp only [fl, List.mem_flatMap] at hv
  obtain ⟨c, _, hc⟩ := hv
  simp at hc
  rcases hc with rfl | rfl <;> rfl
theorem run_copy2 (w : World) (ty : TypeId) (g k m dLen dCap sLen sCap : Nat) (a : Addr) (l cs : List (Int × Int)) (hB : Bc w g l) (hm : m = Nat.min sLen dLen) (hcs : cs.length = m)
    (hsrc : ∀ (j : Nat) (c : Int × Int), cs[j]? = some c → w.cell? (a.add (j * 2)) = some (.int .i64 c.1) ∧ w.cell? (a.add (j * 2 + 1)) = some (.int .i64 c.2)) (hfit : k + m ≤ l.length) :
    (Builtin.copy_ #[26, 26] ty #[.slice (some ⟨g, k * 2, none⟩) dLen dCap, .slice (some a) sLen sCap]).run Try.prog w =
      .ok (goInt m) (w.setRow g (fl (l.take k ++ cs ++ l.drop (k + m))).toArray) := by
  obtain ⟨i, hi, hz⟩ := Option.map_eq_some_iff.1 cellInfo
  simp only [Prod.mk.injEq] at hz
  obtain ⟨hz0, hs, hb⟩ := hz
  have hl := run_loadCells_list (P := Try.prog) w a (fl cs) (fun j v hv => by
    have hj : j < (fl cs).length := (List.getElem?_eq_some_iff.1 hv).1
    rw [fl_length] at hj
    have he : cs[j / 2]? = some cs[j / 2] := List.getElem?_eq_getElem (by omega)
    obtain ⟨s1, s2⟩ := hsrc _ _ he
    obtain ⟨f1, f2⟩ := fl_get cs _ _ he
    rcases (show j = j / 2 * 2 ∨ j = j / 2 * 2 + 1 by omega) with e | e
    · rw [e]; rw [e] at hv; rw [f1] at hv; rw [← hv]; exact s1
    · rw [e]; rw [e] at hv; rw [f2] at hv; rw [← hv]; exact s2)
  have hst := run_storeCells_at Try.prog g (k * 2) 46 (fl cs) 0 (fl l).toArray w hB (by simp [fl_length]; omega) (fl_one cs)
  have hlen : (fl cs).length = m * 2 := by rw [fl_length, hcs]
  have hu := Try.underlying26
  rw [hlen] at hl hst
  have e1 : (fl l).toArray.toList.take (k * 2 + 0) ++ fl cs ++ (fl l).toArray.toList.drop (k * 2 + 0 + m * 2) = fl (l.take k ++ cs ++ l.drop (k + m)) := by
    rw [fl_append, fl_append, ← fl_take, ← fl_drop, show (k + m) * 2 = k * 2 + 0 + m * 2 by omega]; rfl
  rw [e1] at hst
  simp [Builtin.copy_, run_underlying hu, Builtin.lenOf, Builtin.firstCells, sizeOf, typeInfo, hi, hs, ← hm, hl, hst]
theorem Bc.row {w : World} {g : Nat} {l : List (Int × Int)} (h : Bc w g l) (m : List (Int × Int)) : Bc (w.setRow g (fl m).toArray) g m := setRow_heap w g _ _ 46 _ h
theorem rep_row (c : Int × Int) (k m N : Nat) (hk : k + m ≤ N) (hmk : m ≤ k) : (List.replicate k c ++ List.replicate (N - k) (0, 0)).take k ++ (List.replicate k c ++ List.replicate (N - k) (0, 0)).take m ++ (List.replicate k c ++ List.replicate (N - k) (0, 0)).drop (k + m) = List.replicate (k + m) c ++ List.replicate (N - (k + m)) (0, 0) := by
  rw [List.take_append_of_le_length (by simp), List.take_append_of_le_length (by simp; exact hmk), List.take_replicate, List.take_replicate, Nat.min_self, Nat.min_eq_left hmk, List.replicate_append_replicate, List.drop_append, List.drop_replicate, List.drop_replicate, List.length_replicate, show k - (k + m) = 0 by omega, show k + m - k = m by omega, show N - k - m = N - (k + m) by omega]
  rfl
set_option maxHeartbeats 4000000 in
set_option maxRecDepth 20000 in
theorem repeat_any (ad : Addr) (c : Int × Int) (N : Nat) (w : World) (hN : N ≤ 4096) (had : ad.block < w.heap.size) (h0 : w.cell? (ad.add 0) = some (.int .i64 c.1)) (h1 : w.cell? (ad.add 1) = some (.int .i64 c.2)) :
    Calls Try.prog 41 #[.slice (some ad) 1 1, .int .i64 (N : Int)] w (NewC (List.replicate N c) w) := by
  have KM : Hid (∀ W, Calls Try.prog 65 #[.int .u64 1, .int .u64 (N : Int)] W fun e w' => e = .returned (.tuple #[.int .u64 0, .int .u64 (N : Int)]) ∧ W = w') := Lib.hid fun W => by
    have h := Try.bits_Mul 1 N (by omega) (by omega) W
    rw [show 1 * N / 18446744073709551616 = 0 by omega, show 1 * N % 18446744073709551616 = N by omega] at h
    exact h.mono fun e w' hh => ⟨hh.1, hh.2.symm⟩
  have m1 := mk_cells N (by omega) w
  have hB0 : Bc (w.alloc (.cells (fl (List.replicate N (0, 0))).toArray 46)) w.heap.size (List.replicate N (0, 0)) := Bk.new _ _ _
  have hc1 := run_copy2 _ 3 w.heap.size 0 (Nat.min 1 N) N N 1 1 ad (List.replicate N (0, 0)) (List.replicate (Nat.min 1 N) c) hB0 rfl (by simp) (fun j d hd => by
    obtain ⟨hj, rfl⟩ := List.getElem?_eq_some_iff.1 hd
    have hj' : j = 0 := by
      have : Nat.min 1 N ≤ 1 := Nat.min_le_left _ _
      simp at hj
      omega
    subst hj'
    simp only [List.getElem_replicate]
    exact ⟨(((Below.refl w.heap.size w).alloc (Nat.le_refl _) _).cell (by rw [add_block]; exact had)).trans h0, (((Below.refl w.heap.size w).alloc (Nat.le_refl _) _).cell (by rw [add_block]; exact had)).trans h1⟩) (by simp; exact Nat.min_le_right _ _)
  rw [show List.take 0 (List.replicate N ((0, 0) : Int × Int)) ++ List.replicate (Nat.min 1 N) c ++ List.drop (0 + Nat.min 1 N) (List.replicate N (0, 0)) = List.replicate (Nat.min 1 N) c ++ List.replicate (N - Nat.min 1 N) (0, 0) by simp] at hc1
  have hB1 := hB0.row (List.replicate (Nat.min 1 N) c ++ List.replicate (N - Nat.min 1 N) (0, 0))
  simp only [Nat.zero_mul] at hc1
  go_enter Try.func41, Try.ntmps41
  go_wp2_with (go_at_call 65; (with_reducible refine (KM.out _).mono ?_); rintro e w1 ⟨rfl, rfl⟩)
  clear hc1 m1 KM
  have hbw : Below w.heap.size w ((w.alloc (.cells (fl (List.replicate N (0, 0))).toArray 46)).setRow w.heap.size (fl (List.replicate (Nat.min 1 N) c ++ List.replicate (N - Nat.min 1 N) (0, 0))).toArray) := below_setRow ((Below.refl _ _).alloc (Nat.le_refl _) _) (Nat.le_refl _) _
  go_loopw [8] (fun i wr => ∃ k : Nat, k ≤ N ∧ (0 < N → 0 < k) ∧ i = .int .i64 (k : Int) ∧ Hid (Bc wr w.heap.size (List.replicate k c ++ List.replicate (N - k) (0, 0))) ∧ Below w.heap.size w wr) (fun i _ => N - (intOf i).toNat)
  case atStart => exact ⟨Nat.min 1 N, Nat.min_le_right _ _, fun h => by show 0 < min 1 N; omega, rfl, Lib.hid hB1, hbw⟩
  case round =>
    obtain ⟨k, hk, hk0, rfl, hB, hbl⟩ := hrel
    by_cases hlt : k < N
    · have hk1 := hk0 (by omega)
      have hm1 : Nat.min k (N - k) ≤ k := Nat.min_le_left _ _
      have hm2 : Nat.min k (N - k) ≤ N - k := Nat.min_le_right _ _
      have hs1 : ∀ wr : World, (Instr.slice 26 (.slice (some ⟨w.heap.size, 0, none⟩) N N) (some (.int .i64 (k : Int))) none none).run Try.prog wr = .ok (.slice (some ⟨w.heap.size, k * 2, none⟩) (N - k) (N - k)) wr := fun wr => by
        have h1 : (Instr.slice 26 (.slice (some ⟨w.heap.size, 0, none⟩) N N) (some (.int .i64 (k : Int))) none none).run Try.prog wr = _ := run_slice_l wr 26 (some ⟨w.heap.size, 0, none⟩) N N (by kernel_rfl) .i64 k (by omega) (by omega)
        rw [h1]
        have hne : ¬ N = k := by omega
        simp [go_sem, sliced, Addr.add, hne]
        omega
      have hs2 : ∀ wr : World, (Instr.slice 26 (.slice (some ⟨w.heap.size, 0, none⟩) N N) none (some (.int .i64 (k : Int))) none).run Try.prog wr = .ok (.slice (some ⟨w.heap.size, 0, none⟩) k N) wr := fun wr => by
        have h1 : (Instr.slice 26 (.slice (some ⟨w.heap.size, 0, none⟩) N N) none (some (.int .i64 (k : Int))) none).run Try.prog wr = _ := run_slice_h wr 26 (some ⟨w.heap.size, 0, none⟩) N N (by kernel_rfl) .i64 k (by omega) (by omega)
        rw [h1]
        have hne : ¬ N = 0 := by omega
        simp [go_sem, sliced, Addr.add, hne]
      have hBd : Bc wr.drew w.heap.size (List.replicate k c ++ List.replicate (N - k) (0, 0)) := hB.out
      have hc2 := run_copy2 wr.drew 3 w.heap.size k (Nat.min k (N - k)) (N - k) (N - k) k N ⟨w.heap.size, 0, none⟩ _ ((List.replicate k c ++ List.replicate (N - k) (0, 0)).take (Nat.min k (N - k))) hBd rfl (by simp <;> omega) (fun j d hd => by
        have hd' : (List.replicate k c ++ List.replicate (N - k) (0, 0))[j]? = some d := by
          rw [List.getElem?_take] at hd
          split at hd
          · exact hd
          · cases hd
        have h := hBd.cells hd'
        rw [add_off, add_off]
        exact ⟨h.1, h.2.1⟩) (by simp <;> omega)
      rw [rep_row c k (Nat.min k (N - k)) N (by omega) hm1] at hc2
      have hB2 := Lib.hid (hBd.row (List.replicate (k + Nat.min k (N - k)) c ++ List.replicate (N - (k + Nat.min k (N - k))) (0, 0)))
      have hm0 : 0 < Nat.min k (N - k) := by show 0 < min k (N - k); omega
      generalize Nat.min k (N - k) = m at *
      
      have hwr : IntKind.i64.wrap ((k : Int) + (m : Int)) = ((k + m : Nat) : Int) := by rw [IntKind.wrap_i64]; omega
      go_wp2
      go_region_held3 (fun _ => True)
        (trivial)
        (first | (fail))
      go_wp2
      go_roundw
      case rel => exact ⟨k + m, by omega, by omega, congrArg _ (by omega), hB2, below_setRow (Below.drew hbl) (Nat.le_refl _) _⟩
      case measure =>
        simp only [intOf, hwr]
        simp
        omega
    · obtain rfl : k = N := by omega
      have hB' := hB.out
      rw [Nat.sub_self, List.replicate_zero, List.append_nil] at hB'
      have HR := Lib.hid hB'.rd
      clear hB hB' hB0 hB1
      go_wp2
      go_ret
      exact ⟨_, _, by rw [List.length_replicate]; rfl, HR.out, hbl⟩
def constN (n : Int) : Nat := (min (max n 0) 4096).toNat
theorem constN_le (n : Int) : constN n ≤ 4096 := by unfold constN; omega
set_option maxHeartbeats 1000000 in
theorem constP_any (v n : Int) (w : World) : Calls Try.prog 14 #[.int .i64 v, .int .i64 n] w (NewC (List.replicate (constN n) (1, v)) w) := by
  have KP := Lib.hid (present_any v)
  have KR : Hid (∀ W b, b < W.heap.size → W.cell? ⟨b, 0, none⟩ = some (.int .i64 1) → W.cell? ⟨b, 1, none⟩ = some (.int .i64 v) → Calls Try.prog 41 #[.slice (some ⟨b, 0, none⟩) 1 1, .int .i64 (constN n : Int)] W (NewC (List.replicate (constN n) (1, v)) W)) :=
    Lib.hid fun W b hb h0 h1 => repeat_any ⟨b, 0, none⟩ (1, v) (constN n) W (constN_le n) hb h0 h1
  have hcn : constN n = (min (max n 0) 4096).toNat := rfl
  simp only [cV] at KP
  generalize constN n = N at *
  rcases (show n < 0 ∨ (0 ≤ n ∧ n ≤ 4096) ∨ 4096 < n by omega) with h | h | h
  · obtain rfl : N = 0 := by omega
    replace KR : Hid (∀ W b, b < W.heap.size → W.cell? ⟨b, 0, none⟩ = some (.int .i64 1) → W.cell? ⟨b, 1, none⟩ = some (.int .i64 v) → Calls Try.prog 41 #[.slice (some ⟨b, 0, none⟩) 1 1, .int .i64 0] W (NewC (List.replicate 0 (1, v)) W)) := KR
    clear hcn
    go_enter Try.func14, Try.ntmps14
    go_wp2_with (first
      | (go_at_call 42; (with_reducible refine (KP.out _).mono ?_); rintro e w1 ⟨rfl, hb1⟩)
      | (go_at_call 41; (with_reducible refine (KR.out _ _ ?_ ?_ ?_).mono ?_); (focus (simp)); (focus (simp [go_sem])); (focus (simp [go_sem])); rintro e w2 ⟨A', c', rfl, hR', hb2⟩))
    go_ret
    exact ⟨A', c', rfl, hR', (by repeat (first | (with_reducible exact Below.refl _ _) | (with_reducible assumption) | (with_reducible exact bel_box _) | (with_reducible refine bel_step ?_ (by with_reducible assumption)) | (with_reducible refine Below.drew ?_) | (with_reducible refine below_drewN ?_ _) | (with_reducible refine bel_alloc ?_ _)))⟩
  · obtain ⟨h1, h2⟩ := h
    obtain rfl : n = (N : Int) := by omega
    clear hcn
    go_enter Try.func14, Try.ntmps14
    go_wp2_with (first
      | (go_at_call 42; (with_reducible refine (KP.out _).mono ?_); rintro e w1 ⟨rfl, hb1⟩)
      | (go_at_call 41; (with_reducible refine (KR.out _ _ ?_ ?_ ?_).mono ?_); (focus (simp)); (focus (simp [go_sem])); (focus (simp [go_sem])); rintro e w2 ⟨A', c', rfl, hR', hb2⟩))
    go_ret
    exact ⟨A', c', by rw [List.length_replicate]; rfl, hR', (by repeat (first | (with_reducible exact Below.refl _ _) | (with_reducible assumption) | (with_reducible exact bel_box _) | (with_reducible refine bel_step ?_ (by with_reducible assumption)) | (with_reducible refine Below.drew ?_) | (with_reducible refine below_drewN ?_ _) | (with_reducible refine bel_alloc ?_ _)))⟩
  · obtain rfl : N = 4096 := by omega
    replace KR : Hid (∀ W b, b < W.heap.size → W.cell? ⟨b, 0, none⟩ = some (.int .i64 1) → W.cell? ⟨b, 1, none⟩ = some (.int .i64 v) → Calls Try.prog 41 #[.slice (some ⟨b, 0, none⟩) 1 1, .int .i64 4096] W (NewC (List.replicate 4096 (1, v)) W)) := KR
    have h5 : 0 < n := by omega
    clear hcn
    generalize List.replicate 4096 ((1, v) : Int × Int) = out at *
    go_enter Try.func14, Try.ntmps14
    go_wp2_with (first
      | (go_at_call 42; (with_reducible refine (KP.out _).mono ?_); rintro e w1 ⟨rfl, hb1⟩)
      | (go_at_call 41; (with_reducible refine (KR.out _ _ ?_ ?_ ?_).mono ?_); (focus (simp)); (focus (simp [go_sem])); (focus (simp [go_sem])); rintro e w2 ⟨A', c', rfl, hR', hb2⟩))
    go_ret
    exact ⟨A', c', rfl, hR', (by repeat (first | (with_reducible exact Below.refl _ _) | (with_reducible assumption) | (with_reducible exact bel_box _) | (with_reducible refine bel_step ?_ (by with_reducible assumption)) | (with_reducible refine Below.drew ?_) | (with_reducible refine below_drewN ?_ _) | (with_reducible refine bel_alloc ?_ _)))⟩
end Go.Proofs.Ytefmnjcllncmpaa
/- Rows of cells that a call owns; Const and Dense of the reference, Same, Dense of the program, is. -/
namespace Go.Proofs.Ytefmnjcllncmpaa
set_option linter.unusedVariables false
set_option linter.unusedSimpArgs false
open Go.RowKit
theorem own2_keep {w W : World} {base n size : Nat} {e : TypeId} {v : Value} {xs : List Value} (h : w.ownsRow base e size v n xs) (hb : Below w.heap.size w W) : W.ownsRow base e size v n xs := by
  refine ⟨h.1, h.2.imp id fun ⟨g, cap, cur, e1, h1, h2, r⟩ => ⟨g, cap, cur, e1, h1, ?_, r⟩⟩
  rw [hb.block g (Array.getElem?_eq_some_iff.1 h2).1]
  exact h2
theorem own2_form {w : World} {base n size : Nat} {e : TypeId} {v : Value} {xs : List Value} (h : w.ownsRow base e size v n xs) : ∃ A c, v = .slice A n c := by
  rcases h.2 with ⟨rfl, rfl⟩ | ⟨g, cap, cur, rfl, _⟩
  · exact ⟨_, _, rfl⟩
  · exact ⟨_, _, rfl⟩
theorem own2_below {w wr W w3 : World} {v v' : Value} {B n size : Nat} {e : TypeId} {xs : List Value} (hg : W.grownBy w3 v'.ownBlock) (hv : v' = v) (hown : wr.ownsRow B e size v n xs) (hB : B ≤ W.heap.size) (hb : Below B w W) : Below B w w3 := by
  subst hv
  exact hb.grown hg hB (fun j hj => (hown.lt j hj).1)
theorem own2_rd {w : World} {base : Nat} {A : Option Addr} {n c : Nat} {l : List (Int × Int)} (h : w.ownsRow base 46 2 (.slice A n c) n (fl l)) (hl : l.length = n) : RdC w w.heap.size A l := fun hn => by
  have hn' : 0 < n := by have := List.length_pos_iff.2 hn; omega
  obtain ⟨g, cap, hv, _, hlt⟩ := h.form hn'
  have hA : A = some ⟨g, 0, none⟩ := by injection hv
  subst hA
  refine ⟨_, rfl, hlt, fun j c hc => ?_⟩
  obtain ⟨f1, f2⟩ := fl_get l j c hc
  exact ⟨h.cells (g := g) rfl _ _ f1, h.cells (g := g) rfl _ _ f2⟩
theorem row2 (w : World) (x y : Value) (t : TypeId) : ∀ j u, [x, y][j]? = some u → (w.alloc (.cells #[x, y] t)).cell? ((⟨w.heap.size, 0, none⟩ : Addr).add j) = some u := by
  intro j u hu
  rw [add_off, cell_of_row _ _ j #[x, y] t (0, 0) (heap_alloc_new w _), ← hu]
  simp
theorem c_one (a b : Int) : ∀ u ∈ [Value.int .i64 a, Value.int .i64 b], u.oneCell' = true := by
  intro u hu
  simp at hu
  rcases hu with rfl | rfl <;> rfl
theorem cellParts : ∃ i, Try.prog.info? 46 = some i ∧ i.zero = some (.agg #[.int .i64 0, .int .i64 0]) ∧ i.size = 2 ∧ i.bytes = 16 := by
  have h : (Try.prog.info? 46).map (fun i => (i.zero, i.size, i.bytes)) = some (some (.agg #[.int .i64 0, .int .i64 0]), 2, 16) := by kernel_rfl
  obtain ⟨i, hi, hz⟩ := Option.map_eq_some_iff.1 h
  simp only [Prod.mk.injEq] at hz
  exact ⟨i, hi, hz.1, hz.2.1, hz.2.2⟩
theorem fl_snoc (l : List (Int × Int)) (a b : Int) : fl l ++ [.int .i64 a, .int .i64 b] = fl (l ++ [(a, b)]) := by simp [fl]
end Go.Proofs.Ytefmnjcllncmpaa
/- Arrow of the reference. -/
namespace Go.Proofs.Ytefmnjcllncmpaa
set_option linter.unusedVariables false
set_option linter.unusedSimpArgs false
open Go.RowKit
theorem Bk.four {w : World} {g : Nat} {t : TypeId} {x y : Value} (h : Bk w g t #[x, y]) : w.cell? ⟨g, 0, none⟩ = some x ∧ w.cell? ⟨g, 1, none⟩ = some y ∧ w.frozen? ⟨g, 0, none⟩ = false ∧ w.frozen? ⟨g, 1, none⟩ = false := ⟨h.cell 0, h.cell 1, h.frozen 0, h.frozen 1⟩
theorem Bk.put2 {w : World} {g : Nat} {t : TypeId} {x y : Value} (h : Bk w g t #[x, y]) (u v : Value) : Bk ((w.setCell ⟨g, 0, none⟩ u).setCell ⟨g, 1, none⟩ v) g t #[u, v] := (h.set_ 0 u).set_ 1 v
theorem Bk.go {w w' : World} {g : Nat} {t : TypeId} {cs : Array Value} (h : Bk w g t cs) (hb : Below w.heap.size w w') : Bk w' g t cs := h.below hb h.lt
theorem getD_of {l : List (Int × Int)} {t : Nat} {e : Int × Int} (h : l[t]? = some e) : l.getD t (0, 0) = e := by rw [List.getD, h]; rfl
theorem row2s (w : World) (p q : Addr) (u v x y : Value) (t : TypeId) : ∀ j z, [x, y][j]? = some z → (((w.setCell p u).setCell q v).alloc (.cells #[x, y] t)).cell? ((⟨w.heap.size, 0, none⟩ : Addr).add j) = some z := by
  have h := row2 ((w.setCell p u).setCell q v) x y t
  rw [World.size_setCell, World.size_setCell] at h
  exact h
theorem row2a (w : World) (o : Obj) (x y : Value) (t : TypeId) : ∀ j z, [x, y][j]? = some z → ((w.alloc o).alloc (.cells #[x, y] t)).cell? ((⟨w.heap.size + 1, 0, none⟩ : Addr).add j) = some z := by
  have h := row2 (w.alloc o) x y t
  rw [World.size_alloc] at h
  exact h
/-- the cells of a stream at an instant, in any later world -/
theorem RdC.inst {w : World} {A : Option Addr} {l : List (Int × Int)} {t : Nat} (h : RdC w w.heap.size A l) (ht : t < l.length) : ∃ ad e0 e1, A = some ad ∧ l[t]? = some (e0, e1) ∧ Hid (∀ W, Below w.heap.size w W → W.cell? (ad.add (t * 2)) = some (.int .i64 e0) ∧ W.cell? ⟨(ad.add (t * 2)).block, (ad.add (t * 2)).off + 1, none⟩ = some (.int .i64 e1)) := by
  obtain ⟨ad, ⟨e0, e1⟩, hA, hb, he, h1, h2⟩ := h.at_ ht
  exact ⟨ad, e0, e1, hA, he, Lib.hid fun W hW => ⟨(hW.cell (by rw [add_block]; exact hb)).trans h1, (hW.cell (p := ⟨(ad.add (t * 2)).block, (ad.add (t * 2)).off + 1, none⟩) (by rw [add_block]; exact hb)).trans h2⟩⟩
end Go.Proofs.Ytefmnjcllncmpaa
/- Fby of the reference. -/
namespace Go.Proofs.Ytefmnjcllncmpaa
set_option linter.unusedVariables false
set_option linter.unusedSimpArgs false
open Go.RowKit
theorem fbyS_no {s : Int × Int} {r : List (Int × Int)} (h : jnt r = false) : fbyS s r = (s, (0, 0)) := by unfold fbyS; rw [h]; rfl
theorem fbyS_a {s : Int × Int} {r : List (Int × Int)} (h : jnt r = true) (ht : thB s = false) : fbyS s r = (r.getD 1 (0, 0), r.getD 0 (0, 0)) := by unfold fbyS; rw [h, ht]; rfl
theorem fbyS_b {s : Int × Int} {r : List (Int × Int)} (h : jnt r = true) (ht : thB s = true) : fbyS s r = (r.getD 1 (0, 0), s) := by unfold fbyS; rw [h, ht]; rfl
end Go.Proofs.Ytefmnjcllncmpaa
/- Pre of the reference. -/
namespace Go.Proofs.Ytefmnjcllncmpaa
set_option linter.unusedVariables false
set_option linter.unusedSimpArgs false
open Go.RowKit
theorem jnt1 (c : Int × Int) : jnt [pl c] = thB c := by simp [jnt, thB_pl]
theorem pre_st (s : St) (k : Nat) : stT preS (2, 0) [s] (k + 1) = if thB (s.l.getD k (0, 0)) then pl (s.l.getD k (0, 0)) else stT preS (2, 0) [s] k := by
  rw [stT_succ]
  show (preS _ [pl (s.l.getD k (0, 0))]).1 = _
  generalize s.l.getD k (0, 0) = c
  generalize stT preS (2, 0) [s] k = st
  unfold preS
  rw [jnt1]
  cases thB c <;> rfl
end Go.Proofs.Ytefmnjcllncmpaa
/- When of the reference. -/
namespace Go.Proofs.Ytefmnjcllncmpaa
set_option linter.unusedVariables false
set_option linter.unusedSimpArgs false
open Go.RowKit
theorem pl_tag {b0 b1 tag : Int} : pl (b0, b1) = (1, tag) ↔ b0 = 1 ∧ b1 = tag := by
  unfold pl
  by_cases h1 : b0 = 1
  · subst h1; simp
  · by_cases h2 : b0 = 2
    · subst h2; simp
    · simp [h1, h2]
set_option maxHeartbeats 4000000 in
set_option maxRecDepth 20000 in
theorem rwhen_any (A B : Option Addr) (c d : Nat) (l m : List (Int × Int)) (tag : Int) (W0 : World) (hA : RdC W0 W0.heap.size A l) (hB : RdC W0 W0.heap.size B m) (hl : l.length ≤ 1000000) (hm : m.length ≤ 1000000) :
    Calls Try.prog 31 #[.slice A l.length c, .slice B m.length d, .int .i64 tag] W0 (NewC ((rowsTo [⟨A, c, l⟩, ⟨B, d, m⟩] (tog [⟨A, c, l⟩, ⟨B, d, m⟩])).map (whenF tag)) W0) := by
  obtain ⟨i0, hi, iz, is, ib⟩ := cellParts
  rw [tog2, ← outE]
  have hrow : ∀ t, rowAt [⟨A, c, l⟩, ⟨B, d, m⟩] t = [pl (l.getD t (0, 0)), pl (m.getD t (0, 0))] := fun t => rfl
  generalize [(⟨A, c, l⟩ : St), ⟨B, d, m⟩] = ls at *
  simp only
  have KP := Lib.hid rplain_any
  simp only [cV] at KP
  go_enter Try.func31, Try.ntmps31
  go_wp2
  go_loopw [7, 8] (fun v i wr => ∃ t : Nat, t ≤ l.length ∧ t ≤ m.length ∧ i = .int .i64 (t : Int) ∧ Hid (wr.ownsRow W0.heap.size 46 2 v t (fl (outT (eS (whenF tag)) () ls t))) ∧ Below W0.heap.size W0 wr) (fun _ i _ => l.length - (intOf i).toNat)
  case atStart => exact ⟨0, by omega, by omega, rfl, Lib.hid (World.ownsRow_nil _ _ _ _), Below.refl _ _⟩
  case round =>
    obtain ⟨t, htl, htm, rfl, hown, hbl⟩ := hrel
    have hsz := hbl.size
    by_cases htn : t < l.length ∧ t < m.length
    · obtain ⟨h1, h2⟩ := htn
      obtain ⟨adA, a0, a1, rfl, hea, HEA⟩ := hA.inst h1
      obtain ⟨adB, b0, b1, rfl, heb, HEB⟩ := hB.inst h2
      have HO := Lib.hid (outT_succ (eS (whenF tag)) () ls t)
      have hr := hrow t
      rw [getD_of hea, getD_of heb] at hr
      rw [hr] at HO
      generalize outT (eS (whenF tag)) () ls t = xs at *
      have HF : Hid (∀ z, whenF tag [pl (a0, a1), pl (b0, b1)] = z → outT (eS (whenF tag)) () ls (t + 1) = xs ++ [z]) := Lib.hid fun z hz => by rw [HO.out, ← hz]; rfl
      have KPA := Lib.hid (KP.out (a0, a1))
      have hno : ¬ (b0 = 1 ∧ b1 = tag) → whenF tag [pl (a0, a1), pl (b0, b1)] = (0, 0) := fun h => if_neg (fun e => h (pl_tag.1 e))
      have hyes : b0 = 1 ∧ b1 = tag → whenF tag [pl (a0, a1), pl (b0, b1)] = pl (a0, a1) := fun h => if_pos (pl_tag.2 h)
      generalize pl (a0, a1) = pa at *
      obtain ⟨u0, u1⟩ := pa
      simp only at KPA
      obtain ⟨cb0, cb1⟩ := HEB.out (wr.alloc (.cells #[.int .i64 0, .int .i64 0] 46)) (by repeat (first | (with_reducible exact Below.refl _ _) | (with_reducible assumption) | (with_reducible exact bel_box _) | (with_reducible refine bel_step ?_ (by with_reducible assumption)) | (with_reducible refine Below.drew ?_) | (with_reducible refine below_drewN ?_ _) | (with_reducible refine bel_alloc ?_ _)))
      obtain ⟨ca0, ca1⟩ := HEA.out (wr.alloc (.cells #[.int .i64 0, .int .i64 0] 46)) (by repeat (first | (with_reducible exact Below.refl _ _) | (with_reducible assumption) | (with_reducible exact bel_box _) | (with_reducible refine bel_step ?_ (by with_reducible assumption)) | (with_reducible refine Below.drew ?_) | (with_reducible refine below_drewN ?_ _) | (with_reducible refine bel_alloc ?_ _)))
      have hz1 : wr.heap.size ≤ wr.heap.size := Nat.le_refl _
      by_cases hx : b0 = 1
      · subst hx
        by_cases hy : b1 = tag
        · subst hy
          have HV := HF.out _ (hyes ⟨rfl, rfl⟩)
          replace HV := Lib.hid HV
          clear HF hyes hno hr hea heb HO hrow KP
          go_wp2_with (first
            | (go_at_call 38; (with_reducible refine (KPA.out _).mono ?_); rintro e w3 ⟨rfl, hb3⟩; have hz3 := hb3.size; rw [World.size_alloc] at hz3; have B3 := (Bk.new wr 46 #[.int .i64 0, .int .i64 0]).go hb3; obtain ⟨q0, q1, q2, q3⟩ := B3.four; have B3s := B3.put2 (.int .i64 u0) (.int .i64 u1); obtain ⟨s0, s1, s2, s3⟩ := B3s.four)
            | (at_builtin; refine wpList_append_own_at _ rfl _ _ 26 rfl W0.heap.size 46 i0 (.agg #[.int .i64 0, .int .i64 0]) 2 16 Try.underlying26 hi iz is ib rfl (by decide) _ t (fl xs) rfl (own2_keep hown.out ?_) ⟨_, 0, none⟩ 1 1 [.int .i64 u0, .int .i64 u1] rfl rfl (by first | exact row2 _ _ _ _ | exact row2s _ _ _ _ _ _ _ _ | exact row2a _ _ _ _ _) (c_one _ _) (by unfold maxLen; omega) (by omega) ?_ ?_; (focus ((repeat (first | (with_reducible exact Below.refl _ _) | (with_reducible assumption) | (with_reducible exact bel_box _) | (with_reducible refine bel_step ?_ (by with_reducible assumption)) | (with_reducible refine Below.drew ?_) | (with_reducible refine below_drewN ?_ _) | (with_reducible refine bel_alloc ?_ _) | (with_reducible refine bel_two ?_ (by omega) _ _) | (with_reducible refine bel_one ?_ (by omega) _))); done)); (focus (simp; omega)); intro v9 w9 hown9 hgrow9 _ _; have hb9 : Below W0.heap.size W0 w9 := own2_below hgrow9 rfl hown.out (by simp; omega) (by repeat (first | (with_reducible exact Below.refl _ _) | (with_reducible assumption) | (with_reducible exact bel_box _) | (with_reducible refine bel_step ?_ (by with_reducible assumption)) | (with_reducible refine Below.drew ?_) | (with_reducible refine below_drewN ?_ _) | (with_reducible refine bel_alloc ?_ _) | (with_reducible refine bel_two ?_ (by omega) _ _) | (with_reducible refine bel_one ?_ (by omega) _))); rw [fl_snoc] at hown9; have HO9 := Lib.hid hown9; clear hown9 hgrow9))
          go_roundw
          case rel => exact ⟨t + 1, by omega, by omega, by go_num, Lib.hid (by rw [HV.out]; exact HO9.out), hb9⟩
          case measure => simp [intOf]; omega
        · have HV := HF.out _ (hno (fun h => hy h.2))
          replace HV := Lib.hid HV
          have e1 : (b1 == tag) = false := beq_eq_false_iff_ne.2 hy
          clear HF hyes hno hr hea heb HO hrow KP hy
          go_wp2_with (first
            | (at_builtin; refine wpList_append_own_at _ rfl _ _ 26 rfl W0.heap.size 46 i0 (.agg #[.int .i64 0, .int .i64 0]) 2 16 Try.underlying26 hi iz is ib rfl (by decide) _ t (fl xs) rfl (own2_keep hown.out ?_) ⟨_, 0, none⟩ 1 1 [.int .i64 0, .int .i64 0] rfl rfl (by first | exact row2 _ _ _ _ | exact row2s _ _ _ _ _ _ _ _ | exact row2a _ _ _ _ _) (c_one _ _) (by unfold maxLen; omega) (by omega) ?_ ?_; (focus ((repeat (first | (with_reducible exact Below.refl _ _) | (with_reducible assumption) | (with_reducible exact bel_box _) | (with_reducible refine bel_step ?_ (by with_reducible assumption)) | (with_reducible refine Below.drew ?_) | (with_reducible refine below_drewN ?_ _) | (with_reducible refine bel_alloc ?_ _) | (with_reducible refine bel_two ?_ (by omega) _ _) | (with_reducible refine bel_one ?_ (by omega) _))); done)); (focus (simp; omega)); intro v9 w9 hown9 hgrow9 _ _; have hb9 : Below W0.heap.size W0 w9 := own2_below hgrow9 rfl hown.out (by simp; omega) (by repeat (first | (with_reducible exact Below.refl _ _) | (with_reducible assumption) | (with_reducible exact bel_box _) | (with_reducible refine bel_step ?_ (by with_reducible assumption)) | (with_reducible refine Below.drew ?_) | (with_reducible refine below_drewN ?_ _) | (with_reducible refine bel_alloc ?_ _) | (with_reducible refine bel_two ?_ (by omega) _ _) | (with_reducible refine bel_one ?_ (by omega) _))); rw [fl_snoc] at hown9; have HO9 := Lib.hid hown9; clear hown9 hgrow9))
          go_roundw
          case rel => exact ⟨t + 1, by omega, by omega, by go_num, Lib.hid (by rw [HV.out]; exact HO9.out), hb9⟩
          case measure => simp [intOf]; omega
      · have HV := HF.out _ (hno (fun h => hx h.1))
        replace HV := Lib.hid HV
        have e1 : (b0 == 1) = false := beq_eq_false_iff_ne.2 hx
        clear HF hyes hno hr hea heb HO hrow KP hx
        go_wp2_with (first
          | (at_builtin; refine wpList_append_own_at _ rfl _ _ 26 rfl W0.heap.size 46 i0 (.agg #[.int .i64 0, .int .i64 0]) 2 16 Try.underlying26 hi iz is ib rfl (by decide) _ t (fl xs) rfl (own2_keep hown.out ?_) ⟨_, 0, none⟩ 1 1 [.int .i64 0, .int .i64 0] rfl rfl (by first | exact row2 _ _ _ _ | exact row2s _ _ _ _ _ _ _ _ | exact row2a _ _ _ _ _) (c_one _ _) (by unfold maxLen; omega) (by omega) ?_ ?_; (focus ((repeat (first | (with_reducible exact Below.refl _ _) | (with_reducible assumption) | (with_reducible exact bel_box _) | (with_reducible refine bel_step ?_ (by with_reducible assumption)) | (with_reducible refine Below.drew ?_) | (with_reducible refine below_drewN ?_ _) | (with_reducible refine bel_alloc ?_ _) | (with_reducible refine bel_two ?_ (by omega) _ _) | (with_reducible refine bel_one ?_ (by omega) _))); done)); (focus (simp; omega)); intro v9 w9 hown9 hgrow9 _ _; have hb9 : Below W0.heap.size W0 w9 := own2_below hgrow9 rfl hown.out (by simp; omega) (by repeat (first | (with_reducible exact Below.refl _ _) | (with_reducible assumption) | (with_reducible exact bel_box _) | (with_reducible refine bel_step ?_ (by with_reducible assumption)) | (with_reducible refine Below.drew ?_) | (with_reducible refine below_drewN ?_ _) | (with_reducible refine bel_alloc ?_ _) | (with_reducible refine bel_two ?_ (by omega) _ _) | (with_reducible refine bel_one ?_ (by omega) _))); rw [fl_snoc] at hown9; have HO9 := Lib.hid hown9; clear hown9 hgrow9))
        go_roundw
        case rel => exact ⟨t + 1, by omega, by omega, by go_num, Lib.hid (by rw [HV.out]; exact HO9.out), hb9⟩
        case measure => simp [intOf]; omega
    · obtain rfl : t = min l.length m.length := by omega
      obtain ⟨V, cv, rfl⟩ := own2_form hown.out
      have HR := Lib.hid (own2_rd hown.out (outT_length _ _ _ _))
      have HL := Lib.hid (outT_length (eS (whenF tag)) () ls (min l.length m.length))
      generalize outT (eS (whenF tag)) () ls (min l.length m.length) = xs at *
      generalize hmn : min l.length m.length = n at *
      clear hown hrow
      by_cases h1 : n < l.length
      · have h2 : ¬ n < m.length := by omega
        clear hmn
        go_wp2
        go_ret
        exact ⟨V, cv, by rw [HL.out]; rfl, HR.out, hbl⟩
      · clear hmn
        go_wp2
        go_ret
        exact ⟨V, cv, by rw [HL.out]; rfl, HR.out, hbl⟩
end Go.Proofs.Ytefmnjcllncmpaa
/- Dense of both, Same, is. -/
namespace Go.Proofs.Ytefmnjcllncmpaa
set_option linter.unusedVariables false
set_option linter.unusedSimpArgs false
open Go.RowKit
attribute [local go_sem] cell_eql cell_neq cell_eqg
def dens (l : List (Int × Int)) : List Int := (l.filter fun c => c.1 == 1).map (·.2)
theorem dens_take {l : List (Int × Int)} {k : Nat} {e : Int × Int} (h : l[k]? = some e) : dens (l.take (k + 1)) = dens (l.take k) ++ (if e.1 == 1 then [e.2] else []) := by
  rw [dens, take_succ_of h, List.filter_append, List.map_append]
  cases he : (e.1 == 1) <;> simp [he, dens, List.filter]
def NewI (xs : List Int) (w : World) (e : Ending) (w' : World) : Prop := ∃ A c, e = .returned (.slice A xs.length c) ∧ Rd w' w'.heap.size A (is_ xs) ∧ Below w.heap.size w w'
theorem row1a (w : World) (o : Obj) (u : Value) (t : TypeId) : ∀ j v, [u][j]? = some v → ((w.alloc o).alloc (.cells #[u] t)).cell? ((⟨w.heap.size + 1, 0, none⟩ : Addr).add j) = some v := by
  have h := cell_one_new' (w.alloc o) u t
  rw [World.size_alloc] at h
  exact h
theorem is_snoc (l : List Int) (v : Int) : is_ l ++ [.int .i64 v] = is_ (l ++ [v]) := by simp [is_]
theorem dens_len (l : List (Int × Int)) (k : Nat) : (dens (l.take k)).length ≤ k := by
  rw [dens, List.length_map]
  exact Nat.le_trans (List.length_filter_le _ _) (by simp; omega)
set_option maxHeartbeats 2000000 in
set_option maxRecDepth 20000 in
theorem dense_any (A : Option Addr) (c : Nat) (l : List (Int × Int)) (w : World) (hA : RdC w w.heap.size A l) (hl : l.length ≤ 1000000) :
    Calls Try.prog 28 #[.slice A l.length c] w (NewI (dens l) w) := by
  obtain ⟨i0, hi, iz, is, ib⟩ := info_parts intInfo
  have HA := Lib.hid hA
  clear hA
  go_enter Try.func28, Try.ntmps28
  go_wp2
  go_loopw [3, 8] (fun v i wr => ∃ k : Nat, k ≤ l.length ∧ i = .int .i64 (k : Int) ∧ Hid (wr.ownsRow w.heap.size 3 1 v (dens (l.take k)).length (is_ (dens (l.take k)))) ∧ Below w.heap.size w wr) (fun _ i _ => l.length - (intOf i).toNat)
  case atStart => exact ⟨0, by omega, rfl, Lib.hid (World.ownsRow_nil _ _ _ _), Below.refl _ _⟩
  case round =>
    obtain ⟨k, hk, rfl, hown, hbl⟩ := hrel
    have hsz := hbl.size
    by_cases hlt : k < l.length
    · obtain ⟨ad, e, rfl, hadb, he, hc1, hc2⟩ := (HA.out.to hbl).at_ hlt
      have HD := Lib.hid (dens_take he)
      have hdl := dens_len l k
      generalize dens (l.take k) = ds at *
      clear he hadb
      by_cases h1 : e.1 = 1
      · have e1 : (e.1 == 1) = true := by simp [h1]
        rw [e1, if_pos rfl] at HD
        go_wp2_with (at_builtin; refine wpList_append_own _ rfl _ _ 40 rfl w.heap.size 3 i0 (.int .i64 0) 1 8 Try.underlying40 hi iz is ib rfl (by decide) _ ds.length (is_ ds) rfl (own2_keep hown.out (by repeat (first | (with_reducible exact Below.refl _ _) | (with_reducible assumption) | (with_reducible exact bel_box _) | (with_reducible refine bel_step ?_ (by with_reducible assumption)) | (with_reducible refine Below.drew ?_) | (with_reducible refine below_drewN ?_ _) | (with_reducible refine bel_alloc ?_ _)))) ⟨_, 0, none⟩ 1 1 [.int .i64 e.2] rfl rfl (by first | exact cell_one_new' _ _ _ | exact row1a _ _ _ _) (one_cell_int _) (by unfold maxLen; omega) (by omega) (by simp; omega) ?_; intro v1 w1 hown1 hgrow1 _)
        have hb1 : Below w.heap.size w w1 := own2_below hgrow1 rfl hown.out (by simp; omega) (by repeat (first | (with_reducible exact Below.refl _ _) | (with_reducible assumption) | (with_reducible exact bel_box _) | (with_reducible refine bel_step ?_ (by with_reducible assumption)) | (with_reducible refine Below.drew ?_) | (with_reducible refine below_drewN ?_ _) | (with_reducible refine bel_alloc ?_ _)))
        rw [is_snoc] at hown1
        go_roundw
        case rel => exact ⟨k + 1, by omega, by go_num, Lib.hid (by rw [HD.out, List.length_append]; exact hown1), hb1⟩
        case measure => simp [intOf]; omega
      · have e1 : (e.1 == 1) = false := by simp [h1]
        rw [e1, if_neg (by simp), List.append_nil] at HD
        go_wp2
        go_roundw
        case rel => exact ⟨k + 1, by omega, by go_num, Lib.hid (by rw [HD.out]; exact own2_keep hown.out (by repeat (first | (with_reducible exact Below.refl _ _) | (with_reducible assumption) | (with_reducible exact bel_box _) | (with_reducible refine bel_step ?_ (by with_reducible assumption)) | (with_reducible refine Below.drew ?_) | (with_reducible refine below_drewN ?_ _) | (with_reducible refine bel_alloc ?_ _)))), (by repeat (first | (with_reducible exact Below.refl _ _) | (with_reducible assumption) | (with_reducible exact bel_box _) | (with_reducible refine bel_step ?_ (by with_reducible assumption)) | (with_reducible refine Below.drew ?_) | (with_reducible refine below_drewN ?_ _) | (with_reducible refine bel_alloc ?_ _)))⟩
        case measure => simp [intOf]; omega
    · obtain rfl : k = l.length := by omega
      rw [List.take_length] at hown
      obtain ⟨V, cv, rfl⟩ := own2_form hown.out
      have HR := Lib.hid (Rd.of_own hown.out)
      clear hown
      go_wp2
      go_ret
      exact ⟨V, cv, rfl, HR.out, hbl⟩
set_option maxHeartbeats 2000000 in
set_option maxRecDepth 20000 in
theorem rdense_any (A : Option Addr) (c : Nat) (l : List (Int × Int)) (w : World) (hA : RdC w w.heap.size A l) (hl : l.length ≤ 1000000) :
    Calls Try.prog 29 #[.slice A l.length c] w (NewI (dens l) w) := by
  obtain ⟨i0, hi, iz, is, ib⟩ := info_parts intInfo
  have HA := Lib.hid hA
  clear hA
  go_enter Try.func29, Try.ntmps29
  go_wp2
  go_loopw [3, 4] (fun v i wr => ∃ k : Nat, k ≤ l.length ∧ i = .int .i64 (k : Int) ∧ Hid (wr.ownsRow w.heap.size 3 1 v (dens (l.take k)).length (is_ (dens (l.take k)))) ∧ Below w.heap.size w wr) (fun _ i _ => l.length - (intOf i).toNat)
  case atStart => exact ⟨0, by omega, rfl, Lib.hid (World.ownsRow_nil _ _ _ _), Below.refl _ _⟩
  case round =>
    obtain ⟨k, hk, rfl, hown, hbl⟩ := hrel
    have hsz := hbl.size
    by_cases hlt : k < l.length
    · obtain ⟨ad, e, rfl, hadb, he, hc1, hc2⟩ := (HA.out.to hbl).at_ hlt
      have HD := Lib.hid (dens_take he)
      have hdl := dens_len l k
      generalize dens (l.take k) = ds at *
      clear he hadb
      by_cases h1 : e.1 = 1
      · have e1 : (e.1 == 1) = true := by simp [h1]
        rw [e1, if_pos rfl] at HD
        go_wp2_with (at_builtin; refine wpList_append_own _ rfl _ _ 40 rfl w.heap.size 3 i0 (.int .i64 0) 1 8 Try.underlying40 hi iz is ib rfl (by decide) _ ds.length (is_ ds) rfl (own2_keep hown.out (by repeat (first | (with_reducible exact Below.refl _ _) | (with_reducible assumption) | (with_reducible exact bel_box _) | (with_reducible refine bel_step ?_ (by with_reducible assumption)) | (with_reducible refine Below.drew ?_) | (with_reducible refine below_drewN ?_ _) | (with_reducible refine bel_alloc ?_ _)))) ⟨_, 0, none⟩ 1 1 [.int .i64 e.2] rfl rfl (by first | exact cell_one_new' _ _ _ | exact row1a _ _ _ _) (one_cell_int _) (by unfold maxLen; omega) (by omega) (by simp; omega) ?_; intro v1 w1 hown1 hgrow1 _)
        have hb1 : Below w.heap.size w w1 := own2_below hgrow1 rfl hown.out (by simp; omega) (by repeat (first | (with_reducible exact Below.refl _ _) | (with_reducible assumption) | (with_reducible exact bel_box _) | (with_reducible refine bel_step ?_ (by with_reducible assumption)) | (with_reducible refine Below.drew ?_) | (with_reducible refine below_drewN ?_ _) | (with_reducible refine bel_alloc ?_ _)))
        rw [is_snoc] at hown1
        go_roundw
        case rel => exact ⟨k + 1, by omega, by go_num, Lib.hid (by rw [HD.out, List.length_append]; exact hown1), hb1⟩
        case measure => simp [intOf]; omega
      · have e1 : (e.1 == 1) = false := by simp [h1]
        rw [e1, if_neg (by simp), List.append_nil] at HD
        go_wp2
        go_roundw
        case rel => exact ⟨k + 1, by omega, by go_num, Lib.hid (by rw [HD.out]; exact own2_keep hown.out (by repeat (first | (with_reducible exact Below.refl _ _) | (with_reducible assumption) | (with_reducible exact bel_box _) | (with_reducible refine bel_step ?_ (by with_reducible assumption)) | (with_reducible refine Below.drew ?_) | (with_reducible refine below_drewN ?_ _) | (with_reducible refine bel_alloc ?_ _)))), (by repeat (first | (with_reducible exact Below.refl _ _) | (with_reducible assumption) | (with_reducible exact bel_box _) | (with_reducible refine bel_step ?_ (by with_reducible assumption)) | (with_reducible refine Below.drew ?_) | (with_reducible refine below_drewN ?_ _) | (with_reducible refine bel_alloc ?_ _)))⟩
        case measure => simp [intOf]; omega
    · obtain rfl : k = l.length := by omega
      rw [List.take_length] at hown
      obtain ⟨V, cv, rfl⟩ := own2_form hown.out
      have HR := Lib.hid (Rd.of_own hown.out)
      clear hown
      go_wp2
      go_ret
      exact ⟨V, cv, rfl, HR.out, hbl⟩
set_option maxHeartbeats 2000000 in
theorem same_any (A B : Option Addr) (c d : Nat) (l : List (Int × Int)) (w : World) (hA : RdC w w.heap.size A l) (hB : RdC w w.heap.size B l) (hl : l.length ≤ 1000000) :
    Calls Try.prog 11 #[.slice A l.length c, .slice B l.length d] w (Bel (.bool true) w) := by
  go_enter Try.func11, Try.ntmps11
  go_wp2
  go_loopw [5] (fun i wr => ∃ k : Nat, k ≤ l.length ∧ i = .int .i64 (k : Int) ∧ Below w.heap.size w wr) (fun i _ => l.length - (intOf i).toNat)
  case atStart => exact ⟨0, by omega, rfl, Below.refl _ _⟩
  case round =>
    obtain ⟨k, hk, rfl, hbl⟩ := hrel
    by_cases hlt : k < l.length
    · obtain ⟨adA, e0, e1, rfl, hea, HEA⟩ := hA.inst hlt
      obtain ⟨adB, f0, f1, rfl, heb, HEB⟩ := hB.inst hlt
      obtain ⟨rfl, rfl⟩ : e0 = f0 ∧ e1 = f1 := by rw [hea] at heb; simpa using heb
      obtain ⟨a0, a1⟩ := HEA.out wr hbl
      obtain ⟨b0, b1⟩ := HEB.out wr hbl
      have HK : Hid (∀ W, Below w.heap.size w W → W.cell? (adA.add (k * 2)) = some (.int .i64 e0) ∧ W.cell? ⟨(adA.add (k * 2)).block, (adA.add (k * 2)).off + 1, none⟩ = some (.int .i64 e1) ∧ W.cell? (adB.add (k * 2)) = some (.int .i64 e0) ∧ W.cell? ⟨(adB.add (k * 2)).block, (adB.add (k * 2)).off + 1, none⟩ = some (.int .i64 e1)) := Lib.hid fun W hW => ⟨(HEA.out W hW).1, (HEA.out W hW).2, (HEB.out W hW).1, (HEB.out W hW).2⟩
      clear hea heb HEA HEB
      go_wp2
      go_region_held3 (fun W => W.cell? (adA.add (k * 2)) = some (.int .i64 e0) ∧ W.cell? ⟨(adA.add (k * 2)).block, (adA.add (k * 2)).off + 1, none⟩ = some (.int .i64 e1) ∧ W.cell? (adB.add (k * 2)) = some (.int .i64 e0) ∧ W.cell? ⟨(adB.add (k * 2)).block, (adB.add (k * 2)).off + 1, none⟩ = some (.int .i64 e1))
        ((refine HK.out _ ?_; (focus ((repeat (first | (with_reducible exact Below.refl _ _) | (with_reducible assumption) | (with_reducible exact bel_box _) | (with_reducible refine bel_step ?_ (by with_reducible assumption)) | (with_reducible refine Below.drew ?_) | (with_reducible refine below_drewN ?_ _) | (with_reducible refine bel_alloc ?_ _))); done))))
        (first | (fail))
      go_wp2
      go_roundw
      case rel => exact ⟨k + 1, by omega, by go_num, (by repeat (first | (with_reducible exact Below.refl _ _) | (with_reducible assumption) | (with_reducible exact bel_box _) | (with_reducible refine bel_step ?_ (by with_reducible assumption)) | (with_reducible refine Below.drew ?_) | (with_reducible refine below_drewN ?_ _) | (with_reducible refine bel_alloc ?_ _)))⟩
      case measure => simp [intOf]; omega
    · obtain rfl : k = l.length := by omega
      go_wp2
      go_ret
      exact ⟨rfl, hbl⟩
set_option maxHeartbeats 2000000 in
theorem is_any (A : Option Addr) (c : Nat) (l : List Int) (w : World) (hA : Rd w w.heap.size A (is_ l)) (hl : l.length ≤ 1000) :
    Calls Try.prog 33 #[.slice A l.length c] w (NewC (l.map fun v => (1, v)) w) := by
  obtain ⟨i0, hi, iz, is, ib⟩ := cellParts
  have HA := Lib.hid hA
  clear hA
  go_enter Try.func33, Try.ntmps33
  go_wp2
  go_loopw [3, 4] (fun v i wr => ∃ k : Nat, k ≤ l.length ∧ i = .int .i64 (k : Int) ∧ Hid (wr.ownsRow w.heap.size 46 2 v k (fl ((l.take k).map fun v => (1, v)))) ∧ Below w.heap.size w wr) (fun _ i _ => l.length - (intOf i).toNat)
  case atStart => exact ⟨0, by omega, rfl, Lib.hid (World.ownsRow_nil _ _ _ _), Below.refl _ _⟩
  case round =>
    obtain ⟨k, hk, rfl, hown, hbl⟩ := hrel
    have hsz := hbl.size
    by_cases hlt : k < l.length
    · obtain ⟨ad, e, rfl, hadb, he, hc1⟩ := (HA.out.to hbl).int_at hlt
      have HT := Lib.hid (show (l.take (k + 1)).map (fun v => ((1, v) : Int × Int)) = (l.take k).map (fun v => (1, v)) ++ [(1, e)] by rw [take_succ_of he]; simp)
      generalize (l.take k).map (fun v => ((1, v) : Int × Int)) = xs at *
      clear he hadb
      go_wp2_with (at_builtin; refine wpList_append_own_at _ rfl _ _ 26 rfl w.heap.size 46 i0 (.agg #[.int .i64 0, .int .i64 0]) 2 16 Try.underlying26 hi iz is ib rfl (by decide) _ k (fl xs) rfl (own2_keep hown.out (by repeat (first | (with_reducible exact Below.refl _ _) | (with_reducible assumption) | (with_reducible exact bel_box _) | (with_reducible refine bel_step ?_ (by with_reducible assumption)) | (with_reducible refine Below.drew ?_) | (with_reducible refine below_drewN ?_ _) | (with_reducible refine bel_alloc ?_ _)))) ⟨_, 0, none⟩ 1 1 [.int .i64 1, .int .i64 e] rfl rfl (row2 _ _ _ _) (c_one _ _) (by unfold maxLen; omega) (by omega) (by simp; omega) ?_; intro v3 w3 hown3 hgrow3 _ _)
      have hb3 : Below w.heap.size w w3 := own2_below hgrow3 rfl hown.out (by simp; omega) (by repeat (first | (with_reducible exact Below.refl _ _) | (with_reducible assumption) | (with_reducible exact bel_box _) | (with_reducible refine bel_step ?_ (by with_reducible assumption)) | (with_reducible refine Below.drew ?_) | (with_reducible refine below_drewN ?_ _) | (with_reducible refine bel_alloc ?_ _)))
      rw [fl_snoc] at hown3
      go_roundw
      case rel => exact ⟨k + 1, by omega, by go_num, Lib.hid (by rw [HT.out]; exact hown3), hb3⟩
      case measure => simp [intOf]; omega
    · obtain rfl : k = l.length := by omega
      rw [List.take_length] at hown
      obtain ⟨V, cv, rfl⟩ := own2_form hown.out
      have HR := Lib.hid (own2_rd hown.out (by simp))
      clear hown
      go_wp2
      go_ret
      exact ⟨V, cv, by rw [List.length_map]; rfl, HR.out, hbl⟩
end Go.Proofs.Ytefmnjcllncmpaa
/- Lift of the reference. -/
namespace Go.Proofs.Ytefmnjcllncmpaa
set_option linter.unusedVariables false
set_option linter.unusedSimpArgs false
open Go.RowKit
theorem lift_no (op : Int) {r : List (Int × Int)} (h : jnt r = false) : liftF op r = (0, 0) := by
  have hb : badK r = true := by
    rw [jnt, List.all_eq_false] at h
    obtain ⟨c, hc, hn⟩ := h
    rw [badK, List.any_eq_true]
    exact ⟨c, hc, by simp [thB] at hn; simp; omega⟩
  unfold liftF lifK lifV
  rw [hb]; rfl
end Go.Proofs.Ytefmnjcllncmpaa
/- Merge of the reference. -/
namespace Go.Proofs.Ytefmnjcllncmpaa
set_option linter.unusedVariables false
set_option linter.unusedSimpArgs false
open Go.RowKit
theorem tog_cons (s : St) (r : List St) : tog (s :: r) = togF s.l.length r := by
  show togF s.l.length (s :: r) = _
  rw [togF, List.foldl_cons, Nat.min_self]; rfl
theorem mergeF_row (x : St) (ls : List St) (t : Nat) : mergeF (rowAt (x :: ls) t) = if thB (x.l.getD t (0, 0)) then (if (x.l.getD t (0, 0)).1 = 1 ∧ 0 ≤ (x.l.getD t (0, 0)).2 ∧ (x.l.getD t (0, 0)).2 < ls.length ∧ thB ((rowAt ls t).getD (x.l.getD t (0, 0)).2.toNat (0, 0)) = true then (rowAt ls t).getD (x.l.getD t (0, 0)).2.toNat (0, 0) else (2, 0)) else (0, 0) := by
  show mergeF (pl (x.l.getD t (0, 0)) :: rowAt ls t) = _
  generalize x.l.getD t (0, 0) = e
  obtain ⟨a, b⟩ := e
  unfold mergeF
  simp only [thB_pl, rowAt_length]
  by_cases h1 : a = 1
  · subst h1
    have : pl (1, b) = (1, b) := rfl
    rw [this]
  · have h2 : (pl (a, b)).1 ≠ 1 := by
      unfold pl
      split
      · exact h1
      · split <;> simp
    simp only [h1, h2, false_and, if_false]
set_option maxHeartbeats 4000000 in
set_option maxRecDepth 20000 in
theorem rmergeP_any (C A : Option Addr) (f c : Nat) (x : List (Int × Int)) (ls : List St) (W0 : World) (hC : RdC W0 W0.heap.size C x) (hA : RdS W0 W0.heap.size A ls) (hx : x.length ≤ 1000000) (hl : ls.length ≤ 90) (hl3 : ∀ s ∈ ls, s.l.length ≤ 1000000) :
    Calls Try.prog 25 #[.slice C x.length f, .slice A ls.length c] W0 (NewC ((rowsTo (⟨C, f, x⟩ :: ls) (tog (⟨C, f, x⟩ :: ls))).map mergeF) W0) := by
  obtain ⟨i0, hi, iz, is, ib⟩ := cellParts
  have htx : togF x.length ls ≤ x.length := (togF_le ls x.length).1
  have HTG := Lib.hid (togF_le ls x.length).2
  rw [← outE, tog_cons]
  simp only
  have HMF := Lib.hid (mergeF_row ⟨C, f, x⟩ ls)
  simp only at HMF
  have HO := Lib.hid (outT_succ (eS mergeF) () (⟨C, f, x⟩ :: ls))
  have hoz : outT (eS mergeF) () (⟨C, f, x⟩ :: ls) 0 = [] := rfl
  have HOL := Lib.hid (outT_length (eS mergeF) () (⟨C, f, x⟩ :: ls))
  generalize (⟨C, f, x⟩ : St) :: ls = lx at *
  have KP := Lib.hid rplain_any
  have KT := Lib.hid rthere_any
  simp only [cV] at KP KT
  have HA := Lib.hid hA
  have H3 := Lib.hid hl3
  clear hA hl3
  go_enter Try.func25, Try.ntmps25
  go_wp2
  go_loopw [6, 7] (fun n i wr => ∃ k : Nat, k ≤ ls.length ∧ i = .int .i64 (k : Int) ∧ n = .int .i64 ((togF x.length (ls.take k) : Nat) : Int) ∧ W0 = wr) (fun _ i _ => ls.length - (intOf i).toNat)
  case atStart => exact ⟨0, by omega, rfl, rfl, rfl⟩
  case round =>
    obtain ⟨k, hk, rfl, rfl, rfl⟩ := hrel
    by_cases hlt : k < ls.length
    · obtain ⟨ad, s, rfl, had, hs, hc, _⟩ := HA.out.at_ hlt
      have hm := H3.out s (List.mem_of_getElem? hs)
      have HT := Lib.hid (togF_take (n := x.length) hs)
      have hn := (togF_le (ls.take k) x.length).1
      clear hs
      generalize togF x.length (ls.take k) = n at *
      generalize hsl : s.l.length = m at *
      clear hsl
      go_wp2
      go_roundw
      case rel => exact ⟨k + 1, by omega, by go_num, by rw [HT.out]; exact congrArg _ (by split <;> omega), (by first | rfl | trivial)⟩
      case measure => simp [intOf]; omega
    · obtain rfl : k = ls.length := by omega
      rw [List.take_length]
      have H9 : Hid (∀ s ∈ ls, togF x.length ls ≤ s.l.length) := HTG
      generalize togF x.length ls = n at *
      go_wp2
      go_loopw [5, 8] (fun v i wr => ∃ t : Nat, t ≤ n ∧ i = .int .i64 (t : Int) ∧ Hid (wr.ownsRow W0.heap.size 46 2 v t (fl (outT (eS mergeF) () lx t))) ∧ Below W0.heap.size W0 wr) (fun _ i _ => n - (intOf i).toNat)
      case atStart => exact ⟨0, by omega, rfl, Lib.hid (by rw [hoz]; exact World.ownsRow_nil _ _ _ _), Below.refl _ _⟩
      case round =>
        obtain ⟨t, htle, rfl, hown, hbl⟩ := hrel
        have hsz := hbl.size
        by_cases htn : t < n
        · obtain ⟨adC, e0, e1, rfl, hec, HEC⟩ := hC.inst (show t < x.length by omega)
          have hmf := HMF.out t
          rw [getD_of hec] at hmf
          have HOt : Hid (∀ z, mergeF (rowAt lx t) = z → outT (eS mergeF) () lx (t + 1) = outT (eS mergeF) () lx t ++ [z]) := Lib.hid fun z hz => by rw [HO.out, ← hz]; rfl
          have KTE := Lib.hid (KT.out (e0, e1))
          obtain ⟨g0, g1⟩ := HEC.out (wr.alloc (.cells #[.int .i64 0, .int .i64 0] 46)) (by repeat (first | (with_reducible exact Below.refl _ _) | (with_reducible assumption) | (with_reducible exact bel_box _) | (with_reducible refine bel_step ?_ (by with_reducible assumption)) | (with_reducible refine Below.drew ?_) | (with_reducible refine below_drewN ?_ _) | (with_reducible refine bel_alloc ?_ _)))
          generalize hxs : outT (eS mergeF) () lx t = xs at *
          cases hte : thB (e0, e1)
          · rw [hte] at KTE hmf
            have HV := Lib.hid (HOt.out (0, 0) hmf)
            clear hte hmf HOt HO HMF hxs hec hoz HOL KT KP HTG H9
            go_wp2_with (first
              | (go_at_call 32; (with_reducible refine (KTE.out _).mono ?_); rintro e w1 ⟨rfl, hb1⟩; have hz1 := hb1.size; (try simp only [World.size_alloc, World.size_setCell] at hz1); have B1 := (Bk.new wr 46 _).go hb1; obtain ⟨q0, q1, q2, q3⟩ := B1.four)
              | (at_builtin; refine wpList_append_own_at _ rfl _ _ 26 rfl W0.heap.size 46 i0 (.agg #[.int .i64 0, .int .i64 0]) 2 16 Try.underlying26 hi iz is ib rfl (by decide) _ t (fl xs) rfl (own2_keep hown.out ?_) ⟨_, 0, none⟩ 1 1 [.int .i64 0, .int .i64 0] rfl rfl (by first | exact row2 _ _ _ _ | exact row2s _ _ _ _ _ _ _ _ | exact row2a _ _ _ _ _) (c_one _ _) (by unfold maxLen; omega) (by omega) ?_ ?_; (focus ((repeat (first | (with_reducible exact Below.refl _ _) | (with_reducible assumption) | (with_reducible exact bel_box _) | (with_reducible refine bel_step ?_ (by with_reducible assumption)) | (with_reducible refine Below.drew ?_) | (with_reducible refine below_drewN ?_ _) | (with_reducible refine bel_alloc ?_ _) | (with_reducible refine bel_two ?_ (by omega) _ _) | (with_reducible refine bel_one ?_ (by omega) _))); done)); (focus (simp; omega)); intro v9 w9 hown9 hgrow9 _ _; have hb9 : Below W0.heap.size W0 w9 := own2_below hgrow9 rfl hown.out (by simp; omega) (by repeat (first | (with_reducible exact Below.refl _ _) | (with_reducible assumption) | (with_reducible exact bel_box _) | (with_reducible refine bel_step ?_ (by with_reducible assumption)) | (with_reducible refine Below.drew ?_) | (with_reducible refine below_drewN ?_ _) | (with_reducible refine bel_alloc ?_ _) | (with_reducible refine bel_two ?_ (by omega) _ _) | (with_reducible refine bel_one ?_ (by omega) _))); rw [fl_snoc] at hown9; have HO9 := Lib.hid hown9; clear hown9 hgrow9))
            go_roundw
            case rel => exact ⟨t + 1, by omega, by go_num, Lib.hid (by rw [HV.out]; exact HO9.out), hb9⟩
            case measure => simp [intOf]; omega
          · rw [hte] at KTE hmf
            rw [if_pos rfl] at hmf
            simp only at hmf
            by_cases hx1 : e0 = 1
            · subst hx1
              rcases (show e1 < 0 ∨ (0 ≤ e1 ∧ (ls.length : Int) ≤ e1) ∨ (0 ≤ e1 ∧ e1 < ls.length) by omega) with h1 | ⟨h1, h2⟩ | ⟨h1, h2⟩
              · rw [if_neg (by omega)] at hmf
                have HV := Lib.hid (HOt.out (2, 0) hmf)
                clear hte HOt HO HMF hxs hec hoz HOL KT KP HTG H9 hmf
                go_wp2_with (first
                  | (go_at_call 32; (with_reducible refine (KTE.out _).mono ?_); rintro e w1 ⟨rfl, hb1⟩; have hz1 := hb1.size; (try simp only [World.size_alloc, World.size_setCell] at hz1); have B1 := (Bk.new wr 46 _).go hb1; clear g0 g1; obtain ⟨q0, q1, q2, q3⟩ := B1.four; have B1s := B1.put2 (.int .i64 2) (.int .i64 0); obtain ⟨s0, s1, s2, s3⟩ := B1s.four; obtain ⟨g0, g1⟩ := HEC.out ((w1.setCell ⟨wr.heap.size, 0, none⟩ (.int .i64 2)).setCell ⟨wr.heap.size, 1, none⟩ (.int .i64 0)) (by repeat (first | (with_reducible exact Below.refl _ _) | (with_reducible assumption) | (with_reducible exact bel_box _) | (with_reducible refine bel_step ?_ (by with_reducible assumption)) | (with_reducible refine Below.drew ?_) | (with_reducible refine below_drewN ?_ _) | (with_reducible refine bel_alloc ?_ _) | (with_reducible refine bel_two ?_ (by omega) _ _) | (with_reducible refine bel_one ?_ (by omega) _))))
                  | (at_builtin; refine wpList_append_own_at _ rfl _ _ 26 rfl W0.heap.size 46 i0 (.agg #[.int .i64 0, .int .i64 0]) 2 16 Try.underlying26 hi iz is ib rfl (by decide) _ t (fl xs) rfl (own2_keep hown.out ?_) ⟨_, 0, none⟩ 1 1 [.int .i64 2, .int .i64 0] rfl rfl (by first | exact row2 _ _ _ _ | exact row2s _ _ _ _ _ _ _ _ | exact row2a _ _ _ _ _) (c_one _ _) (by unfold maxLen; omega) (by omega) ?_ ?_; (focus ((repeat (first | (with_reducible exact Below.refl _ _) | (with_reducible assumption) | (with_reducible exact bel_box _) | (with_reducible refine bel_step ?_ (by with_reducible assumption)) | (with_reducible refine Below.drew ?_) | (with_reducible refine below_drewN ?_ _) | (with_reducible refine bel_alloc ?_ _) | (with_reducible refine bel_two ?_ (by omega) _ _) | (with_reducible refine bel_one ?_ (by omega) _))); done)); (focus (simp; omega)); intro v9 w9 hown9 hgrow9 _ _; have hb9 : Below W0.heap.size W0 w9 := own2_below hgrow9 rfl hown.out (by simp; omega) (by repeat (first | (with_reducible exact Below.refl _ _) | (with_reducible assumption) | (with_reducible exact bel_box _) | (with_reducible refine bel_step ?_ (by with_reducible assumption)) | (with_reducible refine Below.drew ?_) | (with_reducible refine below_drewN ?_ _) | (with_reducible refine bel_alloc ?_ _) | (with_reducible refine bel_two ?_ (by omega) _ _) | (with_reducible refine bel_one ?_ (by omega) _))); rw [fl_snoc] at hown9; have HO9 := Lib.hid hown9; clear hown9 hgrow9))
                go_roundw
                case rel => exact ⟨t + 1, by omega, by go_num, Lib.hid (by rw [HV.out]; exact HO9.out), hb9⟩
                case measure => simp [intOf]; omega
              · rw [if_neg (by omega)] at hmf
                have HV := Lib.hid (HOt.out (2, 0) hmf)
                have h3 : ¬ e1 < 0 := by omega
                clear hte HOt HO HMF hxs hec hoz HOL KT KP HTG H9 hmf
                go_wp2_with (first
                  | (go_at_call 32; (with_reducible refine (KTE.out _).mono ?_); rintro e w1 ⟨rfl, hb1⟩; have hz1 := hb1.size; (try simp only [World.size_alloc, World.size_setCell] at hz1); have B1 := (Bk.new wr 46 _).go hb1; clear g0 g1; obtain ⟨q0, q1, q2, q3⟩ := B1.four; have B1s := B1.put2 (.int .i64 2) (.int .i64 0); obtain ⟨s0, s1, s2, s3⟩ := B1s.four; obtain ⟨g0, g1⟩ := HEC.out ((w1.setCell ⟨wr.heap.size, 0, none⟩ (.int .i64 2)).setCell ⟨wr.heap.size, 1, none⟩ (.int .i64 0)) (by repeat (first | (with_reducible exact Below.refl _ _) | (with_reducible assumption) | (with_reducible exact bel_box _) | (with_reducible refine bel_step ?_ (by with_reducible assumption)) | (with_reducible refine Below.drew ?_) | (with_reducible refine below_drewN ?_ _) | (with_reducible refine bel_alloc ?_ _) | (with_reducible refine bel_two ?_ (by omega) _ _) | (with_reducible refine bel_one ?_ (by omega) _))))
                  | (at_builtin; refine wpList_append_own_at _ rfl _ _ 26 rfl W0.heap.size 46 i0 (.agg #[.int .i64 0, .int .i64 0]) 2 16 Try.underlying26 hi iz is ib rfl (by decide) _ t (fl xs) rfl (own2_keep hown.out ?_) ⟨_, 0, none⟩ 1 1 [.int .i64 2, .int .i64 0] rfl rfl (by first | exact row2 _ _ _ _ | exact row2s _ _ _ _ _ _ _ _ | exact row2a _ _ _ _ _) (c_one _ _) (by unfold maxLen; omega) (by omega) ?_ ?_; (focus ((repeat (first | (with_reducible exact Below.refl _ _) | (with_reducible assumption) | (with_reducible exact bel_box _) | (with_reducible refine bel_step ?_ (by with_reducible assumption)) | (with_reducible refine Below.drew ?_) | (with_reducible refine below_drewN ?_ _) | (with_reducible refine bel_alloc ?_ _) | (with_reducible refine bel_two ?_ (by omega) _ _) | (with_reducible refine bel_one ?_ (by omega) _))); done)); (focus (simp; omega)); intro v9 w9 hown9 hgrow9 _ _; have hb9 : Below W0.heap.size W0 w9 := own2_below hgrow9 rfl hown.out (by simp; omega) (by repeat (first | (with_reducible exact Below.refl _ _) | (with_reducible assumption) | (with_reducible exact bel_box _) | (with_reducible refine bel_step ?_ (by with_reducible assumption)) | (with_reducible refine Below.drew ?_) | (with_reducible refine below_drewN ?_ _) | (with_reducible refine bel_alloc ?_ _) | (with_reducible refine bel_two ?_ (by omega) _ _) | (with_reducible refine bel_one ?_ (by omega) _))); rw [fl_snoc] at hown9; have HO9 := Lib.hid hown9; clear hown9 hgrow9))
                go_roundw
                case rel => exact ⟨t + 1, by omega, by go_num, Lib.hid (by rw [HV.out]; exact HO9.out), hb9⟩
                case measure => simp [intOf]; omega
              · obtain ⟨k, rfl⟩ : ∃ k : Nat, e1 = k := ⟨e1.toNat, by omega⟩
                have hk : k < ls.length := by omega
                obtain ⟨adL, s, rfl, hadL, hs, hcs, hR⟩ := HA.out.at_ hk
                have hts := H9.out s (List.mem_of_getElem? hs)
                have hm := H3.out s (List.mem_of_getElem? hs)
                obtain ⟨adS, c0, c1, hAs, hee, HEE⟩ := hR.inst (show t < s.l.length by omega)
                rw [hAs] at hcs
                have hgr : (rowAt ls t).getD ((k : Int)).toNat (0, 0) = pl (c0, c1) := by
                  have := rowAt_get t hs
                  rw [getD_of hee] at this
                  rw [Int.toNat_natCast]; exact getD_of this
                rw [hgr, thB_pl] at hmf
                have HLL : Hid (∀ W, Below W0.heap.size W0 W → W.cell? (adL.add k) = some (.slice (some adS) s.l.length s.c)) := Lib.hid fun W hW => (hW.cell (by rw [add_block]; exact hadL)).trans hcs
                have KTC := Lib.hid (KT.out (c0, c1))
                have KPC := Lib.hid (KP.out (c0, c1))
                have h3 : ¬ (k : Int) < 0 := by omega
                have h4 : ¬ (ls.length : Int) ≤ (k : Int) := by omega
                have htsl : t < s.l.length := by omega
                generalize s.l.length = sl at *
                generalize pl (c0, c1) = pc at *
                obtain ⟨p0, p1⟩ := pc
                simp only at KPC
                cases htc : thB (c0, c1)
                · rw [htc] at KTC hmf
                  rw [if_neg (by simp)] at hmf
                  have HV := Lib.hid (HOt.out (2, 0) hmf)
                  clear hte HOt HO HMF hxs hec hoz HOL KT KP HTG H9 hmf hgr hee hAs hs hcs hR htc
                  go_wp2_with (first
                    | (go_at_call 32; (with_reducible refine (KTE.out _).mono ?_); rintro e w1 ⟨rfl, hb1⟩; have hz1 := hb1.size; (try simp only [World.size_alloc, World.size_setCell] at hz1); have B1 := (Bk.new wr 46 _).go hb1; clear g0 g1; obtain ⟨q0, q1, q2, q3⟩ := B1.four; have B1s := B1.put2 (.int .i64 2) (.int .i64 0); obtain ⟨s0, s1, s2, s3⟩ := B1s.four; obtain ⟨g0, g1⟩ := HEC.out ((w1.setCell ⟨wr.heap.size, 0, none⟩ (.int .i64 2)).setCell ⟨wr.heap.size, 1, none⟩ (.int .i64 0)) (by repeat (first | (with_reducible exact Below.refl _ _) | (with_reducible assumption) | (with_reducible exact bel_box _) | (with_reducible refine bel_step ?_ (by with_reducible assumption)) | (with_reducible refine Below.drew ?_) | (with_reducible refine below_drewN ?_ _) | (with_reducible refine bel_alloc ?_ _) | (with_reducible refine bel_two ?_ (by omega) _ _) | (with_reducible refine bel_one ?_ (by omega) _))); have l0 := HLL.out ((w1.setCell ⟨wr.heap.size, 0, none⟩ (.int .i64 2)).setCell ⟨wr.heap.size, 1, none⟩ (.int .i64 0)) (by repeat (first | (with_reducible exact Below.refl _ _) | (with_reducible assumption) | (with_reducible exact bel_box _) | (with_reducible refine bel_step ?_ (by with_reducible assumption)) | (with_reducible refine Below.drew ?_) | (with_reducible refine below_drewN ?_ _) | (with_reducible refine bel_alloc ?_ _) | (with_reducible refine bel_two ?_ (by omega) _ _) | (with_reducible refine bel_one ?_ (by omega) _))); obtain ⟨m0, m1⟩ := HEE.out ((w1.setCell ⟨wr.heap.size, 0, none⟩ (.int .i64 2)).setCell ⟨wr.heap.size, 1, none⟩ (.int .i64 0)) (by repeat (first | (with_reducible exact Below.refl _ _) | (with_reducible assumption) | (with_reducible exact bel_box _) | (with_reducible refine bel_step ?_ (by with_reducible assumption)) | (with_reducible refine Below.drew ?_) | (with_reducible refine below_drewN ?_ _) | (with_reducible refine bel_alloc ?_ _) | (with_reducible refine bel_two ?_ (by omega) _ _) | (with_reducible refine bel_one ?_ (by omega) _))))
                    | (go_at_call 32; (with_reducible refine (KTC.out _).mono ?_); rintro e w2 ⟨rfl, hb2⟩; have hz2 := hb2.size; simp only [World.size_setCell] at hz2; have B2 := B1s.go hb2; clear q0 q1 q2 q3 s0 s1 s2 s3 g0 g1 l0 m0 m1; obtain ⟨q0, q1, q2, q3⟩ := B2.four; obtain ⟨g0, g1⟩ := HEC.out w2 (by repeat (first | (with_reducible exact Below.refl _ _) | (with_reducible assumption) | (with_reducible exact bel_box _) | (with_reducible refine bel_step ?_ (by with_reducible assumption)) | (with_reducible refine Below.drew ?_) | (with_reducible refine below_drewN ?_ _) | (with_reducible refine bel_alloc ?_ _) | (with_reducible refine bel_two ?_ (by omega) _ _) | (with_reducible refine bel_one ?_ (by omega) _))); have l0 := HLL.out w2 (by repeat (first | (with_reducible exact Below.refl _ _) | (with_reducible assumption) | (with_reducible exact bel_box _) | (with_reducible refine bel_step ?_ (by with_reducible assumption)) | (with_reducible refine Below.drew ?_) | (with_reducible refine below_drewN ?_ _) | (with_reducible refine bel_alloc ?_ _) | (with_reducible refine bel_two ?_ (by omega) _ _) | (with_reducible refine bel_one ?_ (by omega) _))); obtain ⟨m0, m1⟩ := HEE.out w2 (by repeat (first | (with_reducible exact Below.refl _ _) | (with_reducible assumption) | (with_reducible exact bel_box _) | (with_reducible refine bel_step ?_ (by with_reducible assumption)) | (with_reducible refine Below.drew ?_) | (with_reducible refine below_drewN ?_ _) | (with_reducible refine bel_alloc ?_ _) | (with_reducible refine bel_two ?_ (by omega) _ _) | (with_reducible refine bel_one ?_ (by omega) _))))
                    | (at_builtin; refine wpList_append_own_at _ rfl _ _ 26 rfl W0.heap.size 46 i0 (.agg #[.int .i64 0, .int .i64 0]) 2 16 Try.underlying26 hi iz is ib rfl (by decide) _ t (fl xs) rfl (own2_keep hown.out ?_) ⟨_, 0, none⟩ 1 1 [.int .i64 2, .int .i64 0] rfl rfl (by first | exact row2 _ _ _ _ | exact row2s _ _ _ _ _ _ _ _ | exact row2a _ _ _ _ _) (c_one _ _) (by unfold maxLen; omega) (by omega) ?_ ?_; (focus ((repeat (first | (with_reducible exact Below.refl _ _) | (with_reducible assumption) | (with_reducible exact bel_box _) | (with_reducible refine bel_step ?_ (by with_reducible assumption)) | (with_reducible refine Below.drew ?_) | (with_reducible refine below_drewN ?_ _) | (with_reducible refine bel_alloc ?_ _) | (with_reducible refine bel_two ?_ (by omega) _ _) | (with_reducible refine bel_one ?_ (by omega) _))); done)); (focus (simp; omega)); intro v9 w9 hown9 hgrow9 _ _; have hb9 : Below W0.heap.size W0 w9 := own2_below hgrow9 rfl hown.out (by simp; omega) (by repeat (first | (with_reducible exact Below.refl _ _) | (with_reducible assumption) | (with_reducible exact bel_box _) | (with_reducible refine bel_step ?_ (by with_reducible assumption)) | (with_reducible refine Below.drew ?_) | (with_reducible refine below_drewN ?_ _) | (with_reducible refine bel_alloc ?_ _) | (with_reducible refine bel_two ?_ (by omega) _ _) | (with_reducible refine bel_one ?_ (by omega) _))); rw [fl_snoc] at hown9; have HO9 := Lib.hid hown9; clear hown9 hgrow9))
                  go_roundw
                  case rel => exact ⟨t + 1, by omega, by go_num, Lib.hid (by rw [HV.out]; exact HO9.out), hb9⟩
                  case measure => simp [intOf]; omega
                · rw [htc] at KTC hmf
                  rw [if_pos ⟨rfl, h1, h2, rfl⟩] at hmf
                  have HV := Lib.hid (HOt.out (p0, p1) hmf)
                  clear hte HOt HO HMF hxs hec hoz HOL KT KP HTG H9 hmf hgr hee hAs hs hcs hR htc
                  go_wp2_with (first
                    | (go_at_call 32; (with_reducible refine (KTE.out _).mono ?_); rintro e w1 ⟨rfl, hb1⟩; have hz1 := hb1.size; (try simp only [World.size_alloc, World.size_setCell] at hz1); have B1 := (Bk.new wr 46 _).go hb1; clear g0 g1; obtain ⟨q0, q1, q2, q3⟩ := B1.four; have B1s := B1.put2 (.int .i64 2) (.int .i64 0); obtain ⟨s0, s1, s2, s3⟩ := B1s.four; obtain ⟨g0, g1⟩ := HEC.out ((w1.setCell ⟨wr.heap.size, 0, none⟩ (.int .i64 2)).setCell ⟨wr.heap.size, 1, none⟩ (.int .i64 0)) (by repeat (first | (with_reducible exact Below.refl _ _) | (with_reducible assumption) | (with_reducible exact bel_box _) | (with_reducible refine bel_step ?_ (by with_reducible assumption)) | (with_reducible refine Below.drew ?_) | (with_reducible refine below_drewN ?_ _) | (with_reducible refine bel_alloc ?_ _) | (with_reducible refine bel_two ?_ (by omega) _ _) | (with_reducible refine bel_one ?_ (by omega) _))); have l0 := HLL.out ((w1.setCell ⟨wr.heap.size, 0, none⟩ (.int .i64 2)).setCell ⟨wr.heap.size, 1, none⟩ (.int .i64 0)) (by repeat (first | (with_reducible exact Below.refl _ _) | (with_reducible assumption) | (with_reducible exact bel_box _) | (with_reducible refine bel_step ?_ (by with_reducible assumption)) | (with_reducible refine Below.drew ?_) | (with_reducible refine below_drewN ?_ _) | (with_reducible refine bel_alloc ?_ _) | (with_reducible refine bel_two ?_ (by omega) _ _) | (with_reducible refine bel_one ?_ (by omega) _))); obtain ⟨m0, m1⟩ := HEE.out ((w1.setCell ⟨wr.heap.size, 0, none⟩ (.int .i64 2)).setCell ⟨wr.heap.size, 1, none⟩ (.int .i64 0)) (by repeat (first | (with_reducible exact Below.refl _ _) | (with_reducible assumption) | (with_reducible exact bel_box _) | (with_reducible refine bel_step ?_ (by with_reducible assumption)) | (with_reducible refine Below.drew ?_) | (with_reducible refine below_drewN ?_ _) | (with_reducible refine bel_alloc ?_ _) | (with_reducible refine bel_two ?_ (by omega) _ _) | (with_reducible refine bel_one ?_ (by omega) _))))
                    | (go_at_call 32; (with_reducible refine (KTC.out _).mono ?_); rintro e w2 ⟨rfl, hb2⟩; have hz2 := hb2.size; simp only [World.size_setCell] at hz2; have B2 := B1s.go hb2; clear q0 q1 q2 q3 s0 s1 s2 s3 g0 g1 l0 m0 m1; obtain ⟨q0, q1, q2, q3⟩ := B2.four; obtain ⟨g0, g1⟩ := HEC.out w2 (by repeat (first | (with_reducible exact Below.refl _ _) | (with_reducible assumption) | (with_reducible exact bel_box _) | (with_reducible refine bel_step ?_ (by with_reducible assumption)) | (with_reducible refine Below.drew ?_) | (with_reducible refine below_drewN ?_ _) | (with_reducible refine bel_alloc ?_ _) | (with_reducible refine bel_two ?_ (by omega) _ _) | (with_reducible refine bel_one ?_ (by omega) _))); have l0 := HLL.out w2 (by repeat (first | (with_reducible exact Below.refl _ _) | (with_reducible assumption) | (with_reducible exact bel_box _) | (with_reducible refine bel_step ?_ (by with_reducible assumption)) | (with_reducible refine Below.drew ?_) | (with_reducible refine below_drewN ?_ _) | (with_reducible refine bel_alloc ?_ _) | (with_reducible refine bel_two ?_ (by omega) _ _) | (with_reducible refine bel_one ?_ (by omega) _))); obtain ⟨m0, m1⟩ := HEE.out w2 (by repeat (first | (with_reducible exact Below.refl _ _) | (with_reducible assumption) | (with_reducible exact bel_box _) | (with_reducible refine bel_step ?_ (by with_reducible assumption)) | (with_reducible refine Below.drew ?_) | (with_reducible refine below_drewN ?_ _) | (with_reducible refine bel_alloc ?_ _) | (with_reducible refine bel_two ?_ (by omega) _ _) | (with_reducible refine bel_one ?_ (by omega) _))))
                    | (go_at_call 38; (with_reducible refine (KPC.out _).mono ?_); rintro e w3 ⟨rfl, hb3⟩; have hz3 := hb3.size; (try simp only [World.size_setCell] at hz3); have B3 := B2.go hb3; clear q0 q1 q2 q3; obtain ⟨q0, q1, q2, q3⟩ := B3.four; have B3s := B3.put2 (.int .i64 p0) (.int .i64 p1); obtain ⟨s0, s1, s2, s3⟩ := B3s.four)
                    | (at_builtin; refine wpList_append_own_at _ rfl _ _ 26 rfl W0.heap.size 46 i0 (.agg #[.int .i64 0, .int .i64 0]) 2 16 Try.underlying26 hi iz is ib rfl (by decide) _ t (fl xs) rfl (own2_keep hown.out ?_) ⟨_, 0, none⟩ 1 1 [.int .i64 p0, .int .i64 p1] rfl rfl (by first | exact row2 _ _ _ _ | exact row2s _ _ _ _ _ _ _ _ | exact row2a _ _ _ _ _) (c_one _ _) (by unfold maxLen; omega) (by omega) ?_ ?_; (focus ((repeat (first | (with_reducible exact Below.refl _ _) | (with_reducible assumption) | (with_reducible exact bel_box _) | (with_reducible refine bel_step ?_ (by with_reducible assumption)) | (with_reducible refine Below.drew ?_) | (with_reducible refine below_drewN ?_ _) | (with_reducible refine bel_alloc ?_ _) | (with_reducible refine bel_two ?_ (by omega) _ _) | (with_reducible refine bel_one ?_ (by omega) _))); done)); (focus (simp; omega)); intro v9 w9 hown9 hgrow9 _ _; have hb9 : Below W0.heap.size W0 w9 := own2_below hgrow9 rfl hown.out (by simp; omega) (by repeat (first | (with_reducible exact Below.refl _ _) | (with_reducible assumption) | (with_reducible exact bel_box _) | (with_reducible refine bel_step ?_ (by with_reducible assumption)) | (with_reducible refine Below.drew ?_) | (with_reducible refine below_drewN ?_ _) | (with_reducible refine bel_alloc ?_ _) | (with_reducible refine bel_two ?_ (by omega) _ _) | (with_reducible refine bel_one ?_ (by omega) _))); rw [fl_snoc] at hown9; have HO9 := Lib.hid hown9; clear hown9 hgrow9))
                  go_roundw
                  case rel => exact ⟨t + 1, by omega, by go_num, Lib.hid (by rw [HV.out]; exact HO9.out), hb9⟩
                  case measure => simp [intOf]; omega
            · rw [if_neg (fun h => hx1 h.1)] at hmf
              have HV := Lib.hid (HOt.out (2, 0) hmf)
              have e1' : (e0 == 1) = false := beq_eq_false_iff_ne.2 hx1
              clear hte HOt HO HMF hxs hec hoz HOL KT KP HTG H9 hmf hx1
              go_wp2_with (first
                | (go_at_call 32; (with_reducible refine (KTE.out _).mono ?_); rintro e w1 ⟨rfl, hb1⟩; have hz1 := hb1.size; (try simp only [World.size_alloc, World.size_setCell] at hz1); have B1 := (Bk.new wr 46 _).go hb1; clear g0 g1; obtain ⟨q0, q1, q2, q3⟩ := B1.four; have B1s := B1.put2 (.int .i64 2) (.int .i64 0); obtain ⟨s0, s1, s2, s3⟩ := B1s.four; obtain ⟨g0, g1⟩ := HEC.out ((w1.setCell ⟨wr.heap.size, 0, none⟩ (.int .i64 2)).setCell ⟨wr.heap.size, 1, none⟩ (.int .i64 0)) (by repeat (first | (with_reducible exact Below.refl _ _) | (with_reducible assumption) | (with_reducible exact bel_box _) | (with_reducible refine bel_step ?_ (by with_reducible assumption)) | (with_reducible refine Below.drew ?_) | (with_reducible refine below_drewN ?_ _) | (with_reducible refine bel_alloc ?_ _) | (with_reducible refine bel_two ?_ (by omega) _ _) | (with_reducible refine bel_one ?_ (by omega) _))))
                | (at_builtin; refine wpList_append_own_at _ rfl _ _ 26 rfl W0.heap.size 46 i0 (.agg #[.int .i64 0, .int .i64 0]) 2 16 Try.underlying26 hi iz is ib rfl (by decide) _ t (fl xs) rfl (own2_keep hown.out ?_) ⟨_, 0, none⟩ 1 1 [.int .i64 2, .int .i64 0] rfl rfl (by first | exact row2 _ _ _ _ | exact row2s _ _ _ _ _ _ _ _ | exact row2a _ _ _ _ _) (c_one _ _) (by unfold maxLen; omega) (by omega) ?_ ?_; (focus ((repeat (first | (with_reducible exact Below.refl _ _) | (with_reducible assumption) | (with_reducible exact bel_box _) | (with_reducible refine bel_step ?_ (by with_reducible assumption)) | (with_reducible refine Below.drew ?_) | (with_reducible refine below_drewN ?_ _) | (with_reducible refine bel_alloc ?_ _) | (with_reducible refine bel_two ?_ (by omega) _ _) | (with_reducible refine bel_one ?_ (by omega) _))); done)); (focus (simp; omega)); intro v9 w9 hown9 hgrow9 _ _; have hb9 : Below W0.heap.size W0 w9 := own2_below hgrow9 rfl hown.out (by simp; omega) (by repeat (first | (with_reducible exact Below.refl _ _) | (with_reducible assumption) | (with_reducible exact bel_box _) | (with_reducible refine bel_step ?_ (by with_reducible assumption)) | (with_reducible refine Below.drew ?_) | (with_reducible refine below_drewN ?_ _) | (with_reducible refine bel_alloc ?_ _) | (with_reducible refine bel_two ?_ (by omega) _ _) | (with_reducible refine bel_one ?_ (by omega) _))); rw [fl_snoc] at hown9; have HO9 := Lib.hid hown9; clear hown9 hgrow9))
              go_roundw
              case rel => exact ⟨t + 1, by omega, by go_num, Lib.hid (by rw [HV.out]; exact HO9.out), hb9⟩
              case measure => simp [intOf]; omega
        · obtain rfl : t = n := by omega
          obtain ⟨V, cv, rfl⟩ := own2_form hown.out
          have HR := Lib.hid (own2_rd hown.out (HOL.out t))
          have HL := Lib.hid (HOL.out t)
          generalize outT (eS mergeF) () lx t = xs at *
          clear hown HOL HO HMF hoz
          go_wp2
          go_ret
          exact ⟨V, cv, by rw [HL.out]; rfl, HR.out, hbl⟩
end Go.Proofs.Ytefmnjcllncmpaa
/- Word of the reference. -/
namespace Go.Proofs.Ytefmnjcllncmpaa
set_option linter.unusedVariables false
set_option linter.unusedSimpArgs false
open Go.RowKit
theorem bel_one {w W : World} {B g i : Nat} (h : Below B w W) (hg : B ≤ g) (u : Value) : Below B w (W.setCell ⟨g, i, none⟩ u) := h.setCell (p := ⟨g, i, none⟩) hg _
theorem row2t (w : World) (p : Addr) (u x y : Value) (t : TypeId) : ∀ j z, [x, y][j]? = some z → ((w.setCell p u).alloc (.cells #[x, y] t)).cell? ((⟨w.heap.size, 0, none⟩ : Addr).add j) = some z := by
  have h := row2 (w.setCell p u) x y t
  rw [World.size_setCell] at h
  exact h
theorem word_st (h l : List Bool) (s : St) (k : Nat) (hk : k < 1000000) : 0 ≤ stT (wordS h l) 0 [s] k ∧ stT (wordS h l) 0 [s] k ≤ k ∧ stT (wordS h l) 0 [s] (k + 1) = (if thB (s.l.getD k (0, 0)) = true ∧ bw.ck h l = 0 then stT (wordS h l) 0 [s] k + 1 else stT (wordS h l) 0 [s] k) ∧
    outT (wordS h l) 0 [s] (k + 1) = outT (wordS h l) 0 [s] k ++ [if thB (s.l.getD k (0, 0)) then (if bw.ck h l = 0 then (1, if bw.att h l (stT (wordS h l) 0 [s] k) then 1 else 0) else (2, 0)) else (0, 0)] := by
  obtain ⟨a, b⟩ := stT_word h l [s] k (by omega)
  rw [stT_succ, outT_succ]
  have e : rowAt [s] k = [pl (s.l.getD k (0, 0))] := rfl
  rw [e]
  generalize s.l.getD k (0, 0) = c
  generalize stT (wordS h l) 0 [s] k = st at *
  have hw : wrap64 (st + 1) = st + 1 := by unfold wrap64; omega
  refine ⟨a, b, ?_, ?_⟩
  all_goals
    unfold wordS
    rw [jnt1]
    cases thB c
    · rfl
    · by_cases hc : bw.ck h l = 0
      · simp [hc, hw]
      · simp [hc]
set_option maxHeartbeats 4000000 in
set_option maxRecDepth 20000 in
theorem rword_any (A B C : Option Addr) (c d f : Nat) (h l : List Bool) (x : List (Int × Int)) (w : World) (hA : Rd w w.heap.size A (bls h)) (hB : Rd w w.heap.size B (bls l)) (hC : RdC w w.heap.size C x) (hh : h.length ≤ 140737488355328) (hl : l.length ≤ 140737488355328) (hx : x.length ≤ 1000000) :
    Calls Try.prog 27 #[.agg #[.slice A h.length c, .slice B l.length d], .slice C x.length f] w (NewC (outT (wordS h l) 0 [⟨C, f, x⟩] (tog [⟨C, f, x⟩])) w) := by
  obtain ⟨i0, hi, iz, is, ib⟩ := cellParts
  rw [tog1]
  have HPW := Lib.hid (word_st h l ⟨C, f, x⟩)
  simp only at HPW
  have hz0 : outT (wordS h l) 0 [⟨C, f, x⟩] 0 = [] := rfl
  have hs0 : stT (wordS h l) 0 [⟨C, f, x⟩] 0 = 0 := rfl
  have hbw0 : Below w.heap.size w (w.alloc (.cells #[.slice A h.length c, .slice B l.length d] 36)) := bel_box _
  have hBW := Bk.new w 36 #[.slice A h.length c, .slice B l.length d]
  have hA0 := hA.to hbw0
  have hB0 := hB.to hbw0
  have hC0 := hC.to hbw0
  go_enter Try.func27, Try.ntmps27
  go_wp2
  generalize w.alloc (.cells #[.slice A h.length c, .slice B l.length d] 36) = W0 at *
  generalize [(⟨C, f, x⟩ : St)] = ls at *
  have KT := Lib.hid rthere_any
  simp only [cV] at KT
  have KC := Lib.hid (bw.rcheck_any A B c d h l · hh hl)
  have KA : Hid (∀ k W, Below W0.heap.size W0 W → k ≤ 1000000 → Calls Try.prog 59 #[.agg #[.slice A h.length c, .slice B l.length d], .int .i64 k] W (Bel (.bool (bw.att h l k)) W)) := Lib.hid fun k W hb hk => bw.rat_any A B c d k h l W (hA0.to hb) (hB0.to hb) hh hl (by omega)
  have HW0 := Lib.hid hbw0
  have HBW : Hid (∀ W, Below W0.heap.size W0 W → W.cell? ⟨w.heap.size, 0, none⟩ = some (.slice A h.length c) ∧ W.cell? ⟨w.heap.size, 1, none⟩ = some (.slice B l.length d)) := Lib.hid fun W hb => ⟨(hBW.go hb).cell 0, (hBW.go hb).cell 1⟩
  clear hA hB hC hA0 hB0 hBW hbw0
  go_loopw [5, 6, 7] (fun v k i wr => ∃ (t : Nat) (q : Int), t ≤ x.length ∧ i = .int .i64 (t : Int) ∧ k = .int .i64 q ∧ Hid ((bw.ck h l = 0 → q = stT (wordS h l) 0 ls t) ∧ 0 ≤ q ∧ q ≤ t) ∧ Hid (wr.ownsRow W0.heap.size 46 2 v t (fl (outT (wordS h l) 0 ls t))) ∧ Below W0.heap.size W0 wr) (fun _ _ i _ => x.length - (intOf i).toNat)
  case atStart => exact ⟨0, 0, by omega, rfl, rfl, Lib.hid ⟨fun _ => hs0.symm, by omega, by omega⟩, Lib.hid (by rw [hz0]; exact World.ownsRow_nil _ _ _ _), Below.refl _ _⟩
  case round =>
    obtain ⟨t, q, htle, rfl, rfl, hq, hown, hbl⟩ := hrel
    have hsz := hbl.size
    obtain ⟨hq0, hq1, hq2⟩ := hq.out
    clear hq
    by_cases htn : t < x.length
    · obtain ⟨adC, e0, e1, rfl, hee, HEE⟩ := hC0.inst htn
      obtain ⟨k0, k1, hS, hO⟩ := HPW.out t (by omega)
      rw [getD_of hee] at hS hO
      have KTE := Lib.hid (KT.out (e0, e1))
      have KAt := Lib.hid (fun W hb => KA.out q W hb (by omega))
      generalize hst : stT (wordS h l) 0 ls t = st at *
      generalize hxs : outT (wordS h l) 0 ls t = xs at *
      obtain ⟨ce0, ce1⟩ := HEE.out (wr.alloc (.cells #[.int .i64 0, .int .i64 0] 46)) (by repeat (first | (with_reducible exact Below.refl _ _) | (with_reducible assumption) | (with_reducible exact bel_box _) | (with_reducible refine bel_step ?_ (by with_reducible assumption)) | (with_reducible refine Below.drew ?_) | (with_reducible refine below_drewN ?_ _) | (with_reducible refine bel_alloc ?_ _)))
      cases hte : thB (e0, e1)
      · rw [hte] at hS hO KTE
        have HS := Lib.hid hS
        have HO := Lib.hid hO
        simp only [Bool.false_eq_true, false_and, if_false] at HS HO
        have HQ : Hid ((bw.ck h l = 0 → q = stT (wordS h l) 0 ls (t + 1)) ∧ 0 ≤ q ∧ q ≤ ((t + 1 : Nat) : Int)) := Lib.hid ⟨fun e => by rw [HS.out]; exact hq0 e, hq1, by omega⟩
        clear HS hq0 hq2 hS hO hte hst hxs hC0 hs0 hz0 HPW KA
        go_wp2_with (first
          | (go_at_call 32; (with_reducible refine (KTE.out _).mono ?_); rintro e w1 ⟨rfl, hb1⟩; have hz1 := hb1.size; (try simp only [World.size_alloc, World.size_setCell] at hz1); have B1 := (Bk.new wr 46 _).go hb1; obtain ⟨q0, q1, q2, q3⟩ := B1.four)
          | (at_builtin; refine wpList_append_own_at _ rfl _ _ 26 rfl W0.heap.size 46 i0 (.agg #[.int .i64 0, .int .i64 0]) 2 16 Try.underlying26 hi iz is ib rfl (by decide) _ t (fl xs) rfl (own2_keep hown.out ?_) ⟨_, 0, none⟩ 1 1 [.int .i64 0, .int .i64 0] rfl rfl (by first | exact row2 _ _ _ _ | exact row2s _ _ _ _ _ _ _ _ | exact row2a _ _ _ _ _) (c_one _ _) (by unfold maxLen; omega) (by omega) ?_ ?_; (focus ((repeat (first | (with_reducible exact Below.refl _ _) | (with_reducible assumption) | (with_reducible exact bel_box _) | (with_reducible refine bel_step ?_ (by with_reducible assumption)) | (with_reducible refine Below.drew ?_) | (with_reducible refine below_drewN ?_ _) | (with_reducible refine bel_alloc ?_ _) | (with_reducible refine bel_two ?_ (by omega) _ _) | (with_reducible refine bel_one ?_ (by omega) _))); done)); (focus (simp; omega)); intro v9 w9 hown9 hgrow9 _ _; have hb9 : Below W0.heap.size W0 w9 := own2_below hgrow9 rfl hown.out (by simp; omega) (by repeat (first | (with_reducible exact Below.refl _ _) | (with_reducible assumption) | (with_reducible exact bel_box _) | (with_reducible refine bel_step ?_ (by with_reducible assumption)) | (with_reducible refine Below.drew ?_) | (with_reducible refine below_drewN ?_ _) | (with_reducible refine bel_alloc ?_ _) | (with_reducible refine bel_two ?_ (by omega) _ _) | (with_reducible refine bel_one ?_ (by omega) _))); rw [fl_snoc] at hown9; have HO9 := Lib.hid hown9; clear hown9 hgrow9))
        go_roundw
        case rel => exact ⟨t + 1, q, by omega, by go_num, rfl, HQ, Lib.hid (by rw [HO.out]; exact HO9.out), hb9⟩
        case measure => simp [intOf]; omega
      · rw [hte] at hS hO KTE
        by_cases hc : bw.ck h l = 0
        · rw [hc] at KC
          obtain rfl : q = st := hq0 hc
          cases hat : bw.att h l q
          all_goals
            rw [hat] at KAt hO
            have HS := Lib.hid hS
            have HO := Lib.hid hO
            simp only [hc, true_and, and_self, if_true, Bool.false_eq_true, if_false] at HS HO
            have HQ : Hid ((bw.ck h l = 0 → q + 1 = stT (wordS h l) 0 ls (t + 1)) ∧ 0 ≤ q + 1 ∧ q + 1 ≤ ((t + 1 : Nat) : Int)) := Lib.hid ⟨fun e => HS.out.symm, by omega, by omega⟩
            clear HS hq0
            clear hS hO hte hst hxs hC0 hs0 hz0 HPW KA hc hat
          · go_wp2_with (first
              | (go_at_call 32; (with_reducible refine (KTE.out _).mono ?_); rintro e w1 ⟨rfl, hb1⟩; have hz1 := hb1.size; (try simp only [World.size_alloc, World.size_setCell] at hz1); have B1 := (Bk.new wr 46 _).go hb1; obtain ⟨q0, q1, q2, q3⟩ := B1.four; have B1s := B1.put2 (.int .i64 2) (.int .i64 0); obtain ⟨s0, s1, s2, s3⟩ := B1s.four; obtain ⟨g0, g1⟩ := HBW.out ((w1.setCell ⟨wr.heap.size, 0, none⟩ (.int .i64 2)).setCell ⟨wr.heap.size, 1, none⟩ (.int .i64 0)) (by repeat (first | (with_reducible exact Below.refl _ _) | (with_reducible assumption) | (with_reducible exact bel_box _) | (with_reducible refine bel_step ?_ (by with_reducible assumption)) | (with_reducible refine Below.drew ?_) | (with_reducible refine below_drewN ?_ _) | (with_reducible refine bel_alloc ?_ _) | (with_reducible refine bel_two ?_ (by omega) _ _) | (with_reducible refine bel_one ?_ (by omega) _))))
              | (go_at_call 58; (with_reducible refine (KC.out _).mono ?_); rintro e w2 ⟨rfl, hb2⟩; have hz2 := hb2.size; simp only [World.size_setCell] at hz2; have B2 := B1s.go hb2; clear q0 q1 q2 q3 s0 s1 s2 s3 g0 g1; obtain ⟨q0, q1, q2, q3⟩ := B2.four; have B2s := B2.put2 (.int .i64 1) (.int .i64 0); obtain ⟨s0, s1, s2, s3⟩ := B2s.four; obtain ⟨g0, g1⟩ := HBW.out ((w2.setCell ⟨wr.heap.size, 0, none⟩ (.int .i64 1)).setCell ⟨wr.heap.size, 1, none⟩ (.int .i64 0)) (by repeat (first | (with_reducible exact Below.refl _ _) | (with_reducible assumption) | (with_reducible exact bel_box _) | (with_reducible refine bel_step ?_ (by with_reducible assumption)) | (with_reducible refine Below.drew ?_) | (with_reducible refine below_drewN ?_ _) | (with_reducible refine bel_alloc ?_ _) | (with_reducible refine bel_two ?_ (by omega) _ _) | (with_reducible refine bel_one ?_ (by omega) _))))
              | (go_at_call 59; (with_reducible refine (KAt.out _ ?_).mono ?_); (focus ((repeat (first | (with_reducible exact Below.refl _ _) | (with_reducible assumption) | (with_reducible exact bel_box _) | (with_reducible refine bel_step ?_ (by with_reducible assumption)) | (with_reducible refine Below.drew ?_) | (with_reducible refine below_drewN ?_ _) | (with_reducible refine bel_alloc ?_ _) | (with_reducible refine bel_two ?_ (by omega) _ _) | (with_reducible refine bel_one ?_ (by omega) _))); done)); rintro e w3 ⟨rfl, hb3⟩; have hz3 := hb3.size; simp only [World.size_setCell] at hz3; have B3 := B2s.go hb3; clear q0 q1 q2 q3 s0 s1 s2 s3 g0 g1; obtain ⟨q0, q1, q2, q3⟩ := B3.four; have B3s := B3.set_ 1 (.int .i64 1); have s0 := B3s.cell 0; have s1 := B3s.cell 1; simp at s0 s1)
              | (at_builtin; refine wpList_append_own_at _ rfl _ _ 26 rfl W0.heap.size 46 i0 (.agg #[.int .i64 0, .int .i64 0]) 2 16 Try.underlying26 hi iz is ib rfl (by decide) _ t (fl xs) rfl (own2_keep hown.out ?_) ⟨_, 0, none⟩ 1 1 [.int .i64 1, .int .i64 0] rfl rfl (by first | exact row2 _ _ _ _ | exact row2s _ _ _ _ _ _ _ _ | exact row2a _ _ _ _ _ | exact row2t _ _ _ _ _ _) (c_one _ _) (by unfold maxLen; omega) (by omega) ?_ ?_; (focus ((repeat (first | (with_reducible exact Below.refl _ _) | (with_reducible assumption) | (with_reducible exact bel_box _) | (with_reducible refine bel_step ?_ (by with_reducible assumption)) | (with_reducible refine Below.drew ?_) | (with_reducible refine below_drewN ?_ _) | (with_reducible refine bel_alloc ?_ _) | (with_reducible refine bel_two ?_ (by omega) _ _) | (with_reducible refine bel_one ?_ (by omega) _))); done)); (focus (simp; omega)); intro v9 w9 hown9 hgrow9 _ _; have hb9 : Below W0.heap.size W0 w9 := own2_below hgrow9 rfl hown.out (by simp; omega) (by repeat (first | (with_reducible exact Below.refl _ _) | (with_reducible assumption) | (with_reducible exact bel_box _) | (with_reducible refine bel_step ?_ (by with_reducible assumption)) | (with_reducible refine Below.drew ?_) | (with_reducible refine below_drewN ?_ _) | (with_reducible refine bel_alloc ?_ _) | (with_reducible refine bel_two ?_ (by omega) _ _) | (with_reducible refine bel_one ?_ (by omega) _))); rw [fl_snoc] at hown9; have HO9 := Lib.hid hown9; clear hown9 hgrow9))
            go_roundw
            case rel => exact ⟨t + 1, q + 1, by omega, by go_num, rfl, HQ, Lib.hid (by rw [HO.out]; exact HO9.out), hb9⟩
            case measure => simp [intOf]; omega
          · go_wp2_with (first
              | (go_at_call 32; (with_reducible refine (KTE.out _).mono ?_); rintro e w1 ⟨rfl, hb1⟩; have hz1 := hb1.size; (try simp only [World.size_alloc, World.size_setCell] at hz1); have B1 := (Bk.new wr 46 _).go hb1; obtain ⟨q0, q1, q2, q3⟩ := B1.four; have B1s := B1.put2 (.int .i64 2) (.int .i64 0); obtain ⟨s0, s1, s2, s3⟩ := B1s.four; obtain ⟨g0, g1⟩ := HBW.out ((w1.setCell ⟨wr.heap.size, 0, none⟩ (.int .i64 2)).setCell ⟨wr.heap.size, 1, none⟩ (.int .i64 0)) (by repeat (first | (with_reducible exact Below.refl _ _) | (with_reducible assumption) | (with_reducible exact bel_box _) | (with_reducible refine bel_step ?_ (by with_reducible assumption)) | (with_reducible refine Below.drew ?_) | (with_reducible refine below_drewN ?_ _) | (with_reducible refine bel_alloc ?_ _) | (with_reducible refine bel_two ?_ (by omega) _ _) | (with_reducible refine bel_one ?_ (by omega) _))))
              | (go_at_call 58; (with_reducible refine (KC.out _).mono ?_); rintro e w2 ⟨rfl, hb2⟩; have hz2 := hb2.size; simp only [World.size_setCell] at hz2; have B2 := B1s.go hb2; clear q0 q1 q2 q3 s0 s1 s2 s3 g0 g1; obtain ⟨q0, q1, q2, q3⟩ := B2.four; have B2s := B2.put2 (.int .i64 1) (.int .i64 0); obtain ⟨s0, s1, s2, s3⟩ := B2s.four; obtain ⟨g0, g1⟩ := HBW.out ((w2.setCell ⟨wr.heap.size, 0, none⟩ (.int .i64 1)).setCell ⟨wr.heap.size, 1, none⟩ (.int .i64 0)) (by repeat (first | (with_reducible exact Below.refl _ _) | (with_reducible assumption) | (with_reducible exact bel_box _) | (with_reducible refine bel_step ?_ (by with_reducible assumption)) | (with_reducible refine Below.drew ?_) | (with_reducible refine below_drewN ?_ _) | (with_reducible refine bel_alloc ?_ _) | (with_reducible refine bel_two ?_ (by omega) _ _) | (with_reducible refine bel_one ?_ (by omega) _))))
              | (go_at_call 59; (with_reducible refine (KAt.out _ ?_).mono ?_); (focus ((repeat (first | (with_reducible exact Below.refl _ _) | (with_reducible assumption) | (with_reducible exact bel_box _) | (with_reducible refine bel_step ?_ (by with_reducible assumption)) | (with_reducible refine Below.drew ?_) | (with_reducible refine below_drewN ?_ _) | (with_reducible refine bel_alloc ?_ _) | (with_reducible refine bel_two ?_ (by omega) _ _) | (with_reducible refine bel_one ?_ (by omega) _))); done)); rintro e w3 ⟨rfl, hb3⟩; have hz3 := hb3.size; simp only [World.size_setCell] at hz3; have B3 := B2s.go hb3; clear q0 q1 q2 q3 s0 s1 s2 s3 g0 g1; obtain ⟨q0, q1, q2, q3⟩ := B3.four; have B3s := B3.set_ 1 (.int .i64 1); have s0 := B3s.cell 0; have s1 := B3s.cell 1; simp at s0 s1)
              | (at_builtin; refine wpList_append_own_at _ rfl _ _ 26 rfl W0.heap.size 46 i0 (.agg #[.int .i64 0, .int .i64 0]) 2 16 Try.underlying26 hi iz is ib rfl (by decide) _ t (fl xs) rfl (own2_keep hown.out ?_) ⟨_, 0, none⟩ 1 1 [.int .i64 1, .int .i64 1] rfl rfl (by first | exact row2 _ _ _ _ | exact row2s _ _ _ _ _ _ _ _ | exact row2a _ _ _ _ _ | exact row2t _ _ _ _ _ _) (c_one _ _) (by unfold maxLen; omega) (by omega) ?_ ?_; (focus ((repeat (first | (with_reducible exact Below.refl _ _) | (with_reducible assumption) | (with_reducible exact bel_box _) | (with_reducible refine bel_step ?_ (by with_reducible assumption)) | (with_reducible refine Below.drew ?_) | (with_reducible refine below_drewN ?_ _) | (with_reducible refine bel_alloc ?_ _) | (with_reducible refine bel_two ?_ (by omega) _ _) | (with_reducible refine bel_one ?_ (by omega) _))); done)); (focus (simp; omega)); intro v9 w9 hown9 hgrow9 _ _; have hb9 : Below W0.heap.size W0 w9 := own2_below hgrow9 rfl hown.out (by simp; omega) (by repeat (first | (with_reducible exact Below.refl _ _) | (with_reducible assumption) | (with_reducible exact bel_box _) | (with_reducible refine bel_step ?_ (by with_reducible assumption)) | (with_reducible refine Below.drew ?_) | (with_reducible refine below_drewN ?_ _) | (with_reducible refine bel_alloc ?_ _) | (with_reducible refine bel_two ?_ (by omega) _ _) | (with_reducible refine bel_one ?_ (by omega) _))); rw [fl_snoc] at hown9; have HO9 := Lib.hid hown9; clear hown9 hgrow9))
            go_roundw
            case rel => exact ⟨t + 1, q + 1, by omega, by go_num, rfl, HQ, Lib.hid (by rw [HO.out]; exact HO9.out), hb9⟩
            case measure => simp [intOf]; omega
        · have HS := Lib.hid hS
          have HO := Lib.hid hO
          have hcb : (bw.ck h l == 0) = false := by simp [hc]
          simp only [hc, and_false, if_false, if_true] at HS HO
          have HQ : Hid ((bw.ck h l = 0 → q + 1 = stT (wordS h l) 0 ls (t + 1)) ∧ 0 ≤ q + 1 ∧ q + 1 ≤ ((t + 1 : Nat) : Int)) := Lib.hid ⟨fun e => absurd e hc, by omega, by omega⟩
          have HQ' := HQ
          clear HS hq0
          clear hS hO hte hst hxs hC0 hs0 hz0 HPW KA
          go_wp2_with (first
            | (go_at_call 32; (with_reducible refine (KTE.out _).mono ?_); rintro e w1 ⟨rfl, hb1⟩; have hz1 := hb1.size; (try simp only [World.size_alloc, World.size_setCell] at hz1); have B1 := (Bk.new wr 46 _).go hb1; obtain ⟨q0, q1, q2, q3⟩ := B1.four; have B1s := B1.put2 (.int .i64 2) (.int .i64 0); obtain ⟨s0, s1, s2, s3⟩ := B1s.four; obtain ⟨g0, g1⟩ := HBW.out ((w1.setCell ⟨wr.heap.size, 0, none⟩ (.int .i64 2)).setCell ⟨wr.heap.size, 1, none⟩ (.int .i64 0)) (by repeat (first | (with_reducible exact Below.refl _ _) | (with_reducible assumption) | (with_reducible exact bel_box _) | (with_reducible refine bel_step ?_ (by with_reducible assumption)) | (with_reducible refine Below.drew ?_) | (with_reducible refine below_drewN ?_ _) | (with_reducible refine bel_alloc ?_ _) | (with_reducible refine bel_two ?_ (by omega) _ _) | (with_reducible refine bel_one ?_ (by omega) _))))
            | (go_at_call 58; (with_reducible refine (KC.out _).mono ?_); rintro e w2 ⟨rfl, hb2⟩; have hz2 := hb2.size; simp only [World.size_setCell] at hz2; have B2 := B1s.go hb2; clear q0 q1 q2 q3 s0 s1 s2 s3 g0 g1; obtain ⟨q0, q1, q2, q3⟩ := B2.four)
            | (at_builtin; refine wpList_append_own_at _ rfl _ _ 26 rfl W0.heap.size 46 i0 (.agg #[.int .i64 0, .int .i64 0]) 2 16 Try.underlying26 hi iz is ib rfl (by decide) _ t (fl xs) rfl (own2_keep hown.out ?_) ⟨_, 0, none⟩ 1 1 [.int .i64 2, .int .i64 0] rfl rfl (by first | exact row2 _ _ _ _ | exact row2s _ _ _ _ _ _ _ _ | exact row2a _ _ _ _ _ | exact row2t _ _ _ _ _ _) (c_one _ _) (by unfold maxLen; omega) (by omega) ?_ ?_; (focus ((repeat (first | (with_reducible exact Below.refl _ _) | (with_reducible assumption) | (with_reducible exact bel_box _) | (with_reducible refine bel_step ?_ (by with_reducible assumption)) | (with_reducible refine Below.drew ?_) | (with_reducible refine below_drewN ?_ _) | (with_reducible refine bel_alloc ?_ _) | (with_reducible refine bel_two ?_ (by omega) _ _) | (with_reducible refine bel_one ?_ (by omega) _))); done)); (focus (simp; omega)); intro v9 w9 hown9 hgrow9 _ _; have hb9 : Below W0.heap.size W0 w9 := own2_below hgrow9 rfl hown.out (by simp; omega) (by repeat (first | (with_reducible exact Below.refl _ _) | (with_reducible assumption) | (with_reducible exact bel_box _) | (with_reducible refine bel_step ?_ (by with_reducible assumption)) | (with_reducible refine Below.drew ?_) | (with_reducible refine below_drewN ?_ _) | (with_reducible refine bel_alloc ?_ _) | (with_reducible refine bel_two ?_ (by omega) _ _) | (with_reducible refine bel_one ?_ (by omega) _))); rw [fl_snoc] at hown9; have HO9 := Lib.hid hown9; clear hown9 hgrow9))
          go_roundw
          case rel => exact ⟨t + 1, q + 1, by omega, by go_num, rfl, HQ, Lib.hid (by rw [HO.out]; exact HO9.out), hb9⟩
          case measure => simp [intOf]; omega
    · obtain rfl : t = x.length := by omega
      have HB := Lib.hid (HW0.out.trans (hbl.mono HW0.out.size))
      obtain ⟨V, cv, rfl⟩ := own2_form hown.out
      have HR := Lib.hid (own2_rd hown.out (outT_length _ _ _ _))
      have HL := Lib.hid (outT_length (wordS h l) 0 ls x.length)
      generalize outT (wordS h l) 0 ls x.length = xs at *
      clear hown HPW
      go_wp2
      go_ret
      exact ⟨V, cv, by rw [HL.out]; rfl, HR.out, HB.out⟩
end Go.Proofs.Ytefmnjcllncmpaa
