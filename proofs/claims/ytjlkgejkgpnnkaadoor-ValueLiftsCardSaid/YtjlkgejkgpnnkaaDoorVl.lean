/- Lift of the program. -/
import Derived.Test.YtjlkgejkgpnnkaaDoorVs
import Derived.Deep.OwnRows
namespace Go.Proofs.YtjlkgejkgpnnkaaDoor
set_option linter.unusedVariables false
set_option linter.unusedSimpArgs false
open Go.RowKit
/-- A reads as cells (kind, value), two memory cells each, below B -/
def RdC (w : World) (B : Nat) (A : Option Addr) (l : List (Int × Int)) : Prop :=
  l ≠ [] → ∃ ad, A = some ad ∧ ad.block < B ∧ ∀ (i : Nat) (c : Int × Int), l[i]? = some c → w.cell? (ad.add (i * 2)) = some (.int .i64 c.1) ∧ w.cell? (ad.add (i * 2 + 1)) = some (.int .i64 c.2)
theorem RdC.keep {w w' : World} {B : Nat} {A : Option Addr} {l : List (Int × Int)} (h : RdC w B A l) (hk : ∀ p : Addr, p.block < B → w'.cell? p = w.cell? p) : RdC w' B A l := fun hn => by
  obtain ⟨ad, e, hb, hc⟩ := h hn
  exact ⟨ad, e, hb, fun i x hx => ⟨(hk _ (by rw [add_block]; exact hb)).trans (hc i x hx).1, (hk _ (by rw [add_block]; exact hb)).trans (hc i x hx).2⟩⟩
theorem RdC.more {w : World} {B B' : Nat} {A : Option Addr} {l : List (Int × Int)} (h : RdC w B A l) (hB : B ≤ B') : RdC w B' A l := fun hn => by
  obtain ⟨ad, e, hb, hc⟩ := h hn
  exact ⟨ad, e, by omega, hc⟩
theorem RdC.to {w W : World} {A : Option Addr} {l : List (Int × Int)} (h : RdC w w.heap.size A l) (hb : Below w.heap.size w W) : RdC W W.heap.size A l := (h.keep fun _ hp => hb.cell hp).more hb.size
theorem RdC.at_ {w : World} {B : Nat} {A : Option Addr} {l : List (Int × Int)} (h : RdC w B A l) {k : Nat} (hk : k < l.length) :
    ∃ ad e, A = some ad ∧ ad.block < B ∧ l[k]? = some e ∧ w.cell? (ad.add (k * 2)) = some (.int .i64 e.1) ∧ w.cell? ⟨(ad.add (k * 2)).block, (ad.add (k * 2)).off + 1, none⟩ = some (.int .i64 e.2) := by
  have he : l[k]? = some l[k] := List.getElem?_eq_getElem hk
  obtain ⟨ad, e, hb, hc⟩ := h (by rintro rfl; simp at hk)
  exact ⟨ad, _, e, hb, he, (hc k _ he).1, by rw [← add_fld]; exact (hc k _ he).2⟩
def badK (l : List (Int × Int)) : Bool := l.any fun c => c.1 != 1 && c.1 != 2
def undK (l : List (Int × Int)) : Bool := l.any fun c => c.1 == 2
def lifK (op : Int) (l : List (Int × Int)) : Int := if badK l then 0 else if undK l || apE op (l.map (·.2)) != 0 then 2 else 1
def lifV (op : Int) (l : List (Int × Int)) : Int := if badK l then 0 else if undK l || apE op (l.map (·.2)) != 0 then 0 else apV op (l.map (·.2))
/-- block g is just this row of cells, and can be written -/
def Bk (w : World) (g : Nat) (t : TypeId) (cs : Array Value) : Prop := w.heap[g]? = some (.cells cs t (0, 0))
section
variable {w w' : World} {g : Nat} {t : TypeId} {cs : Array Value}
theorem Bk.lt (h : Bk w g t cs) : g < w.heap.size := (Array.getElem?_eq_some_iff.1 h).1
theorem Bk.cell (h : Bk w g t cs) (i : Nat) : w.cell? ⟨g, i, none⟩ = cs[i]? := cell_of_row w g i cs t (0, 0) h
theorem Bk.frozen (h : Bk w g t cs) (i : Nat) : w.frozen? ⟨g, i, none⟩ = false := by
  have e : w.heap[g]? = some (.cells cs t (0, 0)) := h
  simp only [World.frozen?, e]
  simp
theorem Bk.new (w : World) (t : TypeId) (cs : Array Value) : Bk (w.alloc (.cells cs t)) w.heap.size t cs := heap_alloc_new w _
theorem Bk.alloc (h : Bk w g t cs) (o : Obj) : Bk (w.alloc o) g t cs := (Below.heap_alloc w o g h.lt).trans h
theorem Bk.set_ (h : Bk w g t cs) (i : Nat) (u : Value) : Bk (w.setCell ⟨g, i, none⟩ u) g t (cs.setIfInBounds i u) := by
  have e : w.heap[g]? = some (.cells cs t (0, 0)) := h
  show (w.setCell ⟨g, i, none⟩ u).heap[g]? = _
  simp only [World.setCell, Array.getElem?_modify, e]
  simp
theorem Bk.far (h : Bk w g t cs) {p : Addr} (hp : g ≠ p.block) (u : Value) : Bk (w.setCell p u) g t cs := (Below.heap_setCell w p u g hp).trans h
theorem Bk.below {B : Nat} (h : Bk w g t cs) (hb : Below B w w') (hg : g < B) : Bk w' g t cs := (hb.block g hg).trans h
end
def vals (l : List (Int × Int)) (k : Nat) : List Int := l.mapIdx fun j c => if j < k then (if c.1 = 1 then c.2 else 0) else 0
theorem vals_length (l : List (Int × Int)) (k : Nat) : (vals l k).length = l.length := by simp [vals]
theorem vals_get (l : List (Int × Int)) (k j : Nat) : (vals l k)[j]? = l[j]?.map fun c => if j < k then (if c.1 = 1 then c.2 else 0) else 0 := by simp [vals, List.getElem?_mapIdx]
theorem vals_zero (l : List (Int × Int)) : (is_ (vals l 0)).toArray = madeCells #[.int .i64 0] l.length := by
  apply Array.ext_getElem?
  intro j
  rw [List.getElem?_toArray, is_, List.getElem?_map, vals_get]
  by_cases h : j < l.length
  · simp [madeCells, h, List.getElem?_eq_getElem h, Nat.mod_one]
  · simp [madeCells, h, List.getElem?_eq_none (Nat.le_of_not_lt h)]
theorem vals_end (l : List (Int × Int)) : vals l l.length = l.map fun c => if c.1 = 1 then c.2 else 0 := by
  apply List.ext_getElem?
  intro j
  rw [vals_get, List.getElem?_map]
  by_cases h : j < l.length
  · simp [h]
  · rw [List.getElem?_eq_none (Nat.le_of_not_lt h)]; rfl
theorem vals_keep {l : List (Int × Int)} {k : Nat} {e : Int × Int} (he : l[k]? = some e) (h1 : e.1 ≠ 1) : vals l (k + 1) = vals l k := by
  apply List.ext_getElem?
  intro j
  rw [vals_get, vals_get]
  rcases Nat.lt_trichotomy j k with h | h | h
  · simp [h, Nat.lt_succ_of_lt h]
  · subst h; rw [he]; simp [h1]
  · have a1 : ¬ j < k + 1 := by omega
    have a2 : ¬ j < k := by omega
    simp [a1, a2]
theorem vals_set {l : List (Int × Int)} {k : Nat} {e : Int × Int} (he : l[k]? = some e) (h1 : e.1 = 1) : ((is_ (vals l k)).toArray.setIfInBounds k (.int .i64 e.2)) = (is_ (vals l (k + 1))).toArray := by
  have hk : k < l.length := (List.getElem?_eq_some_iff.1 he).1
  apply Array.ext_getElem?
  intro j
  rw [Array.getElem?_setIfInBounds, List.getElem?_toArray, List.getElem?_toArray, is_, List.getElem?_map, is_, List.getElem?_map, vals_get, vals_get]
  by_cases h : k = j
  · subst h
    rw [he]
    simp [h1, vals_length, hk]
  · rw [if_neg h]
    rcases Nat.lt_or_gt_of_ne h with h2 | h2
    · have a1 : ¬ j < k + 1 := by omega
      have a2 : ¬ j < k := by omega
      simp [a1, a2]
    · simp [h2, Nat.lt_succ_of_lt h2]
theorem intInfo : (Tryd.prog.info? 3).map (fun i => (i.zero, i.size, i.bytes)) = some (some (.int .i64 0), 1, 8) := by kernel_rfl
set_option maxHeartbeats 2000000 in
theorem lift_any (A : Option Addr) (c : Nat) (op : Int) (l : List (Int × Int)) (w : World) (hA : RdC w w.heap.size A l) (hl : l.length ≤ 100) :
    Calls Tryd.prog 30 #[.int .i64 op, .slice A l.length c] w (Bel (.agg #[.int .i64 (lifK op l), .int .i64 (lifV op l)]) w) := by
  have HA := Lib.hid hA
  clear hA
  have hmk := run_make_row' (P := Tryd.prog) 38 3 (.int .i64 0) 8 Tryd.underlying38 intInfo rfl .i64 .i64 l.length (by omega) (by omega)
  go_enter Tryd.func30, Tryd.ntmps30
  go_wp2
  go_loopw [6, 16] (fun d i wr => ∃ k : Nat, k ≤ l.length ∧ i = .int .i64 k ∧ d = .bool (!undK (l.take k)) ∧ Hid (badK (l.take k) = false) ∧ Hid (Bk wr w.heap.size 45 #[.int .i64 0, .int .i64 0] ∧ Bk wr (w.heap.size + 1) 3 (is_ (vals l k)).toArray) ∧ Below w.heap.size w wr) (fun _ i _ => l.length - (intOf i).toNat)
  case atStart =>
    refine ⟨0, by omega, rfl, rfl, Lib.hid rfl, Lib.hid ⟨?_, ?_⟩, (by repeat (first | (with_reducible exact Below.refl _ _) | (with_reducible assumption) | (with_reducible exact bel_box _) | (with_reducible refine bel_step ?_ (by with_reducible assumption)) | (with_reducible refine Below.drew ?_) | (with_reducible refine below_drewN ?_ _) | (with_reducible refine bel_alloc ?_ _)))⟩
    · exact (Bk.new _ _ _).alloc _
    · rw [vals_zero]
      have h := Bk.new (w.alloc (.cells #[.int .i64 0, .int .i64 0] 45)) 3 (madeCells #[.int .i64 0] l.length)
      rwa [World.size_alloc] at h
  case round =>
    obtain ⟨k, hk, rfl, rfl, hbad, hblk, hbl⟩ := hrel
    by_cases hlt : k < l.length
    · obtain ⟨ad, e, rfl, hadb, he, hc1, hc2⟩ := (HA.out.to hbl).at_ hlt
      have hbk := hblk.out.2.alloc (.cells #[.int .i64 e.1, .int .i64 e.2] 45)
      have sf := hbk.frozen k
      have sc : (wr.alloc (.cells #[.int .i64 e.1, .int .i64 e.2] 45)).cell? ⟨w.heap.size + 1, k, none⟩ = some (.int .i64 ((vals l k)[k]'(by rw [vals_length]; exact hlt))) := by
        rw [hbk.cell k, List.getElem?_toArray]; exact is_get (List.getElem?_eq_getElem _)
      have hbx := hblk.out.1.alloc (.cells #[.int .i64 e.1, .int .i64 e.2] 45)
      have HBX := Lib.hid hbx
      have HBK := Lib.hid hbk
      have hbad2 : badK (l.take (k + 1)) = (badK (l.take k) || (e.1 != 1 && e.1 != 2)) := by rw [badK, take_succ_of he, List.any_append]; simp [badK]
      have hund2 : undK (l.take (k + 1)) = (undK (l.take k) || (e.1 == 2)) := by rw [undK, take_succ_of he, List.any_append]; simp [undK]
      have HB2 := Lib.hid hbad2
      have HU2 := Lib.hid hund2
      clear hbk hbx hbad2 hund2
      by_cases e1 : e.1 = 1
      · have VS := Lib.hid (vals_set he e1)
        have e1b : (e.1 == 1) = true := by simp [e1]
        have E1 := Lib.hid e1
        clear e1
        go_wp2
        go_roundw
        case rel =>
          refine ⟨k + 1, by omega, by go_num, ?_, Lib.hid ?_, Lib.hid ⟨?_, ?_⟩, ?_⟩
          · rw [HU2.out, E1.out]; simp
          · rw [HB2.out, hbad.out, E1.out]; rfl
          · exact HBX.out.far (p := ⟨w.heap.size + 1, k, none⟩) (by simp) _
          · rw [← VS.out]; exact HBK.out.set_ k _
          · exact (hbl.alloc hbl.size _).setCell (p := ⟨w.heap.size + 1, k, none⟩) (by simp) _
        case measure => simp [intOf]; omega
      · have VS := Lib.hid (vals_keep he e1)
        have e1b : (e.1 == 1) = false := by simp [e1]
        have E1 := Lib.hid e1
        clear e1
        by_cases e2 : e.1 = 2
        · have e2b : (e.1 == 2) = true := by simp [e2]
          have E2 := Lib.hid e2
          clear e2
          go_wp2
          go_roundw
          case rel =>
            refine ⟨k + 1, by omega, by go_num, ?_, Lib.hid ?_, Lib.hid ⟨?_, ?_⟩, ?_⟩
            · rw [HU2.out, E2.out]; simp
            · rw [HB2.out, hbad.out, E2.out]; rfl
            · exact HBX.out
            · rw [VS.out]; exact HBK.out
            · exact hbl.alloc hbl.size _
          case measure => simp [intOf]; omega
        · have e2b : (e.1 == 2) = false := by simp [e2]
          have E2 := Lib.hid e2
          have hbb : badK l = true := by
            rw [badK, List.any_eq_true]
            exact ⟨e, List.mem_of_getElem? he, by simp [E1.out, e2]⟩
          have HK : Hid (lifK op l = 0 ∧ lifV op l = 0) := Lib.hid ⟨by rw [lifK, if_pos hbb], by rw [lifV, if_pos hbb]⟩
          have r0 : (wr.alloc (.cells #[.int .i64 e.1, .int .i64 e.2] 45)).cell? ⟨w.heap.size, 0, none⟩ = some (.int .i64 0) := HBX.out.cell 0
          have r1 : (wr.alloc (.cells #[.int .i64 e.1, .int .i64 e.2] 45)).cell? ⟨w.heap.size, 1, none⟩ = some (.int .i64 0) := HBX.out.cell 1
          have f0 := HBX.out.frozen 0
          have f1 := HBX.out.frozen 1
          clear e2 hbb
          go_wp2
          obtain ⟨t1, t2⟩ := set2_cells r0 r1 (.int .i64 0) (.int .i64 0)
          refine bodyPost_ret (v := .agg #[.int .i64 0, .int .i64 0]) (by simp [results, Tryd.results30, go_sem, t1, t2]) rfl ⟨by rw [HK.out.1, HK.out.2], bel_set2 (hbl.alloc hbl.size _) (Nat.le_refl _) _ _⟩
    · have hkl : k = l.length := by omega
      subst hkl
      have hbad2 : badK l = false := by have := hbad.out; rwa [List.take_length] at this
      have hb0 := hblk.out.1
      have hb1 : Rd wr wr.heap.size (some ⟨w.heap.size + 1, 0, none⟩) (is_ (vals l l.length)) := fun _ => ⟨_, rfl, hblk.out.2.lt, fun j u hu => by
        rw [add_off, hblk.out.2.cell j, List.getElem?_toArray]; exact hu⟩
      have KA := Lib.hid (apply_any (some ⟨w.heap.size + 1, 0, none⟩) l.length op (vals l l.length) wr hb1 (by rw [vals_length]; omega))
      rw [vals_length] at KA
      have HB0 := Lib.hid hb0
      have hw := hb0.lt
      have HBad := Lib.hid hbad2
      rw [List.take_length]
      clear hbad hblk hb0 hb1 hbad2 hk hlt hmk
      have hall : badK l = false → undK l = false → vals l l.length = l.map (·.2) := fun hb hu => by
        rw [vals_end]
        apply List.map_congr_left
        intro c hc
        have h1 := (List.any_eq_false.1 hb) c hc
        have h2 := (List.any_eq_false.1 hu) c hc
        have : c.1 = 1 := by simp at h1 h2; omega
        rw [if_pos this]
      cases hu : undK l
      · have hv := hall HBad.out hu
        rw [hv] at KA
        by_cases ha : apE op (l.map (·.2)) = 0
        · have HK : Hid (lifK op l = 1 ∧ lifV op l = apV op (l.map (·.2))) := Lib.hid ⟨by rw [lifK, HBad.out, hu, ha]; rfl, by rw [lifV, HBad.out, hu, ha]; rfl⟩
          rw [ha] at KA
          clear hu hall hv ha
          go_wp2_with (go_at_call 27; refine KA.out.mono ?_; rintro e w2 ⟨rfl, hb2⟩; have r0 := (hb2.cell (p := ⟨w.heap.size, 0, none⟩) hw).trans (HB0.out.cell 0); have r1 := (hb2.cell (p := ⟨w.heap.size, 1, none⟩) hw).trans (HB0.out.cell 1); have f0 := (hb2.frozen (p := ⟨w.heap.size, 0, none⟩) hw).trans (HB0.out.frozen 0); have f1 := (hb2.frozen (p := ⟨w.heap.size, 1, none⟩) hw).trans (HB0.out.frozen 1); simp at r0 r1)
          obtain ⟨t1, t2⟩ := set2_cells r0 r1 (.int .i64 1) (.int .i64 (apV op (l.map (·.2))))
          refine bodyPost_ret (v := .agg #[.int .i64 1, .int .i64 (apV op (l.map (·.2)))]) (by simp [results, Tryd.results30, go_sem, t1, t2]) rfl ⟨by rw [HK.out.1, HK.out.2], bel_set2 (by repeat (first | (with_reducible exact Below.refl _ _) | (with_reducible assumption) | (with_reducible exact bel_box _) | (with_reducible refine bel_step ?_ (by with_reducible assumption)) | (with_reducible refine Below.drew ?_) | (with_reducible refine below_drewN ?_ _) | (with_reducible refine bel_alloc ?_ _))) (Nat.le_refl _) _ _⟩
        · have HK : Hid (lifK op l = 2 ∧ lifV op l = 0) := Lib.hid ⟨by rw [lifK, HBad.out, hu]; simp [ha], by rw [lifV, HBad.out, hu]; simp [ha]⟩
          have hab : (apE op (l.map (·.2)) != 0) = true := by simpa using ha
          clear hu hall hv ha
          go_wp2_with (go_at_call 27; refine KA.out.mono ?_; rintro e w2 ⟨rfl, hb2⟩; have r0 := (hb2.cell (p := ⟨w.heap.size, 0, none⟩) hw).trans (HB0.out.cell 0); have r1 := (hb2.cell (p := ⟨w.heap.size, 1, none⟩) hw).trans (HB0.out.cell 1); have f0 := (hb2.frozen (p := ⟨w.heap.size, 0, none⟩) hw).trans (HB0.out.frozen 0); have f1 := (hb2.frozen (p := ⟨w.heap.size, 1, none⟩) hw).trans (HB0.out.frozen 1); simp at r0 r1)
          obtain ⟨t1, t2⟩ := set2_cells r0 r1 (.int .i64 2) (.int .i64 0)
          refine bodyPost_ret (v := .agg #[.int .i64 2, .int .i64 0]) (by simp [results, Tryd.results30, go_sem, t1, t2]) rfl ⟨by rw [HK.out.1, HK.out.2], bel_set2 (by repeat (first | (with_reducible exact Below.refl _ _) | (with_reducible assumption) | (with_reducible exact bel_box _) | (with_reducible refine bel_step ?_ (by with_reducible assumption)) | (with_reducible refine Below.drew ?_) | (with_reducible refine below_drewN ?_ _) | (with_reducible refine bel_alloc ?_ _))) (Nat.le_refl _) _ _⟩
      · have HK : Hid (lifK op l = 2 ∧ lifV op l = 0) := Lib.hid ⟨by rw [lifK, HBad.out, hu]; rfl, by rw [lifV, HBad.out, hu]; rfl⟩
        clear hu hall
        go_wp2_with (go_at_call 27; refine KA.out.mono ?_; rintro e w2 ⟨rfl, hb2⟩; have r0 := (hb2.cell (p := ⟨w.heap.size, 0, none⟩) hw).trans (HB0.out.cell 0); have r1 := (hb2.cell (p := ⟨w.heap.size, 1, none⟩) hw).trans (HB0.out.cell 1); have f0 := (hb2.frozen (p := ⟨w.heap.size, 0, none⟩) hw).trans (HB0.out.frozen 0); have f1 := (hb2.frozen (p := ⟨w.heap.size, 1, none⟩) hw).trans (HB0.out.frozen 1); simp at r0 r1)
        obtain ⟨t1, t2⟩ := set2_cells r0 r1 (.int .i64 2) (.int .i64 0)
        refine bodyPost_ret (v := .agg #[.int .i64 2, .int .i64 0]) (by simp [results, Tryd.results30, go_sem, t1, t2]) rfl ⟨by rw [HK.out.1, HK.out.2], bel_set2 (by repeat (first | (with_reducible exact Below.refl _ _) | (with_reducible assumption) | (with_reducible exact bel_box _) | (with_reducible refine bel_step ?_ (by with_reducible assumption)) | (with_reducible refine Below.drew ?_) | (with_reducible refine below_drewN ?_ _) | (with_reducible refine bel_alloc ?_ _))) (Nat.le_refl _) _ _⟩
end Go.Proofs.YtjlkgejkgpnnkaaDoor
