/- Texts of one chain, in one file. -/
import Derived.Test.YtfogkcccjemloaaGreatDoorQ2
import Derived.Test.YtfogkcccjemloaaGreatDoorQ1
import Derived.RangeFuncNested
import Derived.RangeFuncBound
import Derived.RangeFuncCalls
import Derived.RangeFuncLeaves
import Derived.RangeFuncFrom
import Derived.Shelf.Abstract
import Derived.Shelf.RegionOpen
import Derived.WalkKit
import Derived.OwnWalkIn
import Derived.TacticsInMore
import Derived.LoopNIn
import Derived.LoopIn
/- number and first of the program. -/
namespace Go.Proofs.YtfogkcccjemloaaGreatDoor
set_option linter.unusedVariables false
set_option linter.unusedSimpArgs false
open Go.RowKit
/-- what the listed variables give: the table of powers, and the two sentinels -/
def Std (w : World) : Prop := Lib.TabIs Tryz.prog w "internal/strconv.uint64pow10" .u64 Lib.pow10Tab ∧ (∃ tp p, w.var? Tryz.prog "strconv.ErrSyntax" = some #[.iface tp p]) ∧ ∃ tp p, w.var? Tryz.prog "strconv.ErrRange" = some #[.iface tp p]
theorem var_below {n : String} {g : Nat} {v : Array Value} {w w' : World} (hg : Tryz.prog.globalNamed n = some g) (h : w.var? Tryz.prog n = some v) (hb : Below w.heap.size w w') : w'.var? Tryz.prog n = some v := by
  unfold World.var? at h ⊢
  rw [hg] at h ⊢
  simp only [Option.bind_some] at h ⊢
  have hlt : g < w.heap.size := by
    rcases Nat.lt_or_ge g w.heap.size with h' | h'
    · exact h'
    · rw [Array.getElem?_eq_none h'] at h; cases h
  rw [hb.block g hlt]
  exact h
theorem tab_below {n : String} {g : Nat} {k : IntKind} {zs : List Int} {w w' : World} (hg : Tryz.prog.globalNamed n = some g) (h : Lib.TabIs Tryz.prog w n k zs) (hb : Below w.heap.size w w') : Lib.TabIs Tryz.prog w' n k zs := var_below hg h hb
theorem gTab : Tryz.prog.globalNamed "internal/strconv.uint64pow10" = some 5 := by kernel_rfl
theorem gSyn : Tryz.prog.globalNamed "strconv.ErrSyntax" = some 1 := by kernel_rfl
theorem gRng : Tryz.prog.globalNamed "strconv.ErrRange" = some 2 := by kernel_rfl
theorem Std.to {w w' : World} (h : Std w) (hb : Below w.heap.size w w') : Std w' := by
  obtain ⟨h1, ⟨a, b, h2⟩, c, d, h3⟩ := h
  exact ⟨tab_below gTab h1 hb, ⟨a, b, var_below gSyn h2 hb⟩, c, d, var_below gRng h3 hb⟩
/-- strconv.Atoi, at every text: a number and whether there is an error -/
def atoiV (l : List UInt8) : Int := match Lib.atoiAll l with | .ok v => v | .syntax => 0 | .range => Lib.atoiSat l
def atoiOk (l : List UInt8) : Bool := match Lib.atoiAll l with | .ok v => true | _ => false
def Ato (l : List UInt8) (w : World) (e : Ending) (w' : World) : Prop := ∃ ev, e = .returned (.tuple #[.int .i64 (atoiV l), ev]) ∧ Below w.heap.size w w' ∧ (if atoiOk l then ev = .nilIface else ∃ t p, ev = .iface t p)
theorem atoi_any (s : ByteArray) (w : World) (hs : Std w) (hl : s.size ≤ 281474976710656) : Calls Tryz.prog 97 #[.string s] w (Ato s.data.toList w) := by
  obtain ⟨h1, ⟨a, b, h2⟩, c, d, h3⟩ := hs
  cases h : Lib.atoiAll s.data.toList with
  | ok v =>
    refine (Tryz.strconv_Atoi_ok s (by omega) v h w).mono fun e w' ⟨he, hw⟩ => ⟨.nilIface, by rw [he, atoiV, h], ?_, by rw [atoiOk, h]; rfl⟩
    rcases hw with rfl | ⟨t, rfl⟩
    · exact Below.refl _ _
    · exact Lib.bytesWorld_below _ _ _
  | «syntax» =>
    refine (Tryz.strconv_Atoi_syntax_var s hl h a b w h2).mono fun e w' hx => ?_
    obtain ⟨N, he, _, _, hb⟩ := hx
    have e1 : atoiV s.data.toList = 0 := by rw [atoiV, h]
    have e2 : atoiOk s.data.toList = false := by rw [atoiOk, h]
    exact ⟨_, by rw [he, e1], hb, by rw [e2]; exact ⟨_, _, rfl⟩⟩
  | range =>
    refine (Tryz.strconv_Atoi_range_var s hl h c d w h3).mono fun e w' hx => ?_
    obtain ⟨N, he, _, _, hb⟩ := hx
    have e1 : atoiV s.data.toList = Lib.atoiSat s.data.toList := by rw [atoiV, h]
    have e2 : atoiOk s.data.toList = false := by rw [atoiOk, h]
    exact ⟨_, by rw [he, e1], hb, by rw [e2]; exact ⟨_, _, rfl⟩⟩
/-- how number ends, of digits -/
def numOk (l : List UInt8) : Bool := atoiOk l && decide (atoiV l ≤ 32768)
set_option maxHeartbeats 1000000 in
theorem number_zero (s : ByteArray) (w : World) (h1 : 2 ≤ s.size) (h9 : s.size ≤ 140737488351232) (h0 : ((s[0].toNat : Nat) : Int) = 48) : Calls Tryz.prog 81 #[.string s] w (Bel (.tuple #[tok 0 ⟨#[]⟩ 0, .int .i64 0, .int .i64 5]) w) := by
  have f0 : (((s[0].toNat : Nat) : Int) == 48) = true := by rw [h0]; rfl
  have f1 : (1 : Int) < (s.size : Int) := by omega
  have f2 : (0 : Int) < (s.size : Int) := by omega
  go_enter Tryz.func81, Tryz.ntmps81
  go_wp2
  refine bodyPost_ret (v := .tuple #[tok 0 ⟨#[]⟩ 0, .int .i64 0, .int .i64 5]) (by simp [results, Tryz.results81, go_sem, tok]) rfl ?_
  exact ⟨rfl, (by repeat (first | (with_reducible exact Below.refl _ _) | (with_reducible assumption) | (with_reducible exact bel_box _) | (with_reducible refine bel_step ?_ (by with_reducible assumption)) | (with_reducible refine Below.drew ?_) | (with_reducible refine below_drewN ?_ _) | (with_reducible refine bel_alloc ?_ _)))⟩
set_option maxHeartbeats 1000000 in
theorem number_any (s : ByteArray) (w : World) (hstd : Std w) (h1 : 1 ≤ s.size) (h9 : s.size ≤ 140737488351232) (h0 : ¬ (2 ≤ s.size ∧ ((s[0].toNat : Nat) : Int) = 48)) :
    Calls Tryz.prog 81 #[.string s] w (Bel (if numOk s.data.toList = true then .tuple #[tok 2 s 0, .int .i64 s.size, .int .i64 0] else .tuple #[tok 0 ⟨#[]⟩ 0, .int .i64 0, .int .i64 14]) w) := by
  have KA : Hid (∀ W, Below w.heap.size w W → Calls Tryz.prog 97 #[.string s] W (Ato s.data.toList W)) := Lib.hid fun W hb => atoi_any s W (hstd.to hb) (by omega)
  have f2 : (0 : Int) < (s.size : Int) := by omega
  have hz : (((s[0].toNat : Nat) : Int) == 48) = false ∨ (((s[0].toNat : Nat) : Int) == 48) = true ∧ (s.size : Int) ≤ 1 := by
    by_cases e : ((s[0].toNat : Nat) : Int) = 48
    · exact .inr ⟨by rw [e]; rfl, by omega⟩
    · exact .inl (by simpa using e)
  have e : numOk s.data.toList = (atoiOk s.data.toList && decide (atoiV s.data.toList ≤ 32768)) := rfl
  rw [e]
  clear e h0
  unfold Ato at KA
  generalize atoiOk s.data.toList = b at *
  generalize atoiV s.data.toList = n at *
  cases b
  · rw [Bool.false_and, if_neg (by simp)]
    rcases hz with hz | ⟨hz, hz2⟩
    all_goals
      go_enter Tryz.func81, Tryz.ntmps81
      go_wp2_with (go_at_call 97; (with_reducible refine (KA.out _ ?_).mono ?_); (focus ((repeat (first | (with_reducible exact Below.refl _ _) | (with_reducible assumption) | (with_reducible exact bel_box _) | (with_reducible refine bel_step ?_ (by with_reducible assumption)) | (with_reducible refine Below.drew ?_) | (with_reducible refine below_drewN ?_ _) | (with_reducible refine bel_alloc ?_ _))); done)); rintro e w1 ⟨ev, rfl, hb1, hev⟩; simp only [Bool.false_eq_true, if_false] at hev; obtain ⟨t, p, rfl⟩ := hev; obtain ⟨q0, q1, q2, q3, q4, q5, q6⟩ := rest (w := w) (W := w1) (t := 61) (s0 := ⟨#[]⟩) (by repeat (first | (with_reducible exact Below.refl _ _) | (with_reducible assumption) | (with_reducible exact bel_box _) | (with_reducible refine bel_step ?_ (by with_reducible assumption)) | (with_reducible refine Below.drew ?_) | (with_reducible refine below_drewN ?_ _) | (with_reducible refine bel_alloc ?_ _))))
      obtain ⟨k0, k1, k2⟩ := set3_cells q0 q1 q2 (.int .i64 0) (.string ⟨#[]⟩) (.int .i64 0)
      refine bodyPost_ret (v := .tuple #[tok 0 ⟨#[]⟩ 0, .int .i64 0, .int .i64 14]) (by simp [results, Tryz.results81, go_sem, tok, k0, k1, k2]) rfl ?_
      exact ⟨rfl, bel_set3 (by repeat (first | (with_reducible exact Below.refl _ _) | (with_reducible assumption) | (with_reducible exact bel_box _) | (with_reducible refine bel_step ?_ (by with_reducible assumption)) | (with_reducible refine Below.drew ?_) | (with_reducible refine below_drewN ?_ _) | (with_reducible refine bel_alloc ?_ _))) (Nat.le_refl _) _ _ _⟩
  · rw [Bool.true_and]
    by_cases hn : n ≤ 32768
    · rw [if_pos (by simpa using hn)]
      rcases hz with hz | ⟨hz, hz2⟩
      all_goals
        go_enter Tryz.func81, Tryz.ntmps81
        go_wp2_with (go_at_call 97; (with_reducible refine (KA.out _ ?_).mono ?_); (focus ((repeat (first | (with_reducible exact Below.refl _ _) | (with_reducible assumption) | (with_reducible exact bel_box _) | (with_reducible refine bel_step ?_ (by with_reducible assumption)) | (with_reducible refine Below.drew ?_) | (with_reducible refine below_drewN ?_ _) | (with_reducible refine bel_alloc ?_ _))); done)); rintro e w1 ⟨ev, rfl, hb1, hev⟩; simp only [if_true] at hev; subst hev; obtain ⟨q0, q1, q2, q3, q4, q5, q6⟩ := rest (w := w) (W := w1) (t := 61) (s0 := ⟨#[]⟩) (by repeat (first | (with_reducible exact Below.refl _ _) | (with_reducible assumption) | (with_reducible exact bel_box _) | (with_reducible refine bel_step ?_ (by with_reducible assumption)) | (with_reducible refine Below.drew ?_) | (with_reducible refine below_drewN ?_ _) | (with_reducible refine bel_alloc ?_ _))))
        obtain ⟨k0, k1, k2⟩ := set3_cells q0 q1 q2 (.int .i64 2) (.string s) (.int .i64 0)
        refine bodyPost_ret (v := .tuple #[tok 2 s 0, .int .i64 s.size, .int .i64 0]) (by simp [results, Tryz.results81, go_sem, tok, k0, k1, k2]) rfl ?_
        exact ⟨rfl, bel_set3 (by repeat (first | (with_reducible exact Below.refl _ _) | (with_reducible assumption) | (with_reducible exact bel_box _) | (with_reducible refine bel_step ?_ (by with_reducible assumption)) | (with_reducible refine Below.drew ?_) | (with_reducible refine below_drewN ?_ _) | (with_reducible refine bel_alloc ?_ _))) (Nat.le_refl _) _ _ _⟩
    · rw [if_neg (by simpa using hn)]
      have hn2 : (32768 : Int) < n := by omega
      rcases hz with hz | ⟨hz, hz2⟩
      all_goals
        go_enter Tryz.func81, Tryz.ntmps81
        go_wp2_with (go_at_call 97; (with_reducible refine (KA.out _ ?_).mono ?_); (focus ((repeat (first | (with_reducible exact Below.refl _ _) | (with_reducible assumption) | (with_reducible exact bel_box _) | (with_reducible refine bel_step ?_ (by with_reducible assumption)) | (with_reducible refine Below.drew ?_) | (with_reducible refine below_drewN ?_ _) | (with_reducible refine bel_alloc ?_ _))); done)); rintro e w1 ⟨ev, rfl, hb1, hev⟩; simp only [if_true] at hev; subst hev; obtain ⟨q0, q1, q2, q3, q4, q5, q6⟩ := rest (w := w) (W := w1) (t := 61) (s0 := ⟨#[]⟩) (by repeat (first | (with_reducible exact Below.refl _ _) | (with_reducible assumption) | (with_reducible exact bel_box _) | (with_reducible refine bel_step ?_ (by with_reducible assumption)) | (with_reducible refine Below.drew ?_) | (with_reducible refine below_drewN ?_ _) | (with_reducible refine bel_alloc ?_ _))))
        obtain ⟨k0, k1, k2⟩ := set3_cells q0 q1 q2 (.int .i64 0) (.string ⟨#[]⟩) (.int .i64 0)
        refine bodyPost_ret (v := .tuple #[tok 0 ⟨#[]⟩ 0, .int .i64 0, .int .i64 14]) (by simp [results, Tryz.results81, go_sem, tok, k0, k1, k2]) rfl ?_
        exact ⟨rfl, bel_set3 (by repeat (first | (with_reducible exact Below.refl _ _) | (with_reducible assumption) | (with_reducible exact bel_box _) | (with_reducible refine bel_step ?_ (by with_reducible assumption)) | (with_reducible refine Below.drew ?_) | (with_reducible refine below_drewN ?_ _) | (with_reducible refine bel_alloc ?_ _))) (Nat.le_refl _) _ _ _⟩
end Go.Proofs.YtfogkcccjemloaaGreatDoor
/- symbol of the program. -/
namespace Go.Proofs.YtfogkcccjemloaaGreatDoor
set_option linter.unusedVariables false
set_option linter.unusedSimpArgs false
open Go.RowKit
def syL : List (List UInt8) := [[45, 62], [60, 62], [60, 61], [62, 61], [40], [41], [58], [59], [44], [61], [124], [60], [62], [43], [45], [42], [47]]
def isSy (s : ByteArray) : Bool := syL.contains s.toList
theorem ix2 (w : World) : (Instr.index 87 (.agg #[.int .i64 2, .int .i64 1]) (.int .i64 0)).run Tryz.prog w = .ok (.int .i64 2) w := by
  simp [Instr.index, Tryz.underlying87, go_sem]
theorem ix1 (w : World) : (Instr.index 87 (.agg #[.int .i64 2, .int .i64 1]) (.int .i64 1)).run Tryz.prog w = .ok (.int .i64 1) w := by
  simp [Instr.index, Tryz.underlying87, go_sem]
theorem no17 {s : ByteArray} (h : isSy s = false) : Hid ((s.toList == [45, 62]) = false ∧ (s.toList == [60, 62]) = false ∧ (s.toList == [60, 61]) = false ∧ (s.toList == [62, 61]) = false ∧ (s.toList == [40]) = false ∧ (s.toList == [41]) = false ∧ (s.toList == [58]) = false ∧ (s.toList == [59]) = false ∧ (s.toList == [44]) = false ∧ (s.toList == [61]) = false ∧ (s.toList == [124]) = false ∧ (s.toList == [60]) = false ∧ (s.toList == [62]) = false ∧ (s.toList == [43]) = false ∧ (s.toList == [45]) = false ∧ (s.toList == [42]) = false ∧ (s.toList == [47]) = false) := Lib.hid (by
  simp only [isSy, syL, List.contains_cons, List.contains_nil, Bool.or_eq_false_iff] at h
  exact ⟨h.1, h.2.1, h.2.2.1, h.2.2.2.1, h.2.2.2.2.1, h.2.2.2.2.2.1, h.2.2.2.2.2.2.1, h.2.2.2.2.2.2.2.1, h.2.2.2.2.2.2.2.2.1, h.2.2.2.2.2.2.2.2.2.1, h.2.2.2.2.2.2.2.2.2.2.1, h.2.2.2.2.2.2.2.2.2.2.2.1, h.2.2.2.2.2.2.2.2.2.2.2.2.1, h.2.2.2.2.2.2.2.2.2.2.2.2.2.1, h.2.2.2.2.2.2.2.2.2.2.2.2.2.2.1, h.2.2.2.2.2.2.2.2.2.2.2.2.2.2.2.1, h.2.2.2.2.2.2.2.2.2.2.2.2.2.2.2.2.1⟩)
theorem len_ne {l k : List UInt8} (n : Nat) (h : l.length = n) (hk : k.length ≠ n) : (l == k) = false := by
  rw [beq_eq_false_iff_ne]
  rintro rfl
  exact hk h
theorem ext_len (s : ByteArray) (n : Nat) (h : n ≤ s.size) : (s.extract 0 n).toList.length = n := by
  rw [ByteArray.toList_eq, len_toList, ByteArray.size_extract]
  omega
set_option maxHeartbeats 4000000 in
set_option maxRecDepth 100000 in
theorem symbol_two (s : ByteArray) (w : World) (h2 : 2 ≤ s.size) (hy : isSy (s.extract 0 2) = true) : Calls Tryz.prog 83 #[.string s] w (Bel (.tuple #[tok 4 (s.extract 0 2) 0, .int .i64 2, .int .i64 0]) w) := by
  have f1 : (2 : Int) ≤ (s.size : Int) := by omega
  have HY := Lib.hid hy
  have hln := ext_len s 2 h2
  clear hy
  have l4 : ((s.extract 0 2).toList == [40]) = false := len_ne 2 hln (by decide)
  have l5 : ((s.extract 0 2).toList == [41]) = false := len_ne 2 hln (by decide)
  have l6 : ((s.extract 0 2).toList == [58]) = false := len_ne 2 hln (by decide)
  have l7 : ((s.extract 0 2).toList == [59]) = false := len_ne 2 hln (by decide)
  have l8 : ((s.extract 0 2).toList == [44]) = false := len_ne 2 hln (by decide)
  have l9 : ((s.extract 0 2).toList == [61]) = false := len_ne 2 hln (by decide)
  have l10 : ((s.extract 0 2).toList == [124]) = false := len_ne 2 hln (by decide)
  have l11 : ((s.extract 0 2).toList == [60]) = false := len_ne 2 hln (by decide)
  have l12 : ((s.extract 0 2).toList == [62]) = false := len_ne 2 hln (by decide)
  have l13 : ((s.extract 0 2).toList == [43]) = false := len_ne 2 hln (by decide)
  have l14 : ((s.extract 0 2).toList == [45]) = false := len_ne 2 hln (by decide)
  have l15 : ((s.extract 0 2).toList == [42]) = false := len_ne 2 hln (by decide)
  have l16 : ((s.extract 0 2).toList == [47]) = false := len_ne 2 hln (by decide)
  clear hln
  have x2 := ix2
  go_enter Tryz.func83, Tryz.ntmps83
  go_wp2
  refine wp_loop_rounds 3 ?_
  rw [rounds_succ]
  go_wp2
  all_goals try (rename_i hA hB; exact absurd (hA.symm.trans hB) (by decide))
  all_goals first
    | (refine bodyPost_ret (v := .tuple #[tok 4 (s.extract 0 2) 0, .int .i64 2, .int .i64 0]) (by simp [results, Tryz.results83, go_sem, tok]) rfl ?_; exact ⟨rfl, (by repeat (first | (with_reducible exact Below.refl _ _) | (with_reducible assumption) | (with_reducible exact bel_box _) | (with_reducible refine bel_step ?_ (by with_reducible assumption)) | (with_reducible refine Below.drew ?_) | (with_reducible refine below_drewN ?_ _) | (with_reducible refine bel_alloc ?_ _)))⟩)
    | (have h := HY.out; simp only [isSy, syL, List.contains_cons, List.contains_nil, Bool.or_false, *] at h; cases h)
set_option maxHeartbeats 4000000 in
set_option maxRecDepth 100000 in
theorem symbol_one1 (s : ByteArray) (w : World) (h2 : s.size = 1) (hy : isSy (s.extract 0 1) = true) : Calls Tryz.prog 83 #[.string s] w (Bel (.tuple #[tok 4 (s.extract 0 1) 0, .int .i64 1, .int .i64 0]) w) := by
  have f1 : (s.size : Int) < 2 := by omega
  have f2 : (1 : Int) ≤ (s.size : Int) := by omega
  have HY := Lib.hid hy
  have hln := ext_len s 1 (by omega)
  clear hy
  have l0 : ((s.extract 0 1).toList == [45, 62]) = false := len_ne 1 hln (by decide)
  have l1 : ((s.extract 0 1).toList == [60, 62]) = false := len_ne 1 hln (by decide)
  have l2 : ((s.extract 0 1).toList == [60, 61]) = false := len_ne 1 hln (by decide)
  have l3 : ((s.extract 0 1).toList == [62, 61]) = false := len_ne 1 hln (by decide)
  clear hln
  have x2 := ix2
  have x1 := ix1
  go_enter Tryz.func83, Tryz.ntmps83
  go_wp2
  refine wp_loop_rounds 3 ?_
  rw [rounds_succ]
  go_wp2
  rw [rounds_succ]
  go_wp2
  all_goals try (rename_i hA hB; exact absurd (hA.symm.trans hB) (by decide))
  all_goals first
    | (refine bodyPost_ret (v := .tuple #[tok 4 (s.extract 0 1) 0, .int .i64 1, .int .i64 0]) (by simp [results, Tryz.results83, go_sem, tok]) rfl ?_; exact ⟨rfl, (by repeat (first | (with_reducible exact Below.refl _ _) | (with_reducible assumption) | (with_reducible exact bel_box _) | (with_reducible refine bel_step ?_ (by with_reducible assumption)) | (with_reducible refine Below.drew ?_) | (with_reducible refine below_drewN ?_ _) | (with_reducible refine bel_alloc ?_ _)))⟩)
    | (have h := HY.out; simp only [isSy, syL, List.contains_cons, List.contains_nil, Bool.or_false, *] at h; cases h)
set_option maxHeartbeats 4000000 in
set_option maxRecDepth 100000 in
theorem symbol_one2 (s : ByteArray) (w : World) (h2 : 2 ≤ s.size) (hn : isSy (s.extract 0 2) = false) (hy : isSy (s.extract 0 1) = true) : Calls Tryz.prog 83 #[.string s] w (Bel (.tuple #[tok 4 (s.extract 0 1) 0, .int .i64 1, .int .i64 0]) w) := by
  have f1 : (2 : Int) ≤ (s.size : Int) := by omega
  have f2 : (1 : Int) ≤ (s.size : Int) := by omega
  have HY := Lib.hid hy
  have hln := ext_len s 1 (by omega)
  have N := no17 hn
  obtain ⟨n0, n1, n2, n3, n4, n5, n6, n7, n8, n9, n10, n11, n12, n13, n14, n15, n16⟩ := N.out
  clear hy hn N
  have l0 : ((s.extract 0 1).toList == [45, 62]) = false := len_ne 1 hln (by decide)
  have l1 : ((s.extract 0 1).toList == [60, 62]) = false := len_ne 1 hln (by decide)
  have l2 : ((s.extract 0 1).toList == [60, 61]) = false := len_ne 1 hln (by decide)
  have l3 : ((s.extract 0 1).toList == [62, 61]) = false := len_ne 1 hln (by decide)
  clear hln
  have x2 := ix2
  have x1 := ix1
  go_enter Tryz.func83, Tryz.ntmps83
  go_wp2
  refine wp_loop_rounds 3 ?_
  rw [rounds_succ]
  go_wp2
  rw [rounds_succ]
  go_wp2
  all_goals try (rename_i hA hB; exact absurd (hA.symm.trans hB) (by decide))
  all_goals first
    | (refine bodyPost_ret (v := .tuple #[tok 4 (s.extract 0 1) 0, .int .i64 1, .int .i64 0]) (by simp [results, Tryz.results83, go_sem, tok]) rfl ?_; exact ⟨rfl, (by repeat (first | (with_reducible exact Below.refl _ _) | (with_reducible assumption) | (with_reducible exact bel_box _) | (with_reducible refine bel_step ?_ (by with_reducible assumption)) | (with_reducible refine Below.drew ?_) | (with_reducible refine below_drewN ?_ _) | (with_reducible refine bel_alloc ?_ _)))⟩)
    | (have h := HY.out; simp only [isSy, syL, List.contains_cons, List.contains_nil, Bool.or_false, *] at h; cases h)
set_option maxHeartbeats 4000000 in
set_option maxRecDepth 100000 in
theorem symbol_none1 (s : ByteArray) (w : World) (h2 : s.size = 1) (hy : isSy (s.extract 0 1) = false) : Calls Tryz.prog 83 #[.string s] w (Bel (.tuple #[tok 0 ⟨#[]⟩ 0, .int .i64 0, .int .i64 5]) w) := by
  have f1 : (s.size : Int) < 2 := by omega
  have f2 : (1 : Int) ≤ (s.size : Int) := by omega
  have N := no17 hy
  obtain ⟨n0, n1, n2, n3, n4, n5, n6, n7, n8, n9, n10, n11, n12, n13, n14, n15, n16⟩ := N.out
  clear hy N
  have x2 := ix2
  have x1 := ix1
  go_enter Tryz.func83, Tryz.ntmps83
  go_wp2
  refine wp_loop_rounds 3 ?_
  rw [rounds_succ]
  go_wp2
  rw [rounds_succ]
  go_wp2
  rw [rounds_succ]
  go_wp2
  all_goals
    refine bodyPost_ret (v := .tuple #[tok 0 ⟨#[]⟩ 0, .int .i64 0, .int .i64 5]) (by simp [results, Tryz.results83, go_sem, tok]) rfl ?_
    exact ⟨rfl, (by repeat (first | (with_reducible exact Below.refl _ _) | (with_reducible assumption) | (with_reducible exact bel_box _) | (with_reducible refine bel_step ?_ (by with_reducible assumption)) | (with_reducible refine Below.drew ?_) | (with_reducible refine below_drewN ?_ _) | (with_reducible refine bel_alloc ?_ _)))⟩
set_option maxHeartbeats 4000000 in
set_option maxRecDepth 100000 in
theorem symbol_none2 (s : ByteArray) (w : World) (h2 : 2 ≤ s.size) (hn : isSy (s.extract 0 2) = false) (hy : isSy (s.extract 0 1) = false) : Calls Tryz.prog 83 #[.string s] w (Bel (.tuple #[tok 0 ⟨#[]⟩ 0, .int .i64 0, .int .i64 5]) w) := by
  have f1 : (2 : Int) ≤ (s.size : Int) := by omega
  have f2 : (1 : Int) ≤ (s.size : Int) := by omega
  have N := no17 hy
  obtain ⟨n0, n1, n2, n3, n4, n5, n6, n7, n8, n9, n10, n11, n12, n13, n14, n15, n16⟩ := N.out
  have M := no17 hn
  obtain ⟨m0, m1, m2, m3, m4, m5, m6, m7, m8, m9, m10, m11, m12, m13, m14, m15, m16⟩ := M.out
  clear hy hn N M
  have x2 := ix2
  have x1 := ix1
  go_enter Tryz.func83, Tryz.ntmps83
  go_wp2
  refine wp_loop_rounds 3 ?_
  rw [rounds_succ]
  go_wp2
  rw [rounds_succ]
  go_wp2
  rw [rounds_succ]
  go_wp2
  all_goals
    refine bodyPost_ret (v := .tuple #[tok 0 ⟨#[]⟩ 0, .int .i64 0, .int .i64 5]) (by simp [results, Tryz.results83, go_sem, tok]) rfl ?_
    exact ⟨rfl, (by repeat (first | (with_reducible exact Below.refl _ _) | (with_reducible assumption) | (with_reducible exact bel_box _) | (with_reducible refine bel_step ?_ (by with_reducible assumption)) | (with_reducible refine Below.drew ?_) | (with_reducible refine below_drewN ?_ _) | (with_reducible refine bel_alloc ?_ _)))⟩
end Go.Proofs.YtfogkcccjemloaaGreatDoor
/- first of the program. -/
namespace Go.Proofs.YtfogkcccjemloaaGreatDoor
set_option linter.unusedVariables false
set_option linter.unusedSimpArgs false
open Go.RowKit
theorem either_any (a : Addr) (w : World) :
    Calls Tryz.prog 78 #[.slice (some a) 3 3] w (fun e w' => e = .returned (.func (.func 94) #[] #[.pointer (some ⟨w.heap.size, 0, none⟩)]) ∧ w'.cell? ⟨w.heap.size, 0, none⟩ = some (.slice (some a) 3 3) ∧ w.heap.size < w'.heap.size ∧ Below w.heap.size w w') := by
  go_enter Tryz.func78, Tryz.ntmps78
  go_wp2
  go_ret
  refine ⟨rfl, ?_, ?_, (by repeat (first | (with_reducible exact Below.refl _ _) | (with_reducible assumption) | (with_reducible exact bel_box _) | (with_reducible refine bel_step ?_ (by with_reducible assumption)) | (with_reducible refine Below.drew ?_) | (with_reducible refine below_drewN ?_ _) | (with_reducible refine bel_alloc ?_ _)))⟩ <;> simp [go_sem]
theorem head_extract (s : ByteArray) (k : Nat) : (s.extract 0 k).data.toList = s.data.toList.take k := by
  rw [ByteArray.data_extract]
  simp
theorem tests_mk {w1 w2 w3 : World} {t : TypeId} (hq : w2.cell? ⟨w1.heap.size, 0, none⟩ = some (.string ⟨#[95]⟩)) (hz : w1.heap.size < w2.heap.size)
    (h3 : w3.cell? ⟨(w2.alloc (.cells #[.func (.func 75) #[] #[], .func (.func 79) #[] #[], .func (.func 95) #[] #[.pointer (some ⟨w1.heap.size, 0, none⟩)]] t)).heap.size, 0, none⟩ = some (.slice (some ⟨w2.heap.size, 0, none⟩) 3 3))
    (hb : Below (w2.alloc (.cells #[.func (.func 75) #[] #[], .func (.func 79) #[] #[], .func (.func 95) #[] #[.pointer (some ⟨w1.heap.size, 0, none⟩)]] t)).heap.size (w2.alloc (.cells #[.func (.func 75) #[] #[], .func (.func 79) #[] #[], .func (.func 95) #[] #[.pointer (some ⟨w1.heap.size, 0, none⟩)]] t)) w3) :
    Tests w3 ⟨w2.heap.size + 1, 0, none⟩ w3.heap.size := by
  rw [World.size_alloc] at h3
  have hl := World.block_lt_of_cell? w3 _ h3
  have hs := hb.size
  obtain ⟨hc, hf, hz2⟩ := bcell hb
  simp at hs hl
  refine ⟨⟨w2.heap.size, 0, none⟩, ⟨w1.heap.size, 0, none⟩, by simpa using hl, by simp; omega, by simp; omega, h3, ?_, ?_, ?_, ?_⟩
  · rw [hc _ _ (by simp)]; simp [go_sem]
  · rw [show (Addr.add ⟨w2.heap.size, 0, none⟩ 1) = ⟨w2.heap.size, 1, none⟩ from rfl, hc _ _ (by simp)]; simp [go_sem]
  · rw [show (Addr.add ⟨w2.heap.size, 0, none⟩ 2) = ⟨w2.heap.size, 2, none⟩ from rfl, hc _ _ (by simp)]; simp [go_sem]
  · rw [hc _ _ (by simp; omega), World.cell?_alloc_lt _ _ _ hz]; exact hq
/-- the name's branch, by whatever name makes of it -/
theorem first_name (s : ByteArray) (k : Nat) (a : Int) (tx : ByteArray) (m e : Int) (w : World) (h1 : 1 ≤ s.size) (h9 : s.size ≤ 140737488351232) (hL : pL ((s[0].toNat : Nat) : Int) = true) (hk : sp pI s.data.toList = k)
    (KN : Hid (∀ W, Calls Tryz.prog 76 #[.string (s.extract 0 k)] W (Bel (.tuple #[.agg #[.int .i64 a, .string tx, .int .i64 0], .int .i64 m, .int .i64 e]) W))) :
    Calls Tryz.prog 57 #[.string s] w (Bel (.tuple #[.agg #[.int .i64 a, .string tx, .int .i64 0], .int .i64 m, .int .i64 e]) w) := by
  have kl := Lib.hid (letter_any ((s[0].toNat : Nat) : Int))
  rw [hL] at kl
  have f2 : (0 : Int) < (s.size : Int) := by omega
  have KA : Hid (∀ W, Calls Tryz.prog 80 #[.string ⟨#[95]⟩] W (fun e w' => e = .returned (.func (.func 95) #[] #[.pointer (some ⟨W.heap.size, 0, none⟩)]) ∧ w'.cell? ⟨W.heap.size, 0, none⟩ = some (.string ⟨#[95]⟩) ∧ W.heap.size < w'.heap.size ∧ Below W.heap.size W w')) := Lib.hid fun W => among_any _ W
  have KE := Lib.hid either_any
  have KS : Hid (∀ q W, Tests W q W.heap.size → Calls Tryz.prog 77 #[.string s, .func (.func 94) #[] #[.pointer (some q)]] W (Bel (.int .i64 k) W)) := Lib.hid fun q W hT => by
    have := span_ei q pI s W (by omega) (Lib.hid fun W' hb c => either_call q c W' (by
      obtain ⟨a, r, t1, t2, t3, t4, t5, t6, t7, t8⟩ := hT
      have hs := hb.size
      exact ⟨a, r, by omega, by omega, by omega, (hb.cell t1).trans t4, (hb.cell t2).trans t5, (hb.cell (by rw [add_block]; exact t2)).trans t6, (hb.cell (by rw [add_block]; exact t2)).trans t7, (hb.cell t3).trans t8⟩))
    rwa [hk] at this
  have hle := sp_le pI s
  rw [hk] at hle
  have f3 : (k : Int) ≤ (s.size : Int) := by omega
  clear hk hL
  go_enter Tryz.func57, Tryz.ntmps57
  go_wp2_with (first
    | (go_at_call 75; refine (kl.out _).mono ?_; rintro e w1 ⟨rfl, hb1⟩)
    | (go_at_call 80; refine (KA.out _).mono ?_; rintro e w2 ⟨rfl, hq2, hz2, hb2⟩)
    | (go_at_call 78; refine (KE.out _ _).mono ?_; rintro e w3 ⟨rfl, hq3, hz3, hb3⟩)
    | (go_at_call 77; refine (KS.out _ _ ?_).mono ?_; (focus (exact tests_mk hq2 hz2 hq3 hb3)); rintro e w4 ⟨rfl, hb4⟩)
    | (go_at_call 76; refine (KN.out _).mono ?_; rintro e w5 ⟨rfl, hb5⟩; obtain ⟨q0, q1, q2, q3, q4, q5, q6⟩ := rest (w := w) (W := w5) (t := 61) (s0 := ⟨#[]⟩) (by repeat (first | (with_reducible exact Below.refl _ _) | (with_reducible assumption) | (with_reducible exact bel_box _) | (with_reducible refine bel_step ?_ (by with_reducible assumption)) | (with_reducible refine Below.drew ?_) | (with_reducible refine below_drewN ?_ _) | (with_reducible refine bel_alloc ?_ _)))))
  obtain ⟨k0, k1, k2⟩ := set3_cells q0 q1 q2 (.int .i64 a) (.string tx) (.int .i64 0)
  refine bodyPost_ret (v := .tuple #[.agg #[.int .i64 a, .string tx, .int .i64 0], .int .i64 m, .int .i64 e]) (by simp [results, Tryz.results57, go_sem, k0, k1, k2]) rfl ?_
  exact ⟨rfl, bel_set3 (by repeat (first | (with_reducible exact Below.refl _ _) | (with_reducible assumption) | (with_reducible exact bel_box _) | (with_reducible refine bel_step ?_ (by with_reducible assumption)) | (with_reducible refine Below.drew ?_) | (with_reducible refine below_drewN ?_ _) | (with_reducible refine bel_alloc ?_ _))) (Nat.le_refl _) _ _ _⟩
theorem first_num (s : ByteArray) (a : Int) (tx : ByteArray) (m e : Int) (w : World) (h1 : 1 ≤ s.size) (h9 : s.size ≤ 140737488351232) (hL : pL ((s[0].toNat : Nat) : Int) = false) (hG : pG ((s[0].toNat : Nat) : Int) = true) (k : Nat) (hk : sp pG s.data.toList = k) (KN : Hid (∀ W, Below w.heap.size w W → Calls Tryz.prog 81 #[.string (s.extract 0 k)] W (Bel (.tuple #[.agg #[.int .i64 a, .string tx, .int .i64 0], .int .i64 m, .int .i64 e]) W))) :
    Calls Tryz.prog 57 #[.string s] w (Bel (.tuple #[.agg #[.int .i64 a, .string tx, .int .i64 0], .int .i64 m, .int .i64 e]) w) := by
  have kl := Lib.hid (letter_any ((s[0].toNat : Nat) : Int))
  rw [hL] at kl
  have kd := Lib.hid (digit_any ((s[0].toNat : Nat) : Int))
  rw [hG] at kd
  have f2 : (0 : Int) < (s.size : Int) := by omega
  have KS : Hid (∀ W, Calls Tryz.prog 77 #[.string s, .func (.func 79) #[] #[]] W (Bel (.int .i64 k) W)) := Lib.hid fun W => by
    have := span_dg pG s W (by omega) (Lib.hid fun W' hb c => digit_any _ W')
    rwa [hk] at this
  have hle := sp_le pG s
  rw [hk] at hle
  have f3 : (k : Int) ≤ (s.size : Int) := by omega
  clear hk
  clear hL hG
  go_enter Tryz.func57, Tryz.ntmps57
  go_wp2_with (first
    | (go_at_call 75; refine (kl.out _).mono ?_; rintro e w1 ⟨rfl, hb1⟩)
    | (go_at_call 79; refine (kd.out _).mono ?_; rintro e w2 ⟨rfl, hb2⟩)
    | (go_at_call 77; refine (KS.out _).mono ?_; rintro e w4 ⟨rfl, hb4⟩)
    | (go_at_call 81; (with_reducible refine (KN.out _ ?_).mono ?_); (focus ((repeat (first | (with_reducible exact Below.refl _ _) | (with_reducible assumption) | (with_reducible exact bel_box _) | (with_reducible refine bel_step ?_ (by with_reducible assumption)) | (with_reducible refine Below.drew ?_) | (with_reducible refine below_drewN ?_ _) | (with_reducible refine bel_alloc ?_ _))); done)); rintro e w5 ⟨rfl, hb5⟩; obtain ⟨q0, q1, q2, q3, q4, q5, q6⟩ := rest (w := w) (W := w5) (t := 61) (s0 := ⟨#[]⟩) (by repeat (first | (with_reducible exact Below.refl _ _) | (with_reducible assumption) | (with_reducible exact bel_box _) | (with_reducible refine bel_step ?_ (by with_reducible assumption)) | (with_reducible refine Below.drew ?_) | (with_reducible refine below_drewN ?_ _) | (with_reducible refine bel_alloc ?_ _)))))
  obtain ⟨k0, k1, k2⟩ := set3_cells q0 q1 q2 (.int .i64 a) (.string tx) (.int .i64 0)
  refine bodyPost_ret (v := .tuple #[.agg #[.int .i64 a, .string tx, .int .i64 0], .int .i64 m, .int .i64 e]) (by simp [results, Tryz.results57, go_sem, k0, k1, k2]) rfl ?_
  exact ⟨rfl, bel_set3 (by repeat (first | (with_reducible exact Below.refl _ _) | (with_reducible assumption) | (with_reducible exact bel_box _) | (with_reducible refine bel_step ?_ (by with_reducible assumption)) | (with_reducible refine Below.drew ?_) | (with_reducible refine below_drewN ?_ _) | (with_reducible refine bel_alloc ?_ _))) (Nat.le_refl _) _ _ _⟩
theorem first_word (s : ByteArray) (a : Int) (tx : ByteArray) (m e : Int) (w : World) (h1 : 1 ≤ s.size) (h9 : s.size ≤ 140737488351232) (hL : pL ((s[0].toNat : Nat) : Int) = false) (hG : pG ((s[0].toNat : Nat) : Int) = false) (hQ : (((s[0].toNat : Nat) : Int) == 39) = true) (KN : Hid (∀ W, Calls Tryz.prog 82 #[.string s] W (Bel (.tuple #[.agg #[.int .i64 a, .string tx, .int .i64 0], .int .i64 m, .int .i64 e]) W))) :
    Calls Tryz.prog 57 #[.string s] w (Bel (.tuple #[.agg #[.int .i64 a, .string tx, .int .i64 0], .int .i64 m, .int .i64 e]) w) := by
  have kl := Lib.hid (letter_any ((s[0].toNat : Nat) : Int))
  rw [hL] at kl
  have kd := Lib.hid (digit_any ((s[0].toNat : Nat) : Int))
  rw [hG] at kd
  have f2 : (0 : Int) < (s.size : Int) := by omega
  clear hL hG
  go_enter Tryz.func57, Tryz.ntmps57
  go_wp2_with (first
    | (go_at_call 75; refine (kl.out _).mono ?_; rintro e w1 ⟨rfl, hb1⟩)
    | (go_at_call 79; refine (kd.out _).mono ?_; rintro e w2 ⟨rfl, hb2⟩)
    | (go_at_call 82; refine (KN.out _).mono ?_; rintro e w5 ⟨rfl, hb5⟩; obtain ⟨q0, q1, q2, q3, q4, q5, q6⟩ := rest (w := w) (W := w5) (t := 61) (s0 := ⟨#[]⟩) (by repeat (first | (with_reducible exact Below.refl _ _) | (with_reducible assumption) | (with_reducible exact bel_box _) | (with_reducible refine bel_step ?_ (by with_reducible assumption)) | (with_reducible refine Below.drew ?_) | (with_reducible refine below_drewN ?_ _) | (with_reducible refine bel_alloc ?_ _)))))
  obtain ⟨k0, k1, k2⟩ := set3_cells q0 q1 q2 (.int .i64 a) (.string tx) (.int .i64 0)
  refine bodyPost_ret (v := .tuple #[.agg #[.int .i64 a, .string tx, .int .i64 0], .int .i64 m, .int .i64 e]) (by simp [results, Tryz.results57, go_sem, k0, k1, k2]) rfl ?_
  exact ⟨rfl, bel_set3 (by repeat (first | (with_reducible exact Below.refl _ _) | (with_reducible assumption) | (with_reducible exact bel_box _) | (with_reducible refine bel_step ?_ (by with_reducible assumption)) | (with_reducible refine Below.drew ?_) | (with_reducible refine below_drewN ?_ _) | (with_reducible refine bel_alloc ?_ _))) (Nat.le_refl _) _ _ _⟩
theorem first_sym (s : ByteArray) (a : Int) (tx : ByteArray) (m e : Int) (w : World) (h1 : 1 ≤ s.size) (h9 : s.size ≤ 140737488351232) (hL : pL ((s[0].toNat : Nat) : Int) = false) (hG : pG ((s[0].toNat : Nat) : Int) = false) (hQ : (((s[0].toNat : Nat) : Int) == 39) = false) (KN : Hid (∀ W, Calls Tryz.prog 83 #[.string s] W (Bel (.tuple #[.agg #[.int .i64 a, .string tx, .int .i64 0], .int .i64 m, .int .i64 e]) W))) :
    Calls Tryz.prog 57 #[.string s] w (Bel (.tuple #[.agg #[.int .i64 a, .string tx, .int .i64 0], .int .i64 m, .int .i64 e]) w) := by
  have kl := Lib.hid (letter_any ((s[0].toNat : Nat) : Int))
  rw [hL] at kl
  have kd := Lib.hid (digit_any ((s[0].toNat : Nat) : Int))
  rw [hG] at kd
  have f2 : (0 : Int) < (s.size : Int) := by omega
  clear hL hG
  go_enter Tryz.func57, Tryz.ntmps57
  go_wp2_with (first
    | (go_at_call 75; refine (kl.out _).mono ?_; rintro e w1 ⟨rfl, hb1⟩)
    | (go_at_call 79; refine (kd.out _).mono ?_; rintro e w2 ⟨rfl, hb2⟩)
    | (go_at_call 83; refine (KN.out _).mono ?_; rintro e w5 ⟨rfl, hb5⟩; obtain ⟨q0, q1, q2, q3, q4, q5, q6⟩ := rest (w := w) (W := w5) (t := 61) (s0 := ⟨#[]⟩) (by repeat (first | (with_reducible exact Below.refl _ _) | (with_reducible assumption) | (with_reducible exact bel_box _) | (with_reducible refine bel_step ?_ (by with_reducible assumption)) | (with_reducible refine Below.drew ?_) | (with_reducible refine below_drewN ?_ _) | (with_reducible refine bel_alloc ?_ _)))))
  obtain ⟨k0, k1, k2⟩ := set3_cells q0 q1 q2 (.int .i64 a) (.string tx) (.int .i64 0)
  refine bodyPost_ret (v := .tuple #[.agg #[.int .i64 a, .string tx, .int .i64 0], .int .i64 m, .int .i64 e]) (by simp [results, Tryz.results57, go_sem, k0, k1, k2]) rfl ?_
  exact ⟨rfl, bel_set3 (by repeat (first | (with_reducible exact Below.refl _ _) | (with_reducible assumption) | (with_reducible exact bel_box _) | (with_reducible refine bel_step ?_ (by with_reducible assumption)) | (with_reducible refine Below.drew ?_) | (with_reducible refine below_drewN ?_ _) | (with_reducible refine bel_alloc ?_ _))) (Nat.le_refl _) _ _ _⟩
end Go.Proofs.YtfogkcccjemloaaGreatDoor
/- first, for every text. -/
namespace Go.Proofs.YtfogkcccjemloaaGreatDoor
set_option linter.unusedVariables false
set_option linter.unusedSimpArgs false
open Go.RowKit
/-- the token in front: kind, text, how many bytes, error -/
def fst (s : ByteArray) : Int × ByteArray × Nat × Int :=
  if h : 0 < s.size then
    if pL ((s[0].toNat : Nat) : Int) = true then
      if sp pI s.data.toList ≤ 40 then (nmK (s.extract 0 (sp pI s.data.toList)), s.extract 0 (sp pI s.data.toList), sp pI s.data.toList, 0) else (0, ⟨#[]⟩, 0, 3)
    else if pG ((s[0].toNat : Nat) : Int) = true then
      if 2 ≤ sp pG s.data.toList ∧ ((s[0].toNat : Nat) : Int) = 48 then (0, ⟨#[]⟩, 0, 5)
      else if numOk (s.extract 0 (sp pG s.data.toList)).data.toList = true then (2, s.extract 0 (sp pG s.data.toList), sp pG s.data.toList, 0) else (0, ⟨#[]⟩, 0, 14)
    else if (((s[0].toNat : Nat) : Int) == 39) = true then
      if Lib.hasPrefix (s.data.toList.drop (1 + sp pW (s.data.toList.drop 1))) [39] = true then (5, s.extract 1 (1 + sp pW (s.data.toList.drop 1)), 1 + sp pW (s.data.toList.drop 1) + 1, 0) else (0, ⟨#[]⟩, 0, 5)
    else if 2 ≤ s.size ∧ isSy (s.extract 0 2) = true then (4, s.extract 0 2, 2, 0)
    else if isSy (s.extract 0 1) = true then (4, s.extract 0 1, 1, 0) else (0, ⟨#[]⟩, 0, 5)
  else (0, ⟨#[]⟩, 0, 0)
def FstR (f : Int × ByteArray × Nat × Int) (a : Int) : Value := .tuple #[tok f.1 f.2.1 a, .int .i64 f.2.2.1, .int .i64 f.2.2.2]
theorem ext_get {s : ByteArray} {k : Nat} (hk : 0 < k) (hs : k ≤ s.size) (h : 0 < (s.extract 0 k).size) (h' : 0 < s.size) : (s.extract 0 k)[0] = s[0] := by
  have e1 := byte_get (s.extract 0 k) 0 h
  have e2 := byte_get s 0 h'
  rw [head_extract, List.getElem?_take_of_lt hk, e2] at e1
  exact (Option.some.inj e1).symm
theorem ext_size (s : ByteArray) (k : Nat) (h : k ≤ s.size) : (s.extract 0 k).size = k := by rw [ByteArray.size_extract]; omega
theorem sp_pos {p : Int → Bool} {s : ByteArray} (h : 0 < s.size) (hp : p ((s[0].toNat : Nat) : Int) = true) : 0 < sp p s.data.toList := by
  have e := byte_get s 0 h
  rcases hl : s.data.toList with _ | ⟨c, r⟩
  · rw [hl] at e; cases e
  · rw [hl] at e
    obtain rfl : c = s[0] := by simpa using e
    rw [sp, List.takeWhile_cons, if_pos hp]
    simp
theorem first_any (s : ByteArray) (w : World) (hstd : Std w) (h : 0 < s.size) (h9 : s.size ≤ 140737488351232) : Calls Tryz.prog 57 #[.string s] w (Bel (FstR (fst s) 0) w) := by
  unfold fst
  rw [dif_pos h]
  have h1 : 1 ≤ s.size := h
  by_cases hL : pL ((s[0].toNat : Nat) : Int) = true
  · rw [if_pos hL]
    have hle := sp_le pI s
    by_cases hk : sp pI s.data.toList ≤ 40
    · rw [if_pos hk]
      refine first_name s _ _ _ _ _ w h1 h9 hL rfl (Lib.hid fun W => ?_)
      have := name_any (s.extract 0 (sp pI s.data.toList)) W (by rw [ext_size _ _ hle]; exact hk)
      rwa [ext_size _ _ hle] at this
    · rw [if_neg hk]
      exact first_name s _ _ _ _ _ w h1 h9 hL rfl (Lib.hid fun W => name_long _ W (by rw [ext_size _ _ hle]; omega) (by rw [ext_size _ _ hle]; omega))
  · rw [if_neg hL]
    rw [Bool.not_eq_true] at hL
    by_cases hG : pG ((s[0].toNat : Nat) : Int) = true
    · rw [if_pos hG]
      have hle := sp_le pG s
      have hp := sp_pos h hG
      have hz := ext_size s _ hle
      have hg : ((s.extract 0 (sp pG s.data.toList))[0]'(by omega)) = s[0] := ext_get hp hle (by omega) h
      by_cases hc : 2 ≤ sp pG s.data.toList ∧ ((s[0].toNat : Nat) : Int) = 48
      · rw [if_pos hc]
        exact first_num s _ _ _ _ w h1 h9 hL hG _ rfl (Lib.hid fun W _ => number_zero _ W (by omega) (by omega) (by rw [hg]; exact hc.2))
      · rw [if_neg hc]
        have kn : ∀ W, Below w.heap.size w W → _ := fun W hb => number_any (s.extract 0 (sp pG s.data.toList)) W (hstd.to hb) (by omega) (by omega) (by rw [hg, hz]; exact hc)
        by_cases hn : numOk (s.extract 0 (sp pG s.data.toList)).data.toList = true
        · rw [if_pos hn]
          refine first_num s _ _ _ _ w h1 h9 hL hG _ rfl (Lib.hid fun W hb => ?_)
          have := kn W hb
          rwa [if_pos hn, hz] at this
        · rw [if_neg hn]
          refine first_num s _ _ _ _ w h1 h9 hL hG _ rfl (Lib.hid fun W hb => ?_)
          have := kn W hb
          rwa [if_neg hn] at this
    · rw [if_neg hG]
      rw [Bool.not_eq_true] at hG
      by_cases hQ : (((s[0].toNat : Nat) : Int) == 39) = true
      · rw [if_pos hQ]
        have kw := fun W => word_any s _ W h9 h1 rfl
        by_cases hp : Lib.hasPrefix (s.data.toList.drop (1 + sp pW (s.data.toList.drop 1))) [39] = true
        · rw [if_pos hp]
          refine first_word s _ _ _ _ w h1 h9 hL hG hQ (Lib.hid fun W => ?_)
          have := kw W
          rwa [if_pos hp] at this
        · rw [if_neg hp]
          refine first_word s _ _ _ _ w h1 h9 hL hG hQ (Lib.hid fun W => ?_)
          have := kw W
          rwa [if_neg hp] at this
      · rw [if_neg hQ]
        rw [Bool.not_eq_true] at hQ
        by_cases h2 : 2 ≤ s.size ∧ isSy (s.extract 0 2) = true
        · rw [if_pos h2]
          exact first_sym s _ _ _ _ w h1 h9 hL hG hQ (Lib.hid fun W => symbol_two s W h2.1 h2.2)
        · rw [if_neg h2]
          by_cases hs : 2 ≤ s.size
          · have hn : isSy (s.extract 0 2) = false := by
              rw [← Bool.not_eq_true]
              exact fun e => h2 ⟨hs, e⟩
            by_cases hy : isSy (s.extract 0 1) = true
            · rw [if_pos hy]
              exact first_sym s _ _ _ _ w h1 h9 hL hG hQ (Lib.hid fun W => symbol_one2 s W hs hn hy)
            · rw [if_neg hy]
              rw [Bool.not_eq_true] at hy
              exact first_sym s _ _ _ _ w h1 h9 hL hG hQ (Lib.hid fun W => symbol_none2 s W hs hn hy)
          · by_cases hy : isSy (s.extract 0 1) = true
            · rw [if_pos hy]
              exact first_sym s _ _ _ _ w h1 h9 hL hG hQ (Lib.hid fun W => symbol_one1 s W (by omega) hy)
            · rw [if_neg hy]
              rw [Bool.not_eq_true] at hy
              exact first_sym s _ _ _ _ w h1 h9 hL hG hQ (Lib.hid fun W => symbol_none1 s W (by omega) hy)
theorem fst_size {s : ByteArray} (h : 0 < s.size) (he : (fst s).2.2.2 = 0) : 0 < (fst s).2.2.1 ∧ (fst s).2.2.1 ≤ s.size := by
  unfold fst at he ⊢
  rw [dif_pos h] at he ⊢
  by_cases hL : pL ((s[0].toNat : Nat) : Int) = true
  · rw [if_pos hL] at he ⊢
    by_cases hk : sp pI s.data.toList ≤ 40
    · rw [if_pos hk]
      exact ⟨sp_pos h (by rw [pI, hL]; rfl), sp_le _ _⟩
    · rw [if_neg hk] at he
      cases he
  · rw [if_neg hL] at he ⊢
    by_cases hG : pG ((s[0].toNat : Nat) : Int) = true
    · rw [if_pos hG] at he ⊢
      by_cases hc : 2 ≤ sp pG s.data.toList ∧ ((s[0].toNat : Nat) : Int) = 48
      · rw [if_pos hc] at he
        cases he
      · rw [if_neg hc] at he ⊢
        by_cases hn : numOk (s.extract 0 (sp pG s.data.toList)).data.toList = true
        · rw [if_pos hn]
          exact ⟨sp_pos h hG, sp_le _ _⟩
        · rw [if_neg hn] at he
          cases he
    · rw [if_neg hG] at he ⊢
      by_cases hQ : (((s[0].toNat : Nat) : Int) == 39) = true
      · rw [if_pos hQ] at he ⊢
        by_cases hp : Lib.hasPrefix (s.data.toList.drop (1 + sp pW (s.data.toList.drop 1))) [39] = true
        · rw [if_pos hp]
          refine ⟨Nat.succ_pos _, ?_⟩
          have hne : s.data.toList.drop (1 + sp pW (s.data.toList.drop 1)) ≠ [] := by
            intro e
            rw [e] at hp
            simp [Lib.hasPrefix] at hp
          have := List.length_pos_iff.2 hne
          rw [List.length_drop, len_toList] at this
          show 1 + sp pW (s.data.toList.drop 1) + 1 ≤ s.size
          omega
        · rw [if_neg hp] at he
          cases he
      · rw [if_neg hQ] at he ⊢
        by_cases h2 : 2 ≤ s.size ∧ isSy (s.extract 0 2) = true
        · rw [if_pos h2]
          exact ⟨Nat.succ_pos _, h2.1⟩
        · rw [if_neg h2] at he ⊢
          by_cases hy : isSy (s.extract 0 1) = true
          · rw [if_pos hy]
            exact ⟨Nat.succ_pos _, h⟩
          · rw [if_neg hy] at he
            cases he
end Go.Proofs.YtfogkcccjemloaaGreatDoor
/- Scan of the program. -/
namespace Go.Proofs.YtfogkcccjemloaaGreatDoor
set_option linter.unusedVariables false
set_option linter.unusedSimpArgs false
open Go.RowKit
abbrev Tk := Int × ByteArray × Int
def tkV (t : Tk) : List Value := [.int .i64 t.1, .string t.2.1, .int .i64 t.2.2]
def tks (l : List Tk) : List Value := l.flatMap tkV
theorem tks_length (l : List Tk) : (tks l).length = l.length * 3 := by
  induction l with
  | nil => rfl
  | cons a r ih => simp [tks, tkV] at ih ⊢; omega
theorem tks_snoc (l : List Tk) (t : Tk) : tks (l ++ [t]) = tks l ++ tkV t := by simp [tks]
theorem gapN_le (l : List UInt8) : gapN l ≤ l.length := by
  induction l using gapN.induct with
  | case1 l h ih =>
    rw [gapN_yes h]
    have := sp_length pB l
    have h2 := sp_length pN (l.drop (sp pB l))
    rw [List.length_drop] at ih h2
    omega
  | case2 l h =>
    rw [gapN_no (by rw [← Bool.not_eq_true]; exact h)]
    exact sp_length _ _
/-- Scan from a place on, with what is scanned so far: the tokens, the place of the error, the error -/
def scanG (s : ByteArray) (acc : List Tk) (k : Nat) : List Tk × Nat × Int :=
  if h : k < s.size then
    if he : (fst (s.extract k s.size)).2.2.2 = 0 then
      scanG s (acc ++ [((fst (s.extract k s.size)).1, (fst (s.extract k s.size)).2.1, (k : Int))]) (k + (fst (s.extract k s.size)).2.2.1 + gapN (s.data.toList.drop (k + (fst (s.extract k s.size)).2.2.1)))
    else ([], k, (fst (s.extract k s.size)).2.2.2)
  else (acc, 0, 0)
termination_by s.size - k
decreasing_by
  have := fst_size (s := s.extract k s.size) (by rw [drop_size]; omega) he
  omega
theorem scanG_go {s : ByteArray} {acc : List Tk} {k : Nat} (h : k < s.size) {a : Int} {tx : ByteArray} {n : Nat} (hf : fst (s.extract k s.size) = (a, tx, n, 0)) :
    scanG s acc k = scanG s (acc ++ [(a, tx, (k : Int))]) (k + n + gapN (s.data.toList.drop (k + n))) := by
  rw [scanG, dif_pos h, dif_pos (by rw [hf])]
  rw [hf]
theorem scanG_err {s : ByteArray} {acc : List Tk} {k : Nat} (h : k < s.size) {a : Int} {tx : ByteArray} {n : Nat} {e : Int} (hf : fst (s.extract k s.size) = (a, tx, n, e)) (he : e ≠ 0) :
    scanG s acc k = ([], k, e) := by
  rw [scanG, dif_pos h, dif_neg (by rw [hf]; exact he)]
  rw [hf]
theorem scanG_end {s : ByteArray} {acc : List Tk} {k : Nat} (h : ¬ k < s.size) : scanG s acc k = (acc, 0, 0) := by rw [scanG, dif_neg h]
theorem tokInfo : (Tryz.prog.info? 61).map (fun i => (i.zero, i.size, i.bytes)) = some (some (.agg #[.int .i64 0, .string ⟨#[]⟩, .int .i64 0]), 3, 32) := by kernel_rfl
/-- tokens in a slice of the call's own, a place, an error -/
def NewT (r : List Tk × Nat × Int) (w : World) (e : Ending) (w' : World) : Prop := ∃ A c, e = .returned (.tuple #[.slice A r.1.length c, .int .i64 r.2.1, .int .i64 r.2.2]) ∧ w'.ownsRow w.heap.size 61 3 (.slice A r.1.length c) r.1.length (tks r.1) ∧ Below w.heap.size w w'
theorem own_keep3 {w W : World} {base n size : Nat} {e : TypeId} {v : Value} {xs : List Value} (h : w.ownsRow base e size v n xs) (hb : Below w.heap.size w W) : W.ownsRow base e size v n xs := by
  refine ⟨h.1, h.2.imp id fun ⟨g, cap, cur, e1, h1, h2, r⟩ => ⟨g, cap, cur, e1, h1, ?_, r⟩⟩
  rw [hb.block g (Array.getElem?_eq_some_iff.1 h2).1]
  exact h2
theorem own_form3 {w : World} {base n size : Nat} {e : TypeId} {v : Value} {xs : List Value} (h : w.ownsRow base e size v n xs) : ∃ A c, v = .slice A n c := by
  rcases h.2 with ⟨rfl, rfl⟩ | ⟨g, cap, cur, rfl, _⟩
  · exact ⟨_, _, rfl⟩
  · exact ⟨_, _, rfl⟩
theorem row3 (w : World) (o : Obj) (x y z : Value) (t : TypeId) : ∀ j u, [x, y, z][j]? = some u → ((w.alloc o).alloc (.cells #[x, y, z] t)).cell? ((⟨w.heap.size + 1, 0, none⟩ : Addr).add j) = some u := by
  intro j u hu
  have e : w.heap.size + 1 = (w.alloc o).heap.size := (World.size_alloc _ _).symm
  rw [e]
  rcases j with _ | _ | _ | j
  · obtain rfl : x = u := by simpa using hu
    rw [show (Addr.add ⟨(w.alloc o).heap.size, 0, none⟩ 0) = ⟨(w.alloc o).heap.size, 0, none⟩ from rfl]
    simp [go_sem]
  · obtain rfl : y = u := by simpa using hu
    rw [show (Addr.add ⟨(w.alloc o).heap.size, 0, none⟩ (0 + 1)) = ⟨(w.alloc o).heap.size, 1, none⟩ from rfl]
    simp [go_sem]
  · obtain rfl : z = u := by simpa using hu
    rw [show (Addr.add ⟨(w.alloc o).heap.size, 0, none⟩ (0 + 1 + 1)) = ⟨(w.alloc o).heap.size, 2, none⟩ from rfl]
    simp [go_sem]
  · simp at hu
theorem below_grown3 {w wr W w3 : World} {v v' : Value} {B n : Nat} {e : TypeId} {xs : List Value} (hg : W.grownBy w3 v'.ownBlock) (hv : v' = v) (hown : wr.ownsRow B e 3 v n xs) (hB : B ≤ W.heap.size) (hb : Below B w W) : Below B w w3 := by
  subst hv
  exact hb.grown hg hB (fun j hj => (hown.lt j hj).1)
theorem tk_one (t : Tk) : ∀ u ∈ tkV t, u.oneCell' = true := by
  intro u hu
  simp [tkV] at hu
  rcases hu with rfl | rfl | rfl <;> rfl
end Go.Proofs.YtfogkcccjemloaaGreatDoor
/- word and number of the reference. -/
namespace Go.Proofs.YtfogkcccjemloaaGreatDoor
set_option linter.unusedVariables false
set_option linter.unusedSimpArgs false
open Go.RowKit
theorem spd_at {p : Int → Bool} {s : ByteArray} {a j : Nat} (ha : a ≤ j) (hj : j - a < sp p (s.data.toList.drop a)) : ∃ h : j < s.size, p ((s[j].toNat : Nat) : Int) = true := by
  obtain ⟨b, h1, h2, _⟩ := tw_at _ _ _ hj
  rw [List.getElem?_drop, show a + (j - a) = j by omega] at h1
  have hlt : j < s.size := by rw [← len_toList]; exact (List.getElem?_eq_some_iff.1 h1).1
  rw [byte_get s j hlt] at h1
  obtain rfl : s[j] = b := by simpa using h1
  exact ⟨hlt, h2⟩
theorem spd_end {p : Int → Bool} {s : ByteArray} {a j : Nat} (ha : a ≤ j) (hj : j - a = sp p (s.data.toList.drop a)) (hlt : j < s.size) : p ((s[j].toNat : Nat) : Int) = false := by
  apply tw_end (fun c : UInt8 => p ((c.toNat : Nat) : Int)) (s.data.toList.drop a)
  show (s.data.toList.drop a)[sp p (s.data.toList.drop a)]? = _
  rw [← hj, List.getElem?_drop, show a + (j - a) = j by omega, byte_get s j hlt]
theorem spd_le (p : Int → Bool) (s : ByteArray) (a : Nat) (ha : a ≤ s.size) : a + sp p (s.data.toList.drop a) ≤ s.size := by
  have := sp_length p (s.data.toList.drop a)
  rw [List.length_drop, len_toList] at this
  omega
end Go.Proofs.YtfogkcccjemloaaGreatDoor
/- Keyword of the reference. -/
namespace Go.Proofs.YtfogkcccjemloaaGreatDoor
set_option linter.unusedVariables false
set_option linter.unusedSimpArgs false
open Go.RowKit
def kwB : List ByteArray := [⟨#[97, 115, 115, 117, 109, 101]⟩, ⟨#[97, 110, 100]⟩, ⟨#[97, 117, 116, 111, 109, 97, 116, 111, 110]⟩, ⟨#[98, 111, 111, 108]⟩, ⟨#[99, 111, 110, 116, 105, 110, 117, 101]⟩, ⟨#[100, 111]⟩, ⟨#[100, 111, 110, 101]⟩, ⟨#[101, 108, 115, 101]⟩, ⟨#[101, 110, 100]⟩, ⟨#[101, 110, 115, 117, 114, 101]⟩, ⟨#[101, 118, 101, 114, 121]⟩, ⟨#[102, 97, 108, 115, 101]⟩, ⟨#[102, 98, 121]⟩, ⟨#[105, 102]⟩, ⟨#[105, 110, 116]⟩, ⟨#[108, 101, 116]⟩, ⟨#[109, 101, 114, 103, 101]⟩, ⟨#[109, 111, 100]⟩, ⟨#[110, 111, 100, 101]⟩, ⟨#[110, 111, 116]⟩, ⟨#[111, 114]⟩, ⟨#[112, 114, 101]⟩, ⟨#[114, 101, 116, 117, 114, 110, 115]⟩, ⟨#[115, 116, 97, 116, 101]⟩, ⟨#[116, 101, 108]⟩, ⟨#[116, 104, 101, 110]⟩, ⟨#[116, 114, 117, 101]⟩, ⟨#[116, 121, 112, 101]⟩, ⟨#[117, 110, 108, 101, 115, 115]⟩, ⟨#[117, 110, 116, 105, 108]⟩, ⟨#[118, 97, 114]⟩, ⟨#[119, 104, 101, 110]⟩, ⟨#[120, 111, 114]⟩]
theorem kwB_len : kwB.length = 33 := rfl
theorem kw_is (s : ByteArray) : isKw s = kwB.any fun b => b.toList == s.toList := by
  have e : kwL = kwB.map ByteArray.toList := by
    simp only [kwL, kwB, List.map_cons, List.map_nil, ByteArray.toList_eq]
  rw [isKw, e, List.contains_eq_any_beq, List.any_map]
  congr 1
  funext x
  simp only [Function.comp]
  rw [Bool.eq_iff_iff, beq_iff_eq, beq_iff_eq]
  exact eq_comm
def Strs (w : World) (B : Nat) (A : Addr) (l : List ByteArray) : Prop := A.block < B ∧ ∀ j x, l[j]? = some x → w.cell? (A.add j) = some (.string x)
set_option maxRecDepth 100000 in
theorem keywords_any (w : World) : Calls Tryz.prog 92 #[] w (fun e w' => e = .returned (.slice (some ⟨w.heap.size, 0, none⟩) 33 33) ∧ Strs w' w'.heap.size ⟨w.heap.size, 0, none⟩ kwB ∧ Below w.heap.size w w') := by
  go_enter Tryz.func92, Tryz.ntmps92
  go_wp2
  go_ret
  refine ⟨rfl, ⟨by simp, fun j x hx => ?_⟩, (by repeat (first | (with_reducible exact Below.refl _ _) | (with_reducible assumption) | (with_reducible exact bel_box _) | (with_reducible refine bel_step ?_ (by with_reducible assumption)) | (with_reducible refine Below.drew ?_) | (with_reducible refine below_drewN ?_ _) | (with_reducible refine bel_alloc ?_ _)))⟩
  have e : (Addr.add ⟨w.heap.size, 0, none⟩ j) = ⟨w.heap.size, j, none⟩ := by
    unfold Addr.add
    by_cases h : j = 0
    · subst h; rfl
    · simp [h]
  rw [e]
  have hk := cell_of_row (w.alloc (.cells (kwB.map Value.string).toArray 9)) w.heap.size j (kwB.map Value.string).toArray 9 (0, 0) (heap_alloc_new w _)
  refine Eq.trans hk ?_
  rw [List.getElem?_toArray, List.getElem?_map, hx]
  rfl
end Go.Proofs.YtfogkcccjemloaaGreatDoor
/- Keyword of the reference: the loop. -/
namespace Go.Proofs.YtfogkcccjemloaaGreatDoor
set_option linter.unusedVariables false
set_option linter.unusedSimpArgs false
open Go.RowKit
theorem kw_hit {s x : ByteArray} {k : Nat} (hx : kwB[k]? = some x) (h : (x.toList == s.toList) = true) : isKw s = true := by
  rw [kw_is, List.any_eq_true]
  exact ⟨x, List.mem_of_getElem? hx, h⟩
set_option maxHeartbeats 400000 in
theorem rkeyword_any (s : ByteArray) (w : World) : Calls Tryz.prog 72 #[.string s] w (Bel (.bool (isKw s)) w) := by
  have K := Lib.hid (keywords_any w)
  obtain ⟨L, hL⟩ : ∃ L : List ByteArray, kwB = L := ⟨_, rfl⟩
  have hlen : L.length = 33 := by rw [← hL]; rfl
  have HIT : Hid (∀ (k : Nat) (x : ByteArray), L[k]? = some x → (x.toList == s.toList) = true → isKw s = true) := Lib.hid fun k x h1 h2 => kw_hit (hL ▸ h1) h2
  have END : Hid ((L.any fun b => b.toList == s.toList) = isKw s) := Lib.hid (by rw [← hL, kw_is])
  rw [hL] at K
  clear hL
  go_enter Tryz.func72, Tryz.ntmps72
  go_wp2_with (go_at_call 92; refine K.out.mono ?_; rintro e w1 ⟨rfl, hst, hb1⟩)
  have HST := Lib.hid hst
  have hA := hst.1
  simp only at hA
  clear hst
  go_loopw [4] (fun i wr => ∃ k : Nat, k ≤ 33 ∧ i = .int .i64 k ∧ Hid (((L.take k).any fun b => b.toList == s.toList) = false) ∧ Below w1.heap.size w1 wr) (fun i _ => 33 - (intOf i).toNat)
  case atStart => exact ⟨0, by omega, rfl, Lib.hid rfl, Below.refl _ _⟩
  case round =>
    obtain ⟨k, hk, rfl, hno, hbl⟩ := hrel
    by_cases hlt : k < 33
    · obtain ⟨x, hx⟩ : ∃ x, L[k]? = some x := ⟨L[k]'(by omega), List.getElem?_eq_getElem _⟩
      have hc : wr.cell? ⟨w.heap.size, k, none⟩ = some (.string x) := by
        have := HST.out.2 k x hx
        have e : (Addr.add ⟨w.heap.size, 0, none⟩ k) = ⟨w.heap.size, k, none⟩ := by
          unfold Addr.add
          by_cases h : k = 0
          · subst h; rfl
          · simp [h]
        rw [e] at this
        exact (hbl.cell (p := ⟨w.heap.size, k, none⟩) hA).trans this
      cases hq : (x.toList == s.toList)
      · have hno2 : Hid (((L.take (k + 1)).any fun b => b.toList == s.toList) = false) := Lib.hid (by rw [take_succ_of hx, List.any_append, hno.out]; simp [hq])
        clear hx hno
        go_wp2
        go_roundw
        case rel => exact ⟨k + 1, by omega, by go_num, hno2, hbl⟩
        case measure => simp [intOf]; omega
      · rw [HIT.out k x hx hq]
        clear hx hno
        go_wp2
        go_ret
        exact ⟨rfl, (by repeat (first | (with_reducible exact Below.refl _ _) | (with_reducible assumption) | (with_reducible exact bel_box _) | (with_reducible refine bel_step ?_ (by with_reducible assumption)) | (with_reducible refine Below.drew ?_) | (with_reducible refine below_drewN ?_ _) | (with_reducible refine bel_alloc ?_ _)))⟩
    · obtain rfl : k = 33 := by omega
      have h2 := hno.out
      rw [List.take_of_length_le (by omega), END.out] at h2
      have H2 := Lib.hid h2
      clear hno h2
      go_wp2
      go_ret
      exact ⟨by rw [H2.out]; rfl, (by repeat (first | (with_reducible exact Below.refl _ _) | (with_reducible assumption) | (with_reducible exact bel_box _) | (with_reducible refine bel_step ?_ (by with_reducible assumption)) | (with_reducible refine Below.drew ?_) | (with_reducible refine below_drewN ?_ _) | (with_reducible refine bel_alloc ?_ _)))⟩
end Go.Proofs.YtfogkcccjemloaaGreatDoor
/- Ident of both. -/
namespace Go.Proofs.YtfogkcccjemloaaGreatDoor
set_option linter.unusedVariables false
set_option linter.unusedSimpArgs false
open Go.RowKit
def idP (s : ByteArray) : Bool := decide (0 < s.size) && ((fst s).1 == 1 && ((((fst s).2.2.1 : Nat) : Int) == (s.size : Int)))
theorem empty_of {s : ByteArray} (h : s.size = 0) : s = ⟨#[]⟩ := by
  apply ByteArray.ext
  exact Array.eq_empty_of_size_eq_zero h
theorem ne_facts {s : ByteArray} (h : 0 < s.size) : (s.toList == []) = false ∧ s.toList.isEmpty = false ∧ ¬ s.toList = [] := by
  have hn : s.toList ≠ [] := by
    intro e
    have := congrArg List.length e
    rw [ByteArray.toList_eq, len_toList] at this
    have h2 : s.size = 0 := this
    omega
  exact ⟨by simpa using hn, by simpa using hn, hn⟩
set_option maxHeartbeats 800000 in
theorem ident_any (s : ByteArray) (w : World) (hstd : Std w) (h9 : s.size ≤ 140737488351232) : Calls Tryz.prog 35 #[.string s] w (Bel (.bool (idP s)) w) := by
  by_cases h0 : 0 < s.size
  · obtain ⟨e1, e2, e3⟩ := ne_facts h0
    have F1 := Lib.hid (first_any s w hstd h0 h9)
    have e : idP s = ((fst s).1 == 1 && ((((fst s).2.2.1 : Nat) : Int) == (s.size : Int))) := by rw [idP, decide_eq_true h0, Bool.true_and]
    rw [e]
    clear e
    obtain ⟨⟨a, tx, n, er⟩, hf⟩ : ∃ f, fst s = f := ⟨_, rfl⟩
    rw [hf] at F1 ⊢
    have F2 : Hid (Calls Tryz.prog 57 #[.string s] w (Bel (.tuple #[.agg #[.int .i64 a, .string tx, .int .i64 0], .int .i64 n, .int .i64 er]) w)) := F1
    show Calls _ _ _ _ (Bel (.bool (a == 1 && ((n : Int) == (s.size : Int)))) w)
    clear F1 hf h0 hstd h9
    cases ha : (a == 1)
    · rw [Bool.false_and]
      go_enter Tryz.func35, Tryz.ntmps35
      go_wp2_with (go_at_call 57; refine F2.out.mono ?_; rintro e w1 ⟨rfl, hb1⟩)
      go_ret
      exact ⟨rfl, (by repeat (first | (with_reducible exact Below.refl _ _) | (with_reducible assumption) | (with_reducible exact bel_box _) | (with_reducible refine bel_step ?_ (by with_reducible assumption)) | (with_reducible refine Below.drew ?_) | (with_reducible refine below_drewN ?_ _) | (with_reducible refine bel_alloc ?_ _)))⟩
    · rw [Bool.true_and]
      go_enter Tryz.func35, Tryz.ntmps35
      go_wp2_with (go_at_call 57; refine F2.out.mono ?_; rintro e w1 ⟨rfl, hb1⟩)
      go_ret
      exact ⟨rfl, (by repeat (first | (with_reducible exact Below.refl _ _) | (with_reducible assumption) | (with_reducible exact bel_box _) | (with_reducible refine bel_step ?_ (by with_reducible assumption)) | (with_reducible refine Below.drew ?_) | (with_reducible refine below_drewN ?_ _) | (with_reducible refine bel_alloc ?_ _)))⟩
  · obtain rfl := empty_of (by omega : s.size = 0)
    rw [idP, decide_eq_false h0, Bool.false_and]
    clear hstd h9 h0
    go_enter Tryz.func35, Tryz.ntmps35
    go_wp2
    go_ret
    exact ⟨rfl, (by repeat (first | (with_reducible exact Below.refl _ _) | (with_reducible assumption) | (with_reducible exact bel_box _) | (with_reducible refine bel_step ?_ (by with_reducible assumption)) | (with_reducible refine Below.drew ?_) | (with_reducible refine below_drewN ?_ _) | (with_reducible refine bel_alloc ?_ _)))⟩
def idR (s : ByteArray) : Bool := decide (0 < s.size) && decide (s.size ≤ 40) && decide (sp pI s.data.toList = s.size) && pL (((s.data.toList.headD 0).toNat : Nat) : Int) && !isKw s
set_option maxHeartbeats 800000 in
theorem rident_any (s : ByteArray) (w : World) (h9 : s.size ≤ 140737488351232) : Calls Tryz.prog 44 #[.string s] w (Bel (.bool (idR s)) w) := by
  by_cases h0 : 0 < s.size
  · obtain ⟨e1, e2, e3⟩ := ne_facts h0
    by_cases h40 : s.size ≤ 40
    · have hh : (s.data.toList.headD 0) = s[0] := by
        have := byte_get s 0 h0
        rcases hl : s.data.toList with _ | ⟨c, r⟩
        · rw [hl] at this; cases this
        · rw [hl] at this; simpa using this
      have e : idR s = (decide (sp pI s.data.toList = s.size) && pL ((s[0].toNat : Nat) : Int) && !isKw s) := by rw [idR, decide_eq_true h0, decide_eq_true h40, hh]; simp
      rw [e]
      clear e hh
      have f0 : (0 : Int) < (s.size : Int) := by omega
      have f1 : (s.size : Int) ≤ 40 := by omega
      have kl := Lib.hid (rletter_any ((s[0].toNat : Nat) : Int))
      have kk := Lib.hid (rkeyword_any s)
      have HA := Lib.hid (fun j => @sp_at pI s j)
      have HE := Lib.hid (@sp_end pI s)
      have hle := sp_le pI s
      generalize sp pI s.data.toList = m at *
      generalize isKw s = b at *
      cases hL : pL ((s[0].toNat : Nat) : Int)
      · rw [hL] at kl
        rw [Bool.and_false, Bool.false_and]
        go_enter Tryz.func44, Tryz.ntmps44
        go_wp2_with (go_at_call 70; refine (kl.out _).mono ?_; rintro e w1 ⟨rfl, hb1⟩)
        go_ret
        exact ⟨rfl, (by repeat (first | (with_reducible exact Below.refl _ _) | (with_reducible assumption) | (with_reducible exact bel_box _) | (with_reducible refine bel_step ?_ (by with_reducible assumption)) | (with_reducible refine Below.drew ?_) | (with_reducible refine below_drewN ?_ _) | (with_reducible refine bel_alloc ?_ _)))⟩
      · rw [hL] at kl
        rw [Bool.and_true]
        clear hL
        go_enter Tryz.func44, Tryz.ntmps44
        go_wp2_with (go_at_call 70; refine (kl.out _).mono ?_; rintro e w1 ⟨rfl, hb1⟩)
        go_loopw [3] (fun i wr => ∃ j : Nat, j ≤ m ∧ i = .int .i64 j ∧ Below w.heap.size w wr) (fun i _ => m - (intOf i).toNat)
        case atStart => exact ⟨0, by omega, rfl, (by repeat (first | (with_reducible exact Below.refl _ _) | (with_reducible assumption) | (with_reducible exact bel_box _) | (with_reducible refine bel_step ?_ (by with_reducible assumption)) | (with_reducible refine Below.drew ?_) | (with_reducible refine below_drewN ?_ _) | (with_reducible refine bel_alloc ?_ _)))⟩
        case round =>
          obtain ⟨j, hjm, rfl, hbl⟩ := hrel
          by_cases hlt : j < m
          · have hj : j < s.size := by omega
            have e4 := HA.out j hlt hj
            go_wp2_with (go_at_call 71; refine (inner_any _ _).mono ?_; rintro e w2 ⟨rfl, hb2⟩; rw [e4])
            go_roundw
            case rel => exact ⟨j + 1, by omega, by go_num, (by repeat (first | (with_reducible exact Below.refl _ _) | (with_reducible assumption) | (with_reducible exact bel_box _) | (with_reducible refine bel_step ?_ (by with_reducible assumption)) | (with_reducible refine Below.drew ?_) | (with_reducible refine below_drewN ?_ _) | (with_reducible refine bel_alloc ?_ _)))⟩
            case measure => simp [intOf]; omega
          · obtain rfl : j = m := by omega
            by_cases hj : j < s.size
            · have e4 := HE.out hj
              have q : decide (j = s.size) = false := decide_eq_false (by omega)
              rw [q, Bool.false_and]
              clear q
              go_wp2_with (go_at_call 71; refine (inner_any _ _).mono ?_; rintro e w2 ⟨rfl, hb2⟩; rw [e4])
              go_ret
              exact ⟨rfl, (by repeat (first | (with_reducible exact Below.refl _ _) | (with_reducible assumption) | (with_reducible exact bel_box _) | (with_reducible refine bel_step ?_ (by with_reducible assumption)) | (with_reducible refine Below.drew ?_) | (with_reducible refine below_drewN ?_ _) | (with_reducible refine bel_alloc ?_ _)))⟩
            · have q : decide (j = s.size) = true := decide_eq_true (by omega)
              have Q := Lib.hid q
              clear q
              go_wp2_with (go_at_call 72; refine (kk.out _).mono ?_; rintro e w3 ⟨rfl, hb3⟩)
              go_ret
              exact ⟨by rw [Q.out, Bool.true_and]; rfl, (by repeat (first | (with_reducible exact Below.refl _ _) | (with_reducible assumption) | (with_reducible exact bel_box _) | (with_reducible refine bel_step ?_ (by with_reducible assumption)) | (with_reducible refine Below.drew ?_) | (with_reducible refine below_drewN ?_ _) | (with_reducible refine bel_alloc ?_ _)))⟩
    · have e : idR s = false := by rw [idR, decide_eq_false h40, Bool.and_false, Bool.false_and, Bool.false_and, Bool.false_and]
      rw [e]
      have f1 : (40 : Int) < (s.size : Int) := by omega
      clear e h40 h9 h0
      go_enter Tryz.func44, Tryz.ntmps44
      go_wp2
      go_ret
      exact ⟨rfl, (by repeat (first | (with_reducible exact Below.refl _ _) | (with_reducible assumption) | (with_reducible exact bel_box _) | (with_reducible refine bel_step ?_ (by with_reducible assumption)) | (with_reducible refine Below.drew ?_) | (with_reducible refine below_drewN ?_ _) | (with_reducible refine bel_alloc ?_ _)))⟩
  · obtain rfl := empty_of (by omega : s.size = 0)
    rw [idR, decide_eq_false h0, Bool.false_and, Bool.false_and, Bool.false_and, Bool.false_and]
    clear h9 h0
    go_enter Tryz.func44, Tryz.ntmps44
    go_wp2
    go_ret
    exact ⟨rfl, (by repeat (first | (with_reducible exact Below.refl _ _) | (with_reducible assumption) | (with_reducible exact bel_box _) | (with_reducible refine bel_step ?_ (by with_reducible assumption)) | (with_reducible refine Below.drew ?_) | (with_reducible refine below_drewN ?_ _) | (with_reducible refine bel_alloc ?_ _)))⟩
end Go.Proofs.YtfogkcccjemloaaGreatDoor
/- Ident of both is one. -/
namespace Go.Proofs.YtfogkcccjemloaaGreatDoor
set_option linter.unusedVariables false
set_option linter.unusedSimpArgs false
open Go.RowKit
theorem ext_all (s : ByteArray) : s.extract 0 s.size = s := by
  apply ByteArray.ext
  apply Array.toList_inj.mp
  rw [head_extract, ← len_toList, List.take_length]
theorem id_eq (s : ByteArray) : idP s = idR s := by
  unfold idP idR
  by_cases h0 : 0 < s.size
  · have hh : (s.data.toList.headD 0) = s[0] := by
      have := byte_get s 0 h0
      rcases hl : s.data.toList with _ | ⟨c, r⟩
      · rw [hl] at this; cases this
      · rw [hl] at this; simpa using this
    rw [decide_eq_true h0, Bool.true_and, Bool.true_and, hh, fst, dif_pos h0]
    by_cases hL : pL ((s[0].toNat : Nat) : Int) = true
    · rw [if_pos hL, hL, Bool.and_true]
      have hle := sp_le pI s
      by_cases hk : sp pI s.data.toList ≤ 40
      · rw [if_pos hk]
        by_cases hs : sp pI s.data.toList = s.size
        · rw [hs, ext_all, nmK]
          rw [hs] at hk
          rw [decide_eq_true hk]
          cases isKw s <;> simp
        · have q : ((((sp pI s.data.toList : Nat) : Int)) == (s.size : Int)) = false := by rw [beq_eq_false_iff_ne]; omega
          simp only [q, Bool.and_false]
          rw [decide_eq_false hs, Bool.and_false, Bool.false_and]
      · rw [if_neg hk]
        have : ¬ (s.size ≤ 40 ∧ sp pI s.data.toList = s.size) := by omega
        by_cases h4 : s.size ≤ 40
        · rw [decide_eq_false (fun e => this ⟨h4, e⟩), Bool.and_false, Bool.false_and]; rfl
        · rw [decide_eq_false h4, Bool.false_and, Bool.false_and]; rfl
    · rw [if_neg hL]
      rw [Bool.not_eq_true] at hL
      rw [hL, Bool.and_false, Bool.false_and]
      split
      · split
        · rfl
        · split <;> rfl
      · split
        · split <;> rfl
        · split
          · rfl
          · split <;> rfl
  · rw [decide_eq_false h0, Bool.false_and, Bool.false_and, Bool.false_and, Bool.false_and, Bool.false_and]
end Go.Proofs.YtfogkcccjemloaaGreatDoor
/- The checks of one expression, of the program. -/
namespace Go.Proofs.YtfogkcccjemloaaGreatDoor
set_option linter.unusedVariables false
set_option linter.unusedSimpArgs false
open Go.RowKit
def hasVar (n : Int) : Bool := n == 2 || n == 8 || n == 9
def hasIdn (n : Int) : Bool := hasVar n || n == 10
def hasVal (t v : Int) : Bool := decide (t = 1 ∧ (v = 0 ∨ v = 1) ∨ t = 2 ∧ -32768 ≤ v ∧ v ≤ 32767 ∨ 3 ≤ t ∧ 0 ≤ v ∧ v < 16)
def opnds (op : Int) : Int := if op = 1 ∨ op = 2 then 1 else 2
def hasBr (t n : Int) : Bool := decide (t = 1 ∧ n = 2 ∨ 3 ≤ t ∧ 1 ≤ n ∧ n ≤ 16)
theorem hasvar_any (n : Int) (w : World) : Calls Tryz.prog 51 #[.int .i64 n] w (Bel (.bool (hasVar n)) w) := by
  go_enter Tryz.func51, Tryz.ntmps51
  go_wp2
  all_goals go_ret
  all_goals exact ⟨ret_bool (by simp_all [hasVar]), (by repeat (first | (with_reducible exact Below.refl _ _) | (with_reducible assumption) | (with_reducible exact bel_box _) | (with_reducible refine bel_step ?_ (by with_reducible assumption)) | (with_reducible refine Below.drew ?_) | (with_reducible refine below_drewN ?_ _) | (with_reducible refine bel_alloc ?_ _)))⟩
theorem hasident_any (n : Int) (w : World) : Calls Tryz.prog 66 #[.int .i64 n] w (Bel (.bool (hasIdn n)) w) := by
  have k1 := Lib.hid (hasvar_any n)
  have e : hasIdn n = (hasVar n || n == 10) := rfl
  rw [e]
  clear e
  generalize hasVar n = b at *
  cases b
  all_goals
    go_enter Tryz.func66, Tryz.ntmps66
    go_wp2_with (go_at_call 51; refine (k1.out _).mono ?_; rintro e w1 ⟨rfl, hb1⟩)
  all_goals go_ret
  all_goals exact ⟨ret_bool (by simp), (by repeat (first | (with_reducible exact Below.refl _ _) | (with_reducible assumption) | (with_reducible exact bel_box _) | (with_reducible refine bel_step ?_ (by with_reducible assumption)) | (with_reducible refine Below.drew ?_) | (with_reducible refine below_drewN ?_ _) | (with_reducible refine bel_alloc ?_ _)))⟩
theorem operands_any (n : Int) (w : World) : Calls Tryz.prog 87 #[.int .i64 n] w (Bel (.int .i64 (opnds n)) w) := by
  by_cases h1 : n = 1
  · subst h1
    go_enter Tryz.func87, Tryz.ntmps87
    go_wp2
    go_ret
    exact ⟨rfl, (by repeat (first | (with_reducible exact Below.refl _ _) | (with_reducible assumption) | (with_reducible exact bel_box _) | (with_reducible refine bel_step ?_ (by with_reducible assumption)) | (with_reducible refine Below.drew ?_) | (with_reducible refine below_drewN ?_ _) | (with_reducible refine bel_alloc ?_ _)))⟩
  by_cases h2 : n = 2
  · subst h2
    go_enter Tryz.func87, Tryz.ntmps87
    go_wp2
    go_ret
    exact ⟨rfl, (by repeat (first | (with_reducible exact Below.refl _ _) | (with_reducible assumption) | (with_reducible exact bel_box _) | (with_reducible refine bel_step ?_ (by with_reducible assumption)) | (with_reducible refine Below.drew ?_) | (with_reducible refine below_drewN ?_ _) | (with_reducible refine bel_alloc ?_ _)))⟩
  have e : opnds n = 2 := by rw [opnds, if_neg (by omega)]
  rw [e]
  have q1 : (n == 1) = false := by simpa using h1
  have q2 : (n == 2) = false := by simpa using h2
  go_enter Tryz.func87, Tryz.ntmps87
  go_wp2
  go_ret
  exact ⟨rfl, (by repeat (first | (with_reducible exact Below.refl _ _) | (with_reducible assumption) | (with_reducible exact bel_box _) | (with_reducible refine bel_step ?_ (by with_reducible assumption)) | (with_reducible refine Below.drew ?_) | (with_reducible refine below_drewN ?_ _) | (with_reducible refine bel_alloc ?_ _)))⟩
theorem hasvalue_any (t v : Int) (w : World) : Calls Tryz.prog 86 #[.int .i64 t, .int .i64 v] w (Bel (.bool (hasVal t v)) w) := by
  by_cases h1 : t = 1
  · subst h1
    go_enter Tryz.func86, Tryz.ntmps86
    go_wp2
    all_goals go_ret
    all_goals refine ⟨ret_bool ?_, (by repeat (first | (with_reducible exact Below.refl _ _) | (with_reducible assumption) | (with_reducible exact bel_box _) | (with_reducible refine bel_step ?_ (by with_reducible assumption)) | (with_reducible refine Below.drew ?_) | (with_reducible refine below_drewN ?_ _) | (with_reducible refine bel_alloc ?_ _)))⟩
    all_goals (rw [Bool.eq_iff_iff]; simp_all [hasVal])
  by_cases h2 : t = 2
  · subst h2
    go_enter Tryz.func86, Tryz.ntmps86
    go_wp2
    all_goals go_ret
    all_goals refine ⟨ret_bool ?_, (by repeat (first | (with_reducible exact Below.refl _ _) | (with_reducible assumption) | (with_reducible exact bel_box _) | (with_reducible refine bel_step ?_ (by with_reducible assumption)) | (with_reducible refine Below.drew ?_) | (with_reducible refine below_drewN ?_ _) | (with_reducible refine bel_alloc ?_ _)))⟩
    all_goals (rw [Bool.eq_iff_iff]; simp [hasVal]; omega)
  have q1 : (t == 1) = false := by simpa using h1
  have q2 : (t == 2) = false := by simpa using h2
  go_enter Tryz.func86, Tryz.ntmps86
  go_wp2
  all_goals go_ret
  all_goals refine ⟨ret_bool ?_, (by repeat (first | (with_reducible exact Below.refl _ _) | (with_reducible assumption) | (with_reducible exact bel_box _) | (with_reducible refine bel_step ?_ (by with_reducible assumption)) | (with_reducible refine Below.drew ?_) | (with_reducible refine below_drewN ?_ _) | (with_reducible refine bel_alloc ?_ _)))⟩
  all_goals (rw [Bool.eq_iff_iff]; simp [hasVal]; omega)
theorem hasbranches_any (t n : Int) (w : World) : Calls Tryz.prog 88 #[.int .i64 t, .int .i64 n] w (Bel (.bool (hasBr t n)) w) := by
  by_cases h1 : t = 1
  · subst h1
    go_enter Tryz.func88, Tryz.ntmps88
    go_wp2
    all_goals go_ret
    all_goals refine ⟨ret_bool ?_, (by repeat (first | (with_reducible exact Below.refl _ _) | (with_reducible assumption) | (with_reducible exact bel_box _) | (with_reducible refine bel_step ?_ (by with_reducible assumption)) | (with_reducible refine Below.drew ?_) | (with_reducible refine below_drewN ?_ _) | (with_reducible refine bel_alloc ?_ _)))⟩
    all_goals (rw [Bool.eq_iff_iff]; simp_all [hasBr])
  have q1 : (t == 1) = false := by simpa using h1
  go_enter Tryz.func88, Tryz.ntmps88
  go_wp2
  all_goals go_ret
  all_goals refine ⟨ret_bool ?_, (by repeat (first | (with_reducible exact Below.refl _ _) | (with_reducible assumption) | (with_reducible exact bel_box _) | (with_reducible refine bel_step ?_ (by with_reducible assumption)) | (with_reducible refine Below.drew ?_) | (with_reducible refine below_drewN ?_ _) | (with_reducible refine bel_alloc ?_ _)))⟩
  all_goals (rw [Bool.eq_iff_iff]; simp [hasBr]; omega)
end Go.Proofs.YtfogkcccjemloaaGreatDoor
/- formed, hasOnly of the program. -/
namespace Go.Proofs.YtfogkcccjemloaaGreatDoor
set_option linter.unusedVariables false
set_option linter.unusedSimpArgs false
open Go.RowKit
def formedP (k op t v n : Int) (wok : Bool) : Bool :=
  if k = 1 then n == 0 && hasVal t v else if k = 2 then n == 0 else if k = 3 then decide (1 ≤ op ∧ op ≤ 16) && n == opnds op else if k = 4 then n == 3 else if k = 5 then n == 1 else if k = 6 ∨ k = 7 then n == 2
  else if k = 8 then n == 1 && (t != 2 && hasVal t v) else if k = 9 then hasBr t n else if k = 10 then v == 0 || (v == 1 && decide (0 < n)) else if k = 11 then n == 0 && wok else false
def onlyP (k op t v : Int) (ne : Bool) : Bool :=
  if k ≠ 3 ∧ op ≠ 0 then false else if k = 1 then ne else if k = 8 then true else if k = 9 then v == 0 else if k = 10 then t == 0 else if k = 2 ∨ k = 11 then t == 0 && v == 0 else t == 0 && (v == 0 && ne)
set_option maxHeartbeats 2000000 in
set_option maxRecDepth 20000 in
theorem formed_any (x : Xt) (wok : Bool) (w : World) (KP : x.k = 11 → Hid (∀ W, Below w.heap.size w W → Calls Tryz.prog 36 #[.string x.nm] W (fun e w' => ∃ (A1 A2 : Option Addr) (n1 c1 n2 c2 : Nat) (er : Int), e = .returned (.tuple #[.agg #[.slice A1 n1 c1, .slice A2 n2 c2], .int .i64 er]) ∧ (er == 0) = wok ∧ Below W.heap.size W w'))) :
    Calls Tryz.prog 64 #[xV x] w (Bel (.bool (formedP x.k x.op x.t x.v x.ar.length wok)) w) := by
  have HV := Lib.hid (hasvalue_any x.t x.v)
  have HO := Lib.hid (operands_any x.op)
  have HB := Lib.hid (hasbranches_any x.t x.ar.length)
  obtain ⟨k, op, t, v, nm, A, c, ar⟩ := x
  simp only [xV, Xt.k, Xt.op, Xt.t, Xt.v, Xt.nm, Xt.A, Xt.c, Xt.ar] at *
  obtain ⟨n, hn⟩ : ∃ n : Nat, ar.length = n := ⟨_, rfl⟩
  rw [hn] at HB ⊢
  clear hn
  by_cases h1 : k = 1
  · subst h1
    rw [formedP, if_pos rfl]
    generalize hasVal t v = b at *
    cases b
    all_goals
      go_enter Tryz.func64, Tryz.ntmps64
      go_wp2_with (go_at_call 86; refine (HV.out _).mono ?_; rintro e w1 ⟨rfl, hb1⟩)
    all_goals go_ret
    all_goals exact ⟨ret_bool (by simp_all), (by repeat (first | (with_reducible exact Below.refl _ _) | (with_reducible assumption) | (with_reducible exact bel_box _) | (with_reducible refine bel_step ?_ (by with_reducible assumption)) | (with_reducible refine Below.drew ?_) | (with_reducible refine below_drewN ?_ _) | (with_reducible refine bel_alloc ?_ _)))⟩
  by_cases h2 : k = 2
  · subst h2
    go_enter Tryz.func64, Tryz.ntmps64
    go_wp2
    all_goals go_ret
    all_goals exact ⟨ret_bool (by simp_all [formedP]), (by repeat (first | (with_reducible exact Below.refl _ _) | (with_reducible assumption) | (with_reducible exact bel_box _) | (with_reducible refine bel_step ?_ (by with_reducible assumption)) | (with_reducible refine Below.drew ?_) | (with_reducible refine below_drewN ?_ _) | (with_reducible refine bel_alloc ?_ _)))⟩
  by_cases h3 : k = 3
  · subst h3
    rw [formedP, if_neg (by decide), if_neg (by decide), if_pos rfl]
    generalize opnds op = q at *
    go_enter Tryz.func64, Tryz.ntmps64
    go_wp2_with (go_at_call 87; refine (HO.out _).mono ?_; rintro e w1 ⟨rfl, hb1⟩)
    all_goals go_ret
    all_goals refine ⟨ret_bool ?_, (by repeat (first | (with_reducible exact Below.refl _ _) | (with_reducible assumption) | (with_reducible exact bel_box _) | (with_reducible refine bel_step ?_ (by with_reducible assumption)) | (with_reducible refine Below.drew ?_) | (with_reducible refine below_drewN ?_ _) | (with_reducible refine bel_alloc ?_ _)))⟩
    all_goals (rw [Bool.eq_iff_iff]; simp; omega)
  by_cases h4 : k = 4
  · subst h4
    go_enter Tryz.func64, Tryz.ntmps64
    go_wp2
    all_goals go_ret
    all_goals exact ⟨ret_bool (by simp_all [formedP]), (by repeat (first | (with_reducible exact Below.refl _ _) | (with_reducible assumption) | (with_reducible exact bel_box _) | (with_reducible refine bel_step ?_ (by with_reducible assumption)) | (with_reducible refine Below.drew ?_) | (with_reducible refine below_drewN ?_ _) | (with_reducible refine bel_alloc ?_ _)))⟩
  by_cases h5 : k = 5
  · subst h5
    go_enter Tryz.func64, Tryz.ntmps64
    go_wp2
    all_goals go_ret
    all_goals exact ⟨ret_bool (by simp_all [formedP]), (by repeat (first | (with_reducible exact Below.refl _ _) | (with_reducible assumption) | (with_reducible exact bel_box _) | (with_reducible refine bel_step ?_ (by with_reducible assumption)) | (with_reducible refine Below.drew ?_) | (with_reducible refine below_drewN ?_ _) | (with_reducible refine bel_alloc ?_ _)))⟩
  by_cases h6 : k = 6
  · subst h6
    go_enter Tryz.func64, Tryz.ntmps64
    go_wp2
    all_goals go_ret
    all_goals exact ⟨ret_bool (by simp_all [formedP]), (by repeat (first | (with_reducible exact Below.refl _ _) | (with_reducible assumption) | (with_reducible exact bel_box _) | (with_reducible refine bel_step ?_ (by with_reducible assumption)) | (with_reducible refine Below.drew ?_) | (with_reducible refine below_drewN ?_ _) | (with_reducible refine bel_alloc ?_ _)))⟩
  by_cases h7 : k = 7
  · subst h7
    go_enter Tryz.func64, Tryz.ntmps64
    go_wp2
    all_goals go_ret
    all_goals exact ⟨ret_bool (by simp_all [formedP]), (by repeat (first | (with_reducible exact Below.refl _ _) | (with_reducible assumption) | (with_reducible exact bel_box _) | (with_reducible refine bel_step ?_ (by with_reducible assumption)) | (with_reducible refine Below.drew ?_) | (with_reducible refine below_drewN ?_ _) | (with_reducible refine bel_alloc ?_ _)))⟩
  by_cases h8 : k = 8
  · subst h8
    rw [formedP, if_neg (by decide), if_neg (by decide), if_neg (by decide), if_neg (by decide), if_neg (by decide), if_neg (by decide), if_pos rfl]
    generalize hasVal t v = b at *
    cases b
    all_goals
      go_enter Tryz.func64, Tryz.ntmps64
      go_wp2_with (go_at_call 86; refine (HV.out _).mono ?_; rintro e w1 ⟨rfl, hb1⟩)
    all_goals go_ret
    all_goals exact ⟨ret_bool (by simp_all), (by repeat (first | (with_reducible exact Below.refl _ _) | (with_reducible assumption) | (with_reducible exact bel_box _) | (with_reducible refine bel_step ?_ (by with_reducible assumption)) | (with_reducible refine Below.drew ?_) | (with_reducible refine below_drewN ?_ _) | (with_reducible refine bel_alloc ?_ _)))⟩
  by_cases h9 : k = 9
  · subst h9
    rw [formedP, if_neg (by decide), if_neg (by decide), if_neg (by decide), if_neg (by decide), if_neg (by decide), if_neg (by decide), if_neg (by decide), if_pos rfl]
    generalize hasBr t n = b at *
    go_enter Tryz.func64, Tryz.ntmps64
    go_wp2_with (go_at_call 88; refine (HB.out _).mono ?_; rintro e w1 ⟨rfl, hb1⟩)
    all_goals go_ret
    all_goals exact ⟨rfl, (by repeat (first | (with_reducible exact Below.refl _ _) | (with_reducible assumption) | (with_reducible exact bel_box _) | (with_reducible refine bel_step ?_ (by with_reducible assumption)) | (with_reducible refine Below.drew ?_) | (with_reducible refine below_drewN ?_ _) | (with_reducible refine bel_alloc ?_ _)))⟩
  by_cases h10 : k = 10
  · subst h10
    rw [formedP, if_neg (by decide), if_neg (by decide), if_neg (by decide), if_neg (by decide), if_neg (by decide), if_neg (by decide), if_neg (by decide), if_neg (by decide), if_pos rfl]
    go_enter Tryz.func64, Tryz.ntmps64
    go_wp2
    all_goals go_ret
    all_goals refine ⟨ret_bool ?_, (by repeat (first | (with_reducible exact Below.refl _ _) | (with_reducible assumption) | (with_reducible exact bel_box _) | (with_reducible refine bel_step ?_ (by with_reducible assumption)) | (with_reducible refine Below.drew ?_) | (with_reducible refine below_drewN ?_ _) | (with_reducible refine bel_alloc ?_ _)))⟩
    all_goals (rw [Bool.eq_iff_iff]; simp_all)
  by_cases h11 : k = 11
  · subst h11
    have KQ := KP rfl
    rw [formedP, if_neg (by decide), if_neg (by decide), if_neg (by decide), if_neg (by decide), if_neg (by decide), if_neg (by decide), if_neg (by decide), if_neg (by decide), if_neg (by decide), if_pos rfl]
    clear KP
    cases wok
    all_goals
      go_enter Tryz.func64, Tryz.ntmps64
      go_wp2_with (go_at_call 36; refine (KQ.out _ ?_).mono ?_; (focus ((repeat (first | (with_reducible exact Below.refl _ _) | (with_reducible assumption) | (with_reducible exact bel_box _) | (with_reducible refine bel_step ?_ (by with_reducible assumption)) | (with_reducible refine Below.drew ?_) | (with_reducible refine below_drewN ?_ _) | (with_reducible refine bel_alloc ?_ _))); done)); rintro e w1 ⟨A1, A2, n1, c1, n2, c2, er, rfl, her, hb1⟩)
    all_goals go_ret
    all_goals exact ⟨ret_bool (by simp_all), (by repeat (first | (with_reducible exact Below.refl _ _) | (with_reducible assumption) | (with_reducible exact bel_box _) | (with_reducible refine bel_step ?_ (by with_reducible assumption)) | (with_reducible refine Below.drew ?_) | (with_reducible refine below_drewN ?_ _) | (with_reducible refine bel_alloc ?_ _)))⟩
  have e : formedP k op t v n wok = false := by
    rw [formedP, if_neg h1, if_neg h2, if_neg h3, if_neg h4, if_neg h5, if_neg (by omega), if_neg h8, if_neg h9, if_neg h10, if_neg h11]
  rw [e]
  have q1 : (k == 1) = false := by simpa using h1
  have q2 : (k == 2) = false := by simpa using h2
  have q3 : (k == 3) = false := by simpa using h3
  have q4 : (k == 4) = false := by simpa using h4
  have q5 : (k == 5) = false := by simpa using h5
  have q6 : (k == 6) = false := by simpa using h6
  have q7 : (k == 7) = false := by simpa using h7
  have q8 : (k == 8) = false := by simpa using h8
  have q9 : (k == 9) = false := by simpa using h9
  have q10 : (k == 10) = false := by simpa using h10
  have q11 : (k == 11) = false := by simpa using h11
  go_enter Tryz.func64, Tryz.ntmps64
  go_wp2
  go_ret
  exact ⟨rfl, (by repeat (first | (with_reducible exact Below.refl _ _) | (with_reducible assumption) | (with_reducible exact bel_box _) | (with_reducible refine bel_step ?_ (by with_reducible assumption)) | (with_reducible refine Below.drew ?_) | (with_reducible refine below_drewN ?_ _) | (with_reducible refine bel_alloc ?_ _)))⟩
set_option maxHeartbeats 2000000 in
set_option maxRecDepth 20000 in
theorem hasonly_any (x : Xt) (w : World) : Calls Tryz.prog 65 #[xV x] w (Bel (.bool (onlyP x.k x.op x.t x.v (x.nm.toList == []))) w) := by
  obtain ⟨k, op, t, v, nm, A, c, ar⟩ := x
  simp only [xV, Xt.k, Xt.op, Xt.t, Xt.v, Xt.nm, Xt.A, Xt.c, Xt.ar] at *
  have hne : (nm.toList == []) = nm.toList.isEmpty := by cases nm.toList <;> rfl
  by_cases h0 : k ≠ 3 ∧ op ≠ 0
  · rw [onlyP, if_pos h0]
    have q1 : (k != 3) = true := by simpa using h0.1
    have q2 : (op != 0) = true := by simpa using h0.2
    go_enter Tryz.func65, Tryz.ntmps65
    go_wp2
    all_goals go_ret
    all_goals exact ⟨rfl, (by repeat (first | (with_reducible exact Below.refl _ _) | (with_reducible assumption) | (with_reducible exact bel_box _) | (with_reducible refine bel_step ?_ (by with_reducible assumption)) | (with_reducible refine Below.drew ?_) | (with_reducible refine below_drewN ?_ _) | (with_reducible refine bel_alloc ?_ _)))⟩
  rw [onlyP, if_neg h0]
  have hq : (k != 3) = false ∨ (k != 3) = true ∧ (op != 0) = false := by
    by_cases h : k = 3
    · exact .inl (by simp [h])
    · exact .inr ⟨by simpa using h, by simpa using fun e => h0 ⟨h, e⟩⟩
  clear h0
  by_cases h1 : k = 1
  · subst h1
    rw [if_pos rfl]
    rcases hq with hq | ⟨_, hq⟩
    · cases hq
    go_enter Tryz.func65, Tryz.ntmps65
    go_wp2
    all_goals go_ret
    all_goals exact ⟨ret_bool (by simp_all), (by repeat (first | (with_reducible exact Below.refl _ _) | (with_reducible assumption) | (with_reducible exact bel_box _) | (with_reducible refine bel_step ?_ (by with_reducible assumption)) | (with_reducible refine Below.drew ?_) | (with_reducible refine below_drewN ?_ _) | (with_reducible refine bel_alloc ?_ _)))⟩
  by_cases h8 : k = 8
  · subst h8
    rw [if_neg (by decide), if_pos rfl]
    rcases hq with hq | ⟨_, hq⟩
    · cases hq
    go_enter Tryz.func65, Tryz.ntmps65
    go_wp2
    all_goals go_ret
    all_goals exact ⟨rfl, (by repeat (first | (with_reducible exact Below.refl _ _) | (with_reducible assumption) | (with_reducible exact bel_box _) | (with_reducible refine bel_step ?_ (by with_reducible assumption)) | (with_reducible refine Below.drew ?_) | (with_reducible refine below_drewN ?_ _) | (with_reducible refine bel_alloc ?_ _)))⟩
  by_cases h9 : k = 9
  · subst h9
    rw [if_neg (by decide), if_neg (by decide), if_pos rfl]
    rcases hq with hq | ⟨_, hq⟩
    · cases hq
    go_enter Tryz.func65, Tryz.ntmps65
    go_wp2
    all_goals go_ret
    all_goals exact ⟨rfl, (by repeat (first | (with_reducible exact Below.refl _ _) | (with_reducible assumption) | (with_reducible exact bel_box _) | (with_reducible refine bel_step ?_ (by with_reducible assumption)) | (with_reducible refine Below.drew ?_) | (with_reducible refine below_drewN ?_ _) | (with_reducible refine bel_alloc ?_ _)))⟩
  by_cases h10 : k = 10
  · subst h10
    rw [if_neg (by decide), if_neg (by decide), if_neg (by decide), if_pos rfl]
    rcases hq with hq | ⟨_, hq⟩
    · cases hq
    go_enter Tryz.func65, Tryz.ntmps65
    go_wp2
    all_goals go_ret
    all_goals exact ⟨rfl, (by repeat (first | (with_reducible exact Below.refl _ _) | (with_reducible assumption) | (with_reducible exact bel_box _) | (with_reducible refine bel_step ?_ (by with_reducible assumption)) | (with_reducible refine Below.drew ?_) | (with_reducible refine below_drewN ?_ _) | (with_reducible refine bel_alloc ?_ _)))⟩
  have q1 : (k == 1) = false := by simpa using h1
  have q8 : (k == 8) = false := by simpa using h8
  have q9 : (k == 9) = false := by simpa using h9
  have q10 : (k == 10) = false := by simpa using h10
  rw [if_neg h1, if_neg h8, if_neg h9, if_neg h10]
  by_cases h2 : k = 2
  · subst h2
    rw [if_pos (.inl rfl)]
    rcases hq with hq | ⟨_, hq⟩
    · cases hq
    go_enter Tryz.func65, Tryz.ntmps65
    go_wp2
    all_goals go_ret
    all_goals exact ⟨ret_bool (by simp_all), (by repeat (first | (with_reducible exact Below.refl _ _) | (with_reducible assumption) | (with_reducible exact bel_box _) | (with_reducible refine bel_step ?_ (by with_reducible assumption)) | (with_reducible refine Below.drew ?_) | (with_reducible refine below_drewN ?_ _) | (with_reducible refine bel_alloc ?_ _)))⟩
  by_cases h11 : k = 11
  · subst h11
    rw [if_pos (.inr rfl)]
    rcases hq with hq | ⟨_, hq⟩
    · cases hq
    go_enter Tryz.func65, Tryz.ntmps65
    go_wp2
    all_goals go_ret
    all_goals exact ⟨ret_bool (by simp_all), (by repeat (first | (with_reducible exact Below.refl _ _) | (with_reducible assumption) | (with_reducible exact bel_box _) | (with_reducible refine bel_step ?_ (by with_reducible assumption)) | (with_reducible refine Below.drew ?_) | (with_reducible refine below_drewN ?_ _) | (with_reducible refine bel_alloc ?_ _)))⟩
  have q2 : (k == 2) = false := by simpa using h2
  have q11 : (k == 11) = false := by simpa using h11
  rw [if_neg (by omega)]
  rcases hq with hq | ⟨hk3, hq⟩
  all_goals
    go_enter Tryz.func65, Tryz.ntmps65
    go_wp2
  all_goals go_ret
  all_goals exact ⟨ret_bool (by simp_all), (by repeat (first | (with_reducible exact Below.refl _ _) | (with_reducible assumption) | (with_reducible exact bel_box _) | (with_reducible refine bel_step ?_ (by with_reducible assumption)) | (with_reducible refine Below.drew ?_) | (with_reducible refine below_drewN ?_ _) | (with_reducible refine bel_alloc ?_ _)))⟩
end Go.Proofs.YtfogkcccjemloaaGreatDoor
/- args, tagged, Named of the reference. -/
namespace Go.Proofs.YtfogkcccjemloaaGreatDoor
set_option linter.unusedVariables false
set_option linter.unusedSimpArgs false
open Go.RowKit
theorem named_any (n : Int) (w : World) : Calls Tryz.prog 34 #[.int .i64 n] w (Bel (.bool (hasIdn n)) w) := by
  go_enter Tryz.func34, Tryz.ntmps34
  go_wp2
  all_goals go_ret
  all_goals exact ⟨ret_bool (by simp_all [hasIdn, hasVar]), (by repeat (first | (with_reducible exact Below.refl _ _) | (with_reducible assumption) | (with_reducible exact bel_box _) | (with_reducible refine bel_step ?_ (by with_reducible assumption)) | (with_reducible refine Below.drew ?_) | (with_reducible refine below_drewN ?_ _) | (with_reducible refine bel_alloc ?_ _)))⟩
def tagP (t v : Int) : Bool := decide (t = 1 ∧ (v = 0 ∨ v = 1) ∨ 3 ≤ t ∧ 0 ≤ v ∧ v < 16)
theorem tagged_any (t v : Int) (w : World) : Calls Tryz.prog 68 #[.int .i64 t, .int .i64 v] w (Bel (.bool (tagP t v)) w) := by
  go_enter Tryz.func68, Tryz.ntmps68
  go_wp2
  all_goals go_ret
  all_goals refine ⟨ret_bool ?_, (by repeat (first | (with_reducible exact Below.refl _ _) | (with_reducible assumption) | (with_reducible exact bel_box _) | (with_reducible refine bel_step ?_ (by with_reducible assumption)) | (with_reducible refine Below.drew ?_) | (with_reducible refine below_drewN ?_ _) | (with_reducible refine bel_alloc ?_ _)))⟩
  all_goals (rw [Bool.eq_iff_iff]; simp_all [tagP]; try omega)
def argP (k op t v n : Int) : Bool :=
  if k = 1 ∨ k = 2 ∨ k = 11 then n == 0 else if k = 3 then n == opnds op else if k = 4 then n == 3 else if k = 5 ∨ k = 8 then n == 1 else if k = 6 ∨ k = 7 then n == 2 else if k = 9 then (if t = 1 then n == 2 else decide (1 ≤ n ∧ n ≤ 16)) else decide (1 ≤ n) || v == 0
set_option maxHeartbeats 2000000 in
set_option maxRecDepth 20000 in
theorem args_any (x : Xt) (w : World) : Calls Tryz.prog 67 #[xV x] w (Bel (.bool (argP x.k x.op x.t x.v x.ar.length)) w) := by
  cases x with
  | mk k op t v nm A c ar =>
    simp only [xV, Xt.k, Xt.op, Xt.t, Xt.v, Xt.nm, Xt.A, Xt.c, Xt.ar]
    by_cases h1 : k = 1
    · subst h1
      go_enter Tryz.func67, Tryz.ntmps67
      go_wp2
      all_goals go_ret
      all_goals refine ⟨ret_bool ?_, (by repeat (first | (with_reducible exact Below.refl _ _) | (with_reducible assumption) | (with_reducible exact bel_box _) | (with_reducible refine bel_step ?_ (by with_reducible assumption)) | (with_reducible refine Below.drew ?_) | (with_reducible refine below_drewN ?_ _) | (with_reducible refine bel_alloc ?_ _)))⟩
      all_goals (rw [Bool.eq_iff_iff]; simp_all [argP, opnds]; try omega)
    by_cases h2 : k = 2
    · subst h2
      go_enter Tryz.func67, Tryz.ntmps67
      go_wp2
      all_goals go_ret
      all_goals refine ⟨ret_bool ?_, (by repeat (first | (with_reducible exact Below.refl _ _) | (with_reducible assumption) | (with_reducible exact bel_box _) | (with_reducible refine bel_step ?_ (by with_reducible assumption)) | (with_reducible refine Below.drew ?_) | (with_reducible refine below_drewN ?_ _) | (with_reducible refine bel_alloc ?_ _)))⟩
      all_goals (rw [Bool.eq_iff_iff]; simp_all [argP, opnds]; try omega)
    by_cases h11 : k = 11
    · subst h11
      go_enter Tryz.func67, Tryz.ntmps67
      go_wp2
      all_goals go_ret
      all_goals refine ⟨ret_bool ?_, (by repeat (first | (with_reducible exact Below.refl _ _) | (with_reducible assumption) | (with_reducible exact bel_box _) | (with_reducible refine bel_step ?_ (by with_reducible assumption)) | (with_reducible refine Below.drew ?_) | (with_reducible refine below_drewN ?_ _) | (with_reducible refine bel_alloc ?_ _)))⟩
      all_goals (rw [Bool.eq_iff_iff]; simp_all [argP, opnds]; try omega)
    by_cases h3 : k = 3
    · subst h3
      go_enter Tryz.func67, Tryz.ntmps67
      go_wp2
      all_goals go_ret
      all_goals refine ⟨ret_bool ?_, (by repeat (first | (with_reducible exact Below.refl _ _) | (with_reducible assumption) | (with_reducible exact bel_box _) | (with_reducible refine bel_step ?_ (by with_reducible assumption)) | (with_reducible refine Below.drew ?_) | (with_reducible refine below_drewN ?_ _) | (with_reducible refine bel_alloc ?_ _)))⟩
      all_goals (rw [Bool.eq_iff_iff]; simp_all [argP, opnds]; try omega)
    by_cases h4 : k = 4
    · subst h4
      go_enter Tryz.func67, Tryz.ntmps67
      go_wp2
      all_goals go_ret
      all_goals refine ⟨ret_bool ?_, (by repeat (first | (with_reducible exact Below.refl _ _) | (with_reducible assumption) | (with_reducible exact bel_box _) | (with_reducible refine bel_step ?_ (by with_reducible assumption)) | (with_reducible refine Below.drew ?_) | (with_reducible refine below_drewN ?_ _) | (with_reducible refine bel_alloc ?_ _)))⟩
      all_goals (rw [Bool.eq_iff_iff]; simp_all [argP, opnds]; try omega)
    by_cases h5 : k = 5
    · subst h5
      go_enter Tryz.func67, Tryz.ntmps67
      go_wp2
      all_goals go_ret
      all_goals refine ⟨ret_bool ?_, (by repeat (first | (with_reducible exact Below.refl _ _) | (with_reducible assumption) | (with_reducible exact bel_box _) | (with_reducible refine bel_step ?_ (by with_reducible assumption)) | (with_reducible refine Below.drew ?_) | (with_reducible refine below_drewN ?_ _) | (with_reducible refine bel_alloc ?_ _)))⟩
      all_goals (rw [Bool.eq_iff_iff]; simp_all [argP, opnds]; try omega)
    by_cases h8 : k = 8
    · subst h8
      go_enter Tryz.func67, Tryz.ntmps67
      go_wp2
      all_goals go_ret
      all_goals refine ⟨ret_bool ?_, (by repeat (first | (with_reducible exact Below.refl _ _) | (with_reducible assumption) | (with_reducible exact bel_box _) | (with_reducible refine bel_step ?_ (by with_reducible assumption)) | (with_reducible refine Below.drew ?_) | (with_reducible refine below_drewN ?_ _) | (with_reducible refine bel_alloc ?_ _)))⟩
      all_goals (rw [Bool.eq_iff_iff]; simp_all [argP, opnds]; try omega)
    by_cases h6 : k = 6
    · subst h6
      go_enter Tryz.func67, Tryz.ntmps67
      go_wp2
      all_goals go_ret
      all_goals refine ⟨ret_bool ?_, (by repeat (first | (with_reducible exact Below.refl _ _) | (with_reducible assumption) | (with_reducible exact bel_box _) | (with_reducible refine bel_step ?_ (by with_reducible assumption)) | (with_reducible refine Below.drew ?_) | (with_reducible refine below_drewN ?_ _) | (with_reducible refine bel_alloc ?_ _)))⟩
      all_goals (rw [Bool.eq_iff_iff]; simp_all [argP, opnds]; try omega)
    by_cases h7 : k = 7
    · subst h7
      go_enter Tryz.func67, Tryz.ntmps67
      go_wp2
      all_goals go_ret
      all_goals refine ⟨ret_bool ?_, (by repeat (first | (with_reducible exact Below.refl _ _) | (with_reducible assumption) | (with_reducible exact bel_box _) | (with_reducible refine bel_step ?_ (by with_reducible assumption)) | (with_reducible refine Below.drew ?_) | (with_reducible refine below_drewN ?_ _) | (with_reducible refine bel_alloc ?_ _)))⟩
      all_goals (rw [Bool.eq_iff_iff]; simp_all [argP, opnds]; try omega)
    by_cases h9 : k = 9
    · subst h9
      go_enter Tryz.func67, Tryz.ntmps67
      go_wp2
      all_goals go_ret
      all_goals refine ⟨ret_bool ?_, (by repeat (first | (with_reducible exact Below.refl _ _) | (with_reducible assumption) | (with_reducible exact bel_box _) | (with_reducible refine bel_step ?_ (by with_reducible assumption)) | (with_reducible refine Below.drew ?_) | (with_reducible refine below_drewN ?_ _) | (with_reducible refine bel_alloc ?_ _)))⟩
      all_goals (rw [Bool.eq_iff_iff]; simp_all [argP, opnds]; try omega)
    have q1 : (k == 1) = false := by simpa using h1
    have q2 : (k == 2) = false := by simpa using h2
    have q11 : (k == 11) = false := by simpa using h11
    have q3 : (k == 3) = false := by simpa using h3
    have q4 : (k == 4) = false := by simpa using h4
    have q5 : (k == 5) = false := by simpa using h5
    have q8 : (k == 8) = false := by simpa using h8
    have q6 : (k == 6) = false := by simpa using h6
    have q7 : (k == 7) = false := by simpa using h7
    have q9 : (k == 9) = false := by simpa using h9
    have e : argP k op t v (ar.length : Int) = (decide (1 ≤ (ar.length : Int)) || v == 0) := by
      rw [argP, if_neg (by omega), if_neg (by omega), if_neg (by omega), if_neg (by omega), if_neg (by omega), if_neg (by omega)]
    rw [e]
    clear e h1 h2 h11 h3 h4 h5 h8 h6 h7 h9
    go_enter Tryz.func67, Tryz.ntmps67
    go_wp2
    all_goals go_ret
    all_goals refine ⟨ret_bool ?_, (by repeat (first | (with_reducible exact Below.refl _ _) | (with_reducible assumption) | (with_reducible exact bel_box _) | (with_reducible refine bel_step ?_ (by with_reducible assumption)) | (with_reducible refine Below.drew ?_) | (with_reducible refine below_drewN ?_ _) | (with_reducible refine bel_alloc ?_ _)))⟩
    all_goals (first | rfl | (rw [Bool.eq_iff_iff]; done) | (rw [Bool.eq_iff_iff]; simp_all; done) | (rw [Bool.eq_iff_iff]; simp_all; omega))
end Go.Proofs.YtfogkcccjemloaaGreatDoor
/- walk of the program: the iterator over an expression. -/
namespace Go.Proofs.YtfogkcccjemloaaGreatDoor
set_option linter.unusedVariables false
set_option linter.unusedSimpArgs false
open Go.RowKit Go.Shelf
attribute [local go_sem] Oper.semAt_some
theorem room_none {F : Fence} (hd : F.depth = none) (k : Nat) : F.room k := fun d h => by rw [hd] at h; cases h
theorem round_any {F : Fence} (hd : F.depth = none) {m m' : Nat} {P : Program} {l : Nat} {f : FuncId} {tmps : Array Value} {assign body : Code} {w : World} {R : Ending → World → Prop}
    (h : RoundIn F m P l f tmps assign body w R) : RoundIn F m' P l f tmps assign body w R := ⟨h.1, fun c cs _ => h.2 c cs (room_none hd _)⟩
theorem yield_any {F : Fence} (hd : F.depth = none) {m : Nat} (m' : Nat) {P : Program} {l : Nat} {args : Array Value} {W : World} {R : Ending → World → Prop} (h : YieldAt F m P l args W R) : YieldAt F m' P l args W R := by
  obtain ⟨fn, tmps, assign, body, hy, hR⟩ := h
  exact ⟨fn, tmps, assign, body, hy, round_any hd hR⟩
theorem below_grown {W W' : World} (h : Below W.heap.size W W') : W.grownBy W' none := ⟨h.os, h.tape, h.output, h.size, fun k hk _ => h.block k hk⟩
theorem abides_below {β : Type} {B : Nat} {J : β → World → Prop} (h : AbidesFrom B J) {s : β} {W W' : World} (hs : J s W) (hb : Below W.heap.size W W') : J s W' :=
  h s W W' none hs (below_grown hb) (fun r e => by cases e)
set_option maxHeartbeats 400000 in
theorem arguments_any (x : Xt) (w : World) : Calls Tryz.prog 41 #[xV x] w (Bel (.slice x.A x.ar.length x.c) w) := by
  simp only [xV]
  go_enter Tryz.func41, Tryz.ntmps41
  go_wp2
  go_ret
  exact ⟨rfl, (by repeat (first | (with_reducible exact Below.refl _ _) | (with_reducible assumption) | (with_reducible exact bel_box _) | (with_reducible refine bel_step ?_ (by with_reducible assumption)) | (with_reducible refine Below.drew ?_) | (with_reducible refine below_drewN ?_ _) | (with_reducible refine bel_alloc ?_ _)))⟩
/-- what a round leaves: all cells, but those of the blocks in S -/
def KX (S : Nat → Prop) (W W' : World) : Prop := W.heap.size ≤ W'.heap.size ∧ ∀ k o, ¬ S k → W.heap[k]? = some o → o.isCells = true → W'.heap[k]? = some o
theorem KX.refl (S : Nat → Prop) (W : World) : KX S W W := ⟨Nat.le_refl _, fun _ _ _ h _ => h⟩
theorem KX.trans {S : Nat → Prop} {A B C : World} (h : KX S A B) (g : KX S B C) : KX S A C := ⟨Nat.le_trans h.1 g.1, fun k o hs ho hc => g.2 k o hs (h.2 k o hs ho hc) hc⟩
theorem KX.of_below {S : Nat → Prop} {W W' : World} (h : Below W.heap.size W W') : KX S W W' := ⟨h.size, fun k o _ ho _ => (h.block k (Array.getElem?_eq_some_iff.1 ho).1).trans ho⟩
theorem KX.cell {S : Nat → Prop} {W W' : World} (h : KX S W W') {a : Addr} {v : Value} (hs : ¬ S a.block) (hc : W.cell? a = some v) : W'.cell? a = some v := by
  obtain ⟨o, ho, hk⟩ := cells_of_cell hc
  exact (World.cell?_of_block ((h.2 _ o hs ho hk).trans ho.symm)).trans hc
theorem KX.frozen {S : Nat → Prop} {W W' : World} (h : KX S W W') {a : Addr} {v : Value} (hs : ¬ S a.block) (hc : W.cell? a = some v) : W'.frozen? a = W.frozen? a := by
  obtain ⟨o, ho, hk⟩ := cells_of_cell hc
  exact World.frozen?_of_block ((h.2 _ o hs ho hk).trans ho.symm)
theorem KX.put {S : Nat → Prop} (W : World) (l : Nat) (o o' : Obj) (ho : W.heap[l]? = some o) (hc : o.isCells = false) : KX S W (W.putObj l o') := by
  refine ⟨by simp, fun k q _ hq hqc => ?_⟩
  rw [World.putObj_heap_other (fun e => by subst e; rw [ho] at hq; injection hq with hq; subst hq; rw [hc] at hqc; cases hqc)]
  exact hq
theorem RdX.kx {S : Nat → Prop} {W W' : World} {B : Nat} {x : Xt} (h : RdX W B x) (hk : KX S W W') (hS : ∀ k, S k → B ≤ k) : RdX W' B x := by
  induction h with
  | mk x h0 h1 h2 h3 ih =>
    refine .mk x h0 (fun ad i y ha hy => ?_) ih h3
    obtain ⟨ad', e, hb⟩ := h0 (by intro e; rw [e] at hy; simp at hy)
    obtain rfl : ad = ad' := Option.some.inj (ha.symm.trans e)
    have hn : ¬ S (ad.add (i * 6)).block := fun hs => by have := hS _ hs; rw [add_block] at this; omega
    obtain ⟨c0, c1, c2, c3, c4, c5⟩ := h1 ad i y ha hy
    exact ⟨hk.cell hn c0, hk.cell (a := ⟨_, _, none⟩) hn c1, hk.cell (a := ⟨_, _, none⟩) hn c2, hk.cell (a := ⟨_, _, none⟩) hn c3, hk.cell (a := ⟨_, _, none⟩) hn c4, hk.cell (a := ⟨_, _, none⟩) hn c5⟩
theorem bx_box (w : World) (x : Xt) : (bxW w x).cell? ⟨w.heap.size, 0, none⟩ = some (.int .i64 x.k) ∧ (bxW w x).cell? ⟨w.heap.size, 1, none⟩ = some (.int .i64 x.op) ∧ (bxW w x).cell? ⟨w.heap.size, 2, none⟩ = some (.int .i64 x.t) ∧ (bxW w x).cell? ⟨w.heap.size, 3, none⟩ = some (.int .i64 x.v) ∧ (bxW w x).cell? ⟨w.heap.size, 4, none⟩ = some (.string x.nm) ∧ (bxW w x).cell? ⟨w.heap.size, 5, none⟩ = some (.slice x.A x.ar.length x.c) := by
  obtain ⟨b0, b1, b2, b3, b4, b5, _⟩ := bxW_cells (w := w) (x := x) (Below.refl _ _)
  exact ⟨b0, b1, b2, b3, b4, b5⟩
/-- what has come of the arguments, by how many are over -/
theorem parts_list (x : Xt) : ∃ L : Nat → List Xt, x.list = x :: L x.ar.length ∧ L 0 = [] ∧ Hid (∀ (k : Nat) (y : Xt), x.ar[k]? = some y → L (k + 1) = L k ++ y.list ∧ (L k).length + y.size + 1 ≤ x.size ∧ ∃ r, L k ++ y.list ++ r = L x.ar.length) := by
  refine ⟨fun k => ((x.ar.take k).map Xt.list).flatten, ?_, rfl, Lib.hid fun k y hy => ?_⟩
  · simp only [List.take_length]
    exact Xt.list_eq x
  · have e1 : ((x.ar.take (k + 1)).map Xt.list).flatten = ((x.ar.take k).map Xt.list).flatten ++ y.list := by
      rw [take_succ_of hy, List.map_append, List.flatten_append]
      simp
    have e2 : ((x.ar.take k).map Xt.list).flatten ++ y.list ++ ((x.ar.drop (k + 1)).map Xt.list).flatten = ((x.ar.take x.ar.length).map Xt.list).flatten := by
      rw [← e1, ← List.flatten_append, ← List.map_append, List.take_append_drop, List.take_length]
    refine ⟨e1, ?_, _, e2⟩
    have h1 := congrArg List.length e2
    have h2 := list_length x
    rw [Xt.list_eq, List.length_cons] at h2
    rw [List.take_length] at h1
    rw [List.length_append, List.length_append, list_length y] at h1
    simp only
    omega
set_option maxRecDepth 100000 in
set_option maxHeartbeats 4000000 in
theorem walk_each_in (l n₀ B : Nat) (N : Nat) (S : Nat → Prop) (hS : ∀ k, S k → n₀ ≤ k ∧ k < B) (J Jx : List Xt → World → Prop) (hJ : AbidesFrom B J) (P : Xt → Prop)
    (hY : ∀ m pre x W, P x → J pre W → pre.length < N → YieldAt Fence.wide m Tryz.prog l #[xV x] W fun e W' =>
      (e = .returned (.bool true) ∧ J (pre ++ [x]) W' ∧ KX S W W') ∨ (e = .returned (.bool false) ∧ Jx (pre ++ [x]) W')) (x : Xt) :
    ∀ (n : Nat) (pre : List Xt) (W : World), (∀ y ∈ x.list, P y) → RdX W n₀ x → B ≤ W.heap.size → J pre W → pre.length + x.size ≤ N →
      CallsIn Fence.wide n Tryz.prog 63 #[xV x, .func (.func 41) #[] #[], .func (.yield l) #[] #[]] W fun e W' =>
        (e = .returned (.bool true) ∧ J (pre ++ x.list) W' ∧ KX S W W') ∨ (e = .returned (.bool false) ∧ ∃ q, q <+: x.list ∧ Jx (pre ++ q) W') := by
  induction x using Xt.ind with
  | h x ih =>
    intro n pre W hP hX hB hj hN
    have hdd : ∀ k : Nat, (Fence.wide.depth.isSome = true → 1 ≤ k) := fun k h => by cases h
    have h9 := hX.len.1
    unfold maxLen at h9
    have hx1 := Xt.size_pos x
    have hns : ∀ k, B ≤ k → ¬ S k := fun k hk hs => by have := (hS k hs).2; omega
    obtain ⟨b0, b1, b2, b3, b4, b5⟩ := bx_box W x
    -- the round at x itself, with what the walk wants next beside it
    have hy0 := YieldAt.mono (R' := fun e W2 =>
        (e = .returned (.bool true) ∧ J (pre ++ [x]) W2 ∧ KX S W W2 ∧ RdX W2 n₀ x ∧ W.heap.size < W2.heap.size ∧ W2.cell? ⟨W.heap.size, 0, none⟩ = some (.int .i64 x.k) ∧ W2.cell? ⟨W.heap.size, 1, none⟩ = some (.int .i64 x.op) ∧ W2.cell? ⟨W.heap.size, 2, none⟩ = some (.int .i64 x.t) ∧ W2.cell? ⟨W.heap.size, 3, none⟩ = some (.int .i64 x.v) ∧ W2.cell? ⟨W.heap.size, 4, none⟩ = some (.string x.nm) ∧ W2.cell? ⟨W.heap.size, 5, none⟩ = some (.slice x.A x.ar.length x.c)) ∨
        (e = .returned (.bool false) ∧ Jx (pre ++ [x]) W2)) (hY (n - 1) pre x (bxW W x) (hP x (by rw [Xt.list_eq]; simp)) (abides_below hJ hj (bel_box _)) (by omega)) fun e W2 h => h.elim (fun ⟨he, hj2, hk⟩ => .inl ⟨he, hj2, (KX.of_below (bel_box _)).trans hk, (hX.kx (KX.of_below (bel_box _)) (fun k hs => (hS k hs).1)).kx hk (fun k hs => (hS k hs).1), by have := hk.1; rw [bxW_size] at this; omega,
          hk.cell (a := ⟨_, _, none⟩) (hns _ hB) b0, hk.cell (a := ⟨_, _, none⟩) (hns _ hB) b1, hk.cell (a := ⟨_, _, none⟩) (hns _ hB) b2, hk.cell (a := ⟨_, _, none⟩) (hns _ hB) b3, hk.cell (a := ⟨_, _, none⟩) (hns _ hB) b4, hk.cell (a := ⟨_, _, none⟩) (hns _ hB) b5⟩) .inr
    have IH := Lib.hid ih
    have HX := Lib.hid hX
    have HP := Lib.hid hP
    obtain ⟨L, hL, hL0, HL⟩ := parts_list x
    rw [hL] at hP
    have HPL := Lib.hid hP
    clear hP HP
    rw [hL]
    have HA := Lib.hid (fun W => arguments_any x W)
    clear hX ih b0 b1 b2 b3 b4 b5 hY
    simp only [xV] at hy0 HA IH ⊢
    obtain ⟨fn, tmps, assign, body, hy, hR⟩ := hy0
    refine callsIn_of_wp Tryz.func63 rfl trivial ?_ rfl
    simp only [Tryz.ntmps63, List.size_toArray, List.length_cons, List.length_nil, Nat.reduceAdd, Nat.reduceSub, Array.replicate_succ, Array.replicate_zero, List.push_toArray, List.append_toArray, List.nil_append, List.cons_append]
    gi_wp2_with (first
      | ((try refine ⟨hdd _, ?_⟩); refine hR.mono ?_; clear hR; rintro e W2 (⟨rfl, hJ2, hk2, hX2, hz2, d0, d1, d2, d3, d4, d5⟩ | ⟨rfl, hx2⟩))
      | (refine ⟨trivial, hdd _, ?_⟩; gi_at_call 41; refine (callsIn_wide.2 (HA.out _)).mono ?_; rintro e W3 ⟨rfl, hb3⟩))
    · clear HA hy
      have hJ3 := abides_below hJ hJ2 hb3
      have hk3 : KX S W W3 := hk2.trans (KX.of_below hb3)
      clear hX2 hz2 d0 d1 d2 d3 d4 d5 hJ2 hk2 hb3
      gi_loopw [17] (fun i wr => ∃ k : Nat, k ≤ x.ar.length ∧ i = .int .i64 (k : Int) ∧ J (pre ++ x :: L k) wr ∧ KX S W wr) (fun i _ => x.ar.length - (intOf i).toNat)
      case atStart => exact ⟨0, by omega, rfl, by rw [hL0]; exact hJ3, hk3⟩
      case round =>
        obtain ⟨k, hk, rfl, hJk, hkk⟩ := hrel
        by_cases hlt : k < x.ar.length
        · have hXr := HX.out.kx hkk (fun k hs => (hS k hs).1)
          obtain ⟨ad, y, hA, had, hy, hm, ⟨c0, c1, c2, c3, c4, c5⟩, hr⟩ := hXr.at_ hlt
          obtain ⟨e1, e2, r, e3⟩ := HL.out k y hy
          have hcall := (IH.out y hm (n - 1) (pre ++ x :: L k) (bxW wr y) (fun z hz => HPL.out z (List.mem_cons.2 (.inr (by rw [← e3]; simp [hz])))) (hr.kx (KX.of_below (S := S) (bel_box _)) (fun k hs => (hS k hs).1)) (by rw [bxW_size]; have := hkk.1; omega) (abides_below hJ hJk (bel_box _)) (by simp only [List.length_append, List.length_cons]; omega)).mono (R' := fun e W5 =>
            (e = .returned (.bool true) ∧ J (pre ++ x :: L (k + 1)) W5 ∧ KX S W W5) ∨ (e = .returned (.bool false) ∧ ∃ q, q <+: x :: L x.ar.length ∧ Jx (pre ++ q) W5)) (fun e W5 h => h.elim
              (fun ⟨he, hj5, hk5⟩ => .inl ⟨he, by rw [e1]; simpa [List.append_assoc] using hj5, (hkk.trans (KX.of_below (bel_box _))).trans hk5⟩)
              (fun ⟨he, q, ⟨t, ht⟩, hx5⟩ => .inr ⟨he, x :: L k ++ q, ⟨t ++ r, by rw [← e3, ← ht]; simp [List.append_assoc]⟩, by simpa [List.append_assoc] using hx5⟩))
          have HC := Lib.hid hcall
          clear hcall hXr hr e1 e2 e3 hy hJk hkk IH HL HPL
          rw [hA]
          clear hA
          gi_wp2_with (refine ⟨trivial, hdd _, ?_⟩; gi_at_call 63; refine HC.out.mono ?_; clear HC; rintro e W5 (⟨rfl, hJ5, hk5⟩ | ⟨rfl, q, hq, hx5⟩))
          · exact ⟨⟨k + 1, by omega, by congr 1, hJ5, hk5⟩, by simp [intOf]; omega⟩
          · go_ret
            exact .inr ⟨rfl, q, hq, hx5⟩
        · obtain rfl : k = x.ar.length := by omega
          gi_wp2
          go_ret
          exact .inl ⟨rfl, hJk, hkk⟩
    · go_ret
      exact .inr ⟨rfl, [x], ⟨L x.ar.length, rfl⟩, hx2⟩
end Go.Proofs.YtfogkcccjemloaaGreatDoor
/- within of the program, and Size. -/
namespace Go.Proofs.YtfogkcccjemloaaGreatDoor
set_option linter.unusedVariables false
set_option linter.unusedSimpArgs false
open Go.RowKit Go.Shelf
attribute [local go_sem] Oper.semAt_some
theorem KX.set {S : Nat → Prop} {W : World} {a : Addr} (hs : S a.block) (v : Value) : KX S W (W.setCell a v) := by
  refine ⟨by simp [World.setCell], fun k o hk ho _ => ?_⟩
  rw [heap_setCell_other W a k v (fun e => hk (by rw [e]; exact hs))]
  exact ho
theorem KX_t {S : Nat → Prop} : ∀ {A B C : World}, KX S A B → KX S B C → KX S A C := fun h g => h.trans g
theorem KX_b {S : Nat → Prop} {N : Nat} : ∀ (W : World) (l : Nat) (o o' : Obj), N ≤ l → W.heap[l]? = some o → o.isCells = false → o.isWalk = false → KX S W (W.putObj l o') := fun W l o o' _ ho hc _ => KX.put W l o o' ho hc
set_option maxHeartbeats 400000 in
/-- the closure that within hands back: e in a box of six cells, parts in a box -/
theorem within_any (x : Xt) (f : Nat) (w : World) : Calls Tryz.prog 40 #[xV x, .func (.func f) #[] #[]] w (fun e w' => e = .returned (.func (.func 62) #[] #[.pointer (some ⟨w.heap.size, 0, none⟩), .pointer (some ⟨w.heap.size + 1, 0, none⟩)]) ∧ w' = (bxW w x).alloc (.cells #[.func (.func f) #[] #[]] 42)) := by
  simp only [xV]
  go_enter Tryz.func40, Tryz.ntmps40
  go_wp2
  go_ret
  exact ⟨rfl, rfl⟩
set_option maxHeartbeats 1000000 in
set_option maxRecDepth 100000 in
/-- what within hands back yields the expressions in preorder -/
theorem within_stops (n be bp n₀ : Nat) (S : Nat → Prop) (x : Xt) (w : World) (hS : ∀ k, S k → n₀ ≤ k ∧ k < w.heap.size) (hn₀ : n₀ ≤ w.heap.size) (hbe : be < w.heap.size) (hbp : bp < w.heap.size) (hX : RdX w n₀ x)
    (c0 : w.cell? ⟨be, 0, none⟩ = some (.int .i64 x.k)) (c1 : w.cell? ⟨be, 1, none⟩ = some (.int .i64 x.op)) (c2 : w.cell? ⟨be, 2, none⟩ = some (.int .i64 x.t)) (c3 : w.cell? ⟨be, 3, none⟩ = some (.int .i64 x.v)) (c4 : w.cell? ⟨be, 4, none⟩ = some (.string x.nm)) (c5 : w.cell? ⟨be, 5, none⟩ = some (.slice x.A x.ar.length x.c)) (cp : w.cell? ⟨bp, 0, none⟩ = some (.func (.func 41) #[] #[])) :
    SeqStopsK Fence.wide n Tryz.prog 62 #[.pointer (some ⟨be, 0, none⟩), .pointer (some ⟨bp, 0, none⟩)] (fun y : Xt => #[xV y]) (KX S) (fun ys => ys = x.list) (fun pre => pre <+: x.list) x.size w := by
  intro l J Jx W hW hJ _ hY h0
  have hdd : ∀ k : Nat, (Fence.wide.depth.isSome = true → 1 ≤ k) := fun k h => by cases h
  have hWs := hW.size
  have d0 := (hW.cell (p := ⟨be, 0, none⟩) hbe).trans c0
  have d1 := (hW.cell (p := ⟨be, 1, none⟩) hbe).trans c1
  have d2 := (hW.cell (p := ⟨be, 2, none⟩) hbe).trans c2
  have d3 := (hW.cell (p := ⟨be, 3, none⟩) hbe).trans c3
  have d4 := (hW.cell (p := ⟨be, 4, none⟩) hbe).trans c4
  have d5 := (hW.cell (p := ⟨be, 5, none⟩) hbe).trans c5
  have dp := (hW.cell (p := ⟨bp, 0, none⟩) hbp).trans cp
  have hp := walk_each_in l n₀ W.heap.size x.size S (fun k hs => ⟨(hS k hs).1, by have := (hS k hs).2; omega⟩) J Jx hJ (fun _ => True) (fun m pre y W1 _ hj hl => yield_any rfl m (hY pre y W1 hj hl)) x (n - 1) [] W (fun _ _ => trivial) (hX.blw (hW.mono hn₀) (Nat.le_refl _)) (Nat.le_refl _) h0 (by simp)
  simp only [List.nil_append, xV] at hp
  clear hY c0 c1 c2 c3 c4 c5 cp
  simp only [List.append_toArray, List.cons_append, List.nil_append, Array.append_eq_append] at *
  refine callsIn_of_wp Tryz.func62 rfl trivial ?_ rfl
  simp only [Tryz.ntmps62, List.size_toArray, List.length_cons, List.length_nil, Nat.reduceAdd, Nat.reduceSub, Array.replicate_succ, Array.replicate_zero, List.push_toArray, List.append_toArray, List.nil_append, List.cons_append]
  gi_wp2_with (refine ⟨trivial, hdd _, ?_⟩; gi_at_call 63; refine hp.mono ?_; clear hp; rintro e W1 (⟨rfl, hJ1, _⟩ | ⟨rfl, q, hq, hx⟩))
  · go_end0
    exact ⟨⟨_, rfl⟩, .inl ⟨_, rfl, hJ1⟩⟩
  · go_end0
    exact ⟨⟨_, rfl⟩, .inr ⟨q, hq, hx⟩⟩
set_option maxHeartbeats 2000000 in
set_option maxRecDepth 100000 in
theorem size_any (x : Xt) (w : World) (hX : RdX w w.heap.size x) (hs : x.size ≤ 100000) : Calls Tryz.prog 14 #[xV x] w (Bel (.int .i64 (x.size : Nat)) w) := by
  have hdd : ∀ k : Nat, (Fence.wide.depth.isSome = true → 1 ≤ k) := fun k h => by cases h
  have KW := Lib.hid (fun W => within_any x 41 W)
  have HX := Lib.hid hX
  clear hX
  simp only [xV] at KW ⊢
  refine (callsIn_wide (n := 3)).1 ?_
  refine callsIn_of_wp_marks Tryz.func14 rfl trivial ?_ rfl
  simp only [Tryz.ntmps14, List.size_toArray, List.length_cons, List.length_nil, Nat.reduceAdd, Nat.reduceSub, Array.replicate_succ, Array.replicate_zero, List.push_toArray, List.append_toArray, List.nil_append, List.cons_append]
  gi_wp2_with (refine ⟨trivial, ?_⟩; gi_at_call 40; refine (callsIn_wide.2 (KW.out _)).mono ?_; rintro e W1 ⟨rfl, rfl⟩)
  obtain ⟨W0, hW0⟩ : ∃ W0, ((bxW ((bxW w x).alloc (.cells #[.int .i64 0] 3)) x).alloc (.cells #[.func (.func 41) #[] #[]] 42)) = W0 := ⟨_, rfl⟩
  have hV : Below (bxW ((bxW w x).alloc (.cells #[.int .i64 0] 3)) x).heap.size (bxW ((bxW w x).alloc (.cells #[.int .i64 0] 3)) x) W0 := by rw [← hW0]; exact bel_box _
  obtain ⟨b0, b1, b2, b3, b4, b5, _⟩ := bxW_cells hV
  have hz : W0.heap.size = w.heap.size + 4 := by rw [← hW0]; simp only [World.size_alloc]
  have hz1 : ((bxW w x).alloc (.cells #[.int .i64 0] 3)).heap.size = w.heap.size + 2 := by simp only [World.size_alloc]
  have hB1 : Below ((bxW w x).alloc (.cells #[.int .i64 0] 3)).heap.size ((bxW w x).alloc (.cells #[.int .i64 0] 3)) W0 := bxW_below hV
  have hB0 : Below w.heap.size w W0 := (bxW_below (bel_box _)).trans (hB1.mono (by rw [hz1]; omega))
  have hc : W0.cell? ⟨w.heap.size + 1, 0, none⟩ = some (.int .i64 0) := (hB1.cell (p := ⟨w.heap.size + 1, 0, none⟩) (by rw [hz1]; simp)).trans (by simp [go_sem])
  have hf : W0.frozen? ⟨w.heap.size + 1, 0, none⟩ = false := (hB1.frozen (p := ⟨w.heap.size + 1, 0, none⟩) (by rw [hz1]; simp)).trans (by simp [go_sem])
  have cp : W0.cell? ⟨w.heap.size + 3, 0, none⟩ = some (.func (.func 41) #[] #[]) := by rw [← hW0]; simp [go_sem]
  rw [hz1] at b0 b1 b2 b3 b4 b5
  have hst := within_stops (3 - 1) (w.heap.size + 2) (w.heap.size + 3) w.heap.size (fun k => k = w.heap.size + 1) x W0 (fun k hk => by subst hk; omega) (by omega) (by omega) (by omega) (HX.out.blw hB0 (Nat.le_refl _)) b0 b1 b2 b3 b4 b5 cp
  rw [show ((bxW ((w.alloc (Obj.cells #[.int .i64 x.k, .int .i64 x.op, .int .i64 x.t, .int .i64 x.v, .string x.nm, .slice x.A x.ar.length x.c] 24)).alloc (.cells #[.int .i64 0] 3)) x).alloc (.cells #[.func (.func 41) #[] #[]] 42)) = W0 from hW0]
  clear hW0 hV hB1 b0 b1 b2 b3 b4 b5 cp hz1 KW HX
  have hll := list_length x
  refine wpIn_rangeFunc_ownF rfl (by decide) (gf := 62) (lb := #[.pointer (some ⟨w.heap.size + 2, 0, none⟩), .pointer (some ⟨w.heap.size + 3, 0, none⟩)]) rfl trivial (enters_of Tryz.func62 (by kernel_rfl) rfl)
    hst KX_t KX_b (Below.refl _ _) (fun _ => rfl)
    (fun pre W => (W.cell? ⟨w.heap.size + 1, 0, none⟩ = some (.int .i64 (pre.length : Int)) ∧ W.frozen? ⟨w.heap.size + 1, 0, none⟩ = false) ∧ Below w.heap.size w W)
    (fun _ _ _ => False)
    (OwnFrom.and (Own.from (fun s A B row hs hg hr => ⟨cell_kept hs.1 hg hr, (frozen_kept hs.1 hg hr).trans hs.2⟩) _) (ownFrom_below (Nat.le_refl _) (by omega)))
    (fun _ _ _ _ _ hs _ _ => hs)
    ⟨⟨hc, hf⟩, hB0⟩
    (fun y => { tmps := #[.agg #[.int .i64 x.k, .int .i64 x.op, .int .i64 x.t, .int .i64 x.v, .string x.nm, .slice x.A x.ar.length x.c], .pointer (some ⟨w.heap.size, 0, none⟩), .int .i64 0, .pointer (some ⟨w.heap.size + 1, 0, none⟩), .agg #[.int .i64 x.k, .int .i64 x.op, .int .i64 x.t, .int .i64 x.v, .string x.nm, .slice x.A x.ar.length x.c], .func (.func 62) #[] #[.pointer (some ⟨w.heap.size + 2, 0, none⟩), .pointer (some ⟨w.heap.size + 3, 0, none⟩)], xV y, undef, undef, undef], defers := [] }) ?assign ?body ?done ?stop
  case assign =>
    intro l y W K hK
    gi_wp2
    simpa using hK
  case body =>
    rintro l pre y W ⟨⟨hc, hf⟩, hB⟩ hlt
    gi_wp2
    exact ⟨KeepsOthers.setCell _ _ _, KX.set (S := fun k => k = w.heap.size + 1) (a := ⟨w.heap.size + 1, 0, none⟩) rfl _, ⟨by rw [List.length_append, List.length_singleton]; exact World.cell?_setCell_same' _ _ _ (by rw [hc]; rfl), by rw [World.frozen?_setCell]; exact hf⟩, hB.setCell (p := ⟨w.heap.size + 1, 0, none⟩) (by simp) _⟩
  case done =>
    rintro D ys W hD rfl ⟨⟨hc, _⟩, hB⟩ hK
    rw [hll] at hc
    gi_wp2
    refine ⟨by simp, .inl ⟨_, _, rfl, run_takeDeferred hK, ?_⟩⟩
    exact ⟨_, results_tmp rfl _ _ _, rfl, hB.trans (belowK_b (w := w) (Nat.le_refl _) W D _ _ (by omega) hK rfl rfl)⟩
  case stop =>
    rintro D c pre W _ _ h _
    exact h.elim
end Go.Proofs.YtfogkcccjemloaaGreatDoor
/- Count and Stateless of the program. -/
namespace Go.Proofs.YtfogkcccjemloaaGreatDoor
set_option linter.unusedVariables false
set_option linter.unusedSimpArgs false
open Go.RowKit Go.Shelf
attribute [local go_sem] Oper.semAt_some
/-- the world that within leaves -/
abbrev inW (w : World) (x : Xt) (f : Nat) : World := (bxW w x).alloc (.cells #[.func (.func f) #[] #[]] 42)
theorem inW_size (w : World) (x : Xt) (f : Nat) : (inW w x f).heap.size = w.heap.size + 2 := by simp only [World.size_alloc]
theorem inW_below (w : World) (x : Xt) (f : Nat) : Below w.heap.size w (inW w x f) := bxW_below (bel_box _)
theorem within_at (n n₀ : Nat) (S : Nat → Prop) (x : Xt) (w : World) (hS : ∀ k, S k → n₀ ≤ k ∧ k < w.heap.size) (hn₀ : n₀ ≤ w.heap.size) (hX : RdX w n₀ x) :
    SeqStopsK Fence.wide n Tryz.prog 62 #[.pointer (some ⟨w.heap.size, 0, none⟩), .pointer (some ⟨w.heap.size + 1, 0, none⟩)] (fun y : Xt => #[xV y]) (KX S) (fun ys => ys = x.list) (fun pre => pre <+: x.list) x.size (inW w x 41) := by
  obtain ⟨b0, b1, b2, b3, b4, b5, _⟩ := bxW_cells (w := w) (x := x) (W := inW w x 41) (bel_box _)
  exact within_stops n w.heap.size (w.heap.size + 1) n₀ S x _ (fun k hs => ⟨(hS k hs).1, by rw [inW_size]; have := (hS k hs).2; omega⟩) (by rw [inW_size]; omega) (by rw [inW_size]; omega) (by rw [inW_size]; omega) (hX.blw ((inW_below w x _).mono hn₀) (Nat.le_refl _)) b0 b1 b2 b3 b4 b5 (by simp [go_sem])
theorem inW_old {w : World} {x : Xt} {f : Nat} {b : Nat} {i : Nat} (h : b < w.heap.size) : (inW w x f).cell? ⟨b, i, none⟩ = w.cell? ⟨b, i, none⟩ ∧ (inW w x f).frozen? ⟨b, i, none⟩ = w.frozen? ⟨b, i, none⟩ :=
  ⟨(inW_below w x f).cell (p := ⟨b, i, none⟩) h, (inW_below w x f).frozen (p := ⟨b, i, none⟩) h⟩
theorem fold1 (t : Array Value) (p : Nat) (v : Value) : (#[p].zip #[v]).foldl (fun t (x : Nat × Value) => match x with | (p, v) => t.setIfInBounds p v) t = t.setIfInBounds p v := by simp
theorem cell_al {W : World} {a : Addr} {v : Value} (o : Obj) (h : W.cell? a = some v) : (W.alloc o).cell? a = some v := cell_kept h (World.grownBy_alloc W o none) (fun r e => by cases e)
theorem frozen_al {W : World} {a : Addr} {v : Value} (o : Obj) (h : W.cell? a = some v) (hf : W.frozen? a = false) : (W.alloc o).frozen? a = false := (frozen_kept h (World.grownBy_alloc W o none) (fun r e => by cases e)).trans hf
set_option maxHeartbeats 2000000 in
set_option maxRecDepth 100000 in
theorem count_any (x : Xt) (kd : Int) (w : World) (hX : RdX w w.heap.size x) (hs : x.size ≤ 100000) : Calls Tryz.prog 18 #[xV x, .int .i64 kd] w (Bel (.int .i64 ((x.list.countP fun y => y.k == kd) : Nat)) w) := by
  have hdd : ∀ k : Nat, (Fence.wide.depth.isSome = true → 1 ≤ k) := fun k h => by cases h
  have KW := Lib.hid (fun W => within_any x 41 W)
  have HX := Lib.hid hX
  clear hX
  simp only [xV] at KW ⊢
  refine (callsIn_wide (n := 3)).1 ?_
  refine callsIn_of_wp_marks Tryz.func18 rfl trivial ?_ rfl
  simp only [Tryz.ntmps18, List.size_toArray, List.length_cons, List.length_nil, Nat.reduceAdd, Nat.reduceSub, Array.replicate_succ, Array.replicate_zero, List.push_toArray, List.append_toArray, List.nil_append, List.cons_append]
  gi_wp2_with (refine ⟨trivial, ?_⟩; gi_at_call 40; refine (callsIn_wide.2 (KW.out _)).mono ?_; rintro e W1 ⟨rfl, rfl⟩)
  obtain ⟨Wc, hWc⟩ : ∃ Wc, (((bxW w x).alloc (.cells #[.int .i64 kd] 3)).alloc (.cells #[.int .i64 0] 3)) = Wc := ⟨_, rfl⟩
  have hz : Wc.heap.size = w.heap.size + 3 := by rw [← hWc]; simp only [World.size_alloc]
  have hBc : Below w.heap.size w Wc := by rw [← hWc]; exact bel_alloc (bel_alloc (bel_box _) _) _
  have g1 : Wc.cell? ⟨w.heap.size + 1, 0, none⟩ = some (.int .i64 kd) := by rw [← hWc]; simp [go_sem]
  have g2 : Wc.cell? ⟨w.heap.size + 2, 0, none⟩ = some (.int .i64 0) := by rw [← hWc]; simp [go_sem]
  have g3 : Wc.frozen? ⟨w.heap.size + 2, 0, none⟩ = false := by rw [← hWc]; simp [go_sem]
  have hst := within_at (3 - 1) w.heap.size (fun k => k = w.heap.size + 2) x Wc (fun k hk => by subst hk; omega) (by omega) (HX.out.blw hBc (Nat.le_refl _))
  obtain ⟨W0, hW0⟩ : ∃ W0, inW Wc x 41 = W0 := ⟨_, rfl⟩
  have hz0 : W0.heap.size = w.heap.size + 5 := by rw [← hW0, inW_size]; omega
  have hB0 : Below w.heap.size w W0 := by rw [← hW0]; exact hBc.trans ((inW_below Wc x _).mono (by omega))
  have f1 : W0.cell? ⟨w.heap.size + 1, 0, none⟩ = some (.int .i64 kd) := by rw [← hW0]; exact (inW_old (by omega)).1.trans g1
  have f2 : W0.cell? ⟨w.heap.size + 2, 0, none⟩ = some (.int .i64 0) := by rw [← hW0]; exact (inW_old (by omega)).1.trans g2
  have f3 : W0.frozen? ⟨w.heap.size + 2, 0, none⟩ = false := by rw [← hW0]; exact (inW_old (by omega)).2.trans g3
  rw [hz, hW0] at hst
  rw [show (bxW (((w.alloc (Obj.cells #[.int .i64 x.k, .int .i64 x.op, .int .i64 x.t, .int .i64 x.v, .string x.nm, .slice x.A x.ar.length x.c] 24)).alloc (.cells #[.int .i64 kd] 3)).alloc (.cells #[.int .i64 0] 3)) x).alloc (.cells #[.func (.func 41) #[] #[]] 42) = W0 by rw [← hW0, ← hWc]]
  clear hW0 hWc g1 g2 g3 KW HX
  have hll := list_length x
  refine wpIn_rangeFunc_ownH rfl (by decide) (gf := 62) (lb := #[.pointer (some ⟨w.heap.size + 3, 0, none⟩), .pointer (some ⟨w.heap.size + 3 + 1, 0, none⟩)]) rfl trivial (enters_of Tryz.func62 (by kernel_rfl) rfl)
    hst KX_t KX_b (Below.refl _ _) (fun _ => rfl)
    (fun pre W => (W.cell? ⟨w.heap.size + 1, 0, none⟩ = some (.int .i64 kd) ∧ W.cell? ⟨w.heap.size + 2, 0, none⟩ = some (.int .i64 ((pre.countP fun y => y.k == kd) : Nat)) ∧ W.frozen? ⟨w.heap.size + 2, 0, none⟩ = false) ∧ Below w.heap.size w W)
    (fun _ _ _ => False)
    (OwnFrom.and (Own.from (fun s A B row hs hg hr => ⟨cell_kept hs.1 hg hr, cell_kept hs.2.1 hg hr, (frozen_kept hs.2.1 hg hr).trans hs.2.2⟩) _) (ownFrom_below (Nat.le_refl _) (by omega)))
    (fun _ _ _ _ _ hs _ _ => hs)
    ⟨⟨f1, f2, f3⟩, hB0⟩
    (fun y a' W => ∃ Bx, (w.heap.size + 3 ≤ Bx ∧ W.cell? ⟨Bx, 0, none⟩ = some (.int .i64 y.k)) ∧ a' = { tmps := #[.agg #[.int .i64 x.k, .int .i64 x.op, .int .i64 x.t, .int .i64 x.v, .string x.nm, .slice x.A x.ar.length x.c], .int .i64 kd, .pointer (some ⟨w.heap.size, 0, none⟩), .pointer (some ⟨w.heap.size + 1, 0, none⟩), .int .i64 0, .pointer (some ⟨w.heap.size + 1 + 1, 0, none⟩), .pointer (some ⟨Bx, 0, none⟩), .agg #[.int .i64 x.k, .int .i64 x.op, .int .i64 x.t, .int .i64 x.v, .string x.nm, .slice x.A x.ar.length x.c], .func (.func 62) #[] #[.pointer (some ⟨w.heap.size + 3, 0, none⟩), .pointer (some ⟨w.heap.size + 3 + 1, 0, none⟩)], xV y, undef, undef, undef, undef, undef, undef, undef], defers := [] })
    (fun y a' s A B row hs hg hr => by
      obtain ⟨Bx, ⟨h1, h2⟩, h3⟩ := hs
      exact ⟨Bx, ⟨h1, cell_kept h2 hg (fun r e => (hr r e).2)⟩, h3⟩) ?assign ?body ?done ?stop
  case assign =>
    rintro l pre y W K ⟨⟨i1, i2, i3⟩, hB⟩ hK
    rw [fold1]
    simp only [xV] at hK ⊢
    gi_wp2
    have hb := bx_box W y
    exact hK _ _ ((KeepsOthers.alloc _ _).from _) (KX.of_below (bel_box _)) ⟨⟨cell_al _ i1, cell_al _ i2, frozen_al _ i2 i3⟩, bel_alloc hB _⟩ ⟨W.heap.size, ⟨by have := World.block_lt_of_cell? W _ i2; simp only at this; omega, hb.1⟩, rfl⟩
  case body =>
    rintro l pre y a' W hl ⟨r, hr⟩ ⟨⟨i1, i2, i3⟩, hB⟩ ⟨Bx, ⟨hBx, bx⟩, rfl⟩ hlt
    have hcl : (pre.countP fun y => y.k == kd) ≤ pre.length := List.countP_le_length
    have hcs : ((pre ++ [y]).countP fun y => y.k == kd) = (pre.countP fun y => y.k == kd) + (if (y.k == kd) = true then 1 else 0) := by rw [List.countP_append, List.countP_cons, List.countP_nil, Nat.zero_add]
    cases hq : (y.k == kd)
    · rw [hq, if_neg (by simp)] at hcs
      gi_wp2
      exact ⟨(KeepsOthers.refl _).from _, KX.refl _ _, ⟨i1, by rw [hcs]; exact i2, i3⟩, hB⟩
    · rw [hq, if_pos rfl] at hcs
      generalize (pre.countP fun y => y.k == kd) = c at *
      gi_wp2
      exact ⟨(KeepsOthers.setCell _ _ _).from _, KX.set (S := fun k => k = w.heap.size + 2) (a := ⟨w.heap.size + 2, 0, none⟩) rfl _, ⟨(World.cell?_setCell_other _ _ _ _ (by simp)).trans i1, by rw [hcs]; exact World.cell?_setCell_same' _ _ _ (by rw [i2]; rfl), by rw [World.frozen?_setCell]; exact i3⟩, hB.setCell (p := ⟨w.heap.size + 2, 0, none⟩) (by simp) _⟩
  case done =>
    rintro D ys W hD rfl ⟨⟨_, hc, _⟩, hB⟩ hK
    gi_wp2
    refine ⟨by simp, .inl ⟨_, _, rfl, run_takeDeferred hK, ?_⟩⟩
    exact ⟨_, results_tmp rfl _ _ _, rfl, hB.trans (belowK_b (w := w) (Nat.le_refl _) W D _ _ (by omega) hK rfl rfl)⟩
  case stop =>
    rintro D c pre W _ _ h _
    exact h.elim
end Go.Proofs.YtfogkcccjemloaaGreatDoor
/- form of the reference. -/
namespace Go.Proofs.YtfogkcccjemloaaGreatDoor
set_option linter.unusedVariables false
set_option linter.unusedSimpArgs false
open Go.RowKit
theorem bx6 {w W : World} {v0 v1 v2 v3 v4 v5 : Value} {T : TypeId} (h : Below (w.alloc (.cells #[v0, v1, v2, v3, v4, v5] T)).heap.size (w.alloc (.cells #[v0, v1, v2, v3, v4, v5] T)) W) :
    W.cell? ⟨w.heap.size, 0, none⟩ = some v0 ∧ W.cell? ⟨w.heap.size, 1, none⟩ = some v1 ∧ W.cell? ⟨w.heap.size, 2, none⟩ = some v2 ∧ W.cell? ⟨w.heap.size, 3, none⟩ = some v3 ∧ W.cell? ⟨w.heap.size, 4, none⟩ = some v4 ∧ W.cell? ⟨w.heap.size, 5, none⟩ = some v5 := by
  obtain ⟨hc, _, _⟩ := bcell h
  rw [hc _ _ (by simp), hc _ _ (by simp), hc _ _ (by simp), hc _ _ (by simp), hc _ _ (by simp), hc _ _ (by simp)]
  refine ⟨?_, ?_, ?_, ?_, ?_, ?_⟩ <;> simp [go_sem]
def formRP (k op t v : Int) (ba tg ne wok : Bool) : Bool :=
  if k < 1 ∨ 11 < k ∨ ba = false then false
  else if (k == 3) != (op != 0) || (op != 0 && decide (op < 1 ∨ 16 < op)) then false
  else if (!hasIdn k && (k != 11 && !ne)) = true then false
  else if k = 1 then (if t = 2 then decide (-32768 ≤ v ∧ v ≤ 32767) else tg)
  else if k = 8 then tg
  else if k = 9 then (t == 1 || decide (2 < t)) && v == 0
  else if k = 10 then t == 0 && (v == 0 || v == 1)
  else if k = 11 then t == 0 && v == 0 && wok
  else t == 0 && v == 0
set_option maxHeartbeats 4000000 in
set_option maxRecDepth 20000 in
theorem rform_any (x : Xt) (wok : Bool) (w : World) (KP : x.k = 11 → Hid (∀ W, Below w.heap.size w W → Calls Tryz.prog 69 #[.string x.nm] W (fun e w' => ∃ (A1 A2 : Option Addr) (n1 c1 n2 c2 : Nat) (er : Int), e = .returned (.tuple #[.agg #[.slice A1 n1 c1, .slice A2 n2 c2], .int .i64 er]) ∧ (er == 0) = wok ∧ Below W.heap.size W w'))) :
    Calls Tryz.prog 43 #[xV x] w (Bel (.bool (formRP x.k x.op x.t x.v (argP x.k x.op x.t x.v x.ar.length) (tagP x.t x.v) (x.nm.toList == []) wok)) w) := by
  have KA := Lib.hid (fun W => args_any x W)
  have KN := Lib.hid (fun W => named_any x.k W)
  have KT := Lib.hid (fun W => tagged_any x.t x.v W)
  generalize argP x.k x.op x.t x.v x.ar.length = ba at *
  generalize tagP x.t x.v = tg at *
  obtain ⟨ne, hne⟩ : ∃ ne, (x.nm.toList == []) = ne := ⟨_, rfl⟩
  rw [hne]
  cases x with
  | mk k op t v nm A c ar =>
    simp only [xV, Xt.k, Xt.op, Xt.t, Xt.v, Xt.nm, Xt.A, Xt.c, Xt.ar] at *
    by_cases h1 : k = 1
    · subst h1
      have hi : hasIdn 1 = false := rfl
      rw [hi] at KN
      clear KP
      go_enter Tryz.func43, Tryz.ntmps43
      go_wp2_with (first
        | (go_at_call 67; (with_reducible refine (KA.out _).mono ?_); rintro e w1 ⟨rfl, hb1⟩; obtain ⟨b0, b1, b2, b3, b4, b5⟩ := bx6 (w := w) (W := w1) (v0 := .int .i64 1) (v1 := .int .i64 op) (v2 := .int .i64 t) (v3 := .int .i64 v) (v4 := .string nm) (v5 := .slice A ar.length c) (T := 24) (by repeat (first | (with_reducible exact Below.refl _ _) | (with_reducible assumption) | (with_reducible exact bel_box _) | (with_reducible refine bel_step ?_ (by with_reducible assumption)) | (with_reducible refine Below.drew ?_) | (with_reducible refine below_drewN ?_ _) | (with_reducible refine bel_alloc ?_ _))))
        | (go_at_call 34; (with_reducible refine (KN.out _).mono ?_); rintro e w2 ⟨rfl, hb2⟩; obtain ⟨d0, d1, d2, d3, d4, d5⟩ := bx6 (w := w) (W := w2) (v0 := .int .i64 1) (v1 := .int .i64 op) (v2 := .int .i64 t) (v3 := .int .i64 v) (v4 := .string nm) (v5 := .slice A ar.length c) (T := 24) (by repeat (first | (with_reducible exact Below.refl _ _) | (with_reducible assumption) | (with_reducible exact bel_box _) | (with_reducible refine bel_step ?_ (by with_reducible assumption)) | (with_reducible refine Below.drew ?_) | (with_reducible refine below_drewN ?_ _) | (with_reducible refine bel_alloc ?_ _))))
        | (go_at_call 68; (with_reducible refine (KT.out _).mono ?_); rintro e w3 ⟨rfl, hb3⟩))
      all_goals go_ret
      all_goals refine ⟨ret_bool ?_, (by repeat (first | (with_reducible exact Below.refl _ _) | (with_reducible assumption) | (with_reducible exact bel_box _) | (with_reducible refine bel_step ?_ (by with_reducible assumption)) | (with_reducible refine Below.drew ?_) | (with_reducible refine below_drewN ?_ _) | (with_reducible refine bel_alloc ?_ _)))⟩
      all_goals (first | rfl | (simp_all [formRP]; done) | (rw [Bool.eq_iff_iff]; simp_all [formRP]; omega) | (simp [formRP]; omega))
    by_cases h2 : k = 2
    · subst h2
      have hi : hasIdn 2 = true := rfl
      rw [hi] at KN
      clear KP
      go_enter Tryz.func43, Tryz.ntmps43
      go_wp2_with (first
        | (go_at_call 67; (with_reducible refine (KA.out _).mono ?_); rintro e w1 ⟨rfl, hb1⟩; obtain ⟨b0, b1, b2, b3, b4, b5⟩ := bx6 (w := w) (W := w1) (v0 := .int .i64 2) (v1 := .int .i64 op) (v2 := .int .i64 t) (v3 := .int .i64 v) (v4 := .string nm) (v5 := .slice A ar.length c) (T := 24) (by repeat (first | (with_reducible exact Below.refl _ _) | (with_reducible assumption) | (with_reducible exact bel_box _) | (with_reducible refine bel_step ?_ (by with_reducible assumption)) | (with_reducible refine Below.drew ?_) | (with_reducible refine below_drewN ?_ _) | (with_reducible refine bel_alloc ?_ _))))
        | (go_at_call 34; (with_reducible refine (KN.out _).mono ?_); rintro e w2 ⟨rfl, hb2⟩; obtain ⟨d0, d1, d2, d3, d4, d5⟩ := bx6 (w := w) (W := w2) (v0 := .int .i64 2) (v1 := .int .i64 op) (v2 := .int .i64 t) (v3 := .int .i64 v) (v4 := .string nm) (v5 := .slice A ar.length c) (T := 24) (by repeat (first | (with_reducible exact Below.refl _ _) | (with_reducible assumption) | (with_reducible exact bel_box _) | (with_reducible refine bel_step ?_ (by with_reducible assumption)) | (with_reducible refine Below.drew ?_) | (with_reducible refine below_drewN ?_ _) | (with_reducible refine bel_alloc ?_ _))))
        | (go_at_call 68; (with_reducible refine (KT.out _).mono ?_); rintro e w3 ⟨rfl, hb3⟩))
      all_goals go_ret
      all_goals refine ⟨ret_bool ?_, (by repeat (first | (with_reducible exact Below.refl _ _) | (with_reducible assumption) | (with_reducible exact bel_box _) | (with_reducible refine bel_step ?_ (by with_reducible assumption)) | (with_reducible refine Below.drew ?_) | (with_reducible refine below_drewN ?_ _) | (with_reducible refine bel_alloc ?_ _)))⟩
      all_goals (first | rfl | (simp_all [formRP]; done) | (rw [Bool.eq_iff_iff]; simp_all [formRP]; omega) | (simp [formRP]; omega))
    by_cases h3 : k = 3
    · subst h3
      have hi : hasIdn 3 = false := rfl
      rw [hi] at KN
      clear KP
      go_enter Tryz.func43, Tryz.ntmps43
      go_wp2_with (first
        | (go_at_call 67; (with_reducible refine (KA.out _).mono ?_); rintro e w1 ⟨rfl, hb1⟩; obtain ⟨b0, b1, b2, b3, b4, b5⟩ := bx6 (w := w) (W := w1) (v0 := .int .i64 3) (v1 := .int .i64 op) (v2 := .int .i64 t) (v3 := .int .i64 v) (v4 := .string nm) (v5 := .slice A ar.length c) (T := 24) (by repeat (first | (with_reducible exact Below.refl _ _) | (with_reducible assumption) | (with_reducible exact bel_box _) | (with_reducible refine bel_step ?_ (by with_reducible assumption)) | (with_reducible refine Below.drew ?_) | (with_reducible refine below_drewN ?_ _) | (with_reducible refine bel_alloc ?_ _))))
        | (go_at_call 34; (with_reducible refine (KN.out _).mono ?_); rintro e w2 ⟨rfl, hb2⟩; obtain ⟨d0, d1, d2, d3, d4, d5⟩ := bx6 (w := w) (W := w2) (v0 := .int .i64 3) (v1 := .int .i64 op) (v2 := .int .i64 t) (v3 := .int .i64 v) (v4 := .string nm) (v5 := .slice A ar.length c) (T := 24) (by repeat (first | (with_reducible exact Below.refl _ _) | (with_reducible assumption) | (with_reducible exact bel_box _) | (with_reducible refine bel_step ?_ (by with_reducible assumption)) | (with_reducible refine Below.drew ?_) | (with_reducible refine below_drewN ?_ _) | (with_reducible refine bel_alloc ?_ _))))
        | (go_at_call 68; (with_reducible refine (KT.out _).mono ?_); rintro e w3 ⟨rfl, hb3⟩))
      all_goals go_ret
      all_goals refine ⟨ret_bool ?_, (by repeat (first | (with_reducible exact Below.refl _ _) | (with_reducible assumption) | (with_reducible exact bel_box _) | (with_reducible refine bel_step ?_ (by with_reducible assumption)) | (with_reducible refine Below.drew ?_) | (with_reducible refine below_drewN ?_ _) | (with_reducible refine bel_alloc ?_ _)))⟩
      all_goals (first | rfl | (simp_all [formRP]; done) | (rw [Bool.eq_iff_iff]; simp_all [formRP]; omega) | (simp [formRP]; omega))
    by_cases h4 : k = 4
    · subst h4
      have hi : hasIdn 4 = false := rfl
      rw [hi] at KN
      clear KP
      go_enter Tryz.func43, Tryz.ntmps43
      go_wp2_with (first
        | (go_at_call 67; (with_reducible refine (KA.out _).mono ?_); rintro e w1 ⟨rfl, hb1⟩; obtain ⟨b0, b1, b2, b3, b4, b5⟩ := bx6 (w := w) (W := w1) (v0 := .int .i64 4) (v1 := .int .i64 op) (v2 := .int .i64 t) (v3 := .int .i64 v) (v4 := .string nm) (v5 := .slice A ar.length c) (T := 24) (by repeat (first | (with_reducible exact Below.refl _ _) | (with_reducible assumption) | (with_reducible exact bel_box _) | (with_reducible refine bel_step ?_ (by with_reducible assumption)) | (with_reducible refine Below.drew ?_) | (with_reducible refine below_drewN ?_ _) | (with_reducible refine bel_alloc ?_ _))))
        | (go_at_call 34; (with_reducible refine (KN.out _).mono ?_); rintro e w2 ⟨rfl, hb2⟩; obtain ⟨d0, d1, d2, d3, d4, d5⟩ := bx6 (w := w) (W := w2) (v0 := .int .i64 4) (v1 := .int .i64 op) (v2 := .int .i64 t) (v3 := .int .i64 v) (v4 := .string nm) (v5 := .slice A ar.length c) (T := 24) (by repeat (first | (with_reducible exact Below.refl _ _) | (with_reducible assumption) | (with_reducible exact bel_box _) | (with_reducible refine bel_step ?_ (by with_reducible assumption)) | (with_reducible refine Below.drew ?_) | (with_reducible refine below_drewN ?_ _) | (with_reducible refine bel_alloc ?_ _))))
        | (go_at_call 68; (with_reducible refine (KT.out _).mono ?_); rintro e w3 ⟨rfl, hb3⟩))
      all_goals go_ret
      all_goals refine ⟨ret_bool ?_, (by repeat (first | (with_reducible exact Below.refl _ _) | (with_reducible assumption) | (with_reducible exact bel_box _) | (with_reducible refine bel_step ?_ (by with_reducible assumption)) | (with_reducible refine Below.drew ?_) | (with_reducible refine below_drewN ?_ _) | (with_reducible refine bel_alloc ?_ _)))⟩
      all_goals (first | rfl | (simp_all [formRP]; done) | (rw [Bool.eq_iff_iff]; simp_all [formRP]; omega) | (simp [formRP]; omega))
    by_cases h5 : k = 5
    · subst h5
      have hi : hasIdn 5 = false := rfl
      rw [hi] at KN
      clear KP
      go_enter Tryz.func43, Tryz.ntmps43
      go_wp2_with (first
        | (go_at_call 67; (with_reducible refine (KA.out _).mono ?_); rintro e w1 ⟨rfl, hb1⟩; obtain ⟨b0, b1, b2, b3, b4, b5⟩ := bx6 (w := w) (W := w1) (v0 := .int .i64 5) (v1 := .int .i64 op) (v2 := .int .i64 t) (v3 := .int .i64 v) (v4 := .string nm) (v5 := .slice A ar.length c) (T := 24) (by repeat (first | (with_reducible exact Below.refl _ _) | (with_reducible assumption) | (with_reducible exact bel_box _) | (with_reducible refine bel_step ?_ (by with_reducible assumption)) | (with_reducible refine Below.drew ?_) | (with_reducible refine below_drewN ?_ _) | (with_reducible refine bel_alloc ?_ _))))
        | (go_at_call 34; (with_reducible refine (KN.out _).mono ?_); rintro e w2 ⟨rfl, hb2⟩; obtain ⟨d0, d1, d2, d3, d4, d5⟩ := bx6 (w := w) (W := w2) (v0 := .int .i64 5) (v1 := .int .i64 op) (v2 := .int .i64 t) (v3 := .int .i64 v) (v4 := .string nm) (v5 := .slice A ar.length c) (T := 24) (by repeat (first | (with_reducible exact Below.refl _ _) | (with_reducible assumption) | (with_reducible exact bel_box _) | (with_reducible refine bel_step ?_ (by with_reducible assumption)) | (with_reducible refine Below.drew ?_) | (with_reducible refine below_drewN ?_ _) | (with_reducible refine bel_alloc ?_ _))))
        | (go_at_call 68; (with_reducible refine (KT.out _).mono ?_); rintro e w3 ⟨rfl, hb3⟩))
      all_goals go_ret
      all_goals refine ⟨ret_bool ?_, (by repeat (first | (with_reducible exact Below.refl _ _) | (with_reducible assumption) | (with_reducible exact bel_box _) | (with_reducible refine bel_step ?_ (by with_reducible assumption)) | (with_reducible refine Below.drew ?_) | (with_reducible refine below_drewN ?_ _) | (with_reducible refine bel_alloc ?_ _)))⟩
      all_goals (first | rfl | (simp_all [formRP]; done) | (rw [Bool.eq_iff_iff]; simp_all [formRP]; omega) | (simp [formRP]; omega))
    by_cases h6 : k = 6
    · subst h6
      have hi : hasIdn 6 = false := rfl
      rw [hi] at KN
      clear KP
      go_enter Tryz.func43, Tryz.ntmps43
      go_wp2_with (first
        | (go_at_call 67; (with_reducible refine (KA.out _).mono ?_); rintro e w1 ⟨rfl, hb1⟩; obtain ⟨b0, b1, b2, b3, b4, b5⟩ := bx6 (w := w) (W := w1) (v0 := .int .i64 6) (v1 := .int .i64 op) (v2 := .int .i64 t) (v3 := .int .i64 v) (v4 := .string nm) (v5 := .slice A ar.length c) (T := 24) (by repeat (first | (with_reducible exact Below.refl _ _) | (with_reducible assumption) | (with_reducible exact bel_box _) | (with_reducible refine bel_step ?_ (by with_reducible assumption)) | (with_reducible refine Below.drew ?_) | (with_reducible refine below_drewN ?_ _) | (with_reducible refine bel_alloc ?_ _))))
        | (go_at_call 34; (with_reducible refine (KN.out _).mono ?_); rintro e w2 ⟨rfl, hb2⟩; obtain ⟨d0, d1, d2, d3, d4, d5⟩ := bx6 (w := w) (W := w2) (v0 := .int .i64 6) (v1 := .int .i64 op) (v2 := .int .i64 t) (v3 := .int .i64 v) (v4 := .string nm) (v5 := .slice A ar.length c) (T := 24) (by repeat (first | (with_reducible exact Below.refl _ _) | (with_reducible assumption) | (with_reducible exact bel_box _) | (with_reducible refine bel_step ?_ (by with_reducible assumption)) | (with_reducible refine Below.drew ?_) | (with_reducible refine below_drewN ?_ _) | (with_reducible refine bel_alloc ?_ _))))
        | (go_at_call 68; (with_reducible refine (KT.out _).mono ?_); rintro e w3 ⟨rfl, hb3⟩))
      all_goals go_ret
      all_goals refine ⟨ret_bool ?_, (by repeat (first | (with_reducible exact Below.refl _ _) | (with_reducible assumption) | (with_reducible exact bel_box _) | (with_reducible refine bel_step ?_ (by with_reducible assumption)) | (with_reducible refine Below.drew ?_) | (with_reducible refine below_drewN ?_ _) | (with_reducible refine bel_alloc ?_ _)))⟩
      all_goals (first | rfl | (simp_all [formRP]; done) | (rw [Bool.eq_iff_iff]; simp_all [formRP]; omega) | (simp [formRP]; omega))
    by_cases h7 : k = 7
    · subst h7
      have hi : hasIdn 7 = false := rfl
      rw [hi] at KN
      clear KP
      go_enter Tryz.func43, Tryz.ntmps43
      go_wp2_with (first
        | (go_at_call 67; (with_reducible refine (KA.out _).mono ?_); rintro e w1 ⟨rfl, hb1⟩; obtain ⟨b0, b1, b2, b3, b4, b5⟩ := bx6 (w := w) (W := w1) (v0 := .int .i64 7) (v1 := .int .i64 op) (v2 := .int .i64 t) (v3 := .int .i64 v) (v4 := .string nm) (v5 := .slice A ar.length c) (T := 24) (by repeat (first | (with_reducible exact Below.refl _ _) | (with_reducible assumption) | (with_reducible exact bel_box _) | (with_reducible refine bel_step ?_ (by with_reducible assumption)) | (with_reducible refine Below.drew ?_) | (with_reducible refine below_drewN ?_ _) | (with_reducible refine bel_alloc ?_ _))))
        | (go_at_call 34; (with_reducible refine (KN.out _).mono ?_); rintro e w2 ⟨rfl, hb2⟩; obtain ⟨d0, d1, d2, d3, d4, d5⟩ := bx6 (w := w) (W := w2) (v0 := .int .i64 7) (v1 := .int .i64 op) (v2 := .int .i64 t) (v3 := .int .i64 v) (v4 := .string nm) (v5 := .slice A ar.length c) (T := 24) (by repeat (first | (with_reducible exact Below.refl _ _) | (with_reducible assumption) | (with_reducible exact bel_box _) | (with_reducible refine bel_step ?_ (by with_reducible assumption)) | (with_reducible refine Below.drew ?_) | (with_reducible refine below_drewN ?_ _) | (with_reducible refine bel_alloc ?_ _))))
        | (go_at_call 68; (with_reducible refine (KT.out _).mono ?_); rintro e w3 ⟨rfl, hb3⟩))
      all_goals go_ret
      all_goals refine ⟨ret_bool ?_, (by repeat (first | (with_reducible exact Below.refl _ _) | (with_reducible assumption) | (with_reducible exact bel_box _) | (with_reducible refine bel_step ?_ (by with_reducible assumption)) | (with_reducible refine Below.drew ?_) | (with_reducible refine below_drewN ?_ _) | (with_reducible refine bel_alloc ?_ _)))⟩
      all_goals (first | rfl | (simp_all [formRP]; done) | (rw [Bool.eq_iff_iff]; simp_all [formRP]; omega) | (simp [formRP]; omega))
    by_cases h8 : k = 8
    · subst h8
      have hi : hasIdn 8 = true := rfl
      rw [hi] at KN
      clear KP
      go_enter Tryz.func43, Tryz.ntmps43
      go_wp2_with (first
        | (go_at_call 67; (with_reducible refine (KA.out _).mono ?_); rintro e w1 ⟨rfl, hb1⟩; obtain ⟨b0, b1, b2, b3, b4, b5⟩ := bx6 (w := w) (W := w1) (v0 := .int .i64 8) (v1 := .int .i64 op) (v2 := .int .i64 t) (v3 := .int .i64 v) (v4 := .string nm) (v5 := .slice A ar.length c) (T := 24) (by repeat (first | (with_reducible exact Below.refl _ _) | (with_reducible assumption) | (with_reducible exact bel_box _) | (with_reducible refine bel_step ?_ (by with_reducible assumption)) | (with_reducible refine Below.drew ?_) | (with_reducible refine below_drewN ?_ _) | (with_reducible refine bel_alloc ?_ _))))
        | (go_at_call 34; (with_reducible refine (KN.out _).mono ?_); rintro e w2 ⟨rfl, hb2⟩; obtain ⟨d0, d1, d2, d3, d4, d5⟩ := bx6 (w := w) (W := w2) (v0 := .int .i64 8) (v1 := .int .i64 op) (v2 := .int .i64 t) (v3 := .int .i64 v) (v4 := .string nm) (v5 := .slice A ar.length c) (T := 24) (by repeat (first | (with_reducible exact Below.refl _ _) | (with_reducible assumption) | (with_reducible exact bel_box _) | (with_reducible refine bel_step ?_ (by with_reducible assumption)) | (with_reducible refine Below.drew ?_) | (with_reducible refine below_drewN ?_ _) | (with_reducible refine bel_alloc ?_ _))))
        | (go_at_call 68; (with_reducible refine (KT.out _).mono ?_); rintro e w3 ⟨rfl, hb3⟩))
      all_goals go_ret
      all_goals refine ⟨ret_bool ?_, (by repeat (first | (with_reducible exact Below.refl _ _) | (with_reducible assumption) | (with_reducible exact bel_box _) | (with_reducible refine bel_step ?_ (by with_reducible assumption)) | (with_reducible refine Below.drew ?_) | (with_reducible refine below_drewN ?_ _) | (with_reducible refine bel_alloc ?_ _)))⟩
      all_goals (first | rfl | (simp_all [formRP]; done) | (rw [Bool.eq_iff_iff]; simp_all [formRP]; omega) | (simp [formRP]; omega))
    by_cases h9 : k = 9
    · subst h9
      have hi : hasIdn 9 = true := rfl
      rw [hi] at KN
      clear KP
      go_enter Tryz.func43, Tryz.ntmps43
      go_wp2_with (first
        | (go_at_call 67; (with_reducible refine (KA.out _).mono ?_); rintro e w1 ⟨rfl, hb1⟩; obtain ⟨b0, b1, b2, b3, b4, b5⟩ := bx6 (w := w) (W := w1) (v0 := .int .i64 9) (v1 := .int .i64 op) (v2 := .int .i64 t) (v3 := .int .i64 v) (v4 := .string nm) (v5 := .slice A ar.length c) (T := 24) (by repeat (first | (with_reducible exact Below.refl _ _) | (with_reducible assumption) | (with_reducible exact bel_box _) | (with_reducible refine bel_step ?_ (by with_reducible assumption)) | (with_reducible refine Below.drew ?_) | (with_reducible refine below_drewN ?_ _) | (with_reducible refine bel_alloc ?_ _))))
        | (go_at_call 34; (with_reducible refine (KN.out _).mono ?_); rintro e w2 ⟨rfl, hb2⟩; obtain ⟨d0, d1, d2, d3, d4, d5⟩ := bx6 (w := w) (W := w2) (v0 := .int .i64 9) (v1 := .int .i64 op) (v2 := .int .i64 t) (v3 := .int .i64 v) (v4 := .string nm) (v5 := .slice A ar.length c) (T := 24) (by repeat (first | (with_reducible exact Below.refl _ _) | (with_reducible assumption) | (with_reducible exact bel_box _) | (with_reducible refine bel_step ?_ (by with_reducible assumption)) | (with_reducible refine Below.drew ?_) | (with_reducible refine below_drewN ?_ _) | (with_reducible refine bel_alloc ?_ _))))
        | (go_at_call 68; (with_reducible refine (KT.out _).mono ?_); rintro e w3 ⟨rfl, hb3⟩))
      all_goals go_ret
      all_goals refine ⟨ret_bool ?_, (by repeat (first | (with_reducible exact Below.refl _ _) | (with_reducible assumption) | (with_reducible exact bel_box _) | (with_reducible refine bel_step ?_ (by with_reducible assumption)) | (with_reducible refine Below.drew ?_) | (with_reducible refine below_drewN ?_ _) | (with_reducible refine bel_alloc ?_ _)))⟩
      all_goals (first | rfl | (simp_all [formRP]; done) | (rw [Bool.eq_iff_iff]; simp_all [formRP]; omega) | (simp [formRP]; omega))
    by_cases h10 : k = 10
    · subst h10
      have hi : hasIdn 10 = true := rfl
      rw [hi] at KN
      clear KP
      go_enter Tryz.func43, Tryz.ntmps43
      go_wp2_with (first
        | (go_at_call 67; (with_reducible refine (KA.out _).mono ?_); rintro e w1 ⟨rfl, hb1⟩; obtain ⟨b0, b1, b2, b3, b4, b5⟩ := bx6 (w := w) (W := w1) (v0 := .int .i64 10) (v1 := .int .i64 op) (v2 := .int .i64 t) (v3 := .int .i64 v) (v4 := .string nm) (v5 := .slice A ar.length c) (T := 24) (by repeat (first | (with_reducible exact Below.refl _ _) | (with_reducible assumption) | (with_reducible exact bel_box _) | (with_reducible refine bel_step ?_ (by with_reducible assumption)) | (with_reducible refine Below.drew ?_) | (with_reducible refine below_drewN ?_ _) | (with_reducible refine bel_alloc ?_ _))))
        | (go_at_call 34; (with_reducible refine (KN.out _).mono ?_); rintro e w2 ⟨rfl, hb2⟩; obtain ⟨d0, d1, d2, d3, d4, d5⟩ := bx6 (w := w) (W := w2) (v0 := .int .i64 10) (v1 := .int .i64 op) (v2 := .int .i64 t) (v3 := .int .i64 v) (v4 := .string nm) (v5 := .slice A ar.length c) (T := 24) (by repeat (first | (with_reducible exact Below.refl _ _) | (with_reducible assumption) | (with_reducible exact bel_box _) | (with_reducible refine bel_step ?_ (by with_reducible assumption)) | (with_reducible refine Below.drew ?_) | (with_reducible refine below_drewN ?_ _) | (with_reducible refine bel_alloc ?_ _))))
        | (go_at_call 68; (with_reducible refine (KT.out _).mono ?_); rintro e w3 ⟨rfl, hb3⟩))
      all_goals go_ret
      all_goals refine ⟨ret_bool ?_, (by repeat (first | (with_reducible exact Below.refl _ _) | (with_reducible assumption) | (with_reducible exact bel_box _) | (with_reducible refine bel_step ?_ (by with_reducible assumption)) | (with_reducible refine Below.drew ?_) | (with_reducible refine below_drewN ?_ _) | (with_reducible refine bel_alloc ?_ _)))⟩
      all_goals (first | rfl | (simp_all [formRP]; done) | (rw [Bool.eq_iff_iff]; simp_all [formRP]; omega) | (simp [formRP]; omega))
    by_cases h11 : k = 11
    · subst h11
      have hi : hasIdn 11 = false := rfl
      rw [hi] at KN
      have KP2 := KP rfl
      clear KP
      go_enter Tryz.func43, Tryz.ntmps43
      go_wp2_with (first
        | (go_at_call 67; (with_reducible refine (KA.out _).mono ?_); rintro e w1 ⟨rfl, hb1⟩; obtain ⟨b0, b1, b2, b3, b4, b5⟩ := bx6 (w := w) (W := w1) (v0 := .int .i64 11) (v1 := .int .i64 op) (v2 := .int .i64 t) (v3 := .int .i64 v) (v4 := .string nm) (v5 := .slice A ar.length c) (T := 24) (by repeat (first | (with_reducible exact Below.refl _ _) | (with_reducible assumption) | (with_reducible exact bel_box _) | (with_reducible refine bel_step ?_ (by with_reducible assumption)) | (with_reducible refine Below.drew ?_) | (with_reducible refine below_drewN ?_ _) | (with_reducible refine bel_alloc ?_ _))))
        | (go_at_call 34; (with_reducible refine (KN.out _).mono ?_); rintro e w2 ⟨rfl, hb2⟩; obtain ⟨d0, d1, d2, d3, d4, d5⟩ := bx6 (w := w) (W := w2) (v0 := .int .i64 11) (v1 := .int .i64 op) (v2 := .int .i64 t) (v3 := .int .i64 v) (v4 := .string nm) (v5 := .slice A ar.length c) (T := 24) (by repeat (first | (with_reducible exact Below.refl _ _) | (with_reducible assumption) | (with_reducible exact bel_box _) | (with_reducible refine bel_step ?_ (by with_reducible assumption)) | (with_reducible refine Below.drew ?_) | (with_reducible refine below_drewN ?_ _) | (with_reducible refine bel_alloc ?_ _))))
        | (go_at_call 68; (with_reducible refine (KT.out _).mono ?_); rintro e w3 ⟨rfl, hb3⟩)
        | (go_at_call 69; (with_reducible refine (KP2.out _ ?_).mono ?_); (focus ((repeat (first | (with_reducible exact Below.refl _ _) | (with_reducible assumption) | (with_reducible exact bel_box _) | (with_reducible refine bel_step ?_ (by with_reducible assumption)) | (with_reducible refine Below.drew ?_) | (with_reducible refine below_drewN ?_ _) | (with_reducible refine bel_alloc ?_ _))); done)); rintro e w4 ⟨A1, A2, n1, c1, n2, c2, er, rfl, her, hb4⟩; obtain ⟨g0, g1, g2, g3, g4, g5⟩ := bx6 (w := w) (W := w4) (v0 := .int .i64 11) (v1 := .int .i64 op) (v2 := .int .i64 t) (v3 := .int .i64 v) (v4 := .string nm) (v5 := .slice A ar.length c) (T := 24) (by repeat (first | (with_reducible exact Below.refl _ _) | (with_reducible assumption) | (with_reducible exact bel_box _) | (with_reducible refine bel_step ?_ (by with_reducible assumption)) | (with_reducible refine Below.drew ?_) | (with_reducible refine below_drewN ?_ _) | (with_reducible refine bel_alloc ?_ _))); have g2' := fun o => cell_al o g2; have g3' := fun o => cell_al o g3))
      all_goals go_ret
      all_goals refine ⟨ret_bool ?_, (by repeat (first | (with_reducible exact Below.refl _ _) | (with_reducible assumption) | (with_reducible exact bel_box _) | (with_reducible refine bel_step ?_ (by with_reducible assumption)) | (with_reducible refine Below.drew ?_) | (with_reducible refine below_drewN ?_ _) | (with_reducible refine bel_alloc ?_ _)))⟩
      all_goals (first | rfl | (simp_all [formRP]; done) | (rw [Bool.eq_iff_iff]; simp_all [formRP]; omega) | (simp [formRP]; omega))
    have hout : k < 1 ∨ 11 < k := by omega
    have e : formRP k op t v ba tg ne wok = false := by
      rw [formRP, if_pos]
      rcases hout with h | h
      · exact .inl h
      · exact .inr (.inl h)
    rw [e]
    clear e h1 h2 h3 h4 h5 h6 h7 h8 h9 h10 h11 KP
    rcases hout with h | h
    · go_enter Tryz.func43, Tryz.ntmps43
      go_wp2
      go_ret
      exact ⟨rfl, (by repeat (first | (with_reducible exact Below.refl _ _) | (with_reducible assumption) | (with_reducible exact bel_box _) | (with_reducible refine bel_step ?_ (by with_reducible assumption)) | (with_reducible refine Below.drew ?_) | (with_reducible refine below_drewN ?_ _) | (with_reducible refine bel_alloc ?_ _)))⟩
    · have h' : (1 : Int) ≤ k := by omega
      go_enter Tryz.func43, Tryz.ntmps43
      go_wp2
      go_ret
      exact ⟨rfl, (by repeat (first | (with_reducible exact Below.refl _ _) | (with_reducible assumption) | (with_reducible exact bel_box _) | (with_reducible refine bel_step ?_ (by with_reducible assumption)) | (with_reducible refine Below.drew ?_) | (with_reducible refine below_drewN ?_ _) | (with_reducible refine bel_alloc ?_ _)))⟩
end Go.Proofs.YtfogkcccjemloaaGreatDoor
/- Stateless of the program. -/
namespace Go.Proofs.YtfogkcccjemloaaGreatDoor
set_option linter.unusedVariables false
set_option linter.unusedSimpArgs false
open Go.RowKit Go.Shelf
attribute [local go_sem] Oper.semAt_some
/-- the kinds that have a state -/
def stK (n : Int) : Bool := n == 5 || n == 6 || n == 7 || n == 10 || n == 11
set_option maxHeartbeats 2000000 in
set_option maxRecDepth 100000 in
theorem stateless_any (x : Xt) (w : World) (hX : RdX w w.heap.size x) (hs : x.size ≤ 100000) : Calls Tryz.prog 20 #[xV x] w (Bel (.bool (!x.list.any fun y => stK y.k)) w) := by
  have hdd : ∀ k : Nat, (Fence.wide.depth.isSome = true → 1 ≤ k) := fun k h => by cases h
  have KW := Lib.hid (fun W => within_any x 41 W)
  have HX := Lib.hid hX
  clear hX
  simp only [xV] at KW ⊢
  refine (callsIn_wide (n := 3)).1 ?_
  refine callsIn_of_wp_marks Tryz.func20 rfl trivial ?_ rfl
  simp only [Tryz.ntmps20, List.size_toArray, List.length_cons, List.length_nil, Nat.reduceAdd, Nat.reduceSub, Array.replicate_succ, Array.replicate_zero, List.push_toArray, List.append_toArray, List.nil_append, List.cons_append]
  gi_wp2_with (refine ⟨trivial, ?_⟩; gi_at_call 40; refine (callsIn_wide.2 (KW.out _)).mono ?_; rintro e W1 ⟨rfl, rfl⟩)
  obtain ⟨Wc, hWc⟩ : ∃ Wc, ((bxW w x).alloc (.cells #[.bool false] 4)) = Wc := ⟨_, rfl⟩
  have hz : Wc.heap.size = w.heap.size + 2 := by rw [← hWc]; simp only [World.size_alloc]
  have hBc : Below w.heap.size w Wc := by rw [← hWc]; exact bel_alloc (bel_box _) _
  have g2 : Wc.cell? ⟨w.heap.size + 1, 0, none⟩ = some (.bool false) := by rw [← hWc]; simp [go_sem]
  have g3 : Wc.frozen? ⟨w.heap.size + 1, 0, none⟩ = false := by rw [← hWc]; simp [go_sem]
  have hst := within_at (3 - 1) w.heap.size (fun k => k = w.heap.size + 1) x Wc (fun k hk => by subst hk; omega) (by omega) (HX.out.blw hBc (Nat.le_refl _))
  obtain ⟨W0, hW0⟩ : ∃ W0, inW Wc x 41 = W0 := ⟨_, rfl⟩
  have hz0 : W0.heap.size = w.heap.size + 4 := by rw [← hW0, inW_size]; omega
  have hB0 : Below w.heap.size w W0 := by rw [← hW0]; exact hBc.trans ((inW_below Wc x _).mono (by omega))
  have f2 : W0.cell? ⟨w.heap.size + 1, 0, none⟩ = some (.bool false) := by rw [← hW0]; exact (inW_old (by omega)).1.trans g2
  have f3 : W0.frozen? ⟨w.heap.size + 1, 0, none⟩ = false := by rw [← hW0]; exact (inW_old (by omega)).2.trans g3
  rw [hz, hW0] at hst
  rw [show (bxW ((w.alloc (Obj.cells #[.int .i64 x.k, .int .i64 x.op, .int .i64 x.t, .int .i64 x.v, .string x.nm, .slice x.A x.ar.length x.c] 24)).alloc (.cells #[.bool false] 4)) x).alloc (.cells #[.func (.func 41) #[] #[]] 42) = W0 by rw [← hW0, ← hWc]]
  clear hW0 hWc g2 g3 KW HX
  refine wpIn_rangeFunc_ownH rfl (by decide) (gf := 62) (lb := #[.pointer (some ⟨w.heap.size + 2, 0, none⟩), .pointer (some ⟨w.heap.size + 2 + 1, 0, none⟩)]) rfl trivial (enters_of Tryz.func62 (by kernel_rfl) rfl)
    hst KX_t KX_b (Below.refl _ _) (fun _ => rfl)
    (fun pre W => (pre.any (fun y => stK y.k) = false ∧ W.cell? ⟨w.heap.size + 1, 0, none⟩ = some (.bool false) ∧ W.frozen? ⟨w.heap.size + 1, 0, none⟩ = false) ∧ Below w.heap.size w W)
    (fun c pre W => (c = .ret ∧ pre.any (fun y => stK y.k) = true ∧ W.cell? ⟨w.heap.size + 1, 0, none⟩ = some (.bool false)) ∧ Below w.heap.size w W)
    (OwnFrom.and (Own.from (fun s A B row hs hg hr => ⟨hs.1, cell_kept hs.2.1 hg hr, (frozen_kept hs.2.1 hg hr).trans hs.2.2⟩) _) (ownFrom_below (Nat.le_refl _) (by omega)))
    (fun c => OwnFrom.and (Own.from (fun s A B row hs hg hr => ⟨hs.1, hs.2.1, cell_kept hs.2.2 hg hr⟩) _) (ownFrom_below (Nat.le_refl _) (by omega)))
    ⟨⟨rfl, f2, f3⟩, hB0⟩
    (fun y a' W => ∃ Bx, (w.heap.size + 2 ≤ Bx ∧ W.cell? ⟨Bx, 0, none⟩ = some (.int .i64 y.k)) ∧ a' = { tmps := #[.agg #[.int .i64 x.k, .int .i64 x.op, .int .i64 x.t, .int .i64 x.v, .string x.nm, .slice x.A x.ar.length x.c], .pointer (some ⟨w.heap.size, 0, none⟩), .pointer (some ⟨w.heap.size + 1, 0, none⟩), .pointer (some ⟨Bx, 0, none⟩), .agg #[.int .i64 x.k, .int .i64 x.op, .int .i64 x.t, .int .i64 x.v, .string x.nm, .slice x.A x.ar.length x.c], .func (.func 62) #[] #[.pointer (some ⟨w.heap.size + 2, 0, none⟩), .pointer (some ⟨w.heap.size + 2 + 1, 0, none⟩)], xV y, undef, undef, undef, undef, undef, undef, undef, undef], defers := [] })
    (fun y a' s A B row hs hg hr => by
      obtain ⟨Bx, ⟨h1, h2⟩, h3⟩ := hs
      exact ⟨Bx, ⟨h1, cell_kept h2 hg (fun r e => (hr r e).2)⟩, h3⟩) ?assign ?body ?done ?stop
  case assign =>
    rintro l pre y W K ⟨⟨i1, i2, i3⟩, hB⟩ hK
    rw [fold1]
    simp only [xV] at hK ⊢
    gi_wp2
    have hb := bx_box W y
    exact hK _ _ ((KeepsOthers.alloc _ _).from _) (KX.of_below (bel_box _)) ⟨⟨i1, cell_al _ i2, frozen_al _ i2 i3⟩, bel_alloc hB _⟩ ⟨W.heap.size, ⟨by have := World.block_lt_of_cell? W _ i2; simp only at this; omega, hb.1⟩, rfl⟩
  case body =>
    rintro l pre y a' W hl ⟨r, hr⟩ ⟨⟨i1, i2, i3⟩, hB⟩ ⟨Bx, ⟨hBx, bx⟩, rfl⟩ hlt
    have hcs : (pre ++ [y]).any (fun y => stK y.k) = stK y.k := by rw [List.any_append, i1]; simp
    by_cases q5 : (y.k == 5) = true
    · have hst : stK y.k = true := by simp [stK, q5]
      gi_wp2
      exact ⟨(KeepsOthers.setCell _ _ _).from _, ⟨rfl, by rw [hcs, hst], World.cell?_setCell_same' _ _ _ (by rw [i2]; rfl)⟩, hB.setCell (p := ⟨w.heap.size + 1, 0, none⟩) (by simp) _⟩
    rw [Bool.not_eq_true] at q5
    by_cases q6 : (y.k == 6) = true
    · have hst : stK y.k = true := by simp [stK, q6]
      gi_wp2
      exact ⟨(KeepsOthers.setCell _ _ _).from _, ⟨rfl, by rw [hcs, hst], World.cell?_setCell_same' _ _ _ (by rw [i2]; rfl)⟩, hB.setCell (p := ⟨w.heap.size + 1, 0, none⟩) (by simp) _⟩
    rw [Bool.not_eq_true] at q6
    by_cases q7 : (y.k == 7) = true
    · have hst : stK y.k = true := by simp [stK, q7]
      gi_wp2
      exact ⟨(KeepsOthers.setCell _ _ _).from _, ⟨rfl, by rw [hcs, hst], World.cell?_setCell_same' _ _ _ (by rw [i2]; rfl)⟩, hB.setCell (p := ⟨w.heap.size + 1, 0, none⟩) (by simp) _⟩
    rw [Bool.not_eq_true] at q7
    by_cases q10 : (y.k == 10) = true
    · have hst : stK y.k = true := by simp [stK, q10]
      gi_wp2
      exact ⟨(KeepsOthers.setCell _ _ _).from _, ⟨rfl, by rw [hcs, hst], World.cell?_setCell_same' _ _ _ (by rw [i2]; rfl)⟩, hB.setCell (p := ⟨w.heap.size + 1, 0, none⟩) (by simp) _⟩
    rw [Bool.not_eq_true] at q10
    by_cases q11 : (y.k == 11) = true
    · have hst : stK y.k = true := by simp [stK, q11]
      gi_wp2
      exact ⟨(KeepsOthers.setCell _ _ _).from _, ⟨rfl, by rw [hcs, hst], World.cell?_setCell_same' _ _ _ (by rw [i2]; rfl)⟩, hB.setCell (p := ⟨w.heap.size + 1, 0, none⟩) (by simp) _⟩
    rw [Bool.not_eq_true] at q11
    have hst : stK y.k = false := by simp only [stK, q5, q6, q7, q10, q11, Bool.or_false]
    gi_wp2
    exact ⟨(KeepsOthers.refl _).from _, KX.refl _ _, ⟨by rw [hcs, hst], i2, i3⟩, hB⟩
  case done =>
    rintro D ys W hD rfl ⟨⟨hn, hc, hf⟩, hB⟩ hK
    gi_wp2
    have hK' := (KeepsOthers.setCell W ⟨w.heap.size + 1, 0, none⟩ (.bool true)).same D _ hK rfl
    refine ⟨by simp, .inl ⟨_, _, rfl, run_takeDeferred hK', ?_⟩⟩
    have hc5 := cell_kept (World.cell?_setCell_same' W ⟨w.heap.size + 1, 0, none⟩ (.bool true) (by rw [hc]; rfl)) (grownBy_putObj' _ D (.deferred none)) (fun r e => by cases e; exact ⟨_, hK', rfl⟩)
    refine ⟨.bool true, ?_, by rw [hn]; rfl, (hB.setCell (p := ⟨w.heap.size + 1, 0, none⟩) (by simp) _).trans (belowK_b (w := w) (Nat.le_refl _) _ D _ _ (by omega) hK' rfl rfl)⟩
    simp [results, Tryz.f20, go_sem, hc5]
  case stop =>
    rintro D c pre W hD ⟨t, ht⟩ ⟨⟨rfl, hin, hc⟩, hB⟩ hK
    have hany : x.list.any (fun y => stK y.k) = true := by rw [← ht, List.any_append, hin]; rfl
    gi_wp2
    refine ⟨by simp, .inl ⟨_, _, rfl, run_takeDeferred hK, ?_⟩⟩
    have hc5 := cell_kept hc (grownBy_putObj' _ D (.deferred none)) (fun r e => by cases e; exact ⟨_, hK, rfl⟩)
    refine ⟨.bool false, ?_, by rw [hany]; rfl, hB.trans (belowK_b (w := w) (Nat.le_refl _) W D _ _ (by omega) hK rfl rfl)⟩
    simp [results, Tryz.f20, go_sem, hc5]
end Go.Proofs.YtfogkcccjemloaaGreatDoor
/- exceeds of the program. -/
namespace Go.Proofs.YtfogkcccjemloaaGreatDoor
set_option linter.unusedVariables false
set_option linter.unusedSimpArgs false
open Go.RowKit Go.Shelf
attribute [local go_sem] Oper.semAt_some
set_option maxHeartbeats 2000000 in
set_option maxRecDepth 100000 in
theorem exceeds_any (x : Xt) (N : Nat) (w : World) (hX : RdX w w.heap.size x) (hN : N ≤ 100000) : Calls Tryz.prog 39 #[xV x, .int .i64 (N : Int)] w (Bel (.bool (decide (N < x.size))) w) := by
  have hdd : ∀ k : Nat, (Fence.wide.depth.isSome = true → 1 ≤ k) := fun k h => by cases h
  have KW := Lib.hid (fun W => within_any x 41 W)
  have HX := Lib.hid hX
  clear hX
  simp only [xV] at KW ⊢
  refine (callsIn_wide (n := 3)).1 ?_
  refine callsIn_of_wp_marks Tryz.func39 rfl trivial ?_ rfl
  simp only [Tryz.ntmps39, List.size_toArray, List.length_cons, List.length_nil, Nat.reduceAdd, Nat.reduceSub, Array.replicate_succ, Array.replicate_zero, List.push_toArray, List.append_toArray, List.nil_append, List.cons_append]
  gi_wp2_with (refine ⟨trivial, ?_⟩; gi_at_call 40; refine (callsIn_wide.2 (KW.out _)).mono ?_; rintro e W1 ⟨rfl, rfl⟩)
  obtain ⟨Wc, hWc⟩ : ∃ Wc, (((bxW w x).alloc (.cells #[.int .i64 (N : Int)] 3)).alloc (.cells #[.bool false] 4)) = Wc := ⟨_, rfl⟩
  have hz : Wc.heap.size = w.heap.size + 3 := by rw [← hWc]; simp only [World.size_alloc]
  have hBc : Below w.heap.size w Wc := by rw [← hWc]; exact bel_alloc (bel_alloc (bel_box _) _) _
  have g0 : Wc.cell? ⟨w.heap.size + 1, 0, none⟩ = some (.int .i64 (N : Int)) := by rw [← hWc]; simp [go_sem]
  have g1 : Wc.frozen? ⟨w.heap.size + 1, 0, none⟩ = false := by rw [← hWc]; simp [go_sem]
  have g2 : Wc.cell? ⟨w.heap.size + 2, 0, none⟩ = some (.bool false) := by rw [← hWc]; simp [go_sem]
  have g3 : Wc.frozen? ⟨w.heap.size + 2, 0, none⟩ = false := by rw [← hWc]; simp [go_sem]
  have hst := within_at (3 - 1) w.heap.size (fun k => k = w.heap.size + 1 ∨ k = w.heap.size + 2) x Wc (fun k hk => by rcases hk with rfl | rfl <;> omega) (by omega) (HX.out.blw hBc (Nat.le_refl _))
  obtain ⟨W0, hW0⟩ : ∃ W0, inW Wc x 41 = W0 := ⟨_, rfl⟩
  have hz0 : W0.heap.size = w.heap.size + 5 := by rw [← hW0, inW_size]; omega
  have hB0 : Below w.heap.size w W0 := by rw [← hW0]; exact hBc.trans ((inW_below Wc x _).mono (by omega))
  have f0 : W0.cell? ⟨w.heap.size + 1, 0, none⟩ = some (.int .i64 (N : Int)) := by rw [← hW0]; exact (inW_old (by omega)).1.trans g0
  have f1 : W0.frozen? ⟨w.heap.size + 1, 0, none⟩ = false := by rw [← hW0]; exact (inW_old (by omega)).2.trans g1
  have f2 : W0.cell? ⟨w.heap.size + 2, 0, none⟩ = some (.bool false) := by rw [← hW0]; exact (inW_old (by omega)).1.trans g2
  have f3 : W0.frozen? ⟨w.heap.size + 2, 0, none⟩ = false := by rw [← hW0]; exact (inW_old (by omega)).2.trans g3
  rw [hz, hW0] at hst
  rw [show (bxW (((w.alloc (Obj.cells #[.int .i64 x.k, .int .i64 x.op, .int .i64 x.t, .int .i64 x.v, .string x.nm, .slice x.A x.ar.length x.c] 24)).alloc (.cells #[.int .i64 (N : Int)] 3)).alloc (.cells #[.bool false] 4)) x).alloc (.cells #[.func (.func 41) #[] #[]] 42) = W0 by rw [← hW0, ← hWc]]
  clear hW0 hWc g0 g1 g2 g3 KW HX
  have hll := list_length x
  refine wpIn_rangeFunc_ownF rfl (by decide) (gf := 62) (lb := #[.pointer (some ⟨w.heap.size + 3, 0, none⟩), .pointer (some ⟨w.heap.size + 3 + 1, 0, none⟩)]) rfl trivial (enters_of Tryz.func62 (by kernel_rfl) rfl)
    hst KX_t KX_b (Below.refl _ _) (fun _ => rfl)
    (fun pre W => (pre.length ≤ N ∧ W.cell? ⟨w.heap.size + 1, 0, none⟩ = some (.int .i64 ((N - pre.length : Nat) : Int)) ∧ W.frozen? ⟨w.heap.size + 1, 0, none⟩ = false ∧ W.cell? ⟨w.heap.size + 2, 0, none⟩ = some (.bool false) ∧ W.frozen? ⟨w.heap.size + 2, 0, none⟩ = false) ∧ Below w.heap.size w W)
    (fun c pre W => (c = .ret ∧ N < pre.length ∧ W.cell? ⟨w.heap.size + 2, 0, none⟩ = some (.bool true)) ∧ Below w.heap.size w W)
    (OwnFrom.and (Own.from (fun s A B row hs hg hr => ⟨hs.1, cell_kept hs.2.1 hg hr, (frozen_kept hs.2.1 hg hr).trans hs.2.2.1, cell_kept hs.2.2.2.1 hg hr, (frozen_kept hs.2.2.2.1 hg hr).trans hs.2.2.2.2⟩) _) (ownFrom_below (Nat.le_refl _) (by omega)))
    (fun c => OwnFrom.and (Own.from (fun s A B row hs hg hr => ⟨hs.1, hs.2.1, cell_kept hs.2.2 hg hr⟩) _) (ownFrom_below (Nat.le_refl _) (by omega)))
    ⟨⟨by simp, by simpa using f0, f1, f2, f3⟩, hB0⟩
    (fun y => { tmps := #[.agg #[.int .i64 x.k, .int .i64 x.op, .int .i64 x.t, .int .i64 x.v, .string x.nm, .slice x.A x.ar.length x.c], .int .i64 (N : Int), .pointer (some ⟨w.heap.size, 0, none⟩), .pointer (some ⟨w.heap.size + 1, 0, none⟩), .pointer (some ⟨w.heap.size + 1 + 1, 0, none⟩), .agg #[.int .i64 x.k, .int .i64 x.op, .int .i64 x.t, .int .i64 x.v, .string x.nm, .slice x.A x.ar.length x.c], .func (.func 62) #[] #[.pointer (some ⟨w.heap.size + 3, 0, none⟩), .pointer (some ⟨w.heap.size + 3 + 1, 0, none⟩)], xV y, undef, undef, undef, undef], defers := [] }) ?assign ?body ?done ?stop
  case assign =>
    intro l y W K hK
    gi_wp2
    simpa using hK
  case body =>
    rintro l pre y W ⟨⟨i0, i1, i2, i3, i4⟩, hB⟩ hlt
    by_cases hq : pre.length < N
    · obtain ⟨m, hm⟩ : ∃ m, N - pre.length = m + 1 := ⟨N - pre.length - 1, by omega⟩
      have hm2 : N - (pre.length + 1) = m := by omega
      rw [hm] at i1
      have u1 : ((m + 1 : Nat) : Int) - 1 = (m : Int) := by omega
      have u2 : (0 : Int) ≤ (m : Int) := by omega
      gi_wp2
      exact ⟨KeepsOthers.setCell _ _ _, KX.set (S := fun k => k = w.heap.size + 1 ∨ k = w.heap.size + 2) (a := ⟨w.heap.size + 1, 0, none⟩) (.inl rfl) _, ⟨by rw [List.length_append, List.length_singleton]; omega, by rw [List.length_append, List.length_singleton, hm2]; exact World.cell?_setCell_same' _ _ _ (by rw [i1]; rfl), by rw [World.frozen?_setCell]; exact i2, (World.cell?_setCell_other _ _ _ _ (by simp)).trans i3, by rw [World.frozen?_setCell]; exact i4⟩, hB.setCell (p := ⟨w.heap.size + 1, 0, none⟩) (by simp) _⟩
    · have hm : N - pre.length = 0 := by omega
      rw [hm] at i1
      gi_wp2
      exact ⟨(KeepsOthers.setCell _ _ _).trans (KeepsOthers.setCell _ _ _), ⟨rfl, by rw [List.length_append, List.length_singleton]; omega, World.cell?_setCell_same' _ _ _ (by rw [World.cell?_setCell_other _ _ _ _ (by simp), i3]; rfl)⟩, (hB.setCell (p := ⟨w.heap.size + 1, 0, none⟩) (by simp) _).setCell (p := ⟨w.heap.size + 2, 0, none⟩) (by simp) _⟩
  case done =>
    rintro D ys W hD rfl ⟨⟨hn, _, _, hc, hf⟩, hB⟩ hK
    have hdec : decide (N < x.size) = false := decide_eq_false (by omega)
    gi_wp2
    have hK' := (KeepsOthers.setCell W ⟨w.heap.size + 2, 0, none⟩ (.bool false)).same D _ hK rfl
    refine ⟨by simp, .inl ⟨_, _, rfl, run_takeDeferred hK', ?_⟩⟩
    have hc5 := cell_kept (World.cell?_setCell_same' W ⟨w.heap.size + 2, 0, none⟩ (.bool false) (by rw [hc]; rfl)) (grownBy_putObj' _ D (.deferred none)) (fun r e => by cases e; exact ⟨_, hK', rfl⟩)
    refine ⟨.bool false, ?_, by rw [hdec], (hB.setCell (p := ⟨w.heap.size + 2, 0, none⟩) (by simp) _).trans (belowK_b (w := w) (Nat.le_refl _) _ D _ _ (by omega) hK' rfl rfl)⟩
    simp [results, Tryz.f39, go_sem, hc5]
  case stop =>
    rintro D c pre W hD ⟨t, ht⟩ ⟨⟨rfl, hin, hc⟩, hB⟩ hK
    have hdec : decide (N < x.size) = true := decide_eq_true (by rw [← hll, ← ht, List.length_append]; omega)
    gi_wp2
    refine ⟨by simp, .inl ⟨_, _, rfl, run_takeDeferred hK, ?_⟩⟩
    have hc5 := cell_kept hc (grownBy_putObj' _ D (.deferred none)) (fun r e => by cases e; exact ⟨_, hK, rfl⟩)
    refine ⟨.bool true, ?_, by rw [hdec], hB.trans (belowK_b (w := w) (Nat.le_refl _) W D _ _ (by omega) hK rfl rfl)⟩
    simp [results, Tryz.f39, go_sem, hc5]
end Go.Proofs.YtfogkcccjemloaaGreatDoor
/- Depth of both. -/
namespace Go.Proofs.YtfogkcccjemloaaGreatDoor
set_option linter.unusedVariables false
set_option linter.unusedSimpArgs false
open Go.RowKit
theorem parts_max (x : Xt) : ∃ M : Nat → Nat, x.depth = 1 + M x.ar.length ∧ M 0 = 0 ∧ Hid (∀ (k : Nat) (y : Xt), x.ar[k]? = some y → M (k + 1) = max (M k) y.depth) := by
  refine ⟨fun k => ((x.ar.take k).map Xt.depth).foldl max 0, ?_, rfl, Lib.hid fun k y hy => ?_⟩
  · simp only [List.take_length]
    exact Xt.depth_eq x
  · show ((x.ar.take (k + 1)).map Xt.depth).foldl max 0 = _
    rw [take_succ_of hy, List.map_append, List.foldl_append]
    rfl
theorem foldl_max_le (l : List Nat) (b m : Nat) (hb : b ≤ m) (h : ∀ a ∈ l, a ≤ m) : l.foldl max b ≤ m := by
  induction l generalizing b with
  | nil => exact hb
  | cons a l ih => exact ih _ (by have := h a (by simp); omega) (fun c hc => h c (by simp [hc]))
theorem mem_sum_le (l : List Xt) (a : Xt) (h : a ∈ l) : a.size ≤ (l.map Xt.size).sum := by
  induction l with
  | nil => cases h
  | cons b l ih =>
    rcases List.mem_cons.1 h with rfl | h
    · simp
    · have := ih h; simp; omega
theorem depth_le (x : Xt) : x.depth ≤ x.size := by
  induction x using Xt.ind with
  | h x ih =>
    rw [Xt.depth_eq, Xt.size_eq]
    have : (x.ar.map Xt.depth).foldl max 0 ≤ (x.ar.map Xt.size).sum := foldl_max_le _ _ _ (Nat.zero_le _) fun a ha => by
      obtain ⟨y, hy, rfl⟩ := List.mem_map.1 ha
      exact Nat.le_trans (ih y hy) (mem_sum_le _ _ hy)
    omega
theorem size_kid {x y : Xt} (h : y ∈ x.ar) : y.size < x.size := by
  rw [Xt.size_eq x]
  have := mem_sum_le _ _ h
  omega
theorem depth_pos (x : Xt) : 1 ≤ x.depth := by rw [Xt.depth_eq]; omega
set_option maxHeartbeats 1000000 in
set_option maxRecDepth 20000 in
theorem rdepth_any (x : Xt) : ∀ w, RdX w w.heap.size x → x.size ≤ 100000 → Calls Tryz.prog 17 #[xV x] w (Bel (.int .i64 (x.depth : Nat)) w) := by
  induction x using Xt.ind with
  | h x ih =>
    intro w hX hS
    have h9 := hX.len.1
    unfold maxLen at h9
    have HX := Lib.hid hX
    have IH := Lib.hid ih
    have HK := Lib.hid (fun y (h : y ∈ x.ar) => size_kid h)
    have hdl := depth_le x
    clear hX ih
    obtain ⟨M, hM, hM0, HM⟩ := parts_max x
    rw [hM] at hdl ⊢
    clear hM
    simp only [xV] at IH ⊢
    go_enter Tryz.func17, Tryz.ntmps17
    go_wp2
    go_loopw [3, 4] (fun n i wr => ∃ k : Nat, k ≤ x.ar.length ∧ i = .int .i64 (k : Int) ∧ n = .int .i64 (M k : Int) ∧ Below (bxW w x).heap.size (bxW w x) wr) (fun _ i _ => x.ar.length - (intOf i).toNat)
    case atStart => exact ⟨0, by omega, rfl, by rw [hM0]; rfl, Below.refl _ _⟩
    case round =>
      obtain ⟨k, hk, rfl, rfl, hbl⟩ := hrel
      obtain ⟨b0, b1, b2, b3, b4, b5, b6⟩ := bxW_cells hbl
      have hBW := bxW_below hbl
      by_cases hlt : k < x.ar.length
      · obtain ⟨ad, y, hA, had, hy, hm, ⟨c0, c1, c2, c3, c4, c5⟩, hr⟩ := (HX.out.to hBW).at_ hlt
        rw [hA] at b5
        clear hA
        have hn1 := HM.out k y hy
        have hys := HK.out y hm
        clear hy
        go_wp2_with (go_at_call 17; (with_reducible refine (IH.out y hm _ (hr.to ?_) (by omega)).mono ?_); (focus ((repeat (first | (with_reducible exact Below.refl _ _) | (with_reducible assumption) | (with_reducible exact bel_box _) | (with_reducible refine bel_step ?_ (by with_reducible assumption)) | (with_reducible refine Below.drew ?_) | (with_reducible refine below_drewN ?_ _) | (with_reducible refine bel_alloc ?_ _))); done)); rintro e w1 ⟨rfl, hb1⟩)
        all_goals exact ⟨⟨k + 1, by omega, by congr 1, by congr 1; omega, (by repeat (first | (with_reducible exact Below.refl _ _) | (with_reducible assumption) | (with_reducible exact bel_box _) | (with_reducible refine bel_step ?_ (by with_reducible assumption)) | (with_reducible refine Below.drew ?_) | (with_reducible refine below_drewN ?_ _) | (with_reducible refine bel_alloc ?_ _)))⟩, by simp [intOf]; omega⟩
      · obtain rfl : k = x.ar.length := by omega
        go_wp2
        go_ret
        exact ⟨congrArg (fun z : Int => Ending.returned (.int .i64 z)) (by omega), hBW⟩
set_option maxHeartbeats 1000000 in
set_option maxRecDepth 20000 in
theorem depth_any (x : Xt) : ∀ w, RdX w w.heap.size x → x.size ≤ 100000 → Calls Tryz.prog 16 #[xV x] w (Bel (.int .i64 (x.depth : Nat)) w) := by
  induction x using Xt.ind with
  | h x ih =>
    intro w hX hS
    have h9 := hX.len.1
    unfold maxLen at h9
    have HX := Lib.hid hX
    have IH := Lib.hid ih
    have HK := Lib.hid (fun y (h : y ∈ x.ar) => size_kid h)
    have hdl := depth_le x
    clear hX ih
    obtain ⟨M, hM, hM0, HM⟩ := parts_max x
    rw [hM] at hdl ⊢
    clear hM
    simp only [xV] at IH ⊢
    go_enter Tryz.func16, Tryz.ntmps16
    go_wp2
    go_loopw [3, 9] (fun n i wr => ∃ k : Nat, k ≤ x.ar.length ∧ i = .int .i64 (k : Int) ∧ n = .int .i64 (M k : Int) ∧ Below (bxW w x).heap.size (bxW w x) wr) (fun _ i _ => x.ar.length - (intOf i).toNat)
    case atStart => exact ⟨0, by omega, rfl, by rw [hM0]; rfl, Below.refl _ _⟩
    case round =>
      obtain ⟨k, hk, rfl, rfl, hbl⟩ := hrel
      have hBW := bxW_below hbl
      by_cases hlt : k < x.ar.length
      · obtain ⟨ad, y, hA, had, hy, hm, ⟨c0, c1, c2, c3, c4, c5⟩, hr⟩ := (HX.out.to hBW).at_ hlt
        rw [hA]
        clear hA
        have hn1 := HM.out k y hy
        have hys := HK.out y hm
        clear hy
        go_wp2_with (go_at_call 16; (with_reducible refine (IH.out y hm _ (hr.to ?_) (by omega)).mono ?_); (focus ((repeat (first | (with_reducible exact Below.refl _ _) | (with_reducible assumption) | (with_reducible exact bel_box _) | (with_reducible refine bel_step ?_ (by with_reducible assumption)) | (with_reducible refine Below.drew ?_) | (with_reducible refine below_drewN ?_ _) | (with_reducible refine bel_alloc ?_ _))); done)); rintro e w1 ⟨rfl, hb1⟩)
        all_goals exact ⟨⟨k + 1, by omega, by congr 1, by congr 1; omega, (by repeat (first | (with_reducible exact Below.refl _ _) | (with_reducible assumption) | (with_reducible exact bel_box _) | (with_reducible refine bel_step ?_ (by with_reducible assumption)) | (with_reducible refine Below.drew ?_) | (with_reducible refine below_drewN ?_ _) | (with_reducible refine bel_alloc ?_ _)))⟩, by simp [intOf]; omega⟩
      · obtain rfl : k = x.ar.length := by omega
        go_wp2
        go_ret
        exact ⟨congrArg (fun z : Int => Ending.returned (.int .i64 z)) (by omega), hBW⟩
end Go.Proofs.YtfogkcccjemloaaGreatDoor
/- checkOne of the program. -/
namespace Go.Proofs.YtfogkcccjemloaaGreatDoor
set_option linter.unusedVariables false
set_option linter.unusedSimpArgs false
open Go.RowKit
/-- the error of one expression -/
def chk1 (wok : ByteArray → Bool) (x : Xt) : Int := if 64 < x.ar.length then 3 else if (formedP x.k x.op x.t x.v x.ar.length (wok x.nm) && onlyP x.k x.op x.t x.v (x.nm.toList == [])) = false then 5 else if (hasIdn x.k && !idP x.nm) = true then 6 else 0
/-- what is asked of the callees that read the Name -/
def NmOk (wok : ByteArray → Bool) (w : World) (x : Xt) : Prop := (x.k = 11 → Hid (∀ W, Below w.heap.size w W → Calls Tryz.prog 36 #[.string x.nm] W (fun e w' => ∃ (A1 A2 : Option Addr) (n1 c1 n2 c2 : Nat) (er : Int), e = .returned (.tuple #[.agg #[.slice A1 n1 c1, .slice A2 n2 c2], .int .i64 er]) ∧ (er == 0) = wok x.nm ∧ Below W.heap.size W w'))) ∧ (hasIdn x.k = true → Hid (∀ W, Below w.heap.size w W → Calls Tryz.prog 35 #[.string x.nm] W (Bel (.bool (idP x.nm)) W)))
theorem NmOk.to {wok : ByteArray → Bool} {w W : World} {x : Xt} (h : NmOk wok w x) (hb : Below w.heap.size w W) : NmOk wok W x :=
  ⟨fun e => Lib.hid fun W' hb' => (h.1 e).out W' (bel_step hb hb'), fun e => Lib.hid fun W' hb' => (h.2 e).out W' (bel_step hb hb')⟩
set_option maxHeartbeats 2000000 in
set_option maxRecDepth 20000 in
theorem checkone_any (wok : ByteArray → Bool) (x : Xt) (w : World) (h9 : x.ar.length ≤ maxLen) (hN : NmOk wok w x) : Calls Tryz.prog 42 #[xV x] w (Bel (.int .i64 (chk1 wok x)) w) := by
  have KF : Hid (∀ W, Below w.heap.size w W → Calls Tryz.prog 64 #[xV x] W (Bel (.bool (formedP x.k x.op x.t x.v x.ar.length (wok x.nm))) W)) := Lib.hid fun W hb => formed_any x _ W (hN.to hb).1
  have KO := Lib.hid (fun W => hasonly_any x W)
  have KH := Lib.hid (fun W => hasident_any x.k W)
  have KI := hN.2
  unfold maxLen at h9
  unfold chk1
  clear hN
  simp only [xV] at KF KO ⊢
  by_cases h64 : 64 < x.ar.length
  · rw [if_pos h64]
    have q : (64 : Int) < (x.ar.length : Int) := by omega
    go_enter Tryz.func42, Tryz.ntmps42
    go_wp2
    go_ret
    exact ⟨rfl, (by repeat (first | (with_reducible exact Below.refl _ _) | (with_reducible assumption) | (with_reducible exact bel_box _) | (with_reducible refine bel_step ?_ (by with_reducible assumption)) | (with_reducible refine Below.drew ?_) | (with_reducible refine below_drewN ?_ _) | (with_reducible refine bel_alloc ?_ _)))⟩
  rw [if_neg h64]
  have q : (x.ar.length : Int) ≤ 64 := by omega
  generalize formedP x.k x.op x.t x.v x.ar.length (wok x.nm) = bf at *
  generalize onlyP x.k x.op x.t x.v (x.nm.toList == []) = bo at *
  clear h64 h9
  cases bf
  · rw [Bool.false_and, if_pos rfl]
    go_enter Tryz.func42, Tryz.ntmps42
    go_wp2_with (go_at_call 64; refine (KF.out _ ?_).mono ?_; (focus ((repeat (first | (with_reducible exact Below.refl _ _) | (with_reducible assumption) | (with_reducible exact bel_box _) | (with_reducible refine bel_step ?_ (by with_reducible assumption)) | (with_reducible refine Below.drew ?_) | (with_reducible refine below_drewN ?_ _) | (with_reducible refine bel_alloc ?_ _))); done)); rintro e w1 ⟨rfl, hb1⟩)
    go_ret
    exact ⟨rfl, (by repeat (first | (with_reducible exact Below.refl _ _) | (with_reducible assumption) | (with_reducible exact bel_box _) | (with_reducible refine bel_step ?_ (by with_reducible assumption)) | (with_reducible refine Below.drew ?_) | (with_reducible refine below_drewN ?_ _) | (with_reducible refine bel_alloc ?_ _)))⟩
  cases bo
  · rw [Bool.true_and, if_pos rfl]
    go_enter Tryz.func42, Tryz.ntmps42
    go_wp2_with (first
      | (go_at_call 64; refine (KF.out _ ?_).mono ?_; (focus ((repeat (first | (with_reducible exact Below.refl _ _) | (with_reducible assumption) | (with_reducible exact bel_box _) | (with_reducible refine bel_step ?_ (by with_reducible assumption)) | (with_reducible refine Below.drew ?_) | (with_reducible refine below_drewN ?_ _) | (with_reducible refine bel_alloc ?_ _))); done)); rintro e w1 ⟨rfl, hb1⟩; obtain ⟨b0, b1, b2, b3, b4, b5, b6⟩ := bxW_cells (w := w) (x := x) hb1)
      | (go_at_call 65; refine (KO.out _).mono ?_; rintro e w2 ⟨rfl, hb2⟩))
    go_ret
    exact ⟨rfl, (by repeat (first | (with_reducible exact Below.refl _ _) | (with_reducible assumption) | (with_reducible exact bel_box _) | (with_reducible refine bel_step ?_ (by with_reducible assumption)) | (with_reducible refine Below.drew ?_) | (with_reducible refine below_drewN ?_ _) | (with_reducible refine bel_alloc ?_ _)))⟩
  rw [Bool.true_and, if_neg (by simp)]
  cases hi : hasIdn x.k
  · rw [hi] at KH
    rw [Bool.false_and, if_neg (by simp)]
    clear hi KI
    go_enter Tryz.func42, Tryz.ntmps42
    go_wp2_with (first
      | (go_at_call 64; refine (KF.out _ ?_).mono ?_; (focus ((repeat (first | (with_reducible exact Below.refl _ _) | (with_reducible assumption) | (with_reducible exact bel_box _) | (with_reducible refine bel_step ?_ (by with_reducible assumption)) | (with_reducible refine Below.drew ?_) | (with_reducible refine below_drewN ?_ _) | (with_reducible refine bel_alloc ?_ _))); done)); rintro e w1 ⟨rfl, hb1⟩; obtain ⟨b0, b1, b2, b3, b4, b5, b6⟩ := bxW_cells (w := w) (x := x) hb1)
      | (go_at_call 65; refine (KO.out _).mono ?_; rintro e w2 ⟨rfl, hb2⟩; obtain ⟨d0, d1, d2, d3, d4, d5, d6⟩ := bxW_cells (w := w) (x := x) (W := w2) (by repeat (first | (with_reducible exact Below.refl _ _) | (with_reducible assumption) | (with_reducible exact bel_box _) | (with_reducible refine bel_step ?_ (by with_reducible assumption)) | (with_reducible refine Below.drew ?_) | (with_reducible refine below_drewN ?_ _) | (with_reducible refine bel_alloc ?_ _))))
      | (go_at_call 66; refine (KH.out _).mono ?_; rintro e w3 ⟨rfl, hb3⟩))
    go_ret
    exact ⟨rfl, (by repeat (first | (with_reducible exact Below.refl _ _) | (with_reducible assumption) | (with_reducible exact bel_box _) | (with_reducible refine bel_step ?_ (by with_reducible assumption)) | (with_reducible refine Below.drew ?_) | (with_reducible refine below_drewN ?_ _) | (with_reducible refine bel_alloc ?_ _)))⟩
  have KI2 := KI hi
  rw [hi] at KH
  rw [Bool.true_and]
  clear hi KI
  generalize idP x.nm = bi at *
  cases bi
  all_goals
    go_enter Tryz.func42, Tryz.ntmps42
    go_wp2_with (first
      | (go_at_call 64; refine (KF.out _ ?_).mono ?_; (focus ((repeat (first | (with_reducible exact Below.refl _ _) | (with_reducible assumption) | (with_reducible exact bel_box _) | (with_reducible refine bel_step ?_ (by with_reducible assumption)) | (with_reducible refine Below.drew ?_) | (with_reducible refine below_drewN ?_ _) | (with_reducible refine bel_alloc ?_ _))); done)); rintro e w1 ⟨rfl, hb1⟩; obtain ⟨b0, b1, b2, b3, b4, b5, b6⟩ := bxW_cells (w := w) (x := x) hb1)
      | (go_at_call 65; refine (KO.out _).mono ?_; rintro e w2 ⟨rfl, hb2⟩; obtain ⟨d0, d1, d2, d3, d4, d5, d6⟩ := bxW_cells (w := w) (x := x) (W := w2) (by repeat (first | (with_reducible exact Below.refl _ _) | (with_reducible assumption) | (with_reducible exact bel_box _) | (with_reducible refine bel_step ?_ (by with_reducible assumption)) | (with_reducible refine Below.drew ?_) | (with_reducible refine below_drewN ?_ _) | (with_reducible refine bel_alloc ?_ _))))
      | (go_at_call 66; refine (KH.out _).mono ?_; rintro e w3 ⟨rfl, hb3⟩; obtain ⟨g0, g1, g2, g3, g4, g5, g6⟩ := bxW_cells (w := w) (x := x) (W := w3) (by repeat (first | (with_reducible exact Below.refl _ _) | (with_reducible assumption) | (with_reducible exact bel_box _) | (with_reducible refine bel_step ?_ (by with_reducible assumption)) | (with_reducible refine Below.drew ?_) | (with_reducible refine below_drewN ?_ _) | (with_reducible refine bel_alloc ?_ _))))
      | (go_at_call 35; refine (KI2.out _ ?_).mono ?_; (focus ((repeat (first | (with_reducible exact Below.refl _ _) | (with_reducible assumption) | (with_reducible exact bel_box _) | (with_reducible refine bel_step ?_ (by with_reducible assumption)) | (with_reducible refine Below.drew ?_) | (with_reducible refine below_drewN ?_ _) | (with_reducible refine bel_alloc ?_ _))); done)); rintro e w4 ⟨rfl, hb4⟩))
    go_ret
    exact ⟨rfl, (by repeat (first | (with_reducible exact Below.refl _ _) | (with_reducible assumption) | (with_reducible exact bel_box _) | (with_reducible refine bel_step ?_ (by with_reducible assumption)) | (with_reducible refine Below.drew ?_) | (with_reducible refine below_drewN ?_ _) | (with_reducible refine bel_alloc ?_ _)))⟩
end Go.Proofs.YtfogkcccjemloaaGreatDoor
