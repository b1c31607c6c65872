/- symbol of the program. -/
import Derived.Test.YtfogkcccjemloaaGreatDoorLf
namespace Go.Proofs.YtfogkcccjemloaaGreatDoor
set_option linter.unusedVariables false
set_option linter.unusedSimpArgs false
open Go.RowKit
def syL : List (List UInt8) := [[45, 62], [60, 62], [60, 61], [62, 61], [40], [41], [58], [59], [44], [61], [124], [60], [62], [43], [45], [42], [47]]
def isSy (s : ByteArray) : Bool := syL.contains s.toList
theorem ix2 (w : World) : (Instr.index 87 (.agg #[.int .i64 2, .int .i64 1]) (.int .i64 0)).run Tryz.prog w = .ok (.int .i64 2) w := by
  simp [Instr.index, Tryz.underlying87, go_sem]
theorem ix1 (w : World) : (Instr.index 87 (.agg #[.int .i64 2, .int .i64 1]) (.int .i64 1)).run Tryz.prog w = .ok (.int .i64 1) w := by
  simp [Instr.index, Tryz.underlying87, go_sem]
theorem no17 {s : ByteArray} (h : isSy s = false) : Hid ((s.toList == [45, 62]) = false ∧ (s.toList == [60, 62]) = false ∧ (s.toList == [60, 61]) = false ∧ (s.toList == [62, 61]) = false ∧ (s.toList == [40]) = false ∧ (s.toList == [41]) = false ∧ (s.toList == [58]) = false ∧ (s.toList == [59]) = false ∧ (s.toList == [44]) = false ∧ (s.toList == [61]) = false ∧ (s.toList == [124]) = false ∧ (s.toList == [60]) = false ∧ (s.toList == [62]) = false ∧ (s.toList == [43]) = false ∧ (s.toList == [45]) = false ∧ (s.toList == [42]) = false ∧ (s.toList == [47]) = false) := Lib.hid (by
  simp only [isSy, syL, List.contains_cons, List.contains_nil, Bool.or_eq_false_iff] at h
  exact ⟨h.1, h.2.1, h.2.2.1, h.2.2.2.1, h.2.2.2.2.1, h.2.2.2.2.2.1, h.2.2.2.2.2.2.1, h.2.2.2.2.2.2.2.1, h.2.2.2.2.2.2.2.2.1, h.2.2.2.2.2.2.2.2.2.1, h.2.2.2.2.2.2.2.2.2.2.1, h.2.2.2.2.2.2.2.2.2.2.2.1, h.2.2.2.2.2.2.2.2.2.2.2.2.1, h.2.2.2.2.2.2.2.2.2.2.2.2.2.1, h.2.2.2.2.2.2.2.2.2.2.2.2.2.2.1, h.2.2.2.2.2.2.2.2.2.2.2.2.2.2.2.1, h.2.2.2.2.2.2.2.2.2.2.2.2.2.2.2.2.1⟩)
theorem len_ne {l k : List UInt8} (n : Nat) (h : l.length = n) (hk : k.length ≠ n) : (l == k) = false := by
  rw [beq_eq_false_iff_ne]
  rintro rfl
  exact hk h
theorem ext_len (s : ByteArray) (n : Nat) (h : n ≤ s.size) : (s.extract 0 n).toList.length = n := by
  rw [ByteArray.toList_eq, len_toList, ByteArray.size_extract]
  omega
set_option maxHeartbeats 4000000 in
set_option maxRecDepth 100000 in
theorem symbol_two (s : ByteArray) (w : World) (h2 : 2 ≤ s.size) (hy : isSy (s.extract 0 2) = true) : Calls Tryz.prog 83 #[.string s] w (Bel (.tuple #[tok 4 (s.extract 0 2) 0, .int .i64 2, .int .i64 0]) w) := by
  have f1 : (2 : Int) ≤ (s.size : Int) := by omega
  have HY := Lib.hid hy
  have hln := ext_len s 2 h2
  clear hy
  have l4 : ((s.extract 0 2).toList == [40]) = false := len_ne 2 hln (by decide)
  have l5 : ((s.extract 0 2).toList == [41]) = false := len_ne 2 hln (by decide)
  have l6 : ((s.extract 0 2).toList == [58]) = false := len_ne 2 hln (by decide)
  have l7 : ((s.extract 0 2).toList == [59]) = false := len_ne 2 hln (by decide)
  have l8 : ((s.extract 0 2).toList == [44]) = false := len_ne 2 hln (by decide)
  have l9 : ((s.extract 0 2).toList == [61]) = false := len_ne 2 hln (by decide)
  have l10 : ((s.extract 0 2).toList == [124]) = false := len_ne 2 hln (by decide)
  have l11 : ((s.extract 0 2).toList == [60]) = false := len_ne 2 hln (by decide)
  have l12 : ((s.extract 0 2).toList == [62]) = false := len_ne 2 hln (by decide)
  have l13 : ((s.extract 0 2).toList == [43]) = false := len_ne 2 hln (by decide)
  have l14 : ((s.extract 0 2).toList == [45]) = false := len_ne 2 hln (by decide)
  have l15 : ((s.extract 0 2).toList == [42]) = false := len_ne 2 hln (by decide)
  have l16 : ((s.extract 0 2).toList == [47]) = false := len_ne 2 hln (by decide)
  clear hln
  have x2 := ix2
  go_enter Tryz.func83, Tryz.ntmps83
  go_wp2
  refine wp_loop_rounds 3 ?_
  rw [rounds_succ]
  go_wp2
  all_goals try (rename_i hA hB; exact absurd (hA.symm.trans hB) (by decide))
  all_goals first
    | (refine bodyPost_ret (v := .tuple #[tok 4 (s.extract 0 2) 0, .int .i64 2, .int .i64 0]) (by simp [results, Tryz.results83, go_sem, tok]) rfl ?_; exact ⟨rfl, (by repeat (first | (with_reducible exact Below.refl _ _) | (with_reducible assumption) | (with_reducible exact bel_box _) | (with_reducible refine bel_step ?_ (by with_reducible assumption)) | (with_reducible refine Below.drew ?_) | (with_reducible refine below_drewN ?_ _) | (with_reducible refine bel_alloc ?_ _)))⟩)
    | (have h := HY.out; simp only [isSy, syL, List.contains_cons, List.contains_nil, Bool.or_false, *] at h; cases h)
set_option maxHeartbeats 4000000 in
set_option maxRecDepth 100000 in
theorem symbol_one1 (s : ByteArray) (w : World) (h2 : s.size = 1) (hy : isSy (s.extract 0 1) = true) : Calls Tryz.prog 83 #[.string s] w (Bel (.tuple #[tok 4 (s.extract 0 1) 0, .int .i64 1, .int .i64 0]) w) := by
  have f1 : (s.size : Int) < 2 := by omega
  have f2 : (1 : Int) ≤ (s.size : Int) := by omega
  have HY := Lib.hid hy
  have hln := ext_len s 1 (by omega)
  clear hy
  have l0 : ((s.extract 0 1).toList == [45, 62]) = false := len_ne 1 hln (by decide)
  have l1 : ((s.extract 0 1).toList == [60, 62]) = false := len_ne 1 hln (by decide)
  have l2 : ((s.extract 0 1).toList == [60, 61]) = false := len_ne 1 hln (by decide)
  have l3 : ((s.extract 0 1).toList == [62, 61]) = false := len_ne 1 hln (by decide)
  clear hln
  have x2 := ix2
  have x1 := ix1
  go_enter Tryz.func83, Tryz.ntmps83
  go_wp2
  refine wp_loop_rounds 3 ?_
  rw [rounds_succ]
  go_wp2
  rw [rounds_succ]
  go_wp2
  all_goals try (rename_i hA hB; exact absurd (hA.symm.trans hB) (by decide))
  all_goals first
    | (refine bodyPost_ret (v := .tuple #[tok 4 (s.extract 0 1) 0, .int .i64 1, .int .i64 0]) (by simp [results, Tryz.results83, go_sem, tok]) rfl ?_; exact ⟨rfl, (by repeat (first | (with_reducible exact Below.refl _ _) | (with_reducible assumption) | (with_reducible exact bel_box _) | (with_reducible refine bel_step ?_ (by with_reducible assumption)) | (with_reducible refine Below.drew ?_) | (with_reducible refine below_drewN ?_ _) | (with_reducible refine bel_alloc ?_ _)))⟩)
    | (have h := HY.out; simp only [isSy, syL, List.contains_cons, List.contains_nil, Bool.or_false, *] at h; cases h)
set_option maxHeartbeats 4000000 in
set_option maxRecDepth 100000 in
theorem symbol_one2 (s : ByteArray) (w : World) (h2 : 2 ≤ s.size) (hn : isSy (s.extract 0 2) = false) (hy : isSy (s.extract 0 1) = true) : Calls Tryz.prog 83 #[.string s] w (Bel (.tuple #[tok 4 (s.extract 0 1) 0, .int .i64 1, .int .i64 0]) w) := by
  have f1 : (2 : Int) ≤ (s.size : Int) := by omega
  have f2 : (1 : Int) ≤ (s.size : Int) := by omega
  have HY := Lib.hid hy
  have hln := ext_len s 1 (by omega)
  have N := no17 hn
  obtain ⟨n0, n1, n2, n3, n4, n5, n6, n7, n8, n9, n10, n11, n12, n13, n14, n15, n16⟩ := N.out
  clear hy hn N
  have l0 : ((s.extract 0 1).toList == [45, 62]) = false := len_ne 1 hln (by decide)
  have l1 : ((s.extract 0 1).toList == [60, 62]) = false := len_ne 1 hln (by decide)
  have l2 : ((s.extract 0 1).toList == [60, 61]) = false := len_ne 1 hln (by decide)
  have l3 : ((s.extract 0 1).toList == [62, 61]) = false := len_ne 1 hln (by decide)
  clear hln
  have x2 := ix2
  have x1 := ix1
  go_enter Tryz.func83, Tryz.ntmps83
  go_wp2
  refine wp_loop_rounds 3 ?_
  rw [rounds_succ]
  go_wp2
  rw [rounds_succ]
  go_wp2
  all_goals try (rename_i hA hB; exact absurd (hA.symm.trans hB) (by decide))
  all_goals first
    | (refine bodyPost_ret (v := .tuple #[tok 4 (s.extract 0 1) 0, .int .i64 1, .int .i64 0]) (by simp [results, Tryz.results83, go_sem, tok]) rfl ?_; exact ⟨rfl, (by repeat (first | (with_reducible exact Below.refl _ _) | (with_reducible assumption) | (with_reducible exact bel_box _) | (with_reducible refine bel_step ?_ (by with_reducible assumption)) | (with_reducible refine Below.drew ?_) | (with_reducible refine below_drewN ?_ _) | (with_reducible refine bel_alloc ?_ _)))⟩)
    | (have h := HY.out; simp only [isSy, syL, List.contains_cons, List.contains_nil, Bool.or_false, *] at h; cases h)
set_option maxHeartbeats 4000000 in
set_option maxRecDepth 100000 in
theorem symbol_none1 (s : ByteArray) (w : World) (h2 : s.size = 1) (hy : isSy (s.extract 0 1) = false) : Calls Tryz.prog 83 #[.string s] w (Bel (.tuple #[tok 0 ⟨#[]⟩ 0, .int .i64 0, .int .i64 5]) w) := by
  have f1 : (s.size : Int) < 2 := by omega
  have f2 : (1 : Int) ≤ (s.size : Int) := by omega
  have N := no17 hy
  obtain ⟨n0, n1, n2, n3, n4, n5, n6, n7, n8, n9, n10, n11, n12, n13, n14, n15, n16⟩ := N.out
  clear hy N
  have x2 := ix2
  have x1 := ix1
  go_enter Tryz.func83, Tryz.ntmps83
  go_wp2
  refine wp_loop_rounds 3 ?_
  rw [rounds_succ]
  go_wp2
  rw [rounds_succ]
  go_wp2
  rw [rounds_succ]
  go_wp2
  all_goals
    refine bodyPost_ret (v := .tuple #[tok 0 ⟨#[]⟩ 0, .int .i64 0, .int .i64 5]) (by simp [results, Tryz.results83, go_sem, tok]) rfl ?_
    exact ⟨rfl, (by repeat (first | (with_reducible exact Below.refl _ _) | (with_reducible assumption) | (with_reducible exact bel_box _) | (with_reducible refine bel_step ?_ (by with_reducible assumption)) | (with_reducible refine Below.drew ?_) | (with_reducible refine below_drewN ?_ _) | (with_reducible refine bel_alloc ?_ _)))⟩
set_option maxHeartbeats 4000000 in
set_option maxRecDepth 100000 in
theorem symbol_none2 (s : ByteArray) (w : World) (h2 : 2 ≤ s.size) (hn : isSy (s.extract 0 2) = false) (hy : isSy (s.extract 0 1) = false) : Calls Tryz.prog 83 #[.string s] w (Bel (.tuple #[tok 0 ⟨#[]⟩ 0, .int .i64 0, .int .i64 5]) w) := by
  have f1 : (2 : Int) ≤ (s.size : Int) := by omega
  have f2 : (1 : Int) ≤ (s.size : Int) := by omega
  have N := no17 hy
  obtain ⟨n0, n1, n2, n3, n4, n5, n6, n7, n8, n9, n10, n11, n12, n13, n14, n15, n16⟩ := N.out
  have M := no17 hn
  obtain ⟨m0, m1, m2, m3, m4, m5, m6, m7, m8, m9, m10, m11, m12, m13, m14, m15, m16⟩ := M.out
  clear hy hn N M
  have x2 := ix2
  have x1 := ix1
  go_enter Tryz.func83, Tryz.ntmps83
  go_wp2
  refine wp_loop_rounds 3 ?_
  rw [rounds_succ]
  go_wp2
  rw [rounds_succ]
  go_wp2
  rw [rounds_succ]
  go_wp2
  all_goals
    refine bodyPost_ret (v := .tuple #[tok 0 ⟨#[]⟩ 0, .int .i64 0, .int .i64 5]) (by simp [results, Tryz.results83, go_sem, tok]) rfl ?_
    exact ⟨rfl, (by repeat (first | (with_reducible exact Below.refl _ _) | (with_reducible assumption) | (with_reducible exact bel_box _) | (with_reducible refine bel_step ?_ (by with_reducible assumption)) | (with_reducible refine Below.drew ?_) | (with_reducible refine below_drewN ?_ _) | (with_reducible refine bel_alloc ?_ _)))⟩
end Go.Proofs.YtfogkcccjemloaaGreatDoor
