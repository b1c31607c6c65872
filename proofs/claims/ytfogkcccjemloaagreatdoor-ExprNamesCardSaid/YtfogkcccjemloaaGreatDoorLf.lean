/- name and word of the program. -/
import Derived.Test.YtfogkcccjemloaaGreatDoorLe
namespace Go.Proofs.YtfogkcccjemloaaGreatDoor
set_option linter.unusedVariables false
set_option linter.unusedSimpArgs false
open Go.RowKit
theorem set3_cells {W : World} {b : Nat} {u v x : Value} (h0 : W.cell? ⟨b, 0, none⟩ = some u) (h1 : W.cell? ⟨b, 1, none⟩ = some v) (h2 : W.cell? ⟨b, 2, none⟩ = some x) (x0 x1 x2 : Value) :
    (((W.setCell ⟨b, 0, none⟩ x0).setCell ⟨b, 1, none⟩ x1).setCell ⟨b, 2, none⟩ x2).cell? ⟨b, 0, none⟩ = some x0 ∧ (((W.setCell ⟨b, 0, none⟩ x0).setCell ⟨b, 1, none⟩ x1).setCell ⟨b, 2, none⟩ x2).cell? ⟨b, 1, none⟩ = some x1 ∧ (((W.setCell ⟨b, 0, none⟩ x0).setCell ⟨b, 1, none⟩ x1).setCell ⟨b, 2, none⟩ x2).cell? ⟨b, 2, none⟩ = some x2 := by
  refine ⟨?_, ?_, ?_⟩
  · rw [World.cell?_setCell_other _ _ _ _ (by simp), World.cell?_setCell_other _ _ _ _ (by simp)]; exact World.cell?_setCell_same _ _ _ h0
  · rw [World.cell?_setCell_other _ _ _ _ (by simp)]
    exact World.cell?_setCell_same _ _ _ (by rw [World.cell?_setCell_other _ _ _ _ (by simp)]; exact h1)
  · exact World.cell?_setCell_same _ _ _ (by rw [World.cell?_setCell_other _ _ _ _ (by simp), World.cell?_setCell_other _ _ _ _ (by simp)]; exact h2)
theorem bel_set3 {w W : World} (h : Below w.heap.size w W) {b : Nat} (hb : w.heap.size ≤ b) (x y z : Value) : Below w.heap.size w (((W.setCell ⟨b, 0, none⟩ x).setCell ⟨b, 1, none⟩ y).setCell ⟨b, 2, none⟩ z) :=
  ((h.setCell (p := ⟨b, 0, none⟩) hb _).setCell (p := ⟨b, 1, none⟩) hb _).setCell (p := ⟨b, 2, none⟩) hb _
def tok (k : Int) (s : ByteArray) (a : Int) : Value := .agg #[.int .i64 k, .string s, .int .i64 a]
theorem rest {w W : World} {t : TypeId} {s0 : ByteArray} (h : Below (w.alloc (.cells #[.int .i64 0, .string s0, .int .i64 0] t)).heap.size (w.alloc (.cells #[.int .i64 0, .string s0, .int .i64 0] t)) W) :
    W.cell? ⟨w.heap.size, 0, none⟩ = some (.int .i64 0) ∧ W.cell? ⟨w.heap.size, 1, none⟩ = some (.string s0) ∧ W.cell? ⟨w.heap.size, 2, none⟩ = some (.int .i64 0) ∧ W.frozen? ⟨w.heap.size, 0, none⟩ = false ∧ W.frozen? ⟨w.heap.size, 1, none⟩ = false ∧ W.frozen? ⟨w.heap.size, 2, none⟩ = false ∧ w.heap.size < W.heap.size := by
  obtain ⟨hc, hf, hz⟩ := bcell h
  rw [hc _ _ (by simp), hc _ _ (by simp), hc _ _ (by simp), hf _ _ (by simp), hf _ _ (by simp), hf _ _ (by simp)]
  simp at hz
  refine ⟨?_, ?_, ?_, ?_, ?_, ?_, by omega⟩ <;> simp [go_sem]
def nmK (s : ByteArray) : Int := if isKw s then 3 else 1
set_option maxHeartbeats 400000 in
theorem name_long (s : ByteArray) (w : World) (hs : 40 < s.size) (h9 : s.size ≤ 9223372036854775807) : Calls Tryz.prog 76 #[.string s] w (Bel (.tuple #[tok 0 ⟨#[]⟩ 0, .int .i64 0, .int .i64 3]) w) := by
  go_enter Tryz.func76, Tryz.ntmps76
  go_wp2
  refine bodyPost_ret (v := .tuple #[tok 0 ⟨#[]⟩ 0, .int .i64 0, .int .i64 3]) (by simp [results, Tryz.results76, go_sem, tok]) rfl ?_
  exact ⟨rfl, (by repeat (first | (with_reducible exact Below.refl _ _) | (with_reducible assumption) | (with_reducible exact bel_box _) | (with_reducible refine bel_step ?_ (by with_reducible assumption)) | (with_reducible refine Below.drew ?_) | (with_reducible refine below_drewN ?_ _) | (with_reducible refine bel_alloc ?_ _)))⟩
set_option maxHeartbeats 400000 in
theorem name_any (s : ByteArray) (w : World) (hs : s.size ≤ 40) : Calls Tryz.prog 76 #[.string s] w (Bel (.tuple #[tok (nmK s) s 0, .int .i64 s.size, .int .i64 0]) w) := by
  have k := Lib.hid (keyword_any s)
  have e : nmK s = if isKw s then 3 else 1 := rfl
  rw [e]
  generalize isKw s = b at *
  clear e
  cases b
  all_goals
    go_enter Tryz.func76, Tryz.ntmps76
    go_wp2_with (go_at_call 93; refine (k.out _).mono ?_; rintro e w1 ⟨rfl, hb1⟩; obtain ⟨q0, q1, q2, q3, q4, q5, q6⟩ := rest (w := w) (W := w1) (t := 61) (s0 := ⟨#[]⟩) (by repeat (first | (with_reducible exact Below.refl _ _) | (with_reducible assumption) | (with_reducible exact bel_box _) | (with_reducible refine bel_step ?_ (by with_reducible assumption)) | (with_reducible refine Below.drew ?_) | (with_reducible refine below_drewN ?_ _) | (with_reducible refine bel_alloc ?_ _))))
  · obtain ⟨k0, k1, k2⟩ := set3_cells q0 q1 q2 (.int .i64 1) (.string s) (.int .i64 0)
    refine bodyPost_ret (v := .tuple #[tok 1 s 0, .int .i64 s.size, .int .i64 0]) (by simp [results, Tryz.results76, go_sem, tok, k0, k1, k2]) rfl ?_
    exact ⟨rfl, bel_set3 (by repeat (first | (with_reducible exact Below.refl _ _) | (with_reducible assumption) | (with_reducible exact bel_box _) | (with_reducible refine bel_step ?_ (by with_reducible assumption)) | (with_reducible refine Below.drew ?_) | (with_reducible refine below_drewN ?_ _) | (with_reducible refine bel_alloc ?_ _))) (Nat.le_refl _) _ _ _⟩
  · obtain ⟨k0, k1, k2⟩ := set3_cells q0 q1 q2 (.int .i64 3) (.string s) (.int .i64 0)
    refine bodyPost_ret (v := .tuple #[tok 3 s 0, .int .i64 s.size, .int .i64 0]) (by simp [results, Tryz.results76, go_sem, tok, k0, k1, k2]) rfl ?_
    exact ⟨rfl, bel_set3 (by repeat (first | (with_reducible exact Below.refl _ _) | (with_reducible assumption) | (with_reducible exact bel_box _) | (with_reducible refine bel_step ?_ (by with_reducible assumption)) | (with_reducible refine Below.drew ?_) | (with_reducible refine below_drewN ?_ _) | (with_reducible refine bel_alloc ?_ _))) (Nat.le_refl _) _ _ _⟩
theorem pW_contains (c : UInt8) : (ByteArray.mk #[48, 49, 40, 41]).data.toList.contains c = pW ((c.toNat : Nat) : Int) := by
  have key : ∀ d : UInt8, (c == d) = (((c.toNat : Nat) : Int) == ((d.toNat : Nat) : Int)) := fun d => by
    rw [Bool.eq_iff_iff, beq_iff_eq, beq_iff_eq]
    constructor
    · rintro rfl; rfl
    · intro h; exact UInt8.toNat_inj.1 (by omega)
  show [48, 49, 40, 41].contains c = _
  simp only [List.contains_cons, List.contains_nil, Bool.or_false, key, pW]
  simp only [Bool.or_assoc]
  rfl
set_option maxHeartbeats 1000000 in
theorem word_any (s : ByteArray) (m : Nat) (w : World) (hs : s.size ≤ 140737488351232) (h1 : 1 ≤ s.size) (hm : 1 + sp pW (s.data.toList.drop 1) = m) :
    Calls Tryz.prog 82 #[.string s] w (Bel (if Lib.hasPrefix (s.data.toList.drop m) [39] = true then .tuple #[tok 5 (s.extract 1 m) 0, .int .i64 (m + 1), .int .i64 0] else .tuple #[tok 0 ⟨#[]⟩ 0, .int .i64 0, .int .i64 5]) w) := by
  have KA : Hid (∀ W, Calls Tryz.prog 80 #[.string ⟨#[48, 49, 40, 41]⟩] W (fun e w' => e = .returned (.func (.func 95) #[] #[.pointer (some ⟨W.heap.size, 0, none⟩)]) ∧ w'.cell? ⟨W.heap.size, 0, none⟩ = some (.string ⟨#[48, 49, 40, 41]⟩) ∧ W.heap.size < w'.heap.size ∧ Below W.heap.size W w')) := Lib.hid fun W => among_any _ W
  obtain ⟨a, ha⟩ : ∃ a, sp pW (s.data.toList.drop 1) = a := ⟨_, rfl⟩
  have hal : a ≤ s.size - 1 := by rw [← ha]; have := sp_length pW (s.data.toList.drop 1); rwa [List.length_drop, len_toList] at this
  rw [ha] at hm
  have S1 : Hid (∀ (q : Addr) W, q.block < W.heap.size → W.cell? q = some (.string ⟨#[48, 49, 40, 41]⟩) → Calls Tryz.prog 77 #[.string (s.extract 1 s.size), .func (.func 95) #[] #[.pointer (some q)]] W (Bel (.int .i64 a) W)) := Lib.hid fun q W hq hc => by
    have := span_am q pW (s.extract 1 s.size) W (by rw [drop_size]; omega) (Lib.hid fun W' hb c => by
      have := among_call ⟨#[48, 49, 40, 41]⟩ q c W' ((hb.cell hq).trans hc)
      rwa [pW_contains] at this)
    rwa [drop_bytes, ha] at this
  have P1 : Hid (∀ W, Calls Tryz.prog 98 #[.string (s.extract m s.size), .string ⟨#[39]⟩] W (fun e w' => e = .returned (.bool (Lib.hasPrefix (s.data.toList.drop m) [39])) ∧ w' = W)) := Lib.hid fun W => by
    have := Tryz.strings_HasPrefix (s.extract m s.size) ⟨#[39]⟩ W
    rwa [drop_bytes] at this
  have f1 : (1 : Int) + (a : Int) = (m : Int) := by omega
  have f2 : IntKind.i64.wrap (m : Int) = (m : Int) := Go.IntWalk.i64_in _ ⟨by omega, by omega⟩
  have f3 : (1 : Int) ≤ (s.size : Int) := by omega
  have f4 : (m : Int) ≤ (s.size : Int) := by omega
  have f5 : (0 : Int) ≤ (m : Int) := by omega
  have f6 : (1 : Int) ≤ (m : Int) := by omega
  have f7 : 1 ≤ m := by omega
  have f8 : m ≤ s.size := by omega
  have f9 : IntKind.i64.wrap ((m : Int) + 1) = (m : Int) + 1 := Go.IntWalk.i64_in _ ⟨by omega, by omega⟩
  clear hm ha hal
  cases hp : Lib.hasPrefix (s.data.toList.drop m) [39]
  all_goals
    rw [hp] at P1
    clear hp
    go_enter Tryz.func82, Tryz.ntmps82
    go_wp2
    go_region_held3 (fun _ => True) (trivial) (first
      | (go_at_call 80; (with_reducible refine (KA.out _).mono ?_); rintro e w1 ⟨rfl, hq1, hz1, hb1⟩)
      | (go_at_call 77; (with_reducible refine (S1.out _ _ ?_ ?_).mono ?_); (focus (first | assumption | (simpa using hz1; done))); (focus (first | assumption | (simpa using hq1; done))); rintro e w2 ⟨rfl, hb2⟩; obtain ⟨q0, q1, q2, q3, q4, q5, q6⟩ := rest (w := w) (W := w2) (t := 61) (s0 := ⟨#[]⟩) (by repeat (first | (with_reducible exact Below.refl _ _) | (with_reducible assumption) | (with_reducible exact bel_box _) | (with_reducible refine bel_step ?_ (by with_reducible assumption)) | (with_reducible refine Below.drew ?_) | (with_reducible refine below_drewN ?_ _) | (with_reducible refine bel_alloc ?_ _)))))
    go_wp2_with (go_at_call 98; refine (P1.out _).mono ?_; rintro e w3 ⟨rfl, rfl⟩)
  · obtain ⟨k0, k1, k2⟩ := set3_cells q0 q1 q2 (.int .i64 0) (.string ⟨#[]⟩) (.int .i64 0)
    refine bodyPost_ret (v := .tuple #[tok 0 ⟨#[]⟩ 0, .int .i64 0, .int .i64 5]) (by simp [results, Tryz.results82, go_sem, tok, k0, k1, k2]) rfl ?_
    exact ⟨rfl, bel_set3 (by repeat (first | (with_reducible exact Below.refl _ _) | (with_reducible assumption) | (with_reducible exact bel_box _) | (with_reducible refine bel_step ?_ (by with_reducible assumption)) | (with_reducible refine Below.drew ?_) | (with_reducible refine below_drewN ?_ _) | (with_reducible refine bel_alloc ?_ _))) (Nat.le_refl _) _ _ _⟩
  · obtain ⟨k0, k1, k2⟩ := set3_cells q0 q1 q2 (.int .i64 5) (.string (s.extract 1 m)) (.int .i64 0)
    refine bodyPost_ret (v := .tuple #[tok 5 (s.extract 1 m) 0, .int .i64 (m + 1), .int .i64 0]) (by simp [results, Tryz.results82, go_sem, tok, k0, k1, k2]) rfl ?_
    exact ⟨rfl, bel_set3 (by repeat (first | (with_reducible exact Below.refl _ _) | (with_reducible assumption) | (with_reducible exact bel_box _) | (with_reducible refine bel_step ?_ (by with_reducible assumption)) | (with_reducible refine Below.drew ?_) | (with_reducible refine below_drewN ?_ _) | (with_reducible refine bel_alloc ?_ _))) (Nat.le_refl _) _ _ _⟩
end Go.Proofs.YtfogkcccjemloaaGreatDoor
