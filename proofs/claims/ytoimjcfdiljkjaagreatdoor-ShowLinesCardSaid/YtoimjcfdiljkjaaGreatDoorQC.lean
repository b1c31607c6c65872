import Derived.IntWalk
import Derived.Deep.RegionHeld3
import Derived.Deep.RegionLaw
import Derived.Deep.OwnRows
import Derived.Maps.StringElems
import Derived.Maps.OwnOps
import Derived.Lib.QuietBelow
import Derived.Laws.Concat
import Derived.Test.YtoimjcfdiljkjaaGreatDoorQB
set_option linter.unusedVariables false
set_option linter.unusedSimpArgs false
namespace Go.Proofs.YtoimjcfdiljkjaaGreatDoor
open Go.RowKit
theorem idx_ge (l : List UInt8) (c : UInt8) : -1 ≤ Lib.indexByte l c := by
  induction l with
  | nil => simp [Lib.indexByte]
  | cons d r ih =>
    rw [Lib.indexByte]
    split
    · omega
    · split
      · omega
      · omega
theorem idx_mem (l : List UInt8) (c : UInt8) : decide (Lib.indexByte l c ≥ 0) = l.contains c := by
  induction l with
  | nil => rfl
  | cons b r ih =>
    rw [Lib.indexByte, List.contains_cons]
    have hg := idx_ge r c
    by_cases hb : b = c
    · subst hb
      simp
    · have h1 : (b == c) = false := by simpa using hb
      have h2 : (c == b) = false := by simpa using Ne.symm hb
      rw [h1, h2, ← ih]
      simp only [Bool.false_eq_true, if_false, Bool.false_or]
      split
      · rename_i h
        have h' : Lib.indexByte r c = -1 := by simpa using h
        rw [h']
      · rename_i h
        have h' : Lib.indexByte r c ≠ -1 := by simpa using h
        rw [decide_eq_decide]
        omega
theorem among_call (t : ByteArray) (q : Addr) (c : UInt8) (w : World) (hq : w.cell? q = some (.string t)) :
    Calls Tryz.prog 180 #[.int .u8 ((c.toNat : Nat) : Int), .pointer (some q)] w (Bel (.bool (t.data.toList.contains c)) w) := by
  have K : Hid (∀ w, Calls Tryz.prog 181 #[.string t, .int .u8 ((c.toNat : Nat) : Int)] w fun e w' => e = .returned (.int .i64 (Lib.indexByte t.data.toList c)) ∧ w' = w) := Lib.hid fun w => by
    have := Tryz.strings_IndexByte t ((c.toNat : Nat) : Int) w
    rwa [show ((c.toNat : Nat) : Int).toNat.toUInt8 = c from by simp] at this
  have e := idx_mem t.data.toList c
  generalize Lib.indexByte t.data.toList c = i at *
  generalize t.data.toList.contains c = b at *
  go_enter Tryz.func180, Tryz.ntmps180
  go_wp2_with (go_at_call 181; refine (K.out _).mono ?_; rintro e w1 ⟨rfl, rfl⟩)
  go_ret
  exact ⟨ret_bool (by first | exact e | rw [← e]), bl⟩
theorem among_any (t : ByteArray) (w : World) :
    Calls Tryz.prog 152 #[.string t] w (fun e w' => e = .returned (.func (.func 180) #[] #[.pointer (some ⟨w.heap.size, 0, none⟩)]) ∧ w'.cell? ⟨w.heap.size, 0, none⟩ = some (.string t) ∧ w.heap.size < w'.heap.size ∧ Below w.heap.size w w') := by
  go_enter Tryz.func152, Tryz.ntmps152
  go_wp2
  go_ret
  refine ⟨rfl, ?_, ?_, bl⟩ <;> simp [go_sem]
def Tests (w : World) (q : Addr) (B : Nat) : Prop := ∃ a r : Addr, q.block < B ∧ a.block < B ∧ r.block < B ∧ w.cell? q = some (.slice (some a) 3 3) ∧ w.cell? a = some (.func (.func 147) #[] #[]) ∧ w.cell? (a.add 1) = some (.func (.func 151) #[] #[]) ∧
  w.cell? (a.add 2) = some (.func (.func 180) #[] #[.pointer (some r)]) ∧ w.cell? r = some (.string ⟨#[95]⟩)
set_option maxHeartbeats 800000 in
theorem either_call (q : Addr) (c : UInt8) (w : World) (hq : Tests w q w.heap.size) :
    Calls Tryz.prog 179 #[.int .u8 ((c.toNat : Nat) : Int), .pointer (some q)] w (Bel (.bool (pI ((c.toNat : Nat) : Int))) w) := by
  obtain ⟨a, r, hqb, hab, hrb, h0, h1, h2, h3, h4⟩ := hq
  have k1 := Lib.hid (letter_any ((c.toNat : Nat) : Int))
  have k2 := Lib.hid (digit_any ((c.toNat : Nat) : Int))
  have k3 : Hid (∀ W, Below w.heap.size w W → Calls Tryz.prog 180 #[.int .u8 ((c.toNat : Nat) : Int), .pointer (some r)] W (Bel (.bool (((c.toNat : Nat) : Int) == 95)) W)) := Lib.hid fun W hb => by
    have := among_call ⟨#[95]⟩ r c W ((hb.cell hrb).trans h4)
    rwa [show (ByteArray.mk #[95]).data.toList.contains c = (((c.toNat : Nat) : Int) == 95) from by
      rw [show (ByteArray.mk #[95]).data.toList = [95] from rfl, List.contains_cons, List.contains_nil, Bool.or_false, Bool.eq_iff_iff, beq_iff_eq, beq_iff_eq]
      constructor
      · rintro rfl; rfl
      · intro h; apply UInt8.toNat_inj.1; have : c.toNat = 95 := by omega
        exact this] at this
  have HC : Hid (∀ W, Below w.heap.size w W → W.cell? a = some (.func (.func 147) #[] #[]) ∧ W.cell? ⟨a.block, a.off + 1, none⟩ = some (.func (.func 151) #[] #[]) ∧ W.cell? ⟨a.block, a.off + 2, none⟩ = some (.func (.func 180) #[] #[.pointer (some r)])) := Lib.hid fun W hb => ⟨(hb.cell hab).trans h1, (hb.cell (p := ⟨a.block, a.off + 1, none⟩) hab).trans h2, (hb.cell (p := ⟨a.block, a.off + 2, none⟩) hab).trans h3⟩
  have e : pI ((c.toNat : Nat) : Int) = (pL ((c.toNat : Nat) : Int) || pG ((c.toNat : Nat) : Int) || ((c.toNat : Nat) : Int) == 95) := rfl
  rw [e]
  clear e h1 h2 h3 h4
  generalize pL ((c.toNat : Nat) : Int) = b1 at *
  generalize pG ((c.toNat : Nat) : Int) = b2 at *
  generalize (((c.toNat : Nat) : Int) == 95) = b3 at *
  obtain ⟨c1, c2, c3⟩ := HC.out w (Below.refl _ _)
  cases b1
  rotate_left
  · go_enter Tryz.func179, Tryz.ntmps179
    go_wp2
    refine wp_loop_rounds 4 ?_
    rw [rounds_succ]
    go_wp2_with (first
      | (go_at_call 147; refine (k1.out _).mono ?_; rintro e w1 ⟨rfl, hb1⟩; obtain ⟨d1, d2, d3⟩ := HC.out w1 bl)
      | (go_at_call 151; refine (k2.out _).mono ?_; rintro e w2 ⟨rfl, hb2⟩; obtain ⟨d4, d5, d6⟩ := HC.out w2 bl)
      | (go_at_call 180; (with_reducible refine (k3.out _ ?_).mono ?_); (exact bl); rintro e w3 ⟨rfl, hb3⟩))
    go_ret
    exact ⟨rfl, bl⟩
  cases b2
  rotate_left
  · go_enter Tryz.func179, Tryz.ntmps179
    go_wp2
    refine wp_loop_rounds 4 ?_
    rw [rounds_succ]
    go_wp2_with (first
      | (go_at_call 147; refine (k1.out _).mono ?_; rintro e w1 ⟨rfl, hb1⟩; obtain ⟨d1, d2, d3⟩ := HC.out w1 bl)
      | (go_at_call 151; refine (k2.out _).mono ?_; rintro e w2 ⟨rfl, hb2⟩; obtain ⟨d4, d5, d6⟩ := HC.out w2 bl)
      | (go_at_call 180; (with_reducible refine (k3.out _ ?_).mono ?_); (exact bl); rintro e w3 ⟨rfl, hb3⟩))
    rw [rounds_succ]
    go_wp2_with (first
      | (go_at_call 147; refine (k1.out _).mono ?_; rintro e w1 ⟨rfl, hb1⟩; obtain ⟨d1, d2, d3⟩ := HC.out w1 bl)
      | (go_at_call 151; refine (k2.out _).mono ?_; rintro e w2 ⟨rfl, hb2⟩; obtain ⟨d4, d5, d6⟩ := HC.out w2 bl)
      | (go_at_call 180; (with_reducible refine (k3.out _ ?_).mono ?_); (exact bl); rintro e w3 ⟨rfl, hb3⟩))
    go_ret
    exact ⟨rfl, bl⟩
  cases b3
  rotate_left
  · go_enter Tryz.func179, Tryz.ntmps179
    go_wp2
    refine wp_loop_rounds 4 ?_
    rw [rounds_succ]
    go_wp2_with (first
      | (go_at_call 147; refine (k1.out _).mono ?_; rintro e w1 ⟨rfl, hb1⟩; obtain ⟨d1, d2, d3⟩ := HC.out w1 bl)
      | (go_at_call 151; refine (k2.out _).mono ?_; rintro e w2 ⟨rfl, hb2⟩; obtain ⟨d4, d5, d6⟩ := HC.out w2 bl)
      | (go_at_call 180; (with_reducible refine (k3.out _ ?_).mono ?_); (exact bl); rintro e w3 ⟨rfl, hb3⟩))
    rw [rounds_succ]
    go_wp2_with (first
      | (go_at_call 147; refine (k1.out _).mono ?_; rintro e w1 ⟨rfl, hb1⟩; obtain ⟨d1, d2, d3⟩ := HC.out w1 bl)
      | (go_at_call 151; refine (k2.out _).mono ?_; rintro e w2 ⟨rfl, hb2⟩; obtain ⟨d4, d5, d6⟩ := HC.out w2 bl)
      | (go_at_call 180; (with_reducible refine (k3.out _ ?_).mono ?_); (exact bl); rintro e w3 ⟨rfl, hb3⟩))
    rw [rounds_succ]
    go_wp2_with (first
      | (go_at_call 147; refine (k1.out _).mono ?_; rintro e w1 ⟨rfl, hb1⟩; obtain ⟨d1, d2, d3⟩ := HC.out w1 bl)
      | (go_at_call 151; refine (k2.out _).mono ?_; rintro e w2 ⟨rfl, hb2⟩; obtain ⟨d4, d5, d6⟩ := HC.out w2 bl)
      | (go_at_call 180; (with_reducible refine (k3.out _ ?_).mono ?_); (exact bl); rintro e w3 ⟨rfl, hb3⟩))
    go_ret
    exact ⟨rfl, bl⟩
  · go_enter Tryz.func179, Tryz.ntmps179
    go_wp2
    refine wp_loop_rounds 4 ?_
    rw [rounds_succ]
    go_wp2_with (first
      | (go_at_call 147; refine (k1.out _).mono ?_; rintro e w1 ⟨rfl, hb1⟩; obtain ⟨d1, d2, d3⟩ := HC.out w1 bl)
      | (go_at_call 151; refine (k2.out _).mono ?_; rintro e w2 ⟨rfl, hb2⟩; obtain ⟨d4, d5, d6⟩ := HC.out w2 bl)
      | (go_at_call 180; (with_reducible refine (k3.out _ ?_).mono ?_); (exact bl); rintro e w3 ⟨rfl, hb3⟩))
    rw [rounds_succ]
    go_wp2_with (first
      | (go_at_call 147; refine (k1.out _).mono ?_; rintro e w1 ⟨rfl, hb1⟩; obtain ⟨d1, d2, d3⟩ := HC.out w1 bl)
      | (go_at_call 151; refine (k2.out _).mono ?_; rintro e w2 ⟨rfl, hb2⟩; obtain ⟨d4, d5, d6⟩ := HC.out w2 bl)
      | (go_at_call 180; (with_reducible refine (k3.out _ ?_).mono ?_); (exact bl); rintro e w3 ⟨rfl, hb3⟩))
    rw [rounds_succ]
    go_wp2_with (first
      | (go_at_call 147; refine (k1.out _).mono ?_; rintro e w1 ⟨rfl, hb1⟩; obtain ⟨d1, d2, d3⟩ := HC.out w1 bl)
      | (go_at_call 151; refine (k2.out _).mono ?_; rintro e w2 ⟨rfl, hb2⟩; obtain ⟨d4, d5, d6⟩ := HC.out w2 bl)
      | (go_at_call 180; (with_reducible refine (k3.out _ ?_).mono ?_); (exact bl); rintro e w3 ⟨rfl, hb3⟩))
    rw [rounds_succ]
    go_wp2_with (first
      | (go_at_call 147; refine (k1.out _).mono ?_; rintro e w1 ⟨rfl, hb1⟩; obtain ⟨d1, d2, d3⟩ := HC.out w1 bl)
      | (go_at_call 151; refine (k2.out _).mono ?_; rintro e w2 ⟨rfl, hb2⟩; obtain ⟨d4, d5, d6⟩ := HC.out w2 bl)
      | (go_at_call 180; (with_reducible refine (k3.out _ ?_).mono ?_); (exact bl); rintro e w3 ⟨rfl, hb3⟩))
    go_ret
    exact ⟨rfl, bl⟩
end Go.Proofs.YtoimjcfdiljkjaaGreatDoor
namespace Go.Proofs.YtoimjcfdiljkjaaGreatDoor
open Go.RowKit
theorem drop_bytes (s : ByteArray) (k : Nat) : (s.extract k s.size).data.toList = s.data.toList.drop k := by
  rw [ByteArray.data_extract]
  simp only [Array.toList_extract, List.extract_eq_take_drop]
  rw [List.take_of_length_le]
  rw [List.length_drop, len_toList]
  exact Nat.le_refl _
theorem drop_size (s : ByteArray) (k : Nat) : (s.extract k s.size).size = s.size - k := by
  rw [← len_toList, drop_bytes, List.length_drop, len_toList]
theorem sp_length (p : Int → Bool) (l : List UInt8) : sp p l ≤ l.length := tw_le _ _
end Go.Proofs.YtoimjcfdiljkjaaGreatDoor
namespace Go.Proofs.YtoimjcfdiljkjaaGreatDoor
open Go.RowKit
def kwL : List (List UInt8) := [[97, 115, 115, 117, 109, 101], [97, 110, 100], [97, 117, 116, 111, 109, 97, 116, 111, 110], [98, 111, 111, 108], [99, 111, 110, 116, 105, 110, 117, 101], [100, 111], [100, 111, 110, 101], [101, 108, 115, 101], [101, 110, 100], [101, 110, 115, 117, 114, 101], [101, 118, 101, 114, 121], [102, 97, 108, 115, 101], [102, 98, 121], [105, 102], [105, 110, 116], [108, 101, 116], [109, 101, 114, 103, 101], [109, 111, 100], [110, 111, 100, 101], [110, 111, 116], [111, 114], [112, 114, 101], [114, 101, 116, 117, 114, 110, 115], [115, 116, 97, 116, 101], [116, 101, 108], [116, 104, 101, 110], [116, 114, 117, 101], [116, 121, 112, 101], [117, 110, 108, 101, 115, 115], [117, 110, 116, 105, 108], [118, 97, 114], [119, 104, 101, 110], [120, 111, 114]]
def isKw (s : ByteArray) : Bool := kwL.contains s.toList
set_option maxHeartbeats 4000000 in
set_option maxRecDepth 100000 in
theorem keyword_any (s : ByteArray) (w : World) : Calls Tryz.prog 178 #[.string s] w (Bel (.bool (isKw s)) w) := by
  go_enter Tryz.func178, Tryz.ntmps178
  go_wp2
  all_goals go_ret
  all_goals refine ⟨ret_bool ?_, bl⟩
  all_goals first | (simp only [isKw, kwL, List.contains_cons, List.contains_nil, Bool.true_or, Bool.or_true, Bool.false_or, Bool.or_false, *]; done) | (simp_all only [Bool.true_eq_false, Bool.false_eq_true])
end Go.Proofs.YtoimjcfdiljkjaaGreatDoor
namespace Go.Proofs.YtoimjcfdiljkjaaGreatDoor
open Go.RowKit
theorem set3_cells {W : World} {b : Nat} {u v x : Value} (h0 : W.cell? ⟨b, 0, none⟩ = some u) (h1 : W.cell? ⟨b, 1, none⟩ = some v) (h2 : W.cell? ⟨b, 2, none⟩ = some x) (x0 x1 x2 : Value) :
    (((W.setCell ⟨b, 0, none⟩ x0).setCell ⟨b, 1, none⟩ x1).setCell ⟨b, 2, none⟩ x2).cell? ⟨b, 0, none⟩ = some x0 ∧ (((W.setCell ⟨b, 0, none⟩ x0).setCell ⟨b, 1, none⟩ x1).setCell ⟨b, 2, none⟩ x2).cell? ⟨b, 1, none⟩ = some x1 ∧ (((W.setCell ⟨b, 0, none⟩ x0).setCell ⟨b, 1, none⟩ x1).setCell ⟨b, 2, none⟩ x2).cell? ⟨b, 2, none⟩ = some x2 := by
  refine ⟨?_, ?_, ?_⟩
  · rw [World.cell?_setCell_other _ _ _ _ (by simp), World.cell?_setCell_other _ _ _ _ (by simp)]; exact World.cell?_setCell_same _ _ _ h0
  · rw [World.cell?_setCell_other _ _ _ _ (by simp)]
    exact World.cell?_setCell_same _ _ _ (by rw [World.cell?_setCell_other _ _ _ _ (by simp)]; exact h1)
  · exact World.cell?_setCell_same _ _ _ (by rw [World.cell?_setCell_other _ _ _ _ (by simp), World.cell?_setCell_other _ _ _ _ (by simp)]; exact h2)
theorem bel_set3 {w W : World} (h : Below w.heap.size w W) {b : Nat} (hb : w.heap.size ≤ b) (x y z : Value) : Below w.heap.size w (((W.setCell ⟨b, 0, none⟩ x).setCell ⟨b, 1, none⟩ y).setCell ⟨b, 2, none⟩ z) :=
  ((h.setCell (p := ⟨b, 0, none⟩) hb _).setCell (p := ⟨b, 1, none⟩) hb _).setCell (p := ⟨b, 2, none⟩) hb _
def tok (k : Int) (s : ByteArray) (a : Int) : Value := .agg #[.int .i64 k, .string s, .int .i64 a]
theorem rest {w W : World} {t : TypeId} {s0 : ByteArray} (h : Below (w.alloc (.cells #[.int .i64 0, .string s0, .int .i64 0] t)).heap.size (w.alloc (.cells #[.int .i64 0, .string s0, .int .i64 0] t)) W) :
    W.cell? ⟨w.heap.size, 0, none⟩ = some (.int .i64 0) ∧ W.cell? ⟨w.heap.size, 1, none⟩ = some (.string s0) ∧ W.cell? ⟨w.heap.size, 2, none⟩ = some (.int .i64 0) ∧ W.frozen? ⟨w.heap.size, 0, none⟩ = false ∧ W.frozen? ⟨w.heap.size, 1, none⟩ = false ∧ W.frozen? ⟨w.heap.size, 2, none⟩ = false ∧ w.heap.size < W.heap.size := by
  obtain ⟨hc, hf, hz⟩ := bcell h
  rw [hc _ _ (by simp), hc _ _ (by simp), hc _ _ (by simp), hf _ _ (by simp), hf _ _ (by simp), hf _ _ (by simp)]
  simp at hz
  refine ⟨?_, ?_, ?_, ?_, ?_, ?_, by omega⟩ <;> simp [go_sem]
def nmK (s : ByteArray) : Int := if isKw s then 3 else 1
set_option maxHeartbeats 400000 in
theorem name_long (s : ByteArray) (w : World) (hs : 40 < s.size) (h9 : s.size ≤ 9223372036854775807) : Calls Tryz.prog 148 #[.string s] w (Bel (.tuple #[tok 0 ⟨#[]⟩ 0, .int .i64 0, .int .i64 3]) w) := by
  go_enter Tryz.func148, Tryz.ntmps148
  go_wp2
  refine bodyPost_ret (v := .tuple #[tok 0 ⟨#[]⟩ 0, .int .i64 0, .int .i64 3]) (by simp [results, Tryz.results148, go_sem, tok]) rfl ?_
  exact ⟨rfl, bl⟩
set_option maxHeartbeats 400000 in
theorem name_any (s : ByteArray) (w : World) (hs : s.size ≤ 40) : Calls Tryz.prog 148 #[.string s] w (Bel (.tuple #[tok (nmK s) s 0, .int .i64 s.size, .int .i64 0]) w) := by
  have k := Lib.hid (keyword_any s)
  have e : nmK s = if isKw s then 3 else 1 := rfl
  rw [e]
  generalize isKw s = b at *
  clear e
  cases b
  all_goals
    go_enter Tryz.func148, Tryz.ntmps148
    go_wp2_with (go_at_call 178; refine (k.out _).mono ?_; rintro e w1 ⟨rfl, hb1⟩; obtain ⟨q0, q1, q2, q3, q4, q5, q6⟩ := rest (w := w) (W := w1) (t := 162) (s0 := ⟨#[]⟩) bl)
  · obtain ⟨k0, k1, k2⟩ := set3_cells q0 q1 q2 (.int .i64 1) (.string s) (.int .i64 0)
    refine bodyPost_ret (v := .tuple #[tok 1 s 0, .int .i64 s.size, .int .i64 0]) (by simp [results, Tryz.results148, go_sem, tok, k0, k1, k2]) rfl ?_
    exact ⟨rfl, bel_set3 bl (Nat.le_refl _) _ _ _⟩
  · obtain ⟨k0, k1, k2⟩ := set3_cells q0 q1 q2 (.int .i64 3) (.string s) (.int .i64 0)
    refine bodyPost_ret (v := .tuple #[tok 3 s 0, .int .i64 s.size, .int .i64 0]) (by simp [results, Tryz.results148, go_sem, tok, k0, k1, k2]) rfl ?_
    exact ⟨rfl, bel_set3 bl (Nat.le_refl _) _ _ _⟩
theorem pW_contains (c : UInt8) : (ByteArray.mk #[48, 49, 40, 41]).data.toList.contains c = pW ((c.toNat : Nat) : Int) := by
  have key : ∀ d : UInt8, (c == d) = (((c.toNat : Nat) : Int) == ((d.toNat : Nat) : Int)) := fun d => by
    rw [Bool.eq_iff_iff, beq_iff_eq, beq_iff_eq]
    constructor
    · rintro rfl; rfl
    · intro h; exact UInt8.toNat_inj.1 (by omega)
  show [48, 49, 40, 41].contains c = _
  simp only [List.contains_cons, List.contains_nil, Bool.or_false, key, pW]
  simp only [Bool.or_assoc]
  rfl
set_option maxHeartbeats 1000000 in
theorem word_any (s : ByteArray) (m : Nat) (w : World) (hs : s.size ≤ 140737488351232) (h1 : 1 ≤ s.size) (hm : 1 + sp pW (s.data.toList.drop 1) = m) :
    Calls Tryz.prog 154 #[.string s] w (Bel (if Lib.hasPrefix (s.data.toList.drop m) [39] = true then .tuple #[tok 5 (s.extract 1 m) 0, .int .i64 (m + 1), .int .i64 0] else .tuple #[tok 0 ⟨#[]⟩ 0, .int .i64 0, .int .i64 5]) w) := by
  have KA : Hid (∀ W, Calls Tryz.prog 152 #[.string ⟨#[48, 49, 40, 41]⟩] W (fun e w' => e = .returned (.func (.func 180) #[] #[.pointer (some ⟨W.heap.size, 0, none⟩)]) ∧ w'.cell? ⟨W.heap.size, 0, none⟩ = some (.string ⟨#[48, 49, 40, 41]⟩) ∧ W.heap.size < w'.heap.size ∧ Below W.heap.size W w')) := Lib.hid fun W => among_any _ W
  obtain ⟨a, ha⟩ : ∃ a, sp pW (s.data.toList.drop 1) = a := ⟨_, rfl⟩
  have hal : a ≤ s.size - 1 := by rw [← ha]; have := sp_length pW (s.data.toList.drop 1); rwa [List.length_drop, len_toList] at this
  rw [ha] at hm
  have S1 : Hid (∀ (q : Addr) W, q.block < W.heap.size → W.cell? q = some (.string ⟨#[48, 49, 40, 41]⟩) → Calls Tryz.prog 149 #[.string (s.extract 1 s.size), .func (.func 180) #[] #[.pointer (some q)]] W (Bel (.int .i64 a) W)) := Lib.hid fun q W hq hc => by
    have := span_am q pW (s.extract 1 s.size) W (by rw [drop_size]; omega) (Lib.hid fun W' hb c => by
      have := among_call ⟨#[48, 49, 40, 41]⟩ q c W' ((hb.cell hq).trans hc)
      rwa [pW_contains] at this)
    rwa [drop_bytes, ha] at this
  have P1 : Hid (∀ W, Calls Tryz.prog 183 #[.string (s.extract m s.size), .string ⟨#[39]⟩] W (fun e w' => e = .returned (.bool (Lib.hasPrefix (s.data.toList.drop m) [39])) ∧ w' = W)) := Lib.hid fun W => by
    have := Tryz.strings_HasPrefix (s.extract m s.size) ⟨#[39]⟩ W
    rwa [drop_bytes] at this
  have f1 : (1 : Int) + (a : Int) = (m : Int) := by omega
  have f2 : IntKind.i64.wrap (m : Int) = (m : Int) := Go.IntWalk.i64_in _ ⟨by omega, by omega⟩
  have f3 : (1 : Int) ≤ (s.size : Int) := by omega
  have f4 : (m : Int) ≤ (s.size : Int) := by omega
  have f5 : (0 : Int) ≤ (m : Int) := by omega
  have f6 : (1 : Int) ≤ (m : Int) := by omega
  have f7 : 1 ≤ m := by omega
  have f8 : m ≤ s.size := by omega
  have f9 : IntKind.i64.wrap ((m : Int) + 1) = (m : Int) + 1 := Go.IntWalk.i64_in _ ⟨by omega, by omega⟩
  clear hm ha hal
  cases hp : Lib.hasPrefix (s.data.toList.drop m) [39]
  all_goals
    rw [hp] at P1
    clear hp
    go_enter Tryz.func154, Tryz.ntmps154
    go_wp2
    go_region_held3 (fun _ => True) (trivial) (first
      | (go_at_call 152; (with_reducible refine (KA.out _).mono ?_); rintro e w1 ⟨rfl, hq1, hz1, hb1⟩)
      | (go_at_call 149; (with_reducible refine (S1.out _ _ ?_ ?_).mono ?_); (focus (first | assumption | (simpa using hz1; done))); (focus (first | assumption | (simpa using hq1; done))); rintro e w2 ⟨rfl, hb2⟩; obtain ⟨q0, q1, q2, q3, q4, q5, q6⟩ := rest (w := w) (W := w2) (t := 162) (s0 := ⟨#[]⟩) bl))
    go_wp2_with (go_at_call 183; refine (P1.out _).mono ?_; rintro e w3 ⟨rfl, rfl⟩)
  · obtain ⟨k0, k1, k2⟩ := set3_cells q0 q1 q2 (.int .i64 0) (.string ⟨#[]⟩) (.int .i64 0)
    refine bodyPost_ret (v := .tuple #[tok 0 ⟨#[]⟩ 0, .int .i64 0, .int .i64 5]) (by simp [results, Tryz.results154, go_sem, tok, k0, k1, k2]) rfl ?_
    exact ⟨rfl, bel_set3 bl (Nat.le_refl _) _ _ _⟩
  · obtain ⟨k0, k1, k2⟩ := set3_cells q0 q1 q2 (.int .i64 5) (.string (s.extract 1 m)) (.int .i64 0)
    refine bodyPost_ret (v := .tuple #[tok 5 (s.extract 1 m) 0, .int .i64 (m + 1), .int .i64 0]) (by simp [results, Tryz.results154, go_sem, tok, k0, k1, k2]) rfl ?_
    exact ⟨rfl, bel_set3 bl (Nat.le_refl _) _ _ _⟩
end Go.Proofs.YtoimjcfdiljkjaaGreatDoor
namespace Go.Proofs.YtoimjcfdiljkjaaGreatDoor
open Go.RowKit
def Std (w : World) : Prop := Lib.TabIs Tryz.prog w "internal/strconv.uint64pow10" .u64 Lib.pow10Tab ∧ (∃ tp p, w.var? Tryz.prog "strconv.ErrSyntax" = some #[.iface tp p]) ∧ ∃ tp p, w.var? Tryz.prog "strconv.ErrRange" = some #[.iface tp p]
theorem var_below {n : String} {g : Nat} {v : Array Value} {w w' : World} (hg : Tryz.prog.globalNamed n = some g) (h : w.var? Tryz.prog n = some v) (hb : Below w.heap.size w w') : w'.var? Tryz.prog n = some v := by
  unfold World.var? at h ⊢
  rw [hg] at h ⊢
  simp only [Option.bind_some] at h ⊢
  have hlt : g < w.heap.size := by
    rcases Nat.lt_or_ge g w.heap.size with h' | h'
    · exact h'
    · rw [Array.getElem?_eq_none h'] at h; cases h
  rw [hb.block g hlt]
  exact h
theorem tab_below {n : String} {g : Nat} {k : IntKind} {zs : List Int} {w w' : World} (hg : Tryz.prog.globalNamed n = some g) (h : Lib.TabIs Tryz.prog w n k zs) (hb : Below w.heap.size w w') : Lib.TabIs Tryz.prog w' n k zs := var_below hg h hb
theorem gTab : Tryz.prog.globalNamed "internal/strconv.uint64pow10" = some 1 := by kernel_rfl
theorem gSyn : Tryz.prog.globalNamed "strconv.ErrSyntax" = some 2 := by kernel_rfl
theorem gRng : Tryz.prog.globalNamed "strconv.ErrRange" = some 3 := by kernel_rfl
theorem Std.to {w w' : World} (h : Std w) (hb : Below w.heap.size w w') : Std w' := by
  obtain ⟨h1, ⟨a, b, h2⟩, c, d, h3⟩ := h
  exact ⟨tab_below gTab h1 hb, ⟨a, b, var_below gSyn h2 hb⟩, c, d, var_below gRng h3 hb⟩
def atoiV (l : List UInt8) : Int := match Lib.atoiAll l with | .ok v => v | .syntax => 0 | .range => Lib.atoiSat l
def atoiOk (l : List UInt8) : Bool := match Lib.atoiAll l with | .ok v => true | _ => false
def Ato (l : List UInt8) (w : World) (e : Ending) (w' : World) : Prop := ∃ ev, e = .returned (.tuple #[.int .i64 (atoiV l), ev]) ∧ Below w.heap.size w w' ∧ (if atoiOk l then ev = .nilIface else ∃ t p, ev = .iface t p)
theorem atoi_any (s : ByteArray) (w : World) (hs : Std w) (hl : s.size ≤ 281474976710656) : Calls Tryz.prog 182 #[.string s] w (Ato s.data.toList w) := by
  obtain ⟨h1, ⟨a, b, h2⟩, c, d, h3⟩ := hs
  cases h : Lib.atoiAll s.data.toList with
  | ok v =>
    refine (Tryz.strconv_Atoi_ok s (by omega) v h w).mono fun e w' ⟨he, hw⟩ => ⟨.nilIface, by rw [he, atoiV, h], ?_, by rw [atoiOk, h]; rfl⟩
    rcases hw with rfl | ⟨t, rfl⟩
    · exact Below.refl _ _
    · exact Lib.bytesWorld_below _ _ _
  | «syntax» =>
    refine (Tryz.strconv_Atoi_syntax_var s hl h a b w h2).mono fun e w' hx => ?_
    obtain ⟨N, he, _, _, hb⟩ := hx
    have e1 : atoiV s.data.toList = 0 := by rw [atoiV, h]
    have e2 : atoiOk s.data.toList = false := by rw [atoiOk, h]
    exact ⟨_, by rw [he, e1], hb, by rw [e2]; exact ⟨_, _, rfl⟩⟩
  | range =>
    refine (Tryz.strconv_Atoi_range_var s hl h c d w h3).mono fun e w' hx => ?_
    obtain ⟨N, he, _, _, hb⟩ := hx
    have e1 : atoiV s.data.toList = Lib.atoiSat s.data.toList := by rw [atoiV, h]
    have e2 : atoiOk s.data.toList = false := by rw [atoiOk, h]
    exact ⟨_, by rw [he, e1], hb, by rw [e2]; exact ⟨_, _, rfl⟩⟩
def numOk (l : List UInt8) : Bool := atoiOk l && decide (atoiV l ≤ 32768)
set_option maxHeartbeats 1000000 in
theorem number_zero (s : ByteArray) (w : World) (h1 : 2 ≤ s.size) (h9 : s.size ≤ 140737488351232) (h0 : ((s[0].toNat : Nat) : Int) = 48) : Calls Tryz.prog 153 #[.string s] w (Bel (.tuple #[tok 0 ⟨#[]⟩ 0, .int .i64 0, .int .i64 5]) w) := by
  have f0 : (((s[0].toNat : Nat) : Int) == 48) = true := by rw [h0]; rfl
  have f1 : (1 : Int) < (s.size : Int) := by omega
  have f2 : (0 : Int) < (s.size : Int) := by omega
  go_enter Tryz.func153, Tryz.ntmps153
  go_wp2
  refine bodyPost_ret (v := .tuple #[tok 0 ⟨#[]⟩ 0, .int .i64 0, .int .i64 5]) (by simp [results, Tryz.results153, go_sem, tok]) rfl ?_
  exact ⟨rfl, bl⟩
set_option maxHeartbeats 1000000 in
theorem number_any (s : ByteArray) (w : World) (hstd : Std w) (h1 : 1 ≤ s.size) (h9 : s.size ≤ 140737488351232) (h0 : ¬ (2 ≤ s.size ∧ ((s[0].toNat : Nat) : Int) = 48)) :
    Calls Tryz.prog 153 #[.string s] w (Bel (if numOk s.data.toList = true then .tuple #[tok 2 s 0, .int .i64 s.size, .int .i64 0] else .tuple #[tok 0 ⟨#[]⟩ 0, .int .i64 0, .int .i64 14]) w) := by
  have KA : Hid (∀ W, Below w.heap.size w W → Calls Tryz.prog 182 #[.string s] W (Ato s.data.toList W)) := Lib.hid fun W hb => atoi_any s W (hstd.to hb) (by omega)
  have f2 : (0 : Int) < (s.size : Int) := by omega
  have hz : (((s[0].toNat : Nat) : Int) == 48) = false ∨ (((s[0].toNat : Nat) : Int) == 48) = true ∧ (s.size : Int) ≤ 1 := by
    by_cases e : ((s[0].toNat : Nat) : Int) = 48
    · exact .inr ⟨by rw [e]; rfl, by omega⟩
    · exact .inl (by simpa using e)
  have e : numOk s.data.toList = (atoiOk s.data.toList && decide (atoiV s.data.toList ≤ 32768)) := rfl
  rw [e]
  clear e h0
  unfold Ato at KA
  generalize atoiOk s.data.toList = b at *
  generalize atoiV s.data.toList = n at *
  cases b
  · rw [Bool.false_and, if_neg (by simp)]
    rcases hz with hz | ⟨hz, hz2⟩
    all_goals
      go_enter Tryz.func153, Tryz.ntmps153
      go_wp2_with (go_at_call 182; (with_reducible refine (KA.out _ ?_).mono ?_); (exact bl); rintro e w1 ⟨ev, rfl, hb1, hev⟩; simp only [Bool.false_eq_true, if_false] at hev; obtain ⟨t, p, rfl⟩ := hev; obtain ⟨q0, q1, q2, q3, q4, q5, q6⟩ := rest (w := w) (W := w1) (t := 162) (s0 := ⟨#[]⟩) bl)
      obtain ⟨k0, k1, k2⟩ := set3_cells q0 q1 q2 (.int .i64 0) (.string ⟨#[]⟩) (.int .i64 0)
      refine bodyPost_ret (v := .tuple #[tok 0 ⟨#[]⟩ 0, .int .i64 0, .int .i64 14]) (by simp [results, Tryz.results153, go_sem, tok, k0, k1, k2]) rfl ?_
      exact ⟨rfl, bel_set3 bl (Nat.le_refl _) _ _ _⟩
  · rw [Bool.true_and]
    by_cases hn : n ≤ 32768
    · rw [if_pos (by simpa using hn)]
      rcases hz with hz | ⟨hz, hz2⟩
      all_goals
        go_enter Tryz.func153, Tryz.ntmps153
        go_wp2_with (go_at_call 182; (with_reducible refine (KA.out _ ?_).mono ?_); (exact bl); rintro e w1 ⟨ev, rfl, hb1, hev⟩; simp only [if_true] at hev; subst hev; obtain ⟨q0, q1, q2, q3, q4, q5, q6⟩ := rest (w := w) (W := w1) (t := 162) (s0 := ⟨#[]⟩) bl)
        obtain ⟨k0, k1, k2⟩ := set3_cells q0 q1 q2 (.int .i64 2) (.string s) (.int .i64 0)
        refine bodyPost_ret (v := .tuple #[tok 2 s 0, .int .i64 s.size, .int .i64 0]) (by simp [results, Tryz.results153, go_sem, tok, k0, k1, k2]) rfl ?_
        exact ⟨rfl, bel_set3 bl (Nat.le_refl _) _ _ _⟩
    · rw [if_neg (by simpa using hn)]
      have hn2 : (32768 : Int) < n := by omega
      rcases hz with hz | ⟨hz, hz2⟩
      all_goals
        go_enter Tryz.func153, Tryz.ntmps153
        go_wp2_with (go_at_call 182; (with_reducible refine (KA.out _ ?_).mono ?_); (exact bl); rintro e w1 ⟨ev, rfl, hb1, hev⟩; simp only [if_true] at hev; subst hev; obtain ⟨q0, q1, q2, q3, q4, q5, q6⟩ := rest (w := w) (W := w1) (t := 162) (s0 := ⟨#[]⟩) bl)
        obtain ⟨k0, k1, k2⟩ := set3_cells q0 q1 q2 (.int .i64 0) (.string ⟨#[]⟩) (.int .i64 0)
        refine bodyPost_ret (v := .tuple #[tok 0 ⟨#[]⟩ 0, .int .i64 0, .int .i64 14]) (by simp [results, Tryz.results153, go_sem, tok, k0, k1, k2]) rfl ?_
        exact ⟨rfl, bel_set3 bl (Nat.le_refl _) _ _ _⟩
end Go.Proofs.YtoimjcfdiljkjaaGreatDoor
namespace Go.Proofs.YtoimjcfdiljkjaaGreatDoor
open Go.RowKit
def syL : List (List UInt8) := [[45, 62], [60, 62], [60, 61], [62, 61], [40], [41], [58], [59], [44], [61], [124], [60], [62], [43], [45], [42], [47]]
def isSy (s : ByteArray) : Bool := syL.contains s.toList
theorem ix2 (w : World) : (Instr.index 206 (.agg #[.int .i64 2, .int .i64 1]) (.int .i64 0)).run Tryz.prog w = .ok (.int .i64 2) w := by
  simp [Instr.index, Tryz.underlying206, go_sem]
theorem ix1 (w : World) : (Instr.index 206 (.agg #[.int .i64 2, .int .i64 1]) (.int .i64 1)).run Tryz.prog w = .ok (.int .i64 1) w := by
  simp [Instr.index, Tryz.underlying206, go_sem]
theorem no17 {s : ByteArray} (h : isSy s = false) : Hid ((s.toList == [45, 62]) = false ∧ (s.toList == [60, 62]) = false ∧ (s.toList == [60, 61]) = false ∧ (s.toList == [62, 61]) = false ∧ (s.toList == [40]) = false ∧ (s.toList == [41]) = false ∧ (s.toList == [58]) = false ∧ (s.toList == [59]) = false ∧ (s.toList == [44]) = false ∧ (s.toList == [61]) = false ∧ (s.toList == [124]) = false ∧ (s.toList == [60]) = false ∧ (s.toList == [62]) = false ∧ (s.toList == [43]) = false ∧ (s.toList == [45]) = false ∧ (s.toList == [42]) = false ∧ (s.toList == [47]) = false) := Lib.hid (by
  simp only [isSy, syL, List.contains_cons, List.contains_nil, Bool.or_eq_false_iff] at h
  exact ⟨h.1, h.2.1, h.2.2.1, h.2.2.2.1, h.2.2.2.2.1, h.2.2.2.2.2.1, h.2.2.2.2.2.2.1, h.2.2.2.2.2.2.2.1, h.2.2.2.2.2.2.2.2.1, h.2.2.2.2.2.2.2.2.2.1, h.2.2.2.2.2.2.2.2.2.2.1, h.2.2.2.2.2.2.2.2.2.2.2.1, h.2.2.2.2.2.2.2.2.2.2.2.2.1, h.2.2.2.2.2.2.2.2.2.2.2.2.2.1, h.2.2.2.2.2.2.2.2.2.2.2.2.2.2.1, h.2.2.2.2.2.2.2.2.2.2.2.2.2.2.2.1, h.2.2.2.2.2.2.2.2.2.2.2.2.2.2.2.2.1⟩)
theorem len_ne {l k : List UInt8} (n : Nat) (h : l.length = n) (hk : k.length ≠ n) : (l == k) = false := by
  rw [beq_eq_false_iff_ne]
  rintro rfl
  exact hk h
theorem ext_len (s : ByteArray) (n : Nat) (h : n ≤ s.size) : (s.extract 0 n).toList.length = n := by
  rw [ByteArray.toList_eq, len_toList, ByteArray.size_extract]
  omega
set_option maxHeartbeats 4000000 in
set_option maxRecDepth 100000 in
theorem symbol_two (s : ByteArray) (w : World) (h2 : 2 ≤ s.size) (hy : isSy (s.extract 0 2) = true) : Calls Tryz.prog 155 #[.string s] w (Bel (.tuple #[tok 4 (s.extract 0 2) 0, .int .i64 2, .int .i64 0]) w) := by
  have f1 : (2 : Int) ≤ (s.size : Int) := by omega
  have HY := Lib.hid hy
  have hln := ext_len s 2 h2
  clear hy
  have l4 : ((s.extract 0 2).toList == [40]) = false := len_ne 2 hln (by decide)
  have l5 : ((s.extract 0 2).toList == [41]) = false := len_ne 2 hln (by decide)
  have l6 : ((s.extract 0 2).toList == [58]) = false := len_ne 2 hln (by decide)
  have l7 : ((s.extract 0 2).toList == [59]) = false := len_ne 2 hln (by decide)
  have l8 : ((s.extract 0 2).toList == [44]) = false := len_ne 2 hln (by decide)
  have l9 : ((s.extract 0 2).toList == [61]) = false := len_ne 2 hln (by decide)
  have l10 : ((s.extract 0 2).toList == [124]) = false := len_ne 2 hln (by decide)
  have l11 : ((s.extract 0 2).toList == [60]) = false := len_ne 2 hln (by decide)
  have l12 : ((s.extract 0 2).toList == [62]) = false := len_ne 2 hln (by decide)
  have l13 : ((s.extract 0 2).toList == [43]) = false := len_ne 2 hln (by decide)
  have l14 : ((s.extract 0 2).toList == [45]) = false := len_ne 2 hln (by decide)
  have l15 : ((s.extract 0 2).toList == [42]) = false := len_ne 2 hln (by decide)
  have l16 : ((s.extract 0 2).toList == [47]) = false := len_ne 2 hln (by decide)
  clear hln
  have x2 := ix2
  go_enter Tryz.func155, Tryz.ntmps155
  go_wp2
  refine wp_loop_rounds 3 ?_
  rw [rounds_succ]
  go_wp2
  all_goals try (rename_i hA hB; exact absurd (hA.symm.trans hB) (by decide))
  all_goals first
    | (refine bodyPost_ret (v := .tuple #[tok 4 (s.extract 0 2) 0, .int .i64 2, .int .i64 0]) (by simp [results, Tryz.results155, go_sem, tok]) rfl ?_; exact ⟨rfl, bl⟩)
    | (have h := HY.out; simp only [isSy, syL, List.contains_cons, List.contains_nil, Bool.or_false, *] at h; cases h)
set_option maxHeartbeats 4000000 in
set_option maxRecDepth 100000 in
theorem symbol_one1 (s : ByteArray) (w : World) (h2 : s.size = 1) (hy : isSy (s.extract 0 1) = true) : Calls Tryz.prog 155 #[.string s] w (Bel (.tuple #[tok 4 (s.extract 0 1) 0, .int .i64 1, .int .i64 0]) w) := by
  have f1 : (s.size : Int) < 2 := by omega
  have f2 : (1 : Int) ≤ (s.size : Int) := by omega
  have HY := Lib.hid hy
  have hln := ext_len s 1 (by omega)
  clear hy
  have l0 : ((s.extract 0 1).toList == [45, 62]) = false := len_ne 1 hln (by decide)
  have l1 : ((s.extract 0 1).toList == [60, 62]) = false := len_ne 1 hln (by decide)
  have l2 : ((s.extract 0 1).toList == [60, 61]) = false := len_ne 1 hln (by decide)
  have l3 : ((s.extract 0 1).toList == [62, 61]) = false := len_ne 1 hln (by decide)
  clear hln
  have x2 := ix2
  have x1 := ix1
  go_enter Tryz.func155, Tryz.ntmps155
  go_wp2
  refine wp_loop_rounds 3 ?_
  rw [rounds_succ]
  go_wp2
  rw [rounds_succ]
  go_wp2
  all_goals try (rename_i hA hB; exact absurd (hA.symm.trans hB) (by decide))
  all_goals first
    | (refine bodyPost_ret (v := .tuple #[tok 4 (s.extract 0 1) 0, .int .i64 1, .int .i64 0]) (by simp [results, Tryz.results155, go_sem, tok]) rfl ?_; exact ⟨rfl, bl⟩)
    | (have h := HY.out; simp only [isSy, syL, List.contains_cons, List.contains_nil, Bool.or_false, *] at h; cases h)
set_option maxHeartbeats 4000000 in
set_option maxRecDepth 100000 in
theorem symbol_one2 (s : ByteArray) (w : World) (h2 : 2 ≤ s.size) (hn : isSy (s.extract 0 2) = false) (hy : isSy (s.extract 0 1) = true) : Calls Tryz.prog 155 #[.string s] w (Bel (.tuple #[tok 4 (s.extract 0 1) 0, .int .i64 1, .int .i64 0]) w) := by
  have f1 : (2 : Int) ≤ (s.size : Int) := by omega
  have f2 : (1 : Int) ≤ (s.size : Int) := by omega
  have HY := Lib.hid hy
  have hln := ext_len s 1 (by omega)
  have N := no17 hn
  obtain ⟨n0, n1, n2, n3, n4, n5, n6, n7, n8, n9, n10, n11, n12, n13, n14, n15, n16⟩ := N.out
  clear hy hn N
  have l0 : ((s.extract 0 1).toList == [45, 62]) = false := len_ne 1 hln (by decide)
  have l1 : ((s.extract 0 1).toList == [60, 62]) = false := len_ne 1 hln (by decide)
  have l2 : ((s.extract 0 1).toList == [60, 61]) = false := len_ne 1 hln (by decide)
  have l3 : ((s.extract 0 1).toList == [62, 61]) = false := len_ne 1 hln (by decide)
  clear hln
  have x2 := ix2
  have x1 := ix1
  go_enter Tryz.func155, Tryz.ntmps155
  go_wp2
  refine wp_loop_rounds 3 ?_
  rw [rounds_succ]
  go_wp2
  rw [rounds_succ]
  go_wp2
  all_goals try (rename_i hA hB; exact absurd (hA.symm.trans hB) (by decide))
  all_goals first
    | (refine bodyPost_ret (v := .tuple #[tok 4 (s.extract 0 1) 0, .int .i64 1, .int .i64 0]) (by simp [results, Tryz.results155, go_sem, tok]) rfl ?_; exact ⟨rfl, bl⟩)
    | (have h := HY.out; simp only [isSy, syL, List.contains_cons, List.contains_nil, Bool.or_false, *] at h; cases h)
set_option maxHeartbeats 4000000 in
set_option maxRecDepth 100000 in
theorem symbol_none1 (s : ByteArray) (w : World) (h2 : s.size = 1) (hy : isSy (s.extract 0 1) = false) : Calls Tryz.prog 155 #[.string s] w (Bel (.tuple #[tok 0 ⟨#[]⟩ 0, .int .i64 0, .int .i64 5]) w) := by
  have f1 : (s.size : Int) < 2 := by omega
  have f2 : (1 : Int) ≤ (s.size : Int) := by omega
  have N := no17 hy
  obtain ⟨n0, n1, n2, n3, n4, n5, n6, n7, n8, n9, n10, n11, n12, n13, n14, n15, n16⟩ := N.out
  clear hy N
  have x2 := ix2
  have x1 := ix1
  go_enter Tryz.func155, Tryz.ntmps155
  go_wp2
  refine wp_loop_rounds 3 ?_
  rw [rounds_succ]
  go_wp2
  rw [rounds_succ]
  go_wp2
  rw [rounds_succ]
  go_wp2
  all_goals
    refine bodyPost_ret (v := .tuple #[tok 0 ⟨#[]⟩ 0, .int .i64 0, .int .i64 5]) (by simp [results, Tryz.results155, go_sem, tok]) rfl ?_
    exact ⟨rfl, bl⟩
set_option maxHeartbeats 4000000 in
set_option maxRecDepth 100000 in
theorem symbol_none2 (s : ByteArray) (w : World) (h2 : 2 ≤ s.size) (hn : isSy (s.extract 0 2) = false) (hy : isSy (s.extract 0 1) = false) : Calls Tryz.prog 155 #[.string s] w (Bel (.tuple #[tok 0 ⟨#[]⟩ 0, .int .i64 0, .int .i64 5]) w) := by
  have f1 : (2 : Int) ≤ (s.size : Int) := by omega
  have f2 : (1 : Int) ≤ (s.size : Int) := by omega
  have N := no17 hy
  obtain ⟨n0, n1, n2, n3, n4, n5, n6, n7, n8, n9, n10, n11, n12, n13, n14, n15, n16⟩ := N.out
  have M := no17 hn
  obtain ⟨m0, m1, m2, m3, m4, m5, m6, m7, m8, m9, m10, m11, m12, m13, m14, m15, m16⟩ := M.out
  clear hy hn N M
  have x2 := ix2
  have x1 := ix1
  go_enter Tryz.func155, Tryz.ntmps155
  go_wp2
  refine wp_loop_rounds 3 ?_
  rw [rounds_succ]
  go_wp2
  rw [rounds_succ]
  go_wp2
  rw [rounds_succ]
  go_wp2
  all_goals
    refine bodyPost_ret (v := .tuple #[tok 0 ⟨#[]⟩ 0, .int .i64 0, .int .i64 5]) (by simp [results, Tryz.results155, go_sem, tok]) rfl ?_
    exact ⟨rfl, bl⟩
end Go.Proofs.YtoimjcfdiljkjaaGreatDoor
namespace Go.Proofs.YtoimjcfdiljkjaaGreatDoor
open Go.RowKit
theorem either_any (a : Addr) (w : World) :
    Calls Tryz.prog 150 #[.slice (some a) 3 3] w (fun e w' => e = .returned (.func (.func 179) #[] #[.pointer (some ⟨w.heap.size, 0, none⟩)]) ∧ w'.cell? ⟨w.heap.size, 0, none⟩ = some (.slice (some a) 3 3) ∧ w.heap.size < w'.heap.size ∧ Below w.heap.size w w') := by
  go_enter Tryz.func150, Tryz.ntmps150
  go_wp2
  go_ret
  refine ⟨rfl, ?_, ?_, bl⟩ <;> simp [go_sem]
theorem head_extract (s : ByteArray) (k : Nat) : (s.extract 0 k).data.toList = s.data.toList.take k := by
  rw [ByteArray.data_extract]
  simp
theorem tests_mk {w1 w2 w3 : World} {t : TypeId} (hq : w2.cell? ⟨w1.heap.size, 0, none⟩ = some (.string ⟨#[95]⟩)) (hz : w1.heap.size < w2.heap.size)
    (h3 : w3.cell? ⟨(w2.alloc (.cells #[.func (.func 147) #[] #[], .func (.func 151) #[] #[], .func (.func 180) #[] #[.pointer (some ⟨w1.heap.size, 0, none⟩)]] t)).heap.size, 0, none⟩ = some (.slice (some ⟨w2.heap.size, 0, none⟩) 3 3))
    (hb : Below (w2.alloc (.cells #[.func (.func 147) #[] #[], .func (.func 151) #[] #[], .func (.func 180) #[] #[.pointer (some ⟨w1.heap.size, 0, none⟩)]] t)).heap.size (w2.alloc (.cells #[.func (.func 147) #[] #[], .func (.func 151) #[] #[], .func (.func 180) #[] #[.pointer (some ⟨w1.heap.size, 0, none⟩)]] t)) w3) :
    Tests w3 ⟨w2.heap.size + 1, 0, none⟩ w3.heap.size := by
  rw [World.size_alloc] at h3
  have hl := World.block_lt_of_cell? w3 _ h3
  have hs := hb.size
  obtain ⟨hc, hf, hz2⟩ := bcell hb
  simp at hs hl
  refine ⟨⟨w2.heap.size, 0, none⟩, ⟨w1.heap.size, 0, none⟩, by simpa using hl, by simp; omega, by simp; omega, h3, ?_, ?_, ?_, ?_⟩
  · rw [hc _ _ (by simp)]; simp [go_sem]
  · rw [show (Addr.add ⟨w2.heap.size, 0, none⟩ 1) = ⟨w2.heap.size, 1, none⟩ from rfl, hc _ _ (by simp)]; simp [go_sem]
  · rw [show (Addr.add ⟨w2.heap.size, 0, none⟩ 2) = ⟨w2.heap.size, 2, none⟩ from rfl, hc _ _ (by simp)]; simp [go_sem]
  · rw [hc _ _ (by simp; omega), World.cell?_alloc_lt _ _ _ hz]; exact hq
theorem first_name (s : ByteArray) (k : Nat) (a : Int) (tx : ByteArray) (m e : Int) (w : World) (h1 : 1 ≤ s.size) (h9 : s.size ≤ 140737488351232) (hL : pL ((s[0].toNat : Nat) : Int) = true) (hk : sp pI s.data.toList = k)
    (KN : Hid (∀ W, Calls Tryz.prog 148 #[.string (s.extract 0 k)] W (Bel (.tuple #[.agg #[.int .i64 a, .string tx, .int .i64 0], .int .i64 m, .int .i64 e]) W))) :
    Calls Tryz.prog 117 #[.string s] w (Bel (.tuple #[.agg #[.int .i64 a, .string tx, .int .i64 0], .int .i64 m, .int .i64 e]) w) := by
  have kl := Lib.hid (letter_any ((s[0].toNat : Nat) : Int))
  rw [hL] at kl
  have f2 : (0 : Int) < (s.size : Int) := by omega
  have KA : Hid (∀ W, Calls Tryz.prog 152 #[.string ⟨#[95]⟩] W (fun e w' => e = .returned (.func (.func 180) #[] #[.pointer (some ⟨W.heap.size, 0, none⟩)]) ∧ w'.cell? ⟨W.heap.size, 0, none⟩ = some (.string ⟨#[95]⟩) ∧ W.heap.size < w'.heap.size ∧ Below W.heap.size W w')) := Lib.hid fun W => among_any _ W
  have KE := Lib.hid either_any
  have KS : Hid (∀ q W, Tests W q W.heap.size → Calls Tryz.prog 149 #[.string s, .func (.func 179) #[] #[.pointer (some q)]] W (Bel (.int .i64 k) W)) := Lib.hid fun q W hT => by
    have := span_ei q pI s W (by omega) (Lib.hid fun W' hb c => either_call q c W' (by
      obtain ⟨a, r, t1, t2, t3, t4, t5, t6, t7, t8⟩ := hT
      have hs := hb.size
      exact ⟨a, r, by omega, by omega, by omega, (hb.cell t1).trans t4, (hb.cell t2).trans t5, (hb.cell (by rw [add_block]; exact t2)).trans t6, (hb.cell (by rw [add_block]; exact t2)).trans t7, (hb.cell t3).trans t8⟩))
    rwa [hk] at this
  have hle := sp_le pI s
  rw [hk] at hle
  have f3 : (k : Int) ≤ (s.size : Int) := by omega
  clear hk hL
  go_enter Tryz.func117, Tryz.ntmps117
  go_wp2_with (first
    | (go_at_call 147; refine (kl.out _).mono ?_; rintro e w1 ⟨rfl, hb1⟩)
    | (go_at_call 152; refine (KA.out _).mono ?_; rintro e w2 ⟨rfl, hq2, hz2, hb2⟩)
    | (go_at_call 150; refine (KE.out _ _).mono ?_; rintro e w3 ⟨rfl, hq3, hz3, hb3⟩)
    | (go_at_call 149; refine (KS.out _ _ ?_).mono ?_; (focus (exact tests_mk hq2 hz2 hq3 hb3)); rintro e w4 ⟨rfl, hb4⟩)
    | (go_at_call 148; refine (KN.out _).mono ?_; rintro e w5 ⟨rfl, hb5⟩; obtain ⟨q0, q1, q2, q3, q4, q5, q6⟩ := rest (w := w) (W := w5) (t := 162) (s0 := ⟨#[]⟩) bl))
  obtain ⟨k0, k1, k2⟩ := set3_cells q0 q1 q2 (.int .i64 a) (.string tx) (.int .i64 0)
  refine bodyPost_ret (v := .tuple #[.agg #[.int .i64 a, .string tx, .int .i64 0], .int .i64 m, .int .i64 e]) (by simp [results, Tryz.results117, go_sem, k0, k1, k2]) rfl ?_
  exact ⟨rfl, bel_set3 bl (Nat.le_refl _) _ _ _⟩
theorem first_num (s : ByteArray) (a : Int) (tx : ByteArray) (m e : Int) (w : World) (h1 : 1 ≤ s.size) (h9 : s.size ≤ 140737488351232) (hL : pL ((s[0].toNat : Nat) : Int) = false) (hG : pG ((s[0].toNat : Nat) : Int) = true) (k : Nat) (hk : sp pG s.data.toList = k) (KN : Hid (∀ W, Below w.heap.size w W → Calls Tryz.prog 153 #[.string (s.extract 0 k)] W (Bel (.tuple #[.agg #[.int .i64 a, .string tx, .int .i64 0], .int .i64 m, .int .i64 e]) W))) :
    Calls Tryz.prog 117 #[.string s] w (Bel (.tuple #[.agg #[.int .i64 a, .string tx, .int .i64 0], .int .i64 m, .int .i64 e]) w) := by
  have kl := Lib.hid (letter_any ((s[0].toNat : Nat) : Int))
  rw [hL] at kl
  have kd := Lib.hid (digit_any ((s[0].toNat : Nat) : Int))
  rw [hG] at kd
  have f2 : (0 : Int) < (s.size : Int) := by omega
  have KS : Hid (∀ W, Calls Tryz.prog 149 #[.string s, .func (.func 151) #[] #[]] W (Bel (.int .i64 k) W)) := Lib.hid fun W => by
    have := span_dg pG s W (by omega) (Lib.hid fun W' hb c => digit_any _ W')
    rwa [hk] at this
  have hle := sp_le pG s
  rw [hk] at hle
  have f3 : (k : Int) ≤ (s.size : Int) := by omega
  clear hk
  clear hL hG
  go_enter Tryz.func117, Tryz.ntmps117
  go_wp2_with (first
    | (go_at_call 147; refine (kl.out _).mono ?_; rintro e w1 ⟨rfl, hb1⟩)
    | (go_at_call 151; refine (kd.out _).mono ?_; rintro e w2 ⟨rfl, hb2⟩)
    | (go_at_call 149; refine (KS.out _).mono ?_; rintro e w4 ⟨rfl, hb4⟩)
    | (go_at_call 153; (with_reducible refine (KN.out _ ?_).mono ?_); (exact bl); rintro e w5 ⟨rfl, hb5⟩; obtain ⟨q0, q1, q2, q3, q4, q5, q6⟩ := rest (w := w) (W := w5) (t := 162) (s0 := ⟨#[]⟩) bl))
  obtain ⟨k0, k1, k2⟩ := set3_cells q0 q1 q2 (.int .i64 a) (.string tx) (.int .i64 0)
  refine bodyPost_ret (v := .tuple #[.agg #[.int .i64 a, .string tx, .int .i64 0], .int .i64 m, .int .i64 e]) (by simp [results, Tryz.results117, go_sem, k0, k1, k2]) rfl ?_
  exact ⟨rfl, bel_set3 bl (Nat.le_refl _) _ _ _⟩
theorem first_word (s : ByteArray) (a : Int) (tx : ByteArray) (m e : Int) (w : World) (h1 : 1 ≤ s.size) (h9 : s.size ≤ 140737488351232) (hL : pL ((s[0].toNat : Nat) : Int) = false) (hG : pG ((s[0].toNat : Nat) : Int) = false) (hQ : (((s[0].toNat : Nat) : Int) == 39) = true) (KN : Hid (∀ W, Calls Tryz.prog 154 #[.string s] W (Bel (.tuple #[.agg #[.int .i64 a, .string tx, .int .i64 0], .int .i64 m, .int .i64 e]) W))) :
    Calls Tryz.prog 117 #[.string s] w (Bel (.tuple #[.agg #[.int .i64 a, .string tx, .int .i64 0], .int .i64 m, .int .i64 e]) w) := by
  have kl := Lib.hid (letter_any ((s[0].toNat : Nat) : Int))
  rw [hL] at kl
  have kd := Lib.hid (digit_any ((s[0].toNat : Nat) : Int))
  rw [hG] at kd
  have f2 : (0 : Int) < (s.size : Int) := by omega
  clear hL hG
  go_enter Tryz.func117, Tryz.ntmps117
  go_wp2_with (first
    | (go_at_call 147; refine (kl.out _).mono ?_; rintro e w1 ⟨rfl, hb1⟩)
    | (go_at_call 151; refine (kd.out _).mono ?_; rintro e w2 ⟨rfl, hb2⟩)
    | (go_at_call 154; refine (KN.out _).mono ?_; rintro e w5 ⟨rfl, hb5⟩; obtain ⟨q0, q1, q2, q3, q4, q5, q6⟩ := rest (w := w) (W := w5) (t := 162) (s0 := ⟨#[]⟩) bl))
  obtain ⟨k0, k1, k2⟩ := set3_cells q0 q1 q2 (.int .i64 a) (.string tx) (.int .i64 0)
  refine bodyPost_ret (v := .tuple #[.agg #[.int .i64 a, .string tx, .int .i64 0], .int .i64 m, .int .i64 e]) (by simp [results, Tryz.results117, go_sem, k0, k1, k2]) rfl ?_
  exact ⟨rfl, bel_set3 bl (Nat.le_refl _) _ _ _⟩
theorem first_sym (s : ByteArray) (a : Int) (tx : ByteArray) (m e : Int) (w : World) (h1 : 1 ≤ s.size) (h9 : s.size ≤ 140737488351232) (hL : pL ((s[0].toNat : Nat) : Int) = false) (hG : pG ((s[0].toNat : Nat) : Int) = false) (hQ : (((s[0].toNat : Nat) : Int) == 39) = false) (KN : Hid (∀ W, Calls Tryz.prog 155 #[.string s] W (Bel (.tuple #[.agg #[.int .i64 a, .string tx, .int .i64 0], .int .i64 m, .int .i64 e]) W))) :
    Calls Tryz.prog 117 #[.string s] w (Bel (.tuple #[.agg #[.int .i64 a, .string tx, .int .i64 0], .int .i64 m, .int .i64 e]) w) := by
  have kl := Lib.hid (letter_any ((s[0].toNat : Nat) : Int))
  rw [hL] at kl
  have kd := Lib.hid (digit_any ((s[0].toNat : Nat) : Int))
  rw [hG] at kd
  have f2 : (0 : Int) < (s.size : Int) := by omega
  clear hL hG
  go_enter Tryz.func117, Tryz.ntmps117
  go_wp2_with (first
    | (go_at_call 147; refine (kl.out _).mono ?_; rintro e w1 ⟨rfl, hb1⟩)
    | (go_at_call 151; refine (kd.out _).mono ?_; rintro e w2 ⟨rfl, hb2⟩)
    | (go_at_call 155; refine (KN.out _).mono ?_; rintro e w5 ⟨rfl, hb5⟩; obtain ⟨q0, q1, q2, q3, q4, q5, q6⟩ := rest (w := w) (W := w5) (t := 162) (s0 := ⟨#[]⟩) bl))
  obtain ⟨k0, k1, k2⟩ := set3_cells q0 q1 q2 (.int .i64 a) (.string tx) (.int .i64 0)
  refine bodyPost_ret (v := .tuple #[.agg #[.int .i64 a, .string tx, .int .i64 0], .int .i64 m, .int .i64 e]) (by simp [results, Tryz.results117, go_sem, k0, k1, k2]) rfl ?_
  exact ⟨rfl, bel_set3 bl (Nat.le_refl _) _ _ _⟩
end Go.Proofs.YtoimjcfdiljkjaaGreatDoor
namespace Go.Proofs.YtoimjcfdiljkjaaGreatDoor
open Go.RowKit
def fst (s : ByteArray) : Int × ByteArray × Nat × Int :=
  if h : 0 < s.size then
    if pL ((s[0].toNat : Nat) : Int) = true then
      if sp pI s.data.toList ≤ 40 then (nmK (s.extract 0 (sp pI s.data.toList)), s.extract 0 (sp pI s.data.toList), sp pI s.data.toList, 0) else (0, ⟨#[]⟩, 0, 3)
    else if pG ((s[0].toNat : Nat) : Int) = true then
      if 2 ≤ sp pG s.data.toList ∧ ((s[0].toNat : Nat) : Int) = 48 then (0, ⟨#[]⟩, 0, 5)
      else if numOk (s.extract 0 (sp pG s.data.toList)).data.toList = true then (2, s.extract 0 (sp pG s.data.toList), sp pG s.data.toList, 0) else (0, ⟨#[]⟩, 0, 14)
    else if (((s[0].toNat : Nat) : Int) == 39) = true then
      if Lib.hasPrefix (s.data.toList.drop (1 + sp pW (s.data.toList.drop 1))) [39] = true then (5, s.extract 1 (1 + sp pW (s.data.toList.drop 1)), 1 + sp pW (s.data.toList.drop 1) + 1, 0) else (0, ⟨#[]⟩, 0, 5)
    else if 2 ≤ s.size ∧ isSy (s.extract 0 2) = true then (4, s.extract 0 2, 2, 0)
    else if isSy (s.extract 0 1) = true then (4, s.extract 0 1, 1, 0) else (0, ⟨#[]⟩, 0, 5)
  else (0, ⟨#[]⟩, 0, 0)
def FstR (f : Int × ByteArray × Nat × Int) (a : Int) : Value := .tuple #[tok f.1 f.2.1 a, .int .i64 f.2.2.1, .int .i64 f.2.2.2]
theorem ext_get {s : ByteArray} {k : Nat} (hk : 0 < k) (hs : k ≤ s.size) (h : 0 < (s.extract 0 k).size) (h' : 0 < s.size) : (s.extract 0 k)[0] = s[0] := by
  have e1 := byte_get (s.extract 0 k) 0 h
  have e2 := byte_get s 0 h'
  rw [head_extract, List.getElem?_take_of_lt hk, e2] at e1
  exact (Option.some.inj e1).symm
theorem ext_size (s : ByteArray) (k : Nat) (h : k ≤ s.size) : (s.extract 0 k).size = k := by rw [ByteArray.size_extract]; omega
theorem sp_pos {p : Int → Bool} {s : ByteArray} (h : 0 < s.size) (hp : p ((s[0].toNat : Nat) : Int) = true) : 0 < sp p s.data.toList := by
  have e := byte_get s 0 h
  rcases hl : s.data.toList with _ | ⟨c, r⟩
  · rw [hl] at e; cases e
  · rw [hl] at e
    obtain rfl : c = s[0] := by simpa using e
    rw [sp, List.takeWhile_cons, if_pos hp]
    simp
theorem first_any (s : ByteArray) (w : World) (hstd : Std w) (h : 0 < s.size) (h9 : s.size ≤ 140737488351232) : Calls Tryz.prog 117 #[.string s] w (Bel (FstR (fst s) 0) w) := by
  unfold fst
  rw [dif_pos h]
  have h1 : 1 ≤ s.size := h
  by_cases hL : pL ((s[0].toNat : Nat) : Int) = true
  · rw [if_pos hL]
    have hle := sp_le pI s
    by_cases hk : sp pI s.data.toList ≤ 40
    · rw [if_pos hk]
      refine first_name s _ _ _ _ _ w h1 h9 hL rfl (Lib.hid fun W => ?_)
      have := name_any (s.extract 0 (sp pI s.data.toList)) W (by rw [ext_size _ _ hle]; exact hk)
      rwa [ext_size _ _ hle] at this
    · rw [if_neg hk]
      exact first_name s _ _ _ _ _ w h1 h9 hL rfl (Lib.hid fun W => name_long _ W (by rw [ext_size _ _ hle]; omega) (by rw [ext_size _ _ hle]; omega))
  · rw [if_neg hL]
    rw [Bool.not_eq_true] at hL
    by_cases hG : pG ((s[0].toNat : Nat) : Int) = true
    · rw [if_pos hG]
      have hle := sp_le pG s
      have hp := sp_pos h hG
      have hz := ext_size s _ hle
      have hg : ((s.extract 0 (sp pG s.data.toList))[0]'(by omega)) = s[0] := ext_get hp hle (by omega) h
      by_cases hc : 2 ≤ sp pG s.data.toList ∧ ((s[0].toNat : Nat) : Int) = 48
      · rw [if_pos hc]
        exact first_num s _ _ _ _ w h1 h9 hL hG _ rfl (Lib.hid fun W _ => number_zero _ W (by omega) (by omega) (by rw [hg]; exact hc.2))
      · rw [if_neg hc]
        have kn : ∀ W, Below w.heap.size w W → _ := fun W hb => number_any (s.extract 0 (sp pG s.data.toList)) W (hstd.to hb) (by omega) (by omega) (by rw [hg, hz]; exact hc)
        by_cases hn : numOk (s.extract 0 (sp pG s.data.toList)).data.toList = true
        · rw [if_pos hn]
          refine first_num s _ _ _ _ w h1 h9 hL hG _ rfl (Lib.hid fun W hb => ?_)
          have := kn W hb
          rwa [if_pos hn, hz] at this
        · rw [if_neg hn]
          refine first_num s _ _ _ _ w h1 h9 hL hG _ rfl (Lib.hid fun W hb => ?_)
          have := kn W hb
          rwa [if_neg hn] at this
    · rw [if_neg hG]
      rw [Bool.not_eq_true] at hG
      by_cases hQ : (((s[0].toNat : Nat) : Int) == 39) = true
      · rw [if_pos hQ]
        have kw := fun W => word_any s _ W h9 h1 rfl
        by_cases hp : Lib.hasPrefix (s.data.toList.drop (1 + sp pW (s.data.toList.drop 1))) [39] = true
        · rw [if_pos hp]
          refine first_word s _ _ _ _ w h1 h9 hL hG hQ (Lib.hid fun W => ?_)
          have := kw W
          rwa [if_pos hp] at this
        · rw [if_neg hp]
          refine first_word s _ _ _ _ w h1 h9 hL hG hQ (Lib.hid fun W => ?_)
          have := kw W
          rwa [if_neg hp] at this
      · rw [if_neg hQ]
        rw [Bool.not_eq_true] at hQ
        by_cases h2 : 2 ≤ s.size ∧ isSy (s.extract 0 2) = true
        · rw [if_pos h2]
          exact first_sym s _ _ _ _ w h1 h9 hL hG hQ (Lib.hid fun W => symbol_two s W h2.1 h2.2)
        · rw [if_neg h2]
          by_cases hs : 2 ≤ s.size
          · have hn : isSy (s.extract 0 2) = false := by
              rw [← Bool.not_eq_true]
              exact fun e => h2 ⟨hs, e⟩
            by_cases hy : isSy (s.extract 0 1) = true
            · rw [if_pos hy]
              exact first_sym s _ _ _ _ w h1 h9 hL hG hQ (Lib.hid fun W => symbol_one2 s W hs hn hy)
            · rw [if_neg hy]
              rw [Bool.not_eq_true] at hy
              exact first_sym s _ _ _ _ w h1 h9 hL hG hQ (Lib.hid fun W => symbol_none2 s W hs hn hy)
          · by_cases hy : isSy (s.extract 0 1) = true
            · rw [if_pos hy]
              exact first_sym s _ _ _ _ w h1 h9 hL hG hQ (Lib.hid fun W => symbol_one1 s W (by omega) hy)
            · rw [if_neg hy]
              rw [Bool.not_eq_true] at hy
              exact first_sym s _ _ _ _ w h1 h9 hL hG hQ (Lib.hid fun W => symbol_none1 s W (by omega) hy)
end Go.Proofs.YtoimjcfdiljkjaaGreatDoor
namespace Go.Proofs.YtoimjcfdiljkjaaGreatDoor
open Go.RowKit
def kwB : List ByteArray := [⟨#[97, 115, 115, 117, 109, 101]⟩, ⟨#[97, 110, 100]⟩, ⟨#[97, 117, 116, 111, 109, 97, 116, 111, 110]⟩, ⟨#[98, 111, 111, 108]⟩, ⟨#[99, 111, 110, 116, 105, 110, 117, 101]⟩, ⟨#[100, 111]⟩, ⟨#[100, 111, 110, 101]⟩, ⟨#[101, 108, 115, 101]⟩, ⟨#[101, 110, 100]⟩, ⟨#[101, 110, 115, 117, 114, 101]⟩, ⟨#[101, 118, 101, 114, 121]⟩, ⟨#[102, 97, 108, 115, 101]⟩, ⟨#[102, 98, 121]⟩, ⟨#[105, 102]⟩, ⟨#[105, 110, 116]⟩, ⟨#[108, 101, 116]⟩, ⟨#[109, 101, 114, 103, 101]⟩, ⟨#[109, 111, 100]⟩, ⟨#[110, 111, 100, 101]⟩, ⟨#[110, 111, 116]⟩, ⟨#[111, 114]⟩, ⟨#[112, 114, 101]⟩, ⟨#[114, 101, 116, 117, 114, 110, 115]⟩, ⟨#[115, 116, 97, 116, 101]⟩, ⟨#[116, 101, 108]⟩, ⟨#[116, 104, 101, 110]⟩, ⟨#[116, 114, 117, 101]⟩, ⟨#[116, 121, 112, 101]⟩, ⟨#[117, 110, 108, 101, 115, 115]⟩, ⟨#[117, 110, 116, 105, 108]⟩, ⟨#[118, 97, 114]⟩, ⟨#[119, 104, 101, 110]⟩, ⟨#[120, 111, 114]⟩]
theorem kw_is (s : ByteArray) : isKw s = kwB.any fun b => b.toList == s.toList := by
  have e : kwL = kwB.map ByteArray.toList := by
    simp only [kwL, kwB, List.map_cons, List.map_nil, ByteArray.toList_eq]
  rw [isKw, e, List.contains_eq_any_beq, List.any_map]
  congr 1
  funext x
  simp only [Function.comp]
  rw [Bool.eq_iff_iff, beq_iff_eq, beq_iff_eq]
  exact eq_comm
def Strs (w : World) (B : Nat) (A : Addr) (l : List ByteArray) : Prop := A.block < B ∧ ∀ j x, l[j]? = some x → w.cell? (A.add j) = some (.string x)
set_option maxRecDepth 100000 in
theorem keywords_any (w : World) : Calls Tryz.prog 168 #[] w (fun e w' => e = .returned (.slice (some ⟨w.heap.size, 0, none⟩) 33 33) ∧ Strs w' w'.heap.size ⟨w.heap.size, 0, none⟩ kwB ∧ Below w.heap.size w w') := by
  go_enter Tryz.func168, Tryz.ntmps168
  go_wp2
  go_ret
  refine ⟨rfl, ⟨by simp, fun j x hx => ?_⟩, bl⟩
  have e : (Addr.add ⟨w.heap.size, 0, none⟩ j) = ⟨w.heap.size, j, none⟩ := by
    unfold Addr.add
    by_cases h : j = 0
    · subst h; rfl
    · simp [h]
  rw [e]
  have hk := cell_of_row (w.alloc (.cells (kwB.map Value.string).toArray 9)) w.heap.size j (kwB.map Value.string).toArray 9 (0, 0) (heap_alloc_new w _)
  refine Eq.trans hk ?_
  rw [List.getElem?_toArray, List.getElem?_map, hx]
  rfl
end Go.Proofs.YtoimjcfdiljkjaaGreatDoor
namespace Go.Proofs.YtoimjcfdiljkjaaGreatDoor
open Go.RowKit
theorem kw_hit {s x : ByteArray} {k : Nat} (hx : kwB[k]? = some x) (h : (x.toList == s.toList) = true) : isKw s = true := by
  rw [kw_is, List.any_eq_true]
  exact ⟨x, List.mem_of_getElem? hx, h⟩
set_option maxHeartbeats 400000 in
theorem rkeyword_any (s : ByteArray) (w : World) : Calls Tryz.prog 130 #[.string s] w (Bel (.bool (isKw s)) w) := by
  have K := Lib.hid (keywords_any w)
  obtain ⟨L, hL⟩ : ∃ L : List ByteArray, kwB = L := ⟨_, rfl⟩
  have hlen : L.length = 33 := by rw [← hL]; rfl
  have HIT : Hid (∀ (k : Nat) (x : ByteArray), L[k]? = some x → (x.toList == s.toList) = true → isKw s = true) := Lib.hid fun k x h1 h2 => kw_hit (hL ▸ h1) h2
  have END : Hid ((L.any fun b => b.toList == s.toList) = isKw s) := Lib.hid (by rw [← hL, kw_is])
  rw [hL] at K
  clear hL
  go_enter Tryz.func130, Tryz.ntmps130
  go_wp2_with (go_at_call 168; refine K.out.mono ?_; rintro e w1 ⟨rfl, hst, hb1⟩)
  have HST := Lib.hid hst
  have hA := hst.1
  simp only at hA
  clear hst
  go_loopw [4] (fun i wr => ∃ k : Nat, k ≤ 33 ∧ i = .int .i64 k ∧ Hid (((L.take k).any fun b => b.toList == s.toList) = false) ∧ Below w1.heap.size w1 wr) (fun i _ => 33 - (intOf i).toNat)
  case atStart => exact ⟨0, by omega, rfl, Lib.hid rfl, Below.refl _ _⟩
  case round =>
    obtain ⟨k, hk, rfl, hno, hbl⟩ := hrel
    by_cases hlt : k < 33
    · obtain ⟨x, hx⟩ : ∃ x, L[k]? = some x := ⟨L[k]'(by omega), List.getElem?_eq_getElem _⟩
      have hc : wr.cell? ⟨w.heap.size, k, none⟩ = some (.string x) := by
        have := HST.out.2 k x hx
        have e : (Addr.add ⟨w.heap.size, 0, none⟩ k) = ⟨w.heap.size, k, none⟩ := by
          unfold Addr.add
          by_cases h : k = 0
          · subst h; rfl
          · simp [h]
        rw [e] at this
        exact (hbl.cell (p := ⟨w.heap.size, k, none⟩) hA).trans this
      cases hq : (x.toList == s.toList)
      · have hno2 : Hid (((L.take (k + 1)).any fun b => b.toList == s.toList) = false) := Lib.hid (by rw [take_succ_of hx, List.any_append, hno.out]; simp [hq])
        clear hx hno
        go_wp2
        go_roundw
        case rel => exact ⟨k + 1, by omega, by go_num, hno2, hbl⟩
        case measure => simp [intOf]; omega
      · rw [HIT.out k x hx hq]
        clear hx hno
        go_wp2
        go_ret
        exact ⟨rfl, bl⟩
    · obtain rfl : k = 33 := by omega
      have h2 := hno.out
      rw [List.take_of_length_le (by omega), END.out] at h2
      have H2 := Lib.hid h2
      clear hno h2
      go_wp2
      go_ret
      exact ⟨by rw [H2.out]; rfl, bl⟩
end Go.Proofs.YtoimjcfdiljkjaaGreatDoor
namespace Go.Proofs.YtoimjcfdiljkjaaGreatDoor
open Go.RowKit
def idP (s : ByteArray) : Bool := decide (0 < s.size) && ((fst s).1 == 1 && ((((fst s).2.2.1 : Nat) : Int) == (s.size : Int)))
theorem empty_of {s : ByteArray} (h : s.size = 0) : s = ⟨#[]⟩ := by
  apply ByteArray.ext
  exact Array.eq_empty_of_size_eq_zero h
theorem ne_facts {s : ByteArray} (h : 0 < s.size) : (s.toList == []) = false ∧ s.toList.isEmpty = false ∧ ¬ s.toList = [] := by
  have hn : s.toList ≠ [] := by
    intro e
    have := congrArg List.length e
    rw [ByteArray.toList_eq, len_toList] at this
    have h2 : s.size = 0 := this
    omega
  exact ⟨by simpa using hn, by simpa using hn, hn⟩
set_option maxHeartbeats 800000 in
theorem ident_any (s : ByteArray) (w : World) (hstd : Std w) (h9 : s.size ≤ 140737488351232) : Calls Tryz.prog 81 #[.string s] w (Bel (.bool (idP s)) w) := by
  by_cases h0 : 0 < s.size
  · obtain ⟨e1, e2, e3⟩ := ne_facts h0
    have F1 := Lib.hid (first_any s w hstd h0 h9)
    have e : idP s = ((fst s).1 == 1 && ((((fst s).2.2.1 : Nat) : Int) == (s.size : Int))) := by rw [idP, decide_eq_true h0, Bool.true_and]
    rw [e]
    clear e
    obtain ⟨⟨a, tx, n, er⟩, hf⟩ : ∃ f, fst s = f := ⟨_, rfl⟩
    rw [hf] at F1 ⊢
    have F2 : Hid (Calls Tryz.prog 117 #[.string s] w (Bel (.tuple #[.agg #[.int .i64 a, .string tx, .int .i64 0], .int .i64 n, .int .i64 er]) w)) := F1
    show Calls _ _ _ _ (Bel (.bool (a == 1 && ((n : Int) == (s.size : Int)))) w)
    clear F1 hf h0 hstd h9
    cases ha : (a == 1)
    · rw [Bool.false_and]
      go_enter Tryz.func81, Tryz.ntmps81
      go_wp2_with (go_at_call 117; refine F2.out.mono ?_; rintro e w1 ⟨rfl, hb1⟩)
      go_ret
      exact ⟨rfl, bl⟩
    · rw [Bool.true_and]
      go_enter Tryz.func81, Tryz.ntmps81
      go_wp2_with (go_at_call 117; refine F2.out.mono ?_; rintro e w1 ⟨rfl, hb1⟩)
      go_ret
      exact ⟨rfl, bl⟩
  · obtain rfl := empty_of (by omega : s.size = 0)
    rw [idP, decide_eq_false h0, Bool.false_and]
    clear hstd h9 h0
    go_enter Tryz.func81, Tryz.ntmps81
    go_wp2
    go_ret
    exact ⟨rfl, bl⟩
def idR (s : ByteArray) : Bool := decide (0 < s.size) && decide (s.size ≤ 40) && decide (sp pI s.data.toList = s.size) && pL (((s.data.toList.headD 0).toNat : Nat) : Int) && !isKw s
set_option maxHeartbeats 800000 in
theorem rident_any (s : ByteArray) (w : World) (h9 : s.size ≤ 140737488351232) : Calls Tryz.prog 96 #[.string s] w (Bel (.bool (idR s)) w) := by
  by_cases h0 : 0 < s.size
  · obtain ⟨e1, e2, e3⟩ := ne_facts h0
    by_cases h40 : s.size ≤ 40
    · have hh : (s.data.toList.headD 0) = s[0] := by
        have := byte_get s 0 h0
        rcases hl : s.data.toList with _ | ⟨c, r⟩
        · rw [hl] at this; cases this
        · rw [hl] at this; simpa using this
      have e : idR s = (decide (sp pI s.data.toList = s.size) && pL ((s[0].toNat : Nat) : Int) && !isKw s) := by rw [idR, decide_eq_true h0, decide_eq_true h40, hh]; simp
      rw [e]
      clear e hh
      have f0 : (0 : Int) < (s.size : Int) := by omega
      have f1 : (s.size : Int) ≤ 40 := by omega
      have kl := Lib.hid (rletter_any ((s[0].toNat : Nat) : Int))
      have kk := Lib.hid (rkeyword_any s)
      have HA := Lib.hid (fun j => @sp_at pI s j)
      have HE := Lib.hid (@sp_end pI s)
      have hle := sp_le pI s
      generalize sp pI s.data.toList = m at *
      generalize isKw s = b at *
      cases hL : pL ((s[0].toNat : Nat) : Int)
      · rw [hL] at kl
        rw [Bool.and_false, Bool.false_and]
        go_enter Tryz.func96, Tryz.ntmps96
        go_wp2_with (go_at_call 128; refine (kl.out _).mono ?_; rintro e w1 ⟨rfl, hb1⟩)
        go_ret
        exact ⟨rfl, bl⟩
      · rw [hL] at kl
        rw [Bool.and_true]
        clear hL
        go_enter Tryz.func96, Tryz.ntmps96
        go_wp2_with (go_at_call 128; refine (kl.out _).mono ?_; rintro e w1 ⟨rfl, hb1⟩)
        go_loopw [3] (fun i wr => ∃ j : Nat, j ≤ m ∧ i = .int .i64 j ∧ Below w.heap.size w wr) (fun i _ => m - (intOf i).toNat)
        case atStart => exact ⟨0, by omega, rfl, bl⟩
        case round =>
          obtain ⟨j, hjm, rfl, hbl⟩ := hrel
          by_cases hlt : j < m
          · have hj : j < s.size := by omega
            have e4 := HA.out j hlt hj
            go_wp2_with (go_at_call 129; refine (inner_any _ _).mono ?_; rintro e w2 ⟨rfl, hb2⟩; rw [e4])
            go_roundw
            case rel => exact ⟨j + 1, by omega, by go_num, bl⟩
            case measure => simp [intOf]; omega
          · obtain rfl : j = m := by omega
            by_cases hj : j < s.size
            · have e4 := HE.out hj
              have q : decide (j = s.size) = false := decide_eq_false (by omega)
              rw [q, Bool.false_and]
              clear q
              go_wp2_with (go_at_call 129; refine (inner_any _ _).mono ?_; rintro e w2 ⟨rfl, hb2⟩; rw [e4])
              go_ret
              exact ⟨rfl, bl⟩
            · have q : decide (j = s.size) = true := decide_eq_true (by omega)
              have Q := Lib.hid q
              clear q
              go_wp2_with (go_at_call 130; refine (kk.out _).mono ?_; rintro e w3 ⟨rfl, hb3⟩)
              go_ret
              exact ⟨by rw [Q.out, Bool.true_and]; rfl, bl⟩
    · have e : idR s = false := by rw [idR, decide_eq_false h40, Bool.and_false, Bool.false_and, Bool.false_and, Bool.false_and]
      rw [e]
      have f1 : (40 : Int) < (s.size : Int) := by omega
      clear e h40 h9 h0
      go_enter Tryz.func96, Tryz.ntmps96
      go_wp2
      go_ret
      exact ⟨rfl, bl⟩
  · obtain rfl := empty_of (by omega : s.size = 0)
    rw [idR, decide_eq_false h0, Bool.false_and, Bool.false_and, Bool.false_and, Bool.false_and]
    clear h9 h0
    go_enter Tryz.func96, Tryz.ntmps96
    go_wp2
    go_ret
    exact ⟨rfl, bl⟩
end Go.Proofs.YtoimjcfdiljkjaaGreatDoor
namespace Go.Proofs.YtoimjcfdiljkjaaGreatDoor
open Go.RowKit
theorem ext_all (s : ByteArray) : s.extract 0 s.size = s := by
  apply ByteArray.ext
  apply Array.toList_inj.mp
  rw [head_extract, ← len_toList, List.take_length]
theorem id_eq (s : ByteArray) : idP s = idR s := by
  unfold idP idR
  by_cases h0 : 0 < s.size
  · have hh : (s.data.toList.headD 0) = s[0] := by
      have := byte_get s 0 h0
      rcases hl : s.data.toList with _ | ⟨c, r⟩
      · rw [hl] at this; cases this
      · rw [hl] at this; simpa using this
    rw [decide_eq_true h0, Bool.true_and, Bool.true_and, hh, fst, dif_pos h0]
    by_cases hL : pL ((s[0].toNat : Nat) : Int) = true
    · rw [if_pos hL, hL, Bool.and_true]
      have hle := sp_le pI s
      by_cases hk : sp pI s.data.toList ≤ 40
      · rw [if_pos hk]
        by_cases hs : sp pI s.data.toList = s.size
        · rw [hs, ext_all, nmK]
          rw [hs] at hk
          rw [decide_eq_true hk]
          cases isKw s <;> simp
        · have q : ((((sp pI s.data.toList : Nat) : Int)) == (s.size : Int)) = false := by rw [beq_eq_false_iff_ne]; omega
          simp only [q, Bool.and_false]
          rw [decide_eq_false hs, Bool.and_false, Bool.false_and]
      · rw [if_neg hk]
        have : ¬ (s.size ≤ 40 ∧ sp pI s.data.toList = s.size) := by omega
        by_cases h4 : s.size ≤ 40
        · rw [decide_eq_false (fun e => this ⟨h4, e⟩), Bool.and_false, Bool.false_and]; rfl
        · rw [decide_eq_false h4, Bool.false_and, Bool.false_and]; rfl
    · rw [if_neg hL]
      rw [Bool.not_eq_true] at hL
      rw [hL, Bool.and_false, Bool.false_and]
      split
      · split
        · rfl
        · split <;> rfl
      · split
        · split <;> rfl
        · split
          · rfl
          · split <;> rfl
  · rw [decide_eq_false h0, Bool.false_and, Bool.false_and, Bool.false_and, Bool.false_and, Bool.false_and]
end Go.Proofs.YtoimjcfdiljkjaaGreatDoor
namespace Go.Proofs.YtoimjcfdiljkjaaGreatDoor
open Go.RowKit
def hasVar (n : Int) : Bool := n == 2 || n == 8 || n == 9
def hasIdn (n : Int) : Bool := hasVar n || n == 10
def hasVal (t v : Int) : Bool := decide (t = 1 ∧ (v = 0 ∨ v = 1) ∨ t = 2 ∧ -32768 ≤ v ∧ v ≤ 32767 ∨ 3 ≤ t ∧ 0 ≤ v ∧ v < 16)
def opnds (op : Int) : Int := if op = 1 ∨ op = 2 then 1 else 2
def hasBr (t n : Int) : Bool := decide (t = 1 ∧ n = 2 ∨ 3 ≤ t ∧ 1 ≤ n ∧ n ≤ 16)
theorem hasvar_any (n : Int) (w : World) : Calls Tryz.prog 192 #[.int .i64 n] w (Bel (.bool (hasVar n)) w) := by
  go_enter Tryz.func192, Tryz.ntmps192
  go_wp2
  all_goals go_ret
  all_goals exact ⟨ret_bool (by simp_all [hasVar]), bl⟩
theorem hasident_any (n : Int) (w : World) : Calls Tryz.prog 174 #[.int .i64 n] w (Bel (.bool (hasIdn n)) w) := by
  have k1 := Lib.hid (hasvar_any n)
  have e : hasIdn n = (hasVar n || n == 10) := rfl
  rw [e]
  clear e
  generalize hasVar n = b at *
  cases b
  all_goals
    go_enter Tryz.func174, Tryz.ntmps174
    go_wp2_with (go_at_call 192; refine (k1.out _).mono ?_; rintro e w1 ⟨rfl, hb1⟩)
  all_goals go_ret
  all_goals exact ⟨ret_bool (by simp), bl⟩
theorem operands_any (n : Int) (w : World) : Calls Tryz.prog 189 #[.int .i64 n] w (Bel (.int .i64 (opnds n)) w) := by
  by_cases h1 : n = 1
  · subst h1
    go_enter Tryz.func189, Tryz.ntmps189
    go_wp2
    go_ret
    exact ⟨rfl, bl⟩
  by_cases h2 : n = 2
  · subst h2
    go_enter Tryz.func189, Tryz.ntmps189
    go_wp2
    go_ret
    exact ⟨rfl, bl⟩
  have e : opnds n = 2 := by rw [opnds, if_neg (by omega)]
  rw [e]
  have q1 : (n == 1) = false := by simpa using h1
  have q2 : (n == 2) = false := by simpa using h2
  go_enter Tryz.func189, Tryz.ntmps189
  go_wp2
  go_ret
  exact ⟨rfl, bl⟩
theorem hasvalue_any (t v : Int) (w : World) : Calls Tryz.prog 188 #[.int .i64 t, .int .i64 v] w (Bel (.bool (hasVal t v)) w) := by
  by_cases h1 : t = 1
  · subst h1
    go_enter Tryz.func188, Tryz.ntmps188
    go_wp2
    all_goals go_ret
    all_goals refine ⟨ret_bool ?_, bl⟩
    all_goals (rw [Bool.eq_iff_iff]; simp_all [hasVal])
  by_cases h2 : t = 2
  · subst h2
    go_enter Tryz.func188, Tryz.ntmps188
    go_wp2
    all_goals go_ret
    all_goals refine ⟨ret_bool ?_, bl⟩
    all_goals (rw [Bool.eq_iff_iff]; simp [hasVal]; omega)
  have q1 : (t == 1) = false := by simpa using h1
  have q2 : (t == 2) = false := by simpa using h2
  go_enter Tryz.func188, Tryz.ntmps188
  go_wp2
  all_goals go_ret
  all_goals refine ⟨ret_bool ?_, bl⟩
  all_goals (rw [Bool.eq_iff_iff]; simp [hasVal]; omega)
theorem hasbranches_any (t n : Int) (w : World) : Calls Tryz.prog 190 #[.int .i64 t, .int .i64 n] w (Bel (.bool (hasBr t n)) w) := by
  by_cases h1 : t = 1
  · subst h1
    go_enter Tryz.func190, Tryz.ntmps190
    go_wp2
    all_goals go_ret
    all_goals refine ⟨ret_bool ?_, bl⟩
    all_goals (rw [Bool.eq_iff_iff]; simp_all [hasBr])
  have q1 : (t == 1) = false := by simpa using h1
  go_enter Tryz.func190, Tryz.ntmps190
  go_wp2
  all_goals go_ret
  all_goals refine ⟨ret_bool ?_, bl⟩
  all_goals (rw [Bool.eq_iff_iff]; simp [hasBr]; omega)
end Go.Proofs.YtoimjcfdiljkjaaGreatDoor
namespace Go.Proofs.YtoimjcfdiljkjaaGreatDoor
open Go.RowKit
def formedP (k op t v n : Int) (wok : Bool) : Bool :=
  if k = 1 then n == 0 && hasVal t v else if k = 2 then n == 0 else if k = 3 then decide (1 ≤ op ∧ op ≤ 16) && n == opnds op else if k = 4 then n == 3 else if k = 5 then n == 1 else if k = 6 ∨ k = 7 then n == 2
  else if k = 8 then n == 1 && (t != 2 && hasVal t v) else if k = 9 then hasBr t n else if k = 10 then v == 0 || (v == 1 && decide (0 < n)) else if k = 11 then n == 0 && wok else false
def onlyP (k op t v : Int) (ne : Bool) : Bool :=
  if k ≠ 3 ∧ op ≠ 0 then false else if k = 1 then ne else if k = 8 then true else if k = 9 then v == 0 else if k = 10 then t == 0 else if k = 2 ∨ k = 11 then t == 0 && v == 0 else t == 0 && (v == 0 && ne)
set_option maxHeartbeats 2000000 in
set_option maxRecDepth 20000 in
theorem formed_any (x : Xt) (wok : Bool) (w : World) (KP : x.k = 11 → Hid (∀ W, Below w.heap.size w W → Calls Tryz.prog 191 #[.string x.nm] W (fun e w' => ∃ (A1 A2 : Option Addr) (n1 c1 n2 c2 : Nat) (er : Int), e = .returned (.tuple #[.agg #[.slice A1 n1 c1, .slice A2 n2 c2], .int .i64 er]) ∧ (er == 0) = wok ∧ Below W.heap.size W w'))) :
    Calls Tryz.prog 172 #[xV x] w (Bel (.bool (formedP x.k x.op x.t x.v x.ar.length wok)) w) := by
  have HV := Lib.hid (hasvalue_any x.t x.v)
  have HO := Lib.hid (operands_any x.op)
  have HB := Lib.hid (hasbranches_any x.t x.ar.length)
  obtain ⟨k, op, t, v, nm, A, c, ar⟩ := x
  simp only [xV, Xt.k, Xt.op, Xt.t, Xt.v, Xt.nm, Xt.A, Xt.c, Xt.ar] at *
  obtain ⟨n, hn⟩ : ∃ n : Nat, ar.length = n := ⟨_, rfl⟩
  rw [hn] at HB ⊢
  clear hn
  by_cases h1 : k = 1
  · subst h1
    rw [formedP, if_pos rfl]
    generalize hasVal t v = b at *
    cases b
    all_goals
      go_enter Tryz.func172, Tryz.ntmps172
      go_wp2_with (go_at_call 188; refine (HV.out _).mono ?_; rintro e w1 ⟨rfl, hb1⟩)
    all_goals go_ret
    all_goals exact ⟨ret_bool (by simp_all), bl⟩
  by_cases h2 : k = 2
  · subst h2
    go_enter Tryz.func172, Tryz.ntmps172
    go_wp2
    all_goals go_ret
    all_goals exact ⟨ret_bool (by simp_all [formedP]), bl⟩
  by_cases h3 : k = 3
  · subst h3
    rw [formedP, if_neg (by decide), if_neg (by decide), if_pos rfl]
    generalize opnds op = q at *
    go_enter Tryz.func172, Tryz.ntmps172
    go_wp2_with (go_at_call 189; refine (HO.out _).mono ?_; rintro e w1 ⟨rfl, hb1⟩)
    all_goals go_ret
    all_goals refine ⟨ret_bool ?_, bl⟩
    all_goals (rw [Bool.eq_iff_iff]; simp; omega)
  by_cases h4 : k = 4
  · subst h4
    go_enter Tryz.func172, Tryz.ntmps172
    go_wp2
    all_goals go_ret
    all_goals exact ⟨ret_bool (by simp_all [formedP]), bl⟩
  by_cases h5 : k = 5
  · subst h5
    go_enter Tryz.func172, Tryz.ntmps172
    go_wp2
    all_goals go_ret
    all_goals exact ⟨ret_bool (by simp_all [formedP]), bl⟩
  by_cases h6 : k = 6
  · subst h6
    go_enter Tryz.func172, Tryz.ntmps172
    go_wp2
    all_goals go_ret
    all_goals exact ⟨ret_bool (by simp_all [formedP]), bl⟩
  by_cases h7 : k = 7
  · subst h7
    go_enter Tryz.func172, Tryz.ntmps172
    go_wp2
    all_goals go_ret
    all_goals exact ⟨ret_bool (by simp_all [formedP]), bl⟩
  by_cases h8 : k = 8
  · subst h8
    rw [formedP, if_neg (by decide), if_neg (by decide), if_neg (by decide), if_neg (by decide), if_neg (by decide), if_neg (by decide), if_pos rfl]
    generalize hasVal t v = b at *
    cases b
    all_goals
      go_enter Tryz.func172, Tryz.ntmps172
      go_wp2_with (go_at_call 188; refine (HV.out _).mono ?_; rintro e w1 ⟨rfl, hb1⟩)
    all_goals go_ret
    all_goals exact ⟨ret_bool (by simp_all), bl⟩
  by_cases h9 : k = 9
  · subst h9
    rw [formedP, if_neg (by decide), if_neg (by decide), if_neg (by decide), if_neg (by decide), if_neg (by decide), if_neg (by decide), if_neg (by decide), if_pos rfl]
    generalize hasBr t n = b at *
    go_enter Tryz.func172, Tryz.ntmps172
    go_wp2_with (go_at_call 190; refine (HB.out _).mono ?_; rintro e w1 ⟨rfl, hb1⟩)
    all_goals go_ret
    all_goals exact ⟨rfl, bl⟩
  by_cases h10 : k = 10
  · subst h10
    rw [formedP, if_neg (by decide), if_neg (by decide), if_neg (by decide), if_neg (by decide), if_neg (by decide), if_neg (by decide), if_neg (by decide), if_neg (by decide), if_pos rfl]
    go_enter Tryz.func172, Tryz.ntmps172
    go_wp2
    all_goals go_ret
    all_goals refine ⟨ret_bool ?_, bl⟩
    all_goals (rw [Bool.eq_iff_iff]; simp_all)
  by_cases h11 : k = 11
  · subst h11
    have KQ := KP rfl
    rw [formedP, if_neg (by decide), if_neg (by decide), if_neg (by decide), if_neg (by decide), if_neg (by decide), if_neg (by decide), if_neg (by decide), if_neg (by decide), if_neg (by decide), if_pos rfl]
    clear KP
    cases wok
    all_goals
      go_enter Tryz.func172, Tryz.ntmps172
      go_wp2_with (go_at_call 191; refine (KQ.out _ ?_).mono ?_; (exact bl); rintro e w1 ⟨A1, A2, n1, c1, n2, c2, er, rfl, her, hb1⟩)
    all_goals go_ret
    all_goals exact ⟨ret_bool (by simp_all), bl⟩
  have e : formedP k op t v n wok = false := by
    rw [formedP, if_neg h1, if_neg h2, if_neg h3, if_neg h4, if_neg h5, if_neg (by omega), if_neg h8, if_neg h9, if_neg h10, if_neg h11]
  rw [e]
  have q1 : (k == 1) = false := by simpa using h1
  have q2 : (k == 2) = false := by simpa using h2
  have q3 : (k == 3) = false := by simpa using h3
  have q4 : (k == 4) = false := by simpa using h4
  have q5 : (k == 5) = false := by simpa using h5
  have q6 : (k == 6) = false := by simpa using h6
  have q7 : (k == 7) = false := by simpa using h7
  have q8 : (k == 8) = false := by simpa using h8
  have q9 : (k == 9) = false := by simpa using h9
  have q10 : (k == 10) = false := by simpa using h10
  have q11 : (k == 11) = false := by simpa using h11
  go_enter Tryz.func172, Tryz.ntmps172
  go_wp2
  go_ret
  exact ⟨rfl, bl⟩
set_option maxHeartbeats 2000000 in
set_option maxRecDepth 20000 in
theorem hasonly_any (x : Xt) (w : World) : Calls Tryz.prog 173 #[xV x] w (Bel (.bool (onlyP x.k x.op x.t x.v (x.nm.toList == []))) w) := by
  obtain ⟨k, op, t, v, nm, A, c, ar⟩ := x
  simp only [xV, Xt.k, Xt.op, Xt.t, Xt.v, Xt.nm, Xt.A, Xt.c, Xt.ar] at *
  have hne : (nm.toList == []) = nm.toList.isEmpty := by cases nm.toList <;> rfl
  by_cases h0 : k ≠ 3 ∧ op ≠ 0
  · rw [onlyP, if_pos h0]
    have q1 : (k != 3) = true := by simpa using h0.1
    have q2 : (op != 0) = true := by simpa using h0.2
    go_enter Tryz.func173, Tryz.ntmps173
    go_wp2
    all_goals go_ret
    all_goals exact ⟨rfl, bl⟩
  rw [onlyP, if_neg h0]
  have hq : (k != 3) = false ∨ (k != 3) = true ∧ (op != 0) = false := by
    by_cases h : k = 3
    · exact .inl (by simp [h])
    · exact .inr ⟨by simpa using h, by simpa using fun e => h0 ⟨h, e⟩⟩
  clear h0
  by_cases h1 : k = 1
  · subst h1
    rw [if_pos rfl]
    rcases hq with hq | ⟨_, hq⟩
    · cases hq
    go_enter Tryz.func173, Tryz.ntmps173
    go_wp2
    all_goals go_ret
    all_goals exact ⟨ret_bool (by simp_all), bl⟩
  by_cases h8 : k = 8
  · subst h8
    rw [if_neg (by decide), if_pos rfl]
    rcases hq with hq | ⟨_, hq⟩
    · cases hq
    go_enter Tryz.func173, Tryz.ntmps173
    go_wp2
    all_goals go_ret
    all_goals exact ⟨rfl, bl⟩
  by_cases h9 : k = 9
  · subst h9
    rw [if_neg (by decide), if_neg (by decide), if_pos rfl]
    rcases hq with hq | ⟨_, hq⟩
    · cases hq
    go_enter Tryz.func173, Tryz.ntmps173
    go_wp2
    all_goals go_ret
    all_goals exact ⟨rfl, bl⟩
  by_cases h10 : k = 10
  · subst h10
    rw [if_neg (by decide), if_neg (by decide), if_neg (by decide), if_pos rfl]
    rcases hq with hq | ⟨_, hq⟩
    · cases hq
    go_enter Tryz.func173, Tryz.ntmps173
    go_wp2
    all_goals go_ret
    all_goals exact ⟨rfl, bl⟩
  have q1 : (k == 1) = false := by simpa using h1
  have q8 : (k == 8) = false := by simpa using h8
  have q9 : (k == 9) = false := by simpa using h9
  have q10 : (k == 10) = false := by simpa using h10
  rw [if_neg h1, if_neg h8, if_neg h9, if_neg h10]
  by_cases h2 : k = 2
  · subst h2
    rw [if_pos (.inl rfl)]
    rcases hq with hq | ⟨_, hq⟩
    · cases hq
    go_enter Tryz.func173, Tryz.ntmps173
    go_wp2
    all_goals go_ret
    all_goals exact ⟨ret_bool (by simp_all), bl⟩
  by_cases h11 : k = 11
  · subst h11
    rw [if_pos (.inr rfl)]
    rcases hq with hq | ⟨_, hq⟩
    · cases hq
    go_enter Tryz.func173, Tryz.ntmps173
    go_wp2
    all_goals go_ret
    all_goals exact ⟨ret_bool (by simp_all), bl⟩
  have q2 : (k == 2) = false := by simpa using h2
  have q11 : (k == 11) = false := by simpa using h11
  rw [if_neg (by omega)]
  rcases hq with hq | ⟨hk3, hq⟩
  all_goals
    go_enter Tryz.func173, Tryz.ntmps173
    go_wp2
  all_goals go_ret
  all_goals exact ⟨ret_bool (by simp_all), bl⟩
end Go.Proofs.YtoimjcfdiljkjaaGreatDoor
namespace Go.Proofs.YtoimjcfdiljkjaaGreatDoor
open Go.RowKit
def chk1 (wok : ByteArray → Bool) (x : Xt) : Int := if 64 < x.ar.length then 3 else if (formedP x.k x.op x.t x.v x.ar.length (wok x.nm) && onlyP x.k x.op x.t x.v (x.nm.toList == [])) = false then 5 else if (hasIdn x.k && !idP x.nm) = true then 6 else 0
def NmOk (wok : ByteArray → Bool) (w : World) (x : Xt) : Prop := (x.k = 11 → Hid (∀ W, Below w.heap.size w W → Calls Tryz.prog 191 #[.string x.nm] W (fun e w' => ∃ (A1 A2 : Option Addr) (n1 c1 n2 c2 : Nat) (er : Int), e = .returned (.tuple #[.agg #[.slice A1 n1 c1, .slice A2 n2 c2], .int .i64 er]) ∧ (er == 0) = wok x.nm ∧ Below W.heap.size W w'))) ∧ (hasIdn x.k = true → Hid (∀ W, Below w.heap.size w W → Calls Tryz.prog 81 #[.string x.nm] W (Bel (.bool (idP x.nm)) W)))
theorem NmOk.to {wok : ByteArray → Bool} {w W : World} {x : Xt} (h : NmOk wok w x) (hb : Below w.heap.size w W) : NmOk wok W x :=
  ⟨fun e => Lib.hid fun W' hb' => (h.1 e).out W' (bel_step hb hb'), fun e => Lib.hid fun W' hb' => (h.2 e).out W' (bel_step hb hb')⟩
set_option maxHeartbeats 2000000 in
set_option maxRecDepth 20000 in
theorem checkone_any (wok : ByteArray → Bool) (x : Xt) (w : World) (h9 : x.ar.length ≤ maxLen) (hN : NmOk wok w x) : Calls Tryz.prog 137 #[xV x] w (Bel (.int .i64 (chk1 wok x)) w) := by
  have KF : Hid (∀ W, Below w.heap.size w W → Calls Tryz.prog 172 #[xV x] W (Bel (.bool (formedP x.k x.op x.t x.v x.ar.length (wok x.nm))) W)) := Lib.hid fun W hb => formed_any x _ W (hN.to hb).1
  have KO := Lib.hid (fun W => hasonly_any x W)
  have KH := Lib.hid (fun W => hasident_any x.k W)
  have KI := hN.2
  unfold maxLen at h9
  unfold chk1
  clear hN
  simp only [xV] at KF KO ⊢
  by_cases h64 : 64 < x.ar.length
  · rw [if_pos h64]
    have q : (64 : Int) < (x.ar.length : Int) := by omega
    go_enter Tryz.func137, Tryz.ntmps137
    go_wp2
    go_ret
    exact ⟨rfl, bl⟩
  rw [if_neg h64]
  have q : (x.ar.length : Int) ≤ 64 := by omega
  generalize formedP x.k x.op x.t x.v x.ar.length (wok x.nm) = bf at *
  generalize onlyP x.k x.op x.t x.v (x.nm.toList == []) = bo at *
  clear h64 h9
  cases bf
  · rw [Bool.false_and, if_pos rfl]
    go_enter Tryz.func137, Tryz.ntmps137
    go_wp2_with (go_at_call 172; refine (KF.out _ ?_).mono ?_; (exact bl); rintro e w1 ⟨rfl, hb1⟩)
    go_ret
    exact ⟨rfl, bl⟩
  cases bo
  · rw [Bool.true_and, if_pos rfl]
    go_enter Tryz.func137, Tryz.ntmps137
    go_wp2_with (first
      | (go_at_call 172; refine (KF.out _ ?_).mono ?_; (exact bl); rintro e w1 ⟨rfl, hb1⟩; obtain ⟨b0, b1, b2, b3, b4, b5, b6⟩ := bxW_cells (w := w) (x := x) hb1)
      | (go_at_call 173; refine (KO.out _).mono ?_; rintro e w2 ⟨rfl, hb2⟩))
    go_ret
    exact ⟨rfl, bl⟩
  rw [Bool.true_and, if_neg (by simp)]
  cases hi : hasIdn x.k
  · rw [hi] at KH
    rw [Bool.false_and, if_neg (by simp)]
    clear hi KI
    go_enter Tryz.func137, Tryz.ntmps137
    go_wp2_with (first
      | (go_at_call 172; refine (KF.out _ ?_).mono ?_; (exact bl); rintro e w1 ⟨rfl, hb1⟩; obtain ⟨b0, b1, b2, b3, b4, b5, b6⟩ := bxW_cells (w := w) (x := x) hb1)
      | (go_at_call 173; refine (KO.out _).mono ?_; rintro e w2 ⟨rfl, hb2⟩; obtain ⟨d0, d1, d2, d3, d4, d5, d6⟩ := bxW_cells (w := w) (x := x) (W := w2) bl)
      | (go_at_call 174; refine (KH.out _).mono ?_; rintro e w3 ⟨rfl, hb3⟩))
    go_ret
    exact ⟨rfl, bl⟩
  have KI2 := KI hi
  rw [hi] at KH
  rw [Bool.true_and]
  clear hi KI
  generalize idP x.nm = bi at *
  cases bi
  all_goals
    go_enter Tryz.func137, Tryz.ntmps137
    go_wp2_with (first
      | (go_at_call 172; refine (KF.out _ ?_).mono ?_; (exact bl); rintro e w1 ⟨rfl, hb1⟩; obtain ⟨b0, b1, b2, b3, b4, b5, b6⟩ := bxW_cells (w := w) (x := x) hb1)
      | (go_at_call 173; refine (KO.out _).mono ?_; rintro e w2 ⟨rfl, hb2⟩; obtain ⟨d0, d1, d2, d3, d4, d5, d6⟩ := bxW_cells (w := w) (x := x) (W := w2) bl)
      | (go_at_call 174; refine (KH.out _).mono ?_; rintro e w3 ⟨rfl, hb3⟩; obtain ⟨g0, g1, g2, g3, g4, g5, g6⟩ := bxW_cells (w := w) (x := x) (W := w3) bl)
      | (go_at_call 81; refine (KI2.out _ ?_).mono ?_; (exact bl); rintro e w4 ⟨rfl, hb4⟩))
    go_ret
    exact ⟨rfl, bl⟩
end Go.Proofs.YtoimjcfdiljkjaaGreatDoor
namespace Go.Proofs.YtoimjcfdiljkjaaGreatDoor
open Go.RowKit Go.Maps
def wf1 (x : Xt) : Prop :=
  (x.k = 3 → ((x.op = 1 ∨ x.op = 2) ∧ x.ar.length = 1) ∨ ((3 ≤ x.op ∧ x.op ≤ 16) ∧ x.ar.length = 2)) ∧ (x.k = 4 → x.ar.length = 3) ∧ (x.k = 5 ∨ x.k = 8 → x.ar.length = 1) ∧ (x.k = 6 ∨ x.k = 7 → x.ar.length = 2) ∧ (x.k = 9 → x.t = 1 → x.ar.length = 2) ∧ (x.k = 10 → x.v = 0 ∨ (x.v = 1 ∧ 0 < x.ar.length))
theorem wf1_of {wok : ByteArray → Bool} {x : Xt} (h : chk1 wok x = 0) : wf1 x := by
  unfold chk1 at h
  split at h
  · cases h
  split at h
  · cases h
  rename_i h1 h2
  have h3 : formedP x.k x.op x.t x.v x.ar.length (wok x.nm) = true := by
    simp only [Bool.and_eq_false_imp] at h2
    exact Decidable.byContradiction fun hn => h2 fun e => absurd e hn
  clear h h2 h1
  unfold formedP at h3
  refine ⟨fun e => ?_, fun e => ?_, fun e => ?_, fun e => ?_, fun e e2 => ?_, fun e => ?_⟩
  · rw [if_neg (by omega), if_neg (by omega), if_pos e] at h3
    simp [opnds] at h3
    split at h3
    · exact .inl ⟨by assumption, by omega⟩
    · exact .inr ⟨by omega, by omega⟩
  · rw [if_neg (by omega), if_neg (by omega), if_neg (by omega), if_pos e] at h3
    simp at h3
    omega
  · rcases e with e | e
    · rw [if_neg (by omega), if_neg (by omega), if_neg (by omega), if_neg (by omega), if_pos e] at h3
      simp at h3
      omega
    · rw [if_neg (by omega), if_neg (by omega), if_neg (by omega), if_neg (by omega), if_neg (by omega), if_neg (by omega), if_pos e] at h3
      simp at h3
      omega
  · rw [if_neg (by omega), if_neg (by omega), if_neg (by omega), if_neg (by omega), if_neg (by omega), if_pos e] at h3
    simp at h3
    omega
  · rw [if_neg (by omega), if_neg (by omega), if_neg (by omega), if_neg (by omega), if_neg (by omega), if_neg (by omega), if_neg (by omega), if_pos e] at h3
    simp [hasBr] at h3
    omega
  · rw [if_neg (by omega), if_neg (by omega), if_neg (by omega), if_neg (by omega), if_neg (by omega), if_neg (by omega), if_neg (by omega), if_neg (by omega), if_pos e] at h3
    simp at h3
    omega
theorem lookup_str {H : Type} {P : Program} {w : World} {k t e : TypeId} {b n : Nat} {D : DataW H} (h : w.ownsMap P k (plainElem P e) b n D) (K : Keyed P k) (ht : P.underlying t = some (.map k e)) (he : P.underlying e = some .string) (hz : (zeroValue e).run P w = .ok (.string ⟨#[]⟩) w)
    {key : Value} {kl : Lit} (hkey : keyOf P k key = some kl) {s : List UInt8} (hs : D.atKey kl (.lit (.string [])) = .lit (.string s)) : (Instr.lookup t (.map (some b)) key false).run P w = .ok (.string (tB s)) w := by
  obtain ⟨v, ps, hrun, hv⟩ := h.lookup K ht hz (zd := .lit (.string [])) (zp := []) (by simp [plainElem, he, maxLen]; exact if_pos (Nat.zero_le _)) hkey
  obtain ⟨c, rfl, hc, _⟩ := plainElem_string_inv he hv
  simp only [Prod.mk.injEq] at hc
  have h1 := hs.symm.trans hc.1
  have : s = c.data.toList := by injection h1 with h1; injection h1
  subst this
  rw [hrun]
  have e2 := tB_bsT c
  unfold bsT at e2
  rw [e2]
def SymM (w : World) (b : Nat) : Prop := ∃ (n : Nat) (D : DataW Unit), w.ownsMap Tryz.prog 3 (plainElem Tryz.prog 9) b n D ∧ ∀ op : Int, 3 ≤ op → op ≤ 16 → D.atKey (.int .i64 op) (.lit (.string [])) = .lit (.string (symS op))
theorem SymM.lt {w : World} {b : Nat} (h : SymM w b) : b < w.heap.size := by
  obtain ⟨n, D, h, _⟩ := h
  exact h.lt
theorem SymM.to {w W : World} {b : Nat} (h : SymM w b) (hb : Below w.heap.size w W) : SymM W b := by
  obtain ⟨n, D, h1, h2⟩ := h
  exact ⟨n, D, h1.kept (row := none) ⟨hb.os, hb.tape, hb.output, hb.size, fun k hk _ => hb.block k hk⟩ (by simp), h2⟩
theorem SymM.look {w : World} {b : Nat} (h : SymM w b) {op : Int} (h3 : 3 ≤ op) (h16 : op ≤ 16) : (Instr.lookup 62 (.map (some b)) (.int .i64 op) false).run Tryz.prog w = .ok (.string (tB (symS op))) w := by
  obtain ⟨n, D, h1, h2⟩ := h
  exact lookup_str h1 (int_keyed Tryz.underlying3) Tryz.underlying62 Tryz.underlying9 (by kernel_rfl) (keyOf_int_mk Tryz.underlying3 (WalkArith.wf_i64 ⟨by omega, by omega⟩)) (h2 op h3 h16)
abbrev phV (E : Rw va.En) (b : Nat) : Value := .agg #[.slice E.A E.l.length E.c, .map (some b)]
end Go.Proofs.YtoimjcfdiljkjaaGreatDoor
namespace Go.Proofs.YtoimjcfdiljkjaaGreatDoor
open Go.RowKit Go.Sort
theorem add_tB {P : Program} (w : World) {A B : ByteArray} {a b z : List UInt8} (hA : A = tB a) (hB : B = tB b) (hz : a ++ b = z) (h : a.length + b.length ≤ 9223372036854775807) : (Op.stringOp .add A B).run P w = .ok (.string (tB z)) w := by
  subst hA hB hz
  rw [run_string_add_sum w _ _ (by rw [tB_size, tB_size]; exact h), tB_app]
set_option maxHeartbeats 2000000 in
set_option maxRecDepth 20000 in
theorem ph_brackets (s : List UInt8) (h : (brS s).length ≤ 140737488355328) (w : World) : Calls Tryz.prog 105 #[.string (tB s)] w (Bel (.string (tB (brS s))) w) := by
  have hfl : (brS s).length ≤ 140737488355328 := h
  have hft : brS s = ([40]) ++ (s) ++ ([41]) := by rfl
  rw [hft] at hfl
  simp only [List.length_append] at hfl
  obtain ⟨z1, hz1⟩ : ∃ q, ([40]) ++ (s) = q := ⟨_, rfl⟩
  have lz1 := congrArg List.length hz1
  rw [List.length_append] at lz1
  have kaz1 := fun w => add_tB (P := Tryz.prog) w (A := ⟨#[40]⟩) (B := tB s) rfl rfl hz1 (by omega)
  obtain ⟨z2, hz2⟩ : ∃ q, z1 ++ ([41]) = q := ⟨_, rfl⟩
  have lz2 := congrArg List.length hz2
  rw [List.length_append] at lz2
  have kaz2 := fun w => add_tB (P := Tryz.prog) w (A := tB z1) (B := ⟨#[41]⟩) rfl rfl hz2 (by omega)
  have HZ : Hid (z2 = brS s) := Lib.hid (by rw [hft, hz1, hz2])
  clear hft hfl hz1 hz2 lz1 lz2
  rw [← HZ.out]
  clear HZ h
  go_enter Tryz.func105, Tryz.ntmps105
  go_wp2
  go_ret
  exact ⟨rfl, Below.refl _ _⟩
set_option maxHeartbeats 2000000 in
set_option maxRecDepth 20000 in
theorem ph_value (E : Rw va.En) (b : Nat) (t v : Int) (w : World) (hs : Std w) (hE : RsE w w.heap.size E) (ht : t ≤ 9223372036854775807) : Calls Tryz.prog 63 #[phV E b, .int .i64 t, .int .i64 v] w (Bel (.string (tB (valS E.l t v))) w) := by
  have KT : Hid (∀ W, Below w.heap.size w W → Calls Tryz.prog 103 #[.slice E.A E.l.length E.c, .int .i64 t, .int .i64 v] W (Bel (.tuple #[.string (tB (valS E.l t v)), .int .i64 (va.textE E.l t v)]) W)) := Lib.hid fun W h => by
    have hE' := hE.blw h h.size
    have hl := hE'.2.1.1
    unfold maxLen at hl
    have := va.text_any E.A E.c E.l t v W (hs.to h) hE'.1 (by omega) ht
    unfold valS
    rwa [tB_bsT]
  generalize valS E.l t v = s at *
  generalize va.textE E.l t v = r at *
  clear hs hE ht
  go_enter Tryz.func63, Tryz.ntmps63
  go_wp2_with (go_at_call 103; (with_reducible refine (KT.out _ ?_).mono ?_); (exact bl); rintro e w1 ⟨rfl, hb1⟩)
  go_ret
  exact ⟨rfl, bl⟩
set_option maxHeartbeats 2000000 in
set_option maxRecDepth 20000 in
theorem ph_sampling (E : Rw va.En) (b : Nat) (o : Ot) (w : World) (hs : Std w) (hE : RsE w w.heap.size E) (ht : o.t ≤ 9223372036854775807) (h : (smpS E.l o).length ≤ 140737488355328) : Calls Tryz.prog 67 #[phV E b, oV o] w (Bel (.string (tB (smpS E.l o))) w) := by
  have K1 : Hid (∀ W, Below w.heap.size w W → Calls Tryz.prog 63 #[phV E b, .int .i64 o.t, .int .i64 o.tag] W (Bel (.string (tB (valS E.l o.t o.tag))) W)) := Lib.hid fun W hb => ph_value E b o.t o.tag W (hs.to hb) (hE.blw hb hb.size) ht
  have K2 : Hid (∀ W, Below w.heap.size w W → Calls Tryz.prog 105 #[.string o.nm] W (Bel (.string (tB (brS (bsT o.nm)))) W)) := Lib.hid fun W hb => by
    have := ph_brackets (bsT o.nm) (by unfold smpS at h; simp only [List.length_append] at h; omega) W
    rwa [tB_bsT] at this
  have hfl : (smpS E.l o).length ≤ 140737488355328 := h
  have hft : smpS E.l o = ([119, 104, 101, 110, 32]) ++ (valS E.l o.t o.tag) ++ (brS (bsT o.nm)) := by rfl
  rw [hft] at hfl
  simp only [List.length_append] at hfl
  obtain ⟨z1, hz1⟩ : ∃ q, ([119, 104, 101, 110, 32]) ++ (valS E.l o.t o.tag) = q := ⟨_, rfl⟩
  have lz1 := congrArg List.length hz1
  rw [List.length_append] at lz1
  have kaz1 := fun w => add_tB (P := Tryz.prog) w (A := ⟨#[119, 104, 101, 110, 32]⟩) (B := tB (valS E.l o.t o.tag)) rfl rfl hz1 (by omega)
  obtain ⟨z2, hz2⟩ : ∃ q, z1 ++ (brS (bsT o.nm)) = q := ⟨_, rfl⟩
  have lz2 := congrArg List.length hz2
  rw [List.length_append] at lz2
  have kaz2 := fun w => add_tB (P := Tryz.prog) w (A := tB z1) (B := tB (brS (bsT o.nm))) rfl rfl hz2 (by omega)
  have HZ : Hid (z2 = smpS E.l o) := Lib.hid (by rw [hft, hz1, hz2])
  clear hft hfl hz1 hz2 lz1 lz2
  rw [← HZ.out]
  generalize valS E.l o.t o.tag = s1 at *
  generalize brS (bsT o.nm) = s2 at *
  clear HZ h hs hE ht
  go_enter Tryz.func67, Tryz.ntmps67
  go_wp2
  obtain ⟨W0, hW0⟩ : ∃ W0, ((w.alloc (.cells #[.slice E.A E.l.length E.c, .map (some b)] 64)).alloc (.cells #[.string o.nm, .int .i64 o.t, .int .i64 o.tag] 57)) = W0 := ⟨_, rfl⟩
  have hB0 : Below w.heap.size w W0 := by rw [← hW0]; exact bel_alloc (bel_box _) _
  have b00 : W0.cell? ⟨w.heap.size, 0, none⟩ = some (.slice E.A E.l.length E.c) := by rw [← hW0]; simp [go_sem]
  have b01 : W0.cell? ⟨w.heap.size, 1, none⟩ = some (.map (some b)) := by rw [← hW0]; simp [go_sem]
  have b10 : W0.cell? ⟨w.heap.size + 1, 0, none⟩ = some (.string o.nm) := by rw [← hW0]; simp [go_sem]
  have b11 : W0.cell? ⟨w.heap.size + 1, 1, none⟩ = some (.int .i64 o.t) := by rw [← hW0]; simp [go_sem]
  have b12 : W0.cell? ⟨w.heap.size + 1, 2, none⟩ = some (.int .i64 o.tag) := by rw [← hW0]; simp [go_sem]
  have HW0 := Lib.hid hW0
  clear hW0
  rw [HW0.out]
  have q_b00 := cell_regrown b00
  have q_b01 := cell_regrown b01
  have q_b10 := cell_regrown b10
  have q_b11 := cell_regrown b11
  have q_b12 := cell_regrown b12
  have k_0 := fun dd os => Calls.regrown_of (K1.out (grow (redrawn W0 dd) os) (hB0.trans ((below_regrown W0 dd os).mono hB0.size)))
  have k_1 := fun dd os => Calls.regrown_of (K2.out (grow (redrawn W0 dd) os) (hB0.trans ((below_regrown W0 dd os).mono hB0.size)))
  refine wp_region_quiet_below (by kernel_rfl) (by kernel_rfl) ?_
  repeat (quiet_step (first | with_reducible exact k_0 _ _ | with_reducible exact k_1 _ _))
  refine wpQuiet_nil ?_
  intro _ hw'
  obtain ⟨⟨dq, osq⟩, hw''⟩ := hw'
  subst hw''
  have hrw9 : Below W0.heap.size W0 (grow (redrawn W0 dq) osq) := below_regrown W0 dq osq
  have hw9 : Below w.heap.size w (grow (redrawn W0 dq) osq) := hB0.trans (hrw9.mono hB0.size)
  generalize grow (redrawn W0 dq) osq = w9 at hw9 hrw9 ⊢
  clear q_b00 q_b01 q_b10 q_b11 q_b12 k_0 k_1
  go_wp2
  go_ret
  exact ⟨rfl, hw9⟩
end Go.Proofs.YtoimjcfdiljkjaaGreatDoor
namespace Go.Proofs.YtoimjcfdiljkjaaGreatDoor
open Go.RowKit
def errs (l : List Int) : Int := (l.find? (· != 0)).getD 0
def orE (a b : Int) : Int := if a = 0 then b else a
theorem errs_nil : errs [] = 0 := rfl
theorem errs_cons (a : Int) (l : List Int) : errs (a :: l) = orE a (errs l) := by
  unfold errs orE
  by_cases h : a = 0
  · simp [h]
  · simp [h]
theorem errs_steps {α : Type} (l : List α) (f : α → Int) : ∃ E : Nat → Int, E 0 = errs (l.map f) ∧ E l.length = 0 ∧ Hid (∀ (k : Nat) (y : α), l[k]? = some y → E k = orE (f y) (E (k + 1))) := by
  refine ⟨fun k => errs ((l.drop k).map f), by simp, by simp [errs_nil], Lib.hid fun k y hy => ?_⟩
  obtain ⟨hk, rfl⟩ := List.getElem?_eq_some_iff.1 hy
  show errs ((l.drop k).map f) = _
  rw [List.drop_eq_getElem_cons hk, List.map_cons, errs_cons]
theorem errs_zero {l : List Int} : errs l = 0 ↔ ∀ x ∈ l, x = 0 := by
  induction l with
  | nil => simp [errs_nil]
  | cons a l ih =>
    rw [errs_cons]
    unfold orE
    by_cases h : a = 0
    · simp [h, ih]
    · simp [h]
def idE (s : ByteArray) : Int := if idP s = true then 0 else 6
def enumE (e : va.En) : Int := if idP e.name = true then (if e.tags.length = 0 then 8 else if 16 < e.tags.length then 3 else errs (e.tags.map idE)) else 6
def onE (es : List va.En) (o : Ot) : Int := if idP o.nm = true then (if o.t = 2 ∨ va.hasB es o.t o.tag = false then 5 else 0) else 6
def dclE (es : List va.En) (d : Dt) : Int := if idP d.nm = true then (if va.valB es d.ty = true then 0 else 10) else 6
def portE (es : List va.En) (d : Dt) : Int := orE (dclE es d) (if 0 < d.ck.l.length then 11 else 0)
def locE (es : List va.En) (d : Dt) : Int := orE (dclE es d) (if 4 < d.ck.l.length then 3 else errs (d.ck.l.map (onE es)))
def typE (es : List va.En) (x : Xt) : Int :=
  if x.k = 1 ∨ x.k = 8 ∨ x.k = 9 then
    (if va.sizeT es x.t = 0 then 10 else if x.k = 9 ∧ (x.ar.length : Int) ≠ va.sizeT es x.t then 9 else if x.k ≠ 9 ∧ va.hasB es x.t x.v = false then 14 else 0)
  else 0
def insE (es : List va.En) (x : Xt) : Int := orE (typE es x) (errs (x.ar.attach.map fun a => insE es a.1))
termination_by SizeOf.sizeOf x
decreasing_by exact Xt.lt_of_mem a.2
theorem insE_eq (es : List va.En) (x : Xt) : insE es x = orE (typE es x) (errs (x.ar.map (insE es))) := by
  rw [insE]
  congr 2
  simp
end Go.Proofs.YtoimjcfdiljkjaaGreatDoor
