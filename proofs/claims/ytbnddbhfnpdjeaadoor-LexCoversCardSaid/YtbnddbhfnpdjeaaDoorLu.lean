/- one of the reference: a name, a number, a word. -/
import Derived.Test.YtbnddbhfnpdjeaaDoorLt
import Derived.Test.YtbnddbhfnpdjeaaDoorLr
namespace Go.Proofs.YtbnddbhfnpdjeaaDoor
set_option linter.unusedVariables false
set_option linter.unusedSimpArgs false
open Go.RowKit
theorem rest3 {w W : World} {t : TypeId} {x y z : Value} (h : Below (w.alloc (.cells #[x, y, z] t)).heap.size (w.alloc (.cells #[x, y, z] t)) W) :
    W.cell? ⟨w.heap.size, 0, none⟩ = some x ∧ W.cell? ⟨w.heap.size, 1, none⟩ = some y ∧ W.cell? ⟨w.heap.size, 2, none⟩ = some z ∧ W.frozen? ⟨w.heap.size, 0, none⟩ = false ∧ W.frozen? ⟨w.heap.size, 1, none⟩ = false ∧ W.frozen? ⟨w.heap.size, 2, none⟩ = false ∧ w.heap.size < W.heap.size := by
  obtain ⟨hc, hf, hz⟩ := bcell h
  rw [hc _ _ (by simp), hc _ _ (by simp), hc _ _ (by simp), hf _ _ (by simp), hf _ _ (by simp), hf _ _ (by simp)]
  simp at hz
  refine ⟨?_, ?_, ?_, ?_, ?_, ?_, by omega⟩ <;> simp [go_sem]
set_option maxHeartbeats 1000000 in
set_option maxRecDepth 20000 in
theorem rone_id_long (s : ByteArray) (k m : Nat) (w : World) (hk : k < s.size) (h9 : s.size ≤ 65536) (hL : pL ((s[k].toNat : Nat) : Int) = true) (hm : sp pI (s.data.toList.drop k) = m) (h40 : 40 < m) :
    Calls Tryd.prog 22 #[.string s, .int .i64 k] w (Bel (.tuple #[tok 0 ⟨#[]⟩ 0, .int .i64 0, .int .i64 3]) w) := by
  have kl := Lib.hid (rletter_any ((s[k].toNat : Nat) : Int))
  rw [hL] at kl
  have hle := spd_le pI s k (by omega)
  rw [hm] at hle
  obtain ⟨z, hz⟩ : ∃ z, k + m = z := ⟨_, rfl⟩
  have KW : Hid (∀ W, Calls Tryd.prog 38 #[.string s, .int .i64 k] W (Bel (.int .i64 (z : Nat)) W)) := Lib.hid fun W => by
    have := rword_any s k W (by omega) h9
    rwa [hm, hz] at this
  have f1 : (0 : Int) ≤ (k : Int) := by omega
  have f2 : (k : Int) < (s.size : Int) := by omega
  have f3 : (k : Int) ≤ (z : Int) := by omega
  have f4 : (z : Int) ≤ (s.size : Int) := by omega
  have f5 : (z : Int) - (k : Int) = (m : Int) := by omega
  have f6 : IntKind.i64.wrap (m : Int) = (m : Int) := Go.IntWalk.i64_in _ ⟨by omega, by omega⟩
  have f7 : (40 : Int) < (m : Int) := by omega
  clear hm hL hz hle
  go_enter Tryd.func22, Tryd.ntmps22
  go_wp2_with (first
    | (go_at_call 24; (with_reducible refine (kl.out _).mono ?_); rintro e w1 ⟨rfl, hb1⟩)
    | (go_at_call 38; (with_reducible refine (KW.out _).mono ?_); rintro e w2 ⟨rfl, hb2⟩; obtain ⟨q0, q1, q2, q3, q4, q5, q6⟩ := rest (w := w) (W := w2) (t := 30) (s0 := ⟨#[]⟩) (by repeat (first | (with_reducible exact Below.refl _ _) | (with_reducible assumption) | (with_reducible exact bel_box _) | (with_reducible refine bel_step ?_ (by with_reducible assumption)) | (with_reducible refine Below.drew ?_) | (with_reducible refine below_drewN ?_ _) | (with_reducible refine bel_alloc ?_ _)))))
  obtain ⟨k0, k1, k2⟩ := set3_cells q0 q1 q2 (.int .i64 0) (.string ⟨#[]⟩) (.int .i64 0)
  refine bodyPost_ret (v := .tuple #[tok 0 ⟨#[]⟩ 0, .int .i64 0, .int .i64 3]) (by simp [results, Tryd.results22, go_sem, tok, q6, k0, k1, k2]) rfl ?_
  exact ⟨rfl, bel_alloc (bel_set3 (by repeat (first | (with_reducible exact Below.refl _ _) | (with_reducible assumption) | (with_reducible exact bel_box _) | (with_reducible refine bel_step ?_ (by with_reducible assumption)) | (with_reducible refine Below.drew ?_) | (with_reducible refine below_drewN ?_ _) | (with_reducible refine bel_alloc ?_ _))) (Nat.le_refl _) _ _ _) _⟩
set_option maxHeartbeats 2000000 in
set_option maxRecDepth 20000 in
theorem rone_id (s : ByteArray) (k m : Nat) (w : World) (hk : k < s.size) (h9 : s.size ≤ 65536) (hL : pL ((s[k].toNat : Nat) : Int) = true) (hm : sp pI (s.data.toList.drop k) = m) (h40 : m ≤ 40) :
    Calls Tryd.prog 22 #[.string s, .int .i64 k] w (Bel (.tuple #[tok (nmK (s.extract k (k + m))) (s.extract k (k + m)) k, .int .i64 ((k + m : Nat) : Int), .int .i64 0]) w) := by
  have kl := Lib.hid (rletter_any ((s[k].toNat : Nat) : Int))
  rw [hL] at kl
  have hle := spd_le pI s k (by omega)
  rw [hm] at hle
  obtain ⟨z, hz⟩ : ∃ z, k + m = z := ⟨_, rfl⟩
  have KW : Hid (∀ W, Calls Tryd.prog 38 #[.string s, .int .i64 k] W (Bel (.int .i64 (z : Nat)) W)) := Lib.hid fun W => by
    have := rword_any s k W (by omega) h9
    rwa [hm, hz] at this
  rw [hz]
  have f1 : (0 : Int) ≤ (k : Int) := by omega
  have f2 : (k : Int) < (s.size : Int) := by omega
  have f3 : (k : Int) ≤ (z : Int) := by omega
  have f4 : (z : Int) ≤ (s.size : Int) := by omega
  have f5 : (z : Int) - (k : Int) = (m : Int) := by omega
  have f6 : IntKind.i64.wrap (m : Int) = (m : Int) := Go.IntWalk.i64_in _ ⟨by omega, by omega⟩
  have f7 : (m : Int) ≤ 40 := by omega
  have kk := Lib.hid (rkeyword_any (s.extract k z))
  have e : nmK (s.extract k z) = if isKw (s.extract k z) then 3 else 1 := rfl
  rw [e]
  generalize isKw (s.extract k z) = b at *
  clear e hm hL hz hle h9
  cases b
  all_goals
    go_enter Tryd.func22, Tryd.ntmps22
    go_wp2_with (first
      | (go_at_call 24; (with_reducible refine (kl.out _).mono ?_); rintro e w1 ⟨rfl, hb1⟩)
      | (go_at_call 38; (with_reducible refine (KW.out _).mono ?_); rintro e w2 ⟨rfl, hb2⟩)
      | (go_at_call 18; (with_reducible refine (kk.out _).mono ?_); rintro e w3 ⟨rfl, hb3⟩; obtain ⟨q0, q1, q2, q3, q4, q5, q6⟩ := rest (w := w) (W := w3) (t := 30) (s0 := ⟨#[]⟩) (by repeat (first | (with_reducible exact Below.refl _ _) | (with_reducible assumption) | (with_reducible exact bel_box _) | (with_reducible refine bel_step ?_ (by with_reducible assumption)) | (with_reducible refine Below.drew ?_) | (with_reducible refine below_drewN ?_ _) | (with_reducible refine bel_alloc ?_ _))); obtain ⟨p0, p1, p2, p3, p4, p5, p6⟩ := rest3 (w := w2) (W := w3) (t := 30) (x := .int .i64 1) (y := .string (s.extract k z)) (z := .int .i64 k) hb3; have hne : w.heap.size < w2.heap.size := by have := (show Below (w.alloc (.cells #[.int .i64 0, .string ⟨#[]⟩, .int .i64 0] 30)).heap.size (w.alloc (.cells #[.int .i64 0, .string ⟨#[]⟩, .int .i64 0] 30)) w2 from (by repeat (first | (with_reducible exact Below.refl _ _) | (with_reducible assumption) | (with_reducible exact bel_box _) | (with_reducible refine bel_step ?_ (by with_reducible assumption)) | (with_reducible refine Below.drew ?_) | (with_reducible refine below_drewN ?_ _) | (with_reducible refine bel_alloc ?_ _)))).size; simp at this; omega))
  · obtain ⟨k0, k1, k2⟩ := set3_cells q0 q1 q2 (.int .i64 1) (.string (s.extract k z)) (.int .i64 k)
    refine bodyPost_ret (v := .tuple #[tok 1 (s.extract k z) k, .int .i64 z, .int .i64 0]) (by simp [results, Tryd.results22, go_sem, tok, k0, k1, k2]) rfl ?_
    exact ⟨rfl, bel_set3 (by repeat (first | (with_reducible exact Below.refl _ _) | (with_reducible assumption) | (with_reducible exact bel_box _) | (with_reducible refine bel_step ?_ (by with_reducible assumption)) | (with_reducible refine Below.drew ?_) | (with_reducible refine below_drewN ?_ _) | (with_reducible refine bel_alloc ?_ _))) (Nat.le_refl _) _ _ _⟩
  · have o0 : (w3.setCell ⟨w2.heap.size, 0, none⟩ (.int .i64 3)).cell? ⟨w.heap.size, 0, none⟩ = _ := (World.cell?_setCell_other _ _ _ _ (by first | (simp; done) | (simp; omega))).trans q0
    have o1 : (w3.setCell ⟨w2.heap.size, 0, none⟩ (.int .i64 3)).cell? ⟨w.heap.size, 1, none⟩ = _ := (World.cell?_setCell_other _ _ _ _ (by simp)).trans q1
    have o2 : (w3.setCell ⟨w2.heap.size, 0, none⟩ (.int .i64 3)).cell? ⟨w.heap.size, 2, none⟩ = _ := (World.cell?_setCell_other _ _ _ _ (by simp)).trans q2
    obtain ⟨k0, k1, k2⟩ := set3_cells o0 o1 o2 (.int .i64 3) (.string (s.extract k z)) (.int .i64 k)
    refine bodyPost_ret (v := .tuple #[tok 3 (s.extract k z) k, .int .i64 z, .int .i64 0]) (by simp [results, Tryd.results22, go_sem, tok, k0, k1, k2]) rfl ?_
    have hB : Below w.heap.size w w3 := (by repeat (first | (with_reducible exact Below.refl _ _) | (with_reducible assumption) | (with_reducible exact bel_box _) | (with_reducible refine bel_step ?_ (by with_reducible assumption)) | (with_reducible refine Below.drew ?_) | (with_reducible refine below_drewN ?_ _) | (with_reducible refine bel_alloc ?_ _)))
    exact ⟨rfl, bel_set3 (hB.setCell (p := ⟨w2.heap.size, 0, none⟩) (Nat.le_of_lt hne) _) (Nat.le_refl _) _ _ _⟩
set_option maxHeartbeats 1000000 in
set_option maxRecDepth 20000 in
theorem rone_nu_zero (s : ByteArray) (k m : Nat) (w : World) (hk : k < s.size) (h9 : s.size ≤ 65536) (hL : pL ((s[k].toNat : Nat) : Int) = false) (hG : pG ((s[k].toNat : Nat) : Int) = true) (hm : sp pG (s.data.toList.drop k) = m) (h2 : 2 ≤ m) (h48 : ((s[k].toNat : Nat) : Int) = 48) :
    Calls Tryd.prog 22 #[.string s, .int .i64 k] w (Bel (.tuple #[tok 0 ⟨#[]⟩ 0, .int .i64 0, .int .i64 5]) w) := by
  have kl := Lib.hid (rletter_any ((s[k].toNat : Nat) : Int))
  rw [hL] at kl
  have kd := Lib.hid (rdigit_any ((s[k].toNat : Nat) : Int))
  rw [hG] at kd
  have hle := spd_le pG s k (by omega)
  rw [hm] at hle
  obtain ⟨z, hz⟩ : ∃ z, k + m = z := ⟨_, rfl⟩
  have KW : Hid (∀ W, Calls Tryd.prog 40 #[.string s, .int .i64 k] W (Bel (.int .i64 (z : Nat)) W)) := Lib.hid fun W => by
    have := rnumber_any s k W (by omega) h9
    rwa [hm, hz] at this
  have f0 : (((s[k].toNat : Nat) : Int) == 48) = true := by rw [h48]; rfl
  have f1 : (0 : Int) ≤ (k : Int) := by omega
  have f2 : (k : Int) < (s.size : Int) := by omega
  have f5 : (z : Int) - (k : Int) = (m : Int) := by omega
  have f6 : IntKind.i64.wrap (m : Int) = (m : Int) := Go.IntWalk.i64_in _ ⟨by omega, by omega⟩
  have f7 : (1 : Int) < (m : Int) := by omega
  clear hm hL hG hz hle h48
  go_enter Tryd.func22, Tryd.ntmps22
  go_wp2_with (first
    | (go_at_call 24; (with_reducible refine (kl.out _).mono ?_); rintro e w1 ⟨rfl, hb1⟩)
    | (go_at_call 39; (with_reducible refine (kd.out _).mono ?_); rintro e w2 ⟨rfl, hb2⟩)
    | (go_at_call 40; (with_reducible refine (KW.out _).mono ?_); rintro e w3 ⟨rfl, hb3⟩; obtain ⟨q0, q1, q2, q3, q4, q5, q6⟩ := rest (w := w) (W := w3) (t := 30) (s0 := ⟨#[]⟩) (by repeat (first | (with_reducible exact Below.refl _ _) | (with_reducible assumption) | (with_reducible exact bel_box _) | (with_reducible refine bel_step ?_ (by with_reducible assumption)) | (with_reducible refine Below.drew ?_) | (with_reducible refine below_drewN ?_ _) | (with_reducible refine bel_alloc ?_ _)))))
  obtain ⟨k0, k1, k2⟩ := set3_cells q0 q1 q2 (.int .i64 0) (.string ⟨#[]⟩) (.int .i64 0)
  refine bodyPost_ret (v := .tuple #[tok 0 ⟨#[]⟩ 0, .int .i64 0, .int .i64 5]) (by simp [results, Tryd.results22, go_sem, tok, k0, k1, k2]) rfl ?_
  exact ⟨rfl, bel_set3 (by repeat (first | (with_reducible exact Below.refl _ _) | (with_reducible assumption) | (with_reducible exact bel_box _) | (with_reducible refine bel_step ?_ (by with_reducible assumption)) | (with_reducible refine Below.drew ?_) | (with_reducible refine below_drewN ?_ _) | (with_reducible refine bel_alloc ?_ _))) (Nat.le_refl _) _ _ _⟩
end Go.Proofs.YtbnddbhfnpdjeaaDoor
