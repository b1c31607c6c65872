/- first of the program. -/
import Derived.Test.YtfogkcccjemloaaGreatDoorLh
import Derived.Test.YtfogkcccjemloaaGreatDoorLg
namespace Go.Proofs.YtfogkcccjemloaaGreatDoor
set_option linter.unusedVariables false
set_option linter.unusedSimpArgs false
open Go.RowKit
theorem either_any (a : Addr) (w : World) :
    Calls Tryz.prog 78 #[.slice (some a) 3 3] w (fun e w' => e = .returned (.func (.func 94) #[] #[.pointer (some ⟨w.heap.size, 0, none⟩)]) ∧ w'.cell? ⟨w.heap.size, 0, none⟩ = some (.slice (some a) 3 3) ∧ w.heap.size < w'.heap.size ∧ Below w.heap.size w w') := by
  go_enter Tryz.func78, Tryz.ntmps78
  go_wp2
  go_ret
  refine ⟨rfl, ?_, ?_, (by repeat (first | (with_reducible exact Below.refl _ _) | (with_reducible assumption) | (with_reducible exact bel_box _) | (with_reducible refine bel_step ?_ (by with_reducible assumption)) | (with_reducible refine Below.drew ?_) | (with_reducible refine below_drewN ?_ _) | (with_reducible refine bel_alloc ?_ _)))⟩ <;> simp [go_sem]
theorem head_extract (s : ByteArray) (k : Nat) : (s.extract 0 k).data.toList = s.data.toList.take k := by
  rw [ByteArray.data_extract]
  simp
theorem tests_mk {w1 w2 w3 : World} {t : TypeId} (hq : w2.cell? ⟨w1.heap.size, 0, none⟩ = some (.string ⟨#[95]⟩)) (hz : w1.heap.size < w2.heap.size)
    (h3 : w3.cell? ⟨(w2.alloc (.cells #[.func (.func 75) #[] #[], .func (.func 79) #[] #[], .func (.func 95) #[] #[.pointer (some ⟨w1.heap.size, 0, none⟩)]] t)).heap.size, 0, none⟩ = some (.slice (some ⟨w2.heap.size, 0, none⟩) 3 3))
    (hb : Below (w2.alloc (.cells #[.func (.func 75) #[] #[], .func (.func 79) #[] #[], .func (.func 95) #[] #[.pointer (some ⟨w1.heap.size, 0, none⟩)]] t)).heap.size (w2.alloc (.cells #[.func (.func 75) #[] #[], .func (.func 79) #[] #[], .func (.func 95) #[] #[.pointer (some ⟨w1.heap.size, 0, none⟩)]] t)) w3) :
    Tests w3 ⟨w2.heap.size + 1, 0, none⟩ w3.heap.size := by
  rw [World.size_alloc] at h3
  have hl := World.block_lt_of_cell? w3 _ h3
  have hs := hb.size
  obtain ⟨hc, hf, hz2⟩ := bcell hb
  simp at hs hl
  refine ⟨⟨w2.heap.size, 0, none⟩, ⟨w1.heap.size, 0, none⟩, by simpa using hl, by simp; omega, by simp; omega, h3, ?_, ?_, ?_, ?_⟩
  · rw [hc _ _ (by simp)]; simp [go_sem]
  · rw [show (Addr.add ⟨w2.heap.size, 0, none⟩ 1) = ⟨w2.heap.size, 1, none⟩ from rfl, hc _ _ (by simp)]; simp [go_sem]
  · rw [show (Addr.add ⟨w2.heap.size, 0, none⟩ 2) = ⟨w2.heap.size, 2, none⟩ from rfl, hc _ _ (by simp)]; simp [go_sem]
  · rw [hc _ _ (by simp; omega), World.cell?_alloc_lt _ _ _ hz]; exact hq
/-- the name's branch, by whatever name makes of it -/
theorem first_name (s : ByteArray) (k : Nat) (a : Int) (tx : ByteArray) (m e : Int) (w : World) (h1 : 1 ≤ s.size) (h9 : s.size ≤ 140737488351232) (hL : pL ((s[0].toNat : Nat) : Int) = true) (hk : sp pI s.data.toList = k)
    (KN : Hid (∀ W, Calls Tryz.prog 76 #[.string (s.extract 0 k)] W (Bel (.tuple #[.agg #[.int .i64 a, .string tx, .int .i64 0], .int .i64 m, .int .i64 e]) W))) :
    Calls Tryz.prog 57 #[.string s] w (Bel (.tuple #[.agg #[.int .i64 a, .string tx, .int .i64 0], .int .i64 m, .int .i64 e]) w) := by
  have kl := Lib.hid (letter_any ((s[0].toNat : Nat) : Int))
  rw [hL] at kl
  have f2 : (0 : Int) < (s.size : Int) := by omega
  have KA : Hid (∀ W, Calls Tryz.prog 80 #[.string ⟨#[95]⟩] W (fun e w' => e = .returned (.func (.func 95) #[] #[.pointer (some ⟨W.heap.size, 0, none⟩)]) ∧ w'.cell? ⟨W.heap.size, 0, none⟩ = some (.string ⟨#[95]⟩) ∧ W.heap.size < w'.heap.size ∧ Below W.heap.size W w')) := Lib.hid fun W => among_any _ W
  have KE := Lib.hid either_any
  have KS : Hid (∀ q W, Tests W q W.heap.size → Calls Tryz.prog 77 #[.string s, .func (.func 94) #[] #[.pointer (some q)]] W (Bel (.int .i64 k) W)) := Lib.hid fun q W hT => by
    have := span_ei q pI s W (by omega) (Lib.hid fun W' hb c => either_call q c W' (by
      obtain ⟨a, r, t1, t2, t3, t4, t5, t6, t7, t8⟩ := hT
      have hs := hb.size
      exact ⟨a, r, by omega, by omega, by omega, (hb.cell t1).trans t4, (hb.cell t2).trans t5, (hb.cell (by rw [add_block]; exact t2)).trans t6, (hb.cell (by rw [add_block]; exact t2)).trans t7, (hb.cell t3).trans t8⟩))
    rwa [hk] at this
  have hle := sp_le pI s
  rw [hk] at hle
  have f3 : (k : Int) ≤ (s.size : Int) := by omega
  clear hk hL
  go_enter Tryz.func57, Tryz.ntmps57
  go_wp2_with (first
    | (go_at_call 75; refine (kl.out _).mono ?_; rintro e w1 ⟨rfl, hb1⟩)
    | (go_at_call 80; refine (KA.out _).mono ?_; rintro e w2 ⟨rfl, hq2, hz2, hb2⟩)
    | (go_at_call 78; refine (KE.out _ _).mono ?_; rintro e w3 ⟨rfl, hq3, hz3, hb3⟩)
    | (go_at_call 77; refine (KS.out _ _ ?_).mono ?_; (focus (exact tests_mk hq2 hz2 hq3 hb3)); rintro e w4 ⟨rfl, hb4⟩)
    | (go_at_call 76; refine (KN.out _).mono ?_; rintro e w5 ⟨rfl, hb5⟩; obtain ⟨q0, q1, q2, q3, q4, q5, q6⟩ := rest (w := w) (W := w5) (t := 61) (s0 := ⟨#[]⟩) (by repeat (first | (with_reducible exact Below.refl _ _) | (with_reducible assumption) | (with_reducible exact bel_box _) | (with_reducible refine bel_step ?_ (by with_reducible assumption)) | (with_reducible refine Below.drew ?_) | (with_reducible refine below_drewN ?_ _) | (with_reducible refine bel_alloc ?_ _)))))
  obtain ⟨k0, k1, k2⟩ := set3_cells q0 q1 q2 (.int .i64 a) (.string tx) (.int .i64 0)
  refine bodyPost_ret (v := .tuple #[.agg #[.int .i64 a, .string tx, .int .i64 0], .int .i64 m, .int .i64 e]) (by simp [results, Tryz.results57, go_sem, k0, k1, k2]) rfl ?_
  exact ⟨rfl, bel_set3 (by repeat (first | (with_reducible exact Below.refl _ _) | (with_reducible assumption) | (with_reducible exact bel_box _) | (with_reducible refine bel_step ?_ (by with_reducible assumption)) | (with_reducible refine Below.drew ?_) | (with_reducible refine below_drewN ?_ _) | (with_reducible refine bel_alloc ?_ _))) (Nat.le_refl _) _ _ _⟩
theorem first_num (s : ByteArray) (a : Int) (tx : ByteArray) (m e : Int) (w : World) (h1 : 1 ≤ s.size) (h9 : s.size ≤ 140737488351232) (hL : pL ((s[0].toNat : Nat) : Int) = false) (hG : pG ((s[0].toNat : Nat) : Int) = true) (k : Nat) (hk : sp pG s.data.toList = k) (KN : Hid (∀ W, Below w.heap.size w W → Calls Tryz.prog 81 #[.string (s.extract 0 k)] W (Bel (.tuple #[.agg #[.int .i64 a, .string tx, .int .i64 0], .int .i64 m, .int .i64 e]) W))) :
    Calls Tryz.prog 57 #[.string s] w (Bel (.tuple #[.agg #[.int .i64 a, .string tx, .int .i64 0], .int .i64 m, .int .i64 e]) w) := by
  have kl := Lib.hid (letter_any ((s[0].toNat : Nat) : Int))
  rw [hL] at kl
  have kd := Lib.hid (digit_any ((s[0].toNat : Nat) : Int))
  rw [hG] at kd
  have f2 : (0 : Int) < (s.size : Int) := by omega
  have KS : Hid (∀ W, Calls Tryz.prog 77 #[.string s, .func (.func 79) #[] #[]] W (Bel (.int .i64 k) W)) := Lib.hid fun W => by
    have := span_dg pG s W (by omega) (Lib.hid fun W' hb c => digit_any _ W')
    rwa [hk] at this
  have hle := sp_le pG s
  rw [hk] at hle
  have f3 : (k : Int) ≤ (s.size : Int) := by omega
  clear hk
  clear hL hG
  go_enter Tryz.func57, Tryz.ntmps57
  go_wp2_with (first
    | (go_at_call 75; refine (kl.out _).mono ?_; rintro e w1 ⟨rfl, hb1⟩)
    | (go_at_call 79; refine (kd.out _).mono ?_; rintro e w2 ⟨rfl, hb2⟩)
    | (go_at_call 77; refine (KS.out _).mono ?_; rintro e w4 ⟨rfl, hb4⟩)
    | (go_at_call 81; (with_reducible refine (KN.out _ ?_).mono ?_); (focus ((repeat (first | (with_reducible exact Below.refl _ _) | (with_reducible assumption) | (with_reducible exact bel_box _) | (with_reducible refine bel_step ?_ (by with_reducible assumption)) | (with_reducible refine Below.drew ?_) | (with_reducible refine below_drewN ?_ _) | (with_reducible refine bel_alloc ?_ _))); done)); rintro e w5 ⟨rfl, hb5⟩; obtain ⟨q0, q1, q2, q3, q4, q5, q6⟩ := rest (w := w) (W := w5) (t := 61) (s0 := ⟨#[]⟩) (by repeat (first | (with_reducible exact Below.refl _ _) | (with_reducible assumption) | (with_reducible exact bel_box _) | (with_reducible refine bel_step ?_ (by with_reducible assumption)) | (with_reducible refine Below.drew ?_) | (with_reducible refine below_drewN ?_ _) | (with_reducible refine bel_alloc ?_ _)))))
  obtain ⟨k0, k1, k2⟩ := set3_cells q0 q1 q2 (.int .i64 a) (.string tx) (.int .i64 0)
  refine bodyPost_ret (v := .tuple #[.agg #[.int .i64 a, .string tx, .int .i64 0], .int .i64 m, .int .i64 e]) (by simp [results, Tryz.results57, go_sem, k0, k1, k2]) rfl ?_
  exact ⟨rfl, bel_set3 (by repeat (first | (with_reducible exact Below.refl _ _) | (with_reducible assumption) | (with_reducible exact bel_box _) | (with_reducible refine bel_step ?_ (by with_reducible assumption)) | (with_reducible refine Below.drew ?_) | (with_reducible refine below_drewN ?_ _) | (with_reducible refine bel_alloc ?_ _))) (Nat.le_refl _) _ _ _⟩
theorem first_word (s : ByteArray) (a : Int) (tx : ByteArray) (m e : Int) (w : World) (h1 : 1 ≤ s.size) (h9 : s.size ≤ 140737488351232) (hL : pL ((s[0].toNat : Nat) : Int) = false) (hG : pG ((s[0].toNat : Nat) : Int) = false) (hQ : (((s[0].toNat : Nat) : Int) == 39) = true) (KN : Hid (∀ W, Calls Tryz.prog 82 #[.string s] W (Bel (.tuple #[.agg #[.int .i64 a, .string tx, .int .i64 0], .int .i64 m, .int .i64 e]) W))) :
    Calls Tryz.prog 57 #[.string s] w (Bel (.tuple #[.agg #[.int .i64 a, .string tx, .int .i64 0], .int .i64 m, .int .i64 e]) w) := by
  have kl := Lib.hid (letter_any ((s[0].toNat : Nat) : Int))
  rw [hL] at kl
  have kd := Lib.hid (digit_any ((s[0].toNat : Nat) : Int))
  rw [hG] at kd
  have f2 : (0 : Int) < (s.size : Int) := by omega
  clear hL hG
  go_enter Tryz.func57, Tryz.ntmps57
  go_wp2_with (first
    | (go_at_call 75; refine (kl.out _).mono ?_; rintro e w1 ⟨rfl, hb1⟩)
    | (go_at_call 79; refine (kd.out _).mono ?_; rintro e w2 ⟨rfl, hb2⟩)
    | (go_at_call 82; refine (KN.out _).mono ?_; rintro e w5 ⟨rfl, hb5⟩; obtain ⟨q0, q1, q2, q3, q4, q5, q6⟩ := rest (w := w) (W := w5) (t := 61) (s0 := ⟨#[]⟩) (by repeat (first | (with_reducible exact Below.refl _ _) | (with_reducible assumption) | (with_reducible exact bel_box _) | (with_reducible refine bel_step ?_ (by with_reducible assumption)) | (with_reducible refine Below.drew ?_) | (with_reducible refine below_drewN ?_ _) | (with_reducible refine bel_alloc ?_ _)))))
  obtain ⟨k0, k1, k2⟩ := set3_cells q0 q1 q2 (.int .i64 a) (.string tx) (.int .i64 0)
  refine bodyPost_ret (v := .tuple #[.agg #[.int .i64 a, .string tx, .int .i64 0], .int .i64 m, .int .i64 e]) (by simp [results, Tryz.results57, go_sem, k0, k1, k2]) rfl ?_
  exact ⟨rfl, bel_set3 (by repeat (first | (with_reducible exact Below.refl _ _) | (with_reducible assumption) | (with_reducible exact bel_box _) | (with_reducible refine bel_step ?_ (by with_reducible assumption)) | (with_reducible refine Below.drew ?_) | (with_reducible refine below_drewN ?_ _) | (with_reducible refine bel_alloc ?_ _))) (Nat.le_refl _) _ _ _⟩
theorem first_sym (s : ByteArray) (a : Int) (tx : ByteArray) (m e : Int) (w : World) (h1 : 1 ≤ s.size) (h9 : s.size ≤ 140737488351232) (hL : pL ((s[0].toNat : Nat) : Int) = false) (hG : pG ((s[0].toNat : Nat) : Int) = false) (hQ : (((s[0].toNat : Nat) : Int) == 39) = false) (KN : Hid (∀ W, Calls Tryz.prog 83 #[.string s] W (Bel (.tuple #[.agg #[.int .i64 a, .string tx, .int .i64 0], .int .i64 m, .int .i64 e]) W))) :
    Calls Tryz.prog 57 #[.string s] w (Bel (.tuple #[.agg #[.int .i64 a, .string tx, .int .i64 0], .int .i64 m, .int .i64 e]) w) := by
  have kl := Lib.hid (letter_any ((s[0].toNat : Nat) : Int))
  rw [hL] at kl
  have kd := Lib.hid (digit_any ((s[0].toNat : Nat) : Int))
  rw [hG] at kd
  have f2 : (0 : Int) < (s.size : Int) := by omega
  clear hL hG
  go_enter Tryz.func57, Tryz.ntmps57
  go_wp2_with (first
    | (go_at_call 75; refine (kl.out _).mono ?_; rintro e w1 ⟨rfl, hb1⟩)
    | (go_at_call 79; refine (kd.out _).mono ?_; rintro e w2 ⟨rfl, hb2⟩)
    | (go_at_call 83; refine (KN.out _).mono ?_; rintro e w5 ⟨rfl, hb5⟩; obtain ⟨q0, q1, q2, q3, q4, q5, q6⟩ := rest (w := w) (W := w5) (t := 61) (s0 := ⟨#[]⟩) (by repeat (first | (with_reducible exact Below.refl _ _) | (with_reducible assumption) | (with_reducible exact bel_box _) | (with_reducible refine bel_step ?_ (by with_reducible assumption)) | (with_reducible refine Below.drew ?_) | (with_reducible refine below_drewN ?_ _) | (with_reducible refine bel_alloc ?_ _)))))
  obtain ⟨k0, k1, k2⟩ := set3_cells q0 q1 q2 (.int .i64 a) (.string tx) (.int .i64 0)
  refine bodyPost_ret (v := .tuple #[.agg #[.int .i64 a, .string tx, .int .i64 0], .int .i64 m, .int .i64 e]) (by simp [results, Tryz.results57, go_sem, k0, k1, k2]) rfl ?_
  exact ⟨rfl, bel_set3 (by repeat (first | (with_reducible exact Below.refl _ _) | (with_reducible assumption) | (with_reducible exact bel_box _) | (with_reducible refine bel_step ?_ (by with_reducible assumption)) | (with_reducible refine Below.drew ?_) | (with_reducible refine below_drewN ?_ _) | (with_reducible refine bel_alloc ?_ _))) (Nat.le_refl _) _ _ _⟩
end Go.Proofs.YtfogkcccjemloaaGreatDoor
