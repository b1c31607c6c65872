/- gcd, fits and And of the reference. -/
import Derived.Test.YtimecbkfeennpaaBwBad
namespace Go.Proofs.Ytimecbkfeennpaa
set_option linter.unusedVariables false
set_option linter.unusedSimpArgs false
open Go.RowKit
set_option maxHeartbeats 400000 in
theorem rgcd_any (a b : Nat) (w : World) (ha : a ≤ 65536) (hb : b ≤ 65536) :
    Calls Try.prog 48 #[.int .i64 a, .int .i64 b] w (Drw (.int .i64 (Nat.gcd a b : Nat)) w) := by
  go_enter Try.func48, Try.ntmps48
  go_wp2
  go_loopw [0, 1] (fun x y wr => ∃ p q j : Nat, p ≤ 65536 ∧ q ≤ 65536 ∧ x = .int .i64 p ∧ y = .int .i64 q ∧ wr = w.drewN j ∧ Hid (Nat.gcd p q = Nat.gcd a b)) (fun _ y _ => (intOf y).toNat)
  case atStart => exact ⟨a, b, 0, ha, hb, rfl, rfl, rfl, rfl⟩
  case round =>
    obtain ⟨p, q, j, hp, hq, rfl, rfl, rfl, HG⟩ := hrel
    by_cases h0 : q = 0
    · have e0 : ((q : Int) != 0) = false := by simp [h0]
      have H0 := Lib.hid h0
      clear h0
      go_wp2
      go_ret
      exact ⟨ret_int (by rw [← HG.out, H0.out, Nat.gcd_zero_right]), _, rfl⟩
    · obtain ⟨m, hm⟩ : ∃ m, m = p % q := ⟨_, rfl⟩
      have em : (p : Int) % (q : Int) = (m : Int) := by rw [hm]; rfl
      have em2 : (p : Int).tmod (q : Int) = (m : Int) := by rw [hm]; rfl
      have eq0 : ¬ ((q : Int) = 0) := by omega
      have hlt : m < q := by rw [hm]; exact Nat.mod_lt _ (by omega)
      have HG2 : Hid (Nat.gcd q m = Nat.gcd a b) := by
        show _ = _
        rw [hm, Nat.gcd_comm q, ← Nat.gcd_rec, Nat.gcd_comm q p]
        exact HG.out
      have hq0 : ((q : Int) != 0) = true := by simp; omega
      clear hm
      go_wp2
      go_quiet (fail)
      go_wp2
      go_roundw
      case rel => exact ⟨q, m, _, hq, by omega, rfl, rfl, World.drewN_drewN _ _ _, HG2⟩
      case measure => simp [intOf]; omega
def FitsW (A B : Option Addr) (x y : List Bool) (w : World) (e : Ending) (w' : World) : Prop := ∃ A' B' c' d', e = .returned (.tuple #[.agg #[.slice A' (fit (x, y)).1.length c', .slice B' (fit (x, y)).2.length d'], .int .i64 (fitE (x, y))]) ∧ Rd w' w'.heap.size A' (bls (fit (x, y)).1) ∧ Rd w' w'.heap.size B' (bls (fit (x, y)).2) ∧ (fit (x, y)).1.length ≤ c' ∧ (fit (x, y)).2.length ≤ d' ∧ Below w.heap.size w w' ∧
  (∀ N, Nw N A (bls x) → Nw N A' (bls (fit (x, y)).1)) ∧ (∀ N, Nw N B (bls y) → Nw N B' (bls (fit (x, y)).2))
set_option maxHeartbeats 400000 in
theorem rfits_any (A B : Option Addr) (c d : Nat) (x y : List Bool) (w : World) (hA : Rd w w.heap.size A (bls x)) (hB : Rd w w.heap.size B (bls y)) (hx : x.length ≤ 65536) (hy : y.length ≤ 65536) (hc : x.length ≤ c) (hd : y.length ≤ d) :
    Calls Try.prog 49 #[.agg #[.slice A x.length c, .slice B y.length d]] w (FitsW A B x y w) := by
  have HA := Lib.hid hA
  have HB := Lib.hid hB
  clear hA hB
  by_cases hf : x.length + y.length ≤ 64
  · have e1 : fitE (x, y) = 0 := if_pos hf
    have e2 : fit (x, y) = (x, y) := if_pos hf
    unfold FitsW
    rw [e1, e2]
    clear e1 e2
    go_enter Try.func49, Try.ntmps49
    go_wp2
    have hr0 : ((w.alloc (.cells #[.slice A x.length c, .slice B y.length d] 24)).alloc (.cells #[.slice none 0 0, .slice none 0 0] 24)).cell? ⟨w.heap.size + 1, 0, none⟩ = some (.slice none 0 0) := by simp [go_sem]
    have hr1 : ((w.alloc (.cells #[.slice A x.length c, .slice B y.length d] 24)).alloc (.cells #[.slice none 0 0, .slice none 0 0] 24)).cell? ⟨w.heap.size + 1, 1, none⟩ = some (.slice none 0 0) := by simp [go_sem]
    obtain ⟨k0, k1⟩ := set2_cells hr0 hr1 (.slice A x.length c) (.slice B y.length d)
    refine bodyPost_ret (v := .tuple #[.agg #[.slice A x.length c, .slice B y.length d], .int .i64 0]) (by simp [results, Try.results49, go_sem, k0, k1]) rfl ?_
    exact ⟨A, B, c, d, rfl, HA.out.to (by repeat (first | (with_reducible exact Below.refl _ _) | (with_reducible assumption) | (with_reducible exact bel_box _) | (with_reducible refine bel_step ?_ (by with_reducible assumption)) | (with_reducible refine Below.drew ?_) | (with_reducible refine below_drewN ?_ _) | (with_reducible refine bel_alloc ?_ _))), HB.out.to (by repeat (first | (with_reducible exact Below.refl _ _) | (with_reducible assumption) | (with_reducible exact bel_box _) | (with_reducible refine bel_step ?_ (by with_reducible assumption)) | (with_reducible refine Below.drew ?_) | (with_reducible refine below_drewN ?_ _) | (with_reducible refine bel_alloc ?_ _))), hc, hd, (by repeat (first | (with_reducible exact Below.refl _ _) | (with_reducible assumption) | (with_reducible exact bel_box _) | (with_reducible refine bel_step ?_ (by with_reducible assumption)) | (with_reducible refine Below.drew ?_) | (with_reducible refine below_drewN ?_ _) | (with_reducible refine bel_alloc ?_ _))), fun _ h => h, fun _ h => h⟩
  · have e1 : fitE (x, y) = 3 := if_neg hf
    have e2 : fit (x, y) = ([], []) := if_neg hf
    unfold FitsW
    rw [e1, e2]
    clear e1 e2
    go_enter Try.func49, Try.ntmps49
    go_wp2
    have hr0 : ((w.alloc (.cells #[.slice A x.length c, .slice B y.length d] 24)).alloc (.cells #[.slice none 0 0, .slice none 0 0] 24)).cell? ⟨w.heap.size + 1, 0, none⟩ = some (.slice none 0 0) := by simp [go_sem]
    have hr1 : ((w.alloc (.cells #[.slice A x.length c, .slice B y.length d] 24)).alloc (.cells #[.slice none 0 0, .slice none 0 0] 24)).cell? ⟨w.heap.size + 1, 1, none⟩ = some (.slice none 0 0) := by simp [go_sem]
    obtain ⟨k0, k1⟩ := set2_cells hr0 hr1 (.slice none 0 0) (.slice none 0 0)
    refine bodyPost_ret (v := .tuple #[.agg #[.slice none 0 0, .slice none 0 0], .int .i64 3]) (by simp [results, Try.results49, go_sem, k0, k1]) rfl ?_
    exact ⟨none, none, 0, 0, rfl, Rd.nil _ _ _, Rd.nil _ _ _, Nat.zero_le _, Nat.zero_le _, (by repeat (first | (with_reducible exact Below.refl _ _) | (with_reducible assumption) | (with_reducible exact bel_box _) | (with_reducible refine bel_step ?_ (by with_reducible assumption)) | (with_reducible refine Below.drew ?_) | (with_reducible refine below_drewN ?_ _) | (with_reducible refine bel_alloc ?_ _))), fun _ _ => Nw.nil _ _, fun _ _ => Nw.nil _ _⟩
/-- fits, of what is new -/
theorem rfits_new (A B : Option Addr) (c d : Nat) (x y : List Bool) (w : World) (hA : Rd w w.heap.size A (bls x)) (hB : Rd w w.heap.size B (bls y)) (hx : x.length ≤ 65536) (hy : y.length ≤ 65536) (hc : x.length ≤ c) (hd : y.length ≤ d) (N : Nat) (nA : Nw N A (bls x)) (nB : Nw N B (bls y)) :
    Calls Try.prog 49 #[.agg #[.slice A x.length c, .slice B y.length d]] w (fun e w' => ∃ A' B' c' d', e = .returned (.tuple #[.agg #[.slice A' (fit (x, y)).1.length c', .slice B' (fit (x, y)).2.length d'], .int .i64 (fitE (x, y))]) ∧ Rd w' w'.heap.size A' (bls (fit (x, y)).1) ∧ Rd w' w'.heap.size B' (bls (fit (x, y)).2) ∧ (fit (x, y)).1.length ≤ c' ∧ (fit (x, y)).2.length ≤ d' ∧ Below w.heap.size w w' ∧ Nw N A' (bls (fit (x, y)).1) ∧ Nw N B' (bls (fit (x, y)).2)) := by
  refine (rfits_any A B c d x y w hA hB hx hy hc hd).mono ?_
  rintro e w' ⟨A', B', c', d', h1, h2, h3, h4, h5, h6, h7, h8⟩
  exact ⟨A', B', c', d', h1, h2, h3, h4, h5, h6, h7 N nA, h8 N nB⟩
end Go.Proofs.Ytimecbkfeennpaa
