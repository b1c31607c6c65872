/- repeats and period of package bword, and repeats of the reference. -/
import Derived.Test.YtlpigdekjkpnpaaDoorNf
namespace Go.Proofs.YtlpigdekjkpnpaaDoor
set_option linter.unusedVariables false
set_option linter.unusedSimpArgs false
open Go.RowKit
def Drw (v : Value) (w : World) (e : Ending) (w' : World) : Prop := e = .returned v ∧ ∃ k, w' = w.drewN k
def gb (l : List Bool) (i : Nat) : Bool := l[i]?.getD false
def repTo (l : List Bool) (n k : Nat) : Bool := (List.range k).all fun i => gb l i == gb l (i + n)
def repB (l : List Bool) (n : Nat) : Bool := repTo l n (l.length - n)
theorem repTo_succ (l : List Bool) (n k : Nat) : repTo l n (k + 1) = (repTo l n k && (gb l k == gb l (k + n))) := by simp [repTo, List.range_succ]
theorem repTo_false {l : List Bool} {n k m : Nat} (hk : k < m) (h : (gb l k == gb l (k + n)) = false) : repTo l n m = false := by
  rw [repTo, List.all_eq_false]
  exact ⟨k, List.mem_range.2 hk, by simpa using h⟩
theorem gb_of {l : List Bool} {i : Nat} {b : Bool} (h : l[i]? = some b) : gb l i = b := by rw [gb, h]; rfl
set_option maxHeartbeats 400000 in
theorem repeats_any (A : Option Addr) (c n : Nat) (l : List Bool) (w : World) (hA : Rd w w.heap.size A (bls l)) (hl : l.length ≤ 140737488355328) (hn : n ≤ l.length) :
    Calls Tryd.prog 43 #[.slice A l.length c, .int .i64 n] w (Drw (.bool (repB l n)) w) := by
  have HA := Lib.hid hA
  clear hA
  have ec : ((l.length : Int) - (n : Int)) = ((l.length - n : Nat) : Int) := by omega
  obtain ⟨M, hM⟩ : ∃ M, M = l.length - n := ⟨_, rfl⟩
  rw [repB]
  rw [← hM] at ec ⊢
  have hM2 : M + n ≤ l.length := by omega
  have HM := Lib.hid hM
  clear hM
  go_enter Tryd.func43, Tryd.ntmps43
  go_wp2
  go_loopw [10] (fun i wr => ∃ k j : Nat, k ≤ M ∧ i = .int .i64 k ∧ wr = w.drewN j ∧ Hid (repTo l n k = true)) (fun i _ => M - (intOf i).toNat)
  case atStart => exact ⟨0, 0, by omega, rfl, rfl, rfl⟩
  case round =>
    obtain ⟨k, j, hk, rfl, rfl, HT⟩ := hrel
    by_cases hlt : k < M
    · obtain ⟨ad, b, rfl, _, hx, hc⟩ := HA.out.bool_at (show k < l.length by omega)
      obtain ⟨ad', b', he, _, hy, hc'⟩ := HA.out.bool_at (show k + n < l.length by omega)
      cases he
      have HX := Lib.hid (gb_of hx)
      have HY := Lib.hid (gb_of hy)
      clear hx hy
      have e1 : IntKind.i64.wrap ((k : Int) + (n : Int)) = ((k + n : Nat) : Int) := by rw [IntWalk.i64_in _ (by omega)]; omega
      have e2 : ((k : Int) + (n : Int)).toNat = k + n := by omega
      have e3 : (k : Int) + (n : Int) < (l.length : Int) := by omega
      go_wp2
      go_quiet (fail)
      go_wp2
      · go_ret
        refine ⟨ret_bool ?_, _, World.drewN_drewN _ _ _⟩
        symm
        apply repTo_false hlt
        rw [HX.out, HY.out]
        simpa using (by assumption : (!b == b') = true)
      · go_roundw
        case rel => exact ⟨k + 1, _, by omega, by go_num, rfl, by show _ = _; rw [repTo_succ, HT.out, HX.out, HY.out]; simpa using (by assumption : (!b == b') = false)⟩
        case measure => simp [intOf]; omega
    · go_wp2
      go_ret
      exact ⟨ret_bool (by rw [show M = k by omega, HT.out]), _, rfl⟩
/-- the period of a loop -/
def pl (l : List Bool) : Nat := pOf (lt [] l) 0 l.length
theorem lt_nil (l : List Bool) (i : Nat) : lt [] l i = gb l (i % l.length) := by simp [lt, gb]
theorem rep_mod {l : List Bool} {n : Nat} (hn : 0 < n) (hr : ∀ j, j < l.length - n → gb l j = gb l (j + n)) : ∀ m j, j ≤ m → j < l.length → gb l j = gb l (j % n) := by
  intro m
  induction m with
  | zero => intro j h1 h2; obtain rfl : j = 0 := by omega
            simp
  | succ m ih =>
    intro j h1 h2
    rcases Nat.lt_or_ge j n with h | h
    · rw [Nat.mod_eq_of_lt h]
    · have h3 := hr (j - n) (by omega)
      rw [show j - n + n = j by omega] at h3
      rw [← h3, ih (j - n) (by omega) (by omega), Nat.mod_eq_sub_mod h]
theorem tP_rep {l : List Bool} {n : Nat} (hn : 0 < n) (hnl : n < l.length) : tP (lt [] l) 0 l.length n = (l.length % n == 0 && repB l n) := by
  rw [tP]
  by_cases hd : l.length % n = 0
  · simp only [hd, beq_self_eq_true, Bool.true_and]
    rw [Bool.eq_iff_iff, allB_iff, repB, repTo, List.all_eq_true]
    simp only [lt_nil, Nat.zero_add, List.mem_range, beq_iff_eq]
    constructor
    · intro hh j hj
      have := hh j (by omega)
      rwa [Nat.mod_eq_of_lt (by omega), Nat.mod_eq_of_lt (by omega)] at this
    · intro hh j hj
      have e1 := rep_mod hn hh (j % l.length) (j % l.length) (Nat.le_refl _) (Nat.mod_lt _ (by omega))
      have e2 := rep_mod hn hh ((j + n) % l.length) ((j + n) % l.length) (Nat.le_refl _) (Nat.mod_lt _ (by omega))
      rw [e1, e2, Nat.mod_mod_of_dvd _ (Nat.dvd_of_mod_eq_zero hd), Nat.mod_mod_of_dvd _ (Nat.dvd_of_mod_eq_zero hd), Nat.add_mod_right]
  · have h2 : (l.length % n == 0) = false := by simpa using hd
    simp only [h2, Bool.false_and]
theorem pl_spec {l : List Bool} (h0 : 0 < l.length) : 0 < pl l ∧ pl l ≤ l.length := by
  have := pOf_spec (per_lt [] l) h0
  exact ⟨this.1, this.2.1⟩
theorem findP_succ (t : Nat → Bool) (n p : Nat) : findP t (n + 1) p = if t p then p else findP t n (p + 1) := rfl
set_option maxHeartbeats 600000 in
theorem period_any (A : Option Addr) (c : Nat) (l : List Bool) (w : World) (hA : Rd w w.heap.size A (bls l)) (hl : l.length ≤ 140737488355328) (h0 : 0 < l.length) :
    Calls Tryd.prog 33 #[.slice A l.length c] w (Drw (.int .i64 (pl l : Nat)) w) := by
  have HA := Lib.hid hA
  clear hA
  go_enter Tryd.func33, Tryd.ntmps33
  go_wp2
  go_loopw [3] (fun i wr => ∃ k j : Nat, 1 ≤ k ∧ k ≤ l.length ∧ i = .int .i64 k ∧ wr = w.drewN j ∧ Hid (findP (tP (lt [] l) 0 l.length) (l.length + 1 - k) k = pl l)) (fun i _ => l.length - (intOf i).toNat)
  case atStart => exact ⟨1, 0, by omega, by omega, rfl, rfl, by show _ = _; rw [pl, pOf]; rfl⟩
  case round =>
    obtain ⟨k, j, hk1, hk, rfl, rfl, HT⟩ := hrel
    by_cases hlt : k < l.length
    · obtain ⟨m, hmm⟩ : ∃ m, m = l.length % k := ⟨_, rfl⟩
      have e1 : (l.length : Int) % (k : Int) = (m : Int) := by rw [hmm]; rfl
      by_cases hm : l.length % k = 0
      · have hm1 : ((m : Int) == 0) = true := by simp [hmm, hm]
        clear hmm
        have HM := Lib.hid hm
        clear hm
        obtain ⟨b, hb⟩ : ∃ b, repB l k = b := ⟨_, rfl⟩
        have rep := Lib.hid (repeats_any A c k l)
        rw [hb] at rep
        have ht := tP_rep hk1 hlt
        rw [hb, HM.out] at ht
        have HTT := Lib.hid ht
        clear ht hb
        cases b
        · go_wp2_with (go_at_call 43; refine (rep.out _ (HA.out.to (by repeat (first | (with_reducible exact Below.refl _ _) | (with_reducible assumption) | (with_reducible exact bel_box _) | (with_reducible refine bel_step ?_ (by with_reducible assumption)) | (with_reducible refine Below.drew ?_) | (with_reducible refine below_drewN ?_ _) | (with_reducible refine bel_alloc ?_ _)))) hl hk).mono ?_; rintro e w' ⟨rfl, n, rfl⟩)
          go_roundw
          case rel =>
            refine ⟨k + 1, _, by omega, by omega, by go_num, rfl, ?_⟩
            show _ = _
            rw [← HT.out, show l.length + 1 - k = l.length + 1 - (k + 1) + 1 by omega]
            rw [findP_succ, HTT.out]
            rfl
          case measure => simp [intOf]; omega
        · go_wp2_with (go_at_call 43; refine (rep.out _ (HA.out.to (by repeat (first | (with_reducible exact Below.refl _ _) | (with_reducible assumption) | (with_reducible exact bel_box _) | (with_reducible refine bel_step ?_ (by with_reducible assumption)) | (with_reducible refine Below.drew ?_) | (with_reducible refine below_drewN ?_ _) | (with_reducible refine bel_alloc ?_ _)))) hl hk).mono ?_; rintro e w' ⟨rfl, n, rfl⟩)
          go_ret
          refine ⟨ret_int ?_, _, rfl⟩
          rw [← HT.out, show l.length + 1 - k = l.length + 1 - (k + 1) + 1 by omega]
          rw [findP_succ, HTT.out]
          rfl
      · have hm1 : ((m : Int) == 0) = false := by simp only [beq_eq_false_iff_ne, ne_eq]; omega
        clear hmm
        have ht := tP_rep hk1 hlt
        have hm2 : (l.length % k == 0) = false := by simpa using hm
        rw [hm2, Bool.false_and] at ht
        have HTT := Lib.hid ht
        clear ht hm hm2
        go_wp2
        go_roundw
        case rel =>
          refine ⟨k + 1, _, by omega, by omega, by go_num, rfl, ?_⟩
          show _ = _
          rw [← HT.out, show l.length + 1 - k = l.length + 1 - (k + 1) + 1 by omega]
          rw [findP_succ, HTT.out]
          rfl
        case measure => simp [intOf]; omega
    · go_wp2
      go_ret
      obtain rfl : k = l.length := by omega
      refine ⟨ret_int ?_, _, rfl⟩
      rw [← HT.out, show l.length + 1 - l.length = 1 by omega]
      have hs := tP_self (per_lt [] l)
      rw [List.length_nil] at hs
      rw [findP_succ, hs]
      rfl
end Go.Proofs.YtlpigdekjkpnpaaDoor
