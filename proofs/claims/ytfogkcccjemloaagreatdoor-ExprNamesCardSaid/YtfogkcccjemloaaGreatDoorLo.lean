/- Ident of both. -/
import Derived.Test.YtfogkcccjemloaaGreatDoorLn
namespace Go.Proofs.YtfogkcccjemloaaGreatDoor
set_option linter.unusedVariables false
set_option linter.unusedSimpArgs false
open Go.RowKit
def idP (s : ByteArray) : Bool := decide (0 < s.size) && ((fst s).1 == 1 && ((((fst s).2.2.1 : Nat) : Int) == (s.size : Int)))
theorem empty_of {s : ByteArray} (h : s.size = 0) : s = ⟨#[]⟩ := by
  apply ByteArray.ext
  exact Array.eq_empty_of_size_eq_zero h
theorem ne_facts {s : ByteArray} (h : 0 < s.size) : (s.toList == []) = false ∧ s.toList.isEmpty = false ∧ ¬ s.toList = [] := by
  have hn : s.toList ≠ [] := by
    intro e
    have := congrArg List.length e
    rw [ByteArray.toList_eq, len_toList] at this
    have h2 : s.size = 0 := this
    omega
  exact ⟨by simpa using hn, by simpa using hn, hn⟩
set_option maxHeartbeats 800000 in
theorem ident_any (s : ByteArray) (w : World) (hstd : Std w) (h9 : s.size ≤ 140737488351232) : Calls Tryz.prog 35 #[.string s] w (Bel (.bool (idP s)) w) := by
  by_cases h0 : 0 < s.size
  · obtain ⟨e1, e2, e3⟩ := ne_facts h0
    have F1 := Lib.hid (first_any s w hstd h0 h9)
    have e : idP s = ((fst s).1 == 1 && ((((fst s).2.2.1 : Nat) : Int) == (s.size : Int))) := by rw [idP, decide_eq_true h0, Bool.true_and]
    rw [e]
    clear e
    obtain ⟨⟨a, tx, n, er⟩, hf⟩ : ∃ f, fst s = f := ⟨_, rfl⟩
    rw [hf] at F1 ⊢
    have F2 : Hid (Calls Tryz.prog 57 #[.string s] w (Bel (.tuple #[.agg #[.int .i64 a, .string tx, .int .i64 0], .int .i64 n, .int .i64 er]) w)) := F1
    show Calls _ _ _ _ (Bel (.bool (a == 1 && ((n : Int) == (s.size : Int)))) w)
    clear F1 hf h0 hstd h9
    cases ha : (a == 1)
    · rw [Bool.false_and]
      go_enter Tryz.func35, Tryz.ntmps35
      go_wp2_with (go_at_call 57; refine F2.out.mono ?_; rintro e w1 ⟨rfl, hb1⟩)
      go_ret
      exact ⟨rfl, (by repeat (first | (with_reducible exact Below.refl _ _) | (with_reducible assumption) | (with_reducible exact bel_box _) | (with_reducible refine bel_step ?_ (by with_reducible assumption)) | (with_reducible refine Below.drew ?_) | (with_reducible refine below_drewN ?_ _) | (with_reducible refine bel_alloc ?_ _)))⟩
    · rw [Bool.true_and]
      go_enter Tryz.func35, Tryz.ntmps35
      go_wp2_with (go_at_call 57; refine F2.out.mono ?_; rintro e w1 ⟨rfl, hb1⟩)
      go_ret
      exact ⟨rfl, (by repeat (first | (with_reducible exact Below.refl _ _) | (with_reducible assumption) | (with_reducible exact bel_box _) | (with_reducible refine bel_step ?_ (by with_reducible assumption)) | (with_reducible refine Below.drew ?_) | (with_reducible refine below_drewN ?_ _) | (with_reducible refine bel_alloc ?_ _)))⟩
  · obtain rfl := empty_of (by omega : s.size = 0)
    rw [idP, decide_eq_false h0, Bool.false_and]
    clear hstd h9 h0
    go_enter Tryz.func35, Tryz.ntmps35
    go_wp2
    go_ret
    exact ⟨rfl, (by repeat (first | (with_reducible exact Below.refl _ _) | (with_reducible assumption) | (with_reducible exact bel_box _) | (with_reducible refine bel_step ?_ (by with_reducible assumption)) | (with_reducible refine Below.drew ?_) | (with_reducible refine below_drewN ?_ _) | (with_reducible refine bel_alloc ?_ _)))⟩
def idR (s : ByteArray) : Bool := decide (0 < s.size) && decide (s.size ≤ 40) && decide (sp pI s.data.toList = s.size) && pL (((s.data.toList.headD 0).toNat : Nat) : Int) && !isKw s
set_option maxHeartbeats 800000 in
theorem rident_any (s : ByteArray) (w : World) (h9 : s.size ≤ 140737488351232) : Calls Tryz.prog 44 #[.string s] w (Bel (.bool (idR s)) w) := by
  by_cases h0 : 0 < s.size
  · obtain ⟨e1, e2, e3⟩ := ne_facts h0
    by_cases h40 : s.size ≤ 40
    · have hh : (s.data.toList.headD 0) = s[0] := by
        have := byte_get s 0 h0
        rcases hl : s.data.toList with _ | ⟨c, r⟩
        · rw [hl] at this; cases this
        · rw [hl] at this; simpa using this
      have e : idR s = (decide (sp pI s.data.toList = s.size) && pL ((s[0].toNat : Nat) : Int) && !isKw s) := by rw [idR, decide_eq_true h0, decide_eq_true h40, hh]; simp
      rw [e]
      clear e hh
      have f0 : (0 : Int) < (s.size : Int) := by omega
      have f1 : (s.size : Int) ≤ 40 := by omega
      have kl := Lib.hid (rletter_any ((s[0].toNat : Nat) : Int))
      have kk := Lib.hid (rkeyword_any s)
      have HA := Lib.hid (fun j => @sp_at pI s j)
      have HE := Lib.hid (@sp_end pI s)
      have hle := sp_le pI s
      generalize sp pI s.data.toList = m at *
      generalize isKw s = b at *
      cases hL : pL ((s[0].toNat : Nat) : Int)
      · rw [hL] at kl
        rw [Bool.and_false, Bool.false_and]
        go_enter Tryz.func44, Tryz.ntmps44
        go_wp2_with (go_at_call 70; refine (kl.out _).mono ?_; rintro e w1 ⟨rfl, hb1⟩)
        go_ret
        exact ⟨rfl, (by repeat (first | (with_reducible exact Below.refl _ _) | (with_reducible assumption) | (with_reducible exact bel_box _) | (with_reducible refine bel_step ?_ (by with_reducible assumption)) | (with_reducible refine Below.drew ?_) | (with_reducible refine below_drewN ?_ _) | (with_reducible refine bel_alloc ?_ _)))⟩
      · rw [hL] at kl
        rw [Bool.and_true]
        clear hL
        go_enter Tryz.func44, Tryz.ntmps44
        go_wp2_with (go_at_call 70; refine (kl.out _).mono ?_; rintro e w1 ⟨rfl, hb1⟩)
        go_loopw [3] (fun i wr => ∃ j : Nat, j ≤ m ∧ i = .int .i64 j ∧ Below w.heap.size w wr) (fun i _ => m - (intOf i).toNat)
        case atStart => exact ⟨0, by omega, rfl, (by repeat (first | (with_reducible exact Below.refl _ _) | (with_reducible assumption) | (with_reducible exact bel_box _) | (with_reducible refine bel_step ?_ (by with_reducible assumption)) | (with_reducible refine Below.drew ?_) | (with_reducible refine below_drewN ?_ _) | (with_reducible refine bel_alloc ?_ _)))⟩
        case round =>
          obtain ⟨j, hjm, rfl, hbl⟩ := hrel
          by_cases hlt : j < m
          · have hj : j < s.size := by omega
            have e4 := HA.out j hlt hj
            go_wp2_with (go_at_call 71; refine (inner_any _ _).mono ?_; rintro e w2 ⟨rfl, hb2⟩; rw [e4])
            go_roundw
            case rel => exact ⟨j + 1, by omega, by go_num, (by repeat (first | (with_reducible exact Below.refl _ _) | (with_reducible assumption) | (with_reducible exact bel_box _) | (with_reducible refine bel_step ?_ (by with_reducible assumption)) | (with_reducible refine Below.drew ?_) | (with_reducible refine below_drewN ?_ _) | (with_reducible refine bel_alloc ?_ _)))⟩
            case measure => simp [intOf]; omega
          · obtain rfl : j = m := by omega
            by_cases hj : j < s.size
            · have e4 := HE.out hj
              have q : decide (j = s.size) = false := decide_eq_false (by omega)
              rw [q, Bool.false_and]
              clear q
              go_wp2_with (go_at_call 71; refine (inner_any _ _).mono ?_; rintro e w2 ⟨rfl, hb2⟩; rw [e4])
              go_ret
              exact ⟨rfl, (by repeat (first | (with_reducible exact Below.refl _ _) | (with_reducible assumption) | (with_reducible exact bel_box _) | (with_reducible refine bel_step ?_ (by with_reducible assumption)) | (with_reducible refine Below.drew ?_) | (with_reducible refine below_drewN ?_ _) | (with_reducible refine bel_alloc ?_ _)))⟩
            · have q : decide (j = s.size) = true := decide_eq_true (by omega)
              have Q := Lib.hid q
              clear q
              go_wp2_with (go_at_call 72; refine (kk.out _).mono ?_; rintro e w3 ⟨rfl, hb3⟩)
              go_ret
              exact ⟨by rw [Q.out, Bool.true_and]; rfl, (by repeat (first | (with_reducible exact Below.refl _ _) | (with_reducible assumption) | (with_reducible exact bel_box _) | (with_reducible refine bel_step ?_ (by with_reducible assumption)) | (with_reducible refine Below.drew ?_) | (with_reducible refine below_drewN ?_ _) | (with_reducible refine bel_alloc ?_ _)))⟩
    · have e : idR s = false := by rw [idR, decide_eq_false h40, Bool.and_false, Bool.false_and, Bool.false_and, Bool.false_and]
      rw [e]
      have f1 : (40 : Int) < (s.size : Int) := by omega
      clear e h40 h9 h0
      go_enter Tryz.func44, Tryz.ntmps44
      go_wp2
      go_ret
      exact ⟨rfl, (by repeat (first | (with_reducible exact Below.refl _ _) | (with_reducible assumption) | (with_reducible exact bel_box _) | (with_reducible refine bel_step ?_ (by with_reducible assumption)) | (with_reducible refine Below.drew ?_) | (with_reducible refine below_drewN ?_ _) | (with_reducible refine bel_alloc ?_ _)))⟩
  · obtain rfl := empty_of (by omega : s.size = 0)
    rw [idR, decide_eq_false h0, Bool.false_and, Bool.false_and, Bool.false_and, Bool.false_and]
    clear h9 h0
    go_enter Tryz.func44, Tryz.ntmps44
    go_wp2
    go_ret
    exact ⟨rfl, (by repeat (first | (with_reducible exact Below.refl _ _) | (with_reducible assumption) | (with_reducible exact bel_box _) | (with_reducible refine bel_step ?_ (by with_reducible assumption)) | (with_reducible refine Below.drew ?_) | (with_reducible refine below_drewN ?_ _) | (with_reducible refine bel_alloc ?_ _)))⟩
end Go.Proofs.YtfogkcccjemloaaGreatDoor
