/- valid. -/
import Derived.Test.YtahffafobdiogaaDoorKgg
namespace Go.Proofs.YtahffafobdiogaaDoor
set_option linter.unusedVariables false
set_option linter.unusedSimpArgs false
open Go.RowKit
namespace gr
def bad (n : Int) (e : Int × Int) : Bool := decide (min e.1 e.2 < 0) || decide (n ≤ max e.1 e.2)
set_option maxHeartbeats 1000000 in
theorem valid1_any (n f t : Int) (bn : Nat) (W : World) (hc : W.cell? ⟨bn, 0, none⟩ = some (.int .i64 n)) : Calls Tryd.prog 48 #[.agg #[.int .i64 f, .int .i64 t], .pointer (some ⟨bn, 0, none⟩)] W fun e w' => e = .returned (.bool (bad n (f, t))) ∧ Below W.heap.size W w' := by
  have hc2 := cell_al (.cells #[.int .i64 f, .int .i64 t] 40) hc
  unfold bad
  simp only
  by_cases h : min f t < 0
  · rw [decide_eq_true h]
    go_enter Tryd.func48, Tryd.ntmps48
    go_wp2
    go_ret
    exact ⟨by simp, bel_box _⟩
  · rw [decide_eq_false h]
    go_enter Tryd.func48, Tryd.ntmps48
    go_wp2
    go_ret
    exact ⟨by simp, bel_box _⟩
def badI (n : Int) (es : List (Int × Int)) : Bool := es.any (bad n)
set_option maxHeartbeats 2000000 in
theorem indexF_any (n : Int) (bn : Nat) (A : Option Addr) (c : Nat) (es : List (Int × Int)) (hl : es.length ≤ 1048576) (w : World) (hE : RdE w w.heap.size A es) (hc : w.cell? ⟨bn, 0, none⟩ = some (.int .i64 n)) :
    Calls Tryd.prog 63 #[.slice A es.length c, .func (.func 48) #[] #[.pointer (some ⟨bn, 0, none⟩)]] w fun e w' => (∃ r : Int, e = .returned (.int .i64 r) ∧ decide (0 ≤ r) = badI n es) ∧ Below w.heap.size w w' := by
  have HE := Lib.hid hE
  have hbn : bn < w.heap.size := World.block_lt_of_cell? w _ hc
  have HC := Lib.hid (fun W f t (hb : Below w.heap.size w W) => valid1_any n f t bn W ((hb.cell (p := ⟨bn, 0, none⟩) hbn).trans hc))
  clear hE hc
  go_enter Tryd.func63, Tryd.ntmps63
  go_wp2
  go_loopw [8] (fun i wr => ∃ k : Nat, k ≤ es.length ∧ i = .int .i64 (k : Int) ∧ Below w.heap.size w wr ∧ Hid (badI n (es.take k) = false)) (fun i _ => es.length - (intOf i).toNat)
  case atStart => exact ⟨0, by omega, rfl, Below.refl _ _, Lib.hid rfl⟩
  case round =>
    obtain ⟨k, hk, rfl, hbl, hz⟩ := hrel
    by_cases hlt : k < es.length
    · obtain ⟨ad, f, t, rfl, had, hg, c0, c1⟩ := (HE.out.below hbl).at_ hlt
      have hcl := Lib.hid (HC.out wr f t hbl)
      have HT : Hid (badI n (es.take (k + 1)) = bad n (f, t)) := Lib.hid (by
        rw [take_succ_of hg]
        unfold badI at hz ⊢
        rw [List.any_append, hz.out]
        simp)
      have HA : Hid (bad n (f, t) = true → badI n es = true) := Lib.hid fun h => List.any_eq_true.2 ⟨_, List.mem_of_getElem? hg, h⟩
      clear hg
      cases hq : bad n (f, t) with
      | true =>
        have HA2 := Lib.hid (HA.out hq)
        rw [hq] at hcl
        clear hq HA
        go_wp2_with (go_at_call 48; refine hcl.out.mono ?_; rintro e w1 ⟨rfl, hb1⟩)
        go_ret
        exact ⟨⟨_, rfl, by rw [HA2.out]; simp⟩, (by repeat (first | (with_reducible exact Below.refl _ _) | (with_reducible assumption) | (with_reducible exact bel_box _) | (with_reducible refine bel_step ?_ (by with_reducible assumption)) | (with_reducible refine Below.drew ?_) | (with_reducible refine below_drewN ?_ _) | (with_reducible refine bel_alloc ?_ _)))⟩
      | false =>
        rw [hq] at hcl HT
        clear hq
        go_wp2_with (go_at_call 48; refine hcl.out.mono ?_; rintro e w1 ⟨rfl, hb1⟩)
        exact ⟨⟨k + 1, by omega, by congr 1, (by repeat (first | (with_reducible exact Below.refl _ _) | (with_reducible assumption) | (with_reducible exact bel_box _) | (with_reducible refine bel_step ?_ (by with_reducible assumption)) | (with_reducible refine Below.drew ?_) | (with_reducible refine below_drewN ?_ _) | (with_reducible refine bel_alloc ?_ _))), HT⟩, by simp [intOf]; omega⟩
    · obtain rfl : k = es.length := by omega
      rw [List.take_length] at hz
      go_wp2
      go_ret
      exact ⟨⟨_, rfl, by rw [hz.out]; rfl⟩, hbl⟩
set_option maxHeartbeats 2000000 in
theorem containsF_any (n : Int) (bn : Nat) (A : Option Addr) (c : Nat) (es : List (Int × Int)) (hl : es.length ≤ 1048576) (w : World) (hE : RdE w w.heap.size A es) (hc : w.cell? ⟨bn, 0, none⟩ = some (.int .i64 n)) :
    Calls Tryd.prog 47 #[.slice A es.length c, .func (.func 48) #[] #[.pointer (some ⟨bn, 0, none⟩)]] w fun e w' => e = .returned (.bool (badI n es)) ∧ Below w.heap.size w w' := by
  have HC := Lib.hid (indexF_any n bn A c es hl w hE hc)
  clear hE hc
  go_enter Tryd.func47, Tryd.ntmps47
  go_wp2_with (go_at_call 63; refine HC.out.mono ?_; rintro e w1 ⟨⟨r, rfl, hr⟩, hb1⟩)
  go_ret
  exact ⟨by rw [← hr]; rfl, hb1⟩
/-- are these the edges of a graph -/
def valB (n : Int) (es : List (Int × Int)) : Bool := (decide (0 ≤ n) && decide (n ≤ 4096)) && !badI n es
set_option maxHeartbeats 2000000 in
theorem valid_any (n : Int) (A : Option Addr) (c : Nat) (es : List (Int × Int)) (hl : es.length ≤ 1048576) (w : World) (hE : RdE w w.heap.size A es) :
    Calls Tryd.prog 23 #[.int .i64 n, .slice A es.length c] w fun e w' => e = .returned (.bool (valB n es)) ∧ Below w.heap.size w w' := by
  have HC := Lib.hid (containsF_any n w.heap.size A c es hl (w.alloc (.cells #[.int .i64 n] 3)) ((hE.below (bel_box _)).more' (by simp)) (by simp))
  clear hE
  unfold valB
  generalize badI n es = b at *
  by_cases h0 : n < 0
  · rw [decide_eq_false (by omega)]
    go_enter Tryd.func23, Tryd.ntmps23
    go_wp2
    go_ret
    exact ⟨by simp, bel_box _⟩
  · rw [decide_eq_true (by omega : 0 ≤ n)]
    by_cases h1 : 4096 < n
    · rw [decide_eq_false (by omega)]
      go_enter Tryd.func23, Tryd.ntmps23
      go_wp2
      go_ret
      exact ⟨by simp, bel_box _⟩
    · rw [decide_eq_true (by omega : n ≤ 4096)]
      go_enter Tryd.func23, Tryd.ntmps23
      go_wp2_with (go_at_call 47; refine HC.out.mono ?_; rintro e w1 ⟨rfl, hb1⟩)
      go_ret
      exact ⟨by simp, (by repeat (first | (with_reducible exact Below.refl _ _) | (with_reducible assumption) | (with_reducible exact bel_box _) | (with_reducible refine bel_step ?_ (by with_reducible assumption)) | (with_reducible refine Below.drew ?_) | (with_reducible refine below_drewN ?_ _) | (with_reducible refine bel_alloc ?_ _)))⟩
theorem valB_nat {n : Int} {es : List (Int × Int)} (h : valB n es = true) : ∃ (m : Nat) (ns : List (Nat × Nat)), n = (m : Int) ∧ m ≤ 4096 ∧ es = eN ns ∧ ∀ e ∈ ns, e.1 < m ∧ e.2 < m := by
  unfold valB badI at h
  simp only [Bool.and_eq_true, decide_eq_true_eq, Bool.not_eq_true', List.any_eq_false] at h
  obtain ⟨⟨h0, h1⟩, h2⟩ := h
  obtain ⟨m, rfl⟩ := Int.eq_ofNat_of_zero_le h0
  have h3 : ∀ e ∈ es, 0 ≤ e.1 ∧ e.1 < (m : Int) ∧ 0 ≤ e.2 ∧ e.2 < (m : Int) := fun e he => by
    have := h2 e he
    unfold bad at this
    simp only [Bool.or_eq_true, decide_eq_true_eq] at this
    omega
  refine ⟨m, es.map fun e => (e.1.toNat, e.2.toNat), rfl, by omega, ?_, ?_⟩
  · unfold eN
    rw [List.map_map]
    conv => lhs; rw [← List.map_id es]
    apply List.map_congr_left
    intro e he
    obtain ⟨a, b, c, d⟩ := h3 e he
    simp only [id, Function.comp]
    apply Prod.ext
    · simp only; omega
    · simp only; omega
  · intro e he
    obtain ⟨x, hx, rfl⟩ := List.mem_map.1 he
    obtain ⟨a, b, c, d⟩ := h3 x hx
    simp only
    omega
end gr
end Go.Proofs.YtahffafobdiogaaDoor
