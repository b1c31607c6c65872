/- letters and repeats of the reference. -/
import Derived.Test.YtimecbkfeennpaaBwAwake
namespace Go.Proofs.Ytimecbkfeennpaa
set_option linter.unusedVariables false
set_option linter.unusedSimpArgs false
open Go.RowKit
def fL (f : Nat → Bool) (n : Nat) : List Bool := (List.range n).map f
theorem fL_length (f : Nat → Bool) (n : Nat) : (fL f n).length = n := by simp [fL]
theorem fL_succ (f : Nat → Bool) (n : Nat) : fL f (n + 1) = fL f n ++ [f n] := by simp [fL, List.range_succ]
theorem fL_gb (f : Nat → Bool) (n i : Nat) (h : i < n) : gb (fL f n) i = f i := by simp [fL, gb, h]
theorem bls_snoc (l : List Bool) (b : Bool) : bls (l ++ [b]) = bls l ++ [.bool b] := by simp [bls]
theorem size_alloc1 (w : World) (o : Obj) : (w.alloc o).heap.size = w.heap.size + 1 := by simp
theorem own_mono {w : World} {B B' : Nat} {e : TypeId} {n : Nat} {v : Value} {xs : List Value} (h : w.ownsRow B e 1 v n xs) (hB : B' ≤ B) : w.ownsRow B' e 1 v n xs :=
  ⟨h.1, h.2.imp id fun ⟨g, cap, cur, e1, hb, r⟩ => ⟨g, cap, cur, e1, Nat.le_trans hB hb, r⟩⟩
/-- one append in a plain region -/
theorem grow_one {B n : Nat} {e : TypeId} {v : Value} {xs : List Value} {W w1 : World} {o : Obj} (hB : B ≤ W.heap.size) (hown : W.ownsRow B e 1 v n xs) (hg : (W.alloc o).grownBy w1 v.ownBlock) : Below B W w1 :=
  ((Below.refl _ _).alloc hB _).grown hg (by simp; omega) (fun k hk => (hown.lt k hk).1)
set_option maxHeartbeats 1000000 in
theorem rletters_any (A B : Option Addr) (c d n : Nat) (h l : List Bool) (w : World) (hA : Rd w w.heap.size A (bls h)) (hB : Rd w w.heap.size B (bls l)) (h0 : 0 < l.length)
    (hh : h.length ≤ 140737488355328) (hl : l.length ≤ 140737488355328) (hn : n ≤ 70368744177664) :
    Calls Try.prog 41 #[.agg #[.slice A h.length c, .slice B l.length d], .int .i64 n] w (NewOwn (fL (lt h l) n) w) := by
  obtain ⟨i0, hi, iz, is, ib⟩ := info_parts Try.boolInfo
  have HA := Lib.hid hA
  have HB := Lib.hid hB
  clear hA hB
  have let_ := Lib.hid (fun i => rletter_any A B c d i h l)
  go_enter Try.func41, Try.ntmps41
  go_wp2
  go_loopw [5, 6] (fun v i wr => ∃ (k : Nat), k ≤ n ∧ i = .int .i64 k ∧ wr.ownsRow (w.heap.size + 1) 4 1 v k (bls (fL (lt h l) k)) ∧ w.heap.size + 1 ≤ wr.heap.size ∧ Below (w.alloc (.cells #[.slice A h.length c, .slice B l.length d] 24)).heap.size (w.alloc (.cells #[.slice A h.length c, .slice B l.length d] 24)) wr) (fun _ i _ => n - (intOf i).toNat)
  case atStart => exact ⟨0, by omega, rfl, World.ownsRow_nil _ _ _ _, by simp, Below.refl _ _⟩
  case round =>
    obtain ⟨k, hk, rfl, hown, hsz, hbl⟩ := hrel
    obtain ⟨s1, s2⟩ := box2 hbl
    by_cases hlt : k < n
    · go_wp2_with (first
        | (go_at_call 35; refine (let_.out _ _ (HA.out.to ?_) (HB.out.to ?_) h0 hh hl (by omega)).mono ?_; (focus ((repeat (first | (with_reducible exact Below.refl _ _) | (with_reducible assumption) | (with_reducible exact bel_box _) | (with_reducible refine bel_step ?_ (by with_reducible assumption)) | (with_reducible refine Below.drew ?_) | (with_reducible refine below_drewN ?_ _) | (with_reducible refine bel_alloc ?_ _))); done)); (focus ((repeat (first | (with_reducible exact Below.refl _ _) | (with_reducible assumption) | (with_reducible exact bel_box _) | (with_reducible refine bel_step ?_ (by with_reducible assumption)) | (with_reducible refine Below.drew ?_) | (with_reducible refine below_drewN ?_ _) | (with_reducible refine bel_alloc ?_ _))); done)); rintro e w3 ⟨rfl, hb3⟩; have ho3 := own_keep hown hb3; have hsz3 := Nat.le_trans hsz hb3.size)
        | (at_builtin; refine wpList_append_rd _ rfl _ _ 22 rfl (w.heap.size + 1) 4 i0 (.bool false) 1 Try.underlying22 hi iz is ib rfl _ k (bls (fL (lt h l) k)) rfl (ho3.alloc _) (w3.heap.size + 1) _ 1 1 _ rfl rfl (Rd.one_new _ _ _) (one_cell_bool _) (by unfold maxLen; omega) (by omega) (by simp; omega) ?_; intro v1 w1 hown1 hgrow1 hat1))
      have hb1 := grow_one hsz3 ho3 hgrow1
      rw [← bls_snoc, ← fL_succ] at hown1
      have hsz4 := Nat.le_trans hsz3 hb1.size
      go_roundw
      case rel => exact ⟨k + 1, by omega, by go_num, hown1, hsz4, hbl.trans (by rw [size_alloc1]; exact (hb3.mono hsz).trans hb1)⟩
      case measure => simp [intOf]; omega
    · obtain rfl : k = n := by omega
      go_wp2
      go_ret
      obtain ⟨V, cv, rfl⟩ := own_form hown
      refine ⟨V, cv, by rw [fL_length]; rfl, ?_, bel_step (bel_box _) hbl⟩
      rw [fL_length]
      exact own_mono hown (Nat.le_succ _)
theorem rrepeats_any (A : Option Addr) (c a n b p : Nat) (L : List Bool) (w : World) (hA : Rd w w.heap.size A (bls L)) (hl : L.length ≤ 140737488355328) (hb : b = a + n) (hn : b + p ≤ L.length) :
    Calls Try.prog 53 #[.slice A L.length c, .int .i64 a, .int .i64 b, .int .i64 p] w (Drw (.bool (allB (gb L) a n p)) w) := by
  have HA := Lib.hid hA
  clear hA
  have HBB := Lib.hid hb
  have hb9 : b ≤ L.length := by omega
  have hn9 : n ≤ b := by omega
  clear hb
  go_enter Try.func53, Try.ntmps53
  go_wp2
  go_loopw [9] (fun i wr => ∃ k j : Nat, k ≤ n ∧ i = .int .i64 (a + k : Nat) ∧ wr = w.drewN j ∧ Hid (allB (gb L) a k p = true)) (fun i _ => b - (intOf i).toNat)
  case atStart => exact ⟨0, 0, by omega, rfl, rfl, rfl⟩
  case round =>
    obtain ⟨k, j, hk, rfl, rfl, HT⟩ := hrel
    obtain ⟨m, hm⟩ : ∃ m, m = a + k := ⟨_, rfl⟩
    have HM := Lib.hid hm
    have hbb : b = a + n := HBB.out
    rw [← hm]
    have e4 : ((m : Int) < (b : Int)) = (k < n) := by rw [eq_iff_iff]; omega
    have e5 : k < n → m + p < L.length := by omega
    have e6 : k < n → b - (m + 1) < b - m := by omega
    have e7 : ((m : Int) + 1) = ((a + (k + 1) : Nat) : Int) := by omega
    clear hm hbb
    by_cases hlt : k < n
    · obtain ⟨ad, x, rfl, _, hx, hc⟩ := HA.out.bool_at (show m < L.length by have := e5 hlt; omega)
      obtain ⟨ad', y, he, _, hy, hc'⟩ := HA.out.bool_at (e5 hlt)
      cases he
      have HX := Lib.hid (gb_of hx)
      have HY := Lib.hid (gb_of hy)
      clear hx hy
      have e1 : IntKind.i64.wrap ((m : Int) + (p : Int)) = ((m + p : Nat) : Int) := by rw [IntWalk.i64_in _ (by omega)]; omega
      have e2 : ((m : Int) + (p : Int)).toNat = m + p := by omega
      have e3 : (m : Int) + (p : Int) < (L.length : Int) := by omega
      have e8 : m + p < L.length := e5 hlt
      have e9 : m < L.length := by omega
      have e10 := e6 hlt
      clear e5 e6
      go_wp2
      go_quiet (fail)
      go_wp2
      · go_ret
        refine ⟨ret_bool ?_, _, World.drewN_drewN _ _ _⟩
        symm
        rw [allB, List.all_eq_false]
        refine ⟨k, List.mem_range.2 hlt, ?_⟩
        rw [← HM.out, HX.out, HY.out]
        simpa using (by assumption : (!x == y) = true)
      · go_roundw
        case rel =>
          refine ⟨k + 1, _, by omega, by go_num, rfl, ?_⟩
          show allB _ _ _ _ = true
          have h0 : allB (gb L) a k p = true := HT.out
          rw [allB, List.range_succ, List.all_append]
          rw [allB] at h0
          rw [h0]
          simp only [List.all_cons, List.all_nil, Bool.and_true, Bool.true_and]
          rw [← HM.out, HX.out, HY.out]
          simpa using (by assumption : (!x == y) = false)
        case measure => simp [intOf]; omega
    · obtain rfl : k = n := by omega
      go_wp2
      go_ret
      exact ⟨ret_bool HT.out.symm, _, rfl⟩
end Go.Proofs.Ytimecbkfeennpaa
