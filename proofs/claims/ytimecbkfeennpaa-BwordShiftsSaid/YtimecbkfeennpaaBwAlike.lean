/- alike of the laws of layer 2. -/
import Derived.Test.YtimecbkfeennpaaBwLet
import Derived.Test.YtimecbkfeennpaaBwRn
namespace Go.Proofs.Ytimecbkfeennpaa
set_option linter.unusedVariables false
set_option linter.unusedSimpArgs false
open Go.RowKit
def alB (h l h' l' : List Bool) (n : Nat) : Bool := (List.range n).all fun i => att h l (i : Int) == att h' l' (i : Int)
theorem alB_succ (h l h' l' : List Bool) (n : Nat) : alB h l h' l' (n + 1) = (alB h l h' l' n && (att h l (n : Int) == att h' l' (n : Int))) := by simp [alB, List.range_succ]
theorem alB_no {h l h' l' : List Bool} {k n : Nat} (hk : k < n) (e : (att h l (k : Int) == att h' l' (k : Int)) = false) : alB h l h' l' n = false := by
  rw [alB, List.all_eq_false]
  exact ⟨k, List.mem_range.2 hk, by rw [e]; simp⟩
theorem box22 {w W : World} {x y x' y' : Value} {t t' : TypeId} (hb : Below ((w.alloc (.cells #[x, y] t)).alloc (.cells #[x', y'] t')).heap.size ((w.alloc (.cells #[x, y] t)).alloc (.cells #[x', y'] t')) W) :
    W.cell? ⟨w.heap.size, 0, none⟩ = some x ∧ W.cell? ⟨w.heap.size, 1, none⟩ = some y ∧ W.cell? ⟨w.heap.size + 1, 0, none⟩ = some x' ∧ W.cell? ⟨w.heap.size + 1, 1, none⟩ = some y' := by
  have h2 := box2 hb
  have h1 := box2 (bel_step (bel_box (.cells #[x', y'] t')) hb)
  rw [size_alloc1] at h2
  exact ⟨h1.1, h1.2, h2.1, h2.2⟩
set_option maxHeartbeats 1000000 in
set_option maxRecDepth 100000 in
theorem alike_any (A B A' B' : Option Addr) (c d c' d' n : Nat) (h l h' l' : List Bool) (w : World) (hA : Rd w w.heap.size A (bls h)) (hB : Rd w w.heap.size B (bls l)) (hA' : Rd w w.heap.size A' (bls h')) (hB' : Rd w w.heap.size B' (bls l'))
    (hh : h.length ≤ 140737488355328) (hl : l.length ≤ 140737488355328) (hh' : h'.length ≤ 140737488355328) (hl' : l'.length ≤ 140737488355328) (hn : n ≤ 1048576) :
    Calls Try.prog 21 #[.agg #[.slice A h.length c, .slice B l.length d], .agg #[.slice A' h'.length c', .slice B' l'.length d'], .int .i64 n] w (Bel (.bool (alB h l h' l' n)) w) := by
  have HA := Lib.hid hA
  have HB := Lib.hid hB
  have HA' := Lib.hid hA'
  have HB' := Lib.hid hB'
  clear hA hB hA' hB'
  have k1 := Lib.hid (fun i => at_any A B c d i h l)
  have k2 := Lib.hid (fun i => at_any A' B' c' d' i h' l')
  go_enter Try.func21, Try.ntmps21
  go_wp2
  go_loopw [7] (fun i wr => ∃ k : Nat, k ≤ n ∧ i = .int .i64 k ∧ Hid (alB h l h' l' k = true) ∧ Below ((w.alloc (.cells #[.slice A h.length c, .slice B l.length d] 24)).alloc (.cells #[.slice A' h'.length c', .slice B' l'.length d'] 24)).heap.size ((w.alloc (.cells #[.slice A h.length c, .slice B l.length d] 24)).alloc (.cells #[.slice A' h'.length c', .slice B' l'.length d'] 24)) wr) (fun i _ => n - (intOf i).toNat)
  case atStart => exact ⟨0, by omega, rfl, rfl, Below.refl _ _⟩
  case round =>
    obtain ⟨k, hk, rfl, HT, hbl⟩ := hrel
    by_cases hlt : k < n
    · obtain ⟨x, hx⟩ : ∃ x, att h l (k : Int) = x := ⟨_, rfl⟩
      obtain ⟨y, hy⟩ : ∃ y, att h' l' (k : Int) = y := ⟨_, rfl⟩
      have hk1 : (k : Int) ≤ 9223372036854775807 := by omega
      have HX := Lib.hid hx
      have HY := Lib.hid hy
      clear hx hy
      have hb1 : Below (w.alloc (.cells #[.slice A h.length c, .slice B l.length d] 24)).heap.size (w.alloc (.cells #[.slice A h.length c, .slice B l.length d] 24)) wr := bel_step (bel_box _) hbl
      have hb2 : Below w.heap.size w wr := bel_step (bel_box _) hb1
      obtain ⟨s1, s2, s3, s4⟩ := box22 hbl
      go_wp2
      go_region_held3 (fun w' => w'.cell? ⟨w.heap.size, 0, none⟩ = some (.slice A h.length c) ∧ w'.cell? ⟨w.heap.size, 1, none⟩ = some (.slice B l.length d) ∧ w'.cell? ⟨w.heap.size + 1, 0, none⟩ = some (.slice A' h'.length c') ∧ w'.cell? ⟨w.heap.size + 1, 1, none⟩ = some (.slice B' l'.length d'))
        ((refine box22 (t := 24) (t' := 24) ?_; (repeat (first | (with_reducible exact Below.refl _ _) | (with_reducible assumption) | (with_reducible exact bel_box _) | (with_reducible refine bel_step ?_ (by with_reducible assumption)) | (with_reducible refine Below.drew ?_) | (with_reducible refine below_drewN ?_ _) | (with_reducible refine bel_alloc ?_ _))); done))
        (first
          | (go_at_call_of 14 (Value.agg #[Value.slice A h.length c, Value.slice B l.length d]); refine (k1.out _ _ (HA.out.to ?_) (HB.out.to ?_) hh hl hk1).mono ?_; (focus ((repeat (first | (with_reducible exact Below.refl _ _) | (with_reducible assumption) | (with_reducible exact bel_box _) | (with_reducible refine bel_step ?_ (by with_reducible assumption)) | (with_reducible refine Below.drew ?_) | (with_reducible refine below_drewN ?_ _) | (with_reducible refine bel_alloc ?_ _))); done)); (focus ((repeat (first | (with_reducible exact Below.refl _ _) | (with_reducible assumption) | (with_reducible exact bel_box _) | (with_reducible refine bel_step ?_ (by with_reducible assumption)) | (with_reducible refine Below.drew ?_) | (with_reducible refine below_drewN ?_ _) | (with_reducible refine bel_alloc ?_ _))); done)); rintro e w3 ⟨rfl, hb3⟩; rw [HX.out])
          | (go_at_call 14; refine (k2.out _ _ (HA'.out.to ?_) (HB'.out.to ?_) hh' hl' hk1).mono ?_; (focus ((repeat (first | (with_reducible exact Below.refl _ _) | (with_reducible assumption) | (with_reducible exact bel_box _) | (with_reducible refine bel_step ?_ (by with_reducible assumption)) | (with_reducible refine Below.drew ?_) | (with_reducible refine below_drewN ?_ _) | (with_reducible refine bel_alloc ?_ _))); done)); (focus ((repeat (first | (with_reducible exact Below.refl _ _) | (with_reducible assumption) | (with_reducible exact bel_box _) | (with_reducible refine bel_step ?_ (by with_reducible assumption)) | (with_reducible refine Below.drew ?_) | (with_reducible refine below_drewN ?_ _) | (with_reducible refine bel_alloc ?_ _))); done)); rintro e w4 ⟨rfl, hb4⟩; rw [HY.out]))
      all_goals go_wp2
      · go_ret
        refine ⟨ret_bool ?_, (by repeat (first | (with_reducible exact Below.refl _ _) | (with_reducible assumption) | (with_reducible exact bel_box _) | (with_reducible refine bel_step ?_ (by with_reducible assumption)) | (with_reducible refine Below.drew ?_) | (with_reducible refine below_drewN ?_ _) | (with_reducible refine bel_alloc ?_ _)))⟩
        symm
        apply alB_no hlt
        rw [HX.out, HY.out]
        simpa using (by assumption : (!x == y) = true)
      · go_roundw
        case rel => exact ⟨k + 1, by omega, by go_num, by show _ = _; rw [alB_succ, HT.out, HX.out, HY.out]; simpa using (by assumption : (!x == y) = false), (by repeat (first | (with_reducible exact Below.refl _ _) | (with_reducible assumption) | (with_reducible exact bel_box _) | (with_reducible refine bel_step ?_ (by with_reducible assumption)) | (with_reducible refine Below.drew ?_) | (with_reducible refine below_drewN ?_ _) | (with_reducible refine bel_alloc ?_ _)))⟩
        case measure => simp [intOf]; omega
    · obtain rfl : k = n := by omega
      go_wp2
      go_ret
      exact ⟨ret_bool HT.out.symm, bel_step (bel_step (bel_box _) (bel_box _)) hbl⟩
end Go.Proofs.Ytimecbkfeennpaa
