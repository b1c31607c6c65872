/- lists of lists. -/
import Derived.Test.YtahffafobdiogaaDoorKhe
namespace Go.Proofs.YtahffafobdiogaaDoor
set_option linter.unusedVariables false
set_option linter.unusedSimpArgs false
open Go.RowKit
namespace gr
abbrev PR := Nat × List Nat × Nat
/-- a row of rows can be read -/
def Rp (W : World) (A : Option Addr) (fs : List PR) : Prop := Rd W W.heap.size A (fs.map encP) ∧ ∀ e ∈ fs, Rd W W.heap.size (some ⟨e.1, 0, none⟩) (vV e.2.1)
theorem Rp.to {W W' : World} {A : Option Addr} {fs : List PR} (h : Rp W A fs) (hb : Below W.heap.size W W') : Rp W' A fs := ⟨h.1.to hb, fun e he => (h.2 e he).to hb⟩
theorem rp_at {W : World} {A : Option Addr} {fs : List PR} (h : Rp W A fs) {k : Nat} (hk : k < fs.length) : ∃ ad e, A = some ad ∧ fs[k]? = some e ∧ W.cell? (ad.add k) = some (encP e) ∧ Rd W W.heap.size (some ⟨e.1, 0, none⟩) (vV e.2.1) := by
  obtain ⟨ad, h1, h2, h3⟩ := h.1 (fun e => by have := congrArg List.length e; simp at this; subst this; simp at hk)
  refine ⟨ad, fs[k], h1, List.getElem?_eq_getElem hk, h3 k _ (by rw [List.getElem?_map, List.getElem?_eq_getElem hk]; rfl), h.2 _ (List.getElem_mem hk)⟩
theorem take_more' {l m : List (List Nat)} {k : Nat} {x y : List Nat} (h1 : l[k]? = some x) (h2 : m[k]? = some y) (h : l.take k = m.take k) : l.take (k + 1) = m.take (k + 1) ↔ x = y := by
  have e1 : l.take (k + 1) = l.take k ++ [x] := by rw [List.take_add_one, h1]; rfl
  have e2 : m.take (k + 1) = m.take k ++ [y] := by rw [List.take_add_one, h2]; rfl
  rw [e1, e2, h, List.append_cancel_left_eq]
  simp
set_option maxRecDepth 100000 in
set_option maxHeartbeats 1000000 in
theorem lists_any (A B : Option Addr) (c d : Nat) (fs gs : List PR) (w : World) (hA : Rp w A fs) (hB : Rp w B gs) (hl : fs.length ≤ 1048576) (hm : gs.length ≤ 1048576) (hb : ∀ e, e ∈ fs ∨ e ∈ gs → e.2.1.length ≤ 1048576) :
    Calls Tryd.prog 20 #[.slice A fs.length c, .slice B gs.length d] w fun e w' => e = .returned (.bool (decide ((fs.map fun e => e.2.1) = gs.map fun e => e.2.1))) ∧ ∃ q, w' = w.drewN q := by
  obtain ⟨l, hl1⟩ : ∃ l, (fs.map fun e => e.2.1) = l := ⟨_, rfl⟩
  obtain ⟨m, hm1⟩ : ∃ m, (gs.map fun e => e.2.1) = m := ⟨_, rfl⟩
  have hll : l.length = fs.length := by rw [← hl1, List.length_map]
  have hml : m.length = gs.length := by rw [← hm1, List.length_map]
  have HF := Lib.hid (show ∀ k, k < fs.length → ∃ ad x g p, A = some ad ∧ l[k]? = some x ∧ w.cell? (ad.add k) = some (.slice (some ⟨g, 0, none⟩) x.length p) ∧ Rd w w.heap.size (some ⟨g, 0, none⟩) (vV x) ∧ x.length ≤ 1048576 from fun k hk => by
    obtain ⟨ad, e, h1, h2, h3, h4⟩ := rp_at hA hk
    exact ⟨ad, e.2.1, e.1, e.2.2, h1, by rw [← hl1, List.getElem?_map, h2]; rfl, h3, h4, hb e (.inl (List.mem_of_getElem? h2))⟩)
  have HG := Lib.hid (show ∀ k, k < gs.length → ∃ ad x g p, B = some ad ∧ m[k]? = some x ∧ w.cell? (ad.add k) = some (.slice (some ⟨g, 0, none⟩) x.length p) ∧ Rd w w.heap.size (some ⟨g, 0, none⟩) (vV x) ∧ x.length ≤ 1048576 from fun k hk => by
    obtain ⟨ad, e, h1, h2, h3, h4⟩ := rp_at hB hk
    exact ⟨ad, e.2.1, e.1, e.2.2, h1, by rw [← hm1, List.getElem?_map, h2]; rfl, h3, h4, hb e (.inr (List.mem_of_getElem? h2))⟩)
  rw [hl1, hm1]
  have hnn : fs.length ≤ 1048576 := hl
  generalize fs.length = n at *
  generalize gs.length = n' at *
  clear hA hB hb hl1 hm1
  by_cases hlm : n = n'
  · subst hlm
    have HL := Lib.hid hll
    have HN := Lib.hid hml
    clear hll hml hl hm
    go_enter Tryd.func20, Tryd.ntmps20
    go_wp2
    go_loopw [5] (fun i wr => ∃ k j : Nat, k ≤ n ∧ i = .int .i64 k ∧ wr = w.drewN j ∧ Hid (l.take k = m.take k)) (fun i _ => n - (intOf i).toNat)
    case atStart => exact ⟨0, 0, by omega, rfl, rfl, rfl⟩
    case round =>
      obtain ⟨k, j, hk, rfl, rfl, HT⟩ := hrel
      by_cases hlt : k < n
      · obtain ⟨ad, x, g, p, rfl, hx, hcx, r1, r2⟩ := HF.out k hlt
        obtain ⟨ad', y, g', p', rfl, hy, hcy, s1, s2⟩ := HG.out k hlt
        have HX := Lib.hid (take_more' hx hy HT.out)
        have KS := Lib.hid (fun q => (same_any (some ⟨g, 0, none⟩) (some ⟨g', 0, none⟩) p p' x y (w.drewN (j + q)) (r1.drewN _) (s1.drewN _) r2 s2).mono (R' := fun e w' => e = .returned (.bool (decide (x = y))) ∧ ∃ q, w' = w.drewN (j + q)) fun e w' ⟨h1, q', h2⟩ => ⟨h1, q + q', by rw [h2, World.drewN_drewN, Nat.add_assoc]⟩)
        have e3 : (k : Int) < (n : Int) := by omega
        clear r1 s1 hx hy
        generalize hxy : decide (x = y) = xy at *
        have HXY := Lib.hid hxy
        clear hxy
        generalize x.length = xl at *
        generalize y.length = yl at *
        go_wp2
        go_quiet ((go_at_call 12; exact KS.out _))
        go_wp2
        · go_ret
          refine ⟨congrArg (fun b => Ending.returned (.bool b)) (Eq.symm ?_), _, World.drewN_drewN _ _ _⟩
          rw [decide_eq_false_iff_not]
          intro e
          have h1 := HXY.out
          rw [decide_eq_true (HX.out.1 (by rw [e]))] at h1
          subst h1
          simp at *
        · go_roundw
          case rel => exact ⟨k + 1, _, by omega, by go_num, rfl, HX.out.2 (of_decide_eq_true (by rw [HXY.out]; simp at *; assumption))⟩
          case measure => simp [intOf]; omega
      · go_wp2
        go_ret
        have hkn : k = n := by omega
        refine ⟨congrArg (fun b => Ending.returned (.bool b)) (Eq.symm (decide_eq_true ?_)), _, rfl⟩
        have h1 := HT.out
        rw [hkn, List.take_of_length_le (by rw [HL.out]; omega), List.take_of_length_le (by rw [HN.out]; omega)] at h1
        exact h1
  · have hne : ¬ l = m := fun e => hlm (by rw [← hll, ← hml, e])
    rw [decide_eq_false hne]
    have h1 : ¬ ((n : Int) = (n' : Int)) := by omega
    clear HF HG hne
    have h2 : ((n : Int) == (n' : Int)) = false := by simpa using h1
    go_enter Tryd.func20, Tryd.ntmps20
    go_wp2
    go_ret
    exact ⟨rfl, 0, rfl⟩
end gr
end Go.Proofs.YtahffafobdiogaaDoor
