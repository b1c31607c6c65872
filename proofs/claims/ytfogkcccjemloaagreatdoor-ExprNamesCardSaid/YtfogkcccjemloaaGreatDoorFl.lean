/- Names, Instant, SameNames of the reference. -/
import Derived.Test.YtfogkcccjemloaaGreatDoorFk
namespace Go.Proofs.YtfogkcccjemloaaGreatDoor
set_option linter.unusedVariables false
set_option linter.unusedSimpArgs false
open Go.RowKit Go.Sort
/-- a list of names, new -/
def NewN (l : List ByteArray) (w : World) (e : Ending) (w' : World) : Prop := ∃ A c, e = .returned (.slice A l.length c) ∧ RdN w' w'.heap.size A l ∧ Below w.heap.size w w'
theorem rnames_new (b : Bool) (x : Xt) (w : World) (hX : RdX w w.heap.size x) (hs : x.size ≤ 100000) : Calls Tryz.prog 47 #[xV x, .bool b, .slice none 0 0] w (NewN (nmS b x []) w) := by
  refine (rnames_any b x w w.heap.size (.slice none 0 0) [] (Nat.le_refl _) hX (World.ownsRow_nil _ _ _ _) (by simpa using hs)).mono fun e w1 ⟨v', he, h1, h2, h3⟩ => ?_
  obtain ⟨A, c, rfl⟩ := own_form6 h1
  exact ⟨A, c, he, RdN.of_own h1, ⟨h2.os, h2.tape, h2.output, h2.size, fun k hk => h2.block k hk (by intro e; cases e)⟩⟩
set_option maxHeartbeats 1000000 in
set_option maxRecDepth 20000 in
theorem rNames_any (x : Xt) (w : World) (hX : RdX w w.heap.size x) (hs : x.size ≤ 100000) : Calls Tryz.prog 26 #[xV x] w (NewN (nmS false x []) w) := by
  have K : Hid (∀ W, Below w.heap.size w W → Calls Tryz.prog 47 #[xV x, .bool false, .slice none 0 0] W (NewN (nmS false x []) W)) := Lib.hid fun W hb => rnames_new false x W (hX.to hb) hs
  simp only [xV] at K ⊢
  go_enter Tryz.func26, Tryz.ntmps26
  go_wp2_with (go_at_call 47; (with_reducible refine (K.out _ ?_).mono ?_); (focus ((repeat (first | (with_reducible exact Below.refl _ _) | (with_reducible assumption) | (with_reducible exact bel_box _) | (with_reducible refine bel_step ?_ (by with_reducible assumption)) | (with_reducible refine Below.drew ?_) | (with_reducible refine below_drewN ?_ _) | (with_reducible refine bel_alloc ?_ _))); done)); rintro e w1 ⟨A, c, rfl, hR, hb1⟩)
  go_ret
  exact ⟨A, c, rfl, hR, (by repeat (first | (with_reducible exact Below.refl _ _) | (with_reducible assumption) | (with_reducible exact bel_box _) | (with_reducible refine bel_step ?_ (by with_reducible assumption)) | (with_reducible refine Below.drew ?_) | (with_reducible refine below_drewN ?_ _) | (with_reducible refine bel_alloc ?_ _)))⟩
set_option maxHeartbeats 1000000 in
set_option maxRecDepth 20000 in
theorem rInstant_any (x : Xt) (w : World) (hX : RdX w w.heap.size x) (hs : x.size ≤ 100000) : Calls Tryz.prog 27 #[xV x] w (NewN (nmS true x []) w) := by
  have K : Hid (∀ W, Below w.heap.size w W → Calls Tryz.prog 47 #[xV x, .bool true, .slice none 0 0] W (NewN (nmS true x []) W)) := Lib.hid fun W hb => rnames_new true x W (hX.to hb) hs
  simp only [xV] at K ⊢
  go_enter Tryz.func27, Tryz.ntmps27
  go_wp2_with (go_at_call 47; (with_reducible refine (K.out _ ?_).mono ?_); (focus ((repeat (first | (with_reducible exact Below.refl _ _) | (with_reducible assumption) | (with_reducible exact bel_box _) | (with_reducible refine bel_step ?_ (by with_reducible assumption)) | (with_reducible refine Below.drew ?_) | (with_reducible refine below_drewN ?_ _) | (with_reducible refine bel_alloc ?_ _))); done)); rintro e w1 ⟨A, c, rfl, hR, hb1⟩)
  go_ret
  exact ⟨A, c, rfl, hR, (by repeat (first | (with_reducible exact Below.refl _ _) | (with_reducible assumption) | (with_reducible exact bel_box _) | (with_reducible refine bel_step ?_ (by with_reducible assumption)) | (with_reducible refine Below.drew ?_) | (with_reducible refine below_drewN ?_ _) | (with_reducible refine bel_alloc ?_ _)))⟩
def sameN (a b : List ByteArray) : Bool := a.map ByteArray.toList == b.map ByteArray.toList
theorem same_step {a b : List ByteArray} {k : Nat} {y z : ByteArray} (ha : a[k]? = some y) (hb : b[k]? = some z) (h : (a.take k).map ByteArray.toList = (b.take k).map ByteArray.toList) (hy : (y.toList == z.toList) = true) : (a.take (k + 1)).map ByteArray.toList = (b.take (k + 1)).map ByteArray.toList := by
  rw [take_succ_of ha, take_succ_of hb, List.map_append, List.map_append, h, List.map_singleton, List.map_singleton, eq_of_beq hy]
theorem same_no {a b : List ByteArray} {k : Nat} {y z : ByteArray} (ha : a[k]? = some y) (hb : b[k]? = some z) (hy : (y.toList == z.toList) = false) : sameN a b = false := by
  rw [sameN, beq_eq_false_iff_ne]
  intro e
  have h := congrArg (fun l => l[k]?) e
  simp only [List.getElem?_map, ha, hb, Option.map_some] at h
  rw [Option.some.inj h] at hy
  simp at hy
set_option maxHeartbeats 1000000 in
set_option maxRecDepth 20000 in
theorem rsame_any (A A' : Option Addr) (c c' : Nat) (a b : List ByteArray) (w : World) (hA : RdN w w.heap.size A a) (hB : RdN w w.heap.size A' b) (ha : a.length ≤ 200000) (hb : b.length ≤ 200000) : Calls Tryz.prog 25 #[.slice A a.length c, .slice A' b.length c'] w (Bel (.bool (sameN a b)) w) := by
  have H1 := Lib.hid (fun k y z (p : a[k]? = some y) (q : b[k]? = some z) h => same_step p q h)
  have H2 := Lib.hid (fun k y z (p : a[k]? = some y) (q : b[k]? = some z) h => same_no p q h)
  by_cases hl : a.length = b.length
  · have H3 : Hid (a.map ByteArray.toList = b.map ByteArray.toList → sameN a b = true) := Lib.hid fun h => by rw [sameN, h]; exact beq_self_eq_true _
    generalize sameN a b = V at *
    obtain ⟨n, hn⟩ : ∃ n, a.length = n := ⟨_, rfl⟩
    have hm : b.length = n := hl ▸ hn
    rw [hn, hm]
    have HL := Lib.hid (And.intro hn hm)
    rw [hn] at ha
    clear hl hn hm hb
    go_enter Tryz.func25, Tryz.ntmps25
    go_wp2
    go_loopw [5] (fun i wr => ∃ k : Nat, k ≤ n ∧ i = .int .i64 (k : Int) ∧ Below w.heap.size w wr ∧ Hid ((a.take k).map ByteArray.toList = (b.take k).map ByteArray.toList)) (fun i _ => n - (intOf i).toNat)
    case atStart => exact ⟨0, by omega, rfl, Below.refl _ _, Lib.hid rfl⟩
    case round =>
      obtain ⟨k, hk, rfl, hbl, hno⟩ := hrel
      by_cases hlt : k < n
      · obtain ⟨ad, y, rfl, had, hy, c0⟩   := (hA.to hbl).at_ (k := k) (by rw [HL.out.1]; exact hlt)
        obtain ⟨ad', z, rfl, had', hz, c0'⟩ := (hB.to hbl).at_ (k := k) (by rw [HL.out.2]; exact hlt)
        have h1 := H1.out k y z hy hz hno.out
        have h2 := H2.out k y z hy hz
        clear hy hz
        cases q : (y.toList == z.toList)
        · have h3 := h2 q
          clear h1 h2
          go_wp2
          go_quiet (fail)
          go_wp2
          go_ret
          exact ⟨by rw [h3]; rfl, (by repeat (first | (with_reducible exact Below.refl _ _) | (with_reducible assumption) | (with_reducible exact bel_box _) | (with_reducible refine bel_step ?_ (by with_reducible assumption)) | (with_reducible refine Below.drew ?_) | (with_reducible refine below_drewN ?_ _) | (with_reducible refine bel_alloc ?_ _)))⟩
        · have H4 := Lib.hid (h1 q)
          clear h1 h2
          go_wp2
          go_quiet (fail)
          go_wp2
          exact ⟨⟨k + 1, by omega, by congr 1, (by repeat (first | (with_reducible exact Below.refl _ _) | (with_reducible assumption) | (with_reducible exact bel_box _) | (with_reducible refine bel_step ?_ (by with_reducible assumption)) | (with_reducible refine Below.drew ?_) | (with_reducible refine below_drewN ?_ _) | (with_reducible refine bel_alloc ?_ _))), H4⟩, by simp [intOf]; omega⟩
      · obtain rfl : k = n := by omega
        have h1 := hno.out
        rw [← HL.out.1, List.take_length, HL.out.1, ← HL.out.2, List.take_length] at h1
        have h2 := H3.out h1
        clear h1 hno
        go_wp2
        go_ret
        exact ⟨by rw [h2]; rfl, hbl⟩
  · have h3 : sameN a b = false := by
      rw [sameN, beq_eq_false_iff_ne]
      intro e
      have := congrArg List.length e
      simp at this
      omega
    rw [h3]
    have hl2 : (((a.length : Nat) : Int) != ((b.length : Nat) : Int)) = true := by simp; omega
    go_enter Tryz.func25, Tryz.ntmps25
    go_wp2
    go_ret
    exact ⟨rfl, Below.refl _ _⟩
end Go.Proofs.YtfogkcccjemloaaGreatDoor
