/- Same of the reference: lists of tokens compared. -/
import Derived.Test.YtbnddbhfnpdjeaaDoorLo
namespace Go.Proofs.YtbnddbhfnpdjeaaDoor
set_option linter.unusedVariables false
set_option linter.unusedSimpArgs false
open Go.RowKit
/-- A reads as these tokens, below block B -/
def RdT (w : World) (B : Nat) (A : Option Addr) (l : List Tk) : Prop :=
  l ≠ [] → ∃ ad, A = some ad ∧ ad.block < B ∧ ∀ (i : Nat) (t : Tk), l[i]? = some t → w.cell? (ad.add (i * 3)) = some (.int .i64 t.1) ∧ w.cell? (ad.add (i * 3 + 1)) = some (.string t.2.1) ∧ w.cell? (ad.add (i * 3 + 2)) = some (.int .i64 t.2.2)
theorem RdT.to {w W : World} {A : Option Addr} {l : List Tk} (h : RdT w w.heap.size A l) (hb : Below w.heap.size w W) : RdT W W.heap.size A l := fun hn => by
  obtain ⟨ad, e, hB, hc⟩ := h hn
  have hs := hb.size
  exact ⟨ad, e, by omega, fun i t ht => ⟨(hb.cell (by rw [add_block]; exact hB)).trans (hc i t ht).1, (hb.cell (by rw [add_block]; exact hB)).trans (hc i t ht).2.1, (hb.cell (by rw [add_block]; exact hB)).trans (hc i t ht).2.2⟩⟩
theorem tks_get (l : List Tk) (i : Nat) (t : Tk) (h : l[i]? = some t) : (tks l)[i * 3]? = some (.int .i64 t.1) ∧ (tks l)[i * 3 + 1]? = some (.string t.2.1) ∧ (tks l)[i * 3 + 2]? = some (.int .i64 t.2.2) := by
  induction l generalizing i with
  | nil => simp at h
  | cons a r ih =>
    have e : tks (a :: r) = tkV a ++ tks r := rfl
    rw [e]
    rcases i with _ | i
    · obtain rfl : a = t := by simpa using h
      exact ⟨rfl, rfl, rfl⟩
    · obtain ⟨h1, h2, h3⟩ := ih i (by simpa using h)
      have hl : (tkV a).length = 3 := rfl
      refine ⟨?_, ?_, ?_⟩
      · rw [List.getElem?_append_right (by rw [hl]; omega), hl, show (i + 1) * 3 - 3 = i * 3 by omega]; exact h1
      · rw [List.getElem?_append_right (by rw [hl]; omega), hl, show (i + 1) * 3 + 1 - 3 = i * 3 + 1 by omega]; exact h2
      · rw [List.getElem?_append_right (by rw [hl]; omega), hl, show (i + 1) * 3 + 2 - 3 = i * 3 + 2 by omega]; exact h3
theorem RdT.of_own {w : World} {base : Nat} {e : TypeId} {A : Option Addr} {c : Nat} {l : List Tk} (h : w.ownsRow base e 3 (.slice A l.length c) l.length (tks l)) : RdT w w.heap.size A l := fun hn => by
  rcases h.2 with ⟨h1, h2⟩ | ⟨g, cap, cur, h1, h2, h3, h4, h5, h6, h7⟩
  · exact absurd (List.length_eq_zero_iff.1 h2) hn
  · have hA : A = some ⟨g, 0, none⟩ := by injection h1
    subst hA
    refine ⟨_, rfl, (Array.getElem?_eq_some_iff.1 h3).1, fun i t ht => ?_⟩
    obtain ⟨k1, k2, k3⟩ := tks_get l i t ht
    have key : ∀ j u, (tks l)[j]? = some u → w.cell? (Addr.add ⟨g, 0, none⟩ j) = some u := fun j u hj => by
      have e : (Addr.add ⟨g, 0, none⟩ j) = ⟨g, j, none⟩ := by
        unfold Addr.add
        by_cases h : j = 0
        · subst h; rfl
        · simp [h]
      rw [e, cell_of_row w g j cur _ (0, 0) h3]
      rw [← h7, List.getElem?_take] at hj
      split at hj
      · rw [← Array.getElem?_toList]; exact hj
      · cases hj
    exact ⟨key _ _ k1, key _ _ k2, key _ _ k3⟩
theorem add_fld3 (ad : Addr) (n c : Nat) : ad.add (n + (c + 1)) = ⟨(ad.add n).block, (ad.add n).off + (c + 1), none⟩ := by
  unfold Addr.add
  by_cases h : n = 0
  · subst h; simp
  · simp [h, Nat.add_assoc]
theorem RdT.at_ {w : World} {B : Nat} {A : Option Addr} {l : List Tk} (h : RdT w B A l) {k : Nat} (hk : k < l.length) :
    ∃ ad t, A = some ad ∧ ad.block < B ∧ l[k]? = some t ∧ w.cell? (ad.add (k * 3)) = some (.int .i64 t.1) ∧ w.cell? ⟨(ad.add (k * 3)).block, (ad.add (k * 3)).off + 1, none⟩ = some (.string t.2.1) ∧ w.cell? ⟨(ad.add (k * 3)).block, (ad.add (k * 3)).off + 2, none⟩ = some (.int .i64 t.2.2) := by
  have he : l[k]? = some l[k] := List.getElem?_eq_getElem hk
  obtain ⟨ad, e, hb, hc⟩ := h (by rintro rfl; simp at hk)
  obtain ⟨h1, h2, h3⟩ := hc k _ he
  exact ⟨ad, _, e, hb, he, h1, by rw [← add_fld3 ad (k * 3) 0]; exact h2, by rw [← add_fld3 ad (k * 3) 1]; exact h3⟩
def tkE (pl : Bool) (a b : Tk) : Bool := a.1 == b.1 && (a.2.1.toList == b.2.1.toList && (!pl || a.2.2 == b.2.2))
def sameT (pl : Bool) (x y : List Tk) : Bool := x.length == y.length && (x.zip y).all fun p => tkE pl p.1 p.2
set_option maxHeartbeats 1000000 in
theorem same_any (A A' : Option Addr) (c c' : Nat) (x y : List Tk) (pl : Bool) (w : World) (hA : RdT w w.heap.size A x) (hA' : RdT w w.heap.size A' y) (hx : x.length ≤ 65536) (hy : y.length ≤ 65536) :
    Calls Tryd.prog 11 #[.slice A x.length c, .slice A' y.length c', .bool pl] w (Bel (.bool (sameT pl x y)) w) := by
  have HA := Lib.hid hA
  have HA' := Lib.hid hA'
  clear hA hA'
  by_cases hl : x.length = y.length
  · have ZS : Hid ((x.zip y).length = x.length) := Lib.hid (by rw [List.length_zip]; omega)
    have e0 : sameT pl x y = (x.zip y).all fun p => tkE pl p.1 p.2 := by rw [sameT, hl]; simp
    rw [e0]
    clear e0
    obtain ⟨z, hZ⟩ : ∃ z, ((x.zip y).all fun p => tkE pl p.1 p.2) = z := ⟨_, rfl⟩
    have HZ := Lib.hid hZ
    rw [hZ]
    clear hZ
    have d1 : ((x.length : Int) != (y.length : Int)) = false := by rw [hl]; simp
    go_enter Tryd.func11, Tryd.ntmps11
    go_wp2
    go_loopw [7] (fun i wr => ∃ k : Nat, k ≤ x.length ∧ i = .int .i64 k ∧ Hid ((((x.zip y).take k).all fun p => tkE pl p.1 p.2) = true) ∧ Below w.heap.size w wr) (fun i _ => x.length - (intOf i).toNat)
    case atStart => exact ⟨0, by omega, rfl, Lib.hid rfl, Below.refl _ _⟩
    case round =>
      obtain ⟨k, hk, rfl, hall, hbl⟩ := hrel
      by_cases hlt : k < x.length
      · obtain ⟨ad, t, rfl, had, ht, c1, c2, c3⟩ := (HA.out.to hbl).at_ hlt
        obtain ⟨ad', u, rfl, had', hu, c4, c5, c6⟩ := (HA'.out.to hbl).at_ (k := k) (by omega)
        have hz : (x.zip y)[k]? = some (t, u) := List.getElem?_zip_eq_some.2 ⟨ht, hu⟩
        have hlt2 : k < y.length := by omega
        have hz2 : Hid (∀ b, tkE pl t u = b → ((((x.zip y).take (k + 1)).all fun p => tkE pl p.1 p.2) = b)) := Lib.hid fun b hb => by
          rw [take_succ_of hz, List.all_append, hall.out]; simp [hb]
        have hno : Hid (tkE pl t u = false → ((x.zip y).all fun p => tkE pl p.1 p.2) = false) := Lib.hid fun hb => by
          rw [← Bool.not_eq_true, List.all_eq_true]
          intro h
          have := h _ (List.mem_of_getElem? hz)
          simp only [hb] at this
          cases this
        have hE : tkE pl t u = (t.1 == u.1 && (t.2.1.toList == u.2.1.toList && (!pl || t.2.2 == u.2.2))) := rfl
        clear hz ht hu hall
        cases q1 : (t.1 == u.1)
        · have q1' : (t.1 != u.1) = true := by simp [bne, q1]
          obtain rfl : z = false := by rw [← HZ.out]; exact hno.out (by rw [hE, q1]; rfl)
          clear hE hno hz2
          go_wp2
          go_quiet (fail)
          go_wp2
          go_ret
          exact ⟨rfl, (by repeat (first | (with_reducible exact Below.refl _ _) | (with_reducible assumption) | (with_reducible exact bel_box _) | (with_reducible refine bel_step ?_ (by with_reducible assumption)) | (with_reducible refine Below.drew ?_) | (with_reducible refine below_drewN ?_ _) | (with_reducible refine bel_alloc ?_ _)))⟩
        have q1' : (t.1 != u.1) = false := by simp [bne, q1]
        cases q2 : (t.2.1.toList == u.2.1.toList)
        · have q2' : (t.2.1.toList != u.2.1.toList) = true := by simp [bne, q2]
          obtain rfl : z = false := by rw [← HZ.out]; exact hno.out (by rw [hE, q1, q2]; rfl)
          clear hE hno hz2
          go_wp2
          go_quiet (fail)
          go_wp2
          go_ret
          exact ⟨rfl, (by repeat (first | (with_reducible exact Below.refl _ _) | (with_reducible assumption) | (with_reducible exact bel_box _) | (with_reducible refine bel_step ?_ (by with_reducible assumption)) | (with_reducible refine Below.drew ?_) | (with_reducible refine below_drewN ?_ _) | (with_reducible refine bel_alloc ?_ _)))⟩
        have q2' : (t.2.1.toList != u.2.1.toList) = false := by simp [bne, q2]
        cases pl
        · have HN := Lib.hid (hz2.out true (by rw [hE, q1, q2]; rfl))
          clear hE hno hz2
          go_wp2
          go_quiet (fail)
          go_wp2
          go_roundw
          case rel => exact ⟨k + 1, by omega, by go_num, HN, (by repeat (first | (with_reducible exact Below.refl _ _) | (with_reducible assumption) | (with_reducible exact bel_box _) | (with_reducible refine bel_step ?_ (by with_reducible assumption)) | (with_reducible refine Below.drew ?_) | (with_reducible refine below_drewN ?_ _) | (with_reducible refine bel_alloc ?_ _)))⟩
          case measure => simp [intOf]; omega
        cases q3 : (t.2.2 == u.2.2)
        · have q3' : (t.2.2 != u.2.2) = true := by simp [bne, q3]
          obtain rfl : z = false := by rw [← HZ.out]; exact hno.out (by rw [hE, q1, q2, q3]; rfl)
          clear hE hno hz2
          go_wp2
          go_quiet (fail)
          go_wp2
          go_ret
          exact ⟨rfl, (by repeat (first | (with_reducible exact Below.refl _ _) | (with_reducible assumption) | (with_reducible exact bel_box _) | (with_reducible refine bel_step ?_ (by with_reducible assumption)) | (with_reducible refine Below.drew ?_) | (with_reducible refine below_drewN ?_ _) | (with_reducible refine bel_alloc ?_ _)))⟩
        · have q3' : (t.2.2 != u.2.2) = false := by simp [bne, q3]
          have HN := Lib.hid (hz2.out true (by rw [hE, q1, q2, q3]; rfl))
          clear hE hno hz2
          go_wp2
          go_quiet (fail)
          go_wp2
          go_roundw
          case rel => exact ⟨k + 1, by omega, by go_num, HN, (by repeat (first | (with_reducible exact Below.refl _ _) | (with_reducible assumption) | (with_reducible exact bel_box _) | (with_reducible refine bel_step ?_ (by with_reducible assumption)) | (with_reducible refine Below.drew ?_) | (with_reducible refine below_drewN ?_ _) | (with_reducible refine bel_alloc ?_ _)))⟩
          case measure => simp [intOf]; omega
      · obtain rfl : k = x.length := by omega
        have h2 := hall.out
        rw [List.take_of_length_le (by rw [ZS.out]; exact Nat.le_refl _), HZ.out] at h2
        subst h2
        clear hall
        go_wp2
        go_ret
        exact ⟨rfl, hbl⟩
  · have e0 : sameT pl x y = false := by rw [sameT, show (x.length == y.length) = false by simpa using hl, Bool.false_and]
    rw [e0]
    have d1 : ((x.length : Int) != (y.length : Int)) = true := by simp; omega
    clear e0
    go_enter Tryd.func11, Tryd.ntmps11
    go_wp2
    go_ret
    exact ⟨rfl, (by repeat (first | (with_reducible exact Below.refl _ _) | (with_reducible assumption) | (with_reducible exact bel_box _) | (with_reducible refine bel_step ?_ (by with_reducible assumption)) | (with_reducible refine Below.drew ?_) | (with_reducible refine below_drewN ?_ _) | (with_reducible refine bel_alloc ?_ _)))⟩
end Go.Proofs.YtbnddbhfnpdjeaaDoor
