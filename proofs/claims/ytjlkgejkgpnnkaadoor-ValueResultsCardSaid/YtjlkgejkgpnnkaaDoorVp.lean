/- Apply of the program. -/
import Derived.Test.YtjlkgejkgpnnkaaDoorVo
namespace Go.Proofs.YtjlkgejkgpnnkaaDoor
set_option linter.unusedVariables false
set_option linter.unusedSimpArgs false
open Go.RowKit
def apE (op : Int) (xs : List Int) : Int := if nOp op = 0 then 2 else if nOp op = xs.length then (if xs.all (okB op) then 0 else 14) else 9
def apV (op : Int) (xs : List Int) : Int := if apE op xs = 0 then (if nOp op = 1 then ap1 op (xs.getD 0 0) else ap2 op (xs.getD 0 0) (xs.getD 1 0)) else 0
theorem nOp_cases (op : Int) : nOp op = 0 ∨ nOp op = 1 ∨ nOp op = 2 := by
  unfold nOp
  split
  · omega
  · split <;> omega
theorem kOp_cases (op : Int) : kOp op = 0 ∨ kOp op = 1 ∨ kOp op = 2 := by
  unfold kOp
  split
  · omega
  · split
    · omega
    · split <;> omega
theorem has_ok (op x : Int) (h : kOp op ≠ 0) : hasB [] (kOp op) x = okB op x := by
  rcases kOp_cases op with e | e | e
  · exact absurd e h
  · rw [okB, if_pos e, hasB, if_neg (by omega), e, sizeT, if_neg (by omega), tagsOf, if_pos rfl]
    by_cases h0 : x = 0
    · subst h0; rfl
    · by_cases h1 : x = 1
      · subst h1; rfl
      · have a : (x == 0) = false := by simp [h0]
        have b : (x == 1) = false := by simp [h1]
        rw [a, b]
        simp
        omega
  · rw [okB, if_neg (by omega), if_pos e, hasB, if_pos e]
theorem ok_free (op x : Int) (h : kOp op = 0) : okB op x = true := by
  rw [okB, if_neg (by omega), if_neg (by omega)]
theorem box3 {w W : World} {x y z : Value} {t : TypeId} (hb : Below (w.alloc (.cells #[x, y, z] t)).heap.size (w.alloc (.cells #[x, y, z] t)) W) : W.cell? ⟨w.heap.size, 0, none⟩ = some x ∧ W.cell? ⟨w.heap.size, 1, none⟩ = some y ∧ W.cell? ⟨w.heap.size, 2, none⟩ = some z := by
  have h := fun i => cell_of_row (w.alloc (.cells #[x, y, z] t)) w.heap.size i #[x, y, z] t (0, 0) (heap_alloc_new w _)
  exact ⟨(hb.cell (p := ⟨w.heap.size, 0, none⟩) (by simp)).trans (h 0), (hb.cell (p := ⟨w.heap.size, 1, none⟩) (by simp)).trans (h 1), (hb.cell (p := ⟨w.heap.size, 2, none⟩) (by simp)).trans (h 2)⟩
theorem arity_at (op n v : Int) (h : (if nOp op = 0 then 2 else if nOp op = n then 0 else 9) = v) (w : World) : Calls Tryd.prog 51 #[.agg #[.int .i64 (nOp op), .int .i64 (kOp op), .int .i64 (tOp op)], .int .i64 n] w (Bel (.int .i64 v) w) := by
  rw [← h]
  exact arity_any op n w
theorem rules_at (op : Int) (w : World) : Calls Tryd.prog 50 #[.int .i64 op] w (Bel (.agg #[.int .i64 (nOp op), .int .i64 (kOp op), .int .i64 (tOp op)]) w) := rules_any op w
theorem apply_bad (A : Option Addr) (c : Nat) (op : Int) (xs : List Int) (w : World) (hl : xs.length ≤ 9223372036854775807) (h : nOp op = 0 ∨ nOp op ≠ xs.length) :
    Calls Tryd.prog 27 #[.int .i64 op, .slice A xs.length c] w (Bel (.tuple #[.int .i64 (apV op xs), .int .i64 (apE op xs)]) w) := by
  obtain ⟨v, hv, hv2⟩ : ∃ v : Int, (if nOp op = 0 then 2 else if nOp op = xs.length then 0 else 9) = v ∧ (v = 2 ∨ v = 9) := by
    by_cases h0 : nOp op = 0
    · exact ⟨2, by rw [if_pos h0], .inl rfl⟩
    · exact ⟨9, by rw [if_neg h0, if_neg (by omega)], .inr rfl⟩
  have he : apE op xs = v := by
    rw [apE, ← hv]
    by_cases h0 : nOp op = 0
    · rw [if_pos h0, if_pos h0]
    · rw [if_neg h0, if_neg h0, if_neg (by omega), if_neg (by omega)]
  have ha : apV op xs = 0 := by rw [apV, he, if_neg (by omega)]
  rw [he, ha]
  have KA := Lib.hid (arity_at op xs.length v hv)
  have KR := Lib.hid (rules_at op)
  clear hv he ha h
  rcases hv2 with rfl | rfl
  all_goals
    go_enter Tryd.func27, Tryd.ntmps27
    go_wp2_with (first
      | (go_at_call 50; refine (KR.out _).mono ?_; rintro e w1 ⟨rfl, hb1⟩)
      | (go_at_call 51; refine (KA.out _).mono ?_; rintro e w2 ⟨rfl, hb2⟩))
    go_ret2
    exact ⟨rfl, (by repeat (first | (with_reducible exact Below.refl _ _) | (with_reducible assumption) | (with_reducible exact bel_box _) | (with_reducible refine bel_step ?_ (by with_reducible assumption)) | (with_reducible refine Below.drew ?_) | (with_reducible refine below_drewN ?_ _) | (with_reducible refine bel_alloc ?_ _)))⟩
theorem all_take_succ {α : Type} {p : α → Bool} {l : List α} {k : Nat} {x : α} (h : l[k]? = some x) : (l.take (k + 1)).all p = ((l.take k).all p && p x) := by
  rw [take_succ_of h]; simp
theorem all_bad {α : Type} {p : α → Bool} {l : List α} {k : Nat} {x : α} (h : l[k]? = some x) (hx : p x = false) : l.all p = false := by
  rw [List.all_eq_false]
  exact ⟨x, List.mem_of_getElem? h, by simp [hx]⟩
theorem add_one' (ad : Addr) : ad.add 1 = ⟨ad.block, ad.off + 1, none⟩ := by simp [Addr.add]
theorem len2 {α : Type} : ∀ {l : List α}, l.length = 2 → ∃ x y, l = [x, y]
  | [x, y], _ => ⟨x, y, rfl⟩
set_option maxHeartbeats 2000000 in
theorem apply_good (A : Option Addr) (c : Nat) (op : Int) (xs : List Int) (w : World) (hA : Rd w w.heap.size A (is_ xs)) (h0 : nOp op ≠ 0) (h : nOp op = xs.length) :
    Calls Tryd.prog 27 #[.int .i64 op, .slice A xs.length c] w (Bel (.tuple #[.int .i64 (apV op xs), .int .i64 (apE op xs)]) w) := by
  have he : apE op xs = if xs.all (okB op) then 0 else 14 := by rw [apE, if_neg h0, if_pos h]
  have hc := nOp_cases op
  have hl2 : xs.length = 1 ∨ xs.length = 2 := by omega
  have KA := Lib.hid (arity_at op xs.length 0 (by rw [if_neg h0, if_pos h]))
  have KR := Lib.hid (rules_at op)
  have KH := Lib.hid (fun t v w (ht : t ≤ 9223372036854775807) => (show Calls Tryd.prog 15 #[.slice none 0 0, .int .i64 t, .int .i64 v] w (Bel (.bool (hasB [] t v)) w) from has_any none 0 [] t v w (RdE.nil _ _ _) (by decide) ht))
  have HA := Lib.hid hA
  have HN := Lib.hid h
  have HE := Lib.hid he
  have H0 := Lib.hid h0
  have HC := Lib.hid hc
  clear hA h he h0 hc
  go_enter Tryd.func27, Tryd.ntmps27
  go_wp2_with (first
    | (go_at_call 50; refine (KR.out _).mono ?_; rintro e w1 ⟨rfl, hb1⟩)
    | (go_at_call 51; refine (KA.out _).mono ?_; rintro e w2 ⟨rfl, hb2⟩))
  go_loopw [21] (fun i wr => ∃ k : Nat, k ≤ xs.length ∧ i = .int .i64 k ∧ Hid ((xs.take k).all (okB op) = true) ∧ Below (w1.alloc (.cells #[.int .i64 (nOp op), .int .i64 (kOp op), .int .i64 (tOp op)] 63)).heap.size (w1.alloc (.cells #[.int .i64 (nOp op), .int .i64 (kOp op), .int .i64 (tOp op)] 63)) wr) (fun i _ => xs.length - (intOf i).toNat)
  case atStart => exact ⟨0, by omega, rfl, Lib.hid (by simp), hb2⟩
  case round =>
    obtain ⟨k, hk, rfl, hall, hbl⟩ := hrel
    obtain ⟨s1, s2, s3⟩ := box3 hbl
    have hbw : Below w.heap.size w wr := (by repeat (first | (with_reducible exact Below.refl _ _) | (with_reducible assumption) | (with_reducible exact bel_box _) | (with_reducible refine bel_step ?_ (by with_reducible assumption)) | (with_reducible refine Below.drew ?_) | (with_reducible refine below_drewN ?_ _) | (with_reducible refine bel_alloc ?_ _)))
    by_cases hlt : k < xs.length
    · obtain ⟨ad, x, rfl, hadb, hx, hcx⟩ := (HA.out.to hbw).int_at hlt
      by_cases hk0 : kOp op = 0
      · have ek : (kOp op != 0) = false := by simp [hk0]
        have HX := Lib.hid (ok_free op x hk0)
        clear hk0
        go_wp2
        go_roundw
        case rel => exact ⟨k + 1, by omega, by go_num, Lib.hid (by rw [all_take_succ hx, hall.out, HX.out]; rfl), hbl⟩
        case measure => simp [intOf]; omega
      · have ek : (kOp op != 0) = true := by simp [hk0]
        have kb : kOp op ≤ 9223372036854775807 := by have := kOp_cases op; omega
        have KHk := Lib.hid (fun w => KH.out (kOp op) x w kb)
        have hok := has_ok op x hk0
        clear hk0 kb
        rw [hok] at KHk
        clear hok
        by_cases hxo : okB op x = true
        · have HX := Lib.hid hxo
          rw [hxo] at KHk
          clear hxo
          go_wp2_with (go_at_call 15; refine (KHk.out _).mono ?_; rintro e w3 ⟨rfl, hb3⟩)
          go_roundw
          case rel => exact ⟨k + 1, by omega, by go_num, Lib.hid (by rw [all_take_succ hx, hall.out, HX.out]; rfl), hbl.trans (hb3.mono hbl.size)⟩
          case measure => simp [intOf]; omega
        · rw [Bool.not_eq_true] at hxo
          have HX := Lib.hid (all_bad hx hxo)
          rw [hxo] at KHk
          clear hxo
          go_wp2_with (go_at_call 15; refine (KHk.out _).mono ?_; rintro e w3 ⟨rfl, hb3⟩)
          have e2 : apE op xs = 14 := by rw [HE.out, HX.out]; rfl
          have e3 : apV op xs = 0 := by rw [apV, e2, if_neg (by omega)]
          rw [e2, e3]
          go_ret2
          exact ⟨rfl, (by repeat (first | (with_reducible exact Below.refl _ _) | (with_reducible assumption) | (with_reducible exact bel_box _) | (with_reducible refine bel_step ?_ (by with_reducible assumption)) | (with_reducible refine Below.drew ?_) | (with_reducible refine below_drewN ?_ _) | (with_reducible refine bel_alloc ?_ _)))⟩
    · have hall2 : xs.all (okB op) = true := by have := hall.out; rwa [List.take_of_length_le (by omega)] at this
      have e2 : apE op xs = 0 := by rw [HE.out, hall2]; rfl
      rcases hl2 with h1 | h2
      · obtain ⟨x, rfl⟩ : ∃ x, xs = [x] := List.length_eq_one_iff.1 h1
        have hn1 : nOp op = 1 := HN.out
        have e3 : apV op [x] = ap1 op x := by rw [apV, e2, if_pos rfl, if_pos hn1]; rfl
        obtain ⟨ad, y, rfl, hadb, hx, hcx⟩ := (HA.out.to hbw).int_at (k := 0) (by simp)
        obtain rfl : x = y := by simpa using hx
        have K1 := Lib.hid (fun w => ap1_any op x w (op1_cases hn1) (by simpa using hall2))
        have EE := Lib.hid (And.intro e2 e3)
        rw [add_zero'] at hcx
        have hn1b : (nOp op == 1) = true := by simp [hn1]
        obtain rfl : k = 1 := by simp at hlt hk; omega
        clear hn1 e2 e3 hall2 hx h1 hall hk hlt
        go_wp2_with (go_at_call 56; refine (K1.out _).mono ?_; rintro e w3 ⟨rfl, rfl⟩)
        go_ret2
        exact ⟨by rw [EE.out.1, EE.out.2]; rfl, hbw⟩
      · obtain ⟨x, y, rfl⟩ : ∃ x y, xs = [x, y] := len2 h2
        have hn1 : nOp op = 2 := HN.out
        have e3 : apV op [x, y] = ap2 op x y := by rw [apV, e2, if_pos rfl, if_neg (by omega)]; rfl
        obtain ⟨ad, x', rfl, hadb, hx, hcx⟩ := (HA.out.to hbw).int_at (k := 0) (by simp)
        obtain rfl : x = x' := by simpa using hx
        obtain ⟨ad', y', e4, _, hy, hcy⟩ := (HA.out.to hbw).int_at (k := 1) (by simp)
        obtain rfl : ad = ad' := by injection e4
        obtain rfl : y = y' := by simpa using hy
        have K1 := Lib.hid (fun w => ap2_any op x y w hn1 (by simp at hall2; exact hall2.1) (by simp at hall2; exact hall2.2))
        have EE := Lib.hid (And.intro e2 e3)
        rw [add_zero'] at hcx
        have hcy2 := hcy
        rw [add_one'] at hcy2
        have hn1b : (nOp op == 1) = false := by simp [hn1]
        obtain rfl : k = 2 := by simp at hlt hk; omega
        clear hn1 e2 e3 hall2 hx hy e4 h2 hall hk hlt
        go_wp2
        go_quiet ((go_at_call 57; exact Calls.quiet_of_same ((K1.out _).mono fun _ _ h => ⟨h.1, h.2.symm⟩)))
        go_wp2
        go_ret2
        exact ⟨by rw [EE.out.1, EE.out.2]; rfl, (by repeat (first | (with_reducible exact Below.refl _ _) | (with_reducible assumption) | (with_reducible exact bel_box _) | (with_reducible refine bel_step ?_ (by with_reducible assumption)) | (with_reducible refine Below.drew ?_) | (with_reducible refine below_drewN ?_ _) | (with_reducible refine bel_alloc ?_ _)))⟩
theorem apply_any (A : Option Addr) (c : Nat) (op : Int) (xs : List Int) (w : World) (hA : Rd w w.heap.size A (is_ xs)) (hl : xs.length ≤ 9223372036854775807) :
    Calls Tryd.prog 27 #[.int .i64 op, .slice A xs.length c] w (Bel (.tuple #[.int .i64 (apV op xs), .int .i64 (apE op xs)]) w) := by
  by_cases h0 : nOp op = 0
  · exact apply_bad A c op xs w hl (.inl h0)
  · by_cases h : nOp op = xs.length
    · exact apply_good A c op xs w hA h0 h
    · exact apply_bad A c op xs w hl (.inr h)
end Go.Proofs.YtjlkgejkgpnnkaaDoor
