/- The walk of ValueTyped. -/
import Derived.Test.YtjlkgejkgpnnkaaDoorVw
namespace Go.Proofs.YtjlkgejkgpnnkaaDoor
set_option linter.unusedVariables false
set_option linter.unusedSimpArgs false
open Go.RowKit
theorem has1 {es : List En} {v : Int} : hasB es 1 v = true ↔ (v = 0 ∨ v = 1) := by
  rw [hasB, if_neg (by decide), sizeT, if_neg (by decide), tagsOf, if_pos rfl]
  simp
  omega
theorem has2 {es : List En} {v : Int} : hasB es 2 v = true ↔ (-32768 ≤ v ∧ v ≤ 32767) := by
  rw [hasB, if_pos rfl]
  simp
theorem b01_01 (b : Bool) : b01 b = 0 ∨ b01 b = 1 := by cases b <;> simp [b01]
theorem wdiv_16 (a b : Int) : -32768 ≤ wdiv a b ∧ wdiv a b ≤ 32767 := by
  unfold wdiv
  split
  · omega
  · exact ⟨w16_lo _, w16_hi _⟩
theorem wmod_16 (a b : Int) : -32768 ≤ wmod a b ∧ wmod a b ≤ 32767 := by
  unfold wmod
  have h1 := w16_lo a
  have h2 := w16_hi a
  split
  · exact ⟨h1, h2⟩
  · rename_i hb
    have h := Int.natAbs_tmod (w16 a) (w16 b)
    have h3 : (w16 a).natAbs % (w16 b).natAbs ≤ (w16 a).natAbs := Nat.mod_le _ _
    rcases Int.lt_or_le (w16 a) 0 with h0 | h0
    · have h4 : (w16 a).tmod (w16 b) ≤ 0 := by
        have := Int.tmod_nonneg (a := -(w16 a)) (w16 b) (by omega)
        rw [Int.neg_tmod] at this
        omega
      omega
    · have h4 := Int.tmod_nonneg (w16 b) h0
      omega
theorem typed_math (es : List En) (op : Int) (ts xs : List Int) (hl : ts.length = xs.length) (hx : ∀ (i : Nat) (t x : Int), ts[i]? = some t → xs[i]? = some x → hasB es t x = true) :
    (resE op ts = 0 → apE op xs = 0 ∧ hasB es (resT op ts) (apV op xs) = true) ∧ (resE op ts ≠ 0 → apE op xs ≠ 0 ∨ resE op ts = 10) := by
  by_cases h0 : nOp op = 0
  · have e1 : resE op ts = 2 := by rw [resE, if_pos h0]
    have e2 : apE op xs = 2 := by rw [apE, if_pos h0]
    rw [e1, e2]
    exact ⟨fun h => absurd h (by decide), fun _ => .inl (by decide)⟩
  · by_cases h1 : nOp op = ts.length
    · have e1 : resE op ts = if ts.all (okT op ts) then 0 else 10 := by rw [resE, if_neg h0, if_pos h1]
      have e2 : apE op xs = if xs.all (okB op) then 0 else 14 := by rw [apE, if_neg h0, if_pos (by omega)]
      by_cases ha : ts.all (okT op ts) = true
      · refine ⟨fun _ => ?_, fun h => absurd (by rw [e1, if_pos ha]) h⟩
        have hall := List.all_eq_true.1 ha
        have hok : ∀ (i : Nat) (x : Int), xs[i]? = some x → okB op x = true := fun i x hxi => by
          have hi : i < ts.length := by have := (List.getElem?_eq_some_iff.1 hxi).1; omega
          have ht : ts[i]? = some ts[i] := List.getElem?_eq_getElem hi
          have h2 := hx i _ x ht hxi
          have h3 := hall _ (List.mem_of_getElem? ht)
          simp only [okT, Bool.and_eq_true, decide_eq_true_eq, beq_iff_eq] at h3
          rcases kOp_cases op with k | k | k
          · exact ok_free op x k
          · rw [h3.2, wantT, if_neg (by omega), k, has1] at h2
            rw [okB, if_pos k]
            simpa using h2
          · rw [h3.2, wantT, if_neg (by omega), k, has2] at h2
            rw [okB, if_neg (by omega), if_pos k]
            simpa using h2
        have hall2 : xs.all (okB op) = true := by
          rw [List.all_eq_true]
          intro x hxm
          obtain ⟨i, hi⟩ := List.getElem?_of_mem hxm
          exact hok i x hi
        have e3 : apE op xs = 0 := by rw [e2, if_pos hall2]
        refine ⟨e3, ?_⟩
        rw [resT, if_pos (by rw [e1, if_pos ha]), apV, if_pos e3]
        rcases nOp_cases op with n | n | n
        · exact absurd n h0
        · rw [if_pos n]
          obtain ⟨x, rfl⟩ : ∃ x, xs = [x] := List.length_eq_one_iff.1 (by omega)
          have hx0 := hok 0 x rfl
          rcases op1_cases n with rfl | rfl
          · show hasB es (tOp 1) (ap1 1 x) = true
            rw [show tOp 1 = 1 by decide, has1, ap1, if_pos rfl]
            have := ok01 hx0 (by decide)
            omega
          · show hasB es (tOp 2) (ap1 2 x) = true
            rw [show tOp 2 = 2 by decide, has2, ap1, if_neg (by decide)]
            exact ⟨w16_lo _, w16_hi _⟩
        · rw [if_neg (by omega)]
          obtain ⟨x, y, rfl⟩ : ∃ x y, xs = [x, y] := len2 (by omega)
          have hx0 := hok 0 x rfl
          have hy0 := hok 1 y rfl
          show hasB es (tOp op) (ap2 op x y) = true
          rcases op2_cases n with rfl | rfl | rfl | rfl | rfl | rfl | rfl | rfl | rfl | rfl | rfl | rfl | rfl | rfl
          · rw [show tOp 3 = 1 by decide, has1, show ap2 3 x y = x * y from rfl]
            rcases ok01 hx0 (by decide) with rfl | rfl <;> rcases ok01 hy0 (by decide) with rfl | rfl <;> simp
          · rw [show tOp 4 = 1 by decide, has1]; exact b01_01 _
          · rw [show tOp 5 = 1 by decide, has1]; exact b01_01 _
          · rw [show tOp 6 = 2 by decide, has2]; exact ⟨w16_lo _, w16_hi _⟩
          · rw [show tOp 7 = 2 by decide, has2]; exact ⟨w16_lo _, w16_hi _⟩
          · rw [show tOp 8 = 2 by decide, has2]; exact ⟨w16_lo _, w16_hi _⟩
          · rw [show tOp 9 = 2 by decide, has2]; exact wdiv_16 _ _
          · rw [show tOp 10 = 2 by decide, has2]; exact wmod_16 _ _
          · rw [show tOp 11 = 1 by decide, has1]; exact b01_01 _
          · rw [show tOp 12 = 1 by decide, has1]; exact b01_01 _
          · rw [show tOp 13 = 1 by decide, has1]; exact b01_01 _
          · rw [show tOp 14 = 1 by decide, has1]; exact b01_01 _
          · rw [show tOp 15 = 1 by decide, has1]; exact b01_01 _
          · rw [show tOp 16 = 1 by decide, has1]; exact b01_01 _
      · have e3 : resE op ts = 10 := by rw [e1, if_neg ha]
        exact ⟨(fun h => by rw [e3] at h; cases h), (fun _ => .inr e3)⟩
    · have e1 : resE op ts = 9 := by rw [resE, if_neg h0, if_neg h1]
      have e2 : apE op xs = 9 := by rw [apE, if_neg h0, if_neg (by omega)]
      rw [e1, e2]
      exact ⟨fun h => absurd h (by decide), fun _ => .inl (by decide)⟩
theorem Bk.drawn {w : World} {g : Nat} {t : TypeId} {cs : Array Value} (h : Bk w g t cs) (n : Nat) : Bk (w.drewN n) g t cs := h
theorem rd_pre {w : World} {g : Nat} {t : TypeId} {x y : Value} (h : Bk w g t #[x, y]) : Rd w w.heap.size (some ⟨g, 0, none⟩) [x] := fun _ => by
  refine ⟨_, rfl, h.lt, fun j u hu => ?_⟩
  rw [add_off, h.cell j]
  have hj : j = 0 := by have := (List.getElem?_eq_some_iff.1 hu).1; simpa using this
  subst hj
  simpa using hu
theorem typed_one (es : List En) (op t u a b : Int) (h1 : hasB es t a = true) (h2 : hasB es u b = true) :
    ((resE op [t] = 0 → apE op [a] = 0 ∧ hasB es (resT op [t]) (apV op [a]) = true) ∧ (resE op [t] ≠ 0 → apE op [a] ≠ 0 ∨ resE op [t] = 10)) ∧
    ((resE op [t, u] = 0 → apE op [a, b] = 0 ∧ hasB es (resT op [t, u]) (apV op [a, b]) = true) ∧ (resE op [t, u] ≠ 0 → apE op [a, b] ≠ 0 ∨ resE op [t, u] = 10)) := by
  refine ⟨typed_math es op [t] [a] rfl fun i p q hp hq => ?_, typed_math es op [t, u] [a, b] rfl fun i p q hp hq => ?_⟩
  · match i, hp, hq with
    | 0, hp, hq => obtain rfl : t = p := by simpa using hp
                   obtain rfl : a = q := by simpa using hq
                   exact h1
  · match i, hp, hq with
    | 0, hp, hq => obtain rfl : t = p := by simpa using hp
                   obtain rfl : a = q := by simpa using hq
                   exact h1
    | 1, hp, hq => obtain rfl : u = p := by simpa using hp
                   obtain rfl : b = q := by simpa using hq
                   exact h2
theorem resT_le (op : Int) (ts : List Int) : resT op ts ≤ 9223372036854775807 := by
  unfold resT tOp
  split
  · split
    · omega
    · split <;> omega
  · omega
set_option maxHeartbeats 4000000 in
theorem typed_any (op t u a b : Int) (w : World) (hs : Std w) (ht : t ≤ 9223372036854775807) (hu : u ≤ 9223372036854775807) :
    Calls Tryd.prog 8 #[.int .i64 op, .int .i64 t, .int .i64 u, .int .i64 a, .int .i64 b] w (Bel (.bool true) w) := by
  have HS := Lib.hid hs
  clear hs
  have hh : ∀ A' : Option Addr, hasB [⟨sLight, A', 2, [sRed, sGreen]⟩] = hasB [⟨sLight, none, 2, [sRed, sGreen]⟩] := fun A' => by
    funext p q
    have e : tagsOf [⟨sLight, A', 2, [sRed, sGreen]⟩] p = tagsOf [⟨sLight, none, 2, [sRed, sGreen]⟩] p := by
      unfold tagsOf
      rw [show enuB [⟨sLight, A', 2, [sRed, sGreen]⟩] p = enuB [⟨sLight, none, 2, [sRed, sGreen]⟩] p from rfl]
      rcases (p - 3).toNat with _ | n
      · rfl
      · simp
    rw [hasB, hasB, sizeT, sizeT, e]
  have KH : ∀ p q, p ≤ 9223372036854775807 → ∀ A A' w, RdE w w.heap.size A [⟨sLight, A', 2, [sRed, sGreen]⟩] → Calls Tryd.prog 15 #[.slice A 1 1, .int .i64 p, .int .i64 q] w (Bel (.bool (hasB [⟨sLight, none, 2, [sRed, sGreen]⟩] p q)) w) := fun p q hp A A' w h => by
    have k := has_any A 1 [⟨sLight, A', 2, [sRed, sGreen]⟩] p q w h (by simp) hp
    rw [hh] at k
    exact k
  generalize hes : ([⟨sLight, none, 2, [sRed, sGreen]⟩] : List En) = es at KH
  have HE := Lib.hid hes
  clear hes hh
  have K1 := Lib.hid (KH t a ht)
  have K2 := Lib.hid (KH u b hu)
  have KHH := Lib.hid KH
  clear KH ht hu
  by_cases h1 : hasB es t a = true
  · by_cases h2 : hasB es u b = true
    · obtain ⟨⟨m1, m2⟩, m3, m4⟩ := typed_one es op t u a b h1 h2
      rw [h1] at K1
      rw [h2] at K2
      clear h1 h2
      by_cases hop : op = 1 ∨ op = 2
      · rcases hop with rfl | rfl
        · have KR := Lib.hid (fun w A h => (show Calls Tryd.prog 25 #[.int .i64 1, .slice A 1 2] w (Bel (.tuple #[.int .i64 (resT 1 [t]), .int .i64 (resE 1 [t])]) w) from result_any A 2 1 [t] w h (by simp)))
          have KA := Lib.hid (fun w A h => (show Calls Tryd.prog 27 #[.int .i64 1, .slice A 1 2] w (Bel (.tuple #[.int .i64 (apV 1 [a]), .int .i64 (apE 1 [a])]) w) from apply_any A 2 1 [a] w h (by simp)))
          have KX := Lib.hid (KHH.out (resT 1 [t]) (apV 1 [a]) (resT_le _ _))
          have M1 := Lib.hid m1
          have M2 := Lib.hid m2
          clear m1 m2 m3 m4 KHH
          go_enter Tryd.func8, Tryd.ntmps8
          go_wp2_with (first
            | (go_at_call 29; refine (light_any _).mono ?_; rintro e w1 ⟨A, A', rfl, hr, hb1⟩; have hr1 := Lib.hid hr; clear hr)
            | (go_at_call 15; (with_reducible refine (K1.out _ _ _ (RdE.to hr1.out ?_)).mono ?_); (focus ((repeat (first | (with_reducible exact Below.refl _ _) | (with_reducible assumption) | (with_reducible exact bel_box _) | (with_reducible refine bel_step ?_ (by with_reducible assumption)) | (with_reducible refine Below.drew ?_) | (with_reducible refine below_drewN ?_ _) | (with_reducible refine bel_alloc ?_ _))); done)); rintro e w2 ⟨rfl, hb2⟩)
            | (go_at_call 15; (with_reducible refine (K2.out _ _ _ (RdE.to hr1.out ?_)).mono ?_); (focus ((repeat (first | (with_reducible exact Below.refl _ _) | (with_reducible assumption) | (with_reducible exact bel_box _) | (with_reducible refine bel_step ?_ (by with_reducible assumption)) | (with_reducible refine Below.drew ?_) | (with_reducible refine below_drewN ?_ _) | (with_reducible refine bel_alloc ?_ _))); done)); rintro e w3 ⟨rfl, hb3⟩))
          have hk0 : Bk ((w3.alloc (.cells #[.int .i64 t, .int .i64 u] 3)).alloc (.cells #[.int .i64 a, .int .i64 b] 3)) w3.heap.size 3 #[.int .i64 t, .int .i64 u] := (Bk.new _ _ _).alloc _
          have hk1 : Bk ((w3.alloc (.cells #[.int .i64 t, .int .i64 u] 3)).alloc (.cells #[.int .i64 a, .int .i64 b] 3)) (w3.heap.size + 1) 3 #[.int .i64 a, .int .i64 b] := by
            have h := Bk.new (w3.alloc (.cells #[.int .i64 t, .int .i64 u] 3)) 3 #[.int .i64 a, .int .i64 b]
            rwa [World.size_alloc] at h
          have HK0 := Lib.hid hk0
          have HK1 := Lib.hid hk1
          clear hk0 hk1
          go_quiet (fail)
          go_wp2_with fail
          refine (KR.out _ _ (rd_pre (HK0.out.drawn _))).mono ?_
          rintro e w4 ⟨rfl, hb4⟩
          have hk2 := Lib.hid ((HK1.out.drawn nq).below hb4 (HK1.out.drawn nq).lt)
          clear HK0 HK1
          go_wp2_with fail
          refine (KA.out _ _ (rd_pre hk2.out)).mono ?_
          rintro e w5 ⟨rfl, hb5⟩
          by_cases he : resE 1 [t] = 0
          · obtain ⟨f1, f2⟩ := M1.out he
            rw [f2] at KX
            clear f2
            go_wp2_with (first
              | (go_at_call 15; (with_reducible refine (KX.out _ _ _ (RdE.to hr1.out ?_)).mono ?_); (focus ((repeat (first | (with_reducible exact Below.refl _ _) | (with_reducible assumption) | (with_reducible exact bel_box _) | (with_reducible refine bel_step ?_ (by with_reducible assumption)) | (with_reducible refine Below.drew ?_) | (with_reducible refine below_drewN ?_ _) | (with_reducible refine bel_alloc ?_ _))); done)); rintro e w6 ⟨rfl, hb6⟩)
              | (go_at_call 12; refine (awake_any _ (HS.out.to ?_)).mono ?_; (focus ((repeat (first | (with_reducible exact Below.refl _ _) | (with_reducible assumption) | (with_reducible exact bel_box _) | (with_reducible refine bel_step ?_ (by with_reducible assumption)) | (with_reducible refine Below.drew ?_) | (with_reducible refine below_drewN ?_ _) | (with_reducible refine bel_alloc ?_ _))); done)); rintro e w9 ⟨rfl, hb9⟩))
            go_ret
            exact ⟨rfl, (by repeat (first | (with_reducible exact Below.refl _ _) | (with_reducible assumption) | (with_reducible exact bel_box _) | (with_reducible refine bel_step ?_ (by with_reducible assumption)) | (with_reducible refine Below.drew ?_) | (with_reducible refine below_drewN ?_ _) | (with_reducible refine bel_alloc ?_ _)))⟩
          · have heb : (resE 1 [t] == 0) = false := by simpa using he
            have heb2 : (resE 1 [t] != 0) = true := by simpa using he
            by_cases hf : apE 1 [a] = 0
            · have h10 : resE 1 [t] = 10 := by rcases M2.out he with h | h; exact absurd hf h; exact h
              clear he
              go_wp2_with (go_at_call 12; refine (awake_any _ (HS.out.to ?_)).mono ?_; (focus ((repeat (first | (with_reducible exact Below.refl _ _) | (with_reducible assumption) | (with_reducible exact bel_box _) | (with_reducible refine bel_step ?_ (by with_reducible assumption)) | (with_reducible refine Below.drew ?_) | (with_reducible refine below_drewN ?_ _) | (with_reducible refine bel_alloc ?_ _))); done)); rintro e w9 ⟨rfl, hb9⟩)
              go_ret
              exact ⟨rfl, (by repeat (first | (with_reducible exact Below.refl _ _) | (with_reducible assumption) | (with_reducible exact bel_box _) | (with_reducible refine bel_step ?_ (by with_reducible assumption)) | (with_reducible refine Below.drew ?_) | (with_reducible refine below_drewN ?_ _) | (with_reducible refine bel_alloc ?_ _)))⟩
            · have hfb : (apE 1 [a] != 0) = true := by simpa using hf
              clear he hf
              go_wp2_with (go_at_call 12; refine (awake_any _ (HS.out.to ?_)).mono ?_; (focus ((repeat (first | (with_reducible exact Below.refl _ _) | (with_reducible assumption) | (with_reducible exact bel_box _) | (with_reducible refine bel_step ?_ (by with_reducible assumption)) | (with_reducible refine Below.drew ?_) | (with_reducible refine below_drewN ?_ _) | (with_reducible refine bel_alloc ?_ _))); done)); rintro e w9 ⟨rfl, hb9⟩)
              go_ret
              exact ⟨rfl, (by repeat (first | (with_reducible exact Below.refl _ _) | (with_reducible assumption) | (with_reducible exact bel_box _) | (with_reducible refine bel_step ?_ (by with_reducible assumption)) | (with_reducible refine Below.drew ?_) | (with_reducible refine below_drewN ?_ _) | (with_reducible refine bel_alloc ?_ _)))⟩
        · have KR := Lib.hid (fun w A h => (show Calls Tryd.prog 25 #[.int .i64 2, .slice A 1 2] w (Bel (.tuple #[.int .i64 (resT 2 [t]), .int .i64 (resE 2 [t])]) w) from result_any A 2 2 [t] w h (by simp)))
          have KA := Lib.hid (fun w A h => (show Calls Tryd.prog 27 #[.int .i64 2, .slice A 1 2] w (Bel (.tuple #[.int .i64 (apV 2 [a]), .int .i64 (apE 2 [a])]) w) from apply_any A 2 2 [a] w h (by simp)))
          have KX := Lib.hid (KHH.out (resT 2 [t]) (apV 2 [a]) (resT_le _ _))
          have M1 := Lib.hid m1
          have M2 := Lib.hid m2
          clear m1 m2 m3 m4 KHH
          go_enter Tryd.func8, Tryd.ntmps8
          go_wp2_with (first
            | (go_at_call 29; refine (light_any _).mono ?_; rintro e w1 ⟨A, A', rfl, hr, hb1⟩; have hr1 := Lib.hid hr; clear hr)
            | (go_at_call 15; (with_reducible refine (K1.out _ _ _ (RdE.to hr1.out ?_)).mono ?_); (focus ((repeat (first | (with_reducible exact Below.refl _ _) | (with_reducible assumption) | (with_reducible exact bel_box _) | (with_reducible refine bel_step ?_ (by with_reducible assumption)) | (with_reducible refine Below.drew ?_) | (with_reducible refine below_drewN ?_ _) | (with_reducible refine bel_alloc ?_ _))); done)); rintro e w2 ⟨rfl, hb2⟩)
            | (go_at_call 15; (with_reducible refine (K2.out _ _ _ (RdE.to hr1.out ?_)).mono ?_); (focus ((repeat (first | (with_reducible exact Below.refl _ _) | (with_reducible assumption) | (with_reducible exact bel_box _) | (with_reducible refine bel_step ?_ (by with_reducible assumption)) | (with_reducible refine Below.drew ?_) | (with_reducible refine below_drewN ?_ _) | (with_reducible refine bel_alloc ?_ _))); done)); rintro e w3 ⟨rfl, hb3⟩))
          have hk0 : Bk ((w3.alloc (.cells #[.int .i64 t, .int .i64 u] 3)).alloc (.cells #[.int .i64 a, .int .i64 b] 3)) w3.heap.size 3 #[.int .i64 t, .int .i64 u] := (Bk.new _ _ _).alloc _
          have hk1 : Bk ((w3.alloc (.cells #[.int .i64 t, .int .i64 u] 3)).alloc (.cells #[.int .i64 a, .int .i64 b] 3)) (w3.heap.size + 1) 3 #[.int .i64 a, .int .i64 b] := by
            have h := Bk.new (w3.alloc (.cells #[.int .i64 t, .int .i64 u] 3)) 3 #[.int .i64 a, .int .i64 b]
            rwa [World.size_alloc] at h
          have HK0 := Lib.hid hk0
          have HK1 := Lib.hid hk1
          clear hk0 hk1
          go_quiet (fail)
          go_wp2_with fail
          refine (KR.out _ _ (rd_pre (HK0.out.drawn _))).mono ?_
          rintro e w4 ⟨rfl, hb4⟩
          have hk2 := Lib.hid ((HK1.out.drawn nq).below hb4 (HK1.out.drawn nq).lt)
          clear HK0 HK1
          go_wp2_with fail
          refine (KA.out _ _ (rd_pre hk2.out)).mono ?_
          rintro e w5 ⟨rfl, hb5⟩
          by_cases he : resE 2 [t] = 0
          · obtain ⟨f1, f2⟩ := M1.out he
            rw [f2] at KX
            clear f2
            go_wp2_with (first
              | (go_at_call 15; (with_reducible refine (KX.out _ _ _ (RdE.to hr1.out ?_)).mono ?_); (focus ((repeat (first | (with_reducible exact Below.refl _ _) | (with_reducible assumption) | (with_reducible exact bel_box _) | (with_reducible refine bel_step ?_ (by with_reducible assumption)) | (with_reducible refine Below.drew ?_) | (with_reducible refine below_drewN ?_ _) | (with_reducible refine bel_alloc ?_ _))); done)); rintro e w6 ⟨rfl, hb6⟩)
              | (go_at_call 12; refine (awake_any _ (HS.out.to ?_)).mono ?_; (focus ((repeat (first | (with_reducible exact Below.refl _ _) | (with_reducible assumption) | (with_reducible exact bel_box _) | (with_reducible refine bel_step ?_ (by with_reducible assumption)) | (with_reducible refine Below.drew ?_) | (with_reducible refine below_drewN ?_ _) | (with_reducible refine bel_alloc ?_ _))); done)); rintro e w9 ⟨rfl, hb9⟩))
            go_ret
            exact ⟨rfl, (by repeat (first | (with_reducible exact Below.refl _ _) | (with_reducible assumption) | (with_reducible exact bel_box _) | (with_reducible refine bel_step ?_ (by with_reducible assumption)) | (with_reducible refine Below.drew ?_) | (with_reducible refine below_drewN ?_ _) | (with_reducible refine bel_alloc ?_ _)))⟩
          · have heb : (resE 2 [t] == 0) = false := by simpa using he
            have heb2 : (resE 2 [t] != 0) = true := by simpa using he
            by_cases hf : apE 2 [a] = 0
            · have h10 : resE 2 [t] = 10 := by rcases M2.out he with h | h; exact absurd hf h; exact h
              clear he
              go_wp2_with (go_at_call 12; refine (awake_any _ (HS.out.to ?_)).mono ?_; (focus ((repeat (first | (with_reducible exact Below.refl _ _) | (with_reducible assumption) | (with_reducible exact bel_box _) | (with_reducible refine bel_step ?_ (by with_reducible assumption)) | (with_reducible refine Below.drew ?_) | (with_reducible refine below_drewN ?_ _) | (with_reducible refine bel_alloc ?_ _))); done)); rintro e w9 ⟨rfl, hb9⟩)
              go_ret
              exact ⟨rfl, (by repeat (first | (with_reducible exact Below.refl _ _) | (with_reducible assumption) | (with_reducible exact bel_box _) | (with_reducible refine bel_step ?_ (by with_reducible assumption)) | (with_reducible refine Below.drew ?_) | (with_reducible refine below_drewN ?_ _) | (with_reducible refine bel_alloc ?_ _)))⟩
            · have hfb : (apE 2 [a] != 0) = true := by simpa using hf
              clear he hf
              go_wp2_with (go_at_call 12; refine (awake_any _ (HS.out.to ?_)).mono ?_; (focus ((repeat (first | (with_reducible exact Below.refl _ _) | (with_reducible assumption) | (with_reducible exact bel_box _) | (with_reducible refine bel_step ?_ (by with_reducible assumption)) | (with_reducible refine Below.drew ?_) | (with_reducible refine below_drewN ?_ _) | (with_reducible refine bel_alloc ?_ _))); done)); rintro e w9 ⟨rfl, hb9⟩)
              go_ret
              exact ⟨rfl, (by repeat (first | (with_reducible exact Below.refl _ _) | (with_reducible assumption) | (with_reducible exact bel_box _) | (with_reducible refine bel_step ?_ (by with_reducible assumption)) | (with_reducible refine Below.drew ?_) | (with_reducible refine below_drewN ?_ _) | (with_reducible refine bel_alloc ?_ _)))⟩
      · have o1 : (op == 1) = false := by rw [beq_eq_false_iff_ne]; omega
        have o2 : (op == 2) = false := by rw [beq_eq_false_iff_ne]; omega
        have KR := Lib.hid (fun w A h => (show Calls Tryd.prog 25 #[.int .i64 op, .slice A 2 2] w (Bel (.tuple #[.int .i64 (resT op [t, u]), .int .i64 (resE op [t, u])]) w) from result_any A 2 op [t, u] w h (by simp)))
        have KA := Lib.hid (fun w A h => (show Calls Tryd.prog 27 #[.int .i64 op, .slice A 2 2] w (Bel (.tuple #[.int .i64 (apV op [a, b]), .int .i64 (apE op [a, b])]) w) from apply_any A 2 op [a, b] w h (by simp)))
        have KX := Lib.hid (KHH.out (resT op [t, u]) (apV op [a, b]) (resT_le _ _))
        have M1 := Lib.hid m3
        have M2 := Lib.hid m4
        clear m1 m2 m3 m4 KHH
        clear hop
        go_enter Tryd.func8, Tryd.ntmps8
        go_wp2_with (first
          | (go_at_call 29; refine (light_any _).mono ?_; rintro e w1 ⟨A, A', rfl, hr, hb1⟩; have hr1 := Lib.hid hr; clear hr)
          | (go_at_call 15; (with_reducible refine (K1.out _ _ _ (RdE.to hr1.out ?_)).mono ?_); (focus ((repeat (first | (with_reducible exact Below.refl _ _) | (with_reducible assumption) | (with_reducible exact bel_box _) | (with_reducible refine bel_step ?_ (by with_reducible assumption)) | (with_reducible refine Below.drew ?_) | (with_reducible refine below_drewN ?_ _) | (with_reducible refine bel_alloc ?_ _))); done)); rintro e w2 ⟨rfl, hb2⟩)
          | (go_at_call 15; (with_reducible refine (K2.out _ _ _ (RdE.to hr1.out ?_)).mono ?_); (focus ((repeat (first | (with_reducible exact Below.refl _ _) | (with_reducible assumption) | (with_reducible exact bel_box _) | (with_reducible refine bel_step ?_ (by with_reducible assumption)) | (with_reducible refine Below.drew ?_) | (with_reducible refine below_drewN ?_ _) | (with_reducible refine bel_alloc ?_ _))); done)); rintro e w3 ⟨rfl, hb3⟩))
        have hk0 : Bk ((w3.alloc (.cells #[.int .i64 t, .int .i64 u] 3)).alloc (.cells #[.int .i64 a, .int .i64 b] 3)) w3.heap.size 3 #[.int .i64 t, .int .i64 u] := (Bk.new _ _ _).alloc _
        have hk1 : Bk ((w3.alloc (.cells #[.int .i64 t, .int .i64 u] 3)).alloc (.cells #[.int .i64 a, .int .i64 b] 3)) (w3.heap.size + 1) 3 #[.int .i64 a, .int .i64 b] := by
          have h := Bk.new (w3.alloc (.cells #[.int .i64 t, .int .i64 u] 3)) 3 #[.int .i64 a, .int .i64 b]
          rwa [World.size_alloc] at h
        have HK0 := Lib.hid hk0
        have HK1 := Lib.hid hk1
        clear hk0 hk1
        refine (KR.out _ _ (rd_blk HK0.out)).mono ?_
        rintro e w4 ⟨rfl, hb4⟩
        have hk2 := Lib.hid (HK1.out.below hb4 HK1.out.lt)
        clear HK0 HK1
        go_wp2_with fail
        refine (KA.out _ _ (rd_blk hk2.out)).mono ?_
        rintro e w5 ⟨rfl, hb5⟩
        by_cases he : resE op [t, u] = 0
        · obtain ⟨f1, f2⟩ := M1.out he
          rw [f2] at KX
          clear f2
          go_wp2_with (first
            | (go_at_call 15; (with_reducible refine (KX.out _ _ _ (RdE.to hr1.out ?_)).mono ?_); (focus ((repeat (first | (with_reducible exact Below.refl _ _) | (with_reducible assumption) | (with_reducible exact bel_box _) | (with_reducible refine bel_step ?_ (by with_reducible assumption)) | (with_reducible refine Below.drew ?_) | (with_reducible refine below_drewN ?_ _) | (with_reducible refine bel_alloc ?_ _))); done)); rintro e w6 ⟨rfl, hb6⟩)
            | (go_at_call 12; refine (awake_any _ (HS.out.to ?_)).mono ?_; (focus ((repeat (first | (with_reducible exact Below.refl _ _) | (with_reducible assumption) | (with_reducible exact bel_box _) | (with_reducible refine bel_step ?_ (by with_reducible assumption)) | (with_reducible refine Below.drew ?_) | (with_reducible refine below_drewN ?_ _) | (with_reducible refine bel_alloc ?_ _))); done)); rintro e w9 ⟨rfl, hb9⟩))
          go_ret
          exact ⟨rfl, (by repeat (first | (with_reducible exact Below.refl _ _) | (with_reducible assumption) | (with_reducible exact bel_box _) | (with_reducible refine bel_step ?_ (by with_reducible assumption)) | (with_reducible refine Below.drew ?_) | (with_reducible refine below_drewN ?_ _) | (with_reducible refine bel_alloc ?_ _)))⟩
        · have heb : (resE op [t, u] == 0) = false := by simpa using he
          have heb2 : (resE op [t, u] != 0) = true := by simpa using he
          by_cases hf : apE op [a, b] = 0
          · have h10 : resE op [t, u] = 10 := by rcases M2.out he with h | h; exact absurd hf h; exact h
            clear he
            go_wp2_with (go_at_call 12; refine (awake_any _ (HS.out.to ?_)).mono ?_; (focus ((repeat (first | (with_reducible exact Below.refl _ _) | (with_reducible assumption) | (with_reducible exact bel_box _) | (with_reducible refine bel_step ?_ (by with_reducible assumption)) | (with_reducible refine Below.drew ?_) | (with_reducible refine below_drewN ?_ _) | (with_reducible refine bel_alloc ?_ _))); done)); rintro e w9 ⟨rfl, hb9⟩)
            go_ret
            exact ⟨rfl, (by repeat (first | (with_reducible exact Below.refl _ _) | (with_reducible assumption) | (with_reducible exact bel_box _) | (with_reducible refine bel_step ?_ (by with_reducible assumption)) | (with_reducible refine Below.drew ?_) | (with_reducible refine below_drewN ?_ _) | (with_reducible refine bel_alloc ?_ _)))⟩
          · have hfb : (apE op [a, b] != 0) = true := by simpa using hf
            clear he hf
            go_wp2_with (go_at_call 12; refine (awake_any _ (HS.out.to ?_)).mono ?_; (focus ((repeat (first | (with_reducible exact Below.refl _ _) | (with_reducible assumption) | (with_reducible exact bel_box _) | (with_reducible refine bel_step ?_ (by with_reducible assumption)) | (with_reducible refine Below.drew ?_) | (with_reducible refine below_drewN ?_ _) | (with_reducible refine bel_alloc ?_ _))); done)); rintro e w9 ⟨rfl, hb9⟩)
            go_ret
            exact ⟨rfl, (by repeat (first | (with_reducible exact Below.refl _ _) | (with_reducible assumption) | (with_reducible exact bel_box _) | (with_reducible refine bel_step ?_ (by with_reducible assumption)) | (with_reducible refine Below.drew ?_) | (with_reducible refine below_drewN ?_ _) | (with_reducible refine bel_alloc ?_ _)))⟩
    · rw [Bool.not_eq_true] at h2
      rw [h1] at K1
      rw [h2] at K2
      clear h1 h2
      go_enter Tryd.func8, Tryd.ntmps8
      go_wp2_with (first
        | (go_at_call 29; refine (light_any _).mono ?_; rintro e w1 ⟨A, A', rfl, hr, hb1⟩; have hr1 := Lib.hid hr; clear hr)
        | (go_at_call 15; (with_reducible refine (K1.out _ _ _ (RdE.to hr1.out ?_)).mono ?_); (focus ((repeat (first | (with_reducible exact Below.refl _ _) | (with_reducible assumption) | (with_reducible exact bel_box _) | (with_reducible refine bel_step ?_ (by with_reducible assumption)) | (with_reducible refine Below.drew ?_) | (with_reducible refine below_drewN ?_ _) | (with_reducible refine bel_alloc ?_ _))); done)); rintro e w2 ⟨rfl, hb2⟩)
        | (go_at_call 15; (with_reducible refine (K2.out _ _ _ (RdE.to hr1.out ?_)).mono ?_); (focus ((repeat (first | (with_reducible exact Below.refl _ _) | (with_reducible assumption) | (with_reducible exact bel_box _) | (with_reducible refine bel_step ?_ (by with_reducible assumption)) | (with_reducible refine Below.drew ?_) | (with_reducible refine below_drewN ?_ _) | (with_reducible refine bel_alloc ?_ _))); done)); rintro e w2 ⟨rfl, hb2⟩)
        | (go_at_call 12; refine (awake_any _ (HS.out.to ?_)).mono ?_; (focus ((repeat (first | (with_reducible exact Below.refl _ _) | (with_reducible assumption) | (with_reducible exact bel_box _) | (with_reducible refine bel_step ?_ (by with_reducible assumption)) | (with_reducible refine Below.drew ?_) | (with_reducible refine below_drewN ?_ _) | (with_reducible refine bel_alloc ?_ _))); done)); rintro e w9 ⟨rfl, hb9⟩))
      go_ret
      exact ⟨rfl, (by repeat (first | (with_reducible exact Below.refl _ _) | (with_reducible assumption) | (with_reducible exact bel_box _) | (with_reducible refine bel_step ?_ (by with_reducible assumption)) | (with_reducible refine Below.drew ?_) | (with_reducible refine below_drewN ?_ _) | (with_reducible refine bel_alloc ?_ _)))⟩
  · rw [Bool.not_eq_true] at h1
    rw [h1] at K1
    clear h1
    go_enter Tryd.func8, Tryd.ntmps8
    go_wp2_with (first
      | (go_at_call 29; refine (light_any _).mono ?_; rintro e w1 ⟨A, A', rfl, hr, hb1⟩; have hr1 := Lib.hid hr; clear hr)
      | (go_at_call 15; (with_reducible refine (K1.out _ _ _ (RdE.to hr1.out ?_)).mono ?_); (focus ((repeat (first | (with_reducible exact Below.refl _ _) | (with_reducible assumption) | (with_reducible exact bel_box _) | (with_reducible refine bel_step ?_ (by with_reducible assumption)) | (with_reducible refine Below.drew ?_) | (with_reducible refine below_drewN ?_ _) | (with_reducible refine bel_alloc ?_ _))); done)); rintro e w2 ⟨rfl, hb2⟩)
      | (go_at_call 12; refine (awake_any _ (HS.out.to ?_)).mono ?_; (focus ((repeat (first | (with_reducible exact Below.refl _ _) | (with_reducible assumption) | (with_reducible exact bel_box _) | (with_reducible refine bel_step ?_ (by with_reducible assumption)) | (with_reducible refine Below.drew ?_) | (with_reducible refine below_drewN ?_ _) | (with_reducible refine bel_alloc ?_ _))); done)); rintro e w9 ⟨rfl, hb9⟩))
    go_ret
    exact ⟨rfl, (by repeat (first | (with_reducible exact Below.refl _ _) | (with_reducible assumption) | (with_reducible exact bel_box _) | (with_reducible refine bel_step ?_ (by with_reducible assumption)) | (with_reducible refine Below.drew ?_) | (with_reducible refine below_drewN ?_ _) | (with_reducible refine bel_alloc ?_ _)))⟩
end Go.Proofs.YtjlkgejkgpnnkaaDoor
