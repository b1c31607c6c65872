/- Decimal of the reference. -/
import Derived.Test.YtjlkgejkgpnnkaaDoorVz
import Derived.Test.YtjlkgejkgpnnkaaDoorVn
import Derived.Laws.IdiomStrings
import Derived.Laws.Concat
import Derived.IntWalk
namespace Go.Proofs.YtjlkgejkgpnnkaaDoor
set_option linter.unusedVariables false
set_option linter.unusedSimpArgs false
open Go.RowKit
theorem dig_wrap (d : Nat) (h : d < 10) : IntKind.u8.wrap (48 + (d : Int)) = ((UInt8.ofNat (48 + d)).toNat : Int) := by
  have e : (UInt8.ofNat (48 + d)).toNat = 48 + d := by
    rw [UInt8.toNat_ofNat']
    omega
  rw [e]
  simp only [IntKind.wrap, IntKind.signed, IntKind.bits]
  simp
  omega
theorem conv_one (W : World) (b : UInt8) : (convert 67 9 (.slice (some ⟨W.heap.size, 0, none⟩) 1 1)).run Tryd.prog (W.alloc (.cells #[.int .u8 (b.toNat : Int)] 5)) = .ok (.string ⟨#[b]⟩) (W.alloc (.cells #[.int .u8 (b.toNat : Int)] 5)) := by
  have k := run_convert_bytes_back (P := Tryd.prog) (W.alloc (.cells #[.int .u8 (b.toNat : Int)] 5)) 67 9 5 ⟨W.heap.size, 0, none⟩ 1 [b] Tryd.underlying67 Tryd.underlying5 Tryd.underlying9
    (fun j hj => by
      rw [add_off, cell_of_row _ _ j _ _ (0, 0) (heap_alloc_new W _)]
      obtain rfl : j = 0 := by simpa using hj
      rfl)
  exact k
theorem dec_small (u : Nat) (h : u < 10) (w : World) : Calls Tryd.prog 46 #[.int .i64 u] w (Bel (.string ⟨(Lib.decDigits u).toArray⟩) w) := by
  have hw := dig_wrap u h
  have kc := fun W => conv_one W (UInt8.ofNat (48 + u))
  rw [Go.Lib.decDigits_one h]
  generalize UInt8.ofNat (48 + u) = b at *
  go_enter Tryd.func46, Tryd.ntmps46
  go_wp2
  go_ret
  exact ⟨rfl, (by repeat (first | (with_reducible exact Below.refl _ _) | (with_reducible assumption) | (with_reducible exact bel_box _) | (with_reducible refine bel_step ?_ (by with_reducible assumption)) | (with_reducible refine Below.drew ?_) | (with_reducible refine below_drewN ?_ _) | (with_reducible refine bel_alloc ?_ _)))⟩
theorem nDig_le (u : Nat) (h : u ≤ 100000) : Lib.nDigits u ≤ 6 := by
  rcases Nat.lt_or_ge u 10 with h1 | h1
  · rw [Go.Lib.nDigits_small h1]; omega
  rw [Go.Lib.nDigits_big (by omega)]
  rcases Nat.lt_or_ge (u / 10) 10 with h2 | h2
  · rw [Go.Lib.nDigits_small h2]; omega
  rw [Go.Lib.nDigits_big (by omega)]
  rcases Nat.lt_or_ge (u / 10 / 10) 10 with h3 | h3
  · rw [Go.Lib.nDigits_small h3]; omega
  rw [Go.Lib.nDigits_big (by omega)]
  rcases Nat.lt_or_ge (u / 10 / 10 / 10) 10 with h4 | h4
  · rw [Go.Lib.nDigits_small h4]; omega
  rw [Go.Lib.nDigits_big (by omega)]
  rcases Nat.lt_or_ge (u / 10 / 10 / 10 / 10) 10 with h5 | h5
  · rw [Go.Lib.nDigits_small h5]; omega
  rw [Go.Lib.nDigits_big (by omega), Go.Lib.nDigits_small (by omega)]
  omega
theorem dec_size (u : Nat) (h : u ≤ 100000) : (ByteArray.mk (Lib.decDigits u).toArray).size ≤ 6 := by
  rw [ByteArray.size, List.size_toArray, Go.Lib.decDigits_length]
  exact nDig_le u h
theorem conv_at (b : UInt8) (W : World) (g : Nat) (h : W.cell? ⟨g, 0, none⟩ = some (.int .u8 (b.toNat : Int))) : (convert 67 9 (.slice (some ⟨g, 0, none⟩) 1 1)).run Tryd.prog W = .ok (.string ⟨#[b]⟩) W :=
  run_convert_bytes_back (P := Tryd.prog) W 67 9 5 ⟨g, 0, none⟩ 1 [b] Tryd.underlying67 Tryd.underlying5 Tryd.underlying9 (fun j hj => by
    obtain rfl : j = 0 := by simpa using hj
    rw [add_off]
    exact h)
theorem cell_new1 {w W' : World} {v : Value} {t : TypeId} (hb : Below ((w.alloc (.cells #[v] t)).drew).heap.size ((w.alloc (.cells #[v] t)).drew) W') : W'.cell? ⟨w.heap.size, 0, none⟩ = some v := by
  refine (hb.cell (p := ⟨w.heap.size, 0, none⟩) (by simp)).trans ?_
  exact cell_of_row (w.alloc (.cells #[v] t)) w.heap.size 0 #[v] t (0, 0) (heap_alloc_new w _)
theorem dec_step (q r : Nat) (hr : r < 10) (hq : 1 ≤ q) (hu : q ≤ 10000) (w : World) (ih : ∀ w, Calls Tryd.prog 46 #[.int .i64 (q : Int)] w (Bel (.string ⟨(Lib.decDigits q).toArray⟩) w)) :
    Calls Tryd.prog 46 #[.int .i64 ((10 * q + r : Nat) : Int)] w (Bel (.string ⟨(Lib.decDigits (10 * q + r)).toArray⟩) w) := by
  have hw := dig_wrap r hr
  have hd : Lib.decDigits (10 * q + r) = Lib.decDigits q ++ [UInt8.ofNat (48 + r)] := by
    rw [Lib.decDigits, dif_neg (by omega), show (10 * q + r) / 10 = q by omega, show (10 * q + r) % 10 = r by omega]
  have kc := fun W g => conv_at (UInt8.ofNat (48 + r)) W g
  generalize UInt8.ofNat (48 + r) = b at *
  have hsz : (ByteArray.mk (Lib.decDigits q).toArray).size + (ByteArray.mk #[b]).size ≤ 9223372036854775807 := by
    have := dec_size q (by omega)
    have e : (ByteArray.mk #[b]).size = 1 := rfl
    omega
  have ka := fun w => run_string_add_sum (P := Tryd.prog) w _ _ hsz
  rw [hd]
  have hcat : (ByteArray.mk (Lib.decDigits q).toArray) ++ (ByteArray.mk #[b]) = ⟨(Lib.decDigits q ++ [b]).toArray⟩ := by
    apply ByteArray.ext
    simp
  rw [hcat] at ka
  generalize Lib.decDigits q ++ [b] = l2 at *
  generalize Lib.decDigits q = l1 at *
  have KI := Lib.hid ih
  clear hsz ih hd hcat
  obtain ⟨u, hu2⟩ : ∃ u : Int, u = ((10 * q + r : Nat) : Int) := ⟨_, rfl⟩
  rw [← hu2]
  have f1 : u.tdiv 10 = (q : Int) := by rw [Int.tdiv_eq_ediv_of_nonneg (by omega)]; omega
  have f2 : u.tmod 10 = (r : Int) := by rw [Int.tmod_eq_emod_of_nonneg (by omega)]; omega
  have f3 : IntKind.i64.wrap (q : Int) = (q : Int) := Go.IntWalk.i64_in _ ⟨by omega, by omega⟩
  have f4 : IntKind.i64.wrap (48 + (r : Int)) = 48 + (r : Int) := Go.IntWalk.i64_in _ ⟨by omega, by omega⟩
  have g1 : 10 ≤ u := by omega
  have g2 : u ≤ 100010 := by omega
  clear hu2 hr hq hu
  go_enter Tryd.func46, Tryd.ntmps46
  go_wp2
  go_region_with (go_at_call 46; (with_reducible refine (KI.out _).mono ?_); rintro e w1 ⟨rfl, hb1⟩; (first | (with_reducible have hx := cell_new1 hb1) | skip))
  all_goals go_wp2
  all_goals go_ret
  all_goals exact ⟨rfl, (by repeat (first | (with_reducible exact Below.refl _ _) | (with_reducible assumption) | (with_reducible exact bel_box _) | (with_reducible refine bel_step ?_ (by with_reducible assumption)) | (with_reducible refine Below.drew ?_) | (with_reducible refine below_drewN ?_ _) | (with_reducible refine bel_alloc ?_ _)))⟩
theorem dec_nat (u : Nat) (hu : u ≤ 100000) : ∀ w, Calls Tryd.prog 46 #[.int .i64 (u : Int)] w (Bel (.string ⟨(Lib.decDigits u).toArray⟩) w) := by
  induction u using Nat.strongRecOn with
  | _ u ih =>
    intro w
    by_cases h : u < 10
    · exact dec_small u h w
    · have k := dec_step (u / 10) (u % 10) (by omega) (by omega) (by omega) w (ih (u / 10) (by omega) (by omega))
      rw [show 10 * (u / 10) + u % 10 = u by omega] at k
      exact k
theorem decimal_any (n : Int) (w : World) (h0 : -32768 ≤ n) (h1 : n ≤ 32767) : Calls Tryd.prog 46 #[.int .i64 n] w (Bel (.string ⟨(Lib.itoa n).toArray⟩) w) := by
  by_cases hn : n < 0
  · obtain ⟨u, hun⟩ : ∃ u : Nat, (u : Int) = -n := ⟨n.natAbs, by omega⟩
    have e : Lib.itoa n = 45 :: Lib.decDigits u := by rw [Lib.itoa, if_pos hn, show n.natAbs = u by omega]
    have hsz : (ByteArray.mk #[45]).size + (ByteArray.mk (Lib.decDigits u).toArray).size ≤ 9223372036854775807 := by
      have := dec_size u (by omega)
      have e : (ByteArray.mk #[45]).size = 1 := rfl
      omega
    have ka := fun w => run_string_add_sum (P := Tryd.prog) w _ _ hsz
    have hcat : (ByteArray.mk #[45]) ++ (ByteArray.mk (Lib.decDigits u).toArray) = ⟨(45 :: Lib.decDigits u).toArray⟩ := by
      apply ByteArray.ext
      simp
    rw [hcat] at ka
    rw [e]
    have kd := dec_nat u (by omega)
    rw [hun] at kd
    have KD := Lib.hid kd
    generalize Lib.decDigits u = l1 at *
    clear hsz hcat e hun kd
    go_enter Tryd.func46, Tryd.ntmps46
    go_wp2_with (go_at_call 46; (with_reducible refine (KD.out _).mono ?_); rintro e w1 ⟨rfl, hb1⟩)
    go_ret
    exact ⟨rfl, (by repeat (first | (with_reducible exact Below.refl _ _) | (with_reducible assumption) | (with_reducible exact bel_box _) | (with_reducible refine bel_step ?_ (by with_reducible assumption)) | (with_reducible refine Below.drew ?_) | (with_reducible refine below_drewN ?_ _) | (with_reducible refine bel_alloc ?_ _)))⟩
  · obtain ⟨u, rfl⟩ : ∃ u : Nat, n = (u : Int) := ⟨n.toNat, by omega⟩
    rw [Lib.itoa, if_neg hn, Int.toNat_natCast]
    exact dec_nat u (by omega) w
set_option maxHeartbeats 1000000 in
theorem rtext_any (A : Option Addr) (c : Nat) (es : List En) (t v : Int) (w : World) (hA : RdE w w.heap.size A es) (hl : es.length ≤ 9223372036854775807) (hti : t ≤ 9223372036854775807) :
    Calls Tryd.prog 22 #[.slice A es.length c, .int .i64 t, .int .i64 v] w (Bel (.tuple #[.string (textS es t v), .int .i64 (textE es t v)]) w) := by
  have KV := Lib.hid (fun w => known_any A c es t w hl hti)
  have KH := Lib.hid (rhas_any A c es t v w hA hl hti)
  have HA := Lib.hid hA
  clear hA
  by_cases hv : valB es t = true
  · by_cases hh : hasB es t v = true
    · have he : textE es t v = 0 := by rw [textE, if_pos hv, if_pos hh]
      by_cases h2 : t = 2
      · subst h2
        obtain ⟨v1, v2⟩ := hasB_16 hh
        have hx : textS es 2 v = ⟨(Lib.itoa v).toArray⟩ := by rw [textS, if_pos he, if_pos rfl]
        rw [he, hx]
        rw [hv] at KV
        rw [hh] at KH
        clear he hx hv hh hti
        go_enter Tryd.func22, Tryd.ntmps22
        go_wp2_with (first
          | (go_at_call 43; refine (KV.out _).mono ?_; rintro e w1 ⟨rfl, rfl⟩)
          | (go_at_call 16; refine KH.out.mono ?_; rintro e w2 ⟨rfl, hb2⟩)
          | (go_at_call 46; refine (decimal_any _ _ v1 v2).mono ?_; rintro e w3 ⟨rfl, hb3⟩))
        go_ret2
        exact ⟨rfl, (by repeat (first | (with_reducible exact Below.refl _ _) | (with_reducible assumption) | (with_reducible exact bel_box _) | (with_reducible refine bel_step ?_ (by with_reducible assumption)) | (with_reducible refine Below.drew ?_) | (with_reducible refine below_drewN ?_ _) | (with_reducible refine bel_alloc ?_ _)))⟩
      · obtain ⟨v1, v2⟩ := hasB_bd hh h2
        obtain ⟨k, rfl⟩ : ∃ k : Nat, v = k := ⟨v.toNat, by omega⟩
        have hk : k < (tagsOf es t).length := by omega
        have e2 : (t == 2) = false := by simp [h2]
        have hx : textS es t k = (tagsOf es t).getD k ⟨#[]⟩ := by rw [textS, if_pos he, if_neg h2]; rfl
        rw [he]
        rw [hv] at KV
        rw [hh] at KH
        by_cases h1 : t = 1
        · subst h1
          have hk2 : k = 0 ∨ k = 1 := by simp [tagsOf] at hk; omega
          rcases hk2 with rfl | rfl
          all_goals
            have HX := Lib.hid hx
            clear he hx hv hh h2 v1 v2 hk hti
            go_enter Tryd.func22, Tryd.ntmps22
            go_wp2_with (first
              | (go_at_call 43; refine (KV.out _).mono ?_; rintro e w1 ⟨rfl, rfl⟩)
              | (go_at_call 16; refine KH.out.mono ?_; rintro e w2 ⟨rfl, hb2⟩))
            go_ret2
            exact ⟨by rw [HX.out]; rfl, (by repeat (first | (with_reducible exact Below.refl _ _) | (with_reducible assumption) | (with_reducible exact bel_box _) | (with_reducible refine bel_step ?_ (by with_reducible assumption)) | (with_reducible refine Below.drew ?_) | (with_reducible refine below_drewN ?_ _) | (with_reducible refine bel_alloc ?_ _)))⟩
        · have e1 : (t == 1) = false := by simp [h1]
          have h3 : enuB es t = true := by simpa [valB, e1, e2] using hv
          obtain ⟨q, rfl⟩ : ∃ q : Nat, t = q + 3 := ⟨(t - 3).toNat, by simp [enuB] at h3; omega⟩
          have hq : q < es.length := by simp [enuB] at h3; omega
          have hen : es[q]? = some es[q] := List.getElem?_eq_getElem hq
          rw [tagsOf_enu hen] at hk hx
          have HX := Lib.hid hx
          have hkt : k < es[q].tags.length := hk
          generalize hee : es[q] = ee at *
          clear he hx hv hh h2 v1 v2 h1 h3 hti hk hee
          go_enter Tryd.func22, Tryd.ntmps22
          go_wp2_with (first
            | (go_at_call 43; refine (KV.out _).mono ?_; rintro e w1 ⟨rfl, rfl⟩)
            | (go_at_call 16; refine KH.out.mono ?_; rintro e w2 ⟨rfl, hb2⟩; obtain ⟨ad, e3, rfl, _, he3, hn3, ht3, hr3⟩ := (HA.out.to hb2).at_ hq; obtain rfl : ee = e3 := Option.some.inj (hen.symm.trans he3); obtain ⟨ad2, b, hA2, _, hgb, hcb⟩ := hr3.str_at hkt; rw [hA2] at ht3))
          go_ret2
          exact ⟨by rw [HX.out, List.getD, hgb]; rfl, (by repeat (first | (with_reducible exact Below.refl _ _) | (with_reducible assumption) | (with_reducible exact bel_box _) | (with_reducible refine bel_step ?_ (by with_reducible assumption)) | (with_reducible refine Below.drew ?_) | (with_reducible refine below_drewN ?_ _) | (with_reducible refine bel_alloc ?_ _)))⟩
    · rw [Bool.not_eq_true] at hh
      have he : textE es t v = 14 := by rw [textE, if_pos hv, hh]; rfl
      have hx : textS es t v = ⟨#[]⟩ := by rw [textS, he, if_neg (by omega)]
      rw [he, hx]
      rw [hv] at KV
      rw [hh] at KH
      clear he hx hv hh hti
      go_enter Tryd.func22, Tryd.ntmps22
      go_wp2_with (first
        | (go_at_call 43; refine (KV.out _).mono ?_; rintro e w1 ⟨rfl, rfl⟩)
        | (go_at_call 16; refine KH.out.mono ?_; rintro e w2 ⟨rfl, hb2⟩))
      go_ret2
      exact ⟨rfl, (by repeat (first | (with_reducible exact Below.refl _ _) | (with_reducible assumption) | (with_reducible exact bel_box _) | (with_reducible refine bel_step ?_ (by with_reducible assumption)) | (with_reducible refine Below.drew ?_) | (with_reducible refine below_drewN ?_ _) | (with_reducible refine bel_alloc ?_ _)))⟩
  · rw [Bool.not_eq_true] at hv
    have he : textE es t v = 10 := by rw [textE, hv]; rfl
    have hx : textS es t v = ⟨#[]⟩ := by rw [textS, he, if_neg (by omega)]
    rw [he, hx]
    rw [hv] at KV
    clear he hx hv hti
    go_enter Tryd.func22, Tryd.ntmps22
    go_wp2_with (first
      | (go_at_call 43; refine (KV.out _).mono ?_; rintro e w1 ⟨rfl, rfl⟩))
    go_ret2
    exact ⟨rfl, Below.refl _ _⟩
end Go.Proofs.YtjlkgejkgpnnkaaDoor
