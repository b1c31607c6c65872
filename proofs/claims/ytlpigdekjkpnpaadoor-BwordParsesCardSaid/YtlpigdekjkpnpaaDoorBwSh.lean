/- shortest of package bword: the normal form. -/
import Derived.Test.YtlpigdekjkpnpaaDoorBwCat
import Derived.Deep.RegionHeld3
namespace Go.Proofs.YtlpigdekjkpnpaaDoor
set_option linter.unusedVariables false
set_option linter.unusedSimpArgs false
open Go.RowKit
theorem lt_hi (h l : List Bool) (j : Nat) : lt h l (h.length + j) = gb l (j % l.length) := by
  rw [lt, if_neg (by omega), Nat.add_sub_cancel_left, gb]
theorem lt_lo {h : List Bool} (l : List Bool) {i : Nat} (hi : i < h.length) : lt h l i = gb h i := by rw [lt, if_pos hi, gb]
theorem allB_shift (h l : List Bool) (L p : Nat) : allB (lt h l) h.length L p = allB (lt [] l) 0 L p := by
  unfold allB
  congr 1
  funext j
  rw [Nat.add_assoc, lt_hi, lt_hi, Nat.zero_add, lt_nil, lt_nil]
theorem pl_eq (h l : List Bool) : pOf (lt h l) h.length l.length = pl l := by
  rw [pl, pOf, pOf]
  congr 1
  funext p
  rw [tP, tP, allB_shift]
theorem pl_per (h : List Bool) {l : List Bool} (h0 : 0 < l.length) : per (lt h l) h.length (pl l) := by
  have := (pOf_spec (per_lt h l) h0).2.2.2.1
  rwa [pl_eq] at this
theorem gb_take {l : List Bool} {p j : Nat} (hj : j < p) : gb (l.take p) j = gb l j := by rw [gb, gb, List.getElem?_take_of_lt hj]
/-- what stands p letters behind the next letter of the head -/
theorem back_eq {h l : List Bool} {p b : Nat} (h0 : 0 < l.length) (hp0 : 0 < p) (hpl : p ≤ l.length) (hb : b < h.length) (hp : per (lt h l) (h.length - b) p) :
    lt h l (h.length - 1 - b + p) = gb (l.take p) (p - 1 - b % p) := by
  have hr := Nat.mod_lt b hp0
  rw [gb_take (by omega)]
  have e : lt h l (h.length - 1 - b + p) = lt h l (h.length + (p - 1 - b % p)) := by
    have hm := per_mul hp (b / p) (h.length - 1 - b + p) (by omega)
    rw [← hm]
    congr 1
    have := Nat.div_add_mod b p
    rw [Nat.mul_comm] at this
    omega
  rw [e, lt_hi, Nat.mod_eq_of_lt (by omega)]
theorem tH_back {h l : List Bool} {p b : Nat} {x y : Bool} (h0 : 0 < l.length) (hp0 : 0 < p) (hpl : p ≤ l.length) (hb : b < h.length) (hp : per (lt h l) (h.length - b) p)
    (hx : gb h (h.length - 1 - b) = x) (hy : gb (l.take p) (p - 1 - b % p) = y) : tH (lt h l) p (h.length - b - 1) = (x == y) := by
  rw [show h.length - b - 1 = h.length - 1 - b by omega, tH, back_eq h0 hp0 hpl hb hp, hy, lt_lo l (by omega), hx]
theorem per_step {f : Nat → Bool} {h p : Nat} (hp : per f h p) (h0 : 0 < h) (ht : tH f p (h - 1) = true) : per f (h - 1) p := by
  intro i hi
  rcases Nat.lt_or_ge i h with h1 | h1
  · obtain rfl : i = h - 1 := by omega
    simp only [tH, beq_iff_eq] at ht
    exact ht.symm
  · exact hp i h1
theorem down_step {t : Nat → Bool} {h : Nat} (h0 : 0 < h) : down t h = if t (h - 1) then down t (h - 1) else h := by
  obtain ⟨k, rfl⟩ : ∃ k, h = k + 1 := ⟨h - 1, by omega⟩
  rfl
def rot (l : List Bool) (b : Nat) : List Bool := l.drop (l.length - b % l.length) ++ l.take (l.length - b % l.length)
theorem nf_short {h l : List Bool} {b : Nat} (h0 : 0 < l.length) (hb : b ≤ h.length) (hd : hOf (lt h l) h.length (pl l) = h.length - b) (hp : per (lt h l) (h.length - b) (pl l)) :
    nfw h l = (h.take (h.length - b), rot (l.take (pl l)) b) := by
  obtain ⟨p0, p1⟩ := pl_spec h0
  rw [nfw, nf, pl_eq, hd]
  generalize pl l = p at *
  congr 1
  · apply List.ext_getElem
    · simp
    · intro i h1 h2
      have hi : i < h.length - b := by simpa using h1
      simp only [List.getElem_map, List.getElem_range, List.getElem_take]
      rw [lt_lo l (by omega), gb, List.getElem?_eq_getElem (by omega)]
      rfl
  · have hr := Nat.mod_lt b p0
    have hlen : (l.take p).length = p := by simp; omega
    apply List.ext_getElem
    · simp [rot]; omega
    · intro i h1 h2
      have hi : i < p := by simpa using h1
      simp only [List.getElem_map, List.getElem_range]
      have e1 : lt h l (h.length - b + i) = gb l ((p - b % p + i) % p) := by
        have hm := Nat.mod_lt (p - b % p + i) p0
        rw [show gb l ((p - b % p + i) % p) = lt h l (h.length + (p - b % p + i) % p) by rw [lt_hi, Nat.mod_eq_of_lt (show (p - b % p + i) % p < l.length by omega)]]
        apply per_mod hp (by omega) (by omega)
        have hq := Nat.div_add_mod b p
        have e3 : h.length - b + i + (p * (b / p) + p) = h.length + (p - b % p + i) := by omega
        rw [Nat.add_mod_mod, ← e3, show p * (b / p) + p = p * (b / p + 1) by rw [Nat.mul_add, Nat.mul_one], Nat.add_mul_mod_self_left]
      rw [e1]
      simp only [rot, hlen]
      rw [List.getElem_append]
      split
      · rename_i h3
        have h4 : i < b % p := by simp at h3; omega
        rw [List.getElem_drop, List.getElem_take, gb, Nat.mod_eq_of_lt (by omega), List.getElem?_eq_getElem (by omega)]
        rfl
      · rename_i h3
        have h4 : b % p ≤ i := by simp at h3; omega
        rw [List.getElem_take, List.getElem_take, gb, Nat.mod_eq_sub_mod (by omega), Nat.mod_eq_of_lt (by omega), List.getElem?_eq_getElem (by omega)]
        simp only [Option.getD_some, List.length_drop, hlen]
        congr 1
        omega
/-- a word of new memory; the old blocks are left alone -/
def NewW (x y : List Bool) (w : World) (e : Ending) (w' : World) : Prop := ∃ A B c d, e = .returned (.agg #[.slice A x.length c, .slice B y.length d]) ∧ Rd w' w'.heap.size A (bls x) ∧ Rd w' w'.heap.size B (bls y) ∧ x.length ≤ c ∧ y.length ≤ d ∧ Below w.heap.size w w' ∧ Nw w.heap.size A (bls x) ∧ Nw w.heap.size B (bls y)
theorem bel_nil {W w1 : World} (_h : Below W.heap.size W W) (hg : W.grownBy w1 (Value.slice none 0 0).ownBlock) : Below W.heap.size W w1 := (Below.refl _ _).grown hg (Nat.le_refl _) (fun k hk => by cases hk)
set_option maxHeartbeats 1000000 in
theorem shortest_any (A B : Option Addr) (c d : Nat) (h l : List Bool) (w : World) (hA : Rd w w.heap.size A (bls h)) (hB : Rd w w.heap.size B (bls l))
    (hh : h.length ≤ 65536) (hl : l.length ≤ 65536) (hc : h.length ≤ c) (hd : l.length ≤ d) (h0 : 0 < l.length) :
    Calls Tryd.prog 29 #[.slice A h.length c, .slice B l.length d] w (NewW (nfw h l).1 (nfw h l).2 w) := by
  obtain ⟨i0, hi, iz, is, ib⟩ := info_parts Tryd.boolInfo
  obtain ⟨p0, p1⟩ := pl_spec h0
  obtain ⟨ad', _, rfl, had', _, _⟩ := hB.bool_at h0
  have hA' := Lib.hid hA
  have hB' := Lib.hid hB
  clear hA hB
  obtain ⟨p, hp⟩ : ∃ p, p = pl l := ⟨_, rfl⟩
  rw [← hp] at p0 p1
  have HP := Lib.hid hp
  clear hp
  have per0 : Hid (per (lt h l) h.length p) := by show _; rw [HP.out]; exact pl_per h h0
  have hlen : (l.take p).length = p := by simp; omega
  have HL := Lib.hid hlen
  clear hlen
  go_enter Tryd.func29, Tryd.ntmps29
  go_wp2_with (go_at_call 33; refine (period_any (some ad') d l _ (hB'.out.to (by repeat (first | (with_reducible exact Below.refl _ _) | (with_reducible assumption) | (with_reducible exact bel_box _) | (with_reducible refine bel_step ?_ (by with_reducible assumption)) | (with_reducible refine Below.drew ?_) | (with_reducible refine below_drewN ?_ _) | (with_reducible refine bel_alloc ?_ _)))) (by omega) h0).mono ?_; rintro e w' ⟨rfl, n, rfl⟩; rw [← HP.out])
  go_loopw [5] (fun i wr => ∃ b j : Nat, b ≤ h.length ∧ i = .int .i64 b ∧ wr = (w.alloc (.cells #[.slice none 0 0, .slice none 0 0] 24)).drewN j ∧ Hid (per (lt h l) (h.length - b) p) ∧ Hid (hOf (lt h l) h.length p = down (tH (lt h l) p) (h.length - b))) (fun i _ => h.length - (intOf i).toNat)
  case atStart => exact ⟨0, _, by omega, rfl, rfl, per0, rfl⟩
  case round =>
    obtain ⟨b, j, hb, rfl, rfl, HPer, HD⟩ := hrel
    have hr := Nat.mod_lt b p0
    obtain ⟨r, hrr⟩ : ∃ r, r = b % p := ⟨_, rfl⟩
    have er : (b : Int) % (p : Int) = (r : Int) := by rw [hrr]; rfl
    rw [← hrr] at hr
    have HRR := Lib.hid hrr
    clear hrr
    obtain ⟨f, hf⟩ : ∃ f, f = p - r := ⟨_, rfl⟩
    have ef : (p : Int) - (r : Int) = (f : Int) := by omega
    obtain ⟨m, hm⟩ : ∃ m, m = h.length - b := ⟨_, rfl⟩
    have em : (h.length : Int) - (b : Int) = (m : Int) := by omega
    have hf1 : f ≤ p := by omega
    have hm1 : m ≤ h.length := by omega
    have HF := Lib.hid hf
    have HM := Lib.hid hm
    clear hf hm
    by_cases hdf : d = f
    · subst hdf
      have hpd : (l.take p).drop d = [] := by rw [List.drop_eq_nil_iff, HL.out]; omega
      by_cases hlt : b < h.length
      · obtain ⟨ad, x, rfl, had, hx, hcx⟩ := hA'.out.bool_at (show h.length - 1 - b < h.length by omega)
        obtain ⟨ad2, y, he2, _, hy, hcy⟩ := (hB'.out.cut p).bool_at (k := p - 1 - r) (by rw [HL.out]; omega)
        cases he2
        have HT : Hid (tH (lt h l) p (h.length - b - 1) = (x == y)) := tH_back h0 p0 p1 hlt HPer.out (gb_of hx) (by rw [← HRR.out]; exact gb_of hy)
        clear hx hy
        have cx : (w.alloc (.cells #[.slice none 0 0, .slice none 0 0] 24)).cell? (ad.add (h.length - 1 - b)) = some (.bool x) := by
          rw [World.cell?_alloc_lt _ _ _ (by rw [add_block]; exact had)]; exact hcx
        have cy : (w.alloc (.cells #[.slice none 0 0, .slice none 0 0] 24)).cell? (ad'.add (p - 1 - r)) = some (.bool y) := by
          rw [World.cell?_alloc_lt _ _ _ (by rw [add_block]; exact had')]; exact hcy
        clear hcx hcy
        have g0 : decide ((b : Int) < (h.length : Int)) = true := by simp; omega
        go_wp2
        go_quiet (fail)
        go_wp2
        · go_roundw
          case rel =>
            have ht := HT.out
            rw [(by assumption : (x == y) = true)] at ht
            refine ⟨b + 1, _, by omega, by go_num, rfl, ?_, ?_⟩
            · show per _ _ _
              rw [show h.length - (b + 1) = h.length - b - 1 by omega]
              exact per_step HPer.out (by omega) ht
            · show _ = _
              rw [show h.length - (b + 1) = h.length - b - 1 by omega, HD.out, down_step (by omega), ht]
              rfl
          case measure => simp [intOf]; omega
        · have HE : Hid (hOf (lt h l) h.length p = h.length - b) := by
            show _ = _
            rw [HD.out, down_step (by omega), HT.out, (by assumption : (x == y) = false)]
            rfl
          have hbl : Below w.heap.size w ((w.alloc (.cells #[.slice none 0 0, .slice none 0 0] 24)).drewN (j + nq)) := (by repeat (first | (with_reducible exact Below.refl _ _) | (with_reducible assumption) | (with_reducible exact bel_box _) | (with_reducible refine bel_step ?_ (by with_reducible assumption)) | (with_reducible refine Below.drew ?_) | (with_reducible refine below_drewN ?_ _) | (with_reducible refine bel_alloc ?_ _)))
          have hz0 : w.heap.size < ((w.alloc (.cells #[.slice none 0 0, .slice none 0 0] 24)).drewN (j + nq)).heap.size := by simp
          have hr0 : ((w.alloc (.cells #[.slice none 0 0, .slice none 0 0] 24)).drewN (j + nq)).cell? ⟨w.heap.size, 0, none⟩ = some (.slice none 0 0) := by simp [go_sem]
          have hr1 : ((w.alloc (.cells #[.slice none 0 0, .slice none 0 0] 24)).drewN (j + nq)).cell? ⟨w.heap.size, 1, none⟩ = some (.slice none 0 0) := by simp [go_sem]
          have hr3 : ((w.alloc (.cells #[.slice none 0 0, .slice none 0 0] 24)).drewN (j + nq)).frozen? ⟨w.heap.size, 0, none⟩ = false := by simp [go_sem]
          have hr4 : ((w.alloc (.cells #[.slice none 0 0, .slice none 0 0] 24)).drewN (j + nq)).frozen? ⟨w.heap.size, 1, none⟩ = false := by simp [go_sem]
          clear cx cy
          have ew : IntKind.i64.wrap (m : Int) = (m : Int) := IntWalk.i64_in _ (by omega)
          have b1 : (0 : Int) ≤ (m : Int) := by omega
          have b2 : (m : Int) ≤ (c : Int) := by omega
          have b3 : (0 : Int) ≤ (d : Int) := by omega
          have b4 : (d : Int) ≤ (p : Int) := by omega
          have b5 : (d : Int) ≤ (d : Int) := by omega
          have b6 : (p : Int) ≤ (d : Int) := by omega
          generalize (w.alloc (.cells #[.slice none 0 0, .slice none 0 0] 24)).drewN (j + nq) = W at *
          have hnf := nf_short (l := l) h0 hb (by rw [← HP.out]; exact HE.out) (by rw [← HP.out]; exact HPer.out)
          rw [← HP.out, ← HM.out] at hnf
          have hdt : (l.take p).drop d ++ (l.take p).take d = (nfw h l).2 := by
            rw [hnf, rot, HL.out, ← HRR.out, ← HF.out]
          have hy2 : (nfw h l).2.length = p := by rw [← hdt]; simp only [List.length_append, List.length_drop, List.length_take]; omega
          have hx2 : h.take m = (nfw h l).1 := by rw [hnf]
          have HX := Lib.hid hx2
          have HY := Lib.hid hy2
          have HDT := Lib.hid hdt
          clear hnf hdt hy2 hx2
          have L1 : ((l.take p).drop d).length = p - d := by rw [List.length_drop, HL.out]
          have L2 : ((l.take p).take d).length = d := by rw [List.length_take, HL.out]; omega
          have L3 : p - d + d ≤ 70368744177664 := by omega
          have M1 : (bls (h.take m)).length = m := by rw [bls_length, List.length_take]; omega
          have M2 : 0 + m ≤ maxLen := by unfold maxLen; omega
          have M3 : (0 + m) * 1 ≤ 140737488355328 := by omega
          have hres := res4_of hr0 hr1 hr3 hr4
          clear hr0 hr1 hr3 hr4
          go_region_held3 (fun w' => w'.cell? ⟨w.heap.size, 0, none⟩ = some (rc w' w.heap.size 0) ∧ w'.cell? ⟨w.heap.size, 1, none⟩ = some (rc w' w.heap.size 1) ∧ w'.frozen? ⟨w.heap.size, 0, none⟩ = false ∧ w'.frozen? ⟨w.heap.size, 1, none⟩ = false)
            (first
              | (refine res4_below hres ?_; (repeat (first | (with_reducible exact Below.refl _ _) | (with_reducible assumption) | (with_reducible exact bel_box _) | (with_reducible refine bel_step ?_ (by with_reducible assumption)) | (with_reducible refine Below.drew ?_) | (with_reducible refine below_drewN ?_ _) | (with_reducible refine bel_alloc ?_ _))); done)
              | (refine res4_set (res4_below hres ?_) _ _; (repeat (first | (with_reducible exact Below.refl _ _) | (with_reducible assumption) | (with_reducible exact bel_box _) | (with_reducible refine bel_step ?_ (by with_reducible assumption)) | (with_reducible refine Below.drew ?_) | (with_reducible refine below_drewN ?_ _) | (with_reducible refine bel_alloc ?_ _))); done))
            (first
              | (go_at_call 34; refine (concat_n _ _ (p - d) d 0 d _ ((l.take p).drop d) ((l.take p).take d) _ L1 L2 (((hB'.out.to ?_).cut p).drop_none hpd) (((hB'.out.to ?_).cut p).cut d) L3 ?_ ?_).mono ?_; (focus ((repeat (first | (with_reducible exact Below.refl _ _) | (with_reducible assumption) | (with_reducible exact bel_box _) | (with_reducible refine bel_step ?_ (by with_reducible assumption)) | (with_reducible refine Below.drew ?_) | (with_reducible refine below_drewN ?_ _) | (with_reducible refine bel_alloc ?_ _))); done)); (focus ((repeat (first | (with_reducible exact Below.refl _ _) | (with_reducible assumption) | (with_reducible exact bel_box _) | (with_reducible refine bel_step ?_ (by with_reducible assumption)) | (with_reducible refine Below.drew ?_) | (with_reducible refine below_drewN ?_ _) | (with_reducible refine bel_alloc ?_ _))); done)); (focus (first | (with_reducible exact (cell_new2 _ _ _ _).1) | (exact (hb1.cell (p := ⟨W.heap.size, 0, none⟩) (by simp)).trans (by simp [go_sem])))); (focus (first | (with_reducible exact (cell_new2 _ _ _ _).2) | (exact (hb1.cell (p := ⟨W.heap.size, 1, none⟩) (by simp)).trans (by simp [go_sem])))); rintro e w2 ⟨V2, cv2, rfl, hown2, hb2⟩; rw [HDT.out, HY.out] at hown2 ⊢)
              | (refine step_append_rd _ rfl _ _ _ rfl W.heap.size 4 i0 (.bool false) 1 Tryd.underlying22 hi iz is ib rfl _ 0 [] rfl (World.ownsRow_nil _ _ _ _) _ _ m c (bls (h.take m)) rfl M1 ((hA'.out.to ?_).cut m) (bls_one _) M2 M3 (Below.size (B := W.heap.size) (w := W) ?_) ?_; (focus ((repeat (first | (with_reducible exact Below.refl _ _) | (with_reducible assumption) | (with_reducible exact bel_box _) | (with_reducible refine bel_step ?_ (by with_reducible assumption)) | (with_reducible refine Below.drew ?_) | (with_reducible refine below_drewN ?_ _) | (with_reducible refine bel_alloc ?_ _))); done)); (focus ((repeat (first | (with_reducible exact Below.refl _ _) | (with_reducible assumption) | (with_reducible exact bel_box _) | (with_reducible refine bel_step ?_ (by with_reducible assumption)) | (with_reducible refine Below.drew ?_) | (with_reducible refine below_drewN ?_ _) | (with_reducible refine bel_alloc ?_ _))); done)); intro v1 w1 hown1 hgrow1 hat1; have hb1 := bel_nil (Below.refl _ _) hgrow1; simp only [Nat.zero_add, List.nil_append] at hown1; obtain ⟨V1, cv1, rfl⟩ := own_form hown1))
          all_goals go_wp2
          all_goals
            have hw2 := res4_below (W' := w2) hres (by repeat (first | (with_reducible exact Below.refl _ _) | (with_reducible assumption) | (with_reducible exact bel_box _) | (with_reducible refine bel_step ?_ (by with_reducible assumption)) | (with_reducible refine Below.drew ?_) | (with_reducible refine below_drewN ?_ _) | (with_reducible refine bel_alloc ?_ _)))
            obtain ⟨k0, k1⟩ := set2_cells hw2.1 hw2.2.1 (.slice V1 m cv1) (.slice V2 p cv2)
            clear hw2
            refine bodyPost_ret (v := .agg #[.slice V1 m cv1, .slice V2 p cv2]) (by simp [results, Tryd.results29, go_sem, k0, k1]) rfl ?_
            have hm2 : (nfw h l).1.length = m := by rw [← HX.out, List.length_take, Nat.min_eq_left hm1]
            refine ⟨V1, V2, cv1, cv2, ?_, ?_, ?_, ?_, ?_, ?_, ?_, ?_⟩
            · rw [hm2, HY.out]
            · rw [← HX.out]
              exact own_set2 (own_keep hown1 (by repeat (first | (with_reducible exact Below.refl _ _) | (with_reducible assumption) | (with_reducible exact bel_box _) | (with_reducible refine bel_step ?_ (by with_reducible assumption)) | (with_reducible refine Below.drew ?_) | (with_reducible refine below_drewN ?_ _) | (with_reducible refine bel_alloc ?_ _)))) hz0 _ _
            · exact own_set2 hown2 (Nat.lt_of_lt_of_le hz0 (Below.size (B := W.heap.size) (w := W) (by repeat (first | (with_reducible exact Below.refl _ _) | (with_reducible assumption) | (with_reducible exact bel_box _) | (with_reducible refine bel_step ?_ (by with_reducible assumption)) | (with_reducible refine Below.drew ?_) | (with_reducible refine below_drewN ?_ _) | (with_reducible refine bel_alloc ?_ _))))) _ _
            · rw [hm2]
              exact own_cap hown1
            · rw [HY.out]
              exact own_cap hown2
            · exact bel_set2 (by repeat (first | (with_reducible exact Below.refl _ _) | (with_reducible assumption) | (with_reducible exact bel_box _) | (with_reducible refine bel_step ?_ (by with_reducible assumption)) | (with_reducible refine Below.drew ?_) | (with_reducible refine below_drewN ?_ _) | (with_reducible refine bel_alloc ?_ _))) (Nat.le_refl _) _ _
            · rw [← HX.out]
              exact (own_new hown1).mono (Nat.le_of_lt hz0)
            · exact (own_new hown2).mono (Nat.le_trans (Nat.le_of_lt hz0) (Below.size (B := W.heap.size) (w := W) (by repeat (first | (with_reducible exact Below.refl _ _) | (with_reducible assumption) | (with_reducible exact bel_box _) | (with_reducible refine bel_step ?_ (by with_reducible assumption)) | (with_reducible refine Below.drew ?_) | (with_reducible refine below_drewN ?_ _) | (with_reducible refine bel_alloc ?_ _)))))
      · have g0 : decide ((b : Int) < (h.length : Int)) = false := by simp; omega
        go_wp2
        go_quiet (fail)
        go_wp2
        · have HE : Hid (hOf (lt h l) h.length p = h.length - b) := by
            show _ = _
            rw [HD.out, show h.length - b = 0 by omega]
            rfl
          obtain ⟨cx, cy⟩ : True ∧ True := ⟨trivial, trivial⟩
          have hbl : Below w.heap.size w ((w.alloc (.cells #[.slice none 0 0, .slice none 0 0] 24)).drewN (j + nq)) := (by repeat (first | (with_reducible exact Below.refl _ _) | (with_reducible assumption) | (with_reducible exact bel_box _) | (with_reducible refine bel_step ?_ (by with_reducible assumption)) | (with_reducible refine Below.drew ?_) | (with_reducible refine below_drewN ?_ _) | (with_reducible refine bel_alloc ?_ _)))
          have hz0 : w.heap.size < ((w.alloc (.cells #[.slice none 0 0, .slice none 0 0] 24)).drewN (j + nq)).heap.size := by simp
          have hr0 : ((w.alloc (.cells #[.slice none 0 0, .slice none 0 0] 24)).drewN (j + nq)).cell? ⟨w.heap.size, 0, none⟩ = some (.slice none 0 0) := by simp [go_sem]
          have hr1 : ((w.alloc (.cells #[.slice none 0 0, .slice none 0 0] 24)).drewN (j + nq)).cell? ⟨w.heap.size, 1, none⟩ = some (.slice none 0 0) := by simp [go_sem]
          have hr3 : ((w.alloc (.cells #[.slice none 0 0, .slice none 0 0] 24)).drewN (j + nq)).frozen? ⟨w.heap.size, 0, none⟩ = false := by simp [go_sem]
          have hr4 : ((w.alloc (.cells #[.slice none 0 0, .slice none 0 0] 24)).drewN (j + nq)).frozen? ⟨w.heap.size, 1, none⟩ = false := by simp [go_sem]
          clear cx cy
          have ew : IntKind.i64.wrap (m : Int) = (m : Int) := IntWalk.i64_in _ (by omega)
          have b1 : (0 : Int) ≤ (m : Int) := by omega
          have b2 : (m : Int) ≤ (c : Int) := by omega
          have b3 : (0 : Int) ≤ (d : Int) := by omega
          have b4 : (d : Int) ≤ (p : Int) := by omega
          have b5 : (d : Int) ≤ (d : Int) := by omega
          have b6 : (p : Int) ≤ (d : Int) := by omega
          generalize (w.alloc (.cells #[.slice none 0 0, .slice none 0 0] 24)).drewN (j + nq) = W at *
          have hnf := nf_short (l := l) h0 hb (by rw [← HP.out]; exact HE.out) (by rw [← HP.out]; exact HPer.out)
          rw [← HP.out, ← HM.out] at hnf
          have hdt : (l.take p).drop d ++ (l.take p).take d = (nfw h l).2 := by
            rw [hnf, rot, HL.out, ← HRR.out, ← HF.out]
          have hy2 : (nfw h l).2.length = p := by rw [← hdt]; simp only [List.length_append, List.length_drop, List.length_take]; omega
          have hx2 : h.take m = (nfw h l).1 := by rw [hnf]
          have HX := Lib.hid hx2
          have HY := Lib.hid hy2
          have HDT := Lib.hid hdt
          clear hnf hdt hy2 hx2
          have L1 : ((l.take p).drop d).length = p - d := by rw [List.length_drop, HL.out]
          have L2 : ((l.take p).take d).length = d := by rw [List.length_take, HL.out]; omega
          have L3 : p - d + d ≤ 70368744177664 := by omega
          have M1 : (bls (h.take m)).length = m := by rw [bls_length, List.length_take]; omega
          have M2 : 0 + m ≤ maxLen := by unfold maxLen; omega
          have M3 : (0 + m) * 1 ≤ 140737488355328 := by omega
          have hres := res4_of hr0 hr1 hr3 hr4
          clear hr0 hr1 hr3 hr4
          go_region_held3 (fun w' => w'.cell? ⟨w.heap.size, 0, none⟩ = some (rc w' w.heap.size 0) ∧ w'.cell? ⟨w.heap.size, 1, none⟩ = some (rc w' w.heap.size 1) ∧ w'.frozen? ⟨w.heap.size, 0, none⟩ = false ∧ w'.frozen? ⟨w.heap.size, 1, none⟩ = false)
            (first
              | (refine res4_below hres ?_; (repeat (first | (with_reducible exact Below.refl _ _) | (with_reducible assumption) | (with_reducible exact bel_box _) | (with_reducible refine bel_step ?_ (by with_reducible assumption)) | (with_reducible refine Below.drew ?_) | (with_reducible refine below_drewN ?_ _) | (with_reducible refine bel_alloc ?_ _))); done)
              | (refine res4_set (res4_below hres ?_) _ _; (repeat (first | (with_reducible exact Below.refl _ _) | (with_reducible assumption) | (with_reducible exact bel_box _) | (with_reducible refine bel_step ?_ (by with_reducible assumption)) | (with_reducible refine Below.drew ?_) | (with_reducible refine below_drewN ?_ _) | (with_reducible refine bel_alloc ?_ _))); done))
            (first
              | (go_at_call 34; refine (concat_n _ _ (p - d) d 0 d _ ((l.take p).drop d) ((l.take p).take d) _ L1 L2 (((hB'.out.to ?_).cut p).drop_none hpd) (((hB'.out.to ?_).cut p).cut d) L3 ?_ ?_).mono ?_; (focus ((repeat (first | (with_reducible exact Below.refl _ _) | (with_reducible assumption) | (with_reducible exact bel_box _) | (with_reducible refine bel_step ?_ (by with_reducible assumption)) | (with_reducible refine Below.drew ?_) | (with_reducible refine below_drewN ?_ _) | (with_reducible refine bel_alloc ?_ _))); done)); (focus ((repeat (first | (with_reducible exact Below.refl _ _) | (with_reducible assumption) | (with_reducible exact bel_box _) | (with_reducible refine bel_step ?_ (by with_reducible assumption)) | (with_reducible refine Below.drew ?_) | (with_reducible refine below_drewN ?_ _) | (with_reducible refine bel_alloc ?_ _))); done)); (focus (first | (with_reducible exact (cell_new2 _ _ _ _).1) | (exact (hb1.cell (p := ⟨W.heap.size, 0, none⟩) (by simp)).trans (by simp [go_sem])))); (focus (first | (with_reducible exact (cell_new2 _ _ _ _).2) | (exact (hb1.cell (p := ⟨W.heap.size, 1, none⟩) (by simp)).trans (by simp [go_sem])))); rintro e w2 ⟨V2, cv2, rfl, hown2, hb2⟩; rw [HDT.out, HY.out] at hown2 ⊢)
              | (refine step_append_rd _ rfl _ _ _ rfl W.heap.size 4 i0 (.bool false) 1 Tryd.underlying22 hi iz is ib rfl _ 0 [] rfl (World.ownsRow_nil _ _ _ _) _ _ m c (bls (h.take m)) rfl M1 ((hA'.out.to ?_).cut m) (bls_one _) M2 M3 (Below.size (B := W.heap.size) (w := W) ?_) ?_; (focus ((repeat (first | (with_reducible exact Below.refl _ _) | (with_reducible assumption) | (with_reducible exact bel_box _) | (with_reducible refine bel_step ?_ (by with_reducible assumption)) | (with_reducible refine Below.drew ?_) | (with_reducible refine below_drewN ?_ _) | (with_reducible refine bel_alloc ?_ _))); done)); (focus ((repeat (first | (with_reducible exact Below.refl _ _) | (with_reducible assumption) | (with_reducible exact bel_box _) | (with_reducible refine bel_step ?_ (by with_reducible assumption)) | (with_reducible refine Below.drew ?_) | (with_reducible refine below_drewN ?_ _) | (with_reducible refine bel_alloc ?_ _))); done)); intro v1 w1 hown1 hgrow1 hat1; have hb1 := bel_nil (Below.refl _ _) hgrow1; simp only [Nat.zero_add, List.nil_append] at hown1; obtain ⟨V1, cv1, rfl⟩ := own_form hown1))
          all_goals go_wp2
          all_goals
            have hw2 := res4_below (W' := w2) hres (by repeat (first | (with_reducible exact Below.refl _ _) | (with_reducible assumption) | (with_reducible exact bel_box _) | (with_reducible refine bel_step ?_ (by with_reducible assumption)) | (with_reducible refine Below.drew ?_) | (with_reducible refine below_drewN ?_ _) | (with_reducible refine bel_alloc ?_ _)))
            obtain ⟨k0, k1⟩ := set2_cells hw2.1 hw2.2.1 (.slice V1 m cv1) (.slice V2 p cv2)
            clear hw2
            refine bodyPost_ret (v := .agg #[.slice V1 m cv1, .slice V2 p cv2]) (by simp [results, Tryd.results29, go_sem, k0, k1]) rfl ?_
            have hm2 : (nfw h l).1.length = m := by rw [← HX.out, List.length_take, Nat.min_eq_left hm1]
            refine ⟨V1, V2, cv1, cv2, ?_, ?_, ?_, ?_, ?_, ?_, ?_, ?_⟩
            · rw [hm2, HY.out]
            · rw [← HX.out]
              exact own_set2 (own_keep hown1 (by repeat (first | (with_reducible exact Below.refl _ _) | (with_reducible assumption) | (with_reducible exact bel_box _) | (with_reducible refine bel_step ?_ (by with_reducible assumption)) | (with_reducible refine Below.drew ?_) | (with_reducible refine below_drewN ?_ _) | (with_reducible refine bel_alloc ?_ _)))) hz0 _ _
            · exact own_set2 hown2 (Nat.lt_of_lt_of_le hz0 (Below.size (B := W.heap.size) (w := W) (by repeat (first | (with_reducible exact Below.refl _ _) | (with_reducible assumption) | (with_reducible exact bel_box _) | (with_reducible refine bel_step ?_ (by with_reducible assumption)) | (with_reducible refine Below.drew ?_) | (with_reducible refine below_drewN ?_ _) | (with_reducible refine bel_alloc ?_ _))))) _ _
            · rw [hm2]
              exact own_cap hown1
            · rw [HY.out]
              exact own_cap hown2
            · exact bel_set2 (by repeat (first | (with_reducible exact Below.refl _ _) | (with_reducible assumption) | (with_reducible exact bel_box _) | (with_reducible refine bel_step ?_ (by with_reducible assumption)) | (with_reducible refine Below.drew ?_) | (with_reducible refine below_drewN ?_ _) | (with_reducible refine bel_alloc ?_ _))) (Nat.le_refl _) _ _
            · rw [← HX.out]
              exact (own_new hown1).mono (Nat.le_of_lt hz0)
            · exact (own_new hown2).mono (Nat.le_trans (Nat.le_of_lt hz0) (Below.size (B := W.heap.size) (w := W) (by repeat (first | (with_reducible exact Below.refl _ _) | (with_reducible assumption) | (with_reducible exact bel_box _) | (with_reducible refine bel_step ?_ (by with_reducible assumption)) | (with_reducible refine Below.drew ?_) | (with_reducible refine below_drewN ?_ _) | (with_reducible refine bel_alloc ?_ _)))))
    have hdf1 : f < d := by omega
    by_cases hlt : b < h.length
    · obtain ⟨ad, x, rfl, had, hx, hcx⟩ := hA'.out.bool_at (show h.length - 1 - b < h.length by omega)
      obtain ⟨ad2, y, he2, _, hy, hcy⟩ := (hB'.out.cut p).bool_at (k := p - 1 - r) (by rw [HL.out]; omega)
      cases he2
      have HT : Hid (tH (lt h l) p (h.length - b - 1) = (x == y)) := tH_back h0 p0 p1 hlt HPer.out (gb_of hx) (by rw [← HRR.out]; exact gb_of hy)
      clear hx hy
      have cx : (w.alloc (.cells #[.slice none 0 0, .slice none 0 0] 24)).cell? (ad.add (h.length - 1 - b)) = some (.bool x) := by
        rw [World.cell?_alloc_lt _ _ _ (by rw [add_block]; exact had)]; exact hcx
      have cy : (w.alloc (.cells #[.slice none 0 0, .slice none 0 0] 24)).cell? (ad'.add (p - 1 - r)) = some (.bool y) := by
        rw [World.cell?_alloc_lt _ _ _ (by rw [add_block]; exact had')]; exact hcy
      clear hcx hcy
      have g0 : decide ((b : Int) < (h.length : Int)) = true := by simp; omega
      go_wp2
      go_quiet (fail)
      go_wp2
      · go_roundw
        case rel =>
          have ht := HT.out
          rw [(by assumption : (x == y) = true)] at ht
          refine ⟨b + 1, _, by omega, by go_num, rfl, ?_, ?_⟩
          · show per _ _ _
            rw [show h.length - (b + 1) = h.length - b - 1 by omega]
            exact per_step HPer.out (by omega) ht
          · show _ = _
            rw [show h.length - (b + 1) = h.length - b - 1 by omega, HD.out, down_step (by omega), ht]
            rfl
        case measure => simp [intOf]; omega
      · have HE : Hid (hOf (lt h l) h.length p = h.length - b) := by
          show _ = _
          rw [HD.out, down_step (by omega), HT.out, (by assumption : (x == y) = false)]
          rfl
        have hbl : Below w.heap.size w ((w.alloc (.cells #[.slice none 0 0, .slice none 0 0] 24)).drewN (j + nq)) := (by repeat (first | (with_reducible exact Below.refl _ _) | (with_reducible assumption) | (with_reducible exact bel_box _) | (with_reducible refine bel_step ?_ (by with_reducible assumption)) | (with_reducible refine Below.drew ?_) | (with_reducible refine below_drewN ?_ _) | (with_reducible refine bel_alloc ?_ _)))
        have hz0 : w.heap.size < ((w.alloc (.cells #[.slice none 0 0, .slice none 0 0] 24)).drewN (j + nq)).heap.size := by simp
        have hr0 : ((w.alloc (.cells #[.slice none 0 0, .slice none 0 0] 24)).drewN (j + nq)).cell? ⟨w.heap.size, 0, none⟩ = some (.slice none 0 0) := by simp [go_sem]
        have hr1 : ((w.alloc (.cells #[.slice none 0 0, .slice none 0 0] 24)).drewN (j + nq)).cell? ⟨w.heap.size, 1, none⟩ = some (.slice none 0 0) := by simp [go_sem]
        have hr3 : ((w.alloc (.cells #[.slice none 0 0, .slice none 0 0] 24)).drewN (j + nq)).frozen? ⟨w.heap.size, 0, none⟩ = false := by simp [go_sem]
        have hr4 : ((w.alloc (.cells #[.slice none 0 0, .slice none 0 0] 24)).drewN (j + nq)).frozen? ⟨w.heap.size, 1, none⟩ = false := by simp [go_sem]
        clear cx cy
        have ew : IntKind.i64.wrap (m : Int) = (m : Int) := IntWalk.i64_in _ (by omega)
        have b1 : (0 : Int) ≤ (m : Int) := by omega
        have b2 : (m : Int) ≤ (c : Int) := by omega
        have b3 : (0 : Int) ≤ (f : Int) := by omega
        have b4 : (f : Int) ≤ (p : Int) := by omega
        have b5 : (f : Int) ≤ (d : Int) := by omega
        have b6 : (p : Int) ≤ (d : Int) := by omega
        generalize (w.alloc (.cells #[.slice none 0 0, .slice none 0 0] 24)).drewN (j + nq) = W at *
        have hnf := nf_short (l := l) h0 hb (by rw [← HP.out]; exact HE.out) (by rw [← HP.out]; exact HPer.out)
        rw [← HP.out, ← HM.out] at hnf
        have hdt : (l.take p).drop f ++ (l.take p).take f = (nfw h l).2 := by
          rw [hnf, rot, HL.out, ← HRR.out, ← HF.out]
        have hy2 : (nfw h l).2.length = p := by rw [← hdt]; simp only [List.length_append, List.length_drop, List.length_take]; omega
        have hx2 : h.take m = (nfw h l).1 := by rw [hnf]
        have HX := Lib.hid hx2
        have HY := Lib.hid hy2
        have HDT := Lib.hid hdt
        clear hnf hdt hy2 hx2
        have L1 : ((l.take p).drop f).length = p - f := by rw [List.length_drop, HL.out]
        have L2 : ((l.take p).take f).length = f := by rw [List.length_take, HL.out]; omega
        have L3 : p - f + f ≤ 70368744177664 := by omega
        have M1 : (bls (h.take m)).length = m := by rw [bls_length, List.length_take]; omega
        have M2 : 0 + m ≤ maxLen := by unfold maxLen; omega
        have M3 : (0 + m) * 1 ≤ 140737488355328 := by omega
        have hres := res4_of hr0 hr1 hr3 hr4
        clear hr0 hr1 hr3 hr4
        go_region_held3 (fun w' => w'.cell? ⟨w.heap.size, 0, none⟩ = some (rc w' w.heap.size 0) ∧ w'.cell? ⟨w.heap.size, 1, none⟩ = some (rc w' w.heap.size 1) ∧ w'.frozen? ⟨w.heap.size, 0, none⟩ = false ∧ w'.frozen? ⟨w.heap.size, 1, none⟩ = false)
          (first
            | (refine res4_below hres ?_; (repeat (first | (with_reducible exact Below.refl _ _) | (with_reducible assumption) | (with_reducible exact bel_box _) | (with_reducible refine bel_step ?_ (by with_reducible assumption)) | (with_reducible refine Below.drew ?_) | (with_reducible refine below_drewN ?_ _) | (with_reducible refine bel_alloc ?_ _))); done)
            | (refine res4_set (res4_below hres ?_) _ _; (repeat (first | (with_reducible exact Below.refl _ _) | (with_reducible assumption) | (with_reducible exact bel_box _) | (with_reducible refine bel_step ?_ (by with_reducible assumption)) | (with_reducible refine Below.drew ?_) | (with_reducible refine below_drewN ?_ _) | (with_reducible refine bel_alloc ?_ _))); done))
          (first
            | (go_at_call 34; refine (concat_n _ _ (p - f) f (d - f) d _ ((l.take p).drop f) ((l.take p).take f) _ L1 L2 (((hB'.out.to ?_).cut p).drop_some f) (((hB'.out.to ?_).cut p).cut f) L3 ?_ ?_).mono ?_; (focus ((repeat (first | (with_reducible exact Below.refl _ _) | (with_reducible assumption) | (with_reducible exact bel_box _) | (with_reducible refine bel_step ?_ (by with_reducible assumption)) | (with_reducible refine Below.drew ?_) | (with_reducible refine below_drewN ?_ _) | (with_reducible refine bel_alloc ?_ _))); done)); (focus ((repeat (first | (with_reducible exact Below.refl _ _) | (with_reducible assumption) | (with_reducible exact bel_box _) | (with_reducible refine bel_step ?_ (by with_reducible assumption)) | (with_reducible refine Below.drew ?_) | (with_reducible refine below_drewN ?_ _) | (with_reducible refine bel_alloc ?_ _))); done)); (focus (first | (with_reducible exact (cell_new2 _ _ _ _).1) | (exact (hb1.cell (p := ⟨W.heap.size, 0, none⟩) (by simp)).trans (by simp [go_sem])))); (focus (first | (with_reducible exact (cell_new2 _ _ _ _).2) | (exact (hb1.cell (p := ⟨W.heap.size, 1, none⟩) (by simp)).trans (by simp [go_sem])))); rintro e w2 ⟨V2, cv2, rfl, hown2, hb2⟩; rw [HDT.out, HY.out] at hown2 ⊢)
            | (refine step_append_rd _ rfl _ _ _ rfl W.heap.size 4 i0 (.bool false) 1 Tryd.underlying22 hi iz is ib rfl _ 0 [] rfl (World.ownsRow_nil _ _ _ _) _ _ m c (bls (h.take m)) rfl M1 ((hA'.out.to ?_).cut m) (bls_one _) M2 M3 (Below.size (B := W.heap.size) (w := W) ?_) ?_; (focus ((repeat (first | (with_reducible exact Below.refl _ _) | (with_reducible assumption) | (with_reducible exact bel_box _) | (with_reducible refine bel_step ?_ (by with_reducible assumption)) | (with_reducible refine Below.drew ?_) | (with_reducible refine below_drewN ?_ _) | (with_reducible refine bel_alloc ?_ _))); done)); (focus ((repeat (first | (with_reducible exact Below.refl _ _) | (with_reducible assumption) | (with_reducible exact bel_box _) | (with_reducible refine bel_step ?_ (by with_reducible assumption)) | (with_reducible refine Below.drew ?_) | (with_reducible refine below_drewN ?_ _) | (with_reducible refine bel_alloc ?_ _))); done)); intro v1 w1 hown1 hgrow1 hat1; have hb1 := bel_nil (Below.refl _ _) hgrow1; simp only [Nat.zero_add, List.nil_append] at hown1; obtain ⟨V1, cv1, rfl⟩ := own_form hown1))
        all_goals go_wp2
        all_goals
          have hw2 := res4_below (W' := w2) hres (by repeat (first | (with_reducible exact Below.refl _ _) | (with_reducible assumption) | (with_reducible exact bel_box _) | (with_reducible refine bel_step ?_ (by with_reducible assumption)) | (with_reducible refine Below.drew ?_) | (with_reducible refine below_drewN ?_ _) | (with_reducible refine bel_alloc ?_ _)))
          obtain ⟨k0, k1⟩ := set2_cells hw2.1 hw2.2.1 (.slice V1 m cv1) (.slice V2 p cv2)
          clear hw2
          refine bodyPost_ret (v := .agg #[.slice V1 m cv1, .slice V2 p cv2]) (by simp [results, Tryd.results29, go_sem, k0, k1]) rfl ?_
          have hm2 : (nfw h l).1.length = m := by rw [← HX.out, List.length_take, Nat.min_eq_left hm1]
          refine ⟨V1, V2, cv1, cv2, ?_, ?_, ?_, ?_, ?_, ?_, ?_, ?_⟩
          · rw [hm2, HY.out]
          · rw [← HX.out]
            exact own_set2 (own_keep hown1 (by repeat (first | (with_reducible exact Below.refl _ _) | (with_reducible assumption) | (with_reducible exact bel_box _) | (with_reducible refine bel_step ?_ (by with_reducible assumption)) | (with_reducible refine Below.drew ?_) | (with_reducible refine below_drewN ?_ _) | (with_reducible refine bel_alloc ?_ _)))) hz0 _ _
          · exact own_set2 hown2 (Nat.lt_of_lt_of_le hz0 (Below.size (B := W.heap.size) (w := W) (by repeat (first | (with_reducible exact Below.refl _ _) | (with_reducible assumption) | (with_reducible exact bel_box _) | (with_reducible refine bel_step ?_ (by with_reducible assumption)) | (with_reducible refine Below.drew ?_) | (with_reducible refine below_drewN ?_ _) | (with_reducible refine bel_alloc ?_ _))))) _ _
          · rw [hm2]
            exact own_cap hown1
          · rw [HY.out]
            exact own_cap hown2
          · exact bel_set2 (by repeat (first | (with_reducible exact Below.refl _ _) | (with_reducible assumption) | (with_reducible exact bel_box _) | (with_reducible refine bel_step ?_ (by with_reducible assumption)) | (with_reducible refine Below.drew ?_) | (with_reducible refine below_drewN ?_ _) | (with_reducible refine bel_alloc ?_ _))) (Nat.le_refl _) _ _
          · rw [← HX.out]
            exact (own_new hown1).mono (Nat.le_of_lt hz0)
          · exact (own_new hown2).mono (Nat.le_trans (Nat.le_of_lt hz0) (Below.size (B := W.heap.size) (w := W) (by repeat (first | (with_reducible exact Below.refl _ _) | (with_reducible assumption) | (with_reducible exact bel_box _) | (with_reducible refine bel_step ?_ (by with_reducible assumption)) | (with_reducible refine Below.drew ?_) | (with_reducible refine below_drewN ?_ _) | (with_reducible refine bel_alloc ?_ _)))))
    · have g0 : decide ((b : Int) < (h.length : Int)) = false := by simp; omega
      go_wp2
      go_quiet (fail)
      go_wp2
      · have HE : Hid (hOf (lt h l) h.length p = h.length - b) := by
          show _ = _
          rw [HD.out, show h.length - b = 0 by omega]
          rfl
        obtain ⟨cx, cy⟩ : True ∧ True := ⟨trivial, trivial⟩
        have hbl : Below w.heap.size w ((w.alloc (.cells #[.slice none 0 0, .slice none 0 0] 24)).drewN (j + nq)) := (by repeat (first | (with_reducible exact Below.refl _ _) | (with_reducible assumption) | (with_reducible exact bel_box _) | (with_reducible refine bel_step ?_ (by with_reducible assumption)) | (with_reducible refine Below.drew ?_) | (with_reducible refine below_drewN ?_ _) | (with_reducible refine bel_alloc ?_ _)))
        have hz0 : w.heap.size < ((w.alloc (.cells #[.slice none 0 0, .slice none 0 0] 24)).drewN (j + nq)).heap.size := by simp
        have hr0 : ((w.alloc (.cells #[.slice none 0 0, .slice none 0 0] 24)).drewN (j + nq)).cell? ⟨w.heap.size, 0, none⟩ = some (.slice none 0 0) := by simp [go_sem]
        have hr1 : ((w.alloc (.cells #[.slice none 0 0, .slice none 0 0] 24)).drewN (j + nq)).cell? ⟨w.heap.size, 1, none⟩ = some (.slice none 0 0) := by simp [go_sem]
        have hr3 : ((w.alloc (.cells #[.slice none 0 0, .slice none 0 0] 24)).drewN (j + nq)).frozen? ⟨w.heap.size, 0, none⟩ = false := by simp [go_sem]
        have hr4 : ((w.alloc (.cells #[.slice none 0 0, .slice none 0 0] 24)).drewN (j + nq)).frozen? ⟨w.heap.size, 1, none⟩ = false := by simp [go_sem]
        clear cx cy
        have ew : IntKind.i64.wrap (m : Int) = (m : Int) := IntWalk.i64_in _ (by omega)
        have b1 : (0 : Int) ≤ (m : Int) := by omega
        have b2 : (m : Int) ≤ (c : Int) := by omega
        have b3 : (0 : Int) ≤ (f : Int) := by omega
        have b4 : (f : Int) ≤ (p : Int) := by omega
        have b5 : (f : Int) ≤ (d : Int) := by omega
        have b6 : (p : Int) ≤ (d : Int) := by omega
        generalize (w.alloc (.cells #[.slice none 0 0, .slice none 0 0] 24)).drewN (j + nq) = W at *
        have hnf := nf_short (l := l) h0 hb (by rw [← HP.out]; exact HE.out) (by rw [← HP.out]; exact HPer.out)
        rw [← HP.out, ← HM.out] at hnf
        have hdt : (l.take p).drop f ++ (l.take p).take f = (nfw h l).2 := by
          rw [hnf, rot, HL.out, ← HRR.out, ← HF.out]
        have hy2 : (nfw h l).2.length = p := by rw [← hdt]; simp only [List.length_append, List.length_drop, List.length_take]; omega
        have hx2 : h.take m = (nfw h l).1 := by rw [hnf]
        have HX := Lib.hid hx2
        have HY := Lib.hid hy2
        have HDT := Lib.hid hdt
        clear hnf hdt hy2 hx2
        have L1 : ((l.take p).drop f).length = p - f := by rw [List.length_drop, HL.out]
        have L2 : ((l.take p).take f).length = f := by rw [List.length_take, HL.out]; omega
        have L3 : p - f + f ≤ 70368744177664 := by omega
        have M1 : (bls (h.take m)).length = m := by rw [bls_length, List.length_take]; omega
        have M2 : 0 + m ≤ maxLen := by unfold maxLen; omega
        have M3 : (0 + m) * 1 ≤ 140737488355328 := by omega
        have hres := res4_of hr0 hr1 hr3 hr4
        clear hr0 hr1 hr3 hr4
        go_region_held3 (fun w' => w'.cell? ⟨w.heap.size, 0, none⟩ = some (rc w' w.heap.size 0) ∧ w'.cell? ⟨w.heap.size, 1, none⟩ = some (rc w' w.heap.size 1) ∧ w'.frozen? ⟨w.heap.size, 0, none⟩ = false ∧ w'.frozen? ⟨w.heap.size, 1, none⟩ = false)
          (first
            | (refine res4_below hres ?_; (repeat (first | (with_reducible exact Below.refl _ _) | (with_reducible assumption) | (with_reducible exact bel_box _) | (with_reducible refine bel_step ?_ (by with_reducible assumption)) | (with_reducible refine Below.drew ?_) | (with_reducible refine below_drewN ?_ _) | (with_reducible refine bel_alloc ?_ _))); done)
            | (refine res4_set (res4_below hres ?_) _ _; (repeat (first | (with_reducible exact Below.refl _ _) | (with_reducible assumption) | (with_reducible exact bel_box _) | (with_reducible refine bel_step ?_ (by with_reducible assumption)) | (with_reducible refine Below.drew ?_) | (with_reducible refine below_drewN ?_ _) | (with_reducible refine bel_alloc ?_ _))); done))
          (first
            | (go_at_call 34; refine (concat_n _ _ (p - f) f (d - f) d _ ((l.take p).drop f) ((l.take p).take f) _ L1 L2 (((hB'.out.to ?_).cut p).drop_some f) (((hB'.out.to ?_).cut p).cut f) L3 ?_ ?_).mono ?_; (focus ((repeat (first | (with_reducible exact Below.refl _ _) | (with_reducible assumption) | (with_reducible exact bel_box _) | (with_reducible refine bel_step ?_ (by with_reducible assumption)) | (with_reducible refine Below.drew ?_) | (with_reducible refine below_drewN ?_ _) | (with_reducible refine bel_alloc ?_ _))); done)); (focus ((repeat (first | (with_reducible exact Below.refl _ _) | (with_reducible assumption) | (with_reducible exact bel_box _) | (with_reducible refine bel_step ?_ (by with_reducible assumption)) | (with_reducible refine Below.drew ?_) | (with_reducible refine below_drewN ?_ _) | (with_reducible refine bel_alloc ?_ _))); done)); (focus (first | (with_reducible exact (cell_new2 _ _ _ _).1) | (exact (hb1.cell (p := ⟨W.heap.size, 0, none⟩) (by simp)).trans (by simp [go_sem])))); (focus (first | (with_reducible exact (cell_new2 _ _ _ _).2) | (exact (hb1.cell (p := ⟨W.heap.size, 1, none⟩) (by simp)).trans (by simp [go_sem])))); rintro e w2 ⟨V2, cv2, rfl, hown2, hb2⟩; rw [HDT.out, HY.out] at hown2 ⊢)
            | (refine step_append_rd _ rfl _ _ _ rfl W.heap.size 4 i0 (.bool false) 1 Tryd.underlying22 hi iz is ib rfl _ 0 [] rfl (World.ownsRow_nil _ _ _ _) _ _ m c (bls (h.take m)) rfl M1 ((hA'.out.to ?_).cut m) (bls_one _) M2 M3 (Below.size (B := W.heap.size) (w := W) ?_) ?_; (focus ((repeat (first | (with_reducible exact Below.refl _ _) | (with_reducible assumption) | (with_reducible exact bel_box _) | (with_reducible refine bel_step ?_ (by with_reducible assumption)) | (with_reducible refine Below.drew ?_) | (with_reducible refine below_drewN ?_ _) | (with_reducible refine bel_alloc ?_ _))); done)); (focus ((repeat (first | (with_reducible exact Below.refl _ _) | (with_reducible assumption) | (with_reducible exact bel_box _) | (with_reducible refine bel_step ?_ (by with_reducible assumption)) | (with_reducible refine Below.drew ?_) | (with_reducible refine below_drewN ?_ _) | (with_reducible refine bel_alloc ?_ _))); done)); intro v1 w1 hown1 hgrow1 hat1; have hb1 := bel_nil (Below.refl _ _) hgrow1; simp only [Nat.zero_add, List.nil_append] at hown1; obtain ⟨V1, cv1, rfl⟩ := own_form hown1))
        all_goals go_wp2
        all_goals
          have hw2 := res4_below (W' := w2) hres (by repeat (first | (with_reducible exact Below.refl _ _) | (with_reducible assumption) | (with_reducible exact bel_box _) | (with_reducible refine bel_step ?_ (by with_reducible assumption)) | (with_reducible refine Below.drew ?_) | (with_reducible refine below_drewN ?_ _) | (with_reducible refine bel_alloc ?_ _)))
          obtain ⟨k0, k1⟩ := set2_cells hw2.1 hw2.2.1 (.slice V1 m cv1) (.slice V2 p cv2)
          clear hw2
          refine bodyPost_ret (v := .agg #[.slice V1 m cv1, .slice V2 p cv2]) (by simp [results, Tryd.results29, go_sem, k0, k1]) rfl ?_
          have hm2 : (nfw h l).1.length = m := by rw [← HX.out, List.length_take, Nat.min_eq_left hm1]
          refine ⟨V1, V2, cv1, cv2, ?_, ?_, ?_, ?_, ?_, ?_, ?_, ?_⟩
          · rw [hm2, HY.out]
          · rw [← HX.out]
            exact own_set2 (own_keep hown1 (by repeat (first | (with_reducible exact Below.refl _ _) | (with_reducible assumption) | (with_reducible exact bel_box _) | (with_reducible refine bel_step ?_ (by with_reducible assumption)) | (with_reducible refine Below.drew ?_) | (with_reducible refine below_drewN ?_ _) | (with_reducible refine bel_alloc ?_ _)))) hz0 _ _
          · exact own_set2 hown2 (Nat.lt_of_lt_of_le hz0 (Below.size (B := W.heap.size) (w := W) (by repeat (first | (with_reducible exact Below.refl _ _) | (with_reducible assumption) | (with_reducible exact bel_box _) | (with_reducible refine bel_step ?_ (by with_reducible assumption)) | (with_reducible refine Below.drew ?_) | (with_reducible refine below_drewN ?_ _) | (with_reducible refine bel_alloc ?_ _))))) _ _
          · rw [hm2]
            exact own_cap hown1
          · rw [HY.out]
            exact own_cap hown2
          · exact bel_set2 (by repeat (first | (with_reducible exact Below.refl _ _) | (with_reducible assumption) | (with_reducible exact bel_box _) | (with_reducible refine bel_step ?_ (by with_reducible assumption)) | (with_reducible refine Below.drew ?_) | (with_reducible refine below_drewN ?_ _) | (with_reducible refine bel_alloc ?_ _))) (Nat.le_refl _) _ _
          · rw [← HX.out]
            exact (own_new hown1).mono (Nat.le_of_lt hz0)
          · exact (own_new hown2).mono (Nat.le_trans (Nat.le_of_lt hz0) (Below.size (B := W.heap.size) (w := W) (by repeat (first | (with_reducible exact Below.refl _ _) | (with_reducible assumption) | (with_reducible exact bel_box _) | (with_reducible refine bel_step ?_ (by with_reducible assumption)) | (with_reducible refine Below.drew ?_) | (with_reducible refine below_drewN ?_ _) | (with_reducible refine bel_alloc ?_ _)))))
end Go.Proofs.YtlpigdekjkpnpaaDoor
