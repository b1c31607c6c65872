/- shortest of the reference. -/
import Derived.Test.YtimecbkfeennpaaBwRef
namespace Go.Proofs.Ytimecbkfeennpaa
set_option linter.unusedVariables false
set_option linter.unusedSimpArgs false
open Go.RowKit
theorem allB_fL {f : Nat → Bool} {N a n p : Nat} (h : a + n + p ≤ N) : allB (gb (fL f N)) a n p = allB f a n p := by
  rw [Bool.eq_iff_iff, allB_iff, allB_iff]
  constructor
  · intro h1 j hj
    have := h1 j hj
    rwa [fL_gb _ _ _ (by omega), fL_gb _ _ _ (by omega)] at this
  · intro h1 j hj
    rw [fL_gb _ _ _ (by omega), fL_gb _ _ _ (by omega)]
    exact h1 j hj
theorem rrep (A : Option Addr) (c a n b p N : Nat) (f : Nat → Bool) (w : World) (hA : Rd w w.heap.size A (bls (fL f N))) (hl : N ≤ 140737488355328) (hb : b = a + n) (hn : b + p ≤ N) :
    Calls Try.prog 53 #[.slice A N c, .int .i64 a, .int .i64 b, .int .i64 p] w (Drw (.bool (allB f a n p)) w) := by
  have h := rrepeats_any A c a n b p (fL f N) w hA (by rw [fL_length]; exact hl) hb (by rw [fL_length]; exact hn)
  rw [fL_length, allB_fL (by omega)] at h
  exact h
theorem fL_take {f : Nat → Bool} {b N : Nat} (h : b ≤ N) : (fL f N).take b = fL f b := by
  simp only [fL, ← List.map_take, List.take_range, Nat.min_eq_left h]
theorem fL_drop {f : Nat → Bool} {b q k N : Nat} (hq : q = b + k) (h : q ≤ N) : ((fL f N).take q).drop b = (List.range k).map fun i => f (b + i) := by
  rw [fL_take h, hq]
  apply List.ext_getElem
  · simp [fL]
  · intro i h1 h2
    simp [fL]
theorem nf_of {f : Nat → Bool} {H P b k q N : Nat} (hp : pOf f H P = k) (hh : hOf f H k = b) (hq : q = b + k) (h : q ≤ N) : nf f H P = ((fL f N).take b, ((fL f N).take q).drop b) := by
  rw [fL_drop hq h, fL_take (by omega), nf, hp, hh]
  rfl
/-- a block of no cells -/
def E0 (g : Nat) (W : World) : Prop := W.heap[g]? = some (.cells #[] 4 (0, 0))
theorem e0_new (W : World) : E0 W.heap.size (W.alloc (.cells #[] 4)) := heap_alloc_new W _
theorem e0_at {g : Nat} {W : World} (h : g = W.heap.size) : E0 g (W.alloc (.cells #[] 4)) := by rw [h]; exact e0_new W
theorem e0_lt {g : Nat} {W : World} (h : E0 g W) : g < W.heap.size := by
  rcases Nat.lt_or_ge g W.heap.size with hlt | hge
  · exact hlt
  · rw [E0, Array.getElem?_eq_none hge] at h; cases h
theorem e0_alloc {g : Nat} {W : World} (h : E0 g W) (o : Obj) : E0 g (W.alloc o) := (heap_alloc_old W o (e0_lt h)).trans h
theorem e0_drew {g : Nat} {W : World} (h : E0 g W) : E0 g W.drew := h
theorem e0_drewN {g : Nat} {W : World} (h : E0 g W) (n : Nat) : E0 g (W.drewN n) := h
theorem e0_grown {g : Nat} {W W1 : World} {row : Option Nat} (h : E0 g W) (hg : W.grownBy W1 row) (hne : some g ≠ row) : E0 g W1 := (hg.block g (e0_lt h) hne).trans h
theorem grow_fix {Wc w1 : World} {v : Value} {g : Nat} (hg : Wc.grownBy w1 v.ownBlock) (hv : v = .slice (some ⟨g, 0, none⟩) 0 0) : Wc.grownBy w1 (some g) := by subst hv; exact hg
theorem hat_fix {v v1 : Value} {g : Nat} {o : Option Nat} (hg : v1.ownBlock = v.ownBlock ∨ v1.ownBlock = o) (hv : v = .slice (some ⟨g, 0, none⟩) 0 0) : v1.ownBlock = some g ∨ v1.ownBlock = o := by subst hv; exact hg
theorem e0_grown2 {g g' : Nat} {W W1 : World} (h : E0 g W) (hg : W.grownBy W1 (some g')) (hne : ¬ g = g') : E0 g W1 := e0_grown h hg (by simpa using hne)
theorem bel_e0 {g : Nat} {W Wc w1 : World} (hb : Below W.heap.size W Wc) (hg : Wc.grownBy w1 (some g)) (hle : W.heap.size ≤ g) : Below W.heap.size W w1 :=
  hb.grown hg (Below.size (B := W.heap.size) (w := W) hb) (fun k hk => by simp at hk; omega)
theorem e0_own {g B : Nat} {W : World} (h : E0 g W) (hB : B ≤ g) : W.ownsRow B 4 1 (.slice (some ⟨g, 0, none⟩) 0 0) 0 [] :=
  ⟨rfl, .inr ⟨g, 0, #[], rfl, hB, h, Nat.le_refl _, Nat.zero_le _, rfl, rfl⟩⟩
theorem own_grown {B n : Nat} {e : TypeId} {v : Value} {xs : List Value} {W W1 : World} {row : Option Nat} (h : W.ownsRow B e 1 v n xs) (hg : W.grownBy W1 row) (hne : ∀ k, v.ownBlock = some k → some k ≠ row) : W1.ownsRow B e 1 v n xs := by
  refine ⟨h.1, ?_⟩
  rcases h.2 with hn | ⟨g, cap, cur, rfl, hbg, hgg, rest⟩
  · exact .inl hn
  · have hlt : g < W.heap.size := by
      rcases Nat.lt_or_ge g W.heap.size with hlt | hge
      · exact hlt
      · rw [Array.getElem?_eq_none hge] at hgg; cases hgg
    exact .inr ⟨g, cap, cur, rfl, hbg, (hg.block g hlt (hne g rfl)).trans hgg, rest⟩
theorem box_facts (w : World) (t : TypeId) (j : Nat) : Below w.heap.size w ((w.alloc (.cells #[.slice none 0 0, .slice none 0 0] t)).drewN j) ∧ w.heap.size < ((w.alloc (.cells #[.slice none 0 0, .slice none 0 0] t)).drewN j).heap.size ∧
    (((w.alloc (.cells #[.slice none 0 0, .slice none 0 0] t)).drewN j).cell? ⟨w.heap.size, 0, none⟩ = some (.slice none 0 0) ∧ ((w.alloc (.cells #[.slice none 0 0, .slice none 0 0] t)).drewN j).cell? ⟨w.heap.size, 1, none⟩ = some (.slice none 0 0)) ∧
    (((w.alloc (.cells #[.slice none 0 0, .slice none 0 0] t)).drewN j).frozen? ⟨w.heap.size, 0, none⟩ = false ∧ ((w.alloc (.cells #[.slice none 0 0, .slice none 0 0] t)).drewN j).frozen? ⟨w.heap.size, 1, none⟩ = false) := by
  refine ⟨below_drewN (bel_box _) _, by simp, ⟨?_, ?_⟩, ?_, ?_⟩ <;> simp [go_sem]
set_option maxHeartbeats 2000000 in
theorem rshortest_any (A : Option Addr) (c H P N : Nat) (f : Nat → Bool) (w : World) (hA : Rd w w.heap.size A (bls (fL f N))) (hN : N = H + 2 * P) (hl : N ≤ 1048576) (hc : N ≤ c) (h0 : 0 < P) (hper : per f H P) :
    Calls Try.prog 40 #[.slice A N c, .int .i64 H, .int .i64 P] w (NewW (nf f H P).1 (nf f H P).2 w) := by
  obtain ⟨i0, hi, iz, is, ib⟩ := info_parts Try.boolInfo
  obtain ⟨ad, _, rfl, had, _, _⟩ := hA.bool_at (show 0 < (fL f N).length by rw [fL_length]; omega)
  have HA := Lib.hid hA
  have HPER := Lib.hid hper
  have hP1 : H + P + P ≤ N := by omega
  have HN := Lib.hid hN
  obtain ⟨B, hB⟩ : ∃ B, B = H + P := ⟨_, rfl⟩
  have eB : IntKind.i64.wrap ((H : Int) + (P : Int)) = (B : Int) := by rw [IntWalk.i64_in _ (by omega)]; omega
  have HB := Lib.hid hB
  clear hA hper hN hB
  have rep := Lib.hid (fun k => rrep (some ad) c H P B k N f)
  go_enter Try.func40, Try.ntmps40
  go_wp2
  go_loopw [7] (fun i wr => ∃ k j : Nat, 1 ≤ k ∧ k ≤ P ∧ i = .int .i64 k ∧ wr = (w.alloc (.cells #[.slice none 0 0, .slice none 0 0] 24)).drewN j ∧ Hid (findP (tP f H P) (P + 1 - k) k = pOf f H P)) (fun i _ => P - (intOf i).toNat)
  case atStart => exact ⟨1, 0, by omega, by omega, rfl, rfl, by show _ = _; rw [pOf]; rfl⟩
  case round =>
    obtain ⟨k, j, hk1, hk, rfl, rfl, HT⟩ := hrel
    obtain ⟨m, hmm⟩ : ∃ m, m = P % k := ⟨_, rfl⟩
    have em : (P : Int) % (k : Int) = (m : Int) := by rw [hmm]; rfl
    have ht : tP f H P k = (m == 0 && allB f H P k) := by rw [tP, ← hmm]
    have hself := tP_self HPER.out
    have hstep : tP f H P k = false → k + 1 ≤ P ∧ findP (tP f H P) (P + 1 - (k + 1)) (k + 1) = pOf f H P := by
      intro hf
      have hne : k ≠ P := fun e => by rw [e, hself] at hf; cases hf
      refine ⟨by omega, ?_⟩
      rw [← HT.out, show P + 1 - k = P + 1 - (k + 1) + 1 by omega, findP_succ, hf]
      rfl
    have hstop : tP f H P k = true → pOf f H P = k := by
      intro hf
      rw [← HT.out, show P + 1 - k = P + 1 - (k + 1) + 1 by omega, findP_succ, hf]
      rfl
    have HT2 := Lib.hid ht
    have HSTEP := Lib.hid hstep
    have HSTOP := Lib.hid hstop
    clear ht hself hstep hstop
    by_cases hm : m = 0
    · have hm1 : ((m : Int) != 0) = false := by simp [hm]
      obtain ⟨x, hx⟩ : ∃ x, allB f H P k = x := ⟨_, rfl⟩
      have hbn : B + k ≤ N := by have := HB.out; omega
      have hx2 : tP f H P k = x := by rw [HT2.out, hx, hm]; rfl
      have HX := Lib.hid hx
      have HX2 := Lib.hid hx2
      have hkk : ¬ k = 0 := by omega
      clear hx hx2 hm hmm
      cases x
      · go_wp2_with (go_at_call 53; refine (rep.out _ _ (HA.out.to ?_) (by omega) HB.out hbn).mono ?_; (focus ((repeat (first | (with_reducible exact Below.refl _ _) | (with_reducible assumption) | (with_reducible exact bel_box _) | (with_reducible refine bel_step ?_ (by with_reducible assumption)) | (with_reducible refine Below.drew ?_) | (with_reducible refine below_drewN ?_ _) | (with_reducible refine bel_alloc ?_ _))); done)); rintro e w' ⟨rfl, n, rfl⟩; rw [HX.out])
        have hkP := (HSTEP.out HX2.out).1
        go_roundw
        case rel => exact ⟨k + 1, _, by omega, (HSTEP.out HX2.out).1, by go_num, rfl, (HSTEP.out HX2.out).2⟩
        case measure => simp [intOf]; omega
      · go_wp2_with (go_at_call 53; refine (rep.out _ _ (HA.out.to ?_) (by omega) HB.out hbn).mono ?_; (focus ((repeat (first | (with_reducible exact Below.refl _ _) | (with_reducible assumption) | (with_reducible exact bel_box _) | (with_reducible refine bel_step ?_ (by with_reducible assumption)) | (with_reducible refine Below.drew ?_) | (with_reducible refine below_drewN ?_ _) | (with_reducible refine bel_alloc ?_ _))); done)); rintro e w' ⟨rfl, n, rfl⟩; rw [HX.out])
        have HPK := Lib.hid (HSTOP.out HX2.out)
        have HP2 : Hid (per f H k) := by show per f H k; rw [← HPK.out]; exact (pOf_spec HPER.out h0).2.2.2.1
        clear HSTOP HSTEP HT2 rep HX HX2 HT hbn em
        go_loopw [8] (fun i wr => ∃ b j : Nat, b ≤ H ∧ i = .int .i64 b ∧ wr = (w.alloc (.cells #[.slice none 0 0, .slice none 0 0] 24)).drewN j ∧ Hid (hOf f H k = down (tH f k) b)) (fun i _ => (intOf i).toNat)
        case atStart => exact ⟨H, _, Nat.le_refl _, rfl, rfl, by show _ = _; rw [hOf]⟩
        case round =>
          obtain ⟨b, j2, hb, rfl, rfl, HD⟩ := hrel
          by_cases hb0 : 0 < b
          · obtain ⟨m1, hm⟩ : ∃ m1, m1 = b - 1 := ⟨_, rfl⟩
            obtain ⟨q, hq⟩ : ∃ q, q = m1 + k := ⟨_, rfl⟩
            obtain ⟨ad2, x, he2, _, hx, hcx⟩ := HA.out.bool_at (show m1 < (fL f N).length by rw [fL_length]; omega)
            obtain ⟨ad3, y, he3, _, hy, hcy⟩ := HA.out.bool_at (show q < (fL f N).length by rw [fL_length]; omega)
            cases he2
            cases he3
            have fx : f m1 = x := (fL_gb f N m1 (by omega)).symm.trans (gb_of hx)
            have fy : f q = y := (fL_gb f N q (by omega)).symm.trans (gb_of hy)
            have HT : Hid (tH f k (b - 1) = (x == y)) := by show tH f k (b - 1) = (x == y); rw [tH, ← hm, ← hq, fx, fy]
            have cx : (w.alloc (.cells #[.slice none 0 0, .slice none 0 0] 24)).cell? (ad.add m1) = some (.bool x) := by
              rw [World.cell?_alloc_lt _ _ _ (by rw [add_block]; exact had)]; exact hcx
            have cy : (w.alloc (.cells #[.slice none 0 0, .slice none 0 0] 24)).cell? (ad.add q) = some (.bool y) := by
              rw [World.cell?_alloc_lt _ _ _ (by rw [add_block]; exact had)]; exact hcy
            have em1 : (b : Int) - 1 = (m1 : Int) := by omega
            have eq1 : (m1 : Int) + (k : Int) = (q : Int) := by omega
            have hm2 : m1 < N := by omega
            have hq2 : q < N := by omega
            have HM := Lib.hid hm
            have HQ := Lib.hid hq
            clear hx hy hcx hcy fx fy hm hq
            have g0 : decide ((0 : Int) < (b : Int)) = true := by simp; omega
            go_wp2
            go_quiet (fail)
            go_wp2
            · go_roundw
              case rel =>
                have ht := HT.out
                rw [(by assumption : (x == y) = true)] at ht
                refine ⟨m1, _, by omega, rfl, rfl, ?_⟩
                show _ = _
                rw [HD.out, down_step hb0, ht, HM.out]
                rfl
              case measure => simp [intOf]; omega
            · have HE : Hid (hOf f H k = b) := by
                show _ = _
                rw [HD.out, down_step hb0, HT.out, (by assumption : (x == y) = false)]
                rfl
              obtain ⟨jj, hjj⟩ : ∃ jj, ((w.alloc (.cells #[.slice none 0 0, .slice none 0 0] 24)).drewN j2).drewN nq = (w.alloc (.cells #[.slice none 0 0, .slice none 0 0] 24)).drewN jj := ⟨_, World.drewN_drewN _ _ _⟩
              rw [hjj]
              obtain ⟨hbl, hz0, ⟨hr0, hr1⟩, hr3, hr4⟩ := box_facts w 24 jj
              clear hjj
              generalize (w.alloc (.cells #[.slice none 0 0, .slice none 0 0] 24)).drewN jj = W at *
              obtain ⟨q2, hq2⟩ : ∃ q2, q2 = b + k := ⟨_, rfl⟩
              have eq2 : IntKind.i64.wrap ((b : Int) + (k : Int)) = (q2 : Int) := by rw [IntWalk.i64_in _ (by omega)]; omega
              have b1 : (0 : Int) ≤ (b : Int) := by omega
              have b2 : (b : Int) ≤ (c : Int) := by omega
              have b3 : (b : Int) ≤ (q2 : Int) := by omega
              have b4 : (q2 : Int) ≤ (c : Int) := by omega
              have b5 : ¬ c = b := by omega
              have L1 : (bls ((fL f N).take b)).length = b := by rw [bls_length, List.length_take, fL_length]; omega
              have L2 : (bls (((fL f N).take q2).drop b)).length = q2 - b := by rw [bls_length, List.length_drop, List.length_take, fL_length]; omega
              have M1 : 0 + b ≤ maxLen := by unfold maxLen; omega
              have M2 : (0 + b) * 1 ≤ 140737488355328 := by omega
              have M3 : 0 + (q2 - b) ≤ maxLen := by unfold maxLen; omega
              have M4 : (0 + (q2 - b)) * 1 ≤ 140737488355328 := by omega
              have hq9 : q2 ≤ N := by omega
              have HQ2 := Lib.hid hq2
              have hres := res4_of hr0 hr1 hr3 hr4
              clear hr0 hr1 hr3 hr4 hq2
              go_region_held3 (fun w' => w'.cell? ⟨w.heap.size, 0, none⟩ = some (rc w' w.heap.size 0) ∧ w'.cell? ⟨w.heap.size, 1, none⟩ = some (rc w' w.heap.size 1) ∧ w'.frozen? ⟨w.heap.size, 0, none⟩ = false ∧ w'.frozen? ⟨w.heap.size, 1, none⟩ = false)
                (first
                  | (refine res4_below hres ?_; (repeat (first | (with_reducible exact Below.refl _ _) | (with_reducible assumption) | (with_reducible exact bel_box _) | (with_reducible refine bel_step ?_ (by with_reducible assumption)) | (with_reducible refine Below.drew ?_) | (with_reducible refine below_drewN ?_ _) | (with_reducible refine bel_alloc ?_ _))); done)
                  | (refine res4_set (res4_below hres ?_) _ _; (repeat (first | (with_reducible exact Below.refl _ _) | (with_reducible assumption) | (with_reducible exact bel_box _) | (with_reducible refine bel_step ?_ (by with_reducible assumption)) | (with_reducible refine Below.drew ?_) | (with_reducible refine below_drewN ?_ _) | (with_reducible refine bel_alloc ?_ _))); done))
                (first
                  | (refine step_append_rd _ rfl _ _ _ rfl W.heap.size 4 i0 (.bool false) 1 Try.underlying22 hi iz is ib rfl _ 0 [] rfl (e0_own ?_ ?_) _ _ b c (bls ((fL f N).take b)) rfl L1 ((HA.out.to ?_).cut b) (bls_one _) M1 M2 (Below.size (B := W.heap.size) (w := W) ?_) ?_; (focus ((repeat (first | (with_reducible exact e0_new _) | (with_reducible refine e0_at ?_; simp; done) | (with_reducible assumption) | (with_reducible refine e0_alloc ?_ _) | (with_reducible refine e0_drew ?_) | (with_reducible refine e0_drewN ?_ _) | (with_reducible refine e0_grown2 ?_ hgrow1 ?_; rotate_left; (focus (simp; done))))); done)); (focus (simp; done)); (focus ((repeat (first | (with_reducible exact Below.refl _ _) | (with_reducible assumption) | (with_reducible exact bel_box _) | (with_reducible refine bel_step ?_ (by with_reducible assumption)) | (with_reducible refine Below.drew ?_) | (with_reducible refine below_drewN ?_ _) | (with_reducible refine bel_alloc ?_ _))); done)); (focus ((repeat (first | (with_reducible exact Below.refl _ _) | (with_reducible assumption) | (with_reducible exact bel_box _) | (with_reducible refine bel_step ?_ (by with_reducible assumption)) | (with_reducible refine Below.drew ?_) | (with_reducible refine below_drewN ?_ _) | (with_reducible refine bel_alloc ?_ _))); done)); intro v1 w1 hown1 hgrow1 hat1; replace hgrow1 := grow_fix hgrow1 rfl; replace hat1 := hat_fix hat1 rfl; have hb1 : Below W.heap.size W w1 := bel_e0 (by repeat (first | (with_reducible exact Below.refl _ _) | (with_reducible assumption) | (with_reducible exact bel_box _) | (with_reducible refine bel_step ?_ (by with_reducible assumption)) | (with_reducible refine Below.drew ?_) | (with_reducible refine below_drewN ?_ _) | (with_reducible refine bel_alloc ?_ _))) hgrow1 (by simp); simp only [Nat.zero_add, List.nil_append] at hown1; obtain ⟨V1, cv1, rfl⟩ := own_form hown1)
                  | (refine step_append_rd _ rfl _ _ _ rfl W.heap.size 4 i0 (.bool false) 1 Try.underlying22 hi iz is ib rfl _ 0 [] rfl (e0_own ?_ ?_) _ _ (q2 - b) (c - b) (bls (((fL f N).take q2).drop b)) rfl L2 (((HA.out.to ?_).cut q2).drop_some b) (bls_one _) M3 M4 (Below.size (B := W.heap.size) (w := W) ?_) ?_; (focus ((repeat (first | (with_reducible exact e0_new _) | (with_reducible refine e0_at ?_; simp; done) | (with_reducible assumption) | (with_reducible refine e0_alloc ?_ _) | (with_reducible refine e0_drew ?_) | (with_reducible refine e0_drewN ?_ _) | (with_reducible refine e0_grown2 ?_ hgrow1 ?_; rotate_left; (focus (simp; done))))); done)); (focus (first | (simp; done) | exact Below.size (B := W.heap.size) (w := W) hb1)); (focus ((repeat (first | (with_reducible exact Below.refl _ _) | (with_reducible assumption) | (with_reducible exact bel_box _) | (with_reducible refine bel_step ?_ (by with_reducible assumption)) | (with_reducible refine Below.drew ?_) | (with_reducible refine below_drewN ?_ _) | (with_reducible refine bel_alloc ?_ _))); done)); (focus ((repeat (first | (with_reducible exact Below.refl _ _) | (with_reducible assumption) | (with_reducible exact bel_box _) | (with_reducible refine bel_step ?_ (by with_reducible assumption)) | (with_reducible refine Below.drew ?_) | (with_reducible refine below_drewN ?_ _) | (with_reducible refine bel_alloc ?_ _))); done)); intro v2 w2 hown2 hgrow2 hat2; replace hgrow2 := grow_fix hgrow2 rfl; clear hat2; have hb2 : Below W.heap.size W w2 := bel_e0 (by repeat (first | (with_reducible exact Below.refl _ _) | (with_reducible assumption) | (with_reducible exact bel_box _) | (with_reducible refine bel_step ?_ (by with_reducible assumption)) | (with_reducible refine Below.drew ?_) | (with_reducible refine below_drewN ?_ _) | (with_reducible refine bel_alloc ?_ _))) hgrow2 (by first | (simp; done) | exact Below.size (B := W.heap.size) (w := W) hb1); simp only [Nat.zero_add, List.nil_append] at hown2; obtain ⟨V2, cv2, rfl⟩ := own_form hown2))
              all_goals go_wp2
              all_goals
                have hown1' : w2.ownsRow W.heap.size 4 1 (.slice V1 b cv1) b (bls ((fL f N).take b)) := by
                  first
                    | (refine own_grown hown1 hgrow2 ?_; intro kk hkk e; rcases hat1 with h | h <;> (rw [hkk] at h; simp at h e; omega))
                    | (refine own_grown (hown1.alloc _) hgrow2 ?_; intro kk hkk e; have := (hown1.lt kk hkk).2; simp at e; omega)
                have hw2 := res4_below (W' := w2) hres (by repeat (first | (with_reducible exact Below.refl _ _) | (with_reducible assumption) | (with_reducible exact bel_box _) | (with_reducible refine bel_step ?_ (by with_reducible assumption)) | (with_reducible refine Below.drew ?_) | (with_reducible refine below_drewN ?_ _) | (with_reducible refine bel_alloc ?_ _)))
                obtain ⟨k0, k1⟩ := set2_cells hw2.1 hw2.2.1 (.slice V1 b cv1) (.slice V2 (q2 - b) cv2)
                clear hw2
                refine bodyPost_ret (v := .agg #[.slice V1 b cv1, .slice V2 (q2 - b) cv2]) (by simp [results, Try.results40, go_sem, k0, k1]) rfl ?_
                rw [nf_of HPK.out HE.out HQ2.out hq9]
                rw [bls_length] at L1 L2
                refine ⟨V1, V2, cv1, cv2, by rw [L1, L2], own_set2 hown1' hz0 _ _, own_set2 hown2 hz0 _ _, by rw [L1]; exact own_cap hown1, by rw [L2]; exact own_cap hown2, bel_set2 (hbl.trans (hb2.mono hbl.size)) (Nat.le_refl _) _ _, (own_new hown1).mono hbl.size, (own_new hown2).mono hbl.size⟩
          · have hb1 : b = 0 := by omega
            have HE : Hid (hOf f H k = b) := by
              show _ = _
              rw [HD.out, hb1, down]
            have g0 : decide ((0 : Int) < (b : Int)) = false := by simp; omega
            have HB1 := Lib.hid hb1
            clear hb1
            go_wp2
            go_quiet (fail)
            go_wp2
            obtain ⟨jj, hjj⟩ : ∃ jj, ((w.alloc (.cells #[.slice none 0 0, .slice none 0 0] 24)).drewN j2).drewN nq = (w.alloc (.cells #[.slice none 0 0, .slice none 0 0] 24)).drewN jj := ⟨_, World.drewN_drewN _ _ _⟩
            rw [hjj]
            obtain ⟨hbl, hz0, ⟨hr0, hr1⟩, hr3, hr4⟩ := box_facts w 24 jj
            clear hjj
            generalize (w.alloc (.cells #[.slice none 0 0, .slice none 0 0] 24)).drewN jj = W at *
            obtain ⟨q2, hq2⟩ : ∃ q2, q2 = b + k := ⟨_, rfl⟩
            have eq2 : IntKind.i64.wrap ((b : Int) + (k : Int)) = (q2 : Int) := by rw [IntWalk.i64_in _ (by omega)]; omega
            have b1 : (0 : Int) ≤ (b : Int) := by omega
            have b2 : (b : Int) ≤ (c : Int) := by omega
            have b3 : (b : Int) ≤ (q2 : Int) := by omega
            have b4 : (q2 : Int) ≤ (c : Int) := by omega
            have b5 : ¬ c = b := by omega
            have L1 : (bls ((fL f N).take b)).length = b := by rw [bls_length, List.length_take, fL_length]; omega
            have L2 : (bls (((fL f N).take q2).drop b)).length = q2 - b := by rw [bls_length, List.length_drop, List.length_take, fL_length]; omega
            have M1 : 0 + b ≤ maxLen := by unfold maxLen; omega
            have M2 : (0 + b) * 1 ≤ 140737488355328 := by omega
            have M3 : 0 + (q2 - b) ≤ maxLen := by unfold maxLen; omega
            have M4 : (0 + (q2 - b)) * 1 ≤ 140737488355328 := by omega
            have hq9 : q2 ≤ N := by omega
            have HQ2 := Lib.hid hq2
            have hres := res4_of hr0 hr1 hr3 hr4
            clear hr0 hr1 hr3 hr4 hq2
            go_region_held3 (fun w' => w'.cell? ⟨w.heap.size, 0, none⟩ = some (rc w' w.heap.size 0) ∧ w'.cell? ⟨w.heap.size, 1, none⟩ = some (rc w' w.heap.size 1) ∧ w'.frozen? ⟨w.heap.size, 0, none⟩ = false ∧ w'.frozen? ⟨w.heap.size, 1, none⟩ = false)
              (first
                | (refine res4_below hres ?_; (repeat (first | (with_reducible exact Below.refl _ _) | (with_reducible assumption) | (with_reducible exact bel_box _) | (with_reducible refine bel_step ?_ (by with_reducible assumption)) | (with_reducible refine Below.drew ?_) | (with_reducible refine below_drewN ?_ _) | (with_reducible refine bel_alloc ?_ _))); done)
                | (refine res4_set (res4_below hres ?_) _ _; (repeat (first | (with_reducible exact Below.refl _ _) | (with_reducible assumption) | (with_reducible exact bel_box _) | (with_reducible refine bel_step ?_ (by with_reducible assumption)) | (with_reducible refine Below.drew ?_) | (with_reducible refine below_drewN ?_ _) | (with_reducible refine bel_alloc ?_ _))); done))
              (first
                | (refine step_append_rd _ rfl _ _ _ rfl W.heap.size 4 i0 (.bool false) 1 Try.underlying22 hi iz is ib rfl _ 0 [] rfl (e0_own ?_ ?_) _ _ b c (bls ((fL f N).take b)) rfl L1 ((HA.out.to ?_).cut b) (bls_one _) M1 M2 (Below.size (B := W.heap.size) (w := W) ?_) ?_; (focus ((repeat (first | (with_reducible exact e0_new _) | (with_reducible refine e0_at ?_; simp; done) | (with_reducible assumption) | (with_reducible refine e0_alloc ?_ _) | (with_reducible refine e0_drew ?_) | (with_reducible refine e0_drewN ?_ _) | (with_reducible refine e0_grown2 ?_ hgrow1 ?_; rotate_left; (focus (simp; done))))); done)); (focus (simp; done)); (focus ((repeat (first | (with_reducible exact Below.refl _ _) | (with_reducible assumption) | (with_reducible exact bel_box _) | (with_reducible refine bel_step ?_ (by with_reducible assumption)) | (with_reducible refine Below.drew ?_) | (with_reducible refine below_drewN ?_ _) | (with_reducible refine bel_alloc ?_ _))); done)); (focus ((repeat (first | (with_reducible exact Below.refl _ _) | (with_reducible assumption) | (with_reducible exact bel_box _) | (with_reducible refine bel_step ?_ (by with_reducible assumption)) | (with_reducible refine Below.drew ?_) | (with_reducible refine below_drewN ?_ _) | (with_reducible refine bel_alloc ?_ _))); done)); intro v1 w1 hown1 hgrow1 hat1; replace hgrow1 := grow_fix hgrow1 rfl; replace hat1 := hat_fix hat1 rfl; have hb1 : Below W.heap.size W w1 := bel_e0 (by repeat (first | (with_reducible exact Below.refl _ _) | (with_reducible assumption) | (with_reducible exact bel_box _) | (with_reducible refine bel_step ?_ (by with_reducible assumption)) | (with_reducible refine Below.drew ?_) | (with_reducible refine below_drewN ?_ _) | (with_reducible refine bel_alloc ?_ _))) hgrow1 (by simp); simp only [Nat.zero_add, List.nil_append] at hown1; obtain ⟨V1, cv1, rfl⟩ := own_form hown1)
                | (refine step_append_rd _ rfl _ _ _ rfl W.heap.size 4 i0 (.bool false) 1 Try.underlying22 hi iz is ib rfl _ 0 [] rfl (e0_own ?_ ?_) _ _ (q2 - b) (c - b) (bls (((fL f N).take q2).drop b)) rfl L2 (((HA.out.to ?_).cut q2).drop_some b) (bls_one _) M3 M4 (Below.size (B := W.heap.size) (w := W) ?_) ?_; (focus ((repeat (first | (with_reducible exact e0_new _) | (with_reducible refine e0_at ?_; simp; done) | (with_reducible assumption) | (with_reducible refine e0_alloc ?_ _) | (with_reducible refine e0_drew ?_) | (with_reducible refine e0_drewN ?_ _) | (with_reducible refine e0_grown2 ?_ hgrow1 ?_; rotate_left; (focus (simp; done))))); done)); (focus (first | (simp; done) | exact Below.size (B := W.heap.size) (w := W) hb1)); (focus ((repeat (first | (with_reducible exact Below.refl _ _) | (with_reducible assumption) | (with_reducible exact bel_box _) | (with_reducible refine bel_step ?_ (by with_reducible assumption)) | (with_reducible refine Below.drew ?_) | (with_reducible refine below_drewN ?_ _) | (with_reducible refine bel_alloc ?_ _))); done)); (focus ((repeat (first | (with_reducible exact Below.refl _ _) | (with_reducible assumption) | (with_reducible exact bel_box _) | (with_reducible refine bel_step ?_ (by with_reducible assumption)) | (with_reducible refine Below.drew ?_) | (with_reducible refine below_drewN ?_ _) | (with_reducible refine bel_alloc ?_ _))); done)); intro v2 w2 hown2 hgrow2 hat2; replace hgrow2 := grow_fix hgrow2 rfl; clear hat2; have hb2 : Below W.heap.size W w2 := bel_e0 (by repeat (first | (with_reducible exact Below.refl _ _) | (with_reducible assumption) | (with_reducible exact bel_box _) | (with_reducible refine bel_step ?_ (by with_reducible assumption)) | (with_reducible refine Below.drew ?_) | (with_reducible refine below_drewN ?_ _) | (with_reducible refine bel_alloc ?_ _))) hgrow2 (by first | (simp; done) | exact Below.size (B := W.heap.size) (w := W) hb1); simp only [Nat.zero_add, List.nil_append] at hown2; obtain ⟨V2, cv2, rfl⟩ := own_form hown2))
            all_goals go_wp2
            all_goals
              have hown1' : w2.ownsRow W.heap.size 4 1 (.slice V1 b cv1) b (bls ((fL f N).take b)) := by
                first
                  | (refine own_grown hown1 hgrow2 ?_; intro kk hkk e; rcases hat1 with h | h <;> (rw [hkk] at h; simp at h e; omega))
                  | (refine own_grown (hown1.alloc _) hgrow2 ?_; intro kk hkk e; have := (hown1.lt kk hkk).2; simp at e; omega)
              have hw2 := res4_below (W' := w2) hres (by repeat (first | (with_reducible exact Below.refl _ _) | (with_reducible assumption) | (with_reducible exact bel_box _) | (with_reducible refine bel_step ?_ (by with_reducible assumption)) | (with_reducible refine Below.drew ?_) | (with_reducible refine below_drewN ?_ _) | (with_reducible refine bel_alloc ?_ _)))
              obtain ⟨k0, k1⟩ := set2_cells hw2.1 hw2.2.1 (.slice V1 b cv1) (.slice V2 (q2 - b) cv2)
              clear hw2
              refine bodyPost_ret (v := .agg #[.slice V1 b cv1, .slice V2 (q2 - b) cv2]) (by simp [results, Try.results40, go_sem, k0, k1]) rfl ?_
              rw [nf_of HPK.out HE.out HQ2.out hq9]
              rw [bls_length] at L1 L2
              refine ⟨V1, V2, cv1, cv2, by rw [L1, L2], own_set2 hown1' hz0 _ _, own_set2 hown2 hz0 _ _, by rw [L1]; exact own_cap hown1, by rw [L2]; exact own_cap hown2, bel_set2 (hbl.trans (hb2.mono hbl.size)) (Nat.le_refl _) _ _, (own_new hown1).mono hbl.size, (own_new hown2).mono hbl.size⟩
    · have hm1 : ((m : Int) != 0) = true := by simp [hm]
      have hx2 : tP f H P k = false := by rw [HT2.out, show (m == 0) = false by simpa using hm]; rfl
      have HX2 := Lib.hid hx2
      have hkk : ¬ k = 0 := by omega
      clear hx2 hm hmm
      have hkP := (HSTEP.out HX2.out).1
      go_wp2
      go_roundw
      case rel => exact ⟨k + 1, _, by omega, (HSTEP.out HX2.out).1, by go_num, rfl, (HSTEP.out HX2.out).2⟩
      case measure => simp [intOf]; omega
end Go.Proofs.Ytimecbkfeennpaa
