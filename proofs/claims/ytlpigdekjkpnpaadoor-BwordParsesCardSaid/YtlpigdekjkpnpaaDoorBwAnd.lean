/- checkBoth and And of package bword. -/
import Derived.Test.YtlpigdekjkpnpaaDoorBwFit
namespace Go.Proofs.YtlpigdekjkpnpaaDoor
set_option linter.unusedVariables false
set_option linter.unusedSimpArgs false
open Go.RowKit
/-- the error of two words -/
def ck2 (h l h' l' : List Bool) : Int := if ck h l = 0 then ck h' l' else ck h l
set_option maxHeartbeats 400000 in
theorem both_any (A B A' B' : Option Addr) (c d c' d' : Nat) (h l h' l' : List Bool) (w : World) (hh : h.length ≤ 140737488355328) (hl : l.length ≤ 140737488355328) (hh' : h'.length ≤ 140737488355328) (hl' : l'.length ≤ 140737488355328) :
    Calls Tryd.prog 26 #[.agg #[.slice A h.length c, .slice B l.length d], .agg #[.slice A' h'.length c', .slice B' l'.length d']] w (Bel (.int .i64 (ck2 h l h' l')) w) := by
  have k1 := Lib.hid (check_any A B c d h l)
  have k2 := Lib.hid (check_any A' B' c' d' h' l')
  by_cases h1 : ck h l = 0
  · have hd1 : (ck h l != 0) = false := by simp [h1]
    rw [ck2, if_pos h1]
    clear h1
    go_enter Tryd.func26, Tryd.ntmps26
    go_wp2_with (first
      | (go_at_call_of 17 (Value.agg #[Value.slice A h.length c, Value.slice B l.length d]); refine (k1.out _ hh hl).mono ?_; rintro e w1 ⟨rfl, hb1⟩; obtain ⟨hc1, hf1, hz1⟩ := bcell hb1; simp at hz1; have hz1a : w.heap.size < w1.heap.size := (by omega); have hz1b : w.heap.size + 1 < w1.heap.size := (by omega))
      | (go_at_call 17; refine (k2.out _ hh' hl').mono ?_; rintro e w2 ⟨rfl, hb2⟩))
    go_ret
    exact ⟨rfl, (by repeat (first | (with_reducible exact Below.refl _ _) | (with_reducible assumption) | (with_reducible exact bel_box _) | (with_reducible refine bel_step ?_ (by with_reducible assumption)) | (with_reducible refine Below.drew ?_) | (with_reducible refine below_drewN ?_ _) | (with_reducible refine bel_alloc ?_ _)))⟩
  · have hd1 := ck_bad h1
    rw [ck2, if_neg h1]
    clear h1
    go_enter Tryd.func26, Tryd.ntmps26
    go_wp2_with (go_at_call 17; refine (k1.out _ hh hl).mono ?_; rintro e w1 ⟨rfl, hb1⟩; obtain ⟨hc1, hf1, hz1⟩ := bcell hb1; simp at hz1; have hz1a : w.heap.size < w1.heap.size := (by omega); have hz1b : w.heap.size + 1 < w1.heap.size := (by omega))
    go_ret
    exact ⟨rfl, (by repeat (first | (with_reducible exact Below.refl _ _) | (with_reducible assumption) | (with_reducible exact bel_box _) | (with_reducible refine bel_step ?_ (by with_reducible assumption)) | (with_reducible refine Below.drew ?_) | (with_reducible refine below_drewN ?_ _) | (with_reducible refine bel_alloc ?_ _)))⟩

/-- the letters of a conjunction, the first k of n -/
def andK (f : Nat → Bool) (n k : Nat) : List Bool := (List.range n).map fun i => decide (i < k) && f i
theorem andK_length (f : Nat → Bool) (n k : Nat) : (andK f n k).length = n := by simp [andK]
theorem andK_zero (f : Nat → Bool) (n : Nat) : (madeCells (Value.bool false).cells (n * 1)).toList = bls (andK f n 0) := by
  simp [andK, bls, madeCells, Value.cells, Nat.mod_one]
theorem andK_set (f : Nat → Bool) (n k : Nat) (hk : k < n) : (bls (andK f n k)).set k (.bool (f k)) = bls (andK f n (k + 1)) := by
  apply List.ext_getElem
  · simp [bls, andK]
  · intro i h1 h2
    have hi : i < n := by simpa [bls, andK] using h2
    rw [List.getElem_set]
    by_cases e : k = i
    · subst e
      simp [bls, andK]
    · have ht : decide (i < k) = decide (i < k + 1) := by rw [decide_eq_decide]; omega
      simp [bls, andK, e, ht]
theorem andK_get (f : Nat → Bool) (n k j : Nat) (hj : j < n) : (bls (andK f n k))[j]? = some (.bool (decide (j < k) && f j)) := by simp [bls, andK, hj]
theorem add_off (b n : Nat) : (⟨b, 0, none⟩ : Addr).add n = ⟨b, n, none⟩ := by simp only [Addr.add]; split <;> simp_all
theorem fitted_n (A B : Option Addr) (n m c d : Nat) (h l : List Bool) (w : World) (hn : h.length = n) (hm : l.length = m) (hA : Rd w w.heap.size A (bls h)) (hB : Rd w w.heap.size B (bls l))
    (hh : n ≤ 65536) (hl : m ≤ 65536) (hc : n ≤ c) (hd : m ≤ d) (h0 : 0 < m) :
    Calls Tryd.prog 28 #[.slice A n c, .slice B m d] w (NewWE (fit (nfw h l)) (fitE (nfw h l)) w) := by
  subst hn
  subst hm
  exact fitted_any A B c d h l w hA hB hh hl hc hd h0
/-- the letters of a list, cut in two, are f where f repeats -/
theorem lt_cut {f : Nat → Bool} {H P : Nat} (hp : per f H P) (h0 : 0 < P) (i : Nat) : lt ((andK f (H + P) (H + P)).take H) ((andK f (H + P) (H + P)).drop H) i = f i := by
  have hl1 : ((andK f (H + P) (H + P)).take H).length = H := by rw [List.length_take, andK_length]; omega
  have hl2 : ((andK f (H + P) (H + P)).drop H).length = P := by rw [List.length_drop, andK_length]; omega
  rw [lt, hl1, hl2]
  split
  · rename_i hi
    rw [List.getElem?_take_of_lt hi]
    simp [andK, show i < H + P by omega]
  · rename_i hi
    have hm := Nat.mod_lt (i - H) h0
    rw [List.getElem?_drop]
    have e : (andK f (H + P) (H + P))[H + (i - H) % P]? = some (f (H + (i - H) % P)) := by simp [andK, show H + (i - H) % P < H + P by omega]
    rw [e, Option.getD_some]
    have := per_mul hp ((i - H) / P) (H + (i - H) % P) (by omega)
    rw [← this]
    congr 1
    have := Nat.div_add_mod (i - H) P
    rw [Nat.mul_comm] at this
    omega
theorem nf_cut {f : Nat → Bool} {H P : Nat} (hp : per f H P) (h0 : 0 < P) : nfw ((andK f (H + P) (H + P)).take H) ((andK f (H + P) (H + P)).drop H) = nf f H P := by
  have hl2 : ((andK f (H + P) (H + P)).drop H).length = P := by rw [List.length_drop, andK_length]; omega
  exact nf_eq (per_lt _ _) (by rw [hl2]; exact h0) hp h0 (lt_cut hp h0)
def andW (h l h' l' : List Bool) : List Bool × List Bool := nf (fun i => lt h l i && lt h' l' i) (max h.length h'.length) (l.length * l'.length)
theorem per_and (h l h' l' : List Bool) : per (fun i => lt h l i && lt h' l' i) (max h.length h'.length) (l.length * l'.length) := by
  intro i hi
  have e1 := per_mul (per_lt h l) l'.length i (by omega)
  have e2 := per_mul (per_lt h' l') l.length i (by omega)
  show (lt h l _ && lt h' l' _) = _
  rw [Nat.mul_comm l'.length] at e1
  rw [e1, e2]
set_option maxHeartbeats 2000000 in
theorem and_any (A B A' B' : Option Addr) (c d c' d' : Nat) (h l h' l' : List Bool) (w : World) (hA : Rd w w.heap.size A (bls h)) (hB : Rd w w.heap.size B (bls l)) (hA' : Rd w w.heap.size A' (bls h')) (hB' : Rd w w.heap.size B' (bls l'))
    (hh : h.length ≤ 140737488355328) (hl : l.length ≤ 140737488355328) (hh' : h'.length ≤ 140737488355328) (hl' : l'.length ≤ 140737488355328) (hck : ck2 h l h' l' = 0) :
    Calls Tryd.prog 14 #[.agg #[.slice A h.length c, .slice B l.length d], .agg #[.slice A' h'.length c', .slice B' l'.length d']] w (NewWE (fit (andW h l h' l')) (fitE (andW h l h' l')) w) := by
  obtain ⟨i0, hi, iz, is, ib⟩ := info_parts Tryd.boolInfo
  have HA := Lib.hid hA
  have HB := Lib.hid hB
  have HA' := Lib.hid hA'
  have HB' := Lib.hid hB'
  have HCK := Lib.hid hck
  have hk1 : ck h l = 0 := by unfold ck2 at hck; split at hck <;> assumption
  have hk2 : ck h' l' = 0 := by unfold ck2 at hck; rw [if_pos hk1] at hck; exact hck
  have g1 := lens hk1
  have g2 := lens hk2
  obtain ⟨Pr, hPr⟩ : ∃ P, P = l.length * l'.length := ⟨_, rfl⟩
  have hPr1 : Pr ≤ 4096 := by rw [hPr]; exact Nat.le_trans (Nat.mul_le_mul (show l.length ≤ 64 by omega) (show l'.length ≤ 64 by omega)) (by decide)
  have eP : (l.length : Int) * (l'.length : Int) = (Pr : Int) := by rw [← Int.natCast_mul, ← hPr]
  have bo := Lib.hid (both_any A B A' B' c d c' d' h l h' l')
  have HBox : Hid (∀ W, Below ((w.alloc (.cells #[.slice A h.length c, .slice B l.length d] 24)).alloc (.cells #[.slice A' h'.length c', .slice B' l'.length d'] 24) |>.alloc (.cells #[.slice none 0 0, .slice none 0 0] 24)).heap.size ((w.alloc (.cells #[.slice A h.length c, .slice B l.length d] 24)).alloc (.cells #[.slice A' h'.length c', .slice B' l'.length d'] 24) |>.alloc (.cells #[.slice none 0 0, .slice none 0 0] 24)) W →
      W.cell? ⟨w.heap.size, 0, none⟩ = some (.slice A h.length c) ∧ W.cell? ⟨w.heap.size, 1, none⟩ = some (.slice B l.length d) ∧ W.cell? ⟨w.heap.size + 1, 0, none⟩ = some (.slice A' h'.length c') ∧ W.cell? ⟨w.heap.size + 1, 1, none⟩ = some (.slice B' l'.length d')) := by
    intro W hb
    refine ⟨(hb.cell (p := ⟨w.heap.size, 0, none⟩) (by simp; omega)).trans ?_, (hb.cell (p := ⟨w.heap.size, 1, none⟩) (by simp; omega)).trans ?_, (hb.cell (p := ⟨w.heap.size + 1, 0, none⟩) (by simp)).trans ?_, (hb.cell (p := ⟨w.heap.size + 1, 1, none⟩) (by simp)).trans ?_⟩ <;> simp [go_sem]
  clear hA hB hA' hB' hk1 hk2 hck
  by_cases hm : h.length < h'.length
  · have hH : (h.length : Int) < (h'.length : Int) := by omega
    have hH2 : h'.length ≤ 64 := by omega
    obtain ⟨n, hn⟩ : ∃ n, n = h'.length + l.length * l'.length := ⟨_, rfl⟩
    have en : (h'.length : Int) + (Pr : Int) = (n : Int) := by rw [hn, hPr]; simp
    have hn1 : n ≤ 4160 := by rw [hn, ← hPr]; omega
    have HN := Lib.hid hn
    clear hn hPr
    go_enter Tryd.func14, Tryd.ntmps14
    go_wp2_with (first
      | (go_at_call 26; refine (bo.out _ hh hl hh' hl').mono ?_; rintro e w1 ⟨rfl, hb1⟩; rw [HCK.out]; obtain ⟨x1, x2, x3, x4⟩ := HBox.out w1 hb1)
      | (at_make; refine wpList_make_full _ rfl _ _ 22 rfl w1.heap.size 4 i0 (.bool false) 1 Tryd.underlying22 hi iz is _ _ _ _ n rfl rfl rfl rfl (by rw [ib]; omega) (by unfold maxLen; omega) (Nat.le_refl _) ?_; intro w2 hown2 hgrow2))
    have hb2 : Below w1.heap.size w1 w2 := (Below.refl _ _).grown hgrow2 (Nat.le_refl _) (fun k hk => by cases hk)
    rw [andK_zero (fun i => lt h l i && lt h' l' i) n] at hown2
    have HO2 := Lib.hid hown2
    clear hown2 hgrow2
    go_loopw [9, 36] (fun u i wr => ∃ k : Nat, k ≤ n ∧ i = .int .i64 k ∧ wr.ownsRow w1.heap.size 4 1 (.slice (some ⟨w1.heap.size, 0, none⟩) n n) n (bls (andK (fun i => lt h l i && lt h' l' i) n k)) ∧ Below w1.heap.size w1 wr) (fun _ i _ => n - (intOf i).toNat)
    case atStart => exact ⟨0, by omega, rfl, HO2.out, hb2⟩
    case round =>
      obtain ⟨k, hk, rfl, hown, hbl⟩ := hrel
      have hbw : Below ((w.alloc (.cells #[.slice A h.length c, .slice B l.length d] 24)).alloc (.cells #[.slice A' h'.length c', .slice B' l'.length d'] 24) |>.alloc (.cells #[.slice none 0 0, .slice none 0 0] 24)).heap.size ((w.alloc (.cells #[.slice A h.length c, .slice B l.length d] 24)).alloc (.cells #[.slice A' h'.length c', .slice B' l'.length d'] 24) |>.alloc (.cells #[.slice none 0 0, .slice none 0 0] 24)) wr := bel_step hb1 hbl
      obtain ⟨y1, y2, y3, y4⟩ := HBox.out wr hbw
      have HOW := Lib.hid hown
      clear hown
      by_cases hlt : k < n
      · obtain ⟨x, hx⟩ : ∃ x, lt h l k = x := ⟨_, rfl⟩
        obtain ⟨y, hy⟩ : ∃ y, lt h' l' k = y := ⟨_, rfl⟩
        have HX := Lib.hid hx
        have HY := Lib.hid hy
        have hset := andK_set (fun i => lt h l i && lt h' l' i) n k hlt
        simp only [hx, hy] at hset
        have HSET := Lib.hid hset
        clear hx hy hset
        cases x
        all_goals
          go_wp2_with (first
            | (go_at_call_of 27 (Value.agg #[Value.slice A h.length c, Value.slice B l.length d]); refine (letter_any A B c d k h l _ (HA.out.to ?_) (HB.out.to ?_) g1.1 hh hl (by omega)).mono ?_; (focus ((repeat (first | (with_reducible exact Below.refl _ _) | (with_reducible assumption) | (with_reducible exact bel_box _) | (with_reducible refine bel_step ?_ (by with_reducible assumption)) | (with_reducible refine Below.drew ?_) | (with_reducible refine below_drewN ?_ _) | (with_reducible refine bel_alloc ?_ _))); done)); (focus ((repeat (first | (with_reducible exact Below.refl _ _) | (with_reducible assumption) | (with_reducible exact bel_box _) | (with_reducible refine bel_step ?_ (by with_reducible assumption)) | (with_reducible refine Below.drew ?_) | (with_reducible refine below_drewN ?_ _) | (with_reducible refine bel_alloc ?_ _))); done)); rintro e w3 ⟨rfl, hb3⟩; rw [HX.out]; obtain ⟨z1, z2, z3, z4⟩ := HBox.out w3 (bel_step hbw hb3); have ho3 := own_keep HOW.out hb3; have hc3 := (ho3.cellAt k (by omega)).trans (andK_get _ n k k hlt); have hf3 := ho3.frozenAt k; have HO3 := Lib.hid ho3; clear ho3)
            | (go_at_call 27; refine (letter_any A' B' c' d' k h' l' _ (HA'.out.to ?_) (HB'.out.to ?_) g2.1 hh' hl' (by omega)).mono ?_; (focus ((repeat (first | (with_reducible exact Below.refl _ _) | (with_reducible assumption) | (with_reducible exact bel_box _) | (with_reducible refine bel_step ?_ (by with_reducible assumption)) | (with_reducible refine Below.drew ?_) | (with_reducible refine below_drewN ?_ _) | (with_reducible refine bel_alloc ?_ _))); done)); (focus ((repeat (first | (with_reducible exact Below.refl _ _) | (with_reducible assumption) | (with_reducible exact bel_box _) | (with_reducible refine bel_step ?_ (by with_reducible assumption)) | (with_reducible refine Below.drew ?_) | (with_reducible refine below_drewN ?_ _) | (with_reducible refine bel_alloc ?_ _))); done)); rintro e w4 ⟨rfl, hb4⟩; rw [HY.out]; have ho4 := own_keep HO3.out hb4; have hc4 := (ho4.cellAt k (by omega)).trans (andK_get _ n k k hlt); have hf4 := ho4.frozenAt k; have HO4 := Lib.hid ho4; clear ho4))
        · have hst := (HO3.out.stored k (.bool (false && y))).1
          rw [HSET.out] at hst
          go_roundw
          case rel => exact ⟨k + 1, by omega, by go_num, hst, (bel_step hbl hb3).setCell (p := ⟨w1.heap.size, k, none⟩) (Nat.le_refl _) _⟩
          case measure => simp [intOf]; omega
        · have hst := (HO4.out.stored k (.bool (true && y))).1
          rw [HSET.out] at hst
          go_roundw
          case rel => exact ⟨k + 1, by omega, by go_num, hst, (bel_step (bel_step hbl hb3) hb4).setCell (p := ⟨w1.heap.size, k, none⟩) (Nat.le_refl _) _⟩
          case measure => simp [intOf]; omega
      · obtain rfl : k = n := by omega
        have hr0 : wr.cell? ⟨w.heap.size + 2, 0, none⟩ = some (.slice none 0 0) := (hbw.cell (p := ⟨w.heap.size + 2, 0, none⟩) (by simp)).trans (by simp [go_sem])
        have hr1 : wr.cell? ⟨w.heap.size + 2, 1, none⟩ = some (.slice none 0 0) := (hbw.cell (p := ⟨w.heap.size + 2, 1, none⟩) (by simp)).trans (by simp [go_sem])
        have hr3 : wr.frozen? ⟨w.heap.size + 2, 0, none⟩ = false := (hbw.frozen (p := ⟨w.heap.size + 2, 0, none⟩) (by simp)).trans (by simp [go_sem])
        have hr4 : wr.frozen? ⟨w.heap.size + 2, 1, none⟩ = false := (hbw.frozen (p := ⟨w.heap.size + 2, 1, none⟩) (by simp)).trans (by simp [go_sem])
        have hres := res4_of hr0 hr1 hr3 hr4
        clear hr0 hr1 hr3 hr4
        have b1 : (0 : Int) ≤ (h'.length : Int) := by omega
        have b2 : (h'.length : Int) ≤ (k : Int) := by omega
        have b3 : ¬ k = h'.length := by have := HN.out; rw [this]; have := Nat.mul_pos g1.1 g2.1; omega
        have hRL := Lib.hid (Rd.of_own HOW.out)
        have hkP : k = h'.length + l.length * l'.length := HN.out
        have hPp := Nat.mul_pos g1.1 g2.1
        have L1 : ((andK (fun i => lt h l i && lt h' l' i) k k).take h'.length).length = h'.length := by rw [List.length_take, andK_length]; omega
        have L2 : ((andK (fun i => lt h l i && lt h' l' i) k k).drop h'.length).length = k - h'.length := by rw [List.length_drop, andK_length]
        have L3 : 0 < k - h'.length := by omega
        have RD2 : Hid (Rd wr wr.heap.size (some ⟨w1.heap.size, h'.length, none⟩) (bls ((andK (fun i => lt h l i && lt h' l' i) k k).drop h'.length))) := by
          have h := hRL.out.drop_some h'.length
          rw [add_off] at h
          exact h
        have NF : Hid (nfw ((andK (fun i => lt h l i && lt h' l' i) k k).take h'.length) ((andK (fun i => lt h l i && lt h' l' i) k k).drop h'.length) = andW h l h' l') := by
          show _ = _
          rw [hkP, nf_cut (by have := per_and h l h' l'; rwa [Nat.max_eq_right (by omega)] at this) hPp, andW, Nat.max_eq_right (by omega)]
        clear hkP hPp
        go_wp2 
        go_region_held3 (fun w' => w'.cell? ⟨w.heap.size + 2, 0, none⟩ = some (rc w' (w.heap.size + 2) 0) ∧ w'.cell? ⟨w.heap.size + 2, 1, none⟩ = some (rc w' (w.heap.size + 2) 1) ∧ w'.frozen? ⟨w.heap.size + 2, 0, none⟩ = false ∧ w'.frozen? ⟨w.heap.size + 2, 1, none⟩ = false)
          (first
            | (refine res4_below hres ?_; (repeat (first | (with_reducible exact Below.refl _ _) | (with_reducible assumption) | (with_reducible exact bel_box _) | (with_reducible refine bel_step ?_ (by with_reducible assumption)) | (with_reducible refine Below.drew ?_) | (with_reducible refine below_drewN ?_ _) | (with_reducible refine bel_alloc ?_ _))); done)
            | (refine res4_set (res4_below hres ?_) _ _; (repeat (first | (with_reducible exact Below.refl _ _) | (with_reducible assumption) | (with_reducible exact bel_box _) | (with_reducible refine bel_step ?_ (by with_reducible assumption)) | (with_reducible refine Below.drew ?_) | (with_reducible refine below_drewN ?_ _) | (with_reducible refine bel_alloc ?_ _))); done))
          (first
            | (go_at_call 28; refine (fitted_n _ _ h'.length (k - h'.length) k (k - h'.length) ((andK (fun i => lt h l i && lt h' l' i) k k).take h'.length) ((andK (fun i => lt h l i && lt h' l' i) k k).drop h'.length) _ L1 L2 ((hRL.out.to ?_).cut _) (RD2.out.to ?_) (by omega) (by omega) (by omega) (Nat.le_refl _) L3).mono ?_; (focus ((repeat (first | (with_reducible exact Below.refl _ _) | (with_reducible assumption) | (with_reducible exact bel_box _) | (with_reducible refine bel_step ?_ (by with_reducible assumption)) | (with_reducible refine Below.drew ?_) | (with_reducible refine below_drewN ?_ _) | (with_reducible refine bel_alloc ?_ _))); done)); (focus ((repeat (first | (with_reducible exact Below.refl _ _) | (with_reducible assumption) | (with_reducible exact bel_box _) | (with_reducible refine bel_step ?_ (by with_reducible assumption)) | (with_reducible refine Below.drew ?_) | (with_reducible refine below_drewN ?_ _) | (with_reducible refine bel_alloc ?_ _))); done)); rintro e w5 ⟨V1, V2, cv1, cv2, rfl, hR1, hR2, hv1, hv2, hb5, hn1, hn2⟩; rw [NF.out] at hR1 hR2 hv1 hv2 hn1 hn2 ⊢; have HR1 := Lib.hid hR1; have HR2 := Lib.hid hR2; clear hR1 hR2))
        go_wp2
        have hw5 := res4_below (W' := w5) hres (by repeat (first | (with_reducible exact Below.refl _ _) | (with_reducible assumption) | (with_reducible exact bel_box _) | (with_reducible refine bel_step ?_ (by with_reducible assumption)) | (with_reducible refine Below.drew ?_) | (with_reducible refine below_drewN ?_ _) | (with_reducible refine bel_alloc ?_ _)))
        obtain ⟨k0, k1⟩ := set2_cells hw5.1 hw5.2.1 (.slice V1 (fit (andW h l h' l')).1.length cv1) (.slice V2 (fit (andW h l h' l')).2.length cv2)
        clear hw5
        refine bodyPost_ret (v := .tuple #[.agg #[.slice V1 (fit (andW h l h' l')).1.length cv1, .slice V2 (fit (andW h l h' l')).2.length cv2], .int .i64 (fitE (andW h l h' l'))]) (by simp [results, Tryd.results14, go_sem, k0, k1]) rfl ?_
        have q1 := hbw.size
        have q2 := hb5.size
        simp at q1 q2
        exact ⟨V1, V2, cv1, cv2, rfl, HR1.out.set2_lo hn1 (by simp; omega) _ _, HR2.out.set2_lo hn2 (by simp; omega) _ _, hv1, hv2, bel_set2 (by repeat (first | (with_reducible exact Below.refl _ _) | (with_reducible assumption) | (with_reducible exact bel_box _) | (with_reducible refine bel_step ?_ (by with_reducible assumption)) | (with_reducible refine Below.drew ?_) | (with_reducible refine below_drewN ?_ _) | (with_reducible refine bel_alloc ?_ _))) (by omega) _ _, hn1.mono (by simp; omega), hn2.mono (by simp; omega)⟩
  · have hH : ¬ (h.length : Int) < (h'.length : Int) := by omega
    have hH2 : h.length ≤ 64 := by omega
    obtain ⟨n, hn⟩ : ∃ n, n = h.length + l.length * l'.length := ⟨_, rfl⟩
    have en : (h.length : Int) + (Pr : Int) = (n : Int) := by rw [hn, hPr]; simp
    have hn1 : n ≤ 4160 := by rw [hn, ← hPr]; omega
    have HN := Lib.hid hn
    clear hn hPr
    go_enter Tryd.func14, Tryd.ntmps14
    go_wp2_with (first
      | (go_at_call 26; refine (bo.out _ hh hl hh' hl').mono ?_; rintro e w1 ⟨rfl, hb1⟩; rw [HCK.out]; obtain ⟨x1, x2, x3, x4⟩ := HBox.out w1 hb1)
      | (at_make; refine wpList_make_full _ rfl _ _ 22 rfl w1.heap.size 4 i0 (.bool false) 1 Tryd.underlying22 hi iz is _ _ _ _ n rfl rfl rfl rfl (by rw [ib]; omega) (by unfold maxLen; omega) (Nat.le_refl _) ?_; intro w2 hown2 hgrow2))
    have hb2 : Below w1.heap.size w1 w2 := (Below.refl _ _).grown hgrow2 (Nat.le_refl _) (fun k hk => by cases hk)
    rw [andK_zero (fun i => lt h l i && lt h' l' i) n] at hown2
    have HO2 := Lib.hid hown2
    clear hown2 hgrow2
    go_loopw [9, 36] (fun u i wr => ∃ k : Nat, k ≤ n ∧ i = .int .i64 k ∧ wr.ownsRow w1.heap.size 4 1 (.slice (some ⟨w1.heap.size, 0, none⟩) n n) n (bls (andK (fun i => lt h l i && lt h' l' i) n k)) ∧ Below w1.heap.size w1 wr) (fun _ i _ => n - (intOf i).toNat)
    case atStart => exact ⟨0, by omega, rfl, HO2.out, hb2⟩
    case round =>
      obtain ⟨k, hk, rfl, hown, hbl⟩ := hrel
      have hbw : Below ((w.alloc (.cells #[.slice A h.length c, .slice B l.length d] 24)).alloc (.cells #[.slice A' h'.length c', .slice B' l'.length d'] 24) |>.alloc (.cells #[.slice none 0 0, .slice none 0 0] 24)).heap.size ((w.alloc (.cells #[.slice A h.length c, .slice B l.length d] 24)).alloc (.cells #[.slice A' h'.length c', .slice B' l'.length d'] 24) |>.alloc (.cells #[.slice none 0 0, .slice none 0 0] 24)) wr := bel_step hb1 hbl
      obtain ⟨y1, y2, y3, y4⟩ := HBox.out wr hbw
      have HOW := Lib.hid hown
      clear hown
      by_cases hlt : k < n
      · obtain ⟨x, hx⟩ : ∃ x, lt h l k = x := ⟨_, rfl⟩
        obtain ⟨y, hy⟩ : ∃ y, lt h' l' k = y := ⟨_, rfl⟩
        have HX := Lib.hid hx
        have HY := Lib.hid hy
        have hset := andK_set (fun i => lt h l i && lt h' l' i) n k hlt
        simp only [hx, hy] at hset
        have HSET := Lib.hid hset
        clear hx hy hset
        cases x
        all_goals
          go_wp2_with (first
            | (go_at_call_of 27 (Value.agg #[Value.slice A h.length c, Value.slice B l.length d]); refine (letter_any A B c d k h l _ (HA.out.to ?_) (HB.out.to ?_) g1.1 hh hl (by omega)).mono ?_; (focus ((repeat (first | (with_reducible exact Below.refl _ _) | (with_reducible assumption) | (with_reducible exact bel_box _) | (with_reducible refine bel_step ?_ (by with_reducible assumption)) | (with_reducible refine Below.drew ?_) | (with_reducible refine below_drewN ?_ _) | (with_reducible refine bel_alloc ?_ _))); done)); (focus ((repeat (first | (with_reducible exact Below.refl _ _) | (with_reducible assumption) | (with_reducible exact bel_box _) | (with_reducible refine bel_step ?_ (by with_reducible assumption)) | (with_reducible refine Below.drew ?_) | (with_reducible refine below_drewN ?_ _) | (with_reducible refine bel_alloc ?_ _))); done)); rintro e w3 ⟨rfl, hb3⟩; rw [HX.out]; obtain ⟨z1, z2, z3, z4⟩ := HBox.out w3 (bel_step hbw hb3); have ho3 := own_keep HOW.out hb3; have hc3 := (ho3.cellAt k (by omega)).trans (andK_get _ n k k hlt); have hf3 := ho3.frozenAt k; have HO3 := Lib.hid ho3; clear ho3)
            | (go_at_call 27; refine (letter_any A' B' c' d' k h' l' _ (HA'.out.to ?_) (HB'.out.to ?_) g2.1 hh' hl' (by omega)).mono ?_; (focus ((repeat (first | (with_reducible exact Below.refl _ _) | (with_reducible assumption) | (with_reducible exact bel_box _) | (with_reducible refine bel_step ?_ (by with_reducible assumption)) | (with_reducible refine Below.drew ?_) | (with_reducible refine below_drewN ?_ _) | (with_reducible refine bel_alloc ?_ _))); done)); (focus ((repeat (first | (with_reducible exact Below.refl _ _) | (with_reducible assumption) | (with_reducible exact bel_box _) | (with_reducible refine bel_step ?_ (by with_reducible assumption)) | (with_reducible refine Below.drew ?_) | (with_reducible refine below_drewN ?_ _) | (with_reducible refine bel_alloc ?_ _))); done)); rintro e w4 ⟨rfl, hb4⟩; rw [HY.out]; have ho4 := own_keep HO3.out hb4; have hc4 := (ho4.cellAt k (by omega)).trans (andK_get _ n k k hlt); have hf4 := ho4.frozenAt k; have HO4 := Lib.hid ho4; clear ho4))
        · have hst := (HO3.out.stored k (.bool (false && y))).1
          rw [HSET.out] at hst
          go_roundw
          case rel => exact ⟨k + 1, by omega, by go_num, hst, (bel_step hbl hb3).setCell (p := ⟨w1.heap.size, k, none⟩) (Nat.le_refl _) _⟩
          case measure => simp [intOf]; omega
        · have hst := (HO4.out.stored k (.bool (true && y))).1
          rw [HSET.out] at hst
          go_roundw
          case rel => exact ⟨k + 1, by omega, by go_num, hst, (bel_step (bel_step hbl hb3) hb4).setCell (p := ⟨w1.heap.size, k, none⟩) (Nat.le_refl _) _⟩
          case measure => simp [intOf]; omega
      · obtain rfl : k = n := by omega
        have hr0 : wr.cell? ⟨w.heap.size + 2, 0, none⟩ = some (.slice none 0 0) := (hbw.cell (p := ⟨w.heap.size + 2, 0, none⟩) (by simp)).trans (by simp [go_sem])
        have hr1 : wr.cell? ⟨w.heap.size + 2, 1, none⟩ = some (.slice none 0 0) := (hbw.cell (p := ⟨w.heap.size + 2, 1, none⟩) (by simp)).trans (by simp [go_sem])
        have hr3 : wr.frozen? ⟨w.heap.size + 2, 0, none⟩ = false := (hbw.frozen (p := ⟨w.heap.size + 2, 0, none⟩) (by simp)).trans (by simp [go_sem])
        have hr4 : wr.frozen? ⟨w.heap.size + 2, 1, none⟩ = false := (hbw.frozen (p := ⟨w.heap.size + 2, 1, none⟩) (by simp)).trans (by simp [go_sem])
        have hres := res4_of hr0 hr1 hr3 hr4
        clear hr0 hr1 hr3 hr4
        have b1 : (0 : Int) ≤ (h.length : Int) := by omega
        have b2 : (h.length : Int) ≤ (k : Int) := by omega
        have b3 : ¬ k = h.length := by have := HN.out; rw [this]; have := Nat.mul_pos g1.1 g2.1; omega
        have hRL := Lib.hid (Rd.of_own HOW.out)
        have hkP : k = h.length + l.length * l'.length := HN.out
        have hPp := Nat.mul_pos g1.1 g2.1
        have L1 : ((andK (fun i => lt h l i && lt h' l' i) k k).take h.length).length = h.length := by rw [List.length_take, andK_length]; omega
        have L2 : ((andK (fun i => lt h l i && lt h' l' i) k k).drop h.length).length = k - h.length := by rw [List.length_drop, andK_length]
        have L3 : 0 < k - h.length := by omega
        have RD2 : Hid (Rd wr wr.heap.size (some ⟨w1.heap.size, h.length, none⟩) (bls ((andK (fun i => lt h l i && lt h' l' i) k k).drop h.length))) := by
          have h := hRL.out.drop_some h.length
          rw [add_off] at h
          exact h
        have NF : Hid (nfw ((andK (fun i => lt h l i && lt h' l' i) k k).take h.length) ((andK (fun i => lt h l i && lt h' l' i) k k).drop h.length) = andW h l h' l') := by
          show _ = _
          rw [hkP, nf_cut (by have := per_and h l h' l'; rwa [Nat.max_eq_left (by omega)] at this) hPp, andW, Nat.max_eq_left (by omega)]
        clear hkP hPp
        go_wp2 
        go_region_held3 (fun w' => w'.cell? ⟨w.heap.size + 2, 0, none⟩ = some (rc w' (w.heap.size + 2) 0) ∧ w'.cell? ⟨w.heap.size + 2, 1, none⟩ = some (rc w' (w.heap.size + 2) 1) ∧ w'.frozen? ⟨w.heap.size + 2, 0, none⟩ = false ∧ w'.frozen? ⟨w.heap.size + 2, 1, none⟩ = false)
          (first
            | (refine res4_below hres ?_; (repeat (first | (with_reducible exact Below.refl _ _) | (with_reducible assumption) | (with_reducible exact bel_box _) | (with_reducible refine bel_step ?_ (by with_reducible assumption)) | (with_reducible refine Below.drew ?_) | (with_reducible refine below_drewN ?_ _) | (with_reducible refine bel_alloc ?_ _))); done)
            | (refine res4_set (res4_below hres ?_) _ _; (repeat (first | (with_reducible exact Below.refl _ _) | (with_reducible assumption) | (with_reducible exact bel_box _) | (with_reducible refine bel_step ?_ (by with_reducible assumption)) | (with_reducible refine Below.drew ?_) | (with_reducible refine below_drewN ?_ _) | (with_reducible refine bel_alloc ?_ _))); done))
          (first
            | (go_at_call 28; refine (fitted_n _ _ h.length (k - h.length) k (k - h.length) ((andK (fun i => lt h l i && lt h' l' i) k k).take h.length) ((andK (fun i => lt h l i && lt h' l' i) k k).drop h.length) _ L1 L2 ((hRL.out.to ?_).cut _) (RD2.out.to ?_) (by omega) (by omega) (by omega) (Nat.le_refl _) L3).mono ?_; (focus ((repeat (first | (with_reducible exact Below.refl _ _) | (with_reducible assumption) | (with_reducible exact bel_box _) | (with_reducible refine bel_step ?_ (by with_reducible assumption)) | (with_reducible refine Below.drew ?_) | (with_reducible refine below_drewN ?_ _) | (with_reducible refine bel_alloc ?_ _))); done)); (focus ((repeat (first | (with_reducible exact Below.refl _ _) | (with_reducible assumption) | (with_reducible exact bel_box _) | (with_reducible refine bel_step ?_ (by with_reducible assumption)) | (with_reducible refine Below.drew ?_) | (with_reducible refine below_drewN ?_ _) | (with_reducible refine bel_alloc ?_ _))); done)); rintro e w5 ⟨V1, V2, cv1, cv2, rfl, hR1, hR2, hv1, hv2, hb5, hn1, hn2⟩; rw [NF.out] at hR1 hR2 hv1 hv2 hn1 hn2 ⊢; have HR1 := Lib.hid hR1; have HR2 := Lib.hid hR2; clear hR1 hR2))
        go_wp2
        have hw5 := res4_below (W' := w5) hres (by repeat (first | (with_reducible exact Below.refl _ _) | (with_reducible assumption) | (with_reducible exact bel_box _) | (with_reducible refine bel_step ?_ (by with_reducible assumption)) | (with_reducible refine Below.drew ?_) | (with_reducible refine below_drewN ?_ _) | (with_reducible refine bel_alloc ?_ _)))
        obtain ⟨k0, k1⟩ := set2_cells hw5.1 hw5.2.1 (.slice V1 (fit (andW h l h' l')).1.length cv1) (.slice V2 (fit (andW h l h' l')).2.length cv2)
        clear hw5
        refine bodyPost_ret (v := .tuple #[.agg #[.slice V1 (fit (andW h l h' l')).1.length cv1, .slice V2 (fit (andW h l h' l')).2.length cv2], .int .i64 (fitE (andW h l h' l'))]) (by simp [results, Tryd.results14, go_sem, k0, k1]) rfl ?_
        have q1 := hbw.size
        have q2 := hb5.size
        simp at q1 q2
        exact ⟨V1, V2, cv1, cv2, rfl, HR1.out.set2_lo hn1 (by simp; omega) _ _, HR2.out.set2_lo hn2 (by simp; omega) _ _, hv1, hv2, bel_set2 (by repeat (first | (with_reducible exact Below.refl _ _) | (with_reducible assumption) | (with_reducible exact bel_box _) | (with_reducible refine bel_step ?_ (by with_reducible assumption)) | (with_reducible refine Below.drew ?_) | (with_reducible refine below_drewN ?_ _) | (with_reducible refine bel_alloc ?_ _))) (by omega) _ _, hn1.mono (by simp; omega), hn2.mono (by simp; omega)⟩
end Go.Proofs.YtlpigdekjkpnpaaDoor
