/- Not of both sides. -/
import Derived.Test.YtimecbkfeennpaaBwRn
namespace Go.Proofs.Ytimecbkfeennpaa
set_option linter.unusedVariables false
set_option linter.unusedSimpArgs false
open Go.RowKit
def inv (l : List Bool) : List Bool := l.map fun b => !b
theorem inv_length (l : List Bool) : (inv l).length = l.length := by simp [inv]
theorem inv_take {l : List Bool} {k : Nat} {b : Bool} (h : l[k]? = some b) : inv (l.take (k + 1)) = inv (l.take k) ++ [!b] := by
  rw [take_succ_of h]
  simp [inv]
set_option maxHeartbeats 400000 in
theorem rnot_any (A : Option Addr) (c : Nat) (l : List Bool) (w : World) (hA : Rd w w.heap.size A (bls l)) (hl : l.length ≤ 65536) :
    Calls Try.prog 45 #[.slice A l.length c] w (NewOwn (inv l) w) := by
  obtain ⟨i0, hi, iz, is, ib⟩ := info_parts Try.boolInfo
  have HA := Lib.hid hA
  clear hA
  go_enter Try.func45, Try.ntmps45
  go_wp2
  go_loopw [3, 4] (fun v i wr => ∃ (k : Nat), k ≤ l.length ∧ i = .int .i64 k ∧ wr.ownsRow w.heap.size 4 1 v k (bls (inv (l.take k))) ∧ w.heap.size ≤ wr.heap.size ∧ Below w.heap.size w wr) (fun _ i _ => l.length - (intOf i).toNat)
  case atStart => exact ⟨0, by omega, rfl, World.ownsRow_nil _ _ _ _, Nat.le_refl _, Below.refl _ _⟩
  case round =>
    obtain ⟨k, hk, rfl, hown, hsz, hbl⟩ := hrel
    by_cases hlt : k < l.length
    · obtain ⟨ad, b, rfl, had, hx, hc0⟩ := HA.out.bool_at hlt
      have hc : wr.cell? (ad.add k) = some (.bool b) := (hbl.cell (p := ad.add k) (by rw [add_block]; exact had)).trans hc0
      have HT := Lib.hid (inv_take hx)
      clear hx hc0
      go_wp2_with (at_builtin; refine wpList_append_rd _ rfl _ _ 22 rfl w.heap.size 4 i0 (.bool false) 1 Try.underlying22 hi iz is ib rfl _ k (bls (inv (l.take k))) rfl (hown.alloc _) (wr.heap.size + 1) _ 1 1 _ rfl rfl (Rd.one_new _ _ _) (one_cell_bool _) (by unfold maxLen; omega) (by omega) (by simp; omega) ?_; intro v1 w1 hown1 hgrow1 hat1)
      have hb1 := grow_one hsz hown hgrow1
      rw [← bls_snoc, ← HT.out] at hown1
      have hsz4 := Nat.le_trans hsz hb1.size
      go_roundw
      case rel => exact ⟨k + 1, by omega, by go_num, hown1, hsz4, hbl.trans hb1⟩
      case measure => simp [intOf]; omega
    · obtain rfl : k = l.length := by omega
      go_wp2
      go_ret
      rw [List.take_length] at hown
      obtain ⟨V, cv, rfl⟩ := own_form hown
      refine ⟨V, cv, by rw [inv_length]; rfl, by rw [inv_length]; exact hown, hbl⟩
theorem inv_all (l : List Bool) : andK (fun i => !gb l i) l.length l.length = inv l := by
  apply List.ext_getElem
  · simp [andK, inv]
  · intro i h1 h2
    have hi : i < l.length := by simpa [inv] using h2
    simp [andK, inv, gb, hi]
set_option maxHeartbeats 400000 in
theorem inverted_any (A : Option Addr) (c : Nat) (l : List Bool) (w : World) (hA : Rd w w.heap.size A (bls l)) (hl : l.length ≤ 65536) :
    Calls Try.prog 44 #[.slice A l.length c] w (NewOwn (inv l) w) := by
  obtain ⟨i0, hi, iz, is, ib⟩ := info_parts Try.boolInfo
  have HA := Lib.hid hA
  clear hA
  go_enter Try.func44, Try.ntmps44
  go_wp2_with (at_make; refine wpList_make_full _ rfl _ _ 22 rfl w.heap.size 4 i0 (.bool false) 1 Try.underlying22 hi iz is _ _ _ _ l.length rfl rfl rfl rfl (by rw [ib]; omega) (by unfold maxLen; omega) (Nat.le_refl _) ?_; intro w2 hown2 hgrow2)
  have hb2 : Below w.heap.size w w2 := (Below.refl _ _).grown hgrow2 (Nat.le_refl _) (fun k hk => by cases hk)
  rw [andK_zero (fun i => !gb l i) l.length] at hown2
  have HO2 := Lib.hid hown2
  clear hown2 hgrow2
  go_loopw [4, 10] (fun u i wr => ∃ k : Nat, k ≤ l.length ∧ i = .int .i64 k ∧ wr.ownsRow w.heap.size 4 1 (.slice (some ⟨w.heap.size, 0, none⟩) l.length l.length) l.length (bls (andK (fun i => !gb l i) l.length k)) ∧ Below w.heap.size w wr) (fun _ i _ => l.length - (intOf i).toNat)
  case atStart => exact ⟨0, by omega, rfl, HO2.out, hb2⟩
  case round =>
    obtain ⟨k, hk, rfl, hown, hbl⟩ := hrel
    by_cases hlt : k < l.length
    · obtain ⟨ad, b, rfl, had, hx, hc0⟩ := HA.out.bool_at hlt
      have hc : wr.cell? (ad.add k) = some (.bool b) := (hbl.cell (p := ad.add k) (by rw [add_block]; exact had)).trans hc0
      have hset := andK_set (fun i => !gb l i) l.length k hlt
      simp only [gb_of hx] at hset
      clear hx hc0
      have hc3 := (hown.cellAt k (by omega)).trans (andK_get _ l.length k k hlt)
      have hf3 := hown.frozenAt k
      have hst := (hown.stored k (.bool (!b))).1
      rw [hset] at hst
      have HST := Lib.hid hst
      have hb3 : Below w.heap.size w (wr.setCell ⟨w.heap.size, k, none⟩ (.bool (!b))) := hbl.setCell (p := ⟨w.heap.size, k, none⟩) (Nat.le_refl _) _
      clear hst hset hown
      go_wp2
      go_roundw
      case rel => exact ⟨k + 1, by omega, by go_num, HST.out, hb3⟩
      case measure => simp [intOf]; omega
    · obtain rfl : k = l.length := by omega
      rw [inv_all] at hown
      go_wp2
      go_ret
      exact ⟨_, _, by rw [inv_length]; rfl, by rw [inv_length]; exact hown, hbl⟩
def notL (h l : List Bool) : List Bool × List Bool := if ck h l = 0 then (inv h, inv l) else ([], [])
theorem inv_n {P : Program} {f : FuncId} {A : Option Addr} {c : Nat} {l : List Bool} {w : World} (h : Calls P f #[.slice A l.length c] w (NewOwn (inv l) w)) :
    Calls P f #[.slice A l.length c] w (fun e w' => ∃ V cv, e = .returned (.slice V l.length cv) ∧ w'.ownsRow w.heap.size 4 1 (.slice V l.length cv) l.length (bls (inv l)) ∧ Below w.heap.size w w') := by
  refine h.mono ?_
  rintro e w' ⟨V, cv, rfl, hown, hb⟩
  rw [inv_length] at hown ⊢
  exact ⟨V, cv, rfl, hown, hb⟩
set_option maxHeartbeats 1000000 in
theorem pnot_any (A B : Option Addr) (c d : Nat) (h l : List Bool) (w : World) (hA : Rd w w.heap.size A (bls h)) (hB : Rd w w.heap.size B (bls l))
    (hh : h.length ≤ 140737488355328) (hl : l.length ≤ 140737488355328) :
    Calls Try.prog 24 #[.agg #[.slice A h.length c, .slice B l.length d]] w (NewW (notL h l).1 (notL h l).2 w) := by
  have HA := Lib.hid hA
  have HB := Lib.hid hB
  clear hA hB
  have chk := Lib.hid (check_any A B c d h l)
  by_cases h1 : ck h l = 0
  · have hk := lens h1
    have hd1 : (ck h l != 0) = false := by simp [h1]
    rw [notL, if_pos h1]
    clear h1
    have i1 := Lib.hid (fun w hA hl => inv_n (inverted_any A c h w hA hl))
    have i2 := Lib.hid (fun w hA hl => inv_n (inverted_any B d l w hA hl))
    go_enter Try.func24, Try.ntmps24
    go_wp2_with (first
      | ((go_at_call 12; refine (chk.out _ hh hl).mono ?_; rintro e w1 ⟨rfl, hb1⟩; obtain ⟨hc1, hf1, hz1⟩ := bcell hb1; try simp at hz1); have hz1a : w.heap.size < w1.heap.size := (by omega); have hz1b : w.heap.size + 1 < w1.heap.size := (by omega)))
    have hr0 : w1.cell? ⟨w.heap.size + 1, 0, none⟩ = some (.slice none 0 0) := by simp [go_sem, *]
    have hr1 : w1.cell? ⟨w.heap.size + 1, 1, none⟩ = some (.slice none 0 0) := by simp [go_sem, *]
    have hr3 : w1.frozen? ⟨w.heap.size + 1, 0, none⟩ = false := by simp [go_sem, *]
    have hr4 : w1.frozen? ⟨w.heap.size + 1, 1, none⟩ = false := by simp [go_sem, *]
    have hres := res4_of hr0 hr1 hr3 hr4
    have hbx : Below (w.alloc (.cells #[.slice A h.length c, .slice B l.length d] 24)).heap.size (w.alloc (.cells #[.slice A h.length c, .slice B l.length d] 24)) w1 := bel_step (bel_box _) hb1
    have hbl : Below w.heap.size w w1 := (by repeat (first | (with_reducible exact Below.refl _ _) | (with_reducible assumption) | (with_reducible exact bel_box _) | (with_reducible refine bel_step ?_ (by with_reducible assumption)) | (with_reducible refine Below.drew ?_) | (with_reducible refine below_drewN ?_ _) | (with_reducible refine bel_alloc ?_ _)))
    obtain ⟨s1, s2⟩ := box2 hbx
    clear hr0 hr1 hr3 hr4 hc1 hf1 hz1 hb1
    go_region_held3 (fun w' => w'.cell? ⟨w.heap.size, 0, none⟩ = some (.slice A h.length c) ∧ w'.cell? ⟨w.heap.size, 1, none⟩ = some (.slice B l.length d) ∧ w'.cell? ⟨w.heap.size + 1, 0, none⟩ = some (rc w' (w.heap.size + 1) 0) ∧ w'.cell? ⟨w.heap.size + 1, 1, none⟩ = some (rc w' (w.heap.size + 1) 1) ∧ w'.frozen? ⟨w.heap.size + 1, 0, none⟩ = false ∧ w'.frozen? ⟨w.heap.size + 1, 1, none⟩ = false)
      (first
        | (refine and6 (box2 (t := 24) ?_) (res4_below hres ?_); (focus ((repeat (first | (with_reducible exact Below.refl _ _) | (with_reducible assumption) | (with_reducible exact bel_box _) | (with_reducible refine bel_step ?_ (by with_reducible assumption)) | (with_reducible refine Below.drew ?_) | (with_reducible refine below_drewN ?_ _) | (with_reducible refine bel_alloc ?_ _))); done)); (focus ((repeat (first | (with_reducible exact Below.refl _ _) | (with_reducible assumption) | (with_reducible exact bel_box _) | (with_reducible refine bel_step ?_ (by with_reducible assumption)) | (with_reducible refine Below.drew ?_) | (with_reducible refine below_drewN ?_ _) | (with_reducible refine bel_alloc ?_ _))); done)))
        | (refine and6 (box2 (t := 24) ((Below.setCell (Below.setCell ?_ ?_ _) ?_ _))) (res4_set (res4_below hres ?_) _ _); (focus ((repeat (first | (with_reducible exact Below.refl _ _) | (with_reducible assumption) | (with_reducible exact bel_box _) | (with_reducible refine bel_step ?_ (by with_reducible assumption)) | (with_reducible refine Below.drew ?_) | (with_reducible refine below_drewN ?_ _) | (with_reducible refine bel_alloc ?_ _))); done)); (focus (simp; done)); (focus (simp; done)); (focus ((repeat (first | (with_reducible exact Below.refl _ _) | (with_reducible assumption) | (with_reducible exact bel_box _) | (with_reducible refine bel_step ?_ (by with_reducible assumption)) | (with_reducible refine Below.drew ?_) | (with_reducible refine below_drewN ?_ _) | (with_reducible refine bel_alloc ?_ _))); done))))
      (first
        | (go_at_call_of 44 (Value.slice A h.length c); refine (i1.out _ (HA.out.to ?_) (by omega)).mono ?_; (focus ((repeat (first | (with_reducible exact Below.refl _ _) | (with_reducible assumption) | (with_reducible exact bel_box _) | (with_reducible refine bel_step ?_ (by with_reducible assumption)) | (with_reducible refine Below.drew ?_) | (with_reducible refine below_drewN ?_ _) | (with_reducible refine bel_alloc ?_ _))); done)); rintro e w2 ⟨V1, cv1, rfl, hown1, hb2⟩)
        | (go_at_call 44; refine (i2.out _ (HB.out.to ?_) (by omega)).mono ?_; (focus ((repeat (first | (with_reducible exact Below.refl _ _) | (with_reducible assumption) | (with_reducible exact bel_box _) | (with_reducible refine bel_step ?_ (by with_reducible assumption)) | (with_reducible refine Below.drew ?_) | (with_reducible refine below_drewN ?_ _) | (with_reducible refine bel_alloc ?_ _))); done)); rintro e w3 ⟨V2, cv2, rfl, hown2, hb3⟩))
    all_goals go_wp2
    all_goals
      have hown1' := own_keep hown1 hb3
      have hw3 := res4_below (W' := w3) hres (by repeat (first | (with_reducible exact Below.refl _ _) | (with_reducible assumption) | (with_reducible exact bel_box _) | (with_reducible refine bel_step ?_ (by with_reducible assumption)) | (with_reducible refine Below.drew ?_) | (with_reducible refine below_drewN ?_ _) | (with_reducible refine bel_alloc ?_ _)))
      obtain ⟨k0, k1⟩ := set2_cells hw3.1 hw3.2.1 (.slice V1 h.length cv1) (.slice V2 l.length cv2)
      refine bodyPost_ret (v := .agg #[.slice V1 h.length cv1, .slice V2 l.length cv2]) (by simp [results, Try.results24, go_sem, k0, k1]) rfl ?_
      have hq1 : w1.heap.size ≤ w2.heap.size := hb2.size
      have hz1 : w.heap.size + 1 < w1.drew.heap.size := hz1b
      exact ⟨V1, V2, cv1, cv2, by rw [inv_length, inv_length], own_set2 hown1' (by omega) _ _, own_set2 hown2 (by omega) _ _, by rw [inv_length]; exact own_cap hown1, by rw [inv_length]; exact own_cap hown2, bel_set2 (by repeat (first | (with_reducible exact Below.refl _ _) | (with_reducible assumption) | (with_reducible exact bel_box _) | (with_reducible refine bel_step ?_ (by with_reducible assumption)) | (with_reducible refine Below.drew ?_) | (with_reducible refine below_drewN ?_ _) | (with_reducible refine bel_alloc ?_ _))) (by omega) _ _, (own_new hown1).mono (by omega), (own_new hown2).mono (by omega)⟩
  · have hd1 := ck_bad h1
    rw [notL, if_neg h1]
    clear h1
    go_enter Try.func24, Try.ntmps24
    go_wp2_with (first
      | ((go_at_call 12; refine (chk.out _ hh hl).mono ?_; rintro e w1 ⟨rfl, hb1⟩; obtain ⟨hc1, hf1, hz1⟩ := bcell hb1; try simp at hz1); have hz1a : w.heap.size < w1.heap.size := (by omega); have hz1b : w.heap.size + 1 < w1.heap.size := (by omega)))
    have hr0 : w1.cell? ⟨w.heap.size + 1, 0, none⟩ = some (.slice none 0 0) := by simp [go_sem, *]
    have hr1 : w1.cell? ⟨w.heap.size + 1, 1, none⟩ = some (.slice none 0 0) := by simp [go_sem, *]
    obtain ⟨k0, k1⟩ := set2_cells hr0 hr1 (.slice none 0 0) (.slice none 0 0)
    refine bodyPost_ret (v := .agg #[.slice none 0 0, .slice none 0 0]) (by simp [results, Try.results24, go_sem, k0, k1]) rfl ?_
    exact ⟨none, none, 0, 0, rfl, Rd.nil _ _ _, Rd.nil _ _ _, Nat.zero_le _, Nat.zero_le _, bel_set2 (by repeat (first | (with_reducible exact Below.refl _ _) | (with_reducible assumption) | (with_reducible exact bel_box _) | (with_reducible refine bel_step ?_ (by with_reducible assumption)) | (with_reducible refine Below.drew ?_) | (with_reducible refine below_drewN ?_ _) | (with_reducible refine bel_alloc ?_ _))) (by omega) _ _, Nw.nil _ _, Nw.nil _ _⟩
set_option maxHeartbeats 1000000 in
theorem rrnot_any (A B : Option Addr) (c d : Nat) (h l : List Bool) (w : World) (hA : Rd w w.heap.size A (bls h)) (hB : Rd w w.heap.size B (bls l))
    (hh : h.length ≤ 140737488355328) (hl : l.length ≤ 140737488355328) :
    Calls Try.prog 25 #[.agg #[.slice A h.length c, .slice B l.length d]] w (NewW (notL h l).1 (notL h l).2 w) := by
  have HA := Lib.hid hA
  have HB := Lib.hid hB
  clear hA hB
  have chk := Lib.hid (rcheck_any A B c d h l)
  by_cases h1 : ck h l = 0
  · have hk := lens h1
    have hd1 : (ck h l != 0) = false := by simp [h1]
    rw [notL, if_pos h1]
    clear h1
    have i1 := Lib.hid (fun w hA hl => inv_n (rnot_any A c h w hA hl))
    have i2 := Lib.hid (fun w hA hl => inv_n (rnot_any B d l w hA hl))
    go_enter Try.func25, Try.ntmps25
    go_wp2_with (first
      | ((go_at_call 13; refine (chk.out _ hh hl).mono ?_; rintro e w1 ⟨rfl, hb1⟩; obtain ⟨hc1, hf1, hz1⟩ := bcell hb1; try simp at hz1); have hz1a : w.heap.size < w1.heap.size := (by omega); have hz1b : w.heap.size + 1 < w1.heap.size := (by omega)))
    have hr0 : w1.cell? ⟨w.heap.size + 1, 0, none⟩ = some (.slice none 0 0) := by simp [go_sem, *]
    have hr1 : w1.cell? ⟨w.heap.size + 1, 1, none⟩ = some (.slice none 0 0) := by simp [go_sem, *]
    have hr3 : w1.frozen? ⟨w.heap.size + 1, 0, none⟩ = false := by simp [go_sem, *]
    have hr4 : w1.frozen? ⟨w.heap.size + 1, 1, none⟩ = false := by simp [go_sem, *]
    have hres := res4_of hr0 hr1 hr3 hr4
    have hbx : Below (w.alloc (.cells #[.slice A h.length c, .slice B l.length d] 24)).heap.size (w.alloc (.cells #[.slice A h.length c, .slice B l.length d] 24)) w1 := bel_step (bel_box _) hb1
    have hbl : Below w.heap.size w w1 := (by repeat (first | (with_reducible exact Below.refl _ _) | (with_reducible assumption) | (with_reducible exact bel_box _) | (with_reducible refine bel_step ?_ (by with_reducible assumption)) | (with_reducible refine Below.drew ?_) | (with_reducible refine below_drewN ?_ _) | (with_reducible refine bel_alloc ?_ _)))
    obtain ⟨s1, s2⟩ := box2 hbx
    clear hr0 hr1 hr3 hr4 hc1 hf1 hz1 hb1
    go_region_held3 (fun w' => w'.cell? ⟨w.heap.size, 0, none⟩ = some (.slice A h.length c) ∧ w'.cell? ⟨w.heap.size, 1, none⟩ = some (.slice B l.length d) ∧ w'.cell? ⟨w.heap.size + 1, 0, none⟩ = some (rc w' (w.heap.size + 1) 0) ∧ w'.cell? ⟨w.heap.size + 1, 1, none⟩ = some (rc w' (w.heap.size + 1) 1) ∧ w'.frozen? ⟨w.heap.size + 1, 0, none⟩ = false ∧ w'.frozen? ⟨w.heap.size + 1, 1, none⟩ = false)
      (first
        | (refine and6 (box2 (t := 24) ?_) (res4_below hres ?_); (focus ((repeat (first | (with_reducible exact Below.refl _ _) | (with_reducible assumption) | (with_reducible exact bel_box _) | (with_reducible refine bel_step ?_ (by with_reducible assumption)) | (with_reducible refine Below.drew ?_) | (with_reducible refine below_drewN ?_ _) | (with_reducible refine bel_alloc ?_ _))); done)); (focus ((repeat (first | (with_reducible exact Below.refl _ _) | (with_reducible assumption) | (with_reducible exact bel_box _) | (with_reducible refine bel_step ?_ (by with_reducible assumption)) | (with_reducible refine Below.drew ?_) | (with_reducible refine below_drewN ?_ _) | (with_reducible refine bel_alloc ?_ _))); done)))
        | (refine and6 (box2 (t := 24) ((Below.setCell (Below.setCell ?_ ?_ _) ?_ _))) (res4_set (res4_below hres ?_) _ _); (focus ((repeat (first | (with_reducible exact Below.refl _ _) | (with_reducible assumption) | (with_reducible exact bel_box _) | (with_reducible refine bel_step ?_ (by with_reducible assumption)) | (with_reducible refine Below.drew ?_) | (with_reducible refine below_drewN ?_ _) | (with_reducible refine bel_alloc ?_ _))); done)); (focus (simp; done)); (focus (simp; done)); (focus ((repeat (first | (with_reducible exact Below.refl _ _) | (with_reducible assumption) | (with_reducible exact bel_box _) | (with_reducible refine bel_step ?_ (by with_reducible assumption)) | (with_reducible refine Below.drew ?_) | (with_reducible refine below_drewN ?_ _) | (with_reducible refine bel_alloc ?_ _))); done))))
      (first
        | (go_at_call_of 45 (Value.slice A h.length c); refine (i1.out _ (HA.out.to ?_) (by omega)).mono ?_; (focus ((repeat (first | (with_reducible exact Below.refl _ _) | (with_reducible assumption) | (with_reducible exact bel_box _) | (with_reducible refine bel_step ?_ (by with_reducible assumption)) | (with_reducible refine Below.drew ?_) | (with_reducible refine below_drewN ?_ _) | (with_reducible refine bel_alloc ?_ _))); done)); rintro e w2 ⟨V1, cv1, rfl, hown1, hb2⟩)
        | (go_at_call 45; refine (i2.out _ (HB.out.to ?_) (by omega)).mono ?_; (focus ((repeat (first | (with_reducible exact Below.refl _ _) | (with_reducible assumption) | (with_reducible exact bel_box _) | (with_reducible refine bel_step ?_ (by with_reducible assumption)) | (with_reducible refine Below.drew ?_) | (with_reducible refine below_drewN ?_ _) | (with_reducible refine bel_alloc ?_ _))); done)); rintro e w3 ⟨V2, cv2, rfl, hown2, hb3⟩))
    all_goals go_wp2
    all_goals
      have hown1' := own_keep hown1 hb3
      have hw3 := res4_below (W' := w3) hres (by repeat (first | (with_reducible exact Below.refl _ _) | (with_reducible assumption) | (with_reducible exact bel_box _) | (with_reducible refine bel_step ?_ (by with_reducible assumption)) | (with_reducible refine Below.drew ?_) | (with_reducible refine below_drewN ?_ _) | (with_reducible refine bel_alloc ?_ _)))
      obtain ⟨k0, k1⟩ := set2_cells hw3.1 hw3.2.1 (.slice V1 h.length cv1) (.slice V2 l.length cv2)
      refine bodyPost_ret (v := .agg #[.slice V1 h.length cv1, .slice V2 l.length cv2]) (by simp [results, Try.results25, go_sem, k0, k1]) rfl ?_
      have hq1 : w1.heap.size ≤ w2.heap.size := hb2.size
      have hz1 : w.heap.size + 1 < w1.drew.heap.size := hz1b
      exact ⟨V1, V2, cv1, cv2, by rw [inv_length, inv_length], own_set2 hown1' (by omega) _ _, own_set2 hown2 (by omega) _ _, by rw [inv_length]; exact own_cap hown1, by rw [inv_length]; exact own_cap hown2, bel_set2 (by repeat (first | (with_reducible exact Below.refl _ _) | (with_reducible assumption) | (with_reducible exact bel_box _) | (with_reducible refine bel_step ?_ (by with_reducible assumption)) | (with_reducible refine Below.drew ?_) | (with_reducible refine below_drewN ?_ _) | (with_reducible refine bel_alloc ?_ _))) (by omega) _ _, (own_new hown1).mono (by omega), (own_new hown2).mono (by omega)⟩
  · have hd1 := ck_bad h1
    rw [notL, if_neg h1]
    clear h1
    go_enter Try.func25, Try.ntmps25
    go_wp2_with (first
      | ((go_at_call 13; refine (chk.out _ hh hl).mono ?_; rintro e w1 ⟨rfl, hb1⟩; obtain ⟨hc1, hf1, hz1⟩ := bcell hb1; try simp at hz1); have hz1a : w.heap.size < w1.heap.size := (by omega); have hz1b : w.heap.size + 1 < w1.heap.size := (by omega)))
    have hr0 : w1.cell? ⟨w.heap.size + 1, 0, none⟩ = some (.slice none 0 0) := by simp [go_sem, *]
    have hr1 : w1.cell? ⟨w.heap.size + 1, 1, none⟩ = some (.slice none 0 0) := by simp [go_sem, *]
    obtain ⟨k0, k1⟩ := set2_cells hr0 hr1 (.slice none 0 0) (.slice none 0 0)
    refine bodyPost_ret (v := .agg #[.slice none 0 0, .slice none 0 0]) (by simp [results, Try.results25, go_sem, k0, k1]) rfl ?_
    exact ⟨none, none, 0, 0, rfl, Rd.nil _ _ _, Rd.nil _ _ _, Nat.zero_le _, Nat.zero_le _, bel_set2 (by repeat (first | (with_reducible exact Below.refl _ _) | (with_reducible assumption) | (with_reducible exact bel_box _) | (with_reducible refine bel_step ?_ (by with_reducible assumption)) | (with_reducible refine Below.drew ?_) | (with_reducible refine below_drewN ?_ _) | (with_reducible refine bel_alloc ?_ _))) (by omega) _ _, Nw.nil _ _, Nw.nil _ _⟩
end Go.Proofs.Ytimecbkfeennpaa
