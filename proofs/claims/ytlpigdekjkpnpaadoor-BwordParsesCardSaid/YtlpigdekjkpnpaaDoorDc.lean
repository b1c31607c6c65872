/- Text and run of the reference. -/
import Derived.Test.YtlpigdekjkpnpaaDoorDb
namespace Go.Proofs.YtlpigdekjkpnpaaDoor
set_option linter.unusedVariables false
set_option linter.unusedSimpArgs false
open Go.RowKit
set_option maxHeartbeats 1000000 in
theorem rtext_any (A B : Option Addr) (c d : Nat) (h l : List Bool) (w : World) (hA : Rd w w.heap.size A (bls h)) (hB : Rd w w.heap.size B (bls l)) (hh : h.length ≤ 140737488355328) (hl : l.length ≤ 140737488355328) :
    Calls Tryd.prog 8 #[.agg #[.slice A h.length c, .slice B l.length d]] w (Bel (.tuple #[.string (txt h l), .int .i64 (ck h l)]) w) := by
  have HA := Lib.hid hA
  have HB := Lib.hid hB
  clear hA hB
  have chk := Lib.hid (rcheck_any A B c d h l)
  have HBox : Hid (∀ W, Below (w.alloc (.cells #[.slice A h.length c, .slice B l.length d] 24)).heap.size (w.alloc (.cells #[.slice A h.length c, .slice B l.length d] 24)) W →
      W.cell? ⟨w.heap.size, 0, none⟩ = some (.slice A h.length c) ∧ W.cell? ⟨w.heap.size, 1, none⟩ = some (.slice B l.length d)) := by
    intro W hb
    refine ⟨(hb.cell (p := ⟨w.heap.size, 0, none⟩) (by simp)).trans ?_, (hb.cell (p := ⟨w.heap.size, 1, none⟩) (by simp)).trans ?_⟩ <;> simp [go_sem]
  by_cases h1 : ck h l = 0
  · have hk := lens h1
    have hd1 : (ck h l != 0) = false := by simp [h1]
    rw [txt, if_pos h1]
    have HK := Lib.hid h1
    clear h1
    have s1 : (dgs h).size = h.length := dgs_size h
    have s2 : (dgs l).size = l.length := dgs_size l
    have a1 : (dgs h).size + (ByteArray.mk #[40]).size ≤ 9223372036854775807 := by rw [s1]; simp only [ByteArray.size, List.size_toArray]; simp; omega
    have a2 : (dgs h ++ ⟨#[40]⟩).size + (dgs l).size ≤ 9223372036854775807 := by rw [ByteArray.size_append, s1, s2]; simp only [ByteArray.size]; simp; omega
    have a3 : (dgs h ++ ⟨#[40]⟩ ++ dgs l).size + (ByteArray.mk #[41]).size ≤ 9223372036854775807 := by rw [ByteArray.size_append, ByteArray.size_append, s1, s2]; simp only [ByteArray.size]; simp; omega
    have ka1 := fun w => run_string_add_sum (P := Tryd.prog) w _ _ a1
    have ka2 := fun w => run_string_add_sum (P := Tryd.prog) w _ _ a2
    have ka3 := fun w => run_string_add_sum (P := Tryd.prog) w _ _ a3
    clear a1 a2 a3
    have d1 := Lib.hid (rdigits_any A c h)
    have d2 := Lib.hid (rdigits_any B d l)
    go_enter Tryd.func8, Tryd.ntmps8
    go_wp2_with (go_at_call 19; refine (chk.out _ hh hl).mono ?_; rintro e w1 ⟨rfl, hb1⟩; obtain ⟨x1, x2⟩ := HBox.out w1 hb1)
    go_region_held3 (fun w' => w'.cell? ⟨w.heap.size, 0, none⟩ = some (.slice A h.length c) ∧ w'.cell? ⟨w.heap.size, 1, none⟩ = some (.slice B l.length d))
      ((refine HBox.out _ ?_; (repeat (first | (with_reducible exact Below.refl _ _) | (with_reducible assumption) | (with_reducible exact bel_box _) | (with_reducible refine bel_step ?_ (by with_reducible assumption)) | (with_reducible refine Below.drew ?_) | (with_reducible refine below_drewN ?_ _) | (with_reducible refine bel_alloc ?_ _))); done))
      (first
        | (go_at_call_of 20 (Value.slice A h.length c); refine (d1.out _ (HA.out.to ?_) (by omega)).mono ?_; (focus ((repeat (first | (with_reducible exact Below.refl _ _) | (with_reducible assumption) | (with_reducible exact bel_box _) | (with_reducible refine bel_step ?_ (by with_reducible assumption)) | (with_reducible refine Below.drew ?_) | (with_reducible refine below_drewN ?_ _) | (with_reducible refine bel_alloc ?_ _))); done)); rintro e w2 ⟨rfl, hb2⟩)
        | (go_at_call 20; refine (d2.out _ (HB.out.to ?_) (by omega)).mono ?_; (focus ((repeat (first | (with_reducible exact Below.refl _ _) | (with_reducible assumption) | (with_reducible exact bel_box _) | (with_reducible refine bel_step ?_ (by with_reducible assumption)) | (with_reducible refine Below.drew ?_) | (with_reducible refine below_drewN ?_ _) | (with_reducible refine bel_alloc ?_ _))); done)); rintro e w3 ⟨rfl, hb3⟩))
    all_goals go_wp2
    all_goals refine bodyPost_ret (v := .tuple #[.string (dgs h ++ ⟨#[40]⟩ ++ dgs l ++ ⟨#[41]⟩), .int .i64 0]) (by simp [results, Tryd.results8, go_sem]) rfl ?_
    all_goals exact ⟨by rw [HK.out], (by repeat (first | (with_reducible exact Below.refl _ _) | (with_reducible assumption) | (with_reducible exact bel_box _) | (with_reducible refine bel_step ?_ (by with_reducible assumption)) | (with_reducible refine Below.drew ?_) | (with_reducible refine below_drewN ?_ _) | (with_reducible refine bel_alloc ?_ _)))⟩
  · have hd1 := ck_bad h1
    rw [txt, if_neg h1]
    clear h1
    go_enter Tryd.func8, Tryd.ntmps8
    go_wp2_with (go_at_call 19; refine (chk.out _ hh hl).mono ?_; rintro e w1 ⟨rfl, hb1⟩)
    refine bodyPost_ret (v := .tuple #[.string ⟨#[]⟩, .int .i64 (ck h l)]) (by simp [results, Tryd.results8, go_sem]) rfl ?_
    exact ⟨rfl, (by repeat (first | (with_reducible exact Below.refl _ _) | (with_reducible assumption) | (with_reducible exact bel_box _) | (with_reducible refine bel_step ?_ (by with_reducible assumption)) | (with_reducible refine Below.drew ?_) | (with_reducible refine below_drewN ?_ _) | (with_reducible refine bel_alloc ?_ _)))⟩
theorem tw_at {α : Type} (p : α → Bool) (l : List α) (i : Nat) (h : i < (l.takeWhile p).length) : ∃ b, l[i]? = some b ∧ p b = true ∧ (l.takeWhile p)[i]? = some b := by
  induction l generalizing i with
  | nil => simp at h
  | cons a r ih =>
    rw [List.takeWhile_cons] at h ⊢
    by_cases ha : p a = true
    · rw [if_pos ha] at h ⊢
      rcases i with _ | i
      · exact ⟨a, rfl, ha, rfl⟩
      · exact ih i (by simpa using h)
    · rw [if_neg ha] at h
      simp at h
theorem tw_end {α : Type} (p : α → Bool) (l : List α) (b : α) (h : l[(l.takeWhile p).length]? = some b) : p b = false := by
  induction l with
  | nil => simp at h
  | cons a r ih =>
    rw [List.takeWhile_cons] at h
    by_cases ha : p a = true
    · rw [if_pos ha] at h
      exact ih (by simpa using h)
    · rw [if_neg ha] at h
      simp at h
      rw [← h]
      simpa using ha
theorem tw_le {α : Type} (p : α → Bool) (l : List α) : (l.takeWhile p).length ≤ l.length := (List.takeWhile_sublist p).length_le
/-- the letters 0 and 1 at the beginning -/
def runL (l : List UInt8) : List Bool := (l.takeWhile isD).map fun b => ((b.toNat : Nat) : Int) == 49
theorem runL_length (l : List UInt8) : (runL l).length = (l.takeWhile isD).length := by simp [runL]
theorem isD_two {c : UInt8} (h : isD c = true) : (((c.toNat : Nat) : Int) == 48) = true ∧ (((c.toNat : Nat) : Int) == 49) = false ∨ (((c.toNat : Nat) : Int) == 48) = false ∧ (((c.toNat : Nat) : Int) == 49) = true := by
  unfold isD at h
  rw [Bool.or_eq_true, beq_iff_eq, beq_iff_eq] at h
  rcases h with rfl | rfl
  · exact .inl ⟨rfl, rfl⟩
  · exact .inr ⟨rfl, rfl⟩
theorem isD_none {c : UInt8} (h : isD c = false) : (((c.toNat : Nat) : Int) == 48) = false ∧ (((c.toNat : Nat) : Int) == 49) = false := by
  unfold isD at h
  rw [Bool.or_eq_false_iff, beq_eq_false_iff_ne, beq_eq_false_iff_ne] at h
  refine ⟨?_, ?_⟩ <;> rw [beq_eq_false_iff_ne] <;> intro e
  · exact h.1 (UInt8.toNat_inj.1 (by have : c.toNat = 48 := by omega
                                     simpa using this))
  · exact h.2 (UInt8.toNat_inj.1 (by have : c.toNat = 49 := by omega
                                     simpa using this))
theorem run_at {s : ByteArray} {a j : Nat} (ha : a ≤ j) (hj : j - a < (runL (s.data.toList.drop a)).length) : ∃ h : j < s.size, isD s[j] = true ∧ (runL (s.data.toList.drop a))[j - a]? = some (((s[j].toNat : Nat) : Int) == 49) := by
  rw [runL_length] at hj
  obtain ⟨b, h1, h2, h3⟩ := tw_at isD _ _ hj
  rw [List.getElem?_drop, show a + (j - a) = j by omega] at h1
  have hlt : j < s.size := by rw [← len_toList]; exact (List.getElem?_eq_some_iff.1 h1).1
  rw [byte_get s j hlt] at h1
  obtain rfl : s[j] = b := by simpa using h1
  exact ⟨hlt, h2, by rw [runL, List.getElem?_map, h3]; rfl⟩
theorem run_end {s : ByteArray} {a j : Nat} (ha : a ≤ j) (hj : j - a = (runL (s.data.toList.drop a)).length) (hlt : j < s.size) : isD s[j] = false := by
  apply tw_end isD (s.data.toList.drop a)
  rw [← runL_length, ← hj, List.getElem?_drop, show a + (j - a) = j by omega, byte_get s j hlt]
theorem grow_one' {B n : Nat} {e : TypeId} {v : Value} {xs : List Value} {W w1 : World} {o : Obj} (hB : B ≤ W.heap.size) (hown : W.ownsRow B e 1 v n xs) (hg : (W.alloc o).grownBy w1 v.ownBlock) : Below B W w1 :=
  ((Below.refl _ _).alloc hB _).grown hg (by simp; omega) (fun k hk => (hown.lt k hk).1)
set_option maxHeartbeats 400000 in
theorem run_any (s : ByteArray) (a : Nat) (w : World) (hs : s.size ≤ 65536) (ha : a ≤ s.size) : Calls Tryd.prog 25 #[.string s, .int .i64 a] w (NewOwn (runL (s.data.toList.drop a)) w) := by
  obtain ⟨i0, hi, iz, is, ib⟩ := info_parts Tryd.boolInfo
  obtain ⟨x, hx⟩ : ∃ x, x = runL (s.data.toList.drop a) := ⟨_, rfl⟩
  have hxs : a + x.length ≤ s.size := by
    have := tw_le isD (s.data.toList.drop a)
    rw [hx, runL_length]
    rw [List.length_drop, len_toList] at this
    omega
  have RA : Hid (∀ j, a ≤ j → j - a < x.length → ∃ h : j < s.size, isD s[j] = true ∧ x[j - a]? = some (((s[j].toNat : Nat) : Int) == 49)) := Lib.hid fun j h1 h2 => by subst hx; exact run_at h1 h2
  have RE : Hid (∀ j, a ≤ j → j - a = x.length → ∀ h : j < s.size, isD s[j] = false) := Lib.hid fun j h1 h2 h3 => by subst hx; exact run_end h1 h2 h3
  rw [← hx]
  clear hx
  go_enter Tryd.func25, Tryd.ntmps25
  go_wp2
  go_loopw [1, 5] (fun i v wr => ∃ (j : Nat), a ≤ j ∧ j - a ≤ x.length ∧ i = .int .i64 j ∧ wr.ownsRow w.heap.size 4 1 v (j - a) (bls (x.take (j - a))) ∧ w.heap.size ≤ wr.heap.size ∧ Below w.heap.size w wr) (fun i _ _ => a + x.length - (intOf i).toNat)
  case atStart => exact ⟨a, Nat.le_refl _, by omega, rfl, by rw [Nat.sub_self]; exact World.ownsRow_nil _ _ _ _, Nat.le_refl _, Below.refl _ _⟩
  case round =>
    obtain ⟨j, haj, hjx, rfl, hown, hsz, hbl⟩ := hrel
    by_cases hlt : j - a < x.length
    · obtain ⟨hj, hD, hxj⟩ := RA.out j haj hlt
      have HT := Lib.hid (take_succ_of hxj)
      have hj1 : j + 1 - a = j - a + 1 := by omega
      clear hxj
      rcases isD_two hD with ⟨e1, e2⟩ | ⟨e1, e2⟩
      all_goals
        clear hD
        go_wp2_with (at_builtin; refine wpList_append_rd _ rfl _ _ 22 rfl w.heap.size 4 i0 (.bool false) 1 Tryd.underlying22 hi iz is ib rfl _ (j - a) (bls (x.take (j - a))) rfl (hown.alloc _) (wr.heap.size + 1) _ 1 1 _ rfl rfl (Rd.one_new _ _ _) (one_cell_bool _) (by unfold maxLen; omega) (by omega) (by simp; omega) ?_; intro v1 w1 hown1 hgrow1 hat1)
        have hb1 := grow_one' hsz hown hgrow1
        have hbs : bls (x.take (j + 1 - a)) = bls (x.take (j - a)) ++ [.bool (((s[j].toNat : Nat) : Int) == 49)] := by rw [hj1, HT.out]; simp [bls]
        try rw [e2] at hbs
        rw [← hbs, ← hj1] at hown1
        have hsz4 := Nat.le_trans hsz hb1.size
        go_roundw
        case rel => exact ⟨j + 1, by omega, by omega, by go_num, hown1, hsz4, hbl.trans hb1⟩
        case measure => simp [intOf]; omega
    · have hjx2 : j - a = x.length := by omega
      have hown2 := hown
      rw [hjx2, List.take_length] at hown2
      obtain ⟨V, cv, rfl⟩ := own_form hown2
      clear hown
      by_cases hj : j < s.size
      · obtain ⟨e1, e2⟩ := isD_none (RE.out j haj hjx2 hj)
        go_wp2
        go_ret
        exact ⟨V, cv, rfl, hown2, hbl⟩
      · go_wp2
        go_ret
        exact ⟨V, cv, rfl, hown2, hbl⟩
end Go.Proofs.YtlpigdekjkpnpaaDoor
