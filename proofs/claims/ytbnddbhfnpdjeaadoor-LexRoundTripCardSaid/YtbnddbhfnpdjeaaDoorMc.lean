/- The token in front of a list of bytes, and all its tokens. -/
import Derived.Test.YtbnddbhfnpdjeaaDoorMa
import Derived.Test.YtbnddbhfnpdjeaaDoorLr
namespace Go.Proofs.YtbnddbhfnpdjeaaDoor
set_option linter.unusedVariables false
set_option linter.unusedSimpArgs false
open Go.RowKit
def bt (l : List UInt8) : ByteArray := ⟨l.toArray⟩
theorem bt_list (l : List UInt8) : (bt l).data.toList = l := rfl
theorem bt_size (l : List UInt8) : (bt l).size = l.length := by rw [← len_toList, bt_list]
theorem bt_of (s : ByteArray) : bt s.data.toList = s := ba_ext rfl
theorem bt_nil : bt [] = ⟨#[]⟩ := rfl
theorem bt_ext (s : ByteArray) (a b : Nat) : s.extract a b = bt ((s.data.toList.drop a).take (b - a)) := ba_ext (by rw [ext_list, bt_list])
def fL (l : List UInt8) : Int × ByteArray × Nat × Int := fst (bt l)
theorem fst_fL (s : ByteArray) (k : Nat) : fst (s.extract k s.size) = fL (s.data.toList.drop k) := by
  rw [fL]
  congr 1
  exact ba_ext (by rw [drop_bytes, bt_list])
theorem bt_head (c : UInt8) (r : List UInt8) (h : 0 < (bt (c :: r)).size) : (bt (c :: r))[0] = c := by
  have e := byte_get (bt (c :: r)) 0 h
  rw [bt_list] at e
  simpa using e.symm
theorem bt_pos (c : UInt8) (r : List UInt8) : 0 < (bt (c :: r)).size := by rw [bt_size]; simp
theorem fL_at (c : UInt8) (r : List UInt8) : fL (c :: r) = fst ((bt (c :: r)).extract 0 (bt (c :: r)).size) := by rw [ext_all]; rfl
theorem fL_id {c : UInt8} {r : List UInt8} {m : Nat} (hL : pL ((c.toNat : Nat) : Int) = true) (hm : sp pI (c :: r) = m) :
    fL (c :: r) = if m ≤ 40 then (nmK (bt ((c :: r).take m)), bt ((c :: r).take m), m, 0) else (0, ⟨#[]⟩, 0, 3) := by
  rw [fL_at, fst_id (m := m) (bt_pos c r) (by rw [bt_head]; exact hL) (by rw [bt_list]; exact hm), Nat.zero_add, bt_ext, bt_list]
  rfl
theorem fL_nu {c : UInt8} {r : List UInt8} {m : Nat} (hL : pL ((c.toNat : Nat) : Int) = false) (hG : pG ((c.toNat : Nat) : Int) = true) (hm : sp pG (c :: r) = m) :
    fL (c :: r) = if 2 ≤ m ∧ ((c.toNat : Nat) : Int) = 48 then (0, ⟨#[]⟩, 0, 5) else if numOk ((c :: r).take m) = true then (2, bt ((c :: r).take m), m, 0) else (0, ⟨#[]⟩, 0, 14) := by
  rw [fL_at, fst_nu (m := m) (bt_pos c r) (by rw [bt_head]; exact hL) (by rw [bt_head]; exact hG) (by rw [bt_list]; exact hm), Nat.zero_add, bt_ext, bt_list, bt_head]
  rfl
theorem fL_wo {r : List UInt8} {m : Nat} (hm : sp pW r = m) :
    fL (39 :: r) = if (r.drop m).head? = some 39 then (5, bt (r.take m), m + 2, 0) else (0, ⟨#[]⟩, 0, 5) := by
  rw [fL_at, fst_wo (m := m) (bt_pos 39 r) (by rw [bt_head]; rfl) (by rw [bt_list]; exact hm), bt_ext, bt_list, show 0 + 1 + m = m + 1 by omega, List.drop_succ_cons]
  simp
theorem fL_sy {c : UInt8} {r : List UInt8} (hL : pL ((c.toNat : Nat) : Int) = false) (hG : pG ((c.toNat : Nat) : Int) = false) (hQ : c ≠ 39) :
    fL (c :: r) = if r ≠ [] ∧ isSy (bt ((c :: r).take 2)) = true then (4, bt ((c :: r).take 2), 2, 0) else if isSy (bt [c]) = true then (4, bt [c], 1, 0) else (0, ⟨#[]⟩, 0, 5) := by
  have hq : ((c.toNat : Nat) : Int) ≠ 39 := fun e => hQ (UInt8.toNat_inj.1 (by show c.toNat = 39; omega))
  rw [fL_at, fst_sy (bt_pos c r) (by rw [bt_head]; exact hL) (by rw [bt_head]; exact hG) (by rw [bt_head]; exact hq), bt_ext, bt_ext, bt_list, bt_size]
  rcases r with _ | ⟨b, r⟩
  · rw [if_neg (c := 0 + 2 ≤ [c].length ∧ _) (fun h => by have := h.1; simp at this), if_neg (c := ([] : List UInt8) ≠ [] ∧ _) (fun h => h.1 rfl)]
    rfl
  · by_cases hs : isSy (bt ((c :: b :: r).take 2)) = true
    · rw [if_pos ⟨by simp, hs⟩, if_pos ⟨by simp, hs⟩]
      rfl
    · rw [if_neg (c := 0 + 2 ≤ (c :: b :: r).length ∧ isSy (bt (List.take (0 + 2 - 0) (List.drop 0 (c :: b :: r)))) = true) (fun h => hs h.2), if_neg (c := b :: r ≠ [] ∧ _) (fun h => hs h.2)]
      rfl
theorem fL_nil : fL [] = (0, ⟨#[]⟩, 0, 0) := rfl
theorem fL_size {l : List UInt8} (h : l ≠ []) (he : (fL l).2.2.2 = 0) : 0 < (fL l).2.2.1 ∧ (fL l).2.2.1 ≤ l.length := by
  have := fst_size (s := bt l) (by rw [bt_size]; exact List.length_pos_iff.2 h) he
  rwa [bt_size] at this
/-- all tokens of a list of bytes that begins at a place -/
def scanL (l : List UInt8) (k : Nat) : List Tk × Nat × Int :=
  if h : gapN l < l.length then
    if he : (fL (l.drop (gapN l))).2.2.2 = 0 then
      (if (scanL (l.drop (gapN l + (fL (l.drop (gapN l))).2.2.1)) (k + (gapN l + (fL (l.drop (gapN l))).2.2.1))).2.2 = 0 then
        ((fL (l.drop (gapN l))).1, (fL (l.drop (gapN l))).2.1, ((k + gapN l : Nat) : Int)) :: (scanL (l.drop (gapN l + (fL (l.drop (gapN l))).2.2.1)) (k + (gapN l + (fL (l.drop (gapN l))).2.2.1))).1 else [],
        (scanL (l.drop (gapN l + (fL (l.drop (gapN l))).2.2.1)) (k + (gapN l + (fL (l.drop (gapN l))).2.2.1))).2)
    else ([], k + gapN l, (fL (l.drop (gapN l))).2.2.2)
  else ([], 0, 0)
termination_by l.length
decreasing_by
  all_goals
    have := fL_size (l := l.drop (gapN l)) (by rw [Ne, List.drop_eq_nil_iff]; omega) he
    rw [List.length_drop] at this
    rw [List.length_drop]
    omega
theorem scanL_end {l : List UInt8} {k : Nat} (h : ¬ gapN l < l.length) : scanL l k = ([], 0, 0) := by rw [scanL, dif_neg h]
theorem scanL_err {l : List UInt8} {k : Nat} (h : gapN l < l.length) {a : Int} {tx : ByteArray} {n : Nat} {e : Int} (hf : fL (l.drop (gapN l)) = (a, tx, n, e)) (he : e ≠ 0) : scanL l k = ([], k + gapN l, e) := by
  rw [scanL, dif_pos h, dif_neg (by rw [hf]; exact he), hf]
theorem scanL_go {l : List UInt8} {k : Nat} (h : gapN l < l.length) {a : Int} {tx : ByteArray} {n : Nat} (hf : fL (l.drop (gapN l)) = (a, tx, n, 0)) :
    scanL l k = (if (scanL (l.drop (gapN l + n)) (k + (gapN l + n))).2.2 = 0 then (a, tx, ((k + gapN l : Nat) : Int)) :: (scanL (l.drop (gapN l + n)) (k + (gapN l + n))).1 else [], (scanL (l.drop (gapN l + n)) (k + (gapN l + n))).2) := by
  rw [scanL, dif_pos h, dif_pos (by rw [hf]), hf]
theorem gapL_le (l : List UInt8) : gapN l ≤ l.length := gapN_le l
/-- a rule of induction along the tokens -/
theorem scan_ind (P : List UInt8 → Prop) (h0 : ∀ l, ¬ gapN l < l.length → P l)
    (h1 : ∀ l a tx n e, gapN l < l.length → fL (l.drop (gapN l)) = (a, tx, n, e) → e ≠ 0 → P l)
    (h2 : ∀ l a tx n, gapN l < l.length → fL (l.drop (gapN l)) = (a, tx, n, 0) → 0 < n → gapN l + n ≤ l.length → P (l.drop (gapN l + n)) → P l) (l : List UInt8) : P l := by
  generalize hN : l.length = N
  induction N using Nat.strongRecOn generalizing l with
  | ind N ih =>
    subst hN
    by_cases h : gapN l < l.length
    · obtain ⟨⟨a, tx, n, e⟩, hf⟩ : ∃ f, fL (l.drop (gapN l)) = f := ⟨_, rfl⟩
      by_cases he : e = 0
      · subst he
        have hz := fL_size (l := l.drop (gapN l)) (by rw [Ne, List.drop_eq_nil_iff]; omega) (by rw [hf])
        rw [hf, List.length_drop] at hz
        simp only at hz
        exact h2 l a tx n h hf hz.1 (by omega) (ih _ (by rw [List.length_drop]; omega) _ rfl)
      · exact h1 l a tx n e h hf he
    · exact h0 l h
theorem scanG_L (s : ByteArray) (acc : List Tk) (k : Nat) (hk : k ≤ s.size) :
    scanG s acc (k + gapN (s.data.toList.drop k)) = (if (scanL (s.data.toList.drop k) k).2.2 = 0 then acc ++ (scanL (s.data.toList.drop k) k).1 else [], (scanL (s.data.toList.drop k) k).2) := by
  have key : ∀ l : List UInt8, ∀ k acc, k ≤ s.size → s.data.toList.drop k = l → scanG s acc (k + gapN l) = (if (scanL l k).2.2 = 0 then acc ++ (scanL l k).1 else [], (scanL l k).2) := by
    intro l
    induction l using scan_ind with
    | h0 l h =>
      intro k acc hk hl
      have hz : l.length = s.size - k := by rw [← hl, List.length_drop, len_toList]
      rw [scanL_end h, scanG_end (by omega)]
      simp
    | h1 l a tx n e h hf he =>
      intro k acc hk hl
      have hz : l.length = s.size - k := by rw [← hl, List.length_drop, len_toList]
      rw [scanL_err h hf he]
      rw [← hl, List.drop_drop, ← fst_fL] at hf
      rw [hl] at hf
      rw [scanG_err (by omega) hf he]
      simp [he]
    | h2 l a tx n h hf hn hle ih =>
      intro k acc hk hl
      have hz : l.length = s.size - k := by rw [← hl, List.length_drop, len_toList]
      rw [scanL_go h hf]
      have hf2 := hf
      rw [← hl, List.drop_drop, ← fst_fL] at hf2
      rw [hl] at hf2
      rw [scanG_go (by omega) hf2]
      have hd : s.data.toList.drop (k + gapN l + n) = l.drop (gapN l + n) := by rw [← hl, List.drop_drop, Nat.add_assoc]
      rw [hd]
      have := ih (k + (gapN l + n)) (acc ++ [(a, tx, ((k + gapN l : Nat) : Int))]) (by omega) (by rw [← Nat.add_assoc]; exact hd)
      rw [← Nat.add_assoc] at this
      rw [this]
      by_cases h0 : (scanL (l.drop (gapN l + n)) (k + gapN l + n)).2.2 = 0
      · simp [h0, ← Nat.add_assoc]
      · simp [h0, ← Nat.add_assoc]
  exact key _ k acc hk rfl
theorem scanG_all (s : ByteArray) : scanG s [] (gapN s.data.toList) = (if (scanL s.data.toList 0).2.2 = 0 then (scanL s.data.toList 0).1 else [], (scanL s.data.toList 0).2) := by
  have := scanG_L s [] 0 (Nat.zero_le _)
  simpa using this
theorem scanL_none (l : List UInt8) (k : Nat) (h : (scanL l k).2.2 ≠ 0) : (scanL l k).1 = [] := by
  by_cases h1 : gapN l < l.length
  · obtain ⟨⟨a, tx, n, e⟩, hf⟩ : ∃ f, fL (l.drop (gapN l)) = f := ⟨_, rfl⟩
    by_cases he : e = 0
    · subst he
      rw [scanL_go h1 hf] at h ⊢
      rw [if_neg h]
    · rw [scanL_err h1 hf he]
  · rw [scanL_end h1]
theorem scanG_is (s : ByteArray) : scanG s [] (gapN s.data.toList) = scanL s.data.toList 0 := by
  rw [scanG_all]
  by_cases h : (scanL s.data.toList 0).2.2 = 0
  · rw [if_pos h]
  · rw [if_neg h]
    have := scanL_none _ _ h
    exact Prod.ext this.symm rfl
end Go.Proofs.YtbnddbhfnpdjeaaDoor
