/- The token in front, said of a place in a text. -/
import Derived.Test.YtbnddbhfnpdjeaaDoorLs
namespace Go.Proofs.YtbnddbhfnpdjeaaDoor
set_option linter.unusedVariables false
set_option linter.unusedSimpArgs false
open Go.RowKit
theorem ba_ext {s t : ByteArray} (h : s.data.toList = t.data.toList) : s = t := ByteArray.ext (Array.toList_inj.mp h)
theorem ext_list (s : ByteArray) (a b : Nat) : (s.extract a b).data.toList = (s.data.toList.drop a).take (b - a) := by
  rw [ByteArray.data_extract]
  simp only [Array.toList_extract, List.extract_eq_take_drop]
theorem ext_ext (s : ByteArray) (k a b : Nat) (hb : k + b ≤ s.size) : (s.extract k s.size).extract a b = s.extract (k + a) (k + b) := by
  apply ba_ext
  rw [ext_list, ext_list, ext_list, List.drop_take, List.drop_drop, List.take_take]
  congr 1
  omega
theorem ext_head {s : ByteArray} {k : Nat} (hk : k < s.size) (h : 0 < (s.extract k s.size).size) : (s.extract k s.size)[0] = s[k] := by
  have e1 := byte_get (s.extract k s.size) 0 h
  have e2 := byte_get s k hk
  rw [drop_bytes, List.getElem?_drop, Nat.add_zero, e2] at e1
  exact (Option.some.inj e1).symm
theorem fst_id {s : ByteArray} {k m : Nat} (hk : k < s.size) (hL : pL ((s[k].toNat : Nat) : Int) = true) (hm : sp pI (s.data.toList.drop k) = m) :
    fst (s.extract k s.size) = if m ≤ 40 then (nmK (s.extract k (k + m)), s.extract k (k + m), m, 0) else (0, ⟨#[]⟩, 0, 3) := by
  have h0 : 0 < (s.extract k s.size).size := by rw [drop_size]; omega
  have hle := spd_le pI s k (by omega)
  rw [hm] at hle
  rw [fst, dif_pos h0, ext_head hk h0, if_pos hL, drop_bytes, hm, ext_ext _ _ _ _ hle]
  rfl
theorem fst_nu {s : ByteArray} {k m : Nat} (hk : k < s.size) (hL : pL ((s[k].toNat : Nat) : Int) = false) (hG : pG ((s[k].toNat : Nat) : Int) = true) (hm : sp pG (s.data.toList.drop k) = m) :
    fst (s.extract k s.size) = if 2 ≤ m ∧ ((s[k].toNat : Nat) : Int) = 48 then (0, ⟨#[]⟩, 0, 5) else if numOk ((s.data.toList.drop k).take m) = true then (2, s.extract k (k + m), m, 0) else (0, ⟨#[]⟩, 0, 14) := by
  have h0 : 0 < (s.extract k s.size).size := by rw [drop_size]; omega
  have hle := spd_le pG s k (by omega)
  rw [hm] at hle
  rw [fst, dif_pos h0, ext_head hk h0, if_neg (by rw [hL]; simp), if_pos hG, drop_bytes, hm, ext_ext _ _ _ _ hle, ext_list, Nat.add_sub_add_left]
  rfl
theorem fst_wo {s : ByteArray} {k m : Nat} (hk : k < s.size) (hQ : ((s[k].toNat : Nat) : Int) = 39) (hm : sp pW (s.data.toList.drop (k + 1)) = m) :
    fst (s.extract k s.size) = if (s.data.toList.drop (k + 1 + m)).head? = some 39 then (5, s.extract (k + 1) (k + 1 + m), m + 2, 0) else (0, ⟨#[]⟩, 0, 5) := by
  have h0 : 0 < (s.extract k s.size).size := by rw [drop_size]; omega
  have hle := spd_le pW s (k + 1) (by omega)
  rw [hm] at hle
  have e1 : (s.data.toList.drop k).drop 1 = s.data.toList.drop (k + 1) := by rw [List.drop_drop]
  rw [fst, dif_pos h0, ext_head hk h0, hQ, if_neg (by decide), if_neg (by decide), if_pos (by decide), drop_bytes, e1, hm, List.drop_drop, ext_ext _ _ _ _ (by omega), show k + (1 + m) = k + 1 + m by omega]
  have e : (Lib.hasPrefix (s.data.toList.drop (k + 1 + m)) [39] = true) = ((s.data.toList.drop (k + 1 + m)).head? = some 39) := by
    rcases s.data.toList.drop (k + 1 + m) with _ | ⟨a, r⟩
    · rw [eq_iff_iff]; constructor <;> intro h <;> cases h
    · rw [eq_iff_iff, List.head?_cons, Option.some_inj]
      constructor
      · intro h
        simp [Lib.hasPrefix] at h
        exact h.symm
      · rintro rfl
        simp [Lib.hasPrefix]
  simp only [e, show 1 + m + 1 = m + 2 by omega]
theorem fst_sy {s : ByteArray} {k : Nat} (hk : k < s.size) (hL : pL ((s[k].toNat : Nat) : Int) = false) (hG : pG ((s[k].toNat : Nat) : Int) = false) (hQ : ((s[k].toNat : Nat) : Int) ≠ 39) :
    fst (s.extract k s.size) = if k + 2 ≤ s.size ∧ isSy (s.extract k (k + 2)) = true then (4, s.extract k (k + 2), 2, 0) else if isSy (s.extract k (k + 1)) = true then (4, s.extract k (k + 1), 1, 0) else (0, ⟨#[]⟩, 0, 5) := by
  have h0 : 0 < (s.extract k s.size).size := by rw [drop_size]; omega
  rw [fst, dif_pos h0, ext_head hk h0, if_neg (by rw [hL]; simp), if_neg (by rw [hG]; simp), if_neg (by simpa using hQ), drop_size, ext_ext _ _ _ 1 (by omega)]
  by_cases h2 : k + 2 ≤ s.size
  · have e : (2 ≤ s.size - k) = (k + 2 ≤ s.size) := by rw [eq_iff_iff]; omega
    rw [ext_ext _ _ _ 2 (by omega)]
    simp only [e, Nat.add_zero]
  · rw [if_neg (fun h => by omega), if_neg (c := k + 2 ≤ s.size ∧ _) (fun h => h2 h.1)]
    rfl
/-- what digits spell -/
def dv (n : Nat) (l : List UInt8) : Nat := l.foldl (fun n c => 10 * n + (c.toNat - 48)) n
theorem dv_ge (l : List UInt8) (n : Nat) : n ≤ dv n l := by
  induction l generalizing n with
  | nil => exact Nat.le_refl _
  | cons c r ih =>
    have := ih (10 * n + (c.toNat - 48))
    show n ≤ dv (10 * n + (c.toNat - 48)) r
    omega
theorem parse_dv (l : List UInt8) (n : Nat) (hd : ∀ c ∈ l, pG ((c.toNat : Nat) : Int) = true) (hn : n < 18446744073709551616) : Lib.parseUint10 n l = .ok (dv n l) ∨ Lib.parseUint10 n l = .range ∧ 9223372036854775808 ≤ dv n l := by
  induction l generalizing n with
  | nil => exact .inl rfl
  | cons c r ih =>
    have hc := hd c (by simp)
    rw [pG, decide_eq_true_eq] at hc
    have e : dv n (c :: r) = dv (10 * n + (c.toNat - 48)) r := rfl
    have hg := dv_ge r (10 * n + (c.toNat - 48))
    rw [Lib.parseUint10, if_pos (by omega), e]
    split
    · exact .inr ⟨rfl, by omega⟩
    · split
      · exact .inr ⟨rfl, by omega⟩
      · rw [Nat.mul_comm n 10]
        exact ih _ (fun c h => hd c (by simp [h])) (by omega)
theorem numOk_dv {l : List UInt8} (hl : l ≠ []) (hd : ∀ c ∈ l, pG ((c.toNat : Nat) : Int) = true) : numOk l = decide (dv 0 l ≤ 32768) := by
  rcases l with _ | ⟨c, r⟩
  · exact absurd rfl hl
  have hc := hd c (by simp)
  rw [pG, decide_eq_true_eq] at hc
  have h43 : ¬ (c.toNat = 43 ∨ c.toNat = 45) := by omega
  have h45 : ¬ c.toNat = 45 := by omega
  have hp := parse_dv (c :: r) 0 hd (by decide)
  rcases hp with h | ⟨h, hb⟩
  · by_cases hbig : 9223372036854775808 ≤ dv 0 (c :: r)
    · have e : Lib.atoiAll (c :: r) = .range := by
        simp only [Lib.atoiAll, if_neg h43, Lib.parseMag, if_neg (List.cons_ne_nil c r), h]
        rw [if_pos ⟨h45, hbig⟩]
      rw [numOk, atoiOk, e, Bool.false_and, eq_comm, decide_eq_false_iff_not]
      omega
    · have e : Lib.atoiAll (c :: r) = .ok (dv 0 (c :: r) : Int) := by
        simp only [Lib.atoiAll, if_neg h43, Lib.parseMag, if_neg (List.cons_ne_nil c r), h]
        rw [if_neg (fun h => hbig h.2), if_neg (fun h => h45 h.1), if_neg h45]
      rw [numOk, atoiOk, atoiV, e, Bool.true_and]
      simp only [decide_eq_decide]
      omega
  · have e : Lib.atoiAll (c :: r) = .range := by
      simp only [Lib.atoiAll, if_neg h43, Lib.parseMag, if_neg (List.cons_ne_nil c r), h]
    rw [numOk, atoiOk, e, Bool.false_and, eq_comm, decide_eq_false_iff_not]
    omega
theorem dv_snoc (l : List UInt8) (c : UInt8) (n : Nat) : dv n (l ++ [c]) = 10 * dv n l + (c.toNat - 48) := by rw [dv, List.foldl_append]; rfl
theorem dv_take_le (l : List UInt8) (j n : Nat) : dv n (l.take j) ≤ dv n l := by
  have e : dv n l = dv (dv n (l.take j)) (l.drop j) := by
    rw [dv, dv, dv, ← List.foldl_append, List.take_append_drop]
  rw [e]
  exact dv_ge _ _
/-- a symbol stands here -/
def syAt (s : ByteArray) (k j : Nat) : Prop := match syB[j]? with | some x => k + x.size ≤ s.size ∧ s.extract k (k + x.size) = x | none => False
theorem syAt_of {s : ByteArray} {k j : Nat} {x : ByteArray} (h : syB[j]? = some x) : syAt s k j ↔ k + x.size ≤ s.size ∧ s.extract k (k + x.size) = x := by
  rw [syAt, h]
theorem isSy_mem {x : ByteArray} (h : isSy x = true) : ∃ j : Nat, syB[j]? = some x := by
  rw [isSy, ← syB_list, List.contains_iff_mem] at h
  obtain ⟨y, hy, he⟩ := List.mem_map.1 h
  obtain rfl : y = x := ba_ext (by rw [← ByteArray.toList_eq, ← ByteArray.toList_eq]; exact he)
  exact List.mem_iff_getElem?.1 hy
theorem isSy_of {x : ByteArray} {j : Nat} (h : syB[j]? = some x) : isSy x = true := by
  rw [isSy, ← syB_list, List.contains_iff_mem]
  exact List.mem_map.2 ⟨x, List.mem_of_getElem? h, rfl⟩
theorem syB_size {x : ByteArray} {j : Nat} (h : syB[j]? = some x) : x.size = if j < 4 then 2 else 1 := by
  have hj : j < 17 := by have := (List.getElem?_eq_some_iff.1 h).1; rwa [syB_len] at this
  have key : ∀ j : Fin 17, (syB.map ByteArray.size)[j.val]? = some (if j.val < 4 then 2 else 1) := by decide
  have := key ⟨j, hj⟩
  rw [List.getElem?_map, h] at this
  simpa using this
theorem sy_hit {s : ByteArray} {k i : Nat} {x : ByteArray} (hk : k < s.size) (hL : pL ((s[k].toNat : Nat) : Int) = false) (hG : pG ((s[k].toNat : Nat) : Int) = false) (hQ : ((s[k].toNat : Nat) : Int) ≠ 39)
    (hx : syB[i]? = some x) (hno : ∀ j, j < i → ¬ syAt s k j) (hit : syAt s k i) : fst (s.extract k s.size) = (4, x, x.size, 0) := by
  rw [syAt_of hx] at hit
  have hz := syB_size hx
  have hy := isSy_of hx
  rw [fst_sy hk hL hG hQ]
  by_cases h4 : i < 4
  · rw [if_pos h4] at hz
    rw [hz] at hit ⊢
    rw [hit.2, if_pos ⟨hit.1, hy⟩]
  · rw [if_neg h4] at hz
    rw [hz] at hit ⊢
    rw [if_neg, hit.2, if_pos hy]
    intro h2
    obtain ⟨j, hj⟩ := isSy_mem h2.2
    have hzj := syB_size hj
    rw [ByteArray.size_extract] at hzj
    have hj4 : j < 4 := by
      by_cases h : j < 4
      · exact h
      · rw [if_neg h] at hzj; omega
    refine hno j (by omega) ((syAt_of hj).2 ?_)
    rw [ByteArray.size_extract, show min (k + 2) s.size - k = 2 by omega]
    exact ⟨h2.1, rfl⟩
theorem sy_none {s : ByteArray} {k : Nat} (hk : k < s.size) (hL : pL ((s[k].toNat : Nat) : Int) = false) (hG : pG ((s[k].toNat : Nat) : Int) = false) (hQ : ((s[k].toNat : Nat) : Int) ≠ 39)
    (hno : ∀ j, j < 17 → ¬ syAt s k j) : fst (s.extract k s.size) = (0, ⟨#[]⟩, 0, 5) := by
  have key : ∀ n, k + n ≤ s.size → isSy (s.extract k (k + n)) = true → False := fun n hn h => by
    obtain ⟨j, hj⟩ := isSy_mem h
    have hj17 : j < 17 := by have := (List.getElem?_eq_some_iff.1 hj).1; rwa [syB_len] at this
    refine hno j hj17 ((syAt_of hj).2 ?_)
    rw [ByteArray.size_extract, show min (k + n) s.size - k = n by omega]
    exact ⟨hn, rfl⟩
  rw [fst_sy hk hL hG hQ, if_neg (fun h => key 2 h.1 h.2), if_neg (fun h => key 1 (by omega) h)]
end Go.Proofs.YtbnddbhfnpdjeaaDoor
