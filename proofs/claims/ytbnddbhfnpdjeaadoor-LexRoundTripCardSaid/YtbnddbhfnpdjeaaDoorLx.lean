/- one of the reference: a symbol; one at every place. -/
import Derived.Test.YtbnddbhfnpdjeaaDoorLw
namespace Go.Proofs.YtbnddbhfnpdjeaaDoor
set_option linter.unusedVariables false
set_option linter.unusedSimpArgs false
open Go.RowKit
set_option maxHeartbeats 4000000 in
set_option maxRecDepth 20000 in
theorem rone_sy (s : ByteArray) (k : Nat) (w : World) (hk : k < s.size) (h9 : s.size ≤ 65536) (hL : pL ((s[k].toNat : Nat) : Int) = false) (hG : pG ((s[k].toNat : Nat) : Int) = false) (hQ : ((s[k].toNat : Nat) : Int) ≠ 39) :
    Calls Tryd.prog 22 #[.string s, .int .i64 k] w (Bel (if (fst (s.extract k s.size)).2.2.2 = 0 then .tuple #[tok (fst (s.extract k s.size)).1 (fst (s.extract k s.size)).2.1 k, .int .i64 ((k + (fst (s.extract k s.size)).2.2.1 : Nat) : Int), .int .i64 0] else .tuple #[tok 0 ⟨#[]⟩ 0, .int .i64 0, .int .i64 (fst (s.extract k s.size)).2.2.2]) w) := by
  have kl := Lib.hid (rletter_any ((s[k].toNat : Nat) : Int))
  rw [hL] at kl
  have kd := Lib.hid (rdigit_any ((s[k].toNat : Nat) : Int))
  rw [hG] at kd
  have KS := Lib.hid symbols_any
  obtain ⟨V, hV⟩ : ∃ V : Value, (if (fst (s.extract k s.size)).2.2.2 = 0 then .tuple #[tok (fst (s.extract k s.size)).1 (fst (s.extract k s.size)).2.1 k, .int .i64 ((k + (fst (s.extract k s.size)).2.2.1 : Nat) : Int), .int .i64 0] else .tuple #[tok 0 ⟨#[]⟩ 0, .int .i64 0, .int .i64 (fst (s.extract k s.size)).2.2.2]) = V := ⟨_, rfl⟩
  rw [hV]
  have VN : Hid ((∀ j, j < 17 → ¬ syAt s k j) → V = .tuple #[tok 0 ⟨#[]⟩ 0, .int .i64 0, .int .i64 5]) := Lib.hid fun h => by
    rw [← hV, sy_none hk hL hG hQ h]; rfl
  have VY : Hid (∀ i x, syB[i]? = some x → (∀ j, j < i → ¬ syAt s k j) → syAt s k i → V = .tuple #[tok 4 x k, .int .i64 ((k + x.size : Nat) : Int), .int .i64 0]) := Lib.hid fun i x hx hno hi => by
    rw [← hV, sy_hit hk hL hG hQ hx hno hi, if_pos rfl]
  have SZ : Hid (∀ (i : Nat) x, syB[i]? = some x → 1 ≤ x.size ∧ x.size ≤ 2) := Lib.hid fun i x hx => by
    rw [syB_size hx]; split <;> omega
  have SA : Hid (∀ (i : Nat) x, syB[i]? = some x → (syAt s k i ↔ k + x.size ≤ s.size ∧ s.extract k (k + x.size) = x)) := Lib.hid fun i x hx => syAt_of hx
  obtain ⟨L, hLL⟩ : ∃ L : List ByteArray, syB = L := ⟨_, rfl⟩
  have hlen : L.length = 17 := by rw [← hLL]; rfl
  rw [hLL] at KS VY SZ SA
  obtain ⟨P, hP⟩ : ∃ P : Nat → Prop, syAt s k = P := ⟨_, rfl⟩
  rw [hP] at VN VY SA
  have f1 : (0 : Int) ≤ (k : Int) := by omega
  have f2 : (k : Int) < (s.size : Int) := by omega
  have f3 : (((s[k].toNat : Nat) : Int) == 39) = false := by simpa using hQ
  clear hV hL hG hQ hLL hP
  go_enter Tryd.func22, Tryd.ntmps22
  go_wp2_with (first
    | (go_at_call 24; (with_reducible refine (kl.out _).mono ?_); rintro e w1 ⟨rfl, hb1⟩)
    | (go_at_call 39; (with_reducible refine (kd.out _).mono ?_); rintro e w2 ⟨rfl, hb2⟩)
    | (go_at_call 41; (with_reducible refine (KS.out _).mono ?_); rintro e w3 ⟨rfl, hst, hb3⟩; obtain ⟨q0, q1, q2, q3, q4, q5, q6⟩ := rest (w := w) (W := w3) (t := 30) (s0 := ⟨#[]⟩) (by repeat (first | (with_reducible exact Below.refl _ _) | (with_reducible assumption) | (with_reducible exact bel_box _) | (with_reducible refine bel_step ?_ (by with_reducible assumption)) | (with_reducible refine Below.drew ?_) | (with_reducible refine below_drewN ?_ _) | (with_reducible refine bel_alloc ?_ _))); have HB : Hid (Below w.heap.size w w3) := Lib.hid (by repeat (first | (with_reducible exact Below.refl _ _) | (with_reducible assumption) | (with_reducible exact bel_box _) | (with_reducible refine bel_step ?_ (by with_reducible assumption)) | (with_reducible refine Below.drew ?_) | (with_reducible refine below_drewN ?_ _) | (with_reducible refine bel_alloc ?_ _))); clear hb1 hb3))
  clear f3
  have HST := Lib.hid hst
  have hA := hst.1
  simp only at hA
  clear hst
  go_loopw [15] (fun i wr => ∃ j : Nat, j ≤ 17 ∧ i = .int .i64 (j : Int) ∧ Hid (∀ t, t < j → ¬ P t) ∧ Below w3.heap.size w3 wr) (fun i _ => 17 - (intOf i).toNat)
  case atStart => exact ⟨0, by omega, rfl, Lib.hid fun t ht => by omega, Below.refl _ _⟩
  case round =>
    obtain ⟨j, hj, rfl, hno, hbl⟩ := hrel
    have HW : Hid (Below w.heap.size w wr) := Lib.hid (bel_step HB.out hbl)
    have q0' := (hbl.cell (p := ⟨w.heap.size, 0, none⟩) q6).trans q0
    have q1' := (hbl.cell (p := ⟨w.heap.size, 1, none⟩) q6).trans q1
    have q2' := (hbl.cell (p := ⟨w.heap.size, 2, none⟩) q6).trans q2
    have q3' := (hbl.frozen (p := ⟨w.heap.size, 0, none⟩) q6).trans q3
    have q4' := (hbl.frozen (p := ⟨w.heap.size, 1, none⟩) q6).trans q4
    have q5' := (hbl.frozen (p := ⟨w.heap.size, 2, none⟩) q6).trans q5
    have q6' : w.heap.size < wr.heap.size := by have := hbl.size; omega
    clear q0 q1 q2 q3 q4 q5
    by_cases hlt : j < 17
    · obtain ⟨x, hx⟩ : ∃ x, L[j]? = some x := ⟨L[j]'(by omega), List.getElem?_eq_getElem _⟩
      have hc : wr.cell? ⟨w2.heap.size, j, none⟩ = some (.string x) := by
        have := (hbl.cell (p := Addr.add ⟨w2.heap.size, 0, none⟩ j) (by rw [add_block]; exact hA)).trans (HST.out.2 j x hx)
        have e : (Addr.add ⟨w2.heap.size, 0, none⟩ j) = ⟨w2.heap.size, j, none⟩ := by
          unfold Addr.add
          by_cases h : j = 0
          · subst h; rfl
          · simp [h]
        rwa [e] at this
      have hsz := SZ.out j x hx
      have hsa := SA.out j x hx
      obtain ⟨z, hz⟩ : ∃ z, k + x.size = z := ⟨_, rfl⟩
      rw [hz] at hsa
      have u1 : (k : Int) + (x.size : Int) = (z : Int) := by omega
      have u2 : IntKind.i64.wrap (z : Int) = (z : Int) := Go.IntWalk.i64_in _ ⟨by omega, by omega⟩
      have u3 : (k : Int) ≤ (z : Int) := by omega
      by_cases hle : z ≤ s.size
      · have u4 : (z : Int) ≤ (s.size : Int) := by omega
        cases hq : ((s.extract k z).toList == x.toList)
        · have hn : ¬ P j := fun h => by
            have := (hsa.1 h).2
            rw [this] at hq
            simp at hq
          have HN : Hid (∀ t, t < j + 1 → ¬ P t) := Lib.hid fun t ht => by
            rcases Nat.lt_or_ge t j with h | h
            · exact hno.out t h
            · obtain rfl : t = j := by omega
              exact hn
          clear hsa hn hno VN VY SZ SA hx hz
          go_wp2
          go_quiet (fail)
          go_wp2
          go_roundw
          case rel => exact ⟨j + 1, by omega, by go_num, HN, (by repeat (first | (with_reducible exact Below.refl _ _) | (with_reducible assumption) | (with_reducible exact bel_box _) | (with_reducible refine bel_step ?_ (by with_reducible assumption)) | (with_reducible refine Below.drew ?_) | (with_reducible refine below_drewN ?_ _) | (with_reducible refine bel_alloc ?_ _)))⟩
          case measure => simp [intOf]; omega
        · have he : s.extract k z = x := ba_ext (by rw [← ByteArray.toList_eq, ← ByteArray.toList_eq]; exact beq_iff_eq.1 hq)
          have hv := VY.out j x hx hno.out (hsa.2 ⟨hle, he⟩)
          rw [hz] at hv
          subst hv
          clear hsa hno VN VY SZ SA hx hz he
          go_wp2
          go_quiet (fail)
          go_wp2
          obtain ⟨k0, k1, k2⟩ := set3_cells (W := wr.drewN nq) q0' q1' q2' (.int .i64 4) (.string x) (.int .i64 k)
          refine bodyPost_ret (v := .tuple #[tok 4 x k, .int .i64 z, .int .i64 0]) (by simp [results, Tryd.results22, go_sem, tok, k0, k1, k2]) rfl ?_
          exact ⟨rfl, bel_set3 (below_drewN HW.out nq) (Nat.le_refl _) _ _ _⟩
      · have u4 : (s.size : Int) < (z : Int) := by omega
        have HN : Hid (∀ t, t < j + 1 → ¬ P t) := Lib.hid fun t ht => by
          rcases Nat.lt_or_ge t j with h | h
          · exact hno.out t h
          · obtain rfl : t = j := by omega
            exact fun h => hle (hsa.1 h).1
        clear hsa hno VN VY SZ SA hx hz
        go_wp2
        go_quiet (fail)
        go_wp2
        go_roundw
        case rel => exact ⟨j + 1, by omega, by go_num, HN, (by repeat (first | (with_reducible exact Below.refl _ _) | (with_reducible assumption) | (with_reducible exact bel_box _) | (with_reducible refine bel_step ?_ (by with_reducible assumption)) | (with_reducible refine Below.drew ?_) | (with_reducible refine below_drewN ?_ _) | (with_reducible refine bel_alloc ?_ _)))⟩
        case measure => simp [intOf]; omega
    · obtain rfl : j = 17 := by omega
      have hv := VN.out hno.out
      subst hv
      clear hno VN VY SZ SA
      go_wp2
      obtain ⟨k0, k1, k2⟩ := set3_cells q0' q1' q2' (.int .i64 0) (.string ⟨#[]⟩) (.int .i64 0)
      refine bodyPost_ret (v := .tuple #[tok 0 ⟨#[]⟩ 0, .int .i64 0, .int .i64 5]) (by simp [results, Tryd.results22, go_sem, tok, k0, k1, k2]) rfl ?_
      exact ⟨rfl, bel_set3 HW.out (Nat.le_refl _) _ _ _⟩
/-- what one answers -/
def OneR (k : Nat) (f : Int × ByteArray × Nat × Int) : Value := if f.2.2.2 = 0 then .tuple #[tok f.1 f.2.1 k, .int .i64 ((k + f.2.2.1 : Nat) : Int), .int .i64 0] else .tuple #[tok 0 ⟨#[]⟩ 0, .int .i64 0, .int .i64 f.2.2.2]
theorem rone_any (s : ByteArray) (k : Nat) (w : World) (hk : k < s.size) (h9 : s.size ≤ 65536) : Calls Tryd.prog 22 #[.string s, .int .i64 k] w (Bel (OneR k (fst (s.extract k s.size))) w) := by
  cases hL : pL ((s[k].toNat : Nat) : Int)
  · cases hG : pG ((s[k].toNat : Nat) : Int)
    · by_cases hQ : ((s[k].toNat : Nat) : Int) = 39
      · rw [fst_wo hk hQ rfl]
        have := rone_wo s k _ w hk h9 hQ rfl
        split
        · rename_i h
          rw [if_pos h, show k + 1 + sp pW (s.data.toList.drop (k + 1)) + 1 = k + (sp pW (s.data.toList.drop (k + 1)) + 2) by omega] at this
          exact this
        · rename_i h
          rw [if_neg h] at this
          exact this
      · exact rone_sy s k w hk h9 hL hG hQ
    · rw [fst_nu hk hL hG rfl]
      split
      · rename_i h
        exact rone_nu_zero s k _ w hk h9 hL hG rfl h.1 h.2
      · rename_i h
        have := rone_nu s k _ w hk h9 hL hG rfl h
        split
        · rename_i h2
          rw [if_pos h2] at this
          exact this
        · rename_i h2
          rw [if_neg h2] at this
          exact this
  · rw [fst_id hk hL rfl]
    split
    · rename_i h
      exact rone_id s k _ w hk h9 hL rfl h
    · rename_i h
      exact rone_id_long s k _ w hk h9 hL rfl (by omega)
end Go.Proofs.YtbnddbhfnpdjeaaDoor
