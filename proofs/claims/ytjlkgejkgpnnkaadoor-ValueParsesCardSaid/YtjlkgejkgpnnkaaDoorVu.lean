/- number and Parse of the reference; the walk of ValueParses. -/
import Derived.Test.YtjlkgejkgpnnkaaDoorVv
namespace Go.Proofs.YtjlkgejkgpnnkaaDoor
set_option linter.unusedVariables false
set_option linter.unusedSimpArgs false
open Go.RowKit
def Rnum (l : List UInt8) (w : World) (e : Ending) (w' : World) : Prop := ∃ n : Int, e = .returned (.tuple #[.int .i64 n, .bool (numB l)]) ∧ (numB l = true → n = atoiV l) ∧ Below w.heap.size w w'
theorem num_no {l : List UInt8} (h : ∀ m : Int, -32768 ≤ m → m ≤ 32767 → Lib.itoa m ≠ l) : numB l = false := by
  cases hb : numB l
  · rfl
  · obtain ⟨m, h0, h1, e⟩ := numB_iff.1 hb
    exact absurd e (h m h0 h1)
theorem num_val {l : List UInt8} {N : Int} (h : ∀ m : Int, -32768 ≤ m → m ≤ 32767 → Lib.itoa m = l → m = N) :
    numB l = (decide (-32768 ≤ N) && decide (N ≤ 32767) && (Lib.itoa N == l)) ∧ (numB l = true → N = atoiV l) := by
  constructor
  · rw [Bool.eq_iff_iff, numB_iff]
    simp only [Bool.and_eq_true, decide_eq_true_eq, beq_iff_eq]
    constructor
    · rintro ⟨m, h0, h1, e⟩
      have := h m h0 h1 e
      subst this
      exact ⟨⟨h0, h1⟩, e⟩
    · rintro ⟨⟨h0, h1⟩, e⟩
      exact ⟨N, h0, h1, e⟩
  · intro hb
    obtain ⟨m, h0, h1, e⟩ := numB_iff.1 hb
    have hm := h m h0 h1 e
    subst hm
    rw [← e, (numB_itoa h0 h1).2]
theorem not_dgt45 : ¬ dgt 45 := by unfold dgt; decide
theorem val_neg {r : List UInt8} (hd : ∀ c ∈ r, dgt c) : ∀ m : Int, -32768 ≤ m → m ≤ 32767 → Lib.itoa m = 45 :: r → m = -((dv 0 r : Nat) : Int) := by
  intro m h0 h1 e
  rcases itoa_shape h0 h1 with ⟨_, r', e', _, _, hv, _⟩ | ⟨_, _, hd', _, _⟩
  · rw [e'] at e
    obtain rfl : r' = r := by simpa using e
    omega
  · exact absurd (hd' 45 (by rw [e]; simp)) not_dgt45
theorem val_pos {l : List UInt8} (hd : ∀ c ∈ l, dgt c) : ∀ m : Int, -32768 ≤ m → m ≤ 32767 → Lib.itoa m = l → m = ((dv 0 l : Nat) : Int) := by
  intro m h0 h1 e
  rcases itoa_shape h0 h1 with ⟨_, r', e', _, _, hv, _⟩ | ⟨_, _, _, hv, _⟩
  · exact absurd (hd 45 (by rw [← e, e']; simp)) not_dgt45
  · rw [← e]; omega
/-- a byte that is no digit, behind the sign -/
theorem no_digit {l : List UInt8} {k : Nat} {c : UInt8} (hk : l[k]? = some c) (hc : ¬ dgt c) (h0 : k = 0 → c ≠ 45) : numB l = false := num_no fun m h1 h2 e => by
  rcases itoa_shape h1 h2 with ⟨_, r', e', _, hd, _, _⟩ | ⟨_, _, hd, _, _⟩
  · rw [← e, e'] at hk
    rcases k with _ | k
    · exact h0 rfl (by simpa using hk.symm)
    · exact hc (hd c (List.mem_of_getElem? (by simpa using hk)))
  · exact hc (hd c (List.mem_of_getElem? (by rw [e]; exact hk)))
theorem num_empty : numB [] = false := num_no fun m h1 h2 e => by
  rcases itoa_shape h1 h2 with ⟨_, r', e', _, _, _, _⟩ | ⟨_, hn, _, _, _⟩
  · rw [e'] at e; cases e
  · exact hn e
theorem num_sign : numB [45] = false := num_no fun m h1 h2 e => by
  rcases itoa_shape h1 h2 with ⟨_, r', e', hr, _, _, _⟩ | ⟨_, _, hd, _, _⟩
  · rw [e'] at e; exact hr (by simpa using e)
  · exact not_dgt45 (hd 45 (by rw [e]; simp))
theorem num_long {l : List UInt8} (h : 6 < l.length) : numB l = false := num_no fun m h1 h2 e => by
  rcases itoa_shape h1 h2 with ⟨_, r', e', _, _, _, hl⟩ | ⟨_, _, _, _, hl⟩
  · rw [← e, e'] at h; simp at h; omega
  · rw [← e] at h; omega
theorem dv_snoc (l : List UInt8) (c : UInt8) : dv 0 (l ++ [c]) = 10 * dv 0 l + (c.toNat - 48) := by simp [dv]
theorem dv_bd' (l : List UInt8) : ∀ acc, (∀ c ∈ l, dgt c) → dv acc l < (acc + 1) * 10 ^ l.length := by
  induction l with
  | nil => intro acc _; simp [dv]
  | cons c r ih =>
    intro acc h
    have hc := h c (by simp)
    unfold dgt at hc
    have h1 := ih (10 * acc + (c.toNat - 48)) (fun x hx => h x (by simp [hx]))
    have h2 : dv acc (c :: r) = dv (10 * acc + (c.toNat - 48)) r := rfl
    rw [h2, List.length_cons, Nat.pow_succ]
    have h3 : (10 * acc + (c.toNat - 48) + 1) * 10 ^ r.length ≤ (10 * (acc + 1)) * 10 ^ r.length := Nat.mul_le_mul_right _ (by omega)
    have h4 : (10 * (acc + 1)) * 10 ^ r.length = (acc + 1) * (10 ^ r.length * 10) := by rw [Nat.mul_comm 10 (acc + 1), Nat.mul_assoc, Nat.mul_comm 10]
    omega
theorem dv_6 {l : List UInt8} (h : ∀ c ∈ l, dgt c) (hl : l.length ≤ 6) : dv 0 l < 1000000 := by
  have h1 := dv_bd' l 0 h
  have h2 : (10 : Nat) ^ l.length ≤ 10 ^ 6 := Nat.pow_le_pow_right (by omega) hl
  omega
theorem len_toList (s : ByteArray) : s.data.toList.length = s.size := Array.length_toList
theorem byte_get (s : ByteArray) (k : Nat) (h : k < s.size) : s.data.toList[k]? = some s[k] := by
  rw [List.getElem?_eq_getElem (by rw [len_toList]; exact h)]
  rfl
/-- what stands from place F on before place k -/
def pre (l : List UInt8) (F k : Nat) : List UInt8 := (l.drop F).take (k - F)
set_option maxHeartbeats 2000000 in
theorem rnum_loop0 (s : ByteArray) (w : World) (hfs : 0 < s.size) (h6 : s.size ≤ 6) (hb1 : ((s[0].toNat : Int) == 45) = false) :
    Calls Tryd.prog 49 #[.string s] w (Rnum s.data.toList w) := by
  have z1 : ((s.size : Int) == 0) = false := by rw [beq_eq_false_iff_ne]; omega
  have z2 : decide (6 < (s.size : Int)) = false := by simp; omega
  have hfirst : s[0] ≠ 45 := by
    intro h; rw [h] at hb1; cases hb1
  have hlen := len_toList s
  have hget : ∀ k (h : k < s.size), 0 ≤ k → (s.data.toList.drop 0)[k - 0]? = some s[k] := fun k h hk => by
    rw [List.getElem?_drop, show 0 + (k - 0) = k by omega]
    exact byte_get s k h
  have hRl : (s.data.toList.drop 0).length = s.size - 0 := by rw [List.length_drop, hlen]
  have HG := Lib.hid hget
  have HFi := Lib.hid hfirst
  have HL := Lib.hid hlen
  have HR := Lib.hid hRl
  clear hlen hget hfirst hRl
  go_enter Tryd.func49, Tryd.ntmps49
  go_wp2
  go_loop [4, 6] (fun n i => ∃ k : Nat, (0 ≤ k ∧ k ≤ s.size) ∧ i = .int .i64 k ∧ n = .int .i64 ((dv 0 (pre s.data.toList 0 k) : Nat) : Int) ∧ Hid (∀ c ∈ pre s.data.toList 0 k, dgt c)) (fun _ i => s.size - (intOf i).toNat)
  case atStart => exact ⟨0, ⟨by omega, by omega⟩, rfl, by rw [show pre s.data.toList 0 0 = [] by simp [pre]]; rfl, Lib.hid (fun c hc => by simp [pre] at hc)⟩
  case round =>
    obtain ⟨k, ⟨hk0, hk⟩, rfl, rfl, hd⟩ := hrel
    by_cases hlt : k < s.size
    · have hg := HG.out k hlt hk0
      have hbd := dv_6 hd.out (by rw [pre, List.length_take, HR.out]; omega)
      have hts : pre s.data.toList 0 (k + 1) = pre s.data.toList 0 k ++ [s[k]] := by
        rw [pre, pre, show k + 1 - 0 = (k - 0) + 1 by omega]; exact take_succ_of hg
      have hbyte := byte_get s k hlt
      have hdv : dv 0 (pre s.data.toList 0 (k + 1)) = 10 * dv 0 (pre s.data.toList 0 k) + (s[k].toNat - 48) := by rw [hts, dv_snoc]
      have HV := Lib.hid hdv
      have HT := Lib.hid hts
      have HY := Lib.hid hbyte
      have hu : (s[k].toNat : Int) ≤ 255 := by have := s[k].toNat_lt; omega
      clear hg hts hbyte hdv
      by_cases hc : dgt s[k]
      · have HC := Lib.hid hc
        have hc2 : 48 ≤ s[k].toNat ∧ s[k].toNat ≤ 57 := hc
        have c1 : decide ((s[k].toNat : Int) < 48) = false := by simp; omega
        have c2 : decide (57 < (s[k].toNat : Int)) = false := by simp; omega
        obtain ⟨g1, g2⟩ := hc2
        clear hc
        go_wp2
        go_round
        case rel => exact ⟨k + 1, ⟨by omega, by omega⟩, by go_num, by rw [HV.out]; go_num, Lib.hid (fun c h => by rw [HT.out] at h; rcases List.mem_append.1 h with h | h; exact hd.out c h; (obtain rfl : c = s[k] := (by simpa using h)); exact HC.out)⟩
        case measure => simp [intOf]; omega
      · have hno : numB s.data.toList = false := no_digit HY.out hc (fun h => by subst h; exact HFi.out)
        have HN := Lib.hid hno
        clear hno
        by_cases hc1 : s[k].toNat < 48
        · have c1 : decide ((s[k].toNat : Int) < 48) = true := by simp; omega
          clear hc
          go_wp2
          go_ret2
          exact ⟨0, by rw [HN.out]; rfl, (fun h => by rw [HN.out] at h; cases h), Below.refl _ _⟩
        · have c1 : decide ((s[k].toNat : Int) < 48) = false := by simp; omega
          have c2 : decide (57 < (s[k].toNat : Int)) = true := by unfold dgt at hc; simp; omega
          clear hc
          go_wp2
          go_ret2
          exact ⟨0, by rw [HN.out]; rfl, (fun h => by rw [HN.out] at h; cases h), Below.refl _ _⟩
    · have hks : k = s.size := by omega
      have hall : pre s.data.toList 0 k = s.data.toList.drop 0 := List.take_of_length_le (by rw [HR.out]; omega)
      have hd2 := hd.out
      have hbd := dv_6 hd.out (by rw [pre, List.length_take, HR.out]; omega)
      rw [hall] at hd2 hbd
      rw [hall]
      have hnv : ∀ m : Int, -32768 ≤ m → m ≤ 32767 → Lib.itoa m = s.data.toList → m = ((dv 0 (s.data.toList.drop 0) : Nat) : Int) := fun m h0 h1 e => by
        rw [List.drop_zero] at hd2 ⊢
        exact val_pos hd2 m h0 h1 e
      obtain ⟨e1, e2⟩ := num_val hnv
      have E1 := Lib.hid e1
      have E2 := Lib.hid e2
      clear e1 e2 hnv hd2 hall hd 
      obtain ⟨D, hD⟩ : ∃ D : Int, D = ((dv 0 (s.data.toList.drop 0) : Nat) : Int) := ⟨_, rfl⟩
      have hD0 : 0 ≤ D := by omega
      have hD1 : D < 1000000 := by omega
      rw [← hD] at E1 E2 ⊢
      clear hD hbd
      subst hks
      clear hk0 hk hlt
      by_cases r0 : -32768 ≤ D
      · by_cases r1 : D ≤ 32767
        · have KD := Lib.hid (fun w => decimal_any (D) w r0 r1)
          have E3 : Hid (numB s.data.toList = (Lib.itoa (D) == s.data.toList)) := Lib.hid (by rw [E1.out, decide_eq_true r0, decide_eq_true r1]; rfl)
          by_cases hi : Lib.itoa (D) = s.data.toList
          · have hib : (Lib.itoa (D) == s.toList) = true := by rw [ByteArray.toList_eq]; exact beq_iff_eq.2 hi
            have HN : Hid (numB s.data.toList = true) := Lib.hid (by rw [E3.out]; exact beq_iff_eq.2 hi)
            clear hi
            go_wp2_with (go_at_call 46; (with_reducible refine (KD.out _).mono ?_); rintro e w1 ⟨rfl, hb1⟩)
            go_ret2
            exact ⟨D, by rw [HN.out]; rfl, E2.out, (by repeat (first | (with_reducible exact Below.refl _ _) | (with_reducible assumption) | (with_reducible exact bel_box _) | (with_reducible refine bel_step ?_ (by with_reducible assumption)) | (with_reducible refine Below.drew ?_) | (with_reducible refine below_drewN ?_ _) | (with_reducible refine bel_alloc ?_ _)))⟩
          · have hib : (Lib.itoa (D) == s.toList) = false := by rw [ByteArray.toList_eq]; exact beq_eq_false_iff_ne.2 hi
            have HN : Hid (numB s.data.toList = false) := Lib.hid (by rw [E3.out]; exact beq_eq_false_iff_ne.2 hi)
            clear hi
            go_wp2_with (go_at_call 46; (with_reducible refine (KD.out _).mono ?_); rintro e w1 ⟨rfl, hb1⟩)
            go_ret2
            exact ⟨D, by rw [HN.out]; rfl, E2.out, (by repeat (first | (with_reducible exact Below.refl _ _) | (with_reducible assumption) | (with_reducible exact bel_box _) | (with_reducible refine bel_step ?_ (by with_reducible assumption)) | (with_reducible refine Below.drew ?_) | (with_reducible refine below_drewN ?_ _) | (with_reducible refine bel_alloc ?_ _)))⟩
        · have HN : Hid (numB s.data.toList = false) := Lib.hid (by rw [E1.out, decide_eq_false r1]; simp)
          have r1' : decide (D ≤ 32767) = false := by simpa using r1
          clear r1
          go_wp2
          go_ret2
          exact ⟨D, by rw [HN.out]; rfl, E2.out, Below.refl _ _⟩
      · have HN : Hid (numB s.data.toList = false) := Lib.hid (by rw [E1.out, decide_eq_false r0]; simp)
        have r0' : decide (-32768 ≤ D) = false := by simpa using r0
        clear r0
        go_wp2
        go_ret2
        exact ⟨D, by rw [HN.out]; rfl, E2.out, Below.refl _ _⟩
set_option maxHeartbeats 2000000 in
theorem rnum_loop1 (s : ByteArray) (w : World) (hfs : 1 < s.size) (h6 : s.size ≤ 6) (hb1 : ((s[0].toNat : Int) == 45) = true) :
    Calls Tryd.prog 49 #[.string s] w (Rnum s.data.toList w) := by
  have z1 : ((s.size : Int) == 1) = false := by rw [beq_eq_false_iff_ne]; omega
  have z2 : decide (6 < (s.size : Int)) = false := by simp; omega
  have hfirst : s[0] = 45 := by
    have h := beq_iff_eq.1 hb1; exact UInt8.toNat_inj.1 (by show _ = 45; omega)
  have hlen := len_toList s
  have hget : ∀ k (h : k < s.size), 1 ≤ k → (s.data.toList.drop 1)[k - 1]? = some s[k] := fun k h hk => by
    rw [List.getElem?_drop, show 1 + (k - 1) = k by omega]
    exact byte_get s k h
  have hRl : (s.data.toList.drop 1).length = s.size - 1 := by rw [List.length_drop, hlen]
  have HG := Lib.hid hget
  have HFi := Lib.hid hfirst
  have HL := Lib.hid hlen
  have HR := Lib.hid hRl
  clear hlen hget hfirst hRl
  go_enter Tryd.func49, Tryd.ntmps49
  go_wp2
  go_loop [4, 6] (fun n i => ∃ k : Nat, (1 ≤ k ∧ k ≤ s.size) ∧ i = .int .i64 k ∧ n = .int .i64 ((dv 0 (pre s.data.toList 1 k) : Nat) : Int) ∧ Hid (∀ c ∈ pre s.data.toList 1 k, dgt c)) (fun _ i => s.size - (intOf i).toNat)
  case atStart => exact ⟨1, ⟨by omega, by omega⟩, rfl, by rw [show pre s.data.toList 1 1 = [] by simp [pre]]; rfl, Lib.hid (fun c hc => by simp [pre] at hc)⟩
  case round =>
    obtain ⟨k, ⟨hk0, hk⟩, rfl, rfl, hd⟩ := hrel
    by_cases hlt : k < s.size
    · have hg := HG.out k hlt hk0
      have hbd := dv_6 hd.out (by rw [pre, List.length_take, HR.out]; omega)
      have hts : pre s.data.toList 1 (k + 1) = pre s.data.toList 1 k ++ [s[k]] := by
        rw [pre, pre, show k + 1 - 1 = (k - 1) + 1 by omega]; exact take_succ_of hg
      have hbyte := byte_get s k hlt
      have hdv : dv 0 (pre s.data.toList 1 (k + 1)) = 10 * dv 0 (pre s.data.toList 1 k) + (s[k].toNat - 48) := by rw [hts, dv_snoc]
      have HV := Lib.hid hdv
      have HT := Lib.hid hts
      have HY := Lib.hid hbyte
      have hu : (s[k].toNat : Int) ≤ 255 := by have := s[k].toNat_lt; omega
      clear hg hts hbyte hdv
      by_cases hc : dgt s[k]
      · have HC := Lib.hid hc
        have hc2 : 48 ≤ s[k].toNat ∧ s[k].toNat ≤ 57 := hc
        have c1 : decide ((s[k].toNat : Int) < 48) = false := by simp; omega
        have c2 : decide (57 < (s[k].toNat : Int)) = false := by simp; omega
        obtain ⟨g1, g2⟩ := hc2
        clear hc
        go_wp2
        go_round
        case rel => exact ⟨k + 1, ⟨by omega, by omega⟩, by go_num, by rw [HV.out]; go_num, Lib.hid (fun c h => by rw [HT.out] at h; rcases List.mem_append.1 h with h | h; exact hd.out c h; (obtain rfl : c = s[k] := (by simpa using h)); exact HC.out)⟩
        case measure => simp [intOf]; omega
      · have hno : numB s.data.toList = false := no_digit HY.out hc (fun h => by omega)
        have HN := Lib.hid hno
        clear hno
        by_cases hc1 : s[k].toNat < 48
        · have c1 : decide ((s[k].toNat : Int) < 48) = true := by simp; omega
          clear hc
          go_wp2
          go_ret2
          exact ⟨0, by rw [HN.out]; rfl, (fun h => by rw [HN.out] at h; cases h), Below.refl _ _⟩
        · have c1 : decide ((s[k].toNat : Int) < 48) = false := by simp; omega
          have c2 : decide (57 < (s[k].toNat : Int)) = true := by unfold dgt at hc; simp; omega
          clear hc
          go_wp2
          go_ret2
          exact ⟨0, by rw [HN.out]; rfl, (fun h => by rw [HN.out] at h; cases h), Below.refl _ _⟩
    · have hks : k = s.size := by omega
      have hall : pre s.data.toList 1 k = s.data.toList.drop 1 := List.take_of_length_le (by rw [HR.out]; omega)
      have hd2 := hd.out
      have hbd := dv_6 hd.out (by rw [pre, List.length_take, HR.out]; omega)
      rw [hall] at hd2 hbd
      rw [hall]
      have hl : s.data.toList = 45 :: s.data.toList.drop 1 := by
        have h0 := byte_get s 0 (by omega)
        rw [HFi.out] at h0
        generalize s.data.toList = l at *
        rcases l with _ | ⟨c, r⟩
        · simp at h0
        · obtain rfl : c = 45 := by simpa using h0
          rfl
      have hnv : ∀ m : Int, -32768 ≤ m → m ≤ 32767 → Lib.itoa m = s.data.toList → m = -((dv 0 (s.data.toList.drop 1) : Nat) : Int) := fun m h0 h1 e => val_neg hd2 m h0 h1 (by rw [e]; exact hl)
      obtain ⟨e1, e2⟩ := num_val hnv
      have E1 := Lib.hid e1
      have E2 := Lib.hid e2
      clear e1 e2 hnv hd2 hall hd hl
      obtain ⟨D, hD⟩ : ∃ D : Int, D = ((dv 0 (s.data.toList.drop 1) : Nat) : Int) := ⟨_, rfl⟩
      have hD0 : 0 ≤ D := by omega
      have hD1 : D < 1000000 := by omega
      rw [← hD] at E1 E2 ⊢
      clear hD hbd
      subst hks
      clear hk0 hk hlt
      by_cases r0 : -32768 ≤ -D
      · by_cases r1 : -D ≤ 32767
        · have KD := Lib.hid (fun w => decimal_any (-D) w r0 r1)
          have E3 : Hid (numB s.data.toList = (Lib.itoa (-D) == s.data.toList)) := Lib.hid (by rw [E1.out, decide_eq_true r0, decide_eq_true r1]; rfl)
          by_cases hi : Lib.itoa (-D) = s.data.toList
          · have hib : (Lib.itoa (-D) == s.toList) = true := by rw [ByteArray.toList_eq]; exact beq_iff_eq.2 hi
            have HN : Hid (numB s.data.toList = true) := Lib.hid (by rw [E3.out]; exact beq_iff_eq.2 hi)
            clear hi
            go_wp2_with (go_at_call 46; (with_reducible refine (KD.out _).mono ?_); rintro e w1 ⟨rfl, hb1⟩)
            go_ret2
            exact ⟨-D, by rw [HN.out]; rfl, E2.out, (by repeat (first | (with_reducible exact Below.refl _ _) | (with_reducible assumption) | (with_reducible exact bel_box _) | (with_reducible refine bel_step ?_ (by with_reducible assumption)) | (with_reducible refine Below.drew ?_) | (with_reducible refine below_drewN ?_ _) | (with_reducible refine bel_alloc ?_ _)))⟩
          · have hib : (Lib.itoa (-D) == s.toList) = false := by rw [ByteArray.toList_eq]; exact beq_eq_false_iff_ne.2 hi
            have HN : Hid (numB s.data.toList = false) := Lib.hid (by rw [E3.out]; exact beq_eq_false_iff_ne.2 hi)
            clear hi
            go_wp2_with (go_at_call 46; (with_reducible refine (KD.out _).mono ?_); rintro e w1 ⟨rfl, hb1⟩)
            go_ret2
            exact ⟨-D, by rw [HN.out]; rfl, E2.out, (by repeat (first | (with_reducible exact Below.refl _ _) | (with_reducible assumption) | (with_reducible exact bel_box _) | (with_reducible refine bel_step ?_ (by with_reducible assumption)) | (with_reducible refine Below.drew ?_) | (with_reducible refine below_drewN ?_ _) | (with_reducible refine bel_alloc ?_ _)))⟩
        · have HN : Hid (numB s.data.toList = false) := Lib.hid (by rw [E1.out, decide_eq_false r1]; simp)
          have r1' : decide (-D ≤ 32767) = false := by simpa using r1
          clear r1
          go_wp2
          go_ret2
          exact ⟨-D, by rw [HN.out]; rfl, E2.out, Below.refl _ _⟩
      · have HN : Hid (numB s.data.toList = false) := Lib.hid (by rw [E1.out, decide_eq_false r0]; simp)
        have r0' : 32768 < D := by omega
        clear r0
        go_wp2
        go_ret2
        exact ⟨-D, by rw [HN.out]; rfl, E2.out, Below.refl _ _⟩
theorem rnum_any (s : ByteArray) (w : World) : Calls Tryd.prog 49 #[.string s] w (Rnum s.data.toList w) := by
  by_cases h0 : s.size = 0
  · have hs : s = ⟨#[]⟩ := by
      apply ByteArray.ext
      exact Array.eq_empty_of_size_eq_zero h0
    subst hs
    have HN := Lib.hid num_empty
    go_enter Tryd.func49, Tryd.ntmps49
    go_wp2
    go_ret2
    exact ⟨0, by rw [HN.out]; rfl, (fun h => by rw [HN.out] at h; cases h), Below.refl _ _⟩
  have hpos : 0 < s.size := by omega
  have hlen := len_toList s
  have hbad : numB s.data.toList = false → ∀ w, Calls Tryd.prog 49 #[.string s] w (fun e w' => e = .returned (.tuple #[.int .i64 0, .bool false]) ∧ w = w') → Calls Tryd.prog 49 #[.string s] w (Rnum s.data.toList w) := fun hn w h =>
    h.mono fun e w' ⟨he, hw⟩ => ⟨0, by rw [he, hn], (fun h => by rw [hn] at h; cases h), by rw [← hw]; exact Below.refl _ _⟩
  by_cases h6 : s.size ≤ 6
  · by_cases hb : ((s[0].toNat : Int) == 45) = true
    · by_cases h1 : 1 < s.size
      · exact rnum_loop1 s w h1 h6 hb
      · have hs : s = ⟨#[45]⟩ := by
          have hg := byte_get s 0 hpos
          have e : s[0] = 45 := UInt8.toNat_inj.1 (by have h := beq_iff_eq.1 hb; show _ = 45; omega)
          rw [e] at hg
          apply ByteArray.ext
          apply Array.toList_inj.mp
          generalize s.data.toList = l at *
          rcases l with _ | ⟨c, r⟩
          · simp at hg
          · obtain rfl : c = 45 := by simpa using hg
            rcases r with _ | ⟨d, r⟩
            · rfl
            · simp at hlen; omega
        subst hs
        clear hb hlen hbad
        have HN := Lib.hid num_sign
        go_enter Tryd.func49, Tryd.ntmps49
        go_wp2
        go_ret2
        exact ⟨0, by rw [HN.out]; rfl, (fun h => by rw [HN.out] at h; cases h), Below.refl _ _⟩
    · rw [Bool.not_eq_true] at hb
      exact rnum_loop0 s w hpos h6 hb
  · have hn : numB s.data.toList = false := num_long (by omega)
    refine hbad hn w ?_
    have z2 : decide (6 < (s.size : Int)) = true := by simp; omega
    have z3 : ((s.size : Int) == 1) = false := by rw [beq_eq_false_iff_ne]; omega
    have z4 : ((s.size : Int) == 0) = false := by rw [beq_eq_false_iff_ne]; omega
    clear hn hbad hlen h0 h6
    cases hb : ((s[0].toNat : Int) == 45)
    all_goals
      go_enter Tryd.func49, Tryd.ntmps49
      go_wp2
      go_ret2
      exact ⟨rfl, rfl⟩
theorem textS_at {es : List En} {t : Int} {k : Nat} (hv : valB es t = true) (h2 : t ≠ 2) (hk : k < (tagsOf es t).length) : textS es t k = (tagsOf es t).getD k ⟨#[]⟩ := by
  have hj : hasB es t k = true := by rw [hasB, if_neg h2, sizeT, if_neg h2]; simp; omega
  rw [textS, if_pos (by rw [textE, if_pos hv, if_pos hj]), if_neg h2]
  rfl
set_option maxHeartbeats 2000000 in
theorem rparse_any (A : Option Addr) (c : Nat) (es : List En) (t : Int) (s : ByteArray) (w : World) (hA : RdE w w.heap.size A es) (hl : es.length ≤ 9223372036854775807) (hti : t ≤ 9223372036854775807) (htl : (tagsOf es t).length ≤ 9223372036854775807) :
    Calls Tryd.prog 24 #[.slice A es.length c, .int .i64 t, .string s] w (Bel (.tuple #[.int .i64 (parV es t s), .int .i64 (parE es t s)]) w) := by
  have KV := Lib.hid (fun w => known_any A c es t w hl hti)
  have HA := Lib.hid hA
  by_cases hv : valB es t = true
  · rw [hv] at KV
    by_cases h2 : t = 2
    · subst h2
      have HX : Hid (parV es 2 s = numV s.data.toList ∧ parE es 2 s = numE s.data.toList) := Lib.hid ⟨by rw [parV, if_pos hv, if_pos rfl], by rw [parE, if_pos hv, if_pos rfl]⟩
      clear hv hA hti htl
      cases hn : numB s.data.toList
      · have HN := Lib.hid hn
        clear hn
        go_enter Tryd.func24, Tryd.ntmps24
        go_wp2_with (first
          | (go_at_call 43; refine (KV.out _).mono ?_; rintro e w1 ⟨rfl, rfl⟩)
          | (go_at_call 49; refine (rnum_any s _).mono ?_; rintro e w2 ⟨n, rfl, hn2, hb2⟩; rw [HN.out]; clear hn2))
        go_ret2
        exact ⟨by rw [HX.out.1, HX.out.2, numV, numE, HN.out]; rfl, (by repeat (first | (with_reducible exact Below.refl _ _) | (with_reducible assumption) | (with_reducible exact bel_box _) | (with_reducible refine bel_step ?_ (by with_reducible assumption)) | (with_reducible refine Below.drew ?_) | (with_reducible refine below_drewN ?_ _) | (with_reducible refine bel_alloc ?_ _)))⟩
      · have HN := Lib.hid hn
        clear hn
        go_enter Tryd.func24, Tryd.ntmps24
        go_wp2_with (first
          | (go_at_call 43; refine (KV.out _).mono ?_; rintro e w1 ⟨rfl, rfl⟩)
          | (go_at_call 49; refine (rnum_any s _).mono ?_; rintro e w2 ⟨n, rfl, hn2, hb2⟩; obtain rfl := hn2 HN.out; rw [HN.out]; clear hn2))
        go_ret2
        exact ⟨by rw [HX.out.1, HX.out.2, numV, numE, HN.out]; rfl, (by repeat (first | (with_reducible exact Below.refl _ _) | (with_reducible assumption) | (with_reducible exact bel_box _) | (with_reducible refine bel_step ?_ (by with_reducible assumption)) | (with_reducible refine Below.drew ?_) | (with_reducible refine below_drewN ?_ _) | (with_reducible refine bel_alloc ?_ _)))⟩
    · have e2 : (t == 2) = false := by simp [h2]
      have hsz : sizeT es t = (tagsOf es t).length := by rw [sizeT, if_neg h2]
      have KS := Lib.hid (fun w h => rsize_any A c es t w h hl hti)
      rw [hsz] at KS
      have KT := Lib.hid (fun v w h => rtext_any A c es t v w h hl hti)
      have HT : Hid (∀ k : Nat, k < (tagsOf es t).length → textS es t k = (tagsOf es t).getD k ⟨#[]⟩) := Lib.hid fun k hk => textS_at hv h2 hk
      have HP : Hid (parV es t s = (if Lib.idxOfS (tagsOf es t) s < 0 then 0 else Lib.idxOfS (tagsOf es t) s) ∧ parE es t s = (if Lib.idxOfS (tagsOf es t) s < 0 then 5 else 0)) := Lib.hid ⟨by rw [parV, if_pos hv, if_neg h2], by rw [parE, if_pos hv, if_neg h2]⟩
      clear hA hti h2 hsz hv
      generalize hts : tagsOf es t = ts at *
      clear hts
      go_enter Tryd.func24, Tryd.ntmps24
      go_wp2_with (go_at_call 43; refine (KV.out _).mono ?_; rintro e w1 ⟨rfl, rfl⟩)
      go_loopw [10] (fun i wr => ∃ k : Nat, k ≤ ts.length ∧ i = .int .i64 k ∧ Hid (∀ j, j < k → ts.getD j ByteArray.empty ≠ s) ∧ Below w.heap.size w wr) (fun i _ => ts.length - (intOf i).toNat)
      case atStart => exact ⟨0, by omega, rfl, Lib.hid (fun j hj => absurd hj (by omega)), Below.refl _ _⟩
      case round =>
        obtain ⟨k, hk, rfl, hm, hbl⟩ := hrel
        by_cases hlt : k < ts.length
        · have hx := HT.out k hlt
          by_cases hs : ts.getD k ⟨#[]⟩ = s
          · have hio : Lib.idxOfS ts s = (k : Int) := by
              have q := Go.Lib.idxOfS_hit ts ts.length k s hlt (Nat.le_refl _) hs hm.out
              rwa [List.take_length] at q
            have HX : Hid (parV es t s = (k : Int) ∧ parE es t s = 0) := Lib.hid ⟨by rw [HP.out.1, hio, if_neg (by omega)], by rw [HP.out.2, hio, if_neg (by omega)]⟩
            have KT2 := Lib.hid (KT.out k)
            rw [hx, hs] at KT2
            clear hx hs hio hm
            go_wp2_with (first
              | (go_at_call 14; refine (KS.out _ (htoE HA ?_)).mono ?_; (focus ((repeat (first | (with_reducible exact Below.refl _ _) | (with_reducible assumption) | (with_reducible exact bel_box _) | (with_reducible refine bel_step ?_ (by with_reducible assumption)) | (with_reducible refine Below.drew ?_) | (with_reducible refine below_drewN ?_ _) | (with_reducible refine bel_alloc ?_ _))); done)); rintro e w2 ⟨rfl, hb2⟩)
              | (go_at_call 22; refine (KT2.out _ (htoE HA ?_)).mono ?_; (focus ((repeat (first | (with_reducible exact Below.refl _ _) | (with_reducible assumption) | (with_reducible exact bel_box _) | (with_reducible refine bel_step ?_ (by with_reducible assumption)) | (with_reducible refine Below.drew ?_) | (with_reducible refine below_drewN ?_ _) | (with_reducible refine bel_alloc ?_ _))); done)); rintro e w3 ⟨rfl, hb3⟩))
            go_ret2
            exact ⟨by rw [HX.out.1, HX.out.2]; rfl, (by repeat (first | (with_reducible exact Below.refl _ _) | (with_reducible assumption) | (with_reducible exact bel_box _) | (with_reducible refine bel_step ?_ (by with_reducible assumption)) | (with_reducible refine Below.drew ?_) | (with_reducible refine below_drewN ?_ _) | (with_reducible refine bel_alloc ?_ _)))⟩
          · have hsb : ((ts.getD k ⟨#[]⟩).toList == s.toList) = false := (Go.Lib.bytes_beq_false_iff _ _).2 hs
            have HM : Hid (∀ j, j < k + 1 → ts.getD j ByteArray.empty ≠ s) := Lib.hid fun j hj => by
              rcases Nat.lt_or_ge j k with h | h
              · exact hm.out j h
              · obtain rfl : j = k := by omega
                exact hs
            have KT2 := Lib.hid (KT.out k)
            rw [hx] at KT2
            clear hx hs hm
            generalize ts.getD k ⟨#[]⟩ = x at *
            go_wp2_with (first
              | (go_at_call 14; refine (KS.out _ (htoE HA ?_)).mono ?_; (focus ((repeat (first | (with_reducible exact Below.refl _ _) | (with_reducible assumption) | (with_reducible exact bel_box _) | (with_reducible refine bel_step ?_ (by with_reducible assumption)) | (with_reducible refine Below.drew ?_) | (with_reducible refine below_drewN ?_ _) | (with_reducible refine bel_alloc ?_ _))); done)); rintro e w2 ⟨rfl, hb2⟩)
              | (go_at_call 22; refine (KT2.out _ (htoE HA ?_)).mono ?_; (focus ((repeat (first | (with_reducible exact Below.refl _ _) | (with_reducible assumption) | (with_reducible exact bel_box _) | (with_reducible refine bel_step ?_ (by with_reducible assumption)) | (with_reducible refine Below.drew ?_) | (with_reducible refine below_drewN ?_ _) | (with_reducible refine bel_alloc ?_ _))); done)); rintro e w3 ⟨rfl, hb3⟩))
            go_roundw
            case rel => exact ⟨k + 1, by omega, by go_num, Lib.hid HM.out, (by repeat (first | (with_reducible exact Below.refl _ _) | (with_reducible assumption) | (with_reducible exact bel_box _) | (with_reducible refine bel_step ?_ (by with_reducible assumption)) | (with_reducible refine Below.drew ?_) | (with_reducible refine below_drewN ?_ _) | (with_reducible refine bel_alloc ?_ _)))⟩
            case measure => simp [intOf]; omega
        · have hio : Lib.idxOfS ts s = -1 := by
            have q := Go.Lib.idxOfS_miss ts ts.length s (fun j hj => hm.out j (by omega))
            rwa [List.take_length] at q
          have HX : Hid (parV es t s = 0 ∧ parE es t s = 5) := Lib.hid ⟨by rw [HP.out.1, hio]; rfl, by rw [HP.out.2, hio]; rfl⟩
          clear hio hm
          go_wp2_with (go_at_call 14; refine (KS.out _ (htoE HA ?_)).mono ?_; (focus ((repeat (first | (with_reducible exact Below.refl _ _) | (with_reducible assumption) | (with_reducible exact bel_box _) | (with_reducible refine bel_step ?_ (by with_reducible assumption)) | (with_reducible refine Below.drew ?_) | (with_reducible refine below_drewN ?_ _) | (with_reducible refine bel_alloc ?_ _))); done)); rintro e w2 ⟨rfl, hb2⟩)
          go_ret2
          exact ⟨by rw [HX.out.1, HX.out.2]; rfl, (by repeat (first | (with_reducible exact Below.refl _ _) | (with_reducible assumption) | (with_reducible exact bel_box _) | (with_reducible refine bel_step ?_ (by with_reducible assumption)) | (with_reducible refine Below.drew ?_) | (with_reducible refine below_drewN ?_ _) | (with_reducible refine bel_alloc ?_ _)))⟩
  · rw [Bool.not_eq_true] at hv
    rw [hv] at KV
    have HX : Hid (parV es t s = 0 ∧ parE es t s = 10) := Lib.hid ⟨by rw [parV, hv]; rfl, by rw [parE, hv]; rfl⟩
    clear hv hA hti htl
    go_enter Tryd.func24, Tryd.ntmps24
    go_wp2_with (go_at_call 43; refine (KV.out _).mono ?_; rintro e w1 ⟨rfl, rfl⟩)
    go_ret2
    exact ⟨by rw [HX.out.1, HX.out.2]; rfl, Below.refl _ _⟩
theorem has2' {es : List En} {v : Int} (h0 : -32768 ≤ v) (h1 : v ≤ 32767) : hasB es 2 v = true := by
  rw [hasB, if_pos rfl]
  simp
  omega
theorem parse_back {es : List En} {t : Int} {s : ByteArray} (h : parE es t s = 0) : textE es t (parV es t s) = 0 ∧ textS es t (parV es t s) = s ∧ hasB es t (parV es t s) = true := by
  have hv : valB es t = true := by
    rw [parE] at h
    cases hb : valB es t
    · rw [hb] at h; cases h
    · rfl
  by_cases h2 : t = 2
  · subst h2
    have hn : numB s.data.toList = true := by
      rw [parE, if_pos hv, if_pos rfl, numE] at h
      cases hb : numB s.data.toList
      · rw [hb] at h; cases h
      · rfl
    have hp : parV es 2 s = atoiV s.data.toList := by rw [parV, if_pos hv, if_pos rfl, numV, hn]; rfl
    obtain ⟨m, m0, m1, e⟩ := numB_iff.1 hn
    have hm : atoiV s.data.toList = m := by rw [← e]; exact (numB_itoa m0 m1).2
    rw [hp, hm]
    have hh : hasB es 2 m = true := has2' m0 m1
    have ht : textE es 2 m = 0 := by rw [textE, if_pos hv, if_pos hh]
    refine ⟨ht, ?_, hh⟩
    rw [textS, if_pos ht, if_pos rfl, e]
  · have hi : ¬ Lib.idxOfS (tagsOf es t) s < 0 := by
      intro hi
      rw [parE, if_pos hv, if_neg h2, if_pos hi] at h
      cases h
    have hmem := (Go.Lib.idxOfS_nonneg_iff (tagsOf es t) s).1 (by omega)
    obtain ⟨v, hv1⟩ := List.getElem?_of_mem hmem
    have hvl : v < (tagsOf es t).length := (List.getElem?_eq_some_iff.1 hv1).1
    obtain ⟨k, k1, k2, k3, k4⟩ := idx_some (l := tagsOf es t) (x := s) hvl (by rw [List.getD, hv1]; rfl)
    have hp : parV es t s = k := by rw [parV, if_pos hv, if_neg h2, k3, if_neg (by omega)]
    have hj : hasB es t k = true := by rw [hasB, if_neg h2, sizeT, if_neg h2]; simp; omega
    have ht : textE es t k = 0 := by rw [textE, if_pos hv, if_pos hj]
    rw [hp]
    exact ⟨ht, by rw [textS_at hv h2 k2]; exact k4, hj⟩
set_option maxHeartbeats 4000000 in
theorem parses_any (A : Option Addr) (c : Nat) (es : List En) (t : Int) (s : ByteArray) (w : World) (hs : Std w) (hA : RdE w w.heap.size A es) (hl : es.length ≤ 9223372036854775807) (hti : t ≤ 9223372036854775807)
    (htg : ∀ (i : Nat) (e : En), es[i]? = some e → e.tags.length ≤ 9223372036854775807 ∧ ∀ s ∈ e.tags, s.size ≤ maxLen) (hsz : s.size ≤ maxLen) :
    Calls Tryd.prog 5 #[.slice A es.length c, .int .i64 t, .string s] w (Bel (.bool true) w) := by
  have HS := Lib.hid hs
  have HA := Lib.hid hA
  have KU := Lib.hid (huge_any A c es w hA hl htg)
  have KT := Lib.hid (fun w hs h => text_any A c es t (parV es t s) w hs h hl hti)
  have KH := Lib.hid (fun w h => has_any A c es t (parV es t s) w h hl hti)
  have KP := Lib.hid (fun w hs h hz => parse_any A c es t s w hs h hl hti hz (tags_le htg))
  have KR := Lib.hid (fun w h => rparse_any A c es t s w h hl hti (tags_le htg))
  clear hs hA htg hl hti
  by_cases hg : (1000 : Int) < s.size
  · have hg' : decide ((1000 : Int) < (s.size : Int)) = true := by simpa using hg
    unfold maxLen at hsz
    clear hg
    go_enter Tryd.func5, Tryd.ntmps5
    go_wp2_with (first
      | (go_at_call 11; refine KU.out.mono ?_; rintro e w1 ⟨b, rfl, rfl, hb40⟩)
      | (go_at_call 12; refine (awake_any _ (HS.out.to ?_)).mono ?_; (focus ((repeat (first | (with_reducible exact Below.refl _ _) | (with_reducible assumption) | (with_reducible exact bel_box _) | (with_reducible refine bel_step ?_ (by with_reducible assumption)) | (with_reducible refine Below.drew ?_) | (with_reducible refine below_drewN ?_ _) | (with_reducible refine bel_alloc ?_ _))); done)); rintro e w9 ⟨rfl, hb9⟩))
    all_goals go_ret
    all_goals exact ⟨rfl, (by repeat (first | (with_reducible exact Below.refl _ _) | (with_reducible assumption) | (with_reducible exact bel_box _) | (with_reducible refine bel_step ?_ (by with_reducible assumption)) | (with_reducible refine Below.drew ?_) | (with_reducible refine below_drewN ?_ _) | (with_reducible refine bel_alloc ?_ _)))⟩
  · have hg' : decide ((1000 : Int) < (s.size : Int)) = false := by simpa using hg
    have KQ := Lib.hid (fun w hs h => KP.out w hs h (fun _ => by omega))
    clear KP hg hsz
    by_cases he : parE es t s = 0
    · obtain ⟨b1, b2, b3⟩ := parse_back he
      rw [b1, b2] at KT
      rw [b3] at KH
      rw [he] at KQ KR
      clear b1 b2 b3 he
      generalize parV es t s = v at *
      go_enter Tryd.func5, Tryd.ntmps5
      go_wp2_with (first
        | (go_at_call 11; refine KU.out.mono ?_; rintro e w1 ⟨b, rfl, rfl, hb40⟩)
        | (go_at_call 23; refine (KQ.out _ (HS.out.to ?_) (htoE HA ?_)).mono ?_; (focus ((repeat (first | (with_reducible exact Below.refl _ _) | (with_reducible assumption) | (with_reducible exact bel_box _) | (with_reducible refine bel_step ?_ (by with_reducible assumption)) | (with_reducible refine Below.drew ?_) | (with_reducible refine below_drewN ?_ _) | (with_reducible refine bel_alloc ?_ _))); done)); (focus ((repeat (first | (with_reducible exact Below.refl _ _) | (with_reducible assumption) | (with_reducible exact bel_box _) | (with_reducible refine bel_step ?_ (by with_reducible assumption)) | (with_reducible refine Below.drew ?_) | (with_reducible refine below_drewN ?_ _) | (with_reducible refine bel_alloc ?_ _))); done)); rintro e w2 ⟨rfl, hb2⟩)
        | (go_at_call 24; refine (KR.out _ (htoE HA ?_)).mono ?_; (focus ((repeat (first | (with_reducible exact Below.refl _ _) | (with_reducible assumption) | (with_reducible exact bel_box _) | (with_reducible refine bel_step ?_ (by with_reducible assumption)) | (with_reducible refine Below.drew ?_) | (with_reducible refine below_drewN ?_ _) | (with_reducible refine bel_alloc ?_ _))); done)); rintro e w2 ⟨rfl, hb2⟩)
        | (go_at_call 21; refine (KT.out _ (HS.out.to ?_) (htoE HA ?_)).mono ?_; (focus ((repeat (first | (with_reducible exact Below.refl _ _) | (with_reducible assumption) | (with_reducible exact bel_box _) | (with_reducible refine bel_step ?_ (by with_reducible assumption)) | (with_reducible refine Below.drew ?_) | (with_reducible refine below_drewN ?_ _) | (with_reducible refine bel_alloc ?_ _))); done)); (focus ((repeat (first | (with_reducible exact Below.refl _ _) | (with_reducible assumption) | (with_reducible exact bel_box _) | (with_reducible refine bel_step ?_ (by with_reducible assumption)) | (with_reducible refine Below.drew ?_) | (with_reducible refine below_drewN ?_ _) | (with_reducible refine bel_alloc ?_ _))); done)); rintro e w2 ⟨rfl, hb2⟩)
        | (go_at_call 15; refine (KH.out _ (htoE HA ?_)).mono ?_; (focus ((repeat (first | (with_reducible exact Below.refl _ _) | (with_reducible assumption) | (with_reducible exact bel_box _) | (with_reducible refine bel_step ?_ (by with_reducible assumption)) | (with_reducible refine Below.drew ?_) | (with_reducible refine below_drewN ?_ _) | (with_reducible refine bel_alloc ?_ _))); done)); rintro e w2 ⟨rfl, hb2⟩)
        | (go_at_call 12; refine (awake_any _ (HS.out.to ?_)).mono ?_; (focus ((repeat (first | (with_reducible exact Below.refl _ _) | (with_reducible assumption) | (with_reducible exact bel_box _) | (with_reducible refine bel_step ?_ (by with_reducible assumption)) | (with_reducible refine Below.drew ?_) | (with_reducible refine below_drewN ?_ _) | (with_reducible refine bel_alloc ?_ _))); done)); rintro e w9 ⟨rfl, hb9⟩))
      all_goals go_ret
      all_goals exact ⟨rfl, (by repeat (first | (with_reducible exact Below.refl _ _) | (with_reducible assumption) | (with_reducible exact bel_box _) | (with_reducible refine bel_step ?_ (by with_reducible assumption)) | (with_reducible refine Below.drew ?_) | (with_reducible refine below_drewN ?_ _) | (with_reducible refine bel_alloc ?_ _)))⟩
    · have heb : (parE es t s != 0) = true := by simpa using he
      clear he
      go_enter Tryd.func5, Tryd.ntmps5
      go_wp2_with (first
        | (go_at_call 11; refine KU.out.mono ?_; rintro e w1 ⟨b, rfl, rfl, hb40⟩)
        | (go_at_call 23; refine (KQ.out _ (HS.out.to ?_) (htoE HA ?_)).mono ?_; (focus ((repeat (first | (with_reducible exact Below.refl _ _) | (with_reducible assumption) | (with_reducible exact bel_box _) | (with_reducible refine bel_step ?_ (by with_reducible assumption)) | (with_reducible refine Below.drew ?_) | (with_reducible refine below_drewN ?_ _) | (with_reducible refine bel_alloc ?_ _))); done)); (focus ((repeat (first | (with_reducible exact Below.refl _ _) | (with_reducible assumption) | (with_reducible exact bel_box _) | (with_reducible refine bel_step ?_ (by with_reducible assumption)) | (with_reducible refine Below.drew ?_) | (with_reducible refine below_drewN ?_ _) | (with_reducible refine bel_alloc ?_ _))); done)); rintro e w2 ⟨rfl, hb2⟩)
        | (go_at_call 24; refine (KR.out _ (htoE HA ?_)).mono ?_; (focus ((repeat (first | (with_reducible exact Below.refl _ _) | (with_reducible assumption) | (with_reducible exact bel_box _) | (with_reducible refine bel_step ?_ (by with_reducible assumption)) | (with_reducible refine Below.drew ?_) | (with_reducible refine below_drewN ?_ _) | (with_reducible refine bel_alloc ?_ _))); done)); rintro e w2 ⟨rfl, hb2⟩)
        | (go_at_call 21; refine (KT.out _ (HS.out.to ?_) (htoE HA ?_)).mono ?_; (focus ((repeat (first | (with_reducible exact Below.refl _ _) | (with_reducible assumption) | (with_reducible exact bel_box _) | (with_reducible refine bel_step ?_ (by with_reducible assumption)) | (with_reducible refine Below.drew ?_) | (with_reducible refine below_drewN ?_ _) | (with_reducible refine bel_alloc ?_ _))); done)); (focus ((repeat (first | (with_reducible exact Below.refl _ _) | (with_reducible assumption) | (with_reducible exact bel_box _) | (with_reducible refine bel_step ?_ (by with_reducible assumption)) | (with_reducible refine Below.drew ?_) | (with_reducible refine below_drewN ?_ _) | (with_reducible refine bel_alloc ?_ _))); done)); rintro e w2 ⟨rfl, hb2⟩)
        | (go_at_call 12; refine (awake_any _ (HS.out.to ?_)).mono ?_; (focus ((repeat (first | (with_reducible exact Below.refl _ _) | (with_reducible assumption) | (with_reducible exact bel_box _) | (with_reducible refine bel_step ?_ (by with_reducible assumption)) | (with_reducible refine Below.drew ?_) | (with_reducible refine below_drewN ?_ _) | (with_reducible refine bel_alloc ?_ _))); done)); rintro e w9 ⟨rfl, hb9⟩))
      all_goals go_ret
      all_goals exact ⟨rfl, (by repeat (first | (with_reducible exact Below.refl _ _) | (with_reducible assumption) | (with_reducible exact bel_box _) | (with_reducible refine bel_step ?_ (by with_reducible assumption)) | (with_reducible refine Below.drew ?_) | (with_reducible refine below_drewN ?_ _) | (with_reducible refine bel_alloc ?_ _)))⟩
end Go.Proofs.YtjlkgejkgpnnkaaDoor
