/- gap: the blanks and remarks in front. -/
import Derived.Test.YtbnddbhfnpdjeaaDoorLc
import Derived.IntWalk
import Derived.Deep.RegionHeld3
import Derived.Deep.RegionLaw
import Derived.Deep.OwnRows
namespace Go.Proofs.YtbnddbhfnpdjeaaDoor
set_option linter.unusedVariables false
set_option linter.unusedSimpArgs false
open Go.RowKit
theorem drop_bytes (s : ByteArray) (k : Nat) : (s.extract k s.size).data.toList = s.data.toList.drop k := by
  rw [ByteArray.data_extract]
  simp only [Array.toList_extract, List.extract_eq_take_drop]
  rw [List.take_of_length_le]
  rw [List.length_drop, len_toList]
  exact Nat.le_refl _
theorem drop_size (s : ByteArray) (k : Nat) : (s.extract k s.size).size = s.size - k := by
  rw [← len_toList, drop_bytes, List.length_drop, len_toList]
theorem sp_length (p : Int → Bool) (l : List UInt8) : sp p l ≤ l.length := tw_le _ _
theorem pre2 {l : List UInt8} (h : Lib.hasPrefix l [45, 45] = true) : ∃ r, l = 45 :: 45 :: r := by
  rcases l with _ | ⟨a, _ | ⟨b, r⟩⟩
  · simp [Lib.hasPrefix] at h
  · simp [Lib.hasPrefix] at h
  · refine ⟨r, ?_⟩
    simp [Lib.hasPrefix] at h
    rw [← h.1, ← h.2]
theorem sp_dash {l : List UInt8} (h : Lib.hasPrefix l [45, 45] = true) : 0 < sp pN l ∧ 0 < l.length := by
  obtain ⟨r, rfl⟩ := pre2 h
  have : pN ((((45 : UInt8).toNat : Nat) : Int)) = true := rfl
  exact ⟨by rw [sp, List.takeWhile_cons, if_pos this]; simp, by simp⟩
/-- the bytes of the blanks and remarks in front -/
def gapN (l : List UInt8) : Nat :=
  if h : Lib.hasPrefix (l.drop (sp pB l)) [45, 45] = true then sp pB l + sp pN (l.drop (sp pB l)) + gapN (l.drop (sp pB l + sp pN (l.drop (sp pB l)))) else sp pB l
termination_by l.length
decreasing_by
  have := sp_dash h
  rw [List.length_drop] at this ⊢
  omega
theorem gapN_yes {l : List UInt8} (h : Lib.hasPrefix (l.drop (sp pB l)) [45, 45] = true) : gapN l = sp pB l + sp pN (l.drop (sp pB l)) + gapN (l.drop (sp pB l + sp pN (l.drop (sp pB l)))) := by
  rw [gapN, dif_pos h]
theorem gapN_no {l : List UInt8} (h : Lib.hasPrefix (l.drop (sp pB l)) [45, 45] = false) : gapN l = sp pB l := by
  rw [gapN, dif_neg (by rw [h]; simp)]
theorem pB_contains (c : UInt8) : (ByteArray.mk #[32, 9, 10, 13]).data.toList.contains c = pB ((c.toNat : Nat) : Int) := by
  have key : ∀ d : UInt8, (c == d) = (((c.toNat : Nat) : Int) == ((d.toNat : Nat) : Int)) := fun d => by
    rw [Bool.eq_iff_iff, beq_iff_eq, beq_iff_eq]
    constructor
    · rintro rfl; rfl
    · intro h; exact UInt8.toNat_inj.1 (by omega)
  show [32, 9, 10, 13].contains c = _
  simp only [List.contains_cons, List.contains_nil, Bool.or_false, key, pB]
  simp only [Bool.or_assoc]
  rfl
set_option maxHeartbeats 1000000 in
theorem gap_any (s : ByteArray) (w : World) (hs : s.size ≤ 9223372036854775807) : Calls Tryd.prog 19 #[.string s] w (Bel (.int .i64 (gapN s.data.toList)) w) := by
  have KA : Hid (∀ W, Below w.heap.size w W → Calls Tryd.prog 28 #[.string ⟨#[32, 9, 10, 13]⟩] W (fun e w' => e = .returned (.func (.func 45) #[] #[.pointer (some ⟨W.heap.size, 0, none⟩)]) ∧ w'.cell? ⟨W.heap.size, 0, none⟩ = some (.string ⟨#[32, 9, 10, 13]⟩) ∧ W.heap.size < w'.heap.size ∧ Below W.heap.size W w')) := Lib.hid fun W _ => among_any _ W
  have KS : Hid (∀ (q : Addr) (x : ByteArray) W, x.size ≤ 9223372036854775807 → q.block < W.heap.size → W.cell? q = some (.string ⟨#[32, 9, 10, 13]⟩) → Calls Tryd.prog 27 #[.string x, .func (.func 45) #[] #[.pointer (some q)]] W (Bel (.int .i64 (sp pB x.data.toList)) W)) := Lib.hid fun q x W hx hq hc =>
    span_am q pB x W hx (Lib.hid fun W' hb c => by
      have := among_call ⟨#[32, 9, 10, 13]⟩ q c W' ((hb.cell hq).trans hc)
      rwa [pB_contains] at this)
  have KN : Hid (∀ (x : ByteArray) W, x.size ≤ 9223372036854775807 → Calls Tryd.prog 27 #[.string x, .func (.func 30) #[] #[]] W (Bel (.int .i64 (sp pN x.data.toList)) W)) := Lib.hid fun x W hx => span_lf pN x W hx (Lib.hid fun W' hb c => notlf_any _ W')
  have KP := Lib.hid (fun (x : ByteArray) W => Tryd.strings_HasPrefix x ⟨#[45, 45]⟩ W)
  go_enter Tryd.func19, Tryd.ntmps19
  go_wp2
  go_loopw [3] (fun i wr => ∃ k : Nat, k ≤ s.size ∧ i = .int .i64 k ∧ Hid (k + gapN (s.data.toList.drop k) = gapN s.data.toList) ∧ Below w.heap.size w wr) (fun i _ => s.size - (intOf i).toNat)
  case atStart => exact ⟨0, by omega, rfl, Lib.hid (by simp), Below.refl _ _⟩
  case round =>
    obtain ⟨k, hk, rfl, hg, hbl⟩ := hrel
    have z1 := drop_size s k
    have z2 := drop_bytes s k
    obtain ⟨a, ha⟩ : ∃ a, sp pB (s.data.toList.drop k) = a := ⟨_, rfl⟩
    have hal : a ≤ s.size - k := by rw [← ha]; have := sp_length pB (s.data.toList.drop k); rwa [List.length_drop, len_toList] at this
    obtain ⟨m, hm⟩ : ∃ m, k + a = m := ⟨_, rfl⟩
    have f1 : (k : Int) + (a : Int) = (m : Int) := by omega
    have f2 : IntKind.i64.wrap (m : Int) = (m : Int) := Go.IntWalk.i64_in _ ⟨by omega, by omega⟩
    have hms : m ≤ s.size := by omega
    have S1 : Hid (∀ (q : Addr) W, q.block < W.heap.size → W.cell? q = some (.string ⟨#[32, 9, 10, 13]⟩) → Calls Tryd.prog 27 #[.string (s.extract k s.size), .func (.func 45) #[] #[.pointer (some q)]] W (Bel (.int .i64 a) W)) := Lib.hid fun q W hq hc => by
      have := KS.out q (s.extract k s.size) W (by omega) hq hc
      rwa [z2, ha] at this
    have P1 : Hid (∀ W, Calls Tryd.prog 29 #[.string (s.extract m s.size), .string ⟨#[45, 45]⟩] W (fun e w' => e = .returned (.bool (Lib.hasPrefix (s.data.toList.drop m) [45, 45])) ∧ w' = W)) := Lib.hid fun W => by
      have := KP.out (s.extract m s.size) W
      rwa [drop_bytes] at this
    have hdd : (s.data.toList.drop k).drop (sp pB (s.data.toList.drop k)) = s.data.toList.drop m := by rw [ha, List.drop_drop, hm]
    have hk0 : (0 : Int) ≤ (k : Int) := by omega
    have hks : (k : Int) ≤ (s.size : Int) := by omega
    have hm0 : (0 : Int) ≤ (m : Int) := by omega
    have hms2 : (m : Int) ≤ (s.size : Int) := by omega
    clear z1 z2 hm KS KP
    cases hp : Lib.hasPrefix (s.data.toList.drop m) [45, 45]
    · have hend : gapN s.data.toList = m := by
        rw [← hg.out, gapN_no (by rw [hdd]; exact hp), ha]
        omega
      rw [hp] at P1
      rw [hend]
      clear hdd hg ha hp hal hend
      go_wp2
      go_region_held3 (fun _ => True) (trivial) (first
        | (go_at_call 28; (with_reducible refine (KA.out _ ?_).mono ?_); (focus ((repeat (first | (with_reducible exact Below.refl _ _) | (with_reducible assumption) | (with_reducible exact bel_box _) | (with_reducible refine bel_step ?_ (by with_reducible assumption)) | (with_reducible refine Below.drew ?_) | (with_reducible refine below_drewN ?_ _) | (with_reducible refine bel_alloc ?_ _))); done)); rintro e w1 ⟨rfl, hq1, hz1, hb1⟩)
        | (go_at_call 27; (with_reducible refine (S1.out _ _ ?_ ?_).mono ?_); (focus (assumption; done)); (focus (assumption; done)); rintro e w2 ⟨rfl, hb2⟩))
      go_wp2_with (go_at_call 29; refine (P1.out _).mono ?_; rintro e w3 ⟨rfl, rfl⟩)
      go_ret
      exact ⟨rfl, (by repeat (first | (with_reducible exact Below.refl _ _) | (with_reducible assumption) | (with_reducible exact bel_box _) | (with_reducible refine bel_step ?_ (by with_reducible assumption)) | (with_reducible refine Below.drew ?_) | (with_reducible refine below_drewN ?_ _) | (with_reducible refine bel_alloc ?_ _)))⟩
    · obtain ⟨b, hb⟩ : ∃ b, sp pN (s.data.toList.drop m) = b := ⟨_, rfl⟩
      have hd := sp_dash hp
      rw [hb, List.length_drop, len_toList] at hd
      have hbl2 : b ≤ s.size - m := by rw [← hb]; have := sp_length pN (s.data.toList.drop m); rwa [List.length_drop, len_toList] at this
      obtain ⟨r, hr⟩ : ∃ r, m + b = r := ⟨_, rfl⟩
      have g1 : (m : Int) + (b : Int) = (r : Int) := by omega
      have g2 : IntKind.i64.wrap (r : Int) = (r : Int) := Go.IntWalk.i64_in _ ⟨by omega, by omega⟩
      have hend : Hid (r + gapN (s.data.toList.drop r) = gapN s.data.toList) := Lib.hid (by
        have hy := gapN_yes (l := s.data.toList.drop k) (by rw [hdd]; exact hp)
        rw [hdd, ha, hb, List.drop_drop, show k + (a + b) = r by omega] at hy
        rw [← hg.out, hy]
        omega)
      have S2 : Hid (∀ W, Calls Tryd.prog 27 #[.string (s.extract m s.size), .func (.func 30) #[] #[]] W (Bel (.int .i64 b) W)) := Lib.hid fun W => by
        have := KN.out (s.extract m s.size) W (by rw [drop_size]; omega)
        rwa [drop_bytes, hb] at this
      have hr1 : k < r := by omega
      have hr2 : r ≤ s.size := by omega
      rw [hp] at P1
      clear hdd hg ha hp hal hb hd hbl2 hr
      go_wp2
      go_region_held3 (fun _ => True) (trivial) (first
        | (go_at_call 28; (with_reducible refine (KA.out _ ?_).mono ?_); (focus ((repeat (first | (with_reducible exact Below.refl _ _) | (with_reducible assumption) | (with_reducible exact bel_box _) | (with_reducible refine bel_step ?_ (by with_reducible assumption)) | (with_reducible refine Below.drew ?_) | (with_reducible refine below_drewN ?_ _) | (with_reducible refine bel_alloc ?_ _))); done)); rintro e w1 ⟨rfl, hq1, hz1, hb1⟩)
        | (go_at_call 27; (with_reducible refine (S1.out _ _ ?_ ?_).mono ?_); (focus (assumption; done)); (focus (assumption; done)); rintro e w2 ⟨rfl, hb2⟩))
      go_wp2_with (first
        | (go_at_call 29; refine (P1.out _).mono ?_; rintro e w3 ⟨rfl, rfl⟩)
        | (go_at_call 27; (with_reducible refine (S2.out _).mono ?_); rintro e w4 ⟨rfl, hb4⟩))
      go_roundw
      case rel => exact ⟨r, hr2, by go_num, hend, (by repeat (first | (with_reducible exact Below.refl _ _) | (with_reducible assumption) | (with_reducible exact bel_box _) | (with_reducible refine bel_step ?_ (by with_reducible assumption)) | (with_reducible refine Below.drew ?_) | (with_reducible refine below_drewN ?_ _) | (with_reducible refine bel_alloc ?_ _)))⟩
      case measure => simp [intOf]; omega
end Go.Proofs.YtbnddbhfnpdjeaaDoor
