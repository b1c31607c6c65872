/- Parse of the program. -/
import Derived.Test.YtlpigdekjkpnpaaDoorDc
namespace Go.Proofs.YtlpigdekjkpnpaaDoor
set_option linter.unusedVariables false
set_option linter.unusedSimpArgs false
open Go.RowKit
def sa (x : List UInt8) : ByteArray := ⟨x.toArray⟩
theorem sa_list (x : List UInt8) : (sa x).data.toList = x := by simp [sa]
theorem sa_size (x : List UInt8) : (sa x).size = x.length := by rw [← len_toList, sa_list]
def CutK (s : ByteArray) (c : UInt8) (x y : List UInt8) (o : Bool) : Prop := ∀ W, Calls Tryd.prog 21 #[.string s, .string ⟨#[c]⟩] W (fun e w' => e = .returned (.tuple #[.string ⟨x.toArray⟩, .string ⟨y.toArray⟩, .bool o]) ∧ Below W.heap.size W w')
theorem isd_k (x : List UInt8) (b : Bool) (hx : x.length ≤ 66) (hb : x.all isD = b) : ∀ W, Calls Tryd.prog 22 #[.string ⟨x.toArray⟩] W (Bel (.bool b) W) := fun W => by
  have h := isdig_any (sa x) W (by rw [sa_size]; omega)
  rw [sa_list, hb] at h
  exact h
theorem read_n {P : Program} {f : FuncId} {a : List Value} {l : List Bool} {w : World} (h : Calls P f a.toArray w (NewOwn l w)) :
    Calls P f a.toArray w (fun e w' => ∃ V cv, e = .returned (.slice V l.length cv) ∧ Rd w' w'.heap.size V (bls l) ∧ l.length ≤ cv ∧ Nw w.heap.size V (bls l) ∧ Below w.heap.size w w') := by
  refine h.mono ?_
  rintro e w' ⟨V, cv, rfl, hown, hb⟩
  exact ⟨V, cv, rfl, Rd.of_own hown, own_cap hown, own_new hown, hb⟩
theorem read_k (x : List UInt8) (hx : x.length ≤ 66) : ∀ W, Calls Tryd.prog 23 #[.string ⟨x.toArray⟩] W (fun e w' => ∃ V cv, e = .returned (.slice V (lts (sa x)).length cv) ∧ Rd w' w'.heap.size V (bls (lts (sa x))) ∧ (lts (sa x)).length ≤ cv ∧ Nw W.heap.size V (bls (lts (sa x))) ∧ Below W.heap.size W w') := fun W =>
  read_n (a := [.string ⟨x.toArray⟩]) (read_any (sa x) W (by rw [sa_size]; omega))
theorem resb {w W : World} {t : TypeId} (h : Below (w.alloc (.cells #[.slice none 0 0, .slice none 0 0] t)).heap.size (w.alloc (.cells #[.slice none 0 0, .slice none 0 0] t)) W) :
    W.cell? ⟨w.heap.size, 0, none⟩ = some (.slice none 0 0) ∧ W.cell? ⟨w.heap.size, 1, none⟩ = some (.slice none 0 0) ∧ W.frozen? ⟨w.heap.size, 0, none⟩ = false ∧ W.frozen? ⟨w.heap.size, 1, none⟩ = false ∧ w.heap.size < W.heap.size := by
  obtain ⟨hc, hf, hz⟩ := bcell h
  rw [hc _ _ (by simp), hc _ _ (by simp), hf _ _ (by simp), hf _ _ (by simp)]
  simp at hz
  refine ⟨?_, ?_, ?_, ?_, by omega⟩ <;> simp [go_sem]
set_option maxHeartbeats 1000000 in
theorem parse_bad (s : ByteArray) (w : World) (x y u v : List UInt8) (o p : Bool) (hs : s.size ≤ 66) (hx : x.length ≤ 66) (hu : u.length ≤ 66) (K1 : Hid (CutK s 40 x y o)) (K2 : Hid (CutK (sa y) 41 u v p))
    (hbad : ¬ (o = true ∧ p = true ∧ v = [] ∧ x.all isD = true ∧ u.all isD = true ∧ ck (lts (sa x)) (lts (sa u)) = 0)) :
    Calls Tryd.prog 9 #[.string s] w (NewWX [] [] 5 w) := by
  obtain ⟨b, hb⟩ : ∃ b, x.all isD = b := ⟨_, rfl⟩
  obtain ⟨b', hb'⟩ : ∃ b, u.all isD = b := ⟨_, rfl⟩
  have D1 := Lib.hid (isd_k x b hx hb)
  have D2 := Lib.hid (isd_k u b' hu hb')
  rw [hb, hb'] at hbad
  have R1 := Lib.hid (read_k x hx)
  have R2 := Lib.hid (read_k u hu)
  have HL1 : (lts (sa x)).length ≤ 66 := by rw [lts_length, sa_size]; exact hx
  have HL2 : (lts (sa u)).length ≤ 66 := by rw [lts_length, sa_size]; exact hu
  generalize lts (sa x) = h at *
  generalize lts (sa u) = l at *
  clear hb hb'
  cases o
  · clear hbad hx hu
    go_enter Tryd.func9, Tryd.ntmps9
    go_wp2_with (first | (go_at_call_of 21 (Value.string s); refine (K1.out _).mono ?_; rintro e w1 ⟨rfl, hb1⟩) | (go_at_call 21; refine (K2.out _).mono ?_; rintro e w2 ⟨rfl, hb2⟩; obtain ⟨qa2, qb2, qc2, qd2, qe2⟩ := resb (w := w) (W := w2) (t := 24) (by repeat (first | (with_reducible exact Below.refl _ _) | (with_reducible assumption) | (with_reducible exact bel_box _) | (with_reducible refine bel_step ?_ (by with_reducible assumption)) | (with_reducible refine Below.drew ?_) | (with_reducible refine below_drewN ?_ _) | (with_reducible refine bel_alloc ?_ _)))))
    obtain ⟨k0, k1⟩ := set2_cells qa2 qb2 (.slice none 0 0) (.slice none 0 0)
    refine bodyPost_ret (v := .tuple #[.agg #[.slice none 0 0, .slice none 0 0], .int .i64 5]) (by simp [results, Tryd.results9, go_sem, k0, k1]) rfl ?_
    exact ⟨none, none, 0, 0, rfl, Rd.nil _ _ _, Rd.nil _ _ _, Nat.zero_le _, Nat.zero_le _, bel_set2 (by repeat (first | (with_reducible exact Below.refl _ _) | (with_reducible assumption) | (with_reducible exact bel_box _) | (with_reducible refine bel_step ?_ (by with_reducible assumption)) | (with_reducible refine Below.drew ?_) | (with_reducible refine below_drewN ?_ _) | (with_reducible refine bel_alloc ?_ _))) (Nat.le_refl _) _ _, Nw.nil _ _, Nw.nil _ _⟩
  · cases p
    · clear hbad hx hu
      go_enter Tryd.func9, Tryd.ntmps9
      go_wp2_with (first | (go_at_call_of 21 (Value.string s); refine (K1.out _).mono ?_; rintro e w1 ⟨rfl, hb1⟩) | (go_at_call 21; refine (K2.out _).mono ?_; rintro e w2 ⟨rfl, hb2⟩; obtain ⟨qa2, qb2, qc2, qd2, qe2⟩ := resb (w := w) (W := w2) (t := 24) (by repeat (first | (with_reducible exact Below.refl _ _) | (with_reducible assumption) | (with_reducible exact bel_box _) | (with_reducible refine bel_step ?_ (by with_reducible assumption)) | (with_reducible refine Below.drew ?_) | (with_reducible refine below_drewN ?_ _) | (with_reducible refine bel_alloc ?_ _)))))
      obtain ⟨k0, k1⟩ := set2_cells qa2 qb2 (.slice none 0 0) (.slice none 0 0)
      refine bodyPost_ret (v := .tuple #[.agg #[.slice none 0 0, .slice none 0 0], .int .i64 5]) (by simp [results, Tryd.results9, go_sem, k0, k1]) rfl ?_
      exact ⟨none, none, 0, 0, rfl, Rd.nil _ _ _, Rd.nil _ _ _, Nat.zero_le _, Nat.zero_le _, bel_set2 (by repeat (first | (with_reducible exact Below.refl _ _) | (with_reducible assumption) | (with_reducible exact bel_box _) | (with_reducible refine bel_step ?_ (by with_reducible assumption)) | (with_reducible refine Below.drew ?_) | (with_reducible refine below_drewN ?_ _) | (with_reducible refine bel_alloc ?_ _))) (Nat.le_refl _) _ _, Nw.nil _ _, Nw.nil _ _⟩
    · by_cases hv : v = []
      · subst hv
        cases b
        · clear hbad hx hu
          go_enter Tryd.func9, Tryd.ntmps9
          go_wp2_with (first | (go_at_call_of 21 (Value.string s); refine (K1.out _).mono ?_; rintro e w1 ⟨rfl, hb1⟩) | (go_at_call 21; refine (K2.out _).mono ?_; rintro e w2 ⟨rfl, hb2⟩) | (go_at_call_of 22 (Value.string ⟨x.toArray⟩); refine (D1.out _).mono ?_; rintro e w3 ⟨rfl, hb3⟩; obtain ⟨qa3, qb3, qc3, qd3, qe3⟩ := resb (w := w) (W := w3) (t := 24) (by repeat (first | (with_reducible exact Below.refl _ _) | (with_reducible assumption) | (with_reducible exact bel_box _) | (with_reducible refine bel_step ?_ (by with_reducible assumption)) | (with_reducible refine Below.drew ?_) | (with_reducible refine below_drewN ?_ _) | (with_reducible refine bel_alloc ?_ _)))))
          obtain ⟨k0, k1⟩ := set2_cells qa3 qb3 (.slice none 0 0) (.slice none 0 0)
          refine bodyPost_ret (v := .tuple #[.agg #[.slice none 0 0, .slice none 0 0], .int .i64 5]) (by simp [results, Tryd.results9, go_sem, k0, k1]) rfl ?_
          exact ⟨none, none, 0, 0, rfl, Rd.nil _ _ _, Rd.nil _ _ _, Nat.zero_le _, Nat.zero_le _, bel_set2 (by repeat (first | (with_reducible exact Below.refl _ _) | (with_reducible assumption) | (with_reducible exact bel_box _) | (with_reducible refine bel_step ?_ (by with_reducible assumption)) | (with_reducible refine Below.drew ?_) | (with_reducible refine below_drewN ?_ _) | (with_reducible refine bel_alloc ?_ _))) (Nat.le_refl _) _ _, Nw.nil _ _, Nw.nil _ _⟩
        · cases b'
          · clear hbad hx hu
            go_enter Tryd.func9, Tryd.ntmps9
            go_wp2_with (first | (go_at_call_of 21 (Value.string s); refine (K1.out _).mono ?_; rintro e w1 ⟨rfl, hb1⟩) | (go_at_call 21; refine (K2.out _).mono ?_; rintro e w2 ⟨rfl, hb2⟩) | (go_at_call_of 22 (Value.string ⟨x.toArray⟩); refine (D1.out _).mono ?_; rintro e w3 ⟨rfl, hb3⟩) | (go_at_call 22; refine (D2.out _).mono ?_; rintro e w4 ⟨rfl, hb4⟩; obtain ⟨qa4, qb4, qc4, qd4, qe4⟩ := resb (w := w) (W := w4) (t := 24) (by repeat (first | (with_reducible exact Below.refl _ _) | (with_reducible assumption) | (with_reducible exact bel_box _) | (with_reducible refine bel_step ?_ (by with_reducible assumption)) | (with_reducible refine Below.drew ?_) | (with_reducible refine below_drewN ?_ _) | (with_reducible refine bel_alloc ?_ _)))))
            obtain ⟨k0, k1⟩ := set2_cells qa4 qb4 (.slice none 0 0) (.slice none 0 0)
            refine bodyPost_ret (v := .tuple #[.agg #[.slice none 0 0, .slice none 0 0], .int .i64 5]) (by simp [results, Tryd.results9, go_sem, k0, k1]) rfl ?_
            exact ⟨none, none, 0, 0, rfl, Rd.nil _ _ _, Rd.nil _ _ _, Nat.zero_le _, Nat.zero_le _, bel_set2 (by repeat (first | (with_reducible exact Below.refl _ _) | (with_reducible assumption) | (with_reducible exact bel_box _) | (with_reducible refine bel_step ?_ (by with_reducible assumption)) | (with_reducible refine Below.drew ?_) | (with_reducible refine below_drewN ?_ _) | (with_reducible refine bel_alloc ?_ _))) (Nat.le_refl _) _ _, Nw.nil _ _, Nw.nil _ _⟩
          · have hck : ¬ ck h l = 0 := fun e => hbad ⟨rfl, rfl, rfl, rfl, rfl, e⟩
            have hd1 := ck_bad hck
            clear hbad hx hu hck
            go_enter Tryd.func9, Tryd.ntmps9
            go_wp2_with (first | (go_at_call_of 21 (Value.string s); refine (K1.out _).mono ?_; rintro e w1 ⟨rfl, hb1⟩) | (go_at_call 21; refine (K2.out _).mono ?_; rintro e w2 ⟨rfl, hb2⟩) | (go_at_call_of 22 (Value.string ⟨x.toArray⟩); refine (D1.out _).mono ?_; rintro e w3 ⟨rfl, hb3⟩) | (go_at_call 22; refine (D2.out _).mono ?_; rintro e w4 ⟨rfl, hb4⟩) | (go_at_call_of 23 (Value.string ⟨x.toArray⟩); refine (R1.out _).mono ?_; rintro e w5 ⟨V1, c1, rfl, hR1, hc1, hN1, hb5⟩; have HR1 := Lib.hid hR1; have HN1 := Lib.hid hN1; clear hR1 hN1) | (go_at_call 23; refine (R2.out _).mono ?_; rintro e w6 ⟨V2, c2, rfl, hR2, hc2, hN2, hb6⟩; have HR2 := Lib.hid hR2; have HN2 := Lib.hid hN2; clear hR2 hN2) | (go_at_call 17; refine (check_any _ _ _ _ h l _ (by omega) (by omega)).mono ?_; rintro e w7 ⟨rfl, hb7⟩; obtain ⟨qa7, qb7, qc7, qd7, qe7⟩ := resb (w := w) (W := w7) (t := 24) (by repeat (first | (with_reducible exact Below.refl _ _) | (with_reducible assumption) | (with_reducible exact bel_box _) | (with_reducible refine bel_step ?_ (by with_reducible assumption)) | (with_reducible refine Below.drew ?_) | (with_reducible refine below_drewN ?_ _) | (with_reducible refine bel_alloc ?_ _)))))
            obtain ⟨k0, k1⟩ := set2_cells qa7 qb7 (.slice none 0 0) (.slice none 0 0)
            refine bodyPost_ret (v := .tuple #[.agg #[.slice none 0 0, .slice none 0 0], .int .i64 5]) (by simp [results, Tryd.results9, go_sem, k0, k1]) rfl ?_
            exact ⟨none, none, 0, 0, rfl, Rd.nil _ _ _, Rd.nil _ _ _, Nat.zero_le _, Nat.zero_le _, bel_set2 (by repeat (first | (with_reducible exact Below.refl _ _) | (with_reducible assumption) | (with_reducible exact bel_box _) | (with_reducible refine bel_step ?_ (by with_reducible assumption)) | (with_reducible refine Below.drew ?_) | (with_reducible refine below_drewN ?_ _) | (with_reducible refine bel_alloc ?_ _))) (Nat.le_refl _) _ _, Nw.nil _ _, Nw.nil _ _⟩
      · have v1 : v.isEmpty = false := by rcases v with _ | ⟨a, r⟩ <;> simp at hv ⊢
        have v2 : (v == []) = false := by rcases v with _ | ⟨a, r⟩ <;> simp at hv ⊢
        clear hbad hx hu hv
        go_enter Tryd.func9, Tryd.ntmps9
        go_wp2_with (first | (go_at_call_of 21 (Value.string s); refine (K1.out _).mono ?_; rintro e w1 ⟨rfl, hb1⟩) | (go_at_call 21; refine (K2.out _).mono ?_; rintro e w2 ⟨rfl, hb2⟩; obtain ⟨qa2, qb2, qc2, qd2, qe2⟩ := resb (w := w) (W := w2) (t := 24) (by repeat (first | (with_reducible exact Below.refl _ _) | (with_reducible assumption) | (with_reducible exact bel_box _) | (with_reducible refine bel_step ?_ (by with_reducible assumption)) | (with_reducible refine Below.drew ?_) | (with_reducible refine below_drewN ?_ _) | (with_reducible refine bel_alloc ?_ _)))))
        obtain ⟨k0, k1⟩ := set2_cells qa2 qb2 (.slice none 0 0) (.slice none 0 0)
        refine bodyPost_ret (v := .tuple #[.agg #[.slice none 0 0, .slice none 0 0], .int .i64 5]) (by simp [results, Tryd.results9, go_sem, k0, k1]) rfl ?_
        exact ⟨none, none, 0, 0, rfl, Rd.nil _ _ _, Rd.nil _ _ _, Nat.zero_le _, Nat.zero_le _, bel_set2 (by repeat (first | (with_reducible exact Below.refl _ _) | (with_reducible assumption) | (with_reducible exact bel_box _) | (with_reducible refine bel_step ?_ (by with_reducible assumption)) | (with_reducible refine Below.drew ?_) | (with_reducible refine below_drewN ?_ _) | (with_reducible refine bel_alloc ?_ _))) (Nat.le_refl _) _ _, Nw.nil _ _, Nw.nil _ _⟩
set_option maxHeartbeats 1000000 in
theorem parse_good (s : ByteArray) (w : World) (x y u : List UInt8) (hs : s.size ≤ 66) (hx : x.length ≤ 66) (hu : u.length ≤ 66) (K1 : Hid (CutK s 40 x y true)) (K2 : Hid (CutK (sa y) 41 u [] true))
    (hb : x.all isD = true) (hb' : u.all isD = true) (hck : ck (lts (sa x)) (lts (sa u)) = 0) :
    Calls Tryd.prog 9 #[.string s] w (NewWX (lts (sa x)) (lts (sa u)) 0 w) := by
  have D1 := Lib.hid (isd_k x true hx hb)
  have D2 := Lib.hid (isd_k u true hu hb')
  have R1 := Lib.hid (read_k x hx)
  have R2 := Lib.hid (read_k u hu)
  have HL1 : (lts (sa x)).length ≤ 66 := by rw [lts_length, sa_size]; exact hx
  have HL2 : (lts (sa u)).length ≤ 66 := by rw [lts_length, sa_size]; exact hu
  generalize lts (sa x) = h at *
  generalize lts (sa u) = l at *
  have hd1 : (ck h l != 0) = false := by simp [hck]
  clear hb hb' hx hu hck
  go_enter Tryd.func9, Tryd.ntmps9
  go_wp2_with (first | (go_at_call_of 21 (Value.string s); refine (K1.out _).mono ?_; rintro e w1 ⟨rfl, hb1⟩) | (go_at_call 21; refine (K2.out _).mono ?_; rintro e w2 ⟨rfl, hb2⟩) | (go_at_call_of 22 (Value.string ⟨x.toArray⟩); refine (D1.out _).mono ?_; rintro e w3 ⟨rfl, hb3⟩) | (go_at_call 22; refine (D2.out _).mono ?_; rintro e w4 ⟨rfl, hb4⟩) | (go_at_call_of 23 (Value.string ⟨x.toArray⟩); refine (R1.out _).mono ?_; rintro e w5 ⟨V1, c1, rfl, hR1, hc1, hN1, hb5⟩; have HR1 := Lib.hid hR1; have HN1 := Lib.hid hN1; clear hR1 hN1) | (go_at_call 23; refine (R2.out _).mono ?_; rintro e w6 ⟨V2, c2, rfl, hR2, hc2, hN2, hb6⟩; have HR2 := Lib.hid hR2; have HN2 := Lib.hid hN2; clear hR2 hN2) | (go_at_call 17; refine (check_any _ _ _ _ h l _ (by omega) (by omega)).mono ?_; rintro e w7 ⟨rfl, hb7⟩; obtain ⟨qa7, qb7, qc7, qd7, qe7⟩ := resb (w := w) (W := w7) (t := 24) (by repeat (first | (with_reducible exact Below.refl _ _) | (with_reducible assumption) | (with_reducible exact bel_box _) | (with_reducible refine bel_step ?_ (by with_reducible assumption)) | (with_reducible refine Below.drew ?_) | (with_reducible refine below_drewN ?_ _) | (with_reducible refine bel_alloc ?_ _))); obtain ⟨b0, b1⟩ := box2 (w := w6) (x := .slice V1 h.length c1) (y := .slice V2 l.length c2) (t := 24) (W := w7) (by repeat (first | (with_reducible exact Below.refl _ _) | (with_reducible assumption) | (with_reducible exact bel_box _) | (with_reducible refine bel_step ?_ (by with_reducible assumption)) | (with_reducible refine Below.drew ?_) | (with_reducible refine below_drewN ?_ _) | (with_reducible refine bel_alloc ?_ _)))))
  obtain ⟨k0, k1⟩ := set2_cells qa7 qb7 (.slice V1 h.length c1) (.slice V2 l.length c2)
  refine bodyPost_ret (v := .tuple #[.agg #[.slice V1 h.length c1, .slice V2 l.length c2], .int .i64 0]) (by simp [results, Tryd.results9, go_sem, k0, k1]) rfl ?_
  have z1 := hb5.size
  have z2 : w.heap.size < w4.heap.size := by
    have := Below.size (B := (w.alloc (.cells #[.slice none 0 0, .slice none 0 0] 24)).heap.size) (w := (w.alloc (.cells #[.slice none 0 0, .slice none 0 0] 24))) (w' := w4) (by repeat (first | (with_reducible exact Below.refl _ _) | (with_reducible assumption) | (with_reducible exact bel_box _) | (with_reducible refine bel_step ?_ (by with_reducible assumption)) | (with_reducible refine Below.drew ?_) | (with_reducible refine below_drewN ?_ _) | (with_reducible refine bel_alloc ?_ _)))
    simp at this
    omega
  exact ⟨V1, V2, c1, c2, rfl, (HR1.out.to (by repeat (first | (with_reducible exact Below.refl _ _) | (with_reducible assumption) | (with_reducible exact bel_box _) | (with_reducible refine bel_step ?_ (by with_reducible assumption)) | (with_reducible refine Below.drew ?_) | (with_reducible refine below_drewN ?_ _) | (with_reducible refine bel_alloc ?_ _)))).set2_lo (HN1.out.mono (Nat.succ_le_of_lt z2)) (Nat.lt_succ_self _) _ _, (HR2.out.to (by repeat (first | (with_reducible exact Below.refl _ _) | (with_reducible assumption) | (with_reducible exact bel_box _) | (with_reducible refine bel_step ?_ (by with_reducible assumption)) | (with_reducible refine Below.drew ?_) | (with_reducible refine below_drewN ?_ _) | (with_reducible refine bel_alloc ?_ _)))).set2_lo (HN2.out.mono (Nat.succ_le_of_lt (Nat.lt_of_lt_of_le z2 z1))) (Nat.lt_succ_self _) _ _, hc1, hc2, bel_set2 (by repeat (first | (with_reducible exact Below.refl _ _) | (with_reducible assumption) | (with_reducible exact bel_box _) | (with_reducible refine bel_step ?_ (by with_reducible assumption)) | (with_reducible refine Below.drew ?_) | (with_reducible refine below_drewN ?_ _) | (with_reducible refine bel_alloc ?_ _))) (Nat.le_refl _) _ _, HN1.out.mono (Nat.le_of_lt z2), HN2.out.mono (Nat.le_of_lt (Nat.lt_of_lt_of_le z2 z1))⟩
end Go.Proofs.YtlpigdekjkpnpaaDoor
