/- Texts of one chain, in one file. -/
import Derived.Test.YtfogkcccjemloaaGreatDoorQ4
/- lives: the walk. -/
namespace Go.Proofs.YtfogkcccjemloaaGreatDoor
set_option linter.unusedVariables false
set_option linter.unusedSimpArgs false
open Go.RowKit
def chkF (k op t v : Int) (n : Nat) (nm : ByteArray) (q : Bool) : Int := if 64 < n then 3 else if (formedP k op t v n q && onlyP k op t v (nm.data.toList == [])) = false then 5 else if (hasIdn k && !idP nm) = true then 6 else 0
theorem chk1_F (wok : ByteArray → Bool) (x : Xt) : chk1 wok x = chkF x.k x.op x.t x.v x.ar.length x.nm (wok x.nm) := by
  rw [chk1, chkF, ByteArray.toList_eq]
theorem f_if3 (q : Bool) : chkF 4 0 0 0 3 ⟨#[]⟩ q = 0 := by cases q <;> decide +kernel
theorem f_if2 (q : Bool) : chkF 4 0 0 0 2 ⟨#[]⟩ q = 5 := by cases q <;> decide +kernel
theorem f_fby (q : Bool) : chkF 7 0 0 0 2 ⟨#[]⟩ q = 0 := by cases q <;> decide +kernel
theorem f_c (q : Bool) : chkF 2 0 0 0 0 ⟨#[99]⟩ q = 0 := by cases q <;> decide +kernel
theorem f_x (q : Bool) : chkF 2 0 0 0 0 ⟨#[120]⟩ q = 0 := by cases q <;> decide +kernel
theorem f_k (q : Bool) : chkF 1 0 2 0 0 ⟨#[]⟩ q = 0 := by cases q <;> decide +kernel
theorem f_n (q : Bool) : chkF 2 0 0 0 0 ⟨#[105, 102]⟩ q = 6 := by cases q <;> decide +kernel
theorem chk_ex (wok : ByteArray → Bool) (b : Nat) : chkAll wok (exX b) = 0 := by
  rw [chkAll, if_neg (by rw [ex_size, ex_depth]; omega), ex_list]
  have h1 : chk1 wok (exX b) = 0 := (chk1_F _ _).trans (f_if3 _)
  have h2 : chk1 wok (fbyX b) = 0 := (chk1_F _ _).trans (f_fby _)
  have h3 : chk1 wok vC = 0 := (chk1_F _ _).trans (f_c _)
  have h4 : chk1 wok vX = 0 := (chk1_F _ _).trans (f_x _)
  have h5 : chk1 wok k0 = 0 := (chk1_F _ _).trans (f_k _)
  simp only [firstE, h1, h2, h3, h4, h5, if_pos]
theorem chk_vIf (wok : ByteArray → Bool) : chkAll wok vIf = 6 := by
  rw [chkAll, if_neg (by rw [vIf, leaf_size, leaf_depth]; omega), vIf, leaf_list]
  have h' : chk1 wok (.mk 2 0 0 0 ⟨#[105, 102]⟩ none 0 []) = 6 := (chk1_F _ _).trans (f_n _)
  simp only [firstE, h']
  rfl
theorem chk_if2 (wok : ByteArray → Bool) (b c : Nat) : chkAll wok (ifX b c) = 5 := by
  rw [chkAll, if_neg (by rw [← list_length, if_list, if_depth]; show ¬ (400 < 3 ∨ 32 < 2); omega), if_list]
  have h : chk1 wok (ifX b c) = 5 := (chk1_F _ _).trans (f_if2 _)
  simp only [firstE, h]
  rfl
theorem nmok_of {wok : ByteArray → Bool} {w : World} (hs : Std w) (y : Xt) (hk : y.k ≠ 11) (hn : y.nm.size ≤ 140737488351232) : NmOk wok w y :=
  ⟨fun h => absurd h hk, fun _ => Lib.hid fun W hb => ident_any y.nm W (hs.to hb) hn⟩
theorem rdn_lit (W : World) (x y : ByteArray) (t : TypeId) : RdN (W.alloc (.cells #[.string x, .string y] t)) (W.alloc (.cells #[.string x, .string y] t)).heap.size (some ⟨W.heap.size, 0, none⟩) [x, y] := fun _ => ⟨_, rfl, by rw [World.size_alloc]; exact Nat.lt_succ_self _, fun i z hz => by
  rcases i with _ | _ | i
  · obtain rfl : x = z := Option.some.inj hz
    rw [show (Addr.add ⟨W.heap.size, 0, none⟩ 0) = ⟨W.heap.size, 0, none⟩ from rfl]
    simp [go_sem]
  · obtain rfl : y = z := Option.some.inj hz
    simp [go_sem, Addr.add]
  · cases hz⟩
theorem sameN_refl (l : List ByteArray) : sameN l l = true := by rw [sameN]; exact beq_self_eq_true _
abbrev exL (b : Nat) : Value := .agg #[.int .i64 4, .int .i64 0, .int .i64 0, .int .i64 0, .string ⟨#[]⟩, .slice (some ⟨b + 1, 0, none⟩) 3 3]
abbrev fbL (b : Nat) : Value := .agg #[.int .i64 7, .int .i64 0, .int .i64 0, .int .i64 0, .string ⟨#[]⟩, .slice (some ⟨b, 0, none⟩) 2 2]
set_option maxHeartbeats 2000000 in
set_option maxRecDepth 20000 in
theorem lives_any (w : World) (hs : Std w) : Calls Tryz.prog 11 #[] w (Bel (.bool true) w) := by
  have KE : Hid (∀ W, Calls Tryz.prog 38 #[] W (fun e w' => e = .returned (exL (W.heap.size + 3)) ∧ RdX w' w'.heap.size (exX (W.heap.size + 3)) ∧ Below W.heap.size W w' ∧ w'.heap.size = W.heap.size + 5)) := Lib.hid fun W => example_any W
  have HS := Lib.hid hs
  clear hs
  go_enter Tryz.func11, Tryz.ntmps11
  go_wp2_with (go_at_call 38; refine (KE.out _).mono ?_; rintro e w1 ⟨rfl, hR, hb1, hz1⟩)
  obtain ⟨b, hb⟩ : ∃ b, w.heap.size + 3 = b := ⟨_, rfl⟩
  have hs1 := HS.out.to hb1
  rw [hb] at hR ⊢
  have hz2 : w1.heap.size = b + 2 := by omega
  have hbb : w.heap.size + 5 = b + 2 := by omega
  rw [hbb]
  obtain ⟨W1, hW1⟩ : ∃ W1, w1.alloc (.cells #[.int .i64 4, .int .i64 0, .int .i64 0, .int .i64 0, .string ⟨#[]⟩, .slice (some ⟨b + 1, 0, none⟩) 3 3] 24) = W1 := ⟨_, rfl⟩
  have hW : Below w1.heap.size w1 W1 := by rw [← hW1]; exact bel_box _
  have BX : Hid (∀ W, Below W1.heap.size W1 W → W.cell? ⟨b + 2, 0, none⟩ = some (.int .i64 4) ∧ W.cell? ⟨b + 2, 1, none⟩ = some (.int .i64 0) ∧ W.cell? ⟨b + 2, 2, none⟩ = some (.int .i64 0) ∧ W.cell? ⟨b + 2, 3, none⟩ = some (.int .i64 0) ∧ W.cell? ⟨b + 2, 4, none⟩ = some (.string ⟨#[]⟩) ∧ W.cell? ⟨b + 2, 5, none⟩ = some (.slice (some ⟨b + 1, 0, none⟩) 3 3)) := Lib.hid fun W h => by
    rw [← hW1] at h
    have := bxW_cells (w := w1) (x := exX b) h
    rw [hz2] at this
    exact ⟨this.1, this.2.1, this.2.2.1, this.2.2.2.1, this.2.2.2.2.1, this.2.2.2.2.2.1⟩
  have FX : Hid (∀ W, Below W1.heap.size W1 W → W.cell? ⟨b + 1, 12, none⟩ = some (.int .i64 7) ∧ W.cell? ⟨b + 1, 13, none⟩ = some (.int .i64 0) ∧ W.cell? ⟨b + 1, 14, none⟩ = some (.int .i64 0) ∧ W.cell? ⟨b + 1, 15, none⟩ = some (.int .i64 0) ∧ W.cell? ⟨b + 1, 16, none⟩ = some (.string ⟨#[]⟩) ∧ W.cell? ⟨b + 1, 17, none⟩ = some (.slice (some ⟨b, 0, none⟩) 2 2)) := Lib.hid fun W h => by
    have h2 := hR.to (hW.trans (h.mono hW.size))
    obtain ⟨ad, y, hA, _, hy, _, hc, _⟩ := h2.at_ (i := 2) (show 2 < 3 by decide)
    obtain rfl := Option.some.inj hA
    obtain rfl : fbyX b = y := Option.some.inj hy
    exact hc
  have up : ∀ {W}, Below W1.heap.size W1 W → Below w1.heap.size w1 W := fun h => hW.trans (h.mono hW.size)
  have K1 : Hid (∀ W, Below W1.heap.size W1 W → Calls Tryz.prog 12 #[exL b] W (Bel (.int .i64 0) W)) := Lib.hid fun W h => by
    have := check_any (fun _ => false) (exX b) W (hR.to (up h)) (fun y hy => by
      rw [ex_list] at hy
      refine nmok_of (hs1.to (up h)) y ?_ ?_
      · rcases List.mem_cons.1 hy with rfl | hy
        · show (4 : Int) ≠ 11; decide
        · simp only [List.mem_cons, List.not_mem_nil, or_false] at hy
          rcases hy with rfl | rfl | rfl | rfl | rfl <;> first | decide | (show (7 : Int) ≠ 11; decide) | exact Nat.zero_le _
      · rcases List.mem_cons.1 hy with rfl | hy
        · exact Nat.zero_le _
        · simp only [List.mem_cons, List.not_mem_nil, or_false] at hy
          rcases hy with rfl | rfl | rfl | rfl | rfl <;> first | decide | (show (7 : Int) ≠ 11; decide) | exact Nat.zero_le _)
    rwa [chk_ex] at this
  have K2 : Hid (∀ W, Below W1.heap.size W1 W → Calls Tryz.prog 14 #[exL b] W (Bel (.int .i64 6) W)) := Lib.hid fun W h => by
    have := size_any (exX b) W (hR.to (up h)) (by rw [ex_size]; omega)
    rwa [ex_size] at this
  have K3 : Hid (∀ W, Below W1.heap.size W1 W → Calls Tryz.prog 16 #[exL b] W (Bel (.int .i64 3) W)) := Lib.hid fun W h => by
    have := depth_any (exX b) W (hR.to (up h)) (by rw [ex_size]; omega)
    rwa [ex_depth] at this
  have K4 : Hid (∀ W, Below W1.heap.size W1 W → Calls Tryz.prog 18 #[exL b, .int .i64 2] W (Bel (.int .i64 3) W)) := Lib.hid fun W h => by
    have := count_any (exX b) 2 W (hR.to (up h)) (by rw [ex_size]; omega)
    rwa [ex_count] at this
  have K5 : Hid (∀ W, Below W1.heap.size W1 W → Calls Tryz.prog 22 #[exL b] W (NewN [⟨#[99]⟩, ⟨#[120]⟩] W)) := Lib.hid fun W h => by
    have := names_any (exX b) W (hR.to (up h)) (by rw [ex_size]; omega)
    rwa [ex_names] at this
  have K6 : Hid (∀ W, Below W1.heap.size W1 W → Calls Tryz.prog 23 #[fbL b] W (NewN [] W)) := Lib.hid fun W h => by
    have hk := (hR.to (up h)).kid (y := fbyX b) (by show fbyX b ∈ [vC, vX, fbyX b]; simp)
    have := instants_any (fbyX b) W hk (by rw [fby_size]; omega)
    rwa [fby_inst] at this
  have K7 : Hid (∀ W, Below W1.heap.size W1 W → Calls Tryz.prog 20 #[exL b] W (Bel (.bool false) W)) := Lib.hid fun W h => by
    have := stateless_any (exX b) W (hR.to (up h)) (by rw [ex_size]; omega)
    rwa [ex_state] at this
  have K8 : Hid (∀ W, Below W1.heap.size W1 W → Calls Tryz.prog 12 #[.agg #[.int .i64 2, .int .i64 0, .int .i64 0, .int .i64 0, .string ⟨#[105, 102]⟩, .slice none 0 0]] W (Bel (.int .i64 6) W)) := Lib.hid fun W h => by
    have := check_any (fun _ => false) vIf W (RdX.leaf _ _ _ _ _ (by show 2 ≤ maxLen; unfold maxLen; omega)) (fun y hy => by
      rw [vIf, leaf_list] at hy
      obtain rfl := List.mem_singleton.1 hy
      exact nmok_of (hs1.to (up h)) _ (by decide) (by decide))
    rwa [chk_vIf] at this
  have K9 : Hid (∀ W, Below W1.heap.size W1 W → Calls Tryz.prog 12 #[.agg #[.int .i64 4, .int .i64 0, .int .i64 0, .int .i64 0, .string ⟨#[]⟩, .slice (some ⟨b + 1, 0, none⟩) 2 3]] W (Bel (.int .i64 5) W)) := Lib.hid fun W h => by
    have hX : RdX W W.heap.size (ifX b 3) := by
      have h2 := hR.to (up h)
      cases h2 with
      | mk x h0 h1 h2 h3 =>
        refine .mk _ (fun _ => h0 (List.cons_ne_nil _ _)) (fun ad i y hA hy => ?_) (fun y hy => h2 y ?_) ⟨⟨by show 2 ≤ maxLen; unfold maxLen; omega, nm0⟩, by show 2 ≤ 3; decide⟩
        · refine h1 ad i y hA ?_
          rcases i with _ | _ | i
          · exact hy
          · exact hy
          · cases hy
        · rcases List.mem_cons.1 (show y ∈ [vC, vX] from hy) with rfl | hy
          · show vC ∈ [vC, vX, fbyX b]; simp
          · obtain rfl := List.mem_singleton.1 hy
            show vX ∈ [vC, vX, fbyX b]; simp
    have := check_any (fun _ => false) (ifX b 3) W hX (fun y hy => by
      rw [if_list] at hy
      refine nmok_of (hs1.to (up h)) y ?_ ?_
      · rcases List.mem_cons.1 hy with rfl | hy
        · show (4 : Int) ≠ 11; decide
        · simp only [List.mem_cons, List.not_mem_nil, or_false] at hy
          rcases hy with rfl | rfl <;> decide
      · rcases List.mem_cons.1 hy with rfl | hy
        · exact Nat.zero_le _
        · simp only [List.mem_cons, List.not_mem_nil, or_false] at hy
          rcases hy with rfl | rfl <;> decide)
    rwa [chk_if2] at this
  have S1 : Hid (∀ (A A' : Option Addr) (c : Nat) W, RdN W W.heap.size A [⟨#[99]⟩, ⟨#[120]⟩] → RdN W W.heap.size A' [⟨#[99]⟩, ⟨#[120]⟩] → Calls Tryz.prog 25 #[.slice A 2 c, .slice A' 2 2] W (Bel (.bool true) W)) := Lib.hid fun A A' c W h h' => by
    have := rsame_any A A' c 2 [⟨#[99]⟩, ⟨#[120]⟩] [⟨#[99]⟩, ⟨#[120]⟩] W h h' (by decide) (by decide)
    rwa [sameN_refl] at this
  have S2 : Hid (∀ (A : Option Addr) (c : Nat) W, Calls Tryz.prog 25 #[.slice A 0 c, .slice none 0 0] W (Bel (.bool true) W)) := Lib.hid fun A c W =>
    rsame_any A none c 0 [] [] W (fun h => absurd rfl h) (fun h => absurd rfl h) (by decide) (by decide)
  have HB : Hid (Below w.heap.size w W1) := Lib.hid (hb1.trans (hW.mono hb1.size))
  obtain ⟨a0, a1, a2, a3, a4, a5⟩ := BX.out W1 (Below.refl _ _)
  have HW1 := Lib.hid hW1
  rw [hW1]
  clear hW1 hW up hR hb1 hz1 hz2 hbb hs1 hb KE HS
  go_wp2_with (first
    | (go_at_call 12; (with_reducible refine (K1.out _ ?_).mono ?_); (focus ((repeat (first | (with_reducible exact Below.refl _ _) | (with_reducible assumption) | (with_reducible exact bel_box _) | (with_reducible refine bel_step ?_ (by with_reducible assumption)) | (with_reducible refine Below.drew ?_) | (with_reducible refine below_drewN ?_ _) | (with_reducible refine bel_alloc ?_ _))); done)); rintro e w2 ⟨rfl, hb2⟩; obtain ⟨a0, a1, a2, a3, a4, a5⟩ := BX.out w2 (by repeat (first | (with_reducible exact Below.refl _ _) | (with_reducible assumption) | (with_reducible exact bel_box _) | (with_reducible refine bel_step ?_ (by with_reducible assumption)) | (with_reducible refine Below.drew ?_) | (with_reducible refine below_drewN ?_ _) | (with_reducible refine bel_alloc ?_ _))))
    | (go_at_call 14; (with_reducible refine (K2.out _ ?_).mono ?_); (focus ((repeat (first | (with_reducible exact Below.refl _ _) | (with_reducible assumption) | (with_reducible exact bel_box _) | (with_reducible refine bel_step ?_ (by with_reducible assumption)) | (with_reducible refine Below.drew ?_) | (with_reducible refine below_drewN ?_ _) | (with_reducible refine bel_alloc ?_ _))); done)); rintro e w3 ⟨rfl, hb3⟩; obtain ⟨a0, a1, a2, a3, a4, a5⟩ := BX.out w3 (by repeat (first | (with_reducible exact Below.refl _ _) | (with_reducible assumption) | (with_reducible exact bel_box _) | (with_reducible refine bel_step ?_ (by with_reducible assumption)) | (with_reducible refine Below.drew ?_) | (with_reducible refine below_drewN ?_ _) | (with_reducible refine bel_alloc ?_ _))))
    | (go_at_call 16; (with_reducible refine (K3.out _ ?_).mono ?_); (focus ((repeat (first | (with_reducible exact Below.refl _ _) | (with_reducible assumption) | (with_reducible exact bel_box _) | (with_reducible refine bel_step ?_ (by with_reducible assumption)) | (with_reducible refine Below.drew ?_) | (with_reducible refine below_drewN ?_ _) | (with_reducible refine bel_alloc ?_ _))); done)); rintro e w4 ⟨rfl, hb4⟩; obtain ⟨a0, a1, a2, a3, a4, a5⟩ := BX.out w4 (by repeat (first | (with_reducible exact Below.refl _ _) | (with_reducible assumption) | (with_reducible exact bel_box _) | (with_reducible refine bel_step ?_ (by with_reducible assumption)) | (with_reducible refine Below.drew ?_) | (with_reducible refine below_drewN ?_ _) | (with_reducible refine bel_alloc ?_ _))))
    | (go_at_call 18; (with_reducible refine (K4.out _ ?_).mono ?_); (focus ((repeat (first | (with_reducible exact Below.refl _ _) | (with_reducible assumption) | (with_reducible exact bel_box _) | (with_reducible refine bel_step ?_ (by with_reducible assumption)) | (with_reducible refine Below.drew ?_) | (with_reducible refine below_drewN ?_ _) | (with_reducible refine bel_alloc ?_ _))); done)); rintro e w5 ⟨rfl, hb5⟩; obtain ⟨a0, a1, a2, a3, a4, a5⟩ := BX.out w5 (by repeat (first | (with_reducible exact Below.refl _ _) | (with_reducible assumption) | (with_reducible exact bel_box _) | (with_reducible refine bel_step ?_ (by with_reducible assumption)) | (with_reducible refine Below.drew ?_) | (with_reducible refine below_drewN ?_ _) | (with_reducible refine bel_alloc ?_ _))))
    | (go_at_call 22; (with_reducible refine (K5.out _ ?_).mono ?_); (focus ((repeat (first | (with_reducible exact Below.refl _ _) | (with_reducible assumption) | (with_reducible exact bel_box _) | (with_reducible refine bel_step ?_ (by with_reducible assumption)) | (with_reducible refine Below.drew ?_) | (with_reducible refine below_drewN ?_ _) | (with_reducible refine bel_alloc ?_ _))); done)); rintro e w6 ⟨A6, c6, rfl, hR6, hb6⟩; obtain ⟨a0, a1, a2, a3, a4, a5⟩ := BX.out w6 (by repeat (first | (with_reducible exact Below.refl _ _) | (with_reducible assumption) | (with_reducible exact bel_box _) | (with_reducible refine bel_step ?_ (by with_reducible assumption)) | (with_reducible refine Below.drew ?_) | (with_reducible refine below_drewN ?_ _) | (with_reducible refine bel_alloc ?_ _))))
    | (go_at_call 25; (with_reducible refine (S1.out _ _ _ _ ?_ ?_).mono ?_); (focus (exact hR6.to (by repeat (first | (with_reducible exact Below.refl _ _) | (with_reducible assumption) | (with_reducible exact bel_box _) | (with_reducible refine bel_step ?_ (by with_reducible assumption)) | (with_reducible refine Below.drew ?_) | (with_reducible refine below_drewN ?_ _) | (with_reducible refine bel_alloc ?_ _))); done)); (focus (exact rdn_lit _ _ _ _; done)); rintro e w7 ⟨rfl, hb7⟩; obtain ⟨a0, a1, a2, a3, a4, a5⟩ := BX.out w7 (by repeat (first | (with_reducible exact Below.refl _ _) | (with_reducible assumption) | (with_reducible exact bel_box _) | (with_reducible refine bel_step ?_ (by with_reducible assumption)) | (with_reducible refine Below.drew ?_) | (with_reducible refine below_drewN ?_ _) | (with_reducible refine bel_alloc ?_ _))); obtain ⟨d0, d1, d2, d3, d4, d5⟩ := FX.out w7 (by repeat (first | (with_reducible exact Below.refl _ _) | (with_reducible assumption) | (with_reducible exact bel_box _) | (with_reducible refine bel_step ?_ (by with_reducible assumption)) | (with_reducible refine Below.drew ?_) | (with_reducible refine below_drewN ?_ _) | (with_reducible refine bel_alloc ?_ _))))
    | (go_at_call 23; (with_reducible refine (K6.out _ ?_).mono ?_); (focus ((repeat (first | (with_reducible exact Below.refl _ _) | (with_reducible assumption) | (with_reducible exact bel_box _) | (with_reducible refine bel_step ?_ (by with_reducible assumption)) | (with_reducible refine Below.drew ?_) | (with_reducible refine below_drewN ?_ _) | (with_reducible refine bel_alloc ?_ _))); done)); rintro e w8 ⟨A8, c8, rfl, hR8, hb8⟩; obtain ⟨a0, a1, a2, a3, a4, a5⟩ := BX.out w8 (by repeat (first | (with_reducible exact Below.refl _ _) | (with_reducible assumption) | (with_reducible exact bel_box _) | (with_reducible refine bel_step ?_ (by with_reducible assumption)) | (with_reducible refine Below.drew ?_) | (with_reducible refine below_drewN ?_ _) | (with_reducible refine bel_alloc ?_ _))))
    | (go_at_call 25; (with_reducible refine (S2.out _ _ _).mono ?_); rintro e w9 ⟨rfl, hb9⟩; obtain ⟨a0, a1, a2, a3, a4, a5⟩ := BX.out w9 (by repeat (first | (with_reducible exact Below.refl _ _) | (with_reducible assumption) | (with_reducible exact bel_box _) | (with_reducible refine bel_step ?_ (by with_reducible assumption)) | (with_reducible refine Below.drew ?_) | (with_reducible refine below_drewN ?_ _) | (with_reducible refine bel_alloc ?_ _))))
    | (go_at_call 20; (with_reducible refine (K7.out _ ?_).mono ?_); (focus ((repeat (first | (with_reducible exact Below.refl _ _) | (with_reducible assumption) | (with_reducible exact bel_box _) | (with_reducible refine bel_step ?_ (by with_reducible assumption)) | (with_reducible refine Below.drew ?_) | (with_reducible refine below_drewN ?_ _) | (with_reducible refine bel_alloc ?_ _))); done)); rintro e w10 ⟨rfl, hb10⟩; obtain ⟨a0, a1, a2, a3, a4, a5⟩ := BX.out w10 (by repeat (first | (with_reducible exact Below.refl _ _) | (with_reducible assumption) | (with_reducible exact bel_box _) | (with_reducible refine bel_step ?_ (by with_reducible assumption)) | (with_reducible refine Below.drew ?_) | (with_reducible refine below_drewN ?_ _) | (with_reducible refine bel_alloc ?_ _))))
    | (go_at_call 12; (with_reducible refine (K8.out _ ?_).mono ?_); (focus ((repeat (first | (with_reducible exact Below.refl _ _) | (with_reducible assumption) | (with_reducible exact bel_box _) | (with_reducible refine bel_step ?_ (by with_reducible assumption)) | (with_reducible refine Below.drew ?_) | (with_reducible refine below_drewN ?_ _) | (with_reducible refine bel_alloc ?_ _))); done)); rintro e w11 ⟨rfl, hb11⟩; obtain ⟨a0, a1, a2, a3, a4, a5⟩ := BX.out w11 (by repeat (first | (with_reducible exact Below.refl _ _) | (with_reducible assumption) | (with_reducible exact bel_box _) | (with_reducible refine bel_step ?_ (by with_reducible assumption)) | (with_reducible refine Below.drew ?_) | (with_reducible refine below_drewN ?_ _) | (with_reducible refine bel_alloc ?_ _))))
    | (go_at_call 12; (with_reducible refine (K9.out _ ?_).mono ?_); (focus ((repeat (first | (with_reducible exact Below.refl _ _) | (with_reducible assumption) | (with_reducible exact bel_box _) | (with_reducible refine bel_step ?_ (by with_reducible assumption)) | (with_reducible refine Below.drew ?_) | (with_reducible refine below_drewN ?_ _) | (with_reducible refine bel_alloc ?_ _))); done)); rintro e w12 ⟨rfl, hb12⟩))
  go_ret
  exact ⟨rfl, HB.out.trans (Below.mono (by repeat (first | (with_reducible exact Below.refl _ _) | (with_reducible assumption) | (with_reducible exact bel_box _) | (with_reducible refine bel_step ?_ (by with_reducible assumption)) | (with_reducible refine Below.drew ?_) | (with_reducible refine below_drewN ?_ _) | (with_reducible refine bel_alloc ?_ _))) HB.out.size)⟩
end Go.Proofs.YtfogkcccjemloaaGreatDoor
/- heavy; the walk of ExprCounts. -/
namespace Go.Proofs.YtfogkcccjemloaaGreatDoor
set_option linter.unusedVariables false
set_option linter.unusedSimpArgs false
open Go.RowKit Go.Sort
set_option maxHeartbeats 1000000 in
set_option maxRecDepth 20000 in
theorem heavy_any (x : Xt) (w : World) (hX : RdX w w.heap.size x) : Calls Tryz.prog 10 #[xV x] w (Bel (.bool (decide (500 < x.size))) w) := by
  obtain ⟨m, hm⟩ : ∃ m, min x.size 501 = m := ⟨_, rfl⟩
  have KW : Hid (∀ W, Below w.heap.size w W → Calls Tryz.prog 37 #[xV x, .int .i64 501] W (Bel (.int .i64 (m : Nat)) W)) := Lib.hid fun W h => by
    have := weigh_any x 501 W (hX.to h) (by omega) (by omega)
    rwa [hm] at this
  have hq : decide (500 < x.size) = decide (500 < m) := by rw [← hm, decide_eq_decide]; omega
  rw [hq]
  clear hq hm hX
  simp only [xV] at KW ⊢
  by_cases h : 500 < m
  · rw [decide_eq_true h]
    have u : (500 : Int) < (m : Int) := by omega
    go_enter Tryz.func10, Tryz.ntmps10
    go_wp2_with (go_at_call 37; (with_reducible refine (KW.out _ ?_).mono ?_); (focus ((repeat (first | (with_reducible exact Below.refl _ _) | (with_reducible assumption) | (with_reducible exact bel_box _) | (with_reducible refine bel_step ?_ (by with_reducible assumption)) | (with_reducible refine Below.drew ?_) | (with_reducible refine below_drewN ?_ _) | (with_reducible refine bel_alloc ?_ _))); done)); rintro e w1 ⟨rfl, hb1⟩)
    go_ret
    exact ⟨rfl, (by repeat (first | (with_reducible exact Below.refl _ _) | (with_reducible assumption) | (with_reducible exact bel_box _) | (with_reducible refine bel_step ?_ (by with_reducible assumption)) | (with_reducible refine Below.drew ?_) | (with_reducible refine below_drewN ?_ _) | (with_reducible refine bel_alloc ?_ _)))⟩
  · rw [decide_eq_false h]
    have u : (m : Int) ≤ (500 : Int) := by omega
    go_enter Tryz.func10, Tryz.ntmps10
    go_wp2_with (go_at_call 37; (with_reducible refine (KW.out _ ?_).mono ?_); (focus ((repeat (first | (with_reducible exact Below.refl _ _) | (with_reducible assumption) | (with_reducible exact bel_box _) | (with_reducible refine bel_step ?_ (by with_reducible assumption)) | (with_reducible refine Below.drew ?_) | (with_reducible refine below_drewN ?_ _) | (with_reducible refine bel_alloc ?_ _))); done)); rintro e w1 ⟨rfl, hb1⟩)
    go_ret
    exact ⟨ret_bool (decide_eq_false (by omega)), (by repeat (first | (with_reducible exact Below.refl _ _) | (with_reducible assumption) | (with_reducible exact bel_box _) | (with_reducible refine bel_step ?_ (by with_reducible assumption)) | (with_reducible refine Below.drew ?_) | (with_reducible refine below_drewN ?_ _) | (with_reducible refine bel_alloc ?_ _)))⟩
set_option maxHeartbeats 2000000 in
set_option maxRecDepth 20000 in
theorem counts_any (x : Xt) (kd : Int) (w : World) (hs : Std w) (hX : RdX w w.heap.size x) : Calls Tryz.prog 4 #[xV x, .int .i64 kd] w (Bel (.bool true) w) := by
  have KL : Hid (∀ W, Below w.heap.size w W → Calls Tryz.prog 11 #[] W (Bel (.bool true) W)) := Lib.hid fun W h => lives_any W (hs.to h)
  have KH : Hid (∀ W, Below w.heap.size w W → Calls Tryz.prog 10 #[xV x] W (Bel (.bool (decide (500 < x.size))) W)) := Lib.hid fun W h => heavy_any x W (hX.to h)
  by_cases h5 : 500 < x.size
  · rw [decide_eq_true h5] at KH
    simp only [xV] at KH ⊢
    clear h5 hX hs
    go_enter Tryz.func4, Tryz.ntmps4
    go_wp2_with (first
      | (go_at_call 10; (with_reducible refine (KH.out _ ?_).mono ?_); (focus ((repeat (first | (with_reducible exact Below.refl _ _) | (with_reducible assumption) | (with_reducible exact bel_box _) | (with_reducible refine bel_step ?_ (by with_reducible assumption)) | (with_reducible refine Below.drew ?_) | (with_reducible refine below_drewN ?_ _) | (with_reducible refine bel_alloc ?_ _))); done)); rintro e w1 ⟨rfl, hb1⟩)
      | (go_at_call 11; (with_reducible refine (KL.out _ ?_).mono ?_); (focus ((repeat (first | (with_reducible exact Below.refl _ _) | (with_reducible assumption) | (with_reducible exact bel_box _) | (with_reducible refine bel_step ?_ (by with_reducible assumption)) | (with_reducible refine Below.drew ?_) | (with_reducible refine below_drewN ?_ _) | (with_reducible refine bel_alloc ?_ _))); done)); rintro e w2 ⟨rfl, hb2⟩))
    go_ret
    exact ⟨rfl, (by repeat (first | (with_reducible exact Below.refl _ _) | (with_reducible assumption) | (with_reducible exact bel_box _) | (with_reducible refine bel_step ?_ (by with_reducible assumption)) | (with_reducible refine Below.drew ?_) | (with_reducible refine below_drewN ?_ _) | (with_reducible refine bel_alloc ?_ _)))⟩
  rw [decide_eq_false h5] at KH
  have K1 : Hid (∀ W, Below w.heap.size w W → Calls Tryz.prog 14 #[xV x] W (Bel (.int .i64 (x.size : Nat)) W)) := Lib.hid fun W h => size_any x W (hX.to h) (by omega)
  have K2 : Hid (∀ W, Below w.heap.size w W → Calls Tryz.prog 15 #[xV x] W (Bel (.int .i64 (x.size : Nat)) W)) := Lib.hid fun W h => rsize_any x W (hX.to h) (by omega)
  have K3 : Hid (∀ W, Below w.heap.size w W → Calls Tryz.prog 16 #[xV x] W (Bel (.int .i64 (x.depth : Nat)) W)) := Lib.hid fun W h => depth_any x W (hX.to h) (by omega)
  have K4 : Hid (∀ W, Below w.heap.size w W → Calls Tryz.prog 17 #[xV x] W (Bel (.int .i64 (x.depth : Nat)) W)) := Lib.hid fun W h => rdepth_any x W (hX.to h) (by omega)
  have K5 : Hid (∀ W, Below w.heap.size w W → Calls Tryz.prog 18 #[xV x, .int .i64 kd] W (Bel (.int .i64 ((x.list.countP fun y => y.k == kd) : Nat)) W)) := Lib.hid fun W h => count_any x kd W (hX.to h) (by omega)
  have K6 : Hid (∀ W, Below w.heap.size w W → Calls Tryz.prog 19 #[xV x, .int .i64 kd] W (Bel (.int .i64 ((x.list.countP fun y => y.k == kd) : Nat)) W)) := Lib.hid fun W h => rcount_any x kd W (hX.to h) (by omega)
  have K7 : Hid (∀ W, Below w.heap.size w W → Calls Tryz.prog 20 #[xV x] W (Bel (.bool (!x.list.any fun y => stK y.k)) W)) := Lib.hid fun W h => stateless_any x W (hX.to h) (by omega)
  have K8 : Hid (∀ W, Below w.heap.size w W → Calls Tryz.prog 21 #[xV x] W (Bel (.bool (!x.list.any fun y => stK y.k)) W)) := Lib.hid fun W h => rstateless_any x W (hX.to h) (by omega)
  generalize x.size = n1 at K1 K2
  generalize x.depth = n2 at K3 K4
  generalize (x.list.countP fun y => y.k == kd) = n3 at K5 K6
  generalize (!x.list.any fun y => stK y.k) = n4 at K7 K8
  simp only [xV] at K1 K2 K3 K4 K5 K6 K7 K8 KH ⊢
  clear hX hs
  go_enter Tryz.func4, Tryz.ntmps4
  go_wp2_with (go_at_call 10; (with_reducible refine (KH.out _ ?_).mono ?_); (focus ((repeat (first | (with_reducible exact Below.refl _ _) | (with_reducible assumption) | (with_reducible exact bel_box _) | (with_reducible refine bel_step ?_ (by with_reducible assumption)) | (with_reducible refine Below.drew ?_) | (with_reducible refine below_drewN ?_ _) | (with_reducible refine bel_alloc ?_ _))); done)); rintro e w1 ⟨rfl, hv1⟩)
  obtain ⟨b0, b1, b2, b3, b4, b5, _⟩ := bxW_cells (w := w) (x := x) (W := w1) hv1
  have hB1 := bxW_below (w := w) (x := x) hv1
  have k0 := cell_regrown b0
  have k1 := cell_regrown b1
  have k2 := cell_regrown b2
  have k3 := cell_regrown b3
  have k4 := cell_regrown b4
  have k5 := cell_regrown b5
  have c1 := fun dd os => Calls.regrown_of (K1.out (grow (redrawn w1 dd) os) (hB1.trans ((below_regrown w1 dd os).mono hB1.size)))
  have c2 := fun dd os => Calls.regrown_of (K2.out (grow (redrawn w1 dd) os) (hB1.trans ((below_regrown w1 dd os).mono hB1.size)))
  have c3 := fun dd os => Calls.regrown_of (K3.out (grow (redrawn w1 dd) os) (hB1.trans ((below_regrown w1 dd os).mono hB1.size)))
  have c4 := fun dd os => Calls.regrown_of (K4.out (grow (redrawn w1 dd) os) (hB1.trans ((below_regrown w1 dd os).mono hB1.size)))
  have c5 := fun dd os => Calls.regrown_of (K5.out (grow (redrawn w1 dd) os) (hB1.trans ((below_regrown w1 dd os).mono hB1.size)))
  have c6 := fun dd os => Calls.regrown_of (K6.out (grow (redrawn w1 dd) os) (hB1.trans ((below_regrown w1 dd os).mono hB1.size)))
  have c7 := fun dd os => Calls.regrown_of (K7.out (grow (redrawn w1 dd) os) (hB1.trans ((below_regrown w1 dd os).mono hB1.size)))
  have c8 := fun dd os => Calls.regrown_of (K8.out (grow (redrawn w1 dd) os) (hB1.trans ((below_regrown w1 dd os).mono hB1.size)))
  have c9 := fun dd os => Calls.regrown_of (KL.out (grow (redrawn w1 dd) os) (hB1.trans ((below_regrown w1 dd os).mono hB1.size)))
  refine wp_region_quiet_below (by kernel_rfl) (by kernel_rfl) ?_
  repeat (quiet_step (first | with_reducible exact c1 _ _ | with_reducible exact c2 _ _ | with_reducible exact c3 _ _ | with_reducible exact c4 _ _ | with_reducible exact c5 _ _ | with_reducible exact c6 _ _ | with_reducible exact c7 _ _ | with_reducible exact c8 _ _ | with_reducible exact c9 _ _))
  refine wpQuiet_nil ?_
  intro _ hw'
  obtain ⟨⟨dq, osq⟩, hw''⟩ := hw'
  subst hw''
  have hv2 := hv1.trans ((below_regrown w1 dq osq).mono hv1.size)
  generalize grow (redrawn w1 dq) osq = w2 at hv2 ⊢
  clear b0 b1 b2 b3 b4 b5 k0 k1 k2 k3 k4 k5 c1 c2 c3 c4 c5 c6 c7 c8 c9
  go_wp2
  go_ret
  exact ⟨rfl, bxW_below (w := w) (x := x) hv2⟩
end Go.Proofs.YtfogkcccjemloaaGreatDoor
