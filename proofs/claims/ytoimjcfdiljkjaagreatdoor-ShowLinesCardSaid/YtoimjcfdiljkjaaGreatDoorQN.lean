import Derived.Test.YtoimjcfdiljkjaaGreatDoorRows
import Derived.Stop.LaidErr
import Derived.Lib.LaidTab
import Derived.LaidMore
import Derived.Lay
import Derived.LaidOnce
import Derived.ChangeSlices
import Derived.ChangeSame
import Derived.ChangeMaps
import Derived.Stop.Joined
import Derived.Test.YtoimjcfdiljkjaaGreatDoorQM
set_option linter.unusedVariables false
set_option linter.unusedSimpArgs false
namespace Go.Proofs.YtoimjcfdiljkjaaGreatDoor
open Go.RowKit Go.Sort
set_option maxHeartbeats 1000000 in
set_option maxRecDepth 100000 in
theorem wr_text (B b m : Nat) (E : Rw va.En) (l : List UInt8) (w : World) (h : Wr B b E m (Lib.byteCells l) w) (h0 : l ≠ []) :
    Calls Tryz.prog 26 #[.pointer (some ⟨b, 2, none⟩)] w fun e w' => e = .returned (.string (tB l)) ∧ Below B w w' := by
  obtain ⟨p, hB, v, hbk, hown, hne⟩ : ∃ p, WrP B b E m p (Lib.byteCells l) w := by
    rcases h with h | h
    · exact ⟨_, h⟩
    · exact ⟨_, h⟩
  have hl0 : l.length ≠ 0 := by simpa using h0
  rw [Lib.byteCells_length] at hown
  obtain ⟨g, cap, cur, rfl, hbg, hg, hnc, hcm, hcs, htake⟩ : ∃ g cap cur, v = .slice (some ⟨g, 0, none⟩) l.length cap ∧ B ≤ g ∧ w.heap[g]? = some (.cells cur 5 (0, 0)) ∧ l.length ≤ cap ∧ cap ≤ maxLen ∧ cur.size = cap * 1 ∧ cur.toList.take (l.length * 1) = Lib.byteCells l := by
    rcases hown.2 with ⟨_, hz⟩ | ⟨g, cap, cur, hv, r⟩
    · exact absurd hz hl0
    · exact ⟨g, cap, cur, hv, r⟩
  have c3 : w.drew.cell? ⟨b, 3, none⟩ = some (.slice (some ⟨g, 0, none⟩) l.length cap) := by
    have : w.drew.heap[b]? = some (.cells #[.slice E.A E.l.length E.c, .map (some m), p, .slice (some ⟨g, 0, none⟩) l.length cap] 71 (0, 0)) := hbk
    rw [Lib.cell_of_heap this]; rfl
  have hSD : (Builtin.unsafeSliceData_ #[67] 112 #[.slice (some ⟨g, 0, none⟩) l.length cap]).run Tryz.prog w.drew = .ok (.pointer (some ⟨g, 0, none⟩)) w.drew :=
    Lib.run_unsafeSliceData_row _ _ _ _ _ _ (by omega)
  have hUS : (Builtin.unsafeString_ #[112, 3] 9 #[.pointer (some ⟨g, 0, none⟩), .int .i64 l.length]).run Tryz.prog w.drew = .ok (.string (tB l)) (w.drew.freeze ⟨g, 0, none⟩ l.length) := by
    refine Lib.run_unsafeString_row w.drew 112 3 9 5 Tryz.underlying112 (by kernel_rfl) g cur.size (by have hg' : w.drew.heap[g]? = some (.cells cur 5 (0, 0)) := hg; simp [World.shape?, hg']) l h0 (by omega) (by unfold maxLen at hcm; omega) ?_
    intro j x hx
    have := hown.cells (g := g) rfl j (.int .u8 x.toNat) (by simp [Lib.byteCells, hx])
    exact this
  clear h hbk hown hne hg htake hcs
  go_enter Tryz.func26, Tryz.ntmps26
  go_wp2
  go_region
  all_goals (go_wp2; go_ret; exact ⟨rfl, Lib.below_freeze (Below.drew (Below.refl B w)) (p := ⟨g, 0, none⟩) hbg _⟩)
end Go.Proofs.YtoimjcfdiljkjaaGreatDoor
namespace Go.Proofs.YtoimjcfdiljkjaaGreatDoor
open Go.RowKit Go.Sort
set_option maxHeartbeats 2000000 in
set_option maxRecDepth 20000 in
theorem sw_Expr (E : Rw va.En) (x : Xt) (w : World) (hs : Std w) (hE : RsE w w.heap.size E) (hX : RsX w w.heap.size x) (hwf : expE E.l x = 0 → (∀ y ∈ x.list, wfX y) ∧ (x.tx E.l).length ≤ 140737488355328) :
    Calls Tryz.prog 13 #[.slice E.A E.l.length E.c, xV x] w (Bel (.tuple #[.string (if expE E.l x = 0 then tB (x.tx E.l) else ⟨#[]⟩), .int .i64 (expE E.l x)]) w) := by
  have KE : Hid (∀ W, Below w.heap.size w W → Calls Tryz.prog 35 #[.slice E.A E.l.length E.c, xV x] W (Bel (.int .i64 (expE E.l x)) W)) := Lib.hid fun W h => sh_Expr E x W (hs.to h) (hE.blw h h.size) (hX.blw h h.size)
  have KN := Lib.hid (fun W => new_any E W)
  have KX : Hid (expE E.l x = 0 → ∀ b W, Below w.heap.size w W → SymM W b → Calls Tryz.prog 36 #[phV E b, xV x] W (Bel (.string (tB (x.tx E.l))) W)) := Lib.hid fun h0 b W h hM =>
    ph_expr E b x (hwf h0).1 W (hs.to h) (hE.blw h h.size) hM (hX.blw h h.size).1 (hwf h0).2
  clear hs hE hX hwf
  generalize tB (x.tx E.l) = z at *
  generalize expE E.l x = v at *
  simp only [xV] at KE KX ⊢
  by_cases h0 : v = 0
  · subst h0
    have KX2 := Lib.hid (KX.out rfl)
    clear KX
    rw [if_pos rfl]
    go_enter Tryz.func13, Tryz.ntmps13
    go_wp2_with (go_at_call 35; (with_reducible refine (KE.out _ ?_).mono ?_); (exact bl); rintro e w1 ⟨rfl, hb1⟩; obtain ⟨g0, g1, g2, g3, g4, g5, _⟩ := B1X x (w := w) (W := w1) bl; have hB1 : Below w.heap.size w w1 := bl)
    go_region_with
      (first
        | (go_at_call 23; (with_reducible refine (KN.out _).mono ?_); rintro e w2 ⟨b, rfl, hM2, hb2⟩; have hX2 : Below w1.heap.size w1 w2 := bl; have hB2 : Below w.heap.size w w2 := hB1.trans (hX2.mono hB1.size); have f0 := cell_below hX2 g0; have f1 := cell_below hX2 g1; have f2 := cell_below hX2 g2; have f3 := cell_below hX2 g3; have f4 := cell_below hX2 g4; have f5 := cell_below hX2 g5)
        | (go_at_call 36; (with_reducible refine (KX2.out _ _ hB2 hM2).mono ?_); rintro e w3 ⟨rfl, hb3⟩))
    all_goals (go_wp2; go_ret2; exact ⟨rfl, hB2.trans (hb3.mono hB2.size)⟩)
  · have q0 : (v != 0) = true := by simp [h0]
    have q1 : (v == 0) = false := by simp [h0]
    rw [if_neg h0]
    clear h0 KX
    go_enter Tryz.func13, Tryz.ntmps13
    go_wp2_with (go_at_call 35; (with_reducible refine (KE.out _ ?_).mono ?_); (exact bl); rintro e w1 ⟨rfl, hb1⟩)
    go_ret2
    exact ⟨rfl, bl⟩
def clkB (es : List va.En) (l : List Ot) : Bool := l.all fun o => va.hasB es o.t o.tag
set_option maxHeartbeats 2000000 in
set_option maxRecDepth 20000 in
theorem sw_Clock (E : Rw va.En) (r : Rw Ot) (w : World) (hs : Std w) (hE : RsE w w.heap.size E) (hR : RsO w w.heap.size r) (hl : r.l.length ≤ 17592186044416) (hlen : clkB E.l r.l = true → (clkS E.l r.l).length ≤ 140737488355328) :
    Calls Tryz.prog 15 #[.slice E.A E.l.length E.c, .slice r.A r.l.length r.c] w (Bel (.tuple #[.string (if clkB E.l r.l = true then tB (clkS E.l r.l) else ⟨#[]⟩), .int .i64 (if clkB E.l r.l = true then 0 else 5)]) w) := by
  have KH : Hid (∀ y ∈ r.l, ∀ W, Below w.heap.size w W → Calls Tryz.prog 39 #[.slice E.A E.l.length E.c, .int .i64 y.t, .int .i64 y.tag] W (Bel (.bool (va.hasB E.l y.t y.tag)) W)) := Lib.hid fun y hy W h => va.has_any E.A E.c E.l y.t y.tag W (hE.blw h h.size).1 hE.len (hR.2 y hy).2
  have KN := Lib.hid (fun W => new_any E W)
  have KC : Hid (clkB E.l r.l = true → ∀ b W, Below w.heap.size w W → SymM W b → Calls Tryz.prog 40 #[phV E b, .slice r.A r.l.length r.c] W (Bel (.string (tB (clkS E.l r.l))) W)) := Lib.hid fun h0 b W h hM =>
    ph_clock E b r W (hs.to h) (hE.blw h h.size) (hR.blw h h.size) hl (hlen h0)
  have HR := Lib.hid hR.1
  have HA : Hid (∀ (k : Nat) (y : Ot), r.l[k]? = some y → va.hasB E.l y.t y.tag = false → clkB E.l r.l = false) := Lib.hid fun k y hy h => by
    unfold clkB
    rw [← Bool.not_eq_true, List.all_eq_true]
    intro hh
    have := hh y (List.mem_of_getElem? hy)
    rw [h] at this
    cases this
  have HT : Hid ((∀ y ∈ r.l, va.hasB E.l y.t y.tag = true) → clkB E.l r.l = true) := Lib.hid fun h => by
    unfold clkB
    rw [List.all_eq_true]
    exact h
  generalize clkB E.l r.l = b at *
  generalize tB (clkS E.l r.l) = z at *
  clear hs hE hR hlen
  obtain ⟨s, hs⟩ : ∃ s, (if b = true then z else ⟨#[]⟩) = s := ⟨_, rfl⟩
  obtain ⟨er, her⟩ : ∃ er : Int, (if b = true then 0 else 5) = er := ⟨_, rfl⟩
  rw [hs, her]
  have HS1 : Hid (b = true → s = z ∧ er = 0) := Lib.hid fun h => by subst h; exact ⟨hs.symm, her.symm⟩
  have HS0 : Hid (b = false → s = ⟨#[]⟩ ∧ er = 5) := Lib.hid fun h => by subst h; exact ⟨hs.symm, her.symm⟩
  clear hs her
  go_enter Tryz.func15, Tryz.ntmps15
  go_wp2
  go_loopw [10] (fun i wr => ∃ k : Nat, k ≤ r.l.length ∧ i = .int .i64 (k : Int) ∧ Hid (∀ (j : Nat) (y : Ot), j < k → r.l[j]? = some y → va.hasB E.l y.t y.tag = true) ∧ Below w.heap.size w wr) (fun i _ => r.l.length - (intOf i).toNat)
  case atStart => exact ⟨0, by omega, rfl, Lib.hid (fun j y h => by omega), Below.refl _ _⟩
  case round =>
    obtain ⟨k, hk, rfl, hA, hbl⟩ := hrel
    by_cases hlt : k < r.l.length
    · obtain ⟨ad, y, hAd, had, hy, hm, ⟨c0, c1, c2⟩⟩ := (HR.out.blw oneB_O hbl hbl.size).at_ hlt
      have KY := Lib.hid (KH.out y hm)
      have HY := Lib.hid (HA.out k y hy)
      have HY2 : Hid (va.hasB E.l y.t y.tag = true → ∀ (j : Nat) (u : Ot), j < k + 1 → r.l[j]? = some u → va.hasB E.l u.t u.tag = true) := Lib.hid fun h j u hj hu => by
        rcases Nat.lt_or_ge j k with h1 | h1
        · exact hA.out j u h1 hu
        · obtain rfl : j = k := by omega
          obtain rfl : y = u := Option.some.inj (hy.symm.trans hu)
          exact h
      rw [hAd]
      clear hAd hy hm hA HA HT KC
      generalize va.hasB E.l y.t y.tag = q at *
      cases q
      · have hb0 : b = false := HY.out rfl
        obtain ⟨rfl, rfl⟩ := HS0.out hb0
        clear HS0 HS1 hb0 HY HY2
        go_wp2_with (go_at_call 39; (with_reducible refine (KY.out _ ?_).mono ?_); (exact bl); rintro e w1 ⟨rfl, hb1⟩)
        go_ret2
        exact ⟨rfl, bl⟩
      · go_wp2_with (go_at_call 39; (with_reducible refine (KY.out _ ?_).mono ?_); (exact bl); rintro e w1 ⟨rfl, hb1⟩)
        exact ⟨⟨k + 1, by omega, by congr 1, Lib.hid (HY2.out (by first | trivial | rfl)), bl⟩, by simp [intOf]; omega⟩
    · obtain rfl : k = r.l.length := by omega
      have hb1 : b = true := HT.out fun y hy => by
        obtain ⟨j, hj⟩ := List.getElem?_of_mem hy
        exact hA.out j y (List.getElem?_eq_some_iff.1 hj).1 hj
      obtain ⟨rfl, rfl⟩ := HS1.out hb1
      have KC2 := Lib.hid (KC.out hb1)
      clear HS0 HS1 hb1
      clear HT HA hA KC
      go_wp2_with (first
        | (go_at_call 23; (with_reducible refine (KN.out _).mono ?_); rintro e w2 ⟨b, rfl, hM2, hb2⟩; have hB2 : Below w.heap.size w w2 := bl)
        | (go_at_call 40; (with_reducible refine (KC2.out _ _ hB2 hM2).mono ?_); rintro e w3 ⟨rfl, hb3⟩))
      go_ret2
      exact ⟨rfl, hB2.trans (hb3.mono hB2.size)⟩
end Go.Proofs.YtoimjcfdiljkjaaGreatDoor
namespace Go.Proofs.YtoimjcfdiljkjaaGreatDoor
open Go.RowKit Go.Sort
structure NdW (x : Nt) : Prop where
  ds : ∀ r : Rw Dt, r = x.ins ∨ r = x.outs ∨ r = x.locs → r.l.length ≤ 17592186044416 ∧ ∀ d ∈ r.l, d.ck.l.length ≤ 17592186044416
  qs : ∀ q ∈ x.qs.l, wfQ q
  cs : ∀ r : Rw Xt, r = x.asm ∨ r = x.ens → ∀ y ∈ r.l, ∀ z ∈ y.list, wfX z
  au : ∀ a ∈ x.au.l, ∀ t ∈ a.l, WfS a.l.length t
theorem lin_ne (n : Nat) (s : List UInt8) : linS n s ≠ [] := by
  unfold linS
  simp
theorem enm_ne (e : va.En) : enmS e ≠ [] := lin_ne _ _
theorem node_ne (es : List va.En) (x : Nt) : nodeS es x ≠ [] := by
  unfold nodeS
  simp [lin_ne]
def Fre (b : Nat) (E : Rw va.En) (m : Nat) (w : World) : Prop := w.heap[b]? = some (.cells #[.slice E.A E.l.length E.c, .map (some m), .pointer none, .slice none 0 0] 71 (0, 0))
set_option maxHeartbeats 1000000 in
set_option maxRecDepth 100000 in
theorem wr_text0 (B b m : Nat) (E : Rw va.En) (w : World) (h : Fre b E m w) :
    Calls Tryz.prog 26 #[.pointer (some ⟨b, 2, none⟩)] w fun e w' => e = .returned (.string (tB [])) ∧ Below B w w' := by
  have c3 : w.drew.cell? ⟨b, 3, none⟩ = some (.slice none 0 0) := by
    have : w.drew.heap[b]? = some (.cells #[.slice E.A E.l.length E.c, .map (some m), .pointer none, .slice none 0 0] 71 (0, 0)) := h
    rw [Lib.cell_of_heap this]; rfl
  have hSD : (Builtin.unsafeSliceData_ #[67] 112 #[.slice none 0 0]).run Tryz.prog w.drew = .ok (.pointer none) w.drew := Lib.run_unsafeSliceData_nil _ _ _ _ _
  have hUS : (Builtin.unsafeString_ #[112, 3] 9 #[.pointer none, .int .i64 0]).run Tryz.prog w.drew = .ok (.string (tB [])) w.drew := Lib.run_unsafeString_none _ _ _ _ _
  clear h
  go_enter Tryz.func26, Tryz.ntmps26
  go_wp2
  go_region
  all_goals (go_wp2; go_ret; exact ⟨rfl, Below.drew (Below.refl B w)⟩)
set_option maxHeartbeats 2000000 in
set_option maxRecDepth 20000 in
theorem sw_Program (p : Pt) (w : World) (hs : Std w) (hp : RsP w w.heap.size p) (hwf : (chkE p).2 = 0 → ((∀ e ∈ p.es.l, e.tags.length ≤ 17592186044416) ∧ ∀ n ∈ p.ns.l, NdW n) ∧ (prgS p).length ≤ 140737488355328) :
    Calls Tryz.prog 9 #[pV p] w (Bel (.tuple #[.string (if (chkE p).2 = 0 then tB (prgS p) else ⟨#[]⟩), .int .i64 (chkE p).2]) w) := by
  have KC : Hid (∀ W, Below w.heap.size w W → Calls Tryz.prog 22 #[pV p] W (Bel (.tuple #[.agg #[.int .i64 (chkE p).1.1, .int .i64 (chkE p).1.2], .int .i64 (chkE p).2]) W)) := Lib.hid fun W hb => sh_check p W (hs.to hb) (hp.blw hb hb.size)
  have KNW := Lib.hid (fun W => new_any p.es W)
  have HP := Lib.hid hp
  have HS := Lib.hid hs
  obtain ⟨u, hu⟩ : ∃ u, chkE p = u := ⟨_, rfl⟩
  rw [hu] at KC hwf ⊢
  clear hu hp hs
  obtain ⟨⟨u1, u2⟩, v⟩ := u
  simp only at KC hwf ⊢
  by_cases h0 : v = 0
  · subst h0
    rw [if_pos rfl]
    obtain ⟨⟨htg, hnd⟩, h⟩ := hwf rfl
    have HTG := Lib.hid htg
    have HND := Lib.hid hnd
    clear hwf htg hnd
    have h9 := HP.out.2.1.len
    have h9e := HP.out.1.2.1.1
    unfold maxLen at h9 h9e
    obtain ⟨P0, hP0⟩ : ∃ q, (p.es.l.map enmS).flatten = q := ⟨_, rfl⟩
    obtain ⟨F, hF⟩ : ∃ F : Nat → List UInt8, F = fun k => ((p.es.l.take k).map enmS).flatten := ⟨_, rfl⟩
    have hpl : P0.length ≤ 140737488355328 := by rw [← hP0]; unfold prgS at h; simp only [List.length_append] at h; omega
    have HF : Hid (∀ (k : Nat) e, p.es.l[k]? = some e → F (k + 1) = F k ++ enmS e ∧ (F (k + 1)).length ≤ 140737488355328) := Lib.hid fun k e he => by
      rw [hF]
      refine ⟨flat_take enmS p.es.l he, Nat.le_trans (flat_le enmS p.es.l (k + 1)) ?_⟩
      rw [hP0]; exact hpl
    have hF0 : F 0 = [] := by rw [hF]; rfl
    have HFl : Hid (F p.es.l.length = P0) := Lib.hid (by rw [hF]; simp only [List.take_length]; exact hP0)
    obtain ⟨G, hG⟩ : ∃ G : Nat → List UInt8, G = fun k => P0 ++ ((p.ns.l.take k).map (nodeS p.es.l)).flatten := ⟨_, rfl⟩
    have HG : Hid (∀ (k : Nat) y, p.ns.l[k]? = some y → G (k + 1) = G k ++ nodeS p.es.l y ∧ (G (k + 1)).length ≤ 140737488355328) := Lib.hid fun k y hy => by
      rw [hG]
      refine ⟨?_, ?_⟩
      · simp only
        rw [flat_take (nodeS p.es.l) p.ns.l hy, List.append_assoc]
      · have := flat_le (nodeS p.es.l) p.ns.l (k + 1)
        unfold prgS at h
        rw [hP0] at h
        simp only [List.length_append] at h ⊢
        omega
    have HG0 : Hid (G 0 = P0) := Lib.hid (by rw [hG]; simp)
    have hGl : G p.ns.l.length = prgS p := by rw [hG]; unfold prgS; simp only [List.take_length, hP0]
    have HF0 := Lib.hid hF0
    rw [← hGl]
    clear h hP0 hF hF0 hpl hG hGl
    have KC0 : Hid (Calls Tryz.prog 22 #[pV p] (w.alloc (.cells #[.slice p.es.A p.es.l.length p.es.c, .slice p.ns.A p.ns.l.length p.ns.c] 25)) (Bel (.tuple #[.agg #[.int .i64 u1, .int .i64 u2], .int .i64 0]) (w.alloc (.cells #[.slice p.es.A p.es.l.length p.es.c, .slice p.ns.A p.ns.l.length p.ns.c] 25)))) := Lib.hid (KC.out _ (bel_box _))
    go_enter Tryz.func9, Tryz.ntmps9
    go_wp2_with (first
      | (go_at_call 22; (with_reducible refine (KC0.out).mono ?_); rintro e w1 ⟨rfl, hb1⟩; have g0 : w1.cell? ⟨w.heap.size, 0, none⟩ = some (.slice p.es.A p.es.l.length p.es.c) := cell_below hb1 (by simp [go_sem]); have b0 := fun o => cell_al o g0)
      | (go_at_call 23; (with_reducible refine (KNW.out _).mono ?_); rintro e w2 ⟨m, rfl, hM2, hb2⟩; have hB2 : Below w.heap.size w w2 := bl; have g0 := cell_below hb2 (b0 _); have b0 := fun o => cell_al o g0))
    have g1 : w2.cell? ⟨w.heap.size, 1, none⟩ = some (.slice p.ns.A p.ns.l.length p.ns.c) := cell_below hb2 (cell_below (bel_box _) (cell_below hb1 (by simp [go_sem])))
    have HG1 := Lib.hid g1
    obtain ⟨W3, hW3⟩ : ∃ W3, (w2.alloc (.cells #[.slice p.es.A p.es.l.length p.es.c, .map (some m), .pointer none, .slice none 0 0] 71)) = W3 := ⟨_, rfl⟩
    have hB3 : Below w2.heap.size w2 W3 := by rw [← hW3]; exact bel_box _
    have hf3 : Fre w2.heap.size p.es m W3 := by rw [← hW3]; exact heap_alloc_new w2 _
    have hw3 : Wr w2.heap.size w2.heap.size p.es m (Lib.byteCells []) W3 := .inl ⟨Nat.le_refl _, .slice none 0 0, hf3, World.ownsRow_nil _ _ _ _, by simp [Value.ownBlock]⟩
    rw [hW3]
    have HW3 := Lib.hid hw3
    have HF3 := Lib.hid hf3
    have HM := Lib.hid hM2
    clear hW3 hw3 hf3 hM2 g0 g1 b0 KC KC0 KNW hb1 hb2
    go_loopw [26] (fun i wr => ∃ k : Nat, k ≤ p.es.l.length ∧ i = .int .i64 (k : Int) ∧ Hid (Wr w2.heap.size w2.heap.size p.es m (Lib.byteCells (F k)) wr) ∧ Below w2.heap.size w2 wr ∧ Hid (F k = [] → Fre w2.heap.size p.es m wr)) (fun i _ => p.es.l.length - (intOf i).toNat)
    case atStart => exact ⟨0, by omega, rfl, Lib.hid (by rw [HF0.out]; exact HW3.out), hB3, Lib.hid fun _ => HF3.out⟩
    case round =>
      clear HW3 HF3 hB3
      obtain ⟨k, hk, rfl, hW, hbl, hfr⟩ := hrel
      have hszr := hbl.size
      have hbw : Below w.heap.size w wr := hB2.trans (hbl.mono hB2.size)
      by_cases hlt : k < p.es.l.length
      · obtain ⟨ad, e, hA, had, he, c0, c1, _⟩ := ((HP.out.1.blw hbw hbw.size).1).at_ hlt
        have hm := List.mem_of_getElem? he
        obtain ⟨hj, hle⟩ := HF.out k e he
        rw [hj] at hle
        have HJ : Hid (F (k + 1) = F k ++ enmS e) := Lib.hid hj
        have KY : Hid (∀ W, Below wr.heap.size wr W → Calls Tryz.prog 24 #[.pointer (some ⟨w2.heap.size, 0, none⟩), .agg #[.string e.name, .slice e.A e.tags.length e.c]] W (fun e' w' => e' = .returned (.tuple #[]) ∧ Wr w2.heap.size w2.heap.size p.es m (Lib.byteCells (F k ++ enmS e)) w' ∧ Below w2.heap.size W w' ∧ Oth w2.heap.size W w')) := Lib.hid fun W hb => by
          have hE' := HP.out.1.blw (hbw.trans (hb.mono hbw.size)) (Nat.le_trans hbw.size hb.size)
          obtain ⟨q1, q2, q3⟩ := hE'.2.2 e hm
          exact wr_enum w2.heap.size w2.heap.size m p.es (F k) e W (hW.out.below hb) (Nat.le_trans hszr hb.size) ⟨rd_of_rdr_inv (hE'.1.2 k e he) q2.1 q2.2, q3⟩ (HTG.out e hm) hle
        rw [hA]
        clear hA he hm hj hle hfr
        go_wp2_with (go_at_call 24; (with_reducible refine (KY.out _ ?_).mono ?_); (exact bl); rintro e' w4 ⟨rfl, hw4, hb4, ho4⟩)
        exact ⟨⟨k + 1, by omega, by congr 1, Lib.hid (by rw [HJ.out]; exact hw4), (hbl.trans (Below.mono (bel_box _) hszr)).trans hb4, Lib.hid fun h => absurd (HJ.out.symm.trans h) (by simp [enm_ne])⟩, by simp [intOf]; omega⟩
      · obtain rfl : k = p.es.l.length := by omega
        have g1 := cell_below hbl HG1.out
        have hW0 : Hid (Wr w2.heap.size w2.heap.size p.es m (Lib.byteCells (G 0)) wr) := Lib.hid (by rw [HG0.out, ← HFl.out]; exact hW.out)
        have hfr0 : Hid (G 0 = [] → Fre w2.heap.size p.es m wr) := Lib.hid (by rw [HG0.out, ← HFl.out]; exact hfr.out)
        clear HF HF0 HFl hW hfr HTG
        go_wp2
        obtain ⟨WR, rfl⟩ : ∃ q : World, q = wr := ⟨_, rfl⟩
        go_loopw [36] (fun i wr => ∃ k : Nat, k ≤ p.ns.l.length ∧ i = .int .i64 (k : Int) ∧ Hid (Wr w2.heap.size w2.heap.size p.es m (Lib.byteCells (G k)) wr) ∧ Below w2.heap.size w2 wr ∧ Hid (G k = [] → Fre w2.heap.size p.es m wr)) (fun i _ => p.ns.l.length - (intOf i).toNat)
        case atStart => exact ⟨0, by omega, rfl, hW0, hbl, hfr0⟩
        case round =>
          clear hW0 hfr0
          obtain ⟨k, hk, rfl, hW, hbl, hfr⟩ := hrel
          have hszr := hbl.size
          have hbw : Below w.heap.size w wr := hB2.trans (hbl.mono hB2.size)
          by_cases hlt : k < p.ns.l.length
          · obtain ⟨ad, y, hA, had, hy, hm, ⟨c0, c1, c2, c3, c4, c5, c6, c7⟩⟩ := (HP.out.2.1.blw oneB_N hbw hbw.size).at_ hlt
            obtain ⟨hj, hle⟩ := HG.out k y hy
            rw [hj] at hle
            have HJ : Hid (G (k + 1) = G k ++ nodeS p.es.l y) := Lib.hid hj
            have KY : Hid (∀ W, Below wr.heap.size wr W → Calls Tryz.prog 25 #[.pointer (some ⟨w2.heap.size, 0, none⟩), nV y] W (fun e' w' => e' = .returned (.tuple #[]) ∧ Wr w2.heap.size w2.heap.size p.es m (Lib.byteCells (G k ++ nodeS p.es.l y)) w' ∧ Below w2.heap.size W w' ∧ Oth w2.heap.size W w')) := Lib.hid fun W hb => by
              have hn := HND.out y hm
              have en : G k ++ nodeS p.es.l y = G k ++ linS 0 ([110, 111, 100, 101, 32] ++ bsT y.nm ++ [40] ++ dcsS p.es.l y.ins.l ++ [41, 32, 114, 101, 116, 117, 114, 110, 115, 32, 40] ++ dcsS p.es.l y.outs.l ++ [41]) ++ lcsS p.es.l 1 y.locs.l ++ cmsS p.es.l ⟨#[97, 115, 115, 117, 109, 101, 32]⟩ y.asm.l ++ cmsS p.es.l ⟨#[101, 110, 115, 117, 114, 101, 32]⟩ y.ens.l ++ linS 0 ([108, 101, 116]) ++ (y.qs.l.map (eq1S p.es.l 1)).flatten ++ (y.au.l.map (auS p.es.l 1)).flatten ++ linS 0 ([116, 101, 108]) := by
                unfold nodeS
                simp only [List.append_assoc]
              rw [en] at hle ⊢
              exact wr_node w2 w2.heap.size m p.es (G k) y W (HS.out.to hB2) (HP.out.1.blw hB2 hB2.size) HM.out ((HP.out.2.2 y hm).blw hB2 hB2.size) hn.ds hn.qs hn.cs hn.au (hbl.trans (hb.mono hszr)) (hW.out.below hb) hle
            rw [hA]
            clear hA hy hm hj hle hfr
            go_wp2_with (go_at_call 25; (with_reducible refine (KY.out _ ?_).mono ?_); (exact bl); rintro e' w4 ⟨rfl, hw4, hb4, ho4⟩)
            exact ⟨⟨k + 1, by omega, by congr 1, Lib.hid (by rw [HJ.out]; exact hw4), (hbl.trans (Below.mono (bel_box _) hszr)).trans hb4, Lib.hid fun h => absurd (HJ.out.symm.trans h) (by simp [node_ne])⟩, by simp [intOf]; omega⟩
          · obtain rfl : k = p.ns.l.length := by omega
            have KT : Hid (Calls Tryz.prog 26 #[.pointer (some ⟨w2.heap.size, 2, none⟩)] wr (fun e w' => e = .returned (.string (tB (G p.ns.l.length))) ∧ Below w2.heap.size wr w')) := Lib.hid (by
              by_cases hz : G p.ns.l.length = []
              · rw [hz]
                exact wr_text0 w2.heap.size w2.heap.size m p.es wr (hfr.out hz)
              · exact wr_text w2.heap.size w2.heap.size m p.es _ wr hW.out hz)
            clear hW hfr HG
            generalize G p.ns.l.length = z at *
            go_wp2_with (go_at_call 26; (with_reducible refine KT.out.mono ?_); rintro e w5 ⟨rfl, hb5⟩)
            go_ret2
            exact ⟨rfl, hB2.trans ((hbl.trans hb5).mono hB2.size)⟩
  · have q0 : (v != 0) = true := by simp [h0]
    have q1 : (v == 0) = false := by simp [h0]
    rw [if_neg h0]
    clear h0 hwf HP HS KNW
    go_enter Tryz.func9, Tryz.ntmps9
    go_wp2_with (go_at_call 22; (with_reducible refine (KC.out _ ?_).mono ?_); (exact bl); rintro e w1 ⟨rfl, hb1⟩)
    go_ret2
    exact ⟨rfl, bl⟩
end Go.Proofs.YtoimjcfdiljkjaaGreatDoor
namespace Go.Proofs.YtoimjcfdiljkjaaGreatDoor
open Go.RowKit
theorem orE_zero {a b : Int} : orE a b = 0 ↔ a = 0 ∧ b = 0 := by
  unfold orE
  split
  · rename_i h; simp [h]
  · rename_i h; simp [h]
theorem RsP.take {w : World} {B : Nat} {p : Pt} (h : RsP w B p) (k : Nat) : RsP w B ⟨p.es, p.ns.A, p.ns.c, p.ns.l.take k⟩ := by
  obtain ⟨h1, ⟨h2, h3, h4, h5⟩, h6⟩ := h
  refine ⟨h1, ⟨fun hn => h2 fun e => hn (by simp [e]), fun ad i y hA hy => h3 ad i y hA ?_, ?_, ?_⟩, fun n hn => h6 n (List.mem_of_mem_take hn)⟩
  · have hy' : (p.ns.l.take k)[i]? = some y := hy
    rw [List.getElem?_take] at hy'
    split at hy'
    · exact hy'
    · cases hy'
  · simp only [List.length_take]; omega
  · simp only [List.length_take]; omega
end Go.Proofs.YtoimjcfdiljkjaaGreatDoor
namespace Go.Proofs.YtoimjcfdiljkjaaGreatDoor
open Go.RowKit
abbrev aA : ByteArray := ⟨#[97]⟩
abbrev aB : ByteArray := ⟨#[98]⟩
abbrev aF : ByteArray := ⟨#[102]⟩
theorem id_aA : idP aA = true := by decide +kernel
theorem id_aB : idP aB = true := by decide +kernel
theorem id_aF : idP aF = true := by decide +kernel
abbrev varA : Xt := .mk 2 0 0 0 aA none 0 []
abbrev notX (g : Addr) : Xt := .mk 3 1 0 0 ⟨#[]⟩ (some g) 1 [varA]
abbrev numX (v : Int) : Xt := .mk 1 0 2 v ⟨#[]⟩ none 0 []
abbrev mulX (g : Addr) : Xt := .mk 3 8 0 0 ⟨#[]⟩ (some g) 2 [varA, numX (-2)]
abbrev addX (g g' : Addr) : Xt := .mk 3 6 0 0 ⟨#[]⟩ (some g') 2 [numX 1, mulX g]
abbrev awD (s : ByteArray) : Dt := ⟨s, 1, ⟨none, 0, []⟩⟩
abbrev awQ (g3 g5 : Addr) : Qt := ⟨⟨some g3, 1, [aB]⟩, notX g5⟩
abbrev awN (g1 g2 g3 g4 g5 : Addr) : Nt := ⟨aF, ⟨some g1, 1, [awD aA]⟩, ⟨some g2, 1, [awD aB]⟩, ⟨none, 0, []⟩, ⟨some g4, 1, [awQ g3 g5]⟩, ⟨none, 0, []⟩, ⟨none, 0, []⟩, ⟨none, 0, []⟩⟩
abbrev awP (g1 g2 g3 g4 g5 g6 : Addr) : Pt := ⟨⟨none, 0, []⟩, ⟨some g6, 1, [awN g1 g2 g3 g4 g5]⟩⟩
theorem list_varA : varA.list = [varA] := by rw [Xt.list_eq]; rfl
theorem list_num (v : Int) : (numX v).list = [numX v] := by rw [Xt.list_eq]; rfl
theorem list_not (g : Addr) : (notX g).list = [notX g, varA] := by rw [Xt.list_eq]; simp [Xt.ar, list_varA]
theorem list_mul (g : Addr) : (mulX g).list = [mulX g, varA, numX (-2)] := by rw [Xt.list_eq]; simp [Xt.ar, list_varA, list_num]
theorem list_add (g g' : Addr) : (addX g g').list = [addX g g', numX 1, mulX g, varA, numX (-2)] := by rw [Xt.list_eq]; simp [Xt.ar, list_num, list_mul]
theorem tx_varA : varA.tx [] = [97] := by rw [Xt.tx_eq]; rfl
theorem tx_num1 : (numX 1).tx [] = [49] := by rw [Xt.tx_eq]; decide +kernel
theorem tx_num2 : (numX (-2)).tx [] = [45, 50] := by rw [Xt.tx_eq]; decide +kernel
theorem tx_not (g : Addr) : (notX g).tx [] = [110, 111, 116, 32, 97] := by rw [Xt.tx_eq]; simp [Xt.ar, tx_varA]; rfl
theorem tx_mul (g : Addr) : (mulX g).tx [] = [97, 32, 42, 32, 40, 45, 50, 41] := by rw [Xt.tx_eq]; simp [Xt.ar, tx_varA, tx_num2]; rfl
theorem tx_add (g g' : Addr) : (addX g g').tx [] = [49, 32, 43, 32, 40, 97, 32, 42, 32, 40, 45, 50, 41, 41] := by rw [Xt.tx_eq]; simp [Xt.ar, tx_num1, tx_mul]; rfl
theorem clk_aw : clkS [] [⟨aA, 1, 1⟩, ⟨aB, 2, 0⟩] = [119, 104, 101, 110, 32, 116, 114, 117, 101, 40, 97, 41, 32, 119, 104, 101, 110, 32, 48, 40, 98, 41] := by decide +kernel
theorem clkB_aw : clkB [] [⟨aA, 1, 1⟩, ⟨aB, 2, 0⟩] = true := by decide +kernel
theorem c1_var : chk1 wokP varA = 0 := by
  unfold chk1
  simp [Xt.k, Xt.op, Xt.t, Xt.v, Xt.nm, Xt.ar, formedP, onlyP, hasVal, hasIdn, hasVar, opnds, id_aA]
theorem c1_num (v : Int) (h : -32768 ≤ v ∧ v ≤ 32767) : chk1 wokP (numX v) = 0 := by
  unfold chk1
  simp [Xt.k, Xt.op, Xt.t, Xt.v, Xt.nm, Xt.ar, formedP, onlyP, hasVal, hasIdn, hasVar, opnds]
  exact h
theorem c1_not (g : Addr) : chk1 wokP (notX g) = 0 := by
  unfold chk1
  simp [Xt.k, Xt.op, Xt.t, Xt.v, Xt.nm, Xt.ar, formedP, onlyP, hasVal, hasIdn, hasVar, opnds]
theorem c1_mul (g : Addr) : chk1 wokP (mulX g) = 0 := by
  unfold chk1
  simp [Xt.k, Xt.op, Xt.t, Xt.v, Xt.nm, Xt.ar, formedP, onlyP, hasVal, hasIdn, hasVar, opnds]
theorem c1_add (g g' : Addr) : chk1 wokP (addX g g') = 0 := by
  unfold chk1
  simp [Xt.k, Xt.op, Xt.t, Xt.v, Xt.nm, Xt.ar, formedP, onlyP, hasVal, hasIdn, hasVar, opnds]
theorem size_varA : varA.size = 1 := by rw [Xt.size_eq]; rfl
theorem size_num (v : Int) : (numX v).size = 1 := by rw [Xt.size_eq]; rfl
theorem size_not (g : Addr) : (notX g).size = 2 := by rw [Xt.size_eq]; simp [Xt.ar, size_varA]
theorem size_mul (g : Addr) : (mulX g).size = 3 := by rw [Xt.size_eq]; simp [Xt.ar, size_varA, size_num]
theorem size_add (g g' : Addr) : (addX g g').size = 5 := by rw [Xt.size_eq]; simp [Xt.ar, size_num, size_mul]
theorem dep_varA : varA.depth = 1 := by rw [Xt.depth_eq]; rfl
theorem dep_num (v : Int) : (numX v).depth = 1 := by rw [Xt.depth_eq]; rfl
theorem dep_not (g : Addr) : (notX g).depth = 2 := by rw [Xt.depth_eq]; simp [Xt.ar, dep_varA]
theorem dep_mul (g : Addr) : (mulX g).depth = 2 := by rw [Xt.depth_eq]; simp [Xt.ar, dep_varA, dep_num]
theorem dep_add (g g' : Addr) : (addX g g').depth = 3 := by rw [Xt.depth_eq]; simp [Xt.ar, dep_num, dep_mul]
theorem all_not (g : Addr) : chkAll wokP (notX g) = 0 := by
  unfold chkAll
  rw [size_not, dep_not, list_not, if_neg (by omega)]
  simp [firstE, c1_not, c1_var]
theorem all_add (g g' : Addr) : chkAll wokP (addX g g') = 0 := by
  unfold chkAll
  rw [size_add, dep_add, list_add, if_neg (by omega)]
  simp [firstE, c1_add, c1_mul, c1_var, c1_num]
theorem ins_var : insE [] varA = 0 := by rw [insE_eq]; rfl
theorem ins_num (v : Int) (h : -32768 ≤ v ∧ v ≤ 32767) : insE [] (numX v) = 0 := by
  rw [insE_eq]
  simp [typE, va.hasB, va.sizeT, errs_nil, orE, Xt.k, Xt.t, Xt.v, Xt.ar, h]
theorem ins_not (g : Addr) : insE [] (notX g) = 0 := by rw [insE_eq]; simp [Xt.ar, ins_var]; rfl
theorem ins_mul (g : Addr) : insE [] (mulX g) = 0 := by rw [insE_eq]; simp [Xt.ar, ins_var, ins_num]; rfl
theorem ins_add (g g' : Addr) : insE [] (addX g g') = 0 := by rw [insE_eq]; simp [Xt.ar, ins_num, ins_mul]; rfl
theorem exp_not (g : Addr) : expE [] (notX g) = 0 := by unfold expE; rw [all_not, ins_not]; rfl
theorem exp_add (g g' : Addr) : expE [] (addX g g') = 0 := by unfold expE; rw [all_add, ins_add]; rfl
theorem node_aw (g1 g2 g3 g4 g5 : Addr) : nodE [] (awN g1 g2 g3 g4 g5) = (-1, 0) := by
  have hp : ∀ s, idP s = true → portE [] (awD s) = 0 := fun s hs => by
    unfold portE dclE
    simp only
    rw [hs, if_pos rfl]
    rfl
  have hh : hedE [] (awN g1 g2 g3 g4 g5) = 0 := by
    unfold hedE
    rw [show (awN g1 g2 g3 g4 g5).nm = aF from rfl, id_aF, if_pos rfl, if_neg (by simp), if_neg (by simp)]
    show orE (errs [portE [] (awD aA)]) (orE (errs [portE [] (awD aB)]) 0) = 0
    rw [hp _ id_aA, hp _ id_aB]
    rfl
  rw [nodE_eq, hh, if_pos rfl]
  have hx : eqnE [] (awQ g3 g5) = 0 := by
    unfold eqnE
    simp only
    rw [if_neg (by simp), if_neg (by simp), exp_not]
    show orE (errs [idE aB]) (orE 0 (if 1 < 1 ∧ (notX g5).k ≠ 10 then 5 else 0)) = 0
    rw [if_neg (show ¬ (1 < 1 ∧ (notX g5).k ≠ 10) by omega), show idE aB = 0 by unfold idE; rw [id_aB]; rfl]
    rfl
  have hq : eqsE [] (awN g1 g2 g3 g4 g5).qs.l = none := by
    show eqsE [] [awQ g3 g5] = none
    rw [eqsE, hx, if_pos rfl]
    rfl
  rw [hq]
  rfl
theorem chk_aw (g1 g2 g3 g4 g5 g6 : Addr) : chkE (awP g1 g2 g3 g4 g5 g6) = ((0, 0), 0) := by
  unfold chkE
  rw [if_neg (by simp)]
  show (if errs [] = 0 then _ else _) = _
  rw [if_pos (show errs [] = 0 from rfl)]
  show wheR (ndsE [] [awN g1 g2 g3 g4 g5]) = _
  rw [ndsE, node_aw, if_pos rfl]
  rfl
theorem prg_aw (g1 g2 g3 g4 g5 g6 : Addr) : prgS (awP g1 g2 g3 g4 g5 g6) = [110, 111, 100, 101, 32, 102, 40, 97, 58, 32, 98, 111, 111, 108, 41, 32, 114, 101, 116, 117, 114, 110, 115, 32, 40, 98, 58, 32, 98, 111, 111, 108, 41, 10, 108, 101, 116, 10, 32, 32, 98, 32, 61, 32, 110, 111, 116, 32, 97, 59, 10, 116, 101, 108, 10] := by
  have hn : nodeS [] (awN g1 g2 g3 g4 g5) = [110, 111, 100, 101, 32, 102, 40, 97, 58, 32, 98, 111, 111, 108, 41, 32, 114, 101, 116, 117, 114, 110, 115, 32, 40, 98, 58, 32, 98, 111, 111, 108, 41, 10, 108, 101, 116, 10, 32, 32, 98, 32, 61, 32, 110, 111, 116, 32, 97, 59, 10, 116, 101, 108, 10] := by
    unfold nodeS
    have he : eq1S [] 1 (awQ g3 g5) = [32, 32, 98, 32, 61, 32, 110, 111, 116, 32, 97, 59, 10] := by
      unfold eq1S eqnS
      rw [tx_not]
      kernel_rfl
    show linS 0 _ ++ _ ++ _ ++ _ ++ _ ++ ([eq1S [] 1 (awQ g3 g5)]).flatten ++ _ ++ _ = _
    rw [he]
    kernel_rfl
  unfold prgS
  show [] ++ [nodeS [] (awN g1 g2 g3 g4 g5)].flatten = _
  rw [hn]
  rfl
theorem wf1_of0 {x : Xt} (h : chk1 wokP x = 0) (ht : x.t ≤ 9223372036854775807) (hl : x.ar.length ≤ 1048576) : wfX x := ⟨wf1_of h, ht, Nat.le_trans hl (by decide)⟩
theorem aw_wfX (g : Addr) : ∀ y ∈ (notX g).list, wfX y := fun y hy => by
  rw [list_not] at hy
  rcases List.mem_cons.1 hy with rfl | hy
  · exact wf1_of0 (c1_not g) (by simp [Xt.t]) (by simp [Xt.ar])
  · obtain rfl := List.mem_singleton.1 hy
    exact wf1_of0 c1_var (by decide) (by decide)
theorem aw_NdW (g1 g2 g3 g4 g5 : Addr) : NdW (awN g1 g2 g3 g4 g5) := by
  refine ⟨fun r hr => ?_, fun q hq => ?_, fun r hr y hy => ?_, fun a ha => by cases ha⟩
  · rcases hr with rfl | rfl | rfl
    · exact ⟨by simp, fun d hd => by obtain rfl := List.mem_singleton.1 hd; decide⟩
    · exact ⟨by simp, fun d hd => by obtain rfl := List.mem_singleton.1 hd; decide⟩
    · exact ⟨by simp, fun d hd => by cases hd⟩
  · obtain rfl := List.mem_singleton.1 hq
    exact ⟨by simp, aw_wfX g5⟩
  · rcases hr with rfl | rfl
    · cases hy
    · cases hy
theorem add_wfX (g g' : Addr) : ∀ y ∈ (addX g g').list, wfX y := fun y hy => by
  rw [list_add] at hy
  simp only [List.mem_cons, List.not_mem_nil, or_false] at hy
  rcases hy with rfl | rfl | rfl | rfl | rfl
  · exact wf1_of0 (c1_add g g') (by simp [Xt.t]) (by simp [Xt.ar])
  · exact wf1_of0 (c1_num 1 (by decide)) (by decide) (by decide)
  · exact wf1_of0 (c1_mul g) (by simp [Xt.t]) (by simp [Xt.ar])
  · exact wf1_of0 c1_var (by decide) (by decide)
  · exact wf1_of0 (c1_num (-2) (by decide)) (by decide) (by decide)
end Go.Proofs.YtoimjcfdiljkjaaGreatDoor
namespace Go.Proofs.YtoimjcfdiljkjaaGreatDoor
open Go.RowKit
theorem id_size {s : ByteArray} (h : idP s = true) : s.size ≤ 66 := by
  unfold idP at h
  simp only [Bool.and_eq_true, decide_eq_true_eq, beq_iff_eq] at h
  obtain ⟨h0, h1, h2⟩ := h
  unfold fst at h1 h2
  rw [dif_pos h0] at h1 h2
  split at h1
  · rename_i hp
    rw [if_pos hp] at h2
    split at h2
    · simp only at h2
      have : sp pI s.data.toList = s.size := by omega
      omega
    · simp only at h2
      omega
  · split at h1
    · split at h1
      · simp at h1
      · split at h1
        · simp at h1
        · simp at h1
    · split at h1
      · split at h1
        · simp at h1
        · simp at h1
      · split at h1
        · simp at h1
        · split at h1
          · simp at h1
          · simp at h1
theorem nm_66 {x : Xt} (h : chk1 wokP x = 0) : x.nm.size ≤ 66 := by
  unfold chk1 at h
  split at h
  · cases h
  split at h
  · cases h
  split at h
  · cases h
  rename_i h1 h2 h3
  have h4 : formedP x.k x.op x.t x.v x.ar.length (wokP x.nm) = true ∧ onlyP x.k x.op x.t x.v (x.nm.toList == []) = true := by
    rw [← Bool.and_eq_true]
    exact Decidable.byContradiction fun hn => h2 (by simpa using hn)
  by_cases hi : hasIdn x.k = true
  · rw [hi, Bool.true_and] at h3
    exact id_size (by simpa using h3)
  · by_cases h11 : x.k = 11
    · have := h4.1
      unfold formedP at this
      rw [if_neg (by omega), if_neg (by omega), if_neg (by omega), if_neg (by omega), if_neg (by omega), if_neg (by omega), if_neg (by omega), if_neg (by omega), if_neg (by omega), if_pos h11, Bool.and_eq_true] at this
      have h5 := this.2
      have hw : x.nm.size ≤ 66 ∧ ∃ h l, x.nm = bw.wtx h l ∧ bw.ck h l = 0 := Classical.byContradiction fun hn => by
        rw [wokP_no hn] at h5
        cases h5
      exact hw.1
    · rcases Nat.eq_zero_or_pos x.nm.size with h0 | h0
      · omega
      · have hne := (ne_facts h0).1
        have ho := h4.2
        rw [hne] at ho
        simp only [hasIdn, hasVar, Bool.or_eq_true, beq_iff_eq, not_or] at hi
        unfold onlyP at ho
        split at ho
        · cases ho
        split at ho
        · cases ho
        rw [if_neg (by omega), if_neg (by omega), if_neg (by omega), if_neg (by omega)] at ho
        simp at ho
theorem k_11 {x : Xt} (h : chk1 wokP x = 0) : (1 ≤ x.k ∧ x.k ≤ 11) ∧ x.ar.length ≤ 64 := by
  unfold chk1 at h
  split at h
  · cases h
  split at h
  · cases h
  rename_i h1 h2
  refine ⟨?_, by omega⟩
  have h4 : formedP x.k x.op x.t x.v x.ar.length (wokP x.nm) = true := by
    refine Decidable.byContradiction fun hn => h2 ?_
    have : formedP x.k x.op x.t x.v x.ar.length (wokP x.nm) = false := by simpa using hn
    rw [this]; rfl
  refine Decidable.byContradiction fun hn => ?_
  unfold formedP at h4
  rw [if_neg (by omega), if_neg (by omega), if_neg (by omega), if_neg (by omega), if_neg (by omega), if_neg (by omega), if_neg (by omega), if_neg (by omega), if_neg (by omega), if_neg (by omega)] at h4
  cases h4
theorem wfK_of {x : Xt} (h : chk1 wokP x = 0) (ht : x.t ≤ 9223372036854775807) : wfK x := by
  obtain ⟨h1, h2⟩ := k_11 h
  exact ⟨⟨wf1_of h, ht, by omega⟩, h1, by omega⟩
theorem getD3 (ts : List (List UInt8)) : (ts.getD 0 []).length + (ts.getD 1 []).length + (ts.getD 2 []).length ≤ (ts.map List.length).sum := by
  rcases ts with _ | ⟨a, _ | ⟨b, _ | ⟨c, r⟩⟩⟩ <;> simp <;> omega
theorem opd_le (x : Xt) (s : List UInt8) : (opdS x s).length ≤ s.length + 2 := by
  unfold opdS brS
  split
  · omega
  · simp only [List.length_append, List.length_cons, List.length_nil]; omega
theorem opI_le (l : List Xt) (ts : List (List UInt8)) (i : Nat) : (opI l ts i).length ≤ (ts.getD i []).length + 2 := opd_le _ _
theorem sym_len (op : Int) : (symS op).length ≤ 3 := by
  have key : ∀ (c : Prop) [Decidable c] (a b : List UInt8), a.length ≤ 3 → b.length ≤ 3 → (if c then a else b).length ≤ 3 := fun c _ a b ha hb => by split <;> assumption
  unfold symS
  repeat (refine key _ _ _ (by decide) ?_)
  decide
theorem join_len (ts : List (List UInt8)) (sep : List UInt8) : (Lib.join ts sep).length ≤ (ts.map fun t => t.length + sep.length).sum := by
  cases ts with
  | nil => simp [Lib.join_nil]
  | cons a r =>
    rw [Lib.join_length, List.map_cons, List.sum_cons]
    have : Lib.lens (a :: r) = a.length + Lib.lens r := by simp [Lib.lens]
    have h2 : ∀ l : List (List UInt8), (l.map fun t => t.length + sep.length).sum = Lib.lens l + sep.length * l.length := by
      intro l
      induction l with
      | nil => simp [Lib.lens]
      | cons b l ih => rw [List.map_cons, List.sum_cons, ih]; simp [Lib.lens, Nat.mul_add]; omega
    rw [h2, this]
    omega
theorem idx_len (ts : List (List UInt8)) (c : Nat) : ∀ f : Nat → List UInt8 → List UInt8, (∀ i s, (f i s).length ≤ s.length + c) → (ts.mapIdx f).flatten.length ≤ (ts.map fun t => t.length + c).sum := by
  induction ts with
  | nil => intro f _; simp
  | cons a l ih =>
    intro f hf
    rw [List.mapIdx_cons, List.flatten_cons, List.length_append, List.map_cons, List.sum_cons]
    have h1 := hf 0 a
    have h2 := ih (fun i => f (i + 1)) fun i s => hf (i + 1) s
    omega
theorem take_get (ts : List (List UInt8)) (c : Nat) : ∀ k, ((ts.take k).map fun t => t.length + c).sum + (ts.getD k []).length ≤ (ts.map fun t => t.length + c).sum := by
  induction ts with
  | nil => intro k; simp
  | cons a l ih =>
    intro k
    cases k with
    | zero => simp; omega
    | succ k =>
      have := ih k
      rw [List.take_succ_cons, List.map_cons, List.map_cons, List.sum_cons, List.sum_cons, List.getD_cons_succ]
      omega
theorem flat_rev (l : List (List UInt8)) : l.reverse.flatten.length = l.flatten.length := by
  simp [List.length_flatten, List.sum_reverse]
theorem nd_len (es : List va.En) (M : Nat) (hv : ∀ t v, (valS es t v).length ≤ M) (x : Xt) (hn : x.nm.size ≤ M) (ts : List (List UInt8)) (hl : ts.length = x.ar.length) : (ndS es x ts).length ≤ 30 + 2 * M + (ts.map fun t => t.length + M + 10).sum := by
  have h3 := getD3 ts
  have hs : ∀ c, (ts.map fun t => t.length + c).sum = (ts.map List.length).sum + c * ts.length := fun c => by
    clear h3 hl
    induction ts with
    | nil => simp
    | cons a l ih => simp only [List.map_cons, List.sum_cons, ih, List.length_cons, Nat.mul_add]; omega
  have hs9 := hs (M + 10)
  have e9 : (ts.map fun t => t.length + M + 10) = (ts.map fun t => t.length + (M + 10)) := by congr 1
  rw [e9, hs9]
  have hb : (bsT x.nm).length ≤ M := by rw [bsT_size]; exact hn
  have h0 := opI_le x.ar ts 0
  have h1 := opI_le x.ar ts 1
  have hvx := hv x.t x.v
  generalize (ts.map List.length).sum = S at *
  have hm : 0 ≤ (M + 10) * ts.length := Nat.zero_le _
  unfold ndS
  split
  · omega
  split
  · unfold oprS
    split
    · simp only [List.length_append, List.length_cons, List.length_nil]; omega
    split
    · have : (negS (x.ar.getD 0 xt0) (ts.getD 0 [])).length ≤ (ts.getD 0 []).length + 2 := by
        unfold negS
        split
        · unfold brS; simp only [List.length_append, List.length_cons, List.length_nil]; omega
        · exact opd_le _ _
      simp only [List.length_append, List.length_cons, List.length_nil]; omega
    · have := sym_len x.op
      unfold betS
      simp only [List.length_append, List.length_cons, List.length_nil]; omega
  split
  · simp only [List.length_append, List.length_cons, List.length_nil]; omega
  split
  · simp only [List.length_append, List.length_cons, List.length_nil]; omega
  split
  · unfold betS; simp only [List.length_append, List.length_cons, List.length_nil]; omega
  split
  · unfold betS; simp only [List.length_append, List.length_cons, List.length_nil]; omega
  split
  · unfold smpS brS; simp only [List.length_append, List.length_cons, List.length_nil]; omega
  split
  · have hi := idx_len ts (M + 7) (braS es x.t) fun i s => by
      have := hv x.t i
      unfold braS brS
      simp only [List.length_append, List.length_cons, List.length_nil]
      omega
    have hf : (brsS es x.t ts).flatten.length ≤ (ts.map fun t => t.length + (M + 7)).sum := by
      unfold brsS
      split
      · rw [flat_rev]; exact hi
      · exact hi
    rw [hs] at hf
    have hm2 : (M + 7) * ts.length ≤ (M + 10) * ts.length := Nat.mul_le_mul_right _ (by omega)
    unfold mrgS
    simp only [List.length_append, List.length_cons, List.length_nil]
    omega
  split
  · have hm2 : 2 * ts.length ≤ (M + 10) * ts.length := Nat.mul_le_mul_right _ (by omega)
    have hs2 := hs 2
    unfold calS brS
    by_cases v1 : x.v = 1
    · rw [if_pos v1, v1]
      have hj : (Lib.join (ts.take (ts.length - (1 : Int).toNat)) [44, 32]).length ≤ ((ts.take (ts.length - (1 : Int).toNat)).map fun t => t.length + 2).sum := join_len _ [44, 32]
      have ht := take_get ts 2 (ts.length - (1 : Int).toNat)
      have ho := opI_le x.ar ts (ts.length - 1)
      have e1 : ts.length - (1 : Int).toNat = ts.length - 1 := rfl
      rw [e1] at hj ht ⊢
      simp only [List.length_append, List.length_cons, List.length_nil]
      omega
    · rw [if_neg v1]
      have hj : (Lib.join (ts.take (ts.length - x.v.toNat)) [44, 32]).length ≤ ((ts.take (ts.length - x.v.toNat)).map fun t => t.length + 2).sum := join_len _ [44, 32]
      have ht := take_get ts 2 (ts.length - x.v.toNat)
      simp only [List.length_append, List.length_cons, List.length_nil]
      omega
  split
  · simp only [List.length_append, List.length_cons, List.length_nil]; omega
  · omega
theorem tx_len (es : List va.En) (M : Nat) (hv : ∀ t v, (valS es t v).length ≤ M) : ∀ x : Xt, (∀ y ∈ x.list, y.nm.size ≤ M) → (x.tx es).length + M + 10 ≤ x.size * (3 * M + 40) := by
  refine Xt.ind fun x ih hn => ?_
  rw [Xt.tx_eq]
  have h := nd_len es M hv x (hn x (list_self x)) (x.ar.map (Xt.tx es)) (by simp)
  rw [List.map_map] at h
  have hs : ((x.ar.map ((fun t => t.length + M + 10) ∘ Xt.tx es))).sum ≤ (x.ar.map Xt.size).sum * (3 * M + 40) := by
    have key : ∀ l : List Xt, (∀ y ∈ l, (y.tx es).length + M + 10 ≤ y.size * (3 * M + 40)) → ((l.map ((fun t => t.length + M + 10) ∘ Xt.tx es))).sum ≤ (l.map Xt.size).sum * (3 * M + 40) := by
      intro l
      induction l with
      | nil => intro _; simp
      | cons a l ih2 =>
        intro h
        rw [List.map_cons, List.map_cons, List.sum_cons, List.sum_cons, Nat.add_mul]
        have h1 := h a List.mem_cons_self
        have h2 := ih2 fun y hy => h y (List.mem_cons_of_mem _ hy)
        simp only [Function.comp] at h1 h2 ⊢
        omega
    exact key x.ar fun y hy => ih y hy fun z hz => hn z (list_kid hy hz)
  rw [Xt.size_eq, Nat.add_mul]
  omega
end Go.Proofs.YtoimjcfdiljkjaaGreatDoor
namespace Go.Proofs.YtoimjcfdiljkjaaGreatDoor
open Go.RowKit
theorem rdr_one {α : Type} {w : World} {B sz : Nat} {C : World → Addr → α → Prop} {ad : Addr} {y : α} (hb : ad.block < B) (hc : C w ad y) (c : Nat) (h1 : 1 ≤ c) : RdR w B sz C ⟨some ad, c, [y]⟩ := by
  refine ⟨fun _ => ⟨ad, rfl, hb⟩, fun a i z hA hz => ?_, by simp [maxLen], h1⟩
  obtain rfl : ad = a := Option.some.inj hA
  cases i with
  | zero =>
    obtain rfl : y = z := by simpa using hz
    rw [Nat.zero_mul, add_zero']
    exact hc
  | succ i => simp at hz
theorem rsn_nil {w : World} {B : Nat} : RsDs w B ⟨none, 0, []⟩ := ⟨RdR.nil _ _ _ _ _, fun d h => by cases h⟩
end Go.Proofs.YtoimjcfdiljkjaaGreatDoor
namespace Go.Proofs.YtoimjcfdiljkjaaGreatDoor
open Go.RowKit Go.Sort
theorem law_variable (s : ByteArray) (w : World) : Calls Tryz.prog 20 #[.string s] w (fun e w' => e = .returned (.agg #[.int .i64 2, .int .i64 0, .int .i64 0, .int .i64 0, .string s, .slice none 0 0]) ∧ w' = w.alloc (.cells #[.int .i64 2, .int .i64 0, .int .i64 0, .int .i64 0, .string s, .slice none 0 0] 33)) := by
  go_enter Tryz.func20, Tryz.ntmps20
  go_wp2
  refine bodyPost_ret (v := .agg #[.int .i64 2, .int .i64 0, .int .i64 0, .int .i64 0, .string s, .slice none 0 0]) (by simp [results, Tryz.f20, go_sem]) rfl ⟨rfl, rfl⟩
theorem law_number (n : Int) (w : World) : Calls Tryz.prog 21 #[.int .i64 n] w (fun e w' => e = .returned (.agg #[.int .i64 1, .int .i64 0, .int .i64 2, .int .i64 n, .string ⟨#[]⟩, .slice none 0 0]) ∧ w' = w.alloc (.cells #[.int .i64 1, .int .i64 0, .int .i64 2, .int .i64 n, .string ⟨#[]⟩, .slice none 0 0] 33)) := by
  go_enter Tryz.func21, Tryz.ntmps21
  go_wp2
  refine bodyPost_ret (v := .agg #[.int .i64 1, .int .i64 0, .int .i64 2, .int .i64 n, .string ⟨#[]⟩, .slice none 0 0]) (by simp [results, Tryz.f21, go_sem]) rfl ⟨rfl, rfl⟩
theorem rdr_two {α : Type} {w : World} {B sz : Nat} {C : World → Addr → α → Prop} {ad : Addr} {y z : α} (hb : ad.block < B) (hc : C w ad y) (hd : C w (ad.add sz) z) (c : Nat) (h1 : 2 ≤ c) : RdR w B sz C ⟨some ad, c, [y, z]⟩ := by
  refine ⟨fun _ => ⟨ad, rfl, hb⟩, fun a i u hA hu => ?_, by simp [maxLen], h1⟩
  obtain rfl : ad = a := Option.some.inj hA
  rcases i with _ | _ | i
  · obtain rfl : y = u := by simpa using hu
    rw [Nat.zero_mul, add_zero']
    exact hc
  · obtain rfl : z = u := by simpa using hu
    rw [Nat.one_mul]
    exact hd
  · simp at hu
theorem leaf_rs {w : World} {B : Nat} {k op t v : Int} {nm : ByteArray} (ht : t ≤ 9223372036854775807) (hn : nm.size ≤ 140737488351232) : RsX w B (.mk k op t v nm none 0 []) := by
  refine ⟨.mk _ (fun h => absurd rfl h) (fun ad i y h => by cases h) (fun y h => by cases h) ⟨⟨Nat.zero_le _, Nat.le_trans hn (by decide)⟩, Nat.le_refl _⟩, fun y hy => ?_⟩
  rw [Xt.list_eq] at hy
  obtain rfl : y = .mk k op t v nm none 0 [] := by simpa [Xt.ar] using hy
  exact ⟨hn, ht⟩
theorem nos_rs {w : World} {B : Nat} {k op t v : Int} {nm : ByteArray} {ad : Addr} {c : Nat} {l : List Xt} (ht : t ≤ 9223372036854775807) (hn : nm.size ≤ 140737488351232) (hr : RdR w B 6 XC ⟨some ad, c, l⟩) (hk : ∀ y ∈ l, RsX w B y) : RsX w B (.mk k op t v nm (some ad) c l) := by
  refine ⟨.mk _ hr.1 hr.2.1 (fun y hy => (hk y hy).1) ⟨⟨hr.2.2.1, Nat.le_trans hn (by decide)⟩, hr.2.2.2⟩, fun y hy => ?_⟩
  rw [Xt.list_eq] at hy
  rcases List.mem_cons.1 hy with rfl | hy
  · exact ⟨hn, ht⟩
  · obtain ⟨l', hl', hy'⟩ := List.mem_flatten.1 hy
    obtain ⟨z, hz, rfl⟩ := List.mem_map.1 hl'
    exact (hk z hz).2 y hy'
set_option maxHeartbeats 2000000 in
set_option maxRecDepth 20000 in
theorem aw_rs (w : World) : RsP ((((((((w.alloc (.cells #[.string aA, .int .i64 1, .slice none 0 0] 50)).alloc (.cells #[.string aB, .int .i64 1, .slice none 0 0] 50)).alloc (.cells #[.string aF, .slice (some ⟨w.heap.size, 0, none⟩) 1 1, .slice (some ⟨w.heap.size + 1, 0, none⟩) 1 1, .slice none 0 0, .slice (some ⟨w.heap.size + 1 + 1 + 1 + 1 + 1 + 1, 0, none⟩) 1 1, .slice none 0 0, .slice none 0 0, .slice none 0 0] 45)).alloc (.cells #[.string aB] 9)).alloc (.cells #[.int .i64 2, .int .i64 0, .int .i64 0, .int .i64 0, .string aA, .slice none 0 0] 33)).alloc (.cells #[.int .i64 2, .int .i64 0, .int .i64 0, .int .i64 0, .string aA, .slice none 0 0] 33)).alloc (.cells #[.slice (some ⟨w.heap.size + 1 + 1 + 1, 0, none⟩) 1 1, .int .i64 3, .int .i64 1, .int .i64 0, .int .i64 0, .string ⟨#[]⟩, .slice (some ⟨w.heap.size + 1 + 1 + 1 + 1 + 1, 0, none⟩) 1 1] 54)).alloc (.cells #[.string aF, .slice (some ⟨w.heap.size, 0, none⟩) 1 1, .slice (some ⟨w.heap.size + 1, 0, none⟩) 1 1, .slice none 0 0, .slice (some ⟨w.heap.size + 1 + 1 + 1 + 1 + 1 + 1, 0, none⟩) 1 1, .slice none 0 0, .slice none 0 0, .slice none 0 0] 45)) ((((((((w.alloc (.cells #[.string aA, .int .i64 1, .slice none 0 0] 50)).alloc (.cells #[.string aB, .int .i64 1, .slice none 0 0] 50)).alloc (.cells #[.string aF, .slice (some ⟨w.heap.size, 0, none⟩) 1 1, .slice (some ⟨w.heap.size + 1, 0, none⟩) 1 1, .slice none 0 0, .slice (some ⟨w.heap.size + 1 + 1 + 1 + 1 + 1 + 1, 0, none⟩) 1 1, .slice none 0 0, .slice none 0 0, .slice none 0 0] 45)).alloc (.cells #[.string aB] 9)).alloc (.cells #[.int .i64 2, .int .i64 0, .int .i64 0, .int .i64 0, .string aA, .slice none 0 0] 33)).alloc (.cells #[.int .i64 2, .int .i64 0, .int .i64 0, .int .i64 0, .string aA, .slice none 0 0] 33)).alloc (.cells #[.slice (some ⟨w.heap.size + 1 + 1 + 1, 0, none⟩) 1 1, .int .i64 3, .int .i64 1, .int .i64 0, .int .i64 0, .string ⟨#[]⟩, .slice (some ⟨w.heap.size + 1 + 1 + 1 + 1 + 1, 0, none⟩) 1 1] 54)).alloc (.cells #[.string aF, .slice (some ⟨w.heap.size, 0, none⟩) 1 1, .slice (some ⟨w.heap.size + 1, 0, none⟩) 1 1, .slice none 0 0, .slice (some ⟨w.heap.size + 1 + 1 + 1 + 1 + 1 + 1, 0, none⟩) 1 1, .slice none 0 0, .slice none 0 0, .slice none 0 0] 45)).heap.size (awP ⟨w.heap.size, 0, none⟩ ⟨w.heap.size + 1, 0, none⟩ ⟨w.heap.size + 1 + 1 + 1, 0, none⟩ ⟨w.heap.size + 1 + 1 + 1 + 1 + 1 + 1, 0, none⟩ ⟨w.heap.size + 1 + 1 + 1 + 1 + 1, 0, none⟩ ⟨w.heap.size + 1 + 1 + 1 + 1 + 1 + 1 + 1, 0, none⟩) := by
  obtain ⟨W, hW⟩ : ∃ W, ((((((((w.alloc (.cells #[.string aA, .int .i64 1, .slice none 0 0] 50)).alloc (.cells #[.string aB, .int .i64 1, .slice none 0 0] 50)).alloc (.cells #[.string aF, .slice (some ⟨w.heap.size, 0, none⟩) 1 1, .slice (some ⟨w.heap.size + 1, 0, none⟩) 1 1, .slice none 0 0, .slice (some ⟨w.heap.size + 1 + 1 + 1 + 1 + 1 + 1, 0, none⟩) 1 1, .slice none 0 0, .slice none 0 0, .slice none 0 0] 45)).alloc (.cells #[.string aB] 9)).alloc (.cells #[.int .i64 2, .int .i64 0, .int .i64 0, .int .i64 0, .string aA, .slice none 0 0] 33)).alloc (.cells #[.int .i64 2, .int .i64 0, .int .i64 0, .int .i64 0, .string aA, .slice none 0 0] 33)).alloc (.cells #[.slice (some ⟨w.heap.size + 1 + 1 + 1, 0, none⟩) 1 1, .int .i64 3, .int .i64 1, .int .i64 0, .int .i64 0, .string ⟨#[]⟩, .slice (some ⟨w.heap.size + 1 + 1 + 1 + 1 + 1, 0, none⟩) 1 1] 54)).alloc (.cells #[.string aF, .slice (some ⟨w.heap.size, 0, none⟩) 1 1, .slice (some ⟨w.heap.size + 1, 0, none⟩) 1 1, .slice none 0 0, .slice (some ⟨w.heap.size + 1 + 1 + 1 + 1 + 1 + 1, 0, none⟩) 1 1, .slice none 0 0, .slice none 0 0, .slice none 0 0] 45)) = W := ⟨_, rfl⟩
  have hz : W.heap.size = w.heap.size + 1 + 1 + 1 + 1 + 1 + 1 + 1 + 1 := by rw [← hW]; simp only [World.size_alloc]
  have d1 : DC W ⟨w.heap.size, 0, none⟩ (awD aA) := by
    rw [← hW]
    refine ⟨?_, ?_, ?_⟩ <;> simp [go_sem]
  have d2 : DC W ⟨w.heap.size + 1, 0, none⟩ (awD aB) := by
    rw [← hW]
    refine ⟨?_, ?_, ?_⟩ <;> simp [go_sem]
  have d3 : BC W ⟨w.heap.size + 1 + 1 + 1, 0, none⟩ aB := by
    rw [← hW]
    unfold BC
    simp [go_sem]
  have d5 : XC W ⟨w.heap.size + 1 + 1 + 1 + 1 + 1, 0, none⟩ varA := by
    rw [← hW]
    refine ⟨?_, ?_, ?_, ?_, ?_, ?_⟩ <;> simp [go_sem, Xt.k, Xt.op, Xt.t, Xt.v, Xt.nm, Xt.A, Xt.ar, Xt.c]
  have d4 : QC W ⟨w.heap.size + 1 + 1 + 1 + 1 + 1 + 1, 0, none⟩ (awQ ⟨w.heap.size + 1 + 1 + 1, 0, none⟩ ⟨w.heap.size + 1 + 1 + 1 + 1 + 1, 0, none⟩) := by
    rw [← hW]
    refine ⟨?_, ?_, ?_, ?_, ?_, ?_, ?_⟩ <;> simp [go_sem, Xt.k, Xt.op, Xt.t, Xt.v, Xt.nm, Xt.A, Xt.ar, Xt.c]
  have d6 : NC W ⟨w.heap.size + 1 + 1 + 1 + 1 + 1 + 1 + 1, 0, none⟩ (awN ⟨w.heap.size, 0, none⟩ ⟨w.heap.size + 1, 0, none⟩ ⟨w.heap.size + 1 + 1 + 1, 0, none⟩ ⟨w.heap.size + 1 + 1 + 1 + 1 + 1 + 1, 0, none⟩ ⟨w.heap.size + 1 + 1 + 1 + 1 + 1, 0, none⟩) := by
    rw [← hW]
    refine ⟨?_, ?_, ?_, ?_, ?_, ?_, ?_, ?_⟩ <;> simp [go_sem]
  rw [hW, hz]
  have hD : ∀ s, s.size ≤ 140737488351232 → RsD W (w.heap.size + 1 + 1 + 1 + 1 + 1 + 1 + 1 + 1) (awD s) := fun s hs => ⟨⟨hs, by simp⟩, RdR.nil _ _ _ _ _, fun o h => by cases h⟩
  refine ⟨⟨⟨fun h => absurd rfl h, fun i e h => by simp at h⟩, ⟨Nat.zero_le _, Nat.zero_le _⟩, fun e h => by cases h⟩, rdr_one (by simp only; omega) d6 1 (Nat.le_refl _), fun n hn => ?_⟩
  obtain rfl := List.mem_singleton.1 hn
  refine ⟨show aF.size ≤ 140737488351232 by decide, ⟨rdr_one (by simp only; omega) d1 1 (Nat.le_refl _), fun d hd => ?_⟩, ⟨rdr_one (by simp only; omega) d2 1 (Nat.le_refl _), fun d hd => ?_⟩, rsn_nil, ⟨rdr_one (by simp only; omega) d4 1 (Nat.le_refl _), fun q hq => ?_⟩, ⟨RdR.nil _ _ _ _ _, fun d h => by cases h⟩, ⟨RdR.nil _ _ _ _ _, fun d h => by cases h⟩, ⟨RdR.nil _ _ _ _ _, fun d h => by cases h⟩⟩
  · obtain rfl := List.mem_singleton.1 hd
    exact hD _ (by decide)
  · obtain rfl := List.mem_singleton.1 hd
    exact hD _ (by decide)
  · obtain rfl := List.mem_singleton.1 hq
    refine ⟨⟨rdr_one (by simp only; omega) d3 1 (Nat.le_refl _), fun b hb => ?_⟩, nos_rs (by decide) (by decide) (rdr_one (by simp only; omega) d5 1 (Nat.le_refl _)) fun y hy => ?_⟩
    · obtain rfl := List.mem_singleton.1 hb
      decide
    · obtain rfl := List.mem_singleton.1 hy
      exact leaf_rs (by decide) (by decide)
def AX (W : World) (k : Nat) : Prop := k + 6 ≤ W.heap.size ∧ W.cell? ⟨k + 1 + 1, 0, none⟩ = some (.int .i64 2) ∧ W.cell? ⟨k + 1 + 1, 1, none⟩ = some (.int .i64 0) ∧ W.cell? ⟨k + 1 + 1, 2, none⟩ = some (.int .i64 0) ∧ W.cell? ⟨k + 1 + 1, 3, none⟩ = some (.int .i64 0) ∧ W.cell? ⟨k + 1 + 1, 4, none⟩ = some (.string aA) ∧ W.cell? ⟨k + 1 + 1, 5, none⟩ = some (.slice none 0 0) ∧ W.cell? ⟨k + 1 + 1, 6, none⟩ = some (.int .i64 1) ∧ W.cell? ⟨k + 1 + 1, 7, none⟩ = some (.int .i64 0) ∧ W.cell? ⟨k + 1 + 1, 8, none⟩ = some (.int .i64 2) ∧ W.cell? ⟨k + 1 + 1, 9, none⟩ = some (.int .i64 (-2)) ∧ W.cell? ⟨k + 1 + 1, 10, none⟩ = some (.string ⟨#[]⟩) ∧ W.cell? ⟨k + 1 + 1, 11, none⟩ = some (.slice none 0 0) ∧ W.cell? ⟨k + 1 + 1 + 1 + 1 + 1, 0, none⟩ = some (.int .i64 1) ∧ W.cell? ⟨k + 1 + 1 + 1 + 1 + 1, 1, none⟩ = some (.int .i64 0) ∧ W.cell? ⟨k + 1 + 1 + 1 + 1 + 1, 2, none⟩ = some (.int .i64 2) ∧ W.cell? ⟨k + 1 + 1 + 1 + 1 + 1, 3, none⟩ = some (.int .i64 1) ∧ W.cell? ⟨k + 1 + 1 + 1 + 1 + 1, 4, none⟩ = some (.string ⟨#[]⟩) ∧ W.cell? ⟨k + 1 + 1 + 1 + 1 + 1, 5, none⟩ = some (.slice none 0 0) ∧ W.cell? ⟨k + 1 + 1 + 1 + 1 + 1, 6, none⟩ = some (.int .i64 3) ∧ W.cell? ⟨k + 1 + 1 + 1 + 1 + 1, 7, none⟩ = some (.int .i64 8) ∧ W.cell? ⟨k + 1 + 1 + 1 + 1 + 1, 8, none⟩ = some (.int .i64 0) ∧ W.cell? ⟨k + 1 + 1 + 1 + 1 + 1, 9, none⟩ = some (.int .i64 0) ∧ W.cell? ⟨k + 1 + 1 + 1 + 1 + 1, 10, none⟩ = some (.string ⟨#[]⟩) ∧ W.cell? ⟨k + 1 + 1 + 1 + 1 + 1, 11, none⟩ = some (.slice (some ⟨k + 1 + 1, 0, none⟩) 2 2)
def CL (W : World) (k : Nat) : Prop := k < W.heap.size ∧ W.cell? ⟨k, 0, none⟩ = some (.string aA) ∧ W.cell? ⟨k, 1, none⟩ = some (.int .i64 1) ∧ W.cell? ⟨k, 2, none⟩ = some (.int .i64 1) ∧ W.cell? ⟨k, 3, none⟩ = some (.string aB) ∧ W.cell? ⟨k, 4, none⟩ = some (.int .i64 2) ∧ W.cell? ⟨k, 5, none⟩ = some (.int .i64 0)
theorem rse_nil (W : World) (B : Nat) : RsE W B ⟨none, 0, []⟩ := ⟨⟨fun h => absurd rfl h, fun i e h => by simp at h⟩, ⟨Nat.zero_le _, Nat.zero_le _⟩, fun e h => by cases h⟩
theorem ax_rs {W : World} {k : Nat} (h : AX W k) : RsX W W.heap.size (addX (⟨k + 1 + 1, 0, none⟩ : Addr) (⟨k + 1 + 1 + 1 + 1 + 1, 0, none⟩ : Addr)) := by
  obtain ⟨hz, v0, v1, v2, v3, v4, v5, n0, n1, n2, n3, n4, n5, u0, u1, u2, u3, u4, u5, m0, m1, m2, m3, m4, m5⟩ := h
  have hm : RsX W W.heap.size (mulX (⟨k + 1 + 1, 0, none⟩ : Addr)) := nos_rs (by decide) (by decide) (rdr_two (by simp only; omega) ⟨v0, v1, v2, v3, v4, v5⟩ ⟨n0, n1, n2, n3, n4, n5⟩ 2 (Nat.le_refl _)) fun y hy => by
    simp only [List.mem_cons, List.not_mem_nil, or_false] at hy
    rcases hy with rfl | rfl
    · exact leaf_rs (by decide) (by decide)
    · exact leaf_rs (by decide) (by decide)
  refine nos_rs (by decide) (by decide) (rdr_two (by simp only; omega) ⟨u0, u1, u2, u3, u4, u5⟩ ⟨m0, m1, m2, m3, m4, m5⟩ 2 (Nat.le_refl _)) fun y hy => ?_
  simp only [List.mem_cons, List.not_mem_nil, or_false] at hy
  rcases hy with rfl | rfl
  · exact leaf_rs (by decide) (by decide)
  · exact hm
theorem ax_call {w W : World} {k : Nat} (hs : Std W) (h : AX W k) : Calls Tryz.prog 13 #[.slice none 0 0, .agg #[.int .i64 3, .int .i64 6, .int .i64 0, .int .i64 0, .string ⟨#[]⟩, .slice (some (⟨k + 1 + 1 + 1 + 1 + 1, 0, none⟩ : Addr)) 2 2]] W (Bel (.tuple #[.string ⟨#[49, 32, 43, 32, 40, 97, 32, 42, 32, 40, 45, 50, 41, 41]⟩, .int .i64 0]) W) := by
  have := sw_Expr ⟨none, 0, []⟩ (addX (⟨k + 1 + 1, 0, none⟩ : Addr) (⟨k + 1 + 1 + 1 + 1 + 1, 0, none⟩ : Addr)) W hs (rse_nil _ _) (ax_rs h) (fun _ => ⟨add_wfX _ _, by rw [tx_add]; decide⟩)
  rw [exp_add, if_pos rfl, tx_add] at this
  exact this
theorem cl_call {W : World} {k : Nat} (hs : Std W) (h : CL W k) : Calls Tryz.prog 15 #[.slice none 0 0, .slice (some ⟨k, 0, none⟩) 2 2] W (Bel (.tuple #[.string ⟨#[119, 104, 101, 110, 32, 116, 114, 117, 101, 40, 97, 41, 32, 119, 104, 101, 110, 32, 48, 40, 98, 41]⟩, .int .i64 0]) W) := by
  obtain ⟨hz, c0, c1, c2, c3, c4, c5⟩ := h
  have hr : RsO W W.heap.size ⟨some ⟨k, 0, none⟩, 2, [⟨aA, 1, 1⟩, ⟨aB, 2, 0⟩]⟩ := ⟨rdr_two (by simp only; omega) ⟨c0, c1, c2⟩ ⟨c3, c4, c5⟩ 2 (Nat.le_refl _), fun y hy => by
    simp only [List.mem_cons, List.not_mem_nil, or_false] at hy
    rcases hy with rfl | rfl
    · exact ⟨by decide, by decide⟩
    · exact ⟨by decide, by decide⟩⟩
  have := sw_Clock ⟨none, 0, []⟩ ⟨some ⟨k, 0, none⟩, 2, [⟨aA, 1, 1⟩, ⟨aB, 2, 0⟩]⟩ W hs (rse_nil _ _) hr (by simp) (fun _ => by rw [clk_aw]; decide)
  rw [clkB_aw, if_pos rfl, if_pos rfl, clk_aw] at this
  exact this
set_option maxHeartbeats 2000000 in
set_option maxRecDepth 20000 in
theorem awake_any (w : World) (hs : Std w) : Calls Tryz.prog 8 #[] w (Bel (.bool true) w) := by
  have KV := Lib.hid law_variable
  have KM := Lib.hid law_number
  have KP : Hid (Calls Tryz.prog 9 #[.agg #[.slice none 0 0, .slice (some ⟨w.heap.size + 1 + 1 + 1 + 1 + 1 + 1 + 1, 0, none⟩) 1 1]] ((((((((w.alloc (.cells #[.string aA, .int .i64 1, .slice none 0 0] 50)).alloc (.cells #[.string aB, .int .i64 1, .slice none 0 0] 50)).alloc (.cells #[.string aF, .slice (some ⟨w.heap.size, 0, none⟩) 1 1, .slice (some ⟨w.heap.size + 1, 0, none⟩) 1 1, .slice none 0 0, .slice (some ⟨w.heap.size + 1 + 1 + 1 + 1 + 1 + 1, 0, none⟩) 1 1, .slice none 0 0, .slice none 0 0, .slice none 0 0] 45)).alloc (.cells #[.string aB] 9)).alloc (.cells #[.int .i64 2, .int .i64 0, .int .i64 0, .int .i64 0, .string aA, .slice none 0 0] 33)).alloc (.cells #[.int .i64 2, .int .i64 0, .int .i64 0, .int .i64 0, .string aA, .slice none 0 0] 33)).alloc (.cells #[.slice (some ⟨w.heap.size + 1 + 1 + 1, 0, none⟩) 1 1, .int .i64 3, .int .i64 1, .int .i64 0, .int .i64 0, .string ⟨#[]⟩, .slice (some ⟨w.heap.size + 1 + 1 + 1 + 1 + 1, 0, none⟩) 1 1] 54)).alloc (.cells #[.string aF, .slice (some ⟨w.heap.size, 0, none⟩) 1 1, .slice (some ⟨w.heap.size + 1, 0, none⟩) 1 1, .slice none 0 0, .slice (some ⟨w.heap.size + 1 + 1 + 1 + 1 + 1 + 1, 0, none⟩) 1 1, .slice none 0 0, .slice none 0 0, .slice none 0 0] 45)) (Bel (.tuple #[.string ⟨#[110, 111, 100, 101, 32, 102, 40, 97, 58, 32, 98, 111, 111, 108, 41, 32, 114, 101, 116, 117, 114, 110, 115, 32, 40, 98, 58, 32, 98, 111, 111, 108, 41, 10, 108, 101, 116, 10, 32, 32, 98, 32, 61, 32, 110, 111, 116, 32, 97, 59, 10, 116, 101, 108, 10]⟩, .int .i64 0]) ((((((((w.alloc (.cells #[.string aA, .int .i64 1, .slice none 0 0] 50)).alloc (.cells #[.string aB, .int .i64 1, .slice none 0 0] 50)).alloc (.cells #[.string aF, .slice (some ⟨w.heap.size, 0, none⟩) 1 1, .slice (some ⟨w.heap.size + 1, 0, none⟩) 1 1, .slice none 0 0, .slice (some ⟨w.heap.size + 1 + 1 + 1 + 1 + 1 + 1, 0, none⟩) 1 1, .slice none 0 0, .slice none 0 0, .slice none 0 0] 45)).alloc (.cells #[.string aB] 9)).alloc (.cells #[.int .i64 2, .int .i64 0, .int .i64 0, .int .i64 0, .string aA, .slice none 0 0] 33)).alloc (.cells #[.int .i64 2, .int .i64 0, .int .i64 0, .int .i64 0, .string aA, .slice none 0 0] 33)).alloc (.cells #[.slice (some ⟨w.heap.size + 1 + 1 + 1, 0, none⟩) 1 1, .int .i64 3, .int .i64 1, .int .i64 0, .int .i64 0, .string ⟨#[]⟩, .slice (some ⟨w.heap.size + 1 + 1 + 1 + 1 + 1, 0, none⟩) 1 1] 54)).alloc (.cells #[.string aF, .slice (some ⟨w.heap.size, 0, none⟩) 1 1, .slice (some ⟨w.heap.size + 1, 0, none⟩) 1 1, .slice none 0 0, .slice (some ⟨w.heap.size + 1 + 1 + 1 + 1 + 1 + 1, 0, none⟩) 1 1, .slice none 0 0, .slice none 0 0, .slice none 0 0] 45)))) := Lib.hid (by
    have := sw_Program (awP ⟨w.heap.size, 0, none⟩ ⟨w.heap.size + 1, 0, none⟩ ⟨w.heap.size + 1 + 1 + 1, 0, none⟩ ⟨w.heap.size + 1 + 1 + 1 + 1 + 1 + 1, 0, none⟩ ⟨w.heap.size + 1 + 1 + 1 + 1 + 1, 0, none⟩ ⟨w.heap.size + 1 + 1 + 1 + 1 + 1 + 1 + 1, 0, none⟩) ((((((((w.alloc (.cells #[.string aA, .int .i64 1, .slice none 0 0] 50)).alloc (.cells #[.string aB, .int .i64 1, .slice none 0 0] 50)).alloc (.cells #[.string aF, .slice (some ⟨w.heap.size, 0, none⟩) 1 1, .slice (some ⟨w.heap.size + 1, 0, none⟩) 1 1, .slice none 0 0, .slice (some ⟨w.heap.size + 1 + 1 + 1 + 1 + 1 + 1, 0, none⟩) 1 1, .slice none 0 0, .slice none 0 0, .slice none 0 0] 45)).alloc (.cells #[.string aB] 9)).alloc (.cells #[.int .i64 2, .int .i64 0, .int .i64 0, .int .i64 0, .string aA, .slice none 0 0] 33)).alloc (.cells #[.int .i64 2, .int .i64 0, .int .i64 0, .int .i64 0, .string aA, .slice none 0 0] 33)).alloc (.cells #[.slice (some ⟨w.heap.size + 1 + 1 + 1, 0, none⟩) 1 1, .int .i64 3, .int .i64 1, .int .i64 0, .int .i64 0, .string ⟨#[]⟩, .slice (some ⟨w.heap.size + 1 + 1 + 1 + 1 + 1, 0, none⟩) 1 1] 54)).alloc (.cells #[.string aF, .slice (some ⟨w.heap.size, 0, none⟩) 1 1, .slice (some ⟨w.heap.size + 1, 0, none⟩) 1 1, .slice none 0 0, .slice (some ⟨w.heap.size + 1 + 1 + 1 + 1 + 1 + 1, 0, none⟩) 1 1, .slice none 0 0, .slice none 0 0, .slice none 0 0] 45)) (hs.to (bel_alloc (bel_alloc (bel_alloc (bel_alloc (bel_alloc (bel_alloc (bel_alloc (bel_box _) _) _) _) _) _) _) _)) (aw_rs w) (fun _ => by
      rw [prg_aw]
      refine ⟨⟨fun e he => (by cases he), fun n hn => ?_⟩, by decide⟩
      obtain rfl := List.mem_singleton.1 hn
      exact aw_NdW _ _ _ _ _)
    rw [chk_aw, prg_aw] at this
    exact this)
  have KX : Hid (∀ W k, Below w.heap.size w W → AX W k → Calls Tryz.prog 13 #[.slice none 0 0, .agg #[.int .i64 3, .int .i64 6, .int .i64 0, .int .i64 0, .string ⟨#[]⟩, .slice (some (⟨k + 1 + 1 + 1 + 1 + 1, 0, none⟩ : Addr)) 2 2]] W (Bel (.tuple #[.string ⟨#[49, 32, 43, 32, 40, 97, 32, 42, 32, 40, 45, 50, 41, 41]⟩, .int .i64 0]) W)) := Lib.hid fun W k hb h => ax_call (w := w) (hs.to hb) h
  have KC : Hid (∀ W k, Below w.heap.size w W → CL W k → Calls Tryz.prog 15 #[.slice none 0 0, .slice (some ⟨k, 0, none⟩) 2 2] W (Bel (.tuple #[.string ⟨#[119, 104, 101, 110, 32, 116, 114, 117, 101, 40, 97, 41, 32, 119, 104, 101, 110, 32, 48, 40, 98, 41]⟩, .int .i64 0]) W)) := Lib.hid fun W k hb h => cl_call (hs.to hb) h
  clear hs
  go_enter Tryz.func8, Tryz.ntmps8
  go_wp2_with (first | (go_at_call 20; (with_reducible refine (KV.out _ _).mono ?_); rintro e w1 ⟨rfl, rfl⟩) | (go_at_call 9; (with_reducible refine KP.out.mono ?_); rintro e w1 ⟨rfl, hb1⟩; have hB1 : Below w.heap.size w w1 := bl) | (go_at_call 21; (with_reducible refine (KM.out _ _).mono ?_); rintro e w1 ⟨rfl, rfl⟩))
  clear KP hb1
  go_region_with (first | (go_at_call 21; (with_reducible refine (KM.out _ _).mono ?_); rintro e w2 ⟨rfl, rfl⟩) | (go_at_call 13; (refine (KX.out _ w1.heap.size ?_ ⟨?_, ?_, ?_, ?_, ?_, ?_, ?_, ?_, ?_, ?_, ?_, ?_, ?_, ?_, ?_, ?_, ?_, ?_, ?_, ?_, ?_, ?_, ?_, ?_, ?_⟩).mono ?_); (exact bl); (focus (simp; done)); (focus (simp [go_sem]; done)); (focus (simp [go_sem]; done)); (focus (simp [go_sem]; done)); (focus (simp [go_sem]; done)); (focus (simp [go_sem]; done)); (focus (simp [go_sem]; done)); (focus (simp [go_sem]; done)); (focus (simp [go_sem]; done)); (focus (simp [go_sem]; done)); (focus (simp [go_sem]; done)); (focus (simp [go_sem]; done)); (focus (simp [go_sem]; done)); (focus (simp [go_sem]; done)); (focus (simp [go_sem]; done)); (focus (simp [go_sem]; done)); (focus (simp [go_sem]; done)); (focus (simp [go_sem]; done)); (focus (simp [go_sem]; done)); (focus (simp [go_sem]; done)); (focus (simp [go_sem]; done)); (focus (simp [go_sem]; done)); (focus (simp [go_sem]; done)); (focus (simp [go_sem]; done)); (focus (simp [go_sem]; done)); rintro e w2 ⟨rfl, hb2⟩; have hB2 : Below w.heap.size w w2 := bl))
  all_goals
    go_wp2_with (go_at_call 15; (refine (KC.out _ w2.heap.size ?_ ⟨?_, ?_, ?_, ?_, ?_, ?_, ?_⟩).mono ?_); (exact bl); (focus (simp; done)); (focus (simp [go_sem]; done)); (focus (simp [go_sem]; done)); (focus (simp [go_sem]; done)); (focus (simp [go_sem]; done)); (focus (simp [go_sem]; done)); (focus (simp [go_sem]; done)); rintro e w3 ⟨rfl, hb3⟩)
    go_ret
    exact ⟨rfl, bl⟩
end Go.Proofs.YtoimjcfdiljkjaaGreatDoor
namespace Go.Proofs.YtoimjcfdiljkjaaGreatDoor
open Go.RowKit Go.Sort
theorem val_len (es : List va.En) (M : Nat) (hM : 10 ≤ M) (ht : ∀ e ∈ es, ∀ b ∈ e.tags, b.size ≤ M) (t v : Int) : (valS es t v).length ≤ M := by
  unfold valS
  rw [bsT_size]
  unfold va.textS
  split
  · rename_i h0
    split
    · rename_i h2
      subst h2
      have hh : va.hasB es 2 v = true := by
        unfold va.textE at h0
        split at h0
        · split at h0
          · assumption
          · cases h0
        · cases h0
      obtain ⟨h3, h4⟩ := va.hasB_16 hh
      have h5 := va.dec_size v.natAbs (by omega)
      have h6 := va.dec_size v.toNat (by omega)
      unfold Lib.itoa
      split
      · show (45 :: Lib.decDigits v.natAbs).toArray.size ≤ M
        have h5' : (Lib.decDigits v.natAbs).toArray.size ≤ 6 := h5
        simp only [List.size_toArray, List.length_cons] at h5' ⊢
        omega
      · have h6' : (Lib.decDigits v.toNat).toArray.size ≤ 6 := h6
        exact Nat.le_trans h6' (by omega)
    · have key : ∀ l : List ByteArray, (∀ b ∈ l, b.size ≤ M) → (l.getD v.toNat ⟨#[]⟩).size ≤ M := fun l hl => by
        rw [List.getD_eq_getElem?_getD]
        cases h : l[v.toNat]? with
        | none => exact Nat.zero_le _
        | some b => exact hl b (List.mem_of_getElem? h)
      refine key _ fun b hb => ?_
      unfold va.tagsOf at hb
      split at hb
      · simp only [List.mem_cons, List.not_mem_nil, or_false] at hb
        rcases hb with rfl | rfl
        · exact Nat.le_trans (by decide) hM
        · exact Nat.le_trans (by decide) hM
      · split at hb
        · cases h : es[(t - 3).toNat]? with
          | none => rw [h] at hb; simp at hb
          | some e =>
            rw [h] at hb
            exact ht e (List.mem_of_getElem? h) b hb
        · cases hb
  · exact Nat.zero_le _
theorem exp_wf {es : List va.En} {x : Xt} (h : expE es x = 0) (ht : ∀ y ∈ x.list, y.t ≤ 9223372036854775807) : (∀ y ∈ x.list, wfK y ∧ y.nm.size ≤ 66) ∧ x.size ≤ 400 := by
  unfold expE at h
  have h1 := (orE_zero.1 h).1
  unfold chkAll at h1
  split at h1
  · cases h1
  · rename_i hs
    refine ⟨fun y hy => ?_, by omega⟩
    have key : ∀ l : List Xt, firstE (chk1 wokP) l = 0 → ∀ y ∈ l, chk1 wokP y = 0 := by
      intro l
      induction l with
      | nil => intro _ y hy; cases hy
      | cons a l ih =>
        intro h y hy
        unfold firstE at h
        by_cases ha : chk1 wokP a = 0
        · rw [if_pos ha] at h
          rcases List.mem_cons.1 hy with rfl | hy
          · exact ha
          · exact ih h y hy
        · rw [if_neg ha] at h
          exact absurd h ha
    have hc := key _ h1 y hy
    exact ⟨wfK_of hc (ht y hy), nm_66 hc⟩
theorem clk_len (es : List va.En) (M : Nat) (hM : 10 ≤ M) (l : List Ot) (hv : ∀ t v, (valS es t v).length ≤ M) (hn : ∀ o ∈ l, o.nm.size ≤ M) : (clkS es l).length ≤ l.length * (2 * M + 10) := by
  unfold clkS
  have hj : (Lib.join (l.map (smpS es)) [32]).length ≤ ((l.map (smpS es)).map fun t => t.length + 1).sum := join_len _ [32]
  refine Nat.le_trans hj ?_
  clear hj
  rw [List.map_map]
  induction l with
  | nil => simp
  | cons a l ih =>
    rw [List.map_cons, List.sum_cons, show (a :: l).length = l.length + 1 from rfl, Nat.add_mul]
    have h1 := ih fun o ho => hn o (List.mem_cons_of_mem _ ho)
    have h2 := hn a List.mem_cons_self
    have h3 := hv a.t a.tag
    have h4 : (bsT a.nm).length ≤ M := by rw [bsT_size]; exact h2
    simp only [Function.comp, smpS, brS, List.length_append, List.length_cons, List.length_nil] at h1 ⊢
    omega
end Go.Proofs.YtoimjcfdiljkjaaGreatDoor
namespace Go.Proofs.YtoimjcfdiljkjaaGreatDoor
open Go.RowKit
def wlp (m : Nat) : List (Nat → Nat → Nat) → Nat → Nat
  | [], n => n
  | f :: l, n => if n < m then wlp m l (f m n) else n
theorem wlp_take {m : Nat} {l : List (Nat → Nat → Nat)} {k : Nat} {f : Nat → Nat → Nat} (h : l[k]? = some f) (n : Nat) : wlp m (l.take (k + 1)) n = if wlp m (l.take k) n < m then f m (wlp m (l.take k) n) else wlp m (l.take k) n := by
  induction l generalizing k n with
  | nil => simp at h
  | cons g r ih =>
    cases k with
    | zero =>
      simp only [List.getElem?_cons_zero, Option.some.injEq] at h
      subst h
      simp [wlp]
    | succ k =>
      rw [List.take_succ_cons, List.take_succ_cons]
      unfold wlp
      by_cases hn : n < m
      · rw [if_pos hn, if_pos hn]
        exact ih (by simpa using h) _
      · rw [if_neg hn, if_neg hn, if_neg hn]
theorem wlp_stop {m : Nat} {l : List (Nat → Nat → Nat)} {k n : Nat} (h : m ≤ wlp m (l.take k) n) : wlp m l n = wlp m (l.take k) n := by
  induction l generalizing k n with
  | nil => simp
  | cons g r ih =>
    cases k with
    | zero =>
      rw [List.take_zero] at h ⊢
      unfold wlp at h ⊢
      rw [if_neg (by omega)]
    | succ k =>
      rw [List.take_succ_cons] at h ⊢
      unfold wlp at h ⊢
      by_cases hn : n < m
      · rw [if_pos hn] at h ⊢
        rw [if_pos hn]
        exact ih h
      · rw [if_neg hn, if_neg hn]
def Stp (c : Nat) (f : Nat → Nat → Nat) : Prop := ∀ m n, m ≤ 1500 → n < m → n ≤ f m n ∧ f m n ≤ m + 1125899906842624 ∧ (f m n < m → n + c ≤ f m n)
theorem wlp_ok {α : Type} (l : List α) (f : α → Nat → Nat → Nat) (c : α → Nat) (hf : ∀ x ∈ l, Stp (c x) (f x)) (m : Nat) (hm : m ≤ 1500) : ∀ n, n ≤ m + 1125899906842624 →
    n ≤ wlp m (l.map f) n ∧ wlp m (l.map f) n ≤ m + 1125899906842624 ∧ (wlp m (l.map f) n < m → n + (l.map c).sum ≤ wlp m (l.map f) n) := by
  induction l with
  | nil => intro n hn; simp [wlp]; exact hn
  | cons x l ih =>
    intro n hn
    rw [List.map_cons, List.map_cons, List.sum_cons]
    unfold wlp
    by_cases h : n < m
    · rw [if_pos h]
      obtain ⟨a, b, d⟩ := hf x List.mem_cons_self m n hm h
      obtain ⟨a', b', d'⟩ := ih (fun y hy => hf y (List.mem_cons_of_mem _ hy)) (f x m n) b
      refine ⟨by omega, b', fun h2 => ?_⟩
      have h3 := d' h2
      have h4 := d (by omega)
      omega
    · rw [if_neg h]
      exact ⟨Nat.le_refl _, hn, fun h2 => absurd h2 h⟩
theorem wlp_le {α : Type} (l : List α) (f : α → Nat → Nat → Nat) (c : α → Nat) (hf : ∀ x ∈ l, Stp (c x) (f x)) (m : Nat) (hm : m ≤ 1500) (n : Nat) (hn : n ≤ m + 1125899906842624) (k : Nat) : wlp m ((l.map f).take k) n ≤ m + 1125899906842624 := by
  rw [← List.map_take]
  exact (wlp_ok (l.take k) f c (fun x hx => hf x (List.mem_of_mem_take hx)) m hm n hn).2.1
def stD (d : Dt) : Nat → Nat → Nat := fun _ n => n + d.ck.l.length + d.nm.size / 100
def stQ (q : Qt) : Nat → Nat → Nat := fun m n => n + q.lf.l.length + min q.r.size m
def stX (x : Xt) : Nat → Nat → Nat := fun m n => n + min x.size m
def stT (t : Tt) : Nat → Nat → Nat := fun m n => n + min t.cd.size m
def wDs (m : Nat) (l : List Dt) : Nat := wlp m (l.map stD) l.length
def wQs (m : Nat) (l : List Qt) : Nat := wlp m (l.map stQ) l.length
def wXs (m : Nat) (l : List Xt) : Nat := wlp m (l.map stX) l.length
def wTs (m : Nat) (l : List Tt) : Nat := wlp m (l.map stT) l.length
def cD (d : Dt) : Nat := d.ck.l.length
def cQ (q : Qt) : Nat := q.lf.l.length + q.r.size
def cT (t : Tt) : Nat := t.cd.size
def cDs (l : List Dt) : Nat := l.length + (l.map cD).sum
def cQs (l : List Qt) : Nat := l.length + (l.map cQ).sum
def cXs (l : List Xt) : Nat := l.length + (l.map Xt.size).sum
def cTs (l : List Tt) : Nat := l.length + (l.map cT).sum
theorem stD_ok (d : Dt) (h : d.ck.l.length ≤ 140737488355328) (h2 : d.nm.size ≤ 140737488351232) : Stp (cD d) (stD d) := fun m n hm hn => by
  unfold stD cD
  exact ⟨by omega, by omega, fun _ => by omega⟩
theorem stQ_ok (q : Qt) (h : q.lf.l.length ≤ 140737488355328) : Stp (cQ q) (stQ q) := fun m n hm hn => by
  unfold stQ cQ
  exact ⟨by omega, by omega, fun _ => by omega⟩
theorem stX_ok (x : Xt) : Stp x.size (stX x) := fun m n hm hn => by
  unfold stX
  exact ⟨by omega, by omega, fun _ => by omega⟩
theorem stT_ok (t : Tt) : Stp (cT t) (stT t) := fun m n hm hn => by
  unfold stT cT
  exact ⟨by omega, by omega, fun _ => by omega⟩
def Wok (m v c : Nat) : Prop := v ≤ m + 1125899906842624 ∧ (v < m → c ≤ v)
theorem wDs_ok {l : List Dt} (hl : l.length ≤ 140737488355328) (h : ∀ d ∈ l, d.ck.l.length ≤ 140737488355328 ∧ d.nm.size ≤ 140737488351232) (m : Nat) (hm : m ≤ 1500) : Wok m (wDs m l) (cDs l) :=
  (wlp_ok l stD cD (fun d hd => stD_ok d (h d hd).1 (h d hd).2) m hm l.length (by omega)).2
theorem wQs_ok {l : List Qt} (hl : l.length ≤ 140737488355328) (h : ∀ q ∈ l, q.lf.l.length ≤ 140737488355328) (m : Nat) (hm : m ≤ 1500) : Wok m (wQs m l) (cQs l) :=
  (wlp_ok l stQ cQ (fun q hq => stQ_ok q (h q hq)) m hm l.length (by omega)).2
theorem wXs_ok {l : List Xt} (hl : l.length ≤ 140737488355328) (m : Nat) (hm : m ≤ 1500) : Wok m (wXs m l) (cXs l) :=
  (wlp_ok l stX Xt.size (fun x _ => stX_ok x) m hm l.length (by omega)).2
theorem wTs_ok {l : List Tt} (hl : l.length ≤ 140737488355328) (m : Nat) (hm : m ≤ 1500) : Wok m (wTs m l) (cTs l) :=
  (wlp_ok l stT cT (fun x _ => stT_ok x) m hm l.length (by omega)).2
def St.wg (s : St) : Nat → Nat → Nat := fun m n =>
  if n + 1 + wDs m s.lc.l + wQs m s.qs.l + wTs m s.un.l + wTs m s.ut.l < m then
    n + 1 + wDs m s.lc.l + wQs m s.qs.l + wTs m s.un.l + wTs m s.ut.l + wlp (m - (n + 1 + wDs m s.lc.l + wQs m s.qs.l + wTs m s.un.l + wTs m s.ut.l)) (s.au.l.attach.map fun a => fun m n => wlp m (a.1.l.attach.map fun t => St.wg t.1) n) s.au.l.length
  else n + 1 + wDs m s.lc.l + wQs m s.qs.l + wTs m s.un.l + wTs m s.ut.l
termination_by SizeOf.sizeOf s
decreasing_by exact St.lt_of_mem a.2 t.2
def stA (a : Rw St) : Nat → Nat → Nat := fun m n => wlp m (a.l.map St.wg) n
def wAs (m : Nat) (l : List (Rw St)) : Nat := wlp m (l.map stA) l.length
def s1W (m n : Nat) (s : St) : Nat := n + 1 + wDs m s.lc.l + wQs m s.qs.l + wTs m s.un.l + wTs m s.ut.l
theorem St.wg_eq (s : St) (m n : Nat) : s.wg m n = if s1W m n s < m then s1W m n s + wAs (m - s1W m n s) s.au.l else s1W m n s := by
  rw [St.wg]
  unfold s1W wAs stA
  simp
def St.cs (s : St) : Nat := 1 + cDs s.lc.l + cQs s.qs.l + cTs s.un.l + cTs s.ut.l + (s.au.l.length + (s.au.l.attach.map fun a => (a.1.l.attach.map fun t => St.cs t.1).sum).sum)
termination_by SizeOf.sizeOf s
decreasing_by exact St.lt_of_mem a.2 t.2
def cA (a : Rw St) : Nat := (a.l.map St.cs).sum
def cAs (l : List (Rw St)) : Nat := l.length + (l.map cA).sum
theorem St.cs_eq (s : St) : s.cs = 1 + cDs s.lc.l + cQs s.qs.l + cTs s.un.l + cTs s.ut.l + cAs s.au.l := by
  rw [St.cs]
  unfold cAs cA
  simp
end Go.Proofs.YtoimjcfdiljkjaaGreatDoor
namespace Go.Proofs.YtoimjcfdiljkjaaGreatDoor
open Go.RowKit Go.Sort
theorem i64w (x : Int) (h : 0 ≤ x) (h2 : x < 4611686018427387904) : IntKind.i64.wrap x = x := by
  rw [IntKind.wrap_i64]
  omega
set_option maxHeartbeats 2000000 in
set_option maxRecDepth 20000 in
theorem vw_weighDecls (r : Rw Dt) (m : Nat) (w : World) (hm1 : 1 ≤ m) (hm : m ≤ 1500) (hR : RdR w w.heap.size 3 DC r) (hl : r.l.length ≤ 140737488355328) (h2 : ∀ d ∈ r.l, d.ck.l.length ≤ 140737488355328 ∧ d.nm.size ≤ 140737488351232) :
    Calls Tryz.prog 43 #[.slice r.A r.l.length r.c, .int .i64 (m : Int)] w (Bel (.int .i64 ((wDs m r.l : Nat) : Int)) w) := by
  have HR := Lib.hid hR
  unfold wDs
  obtain ⟨V, hV⟩ : ∃ V : Nat → Nat, V = fun k => wlp m ((r.l.map stD).take k) r.l.length := ⟨_, rfl⟩
  have HV : Hid (∀ (k : Nat) (y : Dt), r.l[k]? = some y → V k < m → V (k + 1) = stD y m (V k)) := Lib.hid fun k y hy hk => by
    rw [hV] at hk ⊢
    simp only at hk ⊢
    rw [wlp_take (f := stD y) (by rw [List.getElem?_map, hy]; rfl), if_pos hk]
  have HS : Hid (∀ k, m ≤ V k → V k = wlp m (r.l.map stD) r.l.length) := Lib.hid fun k hk => by
    rw [hV] at hk ⊢
    exact (wlp_stop hk).symm
  have hVl : V r.l.length = wlp m (r.l.map stD) r.l.length := by
    rw [hV]
    simp only
    rw [List.take_of_length_le (by simp)]
  have hV0 : V 0 = r.l.length := by rw [hV]; simp [wlp]
  have HB : Hid (∀ k, V k ≤ m + 1125899906842624) := Lib.hid fun k => by
    rw [hV]
    exact wlp_le r.l stD cD (fun d hd => stD_ok d (h2 d hd).1 (h2 d hd).2) m hm r.l.length (by omega) k
  have HVl := Lib.hid hVl
  have HV0 := Lib.hid hV0
  generalize wlp m (r.l.map stD) r.l.length = T at *
  clear hV hVl hV0 hR 
  go_enter Tryz.func43, Tryz.ntmps43
  go_wp2
  go_loopw [5, 6] (fun n i wr => ∃ k : Nat, k ≤ r.l.length ∧ i = .int .i64 (k : Int) ∧ n = .int .i64 ((V k : Nat) : Int) ∧ Below w.heap.size w wr) (fun _ i _ => r.l.length - (intOf i).toNat)
  case atStart => exact ⟨0, by omega, rfl, by rw [HV0.out], Below.refl _ _⟩
  case round =>
    obtain ⟨k, hk, rfl, rfl, hbl⟩ := hrel
    have hb9 := HB.out k
    have hs9 := HS.out k
    by_cases hlt : k < r.l.length
    · have hik : (k : Int) < (r.l.length : Int) := by omega
      by_cases hn : V k < m
      · have hn2 : ((V k : Nat) : Int) < (m : Int) := by omega
        obtain ⟨ad, y, hA, had, hy, hm', ⟨c0, c1, c2⟩⟩ := (HR.out.blw oneB_D hbl hbl.size).at_ hlt
        have hst := HV.out k y hy hn
        have hb8 := HB.out (k + 1)
        unfold stD at hst
        rw [hA]
        have h8 := h2 y hm'
        have hdv : Int.tdiv (y.nm.size : Int) 100 = ((y.nm.size / 100 : Nat) : Int) := by rw [Int.tdiv_eq_ediv_of_nonneg (by omega)]; omega
        clear hA hy hm' HV HS HB HVl hs9
        generalize hv1 : V (k + 1) = v1 at *
        have HV1 := Lib.hid hv1
        clear hv1
        generalize V k = v at *
        go_wp2
        have q_c0 := cell_regrown c0
        have q_c2 := cell_regrown c2
        refine wp_region_quiet_below (by kernel_rfl) (by kernel_rfl) ?_
        repeat (quiet_step (first | fail))
        refine wpQuiet_nil ?_
        intro _ hw'
        obtain ⟨⟨dq, osq⟩, hw''⟩ := hw'
        subst hw''
        have hrw9 : Below wr.heap.size wr (grow (redrawn wr dq) osq) := below_regrown wr dq osq
        have hw9 : Below w.heap.size w (grow (redrawn wr dq) osq) := hbl.trans (hrw9.mono hbl.size)
        generalize grow (redrawn wr dq) osq = w9 at hw9 hrw9 ⊢
        clear q_c0 q_c2
        go_wp2
        have hbX := hw9
        exact ⟨⟨k + 1, by omega, by congr 1, by rw [HV1.out]; refine congrArg (Value.int .i64) ?_; (try simp (disch := omega) only [i64w]); omega, hbX⟩, by simp [intOf]; omega⟩
      · have hn2 : (m : Int) ≤ ((V k : Nat) : Int) := by omega
        obtain rfl : T = V k := (hs9 (by omega)).symm
        clear hs9 HS HV HB HVl hn
        go_wp2
        go_ret
        exact ⟨rfl, bl⟩
    · obtain rfl : k = r.l.length := by omega
      obtain rfl : T = V r.l.length := HVl.out.symm
      clear hs9 HS HV HB HVl
      go_wp2
      go_ret
      exact ⟨rfl, bl⟩
set_option maxHeartbeats 2000000 in
set_option maxRecDepth 20000 in
theorem vw_weighEqs (r : Rw Qt) (m : Nat) (w : World) (hm1 : 1 ≤ m) (hm : m ≤ 1500) (hR : RdR w w.heap.size 7 QC r) (hl : r.l.length ≤ 140737488355328) (h2 : ∀ q ∈ r.l, q.lf.l.length ≤ 140737488355328) (hX : ∀ q ∈ r.l, RdX w w.heap.size q.r) :
    Calls Tryz.prog 44 #[.slice r.A r.l.length r.c, .int .i64 (m : Int)] w (Bel (.int .i64 ((wQs m r.l : Nat) : Int)) w) := by
  have HR := Lib.hid hR
  have KWW : Hid (∀ y ∈ r.l, ∀ W, Below w.heap.size w W → Calls Tryz.prog 12 #[xV (y.r), .int .i64 (m : Int)] W (Bel (.int .i64 ((min (y.r).size m : Nat) : Int)) W)) := Lib.hid fun y hy W hb => weigh_any (y.r) m W ((hX y hy).to hb) hm1 (by omega)
  unfold wQs
  obtain ⟨V, hV⟩ : ∃ V : Nat → Nat, V = fun k => wlp m ((r.l.map stQ).take k) r.l.length := ⟨_, rfl⟩
  have HV : Hid (∀ (k : Nat) (y : Qt), r.l[k]? = some y → V k < m → V (k + 1) = stQ y m (V k)) := Lib.hid fun k y hy hk => by
    rw [hV] at hk ⊢
    simp only at hk ⊢
    rw [wlp_take (f := stQ y) (by rw [List.getElem?_map, hy]; rfl), if_pos hk]
  have HS : Hid (∀ k, m ≤ V k → V k = wlp m (r.l.map stQ) r.l.length) := Lib.hid fun k hk => by
    rw [hV] at hk ⊢
    exact (wlp_stop hk).symm
  have hVl : V r.l.length = wlp m (r.l.map stQ) r.l.length := by
    rw [hV]
    simp only
    rw [List.take_of_length_le (by simp)]
  have hV0 : V 0 = r.l.length := by rw [hV]; simp [wlp]
  have HB : Hid (∀ k, V k ≤ m + 1125899906842624) := Lib.hid fun k => by
    rw [hV]
    exact wlp_le r.l stQ cQ (fun q hq => stQ_ok q (h2 q hq)) m hm r.l.length (by omega) k
  have HVl := Lib.hid hVl
  have HV0 := Lib.hid hV0
  generalize wlp m (r.l.map stQ) r.l.length = T at *
  clear hV hVl hV0 hR hX
  go_enter Tryz.func44, Tryz.ntmps44
  go_wp2
  go_loopw [5, 6] (fun n i wr => ∃ k : Nat, k ≤ r.l.length ∧ i = .int .i64 (k : Int) ∧ n = .int .i64 ((V k : Nat) : Int) ∧ Below w.heap.size w wr) (fun _ i _ => r.l.length - (intOf i).toNat)
  case atStart => exact ⟨0, by omega, rfl, by rw [HV0.out], Below.refl _ _⟩
  case round =>
    obtain ⟨k, hk, rfl, rfl, hbl⟩ := hrel
    have hb9 := HB.out k
    have hs9 := HS.out k
    by_cases hlt : k < r.l.length
    · have hik : (k : Int) < (r.l.length : Int) := by omega
      by_cases hn : V k < m
      · have hn2 : ((V k : Nat) : Int) < (m : Int) := by omega
        obtain ⟨ad, y, hA, had, hy, hm', ⟨c0, c1, c2, c3, c4, c5, c6⟩⟩ := (HR.out.blw oneB_Q hbl hbl.size).at_ hlt
        have hst := HV.out k y hy hn
        have hb8 := HB.out (k + 1)
        unfold stQ at hst
        rw [hA]
        have h8 := h2 y hm'
        have KW := Lib.hid (KWW.out y hm')
        clear KWW
        obtain ⟨z, hz⟩ : ∃ z, min (y.r).size m = z := ⟨_, rfl⟩
        rw [hz] at hst KW
        have hzm : z ≤ m := by omega
        clear hz
        simp only [xV] at KW
        clear hA hy hm' HV HS HB HVl hs9
        generalize hv1 : V (k + 1) = v1 at *
        have HV1 := Lib.hid hv1
        clear hv1
        generalize V k = v at *
        go_wp2
        have q_c0 := cell_regrown c0
        have q_c1 := cell_regrown c1
        have q_c2 := cell_regrown c2
        have q_c3 := cell_regrown c3
        have q_c4 := cell_regrown c4
        have q_c5 := cell_regrown c5
        have q_c6 := cell_regrown c6
        have k_0 := fun dd os => Calls.regrown_of (KW.out (grow (redrawn wr dd) os) (hbl.trans ((below_regrown wr dd os).mono hbl.size)))
        refine wp_region_quiet_below (by kernel_rfl) (by kernel_rfl) ?_
        repeat (quiet_step (first | with_reducible exact k_0 _ _))
        refine wpQuiet_nil ?_
        intro _ hw'
        obtain ⟨⟨dq, osq⟩, hw''⟩ := hw'
        subst hw''
        have hrw9 : Below wr.heap.size wr (grow (redrawn wr dq) osq) := below_regrown wr dq osq
        have hw9 : Below w.heap.size w (grow (redrawn wr dq) osq) := hbl.trans (hrw9.mono hbl.size)
        generalize grow (redrawn wr dq) osq = w9 at hw9 hrw9 ⊢
        clear q_c0 q_c1 q_c2 q_c3 q_c4 q_c5 q_c6 k_0
        go_wp2
        have hbX := hw9
        exact ⟨⟨k + 1, by omega, by congr 1, by rw [HV1.out]; refine congrArg (Value.int .i64) ?_; (try simp (disch := omega) only [i64w]); omega, hbX⟩, by simp [intOf]; omega⟩
      · have hn2 : (m : Int) ≤ ((V k : Nat) : Int) := by omega
        obtain rfl : T = V k := (hs9 (by omega)).symm
        clear hs9 HS HV HB HVl hn
        go_wp2
        go_ret
        exact ⟨rfl, bl⟩
    · obtain rfl : k = r.l.length := by omega
      obtain rfl : T = V r.l.length := HVl.out.symm
      clear hs9 HS HV HB HVl
      go_wp2
      go_ret
      exact ⟨rfl, bl⟩
set_option maxHeartbeats 2000000 in
set_option maxRecDepth 20000 in
theorem vw_weighExprs (r : Rw Xt) (m : Nat) (w : World) (hm1 : 1 ≤ m) (hm : m ≤ 1500) (hR : RdR w w.heap.size 6 XC r) (hl : r.l.length ≤ 140737488355328) (hX : ∀ x ∈ r.l, RdX w w.heap.size x) :
    Calls Tryz.prog 45 #[.slice r.A r.l.length r.c, .int .i64 (m : Int)] w (Bel (.int .i64 ((wXs m r.l : Nat) : Int)) w) := by
  have HR := Lib.hid hR
  have KWW : Hid (∀ y ∈ r.l, ∀ W, Below w.heap.size w W → Calls Tryz.prog 12 #[xV (y), .int .i64 (m : Int)] W (Bel (.int .i64 ((min (y).size m : Nat) : Int)) W)) := Lib.hid fun y hy W hb => weigh_any (y) m W ((hX y hy).to hb) hm1 (by omega)
  unfold wXs
  obtain ⟨V, hV⟩ : ∃ V : Nat → Nat, V = fun k => wlp m ((r.l.map stX).take k) r.l.length := ⟨_, rfl⟩
  have HV : Hid (∀ (k : Nat) (y : Xt), r.l[k]? = some y → V k < m → V (k + 1) = stX y m (V k)) := Lib.hid fun k y hy hk => by
    rw [hV] at hk ⊢
    simp only at hk ⊢
    rw [wlp_take (f := stX y) (by rw [List.getElem?_map, hy]; rfl), if_pos hk]
  have HS : Hid (∀ k, m ≤ V k → V k = wlp m (r.l.map stX) r.l.length) := Lib.hid fun k hk => by
    rw [hV] at hk ⊢
    exact (wlp_stop hk).symm
  have hVl : V r.l.length = wlp m (r.l.map stX) r.l.length := by
    rw [hV]
    simp only
    rw [List.take_of_length_le (by simp)]
  have hV0 : V 0 = r.l.length := by rw [hV]; simp [wlp]
  have HB : Hid (∀ k, V k ≤ m + 1125899906842624) := Lib.hid fun k => by
    rw [hV]
    exact wlp_le r.l stX Xt.size (fun x _ => stX_ok x) m hm r.l.length (by omega) k
  have HVl := Lib.hid hVl
  have HV0 := Lib.hid hV0
  generalize wlp m (r.l.map stX) r.l.length = T at *
  clear hV hVl hV0 hR hX
  go_enter Tryz.func45, Tryz.ntmps45
  go_wp2
  go_loopw [5, 6] (fun n i wr => ∃ k : Nat, k ≤ r.l.length ∧ i = .int .i64 (k : Int) ∧ n = .int .i64 ((V k : Nat) : Int) ∧ Below w.heap.size w wr) (fun _ i _ => r.l.length - (intOf i).toNat)
  case atStart => exact ⟨0, by omega, rfl, by rw [HV0.out], Below.refl _ _⟩
  case round =>
    obtain ⟨k, hk, rfl, rfl, hbl⟩ := hrel
    have hb9 := HB.out k
    have hs9 := HS.out k
    by_cases hlt : k < r.l.length
    · have hik : (k : Int) < (r.l.length : Int) := by omega
      by_cases hn : V k < m
      · have hn2 : ((V k : Nat) : Int) < (m : Int) := by omega
        obtain ⟨ad, y, hA, had, hy, hm', ⟨c0, c1, c2, c3, c4, c5⟩⟩ := (HR.out.blw oneB_X hbl hbl.size).at_ hlt
        have hst := HV.out k y hy hn
        have hb8 := HB.out (k + 1)
        unfold stX at hst
        rw [hA]
        have KW := Lib.hid (KWW.out y hm')
        clear KWW
        obtain ⟨z, hz⟩ : ∃ z, min (y).size m = z := ⟨_, rfl⟩
        rw [hz] at hst KW
        have hzm : z ≤ m := by omega
        clear hz
        simp only [xV] at KW
        clear hA hy hm' HV HS HB HVl hs9
        generalize hv1 : V (k + 1) = v1 at *
        have HV1 := Lib.hid hv1
        clear hv1
        generalize V k = v at *
        go_wp2_with (go_at_call 12; (with_reducible refine (KW.out _ ?_).mono ?_); (exact bl); rintro e w9 ⟨rfl, hb9⟩)
        have hbX : Below w.heap.size w w9 := bl
        exact ⟨⟨k + 1, by omega, by congr 1, by rw [HV1.out]; refine congrArg (Value.int .i64) ?_; (try simp (disch := omega) only [i64w]); omega, hbX⟩, by simp [intOf]; omega⟩
      · have hn2 : (m : Int) ≤ ((V k : Nat) : Int) := by omega
        obtain rfl : T = V k := (hs9 (by omega)).symm
        clear hs9 HS HV HB HVl hn
        go_wp2
        go_ret
        exact ⟨rfl, bl⟩
    · obtain rfl : k = r.l.length := by omega
      obtain rfl : T = V r.l.length := HVl.out.symm
      clear hs9 HS HV HB HVl
      go_wp2
      go_ret
      exact ⟨rfl, bl⟩
set_option maxHeartbeats 2000000 in
set_option maxRecDepth 20000 in
theorem vw_weighTrans (r : Rw Tt) (m : Nat) (w : World) (hm1 : 1 ≤ m) (hm : m ≤ 1500) (hR : RdR w w.heap.size 8 TC r) (hl : r.l.length ≤ 140737488355328) (hX : ∀ t ∈ r.l, RdX w w.heap.size t.cd) :
    Calls Tryz.prog 80 #[.slice r.A r.l.length r.c, .int .i64 (m : Int)] w (Bel (.int .i64 ((wTs m r.l : Nat) : Int)) w) := by
  have HR := Lib.hid hR
  have KWW : Hid (∀ y ∈ r.l, ∀ W, Below w.heap.size w W → Calls Tryz.prog 12 #[xV (y.cd), .int .i64 (m : Int)] W (Bel (.int .i64 ((min (y.cd).size m : Nat) : Int)) W)) := Lib.hid fun y hy W hb => weigh_any (y.cd) m W ((hX y hy).to hb) hm1 (by omega)
  unfold wTs
  obtain ⟨V, hV⟩ : ∃ V : Nat → Nat, V = fun k => wlp m ((r.l.map stT).take k) r.l.length := ⟨_, rfl⟩
  have HV : Hid (∀ (k : Nat) (y : Tt), r.l[k]? = some y → V k < m → V (k + 1) = stT y m (V k)) := Lib.hid fun k y hy hk => by
    rw [hV] at hk ⊢
    simp only at hk ⊢
    rw [wlp_take (f := stT y) (by rw [List.getElem?_map, hy]; rfl), if_pos hk]
  have HS : Hid (∀ k, m ≤ V k → V k = wlp m (r.l.map stT) r.l.length) := Lib.hid fun k hk => by
    rw [hV] at hk ⊢
    exact (wlp_stop hk).symm
  have hVl : V r.l.length = wlp m (r.l.map stT) r.l.length := by
    rw [hV]
    simp only
    rw [List.take_of_length_le (by simp)]
  have hV0 : V 0 = r.l.length := by rw [hV]; simp [wlp]
  have HB : Hid (∀ k, V k ≤ m + 1125899906842624) := Lib.hid fun k => by
    rw [hV]
    exact wlp_le r.l stT cT (fun x _ => stT_ok x) m hm r.l.length (by omega) k
  have HVl := Lib.hid hVl
  have HV0 := Lib.hid hV0
  generalize wlp m (r.l.map stT) r.l.length = T at *
  clear hV hVl hV0 hR hX
  go_enter Tryz.func80, Tryz.ntmps80
  go_wp2
  go_loopw [5, 6] (fun n i wr => ∃ k : Nat, k ≤ r.l.length ∧ i = .int .i64 (k : Int) ∧ n = .int .i64 ((V k : Nat) : Int) ∧ Below w.heap.size w wr) (fun _ i _ => r.l.length - (intOf i).toNat)
  case atStart => exact ⟨0, by omega, rfl, by rw [HV0.out], Below.refl _ _⟩
  case round =>
    obtain ⟨k, hk, rfl, rfl, hbl⟩ := hrel
    have hb9 := HB.out k
    have hs9 := HS.out k
    by_cases hlt : k < r.l.length
    · have hik : (k : Int) < (r.l.length : Int) := by omega
      by_cases hn : V k < m
      · have hn2 : ((V k : Nat) : Int) < (m : Int) := by omega
        obtain ⟨ad, y, hA, had, hy, hm', ⟨⟨c0, c1, c2, c3, c4, c5⟩, c6, c7⟩⟩ := (HR.out.blw oneB_T hbl hbl.size).at_ hlt
        have hst := HV.out k y hy hn
        have hb8 := HB.out (k + 1)
        unfold stT at hst
        rw [hA]
        have KW := Lib.hid (KWW.out y hm')
        clear KWW
        obtain ⟨z, hz⟩ : ∃ z, min (y.cd).size m = z := ⟨_, rfl⟩
        rw [hz] at hst KW
        have hzm : z ≤ m := by omega
        clear hz
        simp only [xV] at KW
        clear hA hy hm' HV HS HB HVl hs9
        generalize hv1 : V (k + 1) = v1 at *
        have HV1 := Lib.hid hv1
        clear hv1
        generalize V k = v at *
        go_wp2_with (go_at_call 12; (with_reducible refine (KW.out _ ?_).mono ?_); (exact bl); rintro e w9 ⟨rfl, hb9⟩)
        have hbX : Below w.heap.size w w9 := bl
        exact ⟨⟨k + 1, by omega, by congr 1, by rw [HV1.out]; refine congrArg (Value.int .i64) ?_; (try simp (disch := omega) only [i64w]); omega, hbX⟩, by simp [intOf]; omega⟩
      · have hn2 : (m : Int) ≤ ((V k : Nat) : Int) := by omega
        obtain rfl : T = V k := (hs9 (by omega)).symm
        clear hs9 HS HV HB HVl hn
        go_wp2
        go_ret
        exact ⟨rfl, bl⟩
    · obtain rfl : k = r.l.length := by omega
      obtain rfl : T = V r.l.length := HVl.out.symm
      clear hs9 HS HV HB HVl
      go_wp2
      go_ret
      exact ⟨rfl, bl⟩
end Go.Proofs.YtoimjcfdiljkjaaGreatDoor
namespace Go.Proofs.YtoimjcfdiljkjaaGreatDoor
open Go.RowKit
def XX : Nat := 9007199254740992
def StpX (c : Nat) (f : Nat → Nat → Nat) : Prop := ∀ m n, m ≤ 1500 → n < m → n ≤ f m n ∧ f m n ≤ m + XX ∧ (f m n < m → n + c ≤ f m n)
theorem wlpX_ok {α : Type} (l : List α) (f : α → Nat → Nat → Nat) (c : α → Nat) (hf : ∀ x ∈ l, StpX (c x) (f x)) (m : Nat) (hm : m ≤ 1500) : ∀ n, n ≤ m + XX →
    n ≤ wlp m (l.map f) n ∧ wlp m (l.map f) n ≤ m + XX ∧ (wlp m (l.map f) n < m → n + (l.map c).sum ≤ wlp m (l.map f) n) := by
  induction l with
  | nil => intro n hn; simp [wlp]; exact hn
  | cons x l ih =>
    intro n hn
    rw [List.map_cons, List.map_cons, List.sum_cons]
    unfold wlp
    by_cases h : n < m
    · rw [if_pos h]
      obtain ⟨a, b, d⟩ := hf x List.mem_cons_self m n hm h
      obtain ⟨a', b', d'⟩ := ih (fun y hy => hf y (List.mem_cons_of_mem _ hy)) (f x m n) b
      refine ⟨by omega, b', fun h2 => ?_⟩
      have h3 := d' h2
      have h4 := d (by omega)
      omega
    · rw [if_neg h]
      exact ⟨Nat.le_refl _, hn, fun h2 => absurd h2 h⟩
theorem wlpX_le {α : Type} (l : List α) (f : α → Nat → Nat → Nat) (c : α → Nat) (hf : ∀ x ∈ l, StpX (c x) (f x)) (m : Nat) (hm : m ≤ 1500) (n : Nat) (hn : n ≤ m + XX) (k : Nat) : wlp m ((l.map f).take k) n ≤ m + XX := by
  rw [← List.map_take]
  exact (wlpX_ok (l.take k) f c (fun x hx => hf x (List.mem_of_mem_take hx)) m hm n hn).2.1
def LnD (r : Rw Dt) : Prop := r.l.length ≤ 140737488355328 ∧ ∀ d ∈ r.l, d.ck.l.length ≤ 140737488355328 ∧ d.nm.size ≤ 140737488351232
def LnQ (r : Rw Qt) : Prop := r.l.length ≤ 140737488355328 ∧ ∀ q ∈ r.l, q.lf.l.length ≤ 140737488355328
inductive LnS : St → Prop
  | mk (s : St) (h1 : LnD s.lc) (h2 : LnQ s.qs) (h3 : s.un.l.length ≤ 140737488355328) (h4 : s.ut.l.length ≤ 140737488355328) (h5 : s.au.l.length ≤ 140737488355328) (h6 : ∀ a ∈ s.au.l, ∀ t ∈ a.l, LnS t) : LnS s
theorem LnS.of {s : St} (h : LnS s) : LnD s.lc ∧ LnQ s.qs ∧ s.un.l.length ≤ 140737488355328 ∧ s.ut.l.length ≤ 140737488355328 ∧ s.au.l.length ≤ 140737488355328 ∧ ∀ a ∈ s.au.l, ∀ t ∈ a.l, LnS t := by
  cases h with
  | mk s h1 h2 h3 h4 h5 h6 => exact ⟨h1, h2, h3, h4, h5, h6⟩
def LnN (n : Nt) : Prop := LnD n.ins ∧ LnD n.outs ∧ LnD n.locs ∧ LnQ n.qs ∧ (n.au.l.length ≤ 140737488355328 ∧ ∀ a ∈ n.au.l, ∀ t ∈ a.l, LnS t) ∧ n.asm.l.length ≤ 140737488355328 ∧ n.ens.l.length ≤ 140737488355328
def LnP (p : Pt) : Prop := (p.es.l.length ≤ 140737488355328 ∧ ∀ e ∈ p.es.l, e.tags.length ≤ 140737488355328) ∧ p.ns.l.length ≤ 140737488355328 ∧ ∀ n ∈ p.ns.l, LnN n
theorem s1_ok {s : St} (h : LnS s) (m n : Nat) (hm : m ≤ 1500) (hn : n < m) : n ≤ s1W m n s ∧ s1W m n s ≤ m + XX ∧ (s1W m n s < m → n + 1 + cDs s.lc.l + cQs s.qs.l + cTs s.un.l + cTs s.ut.l ≤ s1W m n s) := by
  obtain ⟨h1, h2, h3, h4, _⟩ := h.of
  obtain ⟨a1, b1⟩ := wDs_ok h1.1 h1.2 m hm
  obtain ⟨a2, b2⟩ := wQs_ok h2.1 h2.2 m hm
  obtain ⟨a3, b3⟩ := wTs_ok h3 m hm
  obtain ⟨a4, b4⟩ := wTs_ok h4 m hm
  unfold s1W XX
  refine ⟨by omega, by omega, fun h => ?_⟩
  have := b1 (by omega)
  have := b2 (by omega)
  have := b3 (by omega)
  have := b4 (by omega)
  omega
theorem stA_ok {a : Rw St} (h : ∀ t ∈ a.l, StpX t.cs t.wg) : StpX (cA a) (stA a) := fun m n hm hn => wlpX_ok a.l St.wg St.cs h m hm n (by omega)
theorem wAs_ok {l : List (Rw St)} (hl : l.length ≤ 140737488355328) (h : ∀ a ∈ l, ∀ t ∈ a.l, StpX t.cs t.wg) (m : Nat) (hm : m ≤ 1500) : wAs m l ≤ m + XX ∧ (wAs m l < m → cAs l ≤ wAs m l) :=
  (wlpX_ok l stA cA (fun a ha => stA_ok (h a ha)) m hm l.length (by unfold XX; omega)).2
theorem wg_ok {s : St} (h : LnS s) : StpX s.cs s.wg := by
  induction h with
  | mk s h1 h2 h3 h4 h5 h6 ih =>
    intro m n hm hn
    obtain ⟨a, b, c⟩ := s1_ok (.mk s h1 h2 h3 h4 h5 h6) m n hm hn
    rw [St.wg_eq, St.cs_eq]
    by_cases h : s1W m n s < m
    · rw [if_pos h]
      obtain ⟨d, e⟩ := wAs_ok h5 ih (m - s1W m n s) (by omega)
      have c' := c h
      refine ⟨by omega, by omega, fun h2 => ?_⟩
      have := e (by omega)
      omega
    · rw [if_neg h]
      exact ⟨a, b, fun h2 => absurd h2 h⟩
def stE (e : va.En) : Nat → Nat → Nat := fun _ n => n + e.tags.length
def s1N (m n : Nat) (x : Nt) : Nat := n + wDs m x.ins.l + wDs m x.outs.l + wDs m x.locs.l + wQs m x.qs.l + wXs m x.asm.l + wXs m x.ens.l
def stN (x : Nt) : Nat → Nat → Nat := fun m n => if s1N m n x < m then s1N m n x + wAs (m - s1N m n x) x.au.l else s1N m n x
def wEs (m : Nat) (p : Pt) : Nat := wlp m (p.es.l.map stE) (p.es.l.length + p.ns.l.length)
def wPt (m : Nat) (p : Pt) : Nat := wlp m (p.ns.l.map stN) (wEs m p)
def cN (x : Nt) : Nat := cDs x.ins.l + cDs x.outs.l + cDs x.locs.l + cQs x.qs.l + cXs x.asm.l + cXs x.ens.l + cAs x.au.l
theorem stE_ok (e : va.En) (h : e.tags.length ≤ 140737488355328) : StpX e.tags.length (stE e) := fun m n hm hn => by
  unfold stE XX
  exact ⟨by omega, by omega, fun _ => by omega⟩
theorem s1N_ok {x : Nt} (h : LnN x) (m n : Nat) (hm : m ≤ 1500) (hn : n < m) : n ≤ s1N m n x ∧ s1N m n x ≤ m + XX ∧ (s1N m n x < m → n + cDs x.ins.l + cDs x.outs.l + cDs x.locs.l + cQs x.qs.l + cXs x.asm.l + cXs x.ens.l ≤ s1N m n x) := by
  obtain ⟨h1, h2, h3, h4, _, h6, h7⟩ := h
  obtain ⟨a1, b1⟩ := wDs_ok h1.1 h1.2 m hm
  obtain ⟨a2, b2⟩ := wDs_ok h2.1 h2.2 m hm
  obtain ⟨a3, b3⟩ := wDs_ok h3.1 h3.2 m hm
  obtain ⟨a4, b4⟩ := wQs_ok h4.1 h4.2 m hm
  obtain ⟨a5, b5⟩ := wXs_ok h6 m hm
  obtain ⟨a6, b6⟩ := wXs_ok h7 m hm
  unfold s1N XX
  refine ⟨by omega, by omega, fun h => ?_⟩
  have := b1 (by omega)
  have := b2 (by omega)
  have := b3 (by omega)
  have := b4 (by omega)
  have := b5 (by omega)
  have := b6 (by omega)
  omega
theorem stN_ok {x : Nt} (hx : LnN x) : StpX (cN x) (stN x) := fun m n hm hn => by
  obtain ⟨a, b, c⟩ := s1N_ok hx m n hm hn
  unfold stN cN
  by_cases h : s1N m n x < m
  · rw [if_pos h]
    obtain ⟨d, e⟩ := wAs_ok hx.2.2.2.2.1.1 (fun a ha t ht => wg_ok (hx.2.2.2.2.1.2 a ha t ht)) (m - s1N m n x) (by omega)
    have c' := c h
    refine ⟨by omega, by omega, fun h2 => ?_⟩
    have := e (by omega)
    omega
  · rw [if_neg h]
    exact ⟨a, b, fun h2 => absurd h2 h⟩
theorem wPt_ok {p : Pt} (h : LnP p) (m : Nat) (hm : m ≤ 1500) : wEs m p ≤ m + XX ∧ wPt m p ≤ m + XX ∧ (wPt m p < m → p.es.l.length + p.ns.l.length + (p.es.l.map fun e => e.tags.length).sum + (p.ns.l.map cN).sum ≤ wPt m p) := by
  have h1 := h.1.1
  have h2 := h.2.1
  obtain ⟨a, b, c⟩ := wlpX_ok p.es.l stE (fun e => e.tags.length) (fun e he => stE_ok e (h.1.2 e he)) m hm (p.es.l.length + p.ns.l.length) (by unfold XX; omega)
  obtain ⟨a', b', c'⟩ := wlpX_ok p.ns.l stN cN (fun n hn => stN_ok (h.2.2 n hn)) m hm (wEs m p) b
  refine ⟨b, b', fun hlt => ?_⟩
  have h3 := c' hlt
  have h4 : wEs m p < m := Nat.lt_of_le_of_lt a' hlt
  have h5 := c h4
  have h6 : wlp m (p.es.l.map stE) (p.es.l.length + p.ns.l.length) = wEs m p := rfl
  rw [h6] at h5
  have h7 : wlp m (p.ns.l.map stN) (wEs m p) = wPt m p := rfl
  rw [h7] at h3
  omega
end Go.Proofs.YtoimjcfdiljkjaaGreatDoor
namespace Go.Proofs.YtoimjcfdiljkjaaGreatDoor
open Go.RowKit Go.Sort
set_option maxHeartbeats 2000000 in
set_option maxRecDepth 20000 in
theorem vw_weighAutos_of (r : Rw (Rw St)) (m : Nat) (w : World) (hm1 : 1 ≤ m) (hm : m ≤ 1500) (hR : RsAs w w.heap.size r) (hl : r.l.length ≤ 140737488355328) (hL : ∀ a ∈ r.l, ∀ t ∈ a.l, LnS t)
    (KA : Hid (∀ a ∈ r.l, ∀ t ∈ a.l, ∀ n : Nat, 1 ≤ n → n ≤ 1500 → ∀ W, Below w.heap.size w W → Calls Tryz.prog 46 #[.slice t.au.A t.au.l.length t.au.c, .int .i64 (n : Int)] W (Bel (.int .i64 ((wAs n t.au.l : Nat) : Int)) W))) :
    Calls Tryz.prog 46 #[.slice r.A r.l.length r.c, .int .i64 (m : Int)] w (Bel (.int .i64 ((wAs m r.l : Nat) : Int)) w) := by
  have HR := Lib.hid hR
  have HL := Lib.hid hL
  unfold wAs
  obtain ⟨V, hV⟩ : ∃ V : Nat → Nat, V = fun k => wlp m ((r.l.map stA).take k) r.l.length := ⟨_, rfl⟩
  have HV : Hid (∀ (k : Nat) (y : Rw St), r.l[k]? = some y → V k < m → V (k + 1) = stA y m (V k)) := Lib.hid fun k y hy hk => by
    rw [hV] at hk ⊢
    simp only at hk ⊢
    rw [wlp_take (f := stA y) (by rw [List.getElem?_map, hy]; rfl), if_pos hk]
  have HS : Hid (∀ k, m ≤ V k → V k = wlp m (r.l.map stA) r.l.length) := Lib.hid fun k hk => by
    rw [hV] at hk ⊢
    exact (wlp_stop hk).symm
  have hVl : V r.l.length = wlp m (r.l.map stA) r.l.length := by
    rw [hV]
    simp only
    rw [List.take_of_length_le (by simp)]
  have hV0 : V 0 = r.l.length := by rw [hV]; simp [wlp]
  have HB : Hid (∀ k, V k ≤ m + XX) := Lib.hid fun k => by
    rw [hV]
    exact wlpX_le r.l stA cA (fun a ha => stA_ok fun t ht => wg_ok (hL a ha t ht)) m hm r.l.length (by unfold XX; omega) k
  have HVl := Lib.hid hVl
  have HV0 := Lib.hid hV0
  generalize wlp m (r.l.map stA) r.l.length = T at *
  clear hV hVl hV0 hR hL
  go_enter Tryz.func46, Tryz.ntmps46
  go_wp2
  go_loopw [5, 6] (fun n i wr => ∃ k : Nat, k ≤ r.l.length ∧ i = .int .i64 (k : Int) ∧ n = .int .i64 ((V k : Nat) : Int) ∧ Below w.heap.size w wr) (fun _ i _ => r.l.length - (intOf i).toNat)
  case atStart => exact ⟨0, by omega, rfl, by rw [HV0.out], Below.refl _ _⟩
  case round =>
    obtain ⟨k, hk, rfl, rfl, hbl⟩ := hrel
    obtain ⟨wo, rfl⟩ : ∃ wo, wo = wr := ⟨_, rfl⟩
    have hb9 := HB.out k
    have hs9 := HS.out k
    by_cases hlt : k < r.l.length
    · have hik : (k : Int) < (r.l.length : Int) := by omega
      by_cases hn : V k < m
      · have hn2 : ((V k : Nat) : Int) < (m : Int) := by omega
        obtain ⟨ad, y, hA, had, hy, hm', c0⟩ := (HR.out.1.blw oneB_A hbl hbl.size).at_ hlt
        have HRY := Lib.hid (HR.out.2 y hm')
        have hLY := Lib.hid (HL.out y hm')
        have KAY := Lib.hid (KA.out y hm')
        have h9 := HRY.out.1.len
        unfold maxLen at h9
        unfold AC at c0
        rw [Nat.mul_one] at c0
        have hst := HV.out k y hy hn
        rw [hA]
        generalize hv1 : V (k + 1) = v1 at *
        have HV1 := Lib.hid hv1
        clear hv1
        unfold stA at hst
        generalize V k = v at *
        obtain ⟨U, hU⟩ : ∃ U : Nat → Nat, U = fun j => wlp m ((y.l.map St.wg).take j) v := ⟨_, rfl⟩
        have HU : Hid (∀ (j : Nat) (t : St), y.l[j]? = some t → U j < m → U (j + 1) = t.wg m (U j)) := Lib.hid fun j t ht hj => by
          rw [hU] at hj ⊢
          simp only at hj ⊢
          rw [wlp_take (f := St.wg t) (by rw [List.getElem?_map, ht]; rfl), if_pos hj]
        have HUS : Hid (∀ j, m ≤ U j → U j = v1) := Lib.hid fun j hj => by
          rw [hst]
          rw [hU] at hj ⊢
          exact (wlp_stop hj).symm
        have HUl : Hid (U y.l.length = v1) := Lib.hid (by
          rw [hst, hU]
          simp only
          rw [List.take_of_length_le (by simp)])
        have HU0 : Hid (U 0 = v) := Lib.hid (by rw [hU]; simp [wlp])
        have HUB : Hid (∀ j, U j ≤ m + XX) := Lib.hid fun j => by
          rw [hU]
          exact wlpX_le y.l St.wg St.cs (fun t ht => wg_ok (hLY.out t ht)) m hm v hb9 j
        clear hU hA hy hm' HV HS HB HVl HV0 hs9 KA HR HL hst hb9
        go_wp2
        go_loopw [5, 7] (fun n i wi => ∃ j : Nat, j ≤ y.l.length ∧ i = .int .i64 (j : Int) ∧ n = .int .i64 ((U j : Nat) : Int) ∧ Below wo.heap.size wo wi) (fun _ i _ => y.l.length - (intOf i).toNat)
        case atStart => exact ⟨0, by omega, rfl, by rw [HU0.out], Below.refl _ _⟩
        case round =>
          obtain ⟨j, hj, rfl, rfl, hbi⟩ := hrel
          have hbw : Below w.heap.size w wr := hbl.trans (hbi.mono hbl.size)
          have c0 := cell_below hbi c0
          have hu9 := HUB.out j
          by_cases hjl : j < y.l.length
          · have hij : (j : Int) < (y.l.length : Int) := by omega
            by_cases hu : U j < m
            · have hu2 : ((U j : Nat) : Int) < (m : Int) := by omega
              obtain ⟨au, t, hAt, hau, hty, htm, ⟨s0, s1, s2, s3, s4, s5⟩⟩ := (HRY.out.1.blw oneB_S hbw hbw.size).at_ hjl
              obtain ⟨_, g2, g3, g4, g5, g6, g7, g8⟩ := (HRY.out.2 t htm).of
              have hLt := hLY.out t htm
              obtain ⟨l1, l2, l3, l4, l5, l6⟩ := hLt.of
              have hst := HU.out j t hty hu
              obtain ⟨p1, p2, _⟩ := s1_ok hLt m (U j) hm hu
              have p3 := wDs_ok l1.1 l1.2 m hm
              have p4 := wQs_ok l2.1 l2.2 m hm
              have p5 := wTs_ok l3 m hm
              have p6 := wTs_ok l4 m hm
              have p3 := p3.1
              have p4 := p4.1
              have p5 := p5.1
              have p6 := p6.1
              rw [St.wg_eq] at hst
              have KAT := Lib.hid (KAY.out t htm)
              rw [hAt] at c0
              have HAY := Lib.hid hAt
              have hu8 := HUB.out (j + 1)
              have K1 : Hid (∀ W, Below w.heap.size w W → Calls Tryz.prog 43 #[.slice t.lc.A t.lc.l.length t.lc.c, .int .i64 (m : Int)] W (Bel (.int .i64 ((wDs m t.lc.l : Nat) : Int)) W)) := Lib.hid fun W hb => vw_weighDecls t.lc m W hm1 hm (g2.1.blw oneB_D hb hb.size) l1.1 l1.2
              have K2 : Hid (∀ W, Below w.heap.size w W → Calls Tryz.prog 44 #[.slice t.qs.A t.qs.l.length t.qs.c, .int .i64 (m : Int)] W (Bel (.int .i64 ((wQs m t.qs.l : Nat) : Int)) W)) := Lib.hid fun W hb => vw_weighEqs t.qs m W hm1 hm (g3.1.blw oneB_Q hb hb.size) l2.1 l2.2 (fun q hq => ((g3.2 q hq).2.1).blw hb hb.size)
              have K3 : Hid (∀ W, Below w.heap.size w W → Calls Tryz.prog 80 #[.slice t.un.A t.un.l.length t.un.c, .int .i64 (m : Int)] W (Bel (.int .i64 ((wTs m t.un.l : Nat) : Int)) W)) := Lib.hid fun W hb => vw_weighTrans t.un m W hm1 hm (g7.1.blw oneB_T hb hb.size) l3 (fun q hq => ((g7.2 q hq).1).blw hb hb.size)
              have K4 : Hid (∀ W, Below w.heap.size w W → Calls Tryz.prog 80 #[.slice t.ut.A t.ut.l.length t.ut.c, .int .i64 (m : Int)] W (Bel (.int .i64 ((wTs m t.ut.l : Nat) : Int)) W)) := Lib.hid fun W hb => vw_weighTrans t.ut m W hm1 hm (g8.1.blw oneB_T hb hb.size) l4 (fun q hq => ((g8.2 q hq).1).blw hb hb.size)
              have hs1 : s1W m (U j) t = U j + 1 + wDs m t.lc.l + wQs m t.qs.l + wTs m t.un.l + wTs m t.ut.l := rfl
              clear g2 g3 g4 g5 g6 g7 g8 l1 l2 l3 l4 l5 l6 hLt hty htm hAt HU HUS HUl HU0 HUB HRY hLY KAY
              generalize hu1 : U (j + 1) = u1 at *
              have HU1 := Lib.hid hu1
              clear hu1
              generalize U j = u at *
              generalize s1W m u t = sm at *
              generalize wDs m t.lc.l = d1 at *
              generalize wQs m t.qs.l = d2 at *
              generalize wTs m t.un.l = d3 at *
              generalize wTs m t.ut.l = d4 at *
              unfold XX at hu8 hu9 p2
              go_wp2
              obtain ⟨WX, hWX⟩ : ∃ WX, (wr.alloc (.cells #[.string t.nm, .slice t.lc.A t.lc.l.length t.lc.c, .slice t.qs.A t.qs.l.length t.qs.c, .slice t.au.A t.au.l.length t.au.c, .slice t.un.A t.un.l.length t.un.c, .slice t.ut.A t.ut.l.length t.ut.c] 95)) = WX := ⟨_, rfl⟩
              have hBX : Below wr.heap.size wr WX := by rw [← hWX]; exact bel_box _
              have hXw : Below w.heap.size w WX := hbw.trans (hBX.mono hbw.size)
              have x0 : WX.cell? ⟨wr.heap.size, 0, none⟩ = some (.string t.nm) := by rw [← hWX]; simp [go_sem]
              have x1 : WX.cell? ⟨wr.heap.size, 1, none⟩ = some (.slice t.lc.A t.lc.l.length t.lc.c) := by rw [← hWX]; simp [go_sem]
              have x2 : WX.cell? ⟨wr.heap.size, 2, none⟩ = some (.slice t.qs.A t.qs.l.length t.qs.c) := by rw [← hWX]; simp [go_sem]
              have x3 : WX.cell? ⟨wr.heap.size, 3, none⟩ = some (.slice t.au.A t.au.l.length t.au.c) := by rw [← hWX]; simp [go_sem]
              have x4 : WX.cell? ⟨wr.heap.size, 4, none⟩ = some (.slice t.un.A t.un.l.length t.un.c) := by rw [← hWX]; simp [go_sem]
              have x5 : WX.cell? ⟨wr.heap.size, 5, none⟩ = some (.slice t.ut.A t.ut.l.length t.ut.c) := by rw [← hWX]; simp [go_sem]
              have HWX := Lib.hid hWX
              clear hWX s0 s1 s2 s3 s4 s5
              rw [HWX.out]
              clear HWX
              have q_x1 := cell_regrown x1
              have q_x2 := cell_regrown x2
              have q_x4 := cell_regrown x4
              have q_x5 := cell_regrown x5
              have k_0 := fun dd os => Calls.regrown_of (K1.out (grow (redrawn WX dd) os) (hXw.trans ((below_regrown WX dd os).mono hXw.size)))
              have k_1 := fun dd os => Calls.regrown_of (K2.out (grow (redrawn WX dd) os) (hXw.trans ((below_regrown WX dd os).mono hXw.size)))
              have k_2 := fun dd os => Calls.regrown_of (K3.out (grow (redrawn WX dd) os) (hXw.trans ((below_regrown WX dd os).mono hXw.size)))
              have k_3 := fun dd os => Calls.regrown_of (K4.out (grow (redrawn WX dd) os) (hXw.trans ((below_regrown WX dd os).mono hXw.size)))
              refine wp_region_quiet_below (by kernel_rfl) (by kernel_rfl) ?_
              repeat (quiet_step (first | with_reducible exact k_0 _ _ | with_reducible exact k_1 _ _ | with_reducible exact k_2 _ _ | with_reducible exact k_3 _ _))
              refine wpQuiet_nil ?_
              intro _ hw'
              obtain ⟨⟨dq, osq⟩, hw''⟩ := hw'
              subst hw''
              have hrw4 : Below WX.heap.size WX (grow (redrawn WX dq) osq) := below_regrown WX dq osq
              have hw4 : Below w.heap.size w (grow (redrawn WX dq) osq) := hXw.trans (hrw4.mono hXw.size)
              generalize grow (redrawn WX dq) osq = w4 at hw4 hrw4 ⊢
              clear q_x1 q_x2 q_x4 q_x5 k_0 k_1 k_2 k_3
              have x3 := cell_below hrw4 x3
              have hWS : IntKind.i64.wrap (IntKind.i64.wrap (IntKind.i64.wrap (IntKind.i64.wrap (IntKind.i64.wrap ((u : Int) + 1) + (d1 : Int)) + (d2 : Int)) + (d3 : Int)) + (d4 : Int)) = (sm : Int) := by
                rw [hs1]
                clear hst hs1
                simp (disch := omega) only [i64w]
                omega
              rw [hWS]
              clear hWS hs1 p3 p4 p5 p6 K1 K2 K3 K4
              by_cases h8 : sm < m
              · rw [if_pos h8] at hst
                have KW1 := KAT.out (m - sm) (by omega) (by omega)
                have e8 : ((m - sm : Nat) : Int) = (m : Int) - (sm : Int) := by omega
                have z8 : wAs (m - sm) t.au.l ≤ m + 9007199254740992 := by omega
                generalize wAs (m - sm) t.au.l = z at *
                rw [e8] at KW1
                have KW := Lib.hid KW1
                have h7 : ((sm : Nat) : Int) < (m : Int) := by omega
                clear KW1 e8 KAT
                go_wp2_with (go_at_call 46; (with_reducible refine (KW.out _ ?_).mono ?_); (exact bl); rintro e w6 ⟨rfl, hb6⟩)
                exact ⟨⟨j + 1, by omega, by congr 1, by rw [HU1.out]; refine congrArg (Value.int .i64) ?_; (try simp (disch := omega) only [i64w]); omega, hbi.trans ((hBX.trans ((hrw4.trans (hb6.mono hrw4.size)).mono hBX.size)).mono hbi.size)⟩, by simp [intOf]; omega⟩
              · rw [if_neg h8] at hst
                have h7 : (m : Int) ≤ ((sm : Nat) : Int) := by omega
                clear KAT
                go_wp2
                exact ⟨⟨j + 1, by omega, by congr 1, by rw [HU1.out, hst], hbi.trans ((hBX.trans (hrw4.mono hBX.size)).mono hbi.size)⟩, by simp [intOf]; omega⟩
            · have hu2 : (m : Int) ≤ ((U j : Nat) : Int) := by omega
              have hue := HUS.out j (by omega)
              clear hu HUS HUl HU0 HUB HU
              rw [hue]
              go_wp2
              exact ⟨⟨k + 1, by omega, by congr 1, by rw [HV1.out], hbw⟩, by simp [intOf]; omega⟩
          · obtain rfl : j = y.l.length := by omega
            have hue := HUl.out
            clear HUS HUl HU0 HUB HU
            rw [hue]
            go_wp2
            exact ⟨⟨k + 1, by omega, by congr 1, by rw [HV1.out], hbw⟩, by simp [intOf]; omega⟩
      · have hn2 : (m : Int) ≤ ((V k : Nat) : Int) := by omega
        obtain rfl : T = V k := (hs9 (by omega)).symm
        clear hs9 HS HV HB HVl hn
        go_wp2
        go_ret
        exact ⟨rfl, bl⟩
    · obtain rfl : k = r.l.length := by omega
      obtain rfl : T = V r.l.length := HVl.out.symm
      clear hs9 HS HV HB HVl
      go_wp2
      go_ret
      exact ⟨rfl, bl⟩
end Go.Proofs.YtoimjcfdiljkjaaGreatDoor
namespace Go.Proofs.YtoimjcfdiljkjaaGreatDoor
open Go.RowKit Go.Sort
theorem vw_weighAutos : ∀ (N : Nat) (r : Rw (Rw St)), (∀ a ∈ r.l, ∀ t ∈ a.l, SizeOf.sizeOf t < N) → ∀ (m : Nat) (w : World), 1 ≤ m → m ≤ 1500 → RsAs w w.heap.size r → r.l.length ≤ 140737488355328 → (∀ a ∈ r.l, ∀ t ∈ a.l, LnS t) →
    Calls Tryz.prog 46 #[.slice r.A r.l.length r.c, .int .i64 (m : Int)] w (Bel (.int .i64 ((wAs m r.l : Nat) : Int)) w) := by
  intro N
  induction N with
  | zero =>
    intro r hN m w hm1 hm hR hl hL
    exact vw_weighAutos_of r m w hm1 hm hR hl hL (Lib.hid fun a ha t ht => absurd (hN a ha t ht) (by omega))
  | succ N ih =>
    intro r hN m w hm1 hm hR hl hL
    refine vw_weighAutos_of r m w hm1 hm hR hl hL (Lib.hid fun a ha t ht n hn1 hn W hb => ?_)
    obtain ⟨_, _, _, s4, s5, s6, _, _⟩ := ((hR.2 a ha).2 t ht).of
    obtain ⟨_, _, _, _, l5, l6⟩ := (hL a ha t ht).of
    exact ih t.au (fun a' ha' t' ht' => by
      have h1 := St.lt_of_mem ha' ht'
      have h2 := hN a ha t ht
      omega) n W hn1 hn (RsAs.blw ⟨s4, fun a' ha' => ⟨s5 a' ha', s6 a' ha'⟩⟩ hb hb.size) l5 l6
theorem sz_row (r : Rw (Rw St)) : ∃ N, ∀ a ∈ r.l, ∀ t ∈ a.l, SizeOf.sizeOf t < N := by
  refine ⟨SizeOf.sizeOf r.l, fun a ha t ht => ?_⟩
  have h1 := List.sizeOf_lt_of_mem ha
  have h2 := List.sizeOf_lt_of_mem ht
  cases a with
  | mk A c l =>
    simp at h1 h2
    omega
set_option maxHeartbeats 2000000 in
set_option maxRecDepth 20000 in
theorem vw_Weigh (p : Pt) (m : Nat) (w : World) (hm1 : 1 ≤ m) (hm : m ≤ 1500) (hp : RsP w w.heap.size p) (hL : LnP p) :
    Calls Tryz.prog 19 #[pV p, .int .i64 (m : Int)] w (Bel (.int .i64 ((wPt m p : Nat) : Int)) w) := by
  have HP := Lib.hid hp
  have HL := Lib.hid hL
  have he9 := hL.1.1
  have hn9 := hL.2.1
  have hq9 := (wPt_ok hL m hm).1
  obtain ⟨Ve, hVe⟩ : ∃ Ve : Nat → Nat, Ve = fun k => wlp m ((p.es.l.map stE).take k) (p.es.l.length + p.ns.l.length) := ⟨_, rfl⟩
  have HVe : Hid (∀ (k : Nat) (y : va.En), p.es.l[k]? = some y → Ve k < m → Ve (k + 1) = stE y m (Ve k)) := Lib.hid fun k y hy hk => by
    rw [hVe] at hk ⊢
    simp only at hk ⊢
    rw [wlp_take (f := stE y) (by rw [List.getElem?_map, hy]; rfl), if_pos hk]
  have HSe : Hid (∀ k, m ≤ Ve k → Ve k = wEs m p) := Lib.hid fun k hk => by
    rw [hVe] at hk ⊢
    exact (wlp_stop hk).symm
  have HVel : Hid (Ve p.es.l.length = wEs m p) := Lib.hid (by
    rw [hVe]
    simp only
    rw [List.take_of_length_le (by simp)]
    rfl)
  have HVe0 : Hid (Ve 0 = p.es.l.length + p.ns.l.length) := Lib.hid (by rw [hVe]; simp [wlp])
  have HBe : Hid (∀ k, Ve k ≤ m + XX) := Lib.hid fun k => by
    rw [hVe]
    exact wlpX_le p.es.l stE (fun e => e.tags.length) (fun e he => stE_ok e (hL.1.2 e he)) m hm _ (by unfold XX; omega) k
  obtain ⟨V, hV⟩ : ∃ V : Nat → Nat, V = fun k => wlp m ((p.ns.l.map stN).take k) (wEs m p) := ⟨_, rfl⟩
  have HV : Hid (∀ (k : Nat) (y : Nt), p.ns.l[k]? = some y → V k < m → V (k + 1) = stN y m (V k)) := Lib.hid fun k y hy hk => by
    rw [hV] at hk ⊢
    simp only at hk ⊢
    rw [wlp_take (f := stN y) (by rw [List.getElem?_map, hy]; rfl), if_pos hk]
  have HS : Hid (∀ k, m ≤ V k → V k = wPt m p) := Lib.hid fun k hk => by
    rw [hV] at hk ⊢
    exact (wlp_stop hk).symm
  have HVl : Hid (V p.ns.l.length = wPt m p) := Lib.hid (by
    rw [hV]
    simp only
    rw [List.take_of_length_le (by simp)]
    rfl)
  have HV0 : Hid (V 0 = wEs m p) := Lib.hid (by rw [hV]; simp [wlp])
  have HB : Hid (∀ k, V k ≤ m + XX) := Lib.hid fun k => by
    rw [hV]
    exact wlpX_le p.ns.l stN cN (fun n hn => stN_ok (hL.2.2 n hn)) m hm _ hq9 k
  generalize wPt m p = T at *
  generalize wEs m p = t0 at *
  unfold pV
  clear hV hVe hp hL
  go_enter Tryz.func19, Tryz.ntmps19
  go_wp2
  obtain ⟨W0, hW0⟩ : ∃ W0, (w.alloc (.cells #[.slice p.es.A p.es.l.length p.es.c, .slice p.ns.A p.ns.l.length p.ns.c] 25)) = W0 := ⟨_, rfl⟩
  have hB0 : Below w.heap.size w W0 := by rw [← hW0]; exact bel_box _
  have b0 : W0.cell? ⟨w.heap.size, 0, none⟩ = some (.slice p.es.A p.es.l.length p.es.c) := by rw [← hW0]; simp [go_sem]
  have b1 : W0.cell? ⟨w.heap.size, 1, none⟩ = some (.slice p.ns.A p.ns.l.length p.ns.c) := by rw [← hW0]; simp [go_sem]
  try rw [hW0]
  clear hW0
  go_loopw [5, 6] (fun n i wr => ∃ k : Nat, k ≤ p.es.l.length ∧ i = .int .i64 (k : Int) ∧ n = .int .i64 ((Ve k : Nat) : Int) ∧ Below W0.heap.size W0 wr) (fun _ i _ => p.es.l.length - (intOf i).toNat)
  case atStart => exact ⟨0, by omega, rfl, by rw [HVe0.out]; refine congrArg (Value.int .i64) ?_; (try simp (disch := omega) only [i64w]); omega, Below.refl _ _⟩
  case round =>
    obtain ⟨k, hk, rfl, rfl, hbl⟩ := hrel
    obtain ⟨wo, rfl⟩ : ∃ wo, wo = wr := ⟨_, rfl⟩
    have hbo : Below w.heap.size w wo := hB0.trans (hbl.mono hB0.size)
    have b0 := cell_below hbl b0
    have b1 := cell_below hbl b1
    have hb9 := HBe.out k
    have hs9 := HSe.out k
    by_cases hlt : k < p.es.l.length
    · have hik : (k : Int) < (p.es.l.length : Int) := by omega
      by_cases hn : Ve k < m
      · have hn2 : ((Ve k : Nat) : Int) < (m : Int) := by omega
        obtain ⟨ad, e, hA, had, he, c0, c1, _⟩ := (HP.out.1.1.to hbo).at_ hlt
        have hst := HVe.out k e he hn
        unfold stE at hst
        have h8 := HL.out.1.2 e (List.mem_of_getElem? he)
        rw [hA] at b0
        clear hA he HV HS HB HVl HV0 HVe HSe HBe HVel HVe0 hs9
        generalize hu1 : Ve (k + 1) = v1 at *
        have HU1 := Lib.hid hu1
        clear hu1
        generalize Ve k = v at *
        unfold XX at hb9
        go_wp2
        exact ⟨⟨k + 1, by omega, by congr 1, by rw [HU1.out]; refine congrArg (Value.int .i64) ?_; (try simp (disch := omega) only [i64w]); omega, hbl⟩, by simp [intOf]; omega⟩
      · have hn2 : (m : Int) ≤ ((Ve k : Nat) : Int) := by omega
        have hue := hs9 (by omega)
        clear hn hs9 hb9
        rw [hue] at hn2 ⊢
        have hTT := HS.out 0 (by rw [HV0.out]; omega)
        rw [HV0.out] at hTT
        obtain rfl : T = t0 := hTT.symm
        clear HV HS HB HVl HV0 HVe HSe HBe HVel HVe0 hue
        go_wp2
        go_loopw [5, 7] (fun n i W => n = .int .i64 ((T : Nat) : Int) ∧ i = .int .i64 0 ∧ W = wo) (fun _ i _ => 0)
        case atStart => exact ⟨rfl, rfl, rfl⟩
        case round =>
          obtain ⟨rfl, rfl, rfl⟩ := hrel
          by_cases h00 : 0 < p.ns.l.length
          · have h01 : (0 : Int) < (p.ns.l.length : Int) := by omega
            go_wp2
            go_ret
            exact ⟨rfl, hbo⟩
          · have h01 : (p.ns.l.length : Int) ≤ 0 := by omega
            go_wp2
            go_ret
            exact ⟨rfl, hbo⟩
    · obtain rfl : k = p.es.l.length := by omega
      have hue := HVel.out
      clear hs9 hb9
      rw [hue]
      go_wp2
      clear HVe HSe HBe HVel HVe0
      go_loopw [5, 7] (fun n i wi => ∃ j : Nat, j ≤ p.ns.l.length ∧ i = .int .i64 (j : Int) ∧ n = .int .i64 ((V j : Nat) : Int) ∧ Below wo.heap.size wo wi) (fun _ i _ => p.ns.l.length - (intOf i).toNat)
      case atStart => exact ⟨0, by omega, rfl, by rw [HV0.out], Below.refl _ _⟩
      case round =>
        obtain ⟨j, hj, rfl, rfl, hbi⟩ := hrel
        have hbw : Below w.heap.size w wr := hbo.trans (hbi.mono hbo.size)
        have b0 := cell_below hbi b0
        have b1 := cell_below hbi b1
        have hb9 := HB.out j
        have hs9 := HS.out j
        by_cases hjl : j < p.ns.l.length
        · have hij : (j : Int) < (p.ns.l.length : Int) := by omega
          by_cases hu : V j < m
          · have hu2 : ((V j : Nat) : Int) < (m : Int) := by omega
            obtain ⟨au, y, hA, hau, hy, hym, ⟨s0, s1, s2, s3, s4, s5, s6, s7⟩⟩ := (HP.out.2.1.blw oneB_N hbw hbw.size).at_ hjl
            obtain ⟨_, g2, g3, g4, g5, g6, g7, g8⟩ := HP.out.2.2 y hym
            have hLt := HL.out.2.2 y hym
            obtain ⟨l1, l2, l3, l4, l5, l6, l7⟩ := HL.out.2.2 y hym
            have hst := HV.out j y hy hu
            obtain ⟨p1, p2, _⟩ := s1N_ok hLt m (V j) hm hu
            have p3 := (wDs_ok l1.1 l1.2 m hm).1
            have p4 := (wDs_ok l2.1 l2.2 m hm).1
            have p5 := (wDs_ok l3.1 l3.2 m hm).1
            have p6 := (wQs_ok l4.1 l4.2 m hm).1
            have p7 := (wXs_ok l6 m hm).1
            have p8 := (wXs_ok l7 m hm).1
            unfold stN at hst
            have KAT : Hid (∀ n : Nat, 1 ≤ n → n ≤ 1500 → ∀ W, Below w.heap.size w W → Calls Tryz.prog 46 #[.slice y.au.A y.au.l.length y.au.c, .int .i64 (n : Int)] W (Bel (.int .i64 ((wAs n y.au.l : Nat) : Int)) W)) := Lib.hid fun n hn1 hn W hb => by
              obtain ⟨N, hN⟩ := sz_row y.au
              exact vw_weighAutos N y.au hN n W hn1 hn (g6.blw hb hb.size) l5.1 l5.2
            rw [hA] at b1
            have hb8 := HB.out (j + 1)
            have K1 : Hid (∀ W, Below w.heap.size w W → Calls Tryz.prog 43 #[.slice y.ins.A y.ins.l.length y.ins.c, .int .i64 (m : Int)] W (Bel (.int .i64 ((wDs m y.ins.l : Nat) : Int)) W)) := Lib.hid fun W hb => vw_weighDecls y.ins m W hm1 hm (g2.1.blw oneB_D hb hb.size) l1.1 l1.2
            have K2 : Hid (∀ W, Below w.heap.size w W → Calls Tryz.prog 43 #[.slice y.outs.A y.outs.l.length y.outs.c, .int .i64 (m : Int)] W (Bel (.int .i64 ((wDs m y.outs.l : Nat) : Int)) W)) := Lib.hid fun W hb => vw_weighDecls y.outs m W hm1 hm (g3.1.blw oneB_D hb hb.size) l2.1 l2.2
            have K3 : Hid (∀ W, Below w.heap.size w W → Calls Tryz.prog 43 #[.slice y.locs.A y.locs.l.length y.locs.c, .int .i64 (m : Int)] W (Bel (.int .i64 ((wDs m y.locs.l : Nat) : Int)) W)) := Lib.hid fun W hb => vw_weighDecls y.locs m W hm1 hm (g4.1.blw oneB_D hb hb.size) l3.1 l3.2
            have K4 : Hid (∀ W, Below w.heap.size w W → Calls Tryz.prog 44 #[.slice y.qs.A y.qs.l.length y.qs.c, .int .i64 (m : Int)] W (Bel (.int .i64 ((wQs m y.qs.l : Nat) : Int)) W)) := Lib.hid fun W hb => vw_weighEqs y.qs m W hm1 hm (g5.1.blw oneB_Q hb hb.size) l4.1 l4.2 (fun q hq => ((g5.2 q hq).2.1).blw hb hb.size)
            have K5 : Hid (∀ W, Below w.heap.size w W → Calls Tryz.prog 45 #[.slice y.asm.A y.asm.l.length y.asm.c, .int .i64 (m : Int)] W (Bel (.int .i64 ((wXs m y.asm.l : Nat) : Int)) W)) := Lib.hid fun W hb => vw_weighExprs y.asm m W hm1 hm (g7.1.blw oneB_X hb hb.size) l6 (fun q hq => ((g7.2 q hq).1).blw hb hb.size)
            have K6 : Hid (∀ W, Below w.heap.size w W → Calls Tryz.prog 45 #[.slice y.ens.A y.ens.l.length y.ens.c, .int .i64 (m : Int)] W (Bel (.int .i64 ((wXs m y.ens.l : Nat) : Int)) W)) := Lib.hid fun W hb => vw_weighExprs y.ens m W hm1 hm (g8.1.blw oneB_X hb hb.size) l7 (fun q hq => ((g8.2 q hq).1).blw hb hb.size)
            have hs1 : s1N m (V j) y = V j + wDs m y.ins.l + wDs m y.outs.l + wDs m y.locs.l + wQs m y.qs.l + wXs m y.asm.l + wXs m y.ens.l := rfl
            clear g2 g3 g4 g5 g6 g7 g8 l1 l2 l3 l4 l5 l6 l7 hLt hy hym hA HV HS HB HVl HV0 HP HL hs9
            generalize hu1 : V (j + 1) = v1 at *
            have HU1 := Lib.hid hu1
            clear hu1
            generalize V j = v at *
            generalize s1N m v y = sm at *
            generalize wDs m y.ins.l = d1 at *
            generalize wDs m y.outs.l = d2 at *
            generalize wDs m y.locs.l = d3 at *
            generalize wQs m y.qs.l = d4 at *
            generalize wXs m y.asm.l = d5 at *
            generalize wXs m y.ens.l = d6 at *
            unfold XX at hb8 hb9 p2
            go_wp2
            obtain ⟨WX, hWX⟩ : ∃ WX, (wr.alloc (.cells #[.string y.nm, .slice y.ins.A y.ins.l.length y.ins.c, .slice y.outs.A y.outs.l.length y.outs.c, .slice y.locs.A y.locs.l.length y.locs.c, .slice y.qs.A y.qs.l.length y.qs.c, .slice y.au.A y.au.l.length y.au.c, .slice y.asm.A y.asm.l.length y.asm.c, .slice y.ens.A y.ens.l.length y.ens.c] 45)) = WX := ⟨_, rfl⟩
            have hBX : Below wr.heap.size wr WX := by rw [← hWX]; exact bel_box _
            have hXw : Below w.heap.size w WX := hbw.trans (hBX.mono hbw.size)
            have x0 : WX.cell? ⟨wr.heap.size, 0, none⟩ = some (.string y.nm) := by rw [← hWX]; simp [go_sem]
            have x1 : WX.cell? ⟨wr.heap.size, 1, none⟩ = some (.slice y.ins.A y.ins.l.length y.ins.c) := by rw [← hWX]; simp [go_sem]
            have x2 : WX.cell? ⟨wr.heap.size, 2, none⟩ = some (.slice y.outs.A y.outs.l.length y.outs.c) := by rw [← hWX]; simp [go_sem]
            have x3 : WX.cell? ⟨wr.heap.size, 3, none⟩ = some (.slice y.locs.A y.locs.l.length y.locs.c) := by rw [← hWX]; simp [go_sem]
            have x4 : WX.cell? ⟨wr.heap.size, 4, none⟩ = some (.slice y.qs.A y.qs.l.length y.qs.c) := by rw [← hWX]; simp [go_sem]
            have x5 : WX.cell? ⟨wr.heap.size, 5, none⟩ = some (.slice y.au.A y.au.l.length y.au.c) := by rw [← hWX]; simp [go_sem]
            have x6 : WX.cell? ⟨wr.heap.size, 6, none⟩ = some (.slice y.asm.A y.asm.l.length y.asm.c) := by rw [← hWX]; simp [go_sem]
            have x7 : WX.cell? ⟨wr.heap.size, 7, none⟩ = some (.slice y.ens.A y.ens.l.length y.ens.c) := by rw [← hWX]; simp [go_sem]
            have HWX := Lib.hid hWX
            clear hWX s0 s1 s2 s3 s4 s5 s6 s7
            rw [HWX.out]
            clear HWX
            have q_x1 := cell_regrown x1
            have q_x2 := cell_regrown x2
            have q_x3 := cell_regrown x3
            have q_x4 := cell_regrown x4
            have q_x6 := cell_regrown x6
            have q_x7 := cell_regrown x7
            have k_0 := fun dd os => Calls.regrown_of (K1.out (grow (redrawn WX dd) os) (hXw.trans ((below_regrown WX dd os).mono hXw.size)))
            have k_1 := fun dd os => Calls.regrown_of (K2.out (grow (redrawn WX dd) os) (hXw.trans ((below_regrown WX dd os).mono hXw.size)))
            have k_2 := fun dd os => Calls.regrown_of (K3.out (grow (redrawn WX dd) os) (hXw.trans ((below_regrown WX dd os).mono hXw.size)))
            have k_3 := fun dd os => Calls.regrown_of (K4.out (grow (redrawn WX dd) os) (hXw.trans ((below_regrown WX dd os).mono hXw.size)))
            have k_4 := fun dd os => Calls.regrown_of (K5.out (grow (redrawn WX dd) os) (hXw.trans ((below_regrown WX dd os).mono hXw.size)))
            have k_5 := fun dd os => Calls.regrown_of (K6.out (grow (redrawn WX dd) os) (hXw.trans ((below_regrown WX dd os).mono hXw.size)))
            refine wp_region_quiet_below (by kernel_rfl) (by kernel_rfl) ?_
            repeat (quiet_step (first | with_reducible exact k_0 _ _ | with_reducible exact k_1 _ _ | with_reducible exact k_2 _ _ | with_reducible exact k_3 _ _ | with_reducible exact k_4 _ _ | with_reducible exact k_5 _ _))
            refine wpQuiet_nil ?_
            intro _ hw'
            obtain ⟨⟨dq, osq⟩, hw''⟩ := hw'
            subst hw''
            have hrw4 : Below WX.heap.size WX (grow (redrawn WX dq) osq) := below_regrown WX dq osq
            have hw4 : Below w.heap.size w (grow (redrawn WX dq) osq) := hXw.trans (hrw4.mono hXw.size)
            generalize grow (redrawn WX dq) osq = w4 at hw4 hrw4 ⊢
            clear q_x1 q_x2 q_x3 q_x4 q_x6 q_x7 k_0 k_1 k_2 k_3 k_4 k_5
            have x5 := cell_below hrw4 x5
            have hWS : IntKind.i64.wrap (IntKind.i64.wrap (IntKind.i64.wrap (IntKind.i64.wrap (IntKind.i64.wrap (IntKind.i64.wrap ((v : Int) + (d1 : Int)) + (d2 : Int)) + (d3 : Int)) + (d4 : Int)) + (d5 : Int)) + (d6 : Int)) = (sm : Int) := by
              rw [hs1]
              clear hst hs1
              simp (disch := omega) only [i64w]
              omega
            rw [hWS]
            clear hWS hs1 p3 p4 p5 p6 p7 p8 K1 K2 K3 K4 K5 K6
            by_cases h8 : sm < m
            · rw [if_pos h8] at hst
              have KW1 := KAT.out (m - sm) (by omega) (by omega)
              have e8 : ((m - sm : Nat) : Int) = (m : Int) - (sm : Int) := by omega
              generalize wAs (m - sm) y.au.l = z at *
              rw [e8] at KW1
              have KW := Lib.hid KW1
              have h7 : ((sm : Nat) : Int) < (m : Int) := by omega
              clear KW1 e8 KAT
              go_wp2_with (go_at_call 46; (with_reducible refine (KW.out _ ?_).mono ?_); (exact bl); rintro e w6 ⟨rfl, hb6⟩)
              exact ⟨⟨j + 1, by omega, by congr 1, by rw [HU1.out]; refine congrArg (Value.int .i64) ?_; (try simp (disch := omega) only [i64w]); omega, hbi.trans ((hBX.trans ((hrw4.trans (hb6.mono hrw4.size)).mono hBX.size)).mono hbi.size)⟩, by simp [intOf]; omega⟩
            · rw [if_neg h8] at hst
              have h7 : (m : Int) ≤ ((sm : Nat) : Int) := by omega
              clear KAT
              go_wp2
              exact ⟨⟨j + 1, by omega, by congr 1, by rw [HU1.out, hst], hbi.trans ((hBX.trans (hrw4.mono hBX.size)).mono hbi.size)⟩, by simp [intOf]; omega⟩
          · have hu2 : (m : Int) ≤ ((V j : Nat) : Int) := by omega
            obtain rfl : T = V j := (hs9 (by omega)).symm
            clear hs9 HS HV HB HVl hu HV0
            go_wp2
            go_ret
            exact ⟨rfl, bl⟩
        · obtain rfl : j = p.ns.l.length := by omega
          obtain rfl : T = V p.ns.l.length := HVl.out.symm
          clear hs9 HS HV HB HVl HV0
          go_wp2
          go_ret
          exact ⟨rfl, bl⟩
theorem vw_heavy (p : Pt) (w : World) (hp : RsP w w.heap.size p) (hL : LnP p) :
    Calls Tryz.prog 7 #[pV p] w (Bel (.bool (decide (1500 ≤ wPt 1500 p))) w) := by
  have KW : Hid (∀ W, Below w.heap.size w W → Calls Tryz.prog 19 #[pV p, .int .i64 1500] W (Bel (.int .i64 ((wPt 1500 p : Nat) : Int)) W)) := Lib.hid fun W hb => vw_Weigh p 1500 W (by omega) (by omega) (hp.blw hb hb.size) hL
  clear hp hL
  generalize wPt 1500 p = v at *
  have e9 : decide (1500 ≤ v) = decide ((1500 : Int) ≤ (v : Int)) := by
    by_cases h : 1500 ≤ v
    · rw [decide_eq_true h, decide_eq_true (by omega)]
    · rw [decide_eq_false h, decide_eq_false (by omega)]
  rw [e9]
  clear e9
  go_enter Tryz.func7, Tryz.ntmps7
  go_wp2_with (go_at_call 19; (with_reducible refine (KW.out _ ?_).mono ?_); (exact bl); rintro e w1 ⟨rfl, hb1⟩)
  go_ret
  exact ⟨rfl, bl⟩
end Go.Proofs.YtoimjcfdiljkjaaGreatDoor
namespace Go.Proofs.YtoimjcfdiljkjaaGreatDoor
open Go.ChangeShapes Go.WideShapes Go.ChangeAt Go.RowKit Go.Deep Go.WideElems
def laidL : List (String × DataW Unit) := [("math/bits.deBruijn32tab", Rows.laid_math_bits_deBruijn32tab), ("math/bits.deBruijn64tab", Rows.laid_math_bits_deBruijn64tab), ("internal/strconv.uint64pow10", Rows.laid_internal_strconv_uint64pow10), ("unicode/utf8.acceptRanges", Rows.laid_unicode_utf8_acceptRanges), ("strconv.ErrRange", Rows.laid_strconv_ErrRange), ("strconv.ErrSyntax", Rows.laid_strconv_ErrSyntax), ("unicode/utf8.first", Rows.laid_unicode_utf8_first)]
theorem tyTab : (Tryz.prog.globals[1]?).map (·.type) = some 226 := by kernel_rfl
theorem tySyn : (Tryz.prog.globals[2]?).map (·.type) = some 137 := by kernel_rfl
theorem tyRng : (Tryz.prog.globals[3]?).map (·.type) = some 137 := by kernel_rfl
theorem star : "*" ++ "errors.errorString" = "*errors.errorString" := by decide
theorem rowES (u : TypeId) (h : Tryz.prog.typeName? 3 u = some "*errors.errorString") : u = 246 :=
  typeName_ptr_named (nm := "errors.errorString") (by rw [star]; kernel_rfl) (by kernel_rfl) (by decide) u (by rw [star]; exact h)
theorem std_of_laid {W : World} (h : laidMetH Tryz.prog laidL W) : Std W := by
  rw [MakeChecks.laidMetH_plain _ _ _ (by kernel_rfl)] at h
  have h3 : laidMet Tryz.prog (("internal/strconv.uint64pow10", Lib.tabData .u64 Lib.pow10Tab) :: [("unicode/utf8.acceptRanges", Rows.laid_unicode_utf8_acceptRanges), ("strconv.ErrRange", Rows.laid_strconv_ErrRange), ("strconv.ErrSyntax", Rows.laid_strconv_ErrSyntax), ("unicode/utf8.first", Rows.laid_unicode_utf8_first)]) W := h.tail.tail
  have h4 := h3.tail.tail
  have h5 := h4.tail
  refine ⟨Lib.tabIs_of_head gTab tyTab Tryz.underlying226 Tryz.underlying213 (by kernel_rfl) (by kernel_rfl) h3, ?_, ?_⟩
  · obtain ⟨a, s, hv, _⟩ := laid_sentinel h5 gSyn tySyn Tryz.underlying137 rowES Tryz.underlying246 Tryz.underlying248 rfl rfl Tryz.underlying9 (by kernel_rfl) (by kernel_rfl)
    exact ⟨_, _, hv⟩
  · obtain ⟨a, s, hv, _⟩ := laid_sentinel h4 gRng tyRng Tryz.underlying137 rowES Tryz.underlying246 Tryz.underlying248 rfl rfl Tryz.underlying9 (by kernel_rfl) (by kernel_rfl)
    exact ⟨_, _, hv⟩
theorem int_le {n : Int} (h : (Lit.int .i64 n).wf = true) : n ≤ 9223372036854775807 := by
  have h2 : n ≤ IntKind.i64.max := by simp only [Lit.wf, Bool.and_eq_true, decide_eq_true_eq] at h; exact h.2
  exact h2
section
variable {H : Type} {enc : TypeId × Value → H} {w : World} {held : Bool}
end
end Go.Proofs.YtoimjcfdiljkjaaGreatDoor
