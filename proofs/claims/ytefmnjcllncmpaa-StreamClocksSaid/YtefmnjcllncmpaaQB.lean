/- Texts of one chain, in one file. -/
import Derived.Deep.RegionHeld3
import Derived.Laws.StructEq
import Derived.KernelRfl
import Derived.Test.YtefmnjcllncmpaaQA
/- combine of stream.combine[synchrony/api.Cell] with stream.Pre$1. -/
namespace Go.Proofs.Ytefmnjcllncmpaa
set_option linter.unusedVariables false
set_option linter.unusedSimpArgs false
open Go.RowKit
set_option maxHeartbeats 8000000 in
set_option maxRecDepth 20000 in
theorem combine_p (A : Option Addr) (c : Nat) (ls : List St) (s0 : Int × Int) (stp : Int × Int → List (Int × Int) → (Int × Int) × (Int × Int)) (w : World) (hA : RdS w w.heap.size A ls) (hl : ls.length ≤ 100) (h0 : 0 < ls.length) (h3 : ∀ s ∈ ls, s.l.length ≤ 1000000)
    (K : Hid (∀ (s : Int × Int) (r : List (Int × Int)) (g : Nat) (W : World), r.length = ls.length → RdC W W.heap.size (some ⟨g, 0, none⟩) r → Below w.heap.size w W → Calls Try.prog 47 #[cV s, .slice (some ⟨g, 0, none⟩) r.length r.length] W (Bel (.tuple #[cV (stp s r).1, cV (stp s r).2]) W))) :
    Calls Try.prog 46 #[cV s0, .func (.func 47) #[] #[], .slice A ls.length c] w (NewC (outT stp s0 ls (tog ls)) w) := by
  obtain ⟨ad0, a, rfl, had0, ha, hc0, _⟩ := hA.at_ (k := 0) (by omega)
  rw [add_zero'] at hc0
  rw [tog_head ha]
  have ha3 := h3 a (List.mem_of_getElem? ha)
  have HA := Lib.hid hA
  have H3 := Lib.hid h3
  have KP := Lib.hid plain_any
  simp only [cV] at K KP ⊢
  have g0 : ((ls.length : Int) == 0) = false := beq_eq_false_iff_ne.2 (by omega)
  have hz := add_zero' ad0
  clear hA h3 ha
  go_enter Try.func46, Try.ntmps46
  go_wp2
  go_loopw [7, 24] (fun n i wr => ∃ k : Nat, k ≤ ls.length ∧ i = .int .i64 (k : Int) ∧ n = .int .i64 ((togF a.l.length (ls.take k) : Nat) : Int) ∧ Hid (Bk wr w.heap.size 46 #[.int .i64 s0.1, .int .i64 s0.2]) ∧ Below w.heap.size w wr) (fun _ i _ => ls.length - (intOf i).toNat)
  case atStart => exact ⟨0, by omega, rfl, rfl, Lib.hid (Bk.new _ _ _), (by repeat (first | (with_reducible exact Below.refl _ _) | (with_reducible assumption) | (with_reducible exact bel_box _) | (with_reducible refine bel_step ?_ (by with_reducible assumption)) | (with_reducible refine Below.drew ?_) | (with_reducible refine below_drewN ?_ _) | (with_reducible refine bel_alloc ?_ _)))⟩
  case round =>
    obtain ⟨k, hk, rfl, rfl, hSB, hbl⟩ := hrel
    by_cases hlt : k < ls.length
    · obtain ⟨ad, s, hA, had, hs, hc, _⟩ := (HA.out.to hbl).at_ hlt
      obtain rfl : ad0 = ad := by simpa using hA
      have hm := H3.out s (List.mem_of_getElem? hs)
      have HT := Lib.hid (togF_take (n := a.l.length) hs)
      have hn := (togF_le (ls.take k) a.l.length).1
      clear hs hA K
      generalize togF a.l.length (ls.take k) = n at *
      generalize hsl : s.l.length = m at *
      clear hsl
      go_wp2
      go_roundw
      case rel => exact ⟨k + 1, by omega, by go_num, by rw [HT.out]; exact congrArg _ (by split <;> omega), hSB, (by repeat (first | (with_reducible exact Below.refl _ _) | (with_reducible assumption) | (with_reducible exact bel_box _) | (with_reducible refine bel_step ?_ (by with_reducible assumption)) | (with_reducible refine Below.drew ?_) | (with_reducible refine below_drewN ?_ _) | (with_reducible refine bel_alloc ?_ _)))⟩
      case measure => simp [intOf]; omega
    · obtain rfl : k = ls.length := by omega
      rw [List.take_length]
      have hn := (togF_le ls a.l.length).1
      have HTOG := Lib.hid (togF_le ls a.l.length).2
      generalize togF a.l.length ls = n at *
      have m1 := mk_cells n (by omega) wr
      have m2 := mk_cells ls.length (by omega) (wr.alloc (.cells (fl (List.replicate n (0, 0))).toArray 46))
      clear hc0 hz
      go_wp2
      clear m1 m2
      have hws := Bk.lt hSB.out
      have hB10 : Bc ((wr.alloc (.cells (fl (List.replicate n (0, 0))).toArray 46)).alloc (.cells (fl (List.replicate ls.length (0, 0))).toArray 46)) wr.heap.size (List.replicate n (0, 0)) := (Bk.new wr 46 _).alloc _
      have hB20 : Bc ((wr.alloc (.cells (fl (List.replicate n (0, 0))).toArray 46)).alloc (.cells (fl (List.replicate ls.length (0, 0))).toArray 46)) (wr.heap.size + 1) (List.replicate ls.length (0, 0)) := by
        have h := Bk.new (wr.alloc (.cells (fl (List.replicate n (0, 0))).toArray 46)) 46 (fl (List.replicate ls.length (0, 0))).toArray
        rwa [World.size_alloc] at h
      have hSB0 := (hSB.out.alloc (.cells (fl (List.replicate n (0, 0))).toArray 46)).alloc (.cells (fl (List.replicate ls.length (0, 0))).toArray 46)
      generalize wr.heap.size = G at *
      have hne : ¬ w.heap.size = G := by omega
      have hne2 : ¬ G = w.heap.size := by omega
      have hne3 : ¬ w.heap.size = G + 1 := by omega
      go_loopw [39] (fun i W => ∃ (t : Nat) (cs : List (Int × Int)), t ≤ n ∧ i = .int .i64 (t : Int) ∧ Hid (Bk W w.heap.size 46 #[.int .i64 (stT stp s0 ls t).1, .int .i64 (stT stp s0 ls t).2]) ∧ cs.length = ls.length ∧ Hid (Bc W G (outT stp s0 ls t ++ List.replicate (n - t) (0, 0))) ∧ Hid (Bc W (G + 1) cs) ∧ Below w.heap.size w W) (fun i _ => n - (intOf i).toNat)
      case atStart => exact ⟨0, List.replicate ls.length (0, 0), by omega, rfl, Lib.hid hSB0, by simp, Lib.hid hB10, Lib.hid hB20, (by repeat (first | (with_reducible exact Below.refl _ _) | (with_reducible assumption) | (with_reducible exact bel_box _) | (with_reducible refine bel_step ?_ (by with_reducible assumption)) | (with_reducible refine Below.drew ?_) | (with_reducible refine below_drewN ?_ _) | (with_reducible refine bel_alloc ?_ _)))⟩
      case round =>
        obtain ⟨t, cs, ht, rfl, hST, hcs, hB1, hB2, hbW⟩ := hrel
        by_cases htn : t < n
        · go_wp2
          go_loopw [44] (fun i W => ∃ k : Nat, k ≤ ls.length ∧ i = .int .i64 (k : Int) ∧ Hid (Bk W w.heap.size 46 #[.int .i64 (stT stp s0 ls t).1, .int .i64 (stT stp s0 ls t).2]) ∧ Hid (Bc W G (outT stp s0 ls t ++ List.replicate (n - t) (0, 0))) ∧ Hid (Bc W (G + 1) ((rowAt ls t).take k ++ cs.drop k)) ∧ Below w.heap.size w W) (fun i _ => ls.length - (intOf i).toNat)
          case atStart => exact ⟨0, by omega, rfl, hST, hB1, Lib.hid (by simpa using hB2.out), hbW⟩
          case round =>
            obtain ⟨k, hk, rfl, hSX, hD1, hD2, hbX⟩ := hrel
            by_cases hkl : k < ls.length
            · obtain ⟨ad, s, hA, had, hs, hc, hR⟩ := (HA.out.to hbX).at_ hkl
              obtain rfl : ad0 = ad := by simpa using hA
              have hm := H3.out s (List.mem_of_getElem? hs)
              have htl : t < s.l.length := by have := HTOG.out s (List.mem_of_getElem? hs); omega
              obtain ⟨ad2, e, hA2, hadb2, he, hc1, hc2⟩ := hR.at_ htl
              rw [hA2] at hc
              have hg : s.l.getD t (0, 0) = e := by rw [List.getD, he]; rfl
              have hrow := rowAt_get t hs
              rw [hg] at hrow
              have hmid := mid_get (m := cs) hrow (by rw [rowAt_length, hcs])
              have HSET := Lib.hid (set_mid hrow (show (rowAt ls t).length = cs.length by rw [rowAt_length, hcs]))
              obtain ⟨d, hd⟩ := hmid
              obtain ⟨d0, d1, d2, d3⟩ := hD2.out.cells hd
              have hlt2 := Bk.lt hD2.out
              have hlt1 := Bk.lt hD1.out
              have KE := Lib.hid (KP.out e)
              generalize pl e = pe at *
              generalize s.l.length = m at *
              clear hs hA2 he hg hrow hR hA K hd
              go_wp2_with (go_at_call 66; (with_reducible refine (KE.out _).mono ?_); rintro ev w1 ⟨rfl, hb1⟩; have q0 := (hb1.cell (p := ⟨G + 1, k * 2, none⟩) hlt2).trans d0; have q1 := (hb1.cell (p := ⟨G + 1, k * 2 + 1, none⟩) hlt2).trans d1; have q2 := (hb1.frozen (p := ⟨G + 1, k * 2, none⟩) hlt2).trans d2; have q3 := (hb1.frozen (p := ⟨G + 1, k * 2 + 1, none⟩) hlt2).trans d3)
              go_roundw
              case rel => exact ⟨k + 1, by omega, by go_num, Lib.hid (((hSX.out.below hb1 (Bk.lt hSX.out)).far (p := ⟨G + 1, _, none⟩) (by simpa using hne3) _).far (p := ⟨G + 1, _, none⟩) (by simpa using hne3) _), Lib.hid ((hD1.out.below hb1 hlt1).far2 (by omega) _ _), Lib.hid (by rw [← HSET.out]; exact (hD2.out.below hb1 hlt2).put k pe), bel_two (by repeat (first | (with_reducible exact Below.refl _ _) | (with_reducible assumption) | (with_reducible exact bel_box _) | (with_reducible refine bel_step ?_ (by with_reducible assumption)) | (with_reducible refine Below.drew ?_) | (with_reducible refine below_drewN ?_ _) | (with_reducible refine bel_alloc ?_ _))) (by omega) _ _⟩
              case measure => simp [intOf]; omega
            · obtain rfl : k = ls.length := by omega
              have hD2' := hD2.out
              rw [← rowAt_length ls t, List.take_length, rowAt_length, ← hcs, List.drop_length, List.append_nil] at hD2'
              have HD2 := Lib.hid hD2'
              have KS := Lib.hid (K.out (stT stp s0 ls t) (rowAt ls t) (G + 1))
              have HO := Lib.hid (outT_succ stp s0 ls t)
              have HS := Lib.hid (stT_succ stp s0 ls t)
              rw [rowAt_length] at KS
              generalize stp (stT stp s0 ls t) (rowAt ls t) = q at *
              obtain ⟨⟨qs, qt⟩, q1, q2⟩ := q
              simp only at KS HO HS
              have hget : (outT stp s0 ls t ++ List.replicate (n - t) (0, 0))[t]? = some (0, 0) := by
                rw [List.getElem?_append_right (by rw [outT_length]; omega), outT_length, Nat.sub_self, List.getElem?_replicate, if_pos (by omega)]
              obtain ⟨d0, d1, d2, d3⟩ := hD1.out.cells hget
              have hlt1 := Bk.lt hD1.out
              have hlt2 := Bk.lt hD2.out
              have hlt0 := Bk.lt hSX.out
              have s0' := hSX.out.cell 0
              have s1' := hSX.out.cell 1
              have s2' := hSX.out.frozen 0
              have s3' := hSX.out.frozen 1
              simp only [List.getElem?_toArray, List.getElem?_cons_zero, List.getElem?_cons_succ] at s0' s1'
              have HSET : Hid ((outT stp s0 ls t ++ List.replicate (n - t) (0, 0)).set t (q1, q2) = outT stp s0 ls (t + 1) ++ List.replicate (n - (t + 1)) (0, 0)) := Lib.hid (by
                rw [HO.out, List.set_append_right _ _ (by rw [outT_length]; omega), outT_length, show n - t = n - (t + 1) + 1 from by omega]
                simp [List.replicate_succ])
              have H31 := Lib.hid (K.out)
              clear hD2 hD2' hget K
              have KX := Lib.hid (KS.out)
              clear KS
              go_wp2_with (go_at_call 47; (with_reducible refine (KX.out _ (by simp [rowAt]) HD2.out.rd hbX).mono ?_); rintro ev w1 ⟨rfl, hb1⟩; have q0 := (hb1.cell (p := ⟨G, t * 2, none⟩) hlt1).trans d0; have q1' := (hb1.cell (p := ⟨G, t * 2 + 1, none⟩) hlt1).trans d1; have q2' := (hb1.frozen (p := ⟨G, t * 2, none⟩) hlt1).trans d2; have q3 := (hb1.frozen (p := ⟨G, t * 2 + 1, none⟩) hlt1).trans d3; have p0 := (hb1.cell (p := ⟨w.heap.size, 0, none⟩) hlt0).trans s0'; have p1 := (hb1.cell (p := ⟨w.heap.size, 1, none⟩) hlt0).trans s1'; have p2 := (hb1.frozen (p := ⟨w.heap.size, 0, none⟩) hlt0).trans s2'; have p3 := (hb1.frozen (p := ⟨w.heap.size, 1, none⟩) hlt0).trans s3')
              go_roundw
              case rel => exact ⟨t + 1, rowAt ls t, by omega, by go_num, Lib.hid (by rw [HS.out]; exact ((((hSX.out.below hb1 hlt0).set_ 0 (.int .i64 qs)).set_ 1 (.int .i64 qt)).far (p := ⟨G, _, none⟩) (by simpa using hne) _).far (p := ⟨G, _, none⟩) (by simpa using hne) _), by rw [rowAt_length], Lib.hid (by rw [← HSET.out]; exact ((hD1.out.below hb1 hlt1).far2 (by omega) _ _).put t (q1, q2)), Lib.hid (((HD2.out.below hb1 hlt2).far2 (by omega) _ _).far2 (by omega) _ _), bel_two (bel_two (by repeat (first | (with_reducible exact Below.refl _ _) | (with_reducible assumption) | (with_reducible exact bel_box _) | (with_reducible refine bel_step ?_ (by with_reducible assumption)) | (with_reducible refine Below.drew ?_) | (with_reducible refine below_drewN ?_ _) | (with_reducible refine bel_alloc ?_ _))) (by omega) _ _) (by omega) _ _⟩
              case measure => simp [intOf]; omega
        · obtain rfl : t = n := by omega
          have hB1' := hB1.out
          rw [Nat.sub_self, List.replicate_zero, List.append_nil] at hB1'
          have HR := Lib.hid hB1'.rd
          have HL := Lib.hid (outT_length stp s0 ls t)
          clear hB1 hB2 hB1' K
          go_wp2
          go_ret
          exact ⟨_, _, by rw [HL.out]; rfl, HR.out, hbW⟩
end Go.Proofs.Ytefmnjcllncmpaa
/- combine of stream.combine[synchrony/api.Cell] with stream.Fby$1. -/
namespace Go.Proofs.Ytefmnjcllncmpaa
set_option linter.unusedVariables false
set_option linter.unusedSimpArgs false
open Go.RowKit
set_option maxHeartbeats 8000000 in
set_option maxRecDepth 20000 in
theorem combine_f (A : Option Addr) (c : Nat) (ls : List St) (s0 : Int × Int) (stp : Int × Int → List (Int × Int) → (Int × Int) × (Int × Int)) (w : World) (hA : RdS w w.heap.size A ls) (hl : ls.length ≤ 100) (h0 : 0 < ls.length) (h3 : ∀ s ∈ ls, s.l.length ≤ 1000000)
    (K : Hid (∀ (s : Int × Int) (r : List (Int × Int)) (g : Nat) (W : World), r.length = ls.length → RdC W W.heap.size (some ⟨g, 0, none⟩) r → Below w.heap.size w W → Calls Try.prog 50 #[cV s, .slice (some ⟨g, 0, none⟩) r.length r.length] W (Bel (.tuple #[cV (stp s r).1, cV (stp s r).2]) W))) :
    Calls Try.prog 46 #[cV s0, .func (.func 50) #[] #[], .slice A ls.length c] w (NewC (outT stp s0 ls (tog ls)) w) := by
  obtain ⟨ad0, a, rfl, had0, ha, hc0, _⟩ := hA.at_ (k := 0) (by omega)
  rw [add_zero'] at hc0
  rw [tog_head ha]
  have ha3 := h3 a (List.mem_of_getElem? ha)
  have HA := Lib.hid hA
  have H3 := Lib.hid h3
  have KP := Lib.hid plain_any
  simp only [cV] at K KP ⊢
  have g0 : ((ls.length : Int) == 0) = false := beq_eq_false_iff_ne.2 (by omega)
  have hz := add_zero' ad0
  clear hA h3 ha
  go_enter Try.func46, Try.ntmps46
  go_wp2
  go_loopw [7, 24] (fun n i wr => ∃ k : Nat, k ≤ ls.length ∧ i = .int .i64 (k : Int) ∧ n = .int .i64 ((togF a.l.length (ls.take k) : Nat) : Int) ∧ Hid (Bk wr w.heap.size 46 #[.int .i64 s0.1, .int .i64 s0.2]) ∧ Below w.heap.size w wr) (fun _ i _ => ls.length - (intOf i).toNat)
  case atStart => exact ⟨0, by omega, rfl, rfl, Lib.hid (Bk.new _ _ _), (by repeat (first | (with_reducible exact Below.refl _ _) | (with_reducible assumption) | (with_reducible exact bel_box _) | (with_reducible refine bel_step ?_ (by with_reducible assumption)) | (with_reducible refine Below.drew ?_) | (with_reducible refine below_drewN ?_ _) | (with_reducible refine bel_alloc ?_ _)))⟩
  case round =>
    obtain ⟨k, hk, rfl, rfl, hSB, hbl⟩ := hrel
    by_cases hlt : k < ls.length
    · obtain ⟨ad, s, hA, had, hs, hc, _⟩ := (HA.out.to hbl).at_ hlt
      obtain rfl : ad0 = ad := by simpa using hA
      have hm := H3.out s (List.mem_of_getElem? hs)
      have HT := Lib.hid (togF_take (n := a.l.length) hs)
      have hn := (togF_le (ls.take k) a.l.length).1
      clear hs hA K
      generalize togF a.l.length (ls.take k) = n at *
      generalize hsl : s.l.length = m at *
      clear hsl
      go_wp2
      go_roundw
      case rel => exact ⟨k + 1, by omega, by go_num, by rw [HT.out]; exact congrArg _ (by split <;> omega), hSB, (by repeat (first | (with_reducible exact Below.refl _ _) | (with_reducible assumption) | (with_reducible exact bel_box _) | (with_reducible refine bel_step ?_ (by with_reducible assumption)) | (with_reducible refine Below.drew ?_) | (with_reducible refine below_drewN ?_ _) | (with_reducible refine bel_alloc ?_ _)))⟩
      case measure => simp [intOf]; omega
    · obtain rfl : k = ls.length := by omega
      rw [List.take_length]
      have hn := (togF_le ls a.l.length).1
      have HTOG := Lib.hid (togF_le ls a.l.length).2
      generalize togF a.l.length ls = n at *
      have m1 := mk_cells n (by omega) wr
      have m2 := mk_cells ls.length (by omega) (wr.alloc (.cells (fl (List.replicate n (0, 0))).toArray 46))
      clear hc0 hz
      go_wp2
      clear m1 m2
      have hws := Bk.lt hSB.out
      have hB10 : Bc ((wr.alloc (.cells (fl (List.replicate n (0, 0))).toArray 46)).alloc (.cells (fl (List.replicate ls.length (0, 0))).toArray 46)) wr.heap.size (List.replicate n (0, 0)) := (Bk.new wr 46 _).alloc _
      have hB20 : Bc ((wr.alloc (.cells (fl (List.replicate n (0, 0))).toArray 46)).alloc (.cells (fl (List.replicate ls.length (0, 0))).toArray 46)) (wr.heap.size + 1) (List.replicate ls.length (0, 0)) := by
        have h := Bk.new (wr.alloc (.cells (fl (List.replicate n (0, 0))).toArray 46)) 46 (fl (List.replicate ls.length (0, 0))).toArray
        rwa [World.size_alloc] at h
      have hSB0 := (hSB.out.alloc (.cells (fl (List.replicate n (0, 0))).toArray 46)).alloc (.cells (fl (List.replicate ls.length (0, 0))).toArray 46)
      generalize wr.heap.size = G at *
      have hne : ¬ w.heap.size = G := by omega
      have hne2 : ¬ G = w.heap.size := by omega
      have hne3 : ¬ w.heap.size = G + 1 := by omega
      go_loopw [39] (fun i W => ∃ (t : Nat) (cs : List (Int × Int)), t ≤ n ∧ i = .int .i64 (t : Int) ∧ Hid (Bk W w.heap.size 46 #[.int .i64 (stT stp s0 ls t).1, .int .i64 (stT stp s0 ls t).2]) ∧ cs.length = ls.length ∧ Hid (Bc W G (outT stp s0 ls t ++ List.replicate (n - t) (0, 0))) ∧ Hid (Bc W (G + 1) cs) ∧ Below w.heap.size w W) (fun i _ => n - (intOf i).toNat)
      case atStart => exact ⟨0, List.replicate ls.length (0, 0), by omega, rfl, Lib.hid hSB0, by simp, Lib.hid hB10, Lib.hid hB20, (by repeat (first | (with_reducible exact Below.refl _ _) | (with_reducible assumption) | (with_reducible exact bel_box _) | (with_reducible refine bel_step ?_ (by with_reducible assumption)) | (with_reducible refine Below.drew ?_) | (with_reducible refine below_drewN ?_ _) | (with_reducible refine bel_alloc ?_ _)))⟩
      case round =>
        obtain ⟨t, cs, ht, rfl, hST, hcs, hB1, hB2, hbW⟩ := hrel
        by_cases htn : t < n
        · go_wp2
          go_loopw [44] (fun i W => ∃ k : Nat, k ≤ ls.length ∧ i = .int .i64 (k : Int) ∧ Hid (Bk W w.heap.size 46 #[.int .i64 (stT stp s0 ls t).1, .int .i64 (stT stp s0 ls t).2]) ∧ Hid (Bc W G (outT stp s0 ls t ++ List.replicate (n - t) (0, 0))) ∧ Hid (Bc W (G + 1) ((rowAt ls t).take k ++ cs.drop k)) ∧ Below w.heap.size w W) (fun i _ => ls.length - (intOf i).toNat)
          case atStart => exact ⟨0, by omega, rfl, hST, hB1, Lib.hid (by simpa using hB2.out), hbW⟩
          case round =>
            obtain ⟨k, hk, rfl, hSX, hD1, hD2, hbX⟩ := hrel
            by_cases hkl : k < ls.length
            · obtain ⟨ad, s, hA, had, hs, hc, hR⟩ := (HA.out.to hbX).at_ hkl
              obtain rfl : ad0 = ad := by simpa using hA
              have hm := H3.out s (List.mem_of_getElem? hs)
              have htl : t < s.l.length := by have := HTOG.out s (List.mem_of_getElem? hs); omega
              obtain ⟨ad2, e, hA2, hadb2, he, hc1, hc2⟩ := hR.at_ htl
              rw [hA2] at hc
              have hg : s.l.getD t (0, 0) = e := by rw [List.getD, he]; rfl
              have hrow := rowAt_get t hs
              rw [hg] at hrow
              have hmid := mid_get (m := cs) hrow (by rw [rowAt_length, hcs])
              have HSET := Lib.hid (set_mid hrow (show (rowAt ls t).length = cs.length by rw [rowAt_length, hcs]))
              obtain ⟨d, hd⟩ := hmid
              obtain ⟨d0, d1, d2, d3⟩ := hD2.out.cells hd
              have hlt2 := Bk.lt hD2.out
              have hlt1 := Bk.lt hD1.out
              have KE := Lib.hid (KP.out e)
              generalize pl e = pe at *
              generalize s.l.length = m at *
              clear hs hA2 he hg hrow hR hA K hd
              go_wp2_with (go_at_call 66; (with_reducible refine (KE.out _).mono ?_); rintro ev w1 ⟨rfl, hb1⟩; have q0 := (hb1.cell (p := ⟨G + 1, k * 2, none⟩) hlt2).trans d0; have q1 := (hb1.cell (p := ⟨G + 1, k * 2 + 1, none⟩) hlt2).trans d1; have q2 := (hb1.frozen (p := ⟨G + 1, k * 2, none⟩) hlt2).trans d2; have q3 := (hb1.frozen (p := ⟨G + 1, k * 2 + 1, none⟩) hlt2).trans d3)
              go_roundw
              case rel => exact ⟨k + 1, by omega, by go_num, Lib.hid (((hSX.out.below hb1 (Bk.lt hSX.out)).far (p := ⟨G + 1, _, none⟩) (by simpa using hne3) _).far (p := ⟨G + 1, _, none⟩) (by simpa using hne3) _), Lib.hid ((hD1.out.below hb1 hlt1).far2 (by omega) _ _), Lib.hid (by rw [← HSET.out]; exact (hD2.out.below hb1 hlt2).put k pe), bel_two (by repeat (first | (with_reducible exact Below.refl _ _) | (with_reducible assumption) | (with_reducible exact bel_box _) | (with_reducible refine bel_step ?_ (by with_reducible assumption)) | (with_reducible refine Below.drew ?_) | (with_reducible refine below_drewN ?_ _) | (with_reducible refine bel_alloc ?_ _))) (by omega) _ _⟩
              case measure => simp [intOf]; omega
            · obtain rfl : k = ls.length := by omega
              have hD2' := hD2.out
              rw [← rowAt_length ls t, List.take_length, rowAt_length, ← hcs, List.drop_length, List.append_nil] at hD2'
              have HD2 := Lib.hid hD2'
              have KS := Lib.hid (K.out (stT stp s0 ls t) (rowAt ls t) (G + 1))
              have HO := Lib.hid (outT_succ stp s0 ls t)
              have HS := Lib.hid (stT_succ stp s0 ls t)
              rw [rowAt_length] at KS
              generalize stp (stT stp s0 ls t) (rowAt ls t) = q at *
              obtain ⟨⟨qs, qt⟩, q1, q2⟩ := q
              simp only at KS HO HS
              have hget : (outT stp s0 ls t ++ List.replicate (n - t) (0, 0))[t]? = some (0, 0) := by
                rw [List.getElem?_append_right (by rw [outT_length]; omega), outT_length, Nat.sub_self, List.getElem?_replicate, if_pos (by omega)]
              obtain ⟨d0, d1, d2, d3⟩ := hD1.out.cells hget
              have hlt1 := Bk.lt hD1.out
              have hlt2 := Bk.lt hD2.out
              have hlt0 := Bk.lt hSX.out
              have s0' := hSX.out.cell 0
              have s1' := hSX.out.cell 1
              have s2' := hSX.out.frozen 0
              have s3' := hSX.out.frozen 1
              simp only [List.getElem?_toArray, List.getElem?_cons_zero, List.getElem?_cons_succ] at s0' s1'
              have HSET : Hid ((outT stp s0 ls t ++ List.replicate (n - t) (0, 0)).set t (q1, q2) = outT stp s0 ls (t + 1) ++ List.replicate (n - (t + 1)) (0, 0)) := Lib.hid (by
                rw [HO.out, List.set_append_right _ _ (by rw [outT_length]; omega), outT_length, show n - t = n - (t + 1) + 1 from by omega]
                simp [List.replicate_succ])
              have H31 := Lib.hid (K.out)
              clear hD2 hD2' hget K
              have KX := Lib.hid (KS.out)
              clear KS
              go_wp2_with (go_at_call 50; (with_reducible refine (KX.out _ (by simp [rowAt]) HD2.out.rd hbX).mono ?_); rintro ev w1 ⟨rfl, hb1⟩; have q0 := (hb1.cell (p := ⟨G, t * 2, none⟩) hlt1).trans d0; have q1' := (hb1.cell (p := ⟨G, t * 2 + 1, none⟩) hlt1).trans d1; have q2' := (hb1.frozen (p := ⟨G, t * 2, none⟩) hlt1).trans d2; have q3 := (hb1.frozen (p := ⟨G, t * 2 + 1, none⟩) hlt1).trans d3; have p0 := (hb1.cell (p := ⟨w.heap.size, 0, none⟩) hlt0).trans s0'; have p1 := (hb1.cell (p := ⟨w.heap.size, 1, none⟩) hlt0).trans s1'; have p2 := (hb1.frozen (p := ⟨w.heap.size, 0, none⟩) hlt0).trans s2'; have p3 := (hb1.frozen (p := ⟨w.heap.size, 1, none⟩) hlt0).trans s3')
              go_roundw
              case rel => exact ⟨t + 1, rowAt ls t, by omega, by go_num, Lib.hid (by rw [HS.out]; exact ((((hSX.out.below hb1 hlt0).set_ 0 (.int .i64 qs)).set_ 1 (.int .i64 qt)).far (p := ⟨G, _, none⟩) (by simpa using hne) _).far (p := ⟨G, _, none⟩) (by simpa using hne) _), by rw [rowAt_length], Lib.hid (by rw [← HSET.out]; exact ((hD1.out.below hb1 hlt1).far2 (by omega) _ _).put t (q1, q2)), Lib.hid (((HD2.out.below hb1 hlt2).far2 (by omega) _ _).far2 (by omega) _ _), bel_two (bel_two (by repeat (first | (with_reducible exact Below.refl _ _) | (with_reducible assumption) | (with_reducible exact bel_box _) | (with_reducible refine bel_step ?_ (by with_reducible assumption)) | (with_reducible refine Below.drew ?_) | (with_reducible refine below_drewN ?_ _) | (with_reducible refine bel_alloc ?_ _))) (by omega) _ _) (by omega) _ _⟩
              case measure => simp [intOf]; omega
        · obtain rfl : t = n := by omega
          have hB1' := hB1.out
          rw [Nat.sub_self, List.replicate_zero, List.append_nil] at hB1'
          have HR := Lib.hid hB1'.rd
          have HL := Lib.hid (outT_length stp s0 ls t)
          clear hB1 hB2 hB1' K
          go_wp2
          go_ret
          exact ⟨_, _, by rw [HL.out]; rfl, HR.out, hbW⟩
end Go.Proofs.Ytefmnjcllncmpaa
/- combine of stream.combine[int] with stream.Word$1. -/
namespace Go.Proofs.Ytefmnjcllncmpaa
set_option linter.unusedVariables false
set_option linter.unusedSimpArgs false
open Go.RowKit
set_option maxHeartbeats 8000000 in
set_option maxRecDepth 20000 in
theorem combine_w (p0 : Value) (p1 : Value) (A : Option Addr) (c : Nat) (ls : List St) (s0 : Int) (stp : Int → List (Int × Int) → (Int) × (Int × Int)) (w : World) (hA : RdS w w.heap.size A ls) (hl : ls.length ≤ 100) (h0 : 0 < ls.length) (h3 : ∀ s ∈ ls, s.l.length ≤ 1000000)
    (K : Hid (∀ (m : Nat) (s : Int) (r : List (Int × Int)) (g : Nat) (W : World), m ≤ 1000000 → s = stT stp s0 ls m → r.length = ls.length → RdC W W.heap.size (some ⟨g, 0, none⟩) r → Below w.heap.size w W → Calls Try.prog 56 #[.int .i64 s, .slice (some ⟨g, 0, none⟩) r.length r.length, p0, p1] W (Bel (.tuple #[.int .i64 (stp s r).1, cV (stp s r).2]) W))) :
    Calls Try.prog 55 #[.int .i64 s0, .func (.func 56) #[] #[p0, p1], .slice A ls.length c] w (NewC (outT stp s0 ls (tog ls)) w) := by
  obtain ⟨ad0, a, rfl, had0, ha, hc0, _⟩ := hA.at_ (k := 0) (by omega)
  rw [add_zero'] at hc0
  rw [tog_head ha]
  have ha3 := h3 a (List.mem_of_getElem? ha)
  have HA := Lib.hid hA
  have H3 := Lib.hid h3
  have KP := Lib.hid plain_any
  simp only [cV] at K KP
  have g0 : ((ls.length : Int) == 0) = false := beq_eq_false_iff_ne.2 (by omega)
  have hz := add_zero' ad0
  clear hA h3 ha
  go_enter Try.func55, Try.ntmps55
  go_wp2
  go_loopw [7, 24] (fun n i wr => ∃ k : Nat, k ≤ ls.length ∧ i = .int .i64 (k : Int) ∧ n = .int .i64 ((togF a.l.length (ls.take k) : Nat) : Int) ∧ Below w.heap.size w wr) (fun _ i _ => ls.length - (intOf i).toNat)
  case atStart => exact ⟨0, by omega, rfl, rfl, (by repeat (first | (with_reducible exact Below.refl _ _) | (with_reducible assumption) | (with_reducible exact bel_box _) | (with_reducible refine bel_step ?_ (by with_reducible assumption)) | (with_reducible refine Below.drew ?_) | (with_reducible refine below_drewN ?_ _) | (with_reducible refine bel_alloc ?_ _)))⟩
  case round =>
    obtain ⟨k, hk, rfl, rfl, hbl⟩ := hrel
    by_cases hlt : k < ls.length
    · obtain ⟨ad, s, hA, had, hs, hc, _⟩ := (HA.out.to hbl).at_ hlt
      obtain rfl : ad0 = ad := by simpa using hA
      have hm := H3.out s (List.mem_of_getElem? hs)
      have HT := Lib.hid (togF_take (n := a.l.length) hs)
      have hn := (togF_le (ls.take k) a.l.length).1
      clear hs hA K
      generalize togF a.l.length (ls.take k) = n at *
      generalize hsl : s.l.length = m at *
      clear hsl
      go_wp2
      go_roundw
      case rel => exact ⟨k + 1, by omega, by go_num, by rw [HT.out]; exact congrArg _ (by split <;> omega), (by repeat (first | (with_reducible exact Below.refl _ _) | (with_reducible assumption) | (with_reducible exact bel_box _) | (with_reducible refine bel_step ?_ (by with_reducible assumption)) | (with_reducible refine Below.drew ?_) | (with_reducible refine below_drewN ?_ _) | (with_reducible refine bel_alloc ?_ _)))⟩
      case measure => simp [intOf]; omega
    · obtain rfl : k = ls.length := by omega
      rw [List.take_length]
      have hn := (togF_le ls a.l.length).1
      have HTOG := Lib.hid (togF_le ls a.l.length).2
      generalize togF a.l.length ls = n at *
      have m1 := mk_cells n (by omega) wr
      have m2 := mk_cells ls.length (by omega) (wr.alloc (.cells (fl (List.replicate n (0, 0))).toArray 46))
      clear hc0 hz
      go_wp2
      clear m1 m2
      have hws := hbl.size
      have hB10 : Bc ((wr.alloc (.cells (fl (List.replicate n (0, 0))).toArray 46)).alloc (.cells (fl (List.replicate ls.length (0, 0))).toArray 46)) wr.heap.size (List.replicate n (0, 0)) := (Bk.new wr 46 _).alloc _
      have hB20 : Bc ((wr.alloc (.cells (fl (List.replicate n (0, 0))).toArray 46)).alloc (.cells (fl (List.replicate ls.length (0, 0))).toArray 46)) (wr.heap.size + 1) (List.replicate ls.length (0, 0)) := by
        have h := Bk.new (wr.alloc (.cells (fl (List.replicate n (0, 0))).toArray 46)) 46 (fl (List.replicate ls.length (0, 0))).toArray
        rwa [World.size_alloc] at h
      generalize wr.heap.size = G at *
      go_loopw [0, 39] (fun sv i W => ∃ (t : Nat) (cs : List (Int × Int)), t ≤ n ∧ i = .int .i64 (t : Int) ∧ sv = .int .i64 (stT stp s0 ls t) ∧ cs.length = ls.length ∧ Hid (Bc W G (outT stp s0 ls t ++ List.replicate (n - t) (0, 0))) ∧ Hid (Bc W (G + 1) cs) ∧ Below w.heap.size w W) (fun _ i _ => n - (intOf i).toNat)
      case atStart => exact ⟨0, List.replicate ls.length (0, 0), by omega, rfl, rfl, by simp, Lib.hid hB10, Lib.hid hB20, (by repeat (first | (with_reducible exact Below.refl _ _) | (with_reducible assumption) | (with_reducible exact bel_box _) | (with_reducible refine bel_step ?_ (by with_reducible assumption)) | (with_reducible refine Below.drew ?_) | (with_reducible refine below_drewN ?_ _) | (with_reducible refine bel_alloc ?_ _)))⟩
      case round =>
        obtain ⟨t, cs, ht, rfl, rfl, hcs, hB1, hB2, hbW⟩ := hrel
        by_cases htn : t < n
        · go_wp2
          go_loopw [44] (fun i W => ∃ k : Nat, k ≤ ls.length ∧ i = .int .i64 (k : Int) ∧ Hid (Bc W G (outT stp s0 ls t ++ List.replicate (n - t) (0, 0))) ∧ Hid (Bc W (G + 1) ((rowAt ls t).take k ++ cs.drop k)) ∧ Below w.heap.size w W) (fun i _ => ls.length - (intOf i).toNat)
          case atStart => exact ⟨0, by omega, rfl, hB1, Lib.hid (by simpa using hB2.out), hbW⟩
          case round =>
            obtain ⟨k, hk, rfl, hD1, hD2, hbX⟩ := hrel
            by_cases hkl : k < ls.length
            · obtain ⟨ad, s, hA, had, hs, hc, hR⟩ := (HA.out.to hbX).at_ hkl
              obtain rfl : ad0 = ad := by simpa using hA
              have hm := H3.out s (List.mem_of_getElem? hs)
              have htl : t < s.l.length := by have := HTOG.out s (List.mem_of_getElem? hs); omega
              obtain ⟨ad2, e, hA2, hadb2, he, hc1, hc2⟩ := hR.at_ htl
              rw [hA2] at hc
              have hg : s.l.getD t (0, 0) = e := by rw [List.getD, he]; rfl
              have hrow := rowAt_get t hs
              rw [hg] at hrow
              have hmid := mid_get (m := cs) hrow (by rw [rowAt_length, hcs])
              have HSET := Lib.hid (set_mid hrow (show (rowAt ls t).length = cs.length by rw [rowAt_length, hcs]))
              obtain ⟨d, hd⟩ := hmid
              obtain ⟨d0, d1, d2, d3⟩ := hD2.out.cells hd
              have hlt2 := Bk.lt hD2.out
              have hlt1 := Bk.lt hD1.out
              have KE := Lib.hid (KP.out e)
              generalize pl e = pe at *
              generalize s.l.length = m at *
              clear hs hA2 he hg hrow hR hA K hd
              go_wp2_with (go_at_call 66; (with_reducible refine (KE.out _).mono ?_); rintro ev w1 ⟨rfl, hb1⟩; have q0 := (hb1.cell (p := ⟨G + 1, k * 2, none⟩) hlt2).trans d0; have q1 := (hb1.cell (p := ⟨G + 1, k * 2 + 1, none⟩) hlt2).trans d1; have q2 := (hb1.frozen (p := ⟨G + 1, k * 2, none⟩) hlt2).trans d2; have q3 := (hb1.frozen (p := ⟨G + 1, k * 2 + 1, none⟩) hlt2).trans d3)
              go_roundw
              case rel => exact ⟨k + 1, by omega, by go_num, Lib.hid ((hD1.out.below hb1 hlt1).far2 (by omega) _ _), Lib.hid (by rw [← HSET.out]; exact (hD2.out.below hb1 hlt2).put k pe), bel_two (by repeat (first | (with_reducible exact Below.refl _ _) | (with_reducible assumption) | (with_reducible exact bel_box _) | (with_reducible refine bel_step ?_ (by with_reducible assumption)) | (with_reducible refine Below.drew ?_) | (with_reducible refine below_drewN ?_ _) | (with_reducible refine bel_alloc ?_ _))) (by omega) _ _⟩
              case measure => simp [intOf]; omega
            · obtain rfl : k = ls.length := by omega
              have hD2' := hD2.out
              rw [← rowAt_length ls t, List.take_length, rowAt_length, ← hcs, List.drop_length, List.append_nil] at hD2'
              have HD2 := Lib.hid hD2'
              have KS := Lib.hid (fun W => K.out t (stT stp s0 ls t) (rowAt ls t) (G + 1) W (by omega) rfl)
              have HO := Lib.hid (outT_succ stp s0 ls t)
              have HS := Lib.hid (stT_succ stp s0 ls t)
              rw [rowAt_length] at KS
              generalize stp (stT stp s0 ls t) (rowAt ls t) = q at *
              obtain ⟨qs, q1, q2⟩ := q
              simp only at KS HO HS
              have hget : (outT stp s0 ls t ++ List.replicate (n - t) (0, 0))[t]? = some (0, 0) := by
                rw [List.getElem?_append_right (by rw [outT_length]; omega), outT_length, Nat.sub_self, List.getElem?_replicate, if_pos (by omega)]
              obtain ⟨d0, d1, d2, d3⟩ := hD1.out.cells hget
              have hlt1 := Bk.lt hD1.out
              have hlt2 := Bk.lt hD2.out
              have HSET : Hid ((outT stp s0 ls t ++ List.replicate (n - t) (0, 0)).set t (q1, q2) = outT stp s0 ls (t + 1) ++ List.replicate (n - (t + 1)) (0, 0)) := Lib.hid (by
                rw [HO.out, List.set_append_right _ _ (by rw [outT_length]; omega), outT_length, show n - t = n - (t + 1) + 1 from by omega]
                simp [List.replicate_succ])
              have H31 := Lib.hid (K.out)
              clear hD2 hD2' hget K
              have KX := Lib.hid (KS.out)
              clear KS
              go_wp2_with (go_at_call 56; (with_reducible refine (KX.out _ (by simp [rowAt]) HD2.out.rd hbX).mono ?_); rintro ev w1 ⟨rfl, hb1⟩; have q0 := (hb1.cell (p := ⟨G, t * 2, none⟩) hlt1).trans d0; have q1' := (hb1.cell (p := ⟨G, t * 2 + 1, none⟩) hlt1).trans d1; have q2' := (hb1.frozen (p := ⟨G, t * 2, none⟩) hlt1).trans d2; have q3 := (hb1.frozen (p := ⟨G, t * 2 + 1, none⟩) hlt1).trans d3)
              go_roundw
              case rel => exact ⟨t + 1, rowAt ls t, by omega, by go_num, by rw [HS.out], by rw [rowAt_length], Lib.hid (by rw [← HSET.out]; exact (hD1.out.below hb1 hlt1).put t (q1, q2)), Lib.hid ((HD2.out.below hb1 hlt2).far2 (by omega) _ _), bel_two (by repeat (first | (with_reducible exact Below.refl _ _) | (with_reducible assumption) | (with_reducible exact bel_box _) | (with_reducible refine bel_step ?_ (by with_reducible assumption)) | (with_reducible refine Below.drew ?_) | (with_reducible refine below_drewN ?_ _) | (with_reducible refine bel_alloc ?_ _))) (by omega) _ _⟩
              case measure => simp [intOf]; omega
        · obtain rfl : t = n := by omega
          have hB1' := hB1.out
          rw [Nat.sub_self, List.replicate_zero, List.append_nil] at hB1'
          have HR := Lib.hid hB1'.rd
          have HL := Lib.hid (outT_length stp s0 ls t)
          clear hB1 hB2 hB1' K
          go_wp2
          go_ret
          exact ⟨_, _, by rw [HL.out]; rfl, HR.out, hbW⟩
end Go.Proofs.Ytefmnjcllncmpaa
/- The step of Word; Pre, Arrow, Fby, Word of the program. -/
namespace Go.Proofs.Ytefmnjcllncmpaa
set_option linter.unusedVariables false
set_option linter.unusedSimpArgs false
open Go.RowKit
def wordS (h l : List Bool) (k : Int) (r : List (Int × Int)) : Int × (Int × Int) := if jnt r then (if bw.ck h l = 0 then (wrap64 (k + 1), (1, if bw.att h l k then 1 else 0)) else (k, (2, 0))) else (k, (0, 0))
set_option maxHeartbeats 4000000 in
theorem word1_any (A B : Option Addr) (c d : Nat) (h l : List Bool) (k : Int) (pv pw : Addr) (r : List (Int × Int)) (g : Nat) (w : World) (hr : r.length = 1) (hR : RdC w w.heap.size (some ⟨g, 0, none⟩) r)
    (hA : Rd w w.heap.size A (bls h)) (hB : Rd w w.heap.size B (bls l)) (hh : h.length ≤ 140737488355328) (hl : l.length ≤ 140737488355328)
    (hpv : pv.block < w.heap.size) (hpw : pw.block < w.heap.size) (hk : k ≤ 9223372036854775807) (hv : w.cell? pv = some (.bool (bw.ck h l == 0))) (hw1 : w.cell? pw = some (.slice A h.length c)) (hw2 : w.cell? ⟨pw.block, pw.off + 1, none⟩ = some (.slice B l.length d)) :
    Calls Try.prog 56 #[.int .i64 k, .slice (some ⟨g, 0, none⟩) r.length r.length, .pointer (some pv), .pointer (some pw)] w (Bel (.tuple #[.int .i64 (wordS h l k r).1, cV (wordS h l k r).2]) w) := by
  obtain ⟨⟨x0, y0⟩, rfl⟩ := len1 hr
  have KJ : Hid (∀ W, RdC W W.heap.size (some ⟨g, 0, none⟩) [(x0, y0)] → Calls Try.prog 44 #[.slice (some ⟨g, 0, none⟩) 1 1] W (Bel (.bool (jnt [(x0, y0)])) W)) := Lib.hid fun W h => joint_any (some ⟨g, 0, none⟩) 1 [(x0, y0)] W h (by simp)
  have HR := Lib.hid hR
  have KA : Hid (∀ W, Below w.heap.size w W → Calls Try.prog 57 #[.agg #[.slice A h.length c, .slice B l.length d], .int .i64 k] W (Bel (.bool (bw.att h l k)) W)) := Lib.hid fun W hb => bw.at_any A B c d k h l W (hA.to hb) (hB.to hb) hh hl hk
  have KU := Lib.hid undefined_any
  have KP := Lib.hid present_any
  simp only [List.length_cons, List.length_nil, cV, wordS] at KU KP ⊢
  generalize hj : jnt [(x0, y0)] = j at *
  generalize hat : bw.att h l k = tt at *
  clear hR hr hj hA hB hat
  cases j
  · go_enter Try.func56, Try.ntmps56
    go_wp2_with (first
      | (go_at_call 44; (with_reducible refine (KJ.out _ (HR.out.to ?_)).mono ?_); (focus ((repeat (first | (with_reducible exact Below.refl _ _) | (with_reducible assumption) | (with_reducible exact bel_box _) | (with_reducible refine bel_step ?_ (by with_reducible assumption)) | (with_reducible refine Below.drew ?_) | (with_reducible refine below_drewN ?_ _) | (with_reducible refine bel_alloc ?_ _))); done)); rintro e w1 ⟨rfl, hb1⟩; obtain ⟨q0, q1, q2, q3⟩ := box2 (w := w) (W := w1) (by repeat (first | (with_reducible exact Below.refl _ _) | (with_reducible assumption) | (with_reducible exact bel_box _) | (with_reducible refine bel_step ?_ (by with_reducible assumption)) | (with_reducible refine Below.drew ?_) | (with_reducible refine below_drewN ?_ _) | (with_reducible refine bel_alloc ?_ _))); have v0 := (((by repeat (first | (with_reducible exact Below.refl _ _) | (with_reducible assumption) | (with_reducible exact bel_box _) | (with_reducible refine bel_step ?_ (by with_reducible assumption)) | (with_reducible refine Below.drew ?_) | (with_reducible refine below_drewN ?_ _) | (with_reducible refine bel_alloc ?_ _))) : Below w.heap.size w w1).cell hpv).trans hv; have v1 := (((by repeat (first | (with_reducible exact Below.refl _ _) | (with_reducible assumption) | (with_reducible exact bel_box _) | (with_reducible refine bel_step ?_ (by with_reducible assumption)) | (with_reducible refine Below.drew ?_) | (with_reducible refine below_drewN ?_ _) | (with_reducible refine bel_alloc ?_ _))) : Below w.heap.size w w1).cell hpw).trans hw1; have v2 := (((by repeat (first | (with_reducible exact Below.refl _ _) | (with_reducible assumption) | (with_reducible exact bel_box _) | (with_reducible refine bel_step ?_ (by with_reducible assumption)) | (with_reducible refine Below.drew ?_) | (with_reducible refine below_drewN ?_ _) | (with_reducible refine bel_alloc ?_ _))) : Below w.heap.size w w1).cell (p := ⟨pw.block, pw.off + 1, none⟩) hpw).trans hw2)
      | (go_at_call 57; (with_reducible refine (KA.out _ ?_).mono ?_); (focus ((repeat (first | (with_reducible exact Below.refl _ _) | (with_reducible assumption) | (with_reducible exact bel_box _) | (with_reducible refine bel_step ?_ (by with_reducible assumption)) | (with_reducible refine Below.drew ?_) | (with_reducible refine below_drewN ?_ _) | (with_reducible refine bel_alloc ?_ _))); done)); rintro e w2 ⟨rfl, hb2⟩; clear q0 q1 q2 q3; obtain ⟨q0, q1, q2, q3⟩ := box2 (w := w) (W := w2) (by repeat (first | (with_reducible exact Below.refl _ _) | (with_reducible assumption) | (with_reducible exact bel_box _) | (with_reducible refine bel_step ?_ (by with_reducible assumption)) | (with_reducible refine Below.drew ?_) | (with_reducible refine below_drewN ?_ _) | (with_reducible refine bel_alloc ?_ _))); have v0 := (((by repeat (first | (with_reducible exact Below.refl _ _) | (with_reducible assumption) | (with_reducible exact bel_box _) | (with_reducible refine bel_step ?_ (by with_reducible assumption)) | (with_reducible refine Below.drew ?_) | (with_reducible refine below_drewN ?_ _) | (with_reducible refine bel_alloc ?_ _))) : Below w.heap.size w w2).cell hpv).trans hv; have v1 := (((by repeat (first | (with_reducible exact Below.refl _ _) | (with_reducible assumption) | (with_reducible exact bel_box _) | (with_reducible refine bel_step ?_ (by with_reducible assumption)) | (with_reducible refine Below.drew ?_) | (with_reducible refine below_drewN ?_ _) | (with_reducible refine bel_alloc ?_ _))) : Below w.heap.size w w2).cell hpw).trans hw1; have v2 := (((by repeat (first | (with_reducible exact Below.refl _ _) | (with_reducible assumption) | (with_reducible exact bel_box _) | (with_reducible refine bel_step ?_ (by with_reducible assumption)) | (with_reducible refine Below.drew ?_) | (with_reducible refine below_drewN ?_ _) | (with_reducible refine bel_alloc ?_ _))) : Below w.heap.size w w2).cell (p := ⟨pw.block, pw.off + 1, none⟩) hpw).trans hw2)
      | (go_at_call 45; (with_reducible refine (KU.out _).mono ?_); rintro e w3 ⟨rfl, hb3⟩; clear q0 q1 q2 q3; obtain ⟨q0, q1, q2, q3⟩ := box2 (w := w) (W := w3) (by repeat (first | (with_reducible exact Below.refl _ _) | (with_reducible assumption) | (with_reducible exact bel_box _) | (with_reducible refine bel_step ?_ (by with_reducible assumption)) | (with_reducible refine Below.drew ?_) | (with_reducible refine below_drewN ?_ _) | (with_reducible refine bel_alloc ?_ _))); have v0 := (((by repeat (first | (with_reducible exact Below.refl _ _) | (with_reducible assumption) | (with_reducible exact bel_box _) | (with_reducible refine bel_step ?_ (by with_reducible assumption)) | (with_reducible refine Below.drew ?_) | (with_reducible refine below_drewN ?_ _) | (with_reducible refine bel_alloc ?_ _))) : Below w.heap.size w w3).cell hpv).trans hv; have v1 := (((by repeat (first | (with_reducible exact Below.refl _ _) | (with_reducible assumption) | (with_reducible exact bel_box _) | (with_reducible refine bel_step ?_ (by with_reducible assumption)) | (with_reducible refine Below.drew ?_) | (with_reducible refine below_drewN ?_ _) | (with_reducible refine bel_alloc ?_ _))) : Below w.heap.size w w3).cell hpw).trans hw1; have v2 := (((by repeat (first | (with_reducible exact Below.refl _ _) | (with_reducible assumption) | (with_reducible exact bel_box _) | (with_reducible refine bel_step ?_ (by with_reducible assumption)) | (with_reducible refine Below.drew ?_) | (with_reducible refine below_drewN ?_ _) | (with_reducible refine bel_alloc ?_ _))) : Below w.heap.size w w3).cell (p := ⟨pw.block, pw.off + 1, none⟩) hpw).trans hw2)
      | (go_at_call 42; (with_reducible refine (KP.out _ _).mono ?_); rintro e w4 ⟨rfl, hb4⟩; clear q0 q1 q2 q3; obtain ⟨q0, q1, q2, q3⟩ := box2 (w := w) (W := w4) (by repeat (first | (with_reducible exact Below.refl _ _) | (with_reducible assumption) | (with_reducible exact bel_box _) | (with_reducible refine bel_step ?_ (by with_reducible assumption)) | (with_reducible refine Below.drew ?_) | (with_reducible refine below_drewN ?_ _) | (with_reducible refine bel_alloc ?_ _))); have v0 := (((by repeat (first | (with_reducible exact Below.refl _ _) | (with_reducible assumption) | (with_reducible exact bel_box _) | (with_reducible refine bel_step ?_ (by with_reducible assumption)) | (with_reducible refine Below.drew ?_) | (with_reducible refine below_drewN ?_ _) | (with_reducible refine bel_alloc ?_ _))) : Below w.heap.size w w4).cell hpv).trans hv; have v1 := (((by repeat (first | (with_reducible exact Below.refl _ _) | (with_reducible assumption) | (with_reducible exact bel_box _) | (with_reducible refine bel_step ?_ (by with_reducible assumption)) | (with_reducible refine Below.drew ?_) | (with_reducible refine below_drewN ?_ _) | (with_reducible refine bel_alloc ?_ _))) : Below w.heap.size w w4).cell hpw).trans hw1; have v2 := (((by repeat (first | (with_reducible exact Below.refl _ _) | (with_reducible assumption) | (with_reducible exact bel_box _) | (with_reducible refine bel_step ?_ (by with_reducible assumption)) | (with_reducible refine Below.drew ?_) | (with_reducible refine below_drewN ?_ _) | (with_reducible refine bel_alloc ?_ _))) : Below w.heap.size w w4).cell (p := ⟨pw.block, pw.off + 1, none⟩) hpw).trans hw2))
    obtain ⟨t1, t2⟩ := set2_cells q0 q1 (.int .i64 0) (.int .i64 0)
    refine bodyPost_ret (v := .tuple #[.int .i64 k, cV (0, 0)]) (by simp [results, Try.results56, go_sem, t1, t2, cV]) rfl ⟨rfl, ?_⟩
    first | exact bel_set2 (by repeat (first | (with_reducible exact Below.refl _ _) | (with_reducible assumption) | (with_reducible exact bel_box _) | (with_reducible refine bel_step ?_ (by with_reducible assumption)) | (with_reducible refine Below.drew ?_) | (with_reducible refine below_drewN ?_ _) | (with_reducible refine bel_alloc ?_ _))) (Nat.le_refl _) _ _ | exact Below.drew (bel_set2 (by repeat (first | (with_reducible exact Below.refl _ _) | (with_reducible assumption) | (with_reducible exact bel_box _) | (with_reducible refine bel_step ?_ (by with_reducible assumption)) | (with_reducible refine Below.drew ?_) | (with_reducible refine below_drewN ?_ _) | (with_reducible refine bel_alloc ?_ _))) (Nat.le_refl _) _ _)
  · by_cases hc : bw.ck h l = 0
    · have hcb : (bw.ck h l == 0) = true := by simp [hc]
      rw [hcb] at hv
      rw [if_pos rfl, if_pos hc]
      clear hc hcb
      cases tt
      · go_enter Try.func56, Try.ntmps56
        go_wp2_with (first
      | (go_at_call 44; (with_reducible refine (KJ.out _ (HR.out.to ?_)).mono ?_); (focus ((repeat (first | (with_reducible exact Below.refl _ _) | (with_reducible assumption) | (with_reducible exact bel_box _) | (with_reducible refine bel_step ?_ (by with_reducible assumption)) | (with_reducible refine Below.drew ?_) | (with_reducible refine below_drewN ?_ _) | (with_reducible refine bel_alloc ?_ _))); done)); rintro e w1 ⟨rfl, hb1⟩; obtain ⟨q0, q1, q2, q3⟩ := box2 (w := w) (W := w1) (by repeat (first | (with_reducible exact Below.refl _ _) | (with_reducible assumption) | (with_reducible exact bel_box _) | (with_reducible refine bel_step ?_ (by with_reducible assumption)) | (with_reducible refine Below.drew ?_) | (with_reducible refine below_drewN ?_ _) | (with_reducible refine bel_alloc ?_ _))); have v0 := (((by repeat (first | (with_reducible exact Below.refl _ _) | (with_reducible assumption) | (with_reducible exact bel_box _) | (with_reducible refine bel_step ?_ (by with_reducible assumption)) | (with_reducible refine Below.drew ?_) | (with_reducible refine below_drewN ?_ _) | (with_reducible refine bel_alloc ?_ _))) : Below w.heap.size w w1).cell hpv).trans hv; have v1 := (((by repeat (first | (with_reducible exact Below.refl _ _) | (with_reducible assumption) | (with_reducible exact bel_box _) | (with_reducible refine bel_step ?_ (by with_reducible assumption)) | (with_reducible refine Below.drew ?_) | (with_reducible refine below_drewN ?_ _) | (with_reducible refine bel_alloc ?_ _))) : Below w.heap.size w w1).cell hpw).trans hw1; have v2 := (((by repeat (first | (with_reducible exact Below.refl _ _) | (with_reducible assumption) | (with_reducible exact bel_box _) | (with_reducible refine bel_step ?_ (by with_reducible assumption)) | (with_reducible refine Below.drew ?_) | (with_reducible refine below_drewN ?_ _) | (with_reducible refine bel_alloc ?_ _))) : Below w.heap.size w w1).cell (p := ⟨pw.block, pw.off + 1, none⟩) hpw).trans hw2)
      | (go_at_call 57; (with_reducible refine (KA.out _ ?_).mono ?_); (focus ((repeat (first | (with_reducible exact Below.refl _ _) | (with_reducible assumption) | (with_reducible exact bel_box _) | (with_reducible refine bel_step ?_ (by with_reducible assumption)) | (with_reducible refine Below.drew ?_) | (with_reducible refine below_drewN ?_ _) | (with_reducible refine bel_alloc ?_ _))); done)); rintro e w2 ⟨rfl, hb2⟩; clear q0 q1 q2 q3; obtain ⟨q0, q1, q2, q3⟩ := box2 (w := w) (W := w2) (by repeat (first | (with_reducible exact Below.refl _ _) | (with_reducible assumption) | (with_reducible exact bel_box _) | (with_reducible refine bel_step ?_ (by with_reducible assumption)) | (with_reducible refine Below.drew ?_) | (with_reducible refine below_drewN ?_ _) | (with_reducible refine bel_alloc ?_ _))); have v0 := (((by repeat (first | (with_reducible exact Below.refl _ _) | (with_reducible assumption) | (with_reducible exact bel_box _) | (with_reducible refine bel_step ?_ (by with_reducible assumption)) | (with_reducible refine Below.drew ?_) | (with_reducible refine below_drewN ?_ _) | (with_reducible refine bel_alloc ?_ _))) : Below w.heap.size w w2).cell hpv).trans hv; have v1 := (((by repeat (first | (with_reducible exact Below.refl _ _) | (with_reducible assumption) | (with_reducible exact bel_box _) | (with_reducible refine bel_step ?_ (by with_reducible assumption)) | (with_reducible refine Below.drew ?_) | (with_reducible refine below_drewN ?_ _) | (with_reducible refine bel_alloc ?_ _))) : Below w.heap.size w w2).cell hpw).trans hw1; have v2 := (((by repeat (first | (with_reducible exact Below.refl _ _) | (with_reducible assumption) | (with_reducible exact bel_box _) | (with_reducible refine bel_step ?_ (by with_reducible assumption)) | (with_reducible refine Below.drew ?_) | (with_reducible refine below_drewN ?_ _) | (with_reducible refine bel_alloc ?_ _))) : Below w.heap.size w w2).cell (p := ⟨pw.block, pw.off + 1, none⟩) hpw).trans hw2)
      | (go_at_call 45; (with_reducible refine (KU.out _).mono ?_); rintro e w3 ⟨rfl, hb3⟩; clear q0 q1 q2 q3; obtain ⟨q0, q1, q2, q3⟩ := box2 (w := w) (W := w3) (by repeat (first | (with_reducible exact Below.refl _ _) | (with_reducible assumption) | (with_reducible exact bel_box _) | (with_reducible refine bel_step ?_ (by with_reducible assumption)) | (with_reducible refine Below.drew ?_) | (with_reducible refine below_drewN ?_ _) | (with_reducible refine bel_alloc ?_ _))); have v0 := (((by repeat (first | (with_reducible exact Below.refl _ _) | (with_reducible assumption) | (with_reducible exact bel_box _) | (with_reducible refine bel_step ?_ (by with_reducible assumption)) | (with_reducible refine Below.drew ?_) | (with_reducible refine below_drewN ?_ _) | (with_reducible refine bel_alloc ?_ _))) : Below w.heap.size w w3).cell hpv).trans hv; have v1 := (((by repeat (first | (with_reducible exact Below.refl _ _) | (with_reducible assumption) | (with_reducible exact bel_box _) | (with_reducible refine bel_step ?_ (by with_reducible assumption)) | (with_reducible refine Below.drew ?_) | (with_reducible refine below_drewN ?_ _) | (with_reducible refine bel_alloc ?_ _))) : Below w.heap.size w w3).cell hpw).trans hw1; have v2 := (((by repeat (first | (with_reducible exact Below.refl _ _) | (with_reducible assumption) | (with_reducible exact bel_box _) | (with_reducible refine bel_step ?_ (by with_reducible assumption)) | (with_reducible refine Below.drew ?_) | (with_reducible refine below_drewN ?_ _) | (with_reducible refine bel_alloc ?_ _))) : Below w.heap.size w w3).cell (p := ⟨pw.block, pw.off + 1, none⟩) hpw).trans hw2)
      | (go_at_call 42; (with_reducible refine (KP.out _ _).mono ?_); rintro e w4 ⟨rfl, hb4⟩; clear q0 q1 q2 q3; obtain ⟨q0, q1, q2, q3⟩ := box2 (w := w) (W := w4) (by repeat (first | (with_reducible exact Below.refl _ _) | (with_reducible assumption) | (with_reducible exact bel_box _) | (with_reducible refine bel_step ?_ (by with_reducible assumption)) | (with_reducible refine Below.drew ?_) | (with_reducible refine below_drewN ?_ _) | (with_reducible refine bel_alloc ?_ _))); have v0 := (((by repeat (first | (with_reducible exact Below.refl _ _) | (with_reducible assumption) | (with_reducible exact bel_box _) | (with_reducible refine bel_step ?_ (by with_reducible assumption)) | (with_reducible refine Below.drew ?_) | (with_reducible refine below_drewN ?_ _) | (with_reducible refine bel_alloc ?_ _))) : Below w.heap.size w w4).cell hpv).trans hv; have v1 := (((by repeat (first | (with_reducible exact Below.refl _ _) | (with_reducible assumption) | (with_reducible exact bel_box _) | (with_reducible refine bel_step ?_ (by with_reducible assumption)) | (with_reducible refine Below.drew ?_) | (with_reducible refine below_drewN ?_ _) | (with_reducible refine bel_alloc ?_ _))) : Below w.heap.size w w4).cell hpw).trans hw1; have v2 := (((by repeat (first | (with_reducible exact Below.refl _ _) | (with_reducible assumption) | (with_reducible exact bel_box _) | (with_reducible refine bel_step ?_ (by with_reducible assumption)) | (with_reducible refine Below.drew ?_) | (with_reducible refine below_drewN ?_ _) | (with_reducible refine bel_alloc ?_ _))) : Below w.heap.size w w4).cell (p := ⟨pw.block, pw.off + 1, none⟩) hpw).trans hw2))
        obtain ⟨t1, t2⟩ := set2_cells q0 q1 (.int .i64 1) (.int .i64 0)
        refine bodyPost_ret (v := .tuple #[.int .i64 (wrap64 (k + 1)), cV (1, 0)]) (by simp [results, Try.results56, go_sem, t1, t2, cV]) rfl ⟨rfl, ?_⟩
        first | exact bel_set2 (by repeat (first | (with_reducible exact Below.refl _ _) | (with_reducible assumption) | (with_reducible exact bel_box _) | (with_reducible refine bel_step ?_ (by with_reducible assumption)) | (with_reducible refine Below.drew ?_) | (with_reducible refine below_drewN ?_ _) | (with_reducible refine bel_alloc ?_ _))) (Nat.le_refl _) _ _ | exact Below.drew (bel_set2 (by repeat (first | (with_reducible exact Below.refl _ _) | (with_reducible assumption) | (with_reducible exact bel_box _) | (with_reducible refine bel_step ?_ (by with_reducible assumption)) | (with_reducible refine Below.drew ?_) | (with_reducible refine below_drewN ?_ _) | (with_reducible refine bel_alloc ?_ _))) (Nat.le_refl _) _ _)
      · go_enter Try.func56, Try.ntmps56
        go_wp2_with (first
      | (go_at_call 44; (with_reducible refine (KJ.out _ (HR.out.to ?_)).mono ?_); (focus ((repeat (first | (with_reducible exact Below.refl _ _) | (with_reducible assumption) | (with_reducible exact bel_box _) | (with_reducible refine bel_step ?_ (by with_reducible assumption)) | (with_reducible refine Below.drew ?_) | (with_reducible refine below_drewN ?_ _) | (with_reducible refine bel_alloc ?_ _))); done)); rintro e w1 ⟨rfl, hb1⟩; obtain ⟨q0, q1, q2, q3⟩ := box2 (w := w) (W := w1) (by repeat (first | (with_reducible exact Below.refl _ _) | (with_reducible assumption) | (with_reducible exact bel_box _) | (with_reducible refine bel_step ?_ (by with_reducible assumption)) | (with_reducible refine Below.drew ?_) | (with_reducible refine below_drewN ?_ _) | (with_reducible refine bel_alloc ?_ _))); have v0 := (((by repeat (first | (with_reducible exact Below.refl _ _) | (with_reducible assumption) | (with_reducible exact bel_box _) | (with_reducible refine bel_step ?_ (by with_reducible assumption)) | (with_reducible refine Below.drew ?_) | (with_reducible refine below_drewN ?_ _) | (with_reducible refine bel_alloc ?_ _))) : Below w.heap.size w w1).cell hpv).trans hv; have v1 := (((by repeat (first | (with_reducible exact Below.refl _ _) | (with_reducible assumption) | (with_reducible exact bel_box _) | (with_reducible refine bel_step ?_ (by with_reducible assumption)) | (with_reducible refine Below.drew ?_) | (with_reducible refine below_drewN ?_ _) | (with_reducible refine bel_alloc ?_ _))) : Below w.heap.size w w1).cell hpw).trans hw1; have v2 := (((by repeat (first | (with_reducible exact Below.refl _ _) | (with_reducible assumption) | (with_reducible exact bel_box _) | (with_reducible refine bel_step ?_ (by with_reducible assumption)) | (with_reducible refine Below.drew ?_) | (with_reducible refine below_drewN ?_ _) | (with_reducible refine bel_alloc ?_ _))) : Below w.heap.size w w1).cell (p := ⟨pw.block, pw.off + 1, none⟩) hpw).trans hw2)
      | (go_at_call 57; (with_reducible refine (KA.out _ ?_).mono ?_); (focus ((repeat (first | (with_reducible exact Below.refl _ _) | (with_reducible assumption) | (with_reducible exact bel_box _) | (with_reducible refine bel_step ?_ (by with_reducible assumption)) | (with_reducible refine Below.drew ?_) | (with_reducible refine below_drewN ?_ _) | (with_reducible refine bel_alloc ?_ _))); done)); rintro e w2 ⟨rfl, hb2⟩; clear q0 q1 q2 q3; obtain ⟨q0, q1, q2, q3⟩ := box2 (w := w) (W := w2) (by repeat (first | (with_reducible exact Below.refl _ _) | (with_reducible assumption) | (with_reducible exact bel_box _) | (with_reducible refine bel_step ?_ (by with_reducible assumption)) | (with_reducible refine Below.drew ?_) | (with_reducible refine below_drewN ?_ _) | (with_reducible refine bel_alloc ?_ _))); have v0 := (((by repeat (first | (with_reducible exact Below.refl _ _) | (with_reducible assumption) | (with_reducible exact bel_box _) | (with_reducible refine bel_step ?_ (by with_reducible assumption)) | (with_reducible refine Below.drew ?_) | (with_reducible refine below_drewN ?_ _) | (with_reducible refine bel_alloc ?_ _))) : Below w.heap.size w w2).cell hpv).trans hv; have v1 := (((by repeat (first | (with_reducible exact Below.refl _ _) | (with_reducible assumption) | (with_reducible exact bel_box _) | (with_reducible refine bel_step ?_ (by with_reducible assumption)) | (with_reducible refine Below.drew ?_) | (with_reducible refine below_drewN ?_ _) | (with_reducible refine bel_alloc ?_ _))) : Below w.heap.size w w2).cell hpw).trans hw1; have v2 := (((by repeat (first | (with_reducible exact Below.refl _ _) | (with_reducible assumption) | (with_reducible exact bel_box _) | (with_reducible refine bel_step ?_ (by with_reducible assumption)) | (with_reducible refine Below.drew ?_) | (with_reducible refine below_drewN ?_ _) | (with_reducible refine bel_alloc ?_ _))) : Below w.heap.size w w2).cell (p := ⟨pw.block, pw.off + 1, none⟩) hpw).trans hw2)
      | (go_at_call 45; (with_reducible refine (KU.out _).mono ?_); rintro e w3 ⟨rfl, hb3⟩; clear q0 q1 q2 q3; obtain ⟨q0, q1, q2, q3⟩ := box2 (w := w) (W := w3) (by repeat (first | (with_reducible exact Below.refl _ _) | (with_reducible assumption) | (with_reducible exact bel_box _) | (with_reducible refine bel_step ?_ (by with_reducible assumption)) | (with_reducible refine Below.drew ?_) | (with_reducible refine below_drewN ?_ _) | (with_reducible refine bel_alloc ?_ _))); have v0 := (((by repeat (first | (with_reducible exact Below.refl _ _) | (with_reducible assumption) | (with_reducible exact bel_box _) | (with_reducible refine bel_step ?_ (by with_reducible assumption)) | (with_reducible refine Below.drew ?_) | (with_reducible refine below_drewN ?_ _) | (with_reducible refine bel_alloc ?_ _))) : Below w.heap.size w w3).cell hpv).trans hv; have v1 := (((by repeat (first | (with_reducible exact Below.refl _ _) | (with_reducible assumption) | (with_reducible exact bel_box _) | (with_reducible refine bel_step ?_ (by with_reducible assumption)) | (with_reducible refine Below.drew ?_) | (with_reducible refine below_drewN ?_ _) | (with_reducible refine bel_alloc ?_ _))) : Below w.heap.size w w3).cell hpw).trans hw1; have v2 := (((by repeat (first | (with_reducible exact Below.refl _ _) | (with_reducible assumption) | (with_reducible exact bel_box _) | (with_reducible refine bel_step ?_ (by with_reducible assumption)) | (with_reducible refine Below.drew ?_) | (with_reducible refine below_drewN ?_ _) | (with_reducible refine bel_alloc ?_ _))) : Below w.heap.size w w3).cell (p := ⟨pw.block, pw.off + 1, none⟩) hpw).trans hw2)
      | (go_at_call 42; (with_reducible refine (KP.out _ _).mono ?_); rintro e w4 ⟨rfl, hb4⟩; clear q0 q1 q2 q3; obtain ⟨q0, q1, q2, q3⟩ := box2 (w := w) (W := w4) (by repeat (first | (with_reducible exact Below.refl _ _) | (with_reducible assumption) | (with_reducible exact bel_box _) | (with_reducible refine bel_step ?_ (by with_reducible assumption)) | (with_reducible refine Below.drew ?_) | (with_reducible refine below_drewN ?_ _) | (with_reducible refine bel_alloc ?_ _))); have v0 := (((by repeat (first | (with_reducible exact Below.refl _ _) | (with_reducible assumption) | (with_reducible exact bel_box _) | (with_reducible refine bel_step ?_ (by with_reducible assumption)) | (with_reducible refine Below.drew ?_) | (with_reducible refine below_drewN ?_ _) | (with_reducible refine bel_alloc ?_ _))) : Below w.heap.size w w4).cell hpv).trans hv; have v1 := (((by repeat (first | (with_reducible exact Below.refl _ _) | (with_reducible assumption) | (with_reducible exact bel_box _) | (with_reducible refine bel_step ?_ (by with_reducible assumption)) | (with_reducible refine Below.drew ?_) | (with_reducible refine below_drewN ?_ _) | (with_reducible refine bel_alloc ?_ _))) : Below w.heap.size w w4).cell hpw).trans hw1; have v2 := (((by repeat (first | (with_reducible exact Below.refl _ _) | (with_reducible assumption) | (with_reducible exact bel_box _) | (with_reducible refine bel_step ?_ (by with_reducible assumption)) | (with_reducible refine Below.drew ?_) | (with_reducible refine below_drewN ?_ _) | (with_reducible refine bel_alloc ?_ _))) : Below w.heap.size w w4).cell (p := ⟨pw.block, pw.off + 1, none⟩) hpw).trans hw2))
        obtain ⟨t1, t2⟩ := set2_cells q0 q1 (.int .i64 1) (.int .i64 1)
        refine bodyPost_ret (v := .tuple #[.int .i64 (wrap64 (k + 1)), cV (1, 1)]) (by simp [results, Try.results56, go_sem, t1, t2, cV]) rfl ⟨rfl, ?_⟩
        first | exact bel_set2 (by repeat (first | (with_reducible exact Below.refl _ _) | (with_reducible assumption) | (with_reducible exact bel_box _) | (with_reducible refine bel_step ?_ (by with_reducible assumption)) | (with_reducible refine Below.drew ?_) | (with_reducible refine below_drewN ?_ _) | (with_reducible refine bel_alloc ?_ _))) (Nat.le_refl _) _ _ | exact Below.drew (bel_set2 (by repeat (first | (with_reducible exact Below.refl _ _) | (with_reducible assumption) | (with_reducible exact bel_box _) | (with_reducible refine bel_step ?_ (by with_reducible assumption)) | (with_reducible refine Below.drew ?_) | (with_reducible refine below_drewN ?_ _) | (with_reducible refine bel_alloc ?_ _))) (Nat.le_refl _) _ _)
    · have hcb : (bw.ck h l == 0) = false := by simp [hc]
      rw [hcb] at hv
      rw [if_pos rfl, if_neg hc]
      clear hc hcb
      go_enter Try.func56, Try.ntmps56
      go_wp2_with (first
      | (go_at_call 44; (with_reducible refine (KJ.out _ (HR.out.to ?_)).mono ?_); (focus ((repeat (first | (with_reducible exact Below.refl _ _) | (with_reducible assumption) | (with_reducible exact bel_box _) | (with_reducible refine bel_step ?_ (by with_reducible assumption)) | (with_reducible refine Below.drew ?_) | (with_reducible refine below_drewN ?_ _) | (with_reducible refine bel_alloc ?_ _))); done)); rintro e w1 ⟨rfl, hb1⟩; obtain ⟨q0, q1, q2, q3⟩ := box2 (w := w) (W := w1) (by repeat (first | (with_reducible exact Below.refl _ _) | (with_reducible assumption) | (with_reducible exact bel_box _) | (with_reducible refine bel_step ?_ (by with_reducible assumption)) | (with_reducible refine Below.drew ?_) | (with_reducible refine below_drewN ?_ _) | (with_reducible refine bel_alloc ?_ _))); have v0 := (((by repeat (first | (with_reducible exact Below.refl _ _) | (with_reducible assumption) | (with_reducible exact bel_box _) | (with_reducible refine bel_step ?_ (by with_reducible assumption)) | (with_reducible refine Below.drew ?_) | (with_reducible refine below_drewN ?_ _) | (with_reducible refine bel_alloc ?_ _))) : Below w.heap.size w w1).cell hpv).trans hv; have v1 := (((by repeat (first | (with_reducible exact Below.refl _ _) | (with_reducible assumption) | (with_reducible exact bel_box _) | (with_reducible refine bel_step ?_ (by with_reducible assumption)) | (with_reducible refine Below.drew ?_) | (with_reducible refine below_drewN ?_ _) | (with_reducible refine bel_alloc ?_ _))) : Below w.heap.size w w1).cell hpw).trans hw1; have v2 := (((by repeat (first | (with_reducible exact Below.refl _ _) | (with_reducible assumption) | (with_reducible exact bel_box _) | (with_reducible refine bel_step ?_ (by with_reducible assumption)) | (with_reducible refine Below.drew ?_) | (with_reducible refine below_drewN ?_ _) | (with_reducible refine bel_alloc ?_ _))) : Below w.heap.size w w1).cell (p := ⟨pw.block, pw.off + 1, none⟩) hpw).trans hw2)
      | (go_at_call 57; (with_reducible refine (KA.out _ ?_).mono ?_); (focus ((repeat (first | (with_reducible exact Below.refl _ _) | (with_reducible assumption) | (with_reducible exact bel_box _) | (with_reducible refine bel_step ?_ (by with_reducible assumption)) | (with_reducible refine Below.drew ?_) | (with_reducible refine below_drewN ?_ _) | (with_reducible refine bel_alloc ?_ _))); done)); rintro e w2 ⟨rfl, hb2⟩; clear q0 q1 q2 q3; obtain ⟨q0, q1, q2, q3⟩ := box2 (w := w) (W := w2) (by repeat (first | (with_reducible exact Below.refl _ _) | (with_reducible assumption) | (with_reducible exact bel_box _) | (with_reducible refine bel_step ?_ (by with_reducible assumption)) | (with_reducible refine Below.drew ?_) | (with_reducible refine below_drewN ?_ _) | (with_reducible refine bel_alloc ?_ _))); have v0 := (((by repeat (first | (with_reducible exact Below.refl _ _) | (with_reducible assumption) | (with_reducible exact bel_box _) | (with_reducible refine bel_step ?_ (by with_reducible assumption)) | (with_reducible refine Below.drew ?_) | (with_reducible refine below_drewN ?_ _) | (with_reducible refine bel_alloc ?_ _))) : Below w.heap.size w w2).cell hpv).trans hv; have v1 := (((by repeat (first | (with_reducible exact Below.refl _ _) | (with_reducible assumption) | (with_reducible exact bel_box _) | (with_reducible refine bel_step ?_ (by with_reducible assumption)) | (with_reducible refine Below.drew ?_) | (with_reducible refine below_drewN ?_ _) | (with_reducible refine bel_alloc ?_ _))) : Below w.heap.size w w2).cell hpw).trans hw1; have v2 := (((by repeat (first | (with_reducible exact Below.refl _ _) | (with_reducible assumption) | (with_reducible exact bel_box _) | (with_reducible refine bel_step ?_ (by with_reducible assumption)) | (with_reducible refine Below.drew ?_) | (with_reducible refine below_drewN ?_ _) | (with_reducible refine bel_alloc ?_ _))) : Below w.heap.size w w2).cell (p := ⟨pw.block, pw.off + 1, none⟩) hpw).trans hw2)
      | (go_at_call 45; (with_reducible refine (KU.out _).mono ?_); rintro e w3 ⟨rfl, hb3⟩; clear q0 q1 q2 q3; obtain ⟨q0, q1, q2, q3⟩ := box2 (w := w) (W := w3) (by repeat (first | (with_reducible exact Below.refl _ _) | (with_reducible assumption) | (with_reducible exact bel_box _) | (with_reducible refine bel_step ?_ (by with_reducible assumption)) | (with_reducible refine Below.drew ?_) | (with_reducible refine below_drewN ?_ _) | (with_reducible refine bel_alloc ?_ _))); have v0 := (((by repeat (first | (with_reducible exact Below.refl _ _) | (with_reducible assumption) | (with_reducible exact bel_box _) | (with_reducible refine bel_step ?_ (by with_reducible assumption)) | (with_reducible refine Below.drew ?_) | (with_reducible refine below_drewN ?_ _) | (with_reducible refine bel_alloc ?_ _))) : Below w.heap.size w w3).cell hpv).trans hv; have v1 := (((by repeat (first | (with_reducible exact Below.refl _ _) | (with_reducible assumption) | (with_reducible exact bel_box _) | (with_reducible refine bel_step ?_ (by with_reducible assumption)) | (with_reducible refine Below.drew ?_) | (with_reducible refine below_drewN ?_ _) | (with_reducible refine bel_alloc ?_ _))) : Below w.heap.size w w3).cell hpw).trans hw1; have v2 := (((by repeat (first | (with_reducible exact Below.refl _ _) | (with_reducible assumption) | (with_reducible exact bel_box _) | (with_reducible refine bel_step ?_ (by with_reducible assumption)) | (with_reducible refine Below.drew ?_) | (with_reducible refine below_drewN ?_ _) | (with_reducible refine bel_alloc ?_ _))) : Below w.heap.size w w3).cell (p := ⟨pw.block, pw.off + 1, none⟩) hpw).trans hw2)
      | (go_at_call 42; (with_reducible refine (KP.out _ _).mono ?_); rintro e w4 ⟨rfl, hb4⟩; clear q0 q1 q2 q3; obtain ⟨q0, q1, q2, q3⟩ := box2 (w := w) (W := w4) (by repeat (first | (with_reducible exact Below.refl _ _) | (with_reducible assumption) | (with_reducible exact bel_box _) | (with_reducible refine bel_step ?_ (by with_reducible assumption)) | (with_reducible refine Below.drew ?_) | (with_reducible refine below_drewN ?_ _) | (with_reducible refine bel_alloc ?_ _))); have v0 := (((by repeat (first | (with_reducible exact Below.refl _ _) | (with_reducible assumption) | (with_reducible exact bel_box _) | (with_reducible refine bel_step ?_ (by with_reducible assumption)) | (with_reducible refine Below.drew ?_) | (with_reducible refine below_drewN ?_ _) | (with_reducible refine bel_alloc ?_ _))) : Below w.heap.size w w4).cell hpv).trans hv; have v1 := (((by repeat (first | (with_reducible exact Below.refl _ _) | (with_reducible assumption) | (with_reducible exact bel_box _) | (with_reducible refine bel_step ?_ (by with_reducible assumption)) | (with_reducible refine Below.drew ?_) | (with_reducible refine below_drewN ?_ _) | (with_reducible refine bel_alloc ?_ _))) : Below w.heap.size w w4).cell hpw).trans hw1; have v2 := (((by repeat (first | (with_reducible exact Below.refl _ _) | (with_reducible assumption) | (with_reducible exact bel_box _) | (with_reducible refine bel_step ?_ (by with_reducible assumption)) | (with_reducible refine Below.drew ?_) | (with_reducible refine below_drewN ?_ _) | (with_reducible refine bel_alloc ?_ _))) : Below w.heap.size w w4).cell (p := ⟨pw.block, pw.off + 1, none⟩) hpw).trans hw2))
      obtain ⟨t1, t2⟩ := set2_cells q0 q1 (.int .i64 2) (.int .i64 0)
      refine bodyPost_ret (v := .tuple #[.int .i64 k, cV (2, 0)]) (by simp [results, Try.results56, go_sem, t1, t2, cV]) rfl ⟨rfl, ?_⟩
      first | exact bel_set2 (by repeat (first | (with_reducible exact Below.refl _ _) | (with_reducible assumption) | (with_reducible exact bel_box _) | (with_reducible refine bel_step ?_ (by with_reducible assumption)) | (with_reducible refine Below.drew ?_) | (with_reducible refine below_drewN ?_ _) | (with_reducible refine bel_alloc ?_ _))) (Nat.le_refl _) _ _ | exact Below.drew (bel_set2 (by repeat (first | (with_reducible exact Below.refl _ _) | (with_reducible assumption) | (with_reducible exact bel_box _) | (with_reducible refine bel_step ?_ (by with_reducible assumption)) | (with_reducible refine Below.drew ?_) | (with_reducible refine below_drewN ?_ _) | (with_reducible refine bel_alloc ?_ _))) (Nat.le_refl _) _ _)
end Go.Proofs.Ytefmnjcllncmpaa
/- combine of stream.combine[struct{}] with stream.each$1. -/
namespace Go.Proofs.Ytefmnjcllncmpaa
set_option linter.unusedVariables false
set_option linter.unusedSimpArgs false
open Go.RowKit
set_option maxHeartbeats 8000000 in
set_option maxRecDepth 20000 in
theorem combine_e (p0 : Value) (A : Option Addr) (c : Nat) (ls : List St) (s0 : Unit) (stp : Unit → List (Int × Int) → (Unit) × (Int × Int)) (w : World) (hA : RdS w w.heap.size A ls) (hl : ls.length ≤ 100) (h0 : 0 < ls.length) (h3 : ∀ s ∈ ls, s.l.length ≤ 1000000)
    (K : Hid (∀ (s : Unit) (r : List (Int × Int)) (g : Nat) (W : World), r.length = ls.length → RdC W W.heap.size (some ⟨g, 0, none⟩) r → Below w.heap.size w W → Calls Try.prog 61 #[.agg #[], .slice (some ⟨g, 0, none⟩) r.length r.length, p0] W (Bel (.tuple #[.agg #[], cV (stp s r).2]) W))) :
    Calls Try.prog 62 #[.agg #[], .func (.func 61) #[] #[p0], .slice A ls.length c] w (NewC (outT stp s0 ls (tog ls)) w) := by
  obtain ⟨ad0, a, rfl, had0, ha, hc0, _⟩ := hA.at_ (k := 0) (by omega)
  rw [add_zero'] at hc0
  rw [tog_head ha]
  have ha3 := h3 a (List.mem_of_getElem? ha)
  have HA := Lib.hid hA
  have H3 := Lib.hid h3
  have KP := Lib.hid plain_any
  simp only [cV] at K KP
  have g0 : ((ls.length : Int) == 0) = false := beq_eq_false_iff_ne.2 (by omega)
  have hz := add_zero' ad0
  clear hA h3 ha
  go_enter Try.func62, Try.ntmps62
  go_wp2
  go_loopw [7, 24] (fun n i wr => ∃ k : Nat, k ≤ ls.length ∧ i = .int .i64 (k : Int) ∧ n = .int .i64 ((togF a.l.length (ls.take k) : Nat) : Int) ∧ Hid (Bk wr w.heap.size 69 #[]) ∧ Below w.heap.size w wr) (fun _ i _ => ls.length - (intOf i).toNat)
  case atStart => exact ⟨0, by omega, rfl, rfl, Lib.hid (Bk.new _ _ _), (by repeat (first | (with_reducible exact Below.refl _ _) | (with_reducible assumption) | (with_reducible exact bel_box _) | (with_reducible refine bel_step ?_ (by with_reducible assumption)) | (with_reducible refine Below.drew ?_) | (with_reducible refine below_drewN ?_ _) | (with_reducible refine bel_alloc ?_ _)))⟩
  case round =>
    obtain ⟨k, hk, rfl, rfl, hSB, hbl⟩ := hrel
    by_cases hlt : k < ls.length
    · obtain ⟨ad, s, hA, had, hs, hc, _⟩ := (HA.out.to hbl).at_ hlt
      obtain rfl : ad0 = ad := by simpa using hA
      have hm := H3.out s (List.mem_of_getElem? hs)
      have HT := Lib.hid (togF_take (n := a.l.length) hs)
      have hn := (togF_le (ls.take k) a.l.length).1
      clear hs hA K
      generalize togF a.l.length (ls.take k) = n at *
      generalize hsl : s.l.length = m at *
      clear hsl
      go_wp2
      go_roundw
      case rel => exact ⟨k + 1, by omega, by go_num, by rw [HT.out]; exact congrArg _ (by split <;> omega), hSB, (by repeat (first | (with_reducible exact Below.refl _ _) | (with_reducible assumption) | (with_reducible exact bel_box _) | (with_reducible refine bel_step ?_ (by with_reducible assumption)) | (with_reducible refine Below.drew ?_) | (with_reducible refine below_drewN ?_ _) | (with_reducible refine bel_alloc ?_ _)))⟩
      case measure => simp [intOf]; omega
    · obtain rfl : k = ls.length := by omega
      rw [List.take_length]
      have hn := (togF_le ls a.l.length).1
      have HTOG := Lib.hid (togF_le ls a.l.length).2
      generalize togF a.l.length ls = n at *
      have m1 := mk_cells n (by omega) wr
      have m2 := mk_cells ls.length (by omega) (wr.alloc (.cells (fl (List.replicate n (0, 0))).toArray 46))
      clear hc0 hz
      go_wp2
      clear m1 m2
      have hws := Bk.lt hSB.out
      have hB10 : Bc ((wr.alloc (.cells (fl (List.replicate n (0, 0))).toArray 46)).alloc (.cells (fl (List.replicate ls.length (0, 0))).toArray 46)) wr.heap.size (List.replicate n (0, 0)) := (Bk.new wr 46 _).alloc _
      have hB20 : Bc ((wr.alloc (.cells (fl (List.replicate n (0, 0))).toArray 46)).alloc (.cells (fl (List.replicate ls.length (0, 0))).toArray 46)) (wr.heap.size + 1) (List.replicate ls.length (0, 0)) := by
        have h := Bk.new (wr.alloc (.cells (fl (List.replicate n (0, 0))).toArray 46)) 46 (fl (List.replicate ls.length (0, 0))).toArray
        rwa [World.size_alloc] at h
      have hSB0 := (hSB.out.alloc (.cells (fl (List.replicate n (0, 0))).toArray 46)).alloc (.cells (fl (List.replicate ls.length (0, 0))).toArray 46)
      generalize wr.heap.size = G at *
      have hne : ¬ w.heap.size = G := by omega
      have hne2 : ¬ G = w.heap.size := by omega
      have hne3 : ¬ w.heap.size = G + 1 := by omega
      go_loopw [39] (fun i W => ∃ (t : Nat) (cs : List (Int × Int)), t ≤ n ∧ i = .int .i64 (t : Int) ∧ Hid (Bk W w.heap.size 69 #[]) ∧ cs.length = ls.length ∧ Hid (Bc W G (outT stp s0 ls t ++ List.replicate (n - t) (0, 0))) ∧ Hid (Bc W (G + 1) cs) ∧ Below w.heap.size w W) (fun i _ => n - (intOf i).toNat)
      case atStart => exact ⟨0, List.replicate ls.length (0, 0), by omega, rfl, Lib.hid hSB0, by simp, Lib.hid hB10, Lib.hid hB20, (by repeat (first | (with_reducible exact Below.refl _ _) | (with_reducible assumption) | (with_reducible exact bel_box _) | (with_reducible refine bel_step ?_ (by with_reducible assumption)) | (with_reducible refine Below.drew ?_) | (with_reducible refine below_drewN ?_ _) | (with_reducible refine bel_alloc ?_ _)))⟩
      case round =>
        obtain ⟨t, cs, ht, rfl, hST, hcs, hB1, hB2, hbW⟩ := hrel
        by_cases htn : t < n
        · go_wp2
          go_loopw [44] (fun i W => ∃ k : Nat, k ≤ ls.length ∧ i = .int .i64 (k : Int) ∧ Hid (Bk W w.heap.size 69 #[]) ∧ Hid (Bc W G (outT stp s0 ls t ++ List.replicate (n - t) (0, 0))) ∧ Hid (Bc W (G + 1) ((rowAt ls t).take k ++ cs.drop k)) ∧ Below w.heap.size w W) (fun i _ => ls.length - (intOf i).toNat)
          case atStart => exact ⟨0, by omega, rfl, hST, hB1, Lib.hid (by simpa using hB2.out), hbW⟩
          case round =>
            obtain ⟨k, hk, rfl, hSX, hD1, hD2, hbX⟩ := hrel
            by_cases hkl : k < ls.length
            · obtain ⟨ad, s, hA, had, hs, hc, hR⟩ := (HA.out.to hbX).at_ hkl
              obtain rfl : ad0 = ad := by simpa using hA
              have hm := H3.out s (List.mem_of_getElem? hs)
              have htl : t < s.l.length := by have := HTOG.out s (List.mem_of_getElem? hs); omega
              obtain ⟨ad2, e, hA2, hadb2, he, hc1, hc2⟩ := hR.at_ htl
              rw [hA2] at hc
              have hg : s.l.getD t (0, 0) = e := by rw [List.getD, he]; rfl
              have hrow := rowAt_get t hs
              rw [hg] at hrow
              have hmid := mid_get (m := cs) hrow (by rw [rowAt_length, hcs])
              have HSET := Lib.hid (set_mid hrow (show (rowAt ls t).length = cs.length by rw [rowAt_length, hcs]))
              obtain ⟨d, hd⟩ := hmid
              obtain ⟨d0, d1, d2, d3⟩ := hD2.out.cells hd
              have hlt2 := Bk.lt hD2.out
              have hlt1 := Bk.lt hD1.out
              have KE := Lib.hid (KP.out e)
              generalize pl e = pe at *
              generalize s.l.length = m at *
              clear hs hA2 he hg hrow hR hA K hd
              go_wp2_with (go_at_call 66; (with_reducible refine (KE.out _).mono ?_); rintro ev w1 ⟨rfl, hb1⟩; have q0 := (hb1.cell (p := ⟨G + 1, k * 2, none⟩) hlt2).trans d0; have q1 := (hb1.cell (p := ⟨G + 1, k * 2 + 1, none⟩) hlt2).trans d1; have q2 := (hb1.frozen (p := ⟨G + 1, k * 2, none⟩) hlt2).trans d2; have q3 := (hb1.frozen (p := ⟨G + 1, k * 2 + 1, none⟩) hlt2).trans d3)
              go_roundw
              case rel => exact ⟨k + 1, by omega, by go_num, Lib.hid (((hSX.out.below hb1 (Bk.lt hSX.out)).far (p := ⟨G + 1, _, none⟩) (by simpa using hne3) _).far (p := ⟨G + 1, _, none⟩) (by simpa using hne3) _), Lib.hid ((hD1.out.below hb1 hlt1).far2 (by omega) _ _), Lib.hid (by rw [← HSET.out]; exact (hD2.out.below hb1 hlt2).put k pe), bel_two (by repeat (first | (with_reducible exact Below.refl _ _) | (with_reducible assumption) | (with_reducible exact bel_box _) | (with_reducible refine bel_step ?_ (by with_reducible assumption)) | (with_reducible refine Below.drew ?_) | (with_reducible refine below_drewN ?_ _) | (with_reducible refine bel_alloc ?_ _))) (by omega) _ _⟩
              case measure => simp [intOf]; omega
            · obtain rfl : k = ls.length := by omega
              have hD2' := hD2.out
              rw [← rowAt_length ls t, List.take_length, rowAt_length, ← hcs, List.drop_length, List.append_nil] at hD2'
              have HD2 := Lib.hid hD2'
              have KS := Lib.hid (K.out (stT stp s0 ls t) (rowAt ls t) (G + 1))
              have HO := Lib.hid (outT_succ stp s0 ls t)
              have HS := Lib.hid (stT_succ stp s0 ls t)
              rw [rowAt_length] at KS
              generalize stp (stT stp s0 ls t) (rowAt ls t) = q at *
              obtain ⟨qs, q1, q2⟩ := q
              simp only at KS HO HS
              have hget : (outT stp s0 ls t ++ List.replicate (n - t) (0, 0))[t]? = some (0, 0) := by
                rw [List.getElem?_append_right (by rw [outT_length]; omega), outT_length, Nat.sub_self, List.getElem?_replicate, if_pos (by omega)]
              obtain ⟨d0, d1, d2, d3⟩ := hD1.out.cells hget
              have hlt1 := Bk.lt hD1.out
              have hlt2 := Bk.lt hD2.out
              have HSET : Hid ((outT stp s0 ls t ++ List.replicate (n - t) (0, 0)).set t (q1, q2) = outT stp s0 ls (t + 1) ++ List.replicate (n - (t + 1)) (0, 0)) := Lib.hid (by
                rw [HO.out, List.set_append_right _ _ (by rw [outT_length]; omega), outT_length, show n - t = n - (t + 1) + 1 from by omega]
                simp [List.replicate_succ])
              have H31 := Lib.hid (K.out)
              clear hD2 hD2' hget K
              have KX := Lib.hid (KS.out)
              clear KS
              go_wp2_with (go_at_call 61; (with_reducible refine (KX.out _ (by simp [rowAt]) HD2.out.rd hbX).mono ?_); rintro ev w1 ⟨rfl, hb1⟩; have q0 := (hb1.cell (p := ⟨G, t * 2, none⟩) hlt1).trans d0; have q1' := (hb1.cell (p := ⟨G, t * 2 + 1, none⟩) hlt1).trans d1; have q2' := (hb1.frozen (p := ⟨G, t * 2, none⟩) hlt1).trans d2; have q3 := (hb1.frozen (p := ⟨G, t * 2 + 1, none⟩) hlt1).trans d3)
              go_roundw
              case rel => exact ⟨t + 1, rowAt ls t, by omega, by go_num, Lib.hid (((hSX.out.below hb1 (Bk.lt hSX.out)).far (p := ⟨G, _, none⟩) (by simpa using hne) _).far (p := ⟨G, _, none⟩) (by simpa using hne) _), by rw [rowAt_length], Lib.hid (by rw [← HSET.out]; exact (hD1.out.below hb1 hlt1).put t (q1, q2)), Lib.hid ((HD2.out.below hb1 hlt2).far2 (by omega) _ _), bel_two (by repeat (first | (with_reducible exact Below.refl _ _) | (with_reducible assumption) | (with_reducible exact bel_box _) | (with_reducible refine bel_step ?_ (by with_reducible assumption)) | (with_reducible refine Below.drew ?_) | (with_reducible refine below_drewN ?_ _) | (with_reducible refine bel_alloc ?_ _))) (by omega) _ _⟩
              case measure => simp [intOf]; omega
        · obtain rfl : t = n := by omega
          have hB1' := hB1.out
          rw [Nat.sub_self, List.replicate_zero, List.append_nil] at hB1'
          have HR := Lib.hid hB1'.rd
          have HL := Lib.hid (outT_length stp s0 ls t)
          clear hB1 hB2 hB1' K
          go_wp2
          go_ret
          exact ⟨_, _, by rw [HL.out]; rfl, HR.out, hbW⟩
end Go.Proofs.Ytefmnjcllncmpaa
/- Pre, Arrow, Fby, Word of the program. -/
namespace Go.Proofs.Ytefmnjcllncmpaa
set_option linter.unusedVariables false
set_option linter.unusedSimpArgs false
open Go.RowKit
theorem RdS.new {W : World} {t : TypeId} (ss : List St) (cs : Array Value) (hcs : cs = (ss.map stV).toArray) (h : ∀ s ∈ ss, RdC W W.heap.size s.A s.l) : RdS (W.alloc (.cells cs t)) (W.alloc (.cells cs t)).heap.size (some ⟨W.heap.size, 0, none⟩) ss := by
  subst hcs
  refine ⟨fun _ => ⟨_, rfl, by simp, fun j v hj => ?_⟩, fun s hs => (h s hs).to ((Below.refl _ _).alloc (Nat.le_refl _) _)⟩
  rw [add_off, cell_of_row _ _ j _ t (0, 0) (heap_alloc_new W _), ← hj]
  simp
theorem tog1 (s : St) : tog [s] = s.l.length := by simp [tog, togF]
theorem tog2 (s u : St) : tog [s, u] = min s.l.length u.l.length := by simp [tog, togF]
theorem rl1 (s : St) (P : St → Prop) (h : P s) : ∀ u ∈ [s], P u := by simpa using h
theorem rl2 (s u : St) (P : St → Prop) (h : P s) (k : P u) : ∀ x ∈ [s, u], P x := by simp; exact ⟨h, k⟩
set_option maxHeartbeats 1000000 in
theorem pre_any (A : Option Addr) (c : Nat) (l : List (Int × Int)) (w : World) (hA : RdC w w.heap.size A l) (hl : l.length ≤ 1000000) :
    Calls Try.prog 18 #[.slice A l.length c] w (NewC (outT preS (2, 0) [⟨A, c, l⟩] (tog [⟨A, c, l⟩])) w) := by
  have HA := Lib.hid hA
  have KU := Lib.hid undefined_any
  have KC : Hid (∀ b W, RdS W W.heap.size (some ⟨b, 0, none⟩) [⟨A, c, l⟩] → Calls Try.prog 46 #[.agg #[.int .i64 2, .int .i64 0], .func (.func 47) #[] #[], .slice (some ⟨b, 0, none⟩) 1 1] W (NewC (outT preS (2, 0) [⟨A, c, l⟩] (tog [⟨A, c, l⟩])) W)) :=
    Lib.hid fun b W h => combine_p (some ⟨b, 0, none⟩) 1 [⟨A, c, l⟩] (2, 0) preS W h (by simp) (by simp) (rl1 _ _ hl) (Lib.hid fun s r g X hr hR _ => pre1_any s r g X hr hR)
  clear hA
  simp only [cV] at KU
  generalize outT preS (2, 0) [⟨A, c, l⟩] (tog [⟨A, c, l⟩]) = out at *
  go_enter Try.func18, Try.ntmps18
  go_wp2_with (first
    | (go_at_call 45; (with_reducible refine (KU.out _).mono ?_); rintro e w1 ⟨rfl, hb1⟩)
    | (go_at_call 46; (refine (KC.out _ _ ?_).mono ?_); (focus (exact RdS.new [⟨A, c, l⟩] _ rfl (rl1 _ _ (HA.out.to (by repeat (first | (with_reducible exact Below.refl _ _) | (with_reducible assumption) | (with_reducible exact bel_box _) | (with_reducible refine bel_step ?_ (by with_reducible assumption)) | (with_reducible refine Below.drew ?_) | (with_reducible refine below_drewN ?_ _) | (with_reducible refine bel_alloc ?_ _))))))); rintro e w2 ⟨A', c', rfl, hR', hb2⟩))
  go_ret
  exact ⟨A', c', rfl, hR', (by repeat (first | (with_reducible exact Below.refl _ _) | (with_reducible assumption) | (with_reducible exact bel_box _) | (with_reducible refine bel_step ?_ (by with_reducible assumption)) | (with_reducible refine Below.drew ?_) | (with_reducible refine below_drewN ?_ _) | (with_reducible refine bel_alloc ?_ _)))⟩
set_option maxHeartbeats 1000000 in
theorem arrow_any (A B : Option Addr) (c d : Nat) (l m : List (Int × Int)) (w : World) (hA : RdC w w.heap.size A l) (hB : RdC w w.heap.size B m) (hl : l.length ≤ 1000000) (hm : m.length ≤ 1000000) :
    Calls Try.prog 20 #[.slice A l.length c, .slice B m.length d] w (NewC (outT arrowS false [⟨A, c, l⟩, ⟨B, d, m⟩] (tog [⟨A, c, l⟩, ⟨B, d, m⟩])) w) := by
  have HA := Lib.hid hA
  have HB := Lib.hid hB
  have KC : Hid (∀ b W, RdS W W.heap.size (some ⟨b, 0, none⟩) [⟨A, c, l⟩, ⟨B, d, m⟩] → Calls Try.prog 48 #[.bool false, .func (.func 49) #[] #[], .slice (some ⟨b, 0, none⟩) 2 2] W (NewC (outT arrowS false [⟨A, c, l⟩, ⟨B, d, m⟩] (tog [⟨A, c, l⟩, ⟨B, d, m⟩])) W)) :=
    Lib.hid fun b W h => combine_b (some ⟨b, 0, none⟩) 2 [⟨A, c, l⟩, ⟨B, d, m⟩] false arrowS W h (by simp) (by simp) (rl2 _ _ _ hl hm) (Lib.hid fun s r g X hr hR _ => arrow1_any s r g X hr hR)
  clear hA hB
  generalize outT arrowS false [⟨A, c, l⟩, ⟨B, d, m⟩] (tog [⟨A, c, l⟩, ⟨B, d, m⟩]) = out at *
  go_enter Try.func20, Try.ntmps20
  go_wp2_with (go_at_call 48; (refine (KC.out _ _ ?_).mono ?_); (focus (exact RdS.new [⟨A, c, l⟩, ⟨B, d, m⟩] _ rfl (rl2 _ _ _ (HA.out.to (by repeat (first | (with_reducible exact Below.refl _ _) | (with_reducible assumption) | (with_reducible exact bel_box _) | (with_reducible refine bel_step ?_ (by with_reducible assumption)) | (with_reducible refine Below.drew ?_) | (with_reducible refine below_drewN ?_ _) | (with_reducible refine bel_alloc ?_ _)))) (HB.out.to (by repeat (first | (with_reducible exact Below.refl _ _) | (with_reducible assumption) | (with_reducible exact bel_box _) | (with_reducible refine bel_step ?_ (by with_reducible assumption)) | (with_reducible refine Below.drew ?_) | (with_reducible refine below_drewN ?_ _) | (with_reducible refine bel_alloc ?_ _))))))); rintro e w2 ⟨A', c', rfl, hR', hb2⟩)
  go_ret
  exact ⟨A', c', rfl, hR', (by repeat (first | (with_reducible exact Below.refl _ _) | (with_reducible assumption) | (with_reducible exact bel_box _) | (with_reducible refine bel_step ?_ (by with_reducible assumption)) | (with_reducible refine Below.drew ?_) | (with_reducible refine below_drewN ?_ _) | (with_reducible refine bel_alloc ?_ _)))⟩
set_option maxHeartbeats 1000000 in
theorem fby_any (A B : Option Addr) (c d : Nat) (l m : List (Int × Int)) (w : World) (hA : RdC w w.heap.size A l) (hB : RdC w w.heap.size B m) (hl : l.length ≤ 1000000) (hm : m.length ≤ 1000000) :
    Calls Try.prog 22 #[.slice A l.length c, .slice B m.length d] w (NewC (outT fbyS (0, 0) [⟨A, c, l⟩, ⟨B, d, m⟩] (tog [⟨A, c, l⟩, ⟨B, d, m⟩])) w) := by
  have HA := Lib.hid hA
  have HB := Lib.hid hB
  have KC : Hid (∀ b W, RdS W W.heap.size (some ⟨b, 0, none⟩) [⟨A, c, l⟩, ⟨B, d, m⟩] → Calls Try.prog 46 #[.agg #[.int .i64 0, .int .i64 0], .func (.func 50) #[] #[], .slice (some ⟨b, 0, none⟩) 2 2] W (NewC (outT fbyS (0, 0) [⟨A, c, l⟩, ⟨B, d, m⟩] (tog [⟨A, c, l⟩, ⟨B, d, m⟩])) W)) :=
    Lib.hid fun b W h => combine_f (some ⟨b, 0, none⟩) 2 [⟨A, c, l⟩, ⟨B, d, m⟩] (0, 0) fbyS W h (by simp) (by simp) (rl2 _ _ _ hl hm) (Lib.hid fun s r g X hr hR _ => fby1_any s r g X hr hR)
  clear hA hB
  generalize outT fbyS (0, 0) [⟨A, c, l⟩, ⟨B, d, m⟩] (tog [⟨A, c, l⟩, ⟨B, d, m⟩]) = out at *
  go_enter Try.func22, Try.ntmps22
  go_wp2_with (go_at_call 46; (refine (KC.out _ _ ?_).mono ?_); (focus (exact RdS.new [⟨A, c, l⟩, ⟨B, d, m⟩] _ rfl (rl2 _ _ _ (HA.out.to (by repeat (first | (with_reducible exact Below.refl _ _) | (with_reducible assumption) | (with_reducible exact bel_box _) | (with_reducible refine bel_step ?_ (by with_reducible assumption)) | (with_reducible refine Below.drew ?_) | (with_reducible refine below_drewN ?_ _) | (with_reducible refine bel_alloc ?_ _)))) (HB.out.to (by repeat (first | (with_reducible exact Below.refl _ _) | (with_reducible assumption) | (with_reducible exact bel_box _) | (with_reducible refine bel_step ?_ (by with_reducible assumption)) | (with_reducible refine Below.drew ?_) | (with_reducible refine below_drewN ?_ _) | (with_reducible refine bel_alloc ?_ _))))))); rintro e w2 ⟨A', c', rfl, hR', hb2⟩)
  go_ret
  exact ⟨A', c', rfl, hR', (by repeat (first | (with_reducible exact Below.refl _ _) | (with_reducible assumption) | (with_reducible exact bel_box _) | (with_reducible refine bel_step ?_ (by with_reducible assumption)) | (with_reducible refine Below.drew ?_) | (with_reducible refine below_drewN ?_ _) | (with_reducible refine bel_alloc ?_ _)))⟩
theorem stT_word (h l : List Bool) (ls : List St) (t : Nat) (ht : t ≤ 1000000) : 0 ≤ stT (wordS h l) 0 ls t ∧ stT (wordS h l) 0 ls t ≤ t := by
  induction t with
  | zero => exact ⟨Int.le_refl _, Int.le_refl _⟩
  | succ t ih =>
    obtain ⟨a, b⟩ := ih (by omega)
    rw [stT_succ]
    generalize stT (wordS h l) 0 ls t = k at *
    have hw : wrap64 (k + 1) = k + 1 := by unfold wrap64; omega
    unfold wordS
    split
    · split
      · simp only [hw]; omega
      · simp only; omega
    · simp only; omega
theorem word_rds {W : World} {t t' : TypeId} (v : Value) (s : St) (cs : Array Value) (h : RdC W W.heap.size s.A s.l) (hcs : cs = #[stV s] := by rfl) : RdS ((W.alloc (.cells #[v] t)).alloc (.cells cs t')) ((W.alloc (.cells #[v] t)).alloc (.cells cs t')).heap.size (some ⟨W.heap.size + 1, 0, none⟩) [s] := by
  have := RdS.new (W := W.alloc (.cells #[v] t)) (t := t') [s] cs hcs (rl1 _ _ (h.to ((Below.refl _ _).alloc (Nat.le_refl _) _)))
  rwa [World.size_alloc (w := W)] at this
theorem word_box {w w1 : World} {t : TypeId} {x y : Value} (hb : Below (w.alloc (.cells #[x, y] t)).heap.size (w.alloc (.cells #[x, y] t)) w1) : Bk w1 w.heap.size t #[x, y] := (Bk.new w t _).below hb (by simp)
set_option maxHeartbeats 1000000 in
theorem word_any (A B C : Option Addr) (c d f : Nat) (h l : List Bool) (x : List (Int × Int)) (w : World) (hA : Rd w w.heap.size A (bls h)) (hB : Rd w w.heap.size B (bls l)) (hC : RdC w w.heap.size C x) (hh : h.length ≤ 140737488355328) (hl : l.length ≤ 140737488355328) (hx : x.length ≤ 1000000) :
    Calls Try.prog 26 #[.agg #[.slice A h.length c, .slice B l.length d], .slice C x.length f] w (NewC (outT (wordS h l) 0 [⟨C, f, x⟩] (tog [⟨C, f, x⟩])) w) := by
  have HC := Lib.hid hC
  have KK := Lib.hid (bw.check_any A B c d h l · hh hl)
  have KC : Hid (∀ pv pw b W, RdS W W.heap.size (some ⟨b, 0, none⟩) [⟨C, f, x⟩] → Below w.heap.size w W → pv.block < W.heap.size → pw.block < W.heap.size → W.cell? pv = some (.bool (bw.ck h l == 0)) → W.cell? pw = some (.slice A h.length c) → W.cell? ⟨pw.block, pw.off + 1, none⟩ = some (.slice B l.length d) → Calls Try.prog 55 #[.int .i64 0, .func (.func 56) #[] #[.pointer (some pv), .pointer (some pw)], .slice (some ⟨b, 0, none⟩) 1 1] W (NewC (outT (wordS h l) 0 [⟨C, f, x⟩] (tog [⟨C, f, x⟩])) W)) :=
    Lib.hid fun pv pw b W hR hb hpv hpw hv hw1 hw2 => combine_w (.pointer (some pv)) (.pointer (some pw)) (some ⟨b, 0, none⟩) 1 [⟨C, f, x⟩] 0 (wordS h l) W hR (by simp) (by simp) (rl1 _ _ hx) (Lib.hid fun m s r g X hm hs hr hRr hX =>
      word1_any A B c d h l s pv pw r g X hr hRr ((hA.to hb).to hX) ((hB.to hb).to hX) hh hl (Nat.lt_of_lt_of_le hpv hX.size) (Nat.lt_of_lt_of_le hpw hX.size) (by have := (stT_word h l [⟨C, f, x⟩] m hm).2; omega) ((hX.cell hpv).trans hv) ((hX.cell hpw).trans hw1) ((hX.cell (p := ⟨pw.block, pw.off + 1, none⟩) hpw).trans hw2))
  generalize outT (wordS h l) 0 [⟨C, f, x⟩] (tog [⟨C, f, x⟩]) = out at *
  generalize bw.ck h l = k at *
  clear hA hB hC
  go_enter Try.func26, Try.ntmps26
  go_wp2_with (first
    | (go_at_call 54; (with_reducible refine (KK.out _).mono ?_); rintro e w1 ⟨rfl, hb1⟩)
    | (go_at_call 55; (refine (KC.out ⟨w1.heap.size, 0, none⟩ ⟨w.heap.size, 0, none⟩ _ _ ?_ ?_ ?_ ?_ ?_ ?_ ?_).mono ?_); (focus (exact word_rds _ _ _ (HC.out.to (by repeat (first | (with_reducible exact Below.refl _ _) | (with_reducible assumption) | (with_reducible exact bel_box _) | (with_reducible refine bel_step ?_ (by with_reducible assumption)) | (with_reducible refine Below.drew ?_) | (with_reducible refine below_drewN ?_ _) | (with_reducible refine bel_alloc ?_ _)))))); (focus ((repeat (first | (with_reducible exact Below.refl _ _) | (with_reducible assumption) | (with_reducible exact bel_box _) | (with_reducible refine bel_step ?_ (by with_reducible assumption)) | (with_reducible refine Below.drew ?_) | (with_reducible refine below_drewN ?_ _) | (with_reducible refine bel_alloc ?_ _))); done)); (focus (simp; omega)); (focus (have := (word_box hb1).lt; simp at this ⊢; omega)); (focus (exact (((Bk.new w1 _ _).alloc _).cell 0))); (focus (exact ((((word_box hb1).alloc _).alloc _).cell 0))); (focus (exact ((((word_box hb1).alloc _).alloc _).cell 1))); rintro e w2 ⟨A', c', rfl, hR', hb2⟩))
  go_ret
  exact ⟨A', c', rfl, hR', (by repeat (first | (with_reducible exact Below.refl _ _) | (with_reducible assumption) | (with_reducible exact bel_box _) | (with_reducible refine bel_step ?_ (by with_reducible assumption)) | (with_reducible refine Below.drew ?_) | (with_reducible refine below_drewN ?_ _) | (with_reducible refine bel_alloc ?_ _)))⟩
end Go.Proofs.Ytefmnjcllncmpaa
/- '==' on cells; the steps of Lift, If, When, Merge. -/
namespace Go.Proofs.Ytefmnjcllncmpaa
set_option linter.unusedVariables false
set_option linter.unusedSimpArgs false
open Go.RowKit
theorem cell_stood : Try.prog.stoodInHeld 46 = false := by kernel_rfl
theorem cell_guard : Try.prog.eqGuardType Try.prog.depth 46 = false := by kernel_rfl
theorem cell_fields : ((Try.prog.fieldsOf 46).toList.map fun f => (f.name == "_", f.type, f.offset)) = [(false, 3, 0), (false, 3, 1)] := by kernel_rfl
theorem int_under : Try.prog.underlying 3 = some (.int .i64) := by kernel_rfl
theorem cell_eqIn (w : World) (d : Nat) (a b x y : Int) : (Op.equalIn (d + 2) 46 (.agg #[.int .i64 a, .int .i64 b]) (.agg #[.int .i64 x, .int .i64 y])).run Try.prog w = .ok (a == x && b == y) w := by
  rw [run_equalIn_agg w (d + 1) _ _ _ cell_under cell_stood]
  have h := cell_fields
  generalize (Try.prog.fieldsOf 46).toList = fs at h ⊢
  rcases fs with _ | ⟨f, _ | ⟨g, _ | ⟨k, r⟩⟩⟩
  · simp at h
  · simp at h
  · simp only [List.map_cons, List.map_nil, List.cons.injEq, Prod.mk.injEq, and_true] at h
    obtain ⟨⟨f1, f2, f3⟩, g1, g2, g3⟩ := h
    have f1' : f.name ≠ "_" := by simpa using f1
    have g1' : g.name ≠ "_" := by simpa using g1
    have e1 := run_equalIn_int (P := Try.prog) w d 3 .i64 .i64 a x int_under
    have e2 := run_equalIn_int (P := Try.prog) w d 3 .i64 .i64 b y int_under
    simp only [Op.eqFields, f1', g1', f2, f3, g2, g3]
    simp [go_sem, e1, e2]
    rw [if_neg f1', if_neg g1']
    by_cases h1 : a = x <;> by_cases h2 : b = y <;> simp [h1, h2]
  · simp at h
theorem cell_eql (w : World) (a b x y : Int) : (binOp .eql 46 (.agg #[.int .i64 a, .int .i64 b]) (.agg #[.int .i64 x, .int .i64 y])).run Try.prog w = .ok (.bool (a == x && b == y)) w := by
  rw [run_eql_struct, cell_eqIn w 9998]; rfl
theorem cell_neq (w : World) (a b x y : Int) : (binOp .neq 46 (.agg #[.int .i64 a, .int .i64 b]) (.agg #[.int .i64 x, .int .i64 y])).run Try.prog w = .ok (.bool (!(a == x && b == y))) w := by
  rw [run_neq_struct, cell_eqIn w 9998]; rfl
theorem cell_eqg (w : World) (op : BinOp) (p q : Operand) (xs ys : Array Value) : (eqGuard op 46 p q (.agg xs) (.agg ys)).run Try.prog w = .ok () w := run_eqGuard_agg w op _ p q xs ys cell_guard
attribute [local go_sem] cell_eql cell_neq cell_eqg
def whenF (tag : Int) (r : List (Int × Int)) : Int × Int := if r.getD 1 (0, 0) = (1, tag) then r.getD 0 (0, 0) else (0, 0)
set_option maxHeartbeats 2000000 in
theorem when1_any (tag : Int) (p : Addr) (r : List (Int × Int)) (g : Nat) (w : World) (hr : r.length = 2) (hR : RdC w w.heap.size (some ⟨g, 0, none⟩) r) (hp : p.block < w.heap.size) (ht : w.cell? p = some (.int .i64 tag)) :
    Calls Try.prog 60 #[.slice (some ⟨g, 0, none⟩) r.length r.length, .pointer (some p)] w (Bel (cV (whenF tag r)) w) := by
  obtain ⟨⟨x0, y0⟩, ⟨x1, y1⟩, rfl⟩ := two_of hr
  have HK : Hid (∀ W, Below w.heap.size w W → W.cell? ⟨g, 0, none⟩ = some (.int .i64 x0) ∧ W.cell? ⟨g, 1, none⟩ = some (.int .i64 y0) ∧ W.cell? ⟨g, 2, none⟩ = some (.int .i64 x1) ∧ W.cell? ⟨g, 3, none⟩ = some (.int .i64 y1) ∧ W.cell? p = some (.int .i64 tag)) := Lib.hid fun W hb =>
    ⟨((hR.to hb).ck (k := 0) rfl).1, ((hR.to hb).ck (k := 0) rfl).2, ((hR.to hb).ck (k := 1) rfl).1, ((hR.to hb).ck (k := 1) rfl).2, (hb.cell hp).trans ht⟩
  have KP := Lib.hid (present_any tag)
  simp only [List.length_cons, List.length_nil, cV] at KP ⊢
  obtain ⟨a0, a1, a2, a3, a4⟩ := HK.out w (Below.refl _ _)
  clear hR hr hp ht
  by_cases hx : x1 = 1 ∧ y1 = tag
  · obtain ⟨rfl, rfl⟩ := hx
    rw [show whenF y1 [(x0, y0), (1, y1)] = (x0, y0) from if_pos rfl]
    go_enter Try.func60, Try.ntmps60
    go_wp2
    go_region_held3 (fun W => W.cell? ⟨g, 0, none⟩ = some (.int .i64 x0) ∧ W.cell? ⟨g, 1, none⟩ = some (.int .i64 y0) ∧ W.cell? ⟨g, 2, none⟩ = some (.int .i64 1) ∧ W.cell? ⟨g, 3, none⟩ = some (.int .i64 y1) ∧ W.cell? p = some (.int .i64 y1))
      ((refine HK.out _ ?_; (focus ((repeat (first | (with_reducible exact Below.refl _ _) | (with_reducible assumption) | (with_reducible exact bel_box _) | (with_reducible refine bel_step ?_ (by with_reducible assumption)) | (with_reducible refine Below.drew ?_) | (with_reducible refine below_drewN ?_ _) | (with_reducible refine bel_alloc ?_ _))); done))))
      (first | (go_at_call 42; (with_reducible refine (KP.out _).mono ?_); rintro e w1 ⟨rfl, hb1⟩; obtain ⟨q0, q1, q2, q3⟩ := box2 (w := w) (W := w1) (by repeat (first | (with_reducible exact Below.refl _ _) | (with_reducible assumption) | (with_reducible exact bel_box _) | (with_reducible refine bel_step ?_ (by with_reducible assumption)) | (with_reducible refine Below.drew ?_) | (with_reducible refine below_drewN ?_ _) | (with_reducible refine bel_alloc ?_ _))); obtain ⟨b0, b1, b2, b3, b4⟩ := HK.out w1 (by repeat (first | (with_reducible exact Below.refl _ _) | (with_reducible assumption) | (with_reducible exact bel_box _) | (with_reducible refine bel_step ?_ (by with_reducible assumption)) | (with_reducible refine Below.drew ?_) | (with_reducible refine below_drewN ?_ _) | (with_reducible refine bel_alloc ?_ _)))))
    all_goals go_wp2
    all_goals
      obtain ⟨t1, t2⟩ := set2_cells q0 q1 (.int .i64 x0) (.int .i64 y0)
      refine bodyPost_ret (v := cV (x0, y0)) (by simp [results, Try.results60, go_sem, t1, t2, cV]) rfl ⟨rfl, ?_⟩
      first | exact bel_set2 (by repeat (first | (with_reducible exact Below.refl _ _) | (with_reducible assumption) | (with_reducible exact bel_box _) | (with_reducible refine bel_step ?_ (by with_reducible assumption)) | (with_reducible refine Below.drew ?_) | (with_reducible refine below_drewN ?_ _) | (with_reducible refine bel_alloc ?_ _))) (Nat.le_refl _) _ _ | exact Below.drew (bel_set2 (by repeat (first | (with_reducible exact Below.refl _ _) | (with_reducible assumption) | (with_reducible exact bel_box _) | (with_reducible refine bel_step ?_ (by with_reducible assumption)) | (with_reducible refine Below.drew ?_) | (with_reducible refine below_drewN ?_ _) | (with_reducible refine bel_alloc ?_ _))) (Nat.le_refl _) _ _)
  · have e1 : ¬ ((x1, y1) = (1, tag)) := by simpa using hx
    rw [show whenF tag [(x0, y0), (x1, y1)] = (0, 0) from if_neg e1]
    clear e1
    rcases (show x1 ≠ 1 ∨ (x1 = 1 ∧ y1 ≠ tag) by omega) with h1 | ⟨rfl, h1⟩
    · have e1 : (x1 == 1) = false := beq_eq_false_iff_ne.2 h1
      clear hx
      go_enter Try.func60, Try.ntmps60
      go_wp2
      go_region_held3 (fun W => W.cell? ⟨g, 0, none⟩ = some (.int .i64 x0) ∧ W.cell? ⟨g, 1, none⟩ = some (.int .i64 y0) ∧ W.cell? ⟨g, 2, none⟩ = some (.int .i64 x1) ∧ W.cell? ⟨g, 3, none⟩ = some (.int .i64 y1) ∧ W.cell? p = some (.int .i64 tag))
        ((refine HK.out _ ?_; (focus ((repeat (first | (with_reducible exact Below.refl _ _) | (with_reducible assumption) | (with_reducible exact bel_box _) | (with_reducible refine bel_step ?_ (by with_reducible assumption)) | (with_reducible refine Below.drew ?_) | (with_reducible refine below_drewN ?_ _) | (with_reducible refine bel_alloc ?_ _))); done))))
        (first | (go_at_call 42; (with_reducible refine (KP.out _).mono ?_); rintro e w1 ⟨rfl, hb1⟩; obtain ⟨q0, q1, q2, q3⟩ := box2 (w := w) (W := w1) (by repeat (first | (with_reducible exact Below.refl _ _) | (with_reducible assumption) | (with_reducible exact bel_box _) | (with_reducible refine bel_step ?_ (by with_reducible assumption)) | (with_reducible refine Below.drew ?_) | (with_reducible refine below_drewN ?_ _) | (with_reducible refine bel_alloc ?_ _))); obtain ⟨b0, b1, b2, b3, b4⟩ := HK.out w1 (by repeat (first | (with_reducible exact Below.refl _ _) | (with_reducible assumption) | (with_reducible exact bel_box _) | (with_reducible refine bel_step ?_ (by with_reducible assumption)) | (with_reducible refine Below.drew ?_) | (with_reducible refine below_drewN ?_ _) | (with_reducible refine bel_alloc ?_ _)))))
      all_goals go_wp2
      all_goals
        obtain ⟨t1, t2⟩ := set2_cells q0 q1 (.int .i64 0) (.int .i64 0)
        refine bodyPost_ret (v := cV (0, 0)) (by simp [results, Try.results60, go_sem, t1, t2, cV]) rfl ⟨rfl, ?_⟩
        first | exact bel_set2 (by repeat (first | (with_reducible exact Below.refl _ _) | (with_reducible assumption) | (with_reducible exact bel_box _) | (with_reducible refine bel_step ?_ (by with_reducible assumption)) | (with_reducible refine Below.drew ?_) | (with_reducible refine below_drewN ?_ _) | (with_reducible refine bel_alloc ?_ _))) (Nat.le_refl _) _ _ | exact Below.drew (bel_set2 (by repeat (first | (with_reducible exact Below.refl _ _) | (with_reducible assumption) | (with_reducible exact bel_box _) | (with_reducible refine bel_step ?_ (by with_reducible assumption)) | (with_reducible refine Below.drew ?_) | (with_reducible refine below_drewN ?_ _) | (with_reducible refine bel_alloc ?_ _))) (Nat.le_refl _) _ _)
    · have e1 : (y1 == tag) = false := beq_eq_false_iff_ne.2 h1
      clear hx
      go_enter Try.func60, Try.ntmps60
      go_wp2
      go_region_held3 (fun W => W.cell? ⟨g, 0, none⟩ = some (.int .i64 x0) ∧ W.cell? ⟨g, 1, none⟩ = some (.int .i64 y0) ∧ W.cell? ⟨g, 2, none⟩ = some (.int .i64 1) ∧ W.cell? ⟨g, 3, none⟩ = some (.int .i64 y1) ∧ W.cell? p = some (.int .i64 tag))
        ((refine HK.out _ ?_; (focus ((repeat (first | (with_reducible exact Below.refl _ _) | (with_reducible assumption) | (with_reducible exact bel_box _) | (with_reducible refine bel_step ?_ (by with_reducible assumption)) | (with_reducible refine Below.drew ?_) | (with_reducible refine below_drewN ?_ _) | (with_reducible refine bel_alloc ?_ _))); done))))
        (first | (go_at_call 42; (with_reducible refine (KP.out _).mono ?_); rintro e w1 ⟨rfl, hb1⟩; obtain ⟨q0, q1, q2, q3⟩ := box2 (w := w) (W := w1) (by repeat (first | (with_reducible exact Below.refl _ _) | (with_reducible assumption) | (with_reducible exact bel_box _) | (with_reducible refine bel_step ?_ (by with_reducible assumption)) | (with_reducible refine Below.drew ?_) | (with_reducible refine below_drewN ?_ _) | (with_reducible refine bel_alloc ?_ _))); obtain ⟨b0, b1, b2, b3, b4⟩ := HK.out w1 (by repeat (first | (with_reducible exact Below.refl _ _) | (with_reducible assumption) | (with_reducible exact bel_box _) | (with_reducible refine bel_step ?_ (by with_reducible assumption)) | (with_reducible refine Below.drew ?_) | (with_reducible refine below_drewN ?_ _) | (with_reducible refine bel_alloc ?_ _)))))
      all_goals go_wp2
      all_goals
        obtain ⟨t1, t2⟩ := set2_cells q0 q1 (.int .i64 0) (.int .i64 0)
        refine bodyPost_ret (v := cV (0, 0)) (by simp [results, Try.results60, go_sem, t1, t2, cV]) rfl ⟨rfl, ?_⟩
        first | exact bel_set2 (by repeat (first | (with_reducible exact Below.refl _ _) | (with_reducible assumption) | (with_reducible exact bel_box _) | (with_reducible refine bel_step ?_ (by with_reducible assumption)) | (with_reducible refine Below.drew ?_) | (with_reducible refine below_drewN ?_ _) | (with_reducible refine bel_alloc ?_ _))) (Nat.le_refl _) _ _ | exact Below.drew (bel_set2 (by repeat (first | (with_reducible exact Below.refl _ _) | (with_reducible assumption) | (with_reducible exact bel_box _) | (with_reducible refine bel_step ?_ (by with_reducible assumption)) | (with_reducible refine Below.drew ?_) | (with_reducible refine below_drewN ?_ _) | (with_reducible refine bel_alloc ?_ _))) (Nat.le_refl _) _ _)
end Go.Proofs.Ytefmnjcllncmpaa
/- The steps of Lift and Merge. -/
namespace Go.Proofs.Ytefmnjcllncmpaa
set_option linter.unusedVariables false
set_option linter.unusedSimpArgs false
open Go.RowKit
attribute [local go_sem] cell_eql cell_neq cell_eqg
def liftF (op : Int) (r : List (Int × Int)) : Int × Int := (lifK op r, lifV op r)
set_option maxHeartbeats 2000000 in
theorem lift1_any (op : Int) (p : Addr) (r : List (Int × Int)) (g : Nat) (w : World) (hr : r.length ≤ 100) (hR : RdC w w.heap.size (some ⟨g, 0, none⟩) r) (hp : p.block < w.heap.size) (ht : w.cell? p = some (.int .i64 op)) :
    Calls Try.prog 35 #[.slice (some ⟨g, 0, none⟩) r.length r.length, .pointer (some p)] w (Bel (cV (liftF op r)) w) := by
  have KL := Lib.hid (fun W h => lift_any (some ⟨g, 0, none⟩) r.length op r W h hr)
  have HR := Lib.hid hR
  simp only [cV, liftF]
  clear hR hr
  go_enter Try.func35, Try.ntmps35
  go_wp2_with (go_at_call 36; (with_reducible refine (KL.out _ (HR.out.to ?_)).mono ?_); (focus ((repeat (first | (with_reducible exact Below.refl _ _) | (with_reducible assumption) | (with_reducible exact bel_box _) | (with_reducible refine bel_step ?_ (by with_reducible assumption)) | (with_reducible refine Below.drew ?_) | (with_reducible refine below_drewN ?_ _) | (with_reducible refine bel_alloc ?_ _))); done)); rintro e w1 ⟨rfl, hb1⟩; obtain ⟨q0, q1, q2, q3⟩ := box2 (w := w) (W := w1) (by repeat (first | (with_reducible exact Below.refl _ _) | (with_reducible assumption) | (with_reducible exact bel_box _) | (with_reducible refine bel_step ?_ (by with_reducible assumption)) | (with_reducible refine Below.drew ?_) | (with_reducible refine below_drewN ?_ _) | (with_reducible refine bel_alloc ?_ _))))
  obtain ⟨t1, t2⟩ := set2_cells q0 q1 (.int .i64 (lifK op r)) (.int .i64 (lifV op r))
  refine bodyPost_ret (v := cV (liftF op r)) (by simp [results, Try.results35, go_sem, t1, t2, cV, liftF]) rfl ⟨rfl, ?_⟩
  first | exact bel_set2 (by repeat (first | (with_reducible exact Below.refl _ _) | (with_reducible assumption) | (with_reducible exact bel_box _) | (with_reducible refine bel_step ?_ (by with_reducible assumption)) | (with_reducible refine Below.drew ?_) | (with_reducible refine below_drewN ?_ _) | (with_reducible refine bel_alloc ?_ _))) (Nat.le_refl _) _ _ | exact Below.drew (bel_set2 (by repeat (first | (with_reducible exact Below.refl _ _) | (with_reducible assumption) | (with_reducible exact bel_box _) | (with_reducible refine bel_step ?_ (by with_reducible assumption)) | (with_reducible refine Below.drew ?_) | (with_reducible refine below_drewN ?_ _) | (with_reducible refine bel_alloc ?_ _))) (Nat.le_refl _) _ _)
def mergeF (r : List (Int × Int)) : Int × Int := match r with
  | [] => (0, 0)
  | b :: rest => if thB b then (if b.1 = 1 ∧ 0 ≤ b.2 ∧ b.2 < rest.length ∧ thB (rest.getD b.2.toNat (0, 0)) = true then rest.getD b.2.toNat (0, 0) else (2, 0)) else (0, 0)
theorem cut_rest (g n : Nat) (hn : n ≤ 1000000) : ∃ RA : Option Addr, (0 < n → RA = some ⟨g, 2, none⟩) ∧ ∀ W, (Instr.slice 26 (.slice (some ⟨g, 0, none⟩) (n + 1) (n + 1)) (some (.int .i64 1)) none none).run Try.prog W = .ok (.slice RA n n) W := by
  refine ⟨if n + 1 = 1 then some ⟨g, 0, none⟩ else some ⟨g, 2, none⟩, fun h => if_neg (by omega), fun W => ?_⟩
  have h1 : (Instr.slice 26 (.slice (some ⟨g, 0, none⟩) (n + 1) (n + 1)) (some (.int .i64 1)) none none).run Try.prog W = _ := run_slice_l W 26 (some ⟨g, 0, none⟩) (n + 1) (n + 1) (by kernel_rfl) .i64 1 (by omega) (by omega)
  rw [h1]
  simp [go_sem, sliced, Addr.add]
theorem by_box {w w1 : World} {x y u v : Value} {t t' : TypeId} (hb : Below (((w.alloc (.cells #[x, y] t)).alloc (.cells #[u, v] t')).drew).heap.size (((w.alloc (.cells #[x, y] t)).alloc (.cells #[u, v] t')).drew) w1) :
    w1.cell? ⟨w.heap.size + 1, 0, none⟩ = some u ∧ w1.cell? ⟨w.heap.size + 1, 1, none⟩ = some v ∧ w1.frozen? ⟨w.heap.size + 1, 0, none⟩ = false ∧ w1.frozen? ⟨w.heap.size + 1, 1, none⟩ = false := by
  have h := Bk.new (w.alloc (.cells #[x, y] t)) t' #[u, v]
  rw [World.size_alloc] at h
  have h2 : Bk w1 (w.heap.size + 1) t' #[u, v] := (hb.block _ (by simp)).trans h
  exact ⟨h2.cell 0, h2.cell 1, h2.frozen 0, h2.frozen 1⟩
set_option maxHeartbeats 4000000 in
set_option maxRecDepth 20000 in
theorem merge1_any (b : Int × Int) (rest : List (Int × Int)) (g : Nat) (w : World) (hr : rest.length ≤ 100) (hR : RdC w w.heap.size (some ⟨g, 0, none⟩) (b :: rest)) :
    Calls Try.prog 52 #[.slice (some ⟨g, 0, none⟩) (rest.length + 1) (rest.length + 1)] w (Bel (cV (mergeF (b :: rest))) w) := by
  obtain ⟨x0, y0⟩ := b
  have HK : Hid (∀ W, Below w.heap.size w W → W.cell? ⟨g, 0, none⟩ = some (.int .i64 x0) ∧ W.cell? ⟨g, 1, none⟩ = some (.int .i64 y0)) := Lib.hid fun W hb =>
    ⟨((hR.to hb).ck (k := 0) rfl).1, ((hR.to hb).ck (k := 0) rfl).2⟩
  have HE : Hid (∀ (k : Nat) (e : Int × Int) W, rest[k]? = some e → Below w.heap.size w W → W.cell? ⟨g, 2 + k * 2, none⟩ = some (.int .i64 e.1) ∧ W.cell? ⟨g, 2 + k * 2 + 1, none⟩ = some (.int .i64 e.2)) := Lib.hid fun k e W he hb => by
    have h := (hR.to hb).ck (k := k + 1) (c := e) (by simpa using he)
    rw [show (k + 1) * 2 = 2 + k * 2 by omega] at h
    exact h
  have KT := Lib.hid there_any
  have KU := Lib.hid undefined_any
  obtain ⟨a0, a1⟩ := HK.out w (Below.refl _ _)
  simp only [cV] at KT KU ⊢
  obtain ⟨RA, hRA, hcut⟩ := cut_rest g rest.length (by omega)
  have HRA := Lib.hid hRA
  have HZ : Hid (mergeF ((x0, y0) :: rest) = if thB (x0, y0) then (if x0 = 1 ∧ 0 ≤ y0 ∧ y0 < rest.length ∧ thB (rest.getD y0.toNat (0, 0)) = true then rest.getD y0.toNat (0, 0) else (2, 0)) else (0, 0)) := Lib.hid rfl
  generalize mergeF ((x0, y0) :: rest) = z at *
  clear hR hRA
  cases hth : thB (x0, y0)
  · have KE := Lib.hid (KT.out (x0, y0))
    rw [hth] at KE
    obtain rfl : z = (0, 0) := by rw [HZ.out, hth]; rfl
    clear hth HZ HE
    go_enter Try.func52, Try.ntmps52
    go_wp2
    go_region_held3 (fun W => W.cell? ⟨g, 0, none⟩ = some (.int .i64 x0) ∧ W.cell? ⟨g, 1, none⟩ = some (.int .i64 y0))
      ((refine HK.out _ ?_; (focus ((repeat (first | (with_reducible exact Below.refl _ _) | (with_reducible assumption) | (with_reducible exact bel_box _) | (with_reducible refine bel_step ?_ (by with_reducible assumption)) | (with_reducible refine Below.drew ?_) | (with_reducible refine below_drewN ?_ _) | (with_reducible refine bel_alloc ?_ _))); done))))
      (first | (fail))
    go_wp2_with (go_at_call 51; (with_reducible refine (KE.out _).mono ?_); rintro e w1 ⟨rfl, hb1⟩; obtain ⟨q0, q1, q2, q3⟩ := box2 (w := w) (W := w1) (by repeat (first | (with_reducible exact Below.refl _ _) | (with_reducible assumption) | (with_reducible exact bel_box _) | (with_reducible refine bel_step ?_ (by with_reducible assumption)) | (with_reducible refine Below.drew ?_) | (with_reducible refine below_drewN ?_ _) | (with_reducible refine bel_alloc ?_ _))); obtain ⟨y0', y1', y2', y3'⟩ := by_box (w1 := w1) (by repeat (first | (with_reducible exact Below.refl _ _) | (with_reducible assumption) | (with_reducible exact bel_box _) | (with_reducible refine bel_step ?_ (by with_reducible assumption)) | (with_reducible refine Below.drew ?_) | (with_reducible refine below_drewN ?_ _) | (with_reducible refine bel_alloc ?_ _))))
    obtain ⟨t1, t2⟩ := set2_cells q0 q1 (.int .i64 0) (.int .i64 0)
    refine bodyPost_ret (v := cV (0, 0)) (by simp [results, Try.results52, go_sem, t1, t2, cV]) rfl ⟨rfl, ?_⟩
    first | exact bel_set2 (by repeat (first | (with_reducible exact Below.refl _ _) | (with_reducible assumption) | (with_reducible exact bel_box _) | (with_reducible refine bel_step ?_ (by with_reducible assumption)) | (with_reducible refine Below.drew ?_) | (with_reducible refine below_drewN ?_ _) | (with_reducible refine bel_alloc ?_ _))) (Nat.le_refl _) _ _ | exact Below.drew (bel_set2 (by repeat (first | (with_reducible exact Below.refl _ _) | (with_reducible assumption) | (with_reducible exact bel_box _) | (with_reducible refine bel_step ?_ (by with_reducible assumption)) | (with_reducible refine Below.drew ?_) | (with_reducible refine below_drewN ?_ _) | (with_reducible refine bel_alloc ?_ _))) (Nat.le_refl _) _ _)
  · have KE := Lib.hid (KT.out (x0, y0))
    rw [hth] at KE
    have hz : z = if x0 = 1 ∧ 0 ≤ y0 ∧ y0 < rest.length ∧ thB (rest.getD y0.toNat (0, 0)) = true then rest.getD y0.toNat (0, 0) else (2, 0) := by rw [HZ.out, hth]; rfl
    clear HZ
    by_cases hx : x0 = 1
    · subst hx
      clear hth
      rcases (show y0 < 0 ∨ (0 ≤ y0 ∧ (rest.length : Int) ≤ y0) ∨ (0 ≤ y0 ∧ y0 < rest.length) by omega) with h1 | ⟨h1, h2⟩ | ⟨h1, h2⟩
      · obtain rfl : z = (2, 0) := by rw [hz, if_neg (by omega)]
        clear hz HE
        go_enter Try.func52, Try.ntmps52
        go_wp2
        go_region_held3 (fun W => W.cell? ⟨g, 0, none⟩ = some (.int .i64 1) ∧ W.cell? ⟨g, 1, none⟩ = some (.int .i64 y0))
          ((refine HK.out _ ?_; (focus ((repeat (first | (with_reducible exact Below.refl _ _) | (with_reducible assumption) | (with_reducible exact bel_box _) | (with_reducible refine bel_step ?_ (by with_reducible assumption)) | (with_reducible refine Below.drew ?_) | (with_reducible refine below_drewN ?_ _) | (with_reducible refine bel_alloc ?_ _))); done))))
          (first | (fail))
        go_wp2_with (first | (go_at_call 51; (with_reducible refine (KE.out _).mono ?_); rintro e w1 ⟨rfl, hb1⟩; obtain ⟨q0, q1, q2, q3⟩ := box2 (w := w) (W := w1) (by repeat (first | (with_reducible exact Below.refl _ _) | (with_reducible assumption) | (with_reducible exact bel_box _) | (with_reducible refine bel_step ?_ (by with_reducible assumption)) | (with_reducible refine Below.drew ?_) | (with_reducible refine below_drewN ?_ _) | (with_reducible refine bel_alloc ?_ _))); obtain ⟨y0', y1', y2', y3'⟩ := by_box (w1 := w1) (by repeat (first | (with_reducible exact Below.refl _ _) | (with_reducible assumption) | (with_reducible exact bel_box _) | (with_reducible refine bel_step ?_ (by with_reducible assumption)) | (with_reducible refine Below.drew ?_) | (with_reducible refine below_drewN ?_ _) | (with_reducible refine bel_alloc ?_ _)))) | (go_at_call 45; (with_reducible refine (KU.out _).mono ?_); rintro e w9 ⟨rfl, hb9⟩; clear q0 q1 q2 q3; obtain ⟨q0, q1, q2, q3⟩ := box2 (w := w) (W := w9) (by repeat (first | (with_reducible exact Below.refl _ _) | (with_reducible assumption) | (with_reducible exact bel_box _) | (with_reducible refine bel_step ?_ (by with_reducible assumption)) | (with_reducible refine Below.drew ?_) | (with_reducible refine below_drewN ?_ _) | (with_reducible refine bel_alloc ?_ _)))))
        obtain ⟨t1, t2⟩ := set2_cells q0 q1 (.int .i64 2) (.int .i64 0)
        refine bodyPost_ret (v := cV (2, 0)) (by simp [results, Try.results52, go_sem, t1, t2, cV]) rfl ⟨rfl, ?_⟩
        first | exact bel_set2 (by repeat (first | (with_reducible exact Below.refl _ _) | (with_reducible assumption) | (with_reducible exact bel_box _) | (with_reducible refine bel_step ?_ (by with_reducible assumption)) | (with_reducible refine Below.drew ?_) | (with_reducible refine below_drewN ?_ _) | (with_reducible refine bel_alloc ?_ _))) (Nat.le_refl _) _ _ | exact Below.drew (bel_set2 (by repeat (first | (with_reducible exact Below.refl _ _) | (with_reducible assumption) | (with_reducible exact bel_box _) | (with_reducible refine bel_step ?_ (by with_reducible assumption)) | (with_reducible refine Below.drew ?_) | (with_reducible refine below_drewN ?_ _) | (with_reducible refine bel_alloc ?_ _))) (Nat.le_refl _) _ _)
      · obtain rfl : z = (2, 0) := by rw [hz, if_neg (by omega)]
        clear hz HE
        have h3 : ¬ y0 < 0 := by omega
        go_enter Try.func52, Try.ntmps52
        go_wp2
        go_region_held3 (fun W => W.cell? ⟨g, 0, none⟩ = some (.int .i64 1) ∧ W.cell? ⟨g, 1, none⟩ = some (.int .i64 y0))
          ((refine HK.out _ ?_; (focus ((repeat (first | (with_reducible exact Below.refl _ _) | (with_reducible assumption) | (with_reducible exact bel_box _) | (with_reducible refine bel_step ?_ (by with_reducible assumption)) | (with_reducible refine Below.drew ?_) | (with_reducible refine below_drewN ?_ _) | (with_reducible refine bel_alloc ?_ _))); done))))
          (first | (fail))
        go_wp2_with (first | (go_at_call 51; (with_reducible refine (KE.out _).mono ?_); rintro e w1 ⟨rfl, hb1⟩; obtain ⟨q0, q1, q2, q3⟩ := box2 (w := w) (W := w1) (by repeat (first | (with_reducible exact Below.refl _ _) | (with_reducible assumption) | (with_reducible exact bel_box _) | (with_reducible refine bel_step ?_ (by with_reducible assumption)) | (with_reducible refine Below.drew ?_) | (with_reducible refine below_drewN ?_ _) | (with_reducible refine bel_alloc ?_ _))); obtain ⟨y0', y1', y2', y3'⟩ := by_box (w1 := w1) (by repeat (first | (with_reducible exact Below.refl _ _) | (with_reducible assumption) | (with_reducible exact bel_box _) | (with_reducible refine bel_step ?_ (by with_reducible assumption)) | (with_reducible refine Below.drew ?_) | (with_reducible refine below_drewN ?_ _) | (with_reducible refine bel_alloc ?_ _)))) | (go_at_call 45; (with_reducible refine (KU.out _).mono ?_); rintro e w9 ⟨rfl, hb9⟩; clear q0 q1 q2 q3; obtain ⟨q0, q1, q2, q3⟩ := box2 (w := w) (W := w9) (by repeat (first | (with_reducible exact Below.refl _ _) | (with_reducible assumption) | (with_reducible exact bel_box _) | (with_reducible refine bel_step ?_ (by with_reducible assumption)) | (with_reducible refine Below.drew ?_) | (with_reducible refine below_drewN ?_ _) | (with_reducible refine bel_alloc ?_ _)))))
        obtain ⟨t1, t2⟩ := set2_cells q0 q1 (.int .i64 2) (.int .i64 0)
        refine bodyPost_ret (v := cV (2, 0)) (by simp [results, Try.results52, go_sem, t1, t2, cV]) rfl ⟨rfl, ?_⟩
        first | exact bel_set2 (by repeat (first | (with_reducible exact Below.refl _ _) | (with_reducible assumption) | (with_reducible exact bel_box _) | (with_reducible refine bel_step ?_ (by with_reducible assumption)) | (with_reducible refine Below.drew ?_) | (with_reducible refine below_drewN ?_ _) | (with_reducible refine bel_alloc ?_ _))) (Nat.le_refl _) _ _ | exact Below.drew (bel_set2 (by repeat (first | (with_reducible exact Below.refl _ _) | (with_reducible assumption) | (with_reducible exact bel_box _) | (with_reducible refine bel_step ?_ (by with_reducible assumption)) | (with_reducible refine Below.drew ?_) | (with_reducible refine below_drewN ?_ _) | (with_reducible refine bel_alloc ?_ _))) (Nat.le_refl _) _ _)
      · obtain ⟨k, rfl⟩ : ∃ k : Nat, y0 = k := ⟨y0.toNat, by omega⟩
        have hk : k < rest.length := by omega
        have he : rest[k]? = some rest[k] := List.getElem?_eq_getElem hk
        generalize rest[k] = e at he
        obtain ⟨ex, ey⟩ := e
        have HE2 := Lib.hid (fun W => HE.out k (ex, ey) W he)
        have hgd : rest.getD ((k : Int)).toNat (0, 0) = (ex, ey) := by rw [Int.toNat_natCast, List.getD, he]; rfl
        rw [hgd] at hz
        obtain rfl : RA = some ⟨g, 2, none⟩ := HRA.out (by omega)
        have KE2 := Lib.hid (KT.out (ex, ey))
        have h3 : ¬ (k : Int) < 0 := by omega
        have h4 : ¬ (rest.length : Int) ≤ (k : Int) := by omega
        cases hte : thB (ex, ey)
        · rw [hte] at KE2
          obtain rfl : z = (2, 0) := by rw [hz, if_neg (by rw [hte]; simp)]
          clear hz HE hgd he HRA hte KT
          go_enter Try.func52, Try.ntmps52
          go_wp2
          go_region_held3 (fun W => W.cell? ⟨g, 0, none⟩ = some (.int .i64 1) ∧ W.cell? ⟨g, 1, none⟩ = some (.int .i64 (k : Int)))
            ((refine HK.out _ ?_; (focus ((repeat (first | (with_reducible exact Below.refl _ _) | (with_reducible assumption) | (with_reducible exact bel_box _) | (with_reducible refine bel_step ?_ (by with_reducible assumption)) | (with_reducible refine Below.drew ?_) | (with_reducible refine below_drewN ?_ _) | (with_reducible refine bel_alloc ?_ _))); done))))
            (first | (fail))
          go_wp2_with (first | (go_at_call 51; (with_reducible refine (KE.out _).mono ?_); rintro e w1 ⟨rfl, hb1⟩; obtain ⟨q0, q1, q2, q3⟩ := box2 (w := w) (W := w1) (by repeat (first | (with_reducible exact Below.refl _ _) | (with_reducible assumption) | (with_reducible exact bel_box _) | (with_reducible refine bel_step ?_ (by with_reducible assumption)) | (with_reducible refine Below.drew ?_) | (with_reducible refine below_drewN ?_ _) | (with_reducible refine bel_alloc ?_ _))); obtain ⟨y0', y1', y2', y3'⟩ := by_box (w1 := w1) (by repeat (first | (with_reducible exact Below.refl _ _) | (with_reducible assumption) | (with_reducible exact bel_box _) | (with_reducible refine bel_step ?_ (by with_reducible assumption)) | (with_reducible refine Below.drew ?_) | (with_reducible refine below_drewN ?_ _) | (with_reducible refine bel_alloc ?_ _))); obtain ⟨c0, c1⟩ := HE2.out w1 (by repeat (first | (with_reducible exact Below.refl _ _) | (with_reducible assumption) | (with_reducible exact bel_box _) | (with_reducible refine bel_step ?_ (by with_reducible assumption)) | (with_reducible refine Below.drew ?_) | (with_reducible refine below_drewN ?_ _) | (with_reducible refine bel_alloc ?_ _)))) | (go_at_call 51; (with_reducible refine (KE2.out _).mono ?_); rintro ev w2 ⟨rfl, hb2⟩; clear q0 q1 q2 q3 y0' y1' y2' y3' c0 c1; obtain ⟨q0, q1, q2, q3⟩ := box2 (w := w) (W := w2) (by repeat (first | (with_reducible exact Below.refl _ _) | (with_reducible assumption) | (with_reducible exact bel_box _) | (with_reducible refine bel_step ?_ (by with_reducible assumption)) | (with_reducible refine Below.drew ?_) | (with_reducible refine below_drewN ?_ _) | (with_reducible refine bel_alloc ?_ _))); obtain ⟨y0', y1', y2', y3'⟩ := by_box (w1 := w2) (by repeat (first | (with_reducible exact Below.refl _ _) | (with_reducible assumption) | (with_reducible exact bel_box _) | (with_reducible refine bel_step ?_ (by with_reducible assumption)) | (with_reducible refine Below.drew ?_) | (with_reducible refine below_drewN ?_ _) | (with_reducible refine bel_alloc ?_ _))); obtain ⟨c0, c1⟩ := HE2.out w2 (by repeat (first | (with_reducible exact Below.refl _ _) | (with_reducible assumption) | (with_reducible exact bel_box _) | (with_reducible refine bel_step ?_ (by with_reducible assumption)) | (with_reducible refine Below.drew ?_) | (with_reducible refine below_drewN ?_ _) | (with_reducible refine bel_alloc ?_ _)))) | (go_at_call 45; (with_reducible refine (KU.out _).mono ?_); rintro e w9 ⟨rfl, hb9⟩; clear q0 q1 q2 q3; obtain ⟨q0, q1, q2, q3⟩ := box2 (w := w) (W := w9) (by repeat (first | (with_reducible exact Below.refl _ _) | (with_reducible assumption) | (with_reducible exact bel_box _) | (with_reducible refine bel_step ?_ (by with_reducible assumption)) | (with_reducible refine Below.drew ?_) | (with_reducible refine below_drewN ?_ _) | (with_reducible refine bel_alloc ?_ _)))))
          obtain ⟨t1, t2⟩ := set2_cells q0 q1 (.int .i64 2) (.int .i64 0)
          refine bodyPost_ret (v := cV (2, 0)) (by simp [results, Try.results52, go_sem, t1, t2, cV]) rfl ⟨rfl, ?_⟩
          first | exact bel_set2 (by repeat (first | (with_reducible exact Below.refl _ _) | (with_reducible assumption) | (with_reducible exact bel_box _) | (with_reducible refine bel_step ?_ (by with_reducible assumption)) | (with_reducible refine Below.drew ?_) | (with_reducible refine below_drewN ?_ _) | (with_reducible refine bel_alloc ?_ _))) (Nat.le_refl _) _ _ | exact Below.drew (bel_set2 (by repeat (first | (with_reducible exact Below.refl _ _) | (with_reducible assumption) | (with_reducible exact bel_box _) | (with_reducible refine bel_step ?_ (by with_reducible assumption)) | (with_reducible refine Below.drew ?_) | (with_reducible refine below_drewN ?_ _) | (with_reducible refine bel_alloc ?_ _))) (Nat.le_refl _) _ _)
        · rw [hte] at KE2
          obtain rfl : z = (ex, ey) := by rw [hz, if_pos ⟨rfl, h1, h2, hte⟩]
          clear hz HE hgd he HRA hte KT
          go_enter Try.func52, Try.ntmps52
          go_wp2
          go_region_held3 (fun W => W.cell? ⟨g, 0, none⟩ = some (.int .i64 1) ∧ W.cell? ⟨g, 1, none⟩ = some (.int .i64 (k : Int)))
            ((refine HK.out _ ?_; (focus ((repeat (first | (with_reducible exact Below.refl _ _) | (with_reducible assumption) | (with_reducible exact bel_box _) | (with_reducible refine bel_step ?_ (by with_reducible assumption)) | (with_reducible refine Below.drew ?_) | (with_reducible refine below_drewN ?_ _) | (with_reducible refine bel_alloc ?_ _))); done))))
            (first | (fail))
          go_wp2_with (first | (go_at_call 51; (with_reducible refine (KE.out _).mono ?_); rintro e w1 ⟨rfl, hb1⟩; obtain ⟨q0, q1, q2, q3⟩ := box2 (w := w) (W := w1) (by repeat (first | (with_reducible exact Below.refl _ _) | (with_reducible assumption) | (with_reducible exact bel_box _) | (with_reducible refine bel_step ?_ (by with_reducible assumption)) | (with_reducible refine Below.drew ?_) | (with_reducible refine below_drewN ?_ _) | (with_reducible refine bel_alloc ?_ _))); obtain ⟨y0', y1', y2', y3'⟩ := by_box (w1 := w1) (by repeat (first | (with_reducible exact Below.refl _ _) | (with_reducible assumption) | (with_reducible exact bel_box _) | (with_reducible refine bel_step ?_ (by with_reducible assumption)) | (with_reducible refine Below.drew ?_) | (with_reducible refine below_drewN ?_ _) | (with_reducible refine bel_alloc ?_ _))); obtain ⟨c0, c1⟩ := HE2.out w1 (by repeat (first | (with_reducible exact Below.refl _ _) | (with_reducible assumption) | (with_reducible exact bel_box _) | (with_reducible refine bel_step ?_ (by with_reducible assumption)) | (with_reducible refine Below.drew ?_) | (with_reducible refine below_drewN ?_ _) | (with_reducible refine bel_alloc ?_ _)))) | (go_at_call 51; (with_reducible refine (KE2.out _).mono ?_); rintro ev w2 ⟨rfl, hb2⟩; clear q0 q1 q2 q3 y0' y1' y2' y3' c0 c1; obtain ⟨q0, q1, q2, q3⟩ := box2 (w := w) (W := w2) (by repeat (first | (with_reducible exact Below.refl _ _) | (with_reducible assumption) | (with_reducible exact bel_box _) | (with_reducible refine bel_step ?_ (by with_reducible assumption)) | (with_reducible refine Below.drew ?_) | (with_reducible refine below_drewN ?_ _) | (with_reducible refine bel_alloc ?_ _))); obtain ⟨y0', y1', y2', y3'⟩ := by_box (w1 := w2) (by repeat (first | (with_reducible exact Below.refl _ _) | (with_reducible assumption) | (with_reducible exact bel_box _) | (with_reducible refine bel_step ?_ (by with_reducible assumption)) | (with_reducible refine Below.drew ?_) | (with_reducible refine below_drewN ?_ _) | (with_reducible refine bel_alloc ?_ _))); obtain ⟨c0, c1⟩ := HE2.out w2 (by repeat (first | (with_reducible exact Below.refl _ _) | (with_reducible assumption) | (with_reducible exact bel_box _) | (with_reducible refine bel_step ?_ (by with_reducible assumption)) | (with_reducible refine Below.drew ?_) | (with_reducible refine below_drewN ?_ _) | (with_reducible refine bel_alloc ?_ _)))) | (go_at_call 45; (with_reducible refine (KU.out _).mono ?_); rintro e w9 ⟨rfl, hb9⟩; clear q0 q1 q2 q3; obtain ⟨q0, q1, q2, q3⟩ := box2 (w := w) (W := w9) (by repeat (first | (with_reducible exact Below.refl _ _) | (with_reducible assumption) | (with_reducible exact bel_box _) | (with_reducible refine bel_step ?_ (by with_reducible assumption)) | (with_reducible refine Below.drew ?_) | (with_reducible refine below_drewN ?_ _) | (with_reducible refine bel_alloc ?_ _)))))
          obtain ⟨t1, t2⟩ := set2_cells q0 q1 (.int .i64 ex) (.int .i64 ey)
          refine bodyPost_ret (v := cV (ex, ey)) (by simp [results, Try.results52, go_sem, t1, t2, cV]) rfl ⟨rfl, ?_⟩
          first | exact bel_set2 (by repeat (first | (with_reducible exact Below.refl _ _) | (with_reducible assumption) | (with_reducible exact bel_box _) | (with_reducible refine bel_step ?_ (by with_reducible assumption)) | (with_reducible refine Below.drew ?_) | (with_reducible refine below_drewN ?_ _) | (with_reducible refine bel_alloc ?_ _))) (Nat.le_refl _) _ _ | exact Below.drew (bel_set2 (by repeat (first | (with_reducible exact Below.refl _ _) | (with_reducible assumption) | (with_reducible exact bel_box _) | (with_reducible refine bel_step ?_ (by with_reducible assumption)) | (with_reducible refine Below.drew ?_) | (with_reducible refine below_drewN ?_ _) | (with_reducible refine bel_alloc ?_ _))) (Nat.le_refl _) _ _)
    · obtain rfl : z = (2, 0) := by rw [hz, if_neg (fun h => hx h.1)]
      have hx2 : x0 = 2 := by
        unfold thB at hth
        simp at hth
        omega
      subst hx2
      clear hz HE hth hx
      go_enter Try.func52, Try.ntmps52
      go_wp2
      go_region_held3 (fun W => W.cell? ⟨g, 0, none⟩ = some (.int .i64 2) ∧ W.cell? ⟨g, 1, none⟩ = some (.int .i64 y0))
        ((refine HK.out _ ?_; (focus ((repeat (first | (with_reducible exact Below.refl _ _) | (with_reducible assumption) | (with_reducible exact bel_box _) | (with_reducible refine bel_step ?_ (by with_reducible assumption)) | (with_reducible refine Below.drew ?_) | (with_reducible refine below_drewN ?_ _) | (with_reducible refine bel_alloc ?_ _))); done))))
        (first | (fail))
      go_wp2_with (first | (go_at_call 51; (with_reducible refine (KE.out _).mono ?_); rintro e w1 ⟨rfl, hb1⟩; obtain ⟨q0, q1, q2, q3⟩ := box2 (w := w) (W := w1) (by repeat (first | (with_reducible exact Below.refl _ _) | (with_reducible assumption) | (with_reducible exact bel_box _) | (with_reducible refine bel_step ?_ (by with_reducible assumption)) | (with_reducible refine Below.drew ?_) | (with_reducible refine below_drewN ?_ _) | (with_reducible refine bel_alloc ?_ _))); obtain ⟨y0', y1', y2', y3'⟩ := by_box (w1 := w1) (by repeat (first | (with_reducible exact Below.refl _ _) | (with_reducible assumption) | (with_reducible exact bel_box _) | (with_reducible refine bel_step ?_ (by with_reducible assumption)) | (with_reducible refine Below.drew ?_) | (with_reducible refine below_drewN ?_ _) | (with_reducible refine bel_alloc ?_ _)))) | (go_at_call 45; (with_reducible refine (KU.out _).mono ?_); rintro e w9 ⟨rfl, hb9⟩; clear q0 q1 q2 q3; obtain ⟨q0, q1, q2, q3⟩ := box2 (w := w) (W := w9) (by repeat (first | (with_reducible exact Below.refl _ _) | (with_reducible assumption) | (with_reducible exact bel_box _) | (with_reducible refine bel_step ?_ (by with_reducible assumption)) | (with_reducible refine Below.drew ?_) | (with_reducible refine below_drewN ?_ _) | (with_reducible refine bel_alloc ?_ _)))))
      obtain ⟨t1, t2⟩ := set2_cells q0 q1 (.int .i64 2) (.int .i64 0)
      refine bodyPost_ret (v := cV (2, 0)) (by simp [results, Try.results52, go_sem, t1, t2, cV]) rfl ⟨rfl, ?_⟩
      first | exact bel_set2 (by repeat (first | (with_reducible exact Below.refl _ _) | (with_reducible assumption) | (with_reducible exact bel_box _) | (with_reducible refine bel_step ?_ (by with_reducible assumption)) | (with_reducible refine Below.drew ?_) | (with_reducible refine below_drewN ?_ _) | (with_reducible refine bel_alloc ?_ _))) (Nat.le_refl _) _ _ | exact Below.drew (bel_set2 (by repeat (first | (with_reducible exact Below.refl _ _) | (with_reducible assumption) | (with_reducible exact bel_box _) | (with_reducible refine bel_step ?_ (by with_reducible assumption)) | (with_reducible refine Below.drew ?_) | (with_reducible refine below_drewN ?_ _) | (with_reducible refine bel_alloc ?_ _))) (Nat.le_refl _) _ _)
end Go.Proofs.Ytefmnjcllncmpaa
