/- names of the reference. -/
import Derived.Test.YtfogkcccjemloaaGreatDoorFj
namespace Go.Proofs.YtfogkcccjemloaaGreatDoor
set_option linter.unusedVariables false
set_option linter.unusedSimpArgs false
open Go.RowKit Go.Sort
theorem nmC_snoc (l : List ByteArray) (s : ByteArray) : nmC (l ++ [s]) = nmC l ++ [Value.string s] := by simp [nmC]
theorem LqI.same {T : TypeId} {z : Nat} {w W : World} {x : Xt} {B n : Nat} {xs : List Value} {v : Value} (hW : Below (bxW w x).heap.size (bxW w x) W) (h : w.ownsRow B T z v n xs) : LqI T z w x B v.ownBlock n xs v W :=
  ⟨own_keep6 (own_keep6 h (bel_box _)) hW, (below_grown hW).but _, .inl rfl⟩
set_option maxHeartbeats 2000000 in
set_option maxRecDepth 20000 in
theorem rnames_any (b : Bool) (x : Xt) : ∀ w B v acc, B ≤ w.heap.size → RdX w B x → w.ownsRow B 9 1 v acc.length (nmC acc) → acc.length + x.size ≤ 100000 → Calls Tryz.prog 47 #[xV x, .bool b, v] w (fun e w' => ∃ v', e = .returned v' ∧ LqR 9 1 w B v (nmS b x acc).length (nmC (nmS b x acc)) w' v') := by
  obtain ⟨i0, hi, iz, is, ib⟩ := info_parts stInfo
  induction x using Xt.ind with
  | h x ih =>
    intro w B v acc hB hX hown hS
    have h9 := hX.len.1
    unfold maxLen at h9
    have HX := Lib.hid hX
    have IH := Lib.hid ih
    have HO := Lib.hid hown
    have hlt := Lib.hid (fun j (h : v.ownBlock = some j) => hown.lt j h)
    have KV := Lib.hid (fun W => rvariable_any x W)
    clear hX ih hown
    obtain ⟨F, hF, hF0, hFl, HF, HFl⟩ := parts_sum x
    obtain ⟨G, hG, hG0, HGs, HGg⟩ := parts_names b x acc
    rw [hF] at hS
    rw [hG]
    clear hG
    have KH : Hid (∀ W, Below w.heap.size w W → Calls Tryz.prog 24 #[v, .string x.nm] W (Bel (.bool (hasN acc x.nm)) W)) := Lib.hid fun W hb => by
      obtain ⟨V, cv, e⟩ := own_form6 HO.out
      have ho := HO.out
      rw [e] at ho ⊢
      exact rhas_any V cv acc x.nm W ((RdN.of_own ho).to hb) (by omega)
    have h0 := step_length acc x
    rw [← hG0] at h0
    simp only [xV] at IH KV ⊢
    obtain ⟨b0, b1, b2, b3, b4, b5, b6⟩ := bxW_cells (w := w) (x := x) (Below.refl _ _)
    go_enter Tryz.func47, Tryz.ntmps47
    have hsn : G 0 = if (hasVar x.k && !hasN acc x.nm) = true then acc ++ [x.nm] else acc := hG0
    clear hG0
    generalize hasVar x.k = q1 at *
    generalize hasN acc x.nm = q2 at *
    cases q1
    · go_wp2_with (go_at_call 52; (with_reducible refine (KV.out _).mono ?_); rintro e w1 ⟨rfl, hb1⟩)
      have hg : G 0 = acc := hsn
      have HI := LqI.same (x := x) hb1 HO.out
      rw [← hg] at HI
      have HI0 := Lib.hid HI
      clear HI
      go_loopw [2, 7] (fun u i wr => ∃ k : Nat, k ≤ x.ar.length ∧ i = .int .i64 (k : Int) ∧ (G k).length ≤ acc.length + 1 + F k ∧ Hid (LqI 9 1 w x B v.ownBlock (G k).length (nmC (G k)) u wr)) (fun _ i _ => x.ar.length - (intOf i).toNat)
      case atStart => exact ⟨0, by omega, rfl, by omega, HI0⟩
      case round =>
        obtain ⟨k, hk, rfl, hGl, hI⟩ := hrel
        obtain ⟨hBB, ⟨b0, b1, b2, b3, b4, b5⟩, b6⟩ := hI.out.open_ hB hlt.out
        by_cases hlk : k < x.ar.length
        · obtain ⟨ad, y, hA, had, hy, hm, ⟨c0, c1, c2, c3, c4, c5⟩, hr⟩ := (HX.out.blw hBB (Nat.le_refl _)).at_ hlk
          rw [hA] at b5
          clear hA
          have hn1 := HF.out k y hy
          have hn2 := HFl.out (k + 1)
          have hs1 := HGs.out k
          have hs2 := fun h => HGg.out k y h hy
          have hs0 : skp b x k = (b && (x.k == 5 || x.k == 7 && decide (0 < k))) := rfl
          have hnl := nm_length b y (G k)
          have HIo := Lib.hid hI.out.1
          have KY : Hid (Calls Tryz.prog 47 #[xV y, .bool b, u2] wr (fun e w' => ∃ v', e = .returned v' ∧ LqR 9 1 wr B u2 (nmS b y (G k)).length (nmC (nmS b y (G k))) w' v')) := Lib.hid (IH.out y hm wr B u2 (G k) (by omega) hr HIo.out (by omega))
          simp only [xV] at KY
          clear hy IH
          obtain ⟨N, hN⟩ : ∃ N, nmS b y (G k) = N := ⟨_, rfl⟩
          rw [hN] at KY hs2 hnl
          clear hN
          cases q : skp b x k
          · have HS := Lib.hid (hs2 q)
            rw [hs0] at q
            clear hs1 hs2 hs0 HGs HGg hsn hg
            cases b
            · clear q
              go_wp2_with (go_at_call 47; (with_reducible refine (KY.out).mono ?_); rintro e w2 ⟨v', rfl, hl⟩)
              refine ⟨⟨k + 1, by omega, by congr 1, ?_, Lib.hid ?_⟩, by simp [intOf]; omega⟩
              · rw [HS.out]; omega
              · rw [HS.out]; exact hI.out.next hl
            · rw [Bool.true_and, Bool.or_eq_false_iff] at q
              obtain ⟨h5, q⟩ := q
              cases h7 : x.k == 7
              · clear q
                go_wp2_with (go_at_call 47; (with_reducible refine (KY.out).mono ?_); rintro e w2 ⟨v', rfl, hl⟩)
                refine ⟨⟨k + 1, by omega, by congr 1, ?_, Lib.hid ?_⟩, by simp [intOf]; omega⟩
                · rw [HS.out]; omega
                · rw [HS.out]; exact hI.out.next hl
              · rw [h7, Bool.true_and, decide_eq_false_iff_not] at q
                have u : (k : Int) ≤ 0 := by omega
                go_wp2_with (go_at_call 47; (with_reducible refine (KY.out).mono ?_); rintro e w2 ⟨v', rfl, hl⟩)
                refine ⟨⟨k + 1, by omega, by congr 1, ?_, Lib.hid ?_⟩, by simp [intOf]; omega⟩
                · rw [HS.out]; omega
                · rw [HS.out]; exact hI.out.next hl
          · have HS := Lib.hid (hs1 q)
            rw [hs0] at q
            clear hs1 hs2 hs0 HGs HGg hsn hg
            cases b
            · simp at q
            · rw [Bool.true_and] at q
              cases h5 : x.k == 5
              · rw [h5, Bool.false_or, Bool.and_eq_true, decide_eq_true_eq] at q
                obtain ⟨h7, q⟩ := q
                have u : (0 : Int) < (k : Int) := by omega
                go_wp2
                refine ⟨⟨k + 1, by omega, by congr 1, ?_, Lib.hid ?_⟩, by simp [intOf]; omega⟩
                · rw [HS.out]; omega
                · rw [HS.out]; exact hI.out
              · clear q
                go_wp2
                refine ⟨⟨k + 1, by omega, by congr 1, ?_, Lib.hid ?_⟩, by simp [intOf]; omega⟩
                · rw [HS.out]; omega
                · rw [HS.out]; exact hI.out
        · obtain rfl : k = x.ar.length := by omega
          clear hB
          go_wp2
          go_ret
          exact ⟨_, rfl, hI.out.last⟩
    · cases q2
      · have hg : G 0 = acc ++ [x.nm] := hsn
        go_wp2_with (first
          | (go_at_call 52; (with_reducible refine (KV.out _).mono ?_); rintro e w1 ⟨rfl, hb1⟩; obtain ⟨d0, d1, d2, d3, d4, d5, d6⟩ := bxW_cells (w := w) (x := x) hb1; have hz1 := hb1.size)
          | (go_at_call 24; (with_reducible refine (KH.out _ ?_).mono ?_); (focus ((repeat (first | (with_reducible exact Below.refl _ _) | (with_reducible assumption) | (with_reducible exact bel_box _) | (with_reducible refine bel_step ?_ (by with_reducible assumption)) | (with_reducible refine Below.drew ?_) | (with_reducible refine below_drewN ?_ _) | (with_reducible refine bel_alloc ?_ _))); done)); rintro e w2 ⟨rfl, hb2⟩; have hb3 : Hid (Below (bxW w x).heap.size (bxW w x) w2) := Lib.hid (hb1.trans (hb2.mono hb1.size)); obtain ⟨f0, f1, f2, f3, f4, f5, f6⟩ := bxW_cells (w := w) (x := x) hb3.out; have hz2 := hb2.size)
          | (at_builtin; (refine wpList_append_own_at _ rfl _ _ 32 rfl B 9 i0 (.string ⟨#[]⟩) 1 16 Tryz.underlying32 hi iz is ib rfl (by decide) _ acc.length (nmC acc) rfl (own_keep6 HO.out ?_) ⟨w2.heap.size, 0, none⟩ 1 1 [.string x.nm] rfl rfl (row1 _ _ _) (by intro u hu; obtain rfl := List.mem_singleton.1 hu; rfl) (by unfold maxLen; omega) (by omega) ?_ ?_; (focus ((repeat (first | (with_reducible exact Below.refl _ _) | (with_reducible assumption) | (with_reducible exact bel_box _) | (with_reducible refine bel_step ?_ (by with_reducible assumption)) | (with_reducible refine Below.drew ?_) | (with_reducible refine below_drewN ?_ _) | (with_reducible refine bel_alloc ?_ _))); done)); (focus (simp; omega)); intro v3 w3 hown3 hgrow3 _ hat3; have HI : LqI 9 1 w x B v.ownBlock (G 0).length (nmC (G 0)) v3 w3 := by (rw [hg, nmC_snoc, List.length_append]; exact LqI.first (hb3.out.trans ((bel_box _).mono hb3.out.size)) hown3 hgrow3 hat3)); clear hown3 hgrow3 hat3))
        have HI0 := Lib.hid HI
        clear HI
        go_loopw [2, 7] (fun u i wr => ∃ k : Nat, k ≤ x.ar.length ∧ i = .int .i64 (k : Int) ∧ (G k).length ≤ acc.length + 1 + F k ∧ Hid (LqI 9 1 w x B v.ownBlock (G k).length (nmC (G k)) u wr)) (fun _ i _ => x.ar.length - (intOf i).toNat)
        case atStart => exact ⟨0, by omega, rfl, by omega, HI0⟩
        case round =>
          obtain ⟨k, hk, rfl, hGl, hI⟩ := hrel
          obtain ⟨hBB, ⟨b0, b1, b2, b3, b4, b5⟩, b6⟩ := hI.out.open_ hB hlt.out
          by_cases hlk : k < x.ar.length
          · obtain ⟨ad, y, hA, had, hy, hm, ⟨c0, c1, c2, c3, c4, c5⟩, hr⟩ := (HX.out.blw hBB (Nat.le_refl _)).at_ hlk
            rw [hA] at b5
            clear hA
            have hn1 := HF.out k y hy
            have hn2 := HFl.out (k + 1)
            have hs1 := HGs.out k
            have hs2 := fun h => HGg.out k y h hy
            have hs0 : skp b x k = (b && (x.k == 5 || x.k == 7 && decide (0 < k))) := rfl
            have hnl := nm_length b y (G k)
            have HIo := Lib.hid hI.out.1
            have KY : Hid (Calls Tryz.prog 47 #[xV y, .bool b, u2] wr (fun e w' => ∃ v', e = .returned v' ∧ LqR 9 1 wr B u2 (nmS b y (G k)).length (nmC (nmS b y (G k))) w' v')) := Lib.hid (IH.out y hm wr B u2 (G k) (by omega) hr HIo.out (by omega))
            simp only [xV] at KY
            clear hy IH
            obtain ⟨N, hN⟩ : ∃ N, nmS b y (G k) = N := ⟨_, rfl⟩
            rw [hN] at KY hs2 hnl
            clear hN
            cases q : skp b x k
            · have HS := Lib.hid (hs2 q)
              rw [hs0] at q
              clear hs1 hs2 hs0 HGs HGg hsn hg
              cases b
              · clear q
                go_wp2_with (go_at_call 47; (with_reducible refine (KY.out).mono ?_); rintro e w2 ⟨v', rfl, hl⟩)
                refine ⟨⟨k + 1, by omega, by congr 1, ?_, Lib.hid ?_⟩, by simp [intOf]; omega⟩
                · rw [HS.out]; omega
                · rw [HS.out]; exact hI.out.next hl
              · rw [Bool.true_and, Bool.or_eq_false_iff] at q
                obtain ⟨h5, q⟩ := q
                cases h7 : x.k == 7
                · clear q
                  go_wp2_with (go_at_call 47; (with_reducible refine (KY.out).mono ?_); rintro e w2 ⟨v', rfl, hl⟩)
                  refine ⟨⟨k + 1, by omega, by congr 1, ?_, Lib.hid ?_⟩, by simp [intOf]; omega⟩
                  · rw [HS.out]; omega
                  · rw [HS.out]; exact hI.out.next hl
                · rw [h7, Bool.true_and, decide_eq_false_iff_not] at q
                  have u : (k : Int) ≤ 0 := by omega
                  go_wp2_with (go_at_call 47; (with_reducible refine (KY.out).mono ?_); rintro e w2 ⟨v', rfl, hl⟩)
                  refine ⟨⟨k + 1, by omega, by congr 1, ?_, Lib.hid ?_⟩, by simp [intOf]; omega⟩
                  · rw [HS.out]; omega
                  · rw [HS.out]; exact hI.out.next hl
            · have HS := Lib.hid (hs1 q)
              rw [hs0] at q
              clear hs1 hs2 hs0 HGs HGg hsn hg
              cases b
              · simp at q
              · rw [Bool.true_and] at q
                cases h5 : x.k == 5
                · rw [h5, Bool.false_or, Bool.and_eq_true, decide_eq_true_eq] at q
                  obtain ⟨h7, q⟩ := q
                  have u : (0 : Int) < (k : Int) := by omega
                  go_wp2
                  refine ⟨⟨k + 1, by omega, by congr 1, ?_, Lib.hid ?_⟩, by simp [intOf]; omega⟩
                  · rw [HS.out]; omega
                  · rw [HS.out]; exact hI.out
                · clear q
                  go_wp2
                  refine ⟨⟨k + 1, by omega, by congr 1, ?_, Lib.hid ?_⟩, by simp [intOf]; omega⟩
                  · rw [HS.out]; omega
                  · rw [HS.out]; exact hI.out
          · obtain rfl : k = x.ar.length := by omega
            clear hB
            go_wp2
            go_ret
            exact ⟨_, rfl, hI.out.last⟩
      · have hg : G 0 = acc := hsn
        go_wp2_with (first
          | (go_at_call 52; (with_reducible refine (KV.out _).mono ?_); rintro e w1 ⟨rfl, hb1⟩; obtain ⟨d0, d1, d2, d3, d4, d5, d6⟩ := bxW_cells (w := w) (x := x) hb1)
          | (go_at_call 24; (with_reducible refine (KH.out _ ?_).mono ?_); (focus ((repeat (first | (with_reducible exact Below.refl _ _) | (with_reducible assumption) | (with_reducible exact bel_box _) | (with_reducible refine bel_step ?_ (by with_reducible assumption)) | (with_reducible refine Below.drew ?_) | (with_reducible refine below_drewN ?_ _) | (with_reducible refine bel_alloc ?_ _))); done)); rintro e w2 ⟨rfl, hb2⟩; have hb3 : Hid (Below (bxW w x).heap.size (bxW w x) w2) := Lib.hid (hb1.trans (hb2.mono hb1.size))))
        have HI := LqI.same (x := x) hb3.out HO.out
        rw [← hg] at HI
        have HI0 := Lib.hid HI
        clear HI
        go_loopw [2, 7] (fun u i wr => ∃ k : Nat, k ≤ x.ar.length ∧ i = .int .i64 (k : Int) ∧ (G k).length ≤ acc.length + 1 + F k ∧ Hid (LqI 9 1 w x B v.ownBlock (G k).length (nmC (G k)) u wr)) (fun _ i _ => x.ar.length - (intOf i).toNat)
        case atStart => exact ⟨0, by omega, rfl, by omega, HI0⟩
        case round =>
          obtain ⟨k, hk, rfl, hGl, hI⟩ := hrel
          obtain ⟨hBB, ⟨b0, b1, b2, b3, b4, b5⟩, b6⟩ := hI.out.open_ hB hlt.out
          by_cases hlk : k < x.ar.length
          · obtain ⟨ad, y, hA, had, hy, hm, ⟨c0, c1, c2, c3, c4, c5⟩, hr⟩ := (HX.out.blw hBB (Nat.le_refl _)).at_ hlk
            rw [hA] at b5
            clear hA
            have hn1 := HF.out k y hy
            have hn2 := HFl.out (k + 1)
            have hs1 := HGs.out k
            have hs2 := fun h => HGg.out k y h hy
            have hs0 : skp b x k = (b && (x.k == 5 || x.k == 7 && decide (0 < k))) := rfl
            have hnl := nm_length b y (G k)
            have HIo := Lib.hid hI.out.1
            have KY : Hid (Calls Tryz.prog 47 #[xV y, .bool b, u2] wr (fun e w' => ∃ v', e = .returned v' ∧ LqR 9 1 wr B u2 (nmS b y (G k)).length (nmC (nmS b y (G k))) w' v')) := Lib.hid (IH.out y hm wr B u2 (G k) (by omega) hr HIo.out (by omega))
            simp only [xV] at KY
            clear hy IH
            obtain ⟨N, hN⟩ : ∃ N, nmS b y (G k) = N := ⟨_, rfl⟩
            rw [hN] at KY hs2 hnl
            clear hN
            cases q : skp b x k
            · have HS := Lib.hid (hs2 q)
              rw [hs0] at q
              clear hs1 hs2 hs0 HGs HGg hsn hg
              cases b
              · clear q
                go_wp2_with (go_at_call 47; (with_reducible refine (KY.out).mono ?_); rintro e w2 ⟨v', rfl, hl⟩)
                refine ⟨⟨k + 1, by omega, by congr 1, ?_, Lib.hid ?_⟩, by simp [intOf]; omega⟩
                · rw [HS.out]; omega
                · rw [HS.out]; exact hI.out.next hl
              · rw [Bool.true_and, Bool.or_eq_false_iff] at q
                obtain ⟨h5, q⟩ := q
                cases h7 : x.k == 7
                · clear q
                  go_wp2_with (go_at_call 47; (with_reducible refine (KY.out).mono ?_); rintro e w2 ⟨v', rfl, hl⟩)
                  refine ⟨⟨k + 1, by omega, by congr 1, ?_, Lib.hid ?_⟩, by simp [intOf]; omega⟩
                  · rw [HS.out]; omega
                  · rw [HS.out]; exact hI.out.next hl
                · rw [h7, Bool.true_and, decide_eq_false_iff_not] at q
                  have u : (k : Int) ≤ 0 := by omega
                  go_wp2_with (go_at_call 47; (with_reducible refine (KY.out).mono ?_); rintro e w2 ⟨v', rfl, hl⟩)
                  refine ⟨⟨k + 1, by omega, by congr 1, ?_, Lib.hid ?_⟩, by simp [intOf]; omega⟩
                  · rw [HS.out]; omega
                  · rw [HS.out]; exact hI.out.next hl
            · have HS := Lib.hid (hs1 q)
              rw [hs0] at q
              clear hs1 hs2 hs0 HGs HGg hsn hg
              cases b
              · simp at q
              · rw [Bool.true_and] at q
                cases h5 : x.k == 5
                · rw [h5, Bool.false_or, Bool.and_eq_true, decide_eq_true_eq] at q
                  obtain ⟨h7, q⟩ := q
                  have u : (0 : Int) < (k : Int) := by omega
                  go_wp2
                  refine ⟨⟨k + 1, by omega, by congr 1, ?_, Lib.hid ?_⟩, by simp [intOf]; omega⟩
                  · rw [HS.out]; omega
                  · rw [HS.out]; exact hI.out
                · clear q
                  go_wp2
                  refine ⟨⟨k + 1, by omega, by congr 1, ?_, Lib.hid ?_⟩, by simp [intOf]; omega⟩
                  · rw [HS.out]; omega
                  · rw [HS.out]; exact hI.out
          · obtain rfl : k = x.ar.length := by omega
            clear hB
            go_wp2
            go_ret
            exact ⟨_, rfl, hI.out.last⟩
end Go.Proofs.YtfogkcccjemloaaGreatDoor
