/- Scan of the reference. -/
import Derived.Test.YtbnddbhfnpdjeaaDoorMa
import Derived.Test.YtbnddbhfnpdjeaaDoorLx
namespace Go.Proofs.YtbnddbhfnpdjeaaDoor
set_option linter.unusedVariables false
set_option linter.unusedSimpArgs false
open Go.RowKit
set_option maxHeartbeats 2000000 in
set_option maxRecDepth 20000 in
theorem row1 (w : World) (x y z : Value) (t : TypeId) : ∀ j u, [x, y, z][j]? = some u → (w.alloc (.cells #[x, y, z] t)).cell? ((⟨w.heap.size, 0, none⟩ : Addr).add j) = some u := by
  intro j u hu
  rcases j with _ | _ | _ | j
  · obtain rfl : x = u := by simpa using hu
    rw [show (Addr.add ⟨w.heap.size, 0, none⟩ 0) = ⟨w.heap.size, 0, none⟩ from rfl]
    simp [go_sem]
  · obtain rfl : y = u := by simpa using hu
    rw [show (Addr.add ⟨w.heap.size, 0, none⟩ (0 + 1)) = ⟨w.heap.size, 1, none⟩ from rfl]
    simp [go_sem]
  · obtain rfl : z = u := by simpa using hu
    rw [show (Addr.add ⟨w.heap.size, 0, none⟩ (0 + 1 + 1)) = ⟨w.heap.size, 2, none⟩ from rfl]
    simp [go_sem]
  · simp at hu
theorem notlf {s : ByteArray} {j : Nat} (h : j < s.size) : pN ((s[j].toNat : Nat) : Int) = (((s[j].toNat : Nat) : Int) != 10) := rfl
set_option maxHeartbeats 2000000 in
set_option maxRecDepth 20000 in
theorem rscan_any (s : ByteArray) (w : World) (h9 : s.size ≤ 65536) : Calls Tryd.prog 10 #[.string s] w (NewT (scanG s [] (gapN s.data.toList)) w) := by
  obtain ⟨i0, hi, iz, is, ib⟩ := info_parts tokInfo
  have KO : Hid (∀ (k : Nat) W, k < s.size → Calls Tryd.prog 22 #[.string s, .int .i64 k] W (Bel (OneR k (fst (s.extract k s.size))) W)) := Lib.hid fun k W hk => rone_any s k W hk h9
  obtain ⟨R, hR⟩ : ∃ R, scanG s [] (gapN s.data.toList) = R := ⟨_, rfl⟩
  have HR := Lib.hid hR
  rw [hR]
  clear hR
  go_enter Tryd.func10, Tryd.ntmps10
  go_wp2
  go_loopw [5, 6] (fun v i wr => ∃ (acc : List Tk) (k : Nat), k ≤ s.size ∧ i = .int .i64 k ∧ acc.length ≤ k ∧ wr.ownsRow w.heap.size 30 3 v acc.length (tks acc) ∧ w.heap.size ≤ wr.heap.size ∧ Hid (scanG s acc (k + gapN (s.data.toList.drop k)) = R) ∧ Below w.heap.size w wr) (fun _ i _ => s.size - (intOf i).toNat)
  case atStart => exact ⟨[], 0, by omega, rfl, Nat.zero_le _, World.ownsRow_nil _ _ _ _, Nat.le_refl _, by simpa using HR, Below.refl _ _⟩
  case round =>
    obtain ⟨acc, k, hk, rfl, hac, hown, hsz, hrun, hbl⟩ := hrel
    by_cases hlt : k < s.size
    · have kb := Lib.hid (blank_any ((s[k].toNat : Nat) : Int))
      have hk1 : (k : Int) < (s.size : Int) := by omega
      have hk0 : (0 : Int) ≤ (k : Int) := by omega
      cases hb : pB ((s[k].toNat : Nat) : Int)
      · rw [hb] at kb
        by_cases hd : (((s[k].toNat : Nat) : Int) == 45) = true ∧ ∃ h : k + 1 < s.size, (((s[k + 1].toNat : Nat) : Int) == 45) = true
        · obtain ⟨hd0, hd2, hd1⟩ := hd
          obtain ⟨m, hm⟩ : ∃ m, sp pN (s.data.toList.drop k) = m := ⟨_, rfl⟩
          have hg := gap_at_dash hd2 hd0 hd1 hm
          have hm0 : 0 < m := by
            rw [← hm, drop_cons_at hlt, sp_yes]
            · omega
            · rw [notlf hlt, beq_iff_eq.1 hd0]; rfl
          have hle := spd_le pN s k (by omega)
          have HC := Lib.hid (fun j => @spd_at pN s k j)
          have HE := Lib.hid (fun j => @spd_end pN s k j)
          rw [hm] at HC HE hle
          have HN : Hid (scanG s acc ((k + m) + gapN (s.data.toList.drop (k + m))) = R) := Lib.hid (by rw [← hg]; exact hrun.out)
          have u1 : (k : Int) + 1 < (s.size : Int) := by omega
          have u2 : IntKind.i64.wrap ((k : Int) + 1) = (k : Int) + 1 := Go.IntWalk.i64_in _ ⟨by omega, by omega⟩
          have u3 : (0 : Int) ≤ (k : Int) + 1 := by omega
          clear hb hrun hg hm
          go_wp2_with (go_at_call 21; (with_reducible refine (kb.out _).mono ?_); rintro e w1 ⟨rfl, hb1⟩)
          go_loopw [6] (fun i wr => ∃ j : Nat, j ≤ m ∧ i = .int .i64 ((k + j : Nat) : Int) ∧ wr = w1) (fun i _ => k + m - (intOf i).toNat)
          case atStart => exact ⟨0, by omega, by simp, rfl⟩
          case round =>
            obtain ⟨j, hj, rfl, rfl⟩ := hrel
            by_cases hjm : j < m
            · obtain ⟨h, e1⟩ := HC.out (k + j) (by omega) (by omega)
              rw [notlf h] at e1
              have u4 : ((k + j : Nat) : Int) < (s.size : Int) := by omega
              have u5 : (0 : Int) ≤ ((k + j : Nat) : Int) := by omega
              clear HC HE HN
              go_wp2
              exact ⟨⟨j + 1, by omega, by congr 1, trivial⟩, by simp [intOf]; omega⟩
            · obtain rfl : j = m := by omega
              by_cases h : k + j < s.size
              · have e1 := HE.out (k + j) (by omega) (by omega) h
                rw [notlf h] at e1
                have u4 : ((k + j : Nat) : Int) < (s.size : Int) := by omega
                have u5 : (0 : Int) ≤ ((k + j : Nat) : Int) := by omega
                clear HC HE
                go_wp2
                exact ⟨⟨acc, k + j, by omega, by congr 1, by omega, own_keep3 hown hb1, by have := hb1.size; omega, HN, (by repeat (first | (with_reducible exact Below.refl _ _) | (with_reducible assumption) | (with_reducible exact bel_box _) | (with_reducible refine bel_step ?_ (by with_reducible assumption)) | (with_reducible refine Below.drew ?_) | (with_reducible refine below_drewN ?_ _) | (with_reducible refine bel_alloc ?_ _)))⟩, by simp [intOf]; omega⟩
              · have u4 : (s.size : Int) ≤ ((k + j : Nat) : Int) := by omega
                clear HC HE
                go_wp2
                exact ⟨⟨acc, k + j, by omega, by congr 1, by omega, own_keep3 hown hb1, by have := hb1.size; omega, HN, (by repeat (first | (with_reducible exact Below.refl _ _) | (with_reducible assumption) | (with_reducible exact bel_box _) | (with_reducible refine bel_step ?_ (by with_reducible assumption)) | (with_reducible refine Below.drew ?_) | (with_reducible refine below_drewN ?_ _) | (with_reducible refine bel_alloc ?_ _)))⟩, by simp [intOf]; omega⟩
        · have hg := gap_at_none hlt hb hd
          have hrun2 := hrun.out
          rw [hg, Nat.add_zero] at hrun2
          have hd' : (((s[k].toNat : Nat) : Int) == 45) = false ∨ (((s[k].toNat : Nat) : Int) == 45) = true ∧ (s.size : Int) ≤ (k : Int) + 1 ∨ (((s[k].toNat : Nat) : Int) == 45) = true ∧ ∃ h : k + 1 < s.size, (((s[k + 1].toNat : Nat) : Int) == 45) = false := by
            cases h45 : (((s[k].toNat : Nat) : Int) == 45)
            · exact .inl rfl
            · by_cases h1 : k + 1 < s.size
              · refine .inr (.inr ⟨rfl, h1, ?_⟩)
                rw [← Bool.not_eq_true]
                exact fun h => hd ⟨h45, h1, h⟩
              · exact .inr (.inl ⟨rfl, by omega⟩)
          clear hd hg hrun
          obtain ⟨⟨a, tx, n, er⟩, hf⟩ : ∃ f, fst (s.extract k s.size) = f := ⟨_, rfl⟩
          have hko := Lib.hid (fun W => KO.out k W hlt)
          rw [hf] at hko
          by_cases he : er = 0
          · subst he
            have hr := scanG_go (acc := acc) hlt hf
            rw [hrun2] at hr
            have hsz2 := fst_size (s := s.extract k s.size) (by rw [drop_size]; omega) (by rw [hf])
            rw [hf, drop_size] at hsz2
            simp only at hsz2
            obtain ⟨m, hm⟩ : ∃ m, k + n = m := ⟨_, rfl⟩
            rw [hm] at hr
            have HN := Lib.hid hr.symm
            have K1 : Hid (∀ W, Calls Tryd.prog 22 #[.string s, .int .i64 k] W (Bel (.tuple #[.agg #[.int .i64 a, .string tx, .int .i64 k], .int .i64 (m : Int), .int .i64 0]) W)) := Lib.hid fun W => by
              have := hko.out W
              rw [OneR, if_pos rfl] at this
              rw [← hm]
              exact this
            have f7 : k < m ∧ m ≤ s.size ∧ acc.length + 1 ≤ m := by omega
            have L1 : Hid (acc.length + 1 ≤ maxLen ∧ (acc.length + 1) * 32 ≤ 140737488355328) := Lib.hid ⟨by unfold maxLen; omega, by omega⟩
            clear hf hrun2 hr hm hsz2 hko h9
            have s1 : (k : Int) + 1 < (s.size : Int) ∨ (s.size : Int) ≤ (k : Int) + 1 := by omega
            have s2 : IntKind.i64.wrap ((k : Int) + 1) = (k : Int) + 1 := Go.IntWalk.i64_in _ ⟨by omega, by omega⟩
            have s3 : (0 : Int) ≤ (k : Int) + 1 := by omega
            rcases hd' with d1 | ⟨d1, d2⟩ | ⟨d1, d2, d3⟩
            case' inr.inr => have d4 : (k : Int) + 1 < (s.size : Int) := by omega
            all_goals
              clear s1
              go_wp2_with (first
                | (go_at_call 21; (with_reducible refine (kb.out _).mono ?_); rintro e w1 ⟨rfl, hb1⟩)
                | (go_at_call 22; (with_reducible refine (K1.out _).mono ?_); rintro e w2 ⟨rfl, hb2⟩; have hz2 := hb2.size)
                | (at_builtin; (refine wpList_append_own_at _ rfl _ _ 22 rfl w.heap.size 30 i0 (.agg #[.int .i64 0, .string ⟨#[]⟩, .int .i64 0]) 3 32 Tryd.underlying22 hi iz is ib rfl (by decide) _ acc.length (tks acc) rfl (own_keep3 hown ?_) ⟨w2.heap.size + 1, 0, none⟩ 1 1 (tkV (a, tx, (k : Int))) rfl rfl (row3 _ _ _ _ _ _) (tk_one _) L1.out.1 L1.out.2 ?_ ?_; (focus ((repeat (first | (with_reducible exact Below.refl _ _) | (with_reducible assumption) | (with_reducible exact bel_box _) | (with_reducible refine bel_step ?_ (by with_reducible assumption)) | (with_reducible refine Below.drew ?_) | (with_reducible refine below_drewN ?_ _) | (with_reducible refine bel_alloc ?_ _))); done)); (focus (have hq1 := hb1.size; have hq2 := hb2.size; simp only [World.size_alloc]; omega)); intro v3 w3 hown3 hgrow3 _ hat3; have hb3 : Below w.heap.size w w3 := below_grown3 hgrow3 rfl hown (by have hq1 := hb1.size; have hq2 := hb2.size; simp only [World.size_alloc]; omega) (by repeat (first | (with_reducible exact Below.refl _ _) | (with_reducible assumption) | (with_reducible exact bel_box _) | (with_reducible refine bel_step ?_ (by with_reducible assumption)) | (with_reducible refine Below.drew ?_) | (with_reducible refine below_drewN ?_ _) | (with_reducible refine bel_alloc ?_ _))); have HO3 := Lib.hid hown3; clear hown3 hgrow3 hat3; have hz3 := hb3.size)))
              go_roundw
              case rel =>
                refine ⟨acc ++ [(a, tx, (k : Int))], m, f7.2.1, rfl, by simp; exact f7.2.2, ?_, by omega, HN, hb3⟩
                rw [tks_snoc, List.length_append]
                exact HO3.out
              case measure => simp [intOf]; omega
          · have hr := scanG_err (acc := acc) hlt hf he
            rw [hrun2] at hr
            subst hr
            have he2 : (er != 0) = true := by simpa using he
            have K1 : Hid (∀ W, Calls Tryd.prog 22 #[.string s, .int .i64 k] W (Bel (.tuple #[.agg #[.int .i64 0, .string ⟨#[]⟩, .int .i64 0], .int .i64 0, .int .i64 er]) W)) := Lib.hid fun W => by
              have := hko.out W
              rw [OneR, if_neg he] at this
              exact this
            clear hf hrun2 hko
            have s2 : IntKind.i64.wrap ((k : Int) + 1) = (k : Int) + 1 := Go.IntWalk.i64_in _ ⟨by omega, by omega⟩
            have s3 : (0 : Int) ≤ (k : Int) + 1 := by omega
            rcases hd' with d1 | ⟨d1, d2⟩ | ⟨d1, d2, d3⟩
            case' inr.inr => have d4 : (k : Int) + 1 < (s.size : Int) := by omega
            all_goals
              go_wp2_with (first
                | (go_at_call 21; (with_reducible refine (kb.out _).mono ?_); rintro e w1 ⟨rfl, hb1⟩)
                | (go_at_call 22; (with_reducible refine (K1.out _).mono ?_); rintro e w2 ⟨rfl, hb2⟩; have hz2 := hb2.size))
              refine bodyPost_ret (v := .tuple #[.slice none 0 0, .int .i64 k, .int .i64 er]) (by simp [results, Tryd.results10, go_sem]) rfl ?_
              exact ⟨none, 0, rfl, World.ownsRow_nil _ _ _ _, (by repeat (first | (with_reducible exact Below.refl _ _) | (with_reducible assumption) | (with_reducible exact bel_box _) | (with_reducible refine bel_step ?_ (by with_reducible assumption)) | (with_reducible refine Below.drew ?_) | (with_reducible refine below_drewN ?_ _) | (with_reducible refine bel_alloc ?_ _)))⟩
      · rw [hb] at kb
        have hg := Lib.hid (gap_at_blank hlt hb)
        have HN : Hid (scanG s acc ((k + 1) + gapN (s.data.toList.drop (k + 1))) = R) := Lib.hid (by rw [← hg.out]; exact hrun.out)
        clear hb hrun hg
        go_wp2_with (go_at_call 21; (with_reducible refine (kb.out _).mono ?_); rintro e w1 ⟨rfl, hb1⟩)
        go_roundw
        case rel => exact ⟨acc, k + 1, by omega, by go_num, by omega, own_keep3 hown hb1, by have := hb1.size; omega, HN, (by repeat (first | (with_reducible exact Below.refl _ _) | (with_reducible assumption) | (with_reducible exact bel_box _) | (with_reducible refine bel_step ?_ (by with_reducible assumption)) | (with_reducible refine Below.drew ?_) | (with_reducible refine below_drewN ?_ _) | (with_reducible refine bel_alloc ?_ _)))⟩
        case measure => simp [intOf]; omega
    · have hr := scanG_end (s := s) (acc := acc) (k := k + gapN (s.data.toList.drop k)) (by omega)
      rw [hrun.out] at hr
      subst hr
      obtain ⟨V, cv, rfl⟩ := own_form3 hown
      clear hrun
      go_wp2
      refine bodyPost_ret (v := .tuple #[.slice V acc.length cv, .int .i64 0, .int .i64 0]) (by simp [results, Tryd.results10, go_sem]) rfl ?_
      exact ⟨V, cv, rfl, hown, hbl⟩
end Go.Proofs.YtbnddbhfnpdjeaaDoor
