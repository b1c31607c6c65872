/- Cycle of the program. -/
import Derived.Test.YtahffafobdiogaaDoorKgv
namespace Go.Proofs.YtahffafobdiogaaDoor
set_option linter.unusedVariables false
set_option linter.unusedSimpArgs false
open Go.RowKit
namespace gr
theorem eqlIn_nil {P : Program} (w : World) (d : Nat) (t e : TypeId) (a : Option Addr) (l c : Nat) (h : P.underlying t = some (.slice e)) : (Op.equalIn (d + 1) t (.slice a l c) (.slice none 0 0)).run P w = .ok a.isNone w := by
  cases a <;> simp [Op.equalIn, run_underlying h]
theorem eql_nil {P : Program} (w : World) (t e : TypeId) (a : Option Addr) (l c : Nat) (h : P.underlying t = some (.slice e)) : (binOp .eql t (.slice a l c) (.slice none 0 0)).run P w = .ok (.bool a.isNone) w := by
  simp only [binOp]
  simp [Op.equal, Op.maxDepth, eqlIn_nil w 9999 t e a l c h]
set_option maxRecDepth 100000 in
set_option maxHeartbeats 8000000 in
theorem cycle_ok (n : Nat) (A : Option Addr) (c : Nat) (ns : List (Nat × Nat)) (hn : n ≤ 4096) (hr : ∀ e ∈ ns, e.1 < n ∧ e.2 < n) (hl : ns.length ≤ 1048576) (w : World) (hT : Tz w) (hE : RdE w w.heap.size A (eN ns)) (hv : valB n (eN ns) = true) :
    Calls Tryd.prog 14 #[.int .i64 n, .slice A ns.length c] w (NewI (cycK (eK ns) n n) (cycX (eK ns) n) w) := by
  obtain ⟨E, hEE⟩ : ∃ E, eK ns = E := ⟨_, rfl⟩
  have hEn : ∀ u w, E u w = true → w < n := hEE ▸ eK_lt hr
  have hEm : ∀ u x, (fun u x => E x u) u x = true → x < n := fun u x h => by
    rw [← hEE] at h
    unfold eK at h
    exact (hr _ (List.contains_iff_mem.1 h)).1
  have KV := Lib.hid (valid_any n A c (eN ns) (by rw [eN_len]; exact hl) w hE)
  rw [hv, eN_len] at KV
  have hfit : ∀ (W w' : World) (F : Nat → Nat → Bool), LkE w' W.heap.size n F → W.heap.size + n < w'.heap.size := fun W w' F h2 => by
    rcases Nat.eq_zero_or_pos n with h0 | h0
    · have := h2.lt0; omega
    · have := h2.lt (v := n - 1) (by omega); omega
  have KF := Lib.hid (fun W (hb : Below w.heap.size w W) => (forward_any n hn A c ns hr hl W ((hE.below hb).more' hb.size)).mono (R' := fun e w' => e = .returned (sl W.heap.size n) ∧ (LkE w' W.heap.size n E ∧ Below W.heap.size W w' ∧ Below w.heap.size w w' ∧ W.heap.size + n < w'.heap.size)) fun e w' ⟨h1, h2, h3⟩ => by
    rw [hEE] at h2
    exact ⟨h1, h2, h3, hb.trans (h3.mono hb.size), hfit _ _ _ h2⟩)
  have KB := Lib.hid (fun W (hb : Below w.heap.size w W) => (backward_any n hn A c ns hr hl W ((hE.below hb).more' hb.size)).mono (R' := fun e w' => e = .returned (sl W.heap.size n) ∧ (LkE w' W.heap.size n (fun u x => E x u) ∧ Below W.heap.size W w' ∧ Below w.heap.size w w' ∧ W.heap.size + n < w'.heap.size)) fun e w' ⟨h1, h2, h3⟩ => by
    rw [hEE] at h2
    exact ⟨h1, h2, h3, hb.trans (h3.mono hb.size), hfit _ _ _ h2⟩)
  have HT := Lib.hid hT
  obtain ⟨R, hR⟩ : ∃ R, NewI (cycK (eK ns) n n) (cycX (eK ns) n) w = R := ⟨_, rfl⟩
  rw [hR]
  rw [hEE] at hR
  have HR := Lib.hid hR
  have HEn := Lib.hid hEn
  have HEm := Lib.hid hEm
  clear hT hE hv hr hR hEE hEn hEm hfit
  go_enter Tryd.func14, Tryd.ntmps14
  go_wp2_with (first | (go_at_call 23; refine KV.out.mono ?_; clear KV; rintro e w1 ⟨rfl, hb1⟩) | (go_at_call 24; refine (KF.out _ hb1).mono ?_; clear KF; rintro e w2 ⟨rfl, hf2⟩) | (go_at_call 34; refine (KB.out _ hf2.2.2.1).mono ?_; clear KB; rintro e w3 ⟨rfl, hf3⟩))
  obtain ⟨a1, a2, a3, a4⟩ := hf2
  obtain ⟨a5, a6, a7, a8⟩ := hf3
  have i1 : LkE w3 w1.heap.size n E := a1.keep a6
  have i2 : Tz w3 := HT.out.keep a7
  have i3 : w1.heap.size + n < w3.heap.size := by have := a6.size; omega
  have i4 : w.heap.size ≤ w1.heap.size := hb1.size
  clear a1 a2 a3 a6 hb1 a4
  generalize w2.heap.size = lb2 at *
  generalize w1.heap.size = lb at *
  go_loopw [8, 23] (fun cv i wr => ∃ k : Nat, k ≤ n ∧ i = .int .i64 (k : Int) ∧ CyV (cycK E n k) cv wr ∧ LkE wr lb n E ∧ LkE wr lb2 n (fun u x => E x u) ∧ Tz wr ∧ lb + n < wr.heap.size ∧ lb2 + n < wr.heap.size ∧ Below w.heap.size w wr) (fun _ i _ => n - (intOf i).toNat)
  case atStart => exact ⟨0, by omega, rfl, ⟨none, 0, rfl, fun _ => ⟨rfl, rfl⟩, fun h => absurd rfl h, Rd.nil _ _ _⟩, i1, a5, i2, i3, a8, a7⟩
  case round =>
    obtain ⟨k, hk, rfl, ⟨V, cv, rfl, v1, v2, v3⟩, j1, j2, j3, j4, j5, j6⟩ := hrel
    clear i1 a5 i2 i3 a8 a7
    -- what is left once the list is final
    have RF : ∀ W, Below wr.heap.size wr W → cycK E n n = cycK E n k → (cycK E n k = [] → R (.returned (.tuple #[.slice none 0 0, .int .i64 8])) W) ∧ (cycK E n k ≠ [] → R (.returned (.tuple #[.slice V (cycK E n k).length cv, .int .i64 0])) W) := fun W hb he => by
      rw [← HR.out]
      refine ⟨fun h0 => ?_, fun h0 => ?_⟩
      · unfold cycX
        rw [he, h0]
        exact ⟨none, 0, rfl, Rd.nil _ _ _, j6.trans (hb.mono j6.size)⟩
      · unfold cycX
        rw [he]
        have : (cycK E n k).isEmpty = false := by cases hq : cycK E n k <;> simp_all
        rw [this]
        exact ⟨V, cv, rfl, v3.to hb, j6.trans (hb.mono j6.size)⟩
    have RF := Lib.hid RF
    by_cases hlt : k < n
    · have dk : (k : Int) < (n : Int) := by omega
      have KR := Lib.hid (fun m hm => cyc_round n k lb lb2 m E (fun u x => E x u) (fun _ _ => rfl) hn HEm.out HEn.out hlt hm wr j1 j2 j3 j4 j5)
      have HS := Lib.hid (cycK_succ E n k)
      have HC1 := Lib.hid (cstep_nil (E := E) hlt)
      have HC2 := Lib.hid (fun hl2 => cstep_cons (E := E) (l := cycK E n k) hlt hl2)
      have HONE := Lib.hid (fun h => cycK_one (E := E) (n := n) (k := k) h (n - k))
      have HN := Lib.hid (show ∀ (w5 : World) (vv : Value), CyV (cycK E n (k + 1)) vv w5 → Below wr.heap.size wr w5 → ∃ k' : Nat, k' ≤ n ∧ Value.int .i64 ((k : Int) + 1) = .int .i64 (k' : Int) ∧ CyV (cycK E n k') vv w5 ∧ LkE w5 lb n E ∧ LkE w5 lb2 n (fun u x => E x u) ∧ Tz w5 ∧ lb + n < w5.heap.size ∧ lb2 + n < w5.heap.size ∧ Below w.heap.size w w5 from
        fun w5 vv hc hb => ⟨k + 1, by omega, by congr 1, hc, j1.keep hb, j2.keep hb, j3.keep hb, Nat.lt_of_lt_of_le j4 hb.size, Nat.lt_of_lt_of_le j5 hb.size, j6.trans (hb.mono j6.size)⟩)
      clear j1 j2 j3 j4 j5 j6
      generalize hL : cycK E n k = L at *
      have HL := Lib.hid hL
      clear hL
      by_cases hnil : L = []
      · subst hnil
        obtain ⟨rfl, rfl⟩ := v1 rfl
        have HC3 : thrS E n (capD (n - 1) (dstS E n k)) k = cycK E n (k + 1) := by rw [HC1.out, HS.out]
        have KR1 := KR.out (n - 1) (by omega)
        rw [HC3] at KR1
        have KR1 := Lib.hid KR1
        have dn1 : (n : Int) - 1 = ((n - 1 : Nat) : Int) := by omega
        simp only [List.length_nil]
        clear v1 v2 v3 KR HC3
        go_wp2_with (go_at_call 36; refine KR1.out.mono ?_; clear KR1; rintro e w5 ⟨db, rfl, hb5, KT⟩)
        go_at_call 35
        refine KT.out.mono ?_
        clear KT
        rintro e w6 ⟨⟨v6, rfl, A6, c6, rfl, z1, z2, z3⟩, hb6⟩
        have HN6 := Lib.hid (HN.out w6 _ ⟨A6, c6, rfl, z1, z2, z3⟩ hb6)
        clear HN z3
        by_cases hq : cycK E n (k + 1) = []
        · obtain ⟨rfl, rfl⟩ := z1 hq
          rw [hq] at HN6 ⊢
          simp only [List.length_nil] at HN6 ⊢
          clear z1 z2
          go_wp2
          exact ⟨HN6.out, by simp [intOf]; omega⟩
        · obtain ⟨ad, rfl⟩ := z2 hq
          clear z1 z2
          generalize (cycK E n (k + 1)).length = m6 at *
          go_wp2
          exact ⟨HN6.out, by simp [intOf]; omega⟩
      · obtain ⟨ad, rfl⟩ := v2 hnil
        have hlp : 0 < L.length := List.length_pos_iff.2 hnil
        by_cases hl1 : L.length = 1
        · have HF := Lib.hid ((RF.out wr (Below.refl _ _) (by have := HONE.out hl1; rw [show k + (n - k) = n by omega] at this; exact this)).2 hnil)
          rw [hl1] at HF ⊢
          clear v1 v2 v3 RF HONE HC2 HS
          have qe := fun (W : World) (a : Option Addr) (l c : Nat) => eql_nil (P := Tryd.prog) W 24 3 a l c Tryd.underlying24
          go_wp2
          exact HF.out
        · have hl2 : 2 ≤ L.length := by omega
          have hll : L.length - 2 ≤ 4096 := by
            have h1 : L.length ≤ n := by
              rcases cycK_len (E := E) (n := n) k (by omega) (by rw [HL.out]; exact hnil) with ⟨u, d, h1, ⟨⟨x, h2, h3, h4⟩, _⟩, h5, h6⟩
              have := (dstS_iff.1 h4).lt (by omega)
              rw [HL.out] at h6
              omega
            omega
          have KR1 := Lib.hid (KR.out (L.length - 2) hll)
          have HS2 := (HC2.out hl2).trans HS.out.symm
          have dn1 : (L.length : Int) - 2 = ((L.length - 2 : Nat) : Int) := by omega
          have HV := Lib.hid v3
          clear v1 v2 v3 KR
          go_wp2_with (go_at_call 36; refine KR1.out.mono ?_; clear KR1; rintro e w5 ⟨db, rfl, hb5, KT⟩)
          go_at_call 35
          refine KT.out.mono ?_
          clear KT
          rintro e w6 ⟨⟨v6, rfl, A6, c6, rfl, z1, z2, z3⟩, hb6⟩
          generalize thrS E n (capD (L.length - 2) (dstS E n k)) k = T at *
          by_cases hq : T = []
          · obtain ⟨rfl, rfl⟩ := z1 hq
            subst hq
            rw [if_pos rfl] at HS2
            have HN6 := Lib.hid (HN.out w6 (.slice (some ad) L.length cv) (HS2 ▸ ⟨_, cv, rfl, fun h => absurd h hnil, fun _ => ⟨_, rfl⟩, HV.out.to hb6⟩) hb6)
            simp only [List.length_nil]
            clear z1 z2 z3 HN HS2
            generalize L.length = m6 at *
            go_wp2
            exact ⟨HN6.out, by simp [intOf]; omega⟩
          · obtain ⟨ad6, rfl⟩ := z2 hq
            rw [if_neg hq] at HS2
            have HN6 := Lib.hid (HN.out w6 (.slice (some ad6) T.length c6) (HS2 ▸ ⟨_, c6, rfl, fun h => absurd h hq, fun _ => ⟨_, rfl⟩, z3⟩) hb6)
            clear z1 z2 z3 HN HS2
            generalize T.length = m6 at *
            go_wp2
            exact ⟨HN6.out, by simp [intOf]; omega⟩
    · have hkn : n = k := by omega
      subst hkn
      have HF := RF.out wr (Below.refl _ _) rfl
      clear j1 j2 j3 j4 j5 j6 RF
      generalize cycK E n n = L at *
      by_cases hnil : L = []
      · have HF1 := Lib.hid (HF.1 hnil)
        subst hnil
        obtain ⟨rfl, rfl⟩ := v1 rfl
        simp only [List.length_nil]
        clear v1 v2 v3 HF
        have qe := fun (W : World) (a : Option Addr) (l c : Nat) => eql_nil (P := Tryd.prog) W 24 3 a l c Tryd.underlying24
        go_wp2
        exact HF1.out
      · have HF1 := Lib.hid (HF.2 hnil)
        obtain ⟨ad, rfl⟩ := v2 hnil
        clear v1 v2 v3 HF
        have qe := fun (W : World) (a : Option Addr) (l c : Nat) => eql_nil (P := Tryd.prog) W 24 3 a l c Tryd.underlying24
        generalize L.length = m6 at *
        go_wp2
        exact HF1.out
end gr
end Go.Proofs.YtahffafobdiogaaDoor
