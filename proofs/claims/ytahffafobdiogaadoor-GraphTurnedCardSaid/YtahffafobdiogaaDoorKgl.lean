/- Order of the program. -/
import Derived.Test.YtahffafobdiogaaDoorKgk
namespace Go.Proofs.YtahffafobdiogaaDoor
set_option linter.unusedVariables false
set_option linter.unusedSimpArgs false
open Go.RowKit
namespace gr
/-- is every vertex in the order -/
def fullB (n : Nat) (l : List Nat) : Bool := decide (n ≤ l.length)
def ordL (n : Nat) (ns : List (Nat × Nat)) : List Nat := if fullB n (kah (eK ns) n n []) then kah (eK ns) n n [] else []
def ordX (n : Nat) (ns : List (Nat × Nat)) : Int := if fullB n (kah (eK ns) n n []) then 0 else 13
theorem eK_lt {n : Nat} {ns : List (Nat × Nat)} (hr : ∀ e ∈ ns, e.1 < n ∧ e.2 < n) : ∀ u w, eK ns u w = true → w < n := fun u w h => by
  unfold eK at h
  exact (hr _ (List.contains_iff_mem.1 h)).2
def lenV : Value → Nat | .slice _ n _ => n | _ => 0
set_option maxRecDepth 100000 in
set_option maxHeartbeats 8000000 in
theorem order_ok (n : Nat) (A : Option Addr) (c : Nat) (ns : List (Nat × Nat)) (hn : n ≤ 4096) (hr : ∀ e ∈ ns, e.1 < n ∧ e.2 < n) (hl : ns.length ≤ 1048576) (w : World) (hT : Tz w) (hE : RdE w w.heap.size A (eN ns)) (hv : valB n (eN ns) = true) :
    Calls Tryd.prog 10 #[.int .i64 n, .slice A ns.length c] w (NewI (ordL n ns) (ordX n ns) w) := by
  obtain ⟨E, hEE⟩ : ∃ E, eK ns = E := ⟨_, rfl⟩
  have hEn : ∀ u w, E u w = true → w < n := hEE ▸ eK_lt hr
  have KV := Lib.hid (valid_any n A c (eN ns) (by rw [eN_len]; exact hl) w hE)
  rw [hv, eN_len] at KV
  have htz := tz_lt hT
  have KF := Lib.hid (fun W (hb : Below w.heap.size w W) => (forward_any n hn A c ns hr hl W ((hE.below hb).more' hb.size)).mono (R' := fun e w' => e = .returned (sl W.heap.size n) ∧ LkE w' W.heap.size n E ∧ Below W.heap.size W w' ∧ Tz w' ∧ Below w.heap.size w w' ∧ W.heap.size + n < w'.heap.size) fun e w' ⟨h1, h2, h3⟩ => by
    rw [hEE] at h2
    exact ⟨h1, h2, h3, (hT.keep hb).keep h3, hb.trans (h3.mono hb.size), by
      rcases Nat.eq_zero_or_pos n with h0 | h0
      · have := h2.lt0; omega
      · have := h2.lt (v := n - 1) (by omega); omega⟩)
  have hmk := fun W => make_ints n hn W
  obtain ⟨R, hR⟩ : ∃ R, NewI (ordL n ns) (ordX n ns) w = R := ⟨_, rfl⟩
  rw [hR]
  have HR := Lib.hid hR
  have HEE := Lib.hid hEE
  clear hT hE hv hr hR hEE
  go_enter Tryd.func10, Tryd.ntmps10
  go_wp2_with (first | (go_at_call 23; refine KV.out.mono ?_; clear KV; rintro e w1 ⟨rfl, hb1⟩) | (go_at_call 24; refine (KF.out _ hb1).mono ?_; clear KF; rintro e w2 ⟨rfl, hL2, hb2, hT2, hw2, hz2⟩))
  have h1 : Or1 w ((w2.alloc (.cells (rowI n fun x => 0).toArray 3)).alloc (.cells #[.slice (some ⟨w2.heap.size, 0, none⟩) n n] 24)) w1.heap.size w2.heap.size (w2.heap.size + 1) n E (fun u => ((List.range 0).countP fun t => E t u : Nat)) := by
    have hbb : Below w2.heap.size w2 ((w2.alloc (.cells (rowI n fun x => 0).toArray 3)).alloc (.cells #[.slice (some ⟨w2.heap.size, 0, none⟩) n n] 24)) := bel_alloc (bel_box _) _
    refine ⟨hL2.keep hbb, hT2.keep hbb, ?_, ?_, hw2.trans (hbb.mono hw2.size), by simp, htz, hb1.size, hz2, by omega⟩
    · exact (Blk.new w2 (rowI n fun _ => 0) _).alloc _
    · have h := Blk.new (w2.alloc (.cells (rowI n fun x => 0).toArray 3)) [sl w2.heap.size n] 24
      rw [World.size_alloc] at h
      exact h.cell (i := 0) rfl
  generalize (w2.alloc (.cells (rowI n fun x => 0).toArray 3)).alloc (.cells #[.slice (some ⟨w2.heap.size, 0, none⟩) n n] 24) = W3 at *
  generalize w2.heap.size + 1 = pm at *
  generalize w2.heap.size = mb at *
  generalize w1.heap.size = lb at *
  clear hL2 hb2 hT2 hw2 hz2 hb1 hmk
  have HEn := Lib.hid hEn
  clear hEn
  go_loopw [24] (fun i wr => ∃ k : Nat, k ≤ n ∧ i = .int .i64 (k : Int) ∧ Or1 w wr lb mb pm n E (fun u => ((List.range k).countP fun t => E t u : Nat))) (fun i _ => n - (intOf i).toNat)
  case atStart => exact ⟨0, by omega, rfl, h1⟩
  case round =>
    obtain ⟨k, hk, rfl, hrk⟩ := hrel
    by_cases hlt : k < n
    · have KV := Lib.hid (visit1 hn HEn.out hlt hrk)
      have dk : (k : Int) < (n : Int) := by omega
      clear hrk h1
      go_wp2_with (go_at_call 25; refine KV.out.mono ?_; rintro e w4 ⟨rfl, h4⟩)
      exact ⟨⟨k + 1, by omega, by congr 1, h4⟩, by simp [intOf]; omega⟩
    · have hkn : n = k := by omega
      subst hkn
      clear h1
      obtain ⟨W4, rfl⟩ : ∃ U, U = wr := ⟨_, rfl⟩
      have HNW := Lib.hid (newSet_any n hn)
      have h4 : Ors w ((W4.alloc (.cells (uV (List.replicate (sizeW n) 0)).toArray 69)).alloc (.cells #[sl W4.heap.size (sizeW n)] 49)) lb mb pm W4.heap.size (W4.heap.size + 1) n (W4.heap.size + 2) E (fun u => (mis E n [] u : Nat)) (fun u => decide (u < 0) && decide (mis E n [] u = 0)) := by
        have hbb : Below W4.heap.size W4 ((W4.alloc (.cells (uV (List.replicate (sizeW n) 0)).toArray 69)).alloc (.cells #[sl W4.heap.size (sizeW n)] 49)) := bel_alloc (bel_box _) _
        have h5 := hrk.keep hbb
        obtain ⟨f1, f2, f3, f4⟩ := h5.fit
        have hz4 := hrk.sz
        have e0 : ∀ u, (mis E n [] u) = (List.range n).countP fun t => E t u := fun u => by unfold mis; congr 1; funext t; simp
        refine ⟨h5.lk, h5.tz, ?_, h5.mc, ⟨_, (Blk.new W4 (uV (List.replicate (sizeW n) 0)) _).alloc _, (St.empty _).congr fun u => by simp⟩, ?_, by simp, h5.low, f1, f2, f3, f4, hz4, by omega, by omega⟩
        · have := h5.mi
          simp only [← e0] at this
          exact this
        · have h := Blk.new (W4.alloc (.cells (uV (List.replicate (sizeW n) 0)).toArray 69)) [sl W4.heap.size (sizeW n)] 49
          rw [World.size_alloc] at h
          exact h.cell (i := 0) rfl
      clear hrk
      go_wp2_with (go_at_call 27; refine (HNW.out W4).mono ?_; rintro e w5 ⟨rfl, rfl⟩)
      generalize (W4.alloc (.cells (uV (List.replicate (sizeW n) 0)).toArray 69)).alloc (.cells #[.slice (some ⟨W4.heap.size, 0, none⟩) (sizeW n) (sizeW n)] 49) = W5 at *
      generalize hB5 : W4.heap.size + 2 = B5 at *
      generalize W4.heap.size + 1 = pr at *
      generalize W4.heap.size = rb at *
      clear HNW hB5
      go_loopw [35] (fun i wr => ∃ k : Nat, k ≤ n ∧ i = .int .i64 (k : Int) ∧ Ors w wr lb mb pm rb pr n B5 E (fun u => (mis E n [] u : Nat)) (fun u => decide (u < k) && decide (mis E n [] u = 0))) (fun i _ => n - (intOf i).toNat)
      case atStart => exact ⟨0, by omega, rfl, h4⟩
      case round =>
        obtain ⟨k, hk, rfl, hrk⟩ := hrel
        clear h4
        by_cases hlt : k < n
        · have dk : (k : Int) < (n : Int) := by omega
          have c1 := hrk.mc
          have c2 := hrk.mi.cell (rowI_get _ hlt)
          have c3 := hrk.rc
          by_cases h0 : mis E n [] k = 0
          · have KA := Lib.hid (ord_add hn hrk hlt)
            rw [h0] at c2
            have H0 := Lib.hid h0
            clear hrk h0
            go_wp2_with (go_at_call 28; refine KA.out.mono ?_; rintro e w6 ⟨rfl, h6, _⟩)
            exact ⟨⟨k + 1, by omega, by congr 1, h6.congr (fun _ _ => rfl) (fun u => by
              rw [Bool.eq_iff_iff]
              simp only [Bool.or_eq_true, Bool.and_eq_true, decide_eq_true_eq]
              constructor
              · rintro (⟨a, b⟩ | rfl)
                · exact ⟨by omega, b⟩
                · exact ⟨by omega, H0.out⟩
              · rintro ⟨a, b⟩
                by_cases e : u = k
                · exact .inr e
                · exact .inl ⟨by omega, b⟩)⟩, by simp [intOf]; omega⟩
          · have H0 := Lib.hid h0
            have HK := Lib.hid hrk
            generalize mis E n [] k = x at c2 h0
            have d0 : ¬ (x : Int) = 0 := by omega
            clear hrk h0
            go_wp2
            exact ⟨⟨k + 1, by omega, by congr 1, HK.out.congr (fun _ _ => rfl) (fun u => by
              rw [Bool.eq_iff_iff]
              simp only [Bool.and_eq_true, decide_eq_true_eq]
              constructor
              · rintro ⟨a, b⟩
                exact ⟨by omega, b⟩
              · rintro ⟨a, b⟩
                refine ⟨?_, b⟩
                by_cases e : u = k
                · exact absurd (e ▸ b) H0.out
                · omega)⟩, by simp [intOf]; omega⟩
        · have hkn : n = k := by omega
          subst hkn
          obtain ⟨W6, rfl⟩ : ∃ U, U = wr := ⟨_, rfl⟩
          have h6 : Ors w W6 lb mb pm rb pr n B5 E (fun u => (mis E n [] u : Nat)) (fun u => decide (u < n) && rdy E n [] u) := hrk.congr (fun _ _ => rfl) fun u => by
            rw [Bool.eq_iff_iff]
            simp only [Bool.and_eq_true, decide_eq_true_eq, mis_rdy, List.not_mem_nil, not_false_eq_true, true_and]
          clear hrk
          have KL := Lib.hid (fun W out h => ord_least (w := w) (W := W) (lb := lb) (mb := mb) (pm := pm) (rb := rb) (pr := pr) (B := B5) (E := E) (f := fun u => (mis E n out u : Nat)) (out := out) hn h)
          have c3 := h6.rc
          have KL0 := Lib.hid (KL.out _ _ h6)
          go_wp2_with (go_at_call 29; refine KL0.out.mono ?_; clear KL0; rintro e w7 ⟨rfl, rfl⟩)
          have HI := Lib.hid infoI
          go_loopw [11, 12, 13] (fun d v ok wr => ∃ out : List Nat, wr.ownsRow B5 3 1 d out.length (vV out) ∧ v = .int .i64 (((nxt E n out).getD 0 : Nat) : Int) ∧ ok = .bool (nxt E n out).isSome ∧ Ors w wr lb mb pm rb pr n B5 E (fun u => (mis E n out u : Nat)) (fun u => decide (u < n) && rdy E n out u) ∧ Hid (Ord E n out ∧ kah E n (n - out.length) out = kah E n n [])) (fun d _ _ _ => n - lenV d)
          case atStart => exact ⟨[], World.ownsRow_nil _ _ _ _, rfl, rfl, h6, Lib.hid ⟨Ord.nil E n, rfl⟩⟩
          case round =>
            obtain ⟨out, hown, rfl, rfl, hrs, ho⟩ := hrel
            obtain ⟨V, cv, rfl⟩ := own_form hown
            clear h6 c3
            cases hx : nxt E n out with
            | none =>
              have hk := kah_none hx ho.out.2
              have hl := ho.out.1.len
              have HO := Lib.hid hown
              have hlow := hrs.low
              have HK := Lib.hid hk
              clear hrs hown hk hx ho
              simp only [Option.getD_none, Option.isSome_none]
              have hRd := Rd.of_own HO.out
              by_cases hf : out.length < n
              · have R0 : ∀ W, W = wr → R (.returned (.tuple #[.slice none 0 0, .int .i64 13])) W := by
                  rintro W rfl
                  rw [← HR.out]
                  have e1 : fullB n (kah (eK ns) n n []) = false := by rw [HEE.out, ← HK.out]; unfold fullB; simp; omega
                  unfold ordL ordX
                  rw [e1]
                  exact ⟨none, 0, rfl, Rd.nil _ _ _, hlow⟩
                have R1 := Lib.hid R0
                have df : (out.length : Int) < (n : Int) := by omega
                clear R0 HR HEE HK hRd HO
                go_wp2
                exact R1.out _ rfl
              · have R0 : ∀ W, W = wr → R (.returned (.tuple #[.slice V out.length cv, .int .i64 0])) W := by
                  rintro W rfl
                  rw [← HR.out]
                  have e1 : fullB n (kah (eK ns) n n []) = true := by rw [HEE.out, ← HK.out]; unfold fullB; simp; omega
                  unfold ordL ordX
                  rw [e1, HEE.out, ← HK.out]
                  exact ⟨V, cv, rfl, hRd, hlow⟩
                have R1 := Lib.hid R0
                have df : ¬ (out.length : Int) < (n : Int) := by omega
                clear R0 HR HEE HK hRd HO
                go_wp2
                exact R1.out _ rfl
            | some v =>
              obtain ⟨hv, hrv⟩ := nxt_some hx
              obtain ⟨ho2, hol, hok⟩ := kah_some ho.out.1 hx ho.out.2
              have KR := Lib.hid (ord_rem hn hrs hv)
              have HN2 := Lib.hid (show Ord E n (out ++ [v]) ∧ kah E n (n - (out ++ [v]).length) (out ++ [v]) = kah E n n [] from ⟨ho2, hok⟩)
              have HO := Lib.hid hown
              have c4 := hrs.rc
              have HX := Lib.hid hx
              have HOo := Lib.hid ho.out.1
              have hfit := Lib.hid hrs.fit
              have hBz := hrs.sz
              clear hrs hown ho hx ho2 hok hrv
              simp only [Option.getD_some, Option.isSome_some]
              have dol : (out.length : Int) < 4096 := by omega
              obtain ⟨i0, hi, iz, is, ib⟩ := HI.out
              go_wp2_with (first
                | (go_at_call 30; refine KR.out.mono ?_; clear KR; rintro e w8 ⟨rfl, h8, hk8⟩; have hown8 := Lib.hid (hk8.own HO.out (fun k hk => by have := hfit.out; omega)); have hz8 := h8.sz; clear hk8 HO)
                | (at_builtin; refine wpList_append_own_at _ rfl _ _ 24 rfl B5 3 i0 (.int .i64 0) 1 8 Tryd.underlying24 hi iz is ib rfl (by decide) _ out.length (vV out) rfl (own_keep hown8.out (bel_box _)) ⟨w8.heap.size, 0, none⟩ 1 1 [.int .i64 (v : Int)] rfl rfl (row1 _ _ _) (one_int _) (by unfold maxLen; omega) (by omega) (by rw [World.size_alloc]; omega) ?_; intro v9 w9 hown9 hgrow9 _ _; have hb9 : Below B5 w8 w9 := own_below (Below.refl _ _) hz8 hown8.out hgrow9; have h9 := h8.to hb9; have KE := Lib.hid (visit2 hn HEn.out HOo.out HX.out h9); have hown9 := Lib.hid hown9; clear h8 hown8 hgrow9 hb9 h9)
                | (go_at_call 25; refine KE.out.mono ?_; clear KE; rintro e w10 ⟨rfl, h10, hk10⟩; have hown10 := Lib.hid (hk10.own hown9.out (fun k hk => by have := hfit.out; omega)); have KL10 := Lib.hid (KL.out _ _ h10); have c10 := h10.rc; clear hk10 hown9)
                | (go_at_call 29; refine KL10.out.mono ?_; clear KL10; rintro e w11 ⟨rfl, rfl⟩))
              have hw := hown10.out
              rw [vV_snoc] at hw
              have hlen : (out ++ [v]).length = out.length + 1 := by simp
              refine ⟨⟨out ++ [v], by rw [hlen]; exact hw, rfl, rfl, h10, HN2⟩, ?_⟩
              obtain ⟨V9, c9, rfl⟩ := own_form hw
              simp only [lenV]
              omega
end gr
end Go.Proofs.YtahffafobdiogaaDoor
