/- distances: all neighbours of a vertex of a level. -/
import Derived.Test.YtahffafobdiogaaDoorKgs
namespace Go.Proofs.YtahffafobdiogaaDoor
set_option linter.unusedVariables false
set_option linter.unusedSimpArgs false
open Go.RowKit
namespace gr
theorem bits_nodup (x : Nat) : (bitsL x).Nodup := List.Nodup.sublist List.filter_sublist List.nodup_range
theorem dist_visit (w W : World) (lb n db pd sb ps px pf BF k u0 : Nat) (E : Nat → Nat → Bool) (f0 : Nat → Int) (b0 : Nat → Bool) (F0 : List Nat) (hn : n ≤ 4096) (hEn : ∀ u w, E u w = true → w < n) (hu : u0 < n) (hnd : F0.Nodup ∧ ∀ x ∈ F0, x < n) (h : Df w W lb n db pd sb ps px pf BF E f0 b0 k F0) :
    Calls Tryd.prog 50 #[sl lb n, .int .i64 u0, sl sb (sizeW n), .func (.func 54) #[] #[.pointer (some ⟨ps, 0, none⟩), .pointer (some ⟨px, 0, none⟩), .pointer (some ⟨pd, 0, none⟩), .pointer (some ⟨pf, 0, none⟩)]] W fun e W' => e = .returned (.tuple #[]) ∧ ∃ F1, (∀ w, w ∈ F1 ↔ w ∈ F0 ∨ (b0 w = false ∧ E u0 w = true)) ∧ (F1.Nodup ∧ ∀ x ∈ F1, x < n) ∧ Df w W' lb n db pd sb ps px pf BF E f0 b0 k F1 ∧ Kq BF (Sd db sb pf) W W' := by
  obtain ⟨wss, hlk, hst⟩ := h.dt.lk.ex
  have hsv := hst u0 hu
  obtain ⟨f1, f2, f3, f4, f5, f6⟩ := h.dt.fit
  obtain ⟨g1, g2, g3⟩ := h.fit2
  have hbz := h.bz
  have hSl : ∀ k, lb ≤ k → k ≤ lb + n → ¬ Sd db sb pf k := fun k h1 h2 x => by rcases x with x | x | x <;> omega
  have hlt : ∀ v, v < n → lb + 1 + v < W.heap.size := fun v hv => h.dt.lk.lt hv
  refine (eachNew_any lb n u0 sb 54 _ (enters_of Tryd.func54 (by kernel_rfl) rfl) (fun i => (wss u0).getD i 0) hsv.wf hn hu
    (fun i U => ∃ F, (∀ w, w ∈ F ↔ w ∈ F0 ∨ (b0 w = false ∧ E u0 w = true ∧ w / 64 < i)) ∧ (F.Nodup ∧ ∀ x ∈ F, x < n) ∧ Df w U lb n db pd sb ps px pf BF E f0 b0 k F ∧ Kq BF (Sd db sb pf) W U)
    (fun i l U => ∃ F, (∀ w, w ∈ F ↔ w ∈ F0 ∨ (b0 w = false ∧ E u0 w = true ∧ (w / 64 < i ∨ (w / 64 = i ∧ w % 64 ∉ l)))) ∧ ((∀ b ∈ l, b < 64 ∧ b0 (i * 64 + b) = false ∧ i * 64 + b ∉ F ∧ E u0 (i * 64 + b) = true) ∧ l.Nodup) ∧ (F.Nodup ∧ ∀ x ∈ F, x < n) ∧ Df w U lb n db pd sb ps px pf BF E f0 b0 k F ∧ Kq BF (Sd db sb pf) W U)
    ?_ ?_ ?_ ?_ W (hlk.hd hu) ⟨F0, fun w => ⟨.inl, fun x => x.elim id fun y => by omega⟩, hnd, h, Kq.refl _ _ _⟩).mono ?_
  · rintro i U hi ⟨F, h1, h2, h3, h4⟩
    have hrow := hlk.sets u0 hu
    have hrow2 : Blk U (lb + 1 + u0) 69 (uV (wss u0)) := hrow.to (h4.2 _ (by omega) hrow.lt (hSl _ (by omega) (by omega)))
    obtain ⟨us, hu1, hu2⟩ := h3.dt.sn
    refine ⟨hrow2.cell (uV_get (by rw [hsv.len]; exact hi)), us.getD i 0, hu2.wf i, hu1.cell (uV_get (by rw [hu2.len]; exact hi)), F, ?_, ⟨?_, bits_nodup _⟩, h2, h3, h4⟩
    · have hbit : ∀ b, b < 64 → (us.getD i 0).testBit b = (b0 (i * 64 + b) || F.contains (i * 64 + b)) := fun b hb => by
        have := hu2.iff (i * 64 + b)
        unfold inW at this
        rw [show (i * 64 + b) / 64 = i by omega, show (i * 64 + b) % 64 = b by omega] at this
        exact this
      intro x
      rw [h1 x]
      constructor
      · rintro (y | ⟨y1, y2, y3⟩)
        · exact .inl y
        · exact .inr ⟨y1, y2, .inl y3⟩
      · rintro (y | ⟨y1, y2, y3 | ⟨y3, y4⟩⟩)
        · exact .inl y
        · exact .inr ⟨y1, y2, y3⟩
        · rw [bitsL_andn _ _ (hsv.wf i), List.mem_filter, bitsL_mem] at y4
          have hx : i * 64 + x % 64 = x := by omega
          have hwb : ((wss u0).getD i 0).testBit (x % 64) = true := by
            have := hsv.iff x
            unfold inW at this
            rw [y3, y2] at this
            exact this
          have hsb : (us.getD i 0).testBit (x % 64) = true := by
            cases hq : (us.getD i 0).testBit (x % 64) with
            | true => rfl
            | false => exact absurd ⟨⟨by omega, hwb⟩, by rw [hq]; rfl⟩ y4
          rw [hbit _ (by omega), hx, y1, Bool.false_or, List.contains_iff_mem] at hsb
          exact (h1 x).1 hsb
    · intro b hb
      rw [bitsL_andn _ _ (hsv.wf i), List.mem_filter, bitsL_mem] at hb
      obtain ⟨⟨hb1, hb2⟩, hb3⟩ := hb
      have h5 := hu2.iff (i * 64 + b)
      have h6 := hsv.iff (i * 64 + b)
      unfold inW at h5 h6
      rw [show (i * 64 + b) / 64 = i by omega, show (i * 64 + b) % 64 = b by omega] at h5 h6
      simp only [Bool.not_eq_true'] at hb3
      rw [hb3] at h5
      have h7 := h5.symm
      rw [Bool.or_eq_false_iff] at h7
      refine ⟨hb1, h7.1, fun x => ?_, h6.symm.trans hb2⟩
      have := h7.2
      rw [List.contains_iff_mem.2 x] at this
      cases this
  · rintro i l U ⟨F, _, _, _, h3, _⟩
    exact h3.dt.tz
  · rintro i b l U hi hb ⟨F, h1, ⟨h2, h2n⟩, ⟨h3, h3n⟩, h4, h5⟩
    obtain ⟨b1, b2, b3, b4⟩ := h2 b List.mem_cons_self
    have hun : i * 64 + b < n := hEn _ _ b4
    rw [List.nodup_cons] at h2n
    have hnd2 : (F ++ [i * 64 + b]).Nodup := by
      rw [List.nodup_append]
      refine ⟨h3, by simp, fun x hx y hy e => ?_⟩
      rw [List.mem_singleton] at hy
      subst hy
      subst e
      exact b3 hx
    have hlt2 : ∀ x ∈ F ++ [i * 64 + b], x < n := fun x hx => by
      rcases List.mem_append.1 hx with y | y
      · exact h3n x y
      · rw [List.mem_singleton.1 y]; exact hun
    have hlen : F.length < n := by
      have := nodup_len' _ (List.range n) hnd2 fun x hx => List.mem_range.2 (hlt2 x hx)
      rw [List.length_range, List.length_append, List.length_singleton] at this
      omega
    refine (dist1_any w U lb n db pd sb ps px pf BF k (i * 64 + b) E f0 b0 F hn hun hlen h4).mono ?_
    rintro e U' ⟨he, q1, q2⟩
    refine ⟨he, F ++ [i * 64 + b], fun x => ?_, ⟨fun c hc => ?_, h2n.2⟩, ⟨hnd2, hlt2⟩, q1, h5.trans q2⟩
    · rw [List.mem_append, List.mem_singleton, h1 x]
      constructor
      · rintro ((y | ⟨y1, y2, y3 | ⟨y3, y4⟩⟩) | rfl)
        · exact .inl y
        · exact .inr ⟨y1, y2, .inl y3⟩
        · exact .inr ⟨y1, y2, .inr ⟨y3, fun z => y4 (List.mem_cons_of_mem _ z)⟩⟩
        · exact .inr ⟨b2, b4, .inr ⟨by omega, by rw [show (i * 64 + b) % 64 = b by omega]; exact h2n.1⟩⟩
      · rintro (y | ⟨y1, y2, y3 | ⟨y3, y4⟩⟩)
        · exact .inl (.inl y)
        · exact .inl (.inr ⟨y1, y2, .inl y3⟩)
        · by_cases e : x % 64 = b
          · exact .inr (by omega)
          · exact .inl (.inr ⟨y1, y2, .inr ⟨y3, fun z => by
              rcases List.mem_cons.1 z with z | z
              · exact e z
              · exact y4 z⟩⟩)
    · obtain ⟨c1, c2, c3, c4⟩ := h2 c (List.mem_cons_of_mem _ hc)
      refine ⟨c1, c2, fun z => ?_, c4⟩
      rcases List.mem_append.1 z with z | z
      · exact c3 z
      · have : c = b := by have := List.mem_singleton.1 z; omega
        exact h2n.1 (this ▸ hc)
  · rintro i U ⟨F, h1, _, h3, h4, h5⟩
    refine ⟨F, fun x => ?_, h3, h4, h5⟩
    rw [h1 x]
    constructor
    · rintro (y | ⟨y1, y2, y3 | ⟨y3, _⟩⟩)
      · exact .inl y
      · exact .inr ⟨y1, y2, by omega⟩
      · exact .inr ⟨y1, y2, by omega⟩
    · rintro (y | ⟨y1, y2, y3⟩)
      · exact .inl y
      · rcases Nat.lt_or_ge (x / 64) i with y4 | y4
        · exact .inr ⟨y1, y2, .inl y4⟩
        · exact .inr ⟨y1, y2, .inr ⟨by omega, by simp⟩⟩
  · rintro e U ⟨he, F, h1, h3, h4, h5⟩
    refine ⟨he, F, fun x => ?_, h3, h4, h5⟩
    rw [h1 x]
    constructor
    · rintro (y | ⟨y1, y2, y3⟩)
      · exact .inl y
      · exact .inr ⟨y1, y2⟩
    · rintro (y | ⟨y1, y2⟩)
      · exact .inl y
      · exact .inr ⟨y1, y2, size_div (hEn _ _ y2)⟩
end gr
end Go.Proofs.YtahffafobdiogaaDoor
