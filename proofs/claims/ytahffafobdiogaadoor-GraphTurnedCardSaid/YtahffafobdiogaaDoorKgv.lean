/- Cycle of the program. -/
import Derived.Test.YtahffafobdiogaaDoorKgu
namespace Go.Proofs.YtahffafobdiogaaDoor
set_option linter.unusedVariables false
set_option linter.unusedSimpArgs false
open Go.RowKit
namespace gr
def CyV (l : List Nat) (v : Value) (W : World) : Prop := ∃ A c, v = .slice A l.length c ∧ (l = [] → A = none ∧ c = 0) ∧ (l ≠ [] → ∃ ad, A = some ad) ∧ Rd W W.heap.size A (vV l)
theorem CyV.keep {l : List Nat} {v : Value} {W W' : World} (h : CyV l v W) (hb : Below W.heap.size W W') : CyV l v W' := by
  obtain ⟨A, c, h1, h2, h3, h4⟩ := h
  exact ⟨A, c, h1, h2, h3, h4.to hb⟩
theorem cap_full {E : Nat → Nat → Bool} {n v m : Nat} (hv : v < n) : ∀ d, Mnd E n (capD m (dstS E n v)) v d → d < n ∧ (folr (nea E n (capD m (dstS E n v))) d v).length = d := by
  intro d hd
  obtain ⟨⟨x, h1, h2, h3⟩, h4⟩ := hd
  obtain ⟨h5, h6⟩ := capD_iff.1 h3
  refine ⟨(dstS_iff.1 h5).lt hv, ?_⟩
  rw [folr_congr (ny := nea E n (dstS E n v)) d v fun e he u => nea_congr fun y hy => ?_]
  · exact folr_len hv d v (.inr ⟨x, h1, h2, h5⟩)
  · rw [capD_iff]
    exact ⟨fun z => z.1, fun z => ⟨z, by omega⟩⟩
theorem cstep_nil {E : Nat → Nat → Bool} {n v : Nat} (hv : v < n) : thrS E n (capD (n - 1) (dstS E n v)) v = cstep E n [] v := by
  rw [thr_cap hv]
  have h : (thrS E n (dstS E n v) v).length ≤ n - 1 + 1 := by
    cases hm : mndO E n (dstS E n v) v with
    | none => unfold thrS; rw [hm]; simp
    | some d =>
      obtain ⟨_, e⟩ := thrS_some hv (mndO_some.1 hm)
      obtain ⟨⟨x, h1, h2, h3⟩, _⟩ := mndO_some.1 hm
      have := (dstS_iff.1 h3).lt hv
      omega
  rw [if_pos h]
  unfold cstep
  by_cases h0 : thrS E n (dstS E n v) v = []
  · rw [if_neg (fun x => x.1 h0), h0]
  · rw [if_pos ⟨h0, .inl rfl⟩]
theorem cstep_cons {E : Nat → Nat → Bool} {n v : Nat} {l : List Nat} (hv : v < n) (hl : 2 ≤ l.length) : (if thrS E n (capD (l.length - 2) (dstS E n v)) v = [] then l else thrS E n (capD (l.length - 2) (dstS E n v)) v) = cstep E n l v := by
  rw [thr_cap hv]
  unfold cstep
  have hne : ¬ l = [] := fun e => by rw [e] at hl; simp at hl
  by_cases h : (thrS E n (dstS E n v) v).length ≤ l.length - 2 + 1
  · rw [if_pos h]
    by_cases h0 : thrS E n (dstS E n v) v = []
    · rw [if_pos h0, if_neg (fun x => x.1 h0)]
    · rw [if_neg h0, if_pos ⟨h0, .inr (by omega)⟩]
  · rw [if_neg h, if_pos rfl, if_neg]
    rintro ⟨h1, h2 | h2⟩
    · exact hne h2
    · omega
/-- the error of Cycle -/
noncomputable def cycX (E : Nat → Nat → Bool) (n : Nat) : Int := if (cycK E n n).isEmpty then 8 else 0
set_option maxHeartbeats 1000000 in
theorem cyc_round (n k lb lb2 : Nat) (m : Nat) (E E' : Nat → Nat → Bool) (hE' : ∀ u x, E' u x = E x u) (hn : n ≤ 4096) (hEn : ∀ u x, E' u x = true → x < n) (hEl : ∀ u x, E u x = true → x < n) (hk : k < n) (hm : m ≤ 4096) (W : World) (hL : LkE W lb n E) (hL2 : LkE W lb2 n E') (hT : Tz W) (hlb : lb + n < W.heap.size) (hlb2 : lb2 + n < W.heap.size) :
    Calls Tryd.prog 36 #[sl lb2 n, .int .i64 k, .int .i64 m] W fun e w' => ∃ db, e = .returned (sl db n) ∧ Below W.heap.size W w' ∧ Hid (Calls Tryd.prog 35 #[.int .i64 k, sl lb n, sl db n] w' fun e2 w2 => (∃ v2, e2 = .returned v2 ∧ CyV (thrS E n (capD m (dstS E n k)) k) v2 w2) ∧ Below W.heap.size W w2) := by
  refine (distances_any n k m lb2 E E' hE' hn hEn hEl hk hm W hL2 hT hlb2).mono ?_
  rintro e w' ⟨⟨db, he, hdb, hblk⟩, hb⟩
  refine ⟨db, he, hb, Lib.hid ((through_any n k lb db E _ hn hEl hk (cap_full hk) w' (hL.keep hb) (hT.keep hb) hblk (by have := hb.size; omega)).mono ?_)⟩
  rintro e2 w2 ⟨A, c, h1, h2, h3, h4, h5⟩
  exact ⟨⟨_, h1, A, c, rfl, h2, h3, h4⟩, hb.trans (h5.mono hb.size)⟩
end gr
end Go.Proofs.YtahffafobdiogaaDoor
