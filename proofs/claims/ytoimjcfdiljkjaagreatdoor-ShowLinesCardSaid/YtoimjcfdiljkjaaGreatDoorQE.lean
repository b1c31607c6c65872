import Derived.Lib.Builder
import Derived.Lib.AppendStr
import Derived.Lib.UnsafeStr
import Derived.Laws.Externs
import Derived.Deep.RegionHeld3
import Derived.Test.YtoimjcfdiljkjaaGreatDoorQD
set_option linter.unusedVariables false
set_option linter.unusedSimpArgs false
namespace Go.Proofs.YtoimjcfdiljkjaaGreatDoor
open Go.RowKit Go.Sort
set_option maxHeartbeats 2000000 in
set_option maxRecDepth 20000 in
theorem ph_expr8 (E : Rw va.En) (b : Nat) (x : Xt) (f : Xt → List UInt8) (w : World) (hs : Std w) (hE : RsE w w.heap.size E) (hM : SymM w b) (hx : RdX w w.heap.size x) (hxt : x.t ≤ 9223372036854775807) (hl : x.ar.length ≤ 17592186044416) (hw : wf1 x)
    (KX : Hid (∀ y ∈ x.ar, ∀ W, Below w.heap.size w W → Calls Tryz.prog 36 #[phV E b, xV y] W (Bel (.string (tB (f y))) W))) (h : (ndS E.l x (x.ar.map f)).length ≤ 140737488355328) (hk : x.k = 8) :
    Calls Tryz.prog 36 #[phV E b, xV x] w (Bel (.string (tB (ndS E.l x (x.ar.map f)))) w) := by
  have hl2 : x.ar.length = 1 := hw.2.2.1 (.inr hk)
  obtain ⟨a0, h0⟩ := at_of (l := x.ar) (i := 0) (by omega)
  unfold ndS at h ⊢
  rw [if_neg (by omega), if_neg (by omega), if_neg (by omega), if_neg (by omega), if_neg (by omega), if_neg (by omega), if_pos hk] at h ⊢
  rw [opI_at h0] at h ⊢
  have KO : Hid (∀ W, Below w.heap.size w W → Calls Tryz.prog 65 #[phV E b, xV a0] W (Bel (.string (tB (opdS a0 (f a0)))) W)) := Lib.hid fun W hb => ph_operand E b a0 (f a0) W (by simp only [List.length_append] at h; omega) (Lib.hid fun W' hb' => KX.out a0 (List.mem_of_getElem? h0) W' (hb.trans (hb'.mono hb.size)))
  have KS : Hid (∀ W, Below w.heap.size w W → Calls Tryz.prog 67 #[phV E b, .agg #[.string x.nm, .int .i64 x.t, .int .i64 x.v]] W (Bel (.string (tB (smpS E.l ⟨x.nm, x.t, x.v⟩))) W)) := Lib.hid fun W hb => ph_sampling E b ⟨x.nm, x.t, x.v⟩ W (hs.to hb) (hE.blw hb hb.size) hxt (by simp only [List.length_append] at h; omega)
  have qk0 : (x.k == 1) = false := by simp [hk]
  have qk1 : (x.k == 3) = false := by simp [hk]
  have qk2 : (x.k == 4) = false := by simp [hk]
  have qk3 : (x.k == 5) = false := by simp [hk]
  have qk4 : (x.k == 6) = false := by simp [hk]
  have qk5 : (x.k == 7) = false := by simp [hk]
  have qk6 : (x.k == 8) = true := by simp [hk]
  generalize opdS a0 (f a0) = o0 at *
  generalize smpS E.l ⟨x.nm, x.t, x.v⟩ = sm at *
  obtain ⟨z1, hz1⟩ : ∃ q, (o0) ++ ([32]) = q := ⟨_, rfl⟩
  have lz1 := congrArg List.length hz1
  rw [List.length_append] at lz1
  obtain ⟨z2, hz2⟩ : ∃ q, (z1) ++ (sm) = q := ⟨_, rfl⟩
  have lz2 := congrArg List.length hz2
  rw [List.length_append] at lz2
  have heq : z2 = o0 ++ [32] ++ sm := by
    subst hz1 hz2
    rfl
  have hll : z2.length ≤ 140737488355328 := by rw [heq]; exact h
  have kaz1 := fun w => add_tB (P := Tryz.prog) w (A := tB o0) (B := ⟨#[32]⟩) rfl rfl hz1 (by (try simp only [List.length_cons, List.length_nil] at *); omega)
  have kaz2 := fun w => add_tB (P := Tryz.prog) w (A := tB z1) (B := tB sm) rfl rfl hz2 (by (try simp only [List.length_cons, List.length_nil] at *); omega)
  have HZ := Lib.hid heq
  clear heq hll hz1 hz2 lz1 lz2
  rw [← HZ.out]
  clear hl2 hw hk
  have hlen : x.ar.length ≤ 9223372036854775807 := by have := hx.len.1; unfold maxLen at this; exact this
  have hmx := (List.getElem?_eq_some_iff.1 h0).1
  have hi0 : (0 : Int) < (x.ar.length : Int) := by omega
  have hn0 : 0 < x.ar.length := by omega
  simp only [xV] at KO ⊢
  clear KX HZ h hM hs hE
  go_enter Tryz.func36, Tryz.ntmps36
  go_wp2
  obtain ⟨W0, hW0⟩ : ∃ W0, ((w.alloc (.cells #[.slice E.A E.l.length E.c, .map (some b)] 64)).alloc (.cells #[.int .i64 x.k, .int .i64 x.op, .int .i64 x.t, .int .i64 x.v, .string x.nm, .slice x.A x.ar.length x.c] 33)) = W0 := ⟨_, rfl⟩
  have hB0 : Below w.heap.size w W0 := by rw [← hW0]; exact bel_alloc (bel_box _) _
  have b00 : W0.cell? ⟨w.heap.size, 0, none⟩ = some (.slice E.A E.l.length E.c) := by rw [← hW0]; simp [go_sem]
  have b01 : W0.cell? ⟨w.heap.size, 1, none⟩ = some (.map (some b)) := by rw [← hW0]; simp [go_sem]
  have b10 : W0.cell? ⟨w.heap.size + 1, 0, none⟩ = some (.int .i64 x.k) := by rw [← hW0]; simp [go_sem]
  have b11 : W0.cell? ⟨w.heap.size + 1, 1, none⟩ = some (.int .i64 x.op) := by rw [← hW0]; simp [go_sem]
  have b12 : W0.cell? ⟨w.heap.size + 1, 2, none⟩ = some (.int .i64 x.t) := by rw [← hW0]; simp [go_sem]
  have b13 : W0.cell? ⟨w.heap.size + 1, 3, none⟩ = some (.int .i64 x.v) := by rw [← hW0]; simp [go_sem]
  have b14 : W0.cell? ⟨w.heap.size + 1, 4, none⟩ = some (.string x.nm) := by rw [← hW0]; simp [go_sem]
  have b15 : W0.cell? ⟨w.heap.size + 1, 5, none⟩ = some (.slice x.A x.ar.length x.c) := by rw [← hW0]; simp [go_sem]
  have HW0 := Lib.hid hW0
  clear hW0
  rw [HW0.out]
  obtain ⟨ad0, y0, hA0, had0, hy0, _, ⟨c00, c01, c02, c03, c04, c05⟩, _⟩ := (hx.to hB0).at_ (i := 0) (by have := (List.getElem?_eq_some_iff.1 h0).1; omega)
  obtain rfl : y0 = a0 := Option.some.inj (hy0.symm.trans h0)
  rw [hA0] at b15 ⊢
  clear hA0 hy0
  simp [go_sem] at c00 c01 c02 c03 c04 c05
  have q_b00 := cell_regrown b00
  have q_b01 := cell_regrown b01
  have q_b10 := cell_regrown b10
  have q_b11 := cell_regrown b11
  have q_b12 := cell_regrown b12
  have q_b13 := cell_regrown b13
  have q_b14 := cell_regrown b14
  have q_b15 := cell_regrown b15
  have q_c00 := cell_regrown c00
  have q_c01 := cell_regrown c01
  have q_c02 := cell_regrown c02
  have q_c03 := cell_regrown c03
  have q_c04 := cell_regrown c04
  have q_c05 := cell_regrown c05
  have k_0 := fun dd os => Calls.regrown_of (KO.out (grow (redrawn W0 dd) os) (hB0.trans ((below_regrown W0 dd os).mono hB0.size)))
  have k_1 := fun dd os => Calls.regrown_of (KS.out (grow (redrawn W0 dd) os) (hB0.trans ((below_regrown W0 dd os).mono hB0.size)))
  refine wp_region_quiet_below (by kernel_rfl) (by kernel_rfl) ?_
  repeat (quiet_step (first | with_reducible exact k_0 _ _ | with_reducible exact k_1 _ _))
  refine wpQuiet_nil ?_
  intro _ hw'
  obtain ⟨⟨dq, osq⟩, hw''⟩ := hw'
  subst hw''
  have hrw9 : Below W0.heap.size W0 (grow (redrawn W0 dq) osq) := below_regrown W0 dq osq
  have hw9 : Below w.heap.size w (grow (redrawn W0 dq) osq) := hB0.trans (hrw9.mono hB0.size)
  generalize grow (redrawn W0 dq) osq = w9 at hw9 hrw9 ⊢
  clear q_b00 q_b01 q_b10 q_b11 q_b12 q_b13 q_b14 q_b15 q_c00 q_c01 q_c02 q_c03 q_c04 q_c05 k_0 k_1
  go_wp2
  go_ret
  exact ⟨rfl, hw9⟩
theorem list_self (x : Xt) : x ∈ x.list := by rw [Xt.list_eq]; exact List.mem_cons_self
theorem list_kid {x y z : Xt} (hy : y ∈ x.ar) (hz : z ∈ y.list) : z ∈ x.list := by
  rw [Xt.list_eq]
  exact List.mem_cons.2 (.inr (List.mem_flatten.2 ⟨_, List.mem_map_of_mem hy, hz⟩))
def wfX (y : Xt) : Prop := wf1 y ∧ y.t ≤ 9223372036854775807 ∧ y.ar.length ≤ 17592186044416
theorem ph_expr (E : Rw va.En) (b : Nat) : ∀ (x : Xt), (∀ y ∈ x.list, wfX y) → ∀ (w : World), Std w → RsE w w.heap.size E → SymM w b → RdX w w.heap.size x → (x.tx E.l).length ≤ 140737488355328 →
    Calls Tryz.prog 36 #[phV E b, xV x] w (Bel (.string (tB (x.tx E.l))) w) := by
  refine Xt.ind fun x ih hall w hs hE hM hx h => ?_
  rw [Xt.tx_eq] at h ⊢
  obtain ⟨hw, hxt, hl⟩ := hall x (list_self x)
  by_cases hk : 3 ≤ x.k ∧ x.k ≤ 10
  · have KX : Hid (∀ y ∈ x.ar, ∀ W, Below w.heap.size w W → Calls Tryz.prog 36 #[phV E b, xV y] W (Bel (.string (tB (y.tx E.l))) W)) := Lib.hid fun y hy W hb =>
      ih y hy (fun z hz => hall z (list_kid hy hz)) W (hs.to hb) (hE.blw hb hb.size) (hM.to hb) ((hx.kid hy).to hb) (Nat.le_trans (kid_len E.l hw hk.1 hk.2 hy) h)
    have : x.k = 3 ∨ x.k = 4 ∨ x.k = 5 ∨ x.k = 6 ∨ x.k = 7 ∨ x.k = 8 ∨ x.k = 9 ∨ x.k = 10 := by omega
    rcases this with e | e | e | e | e | e | e | e
    · exact ph_expr3 E b x _ w hs hE hM hx hxt hl hw KX h e
    · exact ph_expr4 E b x _ w hs hE hM hx hxt hl hw KX h e
    · exact ph_expr5 E b x _ w hs hE hM hx hxt hl hw KX h e
    · exact ph_expr6 E b x _ w hs hE hM hx hxt hl hw KX h e
    · exact ph_expr7 E b x _ w hs hE hM hx hxt hl hw KX h e
    · exact ph_expr8 E b x _ w hs hE hM hx hxt hl hw KX h e
    · exact ph_expr9 E b x _ w hs hE hM hx hxt hl hw KX h e
    · exact ph_expr10 E b x _ w hs hE hM hx hxt hl hw KX h e
  · by_cases e1 : x.k = 1
    · exact ph_expr1 E b x _ w hs hE hM hx hxt hl hw h e1
    · by_cases e11 : x.k = 11
      · exact ph_expr11 E b x _ w hs hE hM hx hxt hl hw h e11
      · exact ph_expr0 E b x _ w hs hE hM hx hxt hl hw h (by omega)
end Go.Proofs.YtoimjcfdiljkjaaGreatDoor
namespace Go.Proofs.YtoimjcfdiljkjaaGreatDoor
open Go.RowKit Go.Sort
theorem spot_none {w : World} {a : Addr} {v : Value} (h : w.cell? a = some v) : a = ⟨a.block, a.off, none⟩ := by
  obtain ⟨b, o, s⟩ := a
  unfold World.cell? at h
  simp only at h
  split at h
  · cases s with
    | none => rfl
    | some s => simp at h
  · cases h
theorem join_strs (r : Rw ByteArray) (sep : ByteArray) (w : World) (hR : RdR w w.heap.size 1 BC r) (hl : r.l.length ≤ 17592186044416) (hlen : (Lib.join (r.l.map bsT) (bsT sep)).length ≤ 140737488355328) :
    Calls Tryz.prog 51 #[.slice r.A r.l.length r.c, .string sep] w (Bel (.string (tB (Lib.join (r.l.map bsT) (bsT sep)))) w) := by
  by_cases h0 : r.l = []
  · rw [h0]
    refine (Tryz.strings_Join_none r.A r.c sep w).mono ?_
    rintro e w' ⟨rfl, rfl⟩
    exact ⟨rfl, Below.refl _ _⟩
  · obtain ⟨ad, hA, had⟩ := hR.1 h0
    have hpos : 0 < r.l.length := List.length_pos_iff.2 h0
    have hsp : ad = ⟨ad.block, ad.off, none⟩ := by
      have := hR.2.1 ad 0 r.l[0] hA (List.getElem?_eq_getElem hpos)
      have h2 : w.cell? (ad.add (0 * 1)) = some (.string r.l[0]) := this
      rw [Nat.zero_mul, Addr.add, if_pos rfl] at h2
      exact spot_none h2
    have := Tryz.strings_Join ad.block ad.off r.c r.l sep w (fun j x hx => by
      have h2 : w.cell? (ad.add (j * 1)) = some (.string x) := hR.2.1 ad j x hA hx
      rw [Nat.mul_one] at h2
      unfold Addr.add at h2
      split at h2
      · rename_i hj
        subst hj
        rw [hsp] at h2
        exact h2
      · exact h2) had (by omega) hR.2.2.2 hlen
    rw [← hsp] at this
    rw [hA]
    exact this
theorem qBox {w W : World} (E : Rw va.En) (b : Nat) (q : Qt) (h : Below ((w.alloc (.cells #[.slice E.A E.l.length E.c, .map (some b)] 64)).alloc (.cells #[.slice q.lf.A q.lf.l.length q.lf.c, .int .i64 q.r.k, .int .i64 q.r.op, .int .i64 q.r.t, .int .i64 q.r.v, .string q.r.nm, .slice q.r.A q.r.ar.length q.r.c] 54)).heap.size ((w.alloc (.cells #[.slice E.A E.l.length E.c, .map (some b)] 64)).alloc (.cells #[.slice q.lf.A q.lf.l.length q.lf.c, .int .i64 q.r.k, .int .i64 q.r.op, .int .i64 q.r.t, .int .i64 q.r.v, .string q.r.nm, .slice q.r.A q.r.ar.length q.r.c] 54)) W) :
    W.cell? ⟨w.heap.size, 0, none⟩ = some (.slice E.A E.l.length E.c) ∧ W.cell? ⟨w.heap.size, 1, none⟩ = some (.map (some b)) ∧ W.cell? ⟨w.heap.size + 1, 0, none⟩ = some (.slice q.lf.A q.lf.l.length q.lf.c) ∧ W.cell? ⟨w.heap.size + 1, 1, none⟩ = some (.int .i64 q.r.k) ∧ W.cell? ⟨w.heap.size + 1, 2, none⟩ = some (.int .i64 q.r.op) ∧ W.cell? ⟨w.heap.size + 1, 3, none⟩ = some (.int .i64 q.r.t) ∧ W.cell? ⟨w.heap.size + 1, 4, none⟩ = some (.int .i64 q.r.v) ∧ W.cell? ⟨w.heap.size + 1, 5, none⟩ = some (.string q.r.nm) ∧ W.cell? ⟨w.heap.size + 1, 6, none⟩ = some (.slice q.r.A q.r.ar.length q.r.c) := by
  have hc : ∀ q : Addr, q.block < w.heap.size + 2 → W.cell? q = _ := fun q hq => h.cell (by rw [World.size_alloc, World.size_alloc]; exact hq)
  refine ⟨?_, ?_, ?_, ?_, ?_, ?_, ?_, ?_, ?_⟩
  all_goals (rw [hc _ (by simp)]; simp [go_sem])
set_option maxHeartbeats 2000000 in
set_option maxRecDepth 20000 in
theorem ph_equation (E : Rw va.En) (b : Nat) (q : Qt) (w : World) (hs : Std w) (hE : RsE w w.heap.size E) (hM : SymM w b) (hx : RsQ w w.heap.size q) (hl : q.lf.l.length ≤ 17592186044416) (hall : ∀ y ∈ q.r.list, wfX y) (h : (eqnS E.l q).length ≤ 140737488355328) :
    Calls Tryz.prog 94 #[phV E b, qV q] w (Bel (.string (tB (eqnS E.l q))) w) := by
  unfold eqnS at h ⊢
  have KE : Hid (∀ W, Below w.heap.size w W → Calls Tryz.prog 36 #[phV E b, xV q.r] W (Bel (.string (tB (q.r.tx E.l))) W)) := Lib.hid fun W hb => ph_expr E b q.r hall W (hs.to hb) (hE.blw hb hb.size) (hM.to hb) (hx.2.1.to hb) (by simp only [List.length_append] at h; omega)
  obtain ⟨jj, hjj⟩ : ∃ z, Lib.join (q.lf.l.map bsT) [44, 32] = z := ⟨_, rfl⟩
  unfold lftS at h ⊢
  rw [hjj] at h ⊢
  have hjl : jj.length ≤ 140737488355328 := by
    split at h
    · unfold brS at h; simp only [List.length_append] at h; omega
    · simp only [List.length_append] at h; omega
  have KJ : Hid (∀ W, Below w.heap.size w W → Calls Tryz.prog 51 #[.slice q.lf.A q.lf.l.length q.lf.c, .string ⟨#[44, 32]⟩] W (Bel (.string (tB jj)) W)) := Lib.hid fun W hb => by
    have := join_strs q.lf ⟨#[44, 32]⟩ W (hx.1.blw hb hb.size).1 hl (by show (Lib.join (q.lf.l.map bsT) [44, 32]).length ≤ _; rw [hjj]; exact hjl)
    have e : Lib.join (q.lf.l.map bsT) (bsT ⟨#[44, 32]⟩) = jj := hjj
    rwa [e] at this
  generalize q.r.tx E.l = rr at *
  by_cases z1 : 1 < q.lf.l.length
  · rw [if_pos z1] at h ⊢
    have q0 : (1 : Int) < (q.lf.l.length : Int) := by omega
    have KB : Hid (∀ W, Below w.heap.size w W → Calls Tryz.prog 105 #[.string (tB jj)] W (Bel (.string (tB (brS jj))) W)) := Lib.hid fun W _ => ph_brackets jj (by simp only [List.length_append] at h; omega) W
    generalize brS jj = ll at *
    clear hjj z1 hjl
    obtain ⟨z1, hz1⟩ : ∃ q, (ll) ++ ([32, 61, 32]) = q := ⟨_, rfl⟩
    have lz1 := congrArg List.length hz1
    rw [List.length_append] at lz1
    obtain ⟨z2, hz2⟩ : ∃ q, (z1) ++ (rr) = q := ⟨_, rfl⟩
    have lz2 := congrArg List.length hz2
    rw [List.length_append] at lz2
    obtain ⟨z3, hz3⟩ : ∃ q, (z2) ++ ([59]) = q := ⟨_, rfl⟩
    have lz3 := congrArg List.length hz3
    rw [List.length_append] at lz3
    have heq : z3 = ll ++ [32, 61, 32] ++ rr ++ [59] := by
      subst hz1 hz2 hz3
      rfl
    have hll : z3.length ≤ 140737488355328 := by rw [heq]; exact h
    have kaz1 := fun w => add_tB (P := Tryz.prog) w (A := tB ll) (B := ⟨#[32, 61, 32]⟩) rfl rfl hz1 (by (try simp only [List.length_cons, List.length_nil] at *); omega)
    have kaz2 := fun w => add_tB (P := Tryz.prog) w (A := tB z1) (B := tB rr) rfl rfl hz2 (by (try simp only [List.length_cons, List.length_nil] at *); omega)
    have kaz3 := fun w => add_tB (P := Tryz.prog) w (A := tB z2) (B := ⟨#[59]⟩) rfl rfl hz3 (by (try simp only [List.length_cons, List.length_nil] at *); omega)
    have HZ := Lib.hid heq
    clear heq hll hz1 hz2 hz3 lz1 lz2 lz3
    rw [← HZ.out]
    clear HZ h hs hE hM hx hl hall
    simp only [xV] at KE
    go_enter Tryz.func94, Tryz.ntmps94
    go_wp2_with (first | (go_at_call 51; (with_reducible refine (KJ.out _ ?_).mono ?_); (exact bl); rintro e w1 ⟨rfl, hb1⟩; obtain ⟨g00, g01, g10, g11, g12, g13, g14, g15, g16⟩ := qBox E b q (w := w) (W := w1) bl; have hB1 : Below w.heap.size w w1 := bl) | (go_at_call 105; (with_reducible refine (KB.out _ ?_).mono ?_); (exact bl); rintro e w2 ⟨rfl, hb2⟩; have g00 := (hb2.cell (block_lt_of_cell g00)).trans g00; have g01 := (hb2.cell (block_lt_of_cell g01)).trans g01; have g10 := (hb2.cell (block_lt_of_cell g10)).trans g10; have g11 := (hb2.cell (block_lt_of_cell g11)).trans g11; have g12 := (hb2.cell (block_lt_of_cell g12)).trans g12; have g13 := (hb2.cell (block_lt_of_cell g13)).trans g13; have g14 := (hb2.cell (block_lt_of_cell g14)).trans g14; have g15 := (hb2.cell (block_lt_of_cell g15)).trans g15; have g16 := (hb2.cell (block_lt_of_cell g16)).trans g16; have hB2 : Below w.heap.size w w2 := hB1.trans (hb2.mono hB1.size)) | (go_at_call 36; (with_reducible refine (KE.out _ ?_).mono ?_); (focus (exact hB2; done)); rintro e w9 ⟨rfl, hb9⟩))
    go_ret
    exact ⟨rfl, hB2.trans (hb9.mono hB2.size)⟩
  · rw [if_neg z1] at h ⊢
    have q0 : (q.lf.l.length : Int) ≤ (1 : Int) := by omega
    clear hjj z1 hjl
    generalize jj = ll at *
    obtain ⟨z1, hz1⟩ : ∃ q, (ll) ++ ([32, 61, 32]) = q := ⟨_, rfl⟩
    have lz1 := congrArg List.length hz1
    rw [List.length_append] at lz1
    obtain ⟨z2, hz2⟩ : ∃ q, (z1) ++ (rr) = q := ⟨_, rfl⟩
    have lz2 := congrArg List.length hz2
    rw [List.length_append] at lz2
    obtain ⟨z3, hz3⟩ : ∃ q, (z2) ++ ([59]) = q := ⟨_, rfl⟩
    have lz3 := congrArg List.length hz3
    rw [List.length_append] at lz3
    have heq : z3 = ll ++ [32, 61, 32] ++ rr ++ [59] := by
      subst hz1 hz2 hz3
      rfl
    have hll : z3.length ≤ 140737488355328 := by rw [heq]; exact h
    have kaz1 := fun w => add_tB (P := Tryz.prog) w (A := tB ll) (B := ⟨#[32, 61, 32]⟩) rfl rfl hz1 (by (try simp only [List.length_cons, List.length_nil] at *); omega)
    have kaz2 := fun w => add_tB (P := Tryz.prog) w (A := tB z1) (B := tB rr) rfl rfl hz2 (by (try simp only [List.length_cons, List.length_nil] at *); omega)
    have kaz3 := fun w => add_tB (P := Tryz.prog) w (A := tB z2) (B := ⟨#[59]⟩) rfl rfl hz3 (by (try simp only [List.length_cons, List.length_nil] at *); omega)
    have HZ := Lib.hid heq
    clear heq hll hz1 hz2 hz3 lz1 lz2 lz3
    rw [← HZ.out]
    clear HZ h hs hE hM hx hl hall
    simp only [xV] at KE
    go_enter Tryz.func94, Tryz.ntmps94
    go_wp2_with (first | (go_at_call 51; (with_reducible refine (KJ.out _ ?_).mono ?_); (exact bl); rintro e w1 ⟨rfl, hb1⟩; obtain ⟨g00, g01, g10, g11, g12, g13, g14, g15, g16⟩ := qBox E b q (w := w) (W := w1) bl; have hB1 : Below w.heap.size w w1 := bl) | (go_at_call 36; (with_reducible refine (KE.out _ ?_).mono ?_); (focus (exact hB1; done)); rintro e w9 ⟨rfl, hb9⟩))
    go_ret
    exact ⟨rfl, hB1.trans (hb9.mono hB1.size)⟩
end Go.Proofs.YtoimjcfdiljkjaaGreatDoor
namespace Go.Proofs.YtoimjcfdiljkjaaGreatDoor
open Go.RowKit Go.Sort
set_option maxHeartbeats 2000000 in
set_option maxRecDepth 20000 in
theorem ph_transition (E : Rw va.En) (b : Nat) (t : Tt) (r : Rw St) (w : World) (hs : Std w) (hE : RsE w w.heap.size E) (hM : SymM w b) (hx : RdX w w.heap.size t.cd) (hr : RdR w w.heap.size 6 SC r) (h0 : 0 ≤ t.to) (h1 : t.to < r.l.length) (hall : ∀ y ∈ t.cd.list, wfX y) (h : (trnS E.l r.l t).length ≤ 140737488355328) :
    Calls Tryz.prog 166 #[phV E b, tV t, .slice r.A r.l.length r.c] w (Bel (.string (tB (trnS E.l r.l t))) w) := by
  unfold trnS at h ⊢
  have KE : Hid (∀ W, Below w.heap.size w W → Calls Tryz.prog 36 #[phV E b, xV t.cd] W (Bel (.string (tB (t.cd.tx E.l))) W)) := Lib.hid fun W hb => ph_expr E b t.cd hall W (hs.to hb) (hE.blw hb hb.size) (hM.to hb) (hx.to hb) (by simp only [List.length_append] at h; omega)
  have hto : t.to.toNat < r.l.length := by omega
  obtain ⟨y, hy⟩ : ∃ y, r.l[t.to.toNat]? = some y := ⟨_, List.getElem?_eq_getElem hto⟩
  have e0 : (r.l.map St.nm).getD t.to.toNat ⟨#[]⟩ = y.nm := by
    rw [List.getD_eq_getElem?_getD, List.getElem?_map, hy]
    rfl
  rw [e0] at h ⊢
  have hlen := hr.len
  unfold maxLen at hlen
  have HSS := Lib.hid hr
  generalize t.cd.tx E.l = rr at *
  clear e0 hr
  by_cases re : t.re = true
  · rw [if_pos re] at h ⊢
    obtain ⟨z1, hz1⟩ : ∃ q, (rr) ++ ([32, 99, 111, 110, 116, 105, 110, 117, 101, 32]) = q := ⟨_, rfl⟩
    have lz1 := congrArg List.length hz1
    rw [List.length_append] at lz1
    obtain ⟨z2, hz2⟩ : ∃ q, (z1) ++ (bsT y.nm) = q := ⟨_, rfl⟩
    have lz2 := congrArg List.length hz2
    rw [List.length_append] at lz2
    obtain ⟨z3, hz3⟩ : ∃ q, (z2) ++ ([59]) = q := ⟨_, rfl⟩
    have lz3 := congrArg List.length hz3
    rw [List.length_append] at lz3
    have heq : z3 = rr ++ [32, 99, 111, 110, 116, 105, 110, 117, 101, 32] ++ bsT y.nm ++ [59] := by
      subst hz1 hz2 hz3
      rfl
    have hll : z3.length ≤ 140737488355328 := by rw [heq]; exact h
    have kaz1 := fun w => add_tB (P := Tryz.prog) w (A := tB rr) (B := ⟨#[32, 99, 111, 110, 116, 105, 110, 117, 101, 32]⟩) rfl rfl hz1 (by (try simp only [List.length_cons, List.length_nil] at *); omega)
    have kaz2 := fun w => add_tB (P := Tryz.prog) w (A := tB z1) (B := y.nm) rfl (tB_bsT _).symm hz2 (by (try simp only [List.length_cons, List.length_nil] at *); omega)
    have kaz3 := fun w => add_tB (P := Tryz.prog) w (A := tB z2) (B := ⟨#[59]⟩) rfl rfl hz3 (by (try simp only [List.length_cons, List.length_nil] at *); omega)
    have HZ := Lib.hid heq
    clear heq hll hz1 hz2 hz3 lz1 lz2 lz3
    rw [← HZ.out]
    clear HZ h hs hE hM hx hall
    simp only [xV] at KE
    go_enter Tryz.func166, Tryz.ntmps166
    go_wp2
    obtain ⟨W0, hW0⟩ : ∃ W0, ((w.alloc (.cells #[.slice E.A E.l.length E.c, .map (some b)] 64)).alloc (.cells #[.int .i64 t.cd.k, .int .i64 t.cd.op, .int .i64 t.cd.t, .int .i64 t.cd.v, .string t.cd.nm, .slice t.cd.A t.cd.ar.length t.cd.c, .int .i64 t.to, .bool t.re] 160)) = W0 := ⟨_, rfl⟩
    have hB0 : Below w.heap.size w W0 := by rw [← hW0]; exact bel_alloc (bel_box _) _
    have b00 : W0.cell? ⟨w.heap.size, 0, none⟩ = some (.slice E.A E.l.length E.c) := by rw [← hW0]; simp [go_sem]
    have b01 : W0.cell? ⟨w.heap.size, 1, none⟩ = some (.map (some b)) := by rw [← hW0]; simp [go_sem]
    have b10 : W0.cell? ⟨w.heap.size + 1, 0, none⟩ = some (.int .i64 t.cd.k) := by rw [← hW0]; simp [go_sem]
    have b11 : W0.cell? ⟨w.heap.size + 1, 1, none⟩ = some (.int .i64 t.cd.op) := by rw [← hW0]; simp [go_sem]
    have b12 : W0.cell? ⟨w.heap.size + 1, 2, none⟩ = some (.int .i64 t.cd.t) := by rw [← hW0]; simp [go_sem]
    have b13 : W0.cell? ⟨w.heap.size + 1, 3, none⟩ = some (.int .i64 t.cd.v) := by rw [← hW0]; simp [go_sem]
    have b14 : W0.cell? ⟨w.heap.size + 1, 4, none⟩ = some (.string t.cd.nm) := by rw [← hW0]; simp [go_sem]
    have b15 : W0.cell? ⟨w.heap.size + 1, 5, none⟩ = some (.slice t.cd.A t.cd.ar.length t.cd.c) := by rw [← hW0]; simp [go_sem]
    have b16 : W0.cell? ⟨w.heap.size + 1, 6, none⟩ = some (.int .i64 t.to) := by rw [← hW0]; simp [go_sem]
    have b17 : W0.cell? ⟨w.heap.size + 1, 7, none⟩ = some (.bool t.re) := by rw [← hW0]; simp [go_sem]
    have HW0 := Lib.hid hW0
    clear hW0
    have HW1 := HW0.out
    rw [re] at HW1 b17
    rw [HW1]
    clear HW1
    obtain ⟨ad, y', hA, had, hy', _, ⟨s0, s1, s2, s3, s4, s5⟩⟩ := (HSS.out.blw oneB_S hB0 hB0.size).at_ hto
    obtain rfl : y' = y := Option.some.inj (hy'.symm.trans hy)
    rw [hA]
    clear hA hy' hy
    clear HSS
    have q_b00 := cell_regrown b00
    have q_b01 := cell_regrown b01
    have q_b10 := cell_regrown b10
    have q_b11 := cell_regrown b11
    have q_b12 := cell_regrown b12
    have q_b13 := cell_regrown b13
    have q_b14 := cell_regrown b14
    have q_b15 := cell_regrown b15
    have q_b16 := cell_regrown b16
    have q_b17 := cell_regrown b17
    have q_s0 := cell_regrown s0
    have k_0 := fun dd os => Calls.regrown_of (KE.out (grow (redrawn W0 dd) os) (hB0.trans ((below_regrown W0 dd os).mono hB0.size)))
    refine wp_region_quiet_below (by kernel_rfl) (by kernel_rfl) ?_
    repeat (quiet_step (first | with_reducible exact k_0 _ _))
    refine wpQuiet_nil ?_
    intro _ hw'
    obtain ⟨⟨dq, osq⟩, hw''⟩ := hw'
    subst hw''
    have hrw9 : Below W0.heap.size W0 (grow (redrawn W0 dq) osq) := below_regrown W0 dq osq
    have hw9 : Below w.heap.size w (grow (redrawn W0 dq) osq) := hB0.trans (hrw9.mono hB0.size)
    generalize grow (redrawn W0 dq) osq = w9 at hw9 hrw9 ⊢
    clear q_b00 q_b01 q_b10 q_b11 q_b12 q_b13 q_b14 q_b15 q_b16 q_b17 q_s0 k_0
    go_wp2
    go_ret
    exact ⟨rfl, hw9⟩
  · rw [if_neg re] at h ⊢
    have re' : t.re = false := by simpa using re
    clear re
    obtain ⟨z1, hz1⟩ : ∃ q, (rr) ++ ([32, 116, 104, 101, 110, 32]) = q := ⟨_, rfl⟩
    have lz1 := congrArg List.length hz1
    rw [List.length_append] at lz1
    obtain ⟨z2, hz2⟩ : ∃ q, (z1) ++ (bsT y.nm) = q := ⟨_, rfl⟩
    have lz2 := congrArg List.length hz2
    rw [List.length_append] at lz2
    obtain ⟨z3, hz3⟩ : ∃ q, (z2) ++ ([59]) = q := ⟨_, rfl⟩
    have lz3 := congrArg List.length hz3
    rw [List.length_append] at lz3
    have heq : z3 = rr ++ [32, 116, 104, 101, 110, 32] ++ bsT y.nm ++ [59] := by
      subst hz1 hz2 hz3
      rfl
    have hll : z3.length ≤ 140737488355328 := by rw [heq]; exact h
    have kaz1 := fun w => add_tB (P := Tryz.prog) w (A := tB rr) (B := ⟨#[32, 116, 104, 101, 110, 32]⟩) rfl rfl hz1 (by (try simp only [List.length_cons, List.length_nil] at *); omega)
    have kaz2 := fun w => add_tB (P := Tryz.prog) w (A := tB z1) (B := y.nm) rfl (tB_bsT _).symm hz2 (by (try simp only [List.length_cons, List.length_nil] at *); omega)
    have kaz3 := fun w => add_tB (P := Tryz.prog) w (A := tB z2) (B := ⟨#[59]⟩) rfl rfl hz3 (by (try simp only [List.length_cons, List.length_nil] at *); omega)
    have HZ := Lib.hid heq
    clear heq hll hz1 hz2 hz3 lz1 lz2 lz3
    rw [← HZ.out]
    clear HZ h hs hE hM hx hall
    simp only [xV] at KE
    go_enter Tryz.func166, Tryz.ntmps166
    go_wp2
    obtain ⟨W0, hW0⟩ : ∃ W0, ((w.alloc (.cells #[.slice E.A E.l.length E.c, .map (some b)] 64)).alloc (.cells #[.int .i64 t.cd.k, .int .i64 t.cd.op, .int .i64 t.cd.t, .int .i64 t.cd.v, .string t.cd.nm, .slice t.cd.A t.cd.ar.length t.cd.c, .int .i64 t.to, .bool t.re] 160)) = W0 := ⟨_, rfl⟩
    have hB0 : Below w.heap.size w W0 := by rw [← hW0]; exact bel_alloc (bel_box _) _
    have b00 : W0.cell? ⟨w.heap.size, 0, none⟩ = some (.slice E.A E.l.length E.c) := by rw [← hW0]; simp [go_sem]
    have b01 : W0.cell? ⟨w.heap.size, 1, none⟩ = some (.map (some b)) := by rw [← hW0]; simp [go_sem]
    have b10 : W0.cell? ⟨w.heap.size + 1, 0, none⟩ = some (.int .i64 t.cd.k) := by rw [← hW0]; simp [go_sem]
    have b11 : W0.cell? ⟨w.heap.size + 1, 1, none⟩ = some (.int .i64 t.cd.op) := by rw [← hW0]; simp [go_sem]
    have b12 : W0.cell? ⟨w.heap.size + 1, 2, none⟩ = some (.int .i64 t.cd.t) := by rw [← hW0]; simp [go_sem]
    have b13 : W0.cell? ⟨w.heap.size + 1, 3, none⟩ = some (.int .i64 t.cd.v) := by rw [← hW0]; simp [go_sem]
    have b14 : W0.cell? ⟨w.heap.size + 1, 4, none⟩ = some (.string t.cd.nm) := by rw [← hW0]; simp [go_sem]
    have b15 : W0.cell? ⟨w.heap.size + 1, 5, none⟩ = some (.slice t.cd.A t.cd.ar.length t.cd.c) := by rw [← hW0]; simp [go_sem]
    have b16 : W0.cell? ⟨w.heap.size + 1, 6, none⟩ = some (.int .i64 t.to) := by rw [← hW0]; simp [go_sem]
    have b17 : W0.cell? ⟨w.heap.size + 1, 7, none⟩ = some (.bool t.re) := by rw [← hW0]; simp [go_sem]
    have HW0 := Lib.hid hW0
    clear hW0
    have HW1 := HW0.out
    rw [re'] at HW1 b17
    rw [HW1]
    clear HW1
    obtain ⟨ad, y', hA, had, hy', _, ⟨s0, s1, s2, s3, s4, s5⟩⟩ := (HSS.out.blw oneB_S hB0 hB0.size).at_ hto
    obtain rfl : y' = y := Option.some.inj (hy'.symm.trans hy)
    rw [hA]
    clear hA hy' hy
    clear HSS
    have q_b00 := cell_regrown b00
    have q_b01 := cell_regrown b01
    have q_b10 := cell_regrown b10
    have q_b11 := cell_regrown b11
    have q_b12 := cell_regrown b12
    have q_b13 := cell_regrown b13
    have q_b14 := cell_regrown b14
    have q_b15 := cell_regrown b15
    have q_b16 := cell_regrown b16
    have q_b17 := cell_regrown b17
    have q_s0 := cell_regrown s0
    have k_0 := fun dd os => Calls.regrown_of (KE.out (grow (redrawn W0 dd) os) (hB0.trans ((below_regrown W0 dd os).mono hB0.size)))
    refine wp_region_quiet_below (by kernel_rfl) (by kernel_rfl) ?_
    repeat (quiet_step (first | with_reducible exact k_0 _ _))
    refine wpQuiet_nil ?_
    intro _ hw'
    obtain ⟨⟨dq, osq⟩, hw''⟩ := hw'
    subst hw''
    have hrw9 : Below W0.heap.size W0 (grow (redrawn W0 dq) osq) := below_regrown W0 dq osq
    have hw9 : Below w.heap.size w (grow (redrawn W0 dq) osq) := hB0.trans (hrw9.mono hB0.size)
    generalize grow (redrawn W0 dq) osq = w9 at hw9 hrw9 ⊢
    clear q_b00 q_b01 q_b10 q_b11 q_b12 q_b13 q_b14 q_b15 q_b16 q_b17 q_s0 k_0
    go_wp2
    go_ret
    exact ⟨rfl, hw9⟩
end Go.Proofs.YtoimjcfdiljkjaaGreatDoor
namespace Go.Proofs.YtoimjcfdiljkjaaGreatDoor
open Go.RowKit Go.Sort
def WrP (B b : Nat) (E : Rw va.En) (m : Nat) (p : Value) (bs : List Value) (w : World) : Prop :=
  B ≤ b ∧ ∃ v, w.heap[b]? = some (.cells #[.slice E.A E.l.length E.c, .map (some m), p, v] 71 (0, 0)) ∧ w.ownsRow B 5 1 v bs.length bs ∧ v.ownBlock ≠ some b
def Wr (B b : Nat) (E : Rw va.En) (m : Nat) (bs : List Value) (w : World) : Prop := WrP B b E m (.pointer none) bs w ∨ WrP B b E m (.pointer (some ⟨b, 2, none⟩)) bs w
def Oth (b : Nat) (w w' : World) : Prop := ∀ (k : Nat) (cs : Array Value) (t : TypeId) (fr : Nat × Nat), w.heap[k]? = some (.cells cs t fr) → k ≠ b → t ≠ 5 → w'.heap[k]? = some (.cells cs t fr)
theorem Oth.refl (b : Nat) (w : World) : Oth b w w := fun _ _ _ _ h _ _ => h
theorem Oth.trans {b : Nat} {w w1 w2 : World} (h : Oth b w w1) (h' : Oth b w1 w2) : Oth b w w2 := fun k cs t fr a c d => h' k cs t fr (h k cs t fr a c d) c d
theorem Oth.set (b i : Nat) (w : World) (v : Value) : Oth b w (w.setCell ⟨b, i, none⟩ v) := fun k cs t fr a c _ => ((grownBy_setCellAt w ⟨b, i, none⟩ v).block k (Array.getElem?_eq_some_iff.1 a).1 (fun e => c (by injection e))).trans a
theorem Oth.alloc (b : Nat) (w : World) (o : Obj) : Oth b w (w.alloc o) := fun k cs t fr a _ _ => (Lib.alloc_old w o k (Array.getElem?_eq_some_iff.1 a).1).trans a
theorem Oth.grown {b B : Nat} {w w' : World} {v : Value} {n : Nat} {bs : List Value} (hg : w.grownBy w' v.ownBlock) (hown : w.ownsRow B 5 1 v n bs) : Oth b w w' := fun k cs t fr a _ d =>
  (hg.block k (Array.getElem?_eq_some_iff.1 a).1 (fun e => (Lib.ownBlock_ne hown a d) e.symm)).trans a
theorem WrP.lt {B b m : Nat} {E : Rw va.En} {p : Value} {bs : List Value} {w : World} (h : WrP B b E m p bs w) : b < w.heap.size := by
  obtain ⟨_, v, hb, _⟩ := h
  exact (Array.getElem?_eq_some_iff.1 hb).1
theorem WrP.used {B b m : Nat} {E : Rw va.En} {p : Value} {bs : List Value} {w : World} (h : WrP B b E m p bs w) (q : Value) : WrP B b E m q bs (w.setCell ⟨b, 2, none⟩ q) := by
  obtain ⟨hB, v, hb, hown, hne⟩ := h
  refine ⟨hB, v, ?_, hown.kept (row := some b) (grownBy_setCellAt w ⟨b, 2, none⟩ q) (Or.inr hne), hne⟩
  simp [World.setCell, Array.getElem?_modify, hb]
theorem WrP.put {B b m : Nat} {E : Rw va.En} {p v v' : Value} {bs' : List Value} {w : World} (hB : B ≤ b) (hb : w.heap[b]? = some (.cells #[.slice E.A E.l.length E.c, .map (some m), p, v] 71 (0, 0)))
    (hown : w.ownsRow B 5 1 v' bs'.length bs') : WrP B b E m p bs' (w.setCell ⟨b, 3, none⟩ v') := by
  have hne := Lib.ownBlock_ne hown hb (by decide)
  refine ⟨hB, v', ?_, hown.kept (row := some b) (grownBy_setCellAt w ⟨b, 3, none⟩ v') (Or.inr hne), hne⟩
  simp [World.setCell, Array.getElem?_modify, hb]
theorem wr_size : (Tryz.prog.info? 69).map (·.size) = some 2 := by kernel_rfl
theorem wr_lies : liesAt Tryz.prog Tryz.prog.depth 71 (4 / Tryz.prog.cellsOf 71) 2 69 1 = true := by kernel_rfl
theorem wr_byte : (Tryz.prog.info? 5).map (fun i => (i.zero, i.size, i.bytes)) = some (some (.int .u8 0), 1, 1) := by kernel_rfl
set_option maxHeartbeats 1000000 in
set_option maxRecDepth 100000 in
theorem wr_check (B b m : Nat) (E : Rw va.En) (bs : List Value) (w : World) (h : Wr B b E m bs w) :
    Calls Tryz.prog 124 #[.pointer (some ⟨b, 2, none⟩)] w fun e w' => e = .returned (.tuple #[]) ∧ WrP B b E m (.pointer (some ⟨b, 2, none⟩)) bs w' ∧ Below B w w' ∧ Oth b w w' := by
  obtain ⟨j, hj, hjs⟩ := Option.map_eq_some_iff.1 wr_size
  rcases h with h | h
  · have h' := h
    obtain ⟨hB, v, hb, hown, hne⟩ := h'
    have c2 : w.cell? ⟨b, 2, none⟩ = some (.pointer none) := by rw [Lib.cell_of_heap hb]; rfl
    have f2 : w.frozen? ⟨b, 2, none⟩ = false := Lib.frozen_of_heap hb 2
    have hsh : w.shape? b = some (71, 4) := by simp [World.shape?, hb]
    have HH := Lib.hid h
    have HB := Lib.hid hB
    clear h hb hown hne hB
    go_enter Tryz.func124, Tryz.ntmps124
    go_wp2
    rw [Lib.run_to_unsafe w ⟨b, 2, none⟩ Tryz.underlying66 Tryz.underlying194 hj (by rw [hjs]; decide) hsh (by show 2 < 4; decide)]
    simp only [Result.andThen]
    rw [Oper.upon_value]
    go_wp2
    rw [run_callFunc_extern Tryz.func164 (by kernel_rfl) (by kernel_rfl) (by kernel_rfl) (e := Extern.AbiNoEscape.same) (by kernel_rfl)]
    rw [Lib.run_noEscape]
    simp only [Result.andThen]
    rw [Oper.upon_value]
    go_wp2
    rw [Lib.run_from_unsafe w ⟨b, 2, none⟩ Tryz.underlying194 Tryz.underlying66 hj hsh wr_lies]
    simp only [Result.andThen]
    rw [Oper.upon_value]
    go_wp2
    go_end0
    exact ⟨rfl, HH.out.used _, (Below.refl B w).setCell (p := ⟨b, 2, none⟩) HB.out _, Oth.set _ _ _ _⟩
  · have h' := h
    obtain ⟨hB, v, hb, hown, hne⟩ := h'
    have c2 : w.cell? ⟨b, 2, none⟩ = some (.pointer (some ⟨b, 2, none⟩)) := by rw [Lib.cell_of_heap hb]; rfl
    have HH := Lib.hid h
    clear h hb hown hne hB
    go_enter Tryz.func124, Tryz.ntmps124
    go_wp2
    rw [Lib.run_neq_ptr_same w _ Tryz.underlying66 hj]
    go_wp2
    go_end0
    exact ⟨rfl, HH.out, Below.refl _ _, Oth.refl _ _⟩
set_option maxHeartbeats 2000000 in
set_option maxRecDepth 100000 in
theorem wr_string (B b m : Nat) (E : Rw va.En) (bs : List Value) (s : ByteArray) (w : World) (h : Wr B b E m bs w) (hlen : bs.length + s.size ≤ 140737488355328) (hBw : B ≤ w.heap.size) :
    Calls Tryz.prog 89 #[.pointer (some ⟨b, 2, none⟩), .string s] w fun e w' => e = .returned (.tuple #[.int .i64 s.size, .nilIface]) ∧ WrP B b E m (.pointer (some ⟨b, 2, none⟩)) (bs ++ Lib.strCells s) w' ∧ Below B w w' ∧ Oth b w w' := by
  obtain ⟨i0, hi, hz0, hz1, hz2⟩ := info_parts wr_byte
  have KC := Lib.hid (wr_check B b m E bs w h)
  clear h
  go_enter Tryz.func89, Tryz.ntmps89
  go_wp2_with (first
    | (go_at_call 124; (with_reducible refine KC.out.mono ?_); rintro e w1 ⟨rfl, h1, hb1, ho1⟩; obtain ⟨hB, v, hbk, hown, hne⟩ := h1; have c3 : w1.cell? ⟨b, 3, none⟩ = some v := (by rw [Lib.cell_of_heap hbk]; rfl); have hlt : b < w1.heap.size := (Array.getElem?_eq_some_iff.1 hbk).1)
    | (at_builtin; refine Lib.wpList_append_own_string _ rfl _ _ 67 9 rfl B 5 i0 Tryz.underlying67 Tryz.underlying9 hi hz0 hz1 hz2 _ _ _ rfl hown s rfl (by unfold maxLen; omega) (by omega) (by have := hb1.size; omega) ?_; intro v' w2 hown' hgrow _; have hb2 : w2.heap[b]? = some (.cells #[.slice E.A E.l.length E.c, .map (some m), .pointer (some ⟨b, 2, none⟩), v] 71 (0, 0)) := (by rw [hgrow.block b (by omega) (fun e => hne e.symm)]; exact hbk); have d3 : w2.cell? ⟨b, 3, none⟩ = some v := (by rw [Lib.cell_of_heap hb2]; rfl); have f3 : w2.frozen? ⟨b, 3, none⟩ = false := Lib.frozen_of_heap hb2 3; have HP := Lib.hid (WrP.put (bs' := bs ++ Lib.strCells s) hB hb2 (by simpa [Lib.strCells_length] using hown')); have HBB := Lib.hid (hb1.grown hgrow (by have := hb1.size; omega) (fun k hk => (hown.lt k hk).1)); have HBb := Lib.hid hB; have HO := Lib.hid (ho1.trans (Oth.grown (b := b) hgrow hown)); obtain ⟨ao, n', cap, rfl⟩ : ∃ ao n' cap, v' = .slice ao n' cap := (by rcases hown'.2 with ⟨hv, _⟩ | ⟨g, cap, cur, hv, _⟩; exact ⟨_, _, _, hv⟩; exact ⟨_, _, _, hv⟩); clear hown' hgrow hb2 hbk hown hne hB))
  go_ret2
  exact ⟨rfl, HP.out, HBB.out.setCell (p := ⟨b, 3, none⟩) HBb.out _, HO.out.trans (Oth.set _ _ _ _)⟩
set_option maxHeartbeats 2000000 in
set_option maxRecDepth 100000 in
theorem wr_byte1 (B b m : Nat) (E : Rw va.En) (bs : List Value) (c : Int) (w : World) (h : Wr B b E m bs w) (hlen : bs.length + 1 ≤ 140737488355328) (hBw : B ≤ w.heap.size) :
    Calls Tryz.prog 90 #[.pointer (some ⟨b, 2, none⟩), .int .u8 c] w fun e w' => e = .returned (.nilIface) ∧ WrP B b E m (.pointer (some ⟨b, 2, none⟩)) (bs ++ [.int .u8 c]) w' ∧ Below B w w' ∧ Oth b w w' := by
  obtain ⟨i0, hi, hz0, hz1, hz2⟩ := info_parts wr_byte
  have KC := Lib.hid (wr_check B b m E bs w h)
  clear h
  go_enter Tryz.func90, Tryz.ntmps90
  go_wp2_with (first
    | (go_at_call 124; (with_reducible refine KC.out.mono ?_); rintro e w1 ⟨rfl, h1, hb1, ho1⟩; obtain ⟨hB, v, hbk, hown, hne⟩ := h1; have c3 : w1.cell? ⟨b, 3, none⟩ = some v := (by rw [Lib.cell_of_heap hbk]; rfl); have hlt : b < w1.heap.size := (Array.getElem?_eq_some_iff.1 hbk).1)
    | (at_builtin; refine wpList_append_own _ rfl _ _ 67 rfl B 5 i0 (.int .u8 0) 1 1 Tryz.underlying67 hi hz0 hz1 hz2 rfl (by decide) _ _ _ rfl (hown.alloc _) ⟨w1.heap.size, 0, none⟩ 1 1 [.int .u8 c] rfl rfl (by intro j u hj; match j, hj with | 0, hj => (simp at hj; subst hj; simp [Addr.add])) (by intro u hu; simp at hu; subst hu; rfl) (by unfold maxLen; omega) (by omega) (by have := hb1.size; simp; omega) ?_; intro v' w2 hown' hgrow _; have hb2 : w2.heap[b]? = some (.cells #[.slice E.A E.l.length E.c, .map (some m), .pointer (some ⟨b, 2, none⟩), v] 71 (0, 0)) := (by rw [hgrow.block b (by simp; omega) (fun e => hne e.symm), Lib.alloc_old w1 _ b hlt]; exact hbk); have d3 : w2.cell? ⟨b, 3, none⟩ = some v := (by rw [Lib.cell_of_heap hb2]; rfl); have f3 : w2.frozen? ⟨b, 3, none⟩ = false := Lib.frozen_of_heap hb2 3; have HP := Lib.hid (WrP.put (bs' := bs ++ [.int .u8 c]) hB hb2 (by simpa [Lib.strCells_length] using hown')); have HBB := Lib.hid ((hb1.alloc (by have := hb1.size; omega) _).grown hgrow (by have := hb1.size; simp; omega) (fun k hk => (hown.lt k hk).1)); have HBb := Lib.hid hB; have HO := Lib.hid ((ho1.trans (Oth.alloc b _ _)).trans (Oth.grown (b := b) hgrow (hown.alloc _))); obtain ⟨ao, n', cap, rfl⟩ : ∃ ao n' cap, v' = .slice ao n' cap := (by rcases hown'.2 with ⟨hv, _⟩ | ⟨g, cap, cur, hv, _⟩; exact ⟨_, _, _, hv⟩; exact ⟨_, _, _, hv⟩); clear hown' hgrow hb2 hbk hown hne hB))
  go_ret
  exact ⟨rfl, HP.out, HBB.out.setCell (p := ⟨b, 3, none⟩) HBb.out _, HO.out.trans (Oth.set _ _ _ _)⟩
end Go.Proofs.YtoimjcfdiljkjaaGreatDoor
namespace Go.Proofs.YtoimjcfdiljkjaaGreatDoor
open Go.RowKit Go.Sort
theorem bytes_str (l : List UInt8) (s : ByteArray) : Lib.byteCells l ++ Lib.strCells s = Lib.byteCells (l ++ bsT s) := by
  simp [Lib.byteCells, Lib.strCells, bsT]
theorem bytes_one (l : List UInt8) : Lib.byteCells l ++ [.int .u8 10] = Lib.byteCells (l ++ [10]) := by
  simp [Lib.byteCells]
theorem WrP.to {B b m : Nat} {E : Rw va.En} {bs : List Value} {w : World} (h : WrP B b E m (.pointer (some ⟨b, 2, none⟩)) bs w) : Wr B b E m bs w := .inr h
def Pa (g o : Nat) (ps : List ByteArray) (w : World) : Prop := ∃ cs fr, w.heap[g]? = some (.cells cs 9 fr) ∧ ∀ j x, ps[j]? = some x → cs[o + j]? = some (.string x)
theorem Pa.to {g o b : Nat} {ps : List ByteArray} {w w' : World} (h : Pa g o ps w) (hb : g ≠ b) (ho : Oth b w w') : Pa g o ps w' := by
  obtain ⟨cs, fr, h1, h2⟩ := h
  exact ⟨cs, fr, ho g cs _ fr h1 hb (by decide), h2⟩
theorem Pa.at_ {g o : Nat} {ps : List ByteArray} {w : World} (h : Pa g o ps w) {k : Nat} (hk : k < ps.length) : w.cell? ⟨g, o + k, none⟩ = some (.string ps[k]) := by
  obtain ⟨cs, fr, h1, h2⟩ := h
  rw [Lib.cell_of_heap h1]
  exact h2 k _ (List.getElem?_eq_getElem hk)
theorem Pa.ne {g o B b m : Nat} {E : Rw va.En} {bs : List Value} {ps : List ByteArray} {w : World} (h : Pa g o ps w) (hw : Wr B b E m bs w) : g ≠ b := by
  obtain ⟨cs, fr, h1, _⟩ := h
  intro e
  subst e
  rcases hw with ⟨_, v, h2, _⟩ | ⟨_, v, h2, _⟩
  · rw [h1] at h2; simp at h2
  · rw [h1] at h2; simp at h2
theorem wr_write (B b m : Nat) (E : Rw va.En) (l : List UInt8) (s : ByteArray) (w : World) (h : Wr B b E m (Lib.byteCells l) w) (hlen : (l ++ bsT s).length ≤ 140737488355328) (hBw : B ≤ w.heap.size) :
    Calls Tryz.prog 89 #[.pointer (some ⟨b, 2, none⟩), .string s] w fun e w' => e = .returned (.tuple #[.int .i64 s.size, .nilIface]) ∧ Wr B b E m (Lib.byteCells (l ++ bsT s)) w' ∧ Below B w w' ∧ Oth b w w' := by
  refine (wr_string B b m E (Lib.byteCells l) s w h (by rw [Lib.byteCells_length]; rw [List.length_append, bsT_size] at hlen; exact hlen) hBw).mono ?_
  rintro e w' ⟨rfl, h1, h2, h3⟩
  rw [bytes_str] at h1
  exact ⟨rfl, h1.to, h2, h3⟩
theorem ind_len (k : Nat) : (List.replicate k ([32, 32] : List UInt8)).flatten.length = 2 * k := by
  induction k with
  | zero => rfl
  | succ k ih => rw [List.replicate_succ, List.flatten_cons, List.length_append, ih]; simp only [List.length_cons, List.length_nil]; omega
set_option maxHeartbeats 2000000 in
set_option maxRecDepth 20000 in
theorem wr_line (B b m : Nat) (E : Rw va.En) (l : List UInt8) (n g o c : Nat) (ps : List ByteArray) (w : World) (h : Wr B b E m (Lib.byteCells l) w) (hBw : B ≤ w.heap.size) (hn : n ≤ 140737488355328) (hpl : ps.length ≤ 140737488355328)
    (hp : Pa g o ps w) (hlen : (l ++ linS n (ps.map bsT).flatten).length ≤ 140737488355328) :
    Calls Tryz.prog 50 #[.pointer (some ⟨b, 0, none⟩), .int .i64 (n : Int), .slice (some ⟨g, o, none⟩) ps.length c] w fun e w' => e = .returned (.tuple #[]) ∧ Wr B b E m (Lib.byteCells (l ++ linS n (ps.map bsT).flatten)) w' ∧ Below B w w' ∧ Oth b w w' := by
  have hgb := hp.ne h
  have HP := Lib.hid hp
  have HH := Lib.hid h
  have HL := Lib.hid hlen
  clear h hp hlen
  unfold linS at HL ⊢
  go_enter Tryz.func50, Tryz.ntmps50
  go_wp2
  go_loopw [9] (fun i wr => ∃ k : Nat, k ≤ n ∧ i = .int .i64 (k : Int) ∧ Wr B b E m (Lib.byteCells (l ++ (List.replicate k [32, 32]).flatten)) wr ∧ Below B w wr ∧ Oth b w wr) (fun i _ => n - (intOf i).toNat)
  case atStart => exact ⟨0, by omega, rfl, by simpa using HH.out, Below.refl _ _, Oth.refl _ _⟩
  case round =>
    obtain ⟨k, hk, rfl, hW, hbl, hob⟩ := hrel
    have hzr := hbl.size
    have hlen := HL.out
    simp only [List.length_append, ind_len] at hlen
    by_cases hlt : k < n
    · have KW := Lib.hid (wr_write B b m E (l ++ (List.replicate k [32, 32]).flatten) ⟨#[32, 32]⟩ wr hW (by simp only [List.length_append, ind_len]; show _ + 2 ≤ _; omega) (by omega))
      have e : l ++ (List.replicate k [32, 32]).flatten ++ bsT ⟨#[32, 32]⟩ = l ++ (List.replicate (k + 1) [32, 32]).flatten := by
        rw [List.replicate_succ', List.flatten_append, List.append_assoc]
        rfl
      rw [e] at KW
      clear hW e hlen
      go_wp2_with (go_at_call 89; (with_reducible refine KW.out.mono ?_); rintro e w1 ⟨rfl, h1, hb1, ho1⟩)
      exact ⟨⟨k + 1, by omega, by congr 1, h1, hbl.trans hb1, hob.trans ho1⟩, by simp [intOf]; omega⟩
    · obtain rfl : k = n := by omega
      have HW := Lib.hid hW
      have HO := Lib.hid hob
      clear hW hob hlen
      generalize hind : (List.replicate k ([32, 32] : List UInt8)).flatten = ind at *
      have HI := Lib.hid hind
      clear hind
      go_wp2
      go_loopw [18] (fun i wr' => ∃ j : Nat, j ≤ ps.length ∧ i = .int .i64 (j : Int) ∧ Wr B b E m (Lib.byteCells (l ++ ind ++ ((ps.take j).map bsT).flatten)) wr' ∧ Below B w wr' ∧ Oth b w wr') (fun i _ => ps.length - (intOf i).toNat)
      case atStart => exact ⟨0, by omega, rfl, by simpa using HW.out, hbl, HO.out⟩
      case round =>
        clear hbl hzr HW HO HH
        obtain ⟨j, hj, rfl, hW, hbl, hob⟩ := hrel
        have hzr := hbl.size
        have hlen := HL.out
        simp only [List.length_append] at hlen
        have hfl : (ps.map bsT).flatten = ((ps.take j).map bsT).flatten ++ ((ps.drop j).map bsT).flatten := by
          rw [← List.flatten_append, ← List.map_append, List.take_append_drop]
        rw [hfl, List.length_append] at hlen
        clear hfl
        by_cases hlt : j < ps.length
        · have hcell := (HP.out.to hgb hob).at_ hlt
          have hd : ((ps.drop j).map bsT).flatten = bsT ps[j] ++ ((ps.drop (j + 1)).map bsT).flatten := by
            rw [List.drop_eq_getElem_cons hlt, List.map_cons, List.flatten_cons]
          rw [hd, List.length_append] at hlen
          have e : l ++ ind ++ ((ps.take j).map bsT).flatten ++ bsT ps[j] = l ++ ind ++ ((ps.take (j + 1)).map bsT).flatten := by
            rw [List.take_add_one, List.getElem?_eq_getElem hlt, Option.toList_some, List.map_append, List.flatten_append, List.append_assoc]
            simp
          have KW := Lib.hid (wr_write B b m E (l ++ ind ++ ((ps.take j).map bsT).flatten) ps[j] wr hW (by simp only [List.length_append]; omega) (by omega))
          rw [e] at KW
          have HO := Lib.hid hob
          clear hW e hlen hd hob
          generalize ps[j] = s at *
          go_wp2_with (go_at_call 89; (with_reducible refine KW.out.mono ?_); rintro e w1 ⟨rfl, h1, hb1, ho1⟩)
          exact ⟨⟨j + 1, by omega, by congr 1, h1, hbl.trans hb1, HO.out.trans ho1⟩, by simp [intOf]; omega⟩
        · obtain rfl : j = ps.length := by omega
          rw [List.take_length] at hW
          have hl2 : (l ++ ind ++ (ps.map bsT).flatten).length + 1 ≤ 140737488355328 := by
            have := HL.out
            simp only [List.length_append, List.length_cons, List.length_nil] at this ⊢
            omega
          have KB := Lib.hid (wr_byte1 B b m E (Lib.byteCells (l ++ ind ++ (ps.map bsT).flatten)) 10 wr hW (by rw [Lib.byteCells_length]; exact hl2) (by omega))
          rw [bytes_one] at KB
          have HO := Lib.hid hob
          have ef : l ++ ind ++ (ps.map bsT).flatten ++ [10] = l ++ (ind ++ (ps.map bsT).flatten ++ [10]) := by simp [List.append_assoc]
          rw [ef] at KB
          clear hW hob hlen hl2 ef
          go_wp2_with (go_at_call 90; (with_reducible refine KB.out.mono ?_); rintro e w1 ⟨rfl, h1, hb1, ho1⟩)
          go_end0
          rw [← HI.out] at h1
          exact ⟨rfl, h1.to, hbl.trans hb1, HO.out.trans ho1⟩
end Go.Proofs.YtoimjcfdiljkjaaGreatDoor
namespace Go.Proofs.YtoimjcfdiljkjaaGreatDoor
open Go.RowKit Go.Sort
theorem WrP.below {B b m : Nat} {E : Rw va.En} {p : Value} {bs : List Value} {w W : World} (h : WrP B b E m p bs w) (hb : Below w.heap.size w W) : WrP B b E m p bs W := by
  have hlt := h.lt
  obtain ⟨hB, v, h1, h2, h3⟩ := h
  exact ⟨hB, v, (hb.block b hlt).trans h1, h2.kept (row := none) (below_grown hb) (by rcases ho : v.ownBlock with _ | q <;> simp), h3⟩
theorem Wr.below {B b m : Nat} {E : Rw va.En} {bs : List Value} {w W : World} (h : Wr B b E m bs w) (hb : Below w.heap.size w W) : Wr B b E m bs W := by
  rcases h with h | h
  · exact .inl (h.below hb)
  · exact .inr (h.below hb)
theorem Oth.below {b : Nat} {w W : World} (hb : Below w.heap.size w W) : Oth b w W := fun k cs t fr a _ _ => (hb.block k (Array.getElem?_eq_some_iff.1 a).1).trans a
theorem wr_lineA (B b m : Nat) (E : Rw va.En) (l : List UInt8) (n c : Nat) (ps : List ByteArray) (vs : Array Value) (w : World) (h : Wr B b E m (Lib.byteCells l) w) (hBw : B ≤ w.heap.size) (hn : n ≤ 140737488355328) (hpl : ps.length ≤ 140737488355328) (hvs : vs = (ps.map Value.string).toArray)
    (hlen : (l ++ linS n (ps.map bsT).flatten).length ≤ 140737488355328) :
    Calls Tryz.prog 50 #[.pointer (some ⟨b, 0, none⟩), .int .i64 (n : Int), .slice (some ⟨w.heap.size, 0, none⟩) ps.length c] (w.alloc (.cells vs 9)) fun e w' => e = .returned (.tuple #[]) ∧ Wr B b E m (Lib.byteCells (l ++ linS n (ps.map bsT).flatten)) w' ∧ Below B w w' ∧ Oth b w w' := by
  subst hvs
  have hb : Below w.heap.size w (w.alloc (.cells (ps.map Value.string).toArray 9)) := bel_box _
  refine (wr_line B b m E l n w.heap.size 0 c ps (w.alloc (.cells (ps.map Value.string).toArray 9)) (h.below hb) (Nat.le_trans hBw hb.size) hn hpl ⟨_, _, heap_alloc_new w _, fun j x hx => ?_⟩ hlen).mono ?_
  · rw [Nat.zero_add]
    simp [hx]
  · rintro e w' ⟨rfl, h1, h2, h3⟩
    exact ⟨rfl, h1, (hb.mono hBw).trans h2, (Oth.below hb).trans h3⟩
set_option maxHeartbeats 2000000 in
set_option maxRecDepth 20000 in
theorem wr_enum (B b m : Nat) (E : Rw va.En) (l : List UInt8) (e : va.En) (w : World) (h : Wr B b E m (Lib.byteCells l) w) (hBw : B ≤ w.heap.size) (hR : RsB w w.heap.size ⟨e.A, e.c, e.tags⟩) (htl : e.tags.length ≤ 17592186044416)
    (hlen : (l ++ linS 0 ([116, 121, 112, 101, 32] ++ bsT e.name ++ [32, 61, 32] ++ Lib.join (e.tags.map bsT) [32, 124, 32] ++ [59])).length ≤ 140737488355328) :
    Calls Tryz.prog 24 #[.pointer (some ⟨b, 0, none⟩), .agg #[.string e.name, .slice e.A e.tags.length e.c]] w fun e' w' => e' = .returned (.tuple #[]) ∧ Wr B b E m (Lib.byteCells (l ++ linS 0 ([116, 121, 112, 101, 32] ++ bsT e.name ++ [32, 61, 32] ++ Lib.join (e.tags.map bsT) [32, 124, 32] ++ [59]))) w' ∧ Below B w w' ∧ Oth b w w' := by
  have hjl : (Lib.join (e.tags.map bsT) [32, 124, 32]).length ≤ 140737488355328 := by
    unfold linS at hlen
    simp only [List.length_append] at hlen
    omega
  have KJ : Hid (∀ W, Below w.heap.size w W → Calls Tryz.prog 51 #[.slice e.A e.tags.length e.c, .string ⟨#[32, 124, 32]⟩] W (Bel (.string (tB (Lib.join (e.tags.map bsT) [32, 124, 32]))) W)) := Lib.hid fun W hb =>
    join_strs ⟨e.A, e.c, e.tags⟩ ⟨#[32, 124, 32]⟩ W (hR.blw hb hb.size).1 htl hjl
  have KL : Hid (∀ W, Below w.heap.size w W → Calls Tryz.prog 50 #[.pointer (some ⟨b, 0, none⟩), .int .i64 0, .slice (some ⟨W.heap.size, 0, none⟩) 5 5] (W.alloc (.cells #[.string ⟨#[116, 121, 112, 101, 32]⟩, .string e.name, .string ⟨#[32, 61, 32]⟩, .string (tB (Lib.join (e.tags.map bsT) [32, 124, 32])), .string ⟨#[59]⟩] 9))
      fun e' w' => e' = .returned (.tuple #[]) ∧ Wr B b E m (Lib.byteCells (l ++ linS 0 ([116, 121, 112, 101, 32] ++ bsT e.name ++ [32, 61, 32] ++ Lib.join (e.tags.map bsT) [32, 124, 32] ++ [59]))) w' ∧ Below B W w' ∧ Oth b W w') := Lib.hid fun W hb => by
    have ef : ([⟨#[116, 121, 112, 101, 32]⟩, e.name, ⟨#[32, 61, 32]⟩, tB (Lib.join (e.tags.map bsT) [32, 124, 32]), ⟨#[59]⟩].map bsT).flatten = [116, 121, 112, 101, 32] ++ bsT e.name ++ [32, 61, 32] ++ Lib.join (e.tags.map bsT) [32, 124, 32] ++ [59] := by
      simp only [List.map_cons, List.map_nil, List.flatten_cons, List.flatten_nil, bsT_tB, List.append_nil]
      simp only [List.append_assoc]
      rfl
    have := wr_lineA B b m E l 0 5 [⟨#[116, 121, 112, 101, 32]⟩, e.name, ⟨#[32, 61, 32]⟩, tB (Lib.join (e.tags.map bsT) [32, 124, 32]), ⟨#[59]⟩] #[.string ⟨#[116, 121, 112, 101, 32]⟩, .string e.name, .string ⟨#[32, 61, 32]⟩, .string (tB (Lib.join (e.tags.map bsT) [32, 124, 32])), .string ⟨#[59]⟩] W (h.below hb) (Nat.le_trans hBw hb.size) (by omega) (by simp) rfl (by rw [ef]; exact hlen)
    rw [ef] at this
    exact this
  have hne : w.heap.size ≠ b := by
    have : b < w.heap.size := by rcases h with h | h <;> exact h.lt
    omega
  clear h hlen hR hjl htl
  generalize tB (Lib.join (e.tags.map bsT) [32, 124, 32]) = jj at *
  generalize l ++ linS 0 ([116, 121, 112, 101, 32] ++ bsT e.name ++ [32, 61, 32] ++ Lib.join (e.tags.map bsT) [32, 124, 32] ++ [59]) = ll at *
  go_enter Tryz.func24, Tryz.ntmps24
  go_wp2
  have s0 : (w.alloc (.cells #[.string e.name, .slice e.A e.tags.length e.c] 73)).cell? ⟨w.heap.size, 0, none⟩ = some (.string e.name) := by simp [go_sem]
  have s1 : (w.alloc (.cells #[.string e.name, .slice e.A e.tags.length e.c] 73)).cell? ⟨w.heap.size, 1, none⟩ = some (.slice e.A e.tags.length e.c) := by simp [go_sem]
  obtain ⟨W0, hW0⟩ : ∃ W0, w.alloc (.cells #[.string e.name, .slice e.A e.tags.length e.c] 73) = W0 := ⟨_, rfl⟩
  have hB0 : Below w.heap.size w W0 := by rw [← hW0]; exact bel_box _
  have hz0 : W0.heap.size = w.heap.size + 1 := by rw [← hW0]; simp
  have hk0 : W0.heap[w.heap.size]? = some (.cells #[.string e.name, .slice e.A e.tags.length e.c] 73 (0, 0)) := by rw [← hW0]; exact heap_alloc_new w _
  rw [hW0] at s0 s1 ⊢
  have HW0 := Lib.hid hW0
  have HZ0 := Lib.hid hz0
  clear hW0 hz0
  go_region_held3 (fun w' => w'.cell? ⟨w.heap.size, 0, none⟩ = some (.string e.name) ∧ w'.cell? ⟨w.heap.size, 1, none⟩ = some (.slice e.A e.tags.length e.c)) (first | exact ⟨s0, s1⟩ | exact ⟨t0, t1⟩ | exact ⟨u0 _, u1 _⟩ | exact ⟨v0, v1⟩)
    (first
      | (go_at_call 51; (with_reducible refine (KJ.out _ ?_).mono ?_); (exact bl); rintro e' w1 ⟨rfl, hb1⟩; have t0 := (hb1.cell (block_lt_of_cell s0)).trans s0; have t1 := (hb1.cell (block_lt_of_cell s1)).trans s1; have hB1 : Below w.heap.size w w1 := bl; have k1 := (hb1.block _ (Array.getElem?_eq_some_iff.1 hk0).1).trans hk0; have u1 : ∀ o, (w1.alloc o).cell? ⟨w.heap.size, 1, none⟩ = some (.slice e.A e.tags.length e.c) := (fun o => ((bel_box (w := w1) o).cell (block_lt_of_cell t1)).trans t1); have u0 : ∀ o, (w1.alloc o).cell? ⟨w.heap.size, 0, none⟩ = some (.string e.name) := (fun o => ((bel_box (w := w1) o).cell (block_lt_of_cell t0)).trans t0))
      | (go_at_call 50; (refine (KL.out _ hB1).mono ?_); rintro e' w2 ⟨rfl, hw2, hb2, ho2⟩; have k2 := ho2 _ _ _ _ k1 hne (by decide); have v0 : w2.cell? ⟨w.heap.size, 0, none⟩ = some (.string e.name) := (by rw [Lib.cell_of_heap k2]; rfl); have v1 : w2.cell? ⟨w.heap.size, 1, none⟩ = some (.slice e.A e.tags.length e.c) := (by rw [Lib.cell_of_heap k2]; rfl)))
  go_wp2
  go_end0
  exact ⟨rfl, hw2, (hB1.mono hBw).trans hb2, (Oth.below hB1).trans ho2⟩
end Go.Proofs.YtoimjcfdiljkjaaGreatDoor
namespace Go.Proofs.YtoimjcfdiljkjaaGreatDoor
open Go.RowKit Go.Sort
theorem Wr.cells {B b m : Nat} {E : Rw va.En} {bs : List Value} {w : World} (h : Wr B b E m bs w) : w.cell? ⟨b, 0, none⟩ = some (.slice E.A E.l.length E.c) ∧ w.cell? ⟨b, 1, none⟩ = some (.map (some m)) := by
  rcases h with ⟨_, v, h, _⟩ | ⟨_, v, h, _⟩
  · exact ⟨by rw [Lib.cell_of_heap h]; rfl, by rw [Lib.cell_of_heap h]; rfl⟩
  · exact ⟨by rw [Lib.cell_of_heap h]; rfl, by rw [Lib.cell_of_heap h]; rfl⟩
def lcsS (es : List va.En) (n : Nat) (l : List Dt) : List UInt8 := if 0 < l.length then linS n ([118, 97, 114, 32] ++ dcsS es l ++ [59]) else []
set_option maxHeartbeats 2000000 in
set_option maxRecDepth 20000 in
theorem wr_locals (w0 : World) (b m : Nat) (E : Rw va.En) (l : List UInt8) (n : Nat) (r : Rw Dt) (w : World) (hs : Std w0) (hE : RsE w0 w0.heap.size E) (hr : RsDs w0 w0.heap.size r) (hl : r.l.length ≤ 17592186044416) (hl2 : ∀ d ∈ r.l, d.ck.l.length ≤ 17592186044416) (hn : n ≤ 140737488355328)
    (hb : Below w0.heap.size w0 w) (h : Wr w0.heap.size b E m (Lib.byteCells l) w) (hlen : (l ++ lcsS E.l n r.l).length ≤ 140737488355328) :
    Calls Tryz.prog 53 #[.pointer (some ⟨b, 0, none⟩), .int .i64 (n : Int), .slice r.A r.l.length r.c] w fun e w' => e = .returned (.tuple #[]) ∧ Wr w0.heap.size b E m (Lib.byteCells (l ++ lcsS E.l n r.l)) w' ∧ Below w0.heap.size w w' ∧ Oth b w w' := by
  have hlr : r.l.length ≤ 9223372036854775807 := by omega
  unfold lcsS at hlen ⊢
  by_cases z0 : 0 < r.l.length
  · rw [if_pos z0] at hlen ⊢
    have q0 : (0 : Int) < (r.l.length : Int) := by omega
    clear z0
    have KD : Hid (∀ W, Below w.heap.size w W → Calls Tryz.prog 52 #[phV E m, .slice r.A r.l.length r.c] W (Bel (.string (tB (dcsS E.l r.l))) W)) := Lib.hid fun W hW => by
      have hb' : Below w0.heap.size w0 W := hb.trans (hW.mono hb.size)
      exact ph_decls E m r W (hs.to hb') (hE.blw hb' hb'.size) (hr.blw hb' hb'.size) hl hl2 (by unfold linS at hlen; simp only [List.length_append] at hlen; omega)
    have KL : Hid (∀ W, Below w.heap.size w W → Calls Tryz.prog 50 #[.pointer (some ⟨b, 0, none⟩), .int .i64 (n : Int), .slice (some ⟨W.heap.size, 0, none⟩) 3 3] (W.alloc (.cells #[.string ⟨#[118, 97, 114, 32]⟩, .string (tB (dcsS E.l r.l)), .string ⟨#[59]⟩] 9))
        fun e w' => e = .returned (.tuple #[]) ∧ Wr w0.heap.size b E m (Lib.byteCells (l ++ linS n ([118, 97, 114, 32] ++ dcsS E.l r.l ++ [59]))) w' ∧ Below w0.heap.size W w' ∧ Oth b W w') := Lib.hid fun W hW => by
      have ef : ([⟨#[118, 97, 114, 32]⟩, tB (dcsS E.l r.l), ⟨#[59]⟩].map bsT).flatten = [118, 97, 114, 32] ++ dcsS E.l r.l ++ [59] := by
        simp only [List.map_cons, List.map_nil, List.flatten_cons, List.flatten_nil, bsT_tB, List.append_nil]
        simp only [List.append_assoc]
        rfl
      have := wr_lineA w0.heap.size b m E l n 3 [⟨#[118, 97, 114, 32]⟩, tB (dcsS E.l r.l), ⟨#[59]⟩] #[.string ⟨#[118, 97, 114, 32]⟩, .string (tB (dcsS E.l r.l)), .string ⟨#[59]⟩] W (h.below hW) (Nat.le_trans hb.size hW.size) hn (by simp) rfl (by rw [ef]; exact hlen)
      rw [ef] at this
      exact this
    have hsz := hb.size
    have s0 := h.cells.1
    have s1 := h.cells.2
    have hrf : Below w.heap.size w w := Below.refl _ _
    clear h hlen hr hl hl2 hs hE hb
    generalize tB (dcsS E.l r.l) = jj at *
    generalize l ++ linS n ([118, 97, 114, 32] ++ dcsS E.l r.l ++ [59]) = ll at *
    go_enter Tryz.func53, Tryz.ntmps53
    go_wp2_with (first
      | (go_at_call 52; (with_reducible refine (KD.out _ ?_).mono ?_); (exact bl); rintro e' w1 ⟨rfl, hb1⟩; have hB1 : Below w.heap.size w w1 := bl)
      | (go_at_call 50; (refine (KL.out _ hB1).mono ?_); rintro e' w2 ⟨rfl, hw2, hb2, ho2⟩))
    go_end0
    exact ⟨rfl, hw2, (hB1.mono hsz).trans hb2, (Oth.below hB1).trans ho2⟩
  · rw [if_neg z0] at hlen ⊢
    have q0 : (r.l.length : Int) ≤ (0 : Int) := by omega
    rw [List.append_nil]
    have HH := Lib.hid h
    clear z0 hlen hr hl hl2 hs hE hb h
    go_enter Tryz.func53, Tryz.ntmps53
    go_wp2
    go_end0
    exact ⟨rfl, HH.out, Below.refl _ _, Oth.refl _ _⟩
end Go.Proofs.YtoimjcfdiljkjaaGreatDoor
namespace Go.Proofs.YtoimjcfdiljkjaaGreatDoor
open Go.RowKit Go.Sort
theorem cell_below {w W : World} (hb : Below w.heap.size w W) {a : Addr} {v : Value} (h : w.cell? a = some v) : W.cell? a = some v := (hb.cell (block_lt_of_cell h)).trans h
def cms1 (es : List va.En) (kw : ByteArray) (x : Xt) : List UInt8 := linS 1 (bsT kw ++ x.tx es ++ [59])
def cmsS (es : List va.En) (kw : ByteArray) (l : List Xt) : List UInt8 := (l.map (cms1 es kw)).flatten
theorem flat_take {α : Type} (f : α → List UInt8) (l : List α) {k : Nat} {x : α} (h : l[k]? = some x) : ((l.take (k + 1)).map f).flatten = ((l.take k).map f).flatten ++ f x := by
  rw [List.take_add_one, h, Option.toList_some, List.map_append, List.flatten_append]
  simp
theorem flat_le {α : Type} (f : α → List UInt8) (l : List α) (k : Nat) : ((l.take k).map f).flatten.length ≤ (l.map f).flatten.length := by
  have : l.map f = (l.take k).map f ++ (l.drop k).map f := by rw [← List.map_append, List.take_append_drop]
  rw [this, List.flatten_append, List.length_append]
  omega
set_option maxHeartbeats 2000000 in
set_option maxRecDepth 20000 in
theorem wr_claims (w0 : World) (b m : Nat) (E : Rw va.En) (l : List UInt8) (kw : ByteArray) (r : Rw Xt) (w : World) (hs : Std w0) (hE : RsE w0 w0.heap.size E) (hM : SymM w0 m) (hr : RsXs w0 w0.heap.size r) (hwf : ∀ x ∈ r.l, ∀ y ∈ x.list, wfX y)
    (hb : Below w0.heap.size w0 w) (h : Wr w0.heap.size b E m (Lib.byteCells l) w) (hlen : (l ++ cmsS E.l kw r.l).length ≤ 140737488355328) :
    Calls Tryz.prog 54 #[.pointer (some ⟨b, 0, none⟩), .string kw, .slice r.A r.l.length r.c] w fun e w' => e = .returned (.tuple #[]) ∧ Wr w0.heap.size b E m (Lib.byteCells (l ++ cmsS E.l kw r.l)) w' ∧ Below w0.heap.size w w' ∧ Oth b w w' := by
  have hlr := hr.1.len
  unfold maxLen at hlr
  have HL := Lib.hid hlen
  have HR := Lib.hid hr
  have HH := Lib.hid h
  have HM := Lib.hid hM
  clear hlen hr h hM
  unfold cmsS at HL ⊢
  go_enter Tryz.func54, Tryz.ntmps54
  go_wp2
  go_loopw [10] (fun i wr => ∃ k : Nat, k ≤ r.l.length ∧ i = .int .i64 (k : Int) ∧ Wr w0.heap.size b E m (Lib.byteCells (l ++ ((r.l.take k).map (cms1 E.l kw)).flatten)) wr ∧ Below w0.heap.size w wr ∧ Oth b w wr) (fun i _ => r.l.length - (intOf i).toNat)
  case atStart => exact ⟨0, by omega, rfl, by simpa using HH.out, Below.refl _ _, Oth.refl _ _⟩
  case round =>
    obtain ⟨k, hk, rfl, hW, hbl, hob⟩ := hrel
    have hb0 : Below w0.heap.size w0 wr := hb.trans hbl
    by_cases hlt : k < r.l.length
    · obtain ⟨ad, y, hA, had, hy, hm, ⟨c0, c1, c2, c3, c4, c5⟩⟩ := (HR.out.blw hb0 hb0.size).1.at_ hlt
      rw [hA]
      have hft := flat_take (cms1 E.l kw) r.l hy
      have hfl := flat_le (cms1 E.l kw) r.l (k + 1)
      have hlen : (l ++ ((r.l.take k).map (cms1 E.l kw)).flatten ++ linS 1 (bsT kw ++ y.tx E.l ++ [59])).length ≤ 140737488355328 := by
        have := HL.out
        rw [hft] at hfl
        unfold cms1 at hfl this ⊢
        simp only [List.length_append] at hfl this ⊢
        omega
      have hn : (1 : Nat) ≤ 140737488355328 := by omega
      have hsz := hb0.size
      have KE : Hid (∀ W, Below wr.heap.size wr W → Calls Tryz.prog 36 #[phV E m, xV y] W (Bel (.string (tB (y.tx E.l))) W)) := Lib.hid fun W hW' => by
        have hb' : Below w0.heap.size w0 W := hb0.trans (hW'.mono hsz)
        exact ph_expr E m y (hwf y hm) W (hs.to hb') (hE.blw hb' hb'.size) (HM.out.to hb') ((HR.out.2 y hm).1.to hb') (by unfold linS at hlen; simp only [List.length_append] at hlen; omega)
      have KL : Hid (∀ W, Below wr.heap.size wr W → Calls Tryz.prog 50 #[.pointer (some ⟨b, 0, none⟩), .int .i64 1, .slice (some ⟨W.heap.size, 0, none⟩) 3 3] (W.alloc (.cells #[.string kw, .string (tB (y.tx E.l)), .string ⟨#[59]⟩] 9))
          fun e w' => e = .returned (.tuple #[]) ∧ Wr w0.heap.size b E m (Lib.byteCells (l ++ ((r.l.take k).map (cms1 E.l kw)).flatten ++ linS 1 (bsT kw ++ y.tx E.l ++ [59]))) w' ∧ Below w0.heap.size W w' ∧ Oth b W w') := Lib.hid fun W hW9 => by
        have ef : (([kw, (tB (y.tx E.l)), ⟨#[59]⟩] : List ByteArray).map bsT).flatten = bsT kw ++ y.tx E.l ++ [59] := by
          simp only [List.map_cons, List.map_nil, List.flatten_cons, List.flatten_nil, bsT_tB, List.append_nil]
          try simp only [List.append_assoc]
          try rfl
        have := wr_lineA w0.heap.size b m E (l ++ ((r.l.take k).map (cms1 E.l kw)).flatten) 1 3 [kw, (tB (y.tx E.l)), ⟨#[59]⟩] #[.string kw, .string (tB (y.tx E.l)), .string ⟨#[59]⟩] W (hW.below hW9) (Nat.le_trans hsz hW9.size) hn (by simp) rfl (by rw [ef]; exact hlen)
        rw [ef] at this
        exact this
      have hnx : Hid (l ++ ((r.l.take k).map (cms1 E.l kw)).flatten ++ linS 1 (bsT kw ++ y.tx E.l ++ [59]) = l ++ ((r.l.take (k + 1)).map (cms1 E.l kw)).flatten) := Lib.hid (by rw [hft, List.append_assoc]; rfl)
      have hne : wr.heap.size ≠ b := by
        have : b < wr.heap.size := by rcases hW with h | h <;> exact h.lt
        omega
      have s0 := hW.cells.1
      have s1 := hW.cells.2
      have HO := Lib.hid hob
      clear hA hy hm hft hfl hlen hn hW hob
      generalize tB (y.tx E.l) = jj at *
      generalize l ++ ((r.l.take k).map (cms1 E.l kw)).flatten ++ linS 1 (bsT kw ++ y.tx E.l ++ [59]) = ll at *
      simp only [xV] at KE
      go_wp2
      obtain ⟨WB, hWB⟩ : ∃ WB, wr.alloc (.cells #[.int .i64 y.k, .int .i64 y.op, .int .i64 y.t, .int .i64 y.v, .string y.nm, .slice y.A y.ar.length y.c] 33) = WB := ⟨_, rfl⟩
      have hBB : Below wr.heap.size wr WB := by rw [← hWB]; exact bel_box _
      have kB : WB.heap[wr.heap.size]? = some (.cells #[.int .i64 y.k, .int .i64 y.op, .int .i64 y.t, .int .i64 y.v, .string y.nm, .slice y.A y.ar.length y.c] 33 (0, 0)) := by rw [← hWB]; exact heap_alloc_new wr _
      have s0' := cell_below hBB s0
      have s1' := cell_below hBB s1
      have x0 : WB.cell? ⟨wr.heap.size, 0, none⟩ = some (.int .i64 y.k) := by rw [Lib.cell_of_heap kB]; rfl
      have x1 : WB.cell? ⟨wr.heap.size, 1, none⟩ = some (.int .i64 y.op) := by rw [Lib.cell_of_heap kB]; rfl
      have x2 : WB.cell? ⟨wr.heap.size, 2, none⟩ = some (.int .i64 y.t) := by rw [Lib.cell_of_heap kB]; rfl
      have x3 : WB.cell? ⟨wr.heap.size, 3, none⟩ = some (.int .i64 y.v) := by rw [Lib.cell_of_heap kB]; rfl
      have x4 : WB.cell? ⟨wr.heap.size, 4, none⟩ = some (.string y.nm) := by rw [Lib.cell_of_heap kB]; rfl
      have x5 : WB.cell? ⟨wr.heap.size, 5, none⟩ = some (.slice y.A y.ar.length y.c) := by rw [Lib.cell_of_heap kB]; rfl
      rw [hWB]
      clear hWB
      go_region_held3 (fun w' => w'.cell? ⟨b, 0, none⟩ = some (.slice E.A E.l.length E.c) ∧ w'.cell? ⟨b, 1, none⟩ = some (.map (some m)) ∧ w'.cell? ⟨wr.heap.size, 0, none⟩ = some (.int .i64 y.k) ∧ w'.cell? ⟨wr.heap.size, 1, none⟩ = some (.int .i64 y.op) ∧ w'.cell? ⟨wr.heap.size, 2, none⟩ = some (.int .i64 y.t) ∧ w'.cell? ⟨wr.heap.size, 3, none⟩ = some (.int .i64 y.v) ∧ w'.cell? ⟨wr.heap.size, 4, none⟩ = some (.string y.nm) ∧ w'.cell? ⟨wr.heap.size, 5, none⟩ = some (.slice y.A y.ar.length y.c)) (first | exact ⟨s0', s1', x0, x1, x2, x3, x4, x5⟩ | exact ⟨cell_below hX1 s0', cell_below hX1 s1', cell_below hX1 x0, cell_below hX1 x1, cell_below hX1 x2, cell_below hX1 x3, cell_below hX1 x4, cell_below hX1 x5⟩ | exact ⟨cell_below (bel_alloc hX1 _) s0', cell_below (bel_alloc hX1 _) s1', cell_below (bel_alloc hX1 _) x0, cell_below (bel_alloc hX1 _) x1, cell_below (bel_alloc hX1 _) x2, cell_below (bel_alloc hX1 _) x3, cell_below (bel_alloc hX1 _) x4, cell_below (bel_alloc hX1 _) x5⟩ | exact ⟨v0, v1, y0, y1, y2, y3, y4, y5⟩)
        (first
          | (go_at_call 36; (with_reducible refine (KE.out _ ?_).mono ?_); (exact bl); rintro e' w1 ⟨rfl, hb1⟩; have hX1 : Below WB.heap.size WB w1 := bl; have hB1 : Below wr.heap.size wr w1 := hBB.trans (hX1.mono hBB.size); have kC := (hX1.block _ (Array.getElem?_eq_some_iff.1 kB).1).trans kB)
          | (go_at_call 50; (refine (KL.out _ hB1).mono ?_); rintro e' w2 ⟨rfl, hw2, hb2, ho2⟩; have v0 := hw2.cells.1; have v1 := hw2.cells.2; have kD := ho2 _ _ _ _ kC hne (by decide); have y0 : w2.cell? ⟨wr.heap.size, 0, none⟩ = some (.int .i64 y.k) := (by rw [Lib.cell_of_heap kD]; rfl); have y1 : w2.cell? ⟨wr.heap.size, 1, none⟩ = some (.int .i64 y.op) := (by rw [Lib.cell_of_heap kD]; rfl); have y2 : w2.cell? ⟨wr.heap.size, 2, none⟩ = some (.int .i64 y.t) := (by rw [Lib.cell_of_heap kD]; rfl); have y3 : w2.cell? ⟨wr.heap.size, 3, none⟩ = some (.int .i64 y.v) := (by rw [Lib.cell_of_heap kD]; rfl); have y4 : w2.cell? ⟨wr.heap.size, 4, none⟩ = some (.string y.nm) := (by rw [Lib.cell_of_heap kD]; rfl); have y5 : w2.cell? ⟨wr.heap.size, 5, none⟩ = some (.slice y.A y.ar.length y.c) := (by rw [Lib.cell_of_heap kD]; rfl)))
      go_wp2
      rw [hnx.out] at hw2
      exact ⟨⟨k + 1, by omega, by congr 1, hw2, (hbl.trans (hB1.mono hsz)).trans hb2, (HO.out.trans (Oth.below hB1)).trans ho2⟩, by simp [intOf]; omega⟩
    · obtain rfl : k = r.l.length := by omega
      rw [List.take_length] at hW
      have HW := Lib.hid hW
      have HO := Lib.hid hob
      clear hW hob
      go_wp2
      go_end0
      exact ⟨rfl, HW.out, hbl, HO.out⟩
end Go.Proofs.YtoimjcfdiljkjaaGreatDoor
namespace Go.Proofs.YtoimjcfdiljkjaaGreatDoor
open Go.RowKit Go.Sort
def eq1S (es : List va.En) (n : Nat) (q : Qt) : List UInt8 := linS n (eqnS es q)
def wfQ (q : Qt) : Prop := q.lf.l.length ≤ 17592186044416 ∧ ∀ y ∈ q.r.list, wfX y
set_option maxHeartbeats 2000000 in
set_option maxRecDepth 20000 in
theorem wr_body (w0 : World) (b m : Nat) (E : Rw va.En) (l : List UInt8) (n : Nat) (qs : Rw Qt) (au : Rw (Rw St)) (TA : Rw St → List UInt8) (w : World) (hs : Std w0) (hE : RsE w0 w0.heap.size E) (hM : SymM w0 m) (hr : RsQs w0 w0.heap.size qs) (hwf : ∀ q ∈ qs.l, wfQ q) (hn : n ≤ 140737488355328)
    (ha : RdR w0 w0.heap.size 1 AC au)
    (KA : Hid (∀ a ∈ au.l, ∀ (l' : List UInt8) (W : World), Below w0.heap.size w0 W → Wr w0.heap.size b E m (Lib.byteCells l') W → (l' ++ TA a).length ≤ 140737488355328 → Calls Tryz.prog 95 #[.pointer (some ⟨b, 0, none⟩), .int .i64 (n : Int), aV a] W (fun e w' => e = .returned (.tuple #[]) ∧ Wr w0.heap.size b E m (Lib.byteCells (l' ++ TA a)) w' ∧ Below w0.heap.size W w' ∧ Oth b W w')))
    (hb : Below w0.heap.size w0 w) (h : Wr w0.heap.size b E m (Lib.byteCells l) w) (hlen : (l ++ (qs.l.map (eq1S E.l n)).flatten ++ (au.l.map TA).flatten).length ≤ 140737488355328) :
    Calls Tryz.prog 55 #[.pointer (some ⟨b, 0, none⟩), .int .i64 (n : Int), .slice qs.A qs.l.length qs.c, .slice au.A au.l.length au.c] w (fun e w' => e = .returned (.tuple #[]) ∧ Wr w0.heap.size b E m (Lib.byteCells (l ++ (qs.l.map (eq1S E.l n)).flatten ++ (au.l.map TA).flatten)) w' ∧ Below w0.heap.size w w' ∧ Oth b w w') := by
  have hlr := hr.1.len
  have hla := ha.len
  unfold maxLen at hlr hla
  have HL := Lib.hid hlen
  have HR := Lib.hid hr
  have HA := Lib.hid ha
  have HH := Lib.hid h
  have HM := Lib.hid hM
  clear hlen hr h hM ha
  go_enter Tryz.func55, Tryz.ntmps55
  go_wp2
  go_loopw [14] (fun i wr => ∃ k : Nat, k ≤ qs.l.length ∧ i = .int .i64 (k : Int) ∧ Wr w0.heap.size b E m (Lib.byteCells (l ++ ((qs.l.take k).map (eq1S E.l n)).flatten)) wr ∧ Below w0.heap.size w wr ∧ Oth b w wr) (fun i _ => qs.l.length - (intOf i).toNat)
  case atStart => exact ⟨0, by omega, rfl, by simpa using HH.out, Below.refl _ _, Oth.refl _ _⟩
  case round =>
    obtain ⟨k, hk, rfl, hW, hbl, hob⟩ := hrel
    have hb0 : Below w0.heap.size w0 wr := hb.trans hbl
    by_cases hlt : k < qs.l.length
    · obtain ⟨ad, y, hA, had, hy, hm, ⟨c0, c1, c2, c3, c4, c5, c6⟩⟩ := (HR.out.blw hb0 hb0.size).1.at_ hlt
      rw [hA]
      have hft := flat_take (eq1S E.l n) qs.l hy
      have hfl := flat_le (eq1S E.l n) qs.l (k + 1)
      have hlen : (l ++ ((qs.l.take k).map (eq1S E.l n)).flatten ++ linS n (eqnS E.l y)).length ≤ 140737488355328 := by
        have := HL.out
        rw [hft] at hfl
        unfold eq1S at hfl this ⊢
        simp only [List.length_append] at hfl this ⊢
        omega
      have hsz := hb0.size
      have KE : Hid (∀ W, Below wr.heap.size wr W → Calls Tryz.prog 94 #[phV E m, qV y] W (Bel (.string (tB (eqnS E.l y))) W)) := Lib.hid fun W hW' => by
        have hb' : Below w0.heap.size w0 W := hb0.trans (hW'.mono hsz)
        exact ph_equation E m y W (hs.to hb') (hE.blw hb' hb'.size) (HM.out.to hb') ⟨(HR.out.2 y hm).1.blw hb' hb'.size, (HR.out.2 y hm).2.blw hb' hb'.size⟩ (hwf y hm).1 (hwf y hm).2 (by unfold linS at hlen; simp only [List.length_append] at hlen; omega)
      have KL : Hid (∀ W, Below wr.heap.size wr W → Calls Tryz.prog 50 #[.pointer (some ⟨b, 0, none⟩), .int .i64 n, .slice (some ⟨W.heap.size, 0, none⟩) 1 1] (W.alloc (.cells #[.string (tB (eqnS E.l y))] 9))
          fun e w' => e = .returned (.tuple #[]) ∧ Wr w0.heap.size b E m (Lib.byteCells (l ++ ((qs.l.take k).map (eq1S E.l n)).flatten ++ linS n (eqnS E.l y))) w' ∧ Below w0.heap.size W w' ∧ Oth b W w') := Lib.hid fun W hW9 => by
        have ef : (([(tB (eqnS E.l y))] : List ByteArray).map bsT).flatten = eqnS E.l y := by
          simp only [List.map_cons, List.map_nil, List.flatten_cons, List.flatten_nil, bsT_tB, List.append_nil]
          try simp only [List.append_assoc]
          try rfl
        have := wr_lineA w0.heap.size b m E (l ++ ((qs.l.take k).map (eq1S E.l n)).flatten) n 1 [(tB (eqnS E.l y))] #[.string (tB (eqnS E.l y))] W (hW.below hW9) (Nat.le_trans hsz hW9.size) hn (by simp) rfl (by rw [ef]; exact hlen)
        rw [ef] at this
        exact this
      have hnx : Hid (l ++ ((qs.l.take k).map (eq1S E.l n)).flatten ++ linS n (eqnS E.l y) = l ++ ((qs.l.take (k + 1)).map (eq1S E.l n)).flatten) := Lib.hid (by rw [hft, List.append_assoc]; rfl)
      have hne : wr.heap.size ≠ b := by
        have : b < wr.heap.size := by rcases hW with h | h <;> exact h.lt
        omega
      have s0 := hW.cells.1
      have s1 := hW.cells.2
      have HO := Lib.hid hob
      clear hA hy hm hft hfl hlen hW hob KA
      generalize tB (eqnS E.l y) = jj at *
      generalize l ++ ((qs.l.take k).map (eq1S E.l n)).flatten ++ linS n (eqnS E.l y) = ll at *
      go_wp2
      obtain ⟨WB, hWB⟩ : ∃ WB, wr.alloc (.cells #[.slice y.lf.A y.lf.l.length y.lf.c, .int .i64 y.r.k, .int .i64 y.r.op, .int .i64 y.r.t, .int .i64 y.r.v, .string y.r.nm, .slice y.r.A y.r.ar.length y.r.c] 54) = WB := ⟨_, rfl⟩
      have hBB : Below wr.heap.size wr WB := by rw [← hWB]; exact bel_box _
      have kB : WB.heap[wr.heap.size]? = some (.cells #[.slice y.lf.A y.lf.l.length y.lf.c, .int .i64 y.r.k, .int .i64 y.r.op, .int .i64 y.r.t, .int .i64 y.r.v, .string y.r.nm, .slice y.r.A y.r.ar.length y.r.c] 54 (0, 0)) := by rw [← hWB]; exact heap_alloc_new wr _
      have s0' := cell_below hBB s0
      have s1' := cell_below hBB s1
      have x0 : WB.cell? ⟨wr.heap.size, 0, none⟩ = some (.slice y.lf.A y.lf.l.length y.lf.c) := by rw [Lib.cell_of_heap kB]; rfl
      have x1 : WB.cell? ⟨wr.heap.size, 1, none⟩ = some (.int .i64 y.r.k) := by rw [Lib.cell_of_heap kB]; rfl
      have x2 : WB.cell? ⟨wr.heap.size, 2, none⟩ = some (.int .i64 y.r.op) := by rw [Lib.cell_of_heap kB]; rfl
      have x3 : WB.cell? ⟨wr.heap.size, 3, none⟩ = some (.int .i64 y.r.t) := by rw [Lib.cell_of_heap kB]; rfl
      have x4 : WB.cell? ⟨wr.heap.size, 4, none⟩ = some (.int .i64 y.r.v) := by rw [Lib.cell_of_heap kB]; rfl
      have x5 : WB.cell? ⟨wr.heap.size, 5, none⟩ = some (.string y.r.nm) := by rw [Lib.cell_of_heap kB]; rfl
      have x6 : WB.cell? ⟨wr.heap.size, 6, none⟩ = some (.slice y.r.A y.r.ar.length y.r.c) := by rw [Lib.cell_of_heap kB]; rfl
      rw [hWB]
      clear hWB
      go_region_held3 (fun w' => w'.cell? ⟨b, 0, none⟩ = some (.slice E.A E.l.length E.c) ∧ w'.cell? ⟨b, 1, none⟩ = some (.map (some m)) ∧ w'.cell? ⟨wr.heap.size, 0, none⟩ = some (.slice y.lf.A y.lf.l.length y.lf.c) ∧ w'.cell? ⟨wr.heap.size, 1, none⟩ = some (.int .i64 y.r.k) ∧ w'.cell? ⟨wr.heap.size, 2, none⟩ = some (.int .i64 y.r.op) ∧ w'.cell? ⟨wr.heap.size, 3, none⟩ = some (.int .i64 y.r.t) ∧ w'.cell? ⟨wr.heap.size, 4, none⟩ = some (.int .i64 y.r.v) ∧ w'.cell? ⟨wr.heap.size, 5, none⟩ = some (.string y.r.nm) ∧ w'.cell? ⟨wr.heap.size, 6, none⟩ = some (.slice y.r.A y.r.ar.length y.r.c)) (first | exact ⟨s0', s1', x0, x1, x2, x3, x4, x5, x6⟩ | exact ⟨cell_below hX1 s0', cell_below hX1 s1', cell_below hX1 x0, cell_below hX1 x1, cell_below hX1 x2, cell_below hX1 x3, cell_below hX1 x4, cell_below hX1 x5, cell_below hX1 x6⟩ | exact ⟨cell_below (bel_alloc hX1 _) s0', cell_below (bel_alloc hX1 _) s1', cell_below (bel_alloc hX1 _) x0, cell_below (bel_alloc hX1 _) x1, cell_below (bel_alloc hX1 _) x2, cell_below (bel_alloc hX1 _) x3, cell_below (bel_alloc hX1 _) x4, cell_below (bel_alloc hX1 _) x5, cell_below (bel_alloc hX1 _) x6⟩ | exact ⟨v0, v1, y0, y1, y2, y3, y4, y5, y6⟩)
        (first
          | (go_at_call 94; (with_reducible refine (KE.out _ ?_).mono ?_); (exact bl); rintro e' w1 ⟨rfl, hb1⟩; have hX1 : Below WB.heap.size WB w1 := bl; have hB1 : Below wr.heap.size wr w1 := hBB.trans (hX1.mono hBB.size); have kC := (hX1.block _ (Array.getElem?_eq_some_iff.1 kB).1).trans kB)
          | (go_at_call 50; (refine (KL.out _ hB1).mono ?_); rintro e' w2 ⟨rfl, hw2, hb2, ho2⟩; have v0 := hw2.cells.1; have v1 := hw2.cells.2; have kD := ho2 _ _ _ _ kC hne (by decide); have y0 : w2.cell? ⟨wr.heap.size, 0, none⟩ = some (.slice y.lf.A y.lf.l.length y.lf.c) := (by rw [Lib.cell_of_heap kD]; rfl); have y1 : w2.cell? ⟨wr.heap.size, 1, none⟩ = some (.int .i64 y.r.k) := (by rw [Lib.cell_of_heap kD]; rfl); have y2 : w2.cell? ⟨wr.heap.size, 2, none⟩ = some (.int .i64 y.r.op) := (by rw [Lib.cell_of_heap kD]; rfl); have y3 : w2.cell? ⟨wr.heap.size, 3, none⟩ = some (.int .i64 y.r.t) := (by rw [Lib.cell_of_heap kD]; rfl); have y4 : w2.cell? ⟨wr.heap.size, 4, none⟩ = some (.int .i64 y.r.v) := (by rw [Lib.cell_of_heap kD]; rfl); have y5 : w2.cell? ⟨wr.heap.size, 5, none⟩ = some (.string y.r.nm) := (by rw [Lib.cell_of_heap kD]; rfl); have y6 : w2.cell? ⟨wr.heap.size, 6, none⟩ = some (.slice y.r.A y.r.ar.length y.r.c) := (by rw [Lib.cell_of_heap kD]; rfl)))
      go_wp2
      rw [hnx.out] at hw2
      exact ⟨⟨k + 1, by omega, by congr 1, hw2, (hbl.trans (hB1.mono hsz)).trans hb2, (HO.out.trans (Oth.below hB1)).trans ho2⟩, by simp [intOf]; omega⟩
    · obtain rfl : k = qs.l.length := by omega
      rw [List.take_length] at hW
      have HW := Lib.hid hW
      have HO := Lib.hid hob
      clear hW hob
      generalize hl1 : l ++ (qs.l.map (eq1S E.l n)).flatten = l1 at *
      have HI1 := Lib.hid hl1
      clear hl1
      go_wp2
      go_loopw [31] (fun i wr' => ∃ j : Nat, j ≤ au.l.length ∧ i = .int .i64 (j : Int) ∧ Wr w0.heap.size b E m (Lib.byteCells (l1 ++ ((au.l.take j).map TA).flatten)) wr' ∧ Below w0.heap.size w wr' ∧ Oth b w wr') (fun i _ => au.l.length - (intOf i).toNat)
      case atStart => exact ⟨0, by omega, rfl, by simpa using HW.out, hbl, HO.out⟩
      case round =>
        clear hbl hb0 HW HO HH
        obtain ⟨j, hj, rfl, hW, hbl, hob⟩ := hrel
        have hb0 : Below w0.heap.size w0 wr := hb.trans hbl
        by_cases hlt : j < au.l.length
        · obtain ⟨ad, y, hA, had, hy, hm, c0⟩ := (HA.out.blw oneB_A hb0 hb0.size).at_ hlt
          unfold AC at c0
          rw [Nat.mul_one] at c0
          rw [hA]
          have hft := flat_take TA au.l hy
          have hfl := flat_le TA au.l (j + 1)
          have KY := Lib.hid (KA.out y hm (l1 ++ ((au.l.take j).map TA).flatten))
          have hlen : (l1 ++ ((au.l.take j).map TA).flatten ++ TA y).length ≤ 140737488355328 := by
            have := HL.out
            rw [hft] at hfl
            simp only [List.length_append] at hfl this ⊢
            omega
          have hWW : ∀ W, Below wr.heap.size wr W → Wr w0.heap.size b E m (Lib.byteCells (l1 ++ ((au.l.take j).map TA).flatten)) W := fun W hW' => hW.below hW'
          have HWW := Lib.hid hWW
          have hnx : Hid (l1 ++ ((au.l.take j).map TA).flatten ++ TA y = l1 ++ ((au.l.take (j + 1)).map TA).flatten) := Lib.hid (by rw [hft, List.append_assoc])
          have HO := Lib.hid hob
          have hsz := hb0.size
          clear hA hy hm hft hfl hW hob KA hWW
          go_wp2_with (go_at_call 95; (refine (KY.out _ (hb0.trans (Below.mono (bel_box _) hsz)) (HWW.out _ (bel_box _)) hlen).mono ?_); rintro e' w2 ⟨rfl, hw2, hb2, ho2⟩)
          rw [hnx.out] at hw2
          exact ⟨⟨j + 1, by omega, by congr 1, hw2, (hbl.trans (Below.mono (bel_box _) hsz)).trans hb2, (HO.out.trans (Oth.alloc b _ _)).trans ho2⟩, by simp [intOf]; omega⟩
        · obtain rfl : j = au.l.length := by omega
          rw [List.take_length] at hW
          have HW := Lib.hid hW
          have HO := Lib.hid hob
          clear hW hob
          go_wp2
          go_end0
          have hWf := HW.out
          rw [← HI1.out] at hWf
          exact ⟨rfl, hWf, hbl, HO.out⟩
end Go.Proofs.YtoimjcfdiljkjaaGreatDoor
namespace Go.Proofs.YtoimjcfdiljkjaaGreatDoor
open Go.RowKit Go.Sort
set_option maxHeartbeats 2000000 in
set_option maxRecDepth 20000 in
theorem wr_automaton (w0 : World) (b m : Nat) (E : Rw va.En) (l : List UInt8) (n : Nat) (a : Rw St) (TS : St → List UInt8) (w : World) (hn : n ≤ 140737488355328)
    (ha : RdR w0 w0.heap.size 6 SC a)
    (KS : Hid (∀ s ∈ a.l, ∀ (l' : List UInt8) (W : World), Below w0.heap.size w0 W → Wr w0.heap.size b E m (Lib.byteCells l') W → (l' ++ TS s).length ≤ 140737488355328 → Calls Tryz.prog 127 #[.pointer (some ⟨b, 0, none⟩), .int .i64 ((n : Int) + 1), sV s, .slice a.A a.l.length a.c] W (fun e w' => e = .returned (.tuple #[]) ∧ Wr w0.heap.size b E m (Lib.byteCells (l' ++ TS s)) w' ∧ Below w0.heap.size W w' ∧ Oth b W w')))
    (hb : Below w0.heap.size w0 w) (h : Wr w0.heap.size b E m (Lib.byteCells l) w) (hlen9 : (l ++ linS n [97, 117, 116, 111, 109, 97, 116, 111, 110] ++ (a.l.map TS).flatten ++ linS n [101, 110, 100]).length ≤ 140737488355328) :
    Calls Tryz.prog 95 #[.pointer (some ⟨b, 0, none⟩), .int .i64 (n : Int), aV a] w (fun e w' => e = .returned (.tuple #[]) ∧ Wr w0.heap.size b E m (Lib.byteCells (l ++ linS n [97, 117, 116, 111, 109, 97, 116, 111, 110] ++ (a.l.map TS).flatten ++ linS n [101, 110, 100])) w' ∧ Below w0.heap.size w w' ∧ Oth b w w') := by
  have hla := ha.len
  unfold maxLen at hla
  have HL := Lib.hid hlen9
  have HA := Lib.hid ha
  have hsz := hb.size
  have hn64 : (n : Int) + 1 ≤ 9223372036854775807 := by omega
  have hlen : (l ++ linS n [97, 117, 116, 111, 109, 97, 116, 111, 110]).length ≤ 140737488355328 := by
    simp only [List.length_append] at hlen9 ⊢
    omega
  have K1 : Hid (∀ W, Below w.heap.size w W → Calls Tryz.prog 50 #[.pointer (some ⟨b, 0, none⟩), .int .i64 n, .slice (some ⟨W.heap.size, 0, none⟩) 1 1] (W.alloc (.cells #[.string ⟨#[97, 117, 116, 111, 109, 97, 116, 111, 110]⟩] 9))
      fun e w' => e = .returned (.tuple #[]) ∧ Wr w0.heap.size b E m (Lib.byteCells (l ++ linS n ([97, 117, 116, 111, 109, 97, 116, 111, 110]))) w' ∧ Below w0.heap.size W w' ∧ Oth b W w') := Lib.hid fun W hW9 => by
    have ef : (([⟨#[97, 117, 116, 111, 109, 97, 116, 111, 110]⟩] : List ByteArray).map bsT).flatten = [97, 117, 116, 111, 109, 97, 116, 111, 110] := by
      simp only [List.map_cons, List.map_nil, List.flatten_cons, List.flatten_nil, bsT_tB, List.append_nil]
      try simp only [List.append_assoc]
      try rfl
    have := wr_lineA w0.heap.size b m E (l) n 1 [⟨#[97, 117, 116, 111, 109, 97, 116, 111, 110]⟩] #[.string ⟨#[97, 117, 116, 111, 109, 97, 116, 111, 110]⟩] W (h.below hW9) (Nat.le_trans hsz hW9.size) hn (by simp) rfl (by rw [ef]; exact hlen)
    rw [ef] at this
    exact this
  have hne : w.heap.size ≠ b := by
    have : b < w.heap.size := by rcases h with h | h <;> exact h.lt
    omega
  have kB : (w.alloc (.cells #[.slice a.A a.l.length a.c] 92)).heap[w.heap.size]? = some (.cells #[.slice a.A a.l.length a.c] 92 (0, 0)) := heap_alloc_new w _
  have hB0 : Below w.heap.size w (w.alloc (.cells #[.slice a.A a.l.length a.c] 92)) := bel_box _
  have K2 := K1.out _ hB0
  rw [World.size_alloc] at K2
  have KF := Lib.hid K2
  clear hlen9 ha h hlen K2 K1
  go_enter Tryz.func95, Tryz.ntmps95
  go_wp2_with (go_at_call 50; (refine KF.out.mono ?_); rintro e' w2 ⟨rfl, hw2, hb2, ho2⟩; have kC := ho2 _ _ _ _ kB hne (by decide); have c0 : w2.cell? ⟨w.heap.size, 0, none⟩ = some (.slice a.A a.l.length a.c) := (by rw [Lib.cell_of_heap kC]; rfl))
  have hbw : Below w0.heap.size w w2 := (hB0.mono hsz).trans hb2
  have hoo : Oth b w w2 := (Oth.below hB0).trans ho2
  have HC := Lib.hid kC
  have HW := Lib.hid hw2
  have HO := Lib.hid hoo
  clear kC hw2 hoo ho2 hb2 KF kB c0
  go_loopw [15] (fun i wr => ∃ k : Nat, k ≤ a.l.length ∧ i = .int .i64 (k : Int) ∧ Wr w0.heap.size b E m (Lib.byteCells (l ++ linS n [97, 117, 116, 111, 109, 97, 116, 111, 110] ++ ((a.l.take k).map TS).flatten)) wr ∧ Below w0.heap.size w wr ∧ Oth b w2 wr) (fun i _ => a.l.length - (intOf i).toNat)
  case atStart => exact ⟨0, by omega, rfl, by simpa using HW.out, hbw, Oth.refl _ _⟩
  case round =>
    clear HW
    obtain ⟨k, hk, rfl, hW, hbl, hob⟩ := hrel
    have hb0 : Below w0.heap.size w0 wr := hb.trans hbl
    have kC := hob _ _ _ _ HC.out hne (by decide)
    have c0 : wr.cell? ⟨w.heap.size, 0, none⟩ = some (.slice a.A a.l.length a.c) := by rw [Lib.cell_of_heap kC]; rfl
    have hszr := hb0.size
    have hzw : w.heap.size < wr.heap.size := (Array.getElem?_eq_some_iff.1 kC).1
    have HO2 := Lib.hid (HO.out.trans hob)
    have HO3 := Lib.hid hob
    clear kC hob
    by_cases hlt : k < a.l.length
    · obtain ⟨ad, y, hA, had, hy, hm, ⟨s0, s1, s2, s3, s4, s5⟩⟩ := (HA.out.blw oneB_S hb0 hb0.size).at_ hlt
      have hft := flat_take TS a.l hy
      have hfl := flat_le TS a.l (k + 1)
      have hlen : (l ++ linS n [97, 117, 116, 111, 109, 97, 116, 111, 110] ++ ((a.l.take k).map TS).flatten ++ TS y).length ≤ 140737488355328 := by
        have := HL.out
        rw [hft] at hfl
        simp only [List.length_append] at hfl this ⊢
        omega
      have KY := Lib.hid (KS.out y hm (l ++ linS n [97, 117, 116, 111, 109, 97, 116, 111, 110] ++ ((a.l.take k).map TS).flatten))
      have HWW := Lib.hid (fun W (hW' : Below wr.heap.size wr W) => hW.below hW')
      have hnx : Hid (l ++ linS n [97, 117, 116, 111, 109, 97, 116, 111, 110] ++ ((a.l.take k).map TS).flatten ++ TS y = l ++ linS n [97, 117, 116, 111, 109, 97, 116, 111, 110] ++ ((a.l.take (k + 1)).map TS).flatten) := Lib.hid (by rw [hft]; simp only [List.append_assoc])
      rw [hA] at c0 KY ⊢
      clear hA hy hm hft hfl hW KS
      go_wp2_with (go_at_call 127; (refine (KY.out _ (hb0.trans (Below.mono (bel_box _) hszr)) (HWW.out _ (bel_box _)) hlen).mono ?_); rintro e' w3 ⟨rfl, hw3, hb3, ho3⟩)
      rw [hnx.out] at hw3
      exact ⟨⟨k + 1, by omega, by congr 1, hw3, (hbl.trans (Below.mono (bel_box _) hszr)).trans hb3, (HO3.out.trans (Oth.alloc b _ _)).trans ho3⟩, by simp [intOf]; omega⟩
    · obtain rfl : k = a.l.length := by omega
      rw [List.take_length] at hW
      have hlen : (l ++ linS n [97, 117, 116, 111, 109, 97, 116, 111, 110] ++ (a.l.map TS).flatten ++ linS n ([101, 110, 100])).length ≤ 140737488355328 := HL.out
      have K3 : Hid (∀ W, Below wr.heap.size wr W → Calls Tryz.prog 50 #[.pointer (some ⟨b, 0, none⟩), .int .i64 n, .slice (some ⟨W.heap.size, 0, none⟩) 1 1] (W.alloc (.cells #[.string ⟨#[101, 110, 100]⟩] 9))
          fun e w' => e = .returned (.tuple #[]) ∧ Wr w0.heap.size b E m (Lib.byteCells (l ++ linS n [97, 117, 116, 111, 109, 97, 116, 111, 110] ++ (a.l.map TS).flatten ++ linS n ([101, 110, 100]))) w' ∧ Below w0.heap.size W w' ∧ Oth b W w') := Lib.hid fun W hW9 => by
        have ef : (([⟨#[101, 110, 100]⟩] : List ByteArray).map bsT).flatten = [101, 110, 100] := by
          simp only [List.map_cons, List.map_nil, List.flatten_cons, List.flatten_nil, bsT_tB, List.append_nil]
          try simp only [List.append_assoc]
          try rfl
        have := wr_lineA w0.heap.size b m E (l ++ linS n [97, 117, 116, 111, 109, 97, 116, 111, 110] ++ (a.l.map TS).flatten) n 1 [⟨#[101, 110, 100]⟩] #[.string ⟨#[101, 110, 100]⟩] W (hW.below hW9) (Nat.le_trans hszr hW9.size) hn (by simp) rfl (by rw [ef]; exact hlen)
        rw [ef] at this
        exact this
      have KE := Lib.hid (K3.out wr (Below.refl _ _))
      clear hlen K3 hW KS
      go_wp2_with (go_at_call 50; (refine KE.out.mono ?_); rintro e' w3 ⟨rfl, hw3, hb3, ho3⟩)
      go_end0
      exact ⟨rfl, hw3, hbl.trans hb3, HO2.out.trans ho3⟩
end Go.Proofs.YtoimjcfdiljkjaaGreatDoor
namespace Go.Proofs.YtoimjcfdiljkjaaGreatDoor
open Go.RowKit Go.Sort
def tr1S (es : List va.En) (ss : List St) (n : Nat) (kw : List UInt8) (t : Tt) : List UInt8 := linS n (kw ++ trnS es ss t)
def wfT (k : Nat) (t : Tt) : Prop := (0 ≤ t.to ∧ t.to < k) ∧ ∀ y ∈ t.cd.list, wfX y
theorem castS (n : Nat) : ((n + 1 : Nat) : Int) = (n : Int) + 1 := by omega
set_option maxHeartbeats 2000000 in
set_option maxRecDepth 20000 in
theorem wr_state (w0 : World) (b m : Nat) (E : Rw va.En) (l : List UInt8) (n : Nat) (s : St) (r : Rw St) (TA : Rw St → List UInt8) (w : World) (hs : Std w0) (hE : RsE w0 w0.heap.size E) (hM : SymM w0 m) (hn1 : n + 1 ≤ 140737488355328)
    (hr : RdR w0 w0.heap.size 6 SC r) (hlc : RsDs w0 w0.heap.size s.lc) (hlcl : s.lc.l.length ≤ 17592186044416 ∧ ∀ d ∈ s.lc.l, d.ck.l.length ≤ 17592186044416) (hqs : RsQs w0 w0.heap.size s.qs) (hqw : ∀ q ∈ s.qs.l, wfQ q) (hau : RdR w0 w0.heap.size 1 AC s.au)
    (hun : RsTs w0 w0.heap.size s.un) (hut : RsTs w0 w0.heap.size s.ut) (hunw : ∀ t ∈ s.un.l, wfT r.l.length t) (hutw : ∀ t ∈ s.ut.l, wfT r.l.length t)
    (KA : Hid (∀ a ∈ s.au.l, ∀ (l' : List UInt8) (W : World), Below w0.heap.size w0 W → Wr w0.heap.size b E m (Lib.byteCells l') W → (l' ++ TA a).length ≤ 140737488355328 → Calls Tryz.prog 95 #[.pointer (some ⟨b, 0, none⟩), .int .i64 ((n + 1 : Nat) : Int), aV a] W (fun e w' => e = .returned (.tuple #[]) ∧ Wr w0.heap.size b E m (Lib.byteCells (l' ++ TA a)) w' ∧ Below w0.heap.size W w' ∧ Oth b W w')))
    (hb : Below w0.heap.size w0 w) (h : Wr w0.heap.size b E m (Lib.byteCells l) w) (hlen9 : (l ++ linS n ([115, 116, 97, 116, 101, 32] ++ bsT s.nm) ++ lcsS E.l (n + 1) s.lc.l ++ (s.un.l.map (tr1S E.l r.l (n + 1) [117, 110, 108, 101, 115, 115, 32])).flatten ++ linS n ([100, 111]) ++ (s.qs.l.map (eq1S E.l (n + 1))).flatten ++ (s.au.l.map TA).flatten ++ (s.ut.l.map (tr1S E.l r.l (n + 1) [117, 110, 116, 105, 108, 32])).flatten ++ linS n ([100, 111, 110, 101])).length ≤ 140737488355328) :
    Calls Tryz.prog 127 #[.pointer (some ⟨b, 0, none⟩), .int .i64 (n : Int), sV s, .slice r.A r.l.length r.c] w (fun e w' => e = .returned (.tuple #[]) ∧ Wr w0.heap.size b E m (Lib.byteCells (l ++ linS n ([115, 116, 97, 116, 101, 32] ++ bsT s.nm) ++ lcsS E.l (n + 1) s.lc.l ++ (s.un.l.map (tr1S E.l r.l (n + 1) [117, 110, 108, 101, 115, 115, 32])).flatten ++ linS n ([100, 111]) ++ (s.qs.l.map (eq1S E.l (n + 1))).flatten ++ (s.au.l.map TA).flatten ++ (s.ut.l.map (tr1S E.l r.l (n + 1) [117, 110, 116, 105, 108, 32])).flatten ++ linS n ([100, 111, 110, 101]))) w' ∧ Below w0.heap.size w w' ∧ Oth b w w') := by
  have hlr := hr.len
  have hlu := hun.1.len
  have hlt := hut.1.len
  unfold maxLen at hlr hlu hlt
  have hn : n ≤ 140737488355328 := by omega
  have hn64 : (n : Int) + 1 ≤ 9223372036854775807 := by omega
  have HWR := Lib.hid (show IntKind.i64.wrap ((n : Int) + 1) = (n : Int) + 1 from by rw [IntKind.wrap_i64]; omega)
  have HL := Lib.hid hlen9
  have HR := Lib.hid hr
  have HM := Lib.hid hM
  have Hun := Lib.hid hun
  have Hut := Lib.hid hut
  have HTun := Lib.hid hunw
  have HTut := Lib.hid hutw
  have hsz := hb.size
  have hlen : (l ++ linS n ([115, 116, 97, 116, 101, 32] ++ bsT s.nm)).length ≤ 140737488355328 := by
    simp only [List.length_append] at hlen9 ⊢
    omega
  have K1 : Hid (∀ W, Below w.heap.size w W → Calls Tryz.prog 50 #[.pointer (some ⟨b, 0, none⟩), .int .i64 n, .slice (some ⟨W.heap.size, 0, none⟩) 2 2] (W.alloc (.cells #[.string ⟨#[115, 116, 97, 116, 101, 32]⟩, .string s.nm] 9))
      fun e w' => e = .returned (.tuple #[]) ∧ Wr w0.heap.size b E m (Lib.byteCells (l ++ linS n ([115, 116, 97, 116, 101, 32] ++ bsT s.nm))) w' ∧ Below w0.heap.size W w' ∧ Oth b W w') := Lib.hid fun W hW9 => by
    have ef : (([⟨#[115, 116, 97, 116, 101, 32]⟩, s.nm] : List ByteArray).map bsT).flatten = [115, 116, 97, 116, 101, 32] ++ bsT s.nm := by
      simp only [List.map_cons, List.map_nil, List.flatten_cons, List.flatten_nil, bsT_tB, List.append_nil]
      try simp only [List.append_assoc]
      try rfl
    have := wr_lineA w0.heap.size b m E (l) n 2 [⟨#[115, 116, 97, 116, 101, 32]⟩, s.nm] #[.string ⟨#[115, 116, 97, 116, 101, 32]⟩, .string s.nm] W (h.below hW9) (Nat.le_trans hsz hW9.size) hn (by simp) rfl (by rw [ef]; exact hlen)
    rw [ef] at this
    exact this
  have hne : w.heap.size ≠ b := by
    have : b < w.heap.size := by rcases h with h | h <;> exact h.lt
    omega
  have KBD : Hid (∀ (l' : List UInt8) (W : World), Below w0.heap.size w0 W → Wr w0.heap.size b E m (Lib.byteCells l') W → (l' ++ (s.qs.l.map (eq1S E.l (n + 1))).flatten ++ (s.au.l.map TA).flatten).length ≤ 140737488355328 → Calls Tryz.prog 55 #[.pointer (some ⟨b, 0, none⟩), .int .i64 ((n : Int) + 1), .slice s.qs.A s.qs.l.length s.qs.c, .slice s.au.A s.au.l.length s.au.c] W (fun e w' => e = .returned (.tuple #[]) ∧ Wr w0.heap.size b E m (Lib.byteCells (l' ++ (s.qs.l.map (eq1S E.l (n + 1))).flatten ++ (s.au.l.map TA).flatten)) w' ∧ Below w0.heap.size W w' ∧ Oth b W w')) := Lib.hid fun l' W hW hW2 hW3 => by
    have := wr_body w0 b m E l' (n + 1) s.qs s.au TA W hs hE hM hqs hqw hn1 hau KA hW hW2 hW3
    rwa [castS] at this
  have KLC : Hid (∀ (W : World), Below w0.heap.size w0 W → Wr w0.heap.size b E m (Lib.byteCells (l ++ linS n ([115, 116, 97, 116, 101, 32] ++ bsT s.nm))) W → Calls Tryz.prog 53 #[.pointer (some ⟨b, 0, none⟩), .int .i64 ((n : Int) + 1), .slice s.lc.A s.lc.l.length s.lc.c] W (fun e w' => e = .returned (.tuple #[]) ∧ Wr w0.heap.size b E m (Lib.byteCells (l ++ linS n ([115, 116, 97, 116, 101, 32] ++ bsT s.nm) ++ lcsS E.l (n + 1) s.lc.l)) w' ∧ Below w0.heap.size W w' ∧ Oth b W w')) := Lib.hid fun W hW hW2 => by
    have := wr_locals w0 b m E (l ++ linS n ([115, 116, 97, 116, 101, 32] ++ bsT s.nm)) (n + 1) s.lc W hs hE hlc hlcl.1 hlcl.2 hn1 hW hW2 (by simp only [List.length_append] at hlen9 ⊢; omega)
    rwa [castS] at this
  have kB : (w.alloc (.cells #[.string s.nm, .slice s.lc.A s.lc.l.length s.lc.c, .slice s.qs.A s.qs.l.length s.qs.c, .slice s.au.A s.au.l.length s.au.c, .slice s.un.A s.un.l.length s.un.c, .slice s.ut.A s.ut.l.length s.ut.c] 95)).heap[w.heap.size]? = some (.cells #[.string s.nm, .slice s.lc.A s.lc.l.length s.lc.c, .slice s.qs.A s.qs.l.length s.qs.c, .slice s.au.A s.au.l.length s.au.c, .slice s.un.A s.un.l.length s.un.c, .slice s.ut.A s.ut.l.length s.ut.c] 95 (0, 0)) := heap_alloc_new w _
  have hB0 : Below w.heap.size w (w.alloc (.cells #[.string s.nm, .slice s.lc.A s.lc.l.length s.lc.c, .slice s.qs.A s.qs.l.length s.qs.c, .slice s.au.A s.au.l.length s.au.c, .slice s.un.A s.un.l.length s.un.c, .slice s.ut.A s.ut.l.length s.ut.c] 95)) := bel_box _
  have K2 := K1.out _ hB0
  rw [World.size_alloc] at K2
  have KF := Lib.hid K2
  clear hlen9 hr hun hut hunw hutw h hlen K2 K1 hM hlc hlcl hqs hqw hau
  go_enter Tryz.func127, Tryz.ntmps127
  go_wp2_with (first
    | (go_at_call 50; (refine KF.out.mono ?_); rintro e' w1 ⟨rfl, hw1, hbw1, how1⟩; have kC := how1 _ _ _ _ kB hne (by decide); have c0 : w1.cell? ⟨w.heap.size, 0, none⟩ = some (.string s.nm) := (by rw [Lib.cell_of_heap kC]; rfl); have c1 : w1.cell? ⟨w.heap.size, 1, none⟩ = some (.slice s.lc.A s.lc.l.length s.lc.c) := (by rw [Lib.cell_of_heap kC]; rfl); have c2 : w1.cell? ⟨w.heap.size, 2, none⟩ = some (.slice s.qs.A s.qs.l.length s.qs.c) := (by rw [Lib.cell_of_heap kC]; rfl); have c3 : w1.cell? ⟨w.heap.size, 3, none⟩ = some (.slice s.au.A s.au.l.length s.au.c) := (by rw [Lib.cell_of_heap kC]; rfl); have c4 : w1.cell? ⟨w.heap.size, 4, none⟩ = some (.slice s.un.A s.un.l.length s.un.c) := (by rw [Lib.cell_of_heap kC]; rfl); have c5 : w1.cell? ⟨w.heap.size, 5, none⟩ = some (.slice s.ut.A s.ut.l.length s.ut.c) := (by rw [Lib.cell_of_heap kC]; rfl); have hb01 : Below w0.heap.size w0 w1 := (hb.trans (hB0.mono hsz)).trans hbw1)
    | (go_at_call 53; (refine (KLC.out _ hb01 hw1).mono ?_); rintro e' w1' ⟨rfl, hw1', hbw1', how1'⟩; have kC' := how1' _ _ _ _ kC hne (by decide); have d0 : w1'.cell? ⟨w.heap.size, 0, none⟩ = some (.string s.nm) := (by rw [Lib.cell_of_heap kC']; rfl); have d1 : w1'.cell? ⟨w.heap.size, 1, none⟩ = some (.slice s.lc.A s.lc.l.length s.lc.c) := (by rw [Lib.cell_of_heap kC']; rfl); have d2 : w1'.cell? ⟨w.heap.size, 2, none⟩ = some (.slice s.qs.A s.qs.l.length s.qs.c) := (by rw [Lib.cell_of_heap kC']; rfl); have d3 : w1'.cell? ⟨w.heap.size, 3, none⟩ = some (.slice s.au.A s.au.l.length s.au.c) := (by rw [Lib.cell_of_heap kC']; rfl); have d4 : w1'.cell? ⟨w.heap.size, 4, none⟩ = some (.slice s.un.A s.un.l.length s.un.c) := (by rw [Lib.cell_of_heap kC']; rfl); have d5 : w1'.cell? ⟨w.heap.size, 5, none⟩ = some (.slice s.ut.A s.ut.l.length s.ut.c) := (by rw [Lib.cell_of_heap kC']; rfl)))
  generalize hl2 : l ++ linS n ([115, 116, 97, 116, 101, 32] ++ bsT s.nm) ++ lcsS E.l (n + 1) s.lc.l = l2 at *
  have H2 := Lib.hid hl2
  have hbw : Below w0.heap.size w w1' := ((hB0.mono hsz).trans hbw1).trans hbw1'
  have HC := Lib.hid kC'
  have HW := Lib.hid hw1'
  have HO := Lib.hid (((Oth.below hB0).trans how1).trans how1')
  clear hl2 KF KLC kB kC kC' hw1 hw1' hbw1 hbw1' how1 how1' hb01
  clear c0 d0
  clear c1 d1
  clear c2 d2
  clear c3 d3
  clear c4 d4
  clear c5 d5
  go_loopw [27] (fun i wr => ∃ k : Nat, k ≤ s.un.l.length ∧ i = .int .i64 (k : Int) ∧ Wr w0.heap.size b E m (Lib.byteCells (l2 ++ ((s.un.l.take k).map (tr1S E.l r.l (n + 1) [117, 110, 108, 101, 115, 115, 32])).flatten)) wr ∧ Below w0.heap.size w wr ∧ Oth b w1' wr) (fun i _ => s.un.l.length - (intOf i).toNat)
  case atStart => exact ⟨0, by omega, rfl, by simpa using HW.out, hbw, Oth.refl _ _⟩
  case round =>
    clear HW
    obtain ⟨k, hk, rfl, hW, hbl, hob⟩ := hrel
    have hb0 : Below w0.heap.size w0 wr := hb.trans hbl
    have kC := hob _ _ _ _ HC.out hne (by decide)
    have hszr := hb0.size
    have HO2 := Lib.hid (HO.out.trans hob)
    have HO3 := Lib.hid hob
    have HC2 := Lib.hid kC
    have hzw : w.heap.size < wr.heap.size := (Array.getElem?_eq_some_iff.1 kC).1
    clear hob
    by_cases hlt : k < s.un.l.length
    · clear kC
      obtain ⟨ad, y, hA, had, hy, hm, ⟨⟨c0, c1, c2, c3, c4, c5⟩, c6, c7⟩⟩ := (Hun.out.blw hb0 hb0.size).1.at_ hlt
      rw [hA]
      have hft := flat_take (tr1S E.l r.l (n + 1) [117, 110, 108, 101, 115, 115, 32]) s.un.l hy
      have hfl := flat_le (tr1S E.l r.l (n + 1) [117, 110, 108, 101, 115, 115, 32]) s.un.l (k + 1)
      have hlen : (l2 ++ ((s.un.l.take k).map (tr1S E.l r.l (n + 1) [117, 110, 108, 101, 115, 115, 32])).flatten ++ linS (n + 1) ([117, 110, 108, 101, 115, 115, 32] ++ trnS E.l r.l y)).length ≤ 140737488355328 := by
        have := HL.out
        rw [hft] at hfl
        unfold tr1S at hfl this ⊢
        simp only [List.length_append] at hfl this ⊢
        omega
      have KE : Hid (∀ W, Below wr.heap.size wr W → Calls Tryz.prog 166 #[phV E m, tV y, .slice r.A r.l.length r.c] W (Bel (.string (tB (trnS E.l r.l y))) W)) := Lib.hid fun W hW' => by
        have hb' : Below w0.heap.size w0 W := hb0.trans (hW'.mono hszr)
        exact ph_transition E m y r W (hs.to hb') (hE.blw hb' hb'.size) (HM.out.to hb') ((Hun.out.2 y hm).1.to hb') (HR.out.blw oneB_S hb' hb'.size) (HTun.out y hm).1.1 (HTun.out y hm).1.2 (HTun.out y hm).2 (by unfold linS at hlen; simp only [List.length_append] at hlen; omega)
      have KL : Hid (∀ W, Below wr.heap.size wr W → Calls Tryz.prog 50 #[.pointer (some ⟨b, 0, none⟩), .int .i64 ((n : Int) + 1), .slice (some ⟨W.heap.size, 0, none⟩) 2 2] (W.alloc (.cells #[.string ⟨#[117, 110, 108, 101, 115, 115, 32]⟩, .string (tB (trnS E.l r.l y))] 9))
          fun e w' => e = .returned (.tuple #[]) ∧ Wr w0.heap.size b E m (Lib.byteCells (l2 ++ ((s.un.l.take k).map (tr1S E.l r.l (n + 1) [117, 110, 108, 101, 115, 115, 32])).flatten ++ linS (n + 1) ([117, 110, 108, 101, 115, 115, 32] ++ trnS E.l r.l y))) w' ∧ Below w0.heap.size W w' ∧ Oth b W w') := Lib.hid fun W hW9 => by
        have ef : (([⟨#[117, 110, 108, 101, 115, 115, 32]⟩, (tB (trnS E.l r.l y))] : List ByteArray).map bsT).flatten = [117, 110, 108, 101, 115, 115, 32] ++ trnS E.l r.l y := by
          simp only [List.map_cons, List.map_nil, List.flatten_cons, List.flatten_nil, bsT_tB, List.append_nil]
          try simp only [List.append_assoc]
          try rfl
        have := wr_lineA w0.heap.size b m E (l2 ++ ((s.un.l.take k).map (tr1S E.l r.l (n + 1) [117, 110, 108, 101, 115, 115, 32])).flatten) (n + 1) 2 [⟨#[117, 110, 108, 101, 115, 115, 32]⟩, (tB (trnS E.l r.l y))] #[.string ⟨#[117, 110, 108, 101, 115, 115, 32]⟩, .string (tB (trnS E.l r.l y))] W (hW.below hW9) (Nat.le_trans hszr hW9.size) hn1 (by simp) rfl (by rw [ef]; exact hlen)
        rw [ef, castS] at this
        exact this
      have hnx : Hid (l2 ++ ((s.un.l.take k).map (tr1S E.l r.l (n + 1) [117, 110, 108, 101, 115, 115, 32])).flatten ++ linS (n + 1) ([117, 110, 108, 101, 115, 115, 32] ++ trnS E.l r.l y) = l2 ++ ((s.un.l.take (k + 1)).map (tr1S E.l r.l (n + 1) [117, 110, 108, 101, 115, 115, 32])).flatten) := Lib.hid (by rw [hft, List.append_assoc]; rfl)
      have hne2 : wr.heap.size ≠ b := by
        have : b < wr.heap.size := by rcases hW with h | h <;> exact h.lt
        omega
      have s0 := hW.cells.1
      have s1 := hW.cells.2
      clear hA hy hm hft hfl hlen hW KA
      generalize tB (trnS E.l r.l y) = jj at *
      generalize l2 ++ ((s.un.l.take k).map (tr1S E.l r.l (n + 1) [117, 110, 108, 101, 115, 115, 32])).flatten ++ linS (n + 1) ([117, 110, 108, 101, 115, 115, 32] ++ trnS E.l r.l y) = ll at *
      go_wp2
      obtain ⟨WB, hWB⟩ : ∃ WB, wr.alloc (.cells #[.int .i64 y.cd.k, .int .i64 y.cd.op, .int .i64 y.cd.t, .int .i64 y.cd.v, .string y.cd.nm, .slice y.cd.A y.cd.ar.length y.cd.c, .int .i64 y.to, .bool y.re] 160) = WB := ⟨_, rfl⟩
      have hBB : Below wr.heap.size wr WB := by rw [← hWB]; exact bel_box _
      have kB : WB.heap[wr.heap.size]? = some (.cells #[.int .i64 y.cd.k, .int .i64 y.cd.op, .int .i64 y.cd.t, .int .i64 y.cd.v, .string y.cd.nm, .slice y.cd.A y.cd.ar.length y.cd.c, .int .i64 y.to, .bool y.re] 160 (0, 0)) := by rw [← hWB]; exact heap_alloc_new wr _
      have s0' := cell_below hBB s0
      have s1' := cell_below hBB s1
      have x0 : WB.cell? ⟨wr.heap.size, 0, none⟩ = some (.int .i64 y.cd.k) := by rw [Lib.cell_of_heap kB]; rfl
      have x1 : WB.cell? ⟨wr.heap.size, 1, none⟩ = some (.int .i64 y.cd.op) := by rw [Lib.cell_of_heap kB]; rfl
      have x2 : WB.cell? ⟨wr.heap.size, 2, none⟩ = some (.int .i64 y.cd.t) := by rw [Lib.cell_of_heap kB]; rfl
      have x3 : WB.cell? ⟨wr.heap.size, 3, none⟩ = some (.int .i64 y.cd.v) := by rw [Lib.cell_of_heap kB]; rfl
      have x4 : WB.cell? ⟨wr.heap.size, 4, none⟩ = some (.string y.cd.nm) := by rw [Lib.cell_of_heap kB]; rfl
      have x5 : WB.cell? ⟨wr.heap.size, 5, none⟩ = some (.slice y.cd.A y.cd.ar.length y.cd.c) := by rw [Lib.cell_of_heap kB]; rfl
      have x6 : WB.cell? ⟨wr.heap.size, 6, none⟩ = some (.int .i64 y.to) := by rw [Lib.cell_of_heap kB]; rfl
      have x7 : WB.cell? ⟨wr.heap.size, 7, none⟩ = some (.bool y.re) := by rw [Lib.cell_of_heap kB]; rfl
      rw [hWB]
      clear hWB
      go_region_held3 (fun w' => w'.cell? ⟨b, 0, none⟩ = some (.slice E.A E.l.length E.c) ∧ w'.cell? ⟨b, 1, none⟩ = some (.map (some m)) ∧ w'.cell? ⟨wr.heap.size, 0, none⟩ = some (.int .i64 y.cd.k) ∧ w'.cell? ⟨wr.heap.size, 1, none⟩ = some (.int .i64 y.cd.op) ∧ w'.cell? ⟨wr.heap.size, 2, none⟩ = some (.int .i64 y.cd.t) ∧ w'.cell? ⟨wr.heap.size, 3, none⟩ = some (.int .i64 y.cd.v) ∧ w'.cell? ⟨wr.heap.size, 4, none⟩ = some (.string y.cd.nm) ∧ w'.cell? ⟨wr.heap.size, 5, none⟩ = some (.slice y.cd.A y.cd.ar.length y.cd.c) ∧ w'.cell? ⟨wr.heap.size, 6, none⟩ = some (.int .i64 y.to) ∧ w'.cell? ⟨wr.heap.size, 7, none⟩ = some (.bool y.re)) (first | exact ⟨s0', s1', x0, x1, x2, x3, x4, x5, x6, x7⟩ | exact ⟨cell_below hX1 s0', cell_below hX1 s1', cell_below hX1 x0, cell_below hX1 x1, cell_below hX1 x2, cell_below hX1 x3, cell_below hX1 x4, cell_below hX1 x5, cell_below hX1 x6, cell_below hX1 x7⟩ | exact ⟨cell_below (bel_alloc hX1 _) s0', cell_below (bel_alloc hX1 _) s1', cell_below (bel_alloc hX1 _) x0, cell_below (bel_alloc hX1 _) x1, cell_below (bel_alloc hX1 _) x2, cell_below (bel_alloc hX1 _) x3, cell_below (bel_alloc hX1 _) x4, cell_below (bel_alloc hX1 _) x5, cell_below (bel_alloc hX1 _) x6, cell_below (bel_alloc hX1 _) x7⟩ | exact ⟨v0, v1, y0, y1, y2, y3, y4, y5, y6, y7⟩)
        (first
          | (go_at_call 166; (with_reducible refine (KE.out _ ?_).mono ?_); (exact bl); rintro e' w1 ⟨rfl, hb1⟩; have hX1 : Below WB.heap.size WB w1 := bl; have hB1 : Below wr.heap.size wr w1 := hBB.trans (hX1.mono hBB.size); have kC := (hX1.block _ (Array.getElem?_eq_some_iff.1 kB).1).trans kB)
          | (go_at_call 50; rw [HWR.out]; (refine (KL.out _ hB1).mono ?_); rintro e' w2 ⟨rfl, hw2, hb2, ho2⟩; have v0 := hw2.cells.1; have v1 := hw2.cells.2; have kD := ho2 _ _ _ _ kC hne2 (by decide); have y0 : w2.cell? ⟨wr.heap.size, 0, none⟩ = some (.int .i64 y.cd.k) := (by rw [Lib.cell_of_heap kD]; rfl); have y1 : w2.cell? ⟨wr.heap.size, 1, none⟩ = some (.int .i64 y.cd.op) := (by rw [Lib.cell_of_heap kD]; rfl); have y2 : w2.cell? ⟨wr.heap.size, 2, none⟩ = some (.int .i64 y.cd.t) := (by rw [Lib.cell_of_heap kD]; rfl); have y3 : w2.cell? ⟨wr.heap.size, 3, none⟩ = some (.int .i64 y.cd.v) := (by rw [Lib.cell_of_heap kD]; rfl); have y4 : w2.cell? ⟨wr.heap.size, 4, none⟩ = some (.string y.cd.nm) := (by rw [Lib.cell_of_heap kD]; rfl); have y5 : w2.cell? ⟨wr.heap.size, 5, none⟩ = some (.slice y.cd.A y.cd.ar.length y.cd.c) := (by rw [Lib.cell_of_heap kD]; rfl); have y6 : w2.cell? ⟨wr.heap.size, 6, none⟩ = some (.int .i64 y.to) := (by rw [Lib.cell_of_heap kD]; rfl); have y7 : w2.cell? ⟨wr.heap.size, 7, none⟩ = some (.bool y.re) := (by rw [Lib.cell_of_heap kD]; rfl)))
      go_wp2
      rw [hnx.out] at hw2
      exact ⟨⟨k + 1, by omega, by congr 1, hw2, (hbl.trans (hB1.mono hszr)).trans hb2, (HO3.out.trans (Oth.below hB1)).trans ho2⟩, by simp [intOf]; omega⟩
    · obtain rfl : k = s.un.l.length := by omega
      rw [List.take_length] at hW
      generalize hl3 : l2 ++ (s.un.l.map (tr1S E.l r.l (n + 1) [117, 110, 108, 101, 115, 115, 32])).flatten = l3 at *
      have hlen : (l3 ++ linS n ([100, 111])).length ≤ 140737488355328 := by
        have := HL.out
        simp only [List.length_append] at this ⊢
        omega
      have K3 : Hid (∀ W, Below wr.heap.size wr W → Calls Tryz.prog 50 #[.pointer (some ⟨b, 0, none⟩), .int .i64 n, .slice (some ⟨W.heap.size, 0, none⟩) 1 1] (W.alloc (.cells #[.string ⟨#[100, 111]⟩] 9))
          fun e w' => e = .returned (.tuple #[]) ∧ Wr w0.heap.size b E m (Lib.byteCells (l3 ++ linS n ([100, 111]))) w' ∧ Below w0.heap.size W w' ∧ Oth b W w') := Lib.hid fun W hW9 => by
        have ef : (([⟨#[100, 111]⟩] : List ByteArray).map bsT).flatten = [100, 111] := by
          simp only [List.map_cons, List.map_nil, List.flatten_cons, List.flatten_nil, bsT_tB, List.append_nil]
          try simp only [List.append_assoc]
          try rfl
        have := wr_lineA w0.heap.size b m E (l3) n 1 [⟨#[100, 111]⟩] #[.string ⟨#[100, 111]⟩] W (hW.below hW9) (Nat.le_trans hszr hW9.size) hn (by simp) rfl (by rw [ef]; exact hlen)
        rw [ef] at this
        exact this
      have KD := Lib.hid (K3.out wr (Below.refl _ _))
      have KB := Lib.hid (KBD.out (l3 ++ linS n ([100, 111])))
      have hlb : (l3 ++ linS n ([100, 111]) ++ (s.qs.l.map (eq1S E.l (n + 1))).flatten ++ (s.au.l.map TA).flatten).length ≤ 140737488355328 := by
        have := HL.out
        simp only [List.length_append] at this ⊢
        omega
      have H3 := Lib.hid hl3
      have d0 : wr.cell? ⟨w.heap.size, 0, none⟩ = some (.string s.nm) := by rw [Lib.cell_of_heap kC]; rfl
      have d1 : wr.cell? ⟨w.heap.size, 1, none⟩ = some (.slice s.lc.A s.lc.l.length s.lc.c) := by rw [Lib.cell_of_heap kC]; rfl
      have d2 : wr.cell? ⟨w.heap.size, 2, none⟩ = some (.slice s.qs.A s.qs.l.length s.qs.c) := by rw [Lib.cell_of_heap kC]; rfl
      have d3 : wr.cell? ⟨w.heap.size, 3, none⟩ = some (.slice s.au.A s.au.l.length s.au.c) := by rw [Lib.cell_of_heap kC]; rfl
      have d4 : wr.cell? ⟨w.heap.size, 4, none⟩ = some (.slice s.un.A s.un.l.length s.un.c) := by rw [Lib.cell_of_heap kC]; rfl
      have d5 : wr.cell? ⟨w.heap.size, 5, none⟩ = some (.slice s.ut.A s.ut.l.length s.ut.c) := by rw [Lib.cell_of_heap kC]; rfl
      clear hlen K3 hW kC hl3 KBD
      go_wp2_with (first
        | (go_at_call 50; (refine KD.out.mono ?_); rintro e' w3 ⟨rfl, hw3, hbw3, how3⟩; have kD := how3 _ _ _ _ HC2.out hne (by decide); have f0 : w3.cell? ⟨w.heap.size, 0, none⟩ = some (.string s.nm) := (by rw [Lib.cell_of_heap kD]; rfl); have f1 : w3.cell? ⟨w.heap.size, 1, none⟩ = some (.slice s.lc.A s.lc.l.length s.lc.c) := (by rw [Lib.cell_of_heap kD]; rfl); have f2 : w3.cell? ⟨w.heap.size, 2, none⟩ = some (.slice s.qs.A s.qs.l.length s.qs.c) := (by rw [Lib.cell_of_heap kD]; rfl); have f3 : w3.cell? ⟨w.heap.size, 3, none⟩ = some (.slice s.au.A s.au.l.length s.au.c) := (by rw [Lib.cell_of_heap kD]; rfl); have f4 : w3.cell? ⟨w.heap.size, 4, none⟩ = some (.slice s.un.A s.un.l.length s.un.c) := (by rw [Lib.cell_of_heap kD]; rfl); have f5 : w3.cell? ⟨w.heap.size, 5, none⟩ = some (.slice s.ut.A s.ut.l.length s.ut.c) := (by rw [Lib.cell_of_heap kD]; rfl); have hb03 : Below w0.heap.size w0 w3 := hb0.trans hbw3)
        | (go_at_call 55; (refine (KB.out _ hb03 hw3 hlb).mono ?_); rintro e' w4 ⟨rfl, hw4, hbw4, how4⟩; have kE := how4 _ _ _ _ kD hne (by decide); have g0 : w4.cell? ⟨w.heap.size, 0, none⟩ = some (.string s.nm) := (by rw [Lib.cell_of_heap kE]; rfl); have g1 : w4.cell? ⟨w.heap.size, 1, none⟩ = some (.slice s.lc.A s.lc.l.length s.lc.c) := (by rw [Lib.cell_of_heap kE]; rfl); have g2 : w4.cell? ⟨w.heap.size, 2, none⟩ = some (.slice s.qs.A s.qs.l.length s.qs.c) := (by rw [Lib.cell_of_heap kE]; rfl); have g3 : w4.cell? ⟨w.heap.size, 3, none⟩ = some (.slice s.au.A s.au.l.length s.au.c) := (by rw [Lib.cell_of_heap kE]; rfl); have g4 : w4.cell? ⟨w.heap.size, 4, none⟩ = some (.slice s.un.A s.un.l.length s.un.c) := (by rw [Lib.cell_of_heap kE]; rfl); have g5 : w4.cell? ⟨w.heap.size, 5, none⟩ = some (.slice s.ut.A s.ut.l.length s.ut.c) := (by rw [Lib.cell_of_heap kE]; rfl)))
      generalize hlb5 : l3 ++ linS n ([100, 111]) ++ (s.qs.l.map (eq1S E.l (n + 1))).flatten ++ (s.au.l.map TA).flatten = lb at *
      rw [← H3.out] at hlb5
      have H5 := Lib.hid hlb5
      clear hlb5 hlb
      have hbw : Below w0.heap.size w w4 := (hbl.trans hbw3).trans hbw4
      have HC := Lib.hid kE
      have HW := Lib.hid hw4
      have HO := Lib.hid ((HO2.out.trans how3).trans how4)
      clear hbl hb0 hzw hszr HO2 HO3 HC2 kD kE how3 how4 hbw3 hbw4 hw3 hw4 hb03 d0 d1 d2 d3 d4 d5 f0 f1 f2 f3 f4 f5 g0 g1 g2 g3 g4 g5 KD KB H3
      go_loopw [59] (fun i wr => ∃ k : Nat, k ≤ s.ut.l.length ∧ i = .int .i64 (k : Int) ∧ Wr w0.heap.size b E m (Lib.byteCells (lb ++ ((s.ut.l.take k).map (tr1S E.l r.l (n + 1) [117, 110, 116, 105, 108, 32])).flatten)) wr ∧ Below w0.heap.size w wr ∧ Oth b w4 wr) (fun i _ => s.ut.l.length - (intOf i).toNat)
      case atStart => exact ⟨0, by omega, rfl, by simpa using HW.out, hbw, Oth.refl _ _⟩
      case round =>
        clear HW
        obtain ⟨k, hk, rfl, hW, hbl, hob⟩ := hrel
        have hb0 : Below w0.heap.size w0 wr := hb.trans hbl
        have kC := hob _ _ _ _ HC.out hne (by decide)
        have hszr := hb0.size
        have HO2 := Lib.hid (HO.out.trans hob)
        have HO3 := Lib.hid hob
        have HC2 := Lib.hid kC
        have hzw : w.heap.size < wr.heap.size := (Array.getElem?_eq_some_iff.1 kC).1
        clear hob
        by_cases hlt : k < s.ut.l.length
        · clear kC
          obtain ⟨ad, y, hA, had, hy, hm, ⟨⟨c0, c1, c2, c3, c4, c5⟩, c6, c7⟩⟩ := (Hut.out.blw hb0 hb0.size).1.at_ hlt
          rw [hA]
          have hft := flat_take (tr1S E.l r.l (n + 1) [117, 110, 116, 105, 108, 32]) s.ut.l hy
          have hfl := flat_le (tr1S E.l r.l (n + 1) [117, 110, 116, 105, 108, 32]) s.ut.l (k + 1)
          have hlen : (lb ++ ((s.ut.l.take k).map (tr1S E.l r.l (n + 1) [117, 110, 116, 105, 108, 32])).flatten ++ linS (n + 1) ([117, 110, 116, 105, 108, 32] ++ trnS E.l r.l y)).length ≤ 140737488355328 := by
            have := HL.out
            rw [hft] at hfl
            unfold tr1S at hfl this ⊢
            simp only [List.length_append] at hfl this ⊢
            omega
          have KE : Hid (∀ W, Below wr.heap.size wr W → Calls Tryz.prog 166 #[phV E m, tV y, .slice r.A r.l.length r.c] W (Bel (.string (tB (trnS E.l r.l y))) W)) := Lib.hid fun W hW' => by
            have hb' : Below w0.heap.size w0 W := hb0.trans (hW'.mono hszr)
            exact ph_transition E m y r W (hs.to hb') (hE.blw hb' hb'.size) (HM.out.to hb') ((Hut.out.2 y hm).1.to hb') (HR.out.blw oneB_S hb' hb'.size) (HTut.out y hm).1.1 (HTut.out y hm).1.2 (HTut.out y hm).2 (by unfold linS at hlen; simp only [List.length_append] at hlen; omega)
          have KL : Hid (∀ W, Below wr.heap.size wr W → Calls Tryz.prog 50 #[.pointer (some ⟨b, 0, none⟩), .int .i64 ((n : Int) + 1), .slice (some ⟨W.heap.size, 0, none⟩) 2 2] (W.alloc (.cells #[.string ⟨#[117, 110, 116, 105, 108, 32]⟩, .string (tB (trnS E.l r.l y))] 9))
              fun e w' => e = .returned (.tuple #[]) ∧ Wr w0.heap.size b E m (Lib.byteCells (lb ++ ((s.ut.l.take k).map (tr1S E.l r.l (n + 1) [117, 110, 116, 105, 108, 32])).flatten ++ linS (n + 1) ([117, 110, 116, 105, 108, 32] ++ trnS E.l r.l y))) w' ∧ Below w0.heap.size W w' ∧ Oth b W w') := Lib.hid fun W hW9 => by
            have ef : (([⟨#[117, 110, 116, 105, 108, 32]⟩, (tB (trnS E.l r.l y))] : List ByteArray).map bsT).flatten = [117, 110, 116, 105, 108, 32] ++ trnS E.l r.l y := by
              simp only [List.map_cons, List.map_nil, List.flatten_cons, List.flatten_nil, bsT_tB, List.append_nil]
              try simp only [List.append_assoc]
              try rfl
            have := wr_lineA w0.heap.size b m E (lb ++ ((s.ut.l.take k).map (tr1S E.l r.l (n + 1) [117, 110, 116, 105, 108, 32])).flatten) (n + 1) 2 [⟨#[117, 110, 116, 105, 108, 32]⟩, (tB (trnS E.l r.l y))] #[.string ⟨#[117, 110, 116, 105, 108, 32]⟩, .string (tB (trnS E.l r.l y))] W (hW.below hW9) (Nat.le_trans hszr hW9.size) hn1 (by simp) rfl (by rw [ef]; exact hlen)
            rw [ef, castS] at this
            exact this
          have hnx : Hid (lb ++ ((s.ut.l.take k).map (tr1S E.l r.l (n + 1) [117, 110, 116, 105, 108, 32])).flatten ++ linS (n + 1) ([117, 110, 116, 105, 108, 32] ++ trnS E.l r.l y) = lb ++ ((s.ut.l.take (k + 1)).map (tr1S E.l r.l (n + 1) [117, 110, 116, 105, 108, 32])).flatten) := Lib.hid (by rw [hft, List.append_assoc]; rfl)
          have hne2 : wr.heap.size ≠ b := by
            have : b < wr.heap.size := by rcases hW with h | h <;> exact h.lt
            omega
          have s0 := hW.cells.1
          have s1 := hW.cells.2
          clear hA hy hm hft hfl hlen hW KA
          generalize tB (trnS E.l r.l y) = jj at *
          generalize lb ++ ((s.ut.l.take k).map (tr1S E.l r.l (n + 1) [117, 110, 116, 105, 108, 32])).flatten ++ linS (n + 1) ([117, 110, 116, 105, 108, 32] ++ trnS E.l r.l y) = ll at *
          go_wp2
          obtain ⟨WB, hWB⟩ : ∃ WB, wr.alloc (.cells #[.int .i64 y.cd.k, .int .i64 y.cd.op, .int .i64 y.cd.t, .int .i64 y.cd.v, .string y.cd.nm, .slice y.cd.A y.cd.ar.length y.cd.c, .int .i64 y.to, .bool y.re] 160) = WB := ⟨_, rfl⟩
          have hBB : Below wr.heap.size wr WB := by rw [← hWB]; exact bel_box _
          have kB : WB.heap[wr.heap.size]? = some (.cells #[.int .i64 y.cd.k, .int .i64 y.cd.op, .int .i64 y.cd.t, .int .i64 y.cd.v, .string y.cd.nm, .slice y.cd.A y.cd.ar.length y.cd.c, .int .i64 y.to, .bool y.re] 160 (0, 0)) := by rw [← hWB]; exact heap_alloc_new wr _
          have s0' := cell_below hBB s0
          have s1' := cell_below hBB s1
          have x0 : WB.cell? ⟨wr.heap.size, 0, none⟩ = some (.int .i64 y.cd.k) := by rw [Lib.cell_of_heap kB]; rfl
          have x1 : WB.cell? ⟨wr.heap.size, 1, none⟩ = some (.int .i64 y.cd.op) := by rw [Lib.cell_of_heap kB]; rfl
          have x2 : WB.cell? ⟨wr.heap.size, 2, none⟩ = some (.int .i64 y.cd.t) := by rw [Lib.cell_of_heap kB]; rfl
          have x3 : WB.cell? ⟨wr.heap.size, 3, none⟩ = some (.int .i64 y.cd.v) := by rw [Lib.cell_of_heap kB]; rfl
          have x4 : WB.cell? ⟨wr.heap.size, 4, none⟩ = some (.string y.cd.nm) := by rw [Lib.cell_of_heap kB]; rfl
          have x5 : WB.cell? ⟨wr.heap.size, 5, none⟩ = some (.slice y.cd.A y.cd.ar.length y.cd.c) := by rw [Lib.cell_of_heap kB]; rfl
          have x6 : WB.cell? ⟨wr.heap.size, 6, none⟩ = some (.int .i64 y.to) := by rw [Lib.cell_of_heap kB]; rfl
          have x7 : WB.cell? ⟨wr.heap.size, 7, none⟩ = some (.bool y.re) := by rw [Lib.cell_of_heap kB]; rfl
          rw [hWB]
          clear hWB
          go_region_held3 (fun w' => w'.cell? ⟨b, 0, none⟩ = some (.slice E.A E.l.length E.c) ∧ w'.cell? ⟨b, 1, none⟩ = some (.map (some m)) ∧ w'.cell? ⟨wr.heap.size, 0, none⟩ = some (.int .i64 y.cd.k) ∧ w'.cell? ⟨wr.heap.size, 1, none⟩ = some (.int .i64 y.cd.op) ∧ w'.cell? ⟨wr.heap.size, 2, none⟩ = some (.int .i64 y.cd.t) ∧ w'.cell? ⟨wr.heap.size, 3, none⟩ = some (.int .i64 y.cd.v) ∧ w'.cell? ⟨wr.heap.size, 4, none⟩ = some (.string y.cd.nm) ∧ w'.cell? ⟨wr.heap.size, 5, none⟩ = some (.slice y.cd.A y.cd.ar.length y.cd.c) ∧ w'.cell? ⟨wr.heap.size, 6, none⟩ = some (.int .i64 y.to) ∧ w'.cell? ⟨wr.heap.size, 7, none⟩ = some (.bool y.re)) (first | exact ⟨s0', s1', x0, x1, x2, x3, x4, x5, x6, x7⟩ | exact ⟨cell_below hX1 s0', cell_below hX1 s1', cell_below hX1 x0, cell_below hX1 x1, cell_below hX1 x2, cell_below hX1 x3, cell_below hX1 x4, cell_below hX1 x5, cell_below hX1 x6, cell_below hX1 x7⟩ | exact ⟨cell_below (bel_alloc hX1 _) s0', cell_below (bel_alloc hX1 _) s1', cell_below (bel_alloc hX1 _) x0, cell_below (bel_alloc hX1 _) x1, cell_below (bel_alloc hX1 _) x2, cell_below (bel_alloc hX1 _) x3, cell_below (bel_alloc hX1 _) x4, cell_below (bel_alloc hX1 _) x5, cell_below (bel_alloc hX1 _) x6, cell_below (bel_alloc hX1 _) x7⟩ | exact ⟨v0, v1, y0, y1, y2, y3, y4, y5, y6, y7⟩)
            (first
              | (go_at_call 166; (with_reducible refine (KE.out _ ?_).mono ?_); (exact bl); rintro e' w1 ⟨rfl, hb1⟩; have hX1 : Below WB.heap.size WB w1 := bl; have hB1 : Below wr.heap.size wr w1 := hBB.trans (hX1.mono hBB.size); have kC := (hX1.block _ (Array.getElem?_eq_some_iff.1 kB).1).trans kB)
              | (go_at_call 50; rw [HWR.out]; (refine (KL.out _ hB1).mono ?_); rintro e' w2 ⟨rfl, hw2, hb2, ho2⟩; have v0 := hw2.cells.1; have v1 := hw2.cells.2; have kD := ho2 _ _ _ _ kC hne2 (by decide); have y0 : w2.cell? ⟨wr.heap.size, 0, none⟩ = some (.int .i64 y.cd.k) := (by rw [Lib.cell_of_heap kD]; rfl); have y1 : w2.cell? ⟨wr.heap.size, 1, none⟩ = some (.int .i64 y.cd.op) := (by rw [Lib.cell_of_heap kD]; rfl); have y2 : w2.cell? ⟨wr.heap.size, 2, none⟩ = some (.int .i64 y.cd.t) := (by rw [Lib.cell_of_heap kD]; rfl); have y3 : w2.cell? ⟨wr.heap.size, 3, none⟩ = some (.int .i64 y.cd.v) := (by rw [Lib.cell_of_heap kD]; rfl); have y4 : w2.cell? ⟨wr.heap.size, 4, none⟩ = some (.string y.cd.nm) := (by rw [Lib.cell_of_heap kD]; rfl); have y5 : w2.cell? ⟨wr.heap.size, 5, none⟩ = some (.slice y.cd.A y.cd.ar.length y.cd.c) := (by rw [Lib.cell_of_heap kD]; rfl); have y6 : w2.cell? ⟨wr.heap.size, 6, none⟩ = some (.int .i64 y.to) := (by rw [Lib.cell_of_heap kD]; rfl); have y7 : w2.cell? ⟨wr.heap.size, 7, none⟩ = some (.bool y.re) := (by rw [Lib.cell_of_heap kD]; rfl)))
          go_wp2
          rw [hnx.out] at hw2
          exact ⟨⟨k + 1, by omega, by congr 1, hw2, (hbl.trans (hB1.mono hszr)).trans hb2, (HO3.out.trans (Oth.below hB1)).trans ho2⟩, by simp [intOf]; omega⟩
        · obtain rfl : k = s.ut.l.length := by omega
          rw [List.take_length] at hW
          generalize hl6 : lb ++ (s.ut.l.map (tr1S E.l r.l (n + 1) [117, 110, 116, 105, 108, 32])).flatten = l6 at *
          have hlen : (l6 ++ linS n ([100, 111, 110, 101])).length ≤ 140737488355328 := HL.out
          have K3 : Hid (∀ W, Below wr.heap.size wr W → Calls Tryz.prog 50 #[.pointer (some ⟨b, 0, none⟩), .int .i64 n, .slice (some ⟨W.heap.size, 0, none⟩) 1 1] (W.alloc (.cells #[.string ⟨#[100, 111, 110, 101]⟩] 9))
              fun e w' => e = .returned (.tuple #[]) ∧ Wr w0.heap.size b E m (Lib.byteCells (l6 ++ linS n ([100, 111, 110, 101]))) w' ∧ Below w0.heap.size W w' ∧ Oth b W w') := Lib.hid fun W hW9 => by
            have ef : (([⟨#[100, 111, 110, 101]⟩] : List ByteArray).map bsT).flatten = [100, 111, 110, 101] := by
              simp only [List.map_cons, List.map_nil, List.flatten_cons, List.flatten_nil, bsT_tB, List.append_nil]
              try simp only [List.append_assoc]
              try rfl
            have := wr_lineA w0.heap.size b m E (l6) n 1 [⟨#[100, 111, 110, 101]⟩] #[.string ⟨#[100, 111, 110, 101]⟩] W (hW.below hW9) (Nat.le_trans hszr hW9.size) hn (by simp) rfl (by rw [ef]; exact hlen)
            rw [ef] at this
            exact this
          have KE := Lib.hid (K3.out wr (Below.refl _ _))
          have H6 := Lib.hid hl6
          clear hlen K3 hW KA kC hl6
          go_wp2_with (go_at_call 50; (refine KE.out.mono ?_); rintro e' w3 ⟨rfl, hw3, hbw3, how3⟩)
          go_end0
          rw [← H6.out, ← H5.out, ← H2.out] at hw3
          exact ⟨rfl, hw3, hbl.trans hbw3, HO2.out.trans how3⟩
end Go.Proofs.YtoimjcfdiljkjaaGreatDoor
namespace Go.Proofs.YtoimjcfdiljkjaaGreatDoor
open Go.RowKit Go.Sort
def autS (n : Nat) (ts : List (List UInt8)) : List UInt8 := linS n ([97, 117, 116, 111, 109, 97, 116, 111, 110]) ++ ts.flatten ++ linS n ([101, 110, 100])
def St.tx (es : List va.En) (s : St) : Nat → List St → List UInt8 := fun n ss =>
  linS n ([115, 116, 97, 116, 101, 32] ++ bsT s.nm) ++ lcsS es (n + 1) s.lc.l ++ (s.un.l.map (tr1S es ss (n + 1) [117, 110, 108, 101, 115, 115, 32])).flatten ++ linS n ([100, 111]) ++ (s.qs.l.map (eq1S es (n + 1))).flatten ++ (s.au.l.attach.map fun a => autS (n + 1) (a.1.l.attach.map fun t => St.tx es t.1 (n + 2) a.1.l)).flatten ++ (s.ut.l.map (tr1S es ss (n + 1) [117, 110, 116, 105, 108, 32])).flatten ++ linS n ([100, 111, 110, 101])
termination_by SizeOf.sizeOf s
decreasing_by exact St.lt_of_mem a.2 t.2
def auS (es : List va.En) (n : Nat) (a : Rw St) : List UInt8 := autS n (a.l.map fun t => t.tx es (n + 1) a.l)
theorem St.tx_eq (es : List va.En) (s : St) (n : Nat) (ss : List St) : s.tx es n ss = linS n ([115, 116, 97, 116, 101, 32] ++ bsT s.nm) ++ lcsS es (n + 1) s.lc.l ++ (s.un.l.map (tr1S es ss (n + 1) [117, 110, 108, 101, 115, 115, 32])).flatten ++ linS n ([100, 111]) ++ (s.qs.l.map (eq1S es (n + 1))).flatten ++ (s.au.l.map (auS es (n + 1))).flatten ++ (s.ut.l.map (tr1S es ss (n + 1) [117, 110, 116, 105, 108, 32])).flatten ++ linS n ([100, 111, 110, 101]) := by
  rw [St.tx]
  unfold auS
  simp
inductive WfS : Nat → St → Prop
  | mk (k : Nat) (s : St) (h1 : s.lc.l.length ≤ 17592186044416 ∧ ∀ d ∈ s.lc.l, d.ck.l.length ≤ 17592186044416) (h2 : ∀ q ∈ s.qs.l, wfQ q) (h3 : ∀ t ∈ s.un.l, wfT k t) (h4 : ∀ t ∈ s.ut.l, wfT k t) (h5 : ∀ a ∈ s.au.l, ∀ t ∈ a.l, WfS a.l.length t) : WfS k s
theorem WfS.of {k : Nat} {s : St} (h : WfS k s) : (s.lc.l.length ≤ 17592186044416 ∧ ∀ d ∈ s.lc.l, d.ck.l.length ≤ 17592186044416) ∧ (∀ q ∈ s.qs.l, wfQ q) ∧ (∀ t ∈ s.un.l, wfT k t) ∧ (∀ t ∈ s.ut.l, wfT k t) ∧ (∀ a ∈ s.au.l, ∀ t ∈ a.l, WfS a.l.length t) := by
  cases h with
  | mk k s h1 h2 h3 h4 h5 => exact ⟨h1, h2, h3, h4, h5⟩
theorem lin_len (n : Nat) (s : List UInt8) : 2 * n ≤ (linS n s).length := by
  unfold linS
  simp only [List.length_append, ind_len]
  omega
set_option maxHeartbeats 1000000 in
theorem wr_st (w0 : World) (b m : Nat) (E : Rw va.En) (hs : Std w0) (hE : RsE w0 w0.heap.size E) (hM : SymM w0 m) : ∀ (s : St) (n : Nat) (r : Rw St) (l : List UInt8) (w : World), RdR w0 w0.heap.size 6 SC r → RsS w0 w0.heap.size s → WfS r.l.length s →
    Below w0.heap.size w0 w → Wr w0.heap.size b E m (Lib.byteCells l) w → (l ++ s.tx E.l n r.l).length ≤ 140737488355328 →
    Calls Tryz.prog 127 #[.pointer (some ⟨b, 0, none⟩), .int .i64 (n : Int), sV s, .slice r.A r.l.length r.c] w (fun e w' => e = .returned (.tuple #[]) ∧ Wr w0.heap.size b E m (Lib.byteCells (l ++ s.tx E.l n r.l)) w' ∧ Below w0.heap.size w w' ∧ Oth b w w') := by
  refine St.ind fun s ih n r l w hr hS hW hb h hlen => ?_
  obtain ⟨_, s2, s3, s4, s5, s6, s7, s8⟩ := hS.of
  obtain ⟨f1, f2, f3, f4, f5⟩ := hW.of
  rw [St.tx_eq] at hlen ⊢
  have hn1 : n + 1 ≤ 140737488355328 := by
    have := lin_len n ([100, 111, 110, 101])
    simp only [List.length_append] at hlen
    omega
  have e : ∀ x : List UInt8, x = x := fun _ => rfl
  have KA : Hid (∀ a ∈ s.au.l, ∀ (l' : List UInt8) (W : World), Below w0.heap.size w0 W → Wr w0.heap.size b E m (Lib.byteCells l') W → (l' ++ auS E.l (n + 1) a).length ≤ 140737488355328 → Calls Tryz.prog 95 #[.pointer (some ⟨b, 0, none⟩), .int .i64 ((n + 1 : Nat) : Int), aV a] W (fun e w' => e = .returned (.tuple #[]) ∧ Wr w0.heap.size b E m (Lib.byteCells (l' ++ auS E.l (n + 1) a)) w' ∧ Below w0.heap.size W w' ∧ Oth b W w')) := Lib.hid fun a ha l' W hW1 hW2 hl => by
    have ea : l' ++ auS E.l (n + 1) a = l' ++ linS (n + 1) [97, 117, 116, 111, 109, 97, 116, 111, 110] ++ (a.l.map fun t => t.tx E.l (n + 2) a.l).flatten ++ linS (n + 1) [101, 110, 100] := by
      unfold auS autS
      simp only [List.append_assoc]
    rw [ea] at hl ⊢
    refine wr_automaton w0 b m E l' (n + 1) a (fun t => t.tx E.l (n + 2) a.l) W hn1 (s5 a ha) (Lib.hid fun t ht l2 W2 hX1 hX2 hX3 => ?_) hW1 hW2 hl
    have := ih a ha t ht (n + 2) a l2 W2 (s5 a ha) (s6 a ha t ht) (f5 a ha t ht) hX1 hX2 hX3
    rwa [show n + 2 = (n + 1) + 1 from rfl, castS] at this
  have := wr_state w0 b m E l n s r (auS E.l (n + 1)) w hs hE hM hn1 hr s2 f1 s3 f2 s4 s7 s8 f3 f4 KA hb h (by
    simp only [List.length_append] at hlen ⊢
    omega)
  simp only [List.append_assoc] at this ⊢
  exact this
theorem wr_au (w0 : World) (b m : Nat) (E : Rw va.En) (hs : Std w0) (hE : RsE w0 w0.heap.size E) (hM : SymM w0 m) (n : Nat) (hn : n ≤ 140737488355328) (a : Rw St) (hA : RsA w0 w0.heap.size a) (hW : ∀ t ∈ a.l, WfS a.l.length t) (l : List UInt8) (w : World)
    (hb : Below w0.heap.size w0 w) (h : Wr w0.heap.size b E m (Lib.byteCells l) w) (hlen : (l ++ auS E.l n a).length ≤ 140737488355328) :
    Calls Tryz.prog 95 #[.pointer (some ⟨b, 0, none⟩), .int .i64 (n : Int), aV a] w (fun e w' => e = .returned (.tuple #[]) ∧ Wr w0.heap.size b E m (Lib.byteCells (l ++ auS E.l n a)) w' ∧ Below w0.heap.size w w' ∧ Oth b w w') := by
  have ea : l ++ auS E.l n a = l ++ linS n [97, 117, 116, 111, 109, 97, 116, 111, 110] ++ (a.l.map fun t => t.tx E.l (n + 1) a.l).flatten ++ linS n [101, 110, 100] := by
    unfold auS autS
    simp only [List.append_assoc]
  rw [ea] at hlen ⊢
  refine wr_automaton w0 b m E l n a (fun t => t.tx E.l (n + 1) a.l) w hn hA.1 (Lib.hid fun t ht l2 W2 hX1 hX2 hX3 => ?_) hb h hlen
  have := wr_st w0 b m E hs hE hM t (n + 1) a l2 W2 hA.1 (hA.2 t ht) (hW t ht) hX1 hX2 hX3
  rwa [castS] at this
end Go.Proofs.YtoimjcfdiljkjaaGreatDoor
