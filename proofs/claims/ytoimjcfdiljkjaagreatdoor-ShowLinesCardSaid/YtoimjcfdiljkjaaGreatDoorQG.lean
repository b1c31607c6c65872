import Derived.Test.YtoimjcfdiljkjaaGreatDoorQF
set_option linter.unusedVariables false
set_option linter.unusedSimpArgs false
namespace Go.Proofs.YtoimjcfdiljkjaaGreatDoor
open Go.RowKit Go.Sort
set_option maxHeartbeats 2000000 in
set_option maxRecDepth 20000 in
theorem vr_text9 (E : Rw va.En) (x : Xt) (f : Xt → List UInt8) (w : World) (hE : RsE w w.heap.size E) (hx : RdX w w.heap.size x) (hxt : x.t ≤ 9223372036854775807) (hl : x.ar.length ≤ 1048576) (hw : wf1 x)
    (KX : Hid (∀ y ∈ x.ar, ∀ W, Below w.heap.size w W → Calls Tryz.prog 38 #[.slice E.A E.l.length E.c, xV y] W (Bel (.string (tB (f y))) W))) (h : (ndS E.l x (x.ar.map f)).length ≤ 140737488355328) (hk : x.k = 9) :
    Calls Tryz.prog 38 #[.slice E.A E.l.length E.c, xV x] w (Bel (.string (tB (ndS E.l x (x.ar.map f)))) w) := by
  unfold ndS at h ⊢
  rw [if_neg (by omega), if_neg (by omega), if_neg (by omega), if_neg (by omega), if_neg (by omega), if_neg (by omega), if_neg (by omega), if_pos hk] at h ⊢
  have hL2 := hw.2.2.2.2.1 hk
  unfold mrgS at h ⊢
  obtain ⟨F, hF⟩ : ∃ F : Nat → List UInt8, F = fun k => [109, 101, 114, 103, 101, 32] ++ bsT x.nm ++ ((brsS E.l x.t (x.ar.map f)).take k).flatten := ⟨_, rfl⟩
  have hbl9 : (brsS E.l x.t (x.ar.map f)).length = x.ar.length := by
    unfold brsS
    split <;> simp
  have hfl : F x.ar.length = [109, 101, 114, 103, 101, 32] ++ bsT x.nm ++ (brsS E.l x.t (x.ar.map f)).flatten := by
    rw [hF]
    simp only
    rw [List.take_of_length_le (by omega)]
  have HF : Hid (∀ k kk y, k < x.ar.length → ((x.t ≠ 1 ∧ kk = k) ∨ (x.t = 1 ∧ kk = 1 - k)) → x.ar[kk]? = some y → F (k + 1) = F k ++ braS E.l x.t kk (f y) ∧ (F (k + 1)).length ≤ 140737488355328) := Lib.hid fun k kk y hk1 hkk hy => by
    have hb : (brsS E.l x.t (x.ar.map f))[k]? = some (braS E.l x.t kk (f y)) := by
      unfold brsS
      rcases hkk with ⟨h1, rfl⟩ | ⟨h1, rfl⟩
      · rw [if_neg h1]; exact bra_at E.l x.t hy
      · have h2 := hL2 h1
        rw [if_pos h1, List.getElem?_reverse (by simp; omega)]
        simp only [List.length_mapIdx, List.length_map]
        rw [show x.ar.length - 1 - k = 1 - k by omega]
        exact bra_at E.l x.t hy
    have hft := flat_take id (brsS E.l x.t (x.ar.map f)) hb
    simp only [List.map_id] at hft
    have e1 : F (k + 1) = F k ++ braS E.l x.t kk (f y) := by
      rw [hF]
      simp only
      rw [hft]
      simp only [List.append_assoc, id]
    refine ⟨e1, ?_⟩
    have hfle := flat_le id (brsS E.l x.t (x.ar.map f)) (k + 1)
    simp only [List.map_id] at hfle
    rw [hF]
    simp only [List.length_append] at h ⊢
    omega
  have hF0 : [109, 101, 114, 103, 101, 32] ++ bsT x.nm = F 0 := by rw [hF]; simp
  have hl0 : (F 0).length ≤ 140737488355328 := by
    rw [← hF0]
    simp only [List.length_append] at h ⊢
    omega
  rw [← hfl]
  have HX := Lib.hid hx
  have KVV : Hid (∀ (k : Nat) (W : World), Below w.heap.size w W → Calls Tryz.prog 72 #[.slice E.A E.l.length E.c, .int .i64 x.t, .int .i64 (k : Int)] W (Bel (.string (tB (valS E.l x.t k))) W)) := Lib.hid fun k W hb => vr_val E x.t k W (hE.blw hb hb.size) hxt
  have ka0 := fun w => add_tB (P := Tryz.prog) w (A := ⟨#[109, 101, 114, 103, 101, 32]⟩) (B := x.nm) rfl (tB_bsT _).symm hF0 (by rw [← hF0, List.length_append] at hl0; omega)
  have qk0 : (x.k == 1) = false := by simp [hk]
  have qk1 : (x.k == 2) = false := by simp [hk]
  have qk2 : (x.k == 3) = false := by simp [hk]
  have qk3 : (x.k == 4) = false := by simp [hk]
  have qk4 : (x.k == 5) = false := by simp [hk]
  have qk5 : (x.k == 6) = false := by simp [hk]
  have qk6 : (x.k == 7) = false := by simp [hk]
  have qk7 : (x.k == 8) = false := by simp [hk]
  have qk8 : (x.k == 9) = true := by simp [hk]
  have h9 := hx.len.1
  unfold maxLen at h9
  clear hbl9 hfl hF hF0 hl0 h hE hx hxt hw hk
  generalize hz0 : F 0 = z0 at *
  have HZ0 := Lib.hid hz0
  clear hz0
  simp only [xV]
  go_enter Tryz.func38, Tryz.ntmps38
  go_wp2
  obtain ⟨W0, hW0⟩ : ∃ W0, (w.alloc (.cells #[.int .i64 x.k, .int .i64 x.op, .int .i64 x.t, .int .i64 x.v, .string x.nm, .slice x.A x.ar.length x.c] 33)) = W0 := ⟨_, rfl⟩
  have hB0 : Below w.heap.size w W0 := by rw [← hW0]; exact bel_box _
  have b0 : W0.cell? ⟨w.heap.size, 0, none⟩ = some (.int .i64 x.k) := by rw [← hW0]; simp [go_sem]
  have b1 : W0.cell? ⟨w.heap.size, 1, none⟩ = some (.int .i64 x.op) := by rw [← hW0]; simp [go_sem]
  have b2 : W0.cell? ⟨w.heap.size, 2, none⟩ = some (.int .i64 x.t) := by rw [← hW0]; simp [go_sem]
  have b3 : W0.cell? ⟨w.heap.size, 3, none⟩ = some (.int .i64 x.v) := by rw [← hW0]; simp [go_sem]
  have b4 : W0.cell? ⟨w.heap.size, 4, none⟩ = some (.string x.nm) := by rw [← hW0]; simp [go_sem]
  have b5 : W0.cell? ⟨w.heap.size, 5, none⟩ = some (.slice x.A x.ar.length x.c) := by rw [← hW0]; simp [go_sem]
  have HW0 := Lib.hid hW0
  clear hW0
  rw [HW0.out]
  clear HW0 ka0
  go_loopw [5, 6] (fun s i wr => ∃ k : Nat, k ≤ x.ar.length ∧ i = .int .i64 (k : Int) ∧ s = .string (tB (F k)) ∧ Below W0.heap.size W0 wr) (fun _ i _ => x.ar.length - (intOf i).toNat)
  case atStart => exact ⟨0, by omega, rfl, by rw [HZ0.out], Below.refl _ _⟩
  case round =>
    obtain ⟨k, hk, rfl, rfl, hbl⟩ := hrel
    have hbw : Below w.heap.size w wr := hB0.trans (hbl.mono hB0.size)
    have b0 := cell_below hbl b0
    have b1 := cell_below hbl b1
    have b2 := cell_below hbl b2
    have b3 := cell_below hbl b3
    have b4 := cell_below hbl b4
    have b5 := cell_below hbl b5
    by_cases hlt : k < x.ar.length
    · have hik : (k : Int) < (x.ar.length : Int) := by omega
      by_cases t1 : x.t = 1
      · have q0 : (x.t == 1) = true := by simp [t1]
        have h2 := hL2 t1
        have e1 : (1 : Int) - (k : Int) = ((1 - k : Nat) : Int) := by omega
        obtain ⟨kk, hkk⟩ : ∃ kk, kk = 1 - k := ⟨_, rfl⟩
        rw [← hkk] at e1
        have hkl : kk < x.ar.length := by omega
        have hkl2 : (kk : Int) < (x.ar.length : Int) := by omega
        obtain ⟨ad, y, hA, had, hy, hm, ⟨c0, c1, c2, c3, c4, c5⟩, _⟩ := (HX.out.to hbw).at_ (i := kk) (by omega)
        rw [hA] at b5
        obtain ⟨hj, hle⟩ := HF.out k kk y hlt (by exact .inr ⟨t1, hkk⟩) hy
        have KY := Lib.hid (KX.out y hm)
        have KV := Lib.hid (KVV.out kk)
        clear hA hy hm HF KX KVV t1 hkk h2
        obtain ⟨s1, hs1⟩ : ∃ q, F (k + 1) = q := ⟨_, rfl⟩
        have HS1 := Lib.hid hs1
        rw [hs1] at hj hle
        clear hs1
        obtain ⟨s0, hs0⟩ : ∃ q, F k = q := ⟨_, rfl⟩
        rw [hs0] at hj ⊢
        clear hs0
        unfold braS brS at hj
        generalize f y = s at *
        generalize valS E.l x.t kk = v at *
        rw [hj] at hle
        obtain ⟨z1, hz1⟩ : ∃ q, (s0) ++ ([32, 40]) = q := ⟨_, rfl⟩
        have lz1 := congrArg List.length hz1
        rw [List.length_append] at lz1
        obtain ⟨z2, hz2⟩ : ∃ q, (z1) ++ (v) = q := ⟨_, rfl⟩
        have lz2 := congrArg List.length hz2
        rw [List.length_append] at lz2
        obtain ⟨z3, hz3⟩ : ∃ q, (z2) ++ ([32, 45, 62, 32]) = q := ⟨_, rfl⟩
        have lz3 := congrArg List.length hz3
        rw [List.length_append] at lz3
        obtain ⟨z4, hz4⟩ : ∃ q, (z3) ++ (s) = q := ⟨_, rfl⟩
        have lz4 := congrArg List.length hz4
        rw [List.length_append] at lz4
        obtain ⟨z5, hz5⟩ : ∃ q, (z4) ++ ([41]) = q := ⟨_, rfl⟩
        have lz5 := congrArg List.length hz5
        rw [List.length_append] at lz5
        have heq : z5 = s0 ++ ([32] ++ ([40] ++ (v ++ [32, 45, 62, 32] ++ s) ++ [41])) := by
          subst hz1 hz2 hz3 hz4 hz5
          simp only [List.append_assoc, List.cons_append, List.nil_append]
        have hll : z5.length ≤ 140737488355328 := by rw [heq]; exact hle
        have kaz1 := fun w => add_tB (P := Tryz.prog) w (A := tB s0) (B := ⟨#[32, 40]⟩) rfl rfl hz1 (by (try simp only [List.length_cons, List.length_nil] at *); omega)
        have kaz2 := fun w => add_tB (P := Tryz.prog) w (A := tB z1) (B := tB v) rfl rfl hz2 (by (try simp only [List.length_cons, List.length_nil] at *); omega)
        have kaz3 := fun w => add_tB (P := Tryz.prog) w (A := tB z2) (B := ⟨#[32, 45, 62, 32]⟩) rfl rfl hz3 (by (try simp only [List.length_cons, List.length_nil] at *); omega)
        have kaz4 := fun w => add_tB (P := Tryz.prog) w (A := tB z3) (B := tB s) rfl rfl hz4 (by (try simp only [List.length_cons, List.length_nil] at *); omega)
        have kaz5 := fun w => add_tB (P := Tryz.prog) w (A := tB z4) (B := ⟨#[41]⟩) rfl rfl hz5 (by (try simp only [List.length_cons, List.length_nil] at *); omega)
        have HZ := Lib.hid heq
        clear heq hll hz1 hz2 hz3 hz4 hz5 lz1 lz2 lz3 lz4 lz5
        have HN : Hid (F (k + 1) = z5) := Lib.hid (HS1.out.trans (hj.trans HZ.out.symm))
        clear hj hle HZ HS1
        simp only [xV] at KY
        go_wp2
        have q_b0 := cell_regrown b0
        have q_b1 := cell_regrown b1
        have q_b2 := cell_regrown b2
        have q_b3 := cell_regrown b3
        have q_b4 := cell_regrown b4
        have q_b5 := cell_regrown b5
        have q_c0 := cell_regrown c0
        have q_c1 := cell_regrown c1
        have q_c2 := cell_regrown c2
        have q_c3 := cell_regrown c3
        have q_c4 := cell_regrown c4
        have q_c5 := cell_regrown c5
        have k_0 := fun dd os => Calls.regrown_of (KV.out (grow (redrawn wr dd) os) (hbw.trans ((below_regrown wr dd os).mono hbw.size)))
        have k_1 := fun dd os => Calls.regrown_of (KY.out (grow (redrawn wr dd) os) (hbw.trans ((below_regrown wr dd os).mono hbw.size)))
        refine wp_region_quiet_below (by kernel_rfl) (by kernel_rfl) ?_
        repeat (quiet_step (first | with_reducible exact k_0 _ _ | with_reducible exact k_1 _ _))
        refine wpQuiet_nil ?_
        intro _ hw'
        obtain ⟨⟨dq, osq⟩, hw''⟩ := hw'
        subst hw''
        have hrw9 : Below wr.heap.size wr (grow (redrawn wr dq) osq) := below_regrown wr dq osq
        have hw9 : Below w.heap.size w (grow (redrawn wr dq) osq) := hbw.trans (hrw9.mono hbw.size)
        generalize grow (redrawn wr dq) osq = w9 at hw9 hrw9 ⊢
        clear q_b0 q_b1 q_b2 q_b3 q_b4 q_b5 q_c0 q_c1 q_c2 q_c3 q_c4 q_c5 k_0 k_1
        go_wp2
        exact ⟨⟨k + 1, by omega, by congr 1, by rw [HN.out], hbl.trans (hrw9.mono hbl.size)⟩, by simp [intOf]; omega⟩
      · have q0 : (x.t == 1) = false := by simp [t1]
        obtain ⟨ad, y, hA, had, hy, hm, ⟨c0, c1, c2, c3, c4, c5⟩, _⟩ := (HX.out.to hbw).at_ (i := k) (by omega)
        rw [hA] at b5
        obtain ⟨hj, hle⟩ := HF.out k k y hlt (by exact .inl ⟨t1, rfl⟩) hy
        have KY := Lib.hid (KX.out y hm)
        have KV := Lib.hid (KVV.out k)
        clear hA hy hm HF KX KVV t1
        obtain ⟨s1, hs1⟩ : ∃ q, F (k + 1) = q := ⟨_, rfl⟩
        have HS1 := Lib.hid hs1
        rw [hs1] at hj hle
        clear hs1
        obtain ⟨s0, hs0⟩ : ∃ q, F k = q := ⟨_, rfl⟩
        rw [hs0] at hj ⊢
        clear hs0
        unfold braS brS at hj
        generalize f y = s at *
        generalize valS E.l x.t k = v at *
        rw [hj] at hle
        obtain ⟨z1, hz1⟩ : ∃ q, (s0) ++ ([32, 40]) = q := ⟨_, rfl⟩
        have lz1 := congrArg List.length hz1
        rw [List.length_append] at lz1
        obtain ⟨z2, hz2⟩ : ∃ q, (z1) ++ (v) = q := ⟨_, rfl⟩
        have lz2 := congrArg List.length hz2
        rw [List.length_append] at lz2
        obtain ⟨z3, hz3⟩ : ∃ q, (z2) ++ ([32, 45, 62, 32]) = q := ⟨_, rfl⟩
        have lz3 := congrArg List.length hz3
        rw [List.length_append] at lz3
        obtain ⟨z4, hz4⟩ : ∃ q, (z3) ++ (s) = q := ⟨_, rfl⟩
        have lz4 := congrArg List.length hz4
        rw [List.length_append] at lz4
        obtain ⟨z5, hz5⟩ : ∃ q, (z4) ++ ([41]) = q := ⟨_, rfl⟩
        have lz5 := congrArg List.length hz5
        rw [List.length_append] at lz5
        have heq : z5 = s0 ++ ([32] ++ ([40] ++ (v ++ [32, 45, 62, 32] ++ s) ++ [41])) := by
          subst hz1 hz2 hz3 hz4 hz5
          simp only [List.append_assoc, List.cons_append, List.nil_append]
        have hll : z5.length ≤ 140737488355328 := by rw [heq]; exact hle
        have kaz1 := fun w => add_tB (P := Tryz.prog) w (A := tB s0) (B := ⟨#[32, 40]⟩) rfl rfl hz1 (by (try simp only [List.length_cons, List.length_nil] at *); omega)
        have kaz2 := fun w => add_tB (P := Tryz.prog) w (A := tB z1) (B := tB v) rfl rfl hz2 (by (try simp only [List.length_cons, List.length_nil] at *); omega)
        have kaz3 := fun w => add_tB (P := Tryz.prog) w (A := tB z2) (B := ⟨#[32, 45, 62, 32]⟩) rfl rfl hz3 (by (try simp only [List.length_cons, List.length_nil] at *); omega)
        have kaz4 := fun w => add_tB (P := Tryz.prog) w (A := tB z3) (B := tB s) rfl rfl hz4 (by (try simp only [List.length_cons, List.length_nil] at *); omega)
        have kaz5 := fun w => add_tB (P := Tryz.prog) w (A := tB z4) (B := ⟨#[41]⟩) rfl rfl hz5 (by (try simp only [List.length_cons, List.length_nil] at *); omega)
        have HZ := Lib.hid heq
        clear heq hll hz1 hz2 hz3 hz4 hz5 lz1 lz2 lz3 lz4 lz5
        have HN : Hid (F (k + 1) = z5) := Lib.hid (HS1.out.trans (hj.trans HZ.out.symm))
        clear hj hle HZ HS1
        simp only [xV] at KY
        go_wp2
        have q_b0 := cell_regrown b0
        have q_b1 := cell_regrown b1
        have q_b2 := cell_regrown b2
        have q_b3 := cell_regrown b3
        have q_b4 := cell_regrown b4
        have q_b5 := cell_regrown b5
        have q_c0 := cell_regrown c0
        have q_c1 := cell_regrown c1
        have q_c2 := cell_regrown c2
        have q_c3 := cell_regrown c3
        have q_c4 := cell_regrown c4
        have q_c5 := cell_regrown c5
        have k_0 := fun dd os => Calls.regrown_of (KV.out (grow (redrawn wr dd) os) (hbw.trans ((below_regrown wr dd os).mono hbw.size)))
        have k_1 := fun dd os => Calls.regrown_of (KY.out (grow (redrawn wr dd) os) (hbw.trans ((below_regrown wr dd os).mono hbw.size)))
        refine wp_region_quiet_below (by kernel_rfl) (by kernel_rfl) ?_
        repeat (quiet_step (first | with_reducible exact k_0 _ _ | with_reducible exact k_1 _ _))
        refine wpQuiet_nil ?_
        intro _ hw'
        obtain ⟨⟨dq, osq⟩, hw''⟩ := hw'
        subst hw''
        have hrw9 : Below wr.heap.size wr (grow (redrawn wr dq) osq) := below_regrown wr dq osq
        have hw9 : Below w.heap.size w (grow (redrawn wr dq) osq) := hbw.trans (hrw9.mono hbw.size)
        generalize grow (redrawn wr dq) osq = w9 at hw9 hrw9 ⊢
        clear q_b0 q_b1 q_b2 q_b3 q_b4 q_b5 q_c0 q_c1 q_c2 q_c3 q_c4 q_c5 k_0 k_1
        go_wp2
        exact ⟨⟨k + 1, by omega, by congr 1, by rw [HN.out], hbl.trans (hrw9.mono hbl.size)⟩, by simp [intOf]; omega⟩
    · obtain rfl : k = x.ar.length := by omega
      go_wp2
      go_ret
      exact ⟨rfl, hbw⟩
end Go.Proofs.YtoimjcfdiljkjaaGreatDoor
namespace Go.Proofs.YtoimjcfdiljkjaaGreatDoor
open Go.RowKit Go.Sort
def nmC (l : List ByteArray) : List Value := l.map Value.string
def RdN (w : World) (B : Nat) (A : Option Addr) (l : List ByteArray) : Prop := l ≠ [] → ∃ ad, A = some ad ∧ ad.block < B ∧ ∀ (i : Nat) (y : ByteArray), l[i]? = some y → w.cell? (ad.add i) = some (.string y)
theorem RdN.to {w W : World} {A : Option Addr} {l : List ByteArray} (h : RdN w w.heap.size A l) (hb : Below w.heap.size w W) : RdN W W.heap.size A l := fun hn => by
  obtain ⟨ad, e, hB, hc⟩ := h hn
  have hs := hb.size
  exact ⟨ad, e, by omega, fun i t ht => (hb.cell (by rw [add_block]; exact hB)).trans (hc i t ht)⟩
theorem RdN.at_ {w : World} {B : Nat} {A : Option Addr} {l : List ByteArray} (h : RdN w B A l) {k : Nat} (hk : k < l.length) : ∃ ad y, A = some ad ∧ ad.block < B ∧ l[k]? = some y ∧ w.cell? (ad.add k) = some (.string y) := by
  have he : l[k]? = some l[k] := List.getElem?_eq_getElem hk
  obtain ⟨ad, e, hb, hc⟩ := h (by rintro rfl; simp at hk)
  exact ⟨ad, _, e, hb, he, hc k _ he⟩
theorem RdN.of_own {w : World} {base : Nat} {e : TypeId} {A : Option Addr} {c : Nat} {l : List ByteArray} (h : w.ownsRow base e 1 (.slice A l.length c) l.length (nmC l)) : RdN w w.heap.size A l := fun hn => by
  rcases h.2 with ⟨h1, h2⟩ | ⟨g, cap, cur, h1, h2, h3, h4, h5, h6, h7⟩
  · exact absurd (List.length_eq_zero_iff.1 h2) hn
  · have hA : A = some ⟨g, 0, none⟩ := by injection h1
    subst hA
    refine ⟨_, rfl, (Array.getElem?_eq_some_iff.1 h3).1, fun i y hy => ?_⟩
    have hj : (nmC l)[i]? = some (.string y) := by rw [nmC, List.getElem?_map, hy]; rfl
    rw [(add_add6 g i 0).2.2, cell_of_row w g i cur _ (0, 0) h3]
    rw [← h7, List.getElem?_take] at hj
    split at hj
    · rw [← Array.getElem?_toList]; exact hj
    · cases hj
end Go.Proofs.YtoimjcfdiljkjaaGreatDoor
namespace Go.Proofs.YtoimjcfdiljkjaaGreatDoor
open Go.RowKit Go.Sort
def LqR (T : TypeId) (z : Nat) (w : World) (B : Nat) (v : Value) (n : Nat) (xs : List Value) (w' : World) (v' : Value) : Prop := w'.ownsRow B T z v' n xs ∧ w.grownBy w' v.ownBlock ∧ (v'.ownBlock = v.ownBlock ∨ ∃ j, v'.ownBlock = some j ∧ w.heap.size ≤ j)
def LqI (T : TypeId) (z : Nat) (w : World) (x : Xt) (B : Nat) (ob : Option Nat) (n : Nat) (xs : List Value) (v : Value) (wr : World) : Prop := wr.ownsRow B T z v n xs ∧ (bxW w x).grownBy wr ob ∧ (v.ownBlock = ob ∨ ∃ j, v.ownBlock = some j ∧ (bxW w x).heap.size ≤ j)
theorem LqI.open_ {T : TypeId} {z : Nat} {w wr : World} {x : Xt} {B n : Nat} {ob : Option Nat} {xs : List Value} {v : Value} (h : LqI T z w x B ob n xs v wr) (hB : B ≤ w.heap.size) (hl : ∀ j, ob = some j → B ≤ j ∧ j < w.heap.size) :
    Below B w wr ∧ (wr.cell? ⟨w.heap.size, 0, none⟩ = some (.int .i64 x.k) ∧ wr.cell? ⟨w.heap.size, 1, none⟩ = some (.int .i64 x.op) ∧ wr.cell? ⟨w.heap.size, 2, none⟩ = some (.int .i64 x.t) ∧ wr.cell? ⟨w.heap.size, 3, none⟩ = some (.int .i64 x.v) ∧ wr.cell? ⟨w.heap.size, 4, none⟩ = some (.string x.nm) ∧ wr.cell? ⟨w.heap.size, 5, none⟩ = some (.slice x.A x.ar.length x.c)) ∧ w.heap.size < wr.heap.size := by
  obtain ⟨_, hg, _⟩ := h
  have hz := hg.size
  rw [bxW_size] at hz
  have hne : some w.heap.size ≠ ob := fun e => by have := (hl _ e.symm).2; omega
  refine ⟨Below.grown ((bel_box _).mono hB) hg (by rw [bxW_size]; omega) (fun j hj => (hl j hj).1), ⟨?_, ?_, ?_, ?_, ?_, ?_⟩, by omega⟩ <;> exact hg.cell (by simp [go_sem]) hne
theorem LqI.next {T : TypeId} {z : Nat} {w wr w1 : World} {x : Xt} {B n m : Nat} {ob : Option Nat} {xs ys : List Value} {v v' : Value} (h : LqI T z w x B ob n xs v wr) (k : LqR T z wr B v m ys w1 v') : LqI T z w x B ob m ys v' w1 := by
  obtain ⟨_, hg, ha⟩ := h
  obtain ⟨k1, k2, k3⟩ := k
  have hz := hg.size
  refine ⟨k1, hg.andThen k2 fun j hj => ?_, ?_⟩
  · rcases ha with ha | ⟨j', e, hj'⟩
    · exact .inr (ha.symm.trans hj)
    · rw [e] at hj
      exact .inl (by have := Option.some.inj hj; omega)
  · rcases k3 with k3 | ⟨j, e, hj⟩
    · rw [k3]; exact ha
    · exact .inr ⟨j, e, by omega⟩
theorem LqI.first {T : TypeId} {z : Nat} {w W w3 : World} {x : Xt} {B m : Nat} {ob : Option Nat} {ys : List Value} {v' : Value} (hW : Below (bxW w x).heap.size (bxW w x) W) (h1 : w3.ownsRow B T z v' m ys) (h2 : W.grownBy w3 ob) (h3 : v'.ownBlock = ob ∨ v'.ownBlock = some W.heap.size) : LqI T z w x B ob m ys v' w3 := by
  refine ⟨h1, ?_, h3.imp id fun e => ⟨_, e, hW.size⟩⟩
  exact ((below_grown hW).but ob).andThen h2 fun j hj => .inr hj
theorem LqI.last {T : TypeId} {z : Nat} {w wr : World} {x : Xt} {B n : Nat} {v0 : Value} {xs : List Value} {v : Value} (h : LqI T z w x B v0.ownBlock n xs v wr) : LqR T z w B v0 n xs wr v := by
  obtain ⟨h1, h2, h3⟩ := h
  refine ⟨h1, (World.grownBy_alloc w _ _).trans h2, h3.imp id fun ⟨j, e, hj⟩ => ⟨j, e, by rw [bxW_size] at hj; omega⟩⟩
theorem stInfo : (Tryz.prog.info? 9).map (fun i => (i.zero, i.size, i.bytes)) = some (some (.string ⟨#[]⟩), 1, 16) := by kernel_rfl
theorem row1 (W : World) (nm : ByteArray) (t : TypeId) : ∀ j u, [Value.string nm][j]? = some u → (W.alloc (.cells #[.string nm] t)).cell? ((⟨W.heap.size, 0, none⟩ : Addr).add j) = some u := by
  intro j u hu
  rcases j with _ | j
  · obtain rfl : Value.string nm = u := by simpa using hu
    rw [show (Addr.add ⟨W.heap.size, 0, none⟩ 0) = ⟨W.heap.size, 0, none⟩ from rfl]
    simp [go_sem]
  · simp at hu
end Go.Proofs.YtoimjcfdiljkjaaGreatDoor
namespace Go.Proofs.YtoimjcfdiljkjaaGreatDoor
open Go.RowKit Go.Sort
theorem rdr_own {w : World} {base : Nat} {e : TypeId} {A : Option Addr} {c : Nat} {l : List ByteArray} (h : w.ownsRow base e 1 (.slice A l.length c) l.length (nmC l)) : RdR w w.heap.size 1 BC ⟨A, c, l⟩ := by
  refine ⟨fun hn => ?_, fun ad i y hA hy => ?_, ?_, ?_⟩
  · obtain ⟨ad, e, hb, _⟩ := RdN.of_own h hn
    exact ⟨ad, e, hb⟩
  · obtain ⟨ad', e, _, hc⟩ := RdN.of_own h (by rintro rfl; simp at hy)
    obtain rfl : ad = ad' := Option.some.inj (hA.symm.trans e)
    unfold BC
    rw [Nat.mul_one]
    exact hc i y hy
  · rcases h.2 with ⟨_, h2⟩ | ⟨g, cap, cur, h1, _, _, h4, h5, _⟩
    · show l.length ≤ _
      omega
    · show l.length ≤ _
      omega
  · rcases h.2 with ⟨_, h2⟩ | ⟨g, cap, cur, h1, _, _, h4, h5, _⟩
    · show l.length ≤ _
      omega
    · show l.length ≤ c
      injection h1
      omega
theorem tbm (ts : List (List UInt8)) : (ts.map tB).map bsT = ts := by
  rw [List.map_map]
  have : (bsT ∘ tB) = id := funext fun l => bsT_tB l
  rw [this, List.map_id]
theorem nm_next {ts : List (List UInt8)} {k : Nat} {s : List UInt8} (h : ts[k]? = some s) : nmC (((ts.take k).map tB)) ++ [Value.string (tB s)] = nmC ((ts.take (k + 1)).map tB) := by
  rw [List.take_add_one, h, List.map_append, nmC, nmC, List.map_append]
  rfl
def TOwn (B : Nat) (ts : List (List UInt8)) (v : Value) (k : Nat) (W : World) : Prop := W.ownsRow B 9 1 v k (nmC ((ts.take k).map tB))
theorem vr_listO (B : Nat) (ts : List (List UInt8)) (v : Value) (sep : ByteArray) (W : World) {n : Nat} (hn : n = ts.length) (h : TOwn B ts v n W) (hlen : (Lib.join ts (bsT sep)).length ≤ 140737488355328) :
    Hid (∀ W', Below W.heap.size W W' → Calls Tryz.prog 29 #[v, .string sep] W' (Bel (.string (tB (Lib.join ts (bsT sep)))) W')) := Lib.hid fun W' hb => by
  unfold TOwn at h
  subst hn
  obtain ⟨A, c, rfl⟩ := own_form6 h
  rw [List.take_length] at h
  have hl : (ts.map tB).length = ts.length := List.length_map _
  have h2 : W.ownsRow B 9 1 (.slice A (ts.map tB).length c) (ts.map tB).length (nmC (ts.map tB)) := by rw [hl]; exact h
  have hr := (rdr_own h2).blw oneB_B hb hb.size
  have := vr_list ⟨A, c, ts.map tB⟩ sep W' hr (by rw [tbm]; exact hlen)
  rw [tbm] at this
  show Calls Tryz.prog 29 #[.slice A ts.length c, .string sep] W' _
  rw [← hl]
  exact this
set_option maxHeartbeats 2000000 in
set_option maxRecDepth 20000 in
theorem vr_call (E : Rw va.En) (x : Xt) (f : Xt → List UInt8) (w : World) (hx : RdX w w.heap.size x) (hk : x.k = 10) (hw : wf1 x) (hl : x.ar.length ≤ 1048576)
    (KX : Hid (∀ y ∈ x.ar, ∀ W, Below w.heap.size w W → Calls Tryz.prog 38 #[.slice E.A E.l.length E.c, xV y] W (Bel (.string (tB (f y))) W))) (h : (calS x.v x.nm x.ar (x.ar.map f)).length ≤ 140737488355328) :
    Calls Tryz.prog 75 #[.slice E.A E.l.length E.c, xV x] w (Bel (.string (tB (calS x.v x.nm x.ar (x.ar.map f)))) w) := by
  have hv := hw.2.2.2.2.2 hk
  obtain ⟨i0, hi, iz, is, ib⟩ := info_parts stInfo
  have hcap := hx.cap
  have hAn : x.A = none → x.ar.length = 0 := fun e => by
    rcases Nat.eq_zero_or_pos x.ar.length with h0 | h0
    · exact h0
    · obtain ⟨ad, y, hA, _⟩ := hx.at_ h0
      rw [e] at hA
      cases hA
  clear hw hk
  unfold calS at h ⊢
  rw [List.length_map] at h ⊢
  rw [← List.map_take] at h ⊢
  by_cases v0 : x.v = 0
  · have hz : x.ar.length - x.v.toNat = x.ar.length := by rw [v0]; rfl
    rw [hz, if_neg (by omega), List.append_nil] at h ⊢
    obtain ⟨ts, hts⟩ : ∃ q, (x.ar.take x.ar.length).map f = q := ⟨_, rfl⟩
    have htl : ts.length = x.ar.length := by rw [← hts]; simp only [List.length_map, List.length_take]; omega
    have HS : Hid (∀ k y, k < x.ar.length → x.ar[k]? = some y → ts[k]? = some (f y)) := Lib.hid fun k y hk1 hy => by rw [← hts, List.getElem?_map, List.getElem?_take_of_lt hk1, hy]; rfl
    rw [hts] at h ⊢
    obtain ⟨jj, hjj⟩ : ∃ q, Lib.join ts [44, 32] = q := ⟨_, rfl⟩
    rw [hjj] at h ⊢
    unfold brS at h ⊢
    have hjl : jj.length ≤ 140737488355328 := by simp only [List.length_append] at h; omega
    have KJ := Lib.hid (fun v W (hT : TOwn (w.heap.size + 1) ts v x.ar.length W) => vr_listO (w.heap.size + 1) ts v ⟨#[44, 32]⟩ W htl.symm hT (by show (Lib.join ts [44, 32]).length ≤ _; rw [hjj]; exact hjl))
    have e44 : Lib.join ts (bsT ⟨#[44, 32]⟩) = jj := hjj
    rw [e44] at KJ
    obtain ⟨z1, hz1⟩ : ∃ q, (bsT x.nm) ++ ([40]) = q := ⟨_, rfl⟩
    have lz1 := congrArg List.length hz1
    rw [List.length_append] at lz1
    obtain ⟨z2, hz2⟩ : ∃ q, (z1) ++ (jj) = q := ⟨_, rfl⟩
    have lz2 := congrArg List.length hz2
    rw [List.length_append] at lz2
    obtain ⟨z3, hz3⟩ : ∃ q, (z2) ++ ([41]) = q := ⟨_, rfl⟩
    have lz3 := congrArg List.length hz3
    rw [List.length_append] at lz3
    have heq : z3 = bsT x.nm ++ ([40] ++ jj ++ [41]) := by
      subst hz1 hz2 hz3
      simp only [List.append_assoc, List.cons_append, List.nil_append]
    have hll : z3.length ≤ 140737488355328 := by rw [heq]; exact h
    have kaz1 := fun w => add_tB (P := Tryz.prog) w (A := x.nm) (B := ⟨#[40]⟩) (tB_bsT _).symm rfl hz1 (by (try simp only [List.length_cons, List.length_nil] at *); omega)
    have kaz2 := fun w => add_tB (P := Tryz.prog) w (A := tB z1) (B := tB jj) rfl rfl hz2 (by (try simp only [List.length_cons, List.length_nil] at *); omega)
    have kaz3 := fun w => add_tB (P := Tryz.prog) w (A := tB z2) (B := ⟨#[41]⟩) rfl rfl hz3 (by (try simp only [List.length_cons, List.length_nil] at *); omega)
    have HZ := Lib.hid heq
    clear heq hll hz1 hz2 hz3 lz1 lz2 lz3
    have q0 : (x.v == 1) = false := by simp [v0]
    have hlen : x.ar.length ≤ 9223372036854775807 := by omega
    have hcap2 : (x.ar.length : Int) ≤ (x.c : Int) := by omega
    rw [← HZ.out]
    have HX := Lib.hid hx
    have HTL := Lib.hid htl
    clear h hjl hjj HZ hz hv hts htl hx hAn e44 v0
    simp only [xV] at KX ⊢
    go_enter Tryz.func75, Tryz.ntmps75
    go_wp2
    obtain ⟨W0, hW0⟩ : ∃ W0, (w.alloc (.cells #[.int .i64 x.k, .int .i64 x.op, .int .i64 x.t, .int .i64 x.v, .string x.nm, .slice x.A x.ar.length x.c] 33)) = W0 := ⟨_, rfl⟩
    have hB0 : Below w.heap.size w W0 := by rw [← hW0]; exact bel_box _
    have b0 : W0.cell? ⟨w.heap.size, 0, none⟩ = some (.int .i64 x.k) := by rw [← hW0]; simp [go_sem]
    have b1 : W0.cell? ⟨w.heap.size, 1, none⟩ = some (.int .i64 x.op) := by rw [← hW0]; simp [go_sem]
    have b2 : W0.cell? ⟨w.heap.size, 2, none⟩ = some (.int .i64 x.t) := by rw [← hW0]; simp [go_sem]
    have b3 : W0.cell? ⟨w.heap.size, 3, none⟩ = some (.int .i64 x.v) := by rw [← hW0]; simp [go_sem]
    have b4 : W0.cell? ⟨w.heap.size, 4, none⟩ = some (.string x.nm) := by rw [← hW0]; simp [go_sem]
    have b5 : W0.cell? ⟨w.heap.size, 5, none⟩ = some (.slice x.A x.ar.length x.c) := by rw [← hW0]; simp [go_sem]
    have HW0 := Lib.hid hW0
    clear hW0
    have hz0 : W0.heap.size = w.heap.size + 1 := by rw [← HW0.out]; simp only [World.size_alloc]
    rw [HW0.out]
    rw [← hz0] at KJ
    have HT0 : Hid (TOwn W0.heap.size ts (.slice none 0 0) 0 W0) := Lib.hid (World.ownsRow_nil _ _ _ _)
    clear HW0 hz0
    go_loopw [6, 7] (fun v i wr => ∃ k : Nat, k ≤ x.ar.length ∧ i = .int .i64 (k : Int) ∧ Hid (TOwn W0.heap.size ts v k wr) ∧ Below W0.heap.size W0 wr) (fun _ i _ => x.ar.length - (intOf i).toNat)
    case atStart => exact ⟨0, by omega, rfl, HT0, Below.refl _ _⟩
    case round =>
      clear HT0
      obtain ⟨k, hk, rfl, hown, hbl⟩ := hrel
      have hsz := hbl.size
      have hbw : Below w.heap.size w wr := hB0.trans (hbl.mono hB0.size)
      have b0 := cell_below hbl b0
      have b1 := cell_below hbl b1
      have b2 := cell_below hbl b2
      have b3 := cell_below hbl b3
      have b4 := cell_below hbl b4
      have b5 := cell_below hbl b5
      by_cases hlt : k < x.ar.length
      · obtain ⟨ad, y, hA, had, hy, hm, ⟨c0, c1, c2, c3, c4, c5⟩, _⟩ := (HX.out.to hbw).at_ (i := k) (by omega)
        have KY := Lib.hid (KX.out y hm)
        have hs := HS.out k y hlt hy
        rw [hA]
        clear hy hm HS KX hA
        generalize f y = s at *
        have HSS := Lib.hid hs
        clear hs
        have hcap9 : k + 1 ≤ 1048576 := by omega
        go_wp2_with (first | (go_at_call 38; (with_reducible refine (KY.out _ ?_).mono ?_); (exact bl); rintro e w1 ⟨rfl, hb1⟩; have hz1 := hb1.size) | (at_builtin; (refine wpList_append_own_at _ rfl _ _ 51 rfl W0.heap.size 9 i0 (.string ⟨#[]⟩) 1 16 Tryz.underlying51 hi iz is ib rfl (by decide) _ k (nmC ((ts.take k).map tB)) rfl (own_keep6 hown.out ?_) ⟨w1.heap.size, 0, none⟩ 1 1 [.string (tB s)] rfl rfl (row1 _ _ _) (by intro u hu; obtain rfl := List.mem_singleton.1 hu; rfl) (by unfold maxLen; omega) (by omega) ?_ ?_; (exact bl); (focus (simp; omega)); intro v3 w3 hown3 hgrow3 _ hat3)))
        have hb3 : Below W0.heap.size W0 w3 := Below.grown (w := w1.alloc (.cells #[.string (tB s)] 9)) bl hgrow3 (by simp; omega) (fun j hj => (hown.out.lt j hj).1)
        rw [nm_next HSS.out] at hown3
        exact ⟨⟨k + 1, by omega, by congr 1, Lib.hid hown3, hb3⟩, by simp [intOf]; omega⟩
      · obtain rfl : k = x.ar.length := by omega
        have KL := KJ.out _ _ hown.out
        have hrf : Below wr.heap.size wr wr := Below.refl _ _
        clear hown
        go_wp2
        have q_b4 := cell_regrown b4
        have k_0 := fun dd os => Calls.regrown_of (KL.out (grow (redrawn wr dd) os) (hrf.trans ((below_regrown wr dd os).mono hrf.size)))
        refine wp_region_quiet_below (by kernel_rfl) (by kernel_rfl) ?_
        repeat (quiet_step (first | with_reducible exact k_0 _ _))
        refine wpQuiet_nil ?_
        intro _ hw'
        obtain ⟨⟨dq, osq⟩, hw''⟩ := hw'
        subst hw''
        have hrw9 : Below wr.heap.size wr (grow (redrawn wr dq) osq) := below_regrown wr dq osq
        have hw9 : Below wr.heap.size wr (grow (redrawn wr dq) osq) := hrf.trans (hrw9.mono hrf.size)
        generalize grow (redrawn wr dq) osq = w9 at hw9 hrw9 ⊢
        clear q_b4 k_0
        have hb9 : Below w.heap.size w w9 := hbw.trans (hw9.mono hbw.size)
        have b0 := cell_below hw9 b0
        have b1 := cell_below hw9 b1
        have b2 := cell_below hw9 b2
        have b3 := cell_below hw9 b3
        have b4 := cell_below hw9 b4
        have b5 := cell_below hw9 b5
        go_wp2
        go_ret
        exact ⟨rfl, hb9⟩
  · have v1 : x.v = 1 := by omega
    have hp : 0 < x.ar.length := by omega
    obtain ⟨n, hn⟩ : ∃ n, x.ar.length = n + 1 := ⟨x.ar.length - 1, by omega⟩
    have hz : x.ar.length - x.v.toNat = n := by rw [v1, hn]; rfl
    obtain ⟨a0, h0⟩ := at_of (l := x.ar) (i := n) (by omega)
    rw [hz, if_pos v1, show x.ar.length - 1 = n by omega, opI_at h0] at h ⊢
    obtain ⟨ts, hts⟩ : ∃ q, (x.ar.take n).map f = q := ⟨_, rfl⟩
    have htl : ts.length = n := by rw [← hts]; simp only [List.length_map, List.length_take]; omega
    have HS : Hid (∀ k y, k < n → x.ar[k]? = some y → ts[k]? = some (f y)) := Lib.hid fun k y hk1 hy => by rw [← hts, List.getElem?_map, List.getElem?_take_of_lt hk1, hy]; rfl
    rw [hts] at h ⊢
    obtain ⟨jj, hjj⟩ : ∃ q, Lib.join ts [44, 32] = q := ⟨_, rfl⟩
    rw [hjj] at h ⊢
    unfold brS at h ⊢
    have hjl : jj.length ≤ 140737488355328 := by simp only [List.length_append] at h; omega
    have KJ := Lib.hid (fun v W (hT : TOwn (w.heap.size + 1) ts v n W) => vr_listO (w.heap.size + 1) ts v ⟨#[44, 32]⟩ W htl.symm hT (by show (Lib.join ts [44, 32]).length ≤ _; rw [hjj]; exact hjl))
    have e44 : Lib.join ts (bsT ⟨#[44, 32]⟩) = jj := hjj
    rw [e44] at KJ
    have hol : (opdS a0 (f a0)).length ≤ 140737488355328 := by simp only [List.length_append] at h; omega
    have KO : Hid (∀ W, Below w.heap.size w W → Calls Tryz.prog 74 #[.slice E.A E.l.length E.c, xV a0] W (Bel (.string (tB (opdS a0 (f a0)))) W)) := Lib.hid fun W hb => vr_operand E a0 (f a0) W hol (Lib.hid fun W' hb' => KX.out a0 (List.mem_of_getElem? h0) W' (hb.trans (hb'.mono hb.size)))
    generalize opdS a0 (f a0) = oo at *
    obtain ⟨z1, hz1⟩ : ∃ q, (bsT x.nm) ++ ([40]) = q := ⟨_, rfl⟩
    have lz1 := congrArg List.length hz1
    rw [List.length_append] at lz1
    obtain ⟨z2, hz2⟩ : ∃ q, (z1) ++ (jj) = q := ⟨_, rfl⟩
    have lz2 := congrArg List.length hz2
    rw [List.length_append] at lz2
    obtain ⟨z3, hz3⟩ : ∃ q, (z2) ++ ([41]) = q := ⟨_, rfl⟩
    have lz3 := congrArg List.length hz3
    rw [List.length_append] at lz3
    obtain ⟨z4, hz4⟩ : ∃ q, (z3) ++ ([32, 101, 118, 101, 114, 121, 32]) = q := ⟨_, rfl⟩
    have lz4 := congrArg List.length hz4
    rw [List.length_append] at lz4
    obtain ⟨z5, hz5⟩ : ∃ q, (z4) ++ (oo) = q := ⟨_, rfl⟩
    have lz5 := congrArg List.length hz5
    rw [List.length_append] at lz5
    have heq : z5 = bsT x.nm ++ ([40] ++ jj ++ [41]) ++ ([32, 101, 118, 101, 114, 121, 32] ++ oo) := by
      subst hz1 hz2 hz3 hz4 hz5
      simp only [List.append_assoc, List.cons_append, List.nil_append]
    have hll : z5.length ≤ 140737488355328 := by rw [heq]; exact h
    have kaz1 := fun w => add_tB (P := Tryz.prog) w (A := x.nm) (B := ⟨#[40]⟩) (tB_bsT _).symm rfl hz1 (by (try simp only [List.length_cons, List.length_nil] at *); omega)
    have kaz2 := fun w => add_tB (P := Tryz.prog) w (A := tB z1) (B := tB jj) rfl rfl hz2 (by (try simp only [List.length_cons, List.length_nil] at *); omega)
    have kaz3 := fun w => add_tB (P := Tryz.prog) w (A := tB z2) (B := ⟨#[41]⟩) rfl rfl hz3 (by (try simp only [List.length_cons, List.length_nil] at *); omega)
    have kaz4 := fun w => add_tB (P := Tryz.prog) w (A := tB z3) (B := ⟨#[32, 101, 118, 101, 114, 121, 32]⟩) rfl rfl hz4 (by (try simp only [List.length_cons, List.length_nil] at *); omega)
    have kaz5 := fun w => add_tB (P := Tryz.prog) w (A := tB z4) (B := tB oo) rfl rfl hz5 (by (try simp only [List.length_cons, List.length_nil] at *); omega)
    have HZ := Lib.hid heq
    clear heq hll hz1 hz2 hz3 hz4 hz5 lz1 lz2 lz3 lz4 lz5
    have q0 : (x.v == 1) = true := by simp [v1]
    have hlen : x.ar.length ≤ 9223372036854775807 := by omega
    have hcap2 : (x.ar.length : Int) ≤ (x.c : Int) := by omega
    have hvv : (x.ar.length : Int) - 1 = (n : Int) := by omega
    have hcap3 : (n : Int) ≤ (x.c : Int) := by omega
    have hcap4 : n ≤ x.c := by omega
    have hcap5 : (n : Int) ≤ (x.ar.length : Int) := by omega
    have hin : (n : Int) < (x.ar.length : Int) := by omega
    have hin2 : n < x.ar.length := by omega
    rw [← HZ.out]
    have HN := Lib.hid hn
    have HX := Lib.hid hx
    have HTL := Lib.hid htl
    clear h hjl hjj HZ hz hv hts htl hx hAn e44 v0 v1 hn hol
    simp only [xV] at KO KX ⊢
    go_enter Tryz.func75, Tryz.ntmps75
    go_wp2
    obtain ⟨W0, hW0⟩ : ∃ W0, (w.alloc (.cells #[.int .i64 x.k, .int .i64 x.op, .int .i64 x.t, .int .i64 x.v, .string x.nm, .slice x.A x.ar.length x.c] 33)) = W0 := ⟨_, rfl⟩
    have hB0 : Below w.heap.size w W0 := by rw [← hW0]; exact bel_box _
    have b0 : W0.cell? ⟨w.heap.size, 0, none⟩ = some (.int .i64 x.k) := by rw [← hW0]; simp [go_sem]
    have b1 : W0.cell? ⟨w.heap.size, 1, none⟩ = some (.int .i64 x.op) := by rw [← hW0]; simp [go_sem]
    have b2 : W0.cell? ⟨w.heap.size, 2, none⟩ = some (.int .i64 x.t) := by rw [← hW0]; simp [go_sem]
    have b3 : W0.cell? ⟨w.heap.size, 3, none⟩ = some (.int .i64 x.v) := by rw [← hW0]; simp [go_sem]
    have b4 : W0.cell? ⟨w.heap.size, 4, none⟩ = some (.string x.nm) := by rw [← hW0]; simp [go_sem]
    have b5 : W0.cell? ⟨w.heap.size, 5, none⟩ = some (.slice x.A x.ar.length x.c) := by rw [← hW0]; simp [go_sem]
    have HW0 := Lib.hid hW0
    clear hW0
    have hz0 : W0.heap.size = w.heap.size + 1 := by rw [← HW0.out]; simp only [World.size_alloc]
    rw [HW0.out]
    rw [← hz0] at KJ
    have HT0 : Hid (TOwn W0.heap.size ts (.slice none 0 0) 0 W0) := Lib.hid (World.ownsRow_nil _ _ _ _)
    clear HW0 hz0
    go_loopw [6, 7] (fun v i wr => ∃ k : Nat, k ≤ n ∧ i = .int .i64 (k : Int) ∧ Hid (TOwn W0.heap.size ts v k wr) ∧ Below W0.heap.size W0 wr) (fun _ i _ => n - (intOf i).toNat)
    case atStart => exact ⟨0, by omega, rfl, HT0, Below.refl _ _⟩
    case round =>
      clear HT0
      obtain ⟨k, hk, rfl, hown, hbl⟩ := hrel
      have hsz := hbl.size
      have hbw : Below w.heap.size w wr := hB0.trans (hbl.mono hB0.size)
      have b0 := cell_below hbl b0
      have b1 := cell_below hbl b1
      have b2 := cell_below hbl b2
      have b3 := cell_below hbl b3
      have b4 := cell_below hbl b4
      have b5 := cell_below hbl b5
      by_cases hlt : k < n
      · obtain ⟨ad, y, hA, had, hy, hm, ⟨c0, c1, c2, c3, c4, c5⟩, _⟩ := (HX.out.to hbw).at_ (i := k) (by omega)
        have KY := Lib.hid (KX.out y hm)
        have hs := HS.out k y hlt hy
        rw [hA]
        clear hy hm HS KX hA
        generalize f y = s at *
        have HSS := Lib.hid hs
        clear hs
        have hcap9 : k + 1 ≤ 1048576 := by omega
        go_wp2_with (first | (go_at_call 38; (with_reducible refine (KY.out _ ?_).mono ?_); (exact bl); rintro e w1 ⟨rfl, hb1⟩; have hz1 := hb1.size) | (at_builtin; (refine wpList_append_own_at _ rfl _ _ 51 rfl W0.heap.size 9 i0 (.string ⟨#[]⟩) 1 16 Tryz.underlying51 hi iz is ib rfl (by decide) _ k (nmC ((ts.take k).map tB)) rfl (own_keep6 hown.out ?_) ⟨w1.heap.size, 0, none⟩ 1 1 [.string (tB s)] rfl rfl (row1 _ _ _) (by intro u hu; obtain rfl := List.mem_singleton.1 hu; rfl) (by unfold maxLen; omega) (by omega) ?_ ?_; (exact bl); (focus (simp; omega)); intro v3 w3 hown3 hgrow3 _ hat3)))
        have hb3 : Below W0.heap.size W0 w3 := Below.grown (w := w1.alloc (.cells #[.string (tB s)] 9)) bl hgrow3 (by simp; omega) (fun j hj => (hown.out.lt j hj).1)
        rw [nm_next HSS.out] at hown3
        exact ⟨⟨k + 1, by omega, by congr 1, Lib.hid hown3, hb3⟩, by simp [intOf]; omega⟩
      · obtain rfl : k = n := by omega
        have KL := KJ.out _ _ hown.out
        have hrf : Below wr.heap.size wr wr := Below.refl _ _
        clear hown
        go_wp2
        have q_b4 := cell_regrown b4
        have k_0 := fun dd os => Calls.regrown_of (KL.out (grow (redrawn wr dd) os) (hrf.trans ((below_regrown wr dd os).mono hrf.size)))
        refine wp_region_quiet_below (by kernel_rfl) (by kernel_rfl) ?_
        repeat (quiet_step (first | with_reducible exact k_0 _ _))
        refine wpQuiet_nil ?_
        intro _ hw'
        obtain ⟨⟨dq, osq⟩, hw''⟩ := hw'
        subst hw''
        have hrw9 : Below wr.heap.size wr (grow (redrawn wr dq) osq) := below_regrown wr dq osq
        have hw9 : Below wr.heap.size wr (grow (redrawn wr dq) osq) := hrf.trans (hrw9.mono hrf.size)
        generalize grow (redrawn wr dq) osq = w9 at hw9 hrw9 ⊢
        clear q_b4 k_0
        have hb9 : Below w.heap.size w w9 := hbw.trans (hw9.mono hbw.size)
        have b0 := cell_below hw9 b0
        have b1 := cell_below hw9 b1
        have b2 := cell_below hw9 b2
        have b3 := cell_below hw9 b3
        have b4 := cell_below hw9 b4
        have b5 := cell_below hw9 b5
        obtain ⟨ad0, y0, hA0, had0, hy0, _, ⟨c00, c01, c02, c03, c04, c05⟩, _⟩ := (HX.out.to hb9).at_ (i := k) (by omega)
        obtain rfl : y0 = a0 := Option.some.inj (hy0.symm.trans h0)
        rw [hA0] at b5
        clear hA0 hy0 h0
        go_wp2_with ((go_at_call 74; (with_reducible refine (KO.out _ ?_).mono ?_); (exact bl); rintro e w10 ⟨rfl, hb10⟩))
        go_ret
        exact ⟨rfl, hb9.trans (Below.mono bl hb9.size)⟩
set_option maxHeartbeats 2000000 in
set_option maxRecDepth 20000 in
theorem vr_text10 (E : Rw va.En) (x : Xt) (f : Xt → List UInt8) (w : World) (hE : RsE w w.heap.size E) (hx : RdX w w.heap.size x) (hxt : x.t ≤ 9223372036854775807) (hl : x.ar.length ≤ 1048576) (hw : wf1 x)
    (KX : Hid (∀ y ∈ x.ar, ∀ W, Below w.heap.size w W → Calls Tryz.prog 38 #[.slice E.A E.l.length E.c, xV y] W (Bel (.string (tB (f y))) W))) (h : (ndS E.l x (x.ar.map f)).length ≤ 140737488355328) (hk : x.k = 10) :
    Calls Tryz.prog 38 #[.slice E.A E.l.length E.c, xV x] w (Bel (.string (tB (ndS E.l x (x.ar.map f)))) w) := by
  unfold ndS at h ⊢
  rw [if_neg (by omega), if_neg (by omega), if_neg (by omega), if_neg (by omega), if_neg (by omega), if_neg (by omega), if_neg (by omega), if_neg (by omega), if_pos hk] at h ⊢
  have KO : Hid (∀ W, Below w.heap.size w W → Calls Tryz.prog 75 #[.slice E.A E.l.length E.c, xV x] W (Bel (.string (tB (calS x.v x.nm x.ar (x.ar.map f)))) W)) := Lib.hid fun W hb => vr_call E x f W (hx.to hb) hk hw hl (Lib.hid fun y hy W' hb' => KX.out y hy W' (hb.trans (hb'.mono hb.size))) h
  have qk0 : (x.k == 1) = false := by simp [hk]
  have qk1 : (x.k == 2) = false := by simp [hk]
  have qk2 : (x.k == 3) = false := by simp [hk]
  have qk3 : (x.k == 4) = false := by simp [hk]
  have qk4 : (x.k == 5) = false := by simp [hk]
  have qk5 : (x.k == 6) = false := by simp [hk]
  have qk6 : (x.k == 7) = false := by simp [hk]
  have qk7 : (x.k == 8) = false := by simp [hk]
  have qk8 : (x.k == 9) = false := by simp [hk]
  have qk9 : (x.k == 10) = true := by simp [hk]
  generalize calS x.v x.nm x.ar (x.ar.map f) = z at *
  clear hE hx KX h hw hk
  simp only [xV] at KO ⊢
  go_enter Tryz.func38, Tryz.ntmps38
  go_wp2_with (go_at_call 75; (with_reducible refine (KO.out _ ?_).mono ?_); (exact bl); rintro e w1 ⟨rfl, hb1⟩)
  go_ret
  exact ⟨rfl, bl⟩
def wfK (y : Xt) : Prop := wfX y ∧ (1 ≤ y.k ∧ y.k ≤ 11) ∧ y.ar.length ≤ 1048576
theorem vr_text (E : Rw va.En) : ∀ (x : Xt), (∀ y ∈ x.list, wfK y) → ∀ (w : World), RsE w w.heap.size E → RdX w w.heap.size x → (x.tx E.l).length ≤ 140737488355328 →
    Calls Tryz.prog 38 #[.slice E.A E.l.length E.c, xV x] w (Bel (.string (tB (x.tx E.l))) w) := by
  refine Xt.ind fun x ih hall w hE hx h => ?_
  rw [Xt.tx_eq] at h ⊢
  obtain ⟨⟨hw, hxt, _⟩, ⟨hk1, hk2⟩, hl⟩ := hall x (list_self x)
  by_cases hk : 3 ≤ x.k ∧ x.k ≤ 10
  · have KX : Hid (∀ y ∈ x.ar, ∀ W, Below w.heap.size w W → Calls Tryz.prog 38 #[.slice E.A E.l.length E.c, xV y] W (Bel (.string (tB (y.tx E.l))) W)) := Lib.hid fun y hy W hb =>
      ih y hy (fun z hz => hall z (list_kid hy hz)) W (hE.blw hb hb.size) ((hx.kid hy).to hb) (Nat.le_trans (kid_len E.l hw hk.1 hk.2 hy) h)
    have : x.k = 3 ∨ x.k = 4 ∨ x.k = 5 ∨ x.k = 6 ∨ x.k = 7 ∨ x.k = 8 ∨ x.k = 9 ∨ x.k = 10 := by omega
    rcases this with e | e | e | e | e | e | e | e
    · exact vr_text3 E x _ w hE hx hxt hl hw KX h e
    · exact vr_text4 E x _ w hE hx hxt hl hw KX h e
    · exact vr_text5 E x _ w hE hx hxt hl hw KX h e
    · exact vr_text6 E x _ w hE hx hxt hl hw KX h e
    · exact vr_text7 E x _ w hE hx hxt hl hw KX h e
    · exact vr_text8 E x _ w hE hx hxt hl hw KX h e
    · exact vr_text9 E x _ w hE hx hxt hl hw KX h e
    · exact vr_text10 E x _ w hE hx hxt hl hw KX h e
  · have : x.k = 1 ∨ x.k = 2 ∨ x.k = 11 := by omega
    rcases this with e | e | e
    · exact vr_text1 E x _ w hE hx hxt hl hw h e
    · exact vr_text2 E x _ w hE hx hxt hl hw h e
    · exact vr_text11 E x _ w hE hx hxt hl hw h e
end Go.Proofs.YtoimjcfdiljkjaaGreatDoor
namespace Go.Proofs.YtoimjcfdiljkjaaGreatDoor
open Go.RowKit Go.Sort
section
variable {P : Program}
theorem step_append_at (w : World) {ops : Array Oper} {o : Oper} {a : Act} {K : Act → World → Prop} {Q : Exit → Act → World → Prop} {E : Prop} (hgd : o.guard = none) (s x : Operand) (t : TypeId)
    (ho : o.op = .call { callee := .builtin .append, args := #[s, x], argTypes := #[t, t] })
    (base : Nat) (e : TypeId) (i : TypeInfo) (z : Value) (size bytes : Nat) (ht : P.underlying t = some (.slice e)) (hi : P.info? e = some i) (hz : i.zero = some z)
    (hsize : i.size = size) (hby : i.bytes = bytes) (hzs : z.cells.size = size) (hsz : 0 < size)
    (v : Value) (n : Nat) (xs : List Value) (hs : a.eval s = v) (hown : w.ownsRow base e size v n xs)
    (ad : Addr) (m c : Nat) (news : List Value) (hx : a.eval x = .slice (some ad) m c) (hl : news.length = m * size) (hnews : ∀ j u, news[j]? = some u → w.cell? (ad.add j) = some u) (h1 : ∀ u ∈ news, u.oneCell' = true)
    (h63 : n + m ≤ maxLen) (hbytes : (n + m) * bytes ≤ 140737488355328) (hbase : base ≤ w.heap.size)
    (h : ∀ v' w', w'.ownsRow base e size v' (n + m) (xs ++ news) → w.grownBy w' v.ownBlock → (v'.ownBlock = v.ownBlock ∨ v'.ownBlock = some w.heap.size) → K (a.put o.dst v') w') :
    if Region.wanted o (yielded ops a.tmps) = true then Oper.wp P o a w K Q else E := by
  have hw : Region.wanted o (yielded ops a.tmps) = true := by simp [Region.wanted, hgd]
  rw [if_pos hw]
  obtain ⟨v', w', hr, h2, h3, _, h5⟩ := run_append_own_at (P := P) w base t o.type e i z size bytes ht hi hz hsize hby hzs hsz v n xs hown ad m c news hl hnews h1 h63 hbytes hbase
  unfold Oper.wp execOp
  simp only [ho, resolve, invoke, builtin, Sem.run_bind, Sem.run_pure, Result.andThen_ok, List.map_toArray, List.map_cons, List.map_nil, hs, hx, hr]
  exact h v' w' h2 h3 h5
end
set_option maxHeartbeats 2000000 in
set_option maxRecDepth 20000 in
theorem vr_clock (E : Rw va.En) (r : Rw Ot) (w : World) (hE : RsE w w.heap.size E) (hR : RsO w w.heap.size r) (hl : r.l.length ≤ 1048576) (h : (clkS E.l r.l).length ≤ 140737488355328) :
    Calls Tryz.prog 42 #[.slice E.A E.l.length E.c, .slice r.A r.l.length r.c] w (Bel (.string (tB (clkS E.l r.l))) w) := by
  obtain ⟨i0, hi, iz, is, ib⟩ := info_parts stInfo
  have HR := Lib.hid hR.1
  have KV : Hid (∀ y ∈ r.l, ∀ W, Below w.heap.size w W → Calls Tryz.prog 72 #[.slice E.A E.l.length E.c, .int .i64 y.t, .int .i64 y.tag] W (Bel (.string (tB (valS E.l y.t y.tag))) W)) := Lib.hid fun y hy W hb => vr_val E y.t y.tag W (hE.blw hb hb.size) (hR.2 y hy).2
  unfold clkS at h ⊢
  obtain ⟨ts, hts⟩ : ∃ q, r.l.map (smpS E.l) = q := ⟨_, rfl⟩
  have htl : ts.length = r.l.length := by rw [← hts]; simp
  have HS : Hid (∀ (k : Nat) y, r.l[k]? = some y → ts[k]? = some (smpS E.l y) ∧ (smpS E.l y).length ≤ 140737488355328) := Lib.hid fun k y hy => by
    have e : ts[k]? = some (smpS E.l y) := by rw [← hts, List.getElem?_map, hy]; rfl
    have hmem := List.mem_of_getElem? e
    refine ⟨e, Nat.le_trans (join_mem (sep := [32]) hmem) ?_⟩
    rw [← hts]; exact h
  rw [hts] at h ⊢
  have KJ := Lib.hid (fun v W (hT : TOwn w.heap.size ts v r.l.length W) => vr_listO w.heap.size ts v ⟨#[32]⟩ W htl.symm hT h)
  have e44 : Lib.join ts (bsT ⟨#[32]⟩) = Lib.join ts [32] := rfl
  rw [e44] at KJ
  generalize Lib.join ts [32] = jj at *
  have HT0 : Hid (TOwn w.heap.size ts (.slice none 0 0) 0 w) := Lib.hid (World.ownsRow_nil _ _ _ _)
  clear h hE hR hts htl e44
  go_enter Tryz.func42, Tryz.ntmps42
  go_wp2
  go_loopw [5, 6] (fun v i wr => ∃ k : Nat, k ≤ r.l.length ∧ i = .int .i64 (k : Int) ∧ Hid (TOwn w.heap.size ts v k wr) ∧ Below w.heap.size w wr) (fun _ i _ => r.l.length - (intOf i).toNat)
  case atStart => exact ⟨0, by omega, rfl, HT0, Below.refl _ _⟩
  case round =>
    clear HT0
    obtain ⟨k, hk, rfl, hown, hbl⟩ := hrel
    have hsz := hbl.size
    by_cases hlt : k < r.l.length
    · obtain ⟨ad, y, hA, had, hy, hm, ⟨c0, c1, c2⟩⟩ := (HR.out.blw oneB_O hbl hbl.size).at_ hlt
      have KY := Lib.hid (KV.out y hm)
      have HC : Hid (∀ W, Below w.heap.size w W → W.cell? (ad.add (k * 3)) = some (.string y.nm) ∧ W.cell? ⟨(ad.add (k * 3)).block, (ad.add (k * 3)).off + 1, none⟩ = some (.int .i64 y.t) ∧ W.cell? ⟨(ad.add (k * 3)).block, (ad.add (k * 3)).off + 2, none⟩ = some (.int .i64 y.tag)) := Lib.hid fun W hb => (HR.out.blw oneB_O hb hb.size).2.1 ad k y hA hy
      obtain ⟨hs, hsl⟩ := HS.out k y hy
      rw [hA]
      clear hy hm HS KV hA
      unfold smpS brS at hs hsl
      generalize valS E.l y.t y.tag = v at *
      obtain ⟨z1, hz1⟩ : ∃ q, ([119, 104, 101, 110, 32]) ++ (v) = q := ⟨_, rfl⟩
      have lz1 := congrArg List.length hz1
      rw [List.length_append] at lz1
      obtain ⟨z2, hz2⟩ : ∃ q, (z1) ++ ([40]) = q := ⟨_, rfl⟩
      have lz2 := congrArg List.length hz2
      rw [List.length_append] at lz2
      obtain ⟨z3, hz3⟩ : ∃ q, (z2) ++ (bsT y.nm) = q := ⟨_, rfl⟩
      have lz3 := congrArg List.length hz3
      rw [List.length_append] at lz3
      obtain ⟨z4, hz4⟩ : ∃ q, (z3) ++ ([41]) = q := ⟨_, rfl⟩
      have lz4 := congrArg List.length hz4
      rw [List.length_append] at lz4
      have heq : z4 = [119, 104, 101, 110, 32] ++ v ++ ([40] ++ bsT y.nm ++ [41]) := by
        subst hz1 hz2 hz3 hz4
        simp only [List.append_assoc, List.cons_append, List.nil_append]
      have hll : z4.length ≤ 140737488355328 := by rw [heq]; exact hsl
      have kaz1 := fun w => add_tB (P := Tryz.prog) w (A := ⟨#[119, 104, 101, 110, 32]⟩) (B := tB v) rfl rfl hz1 (by (try simp only [List.length_cons, List.length_nil] at *); omega)
      have kaz2 := fun w => add_tB (P := Tryz.prog) w (A := tB z1) (B := ⟨#[40]⟩) rfl rfl hz2 (by (try simp only [List.length_cons, List.length_nil] at *); omega)
      have kaz3 := fun w => add_tB (P := Tryz.prog) w (A := tB z2) (B := y.nm) rfl (tB_bsT _).symm hz3 (by (try simp only [List.length_cons, List.length_nil] at *); omega)
      have kaz4 := fun w => add_tB (P := Tryz.prog) w (A := tB z3) (B := ⟨#[41]⟩) rfl rfl hz4 (by (try simp only [List.length_cons, List.length_nil] at *); omega)
      have HZ := Lib.hid heq
      clear heq hll hz1 hz2 hz3 hz4 lz1 lz2 lz3 lz4
      rw [← HZ.out] at hs
      have HSS := Lib.hid hs
      clear hs hsl HZ
      have hik : (k : Int) < (r.l.length : Int) := by omega
      have hcap9 : k + 1 ≤ 1048576 := by omega
      go_wp2
      go_region_held3 (fun w' => w'.cell? (ad.add (k * 3)) = some (.string y.nm) ∧ w'.cell? ⟨(ad.add (k * 3)).block, (ad.add (k * 3)).off + 1, none⟩ = some (.int .i64 y.t) ∧ w'.cell? ⟨(ad.add (k * 3)).block, (ad.add (k * 3)).off + 2, none⟩ = some (.int .i64 y.tag)) (first | exact ⟨c0, c1, c2⟩ | exact ⟨cell_below hX1 c0, cell_below hX1 c1, cell_below hX1 c2⟩ | exact ⟨cell_below (bel_alloc hX1 _) c0, cell_below (bel_alloc hX1 _) c1, cell_below (bel_alloc hX1 _) c2⟩ | exact HC.out _ hb3)
        (first | (go_at_call 72; (with_reducible refine (KY.out _ ?_).mono ?_); (exact bl); rintro e w9 ⟨rfl, hb9⟩; have hX1 : Below wr.heap.size wr w9 := bl; have hz9 := hX1.size) | (((refine step_append_at _ rfl _ _ _ rfl w.heap.size 9 i0 (.string ⟨#[]⟩) 1 16 Tryz.underlying51 hi iz is ib rfl (by decide) _ k (nmC ((ts.take k).map tB)) rfl (own_keep6 hown.out ?_) ⟨w9.heap.size, 0, none⟩ 1 1 [.string (tB z4)] rfl rfl (row1 _ _ _) (by intro u hu; obtain rfl := List.mem_singleton.1 hu; rfl) (by unfold maxLen; omega) (by omega) ?_ ?_); (exact bl); (focus (simp; omega)); intro v3 w3 hown3 hgrow3 hat3); have hw9 : Below w.heap.size w w9 := hbl.trans (hX1.mono hbl.size); have hb3 : Below w.heap.size w w3 := Below.grown (w := w9.alloc (.cells #[.string (tB z4)] 9)) (bel_alloc hw9 _) hgrow3 (by simp; have := hw9.size; omega) (fun j hj => (hown.out.lt j hj).1)))
      go_wp2
      rw [nm_next HSS.out] at hown3
      exact ⟨⟨k + 1, by omega, by congr 1, Lib.hid hown3, hb3⟩, by simp [intOf]; omega⟩
    · obtain rfl : k = r.l.length := by omega
      have KL := KJ.out _ _ hown.out
      clear hown
      go_wp2_with (go_at_call 29; (with_reducible refine (KL.out _ ?_).mono ?_); (exact bl); rintro e w1 ⟨rfl, hb1⟩)
      go_ret
      exact ⟨rfl, hbl.trans (hb1.mono hbl.size)⟩
set_option maxHeartbeats 2000000 in
set_option maxRecDepth 20000 in
theorem vr_decls (E : Rw va.En) (r : Rw Dt) (w : World) (hE : RsE w w.heap.size E) (hR : RsDs w w.heap.size r) (hl : r.l.length ≤ 1048576) (hl2 : ∀ d ∈ r.l, d.ck.l.length ≤ 1048576) (h : (dcsS E.l r.l).length ≤ 140737488355328) :
    Calls Tryz.prog 30 #[.slice E.A E.l.length E.c, .slice r.A r.l.length r.c] w (Bel (.string (tB (dcsS E.l r.l))) w) := by
  obtain ⟨i0, hi, iz, is, ib⟩ := info_parts stInfo
  have HR := Lib.hid hR.1
  have KNN : Hid (∀ y ∈ r.l, ∀ W, Below w.heap.size w W → Calls Tryz.prog 60 #[.slice E.A E.l.length E.c, .int .i64 y.ty] W (Bel (.tuple #[.string (va.nameT E.l y.ty), .bool (va.valB E.l y.ty)]) W)) := Lib.hid fun y hy W hb => by
    have hE' := hE.blw hb hb.size
    have hl := hE'.2.1.1
    unfold maxLen at hl
    exact va.rname_any E.A E.c E.l y.ty W hE'.1 (by omega) (hR.2 y hy).1.2
  unfold dcsS at h ⊢
  obtain ⟨ts, hts⟩ : ∃ q, r.l.map (dclS E.l) = q := ⟨_, rfl⟩
  have htl : ts.length = r.l.length := by rw [← hts]; simp
  have HS : Hid (∀ (k : Nat) y, r.l[k]? = some y → ts[k]? = some (dclS E.l y) ∧ (dclS E.l y).length ≤ 140737488355328) := Lib.hid fun k y hy => by
    have e : ts[k]? = some (dclS E.l y) := by rw [← hts, List.getElem?_map, hy]; rfl
    have hmem := List.mem_of_getElem? e
    refine ⟨e, Nat.le_trans (join_mem (sep := [59, 32]) hmem) ?_⟩
    rw [← hts]; exact h
  have KCC : Hid (∀ y ∈ r.l, 0 < y.ck.l.length → (dclS E.l y).length ≤ 140737488355328 → ∀ W, Below w.heap.size w W → Calls Tryz.prog 42 #[.slice E.A E.l.length E.c, .slice y.ck.A y.ck.l.length y.ck.c] W (Bel (.string (tB (clkS E.l y.ck.l))) W)) := Lib.hid fun y hy h0 hd W hb =>
    vr_clock E y.ck W (hE.blw hb hb.size) ((hR.2 y hy).2.blw hb hb.size) (hl2 y hy) (by unfold dclS at hd; rw [if_pos h0] at hd; simp only [List.length_append] at hd; omega)
  rw [hts] at h ⊢
  have KJ := Lib.hid (fun v W (hT : TOwn w.heap.size ts v r.l.length W) => vr_listO w.heap.size ts v ⟨#[59, 32]⟩ W htl.symm hT h)
  have e44 : Lib.join ts (bsT ⟨#[59, 32]⟩) = Lib.join ts [59, 32] := rfl
  rw [e44] at KJ
  generalize Lib.join ts [59, 32] = jj at *
  have HT0 : Hid (TOwn w.heap.size ts (.slice none 0 0) 0 w) := Lib.hid (World.ownsRow_nil _ _ _ _)
  clear h hE hR hts htl e44 hl2
  go_enter Tryz.func30, Tryz.ntmps30
  go_wp2
  go_loopw [5, 6] (fun v i wr => ∃ k : Nat, k ≤ r.l.length ∧ i = .int .i64 (k : Int) ∧ Hid (TOwn w.heap.size ts v k wr) ∧ Below w.heap.size w wr) (fun _ i _ => r.l.length - (intOf i).toNat)
  case atStart => exact ⟨0, by omega, rfl, HT0, Below.refl _ _⟩
  case round =>
    clear HT0
    obtain ⟨k, hk, rfl, hown, hbl⟩ := hrel
    have hsz := hbl.size
    by_cases hlt : k < r.l.length
    · obtain ⟨ad, y, hA, had, hy, hm, ⟨c0, c1, c2⟩⟩ := (HR.out.blw oneB_D hbl hbl.size).at_ hlt
      have HC : Hid (∀ W, Below w.heap.size w W → W.cell? (ad.add (k * 3)) = some (.string y.nm) ∧ W.cell? ⟨(ad.add (k * 3)).block, (ad.add (k * 3)).off + 1, none⟩ = some (.int .i64 y.ty) ∧ W.cell? ⟨(ad.add (k * 3)).block, (ad.add (k * 3)).off + 2, none⟩ = some (.slice y.ck.A y.ck.l.length y.ck.c)) := Lib.hid fun W hb => (HR.out.blw oneB_D hb hb.size).2.1 ad k y hA hy
      have KN := Lib.hid (KNN.out y hm)
      have KC0 := KCC.out y hm
      obtain ⟨hs, hsl⟩ := HS.out k y hy
      have KC1 : Hid (0 < y.ck.l.length → ∀ W, Below w.heap.size w W → Calls Tryz.prog 42 #[.slice E.A E.l.length E.c, .slice y.ck.A y.ck.l.length y.ck.c] W (Bel (.string (tB (clkS E.l y.ck.l))) W)) := Lib.hid fun h0 => KC0 h0 hsl
      rw [hA]
      clear hy hm HS KNN KCC hA KC0
      unfold dclS at hs hsl
      generalize va.nameT E.l y.ty = nt at *
      generalize va.valB E.l y.ty = vt at *
      generalize clkS E.l y.ck.l = ck at *
      have hik : (k : Int) < (r.l.length : Int) := by omega
      have hcap9 : k + 1 ≤ 1048576 := by omega
      by_cases z0 : 0 < y.ck.l.length
      · rw [if_pos z0] at hs hsl
        have KC := Lib.hid (KC1.out z0)
        have q0 : (0 : Int) < (y.ck.l.length : Int) := by omega
        clear z0 KC1
        obtain ⟨z1, hz1⟩ : ∃ q, (bsT y.nm) ++ ([58, 32]) = q := ⟨_, rfl⟩
        have lz1 := congrArg List.length hz1
        rw [List.length_append] at lz1
        obtain ⟨z2, hz2⟩ : ∃ q, (z1) ++ (bsT nt) = q := ⟨_, rfl⟩
        have lz2 := congrArg List.length hz2
        rw [List.length_append] at lz2
        obtain ⟨z3, hz3⟩ : ∃ q, (z2) ++ ([32]) = q := ⟨_, rfl⟩
        have lz3 := congrArg List.length hz3
        rw [List.length_append] at lz3
        obtain ⟨z4, hz4⟩ : ∃ q, (z3) ++ (ck) = q := ⟨_, rfl⟩
        have lz4 := congrArg List.length hz4
        rw [List.length_append] at lz4
        have heq : z4 = bsT y.nm ++ [58, 32] ++ bsT nt ++ ([32] ++ ck) := by
          subst hz1 hz2 hz3 hz4
          simp only [List.append_assoc, List.cons_append, List.nil_append]
        have hll : z4.length ≤ 140737488355328 := by rw [heq]; exact hsl
        have kaz1 := fun w => add_tB (P := Tryz.prog) w (A := y.nm) (B := ⟨#[58, 32]⟩) (tB_bsT _).symm rfl hz1 (by (try simp only [List.length_cons, List.length_nil] at *); omega)
        have kaz2 := fun w => add_tB (P := Tryz.prog) w (A := tB z1) (B := nt) rfl (tB_bsT _).symm hz2 (by (try simp only [List.length_cons, List.length_nil] at *); omega)
        have kaz3 := fun w => add_tB (P := Tryz.prog) w (A := tB z2) (B := ⟨#[32]⟩) rfl rfl hz3 (by (try simp only [List.length_cons, List.length_nil] at *); omega)
        have kaz4 := fun w => add_tB (P := Tryz.prog) w (A := tB z3) (B := tB ck) rfl rfl hz4 (by (try simp only [List.length_cons, List.length_nil] at *); omega)
        have HZ := Lib.hid heq
        clear heq hll hz1 hz2 hz3 hz4 lz1 lz2 lz3 lz4
        rw [← HZ.out] at hs
        have HSS := Lib.hid hs
        clear hs hsl HZ
        go_wp2_with (first | (go_at_call 60; (with_reducible refine (KN.out _ ?_).mono ?_); (exact bl); rintro e w1 ⟨rfl, hb1⟩; obtain ⟨c0, c1, c2⟩ := HC.out w1 bl; have hz1 := hb1.size) | (go_at_call 42; (with_reducible refine (KC.out _ ?_).mono ?_); (exact bl); rintro e w2 ⟨rfl, hb2⟩; have hz2 := hb2.size) | (at_builtin; (refine wpList_append_own_at _ rfl _ _ 51 rfl w.heap.size 9 i0 (.string ⟨#[]⟩) 1 16 Tryz.underlying51 hi iz is ib rfl (by decide) _ k (nmC ((ts.take k).map tB)) rfl (own_keep6 hown.out ?_) ⟨w2.heap.size, 0, none⟩ 1 1 [.string (tB z4)] rfl rfl (row1 _ _ _) (by intro u hu; obtain rfl := List.mem_singleton.1 hu; rfl) (by unfold maxLen; omega) (by omega) ?_ ?_; (exact bl); (focus (simp; omega)); intro v3 w3 hown3 hgrow3 _ hat3)))
        have hb3 : Below w.heap.size w w3 := Below.grown (w := w2.alloc (.cells #[.string (tB z4)] 9)) bl hgrow3 (by simp; have := hb1.size; have := hb2.size; omega) (fun j hj => (hown.out.lt j hj).1)
        rw [nm_next HSS.out] at hown3
        exact ⟨⟨k + 1, by omega, by congr 1, Lib.hid hown3, hb3⟩, by simp [intOf]; omega⟩
      · rw [if_neg z0, List.append_nil] at hs hsl
        have q0 : (y.ck.l.length : Int) ≤ (0 : Int) := by omega
        clear z0 KC1
        obtain ⟨z1, hz1⟩ : ∃ q, (bsT y.nm) ++ ([58, 32]) = q := ⟨_, rfl⟩
        have lz1 := congrArg List.length hz1
        rw [List.length_append] at lz1
        obtain ⟨z2, hz2⟩ : ∃ q, (z1) ++ (bsT nt) = q := ⟨_, rfl⟩
        have lz2 := congrArg List.length hz2
        rw [List.length_append] at lz2
        have heq : z2 = bsT y.nm ++ [58, 32] ++ bsT nt := by
          subst hz1 hz2
          rfl
        have hll : z2.length ≤ 140737488355328 := by rw [heq]; exact hsl
        have kaz1 := fun w => add_tB (P := Tryz.prog) w (A := y.nm) (B := ⟨#[58, 32]⟩) (tB_bsT _).symm rfl hz1 (by (try simp only [List.length_cons, List.length_nil] at *); omega)
        have kaz2 := fun w => add_tB (P := Tryz.prog) w (A := tB z1) (B := nt) rfl (tB_bsT _).symm hz2 (by (try simp only [List.length_cons, List.length_nil] at *); omega)
        have HZ := Lib.hid heq
        clear heq hll hz1 hz2 lz1 lz2
        rw [← HZ.out] at hs
        have HSS := Lib.hid hs
        clear hs hsl HZ
        go_wp2_with (first | (go_at_call 60; (with_reducible refine (KN.out _ ?_).mono ?_); (exact bl); rintro e w1 ⟨rfl, hb1⟩; obtain ⟨c0, c1, c2⟩ := HC.out w1 bl; have hz1 := hb1.size) | (at_builtin; (refine wpList_append_own_at _ rfl _ _ 51 rfl w.heap.size 9 i0 (.string ⟨#[]⟩) 1 16 Tryz.underlying51 hi iz is ib rfl (by decide) _ k (nmC ((ts.take k).map tB)) rfl (own_keep6 hown.out ?_) ⟨w1.heap.size, 0, none⟩ 1 1 [.string (tB z2)] rfl rfl (row1 _ _ _) (by intro u hu; obtain rfl := List.mem_singleton.1 hu; rfl) (by unfold maxLen; omega) (by omega) ?_ ?_; (exact bl); (focus (simp; omega)); intro v3 w3 hown3 hgrow3 _ hat3)))
        have hb3 : Below w.heap.size w w3 := Below.grown (w := w1.alloc (.cells #[.string (tB z2)] 9)) bl hgrow3 (by simp; have := hb1.size; omega) (fun j hj => (hown.out.lt j hj).1)
        rw [nm_next HSS.out] at hown3
        exact ⟨⟨k + 1, by omega, by congr 1, Lib.hid hown3, hb3⟩, by simp [intOf]; omega⟩
    · obtain rfl : k = r.l.length := by omega
      have KL := KJ.out _ _ hown.out
      clear hown
      go_wp2_with (go_at_call 29; (with_reducible refine (KL.out _ ?_).mono ?_); (exact bl); rintro e w1 ⟨rfl, hb1⟩)
      go_ret
      exact ⟨rfl, hbl.trans (hb1.mono hbl.size)⟩
end Go.Proofs.YtoimjcfdiljkjaaGreatDoor
namespace Go.Proofs.YtoimjcfdiljkjaaGreatDoor
open Go.RowKit Go.Sort
set_option maxHeartbeats 2000000 in
set_option maxRecDepth 20000 in
theorem vr_equations (E : Rw va.En) (n : Nat) (r : Rw Qt) (w : World) (hE : RsE w w.heap.size E) (hR : RsQs w w.heap.size r) (hn : n ≤ 140737488355328) (hwf : ∀ q ∈ r.l, ∀ y ∈ q.r.list, wfK y) (h : ((r.l.map (eq1S E.l n)).flatten).length ≤ 140737488355328) :
    Calls Tryz.prog 33 #[.slice E.A E.l.length E.c, .int .i64 (n : Int), .slice r.A r.l.length r.c] w (Bel (.string (tB ((r.l.map (eq1S E.l n)).flatten))) w) := by
  have HR := Lib.hid hR.1
  have h9 := hR.1.len
  unfold maxLen at h9
  have KTT : Hid (∀ q ∈ r.l, (q.r.tx E.l).length ≤ 140737488355328 → ∀ W, Below w.heap.size w W → Calls Tryz.prog 38 #[.slice E.A E.l.length E.c, xV q.r] W (Bel (.string (tB (q.r.tx E.l))) W)) := Lib.hid fun q hq hl W hb => vr_text E q.r (hwf q hq) W (hE.blw hb hb.size) ((hR.2 q hq).2.1.to hb) hl
  have KLL : Hid (∀ q ∈ r.l, (Lib.join (q.lf.l.map bsT) [44, 32]).length ≤ 140737488355328 → ∀ W, Below w.heap.size w W → Calls Tryz.prog 29 #[.slice q.lf.A q.lf.l.length q.lf.c, .string ⟨#[44, 32]⟩] W (Bel (.string (tB (Lib.join (q.lf.l.map bsT) [44, 32]))) W)) := Lib.hid fun q hq hl W hb => vr_list q.lf ⟨#[44, 32]⟩ W ((hR.2 q hq).1.blw hb hb.size).1 hl
  obtain ⟨F, hF⟩ : ∃ F : Nat → List UInt8, F = fun k => ((r.l.take k).map (eq1S E.l n)).flatten := ⟨_, rfl⟩
  have HF : Hid (∀ (k : Nat) y, r.l[k]? = some y → F (k + 1) = F k ++ (eq1S E.l n) y ∧ (F (k + 1)).length ≤ 140737488355328) := Lib.hid fun k y hy => by
    rw [hF]
    exact ⟨flat_take (eq1S E.l n) r.l hy, Nat.le_trans (flat_le (eq1S E.l n) r.l (k + 1)) h⟩
  have hF0 : F 0 = [] := by rw [hF]; rfl
  have hFl : F r.l.length = (r.l.map (eq1S E.l n)).flatten := by rw [hF]; simp only [List.take_length]
  have HF0 := Lib.hid hF0
  rw [← hFl]
  clear hF hF0 hFl h
  clear hE hR hwf
  go_enter Tryz.func33, Tryz.ntmps33
  go_wp2
  go_loopw [7, 8] (fun s i wr => ∃ k : Nat, k ≤ r.l.length ∧ i = .int .i64 (k : Int) ∧ s = .string (tB (F k)) ∧ Below w.heap.size w wr) (fun _ i _ => r.l.length - (intOf i).toNat)
  case atStart => exact ⟨0, by omega, rfl, by rw [HF0.out]; rfl, Below.refl _ _⟩
  case round =>
    obtain ⟨k, hk, rfl, rfl, hbl⟩ := hrel
    by_cases hlt : k < r.l.length
    · obtain ⟨ad, y, hA, had, hy, hm, ⟨c0, c1, c2, c3, c4, c5, c6⟩⟩ := (HR.out.blw oneB_Q hbl hbl.size).at_ hlt
      have HC : Hid (∀ W, Below w.heap.size w W → W.cell? (ad.add (k * 7)) = some (.slice y.lf.A y.lf.l.length y.lf.c) ∧ W.cell? ⟨(ad.add (k * 7)).block, (ad.add (k * 7)).off + 1, none⟩ = some (.int .i64 y.r.k) ∧ W.cell? ⟨(ad.add (k * 7)).block, (ad.add (k * 7)).off + 2, none⟩ = some (.int .i64 y.r.op) ∧ W.cell? ⟨(ad.add (k * 7)).block, (ad.add (k * 7)).off + 3, none⟩ = some (.int .i64 y.r.t) ∧ W.cell? ⟨(ad.add (k * 7)).block, (ad.add (k * 7)).off + 4, none⟩ = some (.int .i64 y.r.v) ∧ W.cell? ⟨(ad.add (k * 7)).block, (ad.add (k * 7)).off + 5, none⟩ = some (.string y.r.nm) ∧ W.cell? ⟨(ad.add (k * 7)).block, (ad.add (k * 7)).off + 6, none⟩ = some (.slice y.r.A y.r.ar.length y.r.c)) := Lib.hid fun W hb => (HR.out.blw oneB_Q hb hb.size).2.1 ad k y hA hy
      rw [hA]
      obtain ⟨hj, hle⟩ := HF.out k y hy
      obtain ⟨s1, hs1⟩ : ∃ q, F (k + 1) = q := ⟨_, rfl⟩
      have HS1 := Lib.hid hs1
      rw [hs1] at hj hle
      clear hs1
      obtain ⟨s0, hs0⟩ : ∃ q, F k = q := ⟨_, rfl⟩
      rw [hs0] at hj ⊢
      clear hs0
      unfold eq1S eqnS lftS at hj
      have KT0 := KTT.out y hm
      have KL0 := KLL.out y hm
      obtain ⟨jj, hjj⟩ : ∃ q, Lib.join (y.lf.l.map bsT) [44, 32] = q := ⟨_, rfl⟩
      rw [hjj] at hj KL0
      generalize y.r.tx E.l = tx at *
      have hlj : tx.length ≤ 140737488355328 ∧ jj.length ≤ 140737488355328 := by
        rw [hj] at hle
        unfold linS at hle
        split at hle
        · unfold brS at hle; simp only [List.length_append] at hle; omega
        · simp only [List.length_append] at hle; omega
      have KT := Lib.hid (KT0 hlj.1)
      have KL := Lib.hid (KL0 hlj.2)
      simp only [xV] at KT
      clear hy hm hA hjj KT0 KL0 KTT KLL HF hlj
      by_cases z0 : 1 < y.lf.l.length
      · have q0 : (1 : Int) < (y.lf.l.length : Int) := by omega
        rw [if_pos z0] at hj
        clear z0
        have hcn : ((brS jj) ++ [32, 61, 32] ++ tx ++ [59]).length ≤ 140737488355328 := by rw [hj] at hle; simp only [List.length_append] at hle; unfold linS at hle; simp only [List.length_append] at hle ⊢; omega
        have hln : (linS n ((brS jj) ++ [32, 61, 32] ++ tx ++ [59])).length ≤ 140737488355328 := by rw [hj, List.length_append] at hle; omega
        have KN : Hid (∀ W, Below w.heap.size w W → Calls Tryz.prog 28 #[.int .i64 (n : Int), .string (tB ((brS jj) ++ [32, 61, 32] ++ tx ++ [59]))] W (Bel (.string (tB (linS n ((brS jj) ++ [32, 61, 32] ++ tx ++ [59])))) W)) := Lib.hid fun W _ => vr_line n _ W hn hln
        obtain ⟨x1, hx1⟩ : ∃ q, ([40]) ++ (jj) = q := ⟨_, rfl⟩
        have lx1 := congrArg List.length hx1
        rw [List.length_append] at lx1
        obtain ⟨x2, hx2⟩ : ∃ q, (x1) ++ ([41]) = q := ⟨_, rfl⟩
        have lx2 := congrArg List.length hx2
        rw [List.length_append] at lx2
        obtain ⟨z1, hz1⟩ : ∃ q, (x2) ++ ([32, 61, 32]) = q := ⟨_, rfl⟩
        have lz1 := congrArg List.length hz1
        rw [List.length_append] at lz1
        obtain ⟨z2, hz2⟩ : ∃ q, (z1) ++ (tx) = q := ⟨_, rfl⟩
        have lz2 := congrArg List.length hz2
        rw [List.length_append] at lz2
        obtain ⟨z3, hz3⟩ : ∃ q, (z2) ++ ([59]) = q := ⟨_, rfl⟩
        have lz3 := congrArg List.length hz3
        rw [List.length_append] at lz3
        have heq : z3 = (brS jj) ++ [32, 61, 32] ++ tx ++ [59] := by
          subst hx1 hx2 hz1 hz2 hz3
          simp only [brS, List.append_assoc, List.cons_append, List.nil_append]
        have hll : z3.length ≤ 140737488355328 := by rw [heq]; exact hcn
        have kax1 := fun w => add_tB (P := Tryz.prog) w (A := ⟨#[40]⟩) (B := tB jj) rfl rfl hx1 (by (try simp only [List.length_cons, List.length_nil] at *); omega)
        have kax2 := fun w => add_tB (P := Tryz.prog) w (A := tB x1) (B := ⟨#[41]⟩) rfl rfl hx2 (by (try simp only [List.length_cons, List.length_nil] at *); omega)
        have kaz1 := fun w => add_tB (P := Tryz.prog) w (A := tB x2) (B := ⟨#[32, 61, 32]⟩) rfl rfl hz1 (by (try simp only [List.length_cons, List.length_nil] at *); omega)
        have kaz2 := fun w => add_tB (P := Tryz.prog) w (A := tB z1) (B := tB tx) rfl rfl hz2 (by (try simp only [List.length_cons, List.length_nil] at *); omega)
        have kaz3 := fun w => add_tB (P := Tryz.prog) w (A := tB z2) (B := ⟨#[59]⟩) rfl rfl hz3 (by (try simp only [List.length_cons, List.length_nil] at *); omega)
        have HZ := Lib.hid heq
        clear heq hll hx1 hx2 hz1 hz2 hz3 lx1 lx2 lz1 lz2 lz3
        rw [← HZ.out] at KN hj hln
        clear HZ hcn
        generalize linS n z3 = ln at *
        rw [hj] at hle
        obtain ⟨z4, hz4⟩ : ∃ q, (s0) ++ (ln) = q := ⟨_, rfl⟩
        have lz4 := congrArg List.length hz4
        rw [List.length_append] at lz4
        have heq9 : z4 = s0 ++ ln := by
          subst hz4
          rfl
        have hll : z4.length ≤ 140737488355328 := by rw [heq9]; exact hle
        have kaz4 := fun w => add_tB (P := Tryz.prog) w (A := tB s0) (B := tB ln) rfl rfl hz4 (by (try simp only [List.length_cons, List.length_nil] at *); omega)
        have HZ9 := Lib.hid heq9
        clear heq9 hll hz4 lz4
        have HN : Hid (F (k + 1) = z4) := Lib.hid (HS1.out.trans (hj.trans HZ9.out.symm))
        clear hj hle hln HZ9 HS1
        go_wp2_with (first | (go_at_call 29; (with_reducible refine (KL.out _ ?_).mono ?_); (exact bl); rintro e w1 ⟨rfl, hb1⟩; obtain ⟨c0, c1, c2, c3, c4, c5, c6⟩ := HC.out w1 bl) | (go_at_call 38; (with_reducible refine (KT.out _ ?_).mono ?_); (exact bl); rintro e w2 ⟨rfl, hb2⟩) | (go_at_call 28; (with_reducible refine (KN.out _ ?_).mono ?_); (exact bl); rintro e w3 ⟨rfl, hb3⟩))
        exact ⟨⟨k + 1, by omega, by congr 1, by rw [HN.out], bl⟩, by simp [intOf]; omega⟩
      · have q0 : (y.lf.l.length : Int) ≤ (1 : Int) := by omega
        rw [if_neg z0] at hj
        clear z0
        have hcn : (jj ++ [32, 61, 32] ++ tx ++ [59]).length ≤ 140737488355328 := by rw [hj] at hle; simp only [List.length_append] at hle; unfold linS at hle; simp only [List.length_append] at hle ⊢; omega
        have hln : (linS n (jj ++ [32, 61, 32] ++ tx ++ [59])).length ≤ 140737488355328 := by rw [hj, List.length_append] at hle; omega
        have KN : Hid (∀ W, Below w.heap.size w W → Calls Tryz.prog 28 #[.int .i64 (n : Int), .string (tB (jj ++ [32, 61, 32] ++ tx ++ [59]))] W (Bel (.string (tB (linS n (jj ++ [32, 61, 32] ++ tx ++ [59])))) W)) := Lib.hid fun W _ => vr_line n _ W hn hln
        obtain ⟨z1, hz1⟩ : ∃ q, (jj) ++ ([32, 61, 32]) = q := ⟨_, rfl⟩
        have lz1 := congrArg List.length hz1
        rw [List.length_append] at lz1
        obtain ⟨z2, hz2⟩ : ∃ q, (z1) ++ (tx) = q := ⟨_, rfl⟩
        have lz2 := congrArg List.length hz2
        rw [List.length_append] at lz2
        obtain ⟨z3, hz3⟩ : ∃ q, (z2) ++ ([59]) = q := ⟨_, rfl⟩
        have lz3 := congrArg List.length hz3
        rw [List.length_append] at lz3
        have heq : z3 = jj ++ [32, 61, 32] ++ tx ++ [59] := by
          subst hz1 hz2 hz3
          simp only [brS, List.append_assoc, List.cons_append, List.nil_append]
        have hll : z3.length ≤ 140737488355328 := by rw [heq]; exact hcn
        have kaz1 := fun w => add_tB (P := Tryz.prog) w (A := tB jj) (B := ⟨#[32, 61, 32]⟩) rfl rfl hz1 (by (try simp only [List.length_cons, List.length_nil] at *); omega)
        have kaz2 := fun w => add_tB (P := Tryz.prog) w (A := tB z1) (B := tB tx) rfl rfl hz2 (by (try simp only [List.length_cons, List.length_nil] at *); omega)
        have kaz3 := fun w => add_tB (P := Tryz.prog) w (A := tB z2) (B := ⟨#[59]⟩) rfl rfl hz3 (by (try simp only [List.length_cons, List.length_nil] at *); omega)
        have HZ := Lib.hid heq
        clear heq hll hz1 hz2 hz3 lz1 lz2 lz3
        rw [← HZ.out] at KN hj hln
        clear HZ hcn
        generalize linS n z3 = ln at *
        rw [hj] at hle
        obtain ⟨z4, hz4⟩ : ∃ q, (s0) ++ (ln) = q := ⟨_, rfl⟩
        have lz4 := congrArg List.length hz4
        rw [List.length_append] at lz4
        have heq9 : z4 = s0 ++ ln := by
          subst hz4
          rfl
        have hll : z4.length ≤ 140737488355328 := by rw [heq9]; exact hle
        have kaz4 := fun w => add_tB (P := Tryz.prog) w (A := tB s0) (B := tB ln) rfl rfl hz4 (by (try simp only [List.length_cons, List.length_nil] at *); omega)
        have HZ9 := Lib.hid heq9
        clear heq9 hll hz4 lz4
        have HN : Hid (F (k + 1) = z4) := Lib.hid (HS1.out.trans (hj.trans HZ9.out.symm))
        clear hj hle hln HZ9 HS1
        go_wp2_with (first | (go_at_call 29; (with_reducible refine (KL.out _ ?_).mono ?_); (exact bl); rintro e w1 ⟨rfl, hb1⟩; obtain ⟨c0, c1, c2, c3, c4, c5, c6⟩ := HC.out w1 bl) | (go_at_call 38; (with_reducible refine (KT.out _ ?_).mono ?_); (exact bl); rintro e w2 ⟨rfl, hb2⟩) | (go_at_call 28; (with_reducible refine (KN.out _ ?_).mono ?_); (exact bl); rintro e w3 ⟨rfl, hb3⟩))
        exact ⟨⟨k + 1, by omega, by congr 1, by rw [HN.out], bl⟩, by simp [intOf]; omega⟩
    · obtain rfl : k = r.l.length := by omega
      go_wp2
      go_ret
      exact ⟨rfl, bl⟩
set_option maxHeartbeats 2000000 in
set_option maxRecDepth 20000 in
theorem vr_claims (E : Rw va.En) (kw : ByteArray) (r : Rw Xt) (w : World) (hE : RsE w w.heap.size E) (hR : RsXs w w.heap.size r) (hwf : ∀ x ∈ r.l, ∀ y ∈ x.list, wfK y) (h : (cmsS E.l (kw ++ ⟨#[32]⟩) r.l).length ≤ 140737488355328) :
    Calls Tryz.prog 32 #[.slice E.A E.l.length E.c, .string kw, .slice r.A r.l.length r.c] w (Bel (.string (tB (cmsS E.l (kw ++ ⟨#[32]⟩) r.l))) w) := by
  have HR := Lib.hid hR.1
  have h9 := hR.1.len
  unfold maxLen at h9
  have KTT : Hid (∀ x ∈ r.l, (x.tx E.l).length ≤ 140737488355328 → ∀ W, Below w.heap.size w W → Calls Tryz.prog 38 #[.slice E.A E.l.length E.c, xV x] W (Bel (.string (tB (x.tx E.l))) W)) := Lib.hid fun x hq hl W hb => vr_text E x (hwf x hq) W (hE.blw hb hb.size) ((hR.2 x hq).1.to hb) hl
  unfold cmsS at h ⊢
  obtain ⟨F, hF⟩ : ∃ F : Nat → List UInt8, F = fun k => ((r.l.take k).map (cms1 E.l (kw ++ ⟨#[32]⟩))).flatten := ⟨_, rfl⟩
  have HF : Hid (∀ (k : Nat) y, r.l[k]? = some y → F (k + 1) = F k ++ (cms1 E.l (kw ++ ⟨#[32]⟩)) y ∧ (F (k + 1)).length ≤ 140737488355328) := Lib.hid fun k y hy => by
    rw [hF]
    exact ⟨flat_take (cms1 E.l (kw ++ ⟨#[32]⟩)) r.l hy, Nat.le_trans (flat_le (cms1 E.l (kw ++ ⟨#[32]⟩)) r.l (k + 1)) h⟩
  have hF0 : F 0 = [] := by rw [hF]; rfl
  have hFl : F r.l.length = (r.l.map (cms1 E.l (kw ++ ⟨#[32]⟩))).flatten := by rw [hF]; simp only [List.take_length]
  have HF0 := Lib.hid hF0
  rw [← hFl]
  clear hF hF0 hFl h
  clear hE hR hwf
  go_enter Tryz.func32, Tryz.ntmps32
  go_wp2
  go_loopw [7, 8] (fun s i wr => ∃ k : Nat, k ≤ r.l.length ∧ i = .int .i64 (k : Int) ∧ s = .string (tB (F k)) ∧ Below w.heap.size w wr) (fun _ i _ => r.l.length - (intOf i).toNat)
  case atStart => exact ⟨0, by omega, rfl, by rw [HF0.out]; rfl, Below.refl _ _⟩
  case round =>
    obtain ⟨k, hk, rfl, rfl, hbl⟩ := hrel
    by_cases hlt : k < r.l.length
    · obtain ⟨ad, y, hA, had, hy, hm, ⟨c0, c1, c2, c3, c4, c5⟩⟩ := (HR.out.blw oneB_X hbl hbl.size).at_ hlt
      rw [hA]
      obtain ⟨hj, hle⟩ := HF.out k y hy
      obtain ⟨s1, hs1⟩ : ∃ q, F (k + 1) = q := ⟨_, rfl⟩
      have HS1 := Lib.hid hs1
      rw [hs1] at hj hle
      clear hs1
      obtain ⟨s0, hs0⟩ : ∃ q, F k = q := ⟨_, rfl⟩
      rw [hs0] at hj ⊢
      clear hs0
      unfold cms1 at hj
      have hkw : bsT (kw ++ ⟨#[32]⟩) = bsT kw ++ [32] := by simp [bsT]
      rw [hkw] at hj
      have KT0 := KTT.out y hm
      generalize y.tx E.l = tx at *
      have hlj : tx.length ≤ 140737488355328 := by
        rw [hj] at hle
        unfold linS at hle
        simp only [List.length_append] at hle
        omega
      have KT := Lib.hid (KT0 hlj)
      simp only [xV] at KT
      clear hy hm hA KT0 KTT HF hlj hkw
      have hcn : (bsT kw ++ [32] ++ tx ++ [59]).length ≤ 140737488355328 := by rw [hj] at hle; simp only [List.length_append] at hle; unfold linS at hle; simp only [List.length_append] at hle ⊢; omega
      have hln : (linS 1 (bsT kw ++ [32] ++ tx ++ [59])).length ≤ 140737488355328 := by rw [hj, List.length_append] at hle; omega
      have KN : Hid (∀ W, Below w.heap.size w W → Calls Tryz.prog 28 #[.int .i64 1, .string (tB (bsT kw ++ [32] ++ tx ++ [59]))] W (Bel (.string (tB (linS 1 (bsT kw ++ [32] ++ tx ++ [59])))) W)) := Lib.hid fun W _ => vr_line 1 _ W (by omega) hln
      obtain ⟨z1, hz1⟩ : ∃ q, (bsT kw) ++ ([32]) = q := ⟨_, rfl⟩
      have lz1 := congrArg List.length hz1
      rw [List.length_append] at lz1
      obtain ⟨z2, hz2⟩ : ∃ q, (z1) ++ (tx) = q := ⟨_, rfl⟩
      have lz2 := congrArg List.length hz2
      rw [List.length_append] at lz2
      obtain ⟨z3, hz3⟩ : ∃ q, (z2) ++ ([59]) = q := ⟨_, rfl⟩
      have lz3 := congrArg List.length hz3
      rw [List.length_append] at lz3
      have heq : z3 = bsT kw ++ [32] ++ tx ++ [59] := by
        subst hz1 hz2 hz3
        rfl
      have hll : z3.length ≤ 140737488355328 := by rw [heq]; exact hcn
      have kaz1 := fun w => add_tB (P := Tryz.prog) w (A := kw) (B := ⟨#[32]⟩) (tB_bsT _).symm rfl hz1 (by (try simp only [List.length_cons, List.length_nil] at *); omega)
      have kaz2 := fun w => add_tB (P := Tryz.prog) w (A := tB z1) (B := tB tx) rfl rfl hz2 (by (try simp only [List.length_cons, List.length_nil] at *); omega)
      have kaz3 := fun w => add_tB (P := Tryz.prog) w (A := tB z2) (B := ⟨#[59]⟩) rfl rfl hz3 (by (try simp only [List.length_cons, List.length_nil] at *); omega)
      have HZ := Lib.hid heq
      clear heq hll hz1 hz2 hz3 lz1 lz2 lz3
      rw [← HZ.out] at KN hj hln
      clear HZ hcn
      generalize linS 1 z3 = ln at *
      rw [hj] at hle
      obtain ⟨z4, hz4⟩ : ∃ q, (s0) ++ (ln) = q := ⟨_, rfl⟩
      have lz4 := congrArg List.length hz4
      rw [List.length_append] at lz4
      have heq9 : z4 = s0 ++ ln := by
        subst hz4
        rfl
      have hll : z4.length ≤ 140737488355328 := by rw [heq9]; exact hle
      have kaz4 := fun w => add_tB (P := Tryz.prog) w (A := tB s0) (B := tB ln) rfl rfl hz4 (by (try simp only [List.length_cons, List.length_nil] at *); omega)
      have HZ9 := Lib.hid heq9
      clear heq9 hll hz4 lz4
      have HN : Hid (F (k + 1) = z4) := Lib.hid (HS1.out.trans (hj.trans HZ9.out.symm))
      clear hj hle hln HZ9 HS1
      go_wp2_with (first | (go_at_call 38; (with_reducible refine (KT.out _ ?_).mono ?_); (exact bl); rintro e w2 ⟨rfl, hb2⟩) | (go_at_call 28; (with_reducible refine (KN.out _ ?_).mono ?_); (exact bl); rintro e w3 ⟨rfl, hb3⟩))
      exact ⟨⟨k + 1, by omega, by congr 1, by rw [HN.out], bl⟩, by simp [intOf]; omega⟩
    · obtain rfl : k = r.l.length := by omega
      go_wp2
      go_ret
      exact ⟨rfl, bl⟩
set_option maxHeartbeats 2000000 in
set_option maxRecDepth 20000 in
theorem vr_locals (E : Rw va.En) (n : Nat) (r : Rw Dt) (w : World) (hE : RsE w w.heap.size E) (hR : RsDs w w.heap.size r) (hl : r.l.length ≤ 1048576) (hl2 : ∀ d ∈ r.l, d.ck.l.length ≤ 1048576) (hn : n ≤ 140737488355328) (h : (lcsS E.l n r.l).length ≤ 140737488355328) :
    Calls Tryz.prog 31 #[.slice E.A E.l.length E.c, .int .i64 (n : Int), .slice r.A r.l.length r.c] w (Bel (.string (tB (lcsS E.l n r.l))) w) := by
  unfold lcsS at h ⊢
  by_cases z0 : 0 < r.l.length
  · rw [if_pos z0] at h ⊢
    have q0 : ((r.l.length : Int) == 0) = false := by simp only [beq_eq_false_iff_ne, ne_eq]; omega
    have hcn : ([118, 97, 114, 32] ++ dcsS E.l r.l ++ [59]).length ≤ 140737488355328 := by unfold linS at h; simp only [List.length_append] at h ⊢; omega
    have KD : Hid (∀ W, Below w.heap.size w W → Calls Tryz.prog 30 #[.slice E.A E.l.length E.c, .slice r.A r.l.length r.c] W (Bel (.string (tB (dcsS E.l r.l))) W)) := Lib.hid fun W hb => vr_decls E r W (hE.blw hb hb.size) (hR.blw hb hb.size) hl hl2 (by simp only [List.length_append] at hcn; omega)
    generalize dcsS E.l r.l = ds at *
    have KN : Hid (∀ W, Below w.heap.size w W → Calls Tryz.prog 28 #[.int .i64 (n : Int), .string (tB ([118, 97, 114, 32] ++ ds ++ [59]))] W (Bel (.string (tB (linS n ([118, 97, 114, 32] ++ ds ++ [59])))) W)) := Lib.hid fun W _ => vr_line n _ W hn h
    obtain ⟨z1, hz1⟩ : ∃ q, ([118, 97, 114, 32]) ++ (ds) = q := ⟨_, rfl⟩
    have lz1 := congrArg List.length hz1
    rw [List.length_append] at lz1
    obtain ⟨z2, hz2⟩ : ∃ q, (z1) ++ ([59]) = q := ⟨_, rfl⟩
    have lz2 := congrArg List.length hz2
    rw [List.length_append] at lz2
    have heq : z2 = [118, 97, 114, 32] ++ ds ++ [59] := by
      subst hz1 hz2
      rfl
    have hll : z2.length ≤ 140737488355328 := by rw [heq]; exact hcn
    have kaz1 := fun w => add_tB (P := Tryz.prog) w (A := ⟨#[118, 97, 114, 32]⟩) (B := tB ds) rfl rfl hz1 (by (try simp only [List.length_cons, List.length_nil] at *); omega)
    have kaz2 := fun w => add_tB (P := Tryz.prog) w (A := tB z1) (B := ⟨#[59]⟩) rfl rfl hz2 (by (try simp only [List.length_cons, List.length_nil] at *); omega)
    have HZ := Lib.hid heq
    clear heq hll hz1 hz2 lz1 lz2
    rw [← HZ.out] at KN ⊢
    generalize linS n z2 = ln at *
    clear HZ h hcn hE hR hl2 z0
    go_enter Tryz.func31, Tryz.ntmps31
    go_wp2_with (first | (go_at_call 30; (with_reducible refine (KD.out _ ?_).mono ?_); (exact bl); rintro e w1 ⟨rfl, hb1⟩) | (go_at_call 28; (with_reducible refine (KN.out _ ?_).mono ?_); (exact bl); rintro e w2 ⟨rfl, hb2⟩))
    go_ret
    exact ⟨rfl, bl⟩
  · rw [if_neg z0] at h ⊢
    have q0 : ((r.l.length : Int) == 0) = true := by simp only [beq_iff_eq]; omega
    clear hE hR hl2 z0 h
    go_enter Tryz.func31, Tryz.ntmps31
    go_wp2
    go_ret
    exact ⟨rfl, bl⟩
set_option maxHeartbeats 2000000 in
set_option maxRecDepth 20000 in
theorem vr_transitions (E : Rw va.En) (n : Nat) (kw : ByteArray) (r : Rw Tt) (a : Rw St) (w : World) (hE : RsE w w.heap.size E) (hR : RsTs w w.heap.size r) (ha : RdR w w.heap.size 6 SC a) (hn : n ≤ 140737488355328) (hwf : ∀ t ∈ r.l, (0 ≤ t.to ∧ t.to < a.l.length) ∧ ∀ y ∈ t.cd.list, wfK y) (h : ((r.l.map (tr1S E.l a.l n (bsT kw ++ [32]))).flatten).length ≤ 140737488355328) :
    Calls Tryz.prog 100 #[.slice E.A E.l.length E.c, .int .i64 (n : Int), .string kw, .slice r.A r.l.length r.c, aV a] w (Bel (.string (tB ((r.l.map (tr1S E.l a.l n (bsT kw ++ [32]))).flatten))) w) := by
  have HR := Lib.hid hR.1
  have HAA := Lib.hid ha
  have h9 := hR.1.len
  have h9a := ha.len
  unfold maxLen at h9 h9a
  have KTT : Hid (∀ t ∈ r.l, (t.cd.tx E.l).length ≤ 140737488355328 → ∀ W, Below w.heap.size w W → Calls Tryz.prog 38 #[.slice E.A E.l.length E.c, xV t.cd] W (Bel (.string (tB (t.cd.tx E.l))) W)) := Lib.hid fun t hq hl W hb => vr_text E t.cd (hwf t hq).2 W (hE.blw hb hb.size) ((hR.2 t hq).1.to hb) hl
  have HTO : Hid (∀ t ∈ r.l, 0 ≤ t.to ∧ t.to < a.l.length) := Lib.hid fun t hq => (hwf t hq).1
  obtain ⟨F, hF⟩ : ∃ F : Nat → List UInt8, F = fun k => ((r.l.take k).map (tr1S E.l a.l n (bsT kw ++ [32]))).flatten := ⟨_, rfl⟩
  have HF : Hid (∀ (k : Nat) y, r.l[k]? = some y → F (k + 1) = F k ++ (tr1S E.l a.l n (bsT kw ++ [32])) y ∧ (F (k + 1)).length ≤ 140737488355328) := Lib.hid fun k y hy => by
    rw [hF]
    exact ⟨flat_take (tr1S E.l a.l n (bsT kw ++ [32])) r.l hy, Nat.le_trans (flat_le (tr1S E.l a.l n (bsT kw ++ [32])) r.l (k + 1)) h⟩
  have hF0 : F 0 = [] := by rw [hF]; rfl
  have hFl : F r.l.length = (r.l.map (tr1S E.l a.l n (bsT kw ++ [32]))).flatten := by rw [hF]; simp only [List.take_length]
  have HF0 := Lib.hid hF0
  rw [← hFl]
  clear hF hF0 hFl h
  clear hE hR hwf ha
  go_enter Tryz.func100, Tryz.ntmps100
  go_wp2
  obtain ⟨W0, hW0⟩ : ∃ W0, (w.alloc (.cells #[.slice a.A a.l.length a.c] 92)) = W0 := ⟨_, rfl⟩
  have hB0 : Below w.heap.size w W0 := by rw [← hW0]; exact bel_box _
  have b0 : W0.cell? ⟨w.heap.size, 0, none⟩ = some (.slice a.A a.l.length a.c) := by rw [← hW0]; simp [go_sem]
  have HW0 := Lib.hid hW0
  clear hW0
  rw [HW0.out]
  clear HW0
  go_loopw [11, 12] (fun s i wr => ∃ k : Nat, k ≤ r.l.length ∧ i = .int .i64 (k : Int) ∧ s = .string (tB (F k)) ∧ Below W0.heap.size W0 wr) (fun _ i _ => r.l.length - (intOf i).toNat)
  case atStart => exact ⟨0, by omega, rfl, by rw [HF0.out]; rfl, Below.refl _ _⟩
  case round =>
    obtain ⟨k, hk, rfl, rfl, hbl⟩ := hrel
    have hbw : Below w.heap.size w wr := hB0.trans (hbl.mono hB0.size)
    have b0 := cell_below hbl b0
    by_cases hlt : k < r.l.length
    · obtain ⟨ad, y, hA, had, hy, hm, ⟨⟨c0, c1, c2, c3, c4, c5⟩, c6, c7⟩⟩ := (HR.out.blw oneB_T hbw hbw.size).at_ hlt
      rw [hA]
      obtain ⟨ht0, ht1⟩ := HTO.out y hm
      obtain ⟨hj, hle⟩ := HF.out k y hy
      obtain ⟨s1, hs1⟩ : ∃ q, F (k + 1) = q := ⟨_, rfl⟩
      have HS1 := Lib.hid hs1
      rw [hs1] at hj hle
      clear hs1
      obtain ⟨s0, hs0⟩ : ∃ q, F k = q := ⟨_, rfl⟩
      rw [hs0] at hj ⊢
      clear hs0
      unfold tr1S trnS at hj
      have hto : y.to.toNat < a.l.length := by omega
      obtain ⟨aa, u, hAa, haa, hu, _, ⟨s00, _⟩⟩ := (HAA.out.blw oneB_S hbw hbw.size).at_ hto
      have e0 : (a.l.map St.nm).getD y.to.toNat ⟨#[]⟩ = u.nm := by
        rw [List.getD_eq_getElem?_getD, List.getElem?_map, hu]
        rfl
      rw [e0] at hj
      rw [hAa] at b0
      have KT0 := KTT.out y hm
      generalize y.cd.tx E.l = tx at *
      have hlj : tx.length ≤ 140737488355328 := by
        rw [hj] at hle
        unfold linS at hle
        simp only [List.length_append] at hle
        omega
      have KT := Lib.hid (KT0 hlj)
      simp only [xV] at KT
      clear hy hm hA KT0 KTT HF hlj e0 hu hAa HTO
      have hik : (k : Int) < (r.l.length : Int) := by omega
      by_cases re : y.re = true
      · rw [if_pos re] at hj
        rw [re] at c7
        clear re
        have hcn : (bsT kw ++ [32] ++ (tx ++ [32, 99, 111, 110, 116, 105, 110, 117, 101, 32] ++ bsT u.nm ++ [59])).length ≤ 140737488355328 := by rw [hj] at hle; simp only [List.length_append] at hle; unfold linS at hle; simp only [List.length_append] at hle ⊢; omega
        have hln : (linS n (bsT kw ++ [32] ++ (tx ++ [32, 99, 111, 110, 116, 105, 110, 117, 101, 32] ++ bsT u.nm ++ [59]))).length ≤ 140737488355328 := by rw [hj, List.length_append] at hle; omega
        have KN : Hid (∀ W, Below w.heap.size w W → Calls Tryz.prog 28 #[.int .i64 (n : Int), .string (tB (bsT kw ++ [32] ++ (tx ++ [32, 99, 111, 110, 116, 105, 110, 117, 101, 32] ++ bsT u.nm ++ [59])))] W (Bel (.string (tB (linS n (bsT kw ++ [32] ++ (tx ++ [32, 99, 111, 110, 116, 105, 110, 117, 101, 32] ++ bsT u.nm ++ [59]))))) W)) := Lib.hid fun W _ => vr_line n _ W hn hln
        obtain ⟨z1, hz1⟩ : ∃ q, (bsT kw) ++ ([32]) = q := ⟨_, rfl⟩
        have lz1 := congrArg List.length hz1
        rw [List.length_append] at lz1
        obtain ⟨z2, hz2⟩ : ∃ q, (z1) ++ (tx) = q := ⟨_, rfl⟩
        have lz2 := congrArg List.length hz2
        rw [List.length_append] at lz2
        obtain ⟨z3, hz3⟩ : ∃ q, (z2) ++ ([32, 99, 111, 110, 116, 105, 110, 117, 101, 32]) = q := ⟨_, rfl⟩
        have lz3 := congrArg List.length hz3
        rw [List.length_append] at lz3
        obtain ⟨z4, hz4⟩ : ∃ q, (z3) ++ (bsT u.nm) = q := ⟨_, rfl⟩
        have lz4 := congrArg List.length hz4
        rw [List.length_append] at lz4
        obtain ⟨z5, hz5⟩ : ∃ q, (z4) ++ ([59]) = q := ⟨_, rfl⟩
        have lz5 := congrArg List.length hz5
        rw [List.length_append] at lz5
        have heq : z5 = bsT kw ++ [32] ++ (tx ++ [32, 99, 111, 110, 116, 105, 110, 117, 101, 32] ++ bsT u.nm ++ [59]) := by
          subst hz1 hz2 hz3 hz4 hz5
          simp only [List.append_assoc]
        have hll : z5.length ≤ 140737488355328 := by rw [heq]; exact hcn
        have kaz1 := fun w => add_tB (P := Tryz.prog) w (A := kw) (B := ⟨#[32]⟩) (tB_bsT _).symm rfl hz1 (by (try simp only [List.length_cons, List.length_nil] at *); omega)
        have kaz2 := fun w => add_tB (P := Tryz.prog) w (A := tB z1) (B := tB tx) rfl rfl hz2 (by (try simp only [List.length_cons, List.length_nil] at *); omega)
        have kaz3 := fun w => add_tB (P := Tryz.prog) w (A := tB z2) (B := ⟨#[32, 99, 111, 110, 116, 105, 110, 117, 101, 32]⟩) rfl rfl hz3 (by (try simp only [List.length_cons, List.length_nil] at *); omega)
        have kaz4 := fun w => add_tB (P := Tryz.prog) w (A := tB z3) (B := u.nm) rfl (tB_bsT _).symm hz4 (by (try simp only [List.length_cons, List.length_nil] at *); omega)
        have kaz5 := fun w => add_tB (P := Tryz.prog) w (A := tB z4) (B := ⟨#[59]⟩) rfl rfl hz5 (by (try simp only [List.length_cons, List.length_nil] at *); omega)
        have HZ := Lib.hid heq
        clear heq hll hz1 hz2 hz3 hz4 hz5 lz1 lz2 lz3 lz4 lz5
        rw [← HZ.out] at KN hj hln
        clear HZ hcn
        generalize linS n z5 = ln at *
        rw [hj] at hle
        obtain ⟨z6, hz6⟩ : ∃ q, (s0) ++ (ln) = q := ⟨_, rfl⟩
        have lz6 := congrArg List.length hz6
        rw [List.length_append] at lz6
        have heq9 : z6 = s0 ++ ln := by
          subst hz6
          rfl
        have hll : z6.length ≤ 140737488355328 := by rw [heq9]; exact hle
        have kaz6 := fun w => add_tB (P := Tryz.prog) w (A := tB s0) (B := tB ln) rfl rfl hz6 (by (try simp only [List.length_cons, List.length_nil] at *); omega)
        have HZ9 := Lib.hid heq9
        clear heq9 hll hz6 lz6
        have HN : Hid (F (k + 1) = z6) := Lib.hid (HS1.out.trans (hj.trans HZ9.out.symm))
        clear hj hle hln HZ9 HS1
        go_wp2
        have q_b0 := cell_regrown b0
        have q_c0 := cell_regrown c0
        have q_c1 := cell_regrown c1
        have q_c2 := cell_regrown c2
        have q_c3 := cell_regrown c3
        have q_c4 := cell_regrown c4
        have q_c5 := cell_regrown c5
        have q_c6 := cell_regrown c6
        have q_c7 := cell_regrown c7
        have q_s00 := cell_regrown s00
        have k_0 := fun dd os => Calls.regrown_of (KT.out (grow (redrawn wr dd) os) (hbw.trans ((below_regrown wr dd os).mono hbw.size)))
        have k_1 := fun dd os => Calls.regrown_of (KN.out (grow (redrawn wr dd) os) (hbw.trans ((below_regrown wr dd os).mono hbw.size)))
        refine wp_region_quiet_below (by kernel_rfl) (by kernel_rfl) ?_
        repeat (quiet_step (first | with_reducible exact k_0 _ _ | with_reducible exact k_1 _ _))
        refine wpQuiet_nil ?_
        intro _ hw'
        obtain ⟨⟨dq, osq⟩, hw''⟩ := hw'
        subst hw''
        have hrw9 : Below wr.heap.size wr (grow (redrawn wr dq) osq) := below_regrown wr dq osq
        have hw9 : Below w.heap.size w (grow (redrawn wr dq) osq) := hbw.trans (hrw9.mono hbw.size)
        generalize grow (redrawn wr dq) osq = w9 at hw9 hrw9 ⊢
        clear q_b0 q_c0 q_c1 q_c2 q_c3 q_c4 q_c5 q_c6 q_c7 q_s00 k_0 k_1
        go_wp2
        exact ⟨⟨k + 1, by omega, by congr 1, by rw [HN.out], hbl.trans (hrw9.mono hbl.size)⟩, by simp [intOf]; omega⟩
      · rw [if_neg re] at hj
        have re' : y.re = false := by simpa using re
        rw [re'] at c7
        clear re re'
        have hcn : (bsT kw ++ [32] ++ (tx ++ [32, 116, 104, 101, 110, 32] ++ bsT u.nm ++ [59])).length ≤ 140737488355328 := by rw [hj] at hle; simp only [List.length_append] at hle; unfold linS at hle; simp only [List.length_append] at hle ⊢; omega
        have hln : (linS n (bsT kw ++ [32] ++ (tx ++ [32, 116, 104, 101, 110, 32] ++ bsT u.nm ++ [59]))).length ≤ 140737488355328 := by rw [hj, List.length_append] at hle; omega
        have KN : Hid (∀ W, Below w.heap.size w W → Calls Tryz.prog 28 #[.int .i64 (n : Int), .string (tB (bsT kw ++ [32] ++ (tx ++ [32, 116, 104, 101, 110, 32] ++ bsT u.nm ++ [59])))] W (Bel (.string (tB (linS n (bsT kw ++ [32] ++ (tx ++ [32, 116, 104, 101, 110, 32] ++ bsT u.nm ++ [59]))))) W)) := Lib.hid fun W _ => vr_line n _ W hn hln
        obtain ⟨z1, hz1⟩ : ∃ q, (bsT kw) ++ ([32]) = q := ⟨_, rfl⟩
        have lz1 := congrArg List.length hz1
        rw [List.length_append] at lz1
        obtain ⟨z2, hz2⟩ : ∃ q, (z1) ++ (tx) = q := ⟨_, rfl⟩
        have lz2 := congrArg List.length hz2
        rw [List.length_append] at lz2
        obtain ⟨z3, hz3⟩ : ∃ q, (z2) ++ ([32, 116, 104, 101, 110, 32]) = q := ⟨_, rfl⟩
        have lz3 := congrArg List.length hz3
        rw [List.length_append] at lz3
        obtain ⟨z4, hz4⟩ : ∃ q, (z3) ++ (bsT u.nm) = q := ⟨_, rfl⟩
        have lz4 := congrArg List.length hz4
        rw [List.length_append] at lz4
        obtain ⟨z5, hz5⟩ : ∃ q, (z4) ++ ([59]) = q := ⟨_, rfl⟩
        have lz5 := congrArg List.length hz5
        rw [List.length_append] at lz5
        have heq : z5 = bsT kw ++ [32] ++ (tx ++ [32, 116, 104, 101, 110, 32] ++ bsT u.nm ++ [59]) := by
          subst hz1 hz2 hz3 hz4 hz5
          simp only [List.append_assoc]
        have hll : z5.length ≤ 140737488355328 := by rw [heq]; exact hcn
        have kaz1 := fun w => add_tB (P := Tryz.prog) w (A := kw) (B := ⟨#[32]⟩) (tB_bsT _).symm rfl hz1 (by (try simp only [List.length_cons, List.length_nil] at *); omega)
        have kaz2 := fun w => add_tB (P := Tryz.prog) w (A := tB z1) (B := tB tx) rfl rfl hz2 (by (try simp only [List.length_cons, List.length_nil] at *); omega)
        have kaz3 := fun w => add_tB (P := Tryz.prog) w (A := tB z2) (B := ⟨#[32, 116, 104, 101, 110, 32]⟩) rfl rfl hz3 (by (try simp only [List.length_cons, List.length_nil] at *); omega)
        have kaz4 := fun w => add_tB (P := Tryz.prog) w (A := tB z3) (B := u.nm) rfl (tB_bsT _).symm hz4 (by (try simp only [List.length_cons, List.length_nil] at *); omega)
        have kaz5 := fun w => add_tB (P := Tryz.prog) w (A := tB z4) (B := ⟨#[59]⟩) rfl rfl hz5 (by (try simp only [List.length_cons, List.length_nil] at *); omega)
        have HZ := Lib.hid heq
        clear heq hll hz1 hz2 hz3 hz4 hz5 lz1 lz2 lz3 lz4 lz5
        rw [← HZ.out] at KN hj hln
        clear HZ hcn
        generalize linS n z5 = ln at *
        rw [hj] at hle
        obtain ⟨z6, hz6⟩ : ∃ q, (s0) ++ (ln) = q := ⟨_, rfl⟩
        have lz6 := congrArg List.length hz6
        rw [List.length_append] at lz6
        have heq9 : z6 = s0 ++ ln := by
          subst hz6
          rfl
        have hll : z6.length ≤ 140737488355328 := by rw [heq9]; exact hle
        have kaz6 := fun w => add_tB (P := Tryz.prog) w (A := tB s0) (B := tB ln) rfl rfl hz6 (by (try simp only [List.length_cons, List.length_nil] at *); omega)
        have HZ9 := Lib.hid heq9
        clear heq9 hll hz6 lz6
        have HN : Hid (F (k + 1) = z6) := Lib.hid (HS1.out.trans (hj.trans HZ9.out.symm))
        clear hj hle hln HZ9 HS1
        go_wp2
        have q_b0 := cell_regrown b0
        have q_c0 := cell_regrown c0
        have q_c1 := cell_regrown c1
        have q_c2 := cell_regrown c2
        have q_c3 := cell_regrown c3
        have q_c4 := cell_regrown c4
        have q_c5 := cell_regrown c5
        have q_c6 := cell_regrown c6
        have q_c7 := cell_regrown c7
        have q_s00 := cell_regrown s00
        have k_0 := fun dd os => Calls.regrown_of (KT.out (grow (redrawn wr dd) os) (hbw.trans ((below_regrown wr dd os).mono hbw.size)))
        have k_1 := fun dd os => Calls.regrown_of (KN.out (grow (redrawn wr dd) os) (hbw.trans ((below_regrown wr dd os).mono hbw.size)))
        refine wp_region_quiet_below (by kernel_rfl) (by kernel_rfl) ?_
        repeat (quiet_step (first | with_reducible exact k_0 _ _ | with_reducible exact k_1 _ _))
        refine wpQuiet_nil ?_
        intro _ hw'
        obtain ⟨⟨dq, osq⟩, hw''⟩ := hw'
        subst hw''
        have hrw9 : Below wr.heap.size wr (grow (redrawn wr dq) osq) := below_regrown wr dq osq
        have hw9 : Below w.heap.size w (grow (redrawn wr dq) osq) := hbw.trans (hrw9.mono hbw.size)
        generalize grow (redrawn wr dq) osq = w9 at hw9 hrw9 ⊢
        clear q_b0 q_c0 q_c1 q_c2 q_c3 q_c4 q_c5 q_c6 q_c7 q_s00 k_0 k_1
        go_wp2
        exact ⟨⟨k + 1, by omega, by congr 1, by rw [HN.out], hbl.trans (hrw9.mono hbl.size)⟩, by simp [intOf]; omega⟩
    · obtain rfl : k = r.l.length := by omega
      go_wp2
      go_ret
      exact ⟨rfl, hbw⟩
end Go.Proofs.YtoimjcfdiljkjaaGreatDoor
namespace Go.Proofs.YtoimjcfdiljkjaaGreatDoor
open Go.RowKit Go.Sort
inductive WfR : Nat → St → Prop
  | mk (k : Nat) (s : St) (h1 : s.lc.l.length ≤ 1048576 ∧ ∀ d ∈ s.lc.l, d.ck.l.length ≤ 1048576) (h2 : ∀ q ∈ s.qs.l, ∀ y ∈ q.r.list, wfK y) (h3 : ∀ t ∈ s.un.l, (0 ≤ t.to ∧ t.to < k) ∧ ∀ y ∈ t.cd.list, wfK y) (h4 : ∀ t ∈ s.ut.l, (0 ≤ t.to ∧ t.to < k) ∧ ∀ y ∈ t.cd.list, wfK y) (h5 : ∀ a ∈ s.au.l, ∀ t ∈ a.l, WfR a.l.length t) : WfR k s
theorem WfR.of {k : Nat} {s : St} (h : WfR k s) : (s.lc.l.length ≤ 1048576 ∧ ∀ d ∈ s.lc.l, d.ck.l.length ≤ 1048576) ∧ (∀ q ∈ s.qs.l, ∀ y ∈ q.r.list, wfK y) ∧ (∀ t ∈ s.un.l, (0 ≤ t.to ∧ t.to < k) ∧ ∀ y ∈ t.cd.list, wfK y) ∧ (∀ t ∈ s.ut.l, (0 ≤ t.to ∧ t.to < k) ∧ ∀ y ∈ t.cd.list, wfK y) ∧ (∀ a ∈ s.au.l, ∀ t ∈ a.l, WfR a.l.length t) := by
  cases h with
  | mk k s h1 h2 h3 h4 h5 => exact ⟨h1, h2, h3, h4, h5⟩
set_option maxHeartbeats 2000000 in
set_option maxRecDepth 20000 in
theorem vr_autos (E : Rw va.En) (lv : Int) (G : Rw St → List UInt8) (r : Rw (Rw St)) (w : World) (hR : RdR w w.heap.size 1 AC r)
    (KA : Hid (∀ a ∈ r.l, (G a).length ≤ 140737488355328 → ∀ W, Below w.heap.size w W → Calls Tryz.prog 61 #[.slice E.A E.l.length E.c, .int .i64 lv, aV a] W (Bel (.string (tB (G a))) W))) (h : ((r.l.map G).flatten).length ≤ 140737488355328) :
    Calls Tryz.prog 34 #[.slice E.A E.l.length E.c, .int .i64 lv, .slice r.A r.l.length r.c] w (Bel (.string (tB ((r.l.map G).flatten))) w) := by
  have HR := Lib.hid hR
  have h9 := hR.len
  unfold maxLen at h9
  obtain ⟨F, hF⟩ : ∃ F : Nat → List UInt8, F = fun k => ((r.l.take k).map G).flatten := ⟨_, rfl⟩
  have HF : Hid (∀ (k : Nat) y, r.l[k]? = some y → F (k + 1) = F k ++ G y ∧ (F (k + 1)).length ≤ 140737488355328) := Lib.hid fun k y hy => by
    rw [hF]
    exact ⟨flat_take G r.l hy, Nat.le_trans (flat_le G r.l (k + 1)) h⟩
  have hF0 : F 0 = [] := by rw [hF]; rfl
  have hFl : F r.l.length = (r.l.map G).flatten := by rw [hF]; simp only [List.take_length]
  have HF0 := Lib.hid hF0
  rw [← hFl]
  clear hF hF0 hFl h hR
  go_enter Tryz.func34, Tryz.ntmps34
  go_wp2
  go_loopw [7, 8] (fun s i wr => ∃ k : Nat, k ≤ r.l.length ∧ i = .int .i64 (k : Int) ∧ s = .string (tB (F k)) ∧ Below w.heap.size w wr) (fun _ i _ => r.l.length - (intOf i).toNat)
  case atStart => exact ⟨0, by omega, rfl, by rw [HF0.out]; rfl, Below.refl _ _⟩
  case round =>
    obtain ⟨k, hk, rfl, rfl, hbl⟩ := hrel
    by_cases hlt : k < r.l.length
    · obtain ⟨ad, y, hA, had, hy, hm, c0⟩ := (HR.out.blw oneB_A hbl hbl.size).at_ hlt
      unfold AC at c0
      rw [Nat.mul_one] at c0
      rw [hA]
      obtain ⟨hj, hle⟩ := HF.out k y hy
      obtain ⟨s1, hs1⟩ : ∃ q, F (k + 1) = q := ⟨_, rfl⟩
      have HS1 := Lib.hid hs1
      rw [hs1] at hj hle
      clear hs1
      obtain ⟨s0, hs0⟩ : ∃ q, F k = q := ⟨_, rfl⟩
      rw [hs0] at hj ⊢
      clear hs0
      have KY0 := KA.out y hm
      generalize G y = g at *
      rw [hj] at hle
      have hlg : g.length ≤ 140737488355328 := by rw [List.length_append] at hle; omega
      have KY := Lib.hid (KY0 hlg)
      clear hy hm hA KY0 KA HF hlg
      obtain ⟨z4, hz4⟩ : ∃ q, (s0) ++ (g) = q := ⟨_, rfl⟩
      have lz4 := congrArg List.length hz4
      rw [List.length_append] at lz4
      have heq : z4 = s0 ++ g := by
        subst hz4
        rfl
      have hll : z4.length ≤ 140737488355328 := by rw [heq]; exact hle
      have kaz4 := fun w => add_tB (P := Tryz.prog) w (A := tB s0) (B := tB g) rfl rfl hz4 (by (try simp only [List.length_cons, List.length_nil] at *); omega)
      have HZ := Lib.hid heq
      clear heq hll hz4 lz4
      have HN : Hid (F (k + 1) = z4) := Lib.hid (HS1.out.trans (hj.trans HZ.out.symm))
      clear hj hle HZ HS1
      go_wp2_with (go_at_call 61; (with_reducible refine (KY.out _ ?_).mono ?_); (exact bl); rintro e w1 ⟨rfl, hb1⟩)
      exact ⟨⟨k + 1, by omega, by congr 1, by rw [HN.out], bl⟩, by simp [intOf]; omega⟩
    · obtain rfl : k = r.l.length := by omega
      go_wp2
      go_ret
      exact ⟨rfl, bl⟩
set_option maxHeartbeats 2000000 in
set_option maxRecDepth 20000 in
theorem vr_auto_of (E : Rw va.En) (n : Nat) (a : Rw St) (w : World) (hE : RsE w w.heap.size E) (hA : RsA w w.heap.size a) (hn : n + 2 ≤ 140737488355328) (hW : ∀ t ∈ a.l, WfR a.l.length t)
    (KA : Hid (∀ t ∈ a.l, ∀ a' ∈ t.au.l, (auS E.l (n + 2) a').length ≤ 140737488355328 → ∀ W, Below w.heap.size w W → Calls Tryz.prog 61 #[.slice E.A E.l.length E.c, .int .i64 ((n : Int) + 2), aV a'] W (Bel (.string (tB (auS E.l (n + 2) a'))) W))) (h : (auS E.l n a).length ≤ 140737488355328) :
    Calls Tryz.prog 61 #[.slice E.A E.l.length E.c, .int .i64 (n : Int), aV a] w (Bel (.string (tB (auS E.l n a))) w) := by
  have HR := Lib.hid hA.1
  have h9 := hA.1.len
  unfold maxLen at h9
  have HW1 := Lib.hid (show IntKind.i64.wrap ((n : Int) + 1) = (n : Int) + 1 from by rw [IntKind.wrap_i64]; omega)
  have HW2 := Lib.hid (show IntKind.i64.wrap ((n : Int) + 2) = (n : Int) + 2 from by rw [IntKind.wrap_i64]; omega)
  have hn64 : (n : Int) + 1 ≤ 9223372036854775807 := by omega
  have hn65 : (n : Int) + 2 ≤ 9223372036854775807 := by omega
  unfold auS autS at h ⊢
  obtain ⟨F, hF⟩ : ∃ F : Nat → List UInt8, F = fun k => linS n [97, 117, 116, 111, 109, 97, 116, 111, 110] ++ ((a.l.take k).map fun t => t.tx E.l (n + 1) a.l).flatten := ⟨_, rfl⟩
  have HF : Hid (∀ (k : Nat) y, a.l[k]? = some y → F (k + 1) = F k ++ y.tx E.l (n + 1) a.l ∧ (F (k + 1)).length ≤ 140737488355328) := Lib.hid fun k y hy => by
    rw [hF]
    refine ⟨?_, ?_⟩
    · simp only
      rw [flat_take (fun t => St.tx E.l t (n + 1) a.l) a.l hy, List.append_assoc]
    · have := flat_le (fun t => St.tx E.l t (n + 1) a.l) a.l (k + 1)
      simp only [List.length_append] at h ⊢
      omega
  have hF0 : F 0 = linS n [97, 117, 116, 111, 109, 97, 116, 111, 110] := by rw [hF]; simp
  have hFl : F a.l.length = linS n [97, 117, 116, 111, 109, 97, 116, 111, 110] ++ (a.l.map fun t => t.tx E.l (n + 1) a.l).flatten := by rw [hF]; simp only [List.take_length]
  have KH : Hid (∀ W, Below w.heap.size w W → Calls Tryz.prog 28 #[.int .i64 (n : Int), .string ⟨#[97, 117, 116, 111, 109, 97, 116, 111, 110]⟩] W (Bel (.string (tB (F 0))) W)) := Lib.hid fun W hb => by
    rw [hF0]
    exact vr_line n [97, 117, 116, 111, 109, 97, 116, 111, 110] W (by omega) (by simp only [List.length_append] at h; omega)
  have KE : Hid (∀ W, Below w.heap.size w W → Calls Tryz.prog 28 #[.int .i64 (n : Int), .string ⟨#[101, 110, 100]⟩] W (Bel (.string (tB (linS n [101, 110, 100]))) W)) := Lib.hid fun W hb =>
    vr_line n [101, 110, 100] W (by omega) (by simp only [List.length_append] at h; omega)
  rw [← hFl] at h ⊢
  generalize linS n [101, 110, 100] = pe at *
  obtain ⟨zz, hzz⟩ : ∃ q, (F a.l.length) ++ (pe) = q := ⟨_, rfl⟩
  have lzz := congrArg List.length hzz
  rw [List.length_append] at lzz
  have heq : zz = F a.l.length ++ pe := by
    subst hzz
    rfl
  have hll : zz.length ≤ 140737488355328 := by rw [heq]; exact h
  have kazz := fun w => add_tB (P := Tryz.prog) w (A := tB (F a.l.length)) (B := tB pe) rfl rfl hzz (by (try simp only [List.length_cons, List.length_nil] at *); omega)
  have HZ := Lib.hid heq
  clear heq hll hzz lzz
  rw [← HZ.out]
  have KZ := Lib.hid kazz
  have HA := Lib.hid hA
  have HE := Lib.hid hE
  have HWF := Lib.hid hW
  clear hF hF0 hFl h hA hE hW kazz HZ
  go_enter Tryz.func61, Tryz.ntmps61
  go_wp2_with (go_at_call 28; (with_reducible refine (KH.out _ ?_).mono ?_); (exact bl); rintro e w1 ⟨rfl, hb1⟩)
  obtain ⟨W0, hW0⟩ : ∃ W0, w1 = W0 := ⟨_, rfl⟩
  have hB1 : Below w.heap.size w w1 := bl
  have b0 : w1.cell? ⟨w.heap.size, 0, none⟩ = some (.slice a.A a.l.length a.c) := cell_below hb1 (by simp [go_sem])
  clear hW0
  go_loopw [7, 8] (fun s i wr => ∃ k : Nat, k ≤ a.l.length ∧ i = .int .i64 (k : Int) ∧ s = .string (tB (F k)) ∧ Below w1.heap.size w1 wr) (fun _ i _ => a.l.length - (intOf i).toNat)
  case atStart => exact ⟨0, by omega, rfl, rfl, Below.refl _ _⟩
  case round =>
    obtain ⟨k, hk, rfl, rfl, hbl⟩ := hrel
    have hbw : Below w.heap.size w wr := hB1.trans (hbl.mono hB1.size)
    have b0 := cell_below hbl b0
    by_cases hlt : k < a.l.length
    · obtain ⟨ad, y, hAd, had, hy, hm, ⟨c0, c1, c2, c3, c4, c5⟩⟩ := (HR.out.blw oneB_S hbw hbw.size).at_ hlt
      obtain ⟨_, g2, g3, g4, g5, g6, g7, g8⟩ := (HA.out.2 y hm).of
      obtain ⟨f1, f2, f3, f4, f5⟩ := (HWF.out y hm).of
      have hE := HE.out
      have hA := HA.out
      obtain ⟨hj, hle⟩ := HF.out k y hy
      obtain ⟨s1, hs1⟩ : ∃ q, F (k + 1) = q := ⟨_, rfl⟩
      have HS1 := Lib.hid hs1
      rw [hs1] at hj hle
      clear hs1
      obtain ⟨s0, hs0⟩ : ∃ q, F k = q := ⟨_, rfl⟩
      rw [hs0] at hj ⊢
      clear hs0
      rw [St.tx_eq] at hj
      have e12 : n + 1 + 1 = n + 2 := rfl
      rw [e12] at hj
      have hps : (linS (n + 1) ([115, 116, 97, 116, 101, 32] ++ bsT y.nm)).length ≤ 140737488355328 ∧ (lcsS E.l (n + 2) y.lc.l).length ≤ 140737488355328 ∧ ((y.un.l.map (tr1S E.l a.l (n + 2) [117, 110, 108, 101, 115, 115, 32])).flatten).length ≤ 140737488355328 ∧ (linS (n + 1) [100, 111]).length ≤ 140737488355328 ∧ ((y.qs.l.map (eq1S E.l (n + 2))).flatten).length ≤ 140737488355328 ∧ ((y.au.l.map (auS E.l (n + 2))).flatten).length ≤ 140737488355328 ∧ ((y.ut.l.map (tr1S E.l a.l (n + 2) [117, 110, 116, 105, 108, 32])).flatten).length ≤ 140737488355328 ∧ (linS (n + 1) [100, 111, 110, 101]).length ≤ 140737488355328 := by
        rw [hj] at hle
        simp only [List.length_append] at hle
        refine ⟨?_, ?_, ?_, ?_, ?_, ?_, ?_, ?_⟩ <;> omega
      obtain ⟨hp1, hp2, hp3, hp4, hp5, hp6, hp7, hp8⟩ := hps
      have K1 : Hid (∀ W, Below w.heap.size w W → Calls Tryz.prog 28 #[.int .i64 ((n : Int) + 1), .string (tB ([115, 116, 97, 116, 101, 32] ++ bsT y.nm))] W (Bel (.string (tB (linS (n + 1) ([115, 116, 97, 116, 101, 32] ++ bsT y.nm)))) W)) := Lib.hid fun W hb => by
        have := vr_line (n + 1) ([115, 116, 97, 116, 101, 32] ++ bsT y.nm) W (by omega) hp1
        rwa [show ((n + 1 : Nat) : Int) = (n : Int) + 1 by omega] at this
      have K2 : Hid (∀ W, Below w.heap.size w W → Calls Tryz.prog 31 #[.slice E.A E.l.length E.c, .int .i64 ((n : Int) + 2), .slice y.lc.A y.lc.l.length y.lc.c] W (Bel (.string (tB (lcsS E.l (n + 2) y.lc.l))) W)) := Lib.hid fun W hb => by
        have := vr_locals E (n + 2) y.lc W (hE.blw hb hb.size) (g2.blw hb hb.size) f1.1 f1.2 (by omega) hp2
        rwa [show ((n + 2 : Nat) : Int) = (n : Int) + 2 by omega] at this
      have K3 : Hid (∀ W, Below w.heap.size w W → Calls Tryz.prog 100 #[.slice E.A E.l.length E.c, .int .i64 ((n : Int) + 2), .string ⟨#[117, 110, 108, 101, 115, 115]⟩, .slice y.un.A y.un.l.length y.un.c, aV a] W (Bel (.string (tB ((y.un.l.map (tr1S E.l a.l (n + 2) [117, 110, 108, 101, 115, 115, 32])).flatten))) W)) := Lib.hid fun W hb => by
        have := vr_transitions E (n + 2) ⟨#[117, 110, 108, 101, 115, 115]⟩ y.un a W (hE.blw hb hb.size) (g7.blw hb hb.size) (hA.1.blw oneB_S hb hb.size) (by omega) f3 hp3
        rwa [show ((n + 2 : Nat) : Int) = (n : Int) + 2 by omega] at this
      have K4 : Hid (∀ W, Below w.heap.size w W → Calls Tryz.prog 28 #[.int .i64 ((n : Int) + 1), .string ⟨#[100, 111]⟩] W (Bel (.string (tB (linS (n + 1) [100, 111]))) W)) := Lib.hid fun W hb => by
        have := vr_line (n + 1) [100, 111] W (by omega) hp4
        rwa [show ((n + 1 : Nat) : Int) = (n : Int) + 1 by omega] at this
      have K5 : Hid (∀ W, Below w.heap.size w W → Calls Tryz.prog 33 #[.slice E.A E.l.length E.c, .int .i64 ((n : Int) + 2), .slice y.qs.A y.qs.l.length y.qs.c] W (Bel (.string (tB ((y.qs.l.map (eq1S E.l (n + 2))).flatten))) W)) := Lib.hid fun W hb => by
        have := vr_equations E (n + 2) y.qs W (hE.blw hb hb.size) (g3.blw hb hb.size) (by omega) f2 hp5
        rwa [show ((n + 2 : Nat) : Int) = (n : Int) + 2 by omega] at this
      have K6 : Hid (∀ W, Below w.heap.size w W → Calls Tryz.prog 34 #[.slice E.A E.l.length E.c, .int .i64 ((n : Int) + 2), .slice y.au.A y.au.l.length y.au.c] W (Bel (.string (tB ((y.au.l.map (auS E.l (n + 2))).flatten))) W)) := Lib.hid fun W hb => by
        exact vr_autos E ((n : Int) + 2) (auS E.l (n + 2)) y.au W (g4.blw oneB_A hb hb.size) (Lib.hid fun a' ha' hl' W' hb' => KA.out y hm a' ha' hl' W' (hb.trans (hb'.mono hb.size))) hp6
      have K7 : Hid (∀ W, Below w.heap.size w W → Calls Tryz.prog 100 #[.slice E.A E.l.length E.c, .int .i64 ((n : Int) + 2), .string ⟨#[117, 110, 116, 105, 108]⟩, .slice y.ut.A y.ut.l.length y.ut.c, aV a] W (Bel (.string (tB ((y.ut.l.map (tr1S E.l a.l (n + 2) [117, 110, 116, 105, 108, 32])).flatten))) W)) := Lib.hid fun W hb => by
        have := vr_transitions E (n + 2) ⟨#[117, 110, 116, 105, 108]⟩ y.ut a W (hE.blw hb hb.size) (g8.blw hb hb.size) (hA.1.blw oneB_S hb hb.size) (by omega) f4 hp7
        rwa [show ((n + 2 : Nat) : Int) = (n : Int) + 2 by omega] at this
      have K8 : Hid (∀ W, Below w.heap.size w W → Calls Tryz.prog 28 #[.int .i64 ((n : Int) + 1), .string ⟨#[100, 111, 110, 101]⟩] W (Bel (.string (tB (linS (n + 1) [100, 111, 110, 101]))) W)) := Lib.hid fun W hb => by
        have := vr_line (n + 1) [100, 111, 110, 101] W (by omega) hp8
        rwa [show ((n + 1 : Nat) : Int) = (n : Int) + 1 by omega] at this
      simp only [aV] at K3 K7
      rw [hAd] at b0 K3 K7
      have hj' : s1 = s0 ++ (linS (n + 1) ([115, 116, 97, 116, 101, 32] ++ bsT y.nm)) ++ (lcsS E.l (n + 2) y.lc.l) ++ ((y.un.l.map (tr1S E.l a.l (n + 2) [117, 110, 108, 101, 115, 115, 32])).flatten) ++ (linS (n + 1) [100, 111]) ++ ((y.qs.l.map (eq1S E.l (n + 2))).flatten) ++ ((y.au.l.map (auS E.l (n + 2))).flatten) ++ ((y.ut.l.map (tr1S E.l a.l (n + 2) [117, 110, 116, 105, 108, 32])).flatten) ++ (linS (n + 1) [100, 111, 110, 101]) := by rw [hj]; simp only [List.append_assoc]
      rw [hj'] at hle
      clear hj hy hm hAd HF KA hp1 hp2 hp3 hp4 hp5 hp6 hp7 hp8 g2 g3 g4 g5 g6 g7 g8 f1 f2 f3 f4 f5 hE hA e12 HE HA HWF
      obtain ⟨q1, hq1⟩ : ∃ q, [115, 116, 97, 116, 101, 32] ++ bsT y.nm = q := ⟨_, rfl⟩
      rw [hq1] at K1 hle hj'
      have lq1 : q1.length ≤ 140737488355328 := by
        rw [List.length_append, List.length_append] at hle
        unfold linS at hle
        simp only [List.length_append] at hle
        omega
      have kaq := fun w => add_tB (P := Tryz.prog) w (A := ⟨#[115, 116, 97, 116, 101, 32]⟩) (B := y.nm) rfl (tB_bsT _).symm hq1 (by rw [← hq1, List.length_append] at lq1; omega)
      clear hq1 lq1
      generalize linS (n + 1) q1 = p1 at *
      generalize lcsS E.l (n + 2) y.lc.l = p2 at *
      generalize (y.un.l.map (tr1S E.l a.l (n + 2) [117, 110, 108, 101, 115, 115, 32])).flatten = p3 at *
      generalize linS (n + 1) [100, 111] = p4 at *
      generalize (y.qs.l.map (eq1S E.l (n + 2))).flatten = p5 at *
      generalize (y.au.l.map (auS E.l (n + 2))).flatten = p6 at *
      generalize (y.ut.l.map (tr1S E.l a.l (n + 2) [117, 110, 116, 105, 108, 32])).flatten = p7 at *
      generalize linS (n + 1) [100, 111, 110, 101] = p8 at *
      obtain ⟨z1, hz1⟩ : ∃ q, (s0) ++ (p1) = q := ⟨_, rfl⟩
      have lz1 := congrArg List.length hz1
      rw [List.length_append] at lz1
      obtain ⟨z2, hz2⟩ : ∃ q, (z1) ++ (p2) = q := ⟨_, rfl⟩
      have lz2 := congrArg List.length hz2
      rw [List.length_append] at lz2
      obtain ⟨z3, hz3⟩ : ∃ q, (z2) ++ (p3) = q := ⟨_, rfl⟩
      have lz3 := congrArg List.length hz3
      rw [List.length_append] at lz3
      obtain ⟨z4, hz4⟩ : ∃ q, (z3) ++ (p4) = q := ⟨_, rfl⟩
      have lz4 := congrArg List.length hz4
      rw [List.length_append] at lz4
      obtain ⟨z5, hz5⟩ : ∃ q, (z4) ++ (p5) = q := ⟨_, rfl⟩
      have lz5 := congrArg List.length hz5
      rw [List.length_append] at lz5
      obtain ⟨z6, hz6⟩ : ∃ q, (z5) ++ (p6) = q := ⟨_, rfl⟩
      have lz6 := congrArg List.length hz6
      rw [List.length_append] at lz6
      obtain ⟨z7, hz7⟩ : ∃ q, (z6) ++ (p7) = q := ⟨_, rfl⟩
      have lz7 := congrArg List.length hz7
      rw [List.length_append] at lz7
      obtain ⟨z8, hz8⟩ : ∃ q, (z7) ++ (p8) = q := ⟨_, rfl⟩
      have lz8 := congrArg List.length hz8
      rw [List.length_append] at lz8
      have heq : z8 = s0 ++ p1 ++ p2 ++ p3 ++ p4 ++ p5 ++ p6 ++ p7 ++ p8 := by
        subst hz1 hz2 hz3 hz4 hz5 hz6 hz7 hz8
        rfl
      have hll : z8.length ≤ 140737488355328 := by rw [heq]; exact hle
      have kaz1 := fun w => add_tB (P := Tryz.prog) w (A := tB s0) (B := tB p1) rfl rfl hz1 (by (try simp only [List.length_cons, List.length_nil] at *); omega)
      have kaz2 := fun w => add_tB (P := Tryz.prog) w (A := tB z1) (B := tB p2) rfl rfl hz2 (by (try simp only [List.length_cons, List.length_nil] at *); omega)
      have kaz3 := fun w => add_tB (P := Tryz.prog) w (A := tB z2) (B := tB p3) rfl rfl hz3 (by (try simp only [List.length_cons, List.length_nil] at *); omega)
      have kaz4 := fun w => add_tB (P := Tryz.prog) w (A := tB z3) (B := tB p4) rfl rfl hz4 (by (try simp only [List.length_cons, List.length_nil] at *); omega)
      have kaz5 := fun w => add_tB (P := Tryz.prog) w (A := tB z4) (B := tB p5) rfl rfl hz5 (by (try simp only [List.length_cons, List.length_nil] at *); omega)
      have kaz6 := fun w => add_tB (P := Tryz.prog) w (A := tB z5) (B := tB p6) rfl rfl hz6 (by (try simp only [List.length_cons, List.length_nil] at *); omega)
      have kaz7 := fun w => add_tB (P := Tryz.prog) w (A := tB z6) (B := tB p7) rfl rfl hz7 (by (try simp only [List.length_cons, List.length_nil] at *); omega)
      have kaz8 := fun w => add_tB (P := Tryz.prog) w (A := tB z7) (B := tB p8) rfl rfl hz8 (by (try simp only [List.length_cons, List.length_nil] at *); omega)
      have HZ := Lib.hid heq
      clear heq hll hz1 hz2 hz3 hz4 hz5 hz6 hz7 hz8 lz1 lz2 lz3 lz4 lz5 lz6 lz7 lz8
      have HN : Hid (F (k + 1) = z8) := Lib.hid (HS1.out.trans (hj'.trans HZ.out.symm))
      clear hj' hle HZ HS1
      go_wp2
      obtain ⟨WX, hWX⟩ : ∃ WX, (wr.alloc (.cells #[.string y.nm, .slice y.lc.A y.lc.l.length y.lc.c, .slice y.qs.A y.qs.l.length y.qs.c, .slice y.au.A y.au.l.length y.au.c, .slice y.un.A y.un.l.length y.un.c, .slice y.ut.A y.ut.l.length y.ut.c] 95)) = WX := ⟨_, rfl⟩
      have hBX : Below wr.heap.size wr WX := by rw [← hWX]; exact bel_box _
      have hXw : Below w.heap.size w WX := hbw.trans (hBX.mono hbw.size)
      have x0 : WX.cell? ⟨wr.heap.size, 0, none⟩ = some (.string y.nm) := by rw [← hWX]; simp [go_sem]
      have x1 : WX.cell? ⟨wr.heap.size, 1, none⟩ = some (.slice y.lc.A y.lc.l.length y.lc.c) := by rw [← hWX]; simp [go_sem]
      have x2 : WX.cell? ⟨wr.heap.size, 2, none⟩ = some (.slice y.qs.A y.qs.l.length y.qs.c) := by rw [← hWX]; simp [go_sem]
      have x3 : WX.cell? ⟨wr.heap.size, 3, none⟩ = some (.slice y.au.A y.au.l.length y.au.c) := by rw [← hWX]; simp [go_sem]
      have x4 : WX.cell? ⟨wr.heap.size, 4, none⟩ = some (.slice y.un.A y.un.l.length y.un.c) := by rw [← hWX]; simp [go_sem]
      have x5 : WX.cell? ⟨wr.heap.size, 5, none⟩ = some (.slice y.ut.A y.ut.l.length y.ut.c) := by rw [← hWX]; simp [go_sem]
      have b0 := cell_below hBX b0
      have HWX := Lib.hid hWX
      clear hWX
      rw [HWX.out]
      clear HWX
      have q_x0 := cell_regrown x0
      have q_x1 := cell_regrown x1
      have k_0 := fun dd os => Calls.regrown_of (K1.out (grow (redrawn WX dd) os) (hXw.trans ((below_regrown WX dd os).mono hXw.size)))
      have k_1 := fun dd os => Calls.regrown_of (K2.out (grow (redrawn WX dd) os) (hXw.trans ((below_regrown WX dd os).mono hXw.size)))
      refine wp_region_quiet_below (by kernel_rfl) (by kernel_rfl) ?_
      repeat (quiet_step (first | (with_reducible exact k_0 _ _) | (with_reducible exact k_1 _ _) | (simp only [HW1.out, HW2.out]; with_reducible exact k_0 _ _) | (simp only [HW1.out, HW2.out]; with_reducible exact k_1 _ _)))
      refine wpQuiet_nil ?_
      intro _ hw'
      obtain ⟨⟨dq, osq⟩, hw''⟩ := hw'
      subst hw''
      have hrw4 : Below WX.heap.size WX (grow (redrawn WX dq) osq) := below_regrown WX dq osq
      have hw4 : Below w.heap.size w (grow (redrawn WX dq) osq) := hXw.trans (hrw4.mono hXw.size)
      generalize grow (redrawn WX dq) osq = w4 at hw4 hrw4 ⊢
      clear q_x0 q_x1 k_0 k_1
      have b0 := cell_below hrw4 b0
      have x0 := cell_below hrw4 x0
      have x1 := cell_below hrw4 x1
      have x2 := cell_below hrw4 x2
      have x3 := cell_below hrw4 x3
      have x4 := cell_below hrw4 x4
      have x5 := cell_below hrw4 x5
      have hX4 : Below wr.heap.size wr w4 := hBX.trans (hrw4.mono hBX.size)
      clear hrw4
      go_wp2_with (first | (go_at_call 100; (with_reducible refine (K3.out _ ?_).mono ?_); (exact bl); rintro e w5 ⟨rfl, hb5⟩; have hX5 : Below w4.heap.size w4 w5 := hb5) | (go_at_call 28; (with_reducible refine (K4.out _ ?_).mono ?_); (exact bl); rintro e w6 ⟨rfl, hb6⟩))
      have hb6w : Below w.heap.size w w6 := bl
      have hX6 : Below w4.heap.size w4 w6 := hb5.trans (hb6.mono hb5.size)
      have b0 := cell_below hX6 b0
      have x0 := cell_below hX6 x0
      have x1 := cell_below hX6 x1
      have x2 := cell_below hX6 x2
      have x3 := cell_below hX6 x3
      have x4 := cell_below hX6 x4
      have x5 := cell_below hX6 x5
      have q_x2 := cell_regrown x2
      have q_x3 := cell_regrown x3
      have k_0 := fun dd os => Calls.regrown_of (K5.out (grow (redrawn w6 dd) os) (hb6w.trans ((below_regrown w6 dd os).mono hb6w.size)))
      have k_1 := fun dd os => Calls.regrown_of (K6.out (grow (redrawn w6 dd) os) (hb6w.trans ((below_regrown w6 dd os).mono hb6w.size)))
      refine wp_region_quiet_below (by kernel_rfl) (by kernel_rfl) ?_
      repeat (quiet_step (first | (with_reducible exact k_0 _ _) | (with_reducible exact k_1 _ _) | (simp only [HW1.out, HW2.out]; with_reducible exact k_0 _ _) | (simp only [HW1.out, HW2.out]; with_reducible exact k_1 _ _)))
      refine wpQuiet_nil ?_
      intro _ hw'
      obtain ⟨⟨dq, osq⟩, hw''⟩ := hw'
      subst hw''
      have hrw7 : Below w6.heap.size w6 (grow (redrawn w6 dq) osq) := below_regrown w6 dq osq
      have hw7 : Below w.heap.size w (grow (redrawn w6 dq) osq) := hb6w.trans (hrw7.mono hb6w.size)
      generalize grow (redrawn w6 dq) osq = w7 at hw7 hrw7 ⊢
      clear q_x2 q_x3 k_0 k_1
      have b0 := cell_below hrw7 b0
      have x0 := cell_below hrw7 x0
      have x1 := cell_below hrw7 x1
      have x2 := cell_below hrw7 x2
      have x3 := cell_below hrw7 x3
      have x4 := cell_below hrw7 x4
      have x5 := cell_below hrw7 x5
      go_wp2_with (first | (go_at_call 100; (with_reducible refine (K7.out _ ?_).mono ?_); (exact bl); rintro e w8 ⟨rfl, hb8⟩) | (go_at_call 28; (with_reducible refine (K8.out _ ?_).mono ?_); (exact bl); rintro e w9 ⟨rfl, hb9⟩))
      exact ⟨⟨k + 1, by omega, by congr 1, by rw [HN.out], hbl.trans (((hX4.trans (hX6.mono hX4.size)).trans ((hrw7.trans ((hb8.trans (hb9.mono hb8.size)).mono hrw7.size)).mono (hX4.trans (hX6.mono hX4.size)).size)).mono hbl.size)⟩, by simp [intOf]; omega⟩
    · obtain rfl : k = a.l.length := by omega
      have ka := KZ.out
      generalize F a.l.length = s0 at *
      go_wp2_with (go_at_call 28; (with_reducible refine (KE.out _ ?_).mono ?_); (exact bl); rintro e w5 ⟨rfl, hb5⟩)
      go_ret
      exact ⟨rfl, bl⟩
theorem au_len (es : List va.En) (n : Nat) (a : Rw St) : 2 * n ≤ (auS es n a).length := by
  unfold auS autS
  have := lin_len n [97, 117, 116, 111, 109, 97, 116, 111, 110]
  simp only [List.length_append]
  omega
theorem vr_auto (E : Rw va.En) : ∀ (m : Nat) (a : Rw St), (∀ t ∈ a.l, SizeOf.sizeOf t < m) → ∀ (n : Nat) (w : World), RsE w w.heap.size E → RsA w w.heap.size a → (∀ t ∈ a.l, WfR a.l.length t) → (auS E.l n a).length ≤ 140737488355328 →
    Calls Tryz.prog 61 #[.slice E.A E.l.length E.c, .int .i64 (n : Int), aV a] w (Bel (.string (tB (auS E.l n a))) w) := by
  intro m
  induction m with
  | zero =>
    intro a hm n w hE hA hW h
    have hl := au_len E.l n a
    exact vr_auto_of E n a w hE hA (by omega) hW (Lib.hid fun t ht => absurd (hm t ht) (by omega)) h
  | succ m ih =>
    intro a hm n w hE hA hW h
    have hl := au_len E.l n a
    refine vr_auto_of E n a w hE hA (by omega) hW (Lib.hid fun t ht a' ha' hl' W hb => ?_) h
    obtain ⟨_, _, _, _, s5, s6, _, _⟩ := (hA.2 t ht).of
    obtain ⟨_, _, _, _, f5⟩ := (hW t ht).of
    have := ih a' (fun t' ht' => by
      have h1 := St.lt_of_mem ha' ht'
      have h2 := hm t ht
      omega) (n + 2) W (hE.blw hb hb.size) (RsA.blw ⟨s5 a' ha', s6 a' ha'⟩ hb hb.size) (f5 a' ha') hl'
    rwa [show ((n + 2 : Nat) : Int) = (n : Int) + 2 by omega] at this
end Go.Proofs.YtoimjcfdiljkjaaGreatDoor
namespace Go.Proofs.YtoimjcfdiljkjaaGreatDoor
open Go.RowKit
set_option maxHeartbeats 1000000 in
set_option maxRecDepth 20000 in
theorem first_Decl_port (b0 : Value) (r : Rw (Dt)) (err : Dt → Int) (w : World) (hR : RdR w w.heap.size 3 DC r)
    (K : Hid (∀ y ∈ r.l, ∀ W, Below w.heap.size w W → Calls Tryz.prog 119 #[b0, dV y] W (Bel (.int .i64 (err y)) W))) :
    Calls Tryz.prog 118 #[.slice r.A r.l.length r.c, .func (.func 119) #[b0] #[]] w (Bel (.int .i64 (errs (r.l.map err))) w) := by
  have h9 := hR.len
  unfold maxLen at h9
  have HR := Lib.hid hR
  obtain ⟨E, hE0, hEl, HE⟩ := errs_steps r.l err
  rw [← hE0]
  obtain ⟨V, hV⟩ : ∃ V, E 0 = V := ⟨_, rfl⟩
  have HV := Lib.hid hV
  have HL := Lib.hid hEl
  rw [hV]
  clear hR hE0 hEl hV
  skip
  go_enter Tryz.func118, Tryz.ntmps118
  go_wp2
  go_loopw [10] (fun i wr => ∃ k : Nat, k ≤ r.l.length ∧ i = .int .i64 (k : Int) ∧ Hid (E k = V) ∧ Below w.heap.size w wr) (fun i _ => r.l.length - (intOf i).toNat)
  case atStart => exact ⟨0, by omega, rfl, HV, Below.refl _ _⟩
  case round =>
    obtain ⟨k, hk, rfl, hE, hbl⟩ := hrel
    by_cases hlt : k < r.l.length
    · obtain ⟨ad, y, hA, had, hy, hm, ⟨c0, c1, c2⟩⟩ := (HR.out.blw oneB_D hbl hbl.size).at_ hlt
      rw [hA]
      clear hA
      have hs := HE.out k y hy
      have KY := Lib.hid (K.out y hm)
      clear hy hm HE
      generalize err y = v at *
      by_cases hv : v = 0
      · subst hv
        have hn : Hid (E (k + 1) = V) := Lib.hid (by rw [← hE.out, hs]; rfl)
        clear hs hE
        go_wp2_with (go_at_call 119; (with_reducible refine (KY.out _ ?_).mono ?_); (exact bl); rintro e w1 ⟨rfl, hb1⟩)
        exact ⟨⟨k + 1, by omega, by congr 1, hn, bl⟩, by simp [intOf]; omega⟩
      · have hv2 : v = V := by rw [← hE.out, hs, orE, if_neg hv]
        have e0 : (v == 0) = false := by simp [hv]
        clear hs hE hv
        go_wp2_with (go_at_call 119; (with_reducible refine (KY.out _ ?_).mono ?_); (exact bl); rintro e w1 ⟨rfl, hb1⟩)
        go_ret
        exact ⟨(by first | rfl | exact congrArg (fun z : Int => Ending.returned (.int .i64 z)) hv2), bl⟩
    · obtain rfl : k = r.l.length := by omega
      have hv2 : 0 = V := HL.out.symm.trans hE.out
      clear hE HE HV HL
      go_wp2
      go_ret
      exact ⟨(by first | rfl | exact congrArg (fun z : Int => Ending.returned (.int .i64 z)) hv2), hbl⟩
end Go.Proofs.YtoimjcfdiljkjaaGreatDoor
