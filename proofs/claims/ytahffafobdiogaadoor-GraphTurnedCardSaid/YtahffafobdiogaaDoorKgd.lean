/- Links: unlinked, forward, backward. -/
import Derived.Test.YtahffafobdiogaaDoorKgb
import Derived.Deep.Quiet
import Derived.Deep.QuietTactic
import Derived.StillTailTactics
namespace Go.Proofs.YtahffafobdiogaaDoor
set_option linter.unusedVariables false
set_option linter.unusedSimpArgs false
open Go.RowKit
namespace gr
theorem infoS : ∃ i, Tryd.prog.info? 49 = some i ∧ i.zero = some (.slice none 0 0) ∧ i.size = 1 ∧ i.bytes = 24 := info_parts (by kernel_rfl)
/-- the sets of n vertices stand in the blocks behind the row of them -/
def hdR (lb n k : Nat) : List Value := (List.range n).map fun v => if v < k then sl (lb + 1 + v) (sizeW n) else .slice none 0 0
theorem hdR_zero (lb n : Nat) : List.replicate n (Value.slice none 0 0) = hdR lb n 0 := by
  apply List.ext_getElem?
  intro i
  by_cases h : i < n <;> simp [hdR, h, List.getElem?_replicate]
theorem hdR_len (lb n k : Nat) : (hdR lb n k).length = n := by simp [hdR]
theorem hdR_get {lb n k v : Nat} (hv : v < n) : (hdR lb n k)[v]? = some (if v < k then sl (lb + 1 + v) (sizeW n) else .slice none 0 0) := by simp [hdR, hv]
theorem hdR_set {lb n k : Nat} (hk : k < n) : (hdR lb n k).set k (sl (lb + 1 + k) (sizeW n)) = hdR lb n (k + 1) := by
  apply List.ext_getElem?
  intro i
  rw [List.getElem?_set]
  by_cases h : i < n
  · rw [hdR_get h, hdR_get h, hdR_len]
    by_cases e : k = i
    · subst e
      simp [hk]
    · rw [if_neg e]
      by_cases h2 : i < k
      · rw [if_pos h2, if_pos (by omega)]
      · rw [if_neg h2, if_neg (by omega)]
  · rw [List.getElem?_eq_none (by rw [hdR_len]; omega), List.getElem?_eq_none (by rw [hdR_len]; omega), if_neg (by omega)]
structure Lnk (W : World) (lb n : Nat) (wss : Nat → List Nat) : Prop where
  row : Blk W lb 49 (hdR lb n n)
  sets : ∀ v, v < n → Blk W (lb + 1 + v) 69 (uV (wss v))
theorem Lnk.to {W W' : World} {lb n : Nat} {wss : Nat → List Nat} (h : Lnk W lb n wss) (hb : ∀ k, lb ≤ k → k ≤ lb + n → W'.heap[k]? = W.heap[k]?) : Lnk W' lb n wss :=
  ⟨h.row.to (hb _ (by omega) (by omega)), fun v hv => (h.sets v hv).to (hb _ (by omega) (by omega))⟩
theorem Lnk.keep {W W' : World} {lb n : Nat} {wss : Nat → List Nat} (h : Lnk W lb n wss) (hb : Below W.heap.size W W') : Lnk W' lb n wss :=
  ⟨h.row.keep hb, fun v hv => (h.sets v hv).keep hb⟩
theorem Lnk.hd {W : World} {lb n v : Nat} {wss : Nat → List Nat} (h : Lnk W lb n wss) (hv : v < n) : W.cell? ⟨lb, v, none⟩ = some (sl (lb + 1 + v) (sizeW n)) :=
  h.row.cell (by rw [hdR_get hv, if_pos hv])
set_option maxRecDepth 100000 in
set_option maxHeartbeats 1000000 in
theorem unlinked_any (n : Nat) (hn : n ≤ 4096) (w : World) : Calls Tryd.prog 49 #[.int .i64 n] w fun e w' => e = .returned (sl w.heap.size n) ∧ Lnk w' w.heap.size n (fun _ => List.replicate (sizeW n) 0) ∧ Below w.heap.size w w' := by
  obtain ⟨i0, hi, iz, is, ib⟩ := infoS
  have hr := run_make_row (P := Tryd.prog) 44 49 i0 (.slice none 0 0) Tryd.underlying44 hi iz is rfl .i64 .i64 n (by rw [ib]; omega) (by omega) w
  rw [made_list, hdR_zero w.heap.size] at hr
  clear hi iz is ib
  have HN := Lib.hid (newSet_any n hn)
  go_enter Tryd.func49, Tryd.ntmps49
  go_wp2
  clear hr
  go_loopw [9] (fun i wr => ∃ k : Nat, k ≤ n ∧ i = .int .i64 (k : Int) ∧ wr.heap.size = w.heap.size + 1 + k ∧ Blk wr w.heap.size 49 (hdR w.heap.size n k) ∧ Hid (∀ v, v < k → Blk wr (w.heap.size + 1 + v) 69 (uV (List.replicate (sizeW n) 0))) ∧ Below w.heap.size w wr) (fun i _ => n - (intOf i).toNat)
  case atStart => exact ⟨0, by omega, rfl, by simp, Blk.new _ _ _, Lib.hid fun v hv => absurd hv (Nat.not_lt_zero _), bel_box _⟩
  case round =>
    obtain ⟨k, hk, rfl, hz, hrow, hsets, hbl⟩ := hrel
    by_cases hlt : k < n
    · have dm : (k : Int) < (n : Int) := by omega
      have HR := Lib.hid hrow
      have hc : (wr.alloc (.cells (uV (List.replicate (sizeW n) 0)).toArray 69)).cell? ⟨w.heap.size, k, none⟩ = some (.slice none 0 0) := (hrow.alloc _).cell (by rw [hdR_get hlt, if_neg (Nat.lt_irrefl k)])
      have hf := (hrow.alloc (.cells (uV (List.replicate (sizeW n) 0)).toArray 69)).frozen k
      have hz2 := hz
      clear hrow
      go_wp2_with (go_at_call 27; refine (HN.out wr).mono ?_; rintro e w1 ⟨rfl, rfl⟩)
      refine ⟨⟨k + 1, by omega, by congr 1, by simp [hz]; omega, ?_, Lib.hid fun v hv => ?_, ?_⟩, by simp [intOf]; omega⟩
      · have h1 := (HR.out.alloc (.cells (uV (List.replicate (sizeW n) 0)).toArray 69)).set k (sl (w.heap.size + 1 + k) (sizeW n))
        rw [hdR_set hlt] at h1
        exact h1
      · rcases Nat.lt_succ_iff_lt_or_eq.1 hv with h | rfl
        · exact ((hsets.out v h).alloc _).set_other (by omega) _ _
        · have h1 := Blk.new wr (uV (List.replicate (sizeW n) 0)) 69
          rw [hz] at h1
          exact h1.set_other (by omega) _ _
      · exact (hbl.alloc (by omega) _).setCell (p := ⟨w.heap.size, k, none⟩) (Nat.le_refl _) _
    · obtain rfl : k = n := by omega
      go_wp2
      go_ret
      exact ⟨rfl, ⟨hrow, hsets.out⟩, hbl⟩
theorem cell_al {W : World} {a : Addr} {v : Value} (o : Obj) (h : W.cell? a = some v) : (W.alloc o).cell? a = some v := (World.cell?_alloc_lt _ _ _ (World.block_lt_of_cell? W a h)).trans h
/-- edges in memory -/
def RdE (w : World) (B : Nat) (A : Option Addr) (es : List (Int × Int)) : Prop := es ≠ [] → ∃ ad, A = some ad ∧ ad.block < B ∧ ∀ k e, es[k]? = some e → w.cell? (ad.add (k * 2)) = some (.int .i64 e.1) ∧ w.cell? ⟨(ad.add (k * 2)).block, (ad.add (k * 2)).off + 1, none⟩ = some (.int .i64 e.2)
theorem RdE.to {w w' : World} {B : Nat} {A : Option Addr} {es : List (Int × Int)} (h : RdE w B A es) (hb : ∀ p : Addr, p.block < B → w'.cell? p = w.cell? p) : RdE w' B A es := fun hn => by
  obtain ⟨ad, h1, h2, h3⟩ := h hn
  refine ⟨ad, h1, h2, fun k e he => ?_⟩
  obtain ⟨c0, c1⟩ := h3 k e he
  exact ⟨(hb _ (by rw [add_block]; exact h2)).trans c0, (hb _ (by simp only [add_block]; exact h2)).trans c1⟩
theorem RdE.below {w w' : World} {B : Nat} {A : Option Addr} {es : List (Int × Int)} (h : RdE w B A es) (hb : Below B w w') : RdE w' B A es := h.to fun _ hp => hb.cell hp
theorem RdE.more' {w : World} {B B' : Nat} {A : Option Addr} {es : List (Int × Int)} (h : RdE w B A es) (hB : B ≤ B') : RdE w B' A es := fun hn => by
  obtain ⟨ad, h1, h2, h3⟩ := h hn
  exact ⟨ad, h1, Nat.lt_of_lt_of_le h2 hB, h3⟩
theorem RdE.at_ {w : World} {B : Nat} {A : Option Addr} {es : List (Int × Int)} (h : RdE w B A es) {k : Nat} (hk : k < es.length) : ∃ ad f t, A = some ad ∧ ad.block < B ∧ es[k]? = some (f, t) ∧ w.cell? (ad.add (k * 2)) = some (.int .i64 f) ∧ w.cell? ⟨(ad.add (k * 2)).block, (ad.add (k * 2)).off + 1, none⟩ = some (.int .i64 t) := by
  obtain ⟨ad, h1, h2, h3⟩ := h (by intro e; rw [e] at hk; simp at hk)
  obtain ⟨c0, c1⟩ := h3 k es[k] (List.getElem?_eq_getElem hk)
  exact ⟨ad, _, _, h1, h2, List.getElem?_eq_getElem hk, c0, c1⟩
/-- edges between vertices -/
def eN (ns : List (Nat × Nat)) : List (Int × Int) := ns.map fun e => ((e.1 : Int), (e.2 : Int))
theorem eN_len (ns : List (Nat × Nat)) : (eN ns).length = ns.length := by simp [eN]
theorem eN_get (ns : List (Nat × Nat)) (k : Nat) : (eN ns)[k]? = (ns[k]?).map fun e => ((e.1 : Int), (e.2 : Int)) := by simp [eN]
/-- the neighbours by the edges -/
structure LkE (W : World) (lb n : Nat) (E : Nat → Nat → Bool) : Prop where
  ex : ∃ wss, Lnk W lb n wss ∧ ∀ v, v < n → St (sizeW n) (wss v) (E v)
theorem LkE.to {W W' : World} {lb n : Nat} {E : Nat → Nat → Bool} (h : LkE W lb n E) (hb : ∀ k, lb ≤ k → k ≤ lb + n → W'.heap[k]? = W.heap[k]?) : LkE W' lb n E := by
  obtain ⟨wss, h1, h2⟩ := h.ex
  exact ⟨wss, h1.to hb, h2⟩
theorem LkE.keep {W W' : World} {lb n : Nat} {E : Nat → Nat → Bool} (h : LkE W lb n E) (hb : Below W.heap.size W W') : LkE W' lb n E := by
  obtain ⟨wss, h1, h2⟩ := h.ex
  exact ⟨wss, h1.keep hb, h2⟩
theorem LkE.congr {W : World} {lb n : Nat} {E F : Nat → Nat → Bool} (h : LkE W lb n E) (e : ∀ u v, E u v = F u v) : LkE W lb n F := by
  obtain ⟨wss, h1, h2⟩ := h.ex
  exact ⟨wss, h1, fun v hv => (h2 v hv).congr (e v)⟩
/-- one more edge -/
theorem LkE.step {W : World} {lb n f t : Nat} {E : Nat → Nat → Bool} (h : LkE W lb n E) (hf : f < n) (ht : t / 64 < sizeW n) : ∃ ws, Blk W (lb + 1 + f) 69 (uV ws) ∧ St (sizeW n) ws (E f) ∧
    ∀ q, LkE ((W.setCell ⟨lb + 1 + f, t / 64, none⟩ (.int .u64 ((ws.getD (t / 64) 0 ||| 2 ^ (t % 64) : Nat) : Int))).drewN q) lb n (fun u v => E u v || (decide (u = f) && decide (v = t))) := by
  obtain ⟨wss, h1, h2⟩ := h.ex
  refine ⟨wss f, h1.sets f hf, h2 f hf, fun q => ⟨fun v => if v = f then addW (wss f) t else wss v, ⟨h1.row.set_other (by omega) _ _, fun v hv => ?_⟩, fun v hv => ?_⟩⟩
  · by_cases e : v = f
    · subst e
      simp only [if_true]
      have := (h1.sets v hv).set (t / 64) (.int .u64 (((wss v).getD (t / 64) 0 ||| 2 ^ (t % 64) : Nat) : Int))
      rw [uV_set] at this
      exact this
    · simp only [if_neg e]
      exact (h1.sets v hv).set_other (by omega) _ _
  · by_cases e : v = f
    · subst e
      simp only [if_true]
      exact ((h2 v hv).add ht).congr fun u => by simp
    · simp only [if_neg e]
      exact (h2 v hv).congr fun u => by simp [e]
/-- what k edges have brought -/
def eK (ns : List (Nat × Nat)) (u v : Nat) : Bool := ns.contains (u, v)
theorem eK_snoc (ns : List (Nat × Nat)) (a b u v : Nat) : eK (ns ++ [(a, b)]) u v = (eK ns u v || (decide (u = a) && decide (v = b))) := by
  unfold eK
  rw [Bool.eq_iff_iff]
  simp [List.contains_iff_mem]
theorem size_div {n t : Nat} (h : t < n) : t / 64 < sizeW n := by unfold sizeW; omega
set_option maxRecDepth 100000 in
set_option maxHeartbeats 1000000 in
theorem forward_any (n : Nat) (hn : n ≤ 4096) (A : Option Addr) (c : Nat) (ns : List (Nat × Nat)) (hr : ∀ e ∈ ns, e.1 < n ∧ e.2 < n) (hl : ns.length ≤ 1048576) (w : World) (hE : RdE w w.heap.size A (eN ns)) :
    Calls Tryd.prog 24 #[.int .i64 n, .slice A ns.length c] w fun e w' => e = .returned (sl w.heap.size n) ∧ LkE w' w.heap.size n (eK ns) ∧ Below w.heap.size w w' := by
  have HE := Lib.hid hE
  have HU := Lib.hid (unlinked_any n hn)
  have HM := Lib.hid hr
  clear hE hr
  go_enter Tryd.func24, Tryd.ntmps24
  go_wp2_with (go_at_call 49; refine (HU.out _).mono ?_; rintro e w1 ⟨rfl, hL1, hb1⟩)
  have hK1 : LkE w1 w.heap.size n (eK []) := ⟨_, hL1, fun v hv => (St.empty _).congr fun u => rfl⟩
  clear hL1
  go_loopw [12] (fun i wr => ∃ k : Nat, k ≤ ns.length ∧ i = .int .i64 (k : Int) ∧ LkE wr w.heap.size n (eK (ns.take k)) ∧ Below w.heap.size w wr) (fun i _ => ns.length - (intOf i).toNat)
  case atStart => exact ⟨0, by omega, rfl, hK1, hb1⟩
  case round =>
    obtain ⟨k, hk, rfl, hK, hbl⟩ := hrel
    by_cases hlt : k < ns.length
    · obtain ⟨ad, f0, t0, rfl, had, hg, c0, c1⟩ := (HE.out.below hbl).at_ (by rw [eN_len]; exact hlt)
      rw [eN_get, List.getElem?_eq_getElem hlt] at hg
      obtain ⟨⟨f, t⟩, hft⟩ : ∃ x, ns[k] = x := ⟨_, rfl⟩
      rw [hft] at hg
      simp only [Option.map_some, Option.some.injEq, Prod.mk.injEq] at hg
      obtain ⟨rfl, rfl⟩ := hg
      have hm := HM.out (f, t) (hft ▸ List.getElem_mem hlt)
      simp only at hm
      obtain ⟨hf, ht⟩ := hm
      have hd := (hK.ex.choose_spec.1).hd hf
      have HK := Lib.hid hK
      have x0 : (0 : Int) ≤ (f : Int) := by omega
      have x1 : (f : Int) < (n : Int) := by omega
      have x2 : (k : Int) < (ns.length : Int) := by omega
      have hA := Lib.hid (fun W (h : LkE W w.heap.size n (eK (ns.take k))) => h.step hf (size_div ht))
      have hsz := Lib.hid (show sizeW n ≤ 4096 by unfold sizeW; omega)
      have htd := Lib.hid (size_div ht)
      have hft2 := Lib.hid hft
      clear hft
      clear hK
      have dm : IntKind.i64.wrap (f : Int) = (f : Int) := by simp [IntKind.wrap, IntKind.bits, IntKind.signed]; omega
      have hd2 := (cell_al (.cells #[.int .i64 (f : Int), .int .i64 (t : Int)] 40) hd)
      go_wp2_with fail
      have hB2 : Below w.heap.size w (wr.alloc (.cells #[.int .i64 (f : Int), .int .i64 (t : Int)] 40)) := bel_alloc hbl _
      have hK2 := HK.out.keep (bel_box (.cells #[.int .i64 (f : Int), .int .i64 (t : Int)] 40))
      have b0 : (wr.alloc (.cells #[.int .i64 (f : Int), .int .i64 (t : Int)] 40)).cell? ⟨wr.heap.size, 0, none⟩ = some (.int .i64 (f : Int)) := by simp
      have b1 : (wr.alloc (.cells #[.int .i64 (f : Int), .int .i64 (t : Int)] 40)).cell? ⟨wr.heap.size, 1, none⟩ = some (.int .i64 (t : Int)) := by simp
      clear hd
      generalize wr.alloc (.cells #[.int .i64 (f : Int), .int .i64 (t : Int)] 40) = W2 at *
      generalize wr.heap.size = bx at *
      go_still_tail 7, (by kernel_rfl)
      change wpList _ _ _ _ _ W2.drew
      have hB3 : Below w.heap.size w W2.drew := hB2.drew
      have hK3 : LkE W2.drew w.heap.size n (eK (ns.take k)) := hK2.to fun _ _ _ => rfl
      clear hK2 hB2 b0 b1 hd2 c0 c1
      generalize W2.drew = W3 at *
      obtain ⟨ws, hws, hst, hnext⟩ := hA.out W3 hK3
      go_wp2_with (go_at_call 28; refine (add_any _ _ _ ws _ _ hws hst hsz.out htd.out).mono ?_; rintro e w4 ⟨rfl, q, rfl⟩)
      refine ⟨⟨k + 1, by omega, by congr 1, ?_, below_drewN (hB3.setCell (p := ⟨_, _, none⟩) (by simp only; omega) _) q⟩, by simp [intOf]; omega⟩
      have e1 : ns.take (k + 1) = ns.take k ++ [(f, t)] := take_succ_of (by rw [List.getElem?_eq_getElem hlt, hft2.out])
      rw [e1]
      exact (hnext q).congr fun u v => (eK_snoc _ _ _ _ _).symm
    · obtain rfl : k = ns.length := by omega
      rw [List.take_length] at hK
      go_wp2
      go_ret
      exact ⟨rfl, hK, hbl⟩
set_option maxRecDepth 100000 in
set_option maxHeartbeats 1000000 in
theorem backward_any (n : Nat) (hn : n ≤ 4096) (A : Option Addr) (c : Nat) (ns : List (Nat × Nat)) (hr : ∀ e ∈ ns, e.1 < n ∧ e.2 < n) (hl : ns.length ≤ 1048576) (w : World) (hE : RdE w w.heap.size A (eN ns)) :
    Calls Tryd.prog 34 #[.int .i64 n, .slice A ns.length c] w fun e w' => e = .returned (sl w.heap.size n) ∧ LkE w' w.heap.size n (fun u v => eK ns v u) ∧ Below w.heap.size w w' := by
  have HE := Lib.hid hE
  have HU := Lib.hid (unlinked_any n hn)
  have HM := Lib.hid hr
  clear hE hr
  go_enter Tryd.func34, Tryd.ntmps34
  go_wp2_with (go_at_call 49; refine (HU.out _).mono ?_; rintro e w1 ⟨rfl, hL1, hb1⟩)
  have hK1 : LkE w1 w.heap.size n (fun u v => eK [] v u) := ⟨_, hL1, fun v hv => (St.empty _).congr fun u => rfl⟩
  clear hL1
  go_loopw [12] (fun i wr => ∃ k : Nat, k ≤ ns.length ∧ i = .int .i64 (k : Int) ∧ LkE wr w.heap.size n (fun u v => eK (ns.take k) v u) ∧ Below w.heap.size w wr) (fun i _ => ns.length - (intOf i).toNat)
  case atStart => exact ⟨0, by omega, rfl, hK1, hb1⟩
  case round =>
    obtain ⟨k, hk, rfl, hK, hbl⟩ := hrel
    by_cases hlt : k < ns.length
    · obtain ⟨ad, f0, t0, rfl, had, hg, c0, c1⟩ := (HE.out.below hbl).at_ (by rw [eN_len]; exact hlt)
      rw [eN_get, List.getElem?_eq_getElem hlt] at hg
      obtain ⟨⟨f, t⟩, hft⟩ : ∃ x, ns[k] = x := ⟨_, rfl⟩
      rw [hft] at hg
      simp only [Option.map_some, Option.some.injEq, Prod.mk.injEq] at hg
      obtain ⟨rfl, rfl⟩ := hg
      have hm := HM.out (f, t) (hft ▸ List.getElem_mem hlt)
      simp only at hm
      obtain ⟨hf, ht⟩ := hm
      have hd := (hK.ex.choose_spec.1).hd ht
      have HK := Lib.hid hK
      have x0 : (0 : Int) ≤ (t : Int) := by omega
      have x1 : (t : Int) < (n : Int) := by omega
      have x2 : (k : Int) < (ns.length : Int) := by omega
      have hA := Lib.hid (fun W (h : LkE W w.heap.size n (fun u v => eK (ns.take k) v u)) => h.step ht (size_div hf))
      have hsz := Lib.hid (show sizeW n ≤ 4096 by unfold sizeW; omega)
      have htd := Lib.hid (size_div hf)
      have hft2 := Lib.hid hft
      clear hft
      clear hK
      have dm : IntKind.i64.wrap (t : Int) = (t : Int) := by simp [IntKind.wrap, IntKind.bits, IntKind.signed]; omega
      have hd2 := (cell_al (.cells #[.int .i64 (f : Int), .int .i64 (t : Int)] 40) hd)
      go_wp2_with fail
      have hB2 : Below w.heap.size w (wr.alloc (.cells #[.int .i64 (f : Int), .int .i64 (t : Int)] 40)) := bel_alloc hbl _
      have hK2 := HK.out.keep (bel_box (.cells #[.int .i64 (f : Int), .int .i64 (t : Int)] 40))
      have b0 : (wr.alloc (.cells #[.int .i64 (f : Int), .int .i64 (t : Int)] 40)).cell? ⟨wr.heap.size, 0, none⟩ = some (.int .i64 (f : Int)) := by simp
      have b1 : (wr.alloc (.cells #[.int .i64 (f : Int), .int .i64 (t : Int)] 40)).cell? ⟨wr.heap.size, 1, none⟩ = some (.int .i64 (t : Int)) := by simp
      clear hd
      generalize wr.alloc (.cells #[.int .i64 (f : Int), .int .i64 (t : Int)] 40) = W2 at *
      generalize wr.heap.size = bx at *
      go_still_tail 7, (by kernel_rfl)
      change wpList _ _ _ _ _ W2.drew
      have hB3 : Below w.heap.size w W2.drew := hB2.drew
      have hK3 : LkE W2.drew w.heap.size n (fun u v => eK (ns.take k) v u) := hK2.to fun _ _ _ => rfl
      clear hK2 hB2 b0 b1 hd2 c0 c1
      generalize W2.drew = W3 at *
      obtain ⟨ws, hws, hst, hnext⟩ := hA.out W3 hK3
      go_wp2_with (go_at_call 28; refine (add_any _ _ _ ws _ _ hws hst hsz.out htd.out).mono ?_; rintro e w4 ⟨rfl, q, rfl⟩)
      refine ⟨⟨k + 1, by omega, by congr 1, ?_, below_drewN (hB3.setCell (p := ⟨_, _, none⟩) (by simp only; omega) _) q⟩, by simp [intOf]; omega⟩
      have e1 : ns.take (k + 1) = ns.take k ++ [(f, t)] := take_succ_of (by rw [List.getElem?_eq_getElem hlt, hft2.out])
      rw [e1]
      exact (hnext q).congr fun u v => by rw [eK_snoc, Bool.and_comm]
    · obtain rfl : k = ns.length := by omega
      rw [List.take_length] at hK
      go_wp2
      go_ret
      exact ⟨rfl, hK, hbl⟩
end gr
end Go.Proofs.YtahffafobdiogaaDoor
