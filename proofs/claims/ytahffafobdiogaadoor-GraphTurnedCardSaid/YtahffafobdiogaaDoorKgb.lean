/- Sets of vertices: newSet, add, remove, has. -/
import Derived.Test.YtahffafobdiogaaDoorKga
import Derived.Laws.Bits64b
import Derived.Laws.Shifts
import Derived.Deep.OwnRows
import Derived.OwnWalk
import Derived.Lib.Hide
import Derived.Test.YtahffafobdiogaaDoorShelf
namespace Go.Proofs.YtahffafobdiogaaDoor
set_option linter.unusedVariables false
set_option linter.unusedSimpArgs false
open Go.RowKit
namespace gr
theorem andn_u64 (a b : Nat) (ha : a < 18446744073709551616) (hb : b < 18446744073709551616) : bits .andNot .u64 (a : Int) (b : Int) = ((a &&& (18446744073709551615 - b % 18446744073709551616) : Nat) : Int) := by
  have hx : a &&& (18446744073709551615 - b) < 2 ^ 64 := Nat.and_lt_two_pow _ (by omega)
  have h1 : (BitVec.ofInt 64 (a : Int)).toNat = a := by
    rw [BitVec.ofInt_natCast, BitVec.toNat_ofNat]; exact Nat.mod_eq_of_lt (by omega)
  have h2 : (BitVec.ofInt 64 (b : Int)).toNat = b := by
    rw [BitVec.ofInt_natCast, BitVec.toNat_ofNat]; exact Nat.mod_eq_of_lt (by omega)
  have e : b % 18446744073709551616 = b := Nat.mod_eq_of_lt hb
  show IntKind.u64.wrap ((BitVec.ofInt 64 (a : Int) &&& ~~~BitVec.ofInt 64 (b : Int)).toNat : Int) = _
  rw [BitVec.toNat_and, BitVec.toNat_not, h1, h2, IntKind.wrap_u64, e]
  have e2 : 2 ^ 64 - 1 - b = 18446744073709551615 - b := by omega
  rw [e2]
  omega
theorem div64 (v : Nat) : Int.tdiv (v : Int) 64 = ((v / 64 : Nat) : Int) := rfl
theorem mod64 (v : Nat) : Int.tmod (v : Int) 64 = ((v % 64 : Nat) : Int) := rfl
theorem bit_u64 {b : Nat} (hb : b < 64) : IntKind.u64.wrap (1 * 2 ^ ((b : Nat) : Int).toNat) = ((2 ^ b : Nat) : Int) := by
  have h : 2 ^ b < 2 ^ 64 := Nat.pow_lt_pow_right (by omega) hb
  rw [IntKind.wrap_u64, Int.toNat_natCast, Int.one_mul]
  have e : (2 : Int) ^ b = ((2 ^ b : Nat) : Int) := by push_cast; rfl
  rw [e]
  rw [show (2 : Nat) ^ 64 = 18446744073709551616 from rfl] at h
  generalize 2 ^ b = q at h
  omega
abbrev sizeW (n : Nat) : Nat := (n + 63) / 64
/-- the slice of a whole block -/
abbrev sl (b n : Nat) : Value := .slice (some ⟨b, 0, none⟩) n n
theorem infoU : ∃ i, Tryd.prog.info? 69 = some i ∧ i.zero = some (.int .u64 0) ∧ i.size = 1 ∧ i.bytes = 8 := info_parts (by kernel_rfl)
theorem made_list (z : Value) (n : Nat) : madeCells #[z] n = (List.replicate n z).toArray := by
  apply Array.ext
  · simp [size_madeCells]
  · intro i h1 h2
    simp [madeCells, Nat.mod_one]
theorem uV_zero (n : Nat) : List.replicate n (Value.int .u64 0) = uV (List.replicate n 0) := by simp [uV]
theorem quo_small {x : Int} {n : Nat} (h : Int.tdiv x 64 = (n : Int)) (h0 : 0 ≤ x) (hn : n ≤ 1000000) : IntKind.i64.wrap (Int.tdiv x 64) = (n : Int) := by
  rw [h]; simp [IntKind.wrap, IntKind.bits, IntKind.signed]; omega
set_option maxHeartbeats 1000000 in
set_option maxRecDepth 100000 in
theorem newSet_any (n : Nat) (hn : n ≤ 4096) (w : World) : Calls Tryd.prog 27 #[.int .i64 n] w fun e w' => e = .returned (sl w.heap.size (sizeW n)) ∧ w' = w.alloc (.cells (uV (List.replicate (sizeW n) 0)).toArray 69) := by
  obtain ⟨i0, hi, iz, is, ib⟩ := infoU
  have e1 : Int.tdiv ((n : Int) + 64 - 1) 64 = ((sizeW n : Nat) : Int) := by rw [show (n : Int) + 64 - 1 = ((n + 63 : Nat) : Int) by omega]; rfl
  have hs : sizeW n ≤ 64 := by unfold sizeW; omega
  generalize sizeW n = m at *
  have hr := run_make_row (P := Tryd.prog) 49 69 i0 (.int .u64 0) Tryd.underlying49 hi iz is rfl .i64 .i64 m (by rw [ib]; omega) (by omega) w
  rw [made_list, uV_zero] at hr
  have dm : IntKind.i64.wrap (m : Int) = (m : Int) := by simp [IntKind.wrap, IntKind.bits, IntKind.signed]; omega
  clear hi iz is ib hs
  go_enter Tryd.func27, Tryd.ntmps27
  go_wp2
  go_ret
  exact ⟨rfl, rfl⟩
/-- what add and remove make of the words -/
abbrev addW (ws : List Nat) (v : Nat) : List Nat := ws.set (v / 64) (ws.getD (v / 64) 0 ||| 2 ^ (v % 64))
abbrev remW (ws : List Nat) (v : Nat) : List Nat := ws.set (v / 64) (ws.getD (v / 64) 0 &&& (18446744073709551615 - 2 ^ (v % 64) % 18446744073709551616))
theorem two_lt (v : Nat) : 2 ^ (v % 64) < 18446744073709551616 := Nat.pow_lt_pow_right (a := 2) (m := v % 64) (n := 64) (by omega) (by omega)
set_option maxRecDepth 100000 in
set_option maxHeartbeats 1000000 in
theorem add_any (b m v : Nat) (ws : List Nat) (p : Nat → Bool) (w : World) (hB : Blk w b 69 (uV ws)) (hS : St m ws p) (hm : m ≤ 4096) (hv : v / 64 < m) : Calls Tryd.prog 28 #[sl b m, .int .i64 v] w fun e w' => e = .returned (.tuple #[]) ∧ ∃ q, w' = ((w.setCell ⟨b, v / 64, none⟩ (.int .u64 ((ws.getD (v / 64) 0 ||| 2 ^ (v % 64) : Nat) : Int))).drewN q) := by
  have hl := hS.len
  have hc := hB.cell (uV_get (l := ws) (i := v / 64) (by omega))
  have hf := hB.frozen (v / 64)
  have hW := hS.wf (v / 64)
  have h2 := two_lt v
  obtain ⟨k, hk⟩ : ∃ k, v / 64 = k := ⟨_, rfl⟩
  obtain ⟨j, hj⟩ : ∃ j, v % 64 = j := ⟨_, rfl⟩
  obtain ⟨x, hx⟩ : ∃ x, ws.getD k 0 = x := ⟨_, rfl⟩
  have d0 : v = 64 * k + j := by omega
  have dj : j < 64 := by omega
  have d3 := bit_u64 (b := j) dj
  rw [hk] at hc hf hW hv ⊢
  rw [hj] at h2 ⊢
  rw [hx] at hc hW ⊢
  have d6 := bits_or_u64_nat x (2 ^ j) hW h2
  obtain ⟨y, hy⟩ : ∃ y, x ||| 2 ^ j = y := ⟨_, rfl⟩
  obtain ⟨z, hz⟩ : ∃ z, 2 ^ j = z := ⟨_, rfl⟩
  rw [hy] at d6 ⊢
  rw [hz] at d3 d6
  clear hW h2 hx hy hz hB hS hk hj
  have d1 : IntKind.i64.wrap (k : Int) = (k : Int) := by simp [IntKind.wrap, IntKind.bits, IntKind.signed]; omega
  have d2 : IntKind.i64.wrap (j : Int) = (j : Int) := by simp [IntKind.wrap, IntKind.bits, IntKind.signed]; omega
  have d7 : (v : Int) / 64 = (k : Int) := by omega
  have d8 : (v : Int) % 64 = (j : Int) := by omega
  have d9 : (0 : Int) ≤ (k : Int) := by omega
  have d10 : (k : Int) < (m : Int) := by omega
  clear hl d0
  go_enter Tryd.func28, Tryd.ntmps28
  go_region
  have d11 : bits BinOp.or IntKind.u64 (x : Int) (IntKind.u64.wrap (2 ^ j)) = (y : Int) := by
    rw [← d6, ← d3]
    simp
  rw [d11]
  refine bodyPost_end (v := .tuple #[]) (results_none rfl _ _ _) rfl ?_
  exact ⟨rfl, 1, rfl⟩
set_option maxRecDepth 100000 in
set_option maxHeartbeats 1000000 in
theorem remove_any (b m v : Nat) (ws : List Nat) (p : Nat → Bool) (w : World) (hB : Blk w b 69 (uV ws)) (hS : St m ws p) (hm : m ≤ 4096) (hv : v / 64 < m) : Calls Tryd.prog 30 #[sl b m, .int .i64 v] w fun e w' => e = .returned (.tuple #[]) ∧ ∃ q, w' = ((w.setCell ⟨b, v / 64, none⟩ (.int .u64 ((ws.getD (v / 64) 0 &&& (18446744073709551615 - 2 ^ (v % 64) % 18446744073709551616) : Nat) : Int))).drewN q) := by
  have hl := hS.len
  have hc := hB.cell (uV_get (l := ws) (i := v / 64) (by omega))
  have hf := hB.frozen (v / 64)
  have hW := hS.wf (v / 64)
  have h2 := two_lt v
  obtain ⟨k, hk⟩ : ∃ k, v / 64 = k := ⟨_, rfl⟩
  obtain ⟨j, hj⟩ : ∃ j, v % 64 = j := ⟨_, rfl⟩
  obtain ⟨x, hx⟩ : ∃ x, ws.getD k 0 = x := ⟨_, rfl⟩
  have d0 : v = 64 * k + j := by omega
  have dj : j < 64 := by omega
  have d3 := bit_u64 (b := j) dj
  rw [hk] at hc hf hW hv ⊢
  rw [hj] at h2 ⊢
  rw [hx] at hc hW ⊢
  have d6 := andn_u64 x (2 ^ j) hW h2
  obtain ⟨y, hy⟩ : ∃ y, x &&& (18446744073709551615 - 2 ^ j % 18446744073709551616) = y := ⟨_, rfl⟩
  obtain ⟨z, hz⟩ : ∃ z, 2 ^ j = z := ⟨_, rfl⟩
  rw [hy] at d6 ⊢
  rw [hz] at d3 d6
  clear hW h2 hx hy hz hB hS hk hj
  have d1 : IntKind.i64.wrap (k : Int) = (k : Int) := by simp [IntKind.wrap, IntKind.bits, IntKind.signed]; omega
  have d2 : IntKind.i64.wrap (j : Int) = (j : Int) := by simp [IntKind.wrap, IntKind.bits, IntKind.signed]; omega
  have d7 : (v : Int) / 64 = (k : Int) := by omega
  have d8 : (v : Int) % 64 = (j : Int) := by omega
  have d9 : (0 : Int) ≤ (k : Int) := by omega
  have d10 : (k : Int) < (m : Int) := by omega
  clear hl d0
  go_enter Tryd.func30, Tryd.ntmps30
  go_region
  have d11 : bits BinOp.andNot IntKind.u64 (x : Int) (IntKind.u64.wrap (2 ^ j)) = (y : Int) := by
    rw [← d6, ← d3]
    simp
  rw [d11]
  refine bodyPost_end (v := .tuple #[]) (results_none rfl _ _ _) rfl ?_
  exact ⟨rfl, 1, rfl⟩
theorem pow_cast (j : Nat) : (2 : Int) ^ j = ((2 ^ j : Nat) : Int) := by push_cast; rfl
set_option maxRecDepth 100000 in
set_option maxHeartbeats 1000000 in
theorem has_any (b m v : Nat) (ws : List Nat) (p : Nat → Bool) (w : World) (hB : Blk w b 69 (uV ws)) (hS : St m ws p) (hm : m ≤ 4096) (hv : v / 64 < m) : Calls Tryd.prog 57 #[sl b m, .int .i64 v] w fun e w' => e = .returned (.bool (p v)) ∧ w' = w := by
  have hl := hS.len
  have hc := hB.cell (uV_get (l := ws) (i := v / 64) (by omega))
  have hW := hS.wf (v / 64)
  have h2 := two_lt v
  have hp := hS.iff v
  unfold inW at hp
  obtain ⟨k, hk⟩ : ∃ k, v / 64 = k := ⟨_, rfl⟩
  obtain ⟨j, hj⟩ : ∃ j, v % 64 = j := ⟨_, rfl⟩
  obtain ⟨x, hx⟩ : ∃ x, ws.getD k 0 = x := ⟨_, rfl⟩
  have d0 : v = 64 * k + j := by omega
  have dj : j < 64 := by omega
  rw [hk] at hc hW hv hp
  rw [hj] at h2 hp
  rw [hx] at hc hW hp
  have hq : x / 2 ^ j < 18446744073709551616 := Nat.lt_of_le_of_lt (Nat.div_le_self _ _) hW
  have d6 := bits_and_u64_nat (x / 2 ^ j) 1 hq (by omega)
  rw [Nat.and_one_is_mod] at d6
  have d3 : (x : Int) / 2 ^ j = ((x / 2 ^ j : Nat) : Int) := by rw [pow_cast]; rfl
  have hr : (((x / 2 ^ j % 2 : Nat) : Int) == 1) = p v := by
    rw [← hp, Nat.testBit_eq_decide_div_mod_eq]
    rcases Nat.mod_two_eq_zero_or_one (x / 2 ^ j) with e | e <;> rw [e] <;> rfl
  obtain ⟨y, hy⟩ : ∃ y, x / 2 ^ j = y := ⟨_, rfl⟩
  rw [hy] at d6 d3 hr
  obtain ⟨u, hu⟩ : ∃ u, y % 2 = u := ⟨_, rfl⟩
  rw [hu] at d6 hr
  generalize p v = r at *
  clear hW h2 hx hy hB hS hk hj hp hq hu
  have d1 : IntKind.i64.wrap (k : Int) = (k : Int) := by simp [IntKind.wrap, IntKind.bits, IntKind.signed]; omega
  have d2 : IntKind.i64.wrap (j : Int) = (j : Int) := by simp [IntKind.wrap, IntKind.bits, IntKind.signed]; omega
  have d7 : (v : Int) / 64 = (k : Int) := by omega
  have d8 : (v : Int) % 64 = (j : Int) := by omega
  have d9 : (0 : Int) ≤ (k : Int) := by omega
  have d10 : (k : Int) < (m : Int) := by omega
  clear hl d0
  have d11 : bits BinOp.and IntKind.u64 (y : Int) 1 = (u : Int) := d6
  have D11 := Lib.hid d11
  have HR := Lib.hid hr
  clear d6 d11 hr
  go_enter Tryd.func57, Tryd.ntmps57
  go_wp2
  go_ret
  exact ⟨by rw [← HR.out, ← D11.out]; rfl, rfl⟩
/-- the table that TrailingZeros64 reads -/
def Tz (w : World) : Prop := TabAt (Tryd.laysTz_ren.g 1) Lib.deBruijn64tab w
theorem Tz.to {w w' : World} (h : Tz w) (hb : ∀ p : Addr, p.block < w.heap.size → w'.cell? p = w.cell? p) : Tz w' := fun j hj => by
  have h1 := h j hj
  exact (hb _ (World.block_lt_of_cell? w _ h1)).trans h1
theorem Tz.keep {w w' : World} (h : Tz w) (hb : Below w.heap.size w w') : Tz w' := h.to fun p hp => hb.cell hp
theorem tz_any (x : Nat) (hx : x < 18446744073709551616) (w : World) (hT : Tz w) : Calls Tryd.prog 51 #[.int .u64 x] w fun e w' => e = .returned (.int .i64 (Lib.ctz 64 x)) ∧ w' = w := Tryd.bits_Tz x hx w fun _ => hT
theorem memW_head {l : List Nat} {k : Nat} (h0 : ∀ i, i < k → l.getD i 0 = 0) (hk : k < l.length) (hx : l.getD k 0 ≠ 0) (hlt : l.getD k 0 < 18446744073709551616) : ∃ r, memW l = (k * 64 + Lib.ctz 64 (l.getD k 0)) :: r := by
  have e : memW l = (List.range k).flatMap (fun i => (bitsL (l.getD i 0)).map (i * 64 + ·)) ++ ((bitsL (l.getD k 0)).map (k * 64 + ·) ++ ((List.range (l.length - k - 1)).map (· + (k + 1))).flatMap (fun i => (bitsL (l.getD i 0)).map (i * 64 + ·))) := by
    unfold memW
    have hr : List.range l.length = List.range k ++ k :: (List.range (l.length - k - 1)).map (· + (k + 1)) := by
      have e1 : l.length = k + 1 + (l.length - k - 1) := by omega
      conv => lhs; rw [e1]
      rw [List.range_add, List.range_succ, List.append_assoc]
      congr 1
      rw [List.singleton_append]
      congr 1
      apply List.map_congr_left
      intro a _
      omega
    rw [hr, List.flatMap_append, List.flatMap_cons]
  have f1 : (List.range k).flatMap (fun i => (bitsL (l.getD i 0)).map (i * 64 + ·)) = [] := by
    rw [List.flatMap_eq_nil_iff]
    intro i hi
    rw [h0 i (List.mem_range.1 hi), bitsL_zero]
    rfl
  rw [e, f1, (bits_step hx hlt).1]
  exact ⟨_, rfl⟩
theorem memW_nil {l : List Nat} (h0 : ∀ i, i < l.length → l.getD i 0 = 0) : memW l = [] := by
  unfold memW
  rw [List.flatMap_eq_nil_iff]
  intro i hi
  rw [h0 i (List.mem_range.1 hi), bitsL_zero]
  rfl
set_option maxRecDepth 100000 in
set_option maxHeartbeats 1000000 in
theorem least_any (b m : Nat) (ws : List Nat) (p : Nat → Bool) (w : World) (hT : Tz w) (hB : Blk w b 69 (uV ws)) (hS : St m ws p) (hm : m ≤ 4096) : Calls Tryd.prog 29 #[sl b m] w fun e w' => e = .returned (.tuple #[.int .i64 ((memW ws).headD 0 : Nat), .bool (!(memW ws).isEmpty)]) ∧ w' = w := by
  have hl := hS.len
  have HC := Lib.hid (fun (k : Nat) (h : k < m) => hB.cell (uV_get (l := ws) (i := k) (by omega)))
  have HW := Lib.hid hS.wf
  have HH := Lib.hid (fun (k : Nat) => @memW_head ws k)
  have HN := Lib.hid (@memW_nil ws)
  have HZ := Lib.hid (fun x hx => tz_any x hx w hT)
  clear hT hB hS
  rw [hl] at HH HN
  clear hl
  generalize memW ws = M at *
  go_enter Tryd.func29, Tryd.ntmps29
  go_wp2
  go_loopw [8] (fun i wr => ∃ k : Nat, k ≤ m ∧ i = .int .i64 (k : Int) ∧ wr = w ∧ Hid (∀ i, i < k → ws.getD i 0 = 0)) (fun i _ => m - (intOf i).toNat)
  case atStart => exact ⟨0, by omega, rfl, rfl, Lib.hid fun i hi => absurd hi (Nat.not_lt_zero _)⟩
  case round =>
    obtain ⟨k, hk, rfl, rfl, hz⟩ := hrel
    by_cases hlt : k < m
    · have hc := HC.out k hlt
      have hW := HW.out k
      have HH2 := Lib.hid (HH.out k hz.out hlt)
      obtain ⟨x, hx⟩ : ∃ x, ws.getD k 0 = x := ⟨_, rfl⟩
      rw [hx] at hc hW HH2
      have HX := Lib.hid hx
      have dm : (k : Int) < (m : Int) := by omega
      clear hx
      by_cases h0 : x = 0
      · subst h0
        clear HH2
        go_wp2
        go_roundw
        case rel => exact ⟨k + 1, by omega, by go_num, (by first | trivial | rfl), Lib.hid fun i hi => by
          rcases Nat.lt_succ_iff_lt_or_eq.1 hi with h | rfl
          · exact hz.out i h
          · exact HX.out⟩
        case measure => simp [intOf]; omega
      · have d0 : ((x : Int) == 0) = false := by simp; omega
        have d1 : ¬ (x : Int) = 0 := by omega
        obtain ⟨r, hr⟩ := HH2.out h0 hW
        have HZ2 := Lib.hid (HZ.out x hW)
        have hcz : Lib.ctz 64 x ≤ 64 := Nat.le_of_lt (low_bits h0 hW).1
        generalize Lib.ctz 64 x = c at *
        subst hr
        go_wp2_with (go_at_call 51; refine HZ2.out.mono ?_; rintro e w1 ⟨rfl, rfl⟩)
        refine bodyPost_ret (results_tmp2 rfl _ _ _) rfl ?_
        exact ⟨by simp, rfl⟩
    · obtain rfl : k = m := by omega
      obtain rfl := HN.out hz.out
      clear HH HN
      go_wp2
      refine bodyPost_ret (results_tmp2 rfl _ _ _) rfl ?_
      exact ⟨rfl, rfl⟩
end gr
end Go.Proofs.YtahffafobdiogaaDoor
