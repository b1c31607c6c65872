/- Texts of one chain, in one file. -/
import Derived.Deep.RegionLaw
import Derived.ArgAppend
import Derived.Shelf.SortM.Plain
import Derived.Shelf.SlSortCmp.Whole1
import Derived.Shelf.SlSortCmp.NoneTotal
import Derived.Shelf.SlGeneric
import Derived.Ground.SlgmProg
import Derived.Ground.SlsfProg
import Derived.Test.YtahffafobdiogaaDoorProg
import Derived.Sort.Grow
import Derived.RangeFuncNested
import Derived.RangeFuncBound
import Derived.RangeFuncCalls
import Derived.RangeFuncLeaves
import Derived.RangeFuncFrom
import Derived.Shelf.Abstract
import Derived.OwnWalkIn
import Derived.TacticsInMore
import Derived.LoopNIn
import Derived.LoopIn
import Derived.Test.YtahffafobdiogaaDoorQB
/- right and next of the reference. -/
namespace Go.Proofs.YtahffafobdiogaaDoor
set_option linter.unusedVariables false
set_option linter.unusedSimpArgs false
open Go.RowKit
namespace gr
/-- n values in cells -/
def rowV (n : Nat) (f : Nat → Value) : List Value := (List.range n).map f
theorem rowV_len (n : Nat) (f : Nat → Value) : (rowV n f).length = n := by simp [rowV]
theorem rowV_get {n v : Nat} (f : Nat → Value) (hv : v < n) : (rowV n f)[v]? = some (f v) := by simp [rowV, hv]
theorem rowV_set {n u : Nat} (f : Nat → Value) (x : Value) : (rowV n f).set u x = rowV n fun w => if w = u then x else f w := by
  apply List.ext_getElem?
  intro i
  rw [List.getElem?_set]
  by_cases h : i < n
  · rw [rowV_get _ h, rowV_get _ h, rowV_len]
    by_cases e : u = i
    · subst e
      simp [h]
    · rw [if_neg e, if_neg (Ne.symm e)]
  · rw [List.getElem?_eq_none (by rw [rowV_len]; omega), List.getElem?_eq_none (by rw [rowV_len]; omega), rowV_len]
    by_cases e : u = i
    · subst e
      simp [h]
    · rw [if_neg e]
theorem rowV_rep (n : Nat) (x : Value) : List.replicate n x = rowV n fun _ => x := by
  apply List.ext_getElem?
  intro i
  by_cases h : i < n
  · rw [rowV_get _ h]
    simp [List.getElem?_replicate, h]
  · rw [List.getElem?_eq_none (by simp; omega), List.getElem?_eq_none (by rw [rowV_len]; omega)]
theorem infoR : ∃ i, Tryd.prog.info? 24 = some i ∧ i.zero = some (.slice none 0 0) ∧ i.size = 1 ∧ i.bytes = 24 := info_parts (by kernel_rfl)
theorem make_rows (n : Nat) (hn : n ≤ 4096) (w : World) : (Instr.makeSlice 34 (.int .i64 (n : Int)) (.int .i64 (n : Int))).run Tryd.prog w = .ok (sl w.heap.size n) (w.alloc (.cells (rowV n fun _ => .slice none 0 0).toArray 24)) := by
  obtain ⟨i0, hi, iz, is, ib⟩ := infoR
  have hr := run_make_row (P := Tryd.prog) 34 24 i0 (.slice none 0 0) Tryd.underlying34 hi iz is rfl .i64 .i64 n (by rw [ib]; omega) (by omega) w
  rw [made_list, rowV_rep] at hr
  exact hr
/-- rows of numbers in a row, each in a block of its own -/
structure NxO (W : World) (O B n : Nat) (L : Nat → List Nat) (vs : Nat → Value) : Prop where
  row : Blk W O 24 (rowV n vs)
  own : ∀ v, v < n → W.ownsRow B 3 1 (vs v) (L v).length (vV (L v))
  apart : ∀ u v, u < n → v < n → u ≠ v → ∀ g, (vs u).ownBlock = some g → (vs v).ownBlock ≠ some g
  fit : O < B
theorem own_setCell {W : World} {base n O i : Nat} {t : TypeId} {v x : Value} {xs : List Value} (h : W.ownsRow base t 1 v n xs) (hO : O < base) : (W.setCell ⟨O, i, none⟩ x).ownsRow base t 1 v n xs := (Kp.set (S := fun k => k = O) W (a := ⟨O, i, none⟩) rfl x).own h (fun k e => by omega)
theorem NxO.step {W w3 : World} {O B n f t : Nat} {L : Nat → List Nat} {vs : Nat → Value} {V : Value} {o : Obj} (h : NxO W O B n L vs) (hf : f < n) (hO : w3.ownsRow B 3 1 V ((L f).length + 1) (vV (L f) ++ [.int .i64 (t : Int)])) (hg : (W.alloc o).grownBy w3 (vs f).ownBlock) (hd : V.ownBlock = (vs f).ownBlock ∨ V.ownBlock = some (W.alloc o).heap.size) :
    NxO (w3.setCell ⟨O, f, none⟩ V) O B n (fun v => L v ++ if f = v then [t] else []) (fun v => if v = f then V else vs v) where
  row := by
    have h1 : Blk w3 O 24 (rowV n vs) := (h.row.alloc o).to (hg.block O (by rw [World.size_alloc]; have := h.row.lt; omega) (fun e => by
      have := (h.own f hf).lt O e.symm
      have := h.fit
      omega))
    have h2 := h1.set f V
    rw [rowV_set] at h2
    exact h2
  own := fun v hv => by
    by_cases e : v = f
    · subst e
      simp only [if_true]
      rw [vV_snoc] at hO
      rw [show (L v ++ [t]).length = (L v).length + 1 by simp]
      exact own_setCell hO h.fit
    · have e2 : ¬ f = v := fun x => e x.symm
      simp only [if_neg e, if_neg e2, List.append_nil]
      refine own_setCell (((h.own v hv).alloc o).kept hg ?_) h.fit
      cases hx : (vs v).ownBlock with
      | none => exact .inl rfl
      | some g => exact .inr (fun x => h.apart v f hv hf e g hx x.symm)
  apart := fun u v hu hv huv g h1 h2 => by
    have hlt : ∀ x, x < n → ∀ k, (vs x).ownBlock = some k → k < (W.alloc o).heap.size := fun x hx k hk => by
      have := (h.own x hx).lt k hk
      rw [World.size_alloc]; omega
    have h1 : (if u = f then V else vs u).ownBlock = some g := h1
    have h2 : (if v = f then V else vs v).ownBlock = some g := h2
    by_cases e1 : u = f
    · rw [if_pos e1] at h1
      by_cases e2 : v = f
      · exact huv (e1.trans e2.symm)
      · rw [if_neg e2] at h2
        rcases hd with hd | hd
        · rw [hd] at h1
          exact h.apart f v hf hv (fun x => e2 x.symm) g h1 h2
        · rw [hd] at h1
          injection h1 with h1
          have := hlt v hv g h2
          omega
    · rw [if_neg e1] at h1
      by_cases e2 : v = f
      · rw [if_pos e2] at h2
        rcases hd with hd | hd
        · rw [hd] at h2
          exact h.apart u f hu hf e1 g h1 h2
        · rw [hd] at h2
          injection h2 with h2
          have := hlt u hu g h1
          omega
      · rw [if_neg e2] at h2
        exact h.apart u v hu hv huv g h1 h2
  fit := h.fit
/-- the same, to be read -/
def NxR (W : World) (O n : Nat) (L : Nat → List Nat) : Prop := ∃ vs : Nat → Value, Blk W O 24 (rowV n vs) ∧ ∀ v, v < n → ∃ A c, vs v = .slice A (L v).length c ∧ Rd W W.heap.size A (vV (L v))
theorem NxO.rd {W : World} {O B n : Nat} {L : Nat → List Nat} {vs : Nat → Value} (h : NxO W O B n L vs) : NxR W O n L := ⟨vs, h.row, fun v hv => by
  have h1 := h.own v hv
  obtain ⟨A, c, e⟩ := own_form h1
  rw [e] at h1
  exact ⟨A, c, e, Rd.of_own h1⟩⟩
theorem NxR.keep {W W' : World} {O n : Nat} {L : Nat → List Nat} (h : NxR W O n L) (hb : Below W.heap.size W W') : NxR W' O n L := by
  obtain ⟨vs, h1, h2⟩ := h
  exact ⟨vs, h1.keep hb, fun v hv => by
    obtain ⟨A, c, e, h3⟩ := h2 v hv
    exact ⟨A, c, e, h3.to hb⟩⟩
theorem NxR.at_ {W : World} {O n : Nat} {L : Nat → List Nat} (h : NxR W O n L) {v : Nat} (hv : v < n) : ∃ A c, W.cell? ⟨O, v, none⟩ = some (.slice A (L v).length c) ∧ Rd W W.heap.size A (vV (L v)) := by
  obtain ⟨vs, h1, h2⟩ := h
  obtain ⟨A, c, e, h3⟩ := h2 v hv
  exact ⟨A, c, by rw [← e]; exact h1.cell (rowV_get vs hv), h3⟩
end gr
end Go.Proofs.YtahffafobdiogaaDoor
/- right and next of the reference. -/
namespace Go.Proofs.YtahffafobdiogaaDoor
set_option linter.unusedVariables false
set_option linter.unusedSimpArgs false
open Go.RowKit
namespace gr
section
variable {P : Program}
/-- append of what one address holds, at an operation of a drawn region -/
theorem step_append_rg (w : World) {ops : Array Oper} {o : Oper} {a : Act} {K : Act → World → Prop} {Q : Exit → Act → World → Prop} {E : Prop} (hgd : o.guard = none) (s x : Operand) (t : TypeId)
    (ho : o.op = .call { callee := .builtin .append, args := #[s, x], argTypes := #[t, t] })
    (base : Nat) (e : TypeId) (i : TypeInfo) (z : Value) (size bytes : Nat) (ht : P.underlying t = some (.slice e)) (hi : P.info? e = some i) (hz : i.zero = some z)
    (hsize : i.size = size) (hby : i.bytes = bytes) (hzs : z.cells.size = size) (hsz : 0 < size)
    (v : Value) (n : Nat) (xs : List Value) (hs : a.eval s = v) (hown : w.ownsRow base e size v n xs)
    (ad : Addr) (m c : Nat) (news : List Value) (hx : a.eval x = .slice (some ad) m c) (hl : news.length = m * size) (hnews : ∀ j u, news[j]? = some u → w.cell? (ad.add j) = some u) (h1 : ∀ u ∈ news, u.oneCell' = true)
    (h63 : n + m ≤ maxLen) (hbytes : (n + m) * bytes ≤ 140737488355328) (hbase : base ≤ w.heap.size)
    (h : ∀ v' w', w'.ownsRow base e size v' (n + m) (xs ++ news) → w.grownBy w' v.ownBlock → (v'.ownBlock = v.ownBlock ∨ v'.ownBlock = some w.heap.size) → K (a.put o.dst v') w') :
    if Region.wanted o (yielded ops a.tmps) = true then Oper.wp P o a w K Q else E := by
  have hw : Region.wanted o (yielded ops a.tmps) = true := by simp [Region.wanted, hgd]
  rw [if_pos hw]
  obtain ⟨v', w', hr, h2, h3, _, h5⟩ := run_append_own_at (P := P) w base t o.type e i z size bytes ht hi hz hsize hby hzs hsz v n xs hown ad m c news hl hnews h1 h63 hbytes hbase
  unfold Oper.wp execOp
  simp only [ho, resolve, invoke, builtin, Sem.run_bind, Sem.run_pure, Result.andThen_ok, List.map_toArray, List.map_cons, List.map_nil, hs, hx, hr]
  exact h v' w' h2 h3 h5
end
theorem grown_drew {W W' : World} {r : Option Nat} (h : W.drew.grownBy W' r) : W.grownBy W' r := ⟨h.os, h.tape, h.output, h.size, h.block⟩
set_option maxRecDepth 100000 in
set_option maxHeartbeats 4000000 in
theorem rright_any (n : Int) (A : Option Addr) (c : Nat) (es : List (Int × Int)) (hl : es.length ≤ 1048576) (w : World) (hE : RdE w w.heap.size A es) :
    Calls Tryd.prog 32 #[.int .i64 n, .slice A es.length c] w fun e w' => e = .returned (.bool (valB n es)) ∧ ∃ q, w' = w.drewN q := by
  have HE := Lib.hid hE
  clear hE
  by_cases h0 : n < 0
  · have HV : valB n es = false := by unfold valB; rw [decide_eq_false (by omega : ¬ 0 ≤ n)]; rfl
    rw [HV]
    clear HE HV
    generalize es.length = L at *
    go_enter Tryd.func32, Tryd.ntmps32
    go_wp2
    go_ret
    exact ⟨rfl, 0, rfl⟩
  by_cases h1 : 4096 < n
  · have HV : valB n es = false := by unfold valB; rw [decide_eq_false (by omega : ¬ n ≤ 4096)]; simp
    rw [HV]
    clear HE HV
    generalize es.length = L at *
    go_enter Tryd.func32, Tryd.ntmps32
    go_wp2
    go_ret
    exact ⟨rfl, 0, rfl⟩
  have HV : valB n es = !badI n es := by unfold valB; rw [decide_eq_true (by omega : 0 ≤ n), decide_eq_true (by omega : n ≤ 4096)]; rfl
  rw [HV]
  clear HV
  obtain ⟨L, hL⟩ : ∃ L, es.length = L := ⟨_, rfl⟩
  rw [hL] at hl ⊢
  have HL := Lib.hid hL
  clear hL
  go_enter Tryd.func32, Tryd.ntmps32
  go_wp2
  go_loopw [5] (fun i wr => ∃ k j : Nat, k ≤ L ∧ i = .int .i64 (k : Int) ∧ wr = w.drewN j ∧ Hid (badI n (es.take k) = false)) (fun i _ => L - (intOf i).toNat)
  case atStart => exact ⟨0, 0, by omega, rfl, rfl, Lib.hid rfl⟩
  case round =>
    obtain ⟨k, j, hk, rfl, rfl, hz⟩ := hrel
    by_cases hlt : k < L
    · obtain ⟨ad, f, t, rfl, had, hg, c0, c1⟩ := HE.out.at_ (k := k) (by rw [HL.out]; exact hlt)
      have HT : Hid (badI n (es.take (k + 1)) = bad n (f, t)) := Lib.hid (by
        have hz2 := hz.out
        rw [take_succ_of hg]
        unfold badI at hz2 ⊢
        rw [List.any_append, hz2]
        simp)
      have HA : Hid (bad n (f, t) = true → badI n es = true) := Lib.hid fun h => List.any_eq_true.2 ⟨_, List.mem_of_getElem? hg, h⟩
      have HB : Hid (bad n (f, t) = true ↔ (f < 0 ∨ n ≤ f ∨ t < 0 ∨ n ≤ t)) := Lib.hid (by
        unfold bad
        rw [Bool.or_eq_true, decide_eq_true_eq, decide_eq_true_eq]
        omega)
      have e1 : (k : Int) < (L : Int) := by omega
      clear hg
      by_cases hbad : f < 0 ∨ n ≤ f ∨ t < 0 ∨ n ≤ t
      · have HF : Hid (badI n es = true) := Lib.hid (HA.out (HB.out.2 hbad))
        clear HT HA HB hz
        by_cases g0 : f < 0
        · clear hbad
          go_wp2
          go_ret
          exact ⟨by rw [HF.out]; rfl, _, rfl⟩
        by_cases g1 : n ≤ f
        · clear hbad
          go_wp2
          go_ret
          exact ⟨by rw [HF.out]; rfl, _, rfl⟩
        by_cases g2 : t < 0
        · clear hbad
          go_wp2
          go_ret
          exact ⟨by rw [HF.out]; rfl, _, rfl⟩
        have g3 : n ≤ t := by omega
        clear hbad
        go_wp2
        go_ret
        exact ⟨by rw [HF.out]; rfl, _, rfl⟩
      · have HF : Hid (badI n (es.take (k + 1)) = false) := Lib.hid (by
          rw [HT.out]
          cases hq : bad n (f, t) with
          | false => rfl
          | true => exact absurd (HB.out.1 hq) hbad)
        have g0 : ¬ f < 0 := fun h => hbad (.inl h)
        have g1 : ¬ n ≤ f := fun h => hbad (.inr (.inl h))
        have g2 : ¬ t < 0 := fun h => hbad (.inr (.inr (.inl h)))
        have g3 : ¬ n ≤ t := fun h => hbad (.inr (.inr (.inr h)))
        clear HT HA HB hz hbad
        go_wp2
        exact ⟨⟨k + 1, _, by omega, by congr 1, rfl, HF⟩, by simp [intOf]; omega⟩
    · have hkn : k = L := by omega
      have h2 := hz.out
      rw [hkn, List.take_of_length_le (by rw [HL.out]; omega)] at h2
      have H2 := Lib.hid h2
      clear h2 hz
      go_wp2
      go_ret
      exact ⟨by rw [H2.out]; rfl, _, rfl⟩
set_option maxRecDepth 100000 in
set_option maxHeartbeats 4000000 in
theorem rnext_any (n : Nat) (hn : n ≤ 4096) (A : Option Addr) (c : Nat) (ns : List (Nat × Nat)) (hr : ∀ e ∈ ns, e.1 < n ∧ e.2 < n) (hl : ns.length ≤ 1048576) (w : World) (hE : RdE w w.heap.size A (eN ns)) :
    Calls Tryd.prog 33 #[.int .i64 n, .slice A ns.length c] w fun e w' => e = .returned (sl w.heap.size n) ∧ NxR w' w.heap.size n (adj ns) ∧ Below w.heap.size w w' := by
  have HE := Lib.hid hE
  have HR := Lib.hid hr
  clear hE hr
  have hmk := make_rows n hn
  obtain ⟨i0, hi, iz, is, ib⟩ := infoI
  obtain ⟨L, hL⟩ : ∃ L, ns.length = L := ⟨_, rfl⟩
  rw [hL] at hl ⊢
  have HL := Lib.hid hL
  clear hL
  go_enter Tryd.func33, Tryd.ntmps33
  go_wp2
  clear hmk
  go_loopw [6] (fun i wr => ∃ k : Nat, k ≤ L ∧ i = .int .i64 (k : Int) ∧ Hid (∃ vs, NxO wr w.heap.size (w.heap.size + 1) n (adj (ns.take k)) vs) ∧ Below w.heap.size w wr) (fun i _ => L - (intOf i).toNat)
  case atStart =>
    exact ⟨0, by omega, rfl, Lib.hid ⟨fun _ => .slice none 0 0, ⟨Blk.new w _ _, fun v hv => World.ownsRow_nil _ _ _ _, fun u v hu hv huv g h1 => (by cases h1), by omega⟩⟩, bel_box _⟩
  case round =>
    obtain ⟨k, hk, rfl, hN, hbl⟩ := hrel
    by_cases hlt : k < L
    · obtain ⟨ad, f, t, rfl, hadb, he, c0, c1⟩ := (HE.out.below hbl).at_ (k := k) (by rw [eN_len, HL.out]; exact hlt)
      obtain ⟨a, b, hab, rfl, rfl⟩ := eNr_at he
      obtain ⟨ha, hb⟩ := HR.out _ (List.mem_of_getElem? hab)
      simp only at ha hb
      obtain ⟨vs, hN⟩ := hN.out
      obtain ⟨A2, c2, hv⟩ := own_form (hN.own a ha)
      have hcell := hN.row.cell (rowV_get vs ha)
      have hfr := hN.row.frozen a
      rw [hv] at hcell
      have HO := Lib.hid (hN.own a ha)
      rw [hv] at HO
      have hm : (adj (ns.take k) a).length ≤ L := by
        have h1 := adj_len (ns.take k) a
        rw [List.length_take] at h1
        omega
      have HS : Hid (∀ (w3 : World) (V : Value) (o : Obj), w3.ownsRow (w.heap.size + 1) 3 1 V ((adj (ns.take k) a).length + 1) (vV (adj (ns.take k) a) ++ [.int .i64 (b : Int)]) → (wr.alloc o).grownBy w3 (Value.slice A2 (adj (ns.take k) a).length c2).ownBlock → (V.ownBlock = (Value.slice A2 (adj (ns.take k) a).length c2).ownBlock ∨ V.ownBlock = some (wr.alloc o).heap.size) → ∃ vs, NxO (w3.setCell ⟨w.heap.size, a, none⟩ V) w.heap.size (w.heap.size + 1) n (adj (ns.take (k + 1))) vs) := Lib.hid fun w3 V o h1 h2 h3 => by
        rw [← hv] at h2 h3
        have h4 := hN.step ha h1 h2 h3
        have hE2 : adj (ns.take (k + 1)) = fun v => adj (ns.take k) v ++ if a = v then [b] else [] := by
          funext v
          rw [take_succ_of hab, adj_snoc]
        rw [hE2]
        exact ⟨_, h4⟩
      have hsz := hbl.size
      have hbw : w.heap.size < wr.heap.size := hN.row.lt
      have e1 : (k : Int) < (L : Int) := by omega
      have e2 : (a : Int) < (n : Int) := by omega
      clear hN he hab hv
      generalize vV (adj (ns.take k) a) = xs at *
      generalize (adj (ns.take k) a).length = m at *
      have hb9 : w.heap.size + 1 ≤ wr.heap.size := by omega
      have hadA : (ad.add (k * 2)).block < w.heap.size + 1 := by rw [add_block]; omega
      have hadB : (ad.add (k * 2)).block ≠ w.heap.size := by rw [add_block]; omega
      have hcellA := cell_al (.cells #[.int .i64 (b : Int)] 3) hcell
      have hcl2 := Lib.hid hcell
      go_wp2
      have c0A := cell_al (.cells #[.int .i64 (b : Int)] 3) c0
      have c1A := cell_al (.cells #[.int .i64 (b : Int)] 3) c1
      go_region_law
        (first | ((refine step_append_rg _ rfl _ _ 24 rfl (w.heap.size + 1) 3 i0 (.int .i64 0) 1 8 Tryd.underlying24 hi iz is ib rfl (by decide) _ m xs rfl (own_keep HO.out ?_) ⟨wr.heap.size, 0, none⟩ 1 1 [.int .i64 (b : Int)] rfl rfl (row1 _ _ _) (one_int _) (by unfold maxLen; omega) (by omega) ?_ ?_); (focus ((repeat (first | (with_reducible exact Below.refl _ _) | (with_reducible assumption) | (with_reducible exact bel_box _) | (with_reducible refine bel_step ?_ (by with_reducible assumption)) | (with_reducible refine Below.drew ?_) | (with_reducible refine below_drewN ?_ _) | (with_reducible refine bel_alloc ?_ _))); done)); (focus (simp; omega)); intro V3 w3 hown3 hgrow3 hd3; obtain ⟨A3, c3, rfl⟩ := own_form hown3; have hgr4 := grown_drew hgrow3; have HN := Lib.hid (HS.out w3 _ _ hown3 hgr4 hd3); have hb3 : Below (w.heap.size + 1) wr w3 := own_below (Below.refl _ _) hb9 HO.out hgr4; have v3 := (hb3.cell (p := ⟨w.heap.size, a, none⟩) (Nat.lt_succ_self _)).trans hcl2.out; have r3 := (hb3.frozen (p := ⟨w.heap.size, a, none⟩) (Nat.lt_succ_self _)).trans hfr; have q0 := (hb3.cell (p := ad.add (k * 2)) hadA).trans c0; have q1 := (hb3.cell (p := ⟨(ad.add (k * 2)).block, (ad.add (k * 2)).off + 1, none⟩) hadA).trans c1; clear hgrow3 hgr4 hown3 hd3))
      all_goals go_wp2
      all_goals exact ⟨⟨k + 1, by omega, by congr 1, HN, (hbl.trans (hb3.mono (Nat.le_succ _))).setCell (p := ⟨w.heap.size, a, none⟩) (Nat.le_refl _) _⟩, by simp [intOf]; omega⟩
    · have hkn : k = L := by omega
      obtain ⟨vs, h2⟩ := hN.out
      rw [hkn, List.take_of_length_le (by rw [HL.out]; omega)] at h2
      have H2 := Lib.hid h2.rd
      clear h2 hN
      go_wp2
      go_ret
      exact ⟨rfl, H2.out, hbl⟩
end gr
end Go.Proofs.YtahffafobdiogaaDoor
/- Order of the reference. -/
namespace Go.Proofs.YtahffafobdiogaaDoor
set_option linter.unusedVariables false
set_option linter.unusedSimpArgs false
open Go.RowKit
namespace gr
theorem adj_lt {n : Nat} {ns : List (Nat × Nat)} (hr : ∀ e ∈ ns, e.1 < n ∧ e.2 < n) {v w : Nat} (h : w ∈ adj ns v) : w < n := by
  have := adj_mem.1 h
  unfold eK at this
  exact (hr _ (List.contains_iff_mem.1 this)).2
theorem getD_mem {l : List Nat} {i : Nat} (hi : i < l.length) : l.getD i 0 ∈ l := by
  rw [List.getD, List.getElem?_eq_getElem hi]
  exact List.getElem_mem hi
end gr
end Go.Proofs.YtahffafobdiogaaDoor
/- A queue: a slice of one's own that loses its head and is appended to. -/
namespace Go.Proofs.YtahffafobdiogaaDoor
set_option linter.unusedVariables false
set_option linter.unusedSimpArgs false
open Go.RowKit
namespace gr
/-- V holds xs; what stood before and what may come behind lie in the same block; an empty one without room may stand anywhere in it -/
def Qu (W : World) (B : Nat) (t : TypeId) (V : Value) (xs : List Value) : Prop := ∃ g o c : Nat, V = .slice (some ⟨g, o, none⟩) xs.length c ∧ B ≤ g ∧ g < W.heap.size ∧ xs.length ≤ c ∧ (c = 0 ∨ ∃ pre suf : List Value, o = pre.length ∧ c = xs.length + suf.length ∧ Blk W g t (pre ++ xs ++ suf))
theorem Qu.one (W : World) (t : TypeId) (x : Value) : Qu (W.alloc (.cells #[x] t)) W.heap.size t (.slice (some ⟨W.heap.size, 0, none⟩) 1 1) [x] := ⟨W.heap.size, 0, 1, rfl, Nat.le_refl _, by simp, Nat.le_refl _, .inr ⟨[], [], rfl, rfl, Blk.new W [x] t⟩⟩
theorem Qu.kp {S : Nat → Prop} {W W' : World} {B : Nat} {t : TypeId} {V : Value} {xs : List Value} (h : Qu W B t V xs) (hk : Kp S W W') (hs : ∀ k, S k → k < B) : Qu W' B t V xs := by
  obtain ⟨g, o, c, h1, h2, h3, h4, h5⟩ := h
  exact ⟨g, o, c, h1, h2, Nat.lt_of_lt_of_le h3 hk.1, h4, h5.imp id fun ⟨pre, suf, h6, h7, h8⟩ => ⟨pre, suf, h6, h7, hk.blk h8 (fun x => by have := hs g x; omega)⟩⟩
theorem Qu.keep {W W' : World} {B : Nat} {t : TypeId} {V : Value} {xs : List Value} (h : Qu W B t V xs) (hb : Below W.heap.size W W') : Qu W' B t V xs := by
  obtain ⟨g, o, c, h1, h2, h3, h4, h5⟩ := h
  exact ⟨g, o, c, h1, h2, Nat.lt_of_lt_of_le h3 hb.size, h4, h5.imp id fun ⟨pre, suf, h6, h7, h8⟩ => ⟨pre, suf, h6, h7, h8.keep hb⟩⟩
theorem Qu.form {W : World} {B : Nat} {t : TypeId} {V : Value} {xs : List Value} (h : Qu W B t V xs) : ∃ g o c, V = .slice (some ⟨g, o, none⟩) xs.length c ∧ xs.length ≤ c ∧ B ≤ g ∧ g < W.heap.size := by
  obtain ⟨g, o, c, h1, h2, h3, h4, h5⟩ := h
  exact ⟨g, o, c, h1, h4, h2, h3⟩
/-- the head, and what is left -/
theorem Qu.tail {W : World} {B g o n c : Nat} {t : TypeId} {x : Value} {xs : List Value} (h : Qu W B t (.slice (some ⟨g, o, none⟩) n c) (x :: xs)) : W.cell? ⟨g, o, none⟩ = some x ∧ n = xs.length + 1 ∧ 1 ≤ c ∧ ∀ o', o' = o + 1 ∨ c = 1 → Qu W B t (.slice (some ⟨g, o', none⟩) xs.length (c - 1)) xs := by
  obtain ⟨g', o2, c2, h1, h2, h3, h4, h5⟩ := h
  injection h1 with h1 e4 e5
  injection h1 with h1
  injection h1 with h1 e6 _
  subst h1
  subst e4
  subst e5
  subst e6
  have hc1 : 1 ≤ c := by simp only [List.length_cons] at h4; omega
  rcases h5 with h5 | ⟨pre, suf, rfl, h6, h7⟩
  · omega
  refine ⟨h7.cell (by simp), by simp, hc1, fun o' ho => ⟨g, o', c - 1, rfl, h2, h3, by simp only [List.length_cons] at h4; omega, ?_⟩⟩
  rcases ho with rfl | h1
  · right
    refine ⟨pre ++ [x], suf, by simp, by simp only [List.length_cons] at h6; omega, ?_⟩
    have e : pre ++ [x] ++ xs ++ suf = pre ++ x :: xs ++ suf := by simp
    rw [e]
    exact h7
  · left
    omega
section
variable {P : Program}
theorem run_append_qu (w : World) (B : Nat) (t ty e : TypeId) (i : TypeInfo) (z : Value) (bytes : Nat) (ht : P.underlying t = some (.slice e)) (hi : P.info? e = some i) (hz : i.zero = some z) (hsize : i.size = 1) (hby : i.bytes = bytes) (hzs : z.cells.size = 1)
    (V : Value) (xs : List Value) (hq : Qu w B e V xs) (a : Addr) (c : Nat) (x : Value) (hnews : w.cell? a = some x) (h1 : x.oneCell' = true) (h63 : xs.length + 1 ≤ maxLen) (hbytes : (xs.length + 1) * bytes ≤ 140737488355328) (hbase : B ≤ w.heap.size) :
    ∃ V' w', (Builtin.append_ #[t, t] ty #[V, .slice (some a) 1 c]).run P w = .ok V' w' ∧ Qu w' B e V' (xs ++ [x]) ∧ w.grownBy w' V.ownBlock := by
  obtain ⟨g, o, cp, rfl, hB, hgl, hle, hq⟩ := hq
  have hn1 : ∀ (j : Nat) (u : Value), [x][j]? = some u → w.cell? (a.add j) = some u := by
    intro j u hu
    cases j with
    | zero => rw [add_zero']; simp at hu; rw [← hu]; exact hnews
    | succ j => simp at hu
  have hone : ∀ u ∈ [x], u.oneCell' = true := by intro u hu; rw [List.mem_singleton] at hu; rw [hu]; exact h1
  by_cases hroom : xs.length + 1 ≤ cp
  · rcases hq with hq | ⟨pre, suf, rfl, hc, hblk⟩
    · omega
    cases suf with
    | nil => simp only [List.length_nil] at hc; omega
    | cons s suf =>
      have hr := run_append_room_cells (P := P) w t ty e i ht hi g pre.length xs.length cp a 1 c [x] (by rw [hsize]; rfl) hn1 hone hroom
        (fun j hj => by
          have hj0 : j = 0 := by simpa using hj
          subst hj0
          rw [hsize, Nat.mul_one, Nat.add_zero, hblk.cell (v := s) (by simp [List.getElem?_append_right])]
          rfl)
        (fun j hj => hblk.frozen _)
      refine ⟨_, _, hr, ⟨g, pre.length, cp, by simp, hB, by simp [World.setCells]; exact hgl, by simp; omega, .inr ⟨pre, suf, rfl, ?_, ?_⟩⟩, ⟨rfl, rfl, rfl, by simp [World.setCells], fun k hk hne => ?_⟩⟩
      · simp only [List.length_append, List.length_cons, List.length_nil] at hc ⊢
        omega
      · have h2 := hblk.set (pre.length + xs.length) x
        rw [hsize, Nat.mul_one]
        have e1 : (pre ++ xs ++ s :: suf).set (pre.length + xs.length) x = pre ++ (xs ++ [x]) ++ suf := by
          rw [List.set_append_right _ _ (by simp)]
          simp
        rw [e1] at h2
        exact h2
      · rw [hsize, Nat.mul_one]
        show (w.setCell ⟨g, pre.length + xs.length, none⟩ x).heap[k]? = w.heap[k]?
        exact Below.heap_setCell _ _ _ _ (fun e => hne (by rw [e]; rfl))
  · obtain ⟨v', w', hr, ho, hg⟩ := run_append_arg_grows (P := P) w t ty e i z 1 bytes ht hi hz hsize hby hzs (by omega) ⟨g, o, none⟩ xs.length cp xs (by simp) (fun j u hu => by
        have hj : j < xs.length := (List.getElem?_eq_some_iff.1 hu).1
        rcases hq with hq | ⟨pre, suf, rfl, hc, hblk⟩
        · omega
        rw [Addr.add_lit]
        refine hblk.cell ?_
        rw [List.append_assoc, List.getElem?_append_right (by omega), show pre.length + j - pre.length = j by omega, List.getElem?_append_left hj]
        exact hu)
      a 1 c [x] rfl hn1 (by omega) h63 hbytes
    refine ⟨v', w', hr, ?_, ⟨hg.os, hg.tape, hg.output, hg.size, fun k hk _ => hg.block k hk (by simp)⟩⟩
    obtain ⟨hlen, ho⟩ := ho
    rcases ho with ⟨_, h0⟩ | ⟨g', cap, cur, rfl, h2, h3, h4, h5, h6, h7⟩
    · omega
    · rw [Nat.mul_one] at h6 h7
      refine ⟨g', 0, cap, by simp, by omega, (Array.getElem?_eq_some_iff.1 h3).1, by simp; omega, .inr ⟨[], cur.toList.drop (xs.length + 1), rfl, ?_, ?_⟩⟩
      · simp only [List.length_append, List.length_cons, List.length_nil, List.length_drop, Array.length_toList]
        omega
      · unfold Blk
        rw [h3, List.nil_append, ← h7, List.take_append_drop]
theorem wpList_append_qu {w : World} {ops : Array Oper} {rest : List Oper} {o : Oper} {a : Act} {Q : Exit → Act → World → Prop} (hgd : o.guard = none) (s x : Operand) (t : TypeId)
    (ho : o.op = .call { callee := .builtin .append, args := #[s, x], argTypes := #[t, t] })
    (B : Nat) (e : TypeId) (i : TypeInfo) (z : Value) (bytes : Nat) (ht : P.underlying t = some (.slice e)) (hi : P.info? e = some i) (hz : i.zero = some z) (hsize : i.size = 1) (hby : i.bytes = bytes) (hzs : z.cells.size = 1)
    (V : Value) (xs : List Value) (hs : a.eval s = V) (hq : Qu w B e V xs) (ad : Addr) (c : Nat) (u : Value) (hx : a.eval x = .slice (some ad) 1 c) (hnews : w.cell? ad = some u) (h1 : u.oneCell' = true) (h63 : xs.length + 1 ≤ maxLen) (hbytes : (xs.length + 1) * bytes ≤ 140737488355328) (hbase : B ≤ w.heap.size)
    (h : ∀ V' w', Qu w' B e V' (xs ++ [u]) → w.grownBy w' V.ownBlock → wpList P ops Q rest (a.put o.dst V') w') : wpList P ops Q (o :: rest) a w := by
  refine wpList_plain hgd fun K hK => ?_
  obtain ⟨V', w', hr, h2, h3⟩ := run_append_qu (P := P) w B t o.type e i z bytes ht hi hz hsize hby hzs V xs hq ad c u hnews h1 h63 hbytes hbase
  unfold Oper.wp execOp
  simp only [ho, resolve, invoke, builtin, Sem.run_bind, Sem.run_pure, Result.andThen_ok, List.map_toArray, List.map_cons, List.map_nil, hs, hx, hr]
  exact hK _ _ (h V' w' h2 h3)
end
end gr
end Go.Proofs.YtahffafobdiogaaDoor
/- What the reference's searches keep: plain. -/
namespace Go.Proofs.YtahffafobdiogaaDoor
set_option linter.unusedVariables false
set_option linter.unusedSimpArgs false
open Go.RowKit
namespace gr
/-- seen so far; todo are those whose neighbours are still to be looked at -/
structure Qs (s : Nat → List Nat) (fr : Nat) (S : Nat → Bool) (todo : List Nat) : Prop where
  fr_ : S fr = true
  sound : ∀ w, S w = true → Rch s fr w
  todo_ : ∀ x ∈ todo, S x = true
  closed : ∀ x, S x = true → x ∉ todo → ∀ w ∈ s x, S w = true
/-- the neighbours of v are looked at; rest are still to come -/
structure Qi (s : Nat → List Nat) (fr : Nat) (S : Nat → Bool) (v : Nat) (rest todo : List Nat) : Prop where
  fr_ : S fr = true
  sound : ∀ w, S w = true → Rch s fr w
  todo_ : ∀ x ∈ todo, S x = true
  at_ : S v = true
  closed : ∀ x, S x = true → x ∉ todo → x ≠ v → ∀ w ∈ s x, S w = true
  done : ∀ w ∈ s v, w ∉ rest → S w = true
theorem Qs.start (s : Nat → List Nat) (fr : Nat) : Qs s fr (fun x => decide (x = fr)) [fr] where
  fr_ := decide_eq_true rfl
  sound := fun w h => by rw [decide_eq_true_eq] at h; rw [h]; exact .refl _
  todo_ := fun x hx => by rw [List.mem_singleton] at hx; exact decide_eq_true hx
  closed := fun x h hn => by rw [decide_eq_true_eq] at h; exact absurd (by rw [h]; simp) hn
theorem Qs.pop {s : Nat → List Nat} {fr v : Nat} {S : Nat → Bool} {todo : List Nat} (h : Qs s fr S (v :: todo)) : Qi s fr S v (s v) todo where
  fr_ := h.fr_
  sound := h.sound
  todo_ := fun x hx => h.todo_ x (List.mem_cons_of_mem _ hx)
  at_ := h.todo_ v List.mem_cons_self
  closed := fun x hx hn hv => h.closed x hx fun hm => by
    rcases List.mem_cons.1 hm with e | hm
    · exact hv e
    · exact hn hm
  done := fun w hw hn => absurd hw hn
theorem Qi.skip {s : Nat → List Nat} {fr v w : Nat} {S : Nat → Bool} {rest todo : List Nat} (h : Qi s fr S v (w :: rest) todo) (hw : S w = true) : Qi s fr S v rest todo :=
  ⟨h.fr_, h.sound, h.todo_, h.at_, h.closed, fun x hx hn => by
    by_cases e : x = w
    · rw [e]; exact hw
    · exact h.done x hx fun hm => by
        rcases List.mem_cons.1 hm with hm | hm
        · exact e hm
        · exact hn hm⟩
theorem Qi.add {s : Nat → List Nat} {fr v w : Nat} {S : Nat → Bool} {rest todo : List Nat} (h : Qi s fr S v (w :: rest) todo) (hw : w ∈ s v) : Qi s fr (fun x => if x = w then true else S x) v rest (todo ++ [w]) := by
  have hS : ∀ x, S x = true → (if x = w then true else S x) = true := fun x hx => by
    split
    · rfl
    · exact hx
  refine ⟨hS _ h.fr_, fun x hx => ?_, fun x hx => ?_, hS _ h.at_, fun x hx hn hv y hy => ?_, fun x hx hn => ?_⟩
  · by_cases e : x = w
    · rw [e]; exact (h.sound v h.at_).trans (.one hw)
    · simp only [if_neg e] at hx
      exact h.sound x hx
  · rcases List.mem_append.1 hx with hx | hx
    · exact hS _ (h.todo_ x hx)
    · rw [List.mem_singleton] at hx; simp [hx]
  · have e : x ≠ w := fun e => hn (by rw [e]; simp)
    simp only [if_neg e] at hx
    exact hS _ (h.closed x hx (fun hm => hn (List.mem_append_left _ hm)) hv y hy)
  · by_cases e : x = w
    · simp [e]
    · exact hS _ (h.done x hx fun hm => by
        rcases List.mem_cons.1 hm with hm | hm
        · exact e hm
        · exact hn hm)
theorem Qi.next {s : Nat → List Nat} {fr v : Nat} {S : Nat → Bool} {todo : List Nat} (h : Qi s fr S v [] todo) : Qs s fr S todo :=
  ⟨h.fr_, h.sound, h.todo_, fun x hx hn w hw => by
    by_cases e : x = v
    · exact h.done w (e ▸ hw) (by simp)
    · exact h.closed x hx hn e w hw⟩
theorem Qs.fin {s : Nat → List Nat} {fr : Nat} {S : Nat → Bool} (h : Qs s fr S []) (w : Nat) : S w = rchB s fr w := by
  rw [Bool.eq_iff_iff, rchB_iff]
  refine ⟨h.sound w, fun hr => ?_⟩
  have key : ∀ u v, Rch s u v → S u = true → S v = true := by
    intro u v k
    induction k with
    | refl => exact id
    | step hm _ ih => exact fun hu => ih (h.closed _ hu (by simp) _ hm)
  exact key fr w hr h.fr_
/-- the same for distances to t -/
structure Qd (E : Nat → Nat → Bool) (n t : Nat) (D : Dst) (todo : List Nat) : Prop where
  nd : todo.Nodup
  st : (D = (fun x => if x = t then some 0 else none) ∧ todo = [t]) ∨ ∃ v dv, Bfs E n t t D v dv [] todo ∧ v ∉ todo
structure Qe (E : Nat → Nat → Bool) (n t : Nat) (D : Dst) (v dv : Nat) (rest todo : List Nat) : Prop where
  nd : todo.Nodup
  out : v ∉ todo
  bf : Bfs E n t t D v dv rest todo
theorem Qd.start (E : Nat → Nat → Bool) (n t : Nat) : Qd E n t (fun x => if x = t then some 0 else none) [t] := ⟨by simp, .inl ⟨rfl, rfl⟩⟩
theorem Qd.pop {E : Nat → Nat → Bool} {n t x : Nat} (ht : t < n) {D : Dst} {todo rest : List Nat} (h : Qd E n t D (x :: todo)) (hr : ∀ w, E w x = true → w ∈ rest) : ∃ e, D x = some e ∧ Qe E n t D x e rest todo := by
  have hnd := List.nodup_cons.1 h.nd
  rcases h.st with ⟨rfl, h2⟩ | ⟨v, dv, h1, h2⟩
  · injection h2 with h3 h4
    subst h3
    subst h4
    exact ⟨0, if_pos rfl, ⟨List.nodup_nil, by simp, Bfs.start ht fun w _ _ he => hr w he⟩⟩
  · obtain ⟨e, h3, h4⟩ := h1.pop h2 (rest := rest) fun w _ _ he => hr w he
    exact ⟨e, h3, hnd.2, hnd.1, h4⟩
theorem Qe.skip {E : Nat → Nat → Bool} {n t v dv w : Nat} {D : Dst} {rest todo : List Nat} (h : Qe E n t D v dv (w :: rest) todo) (hw : D w ≠ none ∨ ¬ t ≤ w) : Qe E n t D v dv rest todo := ⟨h.nd, h.out, h.bf.skip hw⟩
theorem Qe.add {E : Nat → Nat → Bool} {n t v dv w : Nat} {D : Dst} {rest todo : List Nat} (h : Qe E n t D v dv (w :: rest) todo) (hn : w < n) (hl : t ≤ w) (he : E w v = true) (hw : D w = none) : Qe E n t (D.put w (dv + 1)) v dv rest (todo ++ [w]) := by
  have hk : w ∉ todo := fun hm => by
    obtain ⟨e, h1, _⟩ := h.bf.queue w hm
    rw [hw] at h1; cases h1
  have hv : v ≠ w := fun e => by have := h.bf.at_; rw [e, hw] at this; cases this
  refine ⟨?_, fun hm => ?_, h.bf.add hn hl he hw⟩
  · rw [List.nodup_append]
    exact ⟨h.nd, by simp, fun a ha b hb e => hk (by rw [List.mem_singleton] at hb; rw [← hb, ← e]; exact ha)⟩
  · rcases List.mem_append.1 hm with hm | hm
    · exact h.out hm
    · exact hv (List.mem_singleton.1 hm)
theorem Qe.next {E : Nat → Nat → Bool} {n t v dv : Nat} {D : Dst} {todo : List Nat} (h : Qe E n t D v dv [] todo) : Qd E n t D todo := ⟨h.nd, .inr ⟨v, dv, h.bf, h.out⟩⟩
theorem Qd.fin {E : Nat → Nat → Bool} {n t : Nat} {D : Dst} (h : Qd E n t D []) : D = dstS E n t := by
  rcases h.st with ⟨_, h2⟩ | ⟨v, dv, h1, _⟩
  · cases h2
  · exact dst_eq h1.fin
theorem Qe.lt {E : Nat → Nat → Bool} {n t v dv : Nat} {D : Dst} {rest todo : List Nat} (h : Qe E n t D v dv rest todo) : dv < n := (h.bf.sound v dv h.bf.at_).1.lt h.bf.ht
theorem Qd.lt {E : Nat → Nat → Bool} {n t x : Nat} (ht : t < n) {D : Dst} {todo : List Nat} (h : Qd E n t D (x :: todo)) : x < n := by
  rcases h.st with ⟨_, h2⟩ | ⟨v, dv, h1, _⟩
  · injection h2 with h3 h4
    rw [h3]; exact ht
  · obtain ⟨e, h3, _⟩ := h1.queue x List.mem_cons_self
    exact (h1.sound x e h3).2
/-- the least of a list at distance d, so far -/
def LsB (D : Nat → Option Nat) (d : Nat) (p : List Nat) (b : Int) : Prop := (b = -1 ∧ ∀ u ∈ p, D u ≠ some d) ∨ ∃ u : Nat, b = (u : Int) ∧ u ∈ p ∧ D u = some d ∧ ∀ x ∈ p, D x = some d → u ≤ x
theorem LsB.skip {D : Nat → Option Nat} {d a : Nat} {p : List Nat} {b : Int} (h : LsB D d p b) (ha : D a ≠ some d ∨ ∃ u : Nat, b = (u : Int) ∧ u ≤ a) : LsB D d (p ++ [a]) b := by
  rcases h with ⟨h1, h2⟩ | ⟨u, h1, h2, h3, h4⟩
  · left
    refine ⟨h1, fun x hx => ?_⟩
    rcases List.mem_append.1 hx with hx | hx
    · exact h2 x hx
    · rw [List.mem_singleton] at hx
      rw [hx]
      rcases ha with ha | ⟨u, e, _⟩
      · exact ha
      · omega
  · right
    refine ⟨u, h1, List.mem_append_left _ h2, h3, fun x hx hd => ?_⟩
    rcases List.mem_append.1 hx with hx | hx
    · exact h4 x hx hd
    · rw [List.mem_singleton] at hx
      rcases ha with ha | ⟨y, e, hy⟩
      · exact absurd (hx ▸ hd) ha
      · omega
theorem LsB.take {D : Nat → Option Nat} {d a : Nat} {p : List Nat} {b : Int} (h : LsB D d p b) (ha : D a = some d) (hb : b < 0 ∨ (a : Int) < b) : LsB D d (p ++ [a]) (a : Int) := by
  right
  refine ⟨a, rfl, by simp, ha, fun x hx hd => ?_⟩
  rcases List.mem_append.1 hx with hx | hx
  · rcases h with ⟨_, h2⟩ | ⟨u, h1, h2, h3, h4⟩
    · exact absurd hd (h2 x hx)
    · have := h4 x hx hd; omega
  · rw [List.mem_singleton] at hx; omega
theorem LsB.fin {E : Nat → Nat → Bool} {n v d : Nat} {D : Nat → Option Nat} {p : List Nat} {b : Int} (h : LsB D d p b) (hp : ∀ w, w ∈ p ↔ E v w = true) (hE : ∀ w, E v w = true → w < n) : b = match nea E n D v d with | some u => (u : Int) | none => -1 := by
  rcases h with ⟨h1, h2⟩ | ⟨u, h1, h2, h3, h4⟩
  · have : nea E n D v d = none := by
      unfold nea
      rw [List.find?_range_eq_none]
      intro i _
      cases he : E v i with
      | false => rfl
      | true => simp [h2 i ((hp i).2 he)]
    rw [this, h1]
  · have : nea E n D v d = some u := by
      unfold nea
      rw [List.find?_range_eq_some]
      refine ⟨by rw [(hp u).1 h2, h3]; simp, List.mem_range.2 (hE u ((hp u).1 h2)), fun j hj => ?_⟩
      cases he : E v j with
      | false => rfl
      | true =>
        have hn : D j ≠ some d := fun e => by have := h4 j ((hp j).2 he) e; omega
        simp [hn]
    rw [this, h1]
/-- the smallest distance of a list, so far -/
def MdB (D : Nat → Option Nat) (p : List Nat) (r : Int) : Prop := (r = -1 ∧ ∀ u ∈ p, D u = none) ∨ ∃ d : Nat, r = (d : Int) ∧ (∃ u ∈ p, D u = some d) ∧ ∀ u ∈ p, ∀ e, D u = some e → d ≤ e
theorem MdB.skip {D : Nat → Option Nat} {a : Nat} {p : List Nat} {r : Int} (h : MdB D p r) (ha : D a = none ∨ ∃ e d : Nat, D a = some e ∧ r = (d : Int) ∧ d ≤ e) : MdB D (p ++ [a]) r := by
  rcases h with ⟨h1, h2⟩ | ⟨d, h1, ⟨u, h2, h3⟩, h4⟩
  · left
    refine ⟨h1, fun x hx => ?_⟩
    rcases List.mem_append.1 hx with hx | hx
    · exact h2 x hx
    · rw [List.mem_singleton] at hx
      rw [hx]
      rcases ha with ha | ⟨e, d, _, e2, _⟩
      · exact ha
      · omega
  · right
    refine ⟨d, h1, ⟨u, List.mem_append_left _ h2, h3⟩, fun x hx e hd => ?_⟩
    rcases List.mem_append.1 hx with hx | hx
    · exact h4 x hx e hd
    · rw [List.mem_singleton] at hx
      rw [hx] at hd
      rcases ha with ha | ⟨y, f, h5, h6, h7⟩
      · rw [ha] at hd; cases hd
      · rw [h5] at hd; injection hd with hd; omega
theorem MdB.take {D : Nat → Option Nat} {a e : Nat} {p : List Nat} {r : Int} (h : MdB D p r) (ha : D a = some e) (hr : r < 0 ∨ (e : Int) < r) : MdB D (p ++ [a]) (e : Int) := by
  right
  refine ⟨e, rfl, ⟨a, by simp, ha⟩, fun x hx f hd => ?_⟩
  rcases List.mem_append.1 hx with hx | hx
  · rcases h with ⟨_, h2⟩ | ⟨d, h1, _, h4⟩
    · rw [h2 x hx] at hd; cases hd
    · have := h4 x hx f hd; omega
  · rw [List.mem_singleton] at hx
    rw [hx, ha] at hd
    injection hd with hd
    omega
theorem MdB.fin {E : Nat → Nat → Bool} {n v : Nat} {D : Nat → Option Nat} {p : List Nat} {r : Int} (h : MdB D p r) (hp : ∀ w, w ∈ p ↔ E v w = true) (hE : ∀ w, E v w = true → w < n) : r = match mndO E n D v with | some d => (d : Int) | none => -1 := by
  rcases h with ⟨h1, h2⟩ | ⟨d, h1, ⟨u, h2, h3⟩, h4⟩
  · rw [mndO_none.2 fun w _ he => h2 w ((hp w).2 he), h1]
  · have hm : Mnd E n D v d := ⟨⟨u, hE u ((hp u).1 h2), (hp u).1 h2, h3⟩, fun w e _ he hd => h4 w ((hp w).2 he) e hd⟩
    rw [mndO_some.2 hm, h1]
end gr
end Go.Proofs.YtahffafobdiogaaDoor
/- The parts, as the reference collects them: plain. -/
namespace Go.Proofs.YtahffafobdiogaaDoor
set_option linter.unusedVariables false
set_option linter.unusedSimpArgs false
open Go.RowKit
namespace gr
open Classical in
/-- the parts with a least vertex below k -/
noncomputable def prtk (s : Nat → List Nat) (n k : Nat) : List (List Nat) := ((List.range k).filter fun v => decide (∀ w, w < n → Mut s v w → v ≤ w)).map (cmp s n)
theorem prtk_all (s : Nat → List Nat) (n : Nat) : prtk s n n = prts s n := rfl
open Classical in
theorem prtk_succ (s : Nat → List Nat) (n k : Nat) : prtk s n (k + 1) = prtk s n k ++ if (∀ w, w < n → Mut s k w → k ≤ w) then [cmp s n k] else [] := by
  unfold prtk
  rw [List.range_succ, List.filter_append, List.map_append]
  congr 1
  by_cases h : ∀ w, w < n → Mut s k w → k ≤ w
  · rw [if_pos h, List.filter_cons, if_pos (decide_eq_true h)]
    rfl
  · rw [if_neg h, List.filter_cons, if_neg (by rw [decide_eq_true_eq]; exact h)]
    rfl
open Classical in
/-- in a part that was collected -/
noncomputable def dnB (s : Nat → List Nat) (k w : Nat) : Bool := decide (∃ u, u < k ∧ Mut s u w)
open Classical in
theorem dnB_iff {s : Nat → List Nat} {k w : Nat} : dnB s k w = true ↔ ∃ u, u < k ∧ Mut s u w := by unfold dnB; rw [decide_eq_true_eq]
open Classical in
/-- the part of v below k -/
noncomputable def cmk (s : Nat → List Nat) (v k : Nat) : List Nat := (List.range k).filter fun w => decide (Mut s v w)
theorem cmk_all (s : Nat → List Nat) (n v : Nat) : cmk s v n = cmp s n v := rfl
open Classical in
theorem cmk_succ (s : Nat → List Nat) (v k : Nat) : cmk s v (k + 1) = cmk s v k ++ if Mut s v k then [k] else [] := by
  unfold cmk
  rw [List.range_succ, List.filter_append]
  congr 1
  by_cases h : Mut s v k
  · rw [if_pos h, List.filter_cons, if_pos (decide_eq_true h)]
    rfl
  · rw [if_neg h, List.filter_cons, if_neg (by rw [decide_eq_true_eq]; exact h)]
    rfl
theorem cmk_len (s : Nat → List Nat) (v k : Nat) : (cmk s v k).length ≤ k := by
  unfold cmk
  exact Nat.le_trans (List.length_filter_le _ _) (by rw [List.length_range]; exact Nat.le_refl _)
theorem done_least {s : Nat → List Nat} {n k : Nat} (hk : k < n) (h : dnB s k k = true) : ¬ ∀ w, w < n → Mut s k w → k ≤ w := by
  obtain ⟨u, h1, h2⟩ := dnB_iff.1 h
  intro hw
  have := hw u (by omega) h2.symm
  omega
theorem new_least {s : Nat → List Nat} {n k : Nat} (h : dnB s k k = false) : ∀ w, w < n → Mut s k w → k ≤ w := fun w hw hm => Nat.le_of_not_lt fun hl => by
  have := dnB_iff.2 ⟨w, hl, hm.symm⟩
  rw [this] at h
  cases h
theorem prtk_skip {s : Nat → List Nat} {n k : Nat} (hk : k < n) (h : dnB s k k = true) : prtk s n (k + 1) = prtk s n k ∧ ∀ w, dnB s (k + 1) w = dnB s k w := by
  refine ⟨by rw [prtk_succ, if_neg (done_least hk h), List.append_nil], fun w => ?_⟩
  rw [Bool.eq_iff_iff, dnB_iff, dnB_iff]
  obtain ⟨x, h1, h2⟩ := dnB_iff.1 h
  constructor
  · rintro ⟨u, h3, h4⟩
    rcases Nat.lt_succ_iff_lt_or_eq.1 h3 with h5 | rfl
    · exact ⟨u, h5, h4⟩
    · exact ⟨x, h1, h2.trans h4⟩
  · rintro ⟨u, h3, h4⟩
    exact ⟨u, by omega, h4⟩
theorem prtk_new {s : Nat → List Nat} {n k : Nat} (h : dnB s k k = false) : prtk s n (k + 1) = prtk s n k ++ [cmp s n k] := by
  rw [prtk_succ, if_pos (new_least h)]
open Classical in
theorem cmk_start {s : Nat → List Nat} {n k : Nat} (hk : k < n) (h : dnB s k k = false) : cmk s k k = [] := by
  unfold cmk
  rw [List.filter_eq_nil_iff]
  intro w hw
  rw [decide_eq_true_eq]
  intro hm
  have hlt := List.mem_range.1 hw
  have := new_least h w (by omega) hm
  omega
open Classical in
/-- what is marked while the part of k is collected, up to w -/
noncomputable def dnW (s : Nat → List Nat) (k w x : Nat) : Bool := dnB s k x || (decide (x < w) && decide (Mut s k x))
open Classical in
theorem dnW_start {s : Nat → List Nat} {n k : Nat} (hk : k < n) (h : dnB s k k = false) : dnW s k k = dnB s k := by
  funext x
  unfold dnW
  by_cases h1 : x < k
  · have : ¬ Mut s k x := fun hm => by have := new_least h x (by omega) hm; omega
    simp [this]
  · simp [h1]
open Classical in
theorem dnW_yes {s : Nat → List Nat} {k w : Nat} (h : Mut s k w) : (fun x => if x = w then true else dnW s k w x) = dnW s k (w + 1) := by
  funext x
  unfold dnW
  by_cases e : x = w
  · subst e
    simp [h]
  · have : (x < w + 1) ↔ x < w := by omega
    simp [e, this]
open Classical in
theorem dnW_no {s : Nat → List Nat} {k w : Nat} (h : ¬ Mut s k w) : dnW s k w = dnW s k (w + 1) := by
  funext x
  unfold dnW
  by_cases e : x = w
  · subst e
    simp [h]
  · have : (x < w + 1) ↔ x < w := by omega
    simp [this]
open Classical in
theorem dnW_end {s : Nat → List Nat} {n k : Nat} {x : Nat} (hx : x < n) : dnW s k n x = dnB s (k + 1) x := by
  unfold dnW
  rw [Bool.eq_iff_iff, Bool.or_eq_true, Bool.and_eq_true, decide_eq_true_eq, decide_eq_true_eq, dnB_iff, dnB_iff]
  constructor
  · rintro (⟨u, h1, h2⟩ | ⟨_, h2⟩)
    · exact ⟨u, by omega, h2⟩
    · exact ⟨k, by omega, h2⟩
  · rintro ⟨u, h1, h2⟩
    rcases Nat.lt_succ_iff_lt_or_eq.1 h1 with h3 | rfl
    · exact .inl ⟨u, h3, h2⟩
    · exact .inr ⟨hx, h2⟩
theorem mut_and {s : Nat → List Nat} {v w : Nat} : (rchB s v w && rchB s w v) = true ↔ Mut s v w := by
  rw [Bool.and_eq_true, rchB_iff, rchB_iff]
  rfl
end gr
end Go.Proofs.YtahffafobdiogaaDoor
/- reach of the reference. -/
namespace Go.Proofs.YtahffafobdiogaaDoor
set_option linter.unusedVariables false
set_option linter.unusedSimpArgs false
open Go.RowKit
namespace gr
/-- how many cells of a block are false -/
def isF : Value → Bool | .bool false => true | _ => false
def falN (W : World) (b : Nat) : Nat := match W.heap[b]? with | some (.cells cs _ _) => cs.toList.countP isF | _ => 0
theorem falN_row {W : World} {b n : Nat} {t : TypeId} {p : Nat → Bool} (h : Blk W b t (rowB n p)) : falN W b = (List.range n).countP fun v => !p v := by
  unfold falN
  rw [h]
  simp only
  unfold rowB
  rw [List.countP_map]
  congr 1
  funext v
  show isF (.bool (p v)) = !p v
  cases p v <;> rfl
theorem count_new {n w : Nat} {p : Nat → Bool} (hw : w < n) (hp : p w = false) : (List.range n).countP (fun v => !p v) = (List.range n).countP (fun v => !(if v = w then true else p v)) + 1 := by
  rw [countP_split (fun v => !p v) (fun v => decide (v = w))]
  congr 1
  · congr 1
    funext v
    by_cases e : v = w
    · simp [e]
    · simp [e]
  · have hc := List.count_range (a := w) (n := n)
    rw [if_pos hw] at hc
    rw [← hc]
    unfold List.count
    congr 1
    funext v
    by_cases e : v = w
    · subst e
      simp [hp]
    · simp [e]
theorem rch_congr {s s' : Nat → List Nat} (h : ∀ v w, w ∈ s v → w ∈ s' v) {u v : Nat} (k : Rch s u v) : Rch s' u v := by
  induction k with
  | refl => exact .refl _
  | step hm _ ih => exact .step (h _ _ hm) ih
theorem rchB_adj {n : Nat} {ns : List (Nat × Nat)} (hr : ∀ e ∈ ns, e.1 < n ∧ e.2 < n) (u v : Nat) : rchB (adj ns) u v = rchB (nbs (eK ns) n) u v := by
  have h : ∀ v w, w ∈ adj ns v ↔ w ∈ nbs (eK ns) n v := fun v w => by
    rw [nbs_mem]
    exact ⟨fun hm => ⟨adj_lt hr hm, adj_mem.1 hm⟩, fun hm => adj_mem.2 hm.2⟩
  rw [Bool.eq_iff_iff, rchB_iff, rchB_iff]
  exact ⟨rch_congr fun v w => (h v w).1, rch_congr fun v w => (h v w).2⟩
theorem vV_cons (a : Nat) (l : List Nat) : vV (a :: l) = .int .i64 (a : Int) :: vV l := rfl
theorem drop_at {l : List Nat} {i : Nat} (h : i < l.length) : l.drop i = l.getD i 0 :: l.drop (i + 1) := by
  rw [List.drop_eq_getElem_cons h, List.getD, List.getElem?_eq_getElem h]
  rfl
theorem Qu.nat {W : World} {B : Nat} {V : Value} {l : List Nat} (h : Qu W B 3 V (vV l)) : ∃ g o c, V = .slice (some ⟨g, o, none⟩) l.length c ∧ l.length ≤ c ∧ B ≤ g ∧ g < W.heap.size := by
  obtain ⟨g, o, c, h1, h2, h3, h4⟩ := h.form
  rw [vV_len] at h1 h2
  exact ⟨g, o, c, h1, h2, h3, h4⟩
theorem rch_lt {n : Nat} {ns : List (Nat × Nat)} (hr : ∀ e ∈ ns, e.1 < n ∧ e.2 < n) {u v : Nat} (hu : u < n) (k : Rch (adj ns) u v) : v < n := by
  induction k with
  | refl => exact hu
  | step hm _ ih => exact ih (adj_lt hr hm)
theorem new_int (W : World) (x : Value) (t : TypeId) : (W.alloc (.cells #[x] t)).cell? ⟨W.heap.size, 0, none⟩ = some x := (Blk.new W [x] t).cell rfl
set_option maxRecDepth 100000 in
set_option maxHeartbeats 8000000 in
theorem rreach_any (n fr O : Nat) (ns : List (Nat × Nat)) (hn : n ≤ 4096) (hfr : fr < n) (hr : ∀ e ∈ ns, e.1 < n ∧ e.2 < n) (hl : ns.length ≤ 1048576) (w : World) (hN : NxR w O n (adj ns)) :
    Calls Tryd.prog 40 #[sl O n, .int .i64 fr, .int .i64 0] w fun e w' => e = .returned (sl w.heap.size n) ∧ Blk w' w.heap.size 4 (rowB n (rchB (adj ns) fr)) ∧ Below w.heap.size w w' := by
  have HN := Lib.hid hN
  have HR := Lib.hid hr
  have HFR := Lib.hid hfr
  have hmk := make_bools n hn w
  have x0 : (fr : Int) < (n : Int) := by omega
  have x1 := (Blk.new w (rowB n fun _ => false) 4).cell (rowB_get (fun _ => false) hfr)
  have x2 := (Blk.new w (rowB n fun _ => false) 4).frozen fr
  obtain ⟨i0, hi, iz, is, ib⟩ := infoI
  have HB0 : Hid (Blk ((w.alloc (.cells ((rowB n fun _ => false).set fr (.bool true)).toArray 4)).alloc (.cells #[.int .i64 (fr : Int)] 3)) w.heap.size 4 (rowB n fun x => decide (x = fr))) := Lib.hid (by
    have h1 := Blk.new w ((rowB n fun _ => false).set fr (.bool true)) 4
    rw [rowB_set] at h1 ⊢
    have e9 : rowB n (fun x => decide (x = fr)) = rowB n fun x => if x = fr then true else false := rowB_congr fun v _ => by by_cases e : v = fr <;> simp [e]
    rw [e9]
    exact h1.alloc _)
  have HQ0 : Hid (Qu ((w.alloc (.cells ((rowB n fun _ => false).set fr (.bool true)).toArray 4)).alloc (.cells #[.int .i64 (fr : Int)] 3)) (w.heap.size + 1) 3 (.slice (some ⟨w.heap.size + 1, 0, none⟩) 1 1) (vV [fr])) := Lib.hid (by
    have h1 := Qu.one (w.alloc (.cells ((rowB n fun _ => false).set fr (.bool true)).toArray 4)) 3 (.int .i64 (fr : Int))
    rw [World.size_alloc] at h1
    exact h1)
  have hb0 : Below w.heap.size w ((w.alloc (.cells ((rowB n fun _ => false).set fr (.bool true)).toArray 4)).alloc (.cells #[.int .i64 (fr : Int)] 3)) := bel_alloc (bel_box _) _
  have HW0 := Lib.hid hb0
  clear hN hr hb0
  go_enter Tryd.func40, Tryd.ntmps40
  go_wp2
  clear hmk x1 x2
  generalize (w.alloc (.cells ((rowB n fun _ => false).set fr (.bool true)).toArray 4)).alloc (.cells #[.int .i64 (fr : Int)] 3) = w1 at *
  have HF0 : Hid (2 * falN w1 w.heap.size + [fr].length ≤ 8200) := Lib.hid (by
    rw [falN_row HB0.out]
    have h1 : (List.range n).countP (fun v => !decide (v = fr)) ≤ (List.range n).length := List.countP_le_length
    rw [List.length_range] at h1
    simp only [List.length_cons, List.length_nil]
    omega)
  go_loopw [8] (fun V wr => ∃ (todo : List Nat) (S : Nat → Bool) (g o c : Nat), V = .slice (some ⟨g, o, none⟩) todo.length c ∧ todo.length ≤ c ∧ Hid (Qu wr (w.heap.size + 1) 3 (.slice (some ⟨g, o, none⟩) todo.length c) (vV todo)) ∧ Hid (Blk wr w.heap.size 4 (rowB n S)) ∧ Hid (Qs (adj ns) fr S todo) ∧ Hid (Below w.heap.size w wr) ∧ 2 * falN wr w.heap.size + todo.length ≤ 8200) (fun V wr => 2 * falN wr w.heap.size + lenV V)
  case atStart => exact ⟨[fr], fun x => decide (x = fr), w.heap.size + 1, 0, 1, rfl, Nat.le_refl _, HQ0, HB0, Lib.hid (Qs.start _ _), HW0, HF0.out⟩
  case round =>
    obtain ⟨todo, S, g, o, c, rfl, hc, hQ, hB, hK, hbl, hMM⟩ := hrel
    cases todo with
    | nil =>
      have H2 : Hid (Blk wr w.heap.size 4 (rowB n (rchB (adj ns) fr))) := Lib.hid (by
        rw [rowB_congr (g := S) (fun v _ => (hK.out.fin v).symm)]
        exact hB.out)
      clear hB hK hQ
      go_wp2
      go_ret
      exact ⟨rfl, H2.out, hbl.out⟩
    | cons v todo =>
      have hvn : v < n := rch_lt HR.out HFR.out (hK.out.sound v (hK.out.todo_ v List.mem_cons_self))
      have h9 := hQ.out
      rw [vV_cons] at h9
      obtain ⟨hcv, _, hc1, hQ2⟩ := h9.tail
      clear h9
      have HQ2 : Hid (∀ o', o' = o + 1 ∨ c = 1 → Qu wr (w.heap.size + 1) 3 (.slice (some ⟨g, o', none⟩) todo.length (c - 1)) (vV todo)) := Lib.hid fun o' ho => by
        have h8 := hQ2 o' ho
        rw [vV_len] at h8
        exact h8
      have HK2 := Lib.hid hK.out.pop
      have hlen : (v :: todo).length = todo.length + 1 := rfl
      rw [hlen] at hc ⊢
      have e1 : (v : Int) < (n : Int) := by omega
      clear hQ hQ2 hlen hK
      obtain ⟨wo, hwo⟩ : ∃ wo, wo = wr := ⟨_, rfl⟩
      subst hwo
      have hdl9 : (adj ns v).length ≤ 1048576 := Nat.le_trans (adj_len ns v) hl
      go_wp2
      all_goals
        go_loopw [8, 10] (fun V i wr => ∃ (t : Nat) (todo' : List Nat) (S' : Nat → Bool) (g' o' c' : Nat), t ≤ (adj ns v).length ∧ i = .int .i64 (t : Int) ∧ V = .slice (some ⟨g', o', none⟩) todo'.length c' ∧ todo'.length ≤ c' ∧ Hid (Qu wr (w.heap.size + 1) 3 (.slice (some ⟨g', o', none⟩) todo'.length c') (vV todo')) ∧ Hid (Blk wr w.heap.size 4 (rowB n S')) ∧ Hid (Qi (adj ns) fr S' v ((adj ns v).drop t) todo') ∧ Hid (Below w.heap.size w wr) ∧ Hid (2 * falN wr w.heap.size + todo'.length ≤ 2 * falN wo w.heap.size + todo.length)) (fun _ i _ => (adj ns v).length - (intOf i).toNat)
        case atStart => first
          | exact ⟨0, todo, S, g, o + 1, c - 1, by omega, rfl, rfl, by omega, Lib.hid (HQ2.out _ (.inl rfl)), hB, Lib.hid (by rw [List.drop_zero]; exact HK2.out), hbl, Lib.hid (Nat.le_refl _)⟩
          | exact ⟨0, todo, S, g, o, 0, by omega, rfl, rfl, by omega, Lib.hid (by have h7 := HQ2.out o (.inr (by assumption)); rwa [show c - 1 = 0 by omega] at h7), hB, Lib.hid (by rw [List.drop_zero]; exact HK2.out), hbl, Lib.hid (Nat.le_refl _)⟩
        case round =>
          obtain ⟨t, todo', S', g', o', c', ht, rfl, rfl, hc', hQ', hB', hK', hbl', hM'⟩ := hrel
          obtain ⟨A5, c5, hc5, hR5⟩ := (HN.out.keep hbl'.out).at_ hvn
          by_cases htl : t < (adj ns v).length
          · obtain ⟨ad5, rfl, had5, hx5⟩ := rdv_at hR5 htl
            have hxn : (adj ns v).getD t 0 < n := adj_lt HR.out (getD_mem htl)
            have HXM := Lib.hid (getD_mem htl)
            have hcw := hB'.out.cell (rowB_get S' hxn)
            have hfw := hB'.out.frozen ((adj ns v).getD t 0)
            have HK3 : Hid (Qi (adj ns) fr S' v ((adj ns v).getD t 0 :: (adj ns v).drop (t + 1)) todo') := Lib.hid (by rw [← drop_at htl]; exact hK'.out)
            have d1 : (t : Int) < ((adj ns v).length : Int) := by omega
            have d2 : (((adj ns v).getD t 0 : Nat) : Int) < (n : Int) := by omega
            cases hS : S' ((adj ns v).getD t 0) with
            | true =>
              rw [hS] at hcw
              have HK4 := Lib.hid (HK3.out.skip hS)
              clear HK3 hK' hR5 hS HXM
              generalize (adj ns v).getD t 0 = y at *
              generalize hdl : (adj ns v).length = dl at *
              clear hdl
              go_wp2
              exact ⟨⟨t + 1, todo', S', g', o', c', by omega, by congr 1, rfl, hc', hQ', hB', HK4, hbl', hM'⟩, by simp [intOf]; omega⟩
            | false =>
              rw [hS] at hcw
              have HK4 := Lib.hid (HK3.out.add HXM.out)
              have HC4 := Lib.hid (count_new hxn hS)
              clear HK3 hK' hR5 hS HXM
              generalize (adj ns v).getD t 0 = y at *
              generalize hdl : (adj ns v).length = dl at *
              clear hdl
              have hk5 : Kp (fun k => k = w.heap.size) wr (wr.setCell ⟨w.heap.size, y, none⟩ (.bool true)) := Kp.set (S := fun k => k = w.heap.size) wr (a := ⟨w.heap.size, y, none⟩) rfl _
              have HQ5 : Hid (Qu ((wr.setCell ⟨w.heap.size, y, none⟩ (.bool true)).alloc (.cells #[.int .i64 (y : Int)] 3)) (w.heap.size + 1) 3 (.slice (some ⟨g', o', none⟩) todo'.length c') (vV todo')) := Lib.hid ((hQ'.out.kp hk5 (fun k e => by omega)).keep (bel_box _))
              have HB5 : Hid (Blk ((wr.setCell ⟨w.heap.size, y, none⟩ (.bool true)).alloc (.cells #[.int .i64 (y : Int)] 3)) w.heap.size 4 (rowB n fun x => if x = y then true else S' x)) := Lib.hid (by
                have h1 := hB'.out.set y (.bool true)
                rw [rowB_set] at h1
                exact h1.alloc _)
              have hbw : Below w.heap.size w ((wr.setCell ⟨w.heap.size, y, none⟩ (.bool true)).alloc (.cells #[.int .i64 (y : Int)] 3)) := (hbl'.out.setCell (p := ⟨w.heap.size, y, none⟩) (Nat.le_refl _) _).alloc (by rw [World.size_setCell]; exact hbl'.out.size) _
              have HBW := Lib.hid hbw
              clear hk5 hbw
              have hlm : todo'.length ≤ 8200 := by
                have h1 := hM'.out
                simp only [List.length_cons] at hMM
                omega
              have hg9 : w.heap.size + 1 ≤ g' := by
                obtain ⟨_, _, _, h1, _, h2, _⟩ := hQ'.out.form
                injection h1 with h1
                injection h1 with h1
                injection h1 with h1
                rw [h1]; exact h2
              have hsz9 := hbl'.out.size
              have hbw9 : w.heap.size < wr.heap.size := hB'.out.lt
              go_wp2_with (at_builtin; refine wpList_append_qu rfl _ _ 24 rfl (w.heap.size + 1) 3 i0 (.int .i64 0) 8 Tryd.underlying24 hi iz is ib rfl _ (vV todo') rfl HQ5.out ⟨wr.heap.size, 0, none⟩ 1 (.int .i64 (y : Int)) rfl (by have h := new_int (wr.setCell ⟨w.heap.size, y, none⟩ (.bool true)) (.int .i64 (y : Int)) 3; rw [World.size_setCell] at h; exact h) rfl (by rw [vV_len]; unfold maxLen; omega) (by rw [vV_len]; omega) (by rw [World.size_alloc, World.size_setCell]; omega) ?_; intro V3 w3 hq3 hg0; have hg3 : World.grownBy _ w3 (some g') := hg0; rw [vV_snoc] at hq3; obtain ⟨g3, o3, c3, rfl, hc3, _, _⟩ := Qu.nat hq3; have HQ6 := Lib.hid hq3; have HB6 := Lib.hid (HB5.out.to (hg3.block w.heap.size (by rw [World.size_alloc, World.size_setCell]; omega) (by intro e; injection e with e; omega))); have HW6 := Lib.hid (HBW.out.grown hg3 (by rw [World.size_alloc, World.size_setCell]; omega) (by intro k e; injection e with e; omega)); clear hq3 hg3 hg0)
              have HM6 : Hid (2 * falN w3 w.heap.size + (todo' ++ [y]).length ≤ 2 * falN wo w.heap.size + todo.length) := Lib.hid (by
                have h1 := hM'.out
                rw [falN_row hB'.out, HC4.out] at h1
                rw [falN_row HB6.out, List.length_append, List.length_cons, List.length_nil]
                omega)
              have e5 : (todo' ++ [y]).length = todo'.length + 1 := by simp
              exact ⟨⟨t + 1, todo' ++ [y], _, g3, o3, c3, by omega, by congr 1, by rw [e5], by rw [e5]; simpa using hc3, HQ6, HB6, HK4, HW6, HM6⟩, by simp [intOf]; omega⟩
          · have HK5 := Lib.hid (show Qs (adj ns) fr S' todo' from by
              have h1 := hK'.out
              rw [List.drop_of_length_le (by omega)] at h1
              exact h1.next)
            clear hK' hR5
            generalize hdl : (adj ns v).length = dl at *
            clear hdl
            have HMf : 2 * falN wr w.heap.size + todo'.length ≤ 8200 := by
              have h1 := hM'.out
              simp only [List.length_cons] at hMM
              omega
            go_wp2
            refine ⟨⟨todo', S', g', o', c', rfl, hc', hQ', hB', HK5, hbl', HMf⟩, ?_⟩
            have h1 := hM'.out
            simp only [lenV]
            omega
end gr
end Go.Proofs.YtahffafobdiogaaDoor
/-
  DERIVED: THE SHELF's CONTRACTS AT THIS DUMP, IN PLAIN WORDS (tools/lay-plain.mjs out of 'TrydShb.lean', which tools/lay-shelf.mjs wrote): THE SAME DECLARATIONS UNDER THE SAME NAMES: 'import', 'namespace', 'open', 'def', 'theorem' AND NOTHING ELSE: no command of the shelf's: FOR A HAND-IN. Each laying: the table of numbers ('.._ren') and one theorem, a field a fact of the dump's own or the kernel's comparison; each contract: ONE APPLICATION.
-/
namespace Go.Proofs
open Go.Shelf
def Tryd.laysSo_ren : Go.Shelf.Ren := ⟨fun | 5 => 44 | 8 => 61 | 7 => 60 | 19 => 73 | 20 => 74 | 10 => 64 | 11 => 65 | 12 => 66 | 13 => 67 | 14 => 68 | 15 => 69 | 16 => 70 | 17 => 71 | 18 => 72 | 30 => 83 | 31 => 84 | 32 => 85 | 33 => 86 | 34 => 87 | 35 => 88 | 40 => 92 | n => n, fun | 23 => 24 | 25 => 3 | 3 => 3 | 32 => 77 | 22 => 24 | 0 => 0 | 44 => 89 | 46 => 69 | 4 => 4 | 36 => 83 | 35 => 82 | 41 => 51 | 5 => 5 | 9 => 9 | 53 => 95 | 57 => 99 | 63 => 103 | 64 => 104 | n => n, fun | n => n⟩
theorem Tryd.laysSo : Go.Proofs.SlLaysM.n5 Tryd.prog Tryd.laysSo_ren := {
  mixed := by kernel_rfl
  f5 := ⟨Tryd.f44.name, by decide, Tryd.func44.trans (congrArg some (by kernel_rfl))⟩
  f7 := ⟨Tryd.f60.name, by decide, Tryd.func60.trans (congrArg some (by kernel_rfl))⟩
  f8 := Tryd.func61.trans (congrArg some (by kernel_rfl))
  f10 := ⟨Tryd.f64.name, by decide, Tryd.func64.trans (congrArg some (by kernel_rfl))⟩
  f11 := ⟨Tryd.f65.name, by decide, Tryd.func65.trans (congrArg some (by kernel_rfl))⟩
  f12 := ⟨Tryd.f66.name, by decide, Tryd.func66.trans (congrArg some (by kernel_rfl))⟩
  f13 := ⟨Tryd.f67.name, by decide, Tryd.func67.trans (congrArg some (by kernel_rfl))⟩
  f14 := ⟨Tryd.f68.name, by decide, Tryd.func68.trans (congrArg some (by kernel_rfl))⟩
  f15 := ⟨Tryd.f69.name, by decide, Tryd.func69.trans (congrArg some (by kernel_rfl))⟩
  f16 := ⟨Tryd.f70.name, by decide, Tryd.func70.trans (congrArg some (by kernel_rfl))⟩
  f17 := ⟨Tryd.f71.name, by decide, Tryd.func71.trans (congrArg some (by kernel_rfl))⟩
  f18 := ⟨Tryd.f72.name, by decide, Tryd.func72.trans (congrArg some (by kernel_rfl))⟩
  f19 := Tryd.func73.trans (congrArg some (by kernel_rfl))
  f20 := Tryd.func74.trans (congrArg some (by kernel_rfl))
  f30 := ⟨Tryd.f83.name, by decide, Tryd.func83.trans (congrArg some (by kernel_rfl))⟩
  f31 := Tryd.func84.trans (congrArg some (by kernel_rfl))
  f32 := Tryd.func85.trans (congrArg some (by kernel_rfl))
  f33 := ⟨Tryd.f86.name, by decide, Tryd.func86.trans (congrArg some (by kernel_rfl))⟩
  f34 := ⟨Tryd.f87.name, by decide, Tryd.func87.trans (congrArg some (by kernel_rfl))⟩
  f35 := ⟨Tryd.f88.name, by decide, Tryd.func88.trans (congrArg some (by kernel_rfl))⟩
  f40 := ⟨Tryd.f92.name, by decide, Tryd.func92.trans (congrArg some (by kernel_rfl))⟩
  t0 := Tryd.underlying0
  a0 := Tryd.isAgg0
  z0 := Tryd.sizeOf0
  v0 := Tryd.zeroValue0
  t3 := Tryd.underlying3
  a3 := Tryd.isAgg3
  z3 := Tryd.sizeOf3
  v3 := Tryd.zeroValue3
  t4 := Tryd.underlying4
  a4 := Tryd.isAgg4
  z4 := Tryd.sizeOf4
  v4 := Tryd.zeroValue4
  t5 := Tryd.underlying5
  a5 := Tryd.isAgg5
  z5 := Tryd.sizeOf5
  v5 := Tryd.zeroValue5
  t9 := Tryd.underlying9
  a9 := Tryd.isAgg9
  z9 := Tryd.sizeOf9
  v9 := Tryd.zeroValue9
  t22 := Tryd.underlying24
  a22 := Tryd.isAgg24
  z22 := Tryd.sizeOf24
  v22 := Tryd.zeroValue24
  t23 := Tryd.underlying24
  a23 := Tryd.isAgg24
  z23 := Tryd.sizeOf24
  v23 := Tryd.zeroValue24
  t25 := Tryd.underlying3
  a25 := Tryd.isAgg3
  z25 := Tryd.sizeOf3
  v25 := Tryd.zeroValue3
  t32 := Tryd.underlying77
  a32 := Tryd.isAgg77
  z32 := Tryd.sizeOf77
  v32 := Tryd.zeroValue77
  t35 := Tryd.underlying82
  a35 := Tryd.isAgg82
  z35 := Tryd.sizeOf82
  v35 := Tryd.zeroValue82
  t36 := Tryd.underlying83
  a36 := Tryd.isAgg83
  z36 := Tryd.sizeOf83
  v36 := Tryd.zeroValue83
  t41 := Tryd.underlying51
  a41 := Tryd.isAgg51
  z41 := Tryd.sizeOf51
  v41 := Tryd.zeroValue51
  t44 := Tryd.underlying89
  a44 := Tryd.isAgg89
  z44 := Tryd.sizeOf89
  v44 := Tryd.zeroValue89
  t46 := Tryd.underlying69
  a46 := Tryd.isAgg69
  z46 := Tryd.sizeOf69
  v46 := Tryd.zeroValue69
  t53 := Tryd.underlying95
  a53 := Tryd.isAgg95
  z53 := Tryd.sizeOf95
  v53 := Tryd.zeroValue95
  t57 := Tryd.underlying99
  a57 := Tryd.isAgg99
  z57 := Tryd.sizeOf99
  v57 := Tryd.zeroValue99
  t63 := Tryd.underlying103
  a63 := Tryd.isAgg103
  z63 := Tryd.sizeOf103
  v63 := Tryd.zeroValue103
  t64 := Tryd.underlying104
  a64 := Tryd.isAgg104
  z64 := Tryd.sizeOf104
  v64 := Tryd.zeroValue104 }
open Go.RowKit Go.Lib Go.Sort in
/-- slices.Sort -/
theorem Tryd.slices_So (blk off cap : Nat) (zs : List Int) (w : World) (hH : Holds (Value.int .i64) w blk off zs.toArray) (hblk : blk < w.heap.size) (hsz : zs.length < 4611686018427387904) : Calls Tryd.prog 44 #[.slice (some ⟨blk, off, none⟩) zs.length cap] w fun e w' => e = .returned (.tuple #[]) ∧ ∃ n os, w' = grow (putRow (Value.int .i64) (Sort.ahead w n) blk off (zs.mergeSort fun x y => decide (x ≤ y)).toArray) os := AnyM.slices_Sort_int Tryd.laysSo blk off cap zs w hH hblk hsz
def Tryd.laysSF_ren : Go.Shelf.Ren := ⟨fun | 6 => 45 | 15 => 61 | 14 => 62 | 28 => 73 | 29 => 74 | 20 => 75 | 21 => 76 | 22 => 77 | 23 => 78 | 24 => 79 | 25 => 80 | 26 => 81 | 27 => 82 | 46 => 89 | 47 => 84 | 48 => 85 | 49 => 90 | 50 => 91 | 57 => 93 | n => n, fun | 22 => 34 | 24 => 24 | 25 => 64 | 3 => 3 | 39 => 77 | 0 => 0 | 53 => 89 | 55 => 69 | 4 => 4 | 46 => 83 | 45 => 82 | 50 => 51 | 5 => 5 | 9 => 9 | 66 => 95 | 70 => 99 | 76 => 103 | 77 => 104 | n => n, fun | n => n⟩
theorem Tryd.laysSF : Go.Proofs.SlLaysF.n6 Tryd.prog Tryd.laysSF_ren := {
  mixed := by kernel_rfl
  f6 := ⟨Tryd.f45.name, by decide, Tryd.func45.trans (congrArg some (by kernel_rfl))⟩
  f14 := ⟨Tryd.f62.name, by decide, Tryd.func62.trans (congrArg some (by kernel_rfl))⟩
  f15 := Tryd.func61.trans (congrArg some (by kernel_rfl))
  f20 := ⟨Tryd.f75.name, by decide, Tryd.func75.trans (congrArg some (by kernel_rfl))⟩
  f21 := ⟨Tryd.f76.name, by decide, Tryd.func76.trans (congrArg some (by kernel_rfl))⟩
  f22 := ⟨Tryd.f77.name, by decide, Tryd.func77.trans (congrArg some (by kernel_rfl))⟩
  f23 := ⟨Tryd.f78.name, by decide, Tryd.func78.trans (congrArg some (by kernel_rfl))⟩
  f24 := ⟨Tryd.f79.name, by decide, Tryd.func79.trans (congrArg some (by kernel_rfl))⟩
  f25 := ⟨Tryd.f80.name, by decide, Tryd.func80.trans (congrArg some (by kernel_rfl))⟩
  f26 := ⟨Tryd.f81.name, by decide, Tryd.func81.trans (congrArg some (by kernel_rfl))⟩
  f27 := ⟨Tryd.f82.name, by decide, Tryd.func82.trans (congrArg some (by kernel_rfl))⟩
  f28 := Tryd.func73.trans (congrArg some (by kernel_rfl))
  f29 := Tryd.func74.trans (congrArg some (by kernel_rfl))
  f46 := ⟨Tryd.f89.name, by decide, Tryd.func89.trans (congrArg some (by kernel_rfl))⟩
  f47 := Tryd.func84.trans (congrArg some (by kernel_rfl))
  f48 := Tryd.func85.trans (congrArg some (by kernel_rfl))
  f49 := ⟨Tryd.f90.name, by decide, Tryd.func90.trans (congrArg some (by kernel_rfl))⟩
  f50 := ⟨Tryd.f91.name, by decide, Tryd.func91.trans (congrArg some (by kernel_rfl))⟩
  f57 := ⟨Tryd.f93.name, by decide, Tryd.func93.trans (congrArg some (by kernel_rfl))⟩
  t0 := Tryd.underlying0
  a0 := Tryd.isAgg0
  z0 := Tryd.sizeOf0
  v0 := Tryd.zeroValue0
  t3 := Tryd.underlying3
  a3 := Tryd.isAgg3
  z3 := Tryd.sizeOf3
  v3 := Tryd.zeroValue3
  t4 := Tryd.underlying4
  a4 := Tryd.isAgg4
  z4 := Tryd.sizeOf4
  v4 := Tryd.zeroValue4
  t5 := Tryd.underlying5
  a5 := Tryd.isAgg5
  z5 := Tryd.sizeOf5
  v5 := Tryd.zeroValue5
  t9 := Tryd.underlying9
  a9 := Tryd.isAgg9
  z9 := Tryd.sizeOf9
  v9 := Tryd.zeroValue9
  t22 := Tryd.underlying34
  a22 := Tryd.isAgg34
  z22 := Tryd.sizeOf34
  v22 := Tryd.zeroValue34
  a24 := Tryd.isAgg24
  z24 := Tryd.sizeOf24
  t25 := Tryd.underlying64
  a25 := Tryd.isAgg64
  z25 := Tryd.sizeOf64
  v25 := Tryd.zeroValue64
  t39 := Tryd.underlying77
  a39 := Tryd.isAgg77
  z39 := Tryd.sizeOf77
  v39 := Tryd.zeroValue77
  t45 := Tryd.underlying82
  a45 := Tryd.isAgg82
  z45 := Tryd.sizeOf82
  v45 := Tryd.zeroValue82
  t46 := Tryd.underlying83
  a46 := Tryd.isAgg83
  z46 := Tryd.sizeOf83
  v46 := Tryd.zeroValue83
  t50 := Tryd.underlying51
  a50 := Tryd.isAgg51
  z50 := Tryd.sizeOf51
  v50 := Tryd.zeroValue51
  t53 := Tryd.underlying89
  a53 := Tryd.isAgg89
  z53 := Tryd.sizeOf89
  v53 := Tryd.zeroValue89
  t55 := Tryd.underlying69
  a55 := Tryd.isAgg69
  z55 := Tryd.sizeOf69
  v55 := Tryd.zeroValue69
  t66 := Tryd.underlying95
  a66 := Tryd.isAgg95
  z66 := Tryd.sizeOf95
  v66 := Tryd.zeroValue95
  t70 := Tryd.underlying99
  a70 := Tryd.isAgg99
  z70 := Tryd.sizeOf99
  v70 := Tryd.zeroValue99
  t76 := Tryd.underlying103
  a76 := Tryd.isAgg103
  z76 := Tryd.sizeOf103
  v76 := Tryd.zeroValue103
  t77 := Tryd.underlying104
  a77 := Tryd.isAgg104
  z77 := Tryd.sizeOf104
  v77 := Tryd.zeroValue104 }
open Go.RowKit Go.Lib Go.Sort in
/-- slices.SortFunc -/
theorem Tryd.slices_SF {α : Type} [Inhabited α] (enc : α → Value) (h1 : OneCell enc) (cf : α → α → Int) (hO : SWO (ltOf cf)) (g : Nat) (cb : Array Value) (blk off cap : Nat) (d : Array α) (w : World) (eg : ∀ args w, (callFunc g args).run Tryd.prog w = .ok (.enter g args) w) (hcmp : CmpLays1 Tryd.prog g cb enc cf blk off d.size w) (hH : Holds enc w blk off d) (hblk : blk < w.heap.size) (hsz : d.size < 4611686018427387904) : Calls Tryd.prog 45 #[.slice (some ⟨blk, off, none⟩) d.size cap, .func (.func g) #[] cb] w fun e w' => e = .returned (.tuple #[]) ∧ ∃ d' n os, PermIn 0 d.size d d' ∧ SortedIn (ltOf cf) 0 d.size d' ∧ w' = sortWorld enc w blk off n d' os := Any.slices_SortFunc Tryd.laysSF enc h1 cf hO g cb blk off cap d w eg hcmp hH hblk hsz
open Go.RowKit Go.Lib Go.Sort in
/-- slices.SortFunc at no element -/
theorem Tryd.slices_SF0 (p : Option Addr) (cap : Nat) (fv : Value) (w : World) : Calls Tryd.prog 45 #[.slice p 0 cap, fv] w fun e w' => e = .returned (.tuple #[]) ∧ w' = w := AnyF.slices_SortFunc_none { Tryd.laysSF with } p cap fv w
end Go.Proofs
/- Parts: what it calls. -/
namespace Go.Proofs.YtahffafobdiogaaDoor
set_option linter.unusedVariables false
set_option linter.unusedSimpArgs false
open Go.RowKit
namespace gr
/-- a block of the heap is there, of whatever content but of this type -/
theorem sort_any (g cap : Nat) (l : List Nat) (w : World) (hg : g < w.heap.size) (hl : l.length ≤ 4096) (hc : ∀ (j : Nat) (x : Nat), l[j]? = some x → w.cell? ⟨g, j, none⟩ = some (.int .i64 (x : Int)) ∧ w.frozen? ⟨g, j, none⟩ = false) :
    Calls Tryd.prog 44 #[.slice (some ⟨g, 0, none⟩) l.length cap] w fun e w' => e = .returned (.tuple #[]) ∧ (∀ (j : Nat) (x : Nat), (l.mergeSort fun x y => decide (x ≤ y))[j]? = some x → w'.cell? ⟨g, j, none⟩ = some (.int .i64 (x : Int))) ∧ w.heap.size ≤ w'.heap.size ∧ Os w w' ∧ (∀ k, k < w.heap.size → k ≠ g → w'.heap[k]? = w.heap[k]?) ∧ ∀ c t f, w.heap[g]? = some (.cells c t f) → ∃ c', w'.heap[g]? = some (.cells c' t f) := by
  have hH : Sort.Holds (Value.int .i64) w g 0 (l.map fun x : Nat => (x : Int)).toArray := fun j hj => by
    simp only [List.size_toArray, List.length_map] at hj
    obtain ⟨h1, h2⟩ := hc j l[j] (List.getElem?_eq_getElem hj)
    rw [Nat.zero_add]
    refine ⟨?_, h2⟩
    rw [h1, getElem!_pos _ j (by simpa using hj)]
    simp
  have key := Tryd.slices_So g 0 cap (l.map fun x : Nat => (x : Int)) w hH hg (by rw [List.length_map]; omega)
  rw [List.length_map] at key
  refine key.mono ?_
  rintro e w' ⟨he, n, os, rfl⟩
  have hms : ((l.map fun x : Nat => (x : Int)).mergeSort fun x y => decide (x ≤ y)) = (l.mergeSort fun x y => decide (x ≤ y)).map fun x : Nat => (x : Int) := by
    rw [List.map_mergeSort]
    intro a _ b _
    simp
  have hH2 := Sort.holds_grow (Value.int .i64) _ os g 0 ((l.map fun x : Nat => (x : Int)).mergeSort fun x y => decide (x ≤ y)).toArray (by simpa using hg) (Sort.holds_putRow (Value.int .i64) (Sort.ahead w n) g 0 _ ((l.map fun x : Nat => (x : Int)).mergeSort fun x y => decide (x ≤ y)).toArray (Sort.holds_ahead _ w n g 0 _ hH) (by simp))
  refine ⟨he, fun j x hx => ?_, by simp, ⟨rfl, rfl, rfl⟩, fun k hk hkg => ?_, fun c t f hcg => ?_⟩
  · have hj : j < (l.mergeSort fun x y => decide (x ≤ y)).length := by
      rcases Nat.lt_or_ge j (l.mergeSort fun x y => decide (x ≤ y)).length with h | h
      · exact h
      · rw [List.getElem?_eq_none h] at hx; cases hx
    have h3 := (hH2 j (by rw [hms]; simpa using hj)).1
    rw [Nat.zero_add] at h3
    rw [h3, hms, getElem!_pos _ j (by simpa using hj)]
    rw [List.getElem?_eq_getElem hj] at hx
    injection hx with hx
    simp [hx]
  · rw [Sort.heap_grow_old _ os (by simpa using hk)]
    unfold Sort.putRow Sort.mapBlock
    simp only [Array.getElem?_modify, Sort.heap_ahead]
    rw [if_neg (fun e => hkg e.symm)]
  · rw [Sort.heap_grow_old _ os (by simpa using hg)]
    unfold Sort.putRow Sort.mapBlock
    simp only [Array.getElem?_modify, Sort.heap_ahead, if_true, hcg, Option.map_some, Sort.onCells]
    exact ⟨_, rfl⟩
/-- a row in a box: what is appended one by one -/
structure Bx (W : World) (pl B : Nat) (L : List Nat) : Prop where
  fc : ∃ V, W.cell? ⟨pl, 0, none⟩ = some V ∧ W.ownsRow B 3 1 V L.length (vV L)
  ff : W.frozen? ⟨pl, 0, none⟩ = false
  bz : B ≤ W.heap.size
  fit : pl < B
  nl : L = [] → W.cell? ⟨pl, 0, none⟩ = some (.slice none 0 0)
theorem Bx.keep {W W' : World} {pl B : Nat} {L : List Nat} (h : Bx W pl B L) (hb : Below W.heap.size W W') : Bx W' pl B L := by
  obtain ⟨V, h1, h2⟩ := h.fc
  exact ⟨⟨V, (hb.cell (p := ⟨pl, 0, none⟩) (World.block_lt_of_cell? W _ h1)).trans h1, own_keep h2 hb⟩, (hb.frozen (p := ⟨pl, 0, none⟩) (World.block_lt_of_cell? W _ h1)).trans h.ff, Nat.le_trans h.bz hb.size, h.fit, fun e => (hb.cell (p := ⟨pl, 0, none⟩) (World.block_lt_of_cell? W _ h1)).trans (h.nl e)⟩
theorem Bx.kp {S : Nat → Prop} {W W' : World} {pl B : Nat} {L : List Nat} (h : Bx W pl B L) (hk : Kp S W W') (hs : ∀ k, S k → k < B ∧ k ≠ pl) : Bx W' pl B L := by
  obtain ⟨V, h1, h2⟩ := h.fc
  have hp := World.block_lt_of_cell? W _ h1
  exact ⟨⟨V, (World.cell?_of_block (hk.2 pl hp (fun x => (hs _ x).2 rfl))).trans h1, hk.own h2 (fun k x => (hs k x).1)⟩, (World.frozen?_of_block (hk.2 pl hp (fun x => (hs _ x).2 rfl))).trans h.ff, Nat.le_trans h.bz hk.1, h.fit, fun e => (World.cell?_of_block (hk.2 pl hp (fun x => (hs _ x).2 rfl))).trans (h.nl e)⟩
/-- what an append may write: the box, and rows of numbers from B on -/
theorem own_grown_kt {W w3 : World} {B n : Nat} {A : Option Addr} {c : Nat} {xs : List Value} (o : Obj) (h : W.ownsRow B 3 1 (.slice A n c) n xs) (hg : (W.alloc o).grownBy w3 (Value.slice A n c).ownBlock) (T : Nat → Prop) : KT B T W w3 := by
  refine ⟨by have := hg.size; rw [World.size_alloc] at this; omega, fun k ob hk ht hi => ?_, ⟨hg.os, hg.tape, hg.output⟩⟩
  have hkl := (Array.getElem?_eq_some_iff.1 hk).1
  rw [hg.block k (by rw [World.size_alloc]; omega) (fun e => ?_)]
  · exact (Below.heap_alloc W o k hkl).trans hk
  · rcases h.2 with ⟨e1, _⟩ | ⟨g, cap, cur, e1, e2, e3, _⟩
    · injection e1 with e1 _ _
      rw [e1] at e
      cases e
    · injection e1 with e1 _ _
      rw [e1] at e
      simp only [Value.ownBlock, Option.some.injEq] at e
      subst e
      rw [e3] at hk
      injection hk with hk
      rcases hi with hi | hi
      · omega
      · exact hi ⟨_, _, hk.symm⟩
set_option maxRecDepth 100000 in
set_option maxHeartbeats 2000000 in
theorem papp1_any (pl B u : Nat) (L : List Nat) (W : World) (hL : L.length ≤ 4096) (h : Bx W pl B L) :
    Calls Tryd.prog 41 #[.int .i64 u, .pointer (some ⟨pl, 0, none⟩)] W fun e W' => e = .returned (.tuple #[]) ∧ Bx W' pl B (L ++ [u]) ∧ KT B (fun k => k = pl) W W' := by
  obtain ⟨V, hV, hO⟩ := h.fc
  have hff := h.ff
  have hbz := h.bz
  have hfit := h.fit
  have hlt : pl < W.heap.size := World.block_lt_of_cell? W _ hV
  obtain ⟨A, c, rfl⟩ := own_form hO
  obtain ⟨i0, hi, iz, is, ib⟩ := infoI
  have HO := Lib.hid hO
  clear h hO
  go_enter Tryd.func41, Tryd.ntmps41
  go_wp2_with (at_builtin; refine wpList_append_own_at _ rfl _ _ 24 rfl B 3 i0 (.int .i64 0) 1 8 Tryd.underlying24 hi iz is ib rfl (by decide) _ L.length (vV L) rfl (own_keep HO.out (bel_box _)) ⟨W.heap.size, 0, none⟩ 1 1 [.int .i64 (u : Int)] rfl rfl (row1 _ _ _) (one_int _) (by unfold maxLen; omega) (by omega) (by rw [World.size_alloc]; omega) ?_; intro V3 w3 hown3 hgrow3 _ _; obtain ⟨A3, c3, rfl⟩ := own_form hown3; have hkt := own_grown_kt _ HO.out hgrow3 (fun k => k = pl); have hb3 : Below B W w3 := own_below (Below.refl _ _) hbz HO.out hgrow3; have v3 : w3.cell? ⟨pl, 0, none⟩ = some (.slice A L.length c) := (hb3.cell (p := ⟨pl, 0, none⟩) hfit).trans hV; have r3 : w3.frozen? ⟨pl, 0, none⟩ = false := (hb3.frozen (p := ⟨pl, 0, none⟩) hfit).trans hff; have hown3 := Lib.hid hown3; have hb3 := Lib.hid hb3; have hkt := Lib.hid hkt; clear hgrow3)
  refine bodyPost_end (v := .tuple #[]) (results_none rfl _ _ _) rfl ?_
  have hw := hown3.out
  rw [vV_snoc] at hw
  have hk5 : Kp (fun k => k = pl) w3 (w3.setCell ⟨pl, 0, none⟩ (.slice A3 (L.length + 1) c3)) := Kp.set (S := fun k => k = pl) w3 (a := ⟨pl, 0, none⟩) rfl _
  refine ⟨rfl, ⟨⟨_, World.cell?_setCell_same w3 _ _ v3, ?_⟩, by rw [World.frozen?_setCell]; exact r3, by rw [World.size_setCell]; have := hb3.out.size; omega, hfit, fun e => (by simp at e)⟩, hkt.out.trans (.kp hk5)⟩
  rw [show (L ++ [u]).length = L.length + 1 by simp]
  exact hk5.own hw (fun k e => by omega)
set_option maxRecDepth 100000 in
set_option maxHeartbeats 2000000 in
theorem papp2_any (pl B u : Nat) (L : List Nat) (W : World) (hL : L.length ≤ 4096) (h : Bx W pl B L) :
    Calls Tryd.prog 43 #[.int .i64 u, .pointer (some ⟨pl, 0, none⟩)] W fun e W' => e = .returned (.tuple #[]) ∧ Bx W' pl B (L ++ [u]) ∧ KT B (fun k => k = pl) W W' := by
  obtain ⟨V, hV, hO⟩ := h.fc
  have hff := h.ff
  have hbz := h.bz
  have hfit := h.fit
  have hlt : pl < W.heap.size := World.block_lt_of_cell? W _ hV
  obtain ⟨A, c, rfl⟩ := own_form hO
  obtain ⟨i0, hi, iz, is, ib⟩ := infoI
  have HO := Lib.hid hO
  clear h hO
  go_enter Tryd.func43, Tryd.ntmps43
  go_wp2_with (at_builtin; refine wpList_append_own_at _ rfl _ _ 24 rfl B 3 i0 (.int .i64 0) 1 8 Tryd.underlying24 hi iz is ib rfl (by decide) _ L.length (vV L) rfl (own_keep HO.out (bel_box _)) ⟨W.heap.size, 0, none⟩ 1 1 [.int .i64 (u : Int)] rfl rfl (row1 _ _ _) (one_int _) (by unfold maxLen; omega) (by omega) (by rw [World.size_alloc]; omega) ?_; intro V3 w3 hown3 hgrow3 _ _; obtain ⟨A3, c3, rfl⟩ := own_form hown3; have hkt := own_grown_kt _ HO.out hgrow3 (fun k => k = pl); have hb3 : Below B W w3 := own_below (Below.refl _ _) hbz HO.out hgrow3; have v3 : w3.cell? ⟨pl, 0, none⟩ = some (.slice A L.length c) := (hb3.cell (p := ⟨pl, 0, none⟩) hfit).trans hV; have r3 : w3.frozen? ⟨pl, 0, none⟩ = false := (hb3.frozen (p := ⟨pl, 0, none⟩) hfit).trans hff; have hown3 := Lib.hid hown3; have hb3 := Lib.hid hb3; have hkt := Lib.hid hkt; clear hgrow3)
  refine bodyPost_end (v := .tuple #[]) (results_none rfl _ _ _) rfl ?_
  have hw := hown3.out
  rw [vV_snoc] at hw
  have hk5 : Kp (fun k => k = pl) w3 (w3.setCell ⟨pl, 0, none⟩ (.slice A3 (L.length + 1) c3)) := Kp.set (S := fun k => k = pl) w3 (a := ⟨pl, 0, none⟩) rfl _
  refine ⟨rfl, ⟨⟨_, World.cell?_setCell_same w3 _ _ v3, ?_⟩, by rw [World.frozen?_setCell]; exact r3, by rw [World.size_setCell]; have := hb3.out.size; omega, hfit, fun e => (by simp at e)⟩, hkt.out.trans (.kp hk5)⟩
  rw [show (L ++ [u]).length = L.length + 1 by simp]
  exact hk5.own hw (fun k e => by omega)
end gr
end Go.Proofs.YtahffafobdiogaaDoor
/- slices.Backward: the iterator. -/
namespace Go.Proofs.YtahffafobdiogaaDoor
set_option linter.unusedVariables false
set_option linter.unusedSimpArgs false
open Go.RowKit Go.Shelf
attribute [local go_sem] Oper.semAt_some
namespace gr
/-- the blocks of cells below N but for those of S are as they were -/
structure Kn (N : Nat) (S : Nat → Prop) (W W' : World) : Prop where
  size : W.heap.size ≤ W'.heap.size
  cells : ∀ (k : Nat) (o : Obj), k < N → ¬ S k → W.heap[k]? = some o → o.isCells = true → W'.heap[k]? = some o
theorem Kn.refl (N : Nat) (S : Nat → Prop) (W : World) : Kn N S W W := ⟨Nat.le_refl _, fun _ _ _ _ h _ => h⟩
theorem Kn.trans {N : Nat} {S : Nat → Prop} : ∀ {A B C : World}, Kn N S A B → Kn N S B C → Kn N S A C := fun h g => ⟨Nat.le_trans h.1 g.1, fun k o hk hs ho hc => g.2 k o hk hs (h.2 k o hk hs ho hc) hc⟩
theorem Kn.put {N : Nat} {S : Nat → Prop} {M : Nat} : ∀ (W : World) (l : Nat) (o o' : Obj), M ≤ l → W.heap[l]? = some o → o.isCells = false → o.isWalk = false → Kn N S W (W.putObj l o') := fun W l o o' _ ho hc _ => by
  refine ⟨by simp, fun k q _ _ hq hqc => ?_⟩
  rw [World.putObj_heap_other (fun e => by subst e; rw [ho] at hq; injection hq with hq; subst hq; rw [hc] at hqc; cases hqc)]
  exact hq
theorem Kn.cell {N : Nat} {S : Nat → Prop} {W W' : World} (h : Kn N S W W') {a : Addr} {v : Value} (hc : W.cell? a = some v) (hN : a.block < N) (hs : ¬ S a.block) : W'.cell? a = some v := by
  obtain ⟨o, ho, hk⟩ := cells_of_cell hc
  exact (World.cell?_of_block ((h.2 _ o hN hs ho hk).trans ho.symm)).trans hc
/-- what comes, from the last on: its place and itself, with what is known of it -/
def bk (zs : List Nat) (Q : Nat → Prop) (hQ : ∀ j, Q (zs.getD j 0)) (k : Nat) : List {p : Nat × Nat // Q p.2} := (List.range k).map fun j => ⟨(zs.length - 1 - j, zs.getD (zs.length - 1 - j) 0), hQ _⟩
theorem bk_succ (zs : List Nat) (Q : Nat → Prop) (hQ : ∀ j, Q (zs.getD j 0)) (k : Nat) : bk zs Q hQ (k + 1) = bk zs Q hQ k ++ [⟨(zs.length - 1 - k, zs.getD (zs.length - 1 - k) 0), hQ _⟩] := by
  unfold bk
  rw [List.range_succ, List.map_append]
  rfl
theorem bk_len (zs : List Nat) (Q : Nat → Prop) (hQ : ∀ j, Q (zs.getD j 0)) (k : Nat) : (bk zs Q hQ k).length = k := by simp [bk]
set_option maxHeartbeats 400000 in
theorem backw_any (A : Option Addr) (n c : Nat) (w : World) : Calls Tryd.prog 42 #[.slice A n c] w fun e w' => e = .returned (.func (.func 59) #[] #[.pointer (some ⟨w.heap.size, 0, none⟩)]) ∧ w' = w.alloc (.cells #[.slice A n c] 24) := by
  go_enter Tryd.func42, Tryd.ntmps42
  go_wp2
  go_ret
  exact ⟨rfl, rfl⟩
set_option maxRecDepth 100000 in
set_option maxHeartbeats 4000000 in
theorem backw_stops (Q : Nat → Prop) (n Bs N : Nat) (S : Nat → Prop) (A : Option Addr) (c : Nat) (zs : List Nat) (hQ : ∀ j, Q (zs.getD j 0)) (hz : zs.length ≤ 4096) (w : World) (hBs : Bs < w.heap.size) (hN : N ≤ w.heap.size) (hBN : Bs < N) (hBS : ¬ S Bs) (hc : w.cell? ⟨Bs, 0, none⟩ = some (.slice A zs.length c))
    (hr : ∀ (j x : Nat), zs[j]? = some x → ∃ ad, A = some ad ∧ ad.block < N ∧ ¬ S ad.block ∧ w.cell? (ad.add j) = some (.int .i64 (x : Int))) :
    SeqStopsK Fence.wide n Tryd.prog 59 #[.pointer (some ⟨Bs, 0, none⟩)] (fun x : {p : Nat × Nat // Q p.2} => #[.int .i64 ((x.1.1 : Nat) : Int), .int .i64 ((x.1.2 : Nat) : Int)]) (Kn N S) (fun ys => ys = bk zs Q hQ zs.length) (fun _ => True) zs.length w := by
  intro l J Jx W hW hJ _ hY h0
  have hdd : ∀ k : Nat, (Fence.wide.depth.isSome = true → 1 ≤ k) := fun k h => by cases h
  have hcW := (hW.cell (p := ⟨Bs, 0, none⟩) hBs).trans hc
  have HR := Lib.hid (fun (j x : Nat) (h : zs[j]? = some x) => by
    obtain ⟨ad, h1, h2, h3, h4⟩ := hr j x h
    exact (⟨ad, h1, h2, h3, (hW.cell (p := ad.add j) (by rw [add_block]; omega)).trans h4⟩ : ∃ ad, A = some ad ∧ ad.block < N ∧ ¬ S ad.block ∧ W.cell? (ad.add j) = some (.int .i64 (x : Int))))
  clear hr hc hW
  refine callsIn_of_wp Tryd.func59 rfl trivial ?_ rfl
  simp only [Tryd.ntmps59, List.append_toArray, List.size_toArray, List.length_append, List.length_cons, List.length_nil, Nat.reduceAdd, Nat.reduceSub, Array.replicate_succ, Array.replicate_zero, List.push_toArray, List.nil_append, List.cons_append]
  obtain ⟨m, hm⟩ : ∃ m, zs.length = m := ⟨_, rfl⟩
  rw [hm] at hcW hY hz
  have HM := Lib.hid hm
  clear hm
  gi_wp2
  gi_loopw [3] (fun i wr => ∃ k r : Nat, k + r = m ∧ i = .int .i64 ((r : Int) - 1) ∧ J (bk zs Q hQ k) wr ∧ Kn N S W wr) (fun i _ => (intOf i + 1).toNat)
  case atStart => exact ⟨0, m, by omega, rfl, h0, Kn.refl _ _ _⟩
  case round =>
    obtain ⟨k, r, hkr, rfl, hJs, hkn⟩ := hrel
    have hcb := hkn.cell hcW hBN hBS
    cases r with
    | zero =>
      have hkm : k = m := by omega
      subst hkm
      gi_wp2
      go_end0
      exact ⟨⟨_, rfl⟩, .inl ⟨_, rfl, by rw [HM.out]; exact hJs⟩⟩
    | succ r =>
      have hri : zs[r]? = some (zs.getD r 0) := by
        rw [List.getElem?_eq_getElem (by rw [HM.out]; omega), List.getD, List.getElem?_eq_getElem (by rw [HM.out]; omega)]
        rfl
      obtain ⟨ad, rfl, g1, g2, g3⟩ := HR.out r _ hri
      have hcc := hkn.cell g3 (by rw [add_block]; exact g1) (by rw [add_block]; exact g2)
      have hy0 := hY _ ⟨(r, zs.getD r 0), hQ r⟩ wr hJs (by rw [bk_len]; omega)
      have e1 : bk zs Q hQ k ++ [⟨(r, zs.getD r 0), hQ r⟩] = bk zs Q hQ (k + 1) := by
        rw [bk_succ]
        have e0 : zs.length - 1 - k = r := by rw [HM.out]; omega
        subst e0
        rfl
      rw [e1] at hy0
      obtain ⟨fn, tmps, assign, body, hy, hR⟩ := hy0
      dsimp only at hy
      have x1 : ((r + 1 : Nat) : Int) - 1 = (r : Int) := by omega
      have x2 : (r : Int) < (m : Int) := by omega
      have x3 : (0 : Int) ≤ (r : Int) := by omega
      rw [x1]
      have HX1 := Lib.hid x1
      clear x1
      clear e1 hri g3 hY HR
      generalize zs.getD r 0 = y at *
      gi_wp2
      refine ⟨fun h => (by cases h), hR.mono ?_⟩
      rintro e W3 (⟨rfl, hJ3, hk3⟩ | ⟨rfl, hJx3⟩)
      · gi_wp2
        go_roundw
        case rel => exact ⟨k + 1, r, by omega, rfl, hJ3, hkn.trans hk3⟩
        case measure => simp [intOf] <;> omega
      · gi_wp2
        refine bodyPost_ret (results_none rfl _ _ _) rfl ?_
        exact ⟨⟨_, rfl⟩, .inr ⟨_, trivial, hJx3⟩⟩
end gr
end Go.Proofs.YtahffafobdiogaaDoor
/- Parts: what the second search finds: plain. -/
namespace Go.Proofs.YtahffafobdiogaaDoor
set_option linter.unusedVariables false
set_option linter.unusedSimpArgs false
open Go.RowKit
namespace gr
/-- what the search along the edges leaves -/
structure Lft (E : Nat → Nat → Bool) (n : Nat) (L : List Nat) : Prop where
  mem : ∀ x, x ∈ L ↔ x < n
  nd : L.Nodup
  hd : ∀ b x, Ahd L b x → Rch (nbs E n) b x → ∃ z, Mut (nbs E n) b z ∧ (z = x ∨ Ahd L x z)
theorem lft_of {E : Nat → Nat → Bool} {n : Nat} {S L : List Nat} (h : Dfs (nbs E n) (List.range n) [] [] S L) : Lft E n L := by
  obtain ⟨h1, h2, h3⟩ := whole h
  obtain ⟨_, _, h4⟩ := dfs_inv (n := n) nbs_lt h (fun x hx => List.mem_range.1 hx) (fun x hx => (by cases hx)) List.nodup_nil (fun x hx => (by cases hx))
  refine ⟨fun x => ⟨fun hx => h4 x ((h1 x).1 hx), fun hx => (h1 x).2 (h.sub.2 x (List.mem_range.2 hx))⟩, h2, h3⟩
theorem Lft.len {E : Nat → Nat → Bool} {n : Nat} {L : List Nat} (h : Lft E n L) : L.length = n := by
  have h1 := nodup_len' L (List.range n) h.nd fun x hx => List.mem_range.2 ((h.mem x).1 hx)
  have h2 := nodup_len' (List.range n) L List.nodup_range fun x hx => (h.mem x).2 (List.mem_range.1 hx)
  rw [List.length_range] at h1 h2
  omega
/-- the state of the second search: what is behind is B, seen are T, the parts are ps -/
structure Pst (E : Nat → Nat → Bool) (n : Nat) (B T : List Nat) (ps : List (List Nat)) : Prop where
  seen : ∀ x, x ∈ T ↔ ∃ z ∈ B, Mut (nbs E n) x z
  parts : ∀ l, l ∈ ps ↔ ∃ v ∈ B, l = cmp (nbs E n) n v
  diff : ps.Pairwise (fun a b => a.headD 0 ≠ b.headD 0)
theorem Pst.nil (E : Nat → Nat → Bool) (n : Nat) : Pst E n [] [] [] := ⟨fun x => (by simp), fun l => (by simp), List.Pairwise.nil⟩
theorem Pst.skip {E : Nat → Nat → Bool} {n v : Nat} {B T : List Nat} {ps : List (List Nat)} (h : Pst E n B T ps) (hv : v ∈ T) : Pst E n (v :: B) T ps := by
  obtain ⟨z, hz, hm⟩ := (h.seen v).1 hv
  refine ⟨fun x => ?_, fun l => ?_, h.diff⟩
  · rw [h.seen x]
    constructor
    · rintro ⟨y, hy, hm2⟩
      exact ⟨y, List.mem_cons_of_mem _ hy, hm2⟩
    · rintro ⟨y, hy, hm2⟩
      rcases List.mem_cons.1 hy with rfl | hy
      · exact ⟨z, hz, hm2.trans hm⟩
      · exact ⟨y, hy, hm2⟩
  · rw [h.parts l]
    constructor
    · rintro ⟨y, hy, e⟩
      exact ⟨y, List.mem_cons_of_mem _ hy, e⟩
    · rintro ⟨y, hy, e⟩
      rcases List.mem_cons.1 hy with rfl | hy
      · exact ⟨z, hz, e.trans (cmp_eq hm)⟩
      · exact ⟨y, hy, e⟩
theorem cmp_cons {s : Nat → List Nat} {n v : Nat} (hv : v < n) : ∃ a r, cmp s n v = a :: r ∧ a < n ∧ Mut s v a := by
  have hm : v ∈ cmp s n v := cmp_mem.2 ⟨hv, Mut.refl s v⟩
  cases hc : cmp s n v with
  | nil => rw [hc] at hm; cases hm
  | cons a r =>
    have : a ∈ cmp s n v := by rw [hc]; exact List.mem_cons_self
    exact ⟨a, r, rfl, cmp_mem.1 this⟩
theorem cmp_head {s : Nat → List Nat} {n u v : Nat} (hu : u < n) (hv : v < n) (h : (cmp s n u).headD 0 = (cmp s n v).headD 0) : Mut s u v := by
  obtain ⟨a, r, e1, _, h1⟩ := cmp_cons (s := s) hu
  obtain ⟨b, q, e2, _, h2⟩ := cmp_cons (s := s) hv
  rw [e1, e2] at h
  simp only [List.headD_cons] at h
  subst h
  exact h1.trans h2.symm
/-- the members of a component, sorted -/
theorem sorted_cmp {E : Nat → Nat → Bool} {n v : Nat} {M : List Nat} (hn : M.Nodup) (hlt : ∀ x, Mut (nbs E n) x v → x < n) (hm : ∀ x, x ∈ M ↔ Mut (nbs E n) x v) : (M.mergeSort fun x y => decide (x ≤ y)) = cmp (nbs E n) n v := by
  have hp := List.mergeSort_perm M (fun x y => decide (x ≤ y))
  refine asc_ext id _ _ ?_ (cmp_asc _ n v) fun x => ?_
  · have h1 : (M.mergeSort fun x y => decide (x ≤ y)).Pairwise fun a b => decide (a ≤ b) = true := List.pairwise_mergeSort (fun a b c h1 h2 => by simp at *; omega) (fun a b => by simp; omega) M
    have h2 : (M.mergeSort fun x y => decide (x ≤ y)).Nodup := hp.nodup_iff.2 hn
    refine (h1.and h2).imp fun {a b} h => ?_
    simp only [decide_eq_true_eq] at h
    simp only [id]
    omega
  · rw [hp.mem_iff, hm, cmp_mem]
    exact ⟨fun h => ⟨hlt x h, h.symm⟩, fun h => h.2.symm⟩
theorem Pst.step {E E' : Nat → Nat → Bool} (hE' : ∀ u x, E' u x = E x u) {n v : Nat} (hEn : ∀ u x, E u x = true → x < n) (hEm : ∀ u x, E u x = true → u < n) {L A B T T' M : List Nat} {ps : List (List Nat)} (hL : Lft E n L) (hs : L = A ++ v :: B) (h : Pst E n B T ps) (hv : v ∉ T) (hd : Dfs (nbs E' n) [v] T [] T' M) :
    Pst E n (v :: B) T' (ps ++ [M.mergeSort fun x y => decide (x ≤ y)]) ∧ M ≠ [] ∧ (M.mergeSort fun x y => decide (x ≤ y)) = cmp (nbs E n) n v := by
  have hvn : v < n := (hL.mem v).1 (by rw [hs]; simp)
  have hrl : ∀ x, Rch (nbs E n) x v → x < n := fun x hr => by
    cases hr with
    | refl => exact hvn
    | step h1 _ => exact hEm _ _ (nbs_mem.1 h1).2
  obtain ⟨g1, M', hM, g2, g3⟩ := part_step (s := nbs E n) (t := nbs E' n) (fun x y hy => nbs_mem.2 ⟨hEm _ _ (nbs_mem.1 hy).2, (hE' y x).trans (nbs_mem.1 hy).2⟩) (fun x y hx => nbs_mem.2 ⟨hEn x y ((hE' y x).symm.trans (nbs_mem.1 hx).2), (hE' y x).symm.trans (nbs_mem.1 hx).2⟩) hs hL.hd hL.nd (fun x hr => (hL.mem x).2 (hrl x hr)) h.seen hv hd
  rw [List.nil_append] at hM
  subst hM
  have hsc := sorted_cmp g2 (fun x hx => hrl x hx.1) g3
  have hBn : ∀ z ∈ B, z < n := fun z hz => (hL.mem z).1 (by rw [hs]; simp [hz])
  refine ⟨⟨fun x => ?_, fun l => ?_, ?_⟩, ?_, hsc⟩
  · rw [g1 x, h.seen x]
    constructor
    · rintro (⟨z, hz, hm⟩ | hm)
      · exact ⟨z, List.mem_cons_of_mem _ hz, hm⟩
      · exact ⟨v, List.mem_cons_self, hm⟩
    · rintro ⟨z, hz, hm⟩
      rcases List.mem_cons.1 hz with rfl | hz
      · exact .inr hm
      · exact .inl ⟨z, hz, hm⟩
  · rw [List.mem_append, List.mem_singleton, h.parts l, hsc]
    constructor
    · rintro (⟨z, hz, e⟩ | e)
      · exact ⟨z, List.mem_cons_of_mem _ hz, e⟩
      · exact ⟨v, List.mem_cons_self, e⟩
    · rintro ⟨z, hz, e⟩
      rcases List.mem_cons.1 hz with rfl | hz
      · exact .inr e
      · exact .inl ⟨z, hz, e⟩
  · rw [List.pairwise_append]
    refine ⟨h.diff, by simp, fun a ha b hb e => ?_⟩
    rw [List.mem_singleton, hsc] at hb
    subst hb
    obtain ⟨z, hz, rfl⟩ := (h.parts a).1 ha
    exact hv ((h.seen v).2 ⟨z, hz, (cmp_head (hBn z hz) hvn e).symm⟩)
  · intro e
    have := (g3 v).2 (Mut.refl _ v)
    rw [e] at this
    cases this
/-- all parts, sorted by their least vertices -/
theorem Pst.done {E : Nat → Nat → Bool} {n : Nat} {L T : List Nat} {ps qs : List (List Nat)} (hL : Lft E n L) (h : Pst E n L T ps) (hp : qs.Perm ps) (hs : qs.Pairwise fun a b => a.headD 0 ≤ b.headD 0) : qs = prts (nbs E n) n := by
  refine prts_uniq ?_ fun l => ?_
  · have hd : qs.Pairwise fun a b => a.headD 0 ≠ b.headD 0 := (hp.pairwise_iff (fun {a b} h => Ne.symm h)).2 h.diff
    exact (hs.and hd).imp fun {a b} h => by have := h.1; have := h.2; omega
  · rw [hp.mem_iff, h.parts l]
    constructor
    · rintro ⟨v, hv, e⟩
      exact ⟨v, (hL.mem v).1 hv, e⟩
    · rintro ⟨v, hv, e⟩
      exact ⟨v, (hL.mem v).2 hv, e⟩
end gr
end Go.Proofs.YtahffafobdiogaaDoor
/- Parts: its searches, what its second loop keeps. -/
namespace Go.Proofs.YtahffafobdiogaaDoor
set_option linter.unusedVariables false
set_option linter.unusedSimpArgs false
open Go.RowKit
namespace gr
theorem pwalk (fn lb n sb pl B : Nat) (eg : ∀ args w, (callFunc fn args).run Tryd.prog w = .ok (.enter fn args) w) (hpa : ∀ u L W, L.length ≤ 4096 → Bx W pl B L → Calls Tryd.prog fn #[.int .i64 ((u : Nat) : Int), .pointer (some ⟨pl, 0, none⟩)] W fun e W' => e = .returned (.tuple #[]) ∧ Bx W' pl B (L ++ [u]) ∧ KT B (fun k => k = pl) W W')
    (E : Nat → Nat → Bool) (hn : n ≤ 4096) (hEn : ∀ u w, E u w = true → w < n) (v : Nat) (S L : List Nat) (W : World) (hv : v < n) (hL : LkE W lb n E) (hS : Seen W sb n S) (hB : Bx W pl B L) (hT : Tz W) (hin : (∀ x ∈ L, x ∈ S) ∧ L.Nodup ∧ ∀ x ∈ S, x < n)
    (hsB : sb < B) (hsp : sb ≠ pl) (hsl : ¬ (lb ≤ sb ∧ sb ≤ lb + n)) (hpl : ¬ (lb ≤ pl ∧ pl ≤ lb + n)) (htB : tzB < B) (htp : tzB ≠ pl) (hts : tzB ≠ sb) :
    Calls Tryd.prog 38 #[sl lb n, .int .i64 v, sl sb (sizeW n), .func (.func fn) #[] #[.pointer (some ⟨pl, 0, none⟩)]] W fun e W' => e = .returned (.tuple #[]) ∧ ∃ S' L', Dfs (nbs E n) [v] S L S' L' ∧ Seen W' sb n S' ∧ Bx W' pl B L' ∧ KT B (fun k => k = pl ∨ k = sb) W W' := by
  have hplB := hB.fit
  refine (walk_any lb n sb B fn _ eg E hEn hn (fun k => k = pl) (fun L W => Bx W pl B L ∧ Tz W) (fun k hk => by omega) hsB (fun e => hsp e) (fun k h1 h2 e => hpl ⟨by omega, by omega⟩) hsl
    (fun l W W' ⟨g1, g2⟩ hb => ⟨g1.keep hb, g2.keep hb⟩)
    (fun l W i x ⟨g1, g2⟩ => ⟨g1.kp (Kp.set (S := fun k => k = sb) W (a := ⟨sb, i, none⟩) rfl x) (fun k e => ⟨by omega, fun e2 => hsp (by omega)⟩), g2.kp (Kp.set (S := fun k => k = sb) W (a := ⟨sb, i, none⟩) rfl x) (fun e => hts e)⟩)
    (fun l W h => h.2) ?_ (uns n S) v S L W (Nat.le_refl _) hv hL hS ⟨hB, hT⟩ hB.bz hin).mono ?_
  · rintro l u U hu hnd hlt ⟨g1, g2⟩ hBz
    have hlen : l.length ≤ 4096 := by
      have := nodup_len' _ (List.range n) hnd fun x hx => List.mem_range.2 (hlt x hx)
      rw [List.length_range, List.length_append, List.length_singleton] at this
      omega
    refine (hpa u l U hlen g1).mono ?_
    rintro e U' ⟨he, q1, q2⟩
    refine ⟨he, ⟨q1, fun j hj => ?_⟩, q2⟩
    have hc := g2 j hj
    obtain ⟨o, ho, hk⟩ := cells_of_cell hc
    exact (World.cell?_of_block ((q2.2 tzB o ho (fun e => htp e) (.inl htB)).trans ho.symm)).trans hc
  · rintro e W' ⟨he, S', L', h1, h2, ⟨h3, _⟩, h4⟩
    exact ⟨he, S', L', h1, h2, h3, h4⟩
/-- a part: where its row lies, its vertices, its capacity -/
def encP (e : Nat × List Nat × Nat) : Value := .slice (some ⟨e.1, 0, none⟩) e.2.1.length e.2.2
/-- what the second loop keeps -/
structure PI (W : World) (lb n sb ps pb pp N : Nat) (E : Nat → Nat → Bool) (T : List Nat) (es : List (Nat × List Nat × Nat)) : Prop where
  lk : LkE W lb n E
  tz : Tz W
  bc : W.cell? ⟨pb, 0, none⟩ = some (sl lb n)
  sc : W.cell? ⟨ps, 0, none⟩ = some (sl sb (sizeW n))
  sn : Seen W sb n T
  pc : ∃ V, W.cell? ⟨pp, 0, none⟩ = some V ∧ W.ownsRow N 24 1 V es.length (es.map encP)
  pf : W.frozen? ⟨pp, 0, none⟩ = false
  en : ∀ e ∈ es, N ≤ e.1 ∧ (∃ cs f, W.heap[e.1]? = some (.cells cs 3 f)) ∧ ∀ (j x : Nat), e.2.1[j]? = some x → W.cell? ⟨e.1, j, none⟩ = some (.int .i64 (x : Int))
  bz : N ≤ W.heap.size
  fit : tzB < N ∧ lb + n < N ∧ sb < N ∧ ps < N ∧ pb < N ∧ pp < N ∧ sb ≠ ps ∧ sb ≠ pb ∧ sb ≠ pp ∧ sb ≠ tzB ∧ ¬ (lb ≤ sb ∧ sb ≤ lb + n) ∧ pp ≠ tzB ∧ pp ≠ ps ∧ pp ≠ pb ∧ ¬ (lb ≤ pp ∧ pp ≤ lb + n)
theorem Blk.cells {W : World} {b : Nat} {t : TypeId} {xs : List Value} (h : Blk W b t xs) {W' : World} (hk : ∀ o, W.heap[b]? = some o → o.isCells = true → W'.heap[b]? = some o) : Blk W' b t xs := hk _ h rfl
/-- all cells kept but those of the set -/
theorem PI.to {W W' : World} {lb n sb ps pb pp N : Nat} {E : Nat → Nat → Bool} {T T' : List Nat} {es : List (Nat × List Nat × Nat)} (h : PI W lb n sb ps pb pp N E T es) (hz : W.heap.size ≤ W'.heap.size) (hk : ∀ (k : Nat) (o : Obj), k ≠ sb → W.heap[k]? = some o → o.isCells = true → W'.heap[k]? = some o) (hs : Seen W' sb n T') : PI W' lb n sb ps pb pp N E T' es := by
  obtain ⟨f1, f2, f3, f4, f5, f6, f7, f8, f9, f10, f11, f12, f13, f14, f15⟩ := h.fit
  have hcell : ∀ (b i : Nat) (v : Value), b ≠ sb → W.cell? ⟨b, i, none⟩ = some v → W'.cell? ⟨b, i, none⟩ = some v ∧ W'.frozen? ⟨b, i, none⟩ = W.frozen? ⟨b, i, none⟩ := fun b i v hb hv => by
    obtain ⟨o, ho, hc⟩ := cells_of_cell hv
    have e : W'.heap[b]? = W.heap[b]? := (hk b o hb ho hc).trans ho.symm
    exact ⟨(World.cell?_of_block e).trans hv, World.frozen?_of_block e⟩
  obtain ⟨wss, hl1, hl2⟩ := h.lk.ex
  obtain ⟨V, hV, hO⟩ := h.pc
  refine ⟨⟨wss, ⟨hl1.row.cells fun o => hk _ o (fun e => f11 (by omega)), fun v hv => (hl1.sets v hv).cells fun o => hk _ o (fun e => f11 (by omega))⟩, hl2⟩,
    fun j hj => (hcell _ _ _ (fun e => f10 e.symm) (h.tz j hj)).1, (hcell _ _ _ (Ne.symm f8) h.bc).1, (hcell _ _ _ (Ne.symm f7) h.sc).1, hs, ⟨V, (hcell _ _ _ (Ne.symm f9) hV).1, hO.1, hO.2.imp id fun ⟨g, cap, cur, e1, e2, e3, r⟩ => ⟨g, cap, cur, e1, e2, hk g _ (fun e => by omega) e3 rfl, r⟩⟩, (hcell _ _ _ (Ne.symm f9) hV).2.trans h.pf,
    fun e he => ?_, Nat.le_trans h.bz hz, h.fit⟩
  obtain ⟨g1, ⟨cs, f, g2⟩, g3⟩ := h.en e he
  exact ⟨g1, ⟨cs, f, hk _ _ (fun e => by omega) g2 rfl⟩, fun j x hx => (hcell _ _ _ (fun e => by omega) (g3 j x hx)).1⟩
theorem PI.same {W W' : World} {lb n sb ps pb pp N : Nat} {E : Nat → Nat → Bool} {T : List Nat} {es : List (Nat × List Nat × Nat)} (h : PI W lb n sb ps pb pp N E T es) (hz : W.heap.size ≤ W'.heap.size) (hk : ∀ (k : Nat) (o : Obj), W.heap[k]? = some o → o.isCells = true → W'.heap[k]? = some o) : PI W' lb n sb ps pb pp N E T es := by
  obtain ⟨ws, h1, h2⟩ := h.sn
  exact h.to hz (fun k o _ => hk k o) ⟨ws, h1.cells fun o => hk _ o, h2⟩
/-- one more part: its slice was appended to the row of parts -/
theorem PI.push {W w3 : World} {lb n sb ps pb pp N g c : Nat} {l : List Nat} {E : Nat → Nat → Bool} {T : List Nat} {es : List (Nat × List Nat × Nat)} (h : PI W lb n sb ps pb pp N E T es) (o : Obj) {V V3 : Value} (hV : W.cell? ⟨pp, 0, none⟩ = some V) (hO : W.ownsRow N 24 1 V es.length (es.map encP)) (hg : (W.alloc o).grownBy w3 V.ownBlock) (hO3 : w3.ownsRow N 24 1 V3 (es.length + 1) (es.map encP ++ [encP (g, l, c)]))
    (hN : N ≤ g) (hgc : ∃ cs f, W.heap[g]? = some (.cells cs 3 f)) (hgl : ∀ (j x : Nat), l[j]? = some x → W.cell? ⟨g, j, none⟩ = some (.int .i64 (x : Int))) : PI (w3.setCell ⟨pp, 0, none⟩ V3) lb n sb ps pb pp N E T (es ++ [(g, l, c)]) ∧ (∀ (k : Nat) (ob : Obj), k < N → k ≠ pp → W.heap[k]? = some ob → (w3.setCell ⟨pp, 0, none⟩ V3).heap[k]? = some ob) ∧ (∀ (k : Nat) (ob : Obj), ob.isCells = false → W.heap[k]? = some ob → (w3.setCell ⟨pp, 0, none⟩ V3).heap[k]? = some ob) ∧ W.heap.size ≤ w3.heap.size ∧ Os W w3 := by
  obtain ⟨f1, f2, f3, f4, f5, f6, f7, f8, f9, f10, f11, f12, f13, f14, f15⟩ := h.fit
  have hown : ∀ k (ob : Obj), W.heap[k]? = some ob → (∀ cs f, ob ≠ .cells cs 24 f) ∨ k < N → w3.heap[k]? = some ob := fun k ob hk hi => by
    have hkl := (Array.getElem?_eq_some_iff.1 hk).1
    rw [hg.block k (by rw [World.size_alloc]; omega) (fun e => ?_)]
    · exact (Below.heap_alloc W o k hkl).trans hk
    · rcases hO.2 with ⟨e1, _⟩ | ⟨g', cap, cur, e1, e2, e3, _⟩
      · rw [e1] at e; cases e
      · rw [e1] at e
        simp only [Value.ownBlock, Option.some.injEq] at e
        subst e
        rw [e3] at hk
        injection hk with hk
        rcases hi with hi | hi
        · exact hi _ _ hk.symm
        · omega
  have hz3 : W.heap.size ≤ w3.heap.size := by have := hg.size; rw [World.size_alloc] at this; omega
  have hlow : ∀ k (ob : Obj), k ≠ pp → W.heap[k]? = some ob → (∀ cs f, ob ≠ .cells cs 24 f) ∨ k < N → (w3.setCell ⟨pp, 0, none⟩ V3).heap[k]? = some ob := fun k ob hk ho hi => (Below.heap_setCell _ _ _ _ hk).trans (hown k ob ho hi)
  have hcell : ∀ (b i : Nat) (v : Value), b < N → b ≠ pp → W.cell? ⟨b, i, none⟩ = some v → (w3.setCell ⟨pp, 0, none⟩ V3).cell? ⟨b, i, none⟩ = some v := fun b i v hb hp hv => by
    obtain ⟨ob, ho, hc⟩ := cells_of_cell hv
    exact (World.cell?_of_block ((hlow b ob hp ho (.inr hb)).trans ho.symm)).trans hv
  obtain ⟨wss, hl1, hl2⟩ := h.lk.ex
  obtain ⟨ws, hs1, hs2⟩ := h.sn
  have hppW := World.block_lt_of_cell? W _ hV
  have hpc3 : w3.cell? ⟨pp, 0, none⟩ = some V := by
    obtain ⟨ob, ho, hc⟩ := cells_of_cell hV
    exact (World.cell?_of_block ((hown pp ob ho (.inr f6)).trans ho.symm)).trans hV
  have hpf3 : w3.frozen? ⟨pp, 0, none⟩ = false := by
    obtain ⟨ob, ho, hc⟩ := cells_of_cell hV
    exact (World.frozen?_of_block ((hown pp ob ho (.inr f6)).trans ho.symm)).trans h.pf
  have hV3 : ∃ A c', V3 = .slice A (es.length + 1) c' := own_form hO3
  refine ⟨⟨⟨wss, ⟨hl1.row.to ((hlow _ _ (fun e => f15 (by omega)) hl1.row (.inr (by omega))).trans hl1.row.symm), fun v hv => (hl1.sets v hv).to ((hlow _ _ (fun e => f15 (by omega)) (hl1.sets v hv) (.inr (by omega))).trans (hl1.sets v hv).symm)⟩, hl2⟩,
    fun j hj => hcell _ _ _ f1 (fun e => f12 e.symm) (h.tz j hj), hcell _ _ _ f5 (fun e => f14 e.symm) h.bc, hcell _ _ _ f4 (fun e => f13 e.symm) h.sc, ⟨ws, hs1.to ((hlow _ _ f9 hs1 (.inr f3)).trans hs1.symm), hs2⟩, ⟨V3, World.cell?_setCell_same w3 _ _ hpc3, ?_⟩, by rw [World.frozen?_setCell]; exact hpf3, fun e he => ?_, by rw [World.size_setCell]; have := h.bz; omega, h.fit⟩,
    fun k ob hk hp ho => hlow k ob hp ho (.inr hk), fun k ob hc ho => hlow k ob (fun e => ?_) ho (.inl fun cs f e => by rw [e] at hc; cases hc), hz3, ⟨hg.os, hg.tape, hg.output⟩⟩
  · have hk5 : Kp (fun k => k = pp) w3 (w3.setCell ⟨pp, 0, none⟩ V3) := Kp.set (S := fun k => k = pp) w3 (a := ⟨pp, 0, none⟩) rfl _
    have h5 := hk5.own hO3 (fun k e => by omega)
    rw [show (es ++ [(g, l, c)]).length = es.length + 1 by simp, List.map_append]
    exact h5
  · have hkeep : ∀ g', N ≤ g' → (∃ cs f, W.heap[g']? = some (.cells cs 3 f)) → (w3.setCell ⟨pp, 0, none⟩ V3).heap[g']? = W.heap[g']? := fun g' hN' ⟨cs, f, hh⟩ => (hlow g' _ (fun e => by omega) hh (.inl fun cs' f' e => by injection e with _ e2 _; exact absurd e2 (by decide))).trans hh.symm
    rcases List.mem_append.1 he with he | he
    · obtain ⟨g1, g2, g3⟩ := h.en e he
      have hkk := hkeep e.1 g1 g2
      obtain ⟨cs, f, g2⟩ := g2
      exact ⟨g1, ⟨cs, f, hkk.trans g2⟩, fun j x hx => (World.cell?_of_block hkk).trans (g3 j x hx)⟩
    · rw [List.mem_singleton] at he
      subst he
      have hkk := hkeep g hN hgc
      obtain ⟨cs, f, g2⟩ := hgc
      exact ⟨hN, ⟨cs, f, hkk.trans g2⟩, fun j x hx => (World.cell?_of_block hkk).trans (hgl j x hx)⟩
  · subst e
    obtain ⟨o2, ho2, hc2⟩ := cells_of_cell hV
    simp only at ho2
    rw [ho] at ho2
    injection ho2 with ho2
    rw [ho2, hc2] at hc
    cases hc
end gr
end Go.Proofs.YtahffafobdiogaaDoor
/- Parts: its last sort. -/
namespace Go.Proofs.YtahffafobdiogaaDoor
set_option linter.unusedVariables false
set_option linter.unusedSimpArgs false
open Go.RowKit
namespace gr
set_option maxRecDepth 100000 in
theorem key_any (ga gb la lb ca cb x y : Nat) (W : World) (ha : W.cell? ⟨ga, 0, none⟩ = some (.int .i64 (x : Int))) (hb : W.cell? ⟨gb, 0, none⟩ = some (.int .i64 (y : Int))) (hla : 0 < la) (hlb : 0 < lb) (hx : x ≤ 4096) (hy : y ≤ 4096) :
    Calls Tryd.prog 46 #[.slice (some ⟨ga, 0, none⟩) la ca, .slice (some ⟨gb, 0, none⟩) lb cb] W fun e W' => e = .returned (.int .i64 ((x : Int) - (y : Int))) ∧ ∃ q, W' = W.drewN q := by
  have e1 : IntKind.i64.wrap ((x : Int) - (y : Int)) = (x : Int) - (y : Int) := IntWalk.i64_in _ (by omega)
  have ha' : W.cell? ((⟨ga, 0, none⟩ : Addr).add 0) = some (.int .i64 (x : Int)) := ha
  have hb' : W.cell? ((⟨gb, 0, none⟩ : Addr).add 0) = some (.int .i64 (y : Int)) := hb
  have e2 : (0 : Int) < (la : Int) := by omega
  have e3 : (0 : Int) < (lb : Int) := by omega
  go_enter Tryd.func46, Tryd.ntmps46
  go_wp2
  go_quiet (fail)
  go_wp2
  go_ret
  exact ⟨rfl, _, rfl⟩
theorem getElem!_attach (es : List (Nat × List Nat × Nat)) [Inhabited { e // e ∈ es }] (j : Nat) (hj : j < es.length) : (es.attach.toArray[j]!).1 = es[j] := by
  rw [getElem!_pos _ j (by simpa using hj)]
  simp
/-- the parts, sorted by their first vertices -/
theorem psort_any (es : List (Nat × List Nat × Nat)) (hl : es.length ≤ 4096) (W : World) (A : Option Addr) (c N : Nat) (hO : W.ownsRow N 24 1 (.slice A es.length c) es.length (es.map encP))
    (hen : ∀ e ∈ es, 0 < e.2.1.length ∧ e.2.1.headD 0 ≤ 4096 ∧ (∃ cs f, W.heap[e.1]? = some (.cells cs 3 f)) ∧ ∀ (j x : Nat), e.2.1[j]? = some x → W.cell? ⟨e.1, j, none⟩ = some (.int .i64 (x : Int))) :
    Calls Tryd.prog 45 #[.slice A es.length c, .func (.func 46) #[] #[]] W fun e W' => e = .returned (.tuple #[]) ∧ ∃ fs : List (Nat × List Nat × Nat), fs.Perm es ∧ (fs.map fun e => e.2.1).Pairwise (fun a b => a.headD 0 ≤ b.headD 0) ∧
      (∀ (j : Nat) (x : Nat × List Nat × Nat), fs[j]? = some x → ∃ ad, A = some ad ∧ W'.cell? (ad.add j) = some (encP x)) ∧ (∀ e ∈ es, ∀ (j x : Nat), e.2.1[j]? = some x → W'.cell? ⟨e.1, j, none⟩ = some (.int .i64 (x : Int))) ∧ (∀ k, k < W.heap.size → (∀ g, A = some g → k ≠ g.block) → W'.heap[k]? = W.heap[k]?) ∧ W.heap.size ≤ W'.heap.size ∧ Os W W' := by
  rcases Nat.eq_zero_or_pos es.length with h0 | h0
  · have e0 : es = [] := List.eq_nil_of_length_eq_zero h0
    subst e0
    refine (Tryd.slices_SF0 A c _ W).mono ?_
    rintro e W' ⟨he, rfl⟩
    exact ⟨he, [], .refl _, List.Pairwise.nil, fun j x hx => (by simp at hx), fun e he => (by cases he), fun k _ _ => rfl, Nat.le_refl _, rfl, rfl, rfl⟩
  · obtain ⟨g, cap, hA, hg1, hg2⟩ := hO.form h0
    injection hA with hA hA1 hA2
    subst hA
    obtain ⟨csg, hgc⟩ : ∃ cs, W.heap[g]? = some (.cells cs 24 (0, 0)) := by
      rcases hO.2 with ⟨y, _⟩ | ⟨g', cp, cur, y1, y2, y3, _⟩
      · cases y
      · injection y1 with y1 _ _
        injection y1 with y1
        injection y1 with y1
        subst y1
        exact ⟨_, y3⟩
    haveI : Inhabited { e // e ∈ es } := ⟨⟨es[0], List.getElem_mem h0⟩⟩
    have hsz : es.attach.toArray.size = es.length := by simp
    have hH : Sort.Holds (fun e : { e // e ∈ es } => encP e.1) W g 0 es.attach.toArray := fun j hj => by
      have hj2 : j < es.length := by simpa using hj
      refine ⟨?_, ?_⟩
      · have h1 := hO.cells (g := g) rfl j (encP es[j]) (by rw [List.getElem?_map, List.getElem?_eq_getElem hj2]; rfl)
        show W.cell? ⟨g, 0 + j, none⟩ = some (encP (es.attach.toArray[j]!).1)
        rw [getElem!_attach es j hj2, Nat.zero_add, ← off_add g j]
        exact h1
      · unfold World.frozen?
        rw [hgc]
        simp
    have hblk : ∀ (m : Nat) (os : Array Obj) (dk : Array { e // e ∈ es }) (k : Nat), k < W.heap.size → k ≠ g → (sortWorld (fun e : { e // e ∈ es } => encP e.1) W g 0 m dk os).heap[k]? = W.heap[k]? := fun m os dk k hk hkg => by
      unfold sortWorld
      rw [Sort.heap_grow_old _ os (by simpa using hk)]
      unfold Sort.putRow Sort.mapBlock
      simp only [Array.getElem?_modify, Sort.heap_ahead]
      rw [if_neg (fun e => hkg e.symm)]
    have hcl : ∀ (m : Nat) (os : Array Obj) (dk : Array { e // e ∈ es }) (e), e ∈ es → ∀ (j x : Nat), e.2.1[j]? = some x → (sortWorld (fun e : { e // e ∈ es } => encP e.1) W g 0 m dk os).cell? ⟨e.1, j, none⟩ = some (.int .i64 (x : Int)) := fun m os dk e he j x hx => by
      obtain ⟨_, _, ⟨cs, f, h3⟩, h4⟩ := hen e he
      have h5 := h4 j x hx
      have hlt : e.1 < W.heap.size := (Array.getElem?_eq_some_iff.1 h3).1
      exact (World.cell?_of_block (hblk m os dk e.1 hlt (fun e2 => by
        rw [e2, hgc] at h3
        injection h3 with h3
        injection h3 with _ h3 _
        exact absurd h3 (by decide)))).trans h5
    have hhd : ∀ (e : Nat × List Nat × Nat), 0 < e.2.1.length → e.2.1[0]? = some (e.2.1.headD 0) := fun e h => by
      cases hc : e.2.1 with
      | nil => rw [hc] at h; simp at h
      | cons a r => simp
    have hlt0 : ∀ a b : { e // e ∈ es }, ltOf (fun a b : { e // e ∈ es } => ((a.1.2.1.headD 0 : Nat) : Int) - ((b.1.2.1.headD 0 : Nat) : Int)) a b = decide (a.1.2.1.headD 0 < b.1.2.1.headD 0) := fun a b => by
      unfold ltOf
      rw [decide_eq_decide]
      simp only []
      omega
    have key := Tryd.slices_SF (fun e : { e // e ∈ es } => encP e.1) (fun _ => rfl) (fun a b => ((a.1.2.1.headD 0 : Nat) : Int) - ((b.1.2.1.headD 0 : Nat) : Int))
      ⟨fun x => by rw [hlt0]; simp, fun x y z h1 h2 => by rw [hlt0] at *; simp at *; omega, fun x y z h1 h2 => by rw [hlt0] at *; simp at *; omega⟩
      46 #[] g 0 c es.attach.toArray W (enters_of Tryd.func46 (by kernel_rfl) rfl)
      (fun m os dk _ x y => by
        obtain ⟨x1, x2, _⟩ := hen x.1 x.2
        obtain ⟨y1, y2, _⟩ := hen y.1 y.2
        refine (key_any x.1.1 y.1.1 _ _ x.1.2.2 y.1.2.2 _ _ _ (hcl m os dk x.1 x.2 0 _ (hhd _ x1)) (hcl m os dk y.1 y.2 0 _ (hhd _ y1)) x1 y1 x2 y2).mono ?_
        rintro e W' ⟨he, q, hq⟩
        exact ⟨he, q, #[], by rw [hq]; exact (Sort.grow_empty _).symm⟩)
      hH hg2 (by rw [hsz]; omega)
    rw [hsz] at key
    refine key.mono ?_
    rintro e W' ⟨he, d', n, os, ⟨hp1, _, hp2⟩, hs, rfl⟩
    have hz : d'.size = es.length := by rw [hp1, hsz]
    rw [show d'.extract 0 es.length = d' by rw [← hz]; simp, show (es.attach.toArray).extract 0 es.length = es.attach.toArray by rw [← hsz]; exact Array.extract_size] at hp2
    have hH2 := Sort.holds_grow (fun e : { e // e ∈ es } => encP e.1) _ os g 0 d' (by simpa using hg2) (Sort.holds_putRow (fun e : { e // e ∈ es } => encP e.1) (Sort.ahead W n) g 0 _ d' (Sort.holds_ahead _ W n g 0 _ hH) (by rw [hz, hsz]))
    have hget : ∀ (j : Nat) (h : j < d'.size), (d'.toList.map fun e => e.1)[j]? = some (d'[j]!).1 := fun j h => by
      rw [List.getElem?_map, Array.getElem?_toList, getElem!_pos _ j h, Array.getElem?_eq_getElem h]
      rfl
    refine ⟨he, d'.toList.map fun e => e.1, ?_, ?_, fun j x hx => ⟨_, rfl, ?_⟩, fun e he j x hx => hcl n os d' e he j x hx, fun k hk hg => hblk n os d' k hk (hg _ rfl), by unfold sortWorld; simp, rfl, rfl, rfl⟩
    · have := hp2.map fun e : { e // e ∈ es } => e.1
      rw [show (es.attach.toArray.toList.map fun e : { e // e ∈ es } => e.1) = es by simp [List.attach_map_subtype_val]] at this
      exact this
    · rw [List.map_map, List.pairwise_map, List.pairwise_iff_getElem]
      intro i j hi hj hij
      have h1 := hs i j (Nat.zero_le _) hij (by rw [← hz]; simpa using hj)
      rw [hlt0, getElem!_pos _ i (by simpa using hi), getElem!_pos _ j (by simpa using hj)] at h1
      simp only [decide_eq_false_iff_not] at h1
      simp only [Function.comp, Array.getElem_toList]
      omega
    · have hj : j < d'.size := by
        rcases Nat.lt_or_ge j d'.size with h | h
        · exact h
        · rw [List.getElem?_eq_none (by simpa using h)] at hx; cases hx
      have h3 := (hH2 j hj).1
      rw [hget j hj] at hx
      injection hx with hx
      rw [off_add, ← hx]
      rw [Nat.zero_add] at h3
      exact h3
/-- a row of rows of numbers -/
def NewP (ls : List (List Nat)) (w : World) (e : Ending) (w' : World) : Prop := ∃ (A : Option Addr) (c : Nat) (fs : List (Nat × List Nat × Nat)), e = .returned (.tuple #[.slice A fs.length c, .int .i64 0]) ∧ (fs.map fun e => e.2.1) = ls ∧ Rd w' w'.heap.size A (fs.map encP) ∧ (∀ e ∈ fs, Rd w' w'.heap.size (some ⟨e.1, 0, none⟩) (vV e.2.1)) ∧ Below w.heap.size w w'
theorem cell_put {W : World} {l : Nat} {o : Obj} (o' : Obj) (h : W.heap[l]? = some o) (hc : o.isCells = false) {p : Addr} {v : Value} (hv : W.cell? p = some v) : (W.putObj l o').cell? p = some v := by
  obtain ⟨ob, ho, hk⟩ := cells_of_cell hv
  exact (World.cell?_of_block (World.putObj_heap_other (fun e => by rw [e, h] at ho; injection ho with ho; rw [← ho, hc] at hk; cases hk))).trans hv
theorem rd_nums {W : World} {g : Nat} {l : List Nat} (h : ∀ (j x : Nat), l[j]? = some x → W.cell? ⟨g, j, none⟩ = some (.int .i64 (x : Int))) : Rd W W.heap.size (some ⟨g, 0, none⟩) (vV l) := fun hn => by
  have h0 : 0 < l.length := by
    rcases Nat.eq_zero_or_pos l.length with h0 | h0
    · exact absurd (by rw [List.eq_nil_of_length_eq_zero h0]; rfl) hn
    · exact h0
  refine ⟨_, rfl, ?_, fun j u hu => ?_⟩
  · exact World.block_lt_of_cell? W _ (h 0 _ (List.getElem?_eq_getElem h0))
  · unfold vV at hu
    rw [List.getElem?_map] at hu
    cases hx : l[j]? with
    | none => rw [hx] at hu; cases hu
    | some x =>
      rw [hx] at hu
      injection hu with hu
      rw [off_add, ← hu]
      exact h j x hx
theorem rd_row {W : World} {A : Option Addr} {xs : List (Nat × List Nat × Nat)} (h : ∀ (j : Nat) (x : Nat × List Nat × Nat), xs[j]? = some x → ∃ ad, A = some ad ∧ W.cell? (ad.add j) = some (encP x)) : Rd W W.heap.size A (xs.map encP) := fun hn => by
  have h0 : 0 < xs.length := by
    rcases Nat.eq_zero_or_pos xs.length with h0 | h0
    · exact absurd (by rw [List.eq_nil_of_length_eq_zero h0]; rfl) hn
    · exact h0
  obtain ⟨ad, hA, hc⟩ := h 0 _ (List.getElem?_eq_getElem h0)
  refine ⟨ad, hA, ?_, fun j u hu => ?_⟩
  · have := World.block_lt_of_cell? W _ hc
    rw [add_block] at this
    exact this
  · rw [List.getElem?_map] at hu
    cases hx : xs[j]? with
    | none => rw [hx] at hu; cases hu
    | some x =>
      rw [hx] at hu
      injection hu with hu
      obtain ⟨ad', hA', hc'⟩ := h j x hx
      rw [hA] at hA'
      injection hA' with hA'
      rw [← hu, hA']
      exact hc'
end gr
end Go.Proofs.YtahffafobdiogaaDoor
/- Parts of the program. -/
namespace Go.Proofs.YtahffafobdiogaaDoor
set_option linter.unusedVariables false
set_option linter.unusedSimpArgs false
open Go.RowKit Go.Shelf
attribute [local go_sem] Oper.semAt_some
namespace gr
/-- what the first loop keeps -/
structure PJ (w W : World) (lb n sb ps pl N : Nat) (E : Nat → Nat → Bool) (S L : List Nat) : Prop where
  lk : LkE W lb n E
  tz : Tz W
  sc : W.cell? ⟨ps, 0, none⟩ = some (sl sb (sizeW n))
  sf : W.frozen? ⟨ps, 0, none⟩ = false
  sn : Seen W sb n S
  bx : Bx W pl N L
  low : Below w.heap.size w W
  fit : tzB < w.heap.size ∧ w.heap.size ≤ pl ∧ pl < lb ∧ lb + n < sb ∧ sb < ps ∧ ps < N
theorem PJ.kt {w W W' : World} {lb n sb ps pl N : Nat} {E : Nat → Nat → Bool} {S L S' L' : List Nat} (h : PJ w W lb n sb ps pl N E S L) (hk : KT N (fun k => k = pl ∨ k = sb) W W') (hs : Seen W' sb n S') (hb : Bx W' pl N L') : PJ w W' lb n sb ps pl N E S' L' := by
  obtain ⟨f1, f2, f3, f4, f5, f6⟩ := h.fit
  have hz := h.bx.bz
  have hcell : ∀ (b i : Nat) (v : Value), b < N → ¬ (b = pl ∨ b = sb) → W.cell? ⟨b, i, none⟩ = some v → W'.cell? ⟨b, i, none⟩ = some v ∧ W'.frozen? ⟨b, i, none⟩ = W.frozen? ⟨b, i, none⟩ := fun b i v hb hp hv => by
    obtain ⟨o, ho, hc⟩ := cells_of_cell hv
    have e : W'.heap[b]? = W.heap[b]? := (hk.2 b o ho hp (.inl hb)).trans ho.symm
    exact ⟨(World.cell?_of_block e).trans hv, World.frozen?_of_block e⟩
  exact ⟨hk.lke h.lk (fun k h1 h2 x => by omega), fun j hj => (hcell tzB j _ (by omega) (by omega) (h.tz j hj)).1, (hcell _ _ _ (by omega) (by omega) h.sc).1, (hcell _ _ _ (by omega) (by omega) h.sc).2.trans h.sf, hs, hb, h.low.trans (hk.low (by omega) (by omega) (fun k x => by omega)), h.fit⟩
theorem infoL : ∃ i, Tryd.prog.info? 24 = some i ∧ i.zero = some (.slice none 0 0) ∧ i.size = 1 ∧ i.bytes = 24 := info_parts (by kernel_rfl)
theorem cut_at (L : List Nat) (k : Nat) (hk : k < L.length) : L = L.take (L.length - k - 1) ++ L.getD (L.length - 1 - k) 0 :: L.drop (L.length - k) := by
  have h1 : L.length - k - 1 < L.length := by omega
  have e : L.getD (L.length - 1 - k) 0 = L[L.length - k - 1] := by
    rw [List.getD, show L.length - 1 - k = L.length - k - 1 by omega, List.getElem?_eq_getElem h1]
    rfl
  rw [e]
  conv => lhs; rw [← List.take_append_drop (L.length - k - 1) L]
  congr 1
  rw [List.drop_eq_getElem_cons h1]
  congr 2
  omega
theorem bk_rev {zs : List Nat} {Q : Nat → Prop} {hQ : ∀ j, Q (zs.getD j 0)} {k : Nat} (hk : k ≤ zs.length) : ((bk zs Q hQ k).map fun x => x.1.2).reverse = zs.drop (zs.length - k) := by
  induction k with
  | zero => simp [bk]
  | succ k ih =>
    rw [bk_succ, List.map_append, List.reverse_append, ih (by omega), List.map_singleton]
    have h1 : zs.length - (k + 1) < zs.length := by omega
    rw [List.drop_eq_getElem_cons h1]
    simp only [List.reverse_singleton, List.singleton_append]
    congr 1
    · rw [List.getD, show zs.length - 1 - k = zs.length - (k + 1) by omega, List.getElem?_eq_getElem h1]
      rfl
    · congr 1
      omega
theorem one_sl (A : Option Addr) (n c : Nat) : ∀ u ∈ [Value.slice A n c], u.oneCell' = true := by
  intro u hu
  simp at hu
  subst hu
  rfl
theorem ne_own {W : World} {B n k : Nat} {t : TypeId} {v : Value} {xs : List Value} (h : W.ownsRow B t 1 v n xs) (_ : B ≤ W.heap.size) (hk : k < B) : some k ≠ v.ownBlock := fun e => by
  have := h.lt k e.symm
  omega
theorem PI.pcs {W w3 : World} {lb n sb ps pb pp N : Nat} {E : Nat → Nat → Bool} {T : List Nat} {es : List (Nat × List Nat × Nat)} (h : PI W lb n sb ps pb pp N E T es) (o : Obj) {V : Value} (hV : W.cell? ⟨pp, 0, none⟩ = some V) (hO : W.ownsRow N 24 1 V es.length (es.map encP)) (hg : (W.alloc o).grownBy w3 V.ownBlock) : w3.cell? ⟨pp, 0, none⟩ = some V ∧ w3.frozen? ⟨pp, 0, none⟩ = false := by
  obtain ⟨f1, f2, f3, f4, f5, f6, f7, f8, f9, f10, f11, f12, f13, f14, f15⟩ := h.fit
  obtain ⟨ob, ho, hc⟩ := cells_of_cell hV
  have hl := World.block_lt_of_cell? W _ hV
  have e : w3.heap[pp]? = W.heap[pp]? := by
    rw [hg.block pp (by rw [World.size_alloc]; simp only at hl; omega) (ne_own hO h.bz f6)]
    exact Below.heap_alloc W o pp hl
  exact ⟨(World.cell?_of_block e).trans hV, (World.frozen?_of_block e).trans h.pf⟩
set_option maxRecDepth 100000 in
set_option maxHeartbeats 8000000 in
theorem parts_ok (n : Nat) (A : Option Addr) (c : Nat) (ns : List (Nat × Nat)) (hn : n ≤ 4096) (hr : ∀ e ∈ ns, e.1 < n ∧ e.2 < n) (hl : ns.length ≤ 1048576) (w : World) (hT : Tz w) (hE : RdE w w.heap.size A (eN ns)) (hv : valB n (eN ns) = true) :
    Calls Tryd.prog 18 #[.int .i64 n, .slice A ns.length c] w (NewP (prts (nbs (eK ns) n) n) w) := by
  have hdd : ∀ k : Nat, (Fence.wide.depth.isSome = true → 1 ≤ k) := fun k h => by cases h
  obtain ⟨E, hEE⟩ : ∃ E, eK ns = E := ⟨_, rfl⟩
  have hEn : ∀ u w, E u w = true → w < n := hEE ▸ eK_lt hr
  have hEm : ∀ u x, E u x = true → u < n := fun u x h => by
    rw [← hEE] at h
    unfold eK at h
    exact (hr _ (List.contains_iff_mem.1 h)).1
  have KV := Lib.hid (valid_any n A c (eN ns) (by rw [eN_len]; exact hl) w hE)
  rw [hv, eN_len] at KV
  have htz := tz_lt hT
  have hfit : ∀ (W w' : World) (F : Nat → Nat → Bool), LkE w' W.heap.size n F → W.heap.size + n < w'.heap.size := fun W w' F h2 => by
    rcases Nat.eq_zero_or_pos n with h0 | h0
    · have := h2.lt0; omega
    · have := h2.lt (v := n - 1) (by omega); omega
  have KF := Lib.hid (fun W (hb : Below w.heap.size w W) => (forward_any n hn A c ns hr hl W ((hE.below hb).more' hb.size)).mono (R' := fun e w' => e = .returned (sl W.heap.size n) ∧ (LkE w' W.heap.size n E ∧ Below W.heap.size W w' ∧ Below w.heap.size w w' ∧ W.heap.size + n < w'.heap.size)) fun e w' ⟨h1, h2, h3⟩ => by
    rw [hEE] at h2
    exact ⟨h1, h2, h3, hb.trans (h3.mono hb.size), hfit _ _ _ h2⟩)
  have KB := Lib.hid (fun W (hb : Below w.heap.size w W) => (backward_any n hn A c ns hr hl W ((hE.below hb).more' hb.size)).mono (R' := fun e w' => e = .returned (sl W.heap.size n) ∧ (LkE w' W.heap.size n (fun u x => E x u) ∧ Below W.heap.size W w' ∧ Below w.heap.size w w' ∧ W.heap.size + n < w'.heap.size)) fun e w' ⟨h1, h2, h3⟩ => by
    rw [hEE] at h2
    exact ⟨h1, h2, h3, hb.trans (h3.mono hb.size), hfit _ _ _ h2⟩)
  have HNW := Lib.hid (newSet_any n hn)
  have HT := Lib.hid hT
  have HEn := Lib.hid hEn
  have HEm := Lib.hid hEm
  rw [hEE]
  clear hT hE hv hr hEE hEn hEm hfit
  refine (callsIn_wide (n := 6)).1 ?_
  refine callsIn_of_wp_marks Tryd.func18 rfl trivial ?_ rfl
  simp only [Tryd.ntmps18, List.size_toArray, List.length_cons, List.length_nil, Nat.reduceAdd, Nat.reduceSub, Array.replicate_succ, Array.replicate_zero, List.push_toArray, List.append_toArray, List.nil_append, List.cons_append]
  gi_wp2_with (first
    | (refine ⟨trivial, ?_⟩; gi_at_call 23; refine (callsIn_wide.2 KV.out).mono ?_; clear KV; rintro e w1 ⟨rfl, hb1⟩)
    | (refine ⟨trivial, ?_⟩; gi_at_call 24; refine (callsIn_wide.2 (KF.out _ (bel_alloc hb1 _))).mono ?_; clear KF; rintro e w2 ⟨rfl, hf2⟩)
    | (refine ⟨trivial, ?_⟩; gi_at_call 27; refine (callsIn_wide.2 (HNW.out _)).mono ?_; rintro e w3 ⟨rfl, rfl⟩))
  obtain ⟨a1, a2, a3, a4⟩ := hf2
  rw [World.size_alloc] at a1 a2 a4
  have hz1 := hb1.size
  have p1 : PJ w ((w2.alloc (.cells (uV (List.replicate (sizeW n) 0)).toArray 69)).alloc (.cells #[sl w2.heap.size (sizeW n)] 49)) (w1.heap.size + 1) n w2.heap.size (w2.heap.size + 1) w1.heap.size (w2.heap.size + 1 + 1) E [] [] := by
    have hbb : Below w2.heap.size w2 ((w2.alloc (.cells (uV (List.replicate (sizeW n) 0)).toArray 69)).alloc (.cells #[sl w2.heap.size (sizeW n)] 49)) := bel_alloc (bel_box _) _
    have hpl := Blk.new w1 [Value.slice none 0 0] 24
    have hpl2 := (hpl.below a2 (by omega)).keep hbb
    have hps := Blk.new (w2.alloc (.cells (uV (List.replicate (sizeW n) 0)).toArray 69)) [sl w2.heap.size (sizeW n)] 49
    rw [World.size_alloc] at hps
    exact ⟨a1.keep hbb, (HT.out.keep a3).keep hbb, hps.cell (i := 0) rfl, hps.frozen 0, ⟨_, (Blk.new w2 (uV (List.replicate (sizeW n) 0)) _).alloc _, (St.empty _).congr fun u => rfl⟩,
      ⟨⟨_, hpl2.cell (i := 0) rfl, World.ownsRow_nil _ _ _ _⟩, hpl2.frozen 0, by simp, by omega, fun _ => hpl2.cell (i := 0) rfl⟩, a3.trans (hbb.mono a3.size), htz, hz1, by omega, by omega, by omega, by omega⟩
  clear a1 a2 hb1
  generalize (w2.alloc (.cells (uV (List.replicate (sizeW n) 0)).toArray 69)).alloc (.cells #[.slice (some ⟨w2.heap.size, 0, none⟩) (sizeW n) (sizeW n)] 49) = W3 at *
  gi_loopw [25] (fun i wr => ∃ (k : Nat) (S L : List Nat), k ≤ n ∧ i = .int .i64 (k : Int) ∧ PJ w wr (w1.heap.size + 1) n w2.heap.size (w2.heap.size + 1) w1.heap.size (w2.heap.size + 1 + 1) E S L ∧ Hid (Dfs (nbs E n) (List.range k) [] [] S L)) (fun i _ => n - (intOf i).toNat)
  case atStart => exact ⟨0, [], [], by omega, rfl, p1, Lib.hid (.nil _ _)⟩
  case round =>
    obtain ⟨k, S, L, hk, rfl, hp, hd⟩ := hrel
    clear p1
    by_cases hlt : k < n
    · have dk : (k : Int) < (n : Int) := by omega
      have csc := hp.sc
      obtain ⟨f1, f2, f3, f4, f5, f6⟩ := hp.fit
      have KW := Lib.hid (pwalk 41 (w1.heap.size + 1) n w2.heap.size w1.heap.size (w2.heap.size + 1 + 1) (enters_of Tryd.func41 (by kernel_rfl) rfl) (fun u L W hL hB => papp1_any w1.heap.size (w2.heap.size + 1 + 1) u L W hL hB) E hn HEn.out k S L wr hlt hp.lk hp.sn hp.bx hp.tz (dfs_inv (n := n) nbs_lt hd.out (fun x hx => by have := List.mem_range.1 hx; omega) (fun x hx => (by cases hx)) List.nodup_nil (fun x hx => (by cases hx))) (by omega) (by omega) (by omega) (by omega) (by omega) (by omega) (by omega))
      have HP := Lib.hid hp
      clear hp
      gi_wp2_with (refine ⟨trivial, ?_⟩; gi_at_call 38; refine (callsIn_wide.2 KW.out).mono ?_; clear KW; rintro e w4 ⟨rfl, S', L', g1, g2, g3, g4⟩)
      refine ⟨⟨k + 1, S', L', by omega, by congr 1, HP.out.kt g4 g2 g3, Lib.hid ?_⟩, by simp [intOf]; omega⟩
      rw [List.range_succ]
      exact hd.out.app g1
    · have hkn : n = k := by omega
      subst hkn
      obtain ⟨W4, rfl⟩ : ∃ U, U = wr := ⟨_, rfl⟩
      have hlft := Lib.hid (lft_of hd.out)
      clear hd
      have csc := hp.sc
      have csf := hp.sf
      have hlow := hp.low
      have HP := Lib.hid hp
      clear hp
      obtain ⟨V, hV, hO⟩ := HP.out.bx.fc
      obtain ⟨A1, c1, rfl⟩ := own_form hO
      have hLn := hlft.out.len
      have hz4 := HP.out.bx.bz
      obtain ⟨e1, e2, e3, e4, e5, e6⟩ := HP.out.fit
      gi_wp2_with (first
        | (refine ⟨trivial, ?_⟩; gi_at_call 34; refine (callsIn_wide.2 (KB.out _ (bel_alloc hlow _))).mono ?_; clear KB; rintro e w5 ⟨rfl, hf5⟩)
        | (refine ⟨trivial, ?_⟩; gi_at_call 27; fail))
      rw [World.size_alloc] at hf5
      obtain ⟨a5, a6, a7, a8⟩ := hf5
      have bb6 : Below w5.heap.size w5 ((w5.alloc (.cells (uV (List.replicate (sizeW n) 0)).toArray 69)).alloc (.cells #[sl (W4.heap.size + 1) n] 44)) := bel_alloc (bel_box _) _
      have bb46 : Below W4.heap.size W4 ((w5.alloc (.cells (uV (List.replicate (sizeW n) 0)).toArray 69)).alloc (.cells #[sl (W4.heap.size + 1) n] 44)) := ((bel_box _).trans (a6.mono (by omega))).trans (bb6.mono (by omega))
      have s6 := (bb46.cell (p := ⟨w2.heap.size + 1, 0, none⟩) (by simp only; omega)).trans csc
      have t6 := (bb46.frozen (p := ⟨w2.heap.size + 1, 0, none⟩) (by simp only; omega)).trans csf
      have l6 : (((w5.alloc (.cells (uV (List.replicate (sizeW n) 0)).toArray 69)).alloc (.cells #[sl (W4.heap.size + 1) n] 44)).setCell ⟨w2.heap.size + 1, 0, none⟩ (sl w5.heap.size (sizeW n))).cell? ⟨w1.heap.size, 0, none⟩ = some (.slice A1 L.length c1) := (World.cell?_setCell_other _ _ _ _ (by intro e; injection e with e; omega)).trans ((bb46.cell (p := ⟨w1.heap.size, 0, none⟩) (by simp only; omega)).trans hV)
      have KBk := Lib.hid (fun W => backw_any A1 L.length c1 W)
      have g6 : LkE (((w5.alloc (.cells (uV (List.replicate (sizeW n) 0)).toArray 69)).alloc (.cells #[sl (W4.heap.size + 1) n] 44)).setCell ⟨w2.heap.size + 1, 0, none⟩ (sl w5.heap.size (sizeW n))) (W4.heap.size + 1) n (fun u x => E x u) := (a5.keep bb6).to fun k h1 h2 => Below.heap_setCell _ _ _ _ (by simp only; omega)
      have g7 : ∀ (W : World), W = (((w5.alloc (.cells (uV (List.replicate (sizeW n) 0)).toArray 69)).alloc (.cells #[sl (W4.heap.size + 1) n] 44)).setCell ⟨w2.heap.size + 1, 0, none⟩ (sl w5.heap.size (sizeW n))) → Below w.heap.size w W ∧ W.heap.size = w5.heap.size + 2 ∧ Tz W ∧ W.cell? ⟨w5.heap.size + 1, 0, none⟩ = some (sl (W4.heap.size + 1) n) ∧ W.cell? ⟨w2.heap.size + 1, 0, none⟩ = some (sl w5.heap.size (sizeW n)) ∧ Seen W w5.heap.size n [] ∧ Blk W W4.heap.size 34 [.slice none 0 0] ∧ W.ownsRow (w2.heap.size + 1 + 1) 3 1 (.slice A1 L.length c1) L.length (vV L) := by
        rintro W rfl
        have hp0 := (Blk.new W4 [Value.slice none 0 0] 34).below a6 (by omega)
        have hlk := Blk.new (w5.alloc (.cells (uV (List.replicate (sizeW n) 0)).toArray 69)) [sl (W4.heap.size + 1) n] 44
        rw [World.size_alloc] at hlk
        have hbw := a7.trans (bb6.mono a7.size)
        refine ⟨hbw.setCell (p := ⟨_, _, none⟩) (by simp only; omega) _, by simp, ((HT.out.keep a7).keep bb6).kp (Kp.set (S := fun k => k = w2.heap.size + 1) _ (a := ⟨w2.heap.size + 1, 0, none⟩) rfl _) (by omega), (hlk.set_other (by omega) _ _).cell (i := 0) rfl, World.cell?_setCell_same _ _ _ s6, ⟨_, ((Blk.new w5 (uV (List.replicate (sizeW n) 0)) _).alloc _).set_other (by omega) _ _, (St.empty _).congr fun u => rfl⟩, (hp0.keep bb6).set_other (by omega) _ _, ?_⟩
        exact (Kp.set (S := fun k => k = w2.heap.size + 1) _ (a := ⟨w2.heap.size + 1, 0, none⟩) rfl _).own (own_keep hO bb46) (fun k e => by omega)
      have g7 := g7 _ rfl
      rw [hLn] at l6 KBk g7
      gi_wp2_with (first
        | (refine ⟨trivial, ?_⟩; gi_at_call 27; refine (callsIn_wide.2 (HNW.out _)).mono ?_; rintro e w6 ⟨rfl, rfl⟩)
        | (refine ⟨trivial, ?_⟩; gi_at_call 42; fail))
      generalize ((w5.alloc (.cells (uV (List.replicate (sizeW n) 0)).toArray 69)).alloc (.cells #[.slice (some ⟨W4.heap.size + 1, 0, none⟩) n n] 44)).setCell ⟨w2.heap.size + 1, 0, none⟩ (.slice (some ⟨w5.heap.size, 0, none⟩) (sizeW n) (sizeW n)) = W7 at *
      obtain ⟨z1, z2, z3, z4, z5, z6, z7, z8⟩ := g7
      clear bb6 bb46 s6 t6 l6 a5 a6 hO hV
      refine ⟨trivial, ?_⟩
      refine (callsIn_wide.2 (KBk.out W7)).mono ?_
      rintro e w8 ⟨rfl, rfl⟩
      gi_wp2_with fail
      obtain ⟨W8, hW8⟩ : ∃ W8, W7.alloc (.cells #[.slice A1 n c1] 24) = W8 := ⟨_, rfl⟩
      rw [hW8]
      have hb8 : Below W7.heap.size W7 W8 := by rw [← hW8]; exact bel_box _
      have hz8 : W8.heap.size = W7.heap.size + 1 := by rw [← hW8]; simp
      have hbx : Blk W8 W7.heap.size 24 [.slice A1 n c1] := by rw [← hW8]; exact Blk.new _ _ _
      have hPI : PI W8 (W4.heap.size + 1) n w5.heap.size (w2.heap.size + 1) (w5.heap.size + 1) W4.heap.size (W7.heap.size + 1) (fun u x => E x u) [] [] :=
        ⟨g6.keep hb8, z3.keep hb8, (hb8.cell (p := ⟨w5.heap.size + 1, 0, none⟩) (by simp only; omega)).trans z4, (hb8.cell (p := ⟨w2.heap.size + 1, 0, none⟩) (by simp only; omega)).trans z5, z6.keep hb8, ⟨_, (z7.keep hb8).cell (i := 0) rfl, World.ownsRow_nil _ _ _ _⟩, (z7.keep hb8).frozen 0, fun e he => (by cases he), by omega, by omega, by omega, by omega, by omega, by omega, by omega, by omega, by omega, by omega, by omega, by omega, by omega, by omega, by omega, by omega⟩
      have hlow8 : Below w.heap.size w W8 := z1.trans (hb8.mono z1.size)
      have hQ : ∀ j, (fun v => v < n ∨ n = 0) (L.getD j 0) := fun j => by
        rcases Nat.lt_or_ge j L.length with h | h
        · left
          rw [List.getD, List.getElem?_eq_getElem h]
          exact (hlft.out.mem _).1 (List.getElem_mem h)
        · rcases Nat.eq_zero_or_pos n with h0 | h0
          · exact .inr h0
          · left
            rw [List.getD, List.getElem?_eq_none h]
            exact h0
      have hst := backw_stops (fun v => v < n ∨ n = 0) (6 - 1) W7.heap.size (W7.heap.size + 1) (fun k => k = w5.heap.size ∨ k = W4.heap.size) A1 c1 L hQ (by omega) W8 (by omega) (by omega) (by omega) (fun x => by omega) (by rw [hLn]; exact hbx.cell (i := 0) rfl) (fun j x hx => by
        have hj : j < n := by
          rcases Nat.lt_or_ge j L.length with h | h
          · omega
          · rw [List.getElem?_eq_none h] at hx; cases hx
        obtain ⟨g, cap, e1, e2, e3⟩ := z8.form (by omega)
        injection e1 with e1 _ _
        subst e1
        refine ⟨_, rfl, by simp only; omega, fun x => ?_, (hb8.cell (p := (⟨g, 0, none⟩ : Addr).add j) (by rw [add_block]; exact e3)).trans (z8.cells (g := g) rfl j _ (by unfold vV; rw [List.getElem?_map, hx]; rfl))⟩
        rcases z8.2 with ⟨y, _⟩ | ⟨g', cp, cur, y1, y2, y3, _⟩
        · cases y
        · injection y1 with y1 _ _
          injection y1 with y1
          injection y1 with y1
          subst y1
          rcases x with x | x
          · obtain ⟨ws, q1, _⟩ := z6
            unfold Blk at q1
            rw [← x] at q1
            rw [y3] at q1
            injection q1 with q1
            injection q1 with _ q1 _
            exact absurd q1 (by decide)
          · unfold Blk at z7
            rw [← x, y3] at z7
            injection z7 with z7
            injection z7 with _ z7 _
            exact absurd z7 (by decide))
      rw [hLn] at hst
      clear z8 z3 z4 z5 z6 z7 g6 hbx
      have hz7 : w.heap.size ≤ W7.heap.size := z1.size
      rw [z2] at hst hPI hz8 hz7
      refine wpIn_rangeFunc_ownH rfl (by decide) (gf := 59) (lb := #[.pointer (some ⟨(w5.heap.size + 2), 0, none⟩)]) rfl trivial (enters_of Tryd.func59 (by kernel_rfl) rfl)
        hst Kn.trans Kn.put (Below.refl _ _) (fun _ => rfl)
        (fun pre W => (∃ T es, PI W (W4.heap.size + 1) n w5.heap.size (w2.heap.size + 1) (w5.heap.size + 1) W4.heap.size ((w5.heap.size + 2) + 1) (fun u x => E x u) T es ∧ es.length ≤ pre.length ∧ (∀ x ∈ T, x < n) ∧ (pre = bk L (fun v => v < n ∨ n = 0) hQ pre.length → Pst E n ((pre.map fun x => x.1.2).reverse) T (es.map fun e => e.2.1))) ∧ Below w.heap.size w W)
        (fun _ _ _ => False)
        (OwnFrom.and (Own.from (fun s A B row hs hg hr => by
          obtain ⟨T, es, q1, q2⟩ := hs
          exact ⟨T, es, q1.same hg.size (fun k o ho hc => by
            rw [hg.block k (Array.getElem?_eq_some_iff.1 ho).1 (fun e => by
              obtain ⟨o2, ho2, hc2⟩ := hr k e.symm
              rw [ho] at ho2
              injection ho2 with ho2
              rw [ho2, hc2] at hc
              cases hc)]
            exact ho), q2⟩) _) (ownFrom_below (Nat.le_refl _) (by omega)))
        (fun _ _ _ _ _ hs _ _ => hs)
        ⟨⟨[], [], hPI, by simp, (fun x hx => by cases hx), fun _ => Pst.nil E n⟩, hlow8⟩
        (fun x a' _ => a' = { tmps := #[.int .i64 (n : Int), .slice A ns.length c, undef, undef, .slice none 0 0, .int .i64 0, .pointer (some ⟨w1.heap.size, 0, none⟩), sl (w1.heap.size + 1) n, .pointer (some ⟨w2.heap.size + 1, 0, none⟩), u9, .pointer (some ⟨W4.heap.size, 0, none⟩), .pointer (some ⟨w5.heap.size + 1, 0, none⟩), undef, .int .i64 ((x.1.2 : Nat) : Int), undef, .int .i64 (n : Int), .slice A ns.length c, .bool true, .bool false, .int .i64 (n : Int), .slice A ns.length c, sl (w1.heap.size + 1) n, .int .i64 (n : Int), sl w2.heap.size (sizeW n), .int .i64 (n : Int), .int .i64 (n : Int), .bool false, u27, u28, u29, u30, u31, u32, u33, .int .i64 (n : Int), .slice A ns.length c, sl (W4.heap.size + 1) n, .int .i64 (n : Int), sl w5.heap.size (sizeW n), .slice A1 n c1, .func (.func 59) #[] #[.pointer (some ⟨w5.heap.size + 2, 0, none⟩)], .int .i64 ((x.1.1 : Nat) : Int), .int .i64 ((x.1.2 : Nat) : Int), undef, undef, undef, undef, undef, undef, undef, undef, undef, undef, undef, undef, undef, undef, undef, undef], defers := [] })
        (fun x a' s A B row hs hg hr => hs) ?assign ?body ?done ?stop
      case assign =>
        intro l pre x W K hI hK
        gi_wp2
        exact hK _ _ (KeepsFrom.refl _ _) (Kn.refl _ _ _) hI rfl
      case body =>
        rintro l pre x a' W hl hr ⟨⟨T, es, hp, hel, hTn, hst2⟩, hlow⟩ rfl hlt
        have hlt2 : pre.length < n := hlt
        have hv : x.1.2 < n := x.2.elim id (fun h0 => by omega)
        obtain ⟨v, hxv⟩ : ∃ v, x.1.2 = v := ⟨_, rfl⟩
        rw [hxv] at hv
        simp only [hxv]
        have HX := Lib.hid hxv
        have cbc := cell_al (.cells #[.slice none 0 0] 24) hp.bc
        have csc := cell_al (.cells #[.slice none 0 0] 24) hp.sc
        have hz := hp.bz
        have HPI := Lib.hid hp
        -- the search
        have KW : Hid (Calls Tryd.prog 38 #[sl (W4.heap.size + 1) n, .int .i64 v, sl w5.heap.size (sizeW n), .func (.func 43) #[] #[.pointer (some ⟨W.heap.size, 0, none⟩)]] (W.alloc (.cells #[.slice none 0 0] 24)) fun e W' => e = .returned (.tuple #[]) ∧ ∃ S' L', Dfs (nbs (fun u x => E x u) n) [v] T [] S' L' ∧ Seen W' w5.heap.size n S' ∧ Bx W' W.heap.size (W.heap.size + 1) L' ∧ KT (W.heap.size + 1) (fun k => k = W.heap.size ∨ k = w5.heap.size) (W.alloc (.cells #[.slice none 0 0] 24)) W') := by
          have hbb : Below W.heap.size W (W.alloc (.cells #[.slice none 0 0] 24)) := bel_box _
          have hpb := Blk.new W [Value.slice none 0 0] 24
          exact Lib.hid (pwalk 43 (W4.heap.size + 1) n w5.heap.size W.heap.size (W.heap.size + 1) (enters_of Tryd.func43 (by kernel_rfl) rfl) (fun u L W' hL hB => papp2_any W.heap.size (W.heap.size + 1) u L W' hL hB) (fun u x => E x u) hn (fun u x h => HEm.out x u h) v T [] _ hv (hp.lk.keep hbb) (hp.sn.keep hbb) ⟨⟨_, hpb.cell (i := 0) rfl, World.ownsRow_nil _ _ _ _⟩, hpb.frozen 0, by simp, by omega, fun _ => hpb.cell (i := 0) rfl⟩ (hp.tz.keep hbb) ⟨(fun x hx => by cases hx), List.nodup_nil, hTn⟩ (by omega) (by omega) (by omega) (by omega) (by omega) (by omega) (by omega))
        clear hp
        gi_wp2_with fail
        refine ⟨trivial, ?_⟩
        refine (callsIn_wide.2 KW.out).mono ?_
        clear KW
        rintro e w9 ⟨rfl, S', L', g1, g2, g3, g4⟩
        have hzz : (W.alloc (.cells #[.slice none 0 0] 24)).heap.size = W.heap.size + 1 := by simp
        have hz9 : W.heap.size < w9.heap.size := by have := g4.1; omega
        have hkept : ∀ (k : Nat) (o : Obj), k ≠ w5.heap.size → W.heap[k]? = some o → w9.heap[k]? = some o := fun k o hk ho => by
          have hkl := (Array.getElem?_eq_some_iff.1 ho).1
          exact g4.2 k o ((Below.heap_alloc W _ k hkl).trans ho) (by omega) (.inl (by omega))
        have hlow9 : Below w.heap.size w w9 := hlow.trans (((bel_box (.cells #[.slice none 0 0] 24)).mono (by omega)).trans (g4.low (by omega) (by omega) (fun k x => by omega)))
        have hsbc : ∀ o, W.heap[w5.heap.size]? = some o → o.isCells = true := fun o ho => by
          obtain ⟨us, q1, _⟩ := HPI.out.sn
          unfold Blk at q1
          rw [q1] at ho
          injection ho with ho
          rw [← ho]
          rfl
        have hppc : ∀ o, W.heap[W4.heap.size]? = some o → o.isCells = true := fun o ho => by
          obtain ⟨Vp, q1, _⟩ := HPI.out.pc
          obtain ⟨o2, q2, q3⟩ := cells_of_cell q1
          simp only at q2
          rw [q2] at ho
          injection ho with ho
          rw [← ho]
          exact q3
        have hnext : pre ++ [x] = bk L (fun v => v < n ∨ n = 0) hQ (pre ++ [x]).length → pre = bk L (fun v => v < n ∨ n = 0) hQ pre.length ∧ ∃ A, L = A ++ v :: (pre.map fun x => x.1.2).reverse := fun e => by
          rw [List.length_append, List.length_singleton, bk_succ] at e
          obtain ⟨h1, h2⟩ := List.append_inj' e rfl
          refine ⟨h1, L.take (L.length - pre.length - 1), ?_⟩
          injection h2 with h2 _
          have h3 : v = L.getD (L.length - 1 - pre.length) 0 := by rw [← HX.out, h2]
          have h4 : (pre.map fun x => x.1.2).reverse = L.drop (L.length - pre.length) := by
            have h5 := bk_rev (zs := L) (Q := fun v => v < n ∨ n = 0) (hQ := hQ) (k := pre.length) (by omega)
            rw [← h1] at h5
            exact h5
          rw [h4, h3]
          exact cut_at L pre.length (by omega)
        have hmap : ((pre ++ [x]).map fun x => x.1.2).reverse = v :: (pre.map fun x => x.1.2).reverse := by
          rw [List.map_append, List.reverse_append, List.map_singleton, HX.out]
          rfl
        by_cases hL0 : L' = []
        · have c9 := g3.nl hL0
          have hdone : ∃ T es, PI w9 (W4.heap.size + 1) n w5.heap.size (w2.heap.size + 1) (w5.heap.size + 1) W4.heap.size (w5.heap.size + 2 + 1) (fun u x => E x u) T es ∧ es.length ≤ (pre ++ [x]).length ∧ (∀ x ∈ T, x < n) ∧ (pre ++ [x] = bk L (fun v => v < n ∨ n = 0) hQ (pre ++ [x]).length → Pst E n (((pre ++ [x]).map fun x => x.1.2).reverse) T (es.map fun e => e.2.1)) := by
            have hvT : v ∈ T ∧ S' = T := by
              cases g1 with
              | skip h k => cases k with | nil => exact ⟨h, rfl⟩
              | go h k1 k2 =>
                cases k2 with
                | nil => exact absurd hL0 (by simp)
            refine ⟨S', es, HPI.out.to (by omega) (fun k o hk ho _ => hkept k o hk ho) g2, by rw [List.length_append]; omega, by rw [hvT.2]; exact hTn, fun e => ?_⟩
            rw [hmap, hvT.2]
            exact (hst2 (hnext e).1).skip hvT.1
          have HD := Lib.hid hdone
          clear hdone g1 g2 g3 g4
          gi_wp2
          exact ⟨⟨by omega, fun k o _ ho hc => hkept k o (fun e => by subst e; rw [hsbc o ho] at hc; cases hc) ho⟩, ⟨by omega, fun k o _ hS ho _ => hkept k o (fun e => hS (.inl e)) ho⟩, HD.out, hlow9⟩
        · have hL1 : 0 < L'.length := List.length_pos_iff.2 hL0
          have hinv := dfs_inv (n := n) nbs_lt g1 (fun y hy => by rw [List.mem_singleton.1 hy]; exact hv) (fun y hy => (by cases hy)) List.nodup_nil hTn
          have hLl : L'.length ≤ 4096 := by
            have := nodup_len' _ (List.range n) hinv.2.1 fun y hy => List.mem_range.2 (hinv.2.2 y (hinv.1 y hy))
            rw [List.length_range] at this
            omega
          have hvT : v ∉ T := fun h => by
            cases g1 with
            | skip h k => cases k with | nil => exact hL0 rfl
            | go h2 k1 k2 => exact h2 h
          obtain ⟨V6, c9, o6⟩ := g3.fc
          obtain ⟨g, cap, rfl, hg1, hg2⟩ := o6.form hL1
          have hgh : ∃ cs, w9.heap[g]? = some (.cells cs 3 (0, 0)) := by
            rcases o6.2 with ⟨y, _⟩ | ⟨g', cp, cur, y1, y2, y3, _⟩
            · cases y
            · injection y1 with y1 _ _
              injection y1 with y1
              injection y1 with y1
              subst y1
              exact ⟨_, y3⟩
          have KS := sort_any g cap L' w9 hg2 hLl (fun j y hy => ⟨off_add g j ▸ o6.cells (g := g) rfl j _ (by unfold vV; rw [List.getElem?_map, hy]; rfl), by
            obtain ⟨cs, hcs⟩ := hgh
            unfold World.frozen?
            rw [hcs]
            simp⟩)
          have HH := Lib.hid (show ∀ w10, (∀ (j y : Nat), (L'.mergeSort fun x y => decide (x ≤ y))[j]? = some y → w10.cell? ⟨g, j, none⟩ = some (.int .i64 (y : Int))) → w9.heap.size ≤ w10.heap.size → Os w9 w10 → (∀ k, k < w9.heap.size → k ≠ g → w10.heap[k]? = w9.heap[k]?) → (∀ c t f, w9.heap[g]? = some (.cells c t f) → ∃ c', w10.heap[g]? = some (.cells c' t f)) →
              PI w10 (W4.heap.size + 1) n w5.heap.size (w2.heap.size + 1) (w5.heap.size + 1) W4.heap.size (w5.heap.size + 2 + 1) (fun u x => E x u) S' es ∧ w10.cell? ⟨W.heap.size, 0, none⟩ = some (.slice (some ⟨g, 0, none⟩) L'.length cap) ∧ (∃ cs f, w10.heap[g]? = some (.cells cs 3 f)) ∧ (∀ (k : Nat) (o : Obj), k ≠ w5.heap.size → W.heap[k]? = some o → w10.heap[k]? = some o) ∧ Below w.heap.size w w10 from fun w10 q1 q2 q3 q4 q5 => by
            have hk10 : ∀ (k : Nat) (o : Obj), k ≠ w5.heap.size → W.heap[k]? = some o → w10.heap[k]? = some o := fun k o hk ho => by
              have hkl := (Array.getElem?_eq_some_iff.1 ho).1
              exact (q4 k (by omega) (by omega)).trans (hkept k o hk ho)
            obtain ⟨us, u1, u2⟩ := g2
            obtain ⟨cs, hcs⟩ := hgh
            exact ⟨HPI.out.to (by omega) (fun k o hk ho _ => hk10 k o hk ho) ⟨us, u1.to (q4 _ u1.lt (by omega)), u2⟩, (World.cell?_of_block (q4 W.heap.size hz9 (by omega))).trans c9, let ⟨c', hc'⟩ := q5 _ _ _ hcs; ⟨c', _, hc'⟩, hk10, ⟨q3.1.trans hlow9.os, q3.2.1.trans hlow9.tape, q3.2.2.trans hlow9.output, Nat.le_trans hlow9.size q2, fun k hk => (q4 k (by omega) (by omega)).trans (hlow9.block k hk)⟩⟩)
          have hstep : pre ++ [x] = bk L (fun v => v < n ∨ n = 0) hQ (pre ++ [x]).length → Pst E n (((pre ++ [x]).map fun x => x.1.2).reverse) S' ((es.map fun e => e.2.1) ++ [L'.mergeSort fun x y => decide (x ≤ y)]) := fun e => by
            obtain ⟨h1, A0, h2⟩ := hnext e
            rw [hmap]
            exact ((hst2 h1).step (E' := fun u x => E x u) (fun _ _ => rfl) (fun u x h => HEn.out u x h) (fun u x h => HEm.out u x h) hlft.out h2 hvT g1).1
          have HSt := Lib.hid hstep
          have HS9 := Lib.hid hinv.2.2
          have hml : (L'.mergeSort fun x y => decide (x ≤ y)).length = L'.length := List.length_mergeSort L'
          have HML := Lib.hid hml
          have hesl : es.length < 4096 := by omega
          have KS := Lib.hid KS
          obtain ⟨i0, hi, iz, is, ib⟩ := infoL
          clear hstep hnext hmap hst2 o6 hgh g1 g2 g3 hinv hml HPI hkept
          generalize (L'.mergeSort fun x y => decide (x ≤ y)) = M at *
          generalize hll : L'.length = ll at *
          gi_wp2_with fail
          refine ⟨trivial, ?_⟩
          refine (callsIn_wide.2 KS.out).mono ?_
          rintro e w10 ⟨rfl, q1, q2, q3, q4, q5⟩
          obtain ⟨p1, p2, p3, p4, p5⟩ := HH.out w10 q1 q2 q3 q4 q5
          obtain ⟨Vp, hVp, hOp⟩ := p1.pc
          obtain ⟨Ap, cp, rfl⟩ := own_form hOp
          have hpf := p1.pf
          have hbz := p1.bz
          have HP1 := Lib.hid p1
          have HOp := Lib.hid hOp
          have HP3 := Lib.hid p3
          have HP4 := Lib.hid p4
          have HQ1 := Lib.hid q1
          have HQ4 := Lib.hid q4
          clear KS HH p1 p3 p4 hOp q1 q4 q5 g4
          have hNz : w5.heap.size + 2 + 1 ≤ w10.heap.size := hbz
          have hown0 : (w10.alloc (.cells #[.slice (some ⟨g, 0, none⟩) ll cap] 24)).ownsRow (w5.heap.size + 2 + 1) 24 1 (.slice Ap es.length cp) es.length (es.map encP) := own_keep HOp.out (bel_box _)
          gi_wp2_with (gi_at_builtin; refine wpListIn_append_own _ rfl _ _ 34 rfl (w5.heap.size + 2 + 1) 24 i0 (.slice none 0 0) 1 24 Tryd.underlying34 hi iz is ib rfl (by decide) _ es.length (es.map encP) rfl hown0 ⟨w10.heap.size, 0, none⟩ 1 1 [.slice (some ⟨g, 0, none⟩) ll cap] rfl rfl (row1 _ _ _) (one_sl _ _ _) (by unfold maxLen; omega) (by omega) (by rw [World.size_alloc]; omega) ?_; intro V3 w3' hown3 hgrow3 h4; clear h4; obtain ⟨A3, c3, rfl⟩ := own_form hown3; replace hgrow3 : (w10.alloc (.cells #[.slice (some ⟨g, 0, none⟩) ll cap] 24)).grownBy w3' (Value.slice Ap es.length cp).ownBlock := hgrow3; have vf := HP1.out.pcs _ hVp HOp.out hgrow3; obtain ⟨vp3, fp3⟩ := vf; have hgrow3 := Lib.hid hgrow3; have hown3 := Lib.hid hown3)
          obtain ⟨r1, r2, r3, r4, r5⟩ := HP1.out.push (g := g) (c := cap) (l := M) _ hVp HOp.out hgrow3.out (by have e : encP (g, M, cap) = .slice (some ⟨g, 0, none⟩) ll cap := (by unfold encP; simp only; rw [HML.out]); rw [e]; exact hown3.out) (by omega) HP3.out HQ1.out
          have hbe : Below w.heap.size w10 (w3'.setCell ⟨W4.heap.size, 0, none⟩ (.slice A3 (es.length + 1) c3)) := ⟨r5.1, r5.2.1, r5.2.2, by rw [World.size_setCell]; exact r4, fun k hk => by
            have hk10 : k < w10.heap.size := by omega
            exact (r2 k _ (by omega) (by omega) (Array.getElem?_eq_getElem hk10)).trans (Array.getElem?_eq_getElem hk10).symm⟩
          exact ⟨⟨by rw [World.size_setCell]; omega, fun k o _ ho hc => r3 k o hc (HP4.out k o (fun e => by subst e; rw [hsbc o ho] at hc; cases hc) ho)⟩, ⟨by rw [World.size_setCell]; omega, fun k o hk hS ho _ => r2 k o hk (fun e => hS (.inr e)) (HP4.out k o (fun e => hS (.inl e)) ho)⟩, ⟨S', es ++ [(g, M, cap)], r1, by simp; omega, HS9.out, fun e => by rw [List.map_append (l₁ := es)]; exact HSt.out e⟩, p5.trans hbe⟩
      case done =>
        rintro D ys W hD hys ⟨⟨T, es, hp, hel, hTn, hst2⟩, hlow⟩ hK
        subst hys
        have hps : Pst E n L T (es.map fun e => e.2.1) := by
          have h := hst2 (by rw [bk_len])
          have h2 := bk_rev (zs := L) (Q := fun v => v < n ∨ n = 0) (hQ := hQ) (k := n) (by omega)
          rw [show L.length - n = 0 by omega, List.drop_zero] at h2
          rw [h2] at h
          exact h
        have hel' : es.length ≤ n := by rw [bk_len] at hel; exact hel
        obtain ⟨Vp, hVp, hOp⟩ := hp.pc
        obtain ⟨Ap, cp, rfl⟩ := own_form hOp
        have hbz := hp.bz
        have hen : ∀ e ∈ es, 0 < e.2.1.length ∧ e.2.1.headD 0 ≤ 4096 ∧ (∃ cs f, W.heap[e.1]? = some (.cells cs 3 f)) ∧ ∀ (j x : Nat), e.2.1[j]? = some x → W.cell? ⟨e.1, j, none⟩ = some (.int .i64 (x : Int)) := fun e he => by
          obtain ⟨v, hv, ev⟩ := (hps.parts e.2.1).1 (List.mem_map.2 ⟨e, he, rfl⟩)
          obtain ⟨a, r, e1, e2, _⟩ := cmp_cons (s := nbs E n) ((hlft.out.mem v).1 hv)
          rw [e1] at ev
          obtain ⟨_, h2, h3⟩ := hp.en e he
          exact ⟨by rw [ev]; simp, by rw [ev]; simp only [List.headD_cons]; omega, h2, h3⟩
        have KS := Lib.hid (psort_any es (by omega) W Ap cp _ hOp hen)
        have hDl : D < W.heap.size := (Array.getElem?_eq_some_iff.1 hK).1
        have HDg := Lib.hid (show ∀ g : Addr, Ap = some g → D ≠ g.block from fun g e e2 => by
          rcases hOp.2 with ⟨y, _⟩ | ⟨g', cp', cur, y1, y2, y3, _⟩
          · injection y with y _ _
            rw [e] at y
            cases y
          · injection y1 with y1 _ _
            rw [e] at y1
            injection y1 with y1
            rw [y1] at e2
            simp only at e2
            rw [← e2, hK] at y3
            cases y3)
        have HPg := Lib.hid (show ∀ k : Nat, k < w5.heap.size + 2 + 1 → ∀ g : Addr, Ap = some g → k ≠ g.block from fun k hk g e e2 => ne_own hOp hbz hk (by rw [e, e2]; rfl))
        have HPS := Lib.hid hps
        have HKD := Lib.hid hK
        clear hp hst2 hps hen hOp hK hel
        gi_wp2_with fail
        refine ⟨trivial, ?_⟩
        refine (callsIn_wide.2 KS.out).mono ?_
        rintro e w10 ⟨rfl, fs, q1, q2, q3, q4, q5, q6, q7⟩
        have hV10 : w10.cell? ⟨W4.heap.size, 0, none⟩ = some (.slice Ap es.length cp) := (World.cell?_of_block (q5 W4.heap.size (World.block_lt_of_cell? W _ hVp) (HPg.out _ (by omega)))).trans hVp
        have HQ := Lib.hid (show (fs.map fun e => e.2.1) = prts (nbs E n) n from HPS.out.done hlft.out (q1.map _) q2)
        have HQ1 := Lib.hid q1
        have HQ3 := Lib.hid q3
        have HQ4 := Lib.hid q4
        have HK10 := Lib.hid ((q5 D hDl (HDg.out)).trans HKD.out)
        have hb10 : Below w.heap.size W w10 := ⟨q7.1, q7.2.1, q7.2.2, by omega, fun k hk => q5 k (by have := hlow.size; omega) (HPg.out k (by omega))⟩
        clear q1 q2 q3 q4 q5 KS
        gi_wp2
        refine ⟨by simp, .inl ⟨_, _, rfl, run_takeDeferred HK10.out, ?_⟩⟩
        refine ⟨_, results_tmp2 rfl _ _ _, Ap, cp, fs, ?_, HQ.out, rd_row fun j x hx => ?_, fun e he => rd_nums fun j x hx => ?_, (hlow.trans hb10).trans (belowK_b (w := w) (Nat.le_refl _) w10 D _ _ (by omega) HK10.out rfl rfl)⟩
        · rw [HQ1.out.length_eq]
          rfl
        · obtain ⟨ad, h1, h2⟩ := HQ3.out j x hx
          exact ⟨ad, h1, cell_put _ HK10.out rfl h2⟩
        · exact cell_put _ HK10.out rfl (HQ4.out e (HQ1.out.mem_iff.1 he) j x hx)
      case stop =>
        rintro D c pre W _ _ h _
        exact h.elim
end gr
end Go.Proofs.YtahffafobdiogaaDoor
