import Derived.Deep.OwnRows
import Derived.Laws.OwnMore
import Derived.Maps.Own
import Derived.RangeFuncBox
import Derived.StillTail
import Derived.Lib.QuietBelow
import Derived.Sort.OwnSorted
import Derived.Test.YtoimjcfdiljkjaaGreatDoorQC
set_option linter.unusedVariables false
set_option linter.unusedSimpArgs false
namespace Go.Proofs.YtoimjcfdiljkjaaGreatDoor
open Go.RowKit
theorem strInfo9 : (Tryz.prog.info? 9).map (fun i => (i.zero, i.size, i.bytes)) = some (some (.string ⟨#[]⟩), 1, 16) := by kernel_rfl
def TXs (B : Nat) (ts : List (List UInt8)) (W : World) (i : Nat) : Prop := B < W.heap.size ∧ ∀ j s, ts[j]? = some s → W.cell? ⟨B, j, none⟩ = some (.string (tB (if j < i then s else []))) ∧ W.frozen? ⟨B, j, none⟩ = false
theorem TXs.start (ts : List (List UInt8)) (w : World) (e : TypeId) {n : Nat} (hn : n = ts.length) : TXs w.heap.size ts (w.alloc (.cells (madeCells #[.string ⟨#[]⟩] n) e)) 0 := by
  subst hn
  refine ⟨by simp, fun j s hj => ⟨?_, ?_⟩⟩
  · have hj' := (List.getElem?_eq_some_iff.1 hj).1
    rw [cell_of_row _ _ j _ e (0, 0) (heap_alloc_new w _), if_neg (by omega), ← Array.getElem?_toList, toList_madeCells_one, List.getElem?_replicate, if_pos hj']
    rfl
  · exact frozen_of_row _ _ j _ e (heap_alloc_new w _)
theorem TXs.below {B : Nat} {ts : List (List UInt8)} {W W' : World} {i : Nat} (h : TXs B ts W i) (hb : Below W.heap.size W W') : TXs B ts W' i :=
  ⟨Nat.lt_of_lt_of_le h.1 hb.size, fun j s hj => ⟨(hb.cell (p := ⟨B, j, none⟩) h.1).trans (h.2 j s hj).1, (hb.frozen (p := ⟨B, j, none⟩) h.1).trans (h.2 j s hj).2⟩⟩
theorem TXs.next {B : Nat} {ts : List (List UInt8)} {W : World} {i : Nat} {s : List UInt8} (h : TXs B ts W i) (hi : ts[i]? = some s) : TXs B ts (W.setCell ⟨B, i, none⟩ (.string (tB s))) (i + 1) := by
  refine ⟨by simpa [World.setCell] using h.1, fun j s' hj => ⟨?_, ?_⟩⟩
  · by_cases e : j = i
    · subst e
      rw [if_pos (by omega)]
      obtain rfl : s = s' := Option.some.inj (hi.symm.trans hj)
      exact World.cell?_setCell_same _ _ _ (h.2 j s hi).1
    · rw [World.cell?_setCell_other _ _ _ _ (by simp [e]), (h.2 j s' hj).1]
      by_cases h2 : j < i
      · rw [if_pos h2, if_pos (by omega)]
      · rw [if_neg h2, if_neg (by omega)]
  · rw [← (h.2 j s' hj).2]
    simp [go_sem]
theorem TXs.facts {B : Nat} {ts : List (List UInt8)} {W W' : World} {i : Nat} {s : List UInt8} (h : TXs B ts W i) (hi : ts[i]? = some s) (hb : Below W.heap.size W W') : W'.cell? ⟨B, i, none⟩ = some (.string ⟨#[]⟩) ∧ W'.frozen? ⟨B, i, none⟩ = false ∧ B < W'.heap.size := by
  have h' := h.below hb
  have := (h'.2 i s hi).1
  rw [if_neg (by omega)] at this
  exact ⟨this, (h'.2 i s hi).2, h'.1⟩
theorem bsT_tB (l : List UInt8) : bsT (tB l) = l := by simp [bsT, tB]
theorem join_row (B : Nat) (ts : List (List UInt8)) (sep : ByteArray) (W : World) {n : Nat} (hn : n = ts.length) (h : TXs B ts W n) (hl : n ≤ 140737488355328) (hlen : (Lib.join ts (bsT sep)).length ≤ 140737488355328) :
    Calls Tryz.prog 51 #[.slice (some ⟨B, 0, none⟩) n n, .string sep] W (Bel (.string (tB (Lib.join ts (bsT sep)))) W) := by
  subst hn
  have hm : (ts.map tB).map (fun b : ByteArray => b.data.toList) = ts := by
    rw [List.map_map]
    have : ((fun b : ByteArray => b.data.toList) ∘ tB) = id := funext fun l => bsT_tB l
    rw [this, List.map_id]
  have := Tryz.strings_Join B 0 ts.length (ts.map tB) sep W (fun j x hx => by
    rw [List.getElem?_map] at hx
    obtain ⟨s, h1, h2⟩ := Option.map_eq_some_iff.1 hx
    have hj := (List.getElem?_eq_some_iff.1 h1).1
    rw [Nat.zero_add, (h.2 j s h1).1, if_pos hj, h2]) h.1 (by simpa using hl) (by simp) (by rw [hm]; exact hlen)
  rw [hm, List.length_map] at this
  exact this
set_option maxHeartbeats 2000000 in
set_option maxRecDepth 20000 in
theorem joined_On (b0 : Value) (r : Rw Ot) (f : Ot → List UInt8) (sep : ByteArray) (w : World) (hR : RdR w w.heap.size 3 OC r)
    (K : Hid (∀ y ∈ r.l, ∀ W, Below w.heap.size w W → Calls Tryz.prog 67 #[b0, oV y] W (Bel (.string (tB (f y))) W)))
    (hl : r.l.length ≤ 17592186044416) (hlen : (Lib.join (r.l.map f) (bsT sep)).length ≤ 140737488355328) :
    Calls Tryz.prog 78 #[.slice r.A r.l.length r.c, .string sep, .func (.func 67) #[b0] #[]] w (Bel (.string (tB (Lib.join (r.l.map f) (bsT sep)))) w) := by
  have HR := Lib.hid hR
  have hmk := run_make_row' (P := Tryz.prog) 51 9 (.string ⟨#[]⟩) 16 Tryz.underlying51 strInfo9 rfl .i64 .i64 r.l.length (by omega) (by omega)
  have KJ : Hid (∀ W, TXs w.heap.size (r.l.map f) W r.l.length → Calls Tryz.prog 51 #[.slice (some ⟨w.heap.size, 0, none⟩) r.l.length r.l.length, .string sep] W (Bel (.string (tB (Lib.join (r.l.map f) (bsT sep)))) W)) := Lib.hid fun W hT => join_row _ _ _ W (by simp) hT (by omega) hlen
  have HS : Hid (∀ k y, r.l[k]? = some y → (r.l.map f)[k]? = some (f y)) := Lib.hid fun k y h => by rw [List.getElem?_map, h]; rfl
  have HT0 := Lib.hid (fun e => TXs.start (r.l.map f) w e (n := r.l.length) (by simp))
  clear hR hlen
  skip
  generalize Lib.join (r.l.map f) (bsT sep) = z at *
  generalize r.l.map f = ts at *
  go_enter Tryz.func78, Tryz.ntmps78
  go_wp2
  go_loopw [15] (fun i wr => ∃ k : Nat, k ≤ r.l.length ∧ i = .int .i64 (k : Int) ∧ TXs w.heap.size ts wr k ∧ Below w.heap.size w wr) (fun i _ => r.l.length - (intOf i).toNat)
  case atStart => exact ⟨0, by omega, rfl, HT0.out _, bl⟩
  case round =>
    obtain ⟨k, hk, rfl, hT, hbl⟩ := hrel
    by_cases hlt : k < r.l.length
    · obtain ⟨ad, y, hA, had, hy, hm, ⟨c0, c1, c2⟩⟩ := (HR.out.blw oneB_O hbl hbl.size).at_ hlt
      rw [hA]
      clear hA
      have KY := Lib.hid (K.out y hm)
      have hs := HS.out k y hy
      have HTX := Lib.hid hT
      have HSS := Lib.hid hs
      clear hy hm hT hs
      generalize f y = s at *
      go_wp2_with (go_at_call 67; (with_reducible refine (KY.out _ ?_).mono ?_); (exact bl); rintro e w1 ⟨rfl, hb1⟩; obtain ⟨e1, e2, e3⟩ := TXs.facts (W' := w1) HTX.out HSS.out bl)
      refine ⟨⟨k + 1, by omega, by congr 1, ?_, ?_⟩, by simp [intOf]; omega⟩
      · exact (HTX.out.below (W' := w1) bl).next HSS.out
      · exact (bel_step hbl (bl : Below wr.heap.size wr w1)).setCell (p := ⟨w.heap.size, k, none⟩) (Nat.le_refl _) _
    · obtain rfl : k = r.l.length := by omega
      go_wp2_with (go_at_call 51; (with_reducible refine (KJ.out _ ?_).mono ?_); (focus (exact hT; done)); rintro e w1 ⟨rfl, hb1⟩)
      go_ret
      exact ⟨rfl, bl⟩
set_option maxHeartbeats 2000000 in
set_option maxRecDepth 20000 in
theorem joined_Decl (b0 : Value) (r : Rw Dt) (f : Dt → List UInt8) (sep : ByteArray) (w : World) (hR : RdR w w.heap.size 3 DC r)
    (K : Hid (∀ y ∈ r.l, ∀ W, Below w.heap.size w W → Calls Tryz.prog 93 #[b0, dV y] W (Bel (.string (tB (f y))) W)))
    (hl : r.l.length ≤ 17592186044416) (hlen : (Lib.join (r.l.map f) (bsT sep)).length ≤ 140737488355328) :
    Calls Tryz.prog 92 #[.slice r.A r.l.length r.c, .string sep, .func (.func 93) #[b0] #[]] w (Bel (.string (tB (Lib.join (r.l.map f) (bsT sep)))) w) := by
  have HR := Lib.hid hR
  have hmk := run_make_row' (P := Tryz.prog) 51 9 (.string ⟨#[]⟩) 16 Tryz.underlying51 strInfo9 rfl .i64 .i64 r.l.length (by omega) (by omega)
  have KJ : Hid (∀ W, TXs w.heap.size (r.l.map f) W r.l.length → Calls Tryz.prog 51 #[.slice (some ⟨w.heap.size, 0, none⟩) r.l.length r.l.length, .string sep] W (Bel (.string (tB (Lib.join (r.l.map f) (bsT sep)))) W)) := Lib.hid fun W hT => join_row _ _ _ W (by simp) hT (by omega) hlen
  have HS : Hid (∀ k y, r.l[k]? = some y → (r.l.map f)[k]? = some (f y)) := Lib.hid fun k y h => by rw [List.getElem?_map, h]; rfl
  have HT0 := Lib.hid (fun e => TXs.start (r.l.map f) w e (n := r.l.length) (by simp))
  clear hR hlen
  skip
  generalize Lib.join (r.l.map f) (bsT sep) = z at *
  generalize r.l.map f = ts at *
  go_enter Tryz.func92, Tryz.ntmps92
  go_wp2
  go_loopw [15] (fun i wr => ∃ k : Nat, k ≤ r.l.length ∧ i = .int .i64 (k : Int) ∧ TXs w.heap.size ts wr k ∧ Below w.heap.size w wr) (fun i _ => r.l.length - (intOf i).toNat)
  case atStart => exact ⟨0, by omega, rfl, HT0.out _, bl⟩
  case round =>
    obtain ⟨k, hk, rfl, hT, hbl⟩ := hrel
    by_cases hlt : k < r.l.length
    · obtain ⟨ad, y, hA, had, hy, hm, ⟨c0, c1, c2⟩⟩ := (HR.out.blw oneB_D hbl hbl.size).at_ hlt
      rw [hA]
      clear hA
      have KY := Lib.hid (K.out y hm)
      have hs := HS.out k y hy
      have HTX := Lib.hid hT
      have HSS := Lib.hid hs
      clear hy hm hT hs
      generalize f y = s at *
      go_wp2_with (go_at_call 93; (with_reducible refine (KY.out _ ?_).mono ?_); (exact bl); rintro e w1 ⟨rfl, hb1⟩; obtain ⟨e1, e2, e3⟩ := TXs.facts (W' := w1) HTX.out HSS.out bl)
      refine ⟨⟨k + 1, by omega, by congr 1, ?_, ?_⟩, by simp [intOf]; omega⟩
      · exact (HTX.out.below (W' := w1) bl).next HSS.out
      · exact (bel_step hbl (bl : Below wr.heap.size wr w1)).setCell (p := ⟨w.heap.size, k, none⟩) (Nat.le_refl _) _
    · obtain rfl : k = r.l.length := by omega
      go_wp2_with (go_at_call 51; (with_reducible refine (KJ.out _ ?_).mono ?_); (focus (exact hT; done)); rintro e w1 ⟨rfl, hb1⟩)
      go_ret
      exact ⟨rfl, bl⟩
set_option maxHeartbeats 2000000 in
set_option maxRecDepth 20000 in
theorem joined_Expr (b0 : Value) (r : Rw Xt) (f : Xt → List UInt8) (sep : ByteArray) (w : World) (hR : RdR w w.heap.size 6 XC r)
    (K : Hid (∀ y ∈ r.l, ∀ W, Below w.heap.size w W → Calls Tryz.prog 36 #[b0, xV y] W (Bel (.string (tB (f y))) W)))
    (hl : r.l.length ≤ 17592186044416) (hlen : (Lib.join (r.l.map f) (bsT sep)).length ≤ 140737488355328) :
    Calls Tryz.prog 107 #[.slice r.A r.l.length r.c, .string sep, .func (.func 36) #[b0] #[]] w (Bel (.string (tB (Lib.join (r.l.map f) (bsT sep)))) w) := by
  have HR := Lib.hid hR
  have hmk := run_make_row' (P := Tryz.prog) 51 9 (.string ⟨#[]⟩) 16 Tryz.underlying51 strInfo9 rfl .i64 .i64 r.l.length (by omega) (by omega)
  have KJ : Hid (∀ W, TXs w.heap.size (r.l.map f) W r.l.length → Calls Tryz.prog 51 #[.slice (some ⟨w.heap.size, 0, none⟩) r.l.length r.l.length, .string sep] W (Bel (.string (tB (Lib.join (r.l.map f) (bsT sep)))) W)) := Lib.hid fun W hT => join_row _ _ _ W (by simp) hT (by omega) hlen
  have HS : Hid (∀ k y, r.l[k]? = some y → (r.l.map f)[k]? = some (f y)) := Lib.hid fun k y h => by rw [List.getElem?_map, h]; rfl
  have HT0 := Lib.hid (fun e => TXs.start (r.l.map f) w e (n := r.l.length) (by simp))
  clear hR hlen
  simp only [xV] at K
  generalize Lib.join (r.l.map f) (bsT sep) = z at *
  generalize r.l.map f = ts at *
  go_enter Tryz.func107, Tryz.ntmps107
  go_wp2
  go_loopw [15] (fun i wr => ∃ k : Nat, k ≤ r.l.length ∧ i = .int .i64 (k : Int) ∧ TXs w.heap.size ts wr k ∧ Below w.heap.size w wr) (fun i _ => r.l.length - (intOf i).toNat)
  case atStart => exact ⟨0, by omega, rfl, HT0.out _, bl⟩
  case round =>
    obtain ⟨k, hk, rfl, hT, hbl⟩ := hrel
    by_cases hlt : k < r.l.length
    · obtain ⟨ad, y, hA, had, hy, hm, ⟨c0, c1, c2, c3, c4, c5⟩⟩ := (HR.out.blw oneB_X hbl hbl.size).at_ hlt
      rw [hA]
      clear hA
      have KY := Lib.hid (K.out y hm)
      have hs := HS.out k y hy
      have HTX := Lib.hid hT
      have HSS := Lib.hid hs
      clear hy hm hT hs
      generalize f y = s at *
      go_wp2_with (go_at_call 36; (with_reducible refine (KY.out _ ?_).mono ?_); (exact bl); rintro e w1 ⟨rfl, hb1⟩; obtain ⟨e1, e2, e3⟩ := TXs.facts (W' := w1) HTX.out HSS.out bl)
      refine ⟨⟨k + 1, by omega, by congr 1, ?_, ?_⟩, by simp [intOf]; omega⟩
      · exact (HTX.out.below (W' := w1) bl).next HSS.out
      · exact (bel_step hbl (bl : Below wr.heap.size wr w1)).setCell (p := ⟨w.heap.size, k, none⟩) (Nat.le_refl _) _
    · obtain rfl : k = r.l.length := by omega
      go_wp2_with (go_at_call 51; (with_reducible refine (KJ.out _ ?_).mono ?_); (focus (exact hT; done)); rintro e w1 ⟨rfl, hb1⟩)
      go_ret
      exact ⟨rfl, bl⟩
end Go.Proofs.YtoimjcfdiljkjaaGreatDoor
namespace Go.Proofs.YtoimjcfdiljkjaaGreatDoor
open Go.RowKit Go.Sort Go.Maps
theorem joinTail_mem {sep : List UInt8} {r : List (List UInt8)} {s : List UInt8} (h : s ∈ r) : s.length ≤ (Lib.joinTail sep r).length := by
  unfold Lib.joinTail
  induction r with
  | nil => cases h
  | cons y r ih =>
    rw [List.map_cons, List.flatten_cons, List.length_append, List.length_append]
    rcases List.mem_cons.1 h with rfl | h
    · omega
    · have := ih h
      omega
theorem join_mem {sep : List UInt8} {ts : List (List UInt8)} {s : List UInt8} (h : s ∈ ts) : s.length ≤ (Lib.join ts sep).length := by
  cases ts with
  | nil => cases h
  | cons x r =>
    rw [Lib.join_cons, List.length_append]
    rcases List.mem_cons.1 h with rfl | h
    · omega
    · have := joinTail_mem (sep := sep) h
      omega
theorem grownBy_setCellAt (W : World) (p : Addr) (v : Value) : W.grownBy (W.setCell p v) (some p.block) :=
  ⟨rfl, rfl, rfl, (KeepsWalks.setCell W _ v).size, fun k _ hk => Below.heap_setCell _ _ _ k (fun e => hk (by rw [e]))⟩
theorem wpList_insert_own {H : Type} {P : Program} (w : World) {ops : Array Oper} {rest : List Oper} {o : Oper} {a : Act} {Q : Exit → Act → World → Prop}
    (hg : o.guard = none) (m x v : Operand) (t : TypeId) (hop : o.op = Op.insert t m x v)
    (k e : TypeId) (K : Keyed P k) (ht : P.underlying t = some (.map k e)) (R : Value → Option (DataW H × List MemPlace)) (b n : Nat) (D : DataW H)
    (hm : a.eval m = .map (some b)) (hown : w.ownsMap P k R b n D) (hn : n < maxLen) (key val : Value) (kl : Lit) (hx : a.eval x = key) (hv : a.eval v = val) (hkey : keyOf P k key = some kl)
    (d : DataW H) (ps : List MemPlace) (hval : R val = some (d, ps))
    (hK : ∀ w', w'.ownsMap P k R b (n + 1) (D.put kl d) → w.grownBy w' (some b) → wpList P ops Q rest (a.put o.dst undef) w') :
    wpList P ops Q (o :: rest) a w := by
  refine wpList_plain hg fun K' hK' => ?_
  obtain ⟨w', hrun, r1, r2⟩ := hown.update K ht hn hkey hval
  unfold Oper.wp
  simp [execOp, hop, hm, hx, hv, hrun, Result.andThen]
  exact hK' _ _ (hK w' r1 r2)
set_option maxHeartbeats 2000000 in
set_option maxRecDepth 20000 in
theorem new_any (E : Rw va.En) (w : World) : Calls Tryz.prog 23 #[.slice E.A E.l.length E.c] w (fun e w' => ∃ b, e = .returned (phV E b) ∧ SymM w' b ∧ Below w.heap.size w w') := by
  have hmm := @run_makeMap Tryz.prog
  have hown := World.ownsMap_made (H := Unit) (w.alloc (.cells #[.slice none 0 0, .map none] 64)) Tryz.prog 3 (plainElem Tryz.prog 9)
  rw [World.size_alloc] at hown
  have hB : Below w.heap.size w ((w.alloc (.cells #[.slice none 0 0, .map none] 64)).alloc (.map #[] 0)) := bel_alloc (bel_box _) _
  have hsz : w.heap.size + 1 < ((w.alloc (.cells #[.slice none 0 0, .map none] 64)).alloc (.map #[] 0)).heap.size := by simp
  have e0 : ((w.alloc (.cells #[.slice none 0 0, .map none] 64)).alloc (.map #[] 0)).cell? ⟨w.heap.size, 0, none⟩ = some (.slice none 0 0) := by simp [go_sem]
  have e1 : ((w.alloc (.cells #[.slice none 0 0, .map none] 64)).alloc (.map #[] 0)).cell? ⟨w.heap.size, 1, none⟩ = some (.map none) := by simp [go_sem]
  have f0 : ((w.alloc (.cells #[.slice none 0 0, .map none] 64)).alloc (.map #[] 0)).frozen? ⟨w.heap.size, 0, none⟩ = false := by simp [go_sem]
  have f1 : ((w.alloc (.cells #[.slice none 0 0, .map none] 64)).alloc (.map #[] 0)).frozen? ⟨w.heap.size, 1, none⟩ = false := by simp [go_sem]
  go_enter Tryz.func23, Tryz.ntmps23
  go_wp2_with (refine wpList_insert_own _ rfl _ _ _ 62 rfl 3 9 (int_keyed Tryz.underlying3) Tryz.underlying62 _ _ _ _ rfl hown (by unfold maxLen; omega) _ _ _ rfl rfl (keyOf_int_mk Tryz.underlying3 (WalkArith.wf_i64 ⟨by omega, by omega⟩)) _ [] (plainElem_string Tryz.underlying9 (by unfold maxLen; decide)) ?_; clear hown; intro wk hown hgk; have hB := hB.grown hgk (by omega) (fun k e => by cases e; omega); have hsk := hgk.size; have hq := hgk.block w.heap.size (by omega) (fun e => by injection e with e; omega); have e0 := (World.cell?_of_block (a := ⟨w.heap.size, 0, none⟩) hq).trans e0; have e1 := (World.cell?_of_block (a := ⟨w.heap.size, 1, none⟩) hq).trans e1; have f0 := (World.frozen?_of_block (a := ⟨w.heap.size, 0, none⟩) hq).trans f0; have f1 := (World.frozen?_of_block (a := ⟨w.heap.size, 1, none⟩) hq).trans f1; have hsz : w.heap.size + 1 < wk.heap.size := (by omega); clear hsk hgk hq)
  (try simp only [Exit.inBlock, Exit.then])
  have g1 : ((wk.setCell ⟨w.heap.size, 0, none⟩ (.slice E.A E.l.length E.c)).setCell ⟨w.heap.size, 1, none⟩ (.map (some (w.heap.size + 1)))).cell? ⟨w.heap.size, 1, none⟩ = some (.map (some (w.heap.size + 1))) := World.cell?_setCell_same _ _ _ ((World.cell?_setCell_other _ _ _ _ (by simp)).trans e1)
  have g0 : ((wk.setCell ⟨w.heap.size, 0, none⟩ (.slice E.A E.l.length E.c)).setCell ⟨w.heap.size, 1, none⟩ (.map (some (w.heap.size + 1)))).cell? ⟨w.heap.size, 0, none⟩ = some (.slice E.A E.l.length E.c) := (World.cell?_setCell_other _ _ _ _ (by simp)).trans (World.cell?_setCell_same _ _ _ e0)
  refine bodyPost_ret (v := phV E (w.heap.size + 1)) (by simp [results, Tryz.f23, go_sem, g0, g1]) rfl ?_
  clear g0 g1
  refine ⟨_, rfl, ⟨_, _, (hown.kept (row := some w.heap.size) (grownBy_setCellAt _ ⟨_, 0, none⟩ _) (by simp)).kept (row := some w.heap.size) (grownBy_setCellAt _ ⟨_, 1, none⟩ _) (by simp), fun op h3 h16 => ?_⟩, (hB.setCell (p := ⟨w.heap.size, 0, none⟩) (Nat.le_refl _) _).setCell (p := ⟨w.heap.size, 1, none⟩) (Nat.le_refl _) _⟩
  have : op = 3 ∨ op = 4 ∨ op = 5 ∨ op = 6 ∨ op = 7 ∨ op = 8 ∨ op = 9 ∨ op = 10 ∨ op = 11 ∨ op = 12 ∨ op = 13 ∨ op = 14 ∨ op = 15 ∨ op = 16 := by omega
  rcases this with rfl | rfl | rfl | rfl | rfl | rfl | rfl | rfl | rfl | rfl | rfl | rfl | rfl | rfl
  all_goals rfl
set_option maxHeartbeats 2000000 in
set_option maxRecDepth 20000 in
theorem ph_clock (E : Rw va.En) (b : Nat) (r : Rw Ot) (w : World) (hs : Std w) (hE : RsE w w.heap.size E) (hr : RsO w w.heap.size r) (hl : r.l.length ≤ 17592186044416) (h : (clkS E.l r.l).length ≤ 140737488355328) :
    Calls Tryz.prog 40 #[phV E b, .slice r.A r.l.length r.c] w (Bel (.string (tB (clkS E.l r.l))) w) := by
  have KJ : Hid (∀ W, Below w.heap.size w W → Calls Tryz.prog 78 #[.slice r.A r.l.length r.c, .string ⟨#[32]⟩, .func (.func 67) #[phV E b] #[]] W (Bel (.string (tB (clkS E.l r.l))) W)) := Lib.hid fun W hb =>
    joined_On (phV E b) r (smpS E.l) ⟨#[32]⟩ W (hr.blw hb hb.size).1 (Lib.hid fun y hy W' hb' => ph_sampling E b y W' ((hs.to hb).to hb') ((hE.blw hb hb.size).blw hb' hb'.size) (hr.2 y hy).2 (Nat.le_trans (join_mem (sep := [32]) (List.mem_map.2 ⟨y, hy, rfl⟩)) h)) hl h
  generalize clkS E.l r.l = z at *
  clear hs hE hr h hl
  go_enter Tryz.func40, Tryz.ntmps40
  go_wp2_with (go_at_call 78; (with_reducible refine (KJ.out _ ?_).mono ?_); (exact bl); rintro e w1 ⟨rfl, hb1⟩)
  go_ret
  exact ⟨rfl, bl⟩
end Go.Proofs.YtoimjcfdiljkjaaGreatDoor
namespace Go.Proofs.YtoimjcfdiljkjaaGreatDoor
open Go.RowKit Go.Sort
theorem dBox {w W : World} (E : Rw va.En) (d : Dt) (b : Nat) (h : Below (((w.alloc (.cells #[.slice E.A E.l.length E.c, .map (some b)] 64)).alloc (.cells #[.string d.nm, .int .i64 d.ty, .slice d.ck.A d.ck.l.length d.ck.c] 50))).heap.size ((w.alloc (.cells #[.slice E.A E.l.length E.c, .map (some b)] 64)).alloc (.cells #[.string d.nm, .int .i64 d.ty, .slice d.ck.A d.ck.l.length d.ck.c] 50)) W) :
    W.cell? ⟨w.heap.size + 1, 0, none⟩ = some (.string d.nm) ∧ W.cell? ⟨w.heap.size + 1, 2, none⟩ = some (.slice d.ck.A d.ck.l.length d.ck.c) ∧ W.cell? ⟨w.heap.size, 0, none⟩ = some (.slice E.A E.l.length E.c) ∧ W.cell? ⟨w.heap.size, 1, none⟩ = some (.map (some b)) := by
  have hc : ∀ q : Addr, q.block < w.heap.size + 2 → W.cell? q = _ := fun q hq => h.cell (by rw [World.size_alloc, World.size_alloc]; exact hq)
  refine ⟨?_, ?_, ?_, ?_⟩
  all_goals (rw [hc _ (by simp)]; simp [go_sem])
set_option maxHeartbeats 2000000 in
set_option maxRecDepth 20000 in
theorem ph_decl (E : Rw va.En) (b : Nat) (d : Dt) (w : World) (hs : Std w) (hE : RsE w w.heap.size E) (hr : RsD w w.heap.size d) (hl : d.ck.l.length ≤ 17592186044416) (h : (dclS E.l d).length ≤ 140737488355328) :
    Calls Tryz.prog 93 #[phV E b, dV d] w (Bel (.string (tB (dclS E.l d))) w) := by
  have KN : Hid (∀ W, Below w.heap.size w W → Calls Tryz.prog 126 #[.slice E.A E.l.length E.c, .int .i64 d.ty] W (Bel (.tuple #[.string (va.nameT E.l d.ty), .bool (va.valB E.l d.ty)]) W)) := Lib.hid fun W hb => by
    have hE' := hE.blw hb hb.size
    have hl := hE'.2.1.1
    unfold maxLen at hl
    exact va.name_any E.A E.c E.l d.ty W hE'.1 (by omega) hr.1.2
  have KC : Hid (0 < d.ck.l.length → ∀ W, Below w.heap.size w W → Calls Tryz.prog 40 #[phV E b, .slice d.ck.A d.ck.l.length d.ck.c] W (Bel (.string (tB (clkS E.l d.ck.l))) W)) := Lib.hid fun h0 W hb =>
    ph_clock E b d.ck W (hs.to hb) (hE.blw hb hb.size) (hr.2.blw hb hb.size) hl (by unfold dclS at h; rw [if_pos h0] at h; simp only [List.length_append] at h; omega)
  clear hs hE hr hl
  have hH := h
  unfold dclS at h ⊢
  generalize va.nameT E.l d.ty = nt at *
  generalize va.valB E.l d.ty = vt at *
  generalize clkS E.l d.ck.l = ck at *
  clear hH
  by_cases z0 : 0 < d.ck.l.length
  · have KC := Lib.hid (KC.out z0)
    rw [if_pos z0] at h ⊢
    have q0 : (0 : Int) < (d.ck.l.length : Int) := by omega
    clear z0
    obtain ⟨z1, hz1⟩ : ∃ q, (bsT d.nm) ++ ([58, 32]) = q := ⟨_, rfl⟩
    have lz1 := congrArg List.length hz1
    rw [List.length_append] at lz1
    obtain ⟨z2, hz2⟩ : ∃ q, (z1) ++ (bsT nt) = q := ⟨_, rfl⟩
    have lz2 := congrArg List.length hz2
    rw [List.length_append] at lz2
    obtain ⟨z3, hz3⟩ : ∃ q, ([32]) ++ (ck) = q := ⟨_, rfl⟩
    have lz3 := congrArg List.length hz3
    rw [List.length_append] at lz3
    obtain ⟨z4, hz4⟩ : ∃ q, (z2) ++ (z3) = q := ⟨_, rfl⟩
    have lz4 := congrArg List.length hz4
    rw [List.length_append] at lz4
    have heq : z4 = bsT d.nm ++ [58, 32] ++ bsT nt ++ ([32] ++ ck) := by
      subst hz1 hz2 hz3 hz4
      rfl
    have hll : z4.length ≤ 140737488355328 := by rw [heq]; exact h
    have kaz1 := fun w => add_tB (P := Tryz.prog) w (A := d.nm) (B := ⟨#[58, 32]⟩) (tB_bsT _).symm rfl hz1 (by simp only [List.length_cons, List.length_nil] at *; omega)
    have kaz2 := fun w => add_tB (P := Tryz.prog) w (A := tB z1) (B := nt) rfl (tB_bsT _).symm hz2 (by simp only [List.length_cons, List.length_nil] at *; omega)
    have kaz3 := fun w => add_tB (P := Tryz.prog) w (A := ⟨#[32]⟩) (B := tB ck) rfl rfl hz3 (by simp only [List.length_cons, List.length_nil] at *; omega)
    have kaz4 := fun w => add_tB (P := Tryz.prog) w (A := tB z2) (B := tB z3) rfl rfl hz4 (by simp only [List.length_cons, List.length_nil] at *; omega)
    have HZ := Lib.hid heq
    clear heq hll hz1 hz2 hz3 hz4 lz1 lz2 lz3 lz4
    rw [← HZ.out]
    clear HZ h
    go_enter Tryz.func93, Tryz.ntmps93
    go_wp2_with (first | (go_at_call 126; (with_reducible refine (KN.out _ ?_).mono ?_); (exact bl); rintro e w1 ⟨rfl, hb1⟩; obtain ⟨g0, g1, g2, g3⟩ := dBox E d b (w := w) (W := w1) bl) | (go_at_call 40; (with_reducible refine (KC.out _ ?_).mono ?_); (exact bl); rintro e w2 ⟨rfl, hb2⟩))
    go_ret
    exact ⟨rfl, bl⟩
  · have q0 : (d.ck.l.length : Int) ≤ (0 : Int) := by omega
    rw [if_neg z0] at h ⊢
    rw [List.append_nil] at h ⊢
    clear z0 KC
    obtain ⟨z1, hz1⟩ : ∃ q, (bsT d.nm) ++ ([58, 32]) = q := ⟨_, rfl⟩
    have lz1 := congrArg List.length hz1
    rw [List.length_append] at lz1
    obtain ⟨z2, hz2⟩ : ∃ q, (z1) ++ (bsT nt) = q := ⟨_, rfl⟩
    have lz2 := congrArg List.length hz2
    rw [List.length_append] at lz2
    have heq : z2 = bsT d.nm ++ [58, 32] ++ bsT nt := by
      subst hz1 hz2
      rfl
    have hll : z2.length ≤ 140737488355328 := by rw [heq]; exact h
    have kaz1 := fun w => add_tB (P := Tryz.prog) w (A := d.nm) (B := ⟨#[58, 32]⟩) (tB_bsT _).symm rfl hz1 (by simp only [List.length_cons, List.length_nil] at *; omega)
    have kaz2 := fun w => add_tB (P := Tryz.prog) w (A := tB z1) (B := nt) rfl (tB_bsT _).symm hz2 (by simp only [List.length_cons, List.length_nil] at *; omega)
    have HZ := Lib.hid heq
    clear heq hll hz1 hz2 lz1 lz2
    rw [← HZ.out]
    clear HZ h
    go_enter Tryz.func93, Tryz.ntmps93
    go_wp2_with (first | (go_at_call 126; (with_reducible refine (KN.out _ ?_).mono ?_); (exact bl); rintro e w1 ⟨rfl, hb1⟩; obtain ⟨g0, g1, g2, g3⟩ := dBox E d b (w := w) (W := w1) bl))
    go_ret
    exact ⟨rfl, bl⟩
set_option maxHeartbeats 2000000 in
set_option maxRecDepth 20000 in
theorem ph_decls (E : Rw va.En) (b : Nat) (r : Rw Dt) (w : World) (hs : Std w) (hE : RsE w w.heap.size E) (hr : RsDs w w.heap.size r) (hl : r.l.length ≤ 17592186044416) (hl2 : ∀ d ∈ r.l, d.ck.l.length ≤ 17592186044416) (h : (dcsS E.l r.l).length ≤ 140737488355328) :
    Calls Tryz.prog 52 #[phV E b, .slice r.A r.l.length r.c] w (Bel (.string (tB (dcsS E.l r.l))) w) := by
  have KJ : Hid (∀ W, Below w.heap.size w W → Calls Tryz.prog 92 #[.slice r.A r.l.length r.c, .string ⟨#[59, 32]⟩, .func (.func 93) #[phV E b] #[]] W (Bel (.string (tB (dcsS E.l r.l))) W)) := Lib.hid fun W hb =>
    joined_Decl (phV E b) r (dclS E.l) ⟨#[59, 32]⟩ W (hr.blw hb hb.size).1 (Lib.hid fun y hy W' hb' => ph_decl E b y W' ((hs.to hb).to hb') ((hE.blw hb hb.size).blw hb' hb'.size) (((hr.blw hb hb.size).blw hb' hb'.size).2 y hy) (hl2 y hy) (Nat.le_trans (join_mem (sep := [59, 32]) (List.mem_map.2 ⟨y, hy, rfl⟩)) h)) hl h
  generalize dcsS E.l r.l = z at *
  clear hs hE hr h hl hl2
  go_enter Tryz.func52, Tryz.ntmps52
  go_wp2_with (go_at_call 92; (with_reducible refine (KJ.out _ ?_).mono ?_); (exact bl); rintro e w1 ⟨rfl, hb1⟩)
  go_ret
  exact ⟨rfl, bl⟩
set_option maxHeartbeats 2000000 in
set_option maxRecDepth 20000 in
theorem ph_operand (E : Rw va.En) (b : Nat) (x : Xt) (s : List UInt8) (w : World) (h : (opdS x s).length ≤ 140737488355328)
    (KE : Hid (∀ W, Below w.heap.size w W → Calls Tryz.prog 36 #[phV E b, xV x] W (Bel (.string (tB s)) W))) :
    Calls Tryz.prog 65 #[phV E b, xV x] w (Bel (.string (tB (opdS x s))) w) := by
  have KB : Hid (bareB x = false → ∀ W, Calls Tryz.prog 105 #[.string (tB s)] W (Bel (.string (tB (brS s))) W)) := Lib.hid fun hb W => ph_brackets s (by unfold opdS at h; rw [hb] at h; exact h) W
  clear h
  unfold opdS
  simp only [xV] at KE ⊢
  by_cases k2 : x.k = 2
  · have hb : bareB x = true := by simp [bareB, k2]
    rw [if_pos hb]
    have q0 : (x.k == 2) = true := by simp [k2]
    clear k2 hb KB
    go_enter Tryz.func65, Tryz.ntmps65
    go_wp2_with (first | (go_at_call 36; (with_reducible refine (KE.out _ ?_).mono ?_); (exact bl); rintro e w1 ⟨rfl, hb1⟩))
    go_ret
    exact ⟨rfl, bl⟩
  by_cases k11 : x.k = 11
  · have hb : bareB x = true := by simp [bareB, k11]
    rw [if_pos hb]
    have q0 : (x.k == 2) = false := by simp [k11]
    have q1 : (x.k == 11) = true := by simp [k11]
    clear k2 k11 hb KB
    go_enter Tryz.func65, Tryz.ntmps65
    go_wp2_with (first | (go_at_call 36; (with_reducible refine (KE.out _ ?_).mono ?_); (exact bl); rintro e w1 ⟨rfl, hb1⟩))
    go_ret
    exact ⟨rfl, bl⟩
  by_cases k10 : x.k = 10
  · have hb : bareB x = true := by simp [bareB, k10]
    rw [if_pos hb]
    have q0 : (x.k == 2) = false := by simp [k10]
    have q1 : (x.k == 11) = false := by simp [k10]
    have q2 : (x.k == 10) = true := by simp [k10]
    clear k2 k11 k10 hb KB
    go_enter Tryz.func65, Tryz.ntmps65
    go_wp2_with (first | (go_at_call 36; (with_reducible refine (KE.out _ ?_).mono ?_); (exact bl); rintro e w1 ⟨rfl, hb1⟩))
    go_ret
    exact ⟨rfl, bl⟩
  have q0 : (x.k == 2) = false := by simp [k2]
  have q1 : (x.k == 11) = false := by simp [k11]
  have q2 : (x.k == 10) = false := by simp [k10]
  by_cases k1 : x.k = 1
  · have q3 : (x.k == 1) = true := by simp [k1]
    by_cases t2 : x.t = 2
    · have q4 : (x.t != 2) = false := by simp [t2]
      by_cases v0 : 0 ≤ x.v
      · have hb : bareB x = true := by simp [bareB, k1, v0]
        rw [if_pos hb]
        clear k1 k2 k11 k10 t2 hb KB
        go_enter Tryz.func65, Tryz.ntmps65
        go_wp2_with (first | (go_at_call 36; (with_reducible refine (KE.out _ ?_).mono ?_); (exact bl); rintro e w1 ⟨rfl, hb1⟩))
        go_ret
        exact ⟨rfl, bl⟩
      · have hb : bareB x = false := by simp [bareB, k1, t2]; omega
        have q5 : x.v < 0 := by omega
        have KB := Lib.hid (KB.out hb)
        rw [if_neg (by rw [hb]; decide)]
        clear k1 k2 k11 k10 t2 hb v0
        go_enter Tryz.func65, Tryz.ntmps65
        go_wp2_with (first | (go_at_call 36; (with_reducible refine (KE.out _ ?_).mono ?_); (exact bl); rintro e w1 ⟨rfl, hb1⟩) | (go_at_call 105; (with_reducible refine (KB.out _).mono ?_); rintro e w2 ⟨rfl, hb2⟩))
        go_ret
        exact ⟨rfl, bl⟩
    · have hb : bareB x = true := by simp [bareB, k1, t2]
      rw [if_pos hb]
      have q4 : (x.t != 2) = true := by simp [t2]
      clear k1 k2 k11 k10 t2 hb KB
      go_enter Tryz.func65, Tryz.ntmps65
      go_wp2_with (first | (go_at_call 36; (with_reducible refine (KE.out _ ?_).mono ?_); (exact bl); rintro e w1 ⟨rfl, hb1⟩))
      go_ret
      exact ⟨rfl, bl⟩
  · have hb : bareB x = false := by simp [bareB, k1, k2, k10, k11]
    have q3 : (x.k == 1) = false := by simp [k1]
    have KB := Lib.hid (KB.out hb)
    rw [if_neg (by rw [hb]; decide)]
    clear k1 k2 k11 k10 hb
    go_enter Tryz.func65, Tryz.ntmps65
    go_wp2_with (first | (go_at_call 36; (with_reducible refine (KE.out _ ?_).mono ?_); (exact bl); rintro e w1 ⟨rfl, hb1⟩) | (go_at_call 105; (with_reducible refine (KB.out _).mono ?_); rintro e w2 ⟨rfl, hb2⟩))
    go_ret
    exact ⟨rfl, bl⟩
set_option maxHeartbeats 2000000 in
set_option maxRecDepth 20000 in
theorem ph_negated (E : Rw va.En) (b : Nat) (x : Xt) (s : List UInt8) (w : World) (h : (negS x s).length ≤ 140737488355328)
    (KE : Hid (∀ W, Below w.heap.size w W → Calls Tryz.prog 36 #[phV E b, xV x] W (Bel (.string (tB s)) W))) :
    Calls Tryz.prog 104 #[phV E b, xV x] w (Bel (.string (tB (negS x s))) w) := by
  unfold negS at h ⊢
  by_cases kt : x.k = 1 ∧ x.t = 2
  · rw [if_pos kt] at h ⊢
    have KB : Hid (∀ W, Calls Tryz.prog 105 #[.string (tB s)] W (Bel (.string (tB (brS s))) W)) := Lib.hid fun W => ph_brackets s h W
    have q0 : (x.k == 1) = true := by simp [kt.1]
    have q1 : (x.t == 2) = true := by simp [kt.2]
    simp only [xV] at KE ⊢
    clear h kt
    go_enter Tryz.func104, Tryz.ntmps104
    go_wp2_with (first | (go_at_call 36; (with_reducible refine (KE.out _ ?_).mono ?_); (exact bl); rintro e w1 ⟨rfl, hb1⟩) | (go_at_call 105; (with_reducible refine (KB.out _).mono ?_); rintro e w2 ⟨rfl, hb2⟩))
    go_ret
    exact ⟨rfl, bl⟩
  · rw [if_neg kt] at h ⊢
    have KO : Hid (∀ W, Below w.heap.size w W → Calls Tryz.prog 65 #[phV E b, xV x] W (Bel (.string (tB (opdS x s))) W)) := Lib.hid fun W hb => ph_operand E b x s W h (Lib.hid fun W' hb' => KE.out W' (hb.trans (hb'.mono hb.size)))
    simp only [xV] at KO ⊢
    clear h KE
    by_cases k1 : x.k = 1
    · have q0 : (x.k == 1) = true := by simp [k1]
      have q1 : (x.t == 2) = false := by simp; intro e; exact kt ⟨k1, e⟩
      clear kt k1
      go_enter Tryz.func104, Tryz.ntmps104
      go_wp2_with (first | (go_at_call 65; (with_reducible refine (KO.out _ ?_).mono ?_); (exact bl); rintro e w1 ⟨rfl, hb1⟩))
      go_ret
      exact ⟨rfl, bl⟩
    · have q0 : (x.k == 1) = false := by simp [k1]
      clear kt k1
      go_enter Tryz.func104, Tryz.ntmps104
      go_wp2_with (first | (go_at_call 65; (with_reducible refine (KO.out _ ?_).mono ?_); (exact bl); rintro e w1 ⟨rfl, hb1⟩))
      go_ret
      exact ⟨rfl, bl⟩
end Go.Proofs.YtoimjcfdiljkjaaGreatDoor
namespace Go.Proofs.YtoimjcfdiljkjaaGreatDoor
open Go.RowKit Go.Sort
set_option maxHeartbeats 2000000 in
set_option maxRecDepth 20000 in
theorem ph_between (E : Rw va.En) (b : Nat) (x : Xt) (sy : ByteArray) (s0 s1 : List UInt8) (a0 a1 : Xt) (w : World) (hx : RdX w w.heap.size x) (h0 : x.ar[0]? = some a0) (h1 : x.ar[1]? = some a1)
    (K0 : Hid (∀ W, Below w.heap.size w W → Calls Tryz.prog 36 #[phV E b, xV a0] W (Bel (.string (tB s0)) W)))
    (K1 : Hid (∀ W, Below w.heap.size w W → Calls Tryz.prog 36 #[phV E b, xV a1] W (Bel (.string (tB s1)) W)))
    (h : (opdS a0 s0 ++ [32] ++ bsT sy ++ [32] ++ opdS a1 s1).length ≤ 140737488355328) :
    Calls Tryz.prog 66 #[phV E b, xV x, .string sy] w (Bel (.string (tB (opdS a0 s0 ++ [32] ++ bsT sy ++ [32] ++ opdS a1 s1))) w) := by
  have KO0 : Hid (∀ W, Below w.heap.size w W → Calls Tryz.prog 65 #[phV E b, xV a0] W (Bel (.string (tB (opdS a0 s0))) W)) := Lib.hid fun W hb => ph_operand E b a0 s0 W (by simp only [List.length_append] at h; omega) (Lib.hid fun W' hb' => K0.out W' (hb.trans (hb'.mono hb.size)))
  have KO1 : Hid (∀ W, Below w.heap.size w W → Calls Tryz.prog 65 #[phV E b, xV a1] W (Bel (.string (tB (opdS a1 s1))) W)) := Lib.hid fun W hb => ph_operand E b a1 s1 W (by simp only [List.length_append] at h; omega) (Lib.hid fun W' hb' => K1.out W' (hb.trans (hb'.mono hb.size)))
  generalize opdS a0 s0 = o0 at *
  generalize opdS a1 s1 = o1 at *
  clear K0 K1
  obtain ⟨z1, hz1⟩ : ∃ q, (o0) ++ ([32]) = q := ⟨_, rfl⟩
  have lz1 := congrArg List.length hz1
  rw [List.length_append] at lz1
  obtain ⟨z2, hz2⟩ : ∃ q, (z1) ++ (bsT sy) = q := ⟨_, rfl⟩
  have lz2 := congrArg List.length hz2
  rw [List.length_append] at lz2
  obtain ⟨z3, hz3⟩ : ∃ q, (z2) ++ ([32]) = q := ⟨_, rfl⟩
  have lz3 := congrArg List.length hz3
  rw [List.length_append] at lz3
  obtain ⟨z4, hz4⟩ : ∃ q, (z3) ++ (o1) = q := ⟨_, rfl⟩
  have lz4 := congrArg List.length hz4
  rw [List.length_append] at lz4
  have heq : z4 = o0 ++ [32] ++ bsT sy ++ [32] ++ o1 := by
    subst hz1 hz2 hz3 hz4
    rfl
  have hll : z4.length ≤ 140737488355328 := by rw [heq]; exact h
  have kaz1 := fun w => add_tB (P := Tryz.prog) w (A := tB o0) (B := ⟨#[32]⟩) rfl rfl hz1 (by simp only [List.length_cons, List.length_nil] at *; omega)
  have kaz2 := fun w => add_tB (P := Tryz.prog) w (A := tB z1) (B := sy) rfl (tB_bsT _).symm hz2 (by simp only [List.length_cons, List.length_nil] at *; omega)
  have kaz3 := fun w => add_tB (P := Tryz.prog) w (A := tB z2) (B := ⟨#[32]⟩) rfl rfl hz3 (by simp only [List.length_cons, List.length_nil] at *; omega)
  have kaz4 := fun w => add_tB (P := Tryz.prog) w (A := tB z3) (B := tB o1) rfl rfl hz4 (by simp only [List.length_cons, List.length_nil] at *; omega)
  have HZ := Lib.hid heq
  clear heq hll hz1 hz2 hz3 hz4 lz1 lz2 lz3 lz4
  rw [← HZ.out]
  clear HZ h
  have hlen : x.ar.length ≤ 9223372036854775807 := by have := hx.len.1; unfold maxLen at this; exact this
  have hl2 : 1 < x.ar.length := (List.getElem?_eq_some_iff.1 h1).1
  have hi0 : (0 : Int) < (x.ar.length : Int) := by omega
  have hi1 : (1 : Int) < (x.ar.length : Int) := by omega
  have hn0 : 0 < x.ar.length := by omega
  simp only [xV] at KO0 KO1 ⊢
  go_enter Tryz.func66, Tryz.ntmps66
  go_wp2
  obtain ⟨W0, hW0⟩ : ∃ W0, ((w.alloc (.cells #[.slice E.A E.l.length E.c, .map (some b)] 64)).alloc (.cells #[.int .i64 x.k, .int .i64 x.op, .int .i64 x.t, .int .i64 x.v, .string x.nm, .slice x.A x.ar.length x.c] 33)) = W0 := ⟨_, rfl⟩
  have hB0 : Below w.heap.size w W0 := by rw [← hW0]; exact bel_alloc (bel_box _) _
  have b00 : W0.cell? ⟨w.heap.size, 0, none⟩ = some (.slice E.A E.l.length E.c) := by rw [← hW0]; simp [go_sem]
  have b01 : W0.cell? ⟨w.heap.size, 1, none⟩ = some (.map (some b)) := by rw [← hW0]; simp [go_sem]
  have b10 : W0.cell? ⟨w.heap.size + 1, 0, none⟩ = some (.int .i64 x.k) := by rw [← hW0]; simp [go_sem]
  have b11 : W0.cell? ⟨w.heap.size + 1, 1, none⟩ = some (.int .i64 x.op) := by rw [← hW0]; simp [go_sem]
  have b12 : W0.cell? ⟨w.heap.size + 1, 2, none⟩ = some (.int .i64 x.t) := by rw [← hW0]; simp [go_sem]
  have b13 : W0.cell? ⟨w.heap.size + 1, 3, none⟩ = some (.int .i64 x.v) := by rw [← hW0]; simp [go_sem]
  have b14 : W0.cell? ⟨w.heap.size + 1, 4, none⟩ = some (.string x.nm) := by rw [← hW0]; simp [go_sem]
  have b15 : W0.cell? ⟨w.heap.size + 1, 5, none⟩ = some (.slice x.A x.ar.length x.c) := by rw [← hW0]; simp [go_sem]
  have HW0 := Lib.hid hW0
  clear hW0
  rw [HW0.out]
  obtain ⟨ad0, y0, hA0, had0, hy0, _, ⟨c00, c01, c02, c03, c04, c05⟩, _⟩ := (hx.to hB0).at_ (i := 0) (by have := (List.getElem?_eq_some_iff.1 h0).1; omega)
  obtain rfl : y0 = a0 := Option.some.inj (hy0.symm.trans h0)
  obtain ⟨ad1, y1, hA1, had1, hy1, _, ⟨c10, c11, c12, c13, c14, c15⟩, _⟩ := (hx.to hB0).at_ (i := 1) (by have := (List.getElem?_eq_some_iff.1 h1).1; omega)
  obtain rfl : y1 = a1 := Option.some.inj (hy1.symm.trans h1)
  obtain rfl : ad0 = ad1 := Option.some.inj (hA0.symm.trans hA1)
  rw [hA0] at b15 ⊢
  clear hA0 hA1 hy0 hy1
  simp [go_sem] at c00 c01 c02 c03 c04 c05 c10 c11 c12 c13 c14 c15
  have q_b00 := cell_regrown b00
  have q_b01 := cell_regrown b01
  have q_b10 := cell_regrown b10
  have q_b11 := cell_regrown b11
  have q_b12 := cell_regrown b12
  have q_b13 := cell_regrown b13
  have q_b14 := cell_regrown b14
  have q_b15 := cell_regrown b15
  have q_c00 := cell_regrown c00
  have q_c01 := cell_regrown c01
  have q_c02 := cell_regrown c02
  have q_c03 := cell_regrown c03
  have q_c04 := cell_regrown c04
  have q_c05 := cell_regrown c05
  have q_c10 := cell_regrown c10
  have q_c11 := cell_regrown c11
  have q_c12 := cell_regrown c12
  have q_c13 := cell_regrown c13
  have q_c14 := cell_regrown c14
  have q_c15 := cell_regrown c15
  have k_0 := fun dd os => Calls.regrown_of (KO0.out (grow (redrawn W0 dd) os) (hB0.trans ((below_regrown W0 dd os).mono hB0.size)))
  have k_1 := fun dd os => Calls.regrown_of (KO1.out (grow (redrawn W0 dd) os) (hB0.trans ((below_regrown W0 dd os).mono hB0.size)))
  refine wp_region_quiet_below (by kernel_rfl) (by kernel_rfl) ?_
  repeat (quiet_step (first | with_reducible exact k_0 _ _ | with_reducible exact k_1 _ _))
  refine wpQuiet_nil ?_
  intro _ hw'
  obtain ⟨⟨dq, osq⟩, hw''⟩ := hw'
  subst hw''
  have hrw9 : Below W0.heap.size W0 (grow (redrawn W0 dq) osq) := below_regrown W0 dq osq
  have hw9 : Below w.heap.size w (grow (redrawn W0 dq) osq) := hB0.trans (hrw9.mono hB0.size)
  generalize grow (redrawn W0 dq) osq = w9 at hw9 hrw9 ⊢
  clear q_b00 q_b01 q_b10 q_b11 q_b12 q_b13 q_b14 q_b15 q_c00 q_c01 q_c02 q_c03 q_c04 q_c05 q_c10 q_c11 q_c12 q_c13 q_c14 q_c15 k_0 k_1
  go_wp2
  go_ret
  exact ⟨rfl, hw9⟩
end Go.Proofs.YtoimjcfdiljkjaaGreatDoor
namespace Go.Proofs.YtoimjcfdiljkjaaGreatDoor
open Go.RowKit Go.Sort
theorem opI_at {l : List Xt} {f : Xt → List UInt8} {i : Nat} {a : Xt} (h : l[i]? = some a) : opI l (l.map f) i = opdS a (f a) := by
  unfold opI
  rw [List.getD_eq_getElem?_getD, List.getD_eq_getElem?_getD, List.getElem?_map, h]
  rfl
theorem one_of {l : List Xt} (h : l.length = 1) : ∃ a, l[0]? = some a := ⟨l[0], List.getElem?_eq_getElem (by omega)⟩
theorem at_of {l : List Xt} {i : Nat} (h : i < l.length) : ∃ a, l[i]? = some a := ⟨l[i], List.getElem?_eq_getElem h⟩
set_option maxHeartbeats 2000000 in
set_option maxRecDepth 20000 in
theorem ph_operation (E : Rw va.En) (b : Nat) (x : Xt) (f : Xt → List UInt8) (w : World) (hM : SymM w b) (hx : RdX w w.heap.size x) (hk : x.k = 3) (hw : wf1 x)
    (KX : Hid (∀ y ∈ x.ar, ∀ W, Below w.heap.size w W → Calls Tryz.prog 36 #[phV E b, xV y] W (Bel (.string (tB (f y))) W))) (h : (oprS x.op x.ar (x.ar.map f)).length ≤ 140737488355328) :
    Calls Tryz.prog 64 #[phV E b, xV x] w (Bel (.string (tB (oprS x.op x.ar (x.ar.map f)))) w) := by
  have hw3 := hw.1 hk
  clear hw hk
  by_cases p1 : x.op = 1
  · have hl : x.ar.length = 1 := by omega
    obtain ⟨a0, h0⟩ := one_of hl
    unfold oprS at h ⊢
    rw [if_pos p1, opI_at h0] at h ⊢
    have q0 : (x.op == 1) = true := by simp [p1]
    clear hw3 p1 hl
    have KO : Hid (∀ W, Below w.heap.size w W → Calls Tryz.prog 65 #[phV E b, xV a0] W (Bel (.string (tB (opdS a0 (f a0)))) W)) := Lib.hid fun W hb => ph_operand E b a0 (f a0) W (by simp only [List.length_append] at h; omega) (Lib.hid fun W' hb' => KX.out a0 (List.mem_of_getElem? h0) W' (hb.trans (hb'.mono hb.size)))
    generalize opdS a0 (f a0) = o0 at *
    obtain ⟨z1, hz1⟩ : ∃ q, ([110, 111, 116, 32]) ++ (o0) = q := ⟨_, rfl⟩
    have lz1 := congrArg List.length hz1
    rw [List.length_append] at lz1
    have heq : z1 = [110, 111, 116, 32] ++ o0 := by
      subst hz1
      rfl
    have hll : z1.length ≤ 140737488355328 := by rw [heq]; exact h
    have kaz1 := fun w => add_tB (P := Tryz.prog) w (A := ⟨#[110, 111, 116, 32]⟩) (B := tB o0) rfl rfl hz1 (by simp only [List.length_cons, List.length_nil] at *; omega)
    have HZ := Lib.hid heq
    clear heq hll hz1 lz1
    rw [← HZ.out]
    have hlen : x.ar.length ≤ 9223372036854775807 := by have := hx.len.1; unfold maxLen at this; exact this
    have hmx := (List.getElem?_eq_some_iff.1 h0).1
    have hi0 : (0 : Int) < (x.ar.length : Int) := by omega
    have hn0 : 0 < x.ar.length := by omega
    simp only [xV] at KO ⊢
    clear KX HZ h hM
    go_enter Tryz.func64, Tryz.ntmps64
    go_wp2
    obtain ⟨W0, hW0⟩ : ∃ W0, ((w.alloc (.cells #[.slice E.A E.l.length E.c, .map (some b)] 64)).alloc (.cells #[.int .i64 x.k, .int .i64 x.op, .int .i64 x.t, .int .i64 x.v, .string x.nm, .slice x.A x.ar.length x.c] 33)) = W0 := ⟨_, rfl⟩
    have hB0 : Below w.heap.size w W0 := by rw [← hW0]; exact bel_alloc (bel_box _) _
    have b00 : W0.cell? ⟨w.heap.size, 0, none⟩ = some (.slice E.A E.l.length E.c) := by rw [← hW0]; simp [go_sem]
    have b01 : W0.cell? ⟨w.heap.size, 1, none⟩ = some (.map (some b)) := by rw [← hW0]; simp [go_sem]
    have b10 : W0.cell? ⟨w.heap.size + 1, 0, none⟩ = some (.int .i64 x.k) := by rw [← hW0]; simp [go_sem]
    have b11 : W0.cell? ⟨w.heap.size + 1, 1, none⟩ = some (.int .i64 x.op) := by rw [← hW0]; simp [go_sem]
    have b12 : W0.cell? ⟨w.heap.size + 1, 2, none⟩ = some (.int .i64 x.t) := by rw [← hW0]; simp [go_sem]
    have b13 : W0.cell? ⟨w.heap.size + 1, 3, none⟩ = some (.int .i64 x.v) := by rw [← hW0]; simp [go_sem]
    have b14 : W0.cell? ⟨w.heap.size + 1, 4, none⟩ = some (.string x.nm) := by rw [← hW0]; simp [go_sem]
    have b15 : W0.cell? ⟨w.heap.size + 1, 5, none⟩ = some (.slice x.A x.ar.length x.c) := by rw [← hW0]; simp [go_sem]
    have HW0 := Lib.hid hW0
    clear hW0
    rw [HW0.out]
    obtain ⟨ad0, y0, hA0, had0, hy0, _, ⟨c00, c01, c02, c03, c04, c05⟩, _⟩ := (hx.to hB0).at_ (i := 0) (by have := (List.getElem?_eq_some_iff.1 h0).1; omega)
    obtain rfl : y0 = a0 := Option.some.inj (hy0.symm.trans h0)
    rw [hA0] at b15 ⊢
    clear hA0 hy0
    simp [go_sem] at c00 c01 c02 c03 c04 c05
    have q_b00 := cell_regrown b00
    have q_b01 := cell_regrown b01
    have q_b10 := cell_regrown b10
    have q_b11 := cell_regrown b11
    have q_b12 := cell_regrown b12
    have q_b13 := cell_regrown b13
    have q_b14 := cell_regrown b14
    have q_b15 := cell_regrown b15
    have q_c00 := cell_regrown c00
    have q_c01 := cell_regrown c01
    have q_c02 := cell_regrown c02
    have q_c03 := cell_regrown c03
    have q_c04 := cell_regrown c04
    have q_c05 := cell_regrown c05
    have k_0 := fun dd os => Calls.regrown_of (KO.out (grow (redrawn W0 dd) os) (hB0.trans ((below_regrown W0 dd os).mono hB0.size)))
    refine wp_region_quiet_below (by kernel_rfl) (by kernel_rfl) ?_
    repeat (quiet_step (first | with_reducible exact k_0 _ _))
    refine wpQuiet_nil ?_
    intro _ hw'
    obtain ⟨⟨dq, osq⟩, hw''⟩ := hw'
    subst hw''
    have hrw9 : Below W0.heap.size W0 (grow (redrawn W0 dq) osq) := below_regrown W0 dq osq
    have hw9 : Below w.heap.size w (grow (redrawn W0 dq) osq) := hB0.trans (hrw9.mono hB0.size)
    generalize grow (redrawn W0 dq) osq = w9 at hw9 hrw9 ⊢
    clear q_b00 q_b01 q_b10 q_b11 q_b12 q_b13 q_b14 q_b15 q_c00 q_c01 q_c02 q_c03 q_c04 q_c05 k_0
    go_wp2
    go_ret
    exact ⟨rfl, hw9⟩
  by_cases p2 : x.op = 2
  · have hl : x.ar.length = 1 := by omega
    obtain ⟨a0, h0⟩ := one_of hl
    unfold oprS at h ⊢
    rw [if_neg p1, if_pos p2] at h ⊢
    have e0 : negS (x.ar.getD 0 xt0) ((x.ar.map f).getD 0 []) = negS a0 (f a0) := by
      rw [List.getD_eq_getElem?_getD, List.getD_eq_getElem?_getD, List.getElem?_map, h0]
      rfl
    rw [e0] at h ⊢
    have q0 : (x.op == 1) = false := by simp [p1]
    have q1 : (x.op == 2) = true := by simp [p2]
    clear hw3 p1 p2 e0 hl
    have KO : Hid (∀ W, Below w.heap.size w W → Calls Tryz.prog 104 #[phV E b, xV a0] W (Bel (.string (tB (negS a0 (f a0)))) W)) := Lib.hid fun W hb => ph_negated E b a0 (f a0) W (by simp only [List.length_append] at h; omega) (Lib.hid fun W' hb' => KX.out a0 (List.mem_of_getElem? h0) W' (hb.trans (hb'.mono hb.size)))
    generalize negS a0 (f a0) = o0 at *
    obtain ⟨z1, hz1⟩ : ∃ q, ([45]) ++ (o0) = q := ⟨_, rfl⟩
    have lz1 := congrArg List.length hz1
    rw [List.length_append] at lz1
    have heq : z1 = [45] ++ o0 := by
      subst hz1
      rfl
    have hll : z1.length ≤ 140737488355328 := by rw [heq]; exact h
    have kaz1 := fun w => add_tB (P := Tryz.prog) w (A := ⟨#[45]⟩) (B := tB o0) rfl rfl hz1 (by simp only [List.length_cons, List.length_nil] at *; omega)
    have HZ := Lib.hid heq
    clear heq hll hz1 lz1
    rw [← HZ.out]
    have hlen : x.ar.length ≤ 9223372036854775807 := by have := hx.len.1; unfold maxLen at this; exact this
    have hmx := (List.getElem?_eq_some_iff.1 h0).1
    have hi0 : (0 : Int) < (x.ar.length : Int) := by omega
    have hn0 : 0 < x.ar.length := by omega
    simp only [xV] at KO ⊢
    clear KX HZ h hM
    go_enter Tryz.func64, Tryz.ntmps64
    go_wp2
    obtain ⟨W0, hW0⟩ : ∃ W0, ((w.alloc (.cells #[.slice E.A E.l.length E.c, .map (some b)] 64)).alloc (.cells #[.int .i64 x.k, .int .i64 x.op, .int .i64 x.t, .int .i64 x.v, .string x.nm, .slice x.A x.ar.length x.c] 33)) = W0 := ⟨_, rfl⟩
    have hB0 : Below w.heap.size w W0 := by rw [← hW0]; exact bel_alloc (bel_box _) _
    have b00 : W0.cell? ⟨w.heap.size, 0, none⟩ = some (.slice E.A E.l.length E.c) := by rw [← hW0]; simp [go_sem]
    have b01 : W0.cell? ⟨w.heap.size, 1, none⟩ = some (.map (some b)) := by rw [← hW0]; simp [go_sem]
    have b10 : W0.cell? ⟨w.heap.size + 1, 0, none⟩ = some (.int .i64 x.k) := by rw [← hW0]; simp [go_sem]
    have b11 : W0.cell? ⟨w.heap.size + 1, 1, none⟩ = some (.int .i64 x.op) := by rw [← hW0]; simp [go_sem]
    have b12 : W0.cell? ⟨w.heap.size + 1, 2, none⟩ = some (.int .i64 x.t) := by rw [← hW0]; simp [go_sem]
    have b13 : W0.cell? ⟨w.heap.size + 1, 3, none⟩ = some (.int .i64 x.v) := by rw [← hW0]; simp [go_sem]
    have b14 : W0.cell? ⟨w.heap.size + 1, 4, none⟩ = some (.string x.nm) := by rw [← hW0]; simp [go_sem]
    have b15 : W0.cell? ⟨w.heap.size + 1, 5, none⟩ = some (.slice x.A x.ar.length x.c) := by rw [← hW0]; simp [go_sem]
    have HW0 := Lib.hid hW0
    clear hW0
    rw [HW0.out]
    obtain ⟨ad0, y0, hA0, had0, hy0, _, ⟨c00, c01, c02, c03, c04, c05⟩, _⟩ := (hx.to hB0).at_ (i := 0) (by have := (List.getElem?_eq_some_iff.1 h0).1; omega)
    obtain rfl : y0 = a0 := Option.some.inj (hy0.symm.trans h0)
    rw [hA0] at b15 ⊢
    clear hA0 hy0
    simp [go_sem] at c00 c01 c02 c03 c04 c05
    have q_b00 := cell_regrown b00
    have q_b01 := cell_regrown b01
    have q_b10 := cell_regrown b10
    have q_b11 := cell_regrown b11
    have q_b12 := cell_regrown b12
    have q_b13 := cell_regrown b13
    have q_b14 := cell_regrown b14
    have q_b15 := cell_regrown b15
    have q_c00 := cell_regrown c00
    have q_c01 := cell_regrown c01
    have q_c02 := cell_regrown c02
    have q_c03 := cell_regrown c03
    have q_c04 := cell_regrown c04
    have q_c05 := cell_regrown c05
    have k_0 := fun dd os => Calls.regrown_of (KO.out (grow (redrawn W0 dd) os) (hB0.trans ((below_regrown W0 dd os).mono hB0.size)))
    refine wp_region_quiet_below (by kernel_rfl) (by kernel_rfl) ?_
    repeat (quiet_step (first | with_reducible exact k_0 _ _))
    refine wpQuiet_nil ?_
    intro _ hw'
    obtain ⟨⟨dq, osq⟩, hw''⟩ := hw'
    subst hw''
    have hrw9 : Below W0.heap.size W0 (grow (redrawn W0 dq) osq) := below_regrown W0 dq osq
    have hw9 : Below w.heap.size w (grow (redrawn W0 dq) osq) := hB0.trans (hrw9.mono hB0.size)
    generalize grow (redrawn W0 dq) osq = w9 at hw9 hrw9 ⊢
    clear q_b00 q_b01 q_b10 q_b11 q_b12 q_b13 q_b14 q_b15 q_c00 q_c01 q_c02 q_c03 q_c04 q_c05 k_0
    go_wp2
    go_ret
    exact ⟨rfl, hw9⟩
  · have hl : x.ar.length = 2 := by omega
    have h3 : 3 ≤ x.op ∧ x.op ≤ 16 := by omega
    obtain ⟨a0, h0⟩ := at_of (l := x.ar) (i := 0) (by omega)
    obtain ⟨a1, h1⟩ := at_of (l := x.ar) (i := 1) (by omega)
    unfold oprS at h ⊢
    rw [if_neg p1, if_neg p2] at h ⊢
    unfold betS at h ⊢
    rw [opI_at h0, opI_at h1] at h ⊢
    have q0 : (x.op == 1) = false := by simp [p1]
    have q1 : (x.op == 2) = false := by simp [p2]
    have KB : Hid (∀ W, Below w.heap.size w W → Calls Tryz.prog 66 #[phV E b, xV x, .string (tB (symS x.op))] W (Bel (.string (tB (opdS a0 (f a0) ++ [32] ++ symS x.op ++ [32] ++ opdS a1 (f a1)))) W)) := Lib.hid fun W hb => by
      have := ph_between E b x (tB (symS x.op)) (f a0) (f a1) a0 a1 W (hx.to hb) h0 h1 (Lib.hid fun W' hb' => KX.out a0 (List.mem_of_getElem? h0) W' (hb.trans (hb'.mono hb.size))) (Lib.hid fun W' hb' => KX.out a1 (List.mem_of_getElem? h1) W' (hb.trans (hb'.mono hb.size))) (by rw [bsT_tB]; exact h)
      rwa [bsT_tB] at this
    have HM := Lib.hid (fun W (hb : Below w.heap.size w W) => (hM.to hb).look h3.1 h3.2)
    clear h hx hM KX hw3 p1 p2 h3 h0 h1 hl
    generalize tB (opdS a0 (f a0) ++ [32] ++ symS x.op ++ [32] ++ opdS a1 (f a1)) = z at *
    generalize tB (symS x.op) = sy at *
    simp only [xV] at KB ⊢
    have hlk := HM.out ((w.alloc (.cells #[.slice E.A E.l.length E.c, .map (some b)] 64)).alloc (.cells #[.int .i64 x.k, .int .i64 x.op, .int .i64 x.t, .int .i64 x.v, .string x.nm, .slice x.A x.ar.length x.c] 33)) (bel_alloc (bel_box _) _)
    go_enter Tryz.func64, Tryz.ntmps64
    go_wp2_with (go_at_call 66; (with_reducible refine (KB.out _ ?_).mono ?_); (exact bl); rintro e w1 ⟨rfl, hb1⟩)
    go_ret
    exact ⟨rfl, bl⟩
end Go.Proofs.YtoimjcfdiljkjaaGreatDoor
namespace Go.Proofs.YtoimjcfdiljkjaaGreatDoor
open Go.Sort Go.RowKit
variable {P : Program} {ops : Array Oper} {md : Region.Mode} {C : World → Prop}
def wpAnyLQ (P : Program) (md : Region.Mode) (ops : Array Oper) (C : World → Prop) (n : Nat) (L : Array Bool → Act → Prop) : Nat → Array Bool → Act → Prop
  | 0, listed, a => L listed a
  | f + 1, listed, a =>
    Region.ready md ops listed ≠ [] ∧ ∀ i ∈ Region.ready md ops listed, i < n ∧ qOp P ops C i (wpAnyLQ P md ops C n L f (listed.setIfInBounds i true)) a
theorem wpAny_of_headQ {n g : Nat} {L : Array Bool → Act → Prop} {Q' : Exit → Act → World → Prop} (hL : ∀ listed a w, C w → L listed a → wpAny P md ops Q' g listed a w) :
    ∀ (f : Nat) (listed : Array Bool) (a : Act) (w : World), C w → wpAnyLQ P md ops C n L f listed a → wpAny P md ops Q' (f + g) listed a w
  | 0, listed, a, w, hw, h => by rw [Nat.zero_add]; exact hL _ _ _ hw h
  | f + 1, listed, a, w, hw, h => by
    rw [show f + 1 + g = (f + g) + 1 by omega]
    exact ⟨fun h0 => absurd h0 h.1, fun i hi => wpOp_of_qOp hw (fun a' w' hw' h' => wpAny_of_headQ hL f _ a' w' hw' h') (h.2 i hi).2⟩
theorem wpAnyLQ_first {n i : Nat} {oi : Oper} {v : Value} {L : Array Bool → Act → Prop} (hi : ops[i]? = some oi) (hsel : ∀ (j : Nat) (o : Oper) cs b, ops[j]? = some o → o.op ≠ .select cs b)
    (hs : Region.sinkB md ops n = true) (hc : Region.chainB md ops n = true) (hn : n < ops.size) (hin : i < n)
    (hdone : ∀ listed a, L listed a → ∀ j ∈ Region.ready md ops listed, n ≤ j) :
    ∀ (f : Nat) (listed : Array Bool) (a : Act), HeadInv md ops n listed →
      (∀ j oj, ops[j]? = some oj → j ≠ i → listed.getD j true = false → (∀ e ∈ oj.after, Region.binds md e = true → e.on ≠ i) → oi.apart ops oj = true) →
      i ∈ Region.ready md ops listed → YieldsIn P ops C oi v a →
      wpAnyLQ P md ops C n L f (listed.setIfInBounds i true) (a.put oi.dst v) → wpAnyLQ P md ops C n L (f + 1) listed a := by
  intro f
  induction f with
  | zero =>
    intro listed a inv _ hr hy H
    have hun := (mem_ready.1 hr).1
    refine ⟨fun h => (by rw [h] at hr; cases hr), fun j hj => ?_⟩
    have hjn : j < n := by
      rcases Nat.lt_or_ge j n with h | h
      · exact h
      · exact absurd hj (tail_waits hs hc hn inv _ i rfl hin hun j h)
    refine ⟨hjn, ?_⟩
    by_cases hji : j = i
    · subst hji; exact hy.qOp hi H
    · have := hdone _ _ H j (ready_mono hj hji)
      omega
  | succ f ih =>
    intro listed a inv hfree hr hy H
    have hun := (mem_ready.1 hr).1
    refine ⟨fun h => (by rw [h] at hr; cases hr), fun j hj => ?_⟩
    have hjn : j < n := by
      rcases Nat.lt_or_ge j n with h | h
      · exact h
      · exact absurd hj (tail_waits hs hc hn inv _ i rfl hin hun j h)
    refine ⟨hjn, ?_⟩
    by_cases hji : j = i
    · subst hji; exact hy.qOp hi H
    · have h1 := (H.2 j (ready_mono hj hji)).2
      obtain ⟨hjun, oj, hoj, hall⟩ := mem_ready.1 hj
      have hnot : ∀ e ∈ oj.after, Region.binds md e = true → e.on ≠ i := fun e he hb heq => by
        have h1 := hall e he hb
        rw [heq, getD_both hun] at h1
        cases h1
      have h2 := qOp_put hoj (hfree j oj hoj hji hjun hnot) (fun cs b => hsel i oi cs b hi) (fun cs b => hsel j oj cs b hoj) hy h1
      have hfree' : ∀ k ok, ops[k]? = some ok → k ≠ i → (listed.setIfInBounds j true).getD k true = false →
          (∀ e ∈ ok.after, Region.binds md e = true → e.on ≠ i) → oi.apart ops ok = true := fun k ok hk hki hun hno => by
        refine hfree k ok hk hki ?_ hno
        by_cases hjk : j = k
        · subst hjk; exact hjun
        · rw [getD_set_ne true hjk] at hun; exact hun
      refine qOp_mono (fun a' h3 => ih (listed.setIfInBounds j true) a' (inv.set hj hjn) hfree' (ready_mono hr (Ne.symm hji)) h3.1 ?_) h2
      rw [Array.setIfInBounds_comm _ _ hji]
      exact h3.2
theorem wpAnyLQ_lex {n g : Nat} {Lq : Act → Prop} (hsel : Region.noSelect ops = true) (hs : Region.sinkB md ops n = true) (hc : Region.chainB md ops n = true) (hn : n < ops.size) :
    ∀ (l : List Oper) (k : Nat) (listed : Array Bool) (a : Act), (∀ j, j < l.length → l[j]? = ops[k + j]?) → k + l.length = n → HeadInv md ops n listed →
    Region.lexHead md ops g l.length k listed = true → wpQuiet P ops C Lq l a →
    wpAnyLQ P md ops C n (fun listed' a' => Region.seqB md ops g n listed' = true ∧ Lq a') l.length listed a
  | [], k, listed, a, _, hk, _, hB, h => by
    have : k = n := by simpa using hk
    subst this
    exact ⟨by simpa [Region.lexHead] using hB, h⟩
  | o :: l, k, listed, a, hl, hk, inv, hB, h => by
    have h0 : ops[k]? = some o := by simpa using (hl 0 (by simp)).symm
    simp only [List.length_cons, Region.lexHead, Bool.and_eq_true] at hB
    obtain ⟨⟨hr, hf⟩, hB'⟩ := hB
    have hkn : k < n := by simp only [List.length_cons] at hk; omega
    have hr' : k ∈ Region.ready md ops listed := by simpa using hr
    have hst : qOp P ops C k (wpQuiet P ops C Lq l) a := by unfold qOp; simp only [h0]; exact h
    obtain ⟨v, hy, hK⟩ := yieldsIn_of_qOp h0 hst
    exact wpAnyLQ_first h0 (Region.noSelect_spec hsel) hs hc hn hkn (fun listed' a' hL => seqB_ready hL.1) l.length listed a inv (Region.free_spec h0 hf) hr' hy
      (wpAnyLQ_lex hsel hs hc hn l (k + 1) _ _ (fun j hj => by have := hl (j + 1) (by simp; omega); simpa [Nat.add_assoc, Nat.add_comm 1 j] using this) (by simp only [List.length_cons] at hk; omega) (inv.set hr' hkn) hB' hK)
theorem wp_region_quiet_tail {id : Nat} {Q : Exit → Act → World → Prop} {a : Act} {w : World} {l : List Oper} (n : Nat) (hm : P.follows .mixedOrders = true) (hB : Region.lexTailB .any l.toArray n = true) (hC : C { w with drawn := w.drawn + 1 })
    (h : wpQuiet P l.toArray C (fun a' => ∀ w', C w' → wpList P l.toArray Q (l.drop n) a' w') (l.take n) a) : (Code.region id l.toArray true).wp P Q a w := by
  simp only [Region.lexTailB, Bool.and_eq_true, decide_eq_true_eq] at hB
  obtain ⟨⟨⟨⟨hsel, hn⟩, hs⟩, hc⟩, hlex⟩ := hB
  have hn' : n < l.length := by simpa using hn
  have htl : (l.take n).length = n := by simp; omega
  have hdl : (l.drop n).length = l.toArray.size - n := by simp
  have inv0 : HeadInv .any l.toArray n (Array.replicate l.toArray.size false) :=
    ⟨by simp, fun j oj _ hl => (by rw [getD_replicate_false] at hl; cases hl), fun t _ ht => getD_in (by simpa using ht) (getD_replicate_false _ _)⟩
  have H := wpAnyLQ_lex (md := .any) (C := C) (g := l.toArray.size - n) hsel hs hc hn (l.take n) 0 _ a (fun j hj => by
    have hj' : j < n := by rw [htl] at hj; exact hj
    simp [hj']) (by simpa using htl) inv0 (by rw [htl]; exact hlex) h
  refine wp_region_any hm ?_
  have := wpAny_of_headQ (Q' := Q) (g := l.toArray.size - n) (fun listed a' w' hw' hL => by
    have := wpAny_of_seq (md := .any) (Q' := Q) (l.drop n) n listed a' w' (fun j => by simp [List.getElem?_drop]) (by rw [hdl]; exact hL.1) (hL.2 w' hw')
    rwa [hdl] at this) _ _ _ _ hC H
  rw [htl, show n + (l.toArray.size - n) = l.toArray.size by omega] at this
  exact this
theorem wp_region_below_tail {id : Nat} {Q : Exit → Act → World → Prop} {a : Act} {w : World} {l : List Oper} (n : Nat) (hm : P.follows .mixedOrders = true) (hB : Region.lexTailB .any l.toArray n = true)
    (h : wpQuiet P l.toArray (fun w' => ∃ p : Regrown, w' = grow (redrawn w p.d) p.os) (fun a' => ∀ w', (∃ p : Regrown, w' = grow (redrawn w p.d) p.os) → wpList P l.toArray Q (l.drop n) a' w') (l.take n) a) : (Code.region id l.toArray true).wp P Q a w :=
  wp_region_quiet_tail (C := fun w' => ∃ p : Regrown, w' = grow (redrawn w p.d) p.os) n hm hB ⟨⟨w.drawn + 1, #[]⟩, by rw [grow_empty]; rfl⟩ h
end Go.Proofs.YtoimjcfdiljkjaaGreatDoor
namespace Go.Proofs.YtoimjcfdiljkjaaGreatDoor
open Go.RowKit Go.Sort
theorem reverse_row (B : Nat) (ts : List (List UInt8)) (W : World) {n : Nat} (hn : n = ts.length) (h : TXs B ts W n) (hl : n ≤ 9223372036854775807) :
    Calls Tryz.prog 106 #[.slice (some ⟨B, 0, none⟩) n n] W (fun e w' => e = .returned (.tuple #[]) ∧ TXs B ts.reverse w' n ∧ Below B W w') := by
  subst hn
  have hH : Holds encStr W B 0 ts.toArray := by
    intro j hj
    have hj' : j < ts.length := by simpa using hj
    have h1 := h.2 j ts[j] (List.getElem?_eq_getElem hj')
    rw [Nat.zero_add]
    refine ⟨?_, h1.2⟩
    rw [h1.1, if_pos hj', getElem!_pos ts.toArray j hj]
    simp [encStr, tB]
  refine (Tryz.slices_Reverse_string B 0 ts.length ts W hH hl).mono ?_
  rintro e w' ⟨rfl, m, rfl⟩
  have hg := grownBy_sorted (w := W) (g := B) (n := m) (os := #[]) ts.reverse.toArray
  rw [grow_empty] at hg
  have hH2 := holds_putRow encStr (Sort.ahead W m) B 0 ts.toArray ts.reverse.toArray hH (by simp)
  refine ⟨rfl, ⟨Nat.lt_of_lt_of_le h.1 hg.size, fun j s hj => ?_⟩, (Below.refl _ _).grown hg (Nat.le_of_lt h.1) (fun k e => by cases e; exact Nat.le_refl _)⟩
  have hj' := (List.getElem?_eq_some_iff.1 hj).1
  have h2 := hH2 j (by simpa using hj')
  rw [Nat.zero_add] at h2
  refine ⟨?_, h2.2⟩
  rw [h2.1, if_pos (by simpa using hj'), getElem!_pos _ j (by simpa using hj')]
  have := (List.getElem?_eq_some_iff.1 hj).2
  simp only [List.getElem_toArray, this, encStr, tB]
theorem join_empty (l : List (List UInt8)) : Lib.join l [] = l.flatten := by
  cases l with
  | nil => rfl
  | cons x r =>
    rw [Lib.join_cons, List.flatten_cons]
    unfold Lib.joinTail
    simp
theorem bra_at (es : List va.En) (t : Int) {l : List Xt} {f : Xt → List UInt8} {k : Nat} {y : Xt} (h : l[k]? = some y) : ((l.map f).mapIdx (braS es t))[k]? = some (braS es t k (f y)) := by
  rw [List.getElem?_mapIdx, List.getElem?_map, h]
  rfl
set_option maxHeartbeats 2000000 in
set_option maxRecDepth 20000 in
theorem ph_merge (E : Rw va.En) (b : Nat) (x : Xt) (f : Xt → List UInt8) (w : World) (hs : Std w) (hE : RsE w w.heap.size E) (hx : RdX w w.heap.size x) (hxt : x.t ≤ 9223372036854775807) (hl : x.ar.length ≤ 17592186044416)
    (KX : Hid (∀ y ∈ x.ar, ∀ W, Below w.heap.size w W → Calls Tryz.prog 36 #[phV E b, xV y] W (Bel (.string (tB (f y))) W))) (h : (mrgS E.l x.t x.nm (x.ar.map f)).length ≤ 140737488355328) :
    Calls Tryz.prog 68 #[phV E b, xV x] w (Bel (.string (tB (mrgS E.l x.t x.nm (x.ar.map f)))) w) := by
  have hmk := run_make_row' (P := Tryz.prog) 51 9 (.string ⟨#[]⟩) 16 Tryz.underlying51 strInfo9 rfl .i64 .i64 x.ar.length (by omega) (by omega)
  have HX := Lib.hid hx
  have KVV : Hid (∀ (k : Nat) (W : World), Below w.heap.size w W → Calls Tryz.prog 63 #[phV E b, .int .i64 x.t, .int .i64 (k : Int)] W (Bel (.string (tB (valS E.l x.t k))) W)) := Lib.hid fun k W hb => ph_value E b x.t k W (hs.to hb) (hE.blw hb hb.size) hxt
  have HS : Hid (∀ k y, x.ar[k]? = some y → ((x.ar.map f).mapIdx (braS E.l x.t))[k]? = some (braS E.l x.t k (f y))) := Lib.hid fun k y h => bra_at E.l x.t h
  have hlt : ((x.ar.map f).mapIdx (braS E.l x.t)).length = x.ar.length := by simp
  have HL := Lib.hid hlt
  unfold mrgS brsS at h ⊢
  generalize hts : (x.ar.map f).mapIdx (braS E.l x.t) = ts at *
  have hfl : (if x.t = 1 then ts.reverse else ts).flatten.length = ts.flatten.length := by
    split
    · simp [List.length_flatten, List.sum_reverse]
    · rfl
  have HB : Hid (∀ s ∈ ts, s.length ≤ 140737488355328) := Lib.hid fun s hm => by
    have := join_mem (sep := []) hm
    rw [join_empty] at this
    simp only [List.length_append] at h
    omega
  clear hts hlt hx hs hE hfl
  have HH := Lib.hid h
  clear h
  simp only [xV] at KX ⊢
  generalize hfin : [109, 101, 114, 103, 101, 32] ++ bsT x.nm ++ (if x.t = 1 then ts.reverse else ts).flatten = fin at *
  have HF := Lib.hid hfin
  clear hfin
  go_enter Tryz.func68, Tryz.ntmps68
  go_wp2
  obtain ⟨W0, hW0⟩ : ∃ W0, ((w.alloc (.cells #[.slice E.A E.l.length E.c, .map (some b)] 64)).alloc (.cells #[.int .i64 x.k, .int .i64 x.op, .int .i64 x.t, .int .i64 x.v, .string x.nm, .slice x.A x.ar.length x.c] 33)) = W0 := ⟨_, rfl⟩
  have hB0 : Below w.heap.size w W0 := by rw [← hW0]; exact bel_alloc (bel_box _) _
  have b00 : W0.cell? ⟨w.heap.size, 0, none⟩ = some (.slice E.A E.l.length E.c) := by rw [← hW0]; simp [go_sem]
  have b01 : W0.cell? ⟨w.heap.size, 1, none⟩ = some (.map (some b)) := by rw [← hW0]; simp [go_sem]
  have b10 : W0.cell? ⟨w.heap.size + 1, 0, none⟩ = some (.int .i64 x.k) := by rw [← hW0]; simp [go_sem]
  have b11 : W0.cell? ⟨w.heap.size + 1, 1, none⟩ = some (.int .i64 x.op) := by rw [← hW0]; simp [go_sem]
  have b12 : W0.cell? ⟨w.heap.size + 1, 2, none⟩ = some (.int .i64 x.t) := by rw [← hW0]; simp [go_sem]
  have b13 : W0.cell? ⟨w.heap.size + 1, 3, none⟩ = some (.int .i64 x.v) := by rw [← hW0]; simp [go_sem]
  have b14 : W0.cell? ⟨w.heap.size + 1, 4, none⟩ = some (.string x.nm) := by rw [← hW0]; simp [go_sem]
  have b15 : W0.cell? ⟨w.heap.size + 1, 5, none⟩ = some (.slice x.A x.ar.length x.c) := by rw [← hW0]; simp [go_sem]
  have HW0 := Lib.hid hW0
  clear hW0
  have hz0 : W0.heap.size = w.heap.size + 1 + 1 := by rw [← HW0.out]; simp only [World.size_alloc]
  have HZ0 := Lib.hid hz0
  rw [HW0.out]
  have hst : TXs (w.heap.size + 1 + 1) ts (W0.alloc (.cells (madeCells #[.string ⟨#[]⟩] x.ar.length) 9)) 0 := by
    rw [← hz0]
    exact TXs.start ts W0 _ HL.out.symm
  clear HW0 hz0
  go_loopw [15] (fun i wr => ∃ k : Nat, k ≤ x.ar.length ∧ i = .int .i64 (k : Int) ∧ TXs (w.heap.size + 1 + 1) ts wr k ∧ Below W0.heap.size W0 wr) (fun i _ => x.ar.length - (intOf i).toNat)
  case atStart => exact ⟨0, by omega, rfl, hst, bel_box _⟩
  case round =>
    clear hst
    obtain ⟨k, hk, rfl, hT, hbl⟩ := hrel
    have hbw : Below w.heap.size w wr := hB0.trans (hbl.mono hB0.size)
    have hzr := hbl.size
    rw [HZ0.out] at hzr
    have d00 := (hbl.cell (p := ⟨w.heap.size, 0, none⟩) (by rw [HZ0.out]; simp; omega)).trans b00
    have d01 := (hbl.cell (p := ⟨w.heap.size, 1, none⟩) (by rw [HZ0.out]; simp; omega)).trans b01
    have d12 := (hbl.cell (p := ⟨w.heap.size + 1, 2, none⟩) (by rw [HZ0.out]; simp)).trans b12
    have d14 := (hbl.cell (p := ⟨w.heap.size + 1, 4, none⟩) (by rw [HZ0.out]; simp)).trans b14
    clear b00 b01 b10 b11 b12 b13 b14 b15
    by_cases hlt : k < x.ar.length
    · obtain ⟨ad, y, hA, had, hy, hm, ⟨c0, c1, c2, c3, c4, c5⟩, _⟩ := (HX.out.to hbw).at_ hlt
      rw [hA]
      have KY := Lib.hid (KX.out y hm)
      have KV := Lib.hid (KVV.out k)
      have hs := HS.out k y hy
      have hbo := HB.out _ (List.mem_of_getElem? hs)
      have HSS := Lib.hid hs
      have HTX := Lib.hid hT
      have hik : (k : Int) < (x.ar.length : Int) := by omega
      clear hA hy hm hs hT KX
      unfold braS at hbo HSS
      generalize f y = s at *
      generalize valS E.l x.t k = v at *
      have KB : Hid (∀ W, Below w.heap.size w W → Calls Tryz.prog 105 #[.string (tB (v ++ [32, 45, 62, 32] ++ s))] W (Bel (.string (tB (brS (v ++ [32, 45, 62, 32] ++ s)))) W)) := Lib.hid fun W _ => ph_brackets _ (by simp only [List.length_append] at hbo; omega) W
      have hbo2 := hbo
      unfold brS at hbo2
      simp only [List.length_append, List.length_cons, List.length_nil] at hbo2
      obtain ⟨z1, hz1⟩ : ∃ q, v ++ [32, 45, 62, 32] = q := ⟨_, rfl⟩
      have lz1 := congrArg List.length hz1
      rw [List.length_append] at lz1
      rw [hz1] at KB hbo HSS
      have ka1 := fun w => add_tB (P := Tryz.prog) w (A := tB v) (B := ⟨#[32, 45, 62, 32]⟩) rfl rfl hz1 (by simp only [List.length_cons, List.length_nil]; omega)
      obtain ⟨z2, hz2⟩ : ∃ q, z1 ++ s = q := ⟨_, rfl⟩
      have ka2 := fun w => add_tB (P := Tryz.prog) w (A := tB z1) (B := tB s) rfl rfl hz2 (by simp only [List.length_cons, List.length_nil] at lz1; omega)
      rw [hz2] at KB hbo HSS
      generalize brS z2 = z3 at *
      obtain ⟨z4, hz4⟩ : ∃ q, [32] ++ z3 = q := ⟨_, rfl⟩
      rw [hz4] at hbo HSS
      have ka4 := fun w => add_tB (P := Tryz.prog) w (A := ⟨#[32]⟩) (B := tB z3) rfl rfl hz4 (by rw [← hz4, List.length_append] at hbo; simp only [List.length_cons, List.length_nil] at hbo ⊢; omega)
      clear hz1 lz1 hz2 hz4 hbo hbo2
      go_wp2
      obtain ⟨WB, hWB⟩ : ∃ WB, wr.alloc (.cells #[.int .i64 y.k, .int .i64 y.op, .int .i64 y.t, .int .i64 y.v, .string y.nm, .slice y.A y.ar.length y.c] 33) = WB := ⟨_, rfl⟩
      have hBB : Below wr.heap.size wr WB := by rw [← hWB]; exact bel_box _
      have hBw : Below w.heap.size w WB := hbw.trans (hBB.mono hbw.size)
      have g00 := (hBB.cell (p := ⟨w.heap.size, 0, none⟩) (by simp; omega)).trans d00
      have g01 := (hBB.cell (p := ⟨w.heap.size, 1, none⟩) (by simp; omega)).trans d01
      have g12 := (hBB.cell (p := ⟨w.heap.size + 1, 2, none⟩) (by simp; omega)).trans d12
      have g20 : WB.cell? ⟨wr.heap.size, 0, none⟩ = some (.int .i64 y.k) := by rw [← hWB]; simp [go_sem]
      have g21 : WB.cell? ⟨wr.heap.size, 1, none⟩ = some (.int .i64 y.op) := by rw [← hWB]; simp [go_sem]
      have g22 : WB.cell? ⟨wr.heap.size, 2, none⟩ = some (.int .i64 y.t) := by rw [← hWB]; simp [go_sem]
      have g23 : WB.cell? ⟨wr.heap.size, 3, none⟩ = some (.int .i64 y.v) := by rw [← hWB]; simp [go_sem]
      have g24 : WB.cell? ⟨wr.heap.size, 4, none⟩ = some (.string y.nm) := by rw [← hWB]; simp [go_sem]
      have g25 : WB.cell? ⟨wr.heap.size, 5, none⟩ = some (.slice y.A y.ar.length y.c) := by rw [← hWB]; simp [go_sem]
      rw [hWB]
      clear hWB
      have q_g00 := cell_regrown g00
      have q_g01 := cell_regrown g01
      have q_g12 := cell_regrown g12
      have q_g20 := cell_regrown g20
      have q_g21 := cell_regrown g21
      have q_g22 := cell_regrown g22
      have q_g23 := cell_regrown g23
      have q_g24 := cell_regrown g24
      have q_g25 := cell_regrown g25
      have k_0 := fun dd os => Calls.regrown_of (KV.out (grow (redrawn WB dd) os) (hBw.trans ((below_regrown WB dd os).mono hBw.size)))
      have k_1 := fun dd os => Calls.regrown_of (KY.out (grow (redrawn WB dd) os) (hBw.trans ((below_regrown WB dd os).mono hBw.size)))
      have k_2 := fun dd os => Calls.regrown_of (KB.out (grow (redrawn WB dd) os) (hBw.trans ((below_regrown WB dd os).mono hBw.size)))
      refine wp_region_below_tail 15 (by kernel_rfl) (by kernel_rfl) ?_
      simp only [List.take_succ_cons, List.take_zero, List.drop_succ_cons, List.drop_zero]
      repeat (quiet_step (first | with_reducible exact k_0 _ _ | with_reducible exact k_1 _ _ | with_reducible exact k_2 _ _))
      refine wpQuiet_nil ?_
      intro _ hw'
      obtain ⟨⟨dq, osq⟩, hw''⟩ := hw'
      subst hw''
      have hrw9 : Below WB.heap.size WB (grow (redrawn WB dq) osq) := below_regrown WB dq osq
      have hw9 : Below w.heap.size w (grow (redrawn WB dq) osq) := hBw.trans (hrw9.mono hBw.size)
      generalize grow (redrawn WB dq) osq = w9 at hw9 hrw9 ⊢
      have hb9 : Below wr.heap.size wr w9 := hBB.trans (hrw9.mono hBB.size)
      obtain ⟨e1, e2, e3⟩ := TXs.facts HTX.out HSS.out hb9
      clear q_g00 q_g01 q_g12 q_g20 q_g21 q_g22 q_g23 q_g24 q_g25 k_0 k_1 k_2
      go_wp2
      refine ⟨⟨k + 1, by omega, by congr 1, (HTX.out.below hb9).next HSS.out, ?_⟩, by simp [intOf]; omega⟩
      exact (bel_step hbl hb9).setCell (p := ⟨w.heap.size + 1 + 1, k, none⟩) (by rw [HZ0.out]; exact Nat.le_refl _) _
    · obtain rfl : k = x.ar.length := by omega
      have HTX := Lib.hid hT
      clear hT
      by_cases t1 : x.t = 1
      · have q0 : (x.t == 1) = true := by simp [t1]
        have hF := HF.out
        rw [if_pos t1] at hF
        have hJl : (ts.reverse.flatten).length ≤ 140737488355328 := by
          have := HH.out
          rw [← hF] at this
          simp only [List.length_append] at this
          omega
        have KR := Lib.hid (reverse_row (w.heap.size + 1 + 1) ts wr HL.out.symm HTX.out (by omega))
        go_wp2_with (go_at_call 106; (with_reducible refine KR.out.mono ?_); rintro e w1 ⟨rfl, hT1, hb1⟩)
        have d14 := (hb1.cell (p := ⟨w.heap.size + 1, 4, none⟩) (by simp)).trans d14
        have hrf : Below w1.heap.size w1 w1 := Below.refl _ _
        have KJ : Hid (∀ W, Below w1.heap.size w1 W → Calls Tryz.prog 51 #[.slice (some ⟨w.heap.size + 1 + 1, 0, none⟩) x.ar.length x.ar.length, .string ⟨#[]⟩] W (Bel (.string (tB ts.reverse.flatten)) W)) := Lib.hid fun W hb => by
          have := join_row (w.heap.size + 1 + 1) ts.reverse ⟨#[]⟩ W (n := x.ar.length) (by rw [List.length_reverse]; exact HL.out.symm) (hT1.below hb) (by omega) (by show (Lib.join ts.reverse []).length ≤ _; rw [join_empty]; exact hJl)
          have e : Lib.join ts.reverse (bsT ⟨#[]⟩) = ts.reverse.flatten := join_empty _
          rwa [e] at this
        generalize ts.reverse.flatten = jj at *
        have hfl := HH.out
        obtain ⟨z1, hz1⟩ : ∃ q, ([109, 101, 114, 103, 101, 32]) ++ (bsT x.nm) = q := ⟨_, rfl⟩
        have lz1 := congrArg List.length hz1
        rw [List.length_append] at lz1
        obtain ⟨z2, hz2⟩ : ∃ q, (z1) ++ (jj) = q := ⟨_, rfl⟩
        have lz2 := congrArg List.length hz2
        rw [List.length_append] at lz2
        have heq : z2 = fin := by
          subst hz1 hz2
          exact hF
        have hll : z2.length ≤ 140737488355328 := by rw [heq]; exact hfl
        have kaz1 := fun w => add_tB (P := Tryz.prog) w (A := ⟨#[109, 101, 114, 103, 101, 32]⟩) (B := x.nm) rfl (tB_bsT _).symm hz1 (by simp only [List.length_cons, List.length_nil] at *; omega)
        have kaz2 := fun w => add_tB (P := Tryz.prog) w (A := tB z1) (B := tB jj) rfl rfl hz2 (by simp only [List.length_cons, List.length_nil] at *; omega)
        have HZ := Lib.hid heq
        clear heq hll hz1 hz2 lz1 lz2
        clear hF hfl hJl HH HF
        have q_d14 := cell_regrown d14
        have k_0 := fun dd os => Calls.regrown_of (KJ.out (grow (redrawn w1 dd) os) (hrf.trans ((below_regrown w1 dd os).mono hrf.size)))
        refine wp_region_quiet_below (by kernel_rfl) (by kernel_rfl) ?_
        repeat (quiet_step (first | with_reducible exact k_0 _ _))
        refine wpQuiet_nil ?_
        intro _ hw'
        obtain ⟨⟨dq, osq⟩, hw''⟩ := hw'
        subst hw''
        have hrw9 : Below w1.heap.size w1 (grow (redrawn w1 dq) osq) := below_regrown w1 dq osq
        have hw9 : Below w1.heap.size w1 (grow (redrawn w1 dq) osq) := hrf.trans (hrw9.mono hrf.size)
        generalize grow (redrawn w1 dq) osq = w9 at hw9 hrw9 ⊢
        clear q_d14 k_0
        go_wp2
        go_ret
        exact ⟨congrArg (fun q => Ending.returned (.string (tB q))) HZ.out, (hbw.trans ⟨hb1.os, hb1.tape, hb1.output, hb1.size, fun k hk => hb1.block k (by omega)⟩).trans (hw9.mono (Nat.le_trans hbw.size hb1.size))⟩
      · have q0 : (x.t == 1) = false := by simp [t1]
        have hF := HF.out
        rw [if_neg t1] at hF
        have hJl : (ts.flatten).length ≤ 140737488355328 := by
          have := HH.out
          rw [← hF] at this
          simp only [List.length_append] at this
          omega
        go_wp2
        have hrf : Below wr.heap.size wr wr := Below.refl _ _
        have KJ : Hid (∀ W, Below wr.heap.size wr W → Calls Tryz.prog 51 #[.slice (some ⟨w.heap.size + 1 + 1, 0, none⟩) x.ar.length x.ar.length, .string ⟨#[]⟩] W (Bel (.string (tB ts.flatten)) W)) := Lib.hid fun W hb => by
          have := join_row (w.heap.size + 1 + 1) ts ⟨#[]⟩ W (n := x.ar.length) (by exact HL.out.symm) (HTX.out.below hb) (by omega) (by show (Lib.join ts []).length ≤ _; rw [join_empty]; exact hJl)
          have e : Lib.join ts (bsT ⟨#[]⟩) = ts.flatten := join_empty _
          rwa [e] at this
        generalize ts.flatten = jj at *
        have hfl := HH.out
        obtain ⟨z1, hz1⟩ : ∃ q, ([109, 101, 114, 103, 101, 32]) ++ (bsT x.nm) = q := ⟨_, rfl⟩
        have lz1 := congrArg List.length hz1
        rw [List.length_append] at lz1
        obtain ⟨z2, hz2⟩ : ∃ q, (z1) ++ (jj) = q := ⟨_, rfl⟩
        have lz2 := congrArg List.length hz2
        rw [List.length_append] at lz2
        have heq : z2 = fin := by
          subst hz1 hz2
          exact hF
        have hll : z2.length ≤ 140737488355328 := by rw [heq]; exact hfl
        have kaz1 := fun w => add_tB (P := Tryz.prog) w (A := ⟨#[109, 101, 114, 103, 101, 32]⟩) (B := x.nm) rfl (tB_bsT _).symm hz1 (by simp only [List.length_cons, List.length_nil] at *; omega)
        have kaz2 := fun w => add_tB (P := Tryz.prog) w (A := tB z1) (B := tB jj) rfl rfl hz2 (by simp only [List.length_cons, List.length_nil] at *; omega)
        have HZ := Lib.hid heq
        clear heq hll hz1 hz2 lz1 lz2
        clear hF hfl hJl HH HF
        have q_d14 := cell_regrown d14
        have k_0 := fun dd os => Calls.regrown_of (KJ.out (grow (redrawn wr dd) os) (hrf.trans ((below_regrown wr dd os).mono hrf.size)))
        refine wp_region_quiet_below (by kernel_rfl) (by kernel_rfl) ?_
        repeat (quiet_step (first | with_reducible exact k_0 _ _))
        refine wpQuiet_nil ?_
        intro _ hw'
        obtain ⟨⟨dq, osq⟩, hw''⟩ := hw'
        subst hw''
        have hrw9 : Below wr.heap.size wr (grow (redrawn wr dq) osq) := below_regrown wr dq osq
        have hw9 : Below wr.heap.size wr (grow (redrawn wr dq) osq) := hrf.trans (hrw9.mono hrf.size)
        generalize grow (redrawn wr dq) osq = w9 at hw9 hrw9 ⊢
        clear q_d14 k_0
        go_wp2
        go_ret
        exact ⟨congrArg (fun q => Ending.returned (.string (tB q))) HZ.out, hbw.trans (hw9.mono hbw.size)⟩
end Go.Proofs.YtoimjcfdiljkjaaGreatDoor
namespace Go.Proofs.YtoimjcfdiljkjaaGreatDoor
open Go.RowKit Go.Sort
theorem RdX.row {w : World} {B : Nat} {x : Xt} (h : RdX w B x) (n : Nat) : RdR w B 6 XC ⟨x.A, x.c, x.ar.take n⟩ := by
  cases h with
  | mk x h0 h1 h2 h3 =>
    refine ⟨fun hn => h0 (fun e => hn (by simp [e])), fun ad i y hA hy => h1 ad i y hA ?_, ?_, ?_⟩
    · have := (List.getElem?_eq_some_iff.1 hy).1
      simp only [List.length_take] at this
      rw [List.getElem?_take_of_lt (by omega)] at hy
      exact hy
    · simp only [List.length_take]; have := h3.1.1; omega
    · simp only [List.length_take]; have := h3.2; omega
set_option maxHeartbeats 2000000 in
set_option maxRecDepth 20000 in
theorem ph_call (E : Rw va.En) (b : Nat) (x : Xt) (f : Xt → List UInt8) (w : World) (hx : RdX w w.heap.size x) (hk : x.k = 10) (hw : wf1 x) (hl : x.ar.length ≤ 17592186044416)
    (KX : Hid (∀ y ∈ x.ar, ∀ W, Below w.heap.size w W → Calls Tryz.prog 36 #[phV E b, xV y] W (Bel (.string (tB (f y))) W))) (h : (calS x.v x.nm x.ar (x.ar.map f)).length ≤ 140737488355328) :
    Calls Tryz.prog 69 #[phV E b, xV x] w (Bel (.string (tB (calS x.v x.nm x.ar (x.ar.map f)))) w) := by
  have hv := hw.2.2.2.2.2 hk
  have hcap := hx.cap
  have hAn : x.A = none → x.ar.length = 0 := fun e => by
    rcases Nat.eq_zero_or_pos x.ar.length with h0 | h0
    · exact h0
    · obtain ⟨ad, y, hA, _⟩ := hx.at_ h0
      rw [e] at hA
      cases hA
  clear hw hk
  unfold calS at h ⊢
  rw [List.length_map] at h ⊢
  rw [← List.map_take] at h ⊢
  by_cases v0 : x.v = 0
  · have hz : x.ar.length - x.v.toNat = x.ar.length := by rw [v0]; rfl
    rw [hz, if_neg (by omega), List.append_nil] at h ⊢
    obtain ⟨jj, hjj⟩ : ∃ q, Lib.join ((x.ar.take x.ar.length).map f) [44, 32] = q := ⟨_, rfl⟩
    rw [hjj] at h ⊢
    have hbl : (brS jj).length ≤ 140737488355328 := by simp only [List.length_append] at h; omega
    have hjl : (Lib.join ((x.ar.take x.ar.length).map f) (bsT ⟨#[44, 32]⟩)).length ≤ 140737488355328 := by
      show (Lib.join ((x.ar.take x.ar.length).map f) [44, 32]).length ≤ _
      rw [hjj]
      unfold brS at hbl
      simp only [List.length_append] at hbl
      omega
    have KJ : Hid (∀ W, Below w.heap.size w W → Calls Tryz.prog 107 #[.slice x.A x.ar.length x.c, .string ⟨#[44, 32]⟩, .func (.func 36) #[phV E b] #[]] W (Bel (.string (tB jj)) W)) := Lib.hid fun W hb => by
      have := joined_Expr (phV E b) ⟨x.A, x.c, x.ar.take x.ar.length⟩ f ⟨#[44, 32]⟩ W ((hx.to hb).row x.ar.length) (Lib.hid fun y hy W' hb' => KX.out y (List.mem_of_mem_take hy) W' (hb.trans (hb'.mono hb.size))) (by simp only [List.length_take]; omega) hjl
      rw [show (⟨x.A, x.c, x.ar.take x.ar.length⟩ : Rw Xt).l.length = x.ar.length by simp only [List.length_take]; omega] at this
      have this2 : Calls Tryz.prog 107 #[.slice x.A x.ar.length x.c, .string ⟨#[44, 32]⟩, .func (.func 36) #[phV E b] #[]] W (Bel (.string (tB (Lib.join ((x.ar.take x.ar.length).map f) [44, 32]))) W) := this
      rw [hjj] at this2
      exact this2
    have KB : Hid (∀ W, Below w.heap.size w W → Calls Tryz.prog 105 #[.string (tB jj)] W (Bel (.string (tB (brS jj))) W)) := Lib.hid fun W _ => ph_brackets jj hbl W
    generalize brS jj = bj at *
    obtain ⟨z1, hz1⟩ : ∃ q, (bsT x.nm) ++ (bj) = q := ⟨_, rfl⟩
    have lz1 := congrArg List.length hz1
    rw [List.length_append] at lz1
    have heq : z1 = bsT x.nm ++ bj := by
      subst hz1
      rfl
    have hll : z1.length ≤ 140737488355328 := by rw [heq]; exact h
    have kaz1 := fun w => add_tB (P := Tryz.prog) w (A := x.nm) (B := tB bj) (tB_bsT _).symm rfl hz1 (by (try simp only [List.length_cons, List.length_nil] at *); omega)
    have HZ := Lib.hid heq
    clear heq hll hz1 lz1
    have q0 : (x.v == 1) = false := by simp [v0]
    have hvv : (x.ar.length : Int) - x.v = (x.ar.length : Int) := by omega
    have hlen : x.ar.length ≤ 9223372036854775807 := by omega
    rw [← HZ.out]
    clear KX h hbl hjl hjj HZ hz hv hx v0 hAn
    have hcap2 : (x.ar.length : Int) ≤ (x.c : Int) := by omega
    simp only [xV]
    go_enter Tryz.func69, Tryz.ntmps69
    go_wp2
    obtain ⟨W0, hW0⟩ : ∃ W0, ((w.alloc (.cells #[.slice E.A E.l.length E.c, .map (some b)] 64)).alloc (.cells #[.int .i64 x.k, .int .i64 x.op, .int .i64 x.t, .int .i64 x.v, .string x.nm, .slice x.A x.ar.length x.c] 33)) = W0 := ⟨_, rfl⟩
    have hB0 : Below w.heap.size w W0 := by rw [← hW0]; exact bel_alloc (bel_box _) _
    have b00 : W0.cell? ⟨w.heap.size, 0, none⟩ = some (.slice E.A E.l.length E.c) := by rw [← hW0]; simp [go_sem]
    have b01 : W0.cell? ⟨w.heap.size, 1, none⟩ = some (.map (some b)) := by rw [← hW0]; simp [go_sem]
    have b10 : W0.cell? ⟨w.heap.size + 1, 0, none⟩ = some (.int .i64 x.k) := by rw [← hW0]; simp [go_sem]
    have b11 : W0.cell? ⟨w.heap.size + 1, 1, none⟩ = some (.int .i64 x.op) := by rw [← hW0]; simp [go_sem]
    have b12 : W0.cell? ⟨w.heap.size + 1, 2, none⟩ = some (.int .i64 x.t) := by rw [← hW0]; simp [go_sem]
    have b13 : W0.cell? ⟨w.heap.size + 1, 3, none⟩ = some (.int .i64 x.v) := by rw [← hW0]; simp [go_sem]
    have b14 : W0.cell? ⟨w.heap.size + 1, 4, none⟩ = some (.string x.nm) := by rw [← hW0]; simp [go_sem]
    have b15 : W0.cell? ⟨w.heap.size + 1, 5, none⟩ = some (.slice x.A x.ar.length x.c) := by rw [← hW0]; simp [go_sem]
    have HW0 := Lib.hid hW0
    clear hW0
    rw [HW0.out]
    have q_b00 := cell_regrown b00
    have q_b01 := cell_regrown b01
    have q_b10 := cell_regrown b10
    have q_b11 := cell_regrown b11
    have q_b12 := cell_regrown b12
    have q_b13 := cell_regrown b13
    have q_b14 := cell_regrown b14
    have q_b15 := cell_regrown b15
    have k_0 := fun dd os => Calls.regrown_of (KJ.out (grow (redrawn W0 dd) os) (hB0.trans ((below_regrown W0 dd os).mono hB0.size)))
    have k_1 := fun dd os => Calls.regrown_of (KB.out (grow (redrawn W0 dd) os) (hB0.trans ((below_regrown W0 dd os).mono hB0.size)))
    refine wp_region_quiet_below (by kernel_rfl) (by kernel_rfl) ?_
    repeat (quiet_step (first | with_reducible exact k_0 _ _ | with_reducible exact k_1 _ _))
    refine wpQuiet_nil ?_
    intro _ hw'
    obtain ⟨⟨dq, osq⟩, hw''⟩ := hw'
    subst hw''
    have hrw9 : Below W0.heap.size W0 (grow (redrawn W0 dq) osq) := below_regrown W0 dq osq
    have hw9 : Below w.heap.size w (grow (redrawn W0 dq) osq) := hB0.trans (hrw9.mono hB0.size)
    generalize grow (redrawn W0 dq) osq = w9 at hw9 hrw9 ⊢
    clear q_b00 q_b01 q_b10 q_b11 q_b12 q_b13 q_b14 q_b15 k_0 k_1
    have m13 := (hrw9.cell (block_lt_of_cell b13)).trans b13
    go_wp2
    go_ret
    exact ⟨rfl, hw9⟩
  · have v1 : x.v = 1 := by omega
    have hp : 0 < x.ar.length := by omega
    obtain ⟨n, hn⟩ : ∃ n, x.ar.length = n + 1 := ⟨x.ar.length - 1, by omega⟩
    have hz : x.ar.length - x.v.toNat = n := by rw [v1, hn]; rfl
    obtain ⟨a0, h0⟩ := at_of (l := x.ar) (i := n) (by omega)
    rw [hz, if_pos v1, show x.ar.length - 1 = n by omega, opI_at h0] at h ⊢
    obtain ⟨jj, hjj⟩ : ∃ q, Lib.join ((x.ar.take n).map f) [44, 32] = q := ⟨_, rfl⟩
    rw [hjj] at h ⊢
    have hbl : (brS jj).length ≤ 140737488355328 := by simp only [List.length_append] at h; omega
    have hol : (opdS a0 (f a0)).length ≤ 140737488355328 := by simp only [List.length_append] at h; omega
    have hjl : (Lib.join ((x.ar.take n).map f) (bsT ⟨#[44, 32]⟩)).length ≤ 140737488355328 := by
      show (Lib.join ((x.ar.take n).map f) [44, 32]).length ≤ _
      rw [hjj]
      unfold brS at hbl
      simp only [List.length_append] at hbl
      omega
    have KJ : Hid (∀ W, Below w.heap.size w W → Calls Tryz.prog 107 #[.slice x.A n x.c, .string ⟨#[44, 32]⟩, .func (.func 36) #[phV E b] #[]] W (Bel (.string (tB jj)) W)) := Lib.hid fun W hb => by
      have := joined_Expr (phV E b) ⟨x.A, x.c, x.ar.take n⟩ f ⟨#[44, 32]⟩ W ((hx.to hb).row n) (Lib.hid fun y hy W' hb' => KX.out y (List.mem_of_mem_take hy) W' (hb.trans (hb'.mono hb.size))) (by simp only [List.length_take]; omega) hjl
      rw [show (⟨x.A, x.c, x.ar.take n⟩ : Rw Xt).l.length = n by simp only [List.length_take]; omega] at this
      have this2 : Calls Tryz.prog 107 #[.slice x.A n x.c, .string ⟨#[44, 32]⟩, .func (.func 36) #[phV E b] #[]] W (Bel (.string (tB (Lib.join ((x.ar.take n).map f) [44, 32]))) W) := this
      rw [hjj] at this2
      exact this2
    have KB : Hid (∀ W, Below w.heap.size w W → Calls Tryz.prog 105 #[.string (tB jj)] W (Bel (.string (tB (brS jj))) W)) := Lib.hid fun W _ => ph_brackets jj hbl W
    have KO : Hid (∀ W, Below w.heap.size w W → Calls Tryz.prog 65 #[phV E b, xV a0] W (Bel (.string (tB (opdS a0 (f a0)))) W)) := Lib.hid fun W hb => ph_operand E b a0 (f a0) W hol (Lib.hid fun W' hb' => KX.out a0 (List.mem_of_getElem? h0) W' (hb.trans (hb'.mono hb.size)))
    generalize brS jj = bj at *
    generalize opdS a0 (f a0) = oo at *
    obtain ⟨z1, hz1⟩ : ∃ q, (bsT x.nm) ++ (bj) = q := ⟨_, rfl⟩
    have lz1 := congrArg List.length hz1
    rw [List.length_append] at lz1
    obtain ⟨z2, hz2⟩ : ∃ q, ([32, 101, 118, 101, 114, 121, 32]) ++ (oo) = q := ⟨_, rfl⟩
    have lz2 := congrArg List.length hz2
    rw [List.length_append] at lz2
    obtain ⟨z3, hz3⟩ : ∃ q, (z1) ++ (z2) = q := ⟨_, rfl⟩
    have lz3 := congrArg List.length hz3
    rw [List.length_append] at lz3
    have heq : z3 = bsT x.nm ++ bj ++ ([32, 101, 118, 101, 114, 121, 32] ++ oo) := by
      subst hz1 hz2 hz3
      rfl
    have hll : z3.length ≤ 140737488355328 := by rw [heq]; exact h
    have kaz1 := fun w => add_tB (P := Tryz.prog) w (A := x.nm) (B := tB bj) (tB_bsT _).symm rfl hz1 (by (try simp only [List.length_cons, List.length_nil] at *); omega)
    have kaz2 := fun w => add_tB (P := Tryz.prog) w (A := ⟨#[32, 101, 118, 101, 114, 121, 32]⟩) (B := tB oo) rfl rfl hz2 (by (try simp only [List.length_cons, List.length_nil] at *); omega)
    have kaz3 := fun w => add_tB (P := Tryz.prog) w (A := tB z1) (B := tB z2) rfl rfl hz3 (by (try simp only [List.length_cons, List.length_nil] at *); omega)
    have HZ := Lib.hid heq
    clear heq hll hz1 hz2 hz3 lz1 lz2 lz3
    have q0 : (x.v == 1) = true := by simp [v1]
    have hvv : (x.ar.length : Int) - x.v = (n : Int) := by omega
    have hlen : x.ar.length ≤ 9223372036854775807 := by omega
    have hcap2 : (x.ar.length : Int) ≤ (x.c : Int) := by omega
    have hcap3 : (n : Int) ≤ (x.c : Int) := by omega
    have hcap4 : n ≤ x.c := by omega
    have hin : (n : Int) < (x.ar.length : Int) := by omega
    have hin2 : n < x.ar.length := by omega
    have hv63 : -9223372036854775808 ≤ x.v ∧ x.v ≤ 9223372036854775807 := by omega
    rw [← HZ.out]
    have HN := Lib.hid hn
    clear KX h hbl hjl hjj HZ hz hv v0 v1 hAn hn hol
    simp only [xV] at KO ⊢
    go_enter Tryz.func69, Tryz.ntmps69
    go_wp2
    obtain ⟨W0, hW0⟩ : ∃ W0, ((w.alloc (.cells #[.slice E.A E.l.length E.c, .map (some b)] 64)).alloc (.cells #[.int .i64 x.k, .int .i64 x.op, .int .i64 x.t, .int .i64 x.v, .string x.nm, .slice x.A x.ar.length x.c] 33)) = W0 := ⟨_, rfl⟩
    have hB0 : Below w.heap.size w W0 := by rw [← hW0]; exact bel_alloc (bel_box _) _
    have b00 : W0.cell? ⟨w.heap.size, 0, none⟩ = some (.slice E.A E.l.length E.c) := by rw [← hW0]; simp [go_sem]
    have b01 : W0.cell? ⟨w.heap.size, 1, none⟩ = some (.map (some b)) := by rw [← hW0]; simp [go_sem]
    have b10 : W0.cell? ⟨w.heap.size + 1, 0, none⟩ = some (.int .i64 x.k) := by rw [← hW0]; simp [go_sem]
    have b11 : W0.cell? ⟨w.heap.size + 1, 1, none⟩ = some (.int .i64 x.op) := by rw [← hW0]; simp [go_sem]
    have b12 : W0.cell? ⟨w.heap.size + 1, 2, none⟩ = some (.int .i64 x.t) := by rw [← hW0]; simp [go_sem]
    have b13 : W0.cell? ⟨w.heap.size + 1, 3, none⟩ = some (.int .i64 x.v) := by rw [← hW0]; simp [go_sem]
    have b14 : W0.cell? ⟨w.heap.size + 1, 4, none⟩ = some (.string x.nm) := by rw [← hW0]; simp [go_sem]
    have b15 : W0.cell? ⟨w.heap.size + 1, 5, none⟩ = some (.slice x.A x.ar.length x.c) := by rw [← hW0]; simp [go_sem]
    have HW0 := Lib.hid hW0
    clear hW0
    rw [HW0.out]
    have q_b00 := cell_regrown b00
    have q_b01 := cell_regrown b01
    have q_b10 := cell_regrown b10
    have q_b11 := cell_regrown b11
    have q_b12 := cell_regrown b12
    have q_b13 := cell_regrown b13
    have q_b14 := cell_regrown b14
    have q_b15 := cell_regrown b15
    have k_0 := fun dd os => Calls.regrown_of (KJ.out (grow (redrawn W0 dd) os) (hB0.trans ((below_regrown W0 dd os).mono hB0.size)))
    have k_1 := fun dd os => Calls.regrown_of (KB.out (grow (redrawn W0 dd) os) (hB0.trans ((below_regrown W0 dd os).mono hB0.size)))
    refine wp_region_quiet_below (by kernel_rfl) (by kernel_rfl) ?_
    repeat (quiet_step (first | with_reducible exact k_0 _ _ | with_reducible exact k_1 _ _))
    refine wpQuiet_nil ?_
    intro _ hw'
    obtain ⟨⟨dq, osq⟩, hw''⟩ := hw'
    subst hw''
    have hrw9 : Below W0.heap.size W0 (grow (redrawn W0 dq) osq) := below_regrown W0 dq osq
    have hw9 : Below w.heap.size w (grow (redrawn W0 dq) osq) := hB0.trans (hrw9.mono hB0.size)
    generalize grow (redrawn W0 dq) osq = w9 at hw9 hrw9 ⊢
    clear q_b00 q_b01 q_b10 q_b11 q_b12 q_b13 q_b14 q_b15 k_0 k_1
    have m13 := (hrw9.cell (block_lt_of_cell b13)).trans b13
    have m00 := (hrw9.cell (block_lt_of_cell b00)).trans b00
    have m01 := (hrw9.cell (block_lt_of_cell b01)).trans b01
    have m15 := (hrw9.cell (block_lt_of_cell b15)).trans b15
    go_wp2
    obtain ⟨ad0, y0, hA0, had0, hy0, _, ⟨c00, c01, c02, c03, c04, c05⟩, _⟩ := (hx.to hw9).at_ (i := n) (by omega)
    obtain rfl : y0 = a0 := Option.some.inj (hy0.symm.trans h0)
    rw [hA0] at m15 ⊢
    clear hA0 hy0 h0
    have q_m00 := cell_regrown m00
    have q_m01 := cell_regrown m01
    have q_m15 := cell_regrown m15
    have q_c00 := cell_regrown c00
    have q_c01 := cell_regrown c01
    have q_c02 := cell_regrown c02
    have q_c03 := cell_regrown c03
    have q_c04 := cell_regrown c04
    have q_c05 := cell_regrown c05
    have k_0 := fun dd os => Calls.regrown_of (KO.out (grow (redrawn w9 dd) os) (hw9.trans ((below_regrown w9 dd os).mono hw9.size)))
    refine wp_region_quiet_below (by kernel_rfl) (by kernel_rfl) ?_
    repeat (quiet_step (first | with_reducible exact k_0 _ _))
    refine wpQuiet_nil ?_
    intro _ hw'
    obtain ⟨⟨dq, osq⟩, hw''⟩ := hw'
    subst hw''
    have hrwA : Below w9.heap.size w9 (grow (redrawn w9 dq) osq) := below_regrown w9 dq osq
    have hwA : Below w.heap.size w (grow (redrawn w9 dq) osq) := hw9.trans (hrwA.mono hw9.size)
    generalize grow (redrawn w9 dq) osq = wA at hwA hrwA ⊢
    clear q_m00 q_m01 q_m15 q_c00 q_c01 q_c02 q_c03 q_c04 q_c05 k_0
    go_wp2
    go_ret
    exact ⟨rfl, hwA⟩
end Go.Proofs.YtoimjcfdiljkjaaGreatDoor
namespace Go.Proofs.YtoimjcfdiljkjaaGreatDoor
open Go.RowKit Go.Sort
theorem opd_len (x : Xt) (s : List UInt8) : s.length ≤ (opdS x s).length := by
  unfold opdS brS
  split
  · exact Nat.le_refl _
  · simp only [List.length_append]; omega
theorem opI_len {l : List Xt} {f : Xt → List UInt8} {i : Nat} {y : Xt} (h : l[i]? = some y) : (f y).length ≤ (opI l (l.map f) i).length := by
  rw [opI_at h]
  exact opd_len _ _
theorem neg_len (x : Xt) (s : List UInt8) : s.length ≤ (negS x s).length := by
  unfold negS
  split
  · unfold brS; simp only [List.length_append]; omega
  · exact opd_len _ _
theorem ts_at {l : List Xt} {f : Xt → List UInt8} {i : Nat} {y : Xt} (h : l[i]? = some y) : (l.map f).getD i [] = f y := by
  rw [List.getD_eq_getElem?_getD, List.getElem?_map, h]
  rfl
theorem kid_len (es : List va.En) {x : Xt} {f : Xt → List UInt8} (hw : wf1 x) (h3 : 3 ≤ x.k) (h10 : x.k ≤ 10) {y : Xt} (hy : y ∈ x.ar) : (f y).length ≤ (ndS es x (x.ar.map f)).length := by
  obtain ⟨i, hi, hiy⟩ := List.mem_iff_getElem.1 hy
  have h : x.ar[i]? = some y := by rw [List.getElem?_eq_getElem hi, hiy]
  have hO := opI_len (f := f) h
  have hT := ts_at (f := f) h
  obtain ⟨w3, w4, w5, w6, w9, w10⟩ := hw
  have hk : x.k = 3 ∨ x.k = 4 ∨ x.k = 5 ∨ x.k = 6 ∨ x.k = 7 ∨ x.k = 8 ∨ x.k = 9 ∨ x.k = 10 := by omega
  unfold ndS
  rcases hk with hk | hk | hk | hk | hk | hk | hk | hk
  · rw [if_neg (by omega), if_pos hk]
    have := w3 hk
    unfold oprS
    split
    · have : i = 0 := by omega
      subst this
      simp only [List.length_append]; omega
    · split
      · have : i = 0 := by omega
        subst this
        rw [hT]
        have := neg_len (x.ar.getD 0 xt0) (f y)
        simp only [List.length_append]; omega
      · unfold betS
        have : i = 0 ∨ i = 1 := by omega
        rcases this with rfl | rfl <;> (simp only [List.length_append]; omega)
  · rw [if_neg (by omega), if_neg (by omega), if_pos hk]
    have := w4 hk
    have : i = 0 ∨ i = 1 ∨ i = 2 := by omega
    rcases this with rfl | rfl | rfl <;> (rw [hT]; simp only [List.length_append]; omega)
  · rw [if_neg (by omega), if_neg (by omega), if_neg (by omega), if_pos hk]
    have := w5 (.inl hk)
    have : i = 0 := by omega
    subst this
    simp only [List.length_append]; omega
  · rw [if_neg (by omega), if_neg (by omega), if_neg (by omega), if_neg (by omega), if_pos hk]
    have := w6 (.inl hk)
    unfold betS
    have : i = 0 ∨ i = 1 := by omega
    rcases this with rfl | rfl <;> (simp only [List.length_append]; omega)
  · rw [if_neg (by omega), if_neg (by omega), if_neg (by omega), if_neg (by omega), if_neg (by omega), if_pos hk]
    have := w6 (.inr hk)
    unfold betS
    have : i = 0 ∨ i = 1 := by omega
    rcases this with rfl | rfl <;> (simp only [List.length_append]; omega)
  · rw [if_neg (by omega), if_neg (by omega), if_neg (by omega), if_neg (by omega), if_neg (by omega), if_neg (by omega), if_pos hk]
    have := w5 (.inr hk)
    have : i = 0 := by omega
    subst this
    simp only [List.length_append]; omega
  · rw [if_neg (by omega), if_neg (by omega), if_neg (by omega), if_neg (by omega), if_neg (by omega), if_neg (by omega), if_neg (by omega), if_pos hk]
    unfold mrgS
    have hb : braS es x.t i (f y) ∈ brsS es x.t (x.ar.map f) := by
      have := List.mem_of_getElem? (bra_at es x.t (f := f) h)
      unfold brsS
      split
      · exact List.mem_reverse.2 this
      · exact this
    have := join_mem (sep := []) hb
    rw [join_empty] at this
    unfold braS brS at this
    simp only [List.length_append] at this ⊢
    omega
  · rw [if_neg (by omega), if_neg (by omega), if_neg (by omega), if_neg (by omega), if_neg (by omega), if_neg (by omega), if_neg (by omega), if_neg (by omega), if_pos hk]
    unfold calS brS
    rw [List.length_map]
    by_cases hlt : i < x.ar.length - x.v.toNat
    · have hm : f y ∈ (x.ar.map f).take (x.ar.length - x.v.toNat) := by
        refine List.mem_of_getElem? (i := i) ?_
        rw [List.getElem?_take_of_lt hlt, List.getElem?_map, h]
        rfl
      have := join_mem (sep := [44, 32]) hm
      simp only [List.length_append]; omega
    · have := w10 hk
      have hv : x.v = 1 := by omega
      have : i = x.ar.length - 1 := by rw [hv] at hlt; simp at hlt; omega
      rw [if_pos hv, ← this]
      simp only [List.length_append]; omega
end Go.Proofs.YtoimjcfdiljkjaaGreatDoor
namespace Go.Proofs.YtoimjcfdiljkjaaGreatDoor
open Go.RowKit Go.Sort
set_option maxHeartbeats 2000000 in
set_option maxRecDepth 20000 in
theorem ph_expr1 (E : Rw va.En) (b : Nat) (x : Xt) (f : Xt → List UInt8) (w : World) (hs : Std w) (hE : RsE w w.heap.size E) (hM : SymM w b) (hx : RdX w w.heap.size x) (hxt : x.t ≤ 9223372036854775807) (hl : x.ar.length ≤ 17592186044416) (hw : wf1 x) (h : (ndS E.l x (x.ar.map f)).length ≤ 140737488355328) (hk : x.k = 1) :
    Calls Tryz.prog 36 #[phV E b, xV x] w (Bel (.string (tB (ndS E.l x (x.ar.map f)))) w) := by
  unfold ndS at h ⊢
  rw [if_pos hk] at h ⊢
  have KO : Hid (∀ W, Below w.heap.size w W → Calls Tryz.prog 63 #[phV E b, .int .i64 x.t, .int .i64 x.v] W (Bel (.string (tB (valS E.l x.t x.v))) W)) := Lib.hid fun W hb => ph_value E b x.t x.v W (hs.to hb) (hE.blw hb hb.size) hxt
  have qk0 : (x.k == 1) = true := by simp [hk]
  generalize valS E.l x.t x.v = z at *
  clear hs hE hM hx h hw hk
  simp only [xV] at KO ⊢
  go_enter Tryz.func36, Tryz.ntmps36
  go_wp2_with (go_at_call 63; (with_reducible refine (KO.out _ ?_).mono ?_); (exact bl); rintro e w1 ⟨rfl, hb1⟩)
  go_ret
  exact ⟨rfl, bl⟩
set_option maxHeartbeats 2000000 in
set_option maxRecDepth 20000 in
theorem ph_expr3 (E : Rw va.En) (b : Nat) (x : Xt) (f : Xt → List UInt8) (w : World) (hs : Std w) (hE : RsE w w.heap.size E) (hM : SymM w b) (hx : RdX w w.heap.size x) (hxt : x.t ≤ 9223372036854775807) (hl : x.ar.length ≤ 17592186044416) (hw : wf1 x)
    (KX : Hid (∀ y ∈ x.ar, ∀ W, Below w.heap.size w W → Calls Tryz.prog 36 #[phV E b, xV y] W (Bel (.string (tB (f y))) W))) (h : (ndS E.l x (x.ar.map f)).length ≤ 140737488355328) (hk : x.k = 3) :
    Calls Tryz.prog 36 #[phV E b, xV x] w (Bel (.string (tB (ndS E.l x (x.ar.map f)))) w) := by
  unfold ndS at h ⊢
  rw [if_neg (by omega), if_pos hk] at h ⊢
  have KO : Hid (∀ W, Below w.heap.size w W → Calls Tryz.prog 64 #[phV E b, xV x] W (Bel (.string (tB (oprS x.op x.ar (x.ar.map f)))) W)) := Lib.hid fun W hb => ph_operation E b x f W (hM.to hb) (hx.to hb) hk hw (Lib.hid fun y hy W' hb' => KX.out y hy W' (hb.trans (hb'.mono hb.size))) h
  have qk0 : (x.k == 1) = false := by simp [hk]
  have qk1 : (x.k == 3) = true := by simp [hk]
  generalize oprS x.op x.ar (x.ar.map f) = z at *
  clear hs hE hM hx KX h hw hk
  simp only [xV] at KO ⊢
  go_enter Tryz.func36, Tryz.ntmps36
  go_wp2_with (go_at_call 64; (with_reducible refine (KO.out _ ?_).mono ?_); (exact bl); rintro e w1 ⟨rfl, hb1⟩)
  go_ret
  exact ⟨rfl, bl⟩
set_option maxHeartbeats 2000000 in
set_option maxRecDepth 20000 in
theorem ph_expr9 (E : Rw va.En) (b : Nat) (x : Xt) (f : Xt → List UInt8) (w : World) (hs : Std w) (hE : RsE w w.heap.size E) (hM : SymM w b) (hx : RdX w w.heap.size x) (hxt : x.t ≤ 9223372036854775807) (hl : x.ar.length ≤ 17592186044416) (hw : wf1 x)
    (KX : Hid (∀ y ∈ x.ar, ∀ W, Below w.heap.size w W → Calls Tryz.prog 36 #[phV E b, xV y] W (Bel (.string (tB (f y))) W))) (h : (ndS E.l x (x.ar.map f)).length ≤ 140737488355328) (hk : x.k = 9) :
    Calls Tryz.prog 36 #[phV E b, xV x] w (Bel (.string (tB (ndS E.l x (x.ar.map f)))) w) := by
  unfold ndS at h ⊢
  rw [if_neg (by omega), if_neg (by omega), if_neg (by omega), if_neg (by omega), if_neg (by omega), if_neg (by omega), if_neg (by omega), if_pos hk] at h ⊢
  have KO : Hid (∀ W, Below w.heap.size w W → Calls Tryz.prog 68 #[phV E b, xV x] W (Bel (.string (tB (mrgS E.l x.t x.nm (x.ar.map f)))) W)) := Lib.hid fun W hb => ph_merge E b x f W (hs.to hb) (hE.blw hb hb.size) (hx.to hb) hxt hl (Lib.hid fun y hy W' hb' => KX.out y hy W' (hb.trans (hb'.mono hb.size))) h
  have qk0 : (x.k == 1) = false := by simp [hk]
  have qk1 : (x.k == 3) = false := by simp [hk]
  have qk2 : (x.k == 4) = false := by simp [hk]
  have qk3 : (x.k == 5) = false := by simp [hk]
  have qk4 : (x.k == 6) = false := by simp [hk]
  have qk5 : (x.k == 7) = false := by simp [hk]
  have qk6 : (x.k == 8) = false := by simp [hk]
  have qk7 : (x.k == 9) = true := by simp [hk]
  generalize mrgS E.l x.t x.nm (x.ar.map f) = z at *
  clear hs hE hM hx KX h hw hk
  simp only [xV] at KO ⊢
  go_enter Tryz.func36, Tryz.ntmps36
  go_wp2_with (go_at_call 68; (with_reducible refine (KO.out _ ?_).mono ?_); (exact bl); rintro e w1 ⟨rfl, hb1⟩)
  go_ret
  exact ⟨rfl, bl⟩
set_option maxHeartbeats 2000000 in
set_option maxRecDepth 20000 in
theorem ph_expr10 (E : Rw va.En) (b : Nat) (x : Xt) (f : Xt → List UInt8) (w : World) (hs : Std w) (hE : RsE w w.heap.size E) (hM : SymM w b) (hx : RdX w w.heap.size x) (hxt : x.t ≤ 9223372036854775807) (hl : x.ar.length ≤ 17592186044416) (hw : wf1 x)
    (KX : Hid (∀ y ∈ x.ar, ∀ W, Below w.heap.size w W → Calls Tryz.prog 36 #[phV E b, xV y] W (Bel (.string (tB (f y))) W))) (h : (ndS E.l x (x.ar.map f)).length ≤ 140737488355328) (hk : x.k = 10) :
    Calls Tryz.prog 36 #[phV E b, xV x] w (Bel (.string (tB (ndS E.l x (x.ar.map f)))) w) := by
  unfold ndS at h ⊢
  rw [if_neg (by omega), if_neg (by omega), if_neg (by omega), if_neg (by omega), if_neg (by omega), if_neg (by omega), if_neg (by omega), if_neg (by omega), if_pos hk] at h ⊢
  have KO : Hid (∀ W, Below w.heap.size w W → Calls Tryz.prog 69 #[phV E b, xV x] W (Bel (.string (tB (calS x.v x.nm x.ar (x.ar.map f)))) W)) := Lib.hid fun W hb => ph_call E b x f W (hx.to hb) hk hw hl (Lib.hid fun y hy W' hb' => KX.out y hy W' (hb.trans (hb'.mono hb.size))) h
  have qk0 : (x.k == 1) = false := by simp [hk]
  have qk1 : (x.k == 3) = false := by simp [hk]
  have qk2 : (x.k == 4) = false := by simp [hk]
  have qk3 : (x.k == 5) = false := by simp [hk]
  have qk4 : (x.k == 6) = false := by simp [hk]
  have qk5 : (x.k == 7) = false := by simp [hk]
  have qk6 : (x.k == 8) = false := by simp [hk]
  have qk7 : (x.k == 9) = false := by simp [hk]
  have qk8 : (x.k == 10) = true := by simp [hk]
  generalize calS x.v x.nm x.ar (x.ar.map f) = z at *
  clear hs hE hM hx KX h hw hk
  simp only [xV] at KO ⊢
  go_enter Tryz.func36, Tryz.ntmps36
  go_wp2_with (go_at_call 69; (with_reducible refine (KO.out _ ?_).mono ?_); (exact bl); rintro e w1 ⟨rfl, hb1⟩)
  go_ret
  exact ⟨rfl, bl⟩
set_option maxHeartbeats 2000000 in
set_option maxRecDepth 20000 in
theorem ph_expr6 (E : Rw va.En) (b : Nat) (x : Xt) (f : Xt → List UInt8) (w : World) (hs : Std w) (hE : RsE w w.heap.size E) (hM : SymM w b) (hx : RdX w w.heap.size x) (hxt : x.t ≤ 9223372036854775807) (hl : x.ar.length ≤ 17592186044416) (hw : wf1 x)
    (KX : Hid (∀ y ∈ x.ar, ∀ W, Below w.heap.size w W → Calls Tryz.prog 36 #[phV E b, xV y] W (Bel (.string (tB (f y))) W))) (h : (ndS E.l x (x.ar.map f)).length ≤ 140737488355328) (hk : x.k = 6) :
    Calls Tryz.prog 36 #[phV E b, xV x] w (Bel (.string (tB (ndS E.l x (x.ar.map f)))) w) := by
  have hl2 : x.ar.length = 2 := hw.2.2.2.1 (.inl hk)
  obtain ⟨a0, h0⟩ := at_of (l := x.ar) (i := 0) (by omega)
  obtain ⟨a1, h1⟩ := at_of (l := x.ar) (i := 1) (by omega)
  unfold ndS at h ⊢
  rw [if_neg (by omega), if_neg (by omega), if_neg (by omega), if_neg (by omega), if_pos hk] at h ⊢
  unfold betS at h ⊢
  rw [opI_at h0, opI_at h1] at h ⊢
  have KO : Hid (∀ W, Below w.heap.size w W → Calls Tryz.prog 66 #[phV E b, xV x, .string ⟨#[45, 62]⟩] W (Bel (.string (tB (opdS a0 (f a0) ++ [32] ++ [45, 62] ++ [32] ++ opdS a1 (f a1)))) W)) := Lib.hid fun W hb =>
    ph_between E b x ⟨#[45, 62]⟩ (f a0) (f a1) a0 a1 W (hx.to hb) h0 h1 (Lib.hid fun W' hb' => KX.out a0 (List.mem_of_getElem? h0) W' (hb.trans (hb'.mono hb.size))) (Lib.hid fun W' hb' => KX.out a1 (List.mem_of_getElem? h1) W' (hb.trans (hb'.mono hb.size))) h
  have qk0 : (x.k == 1) = false := by simp [hk]
  have qk1 : (x.k == 3) = false := by simp [hk]
  have qk2 : (x.k == 4) = false := by simp [hk]
  have qk3 : (x.k == 5) = false := by simp [hk]
  have qk4 : (x.k == 6) = true := by simp [hk]
  generalize opdS a0 (f a0) ++ [32] ++ [45, 62] ++ [32] ++ opdS a1 (f a1) = z at *
  clear hs hE hM hx KX h hw hk h0 h1 hl2
  simp only [xV] at KO ⊢
  go_enter Tryz.func36, Tryz.ntmps36
  go_wp2_with (go_at_call 66; (with_reducible refine (KO.out _ ?_).mono ?_); (exact bl); rintro e w1 ⟨rfl, hb1⟩)
  go_ret
  exact ⟨rfl, bl⟩
set_option maxHeartbeats 2000000 in
set_option maxRecDepth 20000 in
theorem ph_expr7 (E : Rw va.En) (b : Nat) (x : Xt) (f : Xt → List UInt8) (w : World) (hs : Std w) (hE : RsE w w.heap.size E) (hM : SymM w b) (hx : RdX w w.heap.size x) (hxt : x.t ≤ 9223372036854775807) (hl : x.ar.length ≤ 17592186044416) (hw : wf1 x)
    (KX : Hid (∀ y ∈ x.ar, ∀ W, Below w.heap.size w W → Calls Tryz.prog 36 #[phV E b, xV y] W (Bel (.string (tB (f y))) W))) (h : (ndS E.l x (x.ar.map f)).length ≤ 140737488355328) (hk : x.k = 7) :
    Calls Tryz.prog 36 #[phV E b, xV x] w (Bel (.string (tB (ndS E.l x (x.ar.map f)))) w) := by
  have hl2 : x.ar.length = 2 := hw.2.2.2.1 (.inr hk)
  obtain ⟨a0, h0⟩ := at_of (l := x.ar) (i := 0) (by omega)
  obtain ⟨a1, h1⟩ := at_of (l := x.ar) (i := 1) (by omega)
  unfold ndS at h ⊢
  rw [if_neg (by omega), if_neg (by omega), if_neg (by omega), if_neg (by omega), if_neg (by omega), if_pos hk] at h ⊢
  unfold betS at h ⊢
  rw [opI_at h0, opI_at h1] at h ⊢
  have KO : Hid (∀ W, Below w.heap.size w W → Calls Tryz.prog 66 #[phV E b, xV x, .string ⟨#[102, 98, 121]⟩] W (Bel (.string (tB (opdS a0 (f a0) ++ [32] ++ [102, 98, 121] ++ [32] ++ opdS a1 (f a1)))) W)) := Lib.hid fun W hb =>
    ph_between E b x ⟨#[102, 98, 121]⟩ (f a0) (f a1) a0 a1 W (hx.to hb) h0 h1 (Lib.hid fun W' hb' => KX.out a0 (List.mem_of_getElem? h0) W' (hb.trans (hb'.mono hb.size))) (Lib.hid fun W' hb' => KX.out a1 (List.mem_of_getElem? h1) W' (hb.trans (hb'.mono hb.size))) h
  have qk0 : (x.k == 1) = false := by simp [hk]
  have qk1 : (x.k == 3) = false := by simp [hk]
  have qk2 : (x.k == 4) = false := by simp [hk]
  have qk3 : (x.k == 5) = false := by simp [hk]
  have qk4 : (x.k == 6) = false := by simp [hk]
  have qk5 : (x.k == 7) = true := by simp [hk]
  generalize opdS a0 (f a0) ++ [32] ++ [102, 98, 121] ++ [32] ++ opdS a1 (f a1) = z at *
  clear hs hE hM hx KX h hw hk h0 h1 hl2
  simp only [xV] at KO ⊢
  go_enter Tryz.func36, Tryz.ntmps36
  go_wp2_with (go_at_call 66; (with_reducible refine (KO.out _ ?_).mono ?_); (exact bl); rintro e w1 ⟨rfl, hb1⟩)
  go_ret
  exact ⟨rfl, bl⟩
set_option maxHeartbeats 2000000 in
set_option maxRecDepth 20000 in
theorem ph_expr5 (E : Rw va.En) (b : Nat) (x : Xt) (f : Xt → List UInt8) (w : World) (hs : Std w) (hE : RsE w w.heap.size E) (hM : SymM w b) (hx : RdX w w.heap.size x) (hxt : x.t ≤ 9223372036854775807) (hl : x.ar.length ≤ 17592186044416) (hw : wf1 x)
    (KX : Hid (∀ y ∈ x.ar, ∀ W, Below w.heap.size w W → Calls Tryz.prog 36 #[phV E b, xV y] W (Bel (.string (tB (f y))) W))) (h : (ndS E.l x (x.ar.map f)).length ≤ 140737488355328) (hk : x.k = 5) :
    Calls Tryz.prog 36 #[phV E b, xV x] w (Bel (.string (tB (ndS E.l x (x.ar.map f)))) w) := by
  have hl2 : x.ar.length = 1 := hw.2.2.1 (.inl hk)
  obtain ⟨a0, h0⟩ := at_of (l := x.ar) (i := 0) (by omega)
  unfold ndS at h ⊢
  rw [if_neg (by omega), if_neg (by omega), if_neg (by omega), if_pos hk] at h ⊢
  rw [opI_at h0] at h ⊢
  have KO : Hid (∀ W, Below w.heap.size w W → Calls Tryz.prog 65 #[phV E b, xV a0] W (Bel (.string (tB (opdS a0 (f a0)))) W)) := Lib.hid fun W hb => ph_operand E b a0 (f a0) W (by simp only [List.length_append] at h; omega) (Lib.hid fun W' hb' => KX.out a0 (List.mem_of_getElem? h0) W' (hb.trans (hb'.mono hb.size)))
  have qk0 : (x.k == 1) = false := by simp [hk]
  have qk1 : (x.k == 3) = false := by simp [hk]
  have qk2 : (x.k == 4) = false := by simp [hk]
  have qk3 : (x.k == 5) = true := by simp [hk]
  generalize opdS a0 (f a0) = o0 at *
  obtain ⟨z1, hz1⟩ : ∃ q, ([112, 114, 101, 32]) ++ (o0) = q := ⟨_, rfl⟩
  have lz1 := congrArg List.length hz1
  rw [List.length_append] at lz1
  have heq : z1 = [112, 114, 101, 32] ++ o0 := by
    subst hz1
    rfl
  have hll : z1.length ≤ 140737488355328 := by rw [heq]; exact h
  have kaz1 := fun w => add_tB (P := Tryz.prog) w (A := ⟨#[112, 114, 101, 32]⟩) (B := tB o0) rfl rfl hz1 (by (try simp only [List.length_cons, List.length_nil] at *); omega)
  have HZ := Lib.hid heq
  clear heq hll hz1 lz1
  rw [← HZ.out]
  clear hl2 hw hk
  have hlen : x.ar.length ≤ 9223372036854775807 := by have := hx.len.1; unfold maxLen at this; exact this
  have hmx := (List.getElem?_eq_some_iff.1 h0).1
  have hi0 : (0 : Int) < (x.ar.length : Int) := by omega
  have hn0 : 0 < x.ar.length := by omega
  simp only [xV] at KO ⊢
  clear KX HZ h hM hs hE
  go_enter Tryz.func36, Tryz.ntmps36
  go_wp2
  obtain ⟨W0, hW0⟩ : ∃ W0, ((w.alloc (.cells #[.slice E.A E.l.length E.c, .map (some b)] 64)).alloc (.cells #[.int .i64 x.k, .int .i64 x.op, .int .i64 x.t, .int .i64 x.v, .string x.nm, .slice x.A x.ar.length x.c] 33)) = W0 := ⟨_, rfl⟩
  have hB0 : Below w.heap.size w W0 := by rw [← hW0]; exact bel_alloc (bel_box _) _
  have b00 : W0.cell? ⟨w.heap.size, 0, none⟩ = some (.slice E.A E.l.length E.c) := by rw [← hW0]; simp [go_sem]
  have b01 : W0.cell? ⟨w.heap.size, 1, none⟩ = some (.map (some b)) := by rw [← hW0]; simp [go_sem]
  have b10 : W0.cell? ⟨w.heap.size + 1, 0, none⟩ = some (.int .i64 x.k) := by rw [← hW0]; simp [go_sem]
  have b11 : W0.cell? ⟨w.heap.size + 1, 1, none⟩ = some (.int .i64 x.op) := by rw [← hW0]; simp [go_sem]
  have b12 : W0.cell? ⟨w.heap.size + 1, 2, none⟩ = some (.int .i64 x.t) := by rw [← hW0]; simp [go_sem]
  have b13 : W0.cell? ⟨w.heap.size + 1, 3, none⟩ = some (.int .i64 x.v) := by rw [← hW0]; simp [go_sem]
  have b14 : W0.cell? ⟨w.heap.size + 1, 4, none⟩ = some (.string x.nm) := by rw [← hW0]; simp [go_sem]
  have b15 : W0.cell? ⟨w.heap.size + 1, 5, none⟩ = some (.slice x.A x.ar.length x.c) := by rw [← hW0]; simp [go_sem]
  have HW0 := Lib.hid hW0
  clear hW0
  rw [HW0.out]
  obtain ⟨ad0, y0, hA0, had0, hy0, _, ⟨c00, c01, c02, c03, c04, c05⟩, _⟩ := (hx.to hB0).at_ (i := 0) (by have := (List.getElem?_eq_some_iff.1 h0).1; omega)
  obtain rfl : y0 = a0 := Option.some.inj (hy0.symm.trans h0)
  rw [hA0] at b15 ⊢
  clear hA0 hy0
  simp [go_sem] at c00 c01 c02 c03 c04 c05
  have q_b00 := cell_regrown b00
  have q_b01 := cell_regrown b01
  have q_b10 := cell_regrown b10
  have q_b11 := cell_regrown b11
  have q_b12 := cell_regrown b12
  have q_b13 := cell_regrown b13
  have q_b14 := cell_regrown b14
  have q_b15 := cell_regrown b15
  have q_c00 := cell_regrown c00
  have q_c01 := cell_regrown c01
  have q_c02 := cell_regrown c02
  have q_c03 := cell_regrown c03
  have q_c04 := cell_regrown c04
  have q_c05 := cell_regrown c05
  have k_0 := fun dd os => Calls.regrown_of (KO.out (grow (redrawn W0 dd) os) (hB0.trans ((below_regrown W0 dd os).mono hB0.size)))
  refine wp_region_quiet_below (by kernel_rfl) (by kernel_rfl) ?_
  repeat (quiet_step (first | with_reducible exact k_0 _ _))
  refine wpQuiet_nil ?_
  intro _ hw'
  obtain ⟨⟨dq, osq⟩, hw''⟩ := hw'
  subst hw''
  have hrw9 : Below W0.heap.size W0 (grow (redrawn W0 dq) osq) := below_regrown W0 dq osq
  have hw9 : Below w.heap.size w (grow (redrawn W0 dq) osq) := hB0.trans (hrw9.mono hB0.size)
  generalize grow (redrawn W0 dq) osq = w9 at hw9 hrw9 ⊢
  clear q_b00 q_b01 q_b10 q_b11 q_b12 q_b13 q_b14 q_b15 q_c00 q_c01 q_c02 q_c03 q_c04 q_c05 k_0
  go_wp2
  go_ret
  exact ⟨rfl, hw9⟩
set_option maxHeartbeats 2000000 in
set_option maxRecDepth 20000 in
theorem ph_expr4 (E : Rw va.En) (b : Nat) (x : Xt) (f : Xt → List UInt8) (w : World) (hs : Std w) (hE : RsE w w.heap.size E) (hM : SymM w b) (hx : RdX w w.heap.size x) (hxt : x.t ≤ 9223372036854775807) (hl : x.ar.length ≤ 17592186044416) (hw : wf1 x)
    (KX : Hid (∀ y ∈ x.ar, ∀ W, Below w.heap.size w W → Calls Tryz.prog 36 #[phV E b, xV y] W (Bel (.string (tB (f y))) W))) (h : (ndS E.l x (x.ar.map f)).length ≤ 140737488355328) (hk : x.k = 4) :
    Calls Tryz.prog 36 #[phV E b, xV x] w (Bel (.string (tB (ndS E.l x (x.ar.map f)))) w) := by
  have hl3 : x.ar.length = 3 := hw.2.1 hk
  obtain ⟨a0, h0⟩ := at_of (l := x.ar) (i := 0) (by omega)
  obtain ⟨a1, h1⟩ := at_of (l := x.ar) (i := 1) (by omega)
  obtain ⟨a2, h2⟩ := at_of (l := x.ar) (i := 2) (by omega)
  unfold ndS at h ⊢
  rw [if_neg (by omega), if_neg (by omega), if_pos hk] at h ⊢
  rw [ts_at h0, ts_at h1, ts_at h2] at h ⊢
  have K0 := Lib.hid (KX.out a0 (List.mem_of_getElem? h0))
  have K1 := Lib.hid (KX.out a1 (List.mem_of_getElem? h1))
  have K2 := Lib.hid (KX.out a2 (List.mem_of_getElem? h2))
  have qk0 : (x.k == 1) = false := by simp [hk]
  have qk1 : (x.k == 3) = false := by simp [hk]
  have qk2 : (x.k == 4) = true := by simp [hk]
  generalize f a0 = s0 at *
  generalize f a1 = s1 at *
  generalize f a2 = s2 at *
  obtain ⟨z1, hz1⟩ : ∃ q, ([105, 102, 32]) ++ (s0) = q := ⟨_, rfl⟩
  have lz1 := congrArg List.length hz1
  rw [List.length_append] at lz1
  obtain ⟨z2, hz2⟩ : ∃ q, (z1) ++ ([32, 116, 104, 101, 110, 32]) = q := ⟨_, rfl⟩
  have lz2 := congrArg List.length hz2
  rw [List.length_append] at lz2
  obtain ⟨z3, hz3⟩ : ∃ q, (z2) ++ (s1) = q := ⟨_, rfl⟩
  have lz3 := congrArg List.length hz3
  rw [List.length_append] at lz3
  obtain ⟨z4, hz4⟩ : ∃ q, (z3) ++ ([32, 101, 108, 115, 101, 32]) = q := ⟨_, rfl⟩
  have lz4 := congrArg List.length hz4
  rw [List.length_append] at lz4
  obtain ⟨z5, hz5⟩ : ∃ q, (z4) ++ (s2) = q := ⟨_, rfl⟩
  have lz5 := congrArg List.length hz5
  rw [List.length_append] at lz5
  have heq : z5 = [105, 102, 32] ++ s0 ++ [32, 116, 104, 101, 110, 32] ++ s1 ++ [32, 101, 108, 115, 101, 32] ++ s2 := by
    subst hz1 hz2 hz3 hz4 hz5
    rfl
  have hll : z5.length ≤ 140737488355328 := by rw [heq]; exact h
  have kaz1 := fun w => add_tB (P := Tryz.prog) w (A := ⟨#[105, 102, 32]⟩) (B := tB s0) rfl rfl hz1 (by (try simp only [List.length_cons, List.length_nil] at *); omega)
  have kaz2 := fun w => add_tB (P := Tryz.prog) w (A := tB z1) (B := ⟨#[32, 116, 104, 101, 110, 32]⟩) rfl rfl hz2 (by (try simp only [List.length_cons, List.length_nil] at *); omega)
  have kaz3 := fun w => add_tB (P := Tryz.prog) w (A := tB z2) (B := tB s1) rfl rfl hz3 (by (try simp only [List.length_cons, List.length_nil] at *); omega)
  have kaz4 := fun w => add_tB (P := Tryz.prog) w (A := tB z3) (B := ⟨#[32, 101, 108, 115, 101, 32]⟩) rfl rfl hz4 (by (try simp only [List.length_cons, List.length_nil] at *); omega)
  have kaz5 := fun w => add_tB (P := Tryz.prog) w (A := tB z4) (B := tB s2) rfl rfl hz5 (by (try simp only [List.length_cons, List.length_nil] at *); omega)
  have HZ := Lib.hid heq
  clear heq hll hz1 hz2 hz3 hz4 hz5 lz1 lz2 lz3 lz4 lz5
  rw [← HZ.out]
  clear hl3 hw hk
  have hlen : x.ar.length ≤ 9223372036854775807 := by have := hx.len.1; unfold maxLen at this; exact this
  have hmx := (List.getElem?_eq_some_iff.1 h2).1
  have hi0 : (0 : Int) < (x.ar.length : Int) := by omega
  have hi1 : (1 : Int) < (x.ar.length : Int) := by omega
  have hi2 : (2 : Int) < (x.ar.length : Int) := by omega
  have hn0 : 0 < x.ar.length := by omega
  have hn1 : 1 < x.ar.length := by omega
  have hn2 : 2 < x.ar.length := by omega
  simp only [xV] at K0 K1 K2 ⊢
  clear KX HZ h hM hs hE
  go_enter Tryz.func36, Tryz.ntmps36
  go_wp2
  obtain ⟨W0, hW0⟩ : ∃ W0, ((w.alloc (.cells #[.slice E.A E.l.length E.c, .map (some b)] 64)).alloc (.cells #[.int .i64 x.k, .int .i64 x.op, .int .i64 x.t, .int .i64 x.v, .string x.nm, .slice x.A x.ar.length x.c] 33)) = W0 := ⟨_, rfl⟩
  have hB0 : Below w.heap.size w W0 := by rw [← hW0]; exact bel_alloc (bel_box _) _
  have b00 : W0.cell? ⟨w.heap.size, 0, none⟩ = some (.slice E.A E.l.length E.c) := by rw [← hW0]; simp [go_sem]
  have b01 : W0.cell? ⟨w.heap.size, 1, none⟩ = some (.map (some b)) := by rw [← hW0]; simp [go_sem]
  have b10 : W0.cell? ⟨w.heap.size + 1, 0, none⟩ = some (.int .i64 x.k) := by rw [← hW0]; simp [go_sem]
  have b11 : W0.cell? ⟨w.heap.size + 1, 1, none⟩ = some (.int .i64 x.op) := by rw [← hW0]; simp [go_sem]
  have b12 : W0.cell? ⟨w.heap.size + 1, 2, none⟩ = some (.int .i64 x.t) := by rw [← hW0]; simp [go_sem]
  have b13 : W0.cell? ⟨w.heap.size + 1, 3, none⟩ = some (.int .i64 x.v) := by rw [← hW0]; simp [go_sem]
  have b14 : W0.cell? ⟨w.heap.size + 1, 4, none⟩ = some (.string x.nm) := by rw [← hW0]; simp [go_sem]
  have b15 : W0.cell? ⟨w.heap.size + 1, 5, none⟩ = some (.slice x.A x.ar.length x.c) := by rw [← hW0]; simp [go_sem]
  have HW0 := Lib.hid hW0
  clear hW0
  rw [HW0.out]
  obtain ⟨ad0, y0, hA0, had0, hy0, _, ⟨c00, c01, c02, c03, c04, c05⟩, _⟩ := (hx.to hB0).at_ (i := 0) (by have := (List.getElem?_eq_some_iff.1 h0).1; omega)
  obtain rfl : y0 = a0 := Option.some.inj (hy0.symm.trans h0)
  obtain ⟨ad1, y1, hA1, had1, hy1, _, ⟨c10, c11, c12, c13, c14, c15⟩, _⟩ := (hx.to hB0).at_ (i := 1) (by have := (List.getElem?_eq_some_iff.1 h1).1; omega)
  obtain rfl : y1 = a1 := Option.some.inj (hy1.symm.trans h1)
  obtain ⟨ad2, y2, hA2, had2, hy2, _, ⟨c20, c21, c22, c23, c24, c25⟩, _⟩ := (hx.to hB0).at_ (i := 2) (by have := (List.getElem?_eq_some_iff.1 h2).1; omega)
  obtain rfl : y2 = a2 := Option.some.inj (hy2.symm.trans h2)
  obtain rfl : ad0 = ad1 := Option.some.inj (hA0.symm.trans hA1)
  obtain rfl : ad0 = ad2 := Option.some.inj (hA0.symm.trans hA2)
  rw [hA0] at b15 ⊢
  clear hA0 hy0 hA1 hy1 hA2 hy2
  simp [go_sem] at c00 c01 c02 c03 c04 c05 c10 c11 c12 c13 c14 c15 c20 c21 c22 c23 c24 c25
  have q_b00 := cell_regrown b00
  have q_b01 := cell_regrown b01
  have q_b10 := cell_regrown b10
  have q_b11 := cell_regrown b11
  have q_b12 := cell_regrown b12
  have q_b13 := cell_regrown b13
  have q_b14 := cell_regrown b14
  have q_b15 := cell_regrown b15
  have q_c00 := cell_regrown c00
  have q_c01 := cell_regrown c01
  have q_c02 := cell_regrown c02
  have q_c03 := cell_regrown c03
  have q_c04 := cell_regrown c04
  have q_c05 := cell_regrown c05
  have q_c10 := cell_regrown c10
  have q_c11 := cell_regrown c11
  have q_c12 := cell_regrown c12
  have q_c13 := cell_regrown c13
  have q_c14 := cell_regrown c14
  have q_c15 := cell_regrown c15
  have q_c20 := cell_regrown c20
  have q_c21 := cell_regrown c21
  have q_c22 := cell_regrown c22
  have q_c23 := cell_regrown c23
  have q_c24 := cell_regrown c24
  have q_c25 := cell_regrown c25
  have k_0 := fun dd os => Calls.regrown_of (K0.out (grow (redrawn W0 dd) os) (hB0.trans ((below_regrown W0 dd os).mono hB0.size)))
  have k_1 := fun dd os => Calls.regrown_of (K1.out (grow (redrawn W0 dd) os) (hB0.trans ((below_regrown W0 dd os).mono hB0.size)))
  have k_2 := fun dd os => Calls.regrown_of (K2.out (grow (redrawn W0 dd) os) (hB0.trans ((below_regrown W0 dd os).mono hB0.size)))
  refine wp_region_quiet_below (by kernel_rfl) (by kernel_rfl) ?_
  repeat (quiet_step (first | with_reducible exact k_0 _ _ | with_reducible exact k_1 _ _ | with_reducible exact k_2 _ _))
  refine wpQuiet_nil ?_
  intro _ hw'
  obtain ⟨⟨dq, osq⟩, hw''⟩ := hw'
  subst hw''
  have hrw9 : Below W0.heap.size W0 (grow (redrawn W0 dq) osq) := below_regrown W0 dq osq
  have hw9 : Below w.heap.size w (grow (redrawn W0 dq) osq) := hB0.trans (hrw9.mono hB0.size)
  generalize grow (redrawn W0 dq) osq = w9 at hw9 hrw9 ⊢
  clear q_b00 q_b01 q_b10 q_b11 q_b12 q_b13 q_b14 q_b15 q_c00 q_c01 q_c02 q_c03 q_c04 q_c05 q_c10 q_c11 q_c12 q_c13 q_c14 q_c15 q_c20 q_c21 q_c22 q_c23 q_c24 q_c25 k_0 k_1 k_2
  go_wp2
  go_ret
  exact ⟨rfl, hw9⟩
set_option maxHeartbeats 2000000 in
set_option maxRecDepth 20000 in
theorem ph_expr11 (E : Rw va.En) (b : Nat) (x : Xt) (f : Xt → List UInt8) (w : World) (hs : Std w) (hE : RsE w w.heap.size E) (hM : SymM w b) (hx : RdX w w.heap.size x) (hxt : x.t ≤ 9223372036854775807) (hl : x.ar.length ≤ 17592186044416) (hw : wf1 x) (h : (ndS E.l x (x.ar.map f)).length ≤ 140737488355328) (hk : x.k = 11) :
    Calls Tryz.prog 36 #[phV E b, xV x] w (Bel (.string (tB (ndS E.l x (x.ar.map f)))) w) := by
  unfold ndS at h ⊢
  rw [if_neg (by omega), if_neg (by omega), if_neg (by omega), if_neg (by omega), if_neg (by omega), if_neg (by omega), if_neg (by omega), if_neg (by omega), if_neg (by omega), if_pos hk] at h ⊢
  have qk0 : (x.k == 1) = false := by simp [hk]
  have qk1 : (x.k == 3) = false := by simp [hk]
  have qk2 : (x.k == 4) = false := by simp [hk]
  have qk3 : (x.k == 5) = false := by simp [hk]
  have qk4 : (x.k == 6) = false := by simp [hk]
  have qk5 : (x.k == 7) = false := by simp [hk]
  have qk6 : (x.k == 8) = false := by simp [hk]
  have qk7 : (x.k == 9) = false := by simp [hk]
  have qk8 : (x.k == 10) = false := by simp [hk]
  have qk9 : (x.k == 11) = true := by simp [hk]
  obtain ⟨z1, hz1⟩ : ∃ q, ([39]) ++ (bsT x.nm) = q := ⟨_, rfl⟩
  have lz1 := congrArg List.length hz1
  rw [List.length_append] at lz1
  obtain ⟨z2, hz2⟩ : ∃ q, (z1) ++ ([39]) = q := ⟨_, rfl⟩
  have lz2 := congrArg List.length hz2
  rw [List.length_append] at lz2
  have heq : z2 = [39] ++ bsT x.nm ++ [39] := by
    subst hz1 hz2
    rfl
  have hll : z2.length ≤ 140737488355328 := by rw [heq]; exact h
  have kaz1 := fun w => add_tB (P := Tryz.prog) w (A := ⟨#[39]⟩) (B := x.nm) rfl (tB_bsT _).symm hz1 (by (try simp only [List.length_cons, List.length_nil] at *); omega)
  have kaz2 := fun w => add_tB (P := Tryz.prog) w (A := tB z1) (B := ⟨#[39]⟩) rfl rfl hz2 (by (try simp only [List.length_cons, List.length_nil] at *); omega)
  have HZ := Lib.hid heq
  clear heq hll hz1 hz2 lz1 lz2
  rw [← HZ.out]
  clear HZ hs hE hM hx h hw hk
  simp only [xV]
  go_enter Tryz.func36, Tryz.ntmps36
  go_wp2
  go_ret
  exact ⟨rfl, bl⟩
set_option maxHeartbeats 2000000 in
set_option maxRecDepth 20000 in
theorem ph_expr0 (E : Rw va.En) (b : Nat) (x : Xt) (f : Xt → List UInt8) (w : World) (hs : Std w) (hE : RsE w w.heap.size E) (hM : SymM w b) (hx : RdX w w.heap.size x) (hxt : x.t ≤ 9223372036854775807) (hl : x.ar.length ≤ 17592186044416) (hw : wf1 x) (h : (ndS E.l x (x.ar.map f)).length ≤ 140737488355328) (hk : x.k < 1 ∨ x.k = 2 ∨ 11 < x.k) :
    Calls Tryz.prog 36 #[phV E b, xV x] w (Bel (.string (tB (ndS E.l x (x.ar.map f)))) w) := by
  unfold ndS
  rw [if_neg (by omega), if_neg (by omega), if_neg (by omega), if_neg (by omega), if_neg (by omega), if_neg (by omega), if_neg (by omega), if_neg (by omega), if_neg (by omega), if_neg (by omega)]
  rw [tB_bsT]
  have qk0 : (x.k == 1) = false := by simp; omega
  have qk1 : (x.k == 3) = false := by simp; omega
  have qk2 : (x.k == 4) = false := by simp; omega
  have qk3 : (x.k == 5) = false := by simp; omega
  have qk4 : (x.k == 6) = false := by simp; omega
  have qk5 : (x.k == 7) = false := by simp; omega
  have qk6 : (x.k == 8) = false := by simp; omega
  have qk7 : (x.k == 9) = false := by simp; omega
  have qk8 : (x.k == 10) = false := by simp; omega
  have qk9 : (x.k == 11) = false := by simp; omega
  clear hs hE hM hx h hw hk
  simp only [xV]
  go_enter Tryz.func36, Tryz.ntmps36
  go_wp2
  go_ret
  exact ⟨rfl, bl⟩
end Go.Proofs.YtoimjcfdiljkjaaGreatDoor
