/- Texts of one chain, in one file. -/
import Derived.Lib.Builder
import Derived.Lib.AppendStr
import Derived.Lib.UnsafeStr
import Derived.Laws.Externs
import Derived.Deep.RegionHeld3
import Derived.Laws.IdiomStrings
import Derived.Laws.Concat
import Derived.IntWalk
import Derived.Deep.RegionWith
import Derived.Test.YtoimjcfdiljkjaaGreatDoorQD
/- A strings.Builder that is the last field of a writer: copyCheck, WriteString, WriteByte. -/
namespace Go.Proofs.YtoimjcfdiljkjaaGreatDoor
set_option linter.unusedVariables false
set_option linter.unusedSimpArgs false
open Go.RowKit Go.Sort
/-- block b is a writer: the phrases' two cells, the builder's address, its row of the bytes bs -/
def WrP (B b : Nat) (E : Rw va.En) (m : Nat) (p : Value) (bs : List Value) (w : World) : Prop :=
  B ≤ b ∧ ∃ v, w.heap[b]? = some (.cells #[.slice E.A E.l.length E.c, .map (some m), p, v] 71 (0, 0)) ∧ w.ownsRow B 5 1 v bs.length bs ∧ v.ownBlock ≠ some b
/-- .. fresh or used -/
def Wr (B b : Nat) (E : Rw va.En) (m : Nat) (bs : List Value) (w : World) : Prop := WrP B b E m (.pointer none) bs w ∨ WrP B b E m (.pointer (some ⟨b, 2, none⟩)) bs w
/-- what holds no bytes, and is not the writer, is as it was -/
def Oth (b : Nat) (w w' : World) : Prop := ∀ (k : Nat) (cs : Array Value) (t : TypeId) (fr : Nat × Nat), w.heap[k]? = some (.cells cs t fr) → k ≠ b → t ≠ 5 → w'.heap[k]? = some (.cells cs t fr)
theorem Oth.refl (b : Nat) (w : World) : Oth b w w := fun _ _ _ _ h _ _ => h
theorem Oth.trans {b : Nat} {w w1 w2 : World} (h : Oth b w w1) (h' : Oth b w1 w2) : Oth b w w2 := fun k cs t fr a c d => h' k cs t fr (h k cs t fr a c d) c d
theorem Oth.set (b i : Nat) (w : World) (v : Value) : Oth b w (w.setCell ⟨b, i, none⟩ v) := fun k cs t fr a c _ => ((grownBy_setCellAt w ⟨b, i, none⟩ v).block k (Array.getElem?_eq_some_iff.1 a).1 (fun e => c (by injection e))).trans a
theorem Oth.alloc (b : Nat) (w : World) (o : Obj) : Oth b w (w.alloc o) := fun k cs t fr a _ _ => (Lib.alloc_old w o k (Array.getElem?_eq_some_iff.1 a).1).trans a
theorem Oth.grown {b B : Nat} {w w' : World} {v : Value} {n : Nat} {bs : List Value} (hg : w.grownBy w' v.ownBlock) (hown : w.ownsRow B 5 1 v n bs) : Oth b w w' := fun k cs t fr a _ d =>
  (hg.block k (Array.getElem?_eq_some_iff.1 a).1 (fun e => (Lib.ownBlock_ne hown a d) e.symm)).trans a
theorem WrP.lt {B b m : Nat} {E : Rw va.En} {p : Value} {bs : List Value} {w : World} (h : WrP B b E m p bs w) : b < w.heap.size := by
  obtain ⟨_, v, hb, _⟩ := h
  exact (Array.getElem?_eq_some_iff.1 hb).1
theorem WrP.used {B b m : Nat} {E : Rw va.En} {p : Value} {bs : List Value} {w : World} (h : WrP B b E m p bs w) (q : Value) : WrP B b E m q bs (w.setCell ⟨b, 2, none⟩ q) := by
  obtain ⟨hB, v, hb, hown, hne⟩ := h
  refine ⟨hB, v, ?_, hown.kept (row := some b) (grownBy_setCellAt w ⟨b, 2, none⟩ q) (Or.inr hne), hne⟩
  simp [World.setCell, Array.getElem?_modify, hb]
theorem WrP.put {B b m : Nat} {E : Rw va.En} {p v v' : Value} {bs' : List Value} {w : World} (hB : B ≤ b) (hb : w.heap[b]? = some (.cells #[.slice E.A E.l.length E.c, .map (some m), p, v] 71 (0, 0)))
    (hown : w.ownsRow B 5 1 v' bs'.length bs') : WrP B b E m p bs' (w.setCell ⟨b, 3, none⟩ v') := by
  have hne := Lib.ownBlock_ne hown hb (by decide)
  refine ⟨hB, v', ?_, hown.kept (row := some b) (grownBy_setCellAt w ⟨b, 3, none⟩ v') (Or.inr hne), hne⟩
  simp [World.setCell, Array.getElem?_modify, hb]
theorem wr_size : (Tryz.prog.info? 69).map (·.size) = some 2 := by kernel_rfl
theorem wr_lies : liesAt Tryz.prog Tryz.prog.depth 71 (4 / Tryz.prog.cellsOf 71) 2 69 1 = true := by kernel_rfl
theorem wr_byte : (Tryz.prog.info? 5).map (fun i => (i.zero, i.size, i.bytes)) = some (some (.int .u8 0), 1, 1) := by kernel_rfl
set_option maxHeartbeats 1000000 in
set_option maxRecDepth 100000 in
theorem wr_check (B b m : Nat) (E : Rw va.En) (bs : List Value) (w : World) (h : Wr B b E m bs w) :
    Calls Tryz.prog 124 #[.pointer (some ⟨b, 2, none⟩)] w fun e w' => e = .returned (.tuple #[]) ∧ WrP B b E m (.pointer (some ⟨b, 2, none⟩)) bs w' ∧ Below B w w' ∧ Oth b w w' := by
  obtain ⟨j, hj, hjs⟩ := Option.map_eq_some_iff.1 wr_size
  rcases h with h | h
  · have h' := h
    obtain ⟨hB, v, hb, hown, hne⟩ := h'
    have c2 : w.cell? ⟨b, 2, none⟩ = some (.pointer none) := by rw [Lib.cell_of_heap hb]; rfl
    have f2 : w.frozen? ⟨b, 2, none⟩ = false := Lib.frozen_of_heap hb 2
    have hsh : w.shape? b = some (71, 4) := by simp [World.shape?, hb]
    have HH := Lib.hid h
    have HB := Lib.hid hB
    clear h hb hown hne hB
    go_enter Tryz.func124, Tryz.ntmps124
    go_wp2
    rw [Lib.run_to_unsafe w ⟨b, 2, none⟩ Tryz.underlying66 Tryz.underlying194 hj (by rw [hjs]; decide) hsh (by show 2 < 4; decide)]
    simp only [Result.andThen]
    rw [Oper.upon_value]
    go_wp2
    rw [run_callFunc_extern Tryz.func164 (by kernel_rfl) (by kernel_rfl) (by kernel_rfl) (e := Extern.AbiNoEscape.same) (by kernel_rfl)]
    rw [Lib.run_noEscape]
    simp only [Result.andThen]
    rw [Oper.upon_value]
    go_wp2
    rw [Lib.run_from_unsafe w ⟨b, 2, none⟩ Tryz.underlying194 Tryz.underlying66 hj hsh wr_lies]
    simp only [Result.andThen]
    rw [Oper.upon_value]
    go_wp2
    go_end0
    exact ⟨rfl, HH.out.used _, (Below.refl B w).setCell (p := ⟨b, 2, none⟩) HB.out _, Oth.set _ _ _ _⟩
  · have h' := h
    obtain ⟨hB, v, hb, hown, hne⟩ := h'
    have c2 : w.cell? ⟨b, 2, none⟩ = some (.pointer (some ⟨b, 2, none⟩)) := by rw [Lib.cell_of_heap hb]; rfl
    have HH := Lib.hid h
    clear h hb hown hne hB
    go_enter Tryz.func124, Tryz.ntmps124
    go_wp2
    rw [Lib.run_neq_ptr_same w _ Tryz.underlying66 hj]
    go_wp2
    go_end0
    exact ⟨rfl, HH.out, Below.refl _ _, Oth.refl _ _⟩
set_option maxHeartbeats 2000000 in
set_option maxRecDepth 100000 in
theorem wr_string (B b m : Nat) (E : Rw va.En) (bs : List Value) (s : ByteArray) (w : World) (h : Wr B b E m bs w) (hlen : bs.length + s.size ≤ 140737488355328) (hBw : B ≤ w.heap.size) :
    Calls Tryz.prog 89 #[.pointer (some ⟨b, 2, none⟩), .string s] w fun e w' => e = .returned (.tuple #[.int .i64 s.size, .nilIface]) ∧ WrP B b E m (.pointer (some ⟨b, 2, none⟩)) (bs ++ Lib.strCells s) w' ∧ Below B w w' ∧ Oth b w w' := by
  obtain ⟨i0, hi, hz0, hz1, hz2⟩ := info_parts wr_byte
  have KC := Lib.hid (wr_check B b m E bs w h)
  clear h
  go_enter Tryz.func89, Tryz.ntmps89
  go_wp2_with (first
    | (go_at_call 124; (with_reducible refine KC.out.mono ?_); rintro e w1 ⟨rfl, h1, hb1, ho1⟩; obtain ⟨hB, v, hbk, hown, hne⟩ := h1; have c3 : w1.cell? ⟨b, 3, none⟩ = some v := (by rw [Lib.cell_of_heap hbk]; rfl); have hlt : b < w1.heap.size := (Array.getElem?_eq_some_iff.1 hbk).1)
    | (at_builtin; refine Lib.wpList_append_own_string _ rfl _ _ 67 9 rfl B 5 i0 Tryz.underlying67 Tryz.underlying9 hi hz0 hz1 hz2 _ _ _ rfl hown s rfl (by unfold maxLen; omega) (by omega) (by have := hb1.size; omega) ?_; intro v' w2 hown' hgrow _; have hb2 : w2.heap[b]? = some (.cells #[.slice E.A E.l.length E.c, .map (some m), .pointer (some ⟨b, 2, none⟩), v] 71 (0, 0)) := (by rw [hgrow.block b (by omega) (fun e => hne e.symm)]; exact hbk); have d3 : w2.cell? ⟨b, 3, none⟩ = some v := (by rw [Lib.cell_of_heap hb2]; rfl); have f3 : w2.frozen? ⟨b, 3, none⟩ = false := Lib.frozen_of_heap hb2 3; have HP := Lib.hid (WrP.put (bs' := bs ++ Lib.strCells s) hB hb2 (by simpa [Lib.strCells_length] using hown')); have HBB := Lib.hid (hb1.grown hgrow (by have := hb1.size; omega) (fun k hk => (hown.lt k hk).1)); have HBb := Lib.hid hB; have HO := Lib.hid (ho1.trans (Oth.grown (b := b) hgrow hown)); obtain ⟨ao, n', cap, rfl⟩ : ∃ ao n' cap, v' = .slice ao n' cap := (by rcases hown'.2 with ⟨hv, _⟩ | ⟨g, cap, cur, hv, _⟩; exact ⟨_, _, _, hv⟩; exact ⟨_, _, _, hv⟩); clear hown' hgrow hb2 hbk hown hne hB))
  go_ret2
  exact ⟨rfl, HP.out, HBB.out.setCell (p := ⟨b, 3, none⟩) HBb.out _, HO.out.trans (Oth.set _ _ _ _)⟩
set_option maxHeartbeats 2000000 in
set_option maxRecDepth 100000 in
theorem wr_byte1 (B b m : Nat) (E : Rw va.En) (bs : List Value) (c : Int) (w : World) (h : Wr B b E m bs w) (hlen : bs.length + 1 ≤ 140737488355328) (hBw : B ≤ w.heap.size) :
    Calls Tryz.prog 90 #[.pointer (some ⟨b, 2, none⟩), .int .u8 c] w fun e w' => e = .returned (.nilIface) ∧ WrP B b E m (.pointer (some ⟨b, 2, none⟩)) (bs ++ [.int .u8 c]) w' ∧ Below B w w' ∧ Oth b w w' := by
  obtain ⟨i0, hi, hz0, hz1, hz2⟩ := info_parts wr_byte
  have KC := Lib.hid (wr_check B b m E bs w h)
  clear h
  go_enter Tryz.func90, Tryz.ntmps90
  go_wp2_with (first
    | (go_at_call 124; (with_reducible refine KC.out.mono ?_); rintro e w1 ⟨rfl, h1, hb1, ho1⟩; obtain ⟨hB, v, hbk, hown, hne⟩ := h1; have c3 : w1.cell? ⟨b, 3, none⟩ = some v := (by rw [Lib.cell_of_heap hbk]; rfl); have hlt : b < w1.heap.size := (Array.getElem?_eq_some_iff.1 hbk).1)
    | (at_builtin; refine wpList_append_own _ rfl _ _ 67 rfl B 5 i0 (.int .u8 0) 1 1 Tryz.underlying67 hi hz0 hz1 hz2 rfl (by decide) _ _ _ rfl (hown.alloc _) ⟨w1.heap.size, 0, none⟩ 1 1 [.int .u8 c] rfl rfl (by intro j u hj; match j, hj with | 0, hj => (simp at hj; subst hj; simp [Addr.add])) (by intro u hu; simp at hu; subst hu; rfl) (by unfold maxLen; omega) (by omega) (by have := hb1.size; simp; omega) ?_; intro v' w2 hown' hgrow _; have hb2 : w2.heap[b]? = some (.cells #[.slice E.A E.l.length E.c, .map (some m), .pointer (some ⟨b, 2, none⟩), v] 71 (0, 0)) := (by rw [hgrow.block b (by simp; omega) (fun e => hne e.symm), Lib.alloc_old w1 _ b hlt]; exact hbk); have d3 : w2.cell? ⟨b, 3, none⟩ = some v := (by rw [Lib.cell_of_heap hb2]; rfl); have f3 : w2.frozen? ⟨b, 3, none⟩ = false := Lib.frozen_of_heap hb2 3; have HP := Lib.hid (WrP.put (bs' := bs ++ [.int .u8 c]) hB hb2 (by simpa [Lib.strCells_length] using hown')); have HBB := Lib.hid ((hb1.alloc (by have := hb1.size; omega) _).grown hgrow (by have := hb1.size; simp; omega) (fun k hk => (hown.lt k hk).1)); have HBb := Lib.hid hB; have HO := Lib.hid ((ho1.trans (Oth.alloc b _ _)).trans (Oth.grown (b := b) hgrow (hown.alloc _))); obtain ⟨ao, n', cap, rfl⟩ : ∃ ao n' cap, v' = .slice ao n' cap := (by rcases hown'.2 with ⟨hv, _⟩ | ⟨g, cap, cur, hv, _⟩; exact ⟨_, _, _, hv⟩; exact ⟨_, _, _, hv⟩); clear hown' hgrow hb2 hbk hown hne hB))
  go_ret
  exact ⟨rfl, HP.out, HBB.out.setCell (p := ⟨b, 3, none⟩) HBb.out _, HO.out.trans (Oth.set _ _ _ _)⟩
end Go.Proofs.YtoimjcfdiljkjaaGreatDoor
/- line of the writer. -/
namespace Go.Proofs.YtoimjcfdiljkjaaGreatDoor
set_option linter.unusedVariables false
set_option linter.unusedSimpArgs false
open Go.RowKit Go.Sort
theorem bytes_str (l : List UInt8) (s : ByteArray) : Lib.byteCells l ++ Lib.strCells s = Lib.byteCells (l ++ bsT s) := by
  simp [Lib.byteCells, Lib.strCells, bsT]
theorem bytes_one (l : List UInt8) : Lib.byteCells l ++ [.int .u8 10] = Lib.byteCells (l ++ [10]) := by
  simp [Lib.byteCells]
theorem WrP.to {B b m : Nat} {E : Rw va.En} {bs : List Value} {w : World} (h : WrP B b E m (.pointer (some ⟨b, 2, none⟩)) bs w) : Wr B b E m bs w := .inr h
/-- a row of texts in block g, from o on -/
def Pa (g o : Nat) (ps : List ByteArray) (w : World) : Prop := ∃ cs fr, w.heap[g]? = some (.cells cs 9 fr) ∧ ∀ j x, ps[j]? = some x → cs[o + j]? = some (.string x)
theorem Pa.to {g o b : Nat} {ps : List ByteArray} {w w' : World} (h : Pa g o ps w) (hb : g ≠ b) (ho : Oth b w w') : Pa g o ps w' := by
  obtain ⟨cs, fr, h1, h2⟩ := h
  exact ⟨cs, fr, ho g cs _ fr h1 hb (by decide), h2⟩
theorem Pa.at_ {g o : Nat} {ps : List ByteArray} {w : World} (h : Pa g o ps w) {k : Nat} (hk : k < ps.length) : w.cell? ⟨g, o + k, none⟩ = some (.string ps[k]) := by
  obtain ⟨cs, fr, h1, h2⟩ := h
  rw [Lib.cell_of_heap h1]
  exact h2 k _ (List.getElem?_eq_getElem hk)
theorem Pa.ne {g o B b m : Nat} {E : Rw va.En} {bs : List Value} {ps : List ByteArray} {w : World} (h : Pa g o ps w) (hw : Wr B b E m bs w) : g ≠ b := by
  obtain ⟨cs, fr, h1, _⟩ := h
  intro e
  subst e
  rcases hw with ⟨_, v, h2, _⟩ | ⟨_, v, h2, _⟩
  · rw [h1] at h2; simp at h2
  · rw [h1] at h2; simp at h2
theorem wr_write (B b m : Nat) (E : Rw va.En) (l : List UInt8) (s : ByteArray) (w : World) (h : Wr B b E m (Lib.byteCells l) w) (hlen : (l ++ bsT s).length ≤ 140737488355328) (hBw : B ≤ w.heap.size) :
    Calls Tryz.prog 89 #[.pointer (some ⟨b, 2, none⟩), .string s] w fun e w' => e = .returned (.tuple #[.int .i64 s.size, .nilIface]) ∧ Wr B b E m (Lib.byteCells (l ++ bsT s)) w' ∧ Below B w w' ∧ Oth b w w' := by
  refine (wr_string B b m E (Lib.byteCells l) s w h (by rw [Lib.byteCells_length]; rw [List.length_append, bsT_size] at hlen; exact hlen) hBw).mono ?_
  rintro e w' ⟨rfl, h1, h2, h3⟩
  rw [bytes_str] at h1
  exact ⟨rfl, h1.to, h2, h3⟩
theorem ind_len (k : Nat) : (List.replicate k ([32, 32] : List UInt8)).flatten.length = 2 * k := by
  induction k with
  | zero => rfl
  | succ k ih => rw [List.replicate_succ, List.flatten_cons, List.length_append, ih]; simp only [List.length_cons, List.length_nil]; omega
set_option maxHeartbeats 2000000 in
set_option maxRecDepth 20000 in
theorem wr_line (B b m : Nat) (E : Rw va.En) (l : List UInt8) (n g o c : Nat) (ps : List ByteArray) (w : World) (h : Wr B b E m (Lib.byteCells l) w) (hBw : B ≤ w.heap.size) (hn : n ≤ 140737488355328) (hpl : ps.length ≤ 140737488355328)
    (hp : Pa g o ps w) (hlen : (l ++ linS n (ps.map bsT).flatten).length ≤ 140737488355328) :
    Calls Tryz.prog 50 #[.pointer (some ⟨b, 0, none⟩), .int .i64 (n : Int), .slice (some ⟨g, o, none⟩) ps.length c] w fun e w' => e = .returned (.tuple #[]) ∧ Wr B b E m (Lib.byteCells (l ++ linS n (ps.map bsT).flatten)) w' ∧ Below B w w' ∧ Oth b w w' := by
  have hgb := hp.ne h
  have HP := Lib.hid hp
  have HH := Lib.hid h
  have HL := Lib.hid hlen
  clear h hp hlen
  unfold linS at HL ⊢
  go_enter Tryz.func50, Tryz.ntmps50
  go_wp2
  go_loopw [9] (fun i wr => ∃ k : Nat, k ≤ n ∧ i = .int .i64 (k : Int) ∧ Wr B b E m (Lib.byteCells (l ++ (List.replicate k [32, 32]).flatten)) wr ∧ Below B w wr ∧ Oth b w wr) (fun i _ => n - (intOf i).toNat)
  case atStart => exact ⟨0, by omega, rfl, by simpa using HH.out, Below.refl _ _, Oth.refl _ _⟩
  case round =>
    obtain ⟨k, hk, rfl, hW, hbl, hob⟩ := hrel
    have hzr := hbl.size
    have hlen := HL.out
    simp only [List.length_append, ind_len] at hlen
    by_cases hlt : k < n
    · have KW := Lib.hid (wr_write B b m E (l ++ (List.replicate k [32, 32]).flatten) ⟨#[32, 32]⟩ wr hW (by simp only [List.length_append, ind_len]; show _ + 2 ≤ _; omega) (by omega))
      have e : l ++ (List.replicate k [32, 32]).flatten ++ bsT ⟨#[32, 32]⟩ = l ++ (List.replicate (k + 1) [32, 32]).flatten := by
        rw [List.replicate_succ', List.flatten_append, List.append_assoc]
        rfl
      rw [e] at KW
      clear hW e hlen
      go_wp2_with (go_at_call 89; (with_reducible refine KW.out.mono ?_); rintro e w1 ⟨rfl, h1, hb1, ho1⟩)
      exact ⟨⟨k + 1, by omega, by congr 1, h1, hbl.trans hb1, hob.trans ho1⟩, by simp [intOf]; omega⟩
    · obtain rfl : k = n := by omega
      have HW := Lib.hid hW
      have HO := Lib.hid hob
      clear hW hob hlen
      generalize hind : (List.replicate k ([32, 32] : List UInt8)).flatten = ind at *
      have HI := Lib.hid hind
      clear hind
      go_wp2
      go_loopw [18] (fun i wr' => ∃ j : Nat, j ≤ ps.length ∧ i = .int .i64 (j : Int) ∧ Wr B b E m (Lib.byteCells (l ++ ind ++ ((ps.take j).map bsT).flatten)) wr' ∧ Below B w wr' ∧ Oth b w wr') (fun i _ => ps.length - (intOf i).toNat)
      case atStart => exact ⟨0, by omega, rfl, by simpa using HW.out, hbl, HO.out⟩
      case round =>
        clear hbl hzr HW HO HH
        obtain ⟨j, hj, rfl, hW, hbl, hob⟩ := hrel
        have hzr := hbl.size
        have hlen := HL.out
        simp only [List.length_append] at hlen
        have hfl : (ps.map bsT).flatten = ((ps.take j).map bsT).flatten ++ ((ps.drop j).map bsT).flatten := by
          rw [← List.flatten_append, ← List.map_append, List.take_append_drop]
        rw [hfl, List.length_append] at hlen
        clear hfl
        by_cases hlt : j < ps.length
        · have hcell := (HP.out.to hgb hob).at_ hlt
          have hd : ((ps.drop j).map bsT).flatten = bsT ps[j] ++ ((ps.drop (j + 1)).map bsT).flatten := by
            rw [List.drop_eq_getElem_cons hlt, List.map_cons, List.flatten_cons]
          rw [hd, List.length_append] at hlen
          have e : l ++ ind ++ ((ps.take j).map bsT).flatten ++ bsT ps[j] = l ++ ind ++ ((ps.take (j + 1)).map bsT).flatten := by
            rw [List.take_add_one, List.getElem?_eq_getElem hlt, Option.toList_some, List.map_append, List.flatten_append, List.append_assoc]
            simp
          have KW := Lib.hid (wr_write B b m E (l ++ ind ++ ((ps.take j).map bsT).flatten) ps[j] wr hW (by simp only [List.length_append]; omega) (by omega))
          rw [e] at KW
          have HO := Lib.hid hob
          clear hW e hlen hd hob
          generalize ps[j] = s at *
          go_wp2_with (go_at_call 89; (with_reducible refine KW.out.mono ?_); rintro e w1 ⟨rfl, h1, hb1, ho1⟩)
          exact ⟨⟨j + 1, by omega, by congr 1, h1, hbl.trans hb1, HO.out.trans ho1⟩, by simp [intOf]; omega⟩
        · obtain rfl : j = ps.length := by omega
          rw [List.take_length] at hW
          have hl2 : (l ++ ind ++ (ps.map bsT).flatten).length + 1 ≤ 140737488355328 := by
            have := HL.out
            simp only [List.length_append, List.length_cons, List.length_nil] at this ⊢
            omega
          have KB := Lib.hid (wr_byte1 B b m E (Lib.byteCells (l ++ ind ++ (ps.map bsT).flatten)) 10 wr hW (by rw [Lib.byteCells_length]; exact hl2) (by omega))
          rw [bytes_one] at KB
          have HO := Lib.hid hob
          have ef : l ++ ind ++ (ps.map bsT).flatten ++ [10] = l ++ (ind ++ (ps.map bsT).flatten ++ [10]) := by simp [List.append_assoc]
          rw [ef] at KB
          clear hW hob hlen hl2 ef
          go_wp2_with (go_at_call 90; (with_reducible refine KB.out.mono ?_); rintro e w1 ⟨rfl, h1, hb1, ho1⟩)
          go_end0
          rw [← HI.out] at h1
          exact ⟨rfl, h1.to, hbl.trans hb1, HO.out.trans ho1⟩
end Go.Proofs.YtoimjcfdiljkjaaGreatDoor
/- enum of the writer. -/
namespace Go.Proofs.YtoimjcfdiljkjaaGreatDoor
set_option linter.unusedVariables false
set_option linter.unusedSimpArgs false
open Go.RowKit Go.Sort
theorem WrP.below {B b m : Nat} {E : Rw va.En} {p : Value} {bs : List Value} {w W : World} (h : WrP B b E m p bs w) (hb : Below w.heap.size w W) : WrP B b E m p bs W := by
  have hlt := h.lt
  obtain ⟨hB, v, h1, h2, h3⟩ := h
  exact ⟨hB, v, (hb.block b hlt).trans h1, h2.kept (row := none) (below_grown hb) (by rcases ho : v.ownBlock with _ | q <;> simp), h3⟩
theorem Wr.below {B b m : Nat} {E : Rw va.En} {bs : List Value} {w W : World} (h : Wr B b E m bs w) (hb : Below w.heap.size w W) : Wr B b E m bs W := by
  rcases h with h | h
  · exact .inl (h.below hb)
  · exact .inr (h.below hb)
theorem Oth.below {b : Nat} {w W : World} (hb : Below w.heap.size w W) : Oth b w W := fun k cs t fr a _ _ => (hb.block k (Array.getElem?_eq_some_iff.1 a).1).trans a
/-- a line whose parts have just been laid -/
theorem wr_lineA (B b m : Nat) (E : Rw va.En) (l : List UInt8) (n c : Nat) (ps : List ByteArray) (vs : Array Value) (w : World) (h : Wr B b E m (Lib.byteCells l) w) (hBw : B ≤ w.heap.size) (hn : n ≤ 140737488355328) (hpl : ps.length ≤ 140737488355328) (hvs : vs = (ps.map Value.string).toArray)
    (hlen : (l ++ linS n (ps.map bsT).flatten).length ≤ 140737488355328) :
    Calls Tryz.prog 50 #[.pointer (some ⟨b, 0, none⟩), .int .i64 (n : Int), .slice (some ⟨w.heap.size, 0, none⟩) ps.length c] (w.alloc (.cells vs 9)) fun e w' => e = .returned (.tuple #[]) ∧ Wr B b E m (Lib.byteCells (l ++ linS n (ps.map bsT).flatten)) w' ∧ Below B w w' ∧ Oth b w w' := by
  subst hvs
  have hb : Below w.heap.size w (w.alloc (.cells (ps.map Value.string).toArray 9)) := bel_box _
  refine (wr_line B b m E l n w.heap.size 0 c ps (w.alloc (.cells (ps.map Value.string).toArray 9)) (h.below hb) (Nat.le_trans hBw hb.size) hn hpl ⟨_, _, heap_alloc_new w _, fun j x hx => ?_⟩ hlen).mono ?_
  · rw [Nat.zero_add]
    simp [hx]
  · rintro e w' ⟨rfl, h1, h2, h3⟩
    exact ⟨rfl, h1, (hb.mono hBw).trans h2, (Oth.below hb).trans h3⟩
set_option maxHeartbeats 2000000 in
set_option maxRecDepth 20000 in
theorem wr_enum (B b m : Nat) (E : Rw va.En) (l : List UInt8) (e : va.En) (w : World) (h : Wr B b E m (Lib.byteCells l) w) (hBw : B ≤ w.heap.size) (hR : RsB w w.heap.size ⟨e.A, e.c, e.tags⟩) (htl : e.tags.length ≤ 17592186044416)
    (hlen : (l ++ linS 0 ([116, 121, 112, 101, 32] ++ bsT e.name ++ [32, 61, 32] ++ Lib.join (e.tags.map bsT) [32, 124, 32] ++ [59])).length ≤ 140737488355328) :
    Calls Tryz.prog 24 #[.pointer (some ⟨b, 0, none⟩), .agg #[.string e.name, .slice e.A e.tags.length e.c]] w fun e' w' => e' = .returned (.tuple #[]) ∧ Wr B b E m (Lib.byteCells (l ++ linS 0 ([116, 121, 112, 101, 32] ++ bsT e.name ++ [32, 61, 32] ++ Lib.join (e.tags.map bsT) [32, 124, 32] ++ [59]))) w' ∧ Below B w w' ∧ Oth b w w' := by
  have hjl : (Lib.join (e.tags.map bsT) [32, 124, 32]).length ≤ 140737488355328 := by
    unfold linS at hlen
    simp only [List.length_append] at hlen
    omega
  have KJ : Hid (∀ W, Below w.heap.size w W → Calls Tryz.prog 51 #[.slice e.A e.tags.length e.c, .string ⟨#[32, 124, 32]⟩] W (Bel (.string (tB (Lib.join (e.tags.map bsT) [32, 124, 32]))) W)) := Lib.hid fun W hb =>
    join_strs ⟨e.A, e.c, e.tags⟩ ⟨#[32, 124, 32]⟩ W (hR.blw hb hb.size).1 htl hjl
  have KL : Hid (∀ W, Below w.heap.size w W → Calls Tryz.prog 50 #[.pointer (some ⟨b, 0, none⟩), .int .i64 0, .slice (some ⟨W.heap.size, 0, none⟩) 5 5] (W.alloc (.cells #[.string ⟨#[116, 121, 112, 101, 32]⟩, .string e.name, .string ⟨#[32, 61, 32]⟩, .string (tB (Lib.join (e.tags.map bsT) [32, 124, 32])), .string ⟨#[59]⟩] 9))
      fun e' w' => e' = .returned (.tuple #[]) ∧ Wr B b E m (Lib.byteCells (l ++ linS 0 ([116, 121, 112, 101, 32] ++ bsT e.name ++ [32, 61, 32] ++ Lib.join (e.tags.map bsT) [32, 124, 32] ++ [59]))) w' ∧ Below B W w' ∧ Oth b W w') := Lib.hid fun W hb => by
    have ef : ([⟨#[116, 121, 112, 101, 32]⟩, e.name, ⟨#[32, 61, 32]⟩, tB (Lib.join (e.tags.map bsT) [32, 124, 32]), ⟨#[59]⟩].map bsT).flatten = [116, 121, 112, 101, 32] ++ bsT e.name ++ [32, 61, 32] ++ Lib.join (e.tags.map bsT) [32, 124, 32] ++ [59] := by
      simp only [List.map_cons, List.map_nil, List.flatten_cons, List.flatten_nil, bsT_tB, List.append_nil]
      simp only [List.append_assoc]
      rfl
    have := wr_lineA B b m E l 0 5 [⟨#[116, 121, 112, 101, 32]⟩, e.name, ⟨#[32, 61, 32]⟩, tB (Lib.join (e.tags.map bsT) [32, 124, 32]), ⟨#[59]⟩] #[.string ⟨#[116, 121, 112, 101, 32]⟩, .string e.name, .string ⟨#[32, 61, 32]⟩, .string (tB (Lib.join (e.tags.map bsT) [32, 124, 32])), .string ⟨#[59]⟩] W (h.below hb) (Nat.le_trans hBw hb.size) (by omega) (by simp) rfl (by rw [ef]; exact hlen)
    rw [ef] at this
    exact this
  have hne : w.heap.size ≠ b := by
    have : b < w.heap.size := by rcases h with h | h <;> exact h.lt
    omega
  clear h hlen hR hjl htl
  generalize tB (Lib.join (e.tags.map bsT) [32, 124, 32]) = jj at *
  generalize l ++ linS 0 ([116, 121, 112, 101, 32] ++ bsT e.name ++ [32, 61, 32] ++ Lib.join (e.tags.map bsT) [32, 124, 32] ++ [59]) = ll at *
  go_enter Tryz.func24, Tryz.ntmps24
  go_wp2
  have s0 : (w.alloc (.cells #[.string e.name, .slice e.A e.tags.length e.c] 73)).cell? ⟨w.heap.size, 0, none⟩ = some (.string e.name) := by simp [go_sem]
  have s1 : (w.alloc (.cells #[.string e.name, .slice e.A e.tags.length e.c] 73)).cell? ⟨w.heap.size, 1, none⟩ = some (.slice e.A e.tags.length e.c) := by simp [go_sem]
  obtain ⟨W0, hW0⟩ : ∃ W0, w.alloc (.cells #[.string e.name, .slice e.A e.tags.length e.c] 73) = W0 := ⟨_, rfl⟩
  have hB0 : Below w.heap.size w W0 := by rw [← hW0]; exact bel_box _
  have hz0 : W0.heap.size = w.heap.size + 1 := by rw [← hW0]; simp
  have hk0 : W0.heap[w.heap.size]? = some (.cells #[.string e.name, .slice e.A e.tags.length e.c] 73 (0, 0)) := by rw [← hW0]; exact heap_alloc_new w _
  rw [hW0] at s0 s1 ⊢
  have HW0 := Lib.hid hW0
  have HZ0 := Lib.hid hz0
  clear hW0 hz0
  go_region_held3 (fun w' => w'.cell? ⟨w.heap.size, 0, none⟩ = some (.string e.name) ∧ w'.cell? ⟨w.heap.size, 1, none⟩ = some (.slice e.A e.tags.length e.c)) (first | exact ⟨s0, s1⟩ | exact ⟨t0, t1⟩ | exact ⟨u0 _, u1 _⟩ | exact ⟨v0, v1⟩)
    (first
      | (go_at_call 51; (with_reducible refine (KJ.out _ ?_).mono ?_); (focus ((repeat (first | (with_reducible exact Below.refl _ _) | (with_reducible assumption) | (with_reducible exact bel_box _) | (with_reducible refine bel_step ?_ (by with_reducible assumption)) | (with_reducible refine Below.drew ?_) | (with_reducible refine below_drewN ?_ _) | (with_reducible refine bel_alloc ?_ _))); done)); rintro e' w1 ⟨rfl, hb1⟩; have t0 := (hb1.cell (block_lt_of_cell s0)).trans s0; have t1 := (hb1.cell (block_lt_of_cell s1)).trans s1; have hB1 : Below w.heap.size w w1 := (by repeat (first | (with_reducible exact Below.refl _ _) | (with_reducible assumption) | (with_reducible exact bel_box _) | (with_reducible refine bel_step ?_ (by with_reducible assumption)) | (with_reducible refine Below.drew ?_) | (with_reducible refine below_drewN ?_ _) | (with_reducible refine bel_alloc ?_ _))); have k1 := (hb1.block _ (Array.getElem?_eq_some_iff.1 hk0).1).trans hk0; have u1 : ∀ o, (w1.alloc o).cell? ⟨w.heap.size, 1, none⟩ = some (.slice e.A e.tags.length e.c) := (fun o => ((bel_box (w := w1) o).cell (block_lt_of_cell t1)).trans t1); have u0 : ∀ o, (w1.alloc o).cell? ⟨w.heap.size, 0, none⟩ = some (.string e.name) := (fun o => ((bel_box (w := w1) o).cell (block_lt_of_cell t0)).trans t0))
      | (go_at_call 50; (refine (KL.out _ hB1).mono ?_); rintro e' w2 ⟨rfl, hw2, hb2, ho2⟩; have k2 := ho2 _ _ _ _ k1 hne (by decide); have v0 : w2.cell? ⟨w.heap.size, 0, none⟩ = some (.string e.name) := (by rw [Lib.cell_of_heap k2]; rfl); have v1 : w2.cell? ⟨w.heap.size, 1, none⟩ = some (.slice e.A e.tags.length e.c) := (by rw [Lib.cell_of_heap k2]; rfl)))
  go_wp2
  go_end0
  exact ⟨rfl, hw2, (hB1.mono hBw).trans hb2, (Oth.below hB1).trans ho2⟩
end Go.Proofs.YtoimjcfdiljkjaaGreatDoor
/- locals of the writer. -/
namespace Go.Proofs.YtoimjcfdiljkjaaGreatDoor
set_option linter.unusedVariables false
set_option linter.unusedSimpArgs false
open Go.RowKit Go.Sort
theorem Wr.cells {B b m : Nat} {E : Rw va.En} {bs : List Value} {w : World} (h : Wr B b E m bs w) : w.cell? ⟨b, 0, none⟩ = some (.slice E.A E.l.length E.c) ∧ w.cell? ⟨b, 1, none⟩ = some (.map (some m)) := by
  rcases h with ⟨_, v, h, _⟩ | ⟨_, v, h, _⟩
  · exact ⟨by rw [Lib.cell_of_heap h]; rfl, by rw [Lib.cell_of_heap h]; rfl⟩
  · exact ⟨by rw [Lib.cell_of_heap h]; rfl, by rw [Lib.cell_of_heap h]; rfl⟩
def lcsS (es : List va.En) (n : Nat) (l : List Dt) : List UInt8 := if 0 < l.length then linS n ([118, 97, 114, 32] ++ dcsS es l ++ [59]) else []
set_option maxHeartbeats 2000000 in
set_option maxRecDepth 20000 in
theorem wr_locals (w0 : World) (b m : Nat) (E : Rw va.En) (l : List UInt8) (n : Nat) (r : Rw Dt) (w : World) (hs : Std w0) (hE : RsE w0 w0.heap.size E) (hr : RsDs w0 w0.heap.size r) (hl : r.l.length ≤ 17592186044416) (hl2 : ∀ d ∈ r.l, d.ck.l.length ≤ 17592186044416) (hn : n ≤ 140737488355328)
    (hb : Below w0.heap.size w0 w) (h : Wr w0.heap.size b E m (Lib.byteCells l) w) (hlen : (l ++ lcsS E.l n r.l).length ≤ 140737488355328) :
    Calls Tryz.prog 53 #[.pointer (some ⟨b, 0, none⟩), .int .i64 (n : Int), .slice r.A r.l.length r.c] w fun e w' => e = .returned (.tuple #[]) ∧ Wr w0.heap.size b E m (Lib.byteCells (l ++ lcsS E.l n r.l)) w' ∧ Below w0.heap.size w w' ∧ Oth b w w' := by
  have hlr : r.l.length ≤ 9223372036854775807 := by omega
  unfold lcsS at hlen ⊢
  by_cases z0 : 0 < r.l.length
  · rw [if_pos z0] at hlen ⊢
    have q0 : (0 : Int) < (r.l.length : Int) := by omega
    clear z0
    have KD : Hid (∀ W, Below w.heap.size w W → Calls Tryz.prog 52 #[phV E m, .slice r.A r.l.length r.c] W (Bel (.string (tB (dcsS E.l r.l))) W)) := Lib.hid fun W hW => by
      have hb' : Below w0.heap.size w0 W := hb.trans (hW.mono hb.size)
      exact ph_decls E m r W (hs.to hb') (hE.blw hb' hb'.size) (hr.blw hb' hb'.size) hl hl2 (by unfold linS at hlen; simp only [List.length_append] at hlen; omega)
    have KL : Hid (∀ W, Below w.heap.size w W → Calls Tryz.prog 50 #[.pointer (some ⟨b, 0, none⟩), .int .i64 (n : Int), .slice (some ⟨W.heap.size, 0, none⟩) 3 3] (W.alloc (.cells #[.string ⟨#[118, 97, 114, 32]⟩, .string (tB (dcsS E.l r.l)), .string ⟨#[59]⟩] 9))
        fun e w' => e = .returned (.tuple #[]) ∧ Wr w0.heap.size b E m (Lib.byteCells (l ++ linS n ([118, 97, 114, 32] ++ dcsS E.l r.l ++ [59]))) w' ∧ Below w0.heap.size W w' ∧ Oth b W w') := Lib.hid fun W hW => by
      have ef : ([⟨#[118, 97, 114, 32]⟩, tB (dcsS E.l r.l), ⟨#[59]⟩].map bsT).flatten = [118, 97, 114, 32] ++ dcsS E.l r.l ++ [59] := by
        simp only [List.map_cons, List.map_nil, List.flatten_cons, List.flatten_nil, bsT_tB, List.append_nil]
        simp only [List.append_assoc]
        rfl
      have := wr_lineA w0.heap.size b m E l n 3 [⟨#[118, 97, 114, 32]⟩, tB (dcsS E.l r.l), ⟨#[59]⟩] #[.string ⟨#[118, 97, 114, 32]⟩, .string (tB (dcsS E.l r.l)), .string ⟨#[59]⟩] W (h.below hW) (Nat.le_trans hb.size hW.size) hn (by simp) rfl (by rw [ef]; exact hlen)
      rw [ef] at this
      exact this
    have hsz := hb.size
    have s0 := h.cells.1
    have s1 := h.cells.2
    have hrf : Below w.heap.size w w := Below.refl _ _
    clear h hlen hr hl hl2 hs hE hb
    generalize tB (dcsS E.l r.l) = jj at *
    generalize l ++ linS n ([118, 97, 114, 32] ++ dcsS E.l r.l ++ [59]) = ll at *
    go_enter Tryz.func53, Tryz.ntmps53
    go_wp2_with (first
      | (go_at_call 52; (with_reducible refine (KD.out _ ?_).mono ?_); (focus ((repeat (first | (with_reducible exact Below.refl _ _) | (with_reducible assumption) | (with_reducible exact bel_box _) | (with_reducible refine bel_step ?_ (by with_reducible assumption)) | (with_reducible refine Below.drew ?_) | (with_reducible refine below_drewN ?_ _) | (with_reducible refine bel_alloc ?_ _))); done)); rintro e' w1 ⟨rfl, hb1⟩; have hB1 : Below w.heap.size w w1 := (by repeat (first | (with_reducible exact Below.refl _ _) | (with_reducible assumption) | (with_reducible exact bel_box _) | (with_reducible refine bel_step ?_ (by with_reducible assumption)) | (with_reducible refine Below.drew ?_) | (with_reducible refine below_drewN ?_ _) | (with_reducible refine bel_alloc ?_ _))))
      | (go_at_call 50; (refine (KL.out _ hB1).mono ?_); rintro e' w2 ⟨rfl, hw2, hb2, ho2⟩))
    go_end0
    exact ⟨rfl, hw2, (hB1.mono hsz).trans hb2, (Oth.below hB1).trans ho2⟩
  · rw [if_neg z0] at hlen ⊢
    have q0 : (r.l.length : Int) ≤ (0 : Int) := by omega
    rw [List.append_nil]
    have HH := Lib.hid h
    clear z0 hlen hr hl hl2 hs hE hb h
    go_enter Tryz.func53, Tryz.ntmps53
    go_wp2
    go_end0
    exact ⟨rfl, HH.out, Below.refl _ _, Oth.refl _ _⟩
end Go.Proofs.YtoimjcfdiljkjaaGreatDoor
/- claims of the writer. -/
namespace Go.Proofs.YtoimjcfdiljkjaaGreatDoor
set_option linter.unusedVariables false
set_option linter.unusedSimpArgs false
open Go.RowKit Go.Sort
theorem cell_below {w W : World} (hb : Below w.heap.size w W) {a : Addr} {v : Value} (h : w.cell? a = some v) : W.cell? a = some v := (hb.cell (block_lt_of_cell h)).trans h
def cms1 (es : List va.En) (kw : ByteArray) (x : Xt) : List UInt8 := linS 1 (bsT kw ++ x.tx es ++ [59])
def cmsS (es : List va.En) (kw : ByteArray) (l : List Xt) : List UInt8 := (l.map (cms1 es kw)).flatten
theorem flat_take {α : Type} (f : α → List UInt8) (l : List α) {k : Nat} {x : α} (h : l[k]? = some x) : ((l.take (k + 1)).map f).flatten = ((l.take k).map f).flatten ++ f x := by
  rw [List.take_add_one, h, Option.toList_some, List.map_append, List.flatten_append]
  simp
theorem flat_le {α : Type} (f : α → List UInt8) (l : List α) (k : Nat) : ((l.take k).map f).flatten.length ≤ (l.map f).flatten.length := by
  have : l.map f = (l.take k).map f ++ (l.drop k).map f := by rw [← List.map_append, List.take_append_drop]
  rw [this, List.flatten_append, List.length_append]
  omega
set_option maxHeartbeats 2000000 in
set_option maxRecDepth 20000 in
theorem wr_claims (w0 : World) (b m : Nat) (E : Rw va.En) (l : List UInt8) (kw : ByteArray) (r : Rw Xt) (w : World) (hs : Std w0) (hE : RsE w0 w0.heap.size E) (hM : SymM w0 m) (hr : RsXs w0 w0.heap.size r) (hwf : ∀ x ∈ r.l, ∀ y ∈ x.list, wfX y)
    (hb : Below w0.heap.size w0 w) (h : Wr w0.heap.size b E m (Lib.byteCells l) w) (hlen : (l ++ cmsS E.l kw r.l).length ≤ 140737488355328) :
    Calls Tryz.prog 54 #[.pointer (some ⟨b, 0, none⟩), .string kw, .slice r.A r.l.length r.c] w fun e w' => e = .returned (.tuple #[]) ∧ Wr w0.heap.size b E m (Lib.byteCells (l ++ cmsS E.l kw r.l)) w' ∧ Below w0.heap.size w w' ∧ Oth b w w' := by
  have hlr := hr.1.len
  unfold maxLen at hlr
  have HL := Lib.hid hlen
  have HR := Lib.hid hr
  have HH := Lib.hid h
  have HM := Lib.hid hM
  clear hlen hr h hM
  unfold cmsS at HL ⊢
  go_enter Tryz.func54, Tryz.ntmps54
  go_wp2
  go_loopw [10] (fun i wr => ∃ k : Nat, k ≤ r.l.length ∧ i = .int .i64 (k : Int) ∧ Wr w0.heap.size b E m (Lib.byteCells (l ++ ((r.l.take k).map (cms1 E.l kw)).flatten)) wr ∧ Below w0.heap.size w wr ∧ Oth b w wr) (fun i _ => r.l.length - (intOf i).toNat)
  case atStart => exact ⟨0, by omega, rfl, by simpa using HH.out, Below.refl _ _, Oth.refl _ _⟩
  case round =>
    obtain ⟨k, hk, rfl, hW, hbl, hob⟩ := hrel
    have hb0 : Below w0.heap.size w0 wr := hb.trans hbl
    by_cases hlt : k < r.l.length
    · obtain ⟨ad, y, hA, had, hy, hm, ⟨c0, c1, c2, c3, c4, c5⟩⟩ := (HR.out.blw hb0 hb0.size).1.at_ hlt
      rw [hA]
      have hft := flat_take (cms1 E.l kw) r.l hy
      have hfl := flat_le (cms1 E.l kw) r.l (k + 1)
      have hlen : (l ++ ((r.l.take k).map (cms1 E.l kw)).flatten ++ linS 1 (bsT kw ++ y.tx E.l ++ [59])).length ≤ 140737488355328 := by
        have := HL.out
        rw [hft] at hfl
        unfold cms1 at hfl this ⊢
        simp only [List.length_append] at hfl this ⊢
        omega
      have hn : (1 : Nat) ≤ 140737488355328 := by omega
      have hsz := hb0.size
      have KE : Hid (∀ W, Below wr.heap.size wr W → Calls Tryz.prog 36 #[phV E m, xV y] W (Bel (.string (tB (y.tx E.l))) W)) := Lib.hid fun W hW' => by
        have hb' : Below w0.heap.size w0 W := hb0.trans (hW'.mono hsz)
        exact ph_expr E m y (hwf y hm) W (hs.to hb') (hE.blw hb' hb'.size) (HM.out.to hb') ((HR.out.2 y hm).1.to hb') (by unfold linS at hlen; simp only [List.length_append] at hlen; omega)
      have KL : Hid (∀ W, Below wr.heap.size wr W → Calls Tryz.prog 50 #[.pointer (some ⟨b, 0, none⟩), .int .i64 1, .slice (some ⟨W.heap.size, 0, none⟩) 3 3] (W.alloc (.cells #[.string kw, .string (tB (y.tx E.l)), .string ⟨#[59]⟩] 9))
          fun e w' => e = .returned (.tuple #[]) ∧ Wr w0.heap.size b E m (Lib.byteCells (l ++ ((r.l.take k).map (cms1 E.l kw)).flatten ++ linS 1 (bsT kw ++ y.tx E.l ++ [59]))) w' ∧ Below w0.heap.size W w' ∧ Oth b W w') := Lib.hid fun W hW9 => by
        have ef : (([kw, (tB (y.tx E.l)), ⟨#[59]⟩] : List ByteArray).map bsT).flatten = bsT kw ++ y.tx E.l ++ [59] := by
          simp only [List.map_cons, List.map_nil, List.flatten_cons, List.flatten_nil, bsT_tB, List.append_nil]
          try simp only [List.append_assoc]
          try rfl
        have := wr_lineA w0.heap.size b m E (l ++ ((r.l.take k).map (cms1 E.l kw)).flatten) 1 3 [kw, (tB (y.tx E.l)), ⟨#[59]⟩] #[.string kw, .string (tB (y.tx E.l)), .string ⟨#[59]⟩] W (hW.below hW9) (Nat.le_trans hsz hW9.size) hn (by simp) rfl (by rw [ef]; exact hlen)
        rw [ef] at this
        exact this
      have hnx : Hid (l ++ ((r.l.take k).map (cms1 E.l kw)).flatten ++ linS 1 (bsT kw ++ y.tx E.l ++ [59]) = l ++ ((r.l.take (k + 1)).map (cms1 E.l kw)).flatten) := Lib.hid (by rw [hft, List.append_assoc]; rfl)
      have hne : wr.heap.size ≠ b := by
        have : b < wr.heap.size := by rcases hW with h | h <;> exact h.lt
        omega
      have s0 := hW.cells.1
      have s1 := hW.cells.2
      have HO := Lib.hid hob
      clear hA hy hm hft hfl hlen hn hW hob
      generalize tB (y.tx E.l) = jj at *
      generalize l ++ ((r.l.take k).map (cms1 E.l kw)).flatten ++ linS 1 (bsT kw ++ y.tx E.l ++ [59]) = ll at *
      simp only [xV] at KE
      go_wp2
      obtain ⟨WB, hWB⟩ : ∃ WB, wr.alloc (.cells #[.int .i64 y.k, .int .i64 y.op, .int .i64 y.t, .int .i64 y.v, .string y.nm, .slice y.A y.ar.length y.c] 33) = WB := ⟨_, rfl⟩
      have hBB : Below wr.heap.size wr WB := by rw [← hWB]; exact bel_box _
      have kB : WB.heap[wr.heap.size]? = some (.cells #[.int .i64 y.k, .int .i64 y.op, .int .i64 y.t, .int .i64 y.v, .string y.nm, .slice y.A y.ar.length y.c] 33 (0, 0)) := by rw [← hWB]; exact heap_alloc_new wr _
      have s0' := cell_below hBB s0
      have s1' := cell_below hBB s1
      have x0 : WB.cell? ⟨wr.heap.size, 0, none⟩ = some (.int .i64 y.k) := by rw [Lib.cell_of_heap kB]; rfl
      have x1 : WB.cell? ⟨wr.heap.size, 1, none⟩ = some (.int .i64 y.op) := by rw [Lib.cell_of_heap kB]; rfl
      have x2 : WB.cell? ⟨wr.heap.size, 2, none⟩ = some (.int .i64 y.t) := by rw [Lib.cell_of_heap kB]; rfl
      have x3 : WB.cell? ⟨wr.heap.size, 3, none⟩ = some (.int .i64 y.v) := by rw [Lib.cell_of_heap kB]; rfl
      have x4 : WB.cell? ⟨wr.heap.size, 4, none⟩ = some (.string y.nm) := by rw [Lib.cell_of_heap kB]; rfl
      have x5 : WB.cell? ⟨wr.heap.size, 5, none⟩ = some (.slice y.A y.ar.length y.c) := by rw [Lib.cell_of_heap kB]; rfl
      rw [hWB]
      clear hWB
      go_region_held3 (fun w' => w'.cell? ⟨b, 0, none⟩ = some (.slice E.A E.l.length E.c) ∧ w'.cell? ⟨b, 1, none⟩ = some (.map (some m)) ∧ w'.cell? ⟨wr.heap.size, 0, none⟩ = some (.int .i64 y.k) ∧ w'.cell? ⟨wr.heap.size, 1, none⟩ = some (.int .i64 y.op) ∧ w'.cell? ⟨wr.heap.size, 2, none⟩ = some (.int .i64 y.t) ∧ w'.cell? ⟨wr.heap.size, 3, none⟩ = some (.int .i64 y.v) ∧ w'.cell? ⟨wr.heap.size, 4, none⟩ = some (.string y.nm) ∧ w'.cell? ⟨wr.heap.size, 5, none⟩ = some (.slice y.A y.ar.length y.c)) (first | exact ⟨s0', s1', x0, x1, x2, x3, x4, x5⟩ | exact ⟨cell_below hX1 s0', cell_below hX1 s1', cell_below hX1 x0, cell_below hX1 x1, cell_below hX1 x2, cell_below hX1 x3, cell_below hX1 x4, cell_below hX1 x5⟩ | exact ⟨cell_below (bel_alloc hX1 _) s0', cell_below (bel_alloc hX1 _) s1', cell_below (bel_alloc hX1 _) x0, cell_below (bel_alloc hX1 _) x1, cell_below (bel_alloc hX1 _) x2, cell_below (bel_alloc hX1 _) x3, cell_below (bel_alloc hX1 _) x4, cell_below (bel_alloc hX1 _) x5⟩ | exact ⟨v0, v1, y0, y1, y2, y3, y4, y5⟩)
        (first
          | (go_at_call 36; (with_reducible refine (KE.out _ ?_).mono ?_); (focus ((repeat (first | (with_reducible exact Below.refl _ _) | (with_reducible assumption) | (with_reducible exact bel_box _) | (with_reducible refine bel_step ?_ (by with_reducible assumption)) | (with_reducible refine Below.drew ?_) | (with_reducible refine below_drewN ?_ _) | (with_reducible refine bel_alloc ?_ _))); done)); rintro e' w1 ⟨rfl, hb1⟩; have hX1 : Below WB.heap.size WB w1 := (by repeat (first | (with_reducible exact Below.refl _ _) | (with_reducible assumption) | (with_reducible exact bel_box _) | (with_reducible refine bel_step ?_ (by with_reducible assumption)) | (with_reducible refine Below.drew ?_) | (with_reducible refine below_drewN ?_ _) | (with_reducible refine bel_alloc ?_ _))); have hB1 : Below wr.heap.size wr w1 := hBB.trans (hX1.mono hBB.size); have kC := (hX1.block _ (Array.getElem?_eq_some_iff.1 kB).1).trans kB)
          | (go_at_call 50; (refine (KL.out _ hB1).mono ?_); rintro e' w2 ⟨rfl, hw2, hb2, ho2⟩; have v0 := hw2.cells.1; have v1 := hw2.cells.2; have kD := ho2 _ _ _ _ kC hne (by decide); have y0 : w2.cell? ⟨wr.heap.size, 0, none⟩ = some (.int .i64 y.k) := (by rw [Lib.cell_of_heap kD]; rfl); have y1 : w2.cell? ⟨wr.heap.size, 1, none⟩ = some (.int .i64 y.op) := (by rw [Lib.cell_of_heap kD]; rfl); have y2 : w2.cell? ⟨wr.heap.size, 2, none⟩ = some (.int .i64 y.t) := (by rw [Lib.cell_of_heap kD]; rfl); have y3 : w2.cell? ⟨wr.heap.size, 3, none⟩ = some (.int .i64 y.v) := (by rw [Lib.cell_of_heap kD]; rfl); have y4 : w2.cell? ⟨wr.heap.size, 4, none⟩ = some (.string y.nm) := (by rw [Lib.cell_of_heap kD]; rfl); have y5 : w2.cell? ⟨wr.heap.size, 5, none⟩ = some (.slice y.A y.ar.length y.c) := (by rw [Lib.cell_of_heap kD]; rfl)))
      go_wp2
      rw [hnx.out] at hw2
      exact ⟨⟨k + 1, by omega, by congr 1, hw2, (hbl.trans (hB1.mono hsz)).trans hb2, (HO.out.trans (Oth.below hB1)).trans ho2⟩, by simp [intOf]; omega⟩
    · obtain rfl : k = r.l.length := by omega
      rw [List.take_length] at hW
      have HW := Lib.hid hW
      have HO := Lib.hid hob
      clear hW hob
      go_wp2
      go_end0
      exact ⟨rfl, HW.out, hbl, HO.out⟩
end Go.Proofs.YtoimjcfdiljkjaaGreatDoor
/- body of the writer, given what automaton does. -/
namespace Go.Proofs.YtoimjcfdiljkjaaGreatDoor
set_option linter.unusedVariables false
set_option linter.unusedSimpArgs false
open Go.RowKit Go.Sort
def eq1S (es : List va.En) (n : Nat) (q : Qt) : List UInt8 := linS n (eqnS es q)
def wfQ (q : Qt) : Prop := q.lf.l.length ≤ 17592186044416 ∧ ∀ y ∈ q.r.list, wfX y
set_option maxHeartbeats 2000000 in
set_option maxRecDepth 20000 in
theorem wr_body (w0 : World) (b m : Nat) (E : Rw va.En) (l : List UInt8) (n : Nat) (qs : Rw Qt) (au : Rw (Rw St)) (TA : Rw St → List UInt8) (w : World) (hs : Std w0) (hE : RsE w0 w0.heap.size E) (hM : SymM w0 m) (hr : RsQs w0 w0.heap.size qs) (hwf : ∀ q ∈ qs.l, wfQ q) (hn : n ≤ 140737488355328)
    (ha : RdR w0 w0.heap.size 1 AC au)
    (KA : Hid (∀ a ∈ au.l, ∀ (l' : List UInt8) (W : World), Below w0.heap.size w0 W → Wr w0.heap.size b E m (Lib.byteCells l') W → (l' ++ TA a).length ≤ 140737488355328 → Calls Tryz.prog 95 #[.pointer (some ⟨b, 0, none⟩), .int .i64 (n : Int), aV a] W (fun e w' => e = .returned (.tuple #[]) ∧ Wr w0.heap.size b E m (Lib.byteCells (l' ++ TA a)) w' ∧ Below w0.heap.size W w' ∧ Oth b W w')))
    (hb : Below w0.heap.size w0 w) (h : Wr w0.heap.size b E m (Lib.byteCells l) w) (hlen : (l ++ (qs.l.map (eq1S E.l n)).flatten ++ (au.l.map TA).flatten).length ≤ 140737488355328) :
    Calls Tryz.prog 55 #[.pointer (some ⟨b, 0, none⟩), .int .i64 (n : Int), .slice qs.A qs.l.length qs.c, .slice au.A au.l.length au.c] w (fun e w' => e = .returned (.tuple #[]) ∧ Wr w0.heap.size b E m (Lib.byteCells (l ++ (qs.l.map (eq1S E.l n)).flatten ++ (au.l.map TA).flatten)) w' ∧ Below w0.heap.size w w' ∧ Oth b w w') := by
  have hlr := hr.1.len
  have hla := ha.len
  unfold maxLen at hlr hla
  have HL := Lib.hid hlen
  have HR := Lib.hid hr
  have HA := Lib.hid ha
  have HH := Lib.hid h
  have HM := Lib.hid hM
  clear hlen hr h hM ha
  go_enter Tryz.func55, Tryz.ntmps55
  go_wp2
  go_loopw [14] (fun i wr => ∃ k : Nat, k ≤ qs.l.length ∧ i = .int .i64 (k : Int) ∧ Wr w0.heap.size b E m (Lib.byteCells (l ++ ((qs.l.take k).map (eq1S E.l n)).flatten)) wr ∧ Below w0.heap.size w wr ∧ Oth b w wr) (fun i _ => qs.l.length - (intOf i).toNat)
  case atStart => exact ⟨0, by omega, rfl, by simpa using HH.out, Below.refl _ _, Oth.refl _ _⟩
  case round =>
    obtain ⟨k, hk, rfl, hW, hbl, hob⟩ := hrel
    have hb0 : Below w0.heap.size w0 wr := hb.trans hbl
    by_cases hlt : k < qs.l.length
    · obtain ⟨ad, y, hA, had, hy, hm, ⟨c0, c1, c2, c3, c4, c5, c6⟩⟩ := (HR.out.blw hb0 hb0.size).1.at_ hlt
      rw [hA]
      have hft := flat_take (eq1S E.l n) qs.l hy
      have hfl := flat_le (eq1S E.l n) qs.l (k + 1)
      have hlen : (l ++ ((qs.l.take k).map (eq1S E.l n)).flatten ++ linS n (eqnS E.l y)).length ≤ 140737488355328 := by
        have := HL.out
        rw [hft] at hfl
        unfold eq1S at hfl this ⊢
        simp only [List.length_append] at hfl this ⊢
        omega
      have hsz := hb0.size
      have KE : Hid (∀ W, Below wr.heap.size wr W → Calls Tryz.prog 94 #[phV E m, qV y] W (Bel (.string (tB (eqnS E.l y))) W)) := Lib.hid fun W hW' => by
        have hb' : Below w0.heap.size w0 W := hb0.trans (hW'.mono hsz)
        exact ph_equation E m y W (hs.to hb') (hE.blw hb' hb'.size) (HM.out.to hb') ⟨(HR.out.2 y hm).1.blw hb' hb'.size, (HR.out.2 y hm).2.blw hb' hb'.size⟩ (hwf y hm).1 (hwf y hm).2 (by unfold linS at hlen; simp only [List.length_append] at hlen; omega)
      have KL : Hid (∀ W, Below wr.heap.size wr W → Calls Tryz.prog 50 #[.pointer (some ⟨b, 0, none⟩), .int .i64 n, .slice (some ⟨W.heap.size, 0, none⟩) 1 1] (W.alloc (.cells #[.string (tB (eqnS E.l y))] 9))
          fun e w' => e = .returned (.tuple #[]) ∧ Wr w0.heap.size b E m (Lib.byteCells (l ++ ((qs.l.take k).map (eq1S E.l n)).flatten ++ linS n (eqnS E.l y))) w' ∧ Below w0.heap.size W w' ∧ Oth b W w') := Lib.hid fun W hW9 => by
        have ef : (([(tB (eqnS E.l y))] : List ByteArray).map bsT).flatten = eqnS E.l y := by
          simp only [List.map_cons, List.map_nil, List.flatten_cons, List.flatten_nil, bsT_tB, List.append_nil]
          try simp only [List.append_assoc]
          try rfl
        have := wr_lineA w0.heap.size b m E (l ++ ((qs.l.take k).map (eq1S E.l n)).flatten) n 1 [(tB (eqnS E.l y))] #[.string (tB (eqnS E.l y))] W (hW.below hW9) (Nat.le_trans hsz hW9.size) hn (by simp) rfl (by rw [ef]; exact hlen)
        rw [ef] at this
        exact this
      have hnx : Hid (l ++ ((qs.l.take k).map (eq1S E.l n)).flatten ++ linS n (eqnS E.l y) = l ++ ((qs.l.take (k + 1)).map (eq1S E.l n)).flatten) := Lib.hid (by rw [hft, List.append_assoc]; rfl)
      have hne : wr.heap.size ≠ b := by
        have : b < wr.heap.size := by rcases hW with h | h <;> exact h.lt
        omega
      have s0 := hW.cells.1
      have s1 := hW.cells.2
      have HO := Lib.hid hob
      clear hA hy hm hft hfl hlen hW hob KA
      generalize tB (eqnS E.l y) = jj at *
      generalize l ++ ((qs.l.take k).map (eq1S E.l n)).flatten ++ linS n (eqnS E.l y) = ll at *
      go_wp2
      obtain ⟨WB, hWB⟩ : ∃ WB, wr.alloc (.cells #[.slice y.lf.A y.lf.l.length y.lf.c, .int .i64 y.r.k, .int .i64 y.r.op, .int .i64 y.r.t, .int .i64 y.r.v, .string y.r.nm, .slice y.r.A y.r.ar.length y.r.c] 54) = WB := ⟨_, rfl⟩
      have hBB : Below wr.heap.size wr WB := by rw [← hWB]; exact bel_box _
      have kB : WB.heap[wr.heap.size]? = some (.cells #[.slice y.lf.A y.lf.l.length y.lf.c, .int .i64 y.r.k, .int .i64 y.r.op, .int .i64 y.r.t, .int .i64 y.r.v, .string y.r.nm, .slice y.r.A y.r.ar.length y.r.c] 54 (0, 0)) := by rw [← hWB]; exact heap_alloc_new wr _
      have s0' := cell_below hBB s0
      have s1' := cell_below hBB s1
      have x0 : WB.cell? ⟨wr.heap.size, 0, none⟩ = some (.slice y.lf.A y.lf.l.length y.lf.c) := by rw [Lib.cell_of_heap kB]; rfl
      have x1 : WB.cell? ⟨wr.heap.size, 1, none⟩ = some (.int .i64 y.r.k) := by rw [Lib.cell_of_heap kB]; rfl
      have x2 : WB.cell? ⟨wr.heap.size, 2, none⟩ = some (.int .i64 y.r.op) := by rw [Lib.cell_of_heap kB]; rfl
      have x3 : WB.cell? ⟨wr.heap.size, 3, none⟩ = some (.int .i64 y.r.t) := by rw [Lib.cell_of_heap kB]; rfl
      have x4 : WB.cell? ⟨wr.heap.size, 4, none⟩ = some (.int .i64 y.r.v) := by rw [Lib.cell_of_heap kB]; rfl
      have x5 : WB.cell? ⟨wr.heap.size, 5, none⟩ = some (.string y.r.nm) := by rw [Lib.cell_of_heap kB]; rfl
      have x6 : WB.cell? ⟨wr.heap.size, 6, none⟩ = some (.slice y.r.A y.r.ar.length y.r.c) := by rw [Lib.cell_of_heap kB]; rfl
      rw [hWB]
      clear hWB
      go_region_held3 (fun w' => w'.cell? ⟨b, 0, none⟩ = some (.slice E.A E.l.length E.c) ∧ w'.cell? ⟨b, 1, none⟩ = some (.map (some m)) ∧ w'.cell? ⟨wr.heap.size, 0, none⟩ = some (.slice y.lf.A y.lf.l.length y.lf.c) ∧ w'.cell? ⟨wr.heap.size, 1, none⟩ = some (.int .i64 y.r.k) ∧ w'.cell? ⟨wr.heap.size, 2, none⟩ = some (.int .i64 y.r.op) ∧ w'.cell? ⟨wr.heap.size, 3, none⟩ = some (.int .i64 y.r.t) ∧ w'.cell? ⟨wr.heap.size, 4, none⟩ = some (.int .i64 y.r.v) ∧ w'.cell? ⟨wr.heap.size, 5, none⟩ = some (.string y.r.nm) ∧ w'.cell? ⟨wr.heap.size, 6, none⟩ = some (.slice y.r.A y.r.ar.length y.r.c)) (first | exact ⟨s0', s1', x0, x1, x2, x3, x4, x5, x6⟩ | exact ⟨cell_below hX1 s0', cell_below hX1 s1', cell_below hX1 x0, cell_below hX1 x1, cell_below hX1 x2, cell_below hX1 x3, cell_below hX1 x4, cell_below hX1 x5, cell_below hX1 x6⟩ | exact ⟨cell_below (bel_alloc hX1 _) s0', cell_below (bel_alloc hX1 _) s1', cell_below (bel_alloc hX1 _) x0, cell_below (bel_alloc hX1 _) x1, cell_below (bel_alloc hX1 _) x2, cell_below (bel_alloc hX1 _) x3, cell_below (bel_alloc hX1 _) x4, cell_below (bel_alloc hX1 _) x5, cell_below (bel_alloc hX1 _) x6⟩ | exact ⟨v0, v1, y0, y1, y2, y3, y4, y5, y6⟩)
        (first
          | (go_at_call 94; (with_reducible refine (KE.out _ ?_).mono ?_); (focus ((repeat (first | (with_reducible exact Below.refl _ _) | (with_reducible assumption) | (with_reducible exact bel_box _) | (with_reducible refine bel_step ?_ (by with_reducible assumption)) | (with_reducible refine Below.drew ?_) | (with_reducible refine below_drewN ?_ _) | (with_reducible refine bel_alloc ?_ _))); done)); rintro e' w1 ⟨rfl, hb1⟩; have hX1 : Below WB.heap.size WB w1 := (by repeat (first | (with_reducible exact Below.refl _ _) | (with_reducible assumption) | (with_reducible exact bel_box _) | (with_reducible refine bel_step ?_ (by with_reducible assumption)) | (with_reducible refine Below.drew ?_) | (with_reducible refine below_drewN ?_ _) | (with_reducible refine bel_alloc ?_ _))); have hB1 : Below wr.heap.size wr w1 := hBB.trans (hX1.mono hBB.size); have kC := (hX1.block _ (Array.getElem?_eq_some_iff.1 kB).1).trans kB)
          | (go_at_call 50; (refine (KL.out _ hB1).mono ?_); rintro e' w2 ⟨rfl, hw2, hb2, ho2⟩; have v0 := hw2.cells.1; have v1 := hw2.cells.2; have kD := ho2 _ _ _ _ kC hne (by decide); have y0 : w2.cell? ⟨wr.heap.size, 0, none⟩ = some (.slice y.lf.A y.lf.l.length y.lf.c) := (by rw [Lib.cell_of_heap kD]; rfl); have y1 : w2.cell? ⟨wr.heap.size, 1, none⟩ = some (.int .i64 y.r.k) := (by rw [Lib.cell_of_heap kD]; rfl); have y2 : w2.cell? ⟨wr.heap.size, 2, none⟩ = some (.int .i64 y.r.op) := (by rw [Lib.cell_of_heap kD]; rfl); have y3 : w2.cell? ⟨wr.heap.size, 3, none⟩ = some (.int .i64 y.r.t) := (by rw [Lib.cell_of_heap kD]; rfl); have y4 : w2.cell? ⟨wr.heap.size, 4, none⟩ = some (.int .i64 y.r.v) := (by rw [Lib.cell_of_heap kD]; rfl); have y5 : w2.cell? ⟨wr.heap.size, 5, none⟩ = some (.string y.r.nm) := (by rw [Lib.cell_of_heap kD]; rfl); have y6 : w2.cell? ⟨wr.heap.size, 6, none⟩ = some (.slice y.r.A y.r.ar.length y.r.c) := (by rw [Lib.cell_of_heap kD]; rfl)))
      go_wp2
      rw [hnx.out] at hw2
      exact ⟨⟨k + 1, by omega, by congr 1, hw2, (hbl.trans (hB1.mono hsz)).trans hb2, (HO.out.trans (Oth.below hB1)).trans ho2⟩, by simp [intOf]; omega⟩
    · obtain rfl : k = qs.l.length := by omega
      rw [List.take_length] at hW
      have HW := Lib.hid hW
      have HO := Lib.hid hob
      clear hW hob
      generalize hl1 : l ++ (qs.l.map (eq1S E.l n)).flatten = l1 at *
      have HI1 := Lib.hid hl1
      clear hl1
      go_wp2
      go_loopw [31] (fun i wr' => ∃ j : Nat, j ≤ au.l.length ∧ i = .int .i64 (j : Int) ∧ Wr w0.heap.size b E m (Lib.byteCells (l1 ++ ((au.l.take j).map TA).flatten)) wr' ∧ Below w0.heap.size w wr' ∧ Oth b w wr') (fun i _ => au.l.length - (intOf i).toNat)
      case atStart => exact ⟨0, by omega, rfl, by simpa using HW.out, hbl, HO.out⟩
      case round =>
        clear hbl hb0 HW HO HH
        obtain ⟨j, hj, rfl, hW, hbl, hob⟩ := hrel
        have hb0 : Below w0.heap.size w0 wr := hb.trans hbl
        by_cases hlt : j < au.l.length
        · obtain ⟨ad, y, hA, had, hy, hm, c0⟩ := (HA.out.blw oneB_A hb0 hb0.size).at_ hlt
          unfold AC at c0
          rw [Nat.mul_one] at c0
          rw [hA]
          have hft := flat_take TA au.l hy
          have hfl := flat_le TA au.l (j + 1)
          have KY := Lib.hid (KA.out y hm (l1 ++ ((au.l.take j).map TA).flatten))
          have hlen : (l1 ++ ((au.l.take j).map TA).flatten ++ TA y).length ≤ 140737488355328 := by
            have := HL.out
            rw [hft] at hfl
            simp only [List.length_append] at hfl this ⊢
            omega
          have hWW : ∀ W, Below wr.heap.size wr W → Wr w0.heap.size b E m (Lib.byteCells (l1 ++ ((au.l.take j).map TA).flatten)) W := fun W hW' => hW.below hW'
          have HWW := Lib.hid hWW
          have hnx : Hid (l1 ++ ((au.l.take j).map TA).flatten ++ TA y = l1 ++ ((au.l.take (j + 1)).map TA).flatten) := Lib.hid (by rw [hft, List.append_assoc])
          have HO := Lib.hid hob
          have hsz := hb0.size
          clear hA hy hm hft hfl hW hob KA hWW
          go_wp2_with (go_at_call 95; (refine (KY.out _ (hb0.trans (Below.mono (bel_box _) hsz)) (HWW.out _ (bel_box _)) hlen).mono ?_); rintro e' w2 ⟨rfl, hw2, hb2, ho2⟩)
          rw [hnx.out] at hw2
          exact ⟨⟨j + 1, by omega, by congr 1, hw2, (hbl.trans (Below.mono (bel_box _) hsz)).trans hb2, (HO.out.trans (Oth.alloc b _ _)).trans ho2⟩, by simp [intOf]; omega⟩
        · obtain rfl : j = au.l.length := by omega
          rw [List.take_length] at hW
          have HW := Lib.hid hW
          have HO := Lib.hid hob
          clear hW hob
          go_wp2
          go_end0
          have hWf := HW.out
          rw [← HI1.out] at hWf
          exact ⟨rfl, hWf, hbl, HO.out⟩
end Go.Proofs.YtoimjcfdiljkjaaGreatDoor
/- automaton of the writer, given what state does. -/
namespace Go.Proofs.YtoimjcfdiljkjaaGreatDoor
set_option linter.unusedVariables false
set_option linter.unusedSimpArgs false
open Go.RowKit Go.Sort
set_option maxHeartbeats 2000000 in
set_option maxRecDepth 20000 in
theorem wr_automaton (w0 : World) (b m : Nat) (E : Rw va.En) (l : List UInt8) (n : Nat) (a : Rw St) (TS : St → List UInt8) (w : World) (hn : n ≤ 140737488355328)
    (ha : RdR w0 w0.heap.size 6 SC a)
    (KS : Hid (∀ s ∈ a.l, ∀ (l' : List UInt8) (W : World), Below w0.heap.size w0 W → Wr w0.heap.size b E m (Lib.byteCells l') W → (l' ++ TS s).length ≤ 140737488355328 → Calls Tryz.prog 127 #[.pointer (some ⟨b, 0, none⟩), .int .i64 ((n : Int) + 1), sV s, .slice a.A a.l.length a.c] W (fun e w' => e = .returned (.tuple #[]) ∧ Wr w0.heap.size b E m (Lib.byteCells (l' ++ TS s)) w' ∧ Below w0.heap.size W w' ∧ Oth b W w')))
    (hb : Below w0.heap.size w0 w) (h : Wr w0.heap.size b E m (Lib.byteCells l) w) (hlen9 : (l ++ linS n [97, 117, 116, 111, 109, 97, 116, 111, 110] ++ (a.l.map TS).flatten ++ linS n [101, 110, 100]).length ≤ 140737488355328) :
    Calls Tryz.prog 95 #[.pointer (some ⟨b, 0, none⟩), .int .i64 (n : Int), aV a] w (fun e w' => e = .returned (.tuple #[]) ∧ Wr w0.heap.size b E m (Lib.byteCells (l ++ linS n [97, 117, 116, 111, 109, 97, 116, 111, 110] ++ (a.l.map TS).flatten ++ linS n [101, 110, 100])) w' ∧ Below w0.heap.size w w' ∧ Oth b w w') := by
  have hla := ha.len
  unfold maxLen at hla
  have HL := Lib.hid hlen9
  have HA := Lib.hid ha
  have hsz := hb.size
  have hn64 : (n : Int) + 1 ≤ 9223372036854775807 := by omega
  have hlen : (l ++ linS n [97, 117, 116, 111, 109, 97, 116, 111, 110]).length ≤ 140737488355328 := by
    simp only [List.length_append] at hlen9 ⊢
    omega
  have K1 : Hid (∀ W, Below w.heap.size w W → Calls Tryz.prog 50 #[.pointer (some ⟨b, 0, none⟩), .int .i64 n, .slice (some ⟨W.heap.size, 0, none⟩) 1 1] (W.alloc (.cells #[.string ⟨#[97, 117, 116, 111, 109, 97, 116, 111, 110]⟩] 9))
      fun e w' => e = .returned (.tuple #[]) ∧ Wr w0.heap.size b E m (Lib.byteCells (l ++ linS n ([97, 117, 116, 111, 109, 97, 116, 111, 110]))) w' ∧ Below w0.heap.size W w' ∧ Oth b W w') := Lib.hid fun W hW9 => by
    have ef : (([⟨#[97, 117, 116, 111, 109, 97, 116, 111, 110]⟩] : List ByteArray).map bsT).flatten = [97, 117, 116, 111, 109, 97, 116, 111, 110] := by
      simp only [List.map_cons, List.map_nil, List.flatten_cons, List.flatten_nil, bsT_tB, List.append_nil]
      try simp only [List.append_assoc]
      try rfl
    have := wr_lineA w0.heap.size b m E (l) n 1 [⟨#[97, 117, 116, 111, 109, 97, 116, 111, 110]⟩] #[.string ⟨#[97, 117, 116, 111, 109, 97, 116, 111, 110]⟩] W (h.below hW9) (Nat.le_trans hsz hW9.size) hn (by simp) rfl (by rw [ef]; exact hlen)
    rw [ef] at this
    exact this
  have hne : w.heap.size ≠ b := by
    have : b < w.heap.size := by rcases h with h | h <;> exact h.lt
    omega
  have kB : (w.alloc (.cells #[.slice a.A a.l.length a.c] 92)).heap[w.heap.size]? = some (.cells #[.slice a.A a.l.length a.c] 92 (0, 0)) := heap_alloc_new w _
  have hB0 : Below w.heap.size w (w.alloc (.cells #[.slice a.A a.l.length a.c] 92)) := bel_box _
  have K2 := K1.out _ hB0
  rw [World.size_alloc] at K2
  have KF := Lib.hid K2
  clear hlen9 ha h hlen K2 K1
  go_enter Tryz.func95, Tryz.ntmps95
  go_wp2_with (go_at_call 50; (refine KF.out.mono ?_); rintro e' w2 ⟨rfl, hw2, hb2, ho2⟩; have kC := ho2 _ _ _ _ kB hne (by decide); have c0 : w2.cell? ⟨w.heap.size, 0, none⟩ = some (.slice a.A a.l.length a.c) := (by rw [Lib.cell_of_heap kC]; rfl))
  have hbw : Below w0.heap.size w w2 := (hB0.mono hsz).trans hb2
  have hoo : Oth b w w2 := (Oth.below hB0).trans ho2
  have HC := Lib.hid kC
  have HW := Lib.hid hw2
  have HO := Lib.hid hoo
  clear kC hw2 hoo ho2 hb2 KF kB c0
  go_loopw [15] (fun i wr => ∃ k : Nat, k ≤ a.l.length ∧ i = .int .i64 (k : Int) ∧ Wr w0.heap.size b E m (Lib.byteCells (l ++ linS n [97, 117, 116, 111, 109, 97, 116, 111, 110] ++ ((a.l.take k).map TS).flatten)) wr ∧ Below w0.heap.size w wr ∧ Oth b w2 wr) (fun i _ => a.l.length - (intOf i).toNat)
  case atStart => exact ⟨0, by omega, rfl, by simpa using HW.out, hbw, Oth.refl _ _⟩
  case round =>
    clear HW
    obtain ⟨k, hk, rfl, hW, hbl, hob⟩ := hrel
    have hb0 : Below w0.heap.size w0 wr := hb.trans hbl
    have kC := hob _ _ _ _ HC.out hne (by decide)
    have c0 : wr.cell? ⟨w.heap.size, 0, none⟩ = some (.slice a.A a.l.length a.c) := by rw [Lib.cell_of_heap kC]; rfl
    have hszr := hb0.size
    have hzw : w.heap.size < wr.heap.size := (Array.getElem?_eq_some_iff.1 kC).1
    have HO2 := Lib.hid (HO.out.trans hob)
    have HO3 := Lib.hid hob
    clear kC hob
    by_cases hlt : k < a.l.length
    · obtain ⟨ad, y, hA, had, hy, hm, ⟨s0, s1, s2, s3, s4, s5⟩⟩ := (HA.out.blw oneB_S hb0 hb0.size).at_ hlt
      have hft := flat_take TS a.l hy
      have hfl := flat_le TS a.l (k + 1)
      have hlen : (l ++ linS n [97, 117, 116, 111, 109, 97, 116, 111, 110] ++ ((a.l.take k).map TS).flatten ++ TS y).length ≤ 140737488355328 := by
        have := HL.out
        rw [hft] at hfl
        simp only [List.length_append] at hfl this ⊢
        omega
      have KY := Lib.hid (KS.out y hm (l ++ linS n [97, 117, 116, 111, 109, 97, 116, 111, 110] ++ ((a.l.take k).map TS).flatten))
      have HWW := Lib.hid (fun W (hW' : Below wr.heap.size wr W) => hW.below hW')
      have hnx : Hid (l ++ linS n [97, 117, 116, 111, 109, 97, 116, 111, 110] ++ ((a.l.take k).map TS).flatten ++ TS y = l ++ linS n [97, 117, 116, 111, 109, 97, 116, 111, 110] ++ ((a.l.take (k + 1)).map TS).flatten) := Lib.hid (by rw [hft]; simp only [List.append_assoc])
      rw [hA] at c0 KY ⊢
      clear hA hy hm hft hfl hW KS
      go_wp2_with (go_at_call 127; (refine (KY.out _ (hb0.trans (Below.mono (bel_box _) hszr)) (HWW.out _ (bel_box _)) hlen).mono ?_); rintro e' w3 ⟨rfl, hw3, hb3, ho3⟩)
      rw [hnx.out] at hw3
      exact ⟨⟨k + 1, by omega, by congr 1, hw3, (hbl.trans (Below.mono (bel_box _) hszr)).trans hb3, (HO3.out.trans (Oth.alloc b _ _)).trans ho3⟩, by simp [intOf]; omega⟩
    · obtain rfl : k = a.l.length := by omega
      rw [List.take_length] at hW
      have hlen : (l ++ linS n [97, 117, 116, 111, 109, 97, 116, 111, 110] ++ (a.l.map TS).flatten ++ linS n ([101, 110, 100])).length ≤ 140737488355328 := HL.out
      have K3 : Hid (∀ W, Below wr.heap.size wr W → Calls Tryz.prog 50 #[.pointer (some ⟨b, 0, none⟩), .int .i64 n, .slice (some ⟨W.heap.size, 0, none⟩) 1 1] (W.alloc (.cells #[.string ⟨#[101, 110, 100]⟩] 9))
          fun e w' => e = .returned (.tuple #[]) ∧ Wr w0.heap.size b E m (Lib.byteCells (l ++ linS n [97, 117, 116, 111, 109, 97, 116, 111, 110] ++ (a.l.map TS).flatten ++ linS n ([101, 110, 100]))) w' ∧ Below w0.heap.size W w' ∧ Oth b W w') := Lib.hid fun W hW9 => by
        have ef : (([⟨#[101, 110, 100]⟩] : List ByteArray).map bsT).flatten = [101, 110, 100] := by
          simp only [List.map_cons, List.map_nil, List.flatten_cons, List.flatten_nil, bsT_tB, List.append_nil]
          try simp only [List.append_assoc]
          try rfl
        have := wr_lineA w0.heap.size b m E (l ++ linS n [97, 117, 116, 111, 109, 97, 116, 111, 110] ++ (a.l.map TS).flatten) n 1 [⟨#[101, 110, 100]⟩] #[.string ⟨#[101, 110, 100]⟩] W (hW.below hW9) (Nat.le_trans hszr hW9.size) hn (by simp) rfl (by rw [ef]; exact hlen)
        rw [ef] at this
        exact this
      have KE := Lib.hid (K3.out wr (Below.refl _ _))
      clear hlen K3 hW KS
      go_wp2_with (go_at_call 50; (refine KE.out.mono ?_); rintro e' w3 ⟨rfl, hw3, hb3, ho3⟩)
      go_end0
      exact ⟨rfl, hw3, hbl.trans hb3, HO2.out.trans ho3⟩
end Go.Proofs.YtoimjcfdiljkjaaGreatDoor
/- state of the writer, given what automaton does. -/
namespace Go.Proofs.YtoimjcfdiljkjaaGreatDoor
set_option linter.unusedVariables false
set_option linter.unusedSimpArgs false
open Go.RowKit Go.Sort
def tr1S (es : List va.En) (ss : List St) (n : Nat) (kw : List UInt8) (t : Tt) : List UInt8 := linS n (kw ++ trnS es ss t)
def wfT (k : Nat) (t : Tt) : Prop := (0 ≤ t.to ∧ t.to < k) ∧ ∀ y ∈ t.cd.list, wfX y
theorem castS (n : Nat) : ((n + 1 : Nat) : Int) = (n : Int) + 1 := by omega
set_option maxHeartbeats 2000000 in
set_option maxRecDepth 20000 in
theorem wr_state (w0 : World) (b m : Nat) (E : Rw va.En) (l : List UInt8) (n : Nat) (s : St) (r : Rw St) (TA : Rw St → List UInt8) (w : World) (hs : Std w0) (hE : RsE w0 w0.heap.size E) (hM : SymM w0 m) (hn1 : n + 1 ≤ 140737488355328)
    (hr : RdR w0 w0.heap.size 6 SC r) (hlc : RsDs w0 w0.heap.size s.lc) (hlcl : s.lc.l.length ≤ 17592186044416 ∧ ∀ d ∈ s.lc.l, d.ck.l.length ≤ 17592186044416) (hqs : RsQs w0 w0.heap.size s.qs) (hqw : ∀ q ∈ s.qs.l, wfQ q) (hau : RdR w0 w0.heap.size 1 AC s.au)
    (hun : RsTs w0 w0.heap.size s.un) (hut : RsTs w0 w0.heap.size s.ut) (hunw : ∀ t ∈ s.un.l, wfT r.l.length t) (hutw : ∀ t ∈ s.ut.l, wfT r.l.length t)
    (KA : Hid (∀ a ∈ s.au.l, ∀ (l' : List UInt8) (W : World), Below w0.heap.size w0 W → Wr w0.heap.size b E m (Lib.byteCells l') W → (l' ++ TA a).length ≤ 140737488355328 → Calls Tryz.prog 95 #[.pointer (some ⟨b, 0, none⟩), .int .i64 ((n + 1 : Nat) : Int), aV a] W (fun e w' => e = .returned (.tuple #[]) ∧ Wr w0.heap.size b E m (Lib.byteCells (l' ++ TA a)) w' ∧ Below w0.heap.size W w' ∧ Oth b W w')))
    (hb : Below w0.heap.size w0 w) (h : Wr w0.heap.size b E m (Lib.byteCells l) w) (hlen9 : (l ++ linS n ([115, 116, 97, 116, 101, 32] ++ bsT s.nm) ++ lcsS E.l (n + 1) s.lc.l ++ (s.un.l.map (tr1S E.l r.l (n + 1) [117, 110, 108, 101, 115, 115, 32])).flatten ++ linS n ([100, 111]) ++ (s.qs.l.map (eq1S E.l (n + 1))).flatten ++ (s.au.l.map TA).flatten ++ (s.ut.l.map (tr1S E.l r.l (n + 1) [117, 110, 116, 105, 108, 32])).flatten ++ linS n ([100, 111, 110, 101])).length ≤ 140737488355328) :
    Calls Tryz.prog 127 #[.pointer (some ⟨b, 0, none⟩), .int .i64 (n : Int), sV s, .slice r.A r.l.length r.c] w (fun e w' => e = .returned (.tuple #[]) ∧ Wr w0.heap.size b E m (Lib.byteCells (l ++ linS n ([115, 116, 97, 116, 101, 32] ++ bsT s.nm) ++ lcsS E.l (n + 1) s.lc.l ++ (s.un.l.map (tr1S E.l r.l (n + 1) [117, 110, 108, 101, 115, 115, 32])).flatten ++ linS n ([100, 111]) ++ (s.qs.l.map (eq1S E.l (n + 1))).flatten ++ (s.au.l.map TA).flatten ++ (s.ut.l.map (tr1S E.l r.l (n + 1) [117, 110, 116, 105, 108, 32])).flatten ++ linS n ([100, 111, 110, 101]))) w' ∧ Below w0.heap.size w w' ∧ Oth b w w') := by
  have hlr := hr.len
  have hlu := hun.1.len
  have hlt := hut.1.len
  unfold maxLen at hlr hlu hlt
  have hn : n ≤ 140737488355328 := by omega
  have hn64 : (n : Int) + 1 ≤ 9223372036854775807 := by omega
  have HWR := Lib.hid (show IntKind.i64.wrap ((n : Int) + 1) = (n : Int) + 1 from by rw [IntKind.wrap_i64]; omega)
  have HL := Lib.hid hlen9
  have HR := Lib.hid hr
  have HM := Lib.hid hM
  have Hun := Lib.hid hun
  have Hut := Lib.hid hut
  have HTun := Lib.hid hunw
  have HTut := Lib.hid hutw
  have hsz := hb.size
  have hlen : (l ++ linS n ([115, 116, 97, 116, 101, 32] ++ bsT s.nm)).length ≤ 140737488355328 := by
    simp only [List.length_append] at hlen9 ⊢
    omega
  have K1 : Hid (∀ W, Below w.heap.size w W → Calls Tryz.prog 50 #[.pointer (some ⟨b, 0, none⟩), .int .i64 n, .slice (some ⟨W.heap.size, 0, none⟩) 2 2] (W.alloc (.cells #[.string ⟨#[115, 116, 97, 116, 101, 32]⟩, .string s.nm] 9))
      fun e w' => e = .returned (.tuple #[]) ∧ Wr w0.heap.size b E m (Lib.byteCells (l ++ linS n ([115, 116, 97, 116, 101, 32] ++ bsT s.nm))) w' ∧ Below w0.heap.size W w' ∧ Oth b W w') := Lib.hid fun W hW9 => by
    have ef : (([⟨#[115, 116, 97, 116, 101, 32]⟩, s.nm] : List ByteArray).map bsT).flatten = [115, 116, 97, 116, 101, 32] ++ bsT s.nm := by
      simp only [List.map_cons, List.map_nil, List.flatten_cons, List.flatten_nil, bsT_tB, List.append_nil]
      try simp only [List.append_assoc]
      try rfl
    have := wr_lineA w0.heap.size b m E (l) n 2 [⟨#[115, 116, 97, 116, 101, 32]⟩, s.nm] #[.string ⟨#[115, 116, 97, 116, 101, 32]⟩, .string s.nm] W (h.below hW9) (Nat.le_trans hsz hW9.size) hn (by simp) rfl (by rw [ef]; exact hlen)
    rw [ef] at this
    exact this
  have hne : w.heap.size ≠ b := by
    have : b < w.heap.size := by rcases h with h | h <;> exact h.lt
    omega
  have KBD : Hid (∀ (l' : List UInt8) (W : World), Below w0.heap.size w0 W → Wr w0.heap.size b E m (Lib.byteCells l') W → (l' ++ (s.qs.l.map (eq1S E.l (n + 1))).flatten ++ (s.au.l.map TA).flatten).length ≤ 140737488355328 → Calls Tryz.prog 55 #[.pointer (some ⟨b, 0, none⟩), .int .i64 ((n : Int) + 1), .slice s.qs.A s.qs.l.length s.qs.c, .slice s.au.A s.au.l.length s.au.c] W (fun e w' => e = .returned (.tuple #[]) ∧ Wr w0.heap.size b E m (Lib.byteCells (l' ++ (s.qs.l.map (eq1S E.l (n + 1))).flatten ++ (s.au.l.map TA).flatten)) w' ∧ Below w0.heap.size W w' ∧ Oth b W w')) := Lib.hid fun l' W hW hW2 hW3 => by
    have := wr_body w0 b m E l' (n + 1) s.qs s.au TA W hs hE hM hqs hqw hn1 hau KA hW hW2 hW3
    rwa [castS] at this
  have KLC : Hid (∀ (W : World), Below w0.heap.size w0 W → Wr w0.heap.size b E m (Lib.byteCells (l ++ linS n ([115, 116, 97, 116, 101, 32] ++ bsT s.nm))) W → Calls Tryz.prog 53 #[.pointer (some ⟨b, 0, none⟩), .int .i64 ((n : Int) + 1), .slice s.lc.A s.lc.l.length s.lc.c] W (fun e w' => e = .returned (.tuple #[]) ∧ Wr w0.heap.size b E m (Lib.byteCells (l ++ linS n ([115, 116, 97, 116, 101, 32] ++ bsT s.nm) ++ lcsS E.l (n + 1) s.lc.l)) w' ∧ Below w0.heap.size W w' ∧ Oth b W w')) := Lib.hid fun W hW hW2 => by
    have := wr_locals w0 b m E (l ++ linS n ([115, 116, 97, 116, 101, 32] ++ bsT s.nm)) (n + 1) s.lc W hs hE hlc hlcl.1 hlcl.2 hn1 hW hW2 (by simp only [List.length_append] at hlen9 ⊢; omega)
    rwa [castS] at this
  have kB : (w.alloc (.cells #[.string s.nm, .slice s.lc.A s.lc.l.length s.lc.c, .slice s.qs.A s.qs.l.length s.qs.c, .slice s.au.A s.au.l.length s.au.c, .slice s.un.A s.un.l.length s.un.c, .slice s.ut.A s.ut.l.length s.ut.c] 95)).heap[w.heap.size]? = some (.cells #[.string s.nm, .slice s.lc.A s.lc.l.length s.lc.c, .slice s.qs.A s.qs.l.length s.qs.c, .slice s.au.A s.au.l.length s.au.c, .slice s.un.A s.un.l.length s.un.c, .slice s.ut.A s.ut.l.length s.ut.c] 95 (0, 0)) := heap_alloc_new w _
  have hB0 : Below w.heap.size w (w.alloc (.cells #[.string s.nm, .slice s.lc.A s.lc.l.length s.lc.c, .slice s.qs.A s.qs.l.length s.qs.c, .slice s.au.A s.au.l.length s.au.c, .slice s.un.A s.un.l.length s.un.c, .slice s.ut.A s.ut.l.length s.ut.c] 95)) := bel_box _
  have K2 := K1.out _ hB0
  rw [World.size_alloc] at K2
  have KF := Lib.hid K2
  clear hlen9 hr hun hut hunw hutw h hlen K2 K1 hM hlc hlcl hqs hqw hau
  go_enter Tryz.func127, Tryz.ntmps127
  go_wp2_with (first
    | (go_at_call 50; (refine KF.out.mono ?_); rintro e' w1 ⟨rfl, hw1, hbw1, how1⟩; have kC := how1 _ _ _ _ kB hne (by decide); have c0 : w1.cell? ⟨w.heap.size, 0, none⟩ = some (.string s.nm) := (by rw [Lib.cell_of_heap kC]; rfl); have c1 : w1.cell? ⟨w.heap.size, 1, none⟩ = some (.slice s.lc.A s.lc.l.length s.lc.c) := (by rw [Lib.cell_of_heap kC]; rfl); have c2 : w1.cell? ⟨w.heap.size, 2, none⟩ = some (.slice s.qs.A s.qs.l.length s.qs.c) := (by rw [Lib.cell_of_heap kC]; rfl); have c3 : w1.cell? ⟨w.heap.size, 3, none⟩ = some (.slice s.au.A s.au.l.length s.au.c) := (by rw [Lib.cell_of_heap kC]; rfl); have c4 : w1.cell? ⟨w.heap.size, 4, none⟩ = some (.slice s.un.A s.un.l.length s.un.c) := (by rw [Lib.cell_of_heap kC]; rfl); have c5 : w1.cell? ⟨w.heap.size, 5, none⟩ = some (.slice s.ut.A s.ut.l.length s.ut.c) := (by rw [Lib.cell_of_heap kC]; rfl); have hb01 : Below w0.heap.size w0 w1 := (hb.trans (hB0.mono hsz)).trans hbw1)
    | (go_at_call 53; (refine (KLC.out _ hb01 hw1).mono ?_); rintro e' w1' ⟨rfl, hw1', hbw1', how1'⟩; have kC' := how1' _ _ _ _ kC hne (by decide); have d0 : w1'.cell? ⟨w.heap.size, 0, none⟩ = some (.string s.nm) := (by rw [Lib.cell_of_heap kC']; rfl); have d1 : w1'.cell? ⟨w.heap.size, 1, none⟩ = some (.slice s.lc.A s.lc.l.length s.lc.c) := (by rw [Lib.cell_of_heap kC']; rfl); have d2 : w1'.cell? ⟨w.heap.size, 2, none⟩ = some (.slice s.qs.A s.qs.l.length s.qs.c) := (by rw [Lib.cell_of_heap kC']; rfl); have d3 : w1'.cell? ⟨w.heap.size, 3, none⟩ = some (.slice s.au.A s.au.l.length s.au.c) := (by rw [Lib.cell_of_heap kC']; rfl); have d4 : w1'.cell? ⟨w.heap.size, 4, none⟩ = some (.slice s.un.A s.un.l.length s.un.c) := (by rw [Lib.cell_of_heap kC']; rfl); have d5 : w1'.cell? ⟨w.heap.size, 5, none⟩ = some (.slice s.ut.A s.ut.l.length s.ut.c) := (by rw [Lib.cell_of_heap kC']; rfl)))
  generalize hl2 : l ++ linS n ([115, 116, 97, 116, 101, 32] ++ bsT s.nm) ++ lcsS E.l (n + 1) s.lc.l = l2 at *
  have H2 := Lib.hid hl2
  have hbw : Below w0.heap.size w w1' := ((hB0.mono hsz).trans hbw1).trans hbw1'
  have HC := Lib.hid kC'
  have HW := Lib.hid hw1'
  have HO := Lib.hid (((Oth.below hB0).trans how1).trans how1')
  clear hl2 KF KLC kB kC kC' hw1 hw1' hbw1 hbw1' how1 how1' hb01
  clear c0 d0
  clear c1 d1
  clear c2 d2
  clear c3 d3
  clear c4 d4
  clear c5 d5
  go_loopw [27] (fun i wr => ∃ k : Nat, k ≤ s.un.l.length ∧ i = .int .i64 (k : Int) ∧ Wr w0.heap.size b E m (Lib.byteCells (l2 ++ ((s.un.l.take k).map (tr1S E.l r.l (n + 1) [117, 110, 108, 101, 115, 115, 32])).flatten)) wr ∧ Below w0.heap.size w wr ∧ Oth b w1' wr) (fun i _ => s.un.l.length - (intOf i).toNat)
  case atStart => exact ⟨0, by omega, rfl, by simpa using HW.out, hbw, Oth.refl _ _⟩
  case round =>
    clear HW
    obtain ⟨k, hk, rfl, hW, hbl, hob⟩ := hrel
    have hb0 : Below w0.heap.size w0 wr := hb.trans hbl
    have kC := hob _ _ _ _ HC.out hne (by decide)
    have hszr := hb0.size
    have HO2 := Lib.hid (HO.out.trans hob)
    have HO3 := Lib.hid hob
    have HC2 := Lib.hid kC
    have hzw : w.heap.size < wr.heap.size := (Array.getElem?_eq_some_iff.1 kC).1
    clear hob
    by_cases hlt : k < s.un.l.length
    · clear kC
      obtain ⟨ad, y, hA, had, hy, hm, ⟨⟨c0, c1, c2, c3, c4, c5⟩, c6, c7⟩⟩ := (Hun.out.blw hb0 hb0.size).1.at_ hlt
      rw [hA]
      have hft := flat_take (tr1S E.l r.l (n + 1) [117, 110, 108, 101, 115, 115, 32]) s.un.l hy
      have hfl := flat_le (tr1S E.l r.l (n + 1) [117, 110, 108, 101, 115, 115, 32]) s.un.l (k + 1)
      have hlen : (l2 ++ ((s.un.l.take k).map (tr1S E.l r.l (n + 1) [117, 110, 108, 101, 115, 115, 32])).flatten ++ linS (n + 1) ([117, 110, 108, 101, 115, 115, 32] ++ trnS E.l r.l y)).length ≤ 140737488355328 := by
        have := HL.out
        rw [hft] at hfl
        unfold tr1S at hfl this ⊢
        simp only [List.length_append] at hfl this ⊢
        omega
      have KE : Hid (∀ W, Below wr.heap.size wr W → Calls Tryz.prog 166 #[phV E m, tV y, .slice r.A r.l.length r.c] W (Bel (.string (tB (trnS E.l r.l y))) W)) := Lib.hid fun W hW' => by
        have hb' : Below w0.heap.size w0 W := hb0.trans (hW'.mono hszr)
        exact ph_transition E m y r W (hs.to hb') (hE.blw hb' hb'.size) (HM.out.to hb') ((Hun.out.2 y hm).1.to hb') (HR.out.blw oneB_S hb' hb'.size) (HTun.out y hm).1.1 (HTun.out y hm).1.2 (HTun.out y hm).2 (by unfold linS at hlen; simp only [List.length_append] at hlen; omega)
      have KL : Hid (∀ W, Below wr.heap.size wr W → Calls Tryz.prog 50 #[.pointer (some ⟨b, 0, none⟩), .int .i64 ((n : Int) + 1), .slice (some ⟨W.heap.size, 0, none⟩) 2 2] (W.alloc (.cells #[.string ⟨#[117, 110, 108, 101, 115, 115, 32]⟩, .string (tB (trnS E.l r.l y))] 9))
          fun e w' => e = .returned (.tuple #[]) ∧ Wr w0.heap.size b E m (Lib.byteCells (l2 ++ ((s.un.l.take k).map (tr1S E.l r.l (n + 1) [117, 110, 108, 101, 115, 115, 32])).flatten ++ linS (n + 1) ([117, 110, 108, 101, 115, 115, 32] ++ trnS E.l r.l y))) w' ∧ Below w0.heap.size W w' ∧ Oth b W w') := Lib.hid fun W hW9 => by
        have ef : (([⟨#[117, 110, 108, 101, 115, 115, 32]⟩, (tB (trnS E.l r.l y))] : List ByteArray).map bsT).flatten = [117, 110, 108, 101, 115, 115, 32] ++ trnS E.l r.l y := by
          simp only [List.map_cons, List.map_nil, List.flatten_cons, List.flatten_nil, bsT_tB, List.append_nil]
          try simp only [List.append_assoc]
          try rfl
        have := wr_lineA w0.heap.size b m E (l2 ++ ((s.un.l.take k).map (tr1S E.l r.l (n + 1) [117, 110, 108, 101, 115, 115, 32])).flatten) (n + 1) 2 [⟨#[117, 110, 108, 101, 115, 115, 32]⟩, (tB (trnS E.l r.l y))] #[.string ⟨#[117, 110, 108, 101, 115, 115, 32]⟩, .string (tB (trnS E.l r.l y))] W (hW.below hW9) (Nat.le_trans hszr hW9.size) hn1 (by simp) rfl (by rw [ef]; exact hlen)
        rw [ef, castS] at this
        exact this
      have hnx : Hid (l2 ++ ((s.un.l.take k).map (tr1S E.l r.l (n + 1) [117, 110, 108, 101, 115, 115, 32])).flatten ++ linS (n + 1) ([117, 110, 108, 101, 115, 115, 32] ++ trnS E.l r.l y) = l2 ++ ((s.un.l.take (k + 1)).map (tr1S E.l r.l (n + 1) [117, 110, 108, 101, 115, 115, 32])).flatten) := Lib.hid (by rw [hft, List.append_assoc]; rfl)
      have hne2 : wr.heap.size ≠ b := by
        have : b < wr.heap.size := by rcases hW with h | h <;> exact h.lt
        omega
      have s0 := hW.cells.1
      have s1 := hW.cells.2
      clear hA hy hm hft hfl hlen hW KA
      generalize tB (trnS E.l r.l y) = jj at *
      generalize l2 ++ ((s.un.l.take k).map (tr1S E.l r.l (n + 1) [117, 110, 108, 101, 115, 115, 32])).flatten ++ linS (n + 1) ([117, 110, 108, 101, 115, 115, 32] ++ trnS E.l r.l y) = ll at *
      go_wp2
      obtain ⟨WB, hWB⟩ : ∃ WB, wr.alloc (.cells #[.int .i64 y.cd.k, .int .i64 y.cd.op, .int .i64 y.cd.t, .int .i64 y.cd.v, .string y.cd.nm, .slice y.cd.A y.cd.ar.length y.cd.c, .int .i64 y.to, .bool y.re] 160) = WB := ⟨_, rfl⟩
      have hBB : Below wr.heap.size wr WB := by rw [← hWB]; exact bel_box _
      have kB : WB.heap[wr.heap.size]? = some (.cells #[.int .i64 y.cd.k, .int .i64 y.cd.op, .int .i64 y.cd.t, .int .i64 y.cd.v, .string y.cd.nm, .slice y.cd.A y.cd.ar.length y.cd.c, .int .i64 y.to, .bool y.re] 160 (0, 0)) := by rw [← hWB]; exact heap_alloc_new wr _
      have s0' := cell_below hBB s0
      have s1' := cell_below hBB s1
      have x0 : WB.cell? ⟨wr.heap.size, 0, none⟩ = some (.int .i64 y.cd.k) := by rw [Lib.cell_of_heap kB]; rfl
      have x1 : WB.cell? ⟨wr.heap.size, 1, none⟩ = some (.int .i64 y.cd.op) := by rw [Lib.cell_of_heap kB]; rfl
      have x2 : WB.cell? ⟨wr.heap.size, 2, none⟩ = some (.int .i64 y.cd.t) := by rw [Lib.cell_of_heap kB]; rfl
      have x3 : WB.cell? ⟨wr.heap.size, 3, none⟩ = some (.int .i64 y.cd.v) := by rw [Lib.cell_of_heap kB]; rfl
      have x4 : WB.cell? ⟨wr.heap.size, 4, none⟩ = some (.string y.cd.nm) := by rw [Lib.cell_of_heap kB]; rfl
      have x5 : WB.cell? ⟨wr.heap.size, 5, none⟩ = some (.slice y.cd.A y.cd.ar.length y.cd.c) := by rw [Lib.cell_of_heap kB]; rfl
      have x6 : WB.cell? ⟨wr.heap.size, 6, none⟩ = some (.int .i64 y.to) := by rw [Lib.cell_of_heap kB]; rfl
      have x7 : WB.cell? ⟨wr.heap.size, 7, none⟩ = some (.bool y.re) := by rw [Lib.cell_of_heap kB]; rfl
      rw [hWB]
      clear hWB
      go_region_held3 (fun w' => w'.cell? ⟨b, 0, none⟩ = some (.slice E.A E.l.length E.c) ∧ w'.cell? ⟨b, 1, none⟩ = some (.map (some m)) ∧ w'.cell? ⟨wr.heap.size, 0, none⟩ = some (.int .i64 y.cd.k) ∧ w'.cell? ⟨wr.heap.size, 1, none⟩ = some (.int .i64 y.cd.op) ∧ w'.cell? ⟨wr.heap.size, 2, none⟩ = some (.int .i64 y.cd.t) ∧ w'.cell? ⟨wr.heap.size, 3, none⟩ = some (.int .i64 y.cd.v) ∧ w'.cell? ⟨wr.heap.size, 4, none⟩ = some (.string y.cd.nm) ∧ w'.cell? ⟨wr.heap.size, 5, none⟩ = some (.slice y.cd.A y.cd.ar.length y.cd.c) ∧ w'.cell? ⟨wr.heap.size, 6, none⟩ = some (.int .i64 y.to) ∧ w'.cell? ⟨wr.heap.size, 7, none⟩ = some (.bool y.re)) (first | exact ⟨s0', s1', x0, x1, x2, x3, x4, x5, x6, x7⟩ | exact ⟨cell_below hX1 s0', cell_below hX1 s1', cell_below hX1 x0, cell_below hX1 x1, cell_below hX1 x2, cell_below hX1 x3, cell_below hX1 x4, cell_below hX1 x5, cell_below hX1 x6, cell_below hX1 x7⟩ | exact ⟨cell_below (bel_alloc hX1 _) s0', cell_below (bel_alloc hX1 _) s1', cell_below (bel_alloc hX1 _) x0, cell_below (bel_alloc hX1 _) x1, cell_below (bel_alloc hX1 _) x2, cell_below (bel_alloc hX1 _) x3, cell_below (bel_alloc hX1 _) x4, cell_below (bel_alloc hX1 _) x5, cell_below (bel_alloc hX1 _) x6, cell_below (bel_alloc hX1 _) x7⟩ | exact ⟨v0, v1, y0, y1, y2, y3, y4, y5, y6, y7⟩)
        (first
          | (go_at_call 166; (with_reducible refine (KE.out _ ?_).mono ?_); (focus ((repeat (first | (with_reducible exact Below.refl _ _) | (with_reducible assumption) | (with_reducible exact bel_box _) | (with_reducible refine bel_step ?_ (by with_reducible assumption)) | (with_reducible refine Below.drew ?_) | (with_reducible refine below_drewN ?_ _) | (with_reducible refine bel_alloc ?_ _))); done)); rintro e' w1 ⟨rfl, hb1⟩; have hX1 : Below WB.heap.size WB w1 := (by repeat (first | (with_reducible exact Below.refl _ _) | (with_reducible assumption) | (with_reducible exact bel_box _) | (with_reducible refine bel_step ?_ (by with_reducible assumption)) | (with_reducible refine Below.drew ?_) | (with_reducible refine below_drewN ?_ _) | (with_reducible refine bel_alloc ?_ _))); have hB1 : Below wr.heap.size wr w1 := hBB.trans (hX1.mono hBB.size); have kC := (hX1.block _ (Array.getElem?_eq_some_iff.1 kB).1).trans kB)
          | (go_at_call 50; rw [HWR.out]; (refine (KL.out _ hB1).mono ?_); rintro e' w2 ⟨rfl, hw2, hb2, ho2⟩; have v0 := hw2.cells.1; have v1 := hw2.cells.2; have kD := ho2 _ _ _ _ kC hne2 (by decide); have y0 : w2.cell? ⟨wr.heap.size, 0, none⟩ = some (.int .i64 y.cd.k) := (by rw [Lib.cell_of_heap kD]; rfl); have y1 : w2.cell? ⟨wr.heap.size, 1, none⟩ = some (.int .i64 y.cd.op) := (by rw [Lib.cell_of_heap kD]; rfl); have y2 : w2.cell? ⟨wr.heap.size, 2, none⟩ = some (.int .i64 y.cd.t) := (by rw [Lib.cell_of_heap kD]; rfl); have y3 : w2.cell? ⟨wr.heap.size, 3, none⟩ = some (.int .i64 y.cd.v) := (by rw [Lib.cell_of_heap kD]; rfl); have y4 : w2.cell? ⟨wr.heap.size, 4, none⟩ = some (.string y.cd.nm) := (by rw [Lib.cell_of_heap kD]; rfl); have y5 : w2.cell? ⟨wr.heap.size, 5, none⟩ = some (.slice y.cd.A y.cd.ar.length y.cd.c) := (by rw [Lib.cell_of_heap kD]; rfl); have y6 : w2.cell? ⟨wr.heap.size, 6, none⟩ = some (.int .i64 y.to) := (by rw [Lib.cell_of_heap kD]; rfl); have y7 : w2.cell? ⟨wr.heap.size, 7, none⟩ = some (.bool y.re) := (by rw [Lib.cell_of_heap kD]; rfl)))
      go_wp2
      rw [hnx.out] at hw2
      exact ⟨⟨k + 1, by omega, by congr 1, hw2, (hbl.trans (hB1.mono hszr)).trans hb2, (HO3.out.trans (Oth.below hB1)).trans ho2⟩, by simp [intOf]; omega⟩
    · obtain rfl : k = s.un.l.length := by omega
      rw [List.take_length] at hW
      generalize hl3 : l2 ++ (s.un.l.map (tr1S E.l r.l (n + 1) [117, 110, 108, 101, 115, 115, 32])).flatten = l3 at *
      have hlen : (l3 ++ linS n ([100, 111])).length ≤ 140737488355328 := by
        have := HL.out
        simp only [List.length_append] at this ⊢
        omega
      have K3 : Hid (∀ W, Below wr.heap.size wr W → Calls Tryz.prog 50 #[.pointer (some ⟨b, 0, none⟩), .int .i64 n, .slice (some ⟨W.heap.size, 0, none⟩) 1 1] (W.alloc (.cells #[.string ⟨#[100, 111]⟩] 9))
          fun e w' => e = .returned (.tuple #[]) ∧ Wr w0.heap.size b E m (Lib.byteCells (l3 ++ linS n ([100, 111]))) w' ∧ Below w0.heap.size W w' ∧ Oth b W w') := Lib.hid fun W hW9 => by
        have ef : (([⟨#[100, 111]⟩] : List ByteArray).map bsT).flatten = [100, 111] := by
          simp only [List.map_cons, List.map_nil, List.flatten_cons, List.flatten_nil, bsT_tB, List.append_nil]
          try simp only [List.append_assoc]
          try rfl
        have := wr_lineA w0.heap.size b m E (l3) n 1 [⟨#[100, 111]⟩] #[.string ⟨#[100, 111]⟩] W (hW.below hW9) (Nat.le_trans hszr hW9.size) hn (by simp) rfl (by rw [ef]; exact hlen)
        rw [ef] at this
        exact this
      have KD := Lib.hid (K3.out wr (Below.refl _ _))
      have KB := Lib.hid (KBD.out (l3 ++ linS n ([100, 111])))
      have hlb : (l3 ++ linS n ([100, 111]) ++ (s.qs.l.map (eq1S E.l (n + 1))).flatten ++ (s.au.l.map TA).flatten).length ≤ 140737488355328 := by
        have := HL.out
        simp only [List.length_append] at this ⊢
        omega
      have H3 := Lib.hid hl3
      have d0 : wr.cell? ⟨w.heap.size, 0, none⟩ = some (.string s.nm) := by rw [Lib.cell_of_heap kC]; rfl
      have d1 : wr.cell? ⟨w.heap.size, 1, none⟩ = some (.slice s.lc.A s.lc.l.length s.lc.c) := by rw [Lib.cell_of_heap kC]; rfl
      have d2 : wr.cell? ⟨w.heap.size, 2, none⟩ = some (.slice s.qs.A s.qs.l.length s.qs.c) := by rw [Lib.cell_of_heap kC]; rfl
      have d3 : wr.cell? ⟨w.heap.size, 3, none⟩ = some (.slice s.au.A s.au.l.length s.au.c) := by rw [Lib.cell_of_heap kC]; rfl
      have d4 : wr.cell? ⟨w.heap.size, 4, none⟩ = some (.slice s.un.A s.un.l.length s.un.c) := by rw [Lib.cell_of_heap kC]; rfl
      have d5 : wr.cell? ⟨w.heap.size, 5, none⟩ = some (.slice s.ut.A s.ut.l.length s.ut.c) := by rw [Lib.cell_of_heap kC]; rfl
      clear hlen K3 hW kC hl3 KBD
      go_wp2_with (first
        | (go_at_call 50; (refine KD.out.mono ?_); rintro e' w3 ⟨rfl, hw3, hbw3, how3⟩; have kD := how3 _ _ _ _ HC2.out hne (by decide); have f0 : w3.cell? ⟨w.heap.size, 0, none⟩ = some (.string s.nm) := (by rw [Lib.cell_of_heap kD]; rfl); have f1 : w3.cell? ⟨w.heap.size, 1, none⟩ = some (.slice s.lc.A s.lc.l.length s.lc.c) := (by rw [Lib.cell_of_heap kD]; rfl); have f2 : w3.cell? ⟨w.heap.size, 2, none⟩ = some (.slice s.qs.A s.qs.l.length s.qs.c) := (by rw [Lib.cell_of_heap kD]; rfl); have f3 : w3.cell? ⟨w.heap.size, 3, none⟩ = some (.slice s.au.A s.au.l.length s.au.c) := (by rw [Lib.cell_of_heap kD]; rfl); have f4 : w3.cell? ⟨w.heap.size, 4, none⟩ = some (.slice s.un.A s.un.l.length s.un.c) := (by rw [Lib.cell_of_heap kD]; rfl); have f5 : w3.cell? ⟨w.heap.size, 5, none⟩ = some (.slice s.ut.A s.ut.l.length s.ut.c) := (by rw [Lib.cell_of_heap kD]; rfl); have hb03 : Below w0.heap.size w0 w3 := hb0.trans hbw3)
        | (go_at_call 55; (refine (KB.out _ hb03 hw3 hlb).mono ?_); rintro e' w4 ⟨rfl, hw4, hbw4, how4⟩; have kE := how4 _ _ _ _ kD hne (by decide); have g0 : w4.cell? ⟨w.heap.size, 0, none⟩ = some (.string s.nm) := (by rw [Lib.cell_of_heap kE]; rfl); have g1 : w4.cell? ⟨w.heap.size, 1, none⟩ = some (.slice s.lc.A s.lc.l.length s.lc.c) := (by rw [Lib.cell_of_heap kE]; rfl); have g2 : w4.cell? ⟨w.heap.size, 2, none⟩ = some (.slice s.qs.A s.qs.l.length s.qs.c) := (by rw [Lib.cell_of_heap kE]; rfl); have g3 : w4.cell? ⟨w.heap.size, 3, none⟩ = some (.slice s.au.A s.au.l.length s.au.c) := (by rw [Lib.cell_of_heap kE]; rfl); have g4 : w4.cell? ⟨w.heap.size, 4, none⟩ = some (.slice s.un.A s.un.l.length s.un.c) := (by rw [Lib.cell_of_heap kE]; rfl); have g5 : w4.cell? ⟨w.heap.size, 5, none⟩ = some (.slice s.ut.A s.ut.l.length s.ut.c) := (by rw [Lib.cell_of_heap kE]; rfl)))
      generalize hlb5 : l3 ++ linS n ([100, 111]) ++ (s.qs.l.map (eq1S E.l (n + 1))).flatten ++ (s.au.l.map TA).flatten = lb at *
      rw [← H3.out] at hlb5
      have H5 := Lib.hid hlb5
      clear hlb5 hlb
      have hbw : Below w0.heap.size w w4 := (hbl.trans hbw3).trans hbw4
      have HC := Lib.hid kE
      have HW := Lib.hid hw4
      have HO := Lib.hid ((HO2.out.trans how3).trans how4)
      clear hbl hb0 hzw hszr HO2 HO3 HC2 kD kE how3 how4 hbw3 hbw4 hw3 hw4 hb03 d0 d1 d2 d3 d4 d5 f0 f1 f2 f3 f4 f5 g0 g1 g2 g3 g4 g5 KD KB H3
      go_loopw [59] (fun i wr => ∃ k : Nat, k ≤ s.ut.l.length ∧ i = .int .i64 (k : Int) ∧ Wr w0.heap.size b E m (Lib.byteCells (lb ++ ((s.ut.l.take k).map (tr1S E.l r.l (n + 1) [117, 110, 116, 105, 108, 32])).flatten)) wr ∧ Below w0.heap.size w wr ∧ Oth b w4 wr) (fun i _ => s.ut.l.length - (intOf i).toNat)
      case atStart => exact ⟨0, by omega, rfl, by simpa using HW.out, hbw, Oth.refl _ _⟩
      case round =>
        clear HW
        obtain ⟨k, hk, rfl, hW, hbl, hob⟩ := hrel
        have hb0 : Below w0.heap.size w0 wr := hb.trans hbl
        have kC := hob _ _ _ _ HC.out hne (by decide)
        have hszr := hb0.size
        have HO2 := Lib.hid (HO.out.trans hob)
        have HO3 := Lib.hid hob
        have HC2 := Lib.hid kC
        have hzw : w.heap.size < wr.heap.size := (Array.getElem?_eq_some_iff.1 kC).1
        clear hob
        by_cases hlt : k < s.ut.l.length
        · clear kC
          obtain ⟨ad, y, hA, had, hy, hm, ⟨⟨c0, c1, c2, c3, c4, c5⟩, c6, c7⟩⟩ := (Hut.out.blw hb0 hb0.size).1.at_ hlt
          rw [hA]
          have hft := flat_take (tr1S E.l r.l (n + 1) [117, 110, 116, 105, 108, 32]) s.ut.l hy
          have hfl := flat_le (tr1S E.l r.l (n + 1) [117, 110, 116, 105, 108, 32]) s.ut.l (k + 1)
          have hlen : (lb ++ ((s.ut.l.take k).map (tr1S E.l r.l (n + 1) [117, 110, 116, 105, 108, 32])).flatten ++ linS (n + 1) ([117, 110, 116, 105, 108, 32] ++ trnS E.l r.l y)).length ≤ 140737488355328 := by
            have := HL.out
            rw [hft] at hfl
            unfold tr1S at hfl this ⊢
            simp only [List.length_append] at hfl this ⊢
            omega
          have KE : Hid (∀ W, Below wr.heap.size wr W → Calls Tryz.prog 166 #[phV E m, tV y, .slice r.A r.l.length r.c] W (Bel (.string (tB (trnS E.l r.l y))) W)) := Lib.hid fun W hW' => by
            have hb' : Below w0.heap.size w0 W := hb0.trans (hW'.mono hszr)
            exact ph_transition E m y r W (hs.to hb') (hE.blw hb' hb'.size) (HM.out.to hb') ((Hut.out.2 y hm).1.to hb') (HR.out.blw oneB_S hb' hb'.size) (HTut.out y hm).1.1 (HTut.out y hm).1.2 (HTut.out y hm).2 (by unfold linS at hlen; simp only [List.length_append] at hlen; omega)
          have KL : Hid (∀ W, Below wr.heap.size wr W → Calls Tryz.prog 50 #[.pointer (some ⟨b, 0, none⟩), .int .i64 ((n : Int) + 1), .slice (some ⟨W.heap.size, 0, none⟩) 2 2] (W.alloc (.cells #[.string ⟨#[117, 110, 116, 105, 108, 32]⟩, .string (tB (trnS E.l r.l y))] 9))
              fun e w' => e = .returned (.tuple #[]) ∧ Wr w0.heap.size b E m (Lib.byteCells (lb ++ ((s.ut.l.take k).map (tr1S E.l r.l (n + 1) [117, 110, 116, 105, 108, 32])).flatten ++ linS (n + 1) ([117, 110, 116, 105, 108, 32] ++ trnS E.l r.l y))) w' ∧ Below w0.heap.size W w' ∧ Oth b W w') := Lib.hid fun W hW9 => by
            have ef : (([⟨#[117, 110, 116, 105, 108, 32]⟩, (tB (trnS E.l r.l y))] : List ByteArray).map bsT).flatten = [117, 110, 116, 105, 108, 32] ++ trnS E.l r.l y := by
              simp only [List.map_cons, List.map_nil, List.flatten_cons, List.flatten_nil, bsT_tB, List.append_nil]
              try simp only [List.append_assoc]
              try rfl
            have := wr_lineA w0.heap.size b m E (lb ++ ((s.ut.l.take k).map (tr1S E.l r.l (n + 1) [117, 110, 116, 105, 108, 32])).flatten) (n + 1) 2 [⟨#[117, 110, 116, 105, 108, 32]⟩, (tB (trnS E.l r.l y))] #[.string ⟨#[117, 110, 116, 105, 108, 32]⟩, .string (tB (trnS E.l r.l y))] W (hW.below hW9) (Nat.le_trans hszr hW9.size) hn1 (by simp) rfl (by rw [ef]; exact hlen)
            rw [ef, castS] at this
            exact this
          have hnx : Hid (lb ++ ((s.ut.l.take k).map (tr1S E.l r.l (n + 1) [117, 110, 116, 105, 108, 32])).flatten ++ linS (n + 1) ([117, 110, 116, 105, 108, 32] ++ trnS E.l r.l y) = lb ++ ((s.ut.l.take (k + 1)).map (tr1S E.l r.l (n + 1) [117, 110, 116, 105, 108, 32])).flatten) := Lib.hid (by rw [hft, List.append_assoc]; rfl)
          have hne2 : wr.heap.size ≠ b := by
            have : b < wr.heap.size := by rcases hW with h | h <;> exact h.lt
            omega
          have s0 := hW.cells.1
          have s1 := hW.cells.2
          clear hA hy hm hft hfl hlen hW KA
          generalize tB (trnS E.l r.l y) = jj at *
          generalize lb ++ ((s.ut.l.take k).map (tr1S E.l r.l (n + 1) [117, 110, 116, 105, 108, 32])).flatten ++ linS (n + 1) ([117, 110, 116, 105, 108, 32] ++ trnS E.l r.l y) = ll at *
          go_wp2
          obtain ⟨WB, hWB⟩ : ∃ WB, wr.alloc (.cells #[.int .i64 y.cd.k, .int .i64 y.cd.op, .int .i64 y.cd.t, .int .i64 y.cd.v, .string y.cd.nm, .slice y.cd.A y.cd.ar.length y.cd.c, .int .i64 y.to, .bool y.re] 160) = WB := ⟨_, rfl⟩
          have hBB : Below wr.heap.size wr WB := by rw [← hWB]; exact bel_box _
          have kB : WB.heap[wr.heap.size]? = some (.cells #[.int .i64 y.cd.k, .int .i64 y.cd.op, .int .i64 y.cd.t, .int .i64 y.cd.v, .string y.cd.nm, .slice y.cd.A y.cd.ar.length y.cd.c, .int .i64 y.to, .bool y.re] 160 (0, 0)) := by rw [← hWB]; exact heap_alloc_new wr _
          have s0' := cell_below hBB s0
          have s1' := cell_below hBB s1
          have x0 : WB.cell? ⟨wr.heap.size, 0, none⟩ = some (.int .i64 y.cd.k) := by rw [Lib.cell_of_heap kB]; rfl
          have x1 : WB.cell? ⟨wr.heap.size, 1, none⟩ = some (.int .i64 y.cd.op) := by rw [Lib.cell_of_heap kB]; rfl
          have x2 : WB.cell? ⟨wr.heap.size, 2, none⟩ = some (.int .i64 y.cd.t) := by rw [Lib.cell_of_heap kB]; rfl
          have x3 : WB.cell? ⟨wr.heap.size, 3, none⟩ = some (.int .i64 y.cd.v) := by rw [Lib.cell_of_heap kB]; rfl
          have x4 : WB.cell? ⟨wr.heap.size, 4, none⟩ = some (.string y.cd.nm) := by rw [Lib.cell_of_heap kB]; rfl
          have x5 : WB.cell? ⟨wr.heap.size, 5, none⟩ = some (.slice y.cd.A y.cd.ar.length y.cd.c) := by rw [Lib.cell_of_heap kB]; rfl
          have x6 : WB.cell? ⟨wr.heap.size, 6, none⟩ = some (.int .i64 y.to) := by rw [Lib.cell_of_heap kB]; rfl
          have x7 : WB.cell? ⟨wr.heap.size, 7, none⟩ = some (.bool y.re) := by rw [Lib.cell_of_heap kB]; rfl
          rw [hWB]
          clear hWB
          go_region_held3 (fun w' => w'.cell? ⟨b, 0, none⟩ = some (.slice E.A E.l.length E.c) ∧ w'.cell? ⟨b, 1, none⟩ = some (.map (some m)) ∧ w'.cell? ⟨wr.heap.size, 0, none⟩ = some (.int .i64 y.cd.k) ∧ w'.cell? ⟨wr.heap.size, 1, none⟩ = some (.int .i64 y.cd.op) ∧ w'.cell? ⟨wr.heap.size, 2, none⟩ = some (.int .i64 y.cd.t) ∧ w'.cell? ⟨wr.heap.size, 3, none⟩ = some (.int .i64 y.cd.v) ∧ w'.cell? ⟨wr.heap.size, 4, none⟩ = some (.string y.cd.nm) ∧ w'.cell? ⟨wr.heap.size, 5, none⟩ = some (.slice y.cd.A y.cd.ar.length y.cd.c) ∧ w'.cell? ⟨wr.heap.size, 6, none⟩ = some (.int .i64 y.to) ∧ w'.cell? ⟨wr.heap.size, 7, none⟩ = some (.bool y.re)) (first | exact ⟨s0', s1', x0, x1, x2, x3, x4, x5, x6, x7⟩ | exact ⟨cell_below hX1 s0', cell_below hX1 s1', cell_below hX1 x0, cell_below hX1 x1, cell_below hX1 x2, cell_below hX1 x3, cell_below hX1 x4, cell_below hX1 x5, cell_below hX1 x6, cell_below hX1 x7⟩ | exact ⟨cell_below (bel_alloc hX1 _) s0', cell_below (bel_alloc hX1 _) s1', cell_below (bel_alloc hX1 _) x0, cell_below (bel_alloc hX1 _) x1, cell_below (bel_alloc hX1 _) x2, cell_below (bel_alloc hX1 _) x3, cell_below (bel_alloc hX1 _) x4, cell_below (bel_alloc hX1 _) x5, cell_below (bel_alloc hX1 _) x6, cell_below (bel_alloc hX1 _) x7⟩ | exact ⟨v0, v1, y0, y1, y2, y3, y4, y5, y6, y7⟩)
            (first
              | (go_at_call 166; (with_reducible refine (KE.out _ ?_).mono ?_); (focus ((repeat (first | (with_reducible exact Below.refl _ _) | (with_reducible assumption) | (with_reducible exact bel_box _) | (with_reducible refine bel_step ?_ (by with_reducible assumption)) | (with_reducible refine Below.drew ?_) | (with_reducible refine below_drewN ?_ _) | (with_reducible refine bel_alloc ?_ _))); done)); rintro e' w1 ⟨rfl, hb1⟩; have hX1 : Below WB.heap.size WB w1 := (by repeat (first | (with_reducible exact Below.refl _ _) | (with_reducible assumption) | (with_reducible exact bel_box _) | (with_reducible refine bel_step ?_ (by with_reducible assumption)) | (with_reducible refine Below.drew ?_) | (with_reducible refine below_drewN ?_ _) | (with_reducible refine bel_alloc ?_ _))); have hB1 : Below wr.heap.size wr w1 := hBB.trans (hX1.mono hBB.size); have kC := (hX1.block _ (Array.getElem?_eq_some_iff.1 kB).1).trans kB)
              | (go_at_call 50; rw [HWR.out]; (refine (KL.out _ hB1).mono ?_); rintro e' w2 ⟨rfl, hw2, hb2, ho2⟩; have v0 := hw2.cells.1; have v1 := hw2.cells.2; have kD := ho2 _ _ _ _ kC hne2 (by decide); have y0 : w2.cell? ⟨wr.heap.size, 0, none⟩ = some (.int .i64 y.cd.k) := (by rw [Lib.cell_of_heap kD]; rfl); have y1 : w2.cell? ⟨wr.heap.size, 1, none⟩ = some (.int .i64 y.cd.op) := (by rw [Lib.cell_of_heap kD]; rfl); have y2 : w2.cell? ⟨wr.heap.size, 2, none⟩ = some (.int .i64 y.cd.t) := (by rw [Lib.cell_of_heap kD]; rfl); have y3 : w2.cell? ⟨wr.heap.size, 3, none⟩ = some (.int .i64 y.cd.v) := (by rw [Lib.cell_of_heap kD]; rfl); have y4 : w2.cell? ⟨wr.heap.size, 4, none⟩ = some (.string y.cd.nm) := (by rw [Lib.cell_of_heap kD]; rfl); have y5 : w2.cell? ⟨wr.heap.size, 5, none⟩ = some (.slice y.cd.A y.cd.ar.length y.cd.c) := (by rw [Lib.cell_of_heap kD]; rfl); have y6 : w2.cell? ⟨wr.heap.size, 6, none⟩ = some (.int .i64 y.to) := (by rw [Lib.cell_of_heap kD]; rfl); have y7 : w2.cell? ⟨wr.heap.size, 7, none⟩ = some (.bool y.re) := (by rw [Lib.cell_of_heap kD]; rfl)))
          go_wp2
          rw [hnx.out] at hw2
          exact ⟨⟨k + 1, by omega, by congr 1, hw2, (hbl.trans (hB1.mono hszr)).trans hb2, (HO3.out.trans (Oth.below hB1)).trans ho2⟩, by simp [intOf]; omega⟩
        · obtain rfl : k = s.ut.l.length := by omega
          rw [List.take_length] at hW
          generalize hl6 : lb ++ (s.ut.l.map (tr1S E.l r.l (n + 1) [117, 110, 116, 105, 108, 32])).flatten = l6 at *
          have hlen : (l6 ++ linS n ([100, 111, 110, 101])).length ≤ 140737488355328 := HL.out
          have K3 : Hid (∀ W, Below wr.heap.size wr W → Calls Tryz.prog 50 #[.pointer (some ⟨b, 0, none⟩), .int .i64 n, .slice (some ⟨W.heap.size, 0, none⟩) 1 1] (W.alloc (.cells #[.string ⟨#[100, 111, 110, 101]⟩] 9))
              fun e w' => e = .returned (.tuple #[]) ∧ Wr w0.heap.size b E m (Lib.byteCells (l6 ++ linS n ([100, 111, 110, 101]))) w' ∧ Below w0.heap.size W w' ∧ Oth b W w') := Lib.hid fun W hW9 => by
            have ef : (([⟨#[100, 111, 110, 101]⟩] : List ByteArray).map bsT).flatten = [100, 111, 110, 101] := by
              simp only [List.map_cons, List.map_nil, List.flatten_cons, List.flatten_nil, bsT_tB, List.append_nil]
              try simp only [List.append_assoc]
              try rfl
            have := wr_lineA w0.heap.size b m E (l6) n 1 [⟨#[100, 111, 110, 101]⟩] #[.string ⟨#[100, 111, 110, 101]⟩] W (hW.below hW9) (Nat.le_trans hszr hW9.size) hn (by simp) rfl (by rw [ef]; exact hlen)
            rw [ef] at this
            exact this
          have KE := Lib.hid (K3.out wr (Below.refl _ _))
          have H6 := Lib.hid hl6
          clear hlen K3 hW KA kC hl6
          go_wp2_with (go_at_call 50; (refine KE.out.mono ?_); rintro e' w3 ⟨rfl, hw3, hbw3, how3⟩)
          go_end0
          rw [← H6.out, ← H5.out, ← H2.out] at hw3
          exact ⟨rfl, hw3, hbl.trans hbw3, HO2.out.trans how3⟩

end Go.Proofs.YtoimjcfdiljkjaaGreatDoor
/- state, automaton and body of the writer, tied. -/
namespace Go.Proofs.YtoimjcfdiljkjaaGreatDoor
set_option linter.unusedVariables false
set_option linter.unusedSimpArgs false
open Go.RowKit Go.Sort
def autS (n : Nat) (ts : List (List UInt8)) : List UInt8 := linS n ([97, 117, 116, 111, 109, 97, 116, 111, 110]) ++ ts.flatten ++ linS n ([101, 110, 100])
def St.tx (es : List va.En) (s : St) : Nat → List St → List UInt8 := fun n ss =>
  linS n ([115, 116, 97, 116, 101, 32] ++ bsT s.nm) ++ lcsS es (n + 1) s.lc.l ++ (s.un.l.map (tr1S es ss (n + 1) [117, 110, 108, 101, 115, 115, 32])).flatten ++ linS n ([100, 111]) ++ (s.qs.l.map (eq1S es (n + 1))).flatten ++ (s.au.l.attach.map fun a => autS (n + 1) (a.1.l.attach.map fun t => St.tx es t.1 (n + 2) a.1.l)).flatten ++ (s.ut.l.map (tr1S es ss (n + 1) [117, 110, 116, 105, 108, 32])).flatten ++ linS n ([100, 111, 110, 101])
termination_by SizeOf.sizeOf s
decreasing_by exact St.lt_of_mem a.2 t.2
/-- an automaton's text at a level -/
def auS (es : List va.En) (n : Nat) (a : Rw St) : List UInt8 := autS n (a.l.map fun t => t.tx es (n + 1) a.l)
theorem St.tx_eq (es : List va.En) (s : St) (n : Nat) (ss : List St) : s.tx es n ss = linS n ([115, 116, 97, 116, 101, 32] ++ bsT s.nm) ++ lcsS es (n + 1) s.lc.l ++ (s.un.l.map (tr1S es ss (n + 1) [117, 110, 108, 101, 115, 115, 32])).flatten ++ linS n ([100, 111]) ++ (s.qs.l.map (eq1S es (n + 1))).flatten ++ (s.au.l.map (auS es (n + 1))).flatten ++ (s.ut.l.map (tr1S es ss (n + 1) [117, 110, 116, 105, 108, 32])).flatten ++ linS n ([100, 111, 110, 101]) := by
  rw [St.tx]
  unfold auS
  simp
/-- what the text of a state among k asks -/
inductive WfS : Nat → St → Prop
  | mk (k : Nat) (s : St) (h1 : s.lc.l.length ≤ 17592186044416 ∧ ∀ d ∈ s.lc.l, d.ck.l.length ≤ 17592186044416) (h2 : ∀ q ∈ s.qs.l, wfQ q) (h3 : ∀ t ∈ s.un.l, wfT k t) (h4 : ∀ t ∈ s.ut.l, wfT k t) (h5 : ∀ a ∈ s.au.l, ∀ t ∈ a.l, WfS a.l.length t) : WfS k s
theorem WfS.of {k : Nat} {s : St} (h : WfS k s) : (s.lc.l.length ≤ 17592186044416 ∧ ∀ d ∈ s.lc.l, d.ck.l.length ≤ 17592186044416) ∧ (∀ q ∈ s.qs.l, wfQ q) ∧ (∀ t ∈ s.un.l, wfT k t) ∧ (∀ t ∈ s.ut.l, wfT k t) ∧ (∀ a ∈ s.au.l, ∀ t ∈ a.l, WfS a.l.length t) := by
  cases h with
  | mk k s h1 h2 h3 h4 h5 => exact ⟨h1, h2, h3, h4, h5⟩
theorem lin_len (n : Nat) (s : List UInt8) : 2 * n ≤ (linS n s).length := by
  unfold linS
  simp only [List.length_append, ind_len]
  omega
set_option maxHeartbeats 1000000 in
theorem wr_st (w0 : World) (b m : Nat) (E : Rw va.En) (hs : Std w0) (hE : RsE w0 w0.heap.size E) (hM : SymM w0 m) : ∀ (s : St) (n : Nat) (r : Rw St) (l : List UInt8) (w : World), RdR w0 w0.heap.size 6 SC r → RsS w0 w0.heap.size s → WfS r.l.length s →
    Below w0.heap.size w0 w → Wr w0.heap.size b E m (Lib.byteCells l) w → (l ++ s.tx E.l n r.l).length ≤ 140737488355328 →
    Calls Tryz.prog 127 #[.pointer (some ⟨b, 0, none⟩), .int .i64 (n : Int), sV s, .slice r.A r.l.length r.c] w (fun e w' => e = .returned (.tuple #[]) ∧ Wr w0.heap.size b E m (Lib.byteCells (l ++ s.tx E.l n r.l)) w' ∧ Below w0.heap.size w w' ∧ Oth b w w') := by
  refine St.ind fun s ih n r l w hr hS hW hb h hlen => ?_
  obtain ⟨_, s2, s3, s4, s5, s6, s7, s8⟩ := hS.of
  obtain ⟨f1, f2, f3, f4, f5⟩ := hW.of
  rw [St.tx_eq] at hlen ⊢
  have hn1 : n + 1 ≤ 140737488355328 := by
    have := lin_len n ([100, 111, 110, 101])
    simp only [List.length_append] at hlen
    omega
  have e : ∀ x : List UInt8, x = x := fun _ => rfl
  have KA : Hid (∀ a ∈ s.au.l, ∀ (l' : List UInt8) (W : World), Below w0.heap.size w0 W → Wr w0.heap.size b E m (Lib.byteCells l') W → (l' ++ auS E.l (n + 1) a).length ≤ 140737488355328 → Calls Tryz.prog 95 #[.pointer (some ⟨b, 0, none⟩), .int .i64 ((n + 1 : Nat) : Int), aV a] W (fun e w' => e = .returned (.tuple #[]) ∧ Wr w0.heap.size b E m (Lib.byteCells (l' ++ auS E.l (n + 1) a)) w' ∧ Below w0.heap.size W w' ∧ Oth b W w')) := Lib.hid fun a ha l' W hW1 hW2 hl => by
    have ea : l' ++ auS E.l (n + 1) a = l' ++ linS (n + 1) [97, 117, 116, 111, 109, 97, 116, 111, 110] ++ (a.l.map fun t => t.tx E.l (n + 2) a.l).flatten ++ linS (n + 1) [101, 110, 100] := by
      unfold auS autS
      simp only [List.append_assoc]
    rw [ea] at hl ⊢
    refine wr_automaton w0 b m E l' (n + 1) a (fun t => t.tx E.l (n + 2) a.l) W hn1 (s5 a ha) (Lib.hid fun t ht l2 W2 hX1 hX2 hX3 => ?_) hW1 hW2 hl
    have := ih a ha t ht (n + 2) a l2 W2 (s5 a ha) (s6 a ha t ht) (f5 a ha t ht) hX1 hX2 hX3
    rwa [show n + 2 = (n + 1) + 1 from rfl, castS] at this
  have := wr_state w0 b m E l n s r (auS E.l (n + 1)) w hs hE hM hn1 hr s2 f1 s3 f2 s4 s7 s8 f3 f4 KA hb h (by
    simp only [List.length_append] at hlen ⊢
    omega)
  simp only [List.append_assoc] at this ⊢
  exact this
/-- an automaton of a body at level n, and the body -/
theorem wr_au (w0 : World) (b m : Nat) (E : Rw va.En) (hs : Std w0) (hE : RsE w0 w0.heap.size E) (hM : SymM w0 m) (n : Nat) (hn : n ≤ 140737488355328) (a : Rw St) (hA : RsA w0 w0.heap.size a) (hW : ∀ t ∈ a.l, WfS a.l.length t) (l : List UInt8) (w : World)
    (hb : Below w0.heap.size w0 w) (h : Wr w0.heap.size b E m (Lib.byteCells l) w) (hlen : (l ++ auS E.l n a).length ≤ 140737488355328) :
    Calls Tryz.prog 95 #[.pointer (some ⟨b, 0, none⟩), .int .i64 (n : Int), aV a] w (fun e w' => e = .returned (.tuple #[]) ∧ Wr w0.heap.size b E m (Lib.byteCells (l ++ auS E.l n a)) w' ∧ Below w0.heap.size w w' ∧ Oth b w w') := by
  have ea : l ++ auS E.l n a = l ++ linS n [97, 117, 116, 111, 109, 97, 116, 111, 110] ++ (a.l.map fun t => t.tx E.l (n + 1) a.l).flatten ++ linS n [101, 110, 100] := by
    unfold auS autS
    simp only [List.append_assoc]
  rw [ea] at hlen ⊢
  refine wr_automaton w0 b m E l n a (fun t => t.tx E.l (n + 1) a.l) w hn hA.1 (Lib.hid fun t ht l2 W2 hX1 hX2 hX3 => ?_) hb h hlen
  have := wr_st w0 b m E hs hE hM t (n + 1) a l2 W2 hA.1 (hA.2 t ht) (hW t ht) hX1 hX2 hX3
  rwa [castS] at this
end Go.Proofs.YtoimjcfdiljkjaaGreatDoor
/- node of the writer. -/
namespace Go.Proofs.YtoimjcfdiljkjaaGreatDoor
set_option linter.unusedVariables false
set_option linter.unusedSimpArgs false
open Go.RowKit Go.Sort
set_option maxHeartbeats 2000000 in
set_option maxRecDepth 20000 in
theorem wr_node (w0 : World) (b m : Nat) (E : Rw va.En) (l : List UInt8) (x : Nt) (w : World) (hs : Std w0) (hE : RsE w0 w0.heap.size E) (hM : SymM w0 m) (hx : RsN w0 w0.heap.size x)
    (hd : ∀ r : Rw Dt, r = x.ins ∨ r = x.outs ∨ r = x.locs → r.l.length ≤ 17592186044416 ∧ ∀ d ∈ r.l, d.ck.l.length ≤ 17592186044416) (hq : ∀ q ∈ x.qs.l, wfQ q) (hc : ∀ r : Rw Xt, r = x.asm ∨ r = x.ens → ∀ y ∈ r.l, ∀ z ∈ y.list, wfX z) (hW : ∀ a ∈ x.au.l, ∀ t ∈ a.l, WfS a.l.length t)
    (hb : Below w0.heap.size w0 w) (h : Wr w0.heap.size b E m (Lib.byteCells l) w) (hlen : (l ++ linS 0 ([110, 111, 100, 101, 32] ++ bsT x.nm ++ [40] ++ dcsS E.l x.ins.l ++ [41, 32, 114, 101, 116, 117, 114, 110, 115, 32, 40] ++ dcsS E.l x.outs.l ++ [41]) ++ lcsS E.l 1 x.locs.l ++ cmsS E.l ⟨#[97, 115, 115, 117, 109, 101, 32]⟩ x.asm.l ++ cmsS E.l ⟨#[101, 110, 115, 117, 114, 101, 32]⟩ x.ens.l ++ linS 0 ([108, 101, 116]) ++ (x.qs.l.map (eq1S E.l 1)).flatten ++ (x.au.l.map (auS E.l 1)).flatten ++ linS 0 ([116, 101, 108])).length ≤ 140737488355328) :
    Calls Tryz.prog 25 #[.pointer (some ⟨b, 0, none⟩), nV x] w (fun e w' => e = .returned (.tuple #[]) ∧ Wr w0.heap.size b E m (Lib.byteCells (l ++ linS 0 ([110, 111, 100, 101, 32] ++ bsT x.nm ++ [40] ++ dcsS E.l x.ins.l ++ [41, 32, 114, 101, 116, 117, 114, 110, 115, 32, 40] ++ dcsS E.l x.outs.l ++ [41]) ++ lcsS E.l 1 x.locs.l ++ cmsS E.l ⟨#[97, 115, 115, 117, 109, 101, 32]⟩ x.asm.l ++ cmsS E.l ⟨#[101, 110, 115, 117, 114, 101, 32]⟩ x.ens.l ++ linS 0 ([108, 101, 116]) ++ (x.qs.l.map (eq1S E.l 1)).flatten ++ (x.au.l.map (auS E.l 1)).flatten ++ linS 0 ([116, 101, 108]))) w' ∧ Below w0.heap.size w w' ∧ Oth b w w') := by
  obtain ⟨_, x1, x2, x3, x4, x5, x6, x7⟩ := hx
  have HL := Lib.hid hlen
  have hsz := hb.size
  have hne : w.heap.size ≠ b := by
    have : b < w.heap.size := by rcases h with h | h <;> exact h.lt
    omega
  have KD : ∀ r : Rw Dt, (r = x.ins ∨ r = x.outs ∨ r = x.locs) → RsDs w0 w0.heap.size r → (dcsS E.l r.l).length ≤ 140737488355328 → ∀ W, Below w.heap.size w W → Calls Tryz.prog 52 #[phV E m, .slice r.A r.l.length r.c] W (Bel (.string (tB (dcsS E.l r.l))) W) := fun r hr1 hr2 hr3 W hW' => by
    have hb' : Below w0.heap.size w0 W := hb.trans (hW'.mono hsz)
    exact ph_decls E m r W (hs.to hb') (hE.blw hb' hb'.size) (hr2.blw hb' hb'.size) (hd r hr1).1 (hd r hr1).2 hr3
  have hl1 : (l ++ linS 0 ([110, 111, 100, 101, 32] ++ bsT x.nm ++ [40] ++ dcsS E.l x.ins.l ++ [41, 32, 114, 101, 116, 117, 114, 110, 115, 32, 40] ++ dcsS E.l x.outs.l ++ [41])).length ≤ 140737488355328 := by simp only [List.length_append] at hlen ⊢; omega
  have KI := Lib.hid (KD x.ins (.inl rfl) x1 (by unfold linS at hl1; simp only [List.length_append] at hl1; omega))
  have KO := Lib.hid (KD x.outs (.inr (.inl rfl)) x2 (by unfold linS at hl1; simp only [List.length_append] at hl1; omega))
  have KL : Hid (∀ W, Below w.heap.size w W → Calls Tryz.prog 50 #[.pointer (some ⟨b, 0, none⟩), .int .i64 0, .slice (some ⟨W.heap.size, 0, none⟩) 7 7] (W.alloc (.cells #[.string ⟨#[110, 111, 100, 101, 32]⟩, .string x.nm, .string ⟨#[40]⟩, .string (tB (dcsS E.l x.ins.l)), .string ⟨#[41, 32, 114, 101, 116, 117, 114, 110, 115, 32, 40]⟩, .string (tB (dcsS E.l x.outs.l)), .string ⟨#[41]⟩] 9))
      fun e w' => e = .returned (.tuple #[]) ∧ Wr w0.heap.size b E m (Lib.byteCells (l ++ linS 0 ([110, 111, 100, 101, 32] ++ bsT x.nm ++ [40] ++ dcsS E.l x.ins.l ++ [41, 32, 114, 101, 116, 117, 114, 110, 115, 32, 40] ++ dcsS E.l x.outs.l ++ [41]))) w' ∧ Below w0.heap.size W w' ∧ Oth b W w') := Lib.hid fun W hW9 => by
    have ef : (([⟨#[110, 111, 100, 101, 32]⟩, x.nm, ⟨#[40]⟩, (tB (dcsS E.l x.ins.l)), ⟨#[41, 32, 114, 101, 116, 117, 114, 110, 115, 32, 40]⟩, (tB (dcsS E.l x.outs.l)), ⟨#[41]⟩] : List ByteArray).map bsT).flatten = [110, 111, 100, 101, 32] ++ bsT x.nm ++ [40] ++ dcsS E.l x.ins.l ++ [41, 32, 114, 101, 116, 117, 114, 110, 115, 32, 40] ++ dcsS E.l x.outs.l ++ [41] := by
      simp only [List.map_cons, List.map_nil, List.flatten_cons, List.flatten_nil, bsT_tB, List.append_nil]
      try simp only [List.append_assoc]
      try rfl
    have := wr_lineA w0.heap.size b m E (l) 0 7 [⟨#[110, 111, 100, 101, 32]⟩, x.nm, ⟨#[40]⟩, (tB (dcsS E.l x.ins.l)), ⟨#[41, 32, 114, 101, 116, 117, 114, 110, 115, 32, 40]⟩, (tB (dcsS E.l x.outs.l)), ⟨#[41]⟩] #[.string ⟨#[110, 111, 100, 101, 32]⟩, .string x.nm, .string ⟨#[40]⟩, .string (tB (dcsS E.l x.ins.l)), .string ⟨#[41, 32, 114, 101, 116, 117, 114, 110, 115, 32, 40]⟩, .string (tB (dcsS E.l x.outs.l)), .string ⟨#[41]⟩] W (h.below hW9) (Nat.le_trans hsz hW9.size) (by omega) (by simp) rfl (by rw [ef]; exact hl1)
    rw [ef] at this
    exact this
  have KLC : Hid (∀ W : World, Below w0.heap.size w0 W → Wr w0.heap.size b E m (Lib.byteCells (l ++ linS 0 ([110, 111, 100, 101, 32] ++ bsT x.nm ++ [40] ++ dcsS E.l x.ins.l ++ [41, 32, 114, 101, 116, 117, 114, 110, 115, 32, 40] ++ dcsS E.l x.outs.l ++ [41]))) W → Calls Tryz.prog 53 #[.pointer (some ⟨b, 0, none⟩), .int .i64 1, .slice x.locs.A x.locs.l.length x.locs.c] W (fun e w' => e = .returned (.tuple #[]) ∧ Wr w0.heap.size b E m (Lib.byteCells (l ++ linS 0 ([110, 111, 100, 101, 32] ++ bsT x.nm ++ [40] ++ dcsS E.l x.ins.l ++ [41, 32, 114, 101, 116, 117, 114, 110, 115, 32, 40] ++ dcsS E.l x.outs.l ++ [41]) ++ lcsS E.l 1 x.locs.l)) w' ∧ Below w0.heap.size W w' ∧ Oth b W w')) := Lib.hid fun W hW1 hW2 =>
    wr_locals w0 b m E (l ++ linS 0 ([110, 111, 100, 101, 32] ++ bsT x.nm ++ [40] ++ dcsS E.l x.ins.l ++ [41, 32, 114, 101, 116, 117, 114, 110, 115, 32, 40] ++ dcsS E.l x.outs.l ++ [41])) 1 x.locs W hs hE x3 (hd x.locs (.inr (.inr rfl))).1 (hd x.locs (.inr (.inr rfl))).2 (by omega) hW1 hW2 (by simp only [List.length_append] at hlen ⊢; omega)
  have KC1 : Hid (∀ W : World, Below w0.heap.size w0 W → Wr w0.heap.size b E m (Lib.byteCells (l ++ linS 0 ([110, 111, 100, 101, 32] ++ bsT x.nm ++ [40] ++ dcsS E.l x.ins.l ++ [41, 32, 114, 101, 116, 117, 114, 110, 115, 32, 40] ++ dcsS E.l x.outs.l ++ [41]) ++ lcsS E.l 1 x.locs.l)) W → Calls Tryz.prog 54 #[.pointer (some ⟨b, 0, none⟩), .string ⟨#[97, 115, 115, 117, 109, 101, 32]⟩, .slice x.asm.A x.asm.l.length x.asm.c] W (fun e w' => e = .returned (.tuple #[]) ∧ Wr w0.heap.size b E m (Lib.byteCells (l ++ linS 0 ([110, 111, 100, 101, 32] ++ bsT x.nm ++ [40] ++ dcsS E.l x.ins.l ++ [41, 32, 114, 101, 116, 117, 114, 110, 115, 32, 40] ++ dcsS E.l x.outs.l ++ [41]) ++ lcsS E.l 1 x.locs.l ++ cmsS E.l ⟨#[97, 115, 115, 117, 109, 101, 32]⟩ x.asm.l)) w' ∧ Below w0.heap.size W w' ∧ Oth b W w')) := Lib.hid fun W hW1 hW2 =>
    wr_claims w0 b m E (l ++ linS 0 ([110, 111, 100, 101, 32] ++ bsT x.nm ++ [40] ++ dcsS E.l x.ins.l ++ [41, 32, 114, 101, 116, 117, 114, 110, 115, 32, 40] ++ dcsS E.l x.outs.l ++ [41]) ++ lcsS E.l 1 x.locs.l) ⟨#[97, 115, 115, 117, 109, 101, 32]⟩ x.asm W hs hE hM x6 (hc x.asm (.inl rfl)) hW1 hW2 (by simp only [List.length_append] at hlen ⊢; omega)
  have KC2 : Hid (∀ W : World, Below w0.heap.size w0 W → Wr w0.heap.size b E m (Lib.byteCells (l ++ linS 0 ([110, 111, 100, 101, 32] ++ bsT x.nm ++ [40] ++ dcsS E.l x.ins.l ++ [41, 32, 114, 101, 116, 117, 114, 110, 115, 32, 40] ++ dcsS E.l x.outs.l ++ [41]) ++ lcsS E.l 1 x.locs.l ++ cmsS E.l ⟨#[97, 115, 115, 117, 109, 101, 32]⟩ x.asm.l)) W → Calls Tryz.prog 54 #[.pointer (some ⟨b, 0, none⟩), .string ⟨#[101, 110, 115, 117, 114, 101, 32]⟩, .slice x.ens.A x.ens.l.length x.ens.c] W (fun e w' => e = .returned (.tuple #[]) ∧ Wr w0.heap.size b E m (Lib.byteCells (l ++ linS 0 ([110, 111, 100, 101, 32] ++ bsT x.nm ++ [40] ++ dcsS E.l x.ins.l ++ [41, 32, 114, 101, 116, 117, 114, 110, 115, 32, 40] ++ dcsS E.l x.outs.l ++ [41]) ++ lcsS E.l 1 x.locs.l ++ cmsS E.l ⟨#[97, 115, 115, 117, 109, 101, 32]⟩ x.asm.l ++ cmsS E.l ⟨#[101, 110, 115, 117, 114, 101, 32]⟩ x.ens.l)) w' ∧ Below w0.heap.size W w' ∧ Oth b W w')) := Lib.hid fun W hW1 hW2 =>
    wr_claims w0 b m E (l ++ linS 0 ([110, 111, 100, 101, 32] ++ bsT x.nm ++ [40] ++ dcsS E.l x.ins.l ++ [41, 32, 114, 101, 116, 117, 114, 110, 115, 32, 40] ++ dcsS E.l x.outs.l ++ [41]) ++ lcsS E.l 1 x.locs.l ++ cmsS E.l ⟨#[97, 115, 115, 117, 109, 101, 32]⟩ x.asm.l) ⟨#[101, 110, 115, 117, 114, 101, 32]⟩ x.ens W hs hE hM x7 (hc x.ens (.inr rfl)) hW1 hW2 (by simp only [List.length_append] at hlen ⊢; omega)
  have KLT : Hid (∀ W : World, Below w0.heap.size w0 W → Wr w0.heap.size b E m (Lib.byteCells (l ++ linS 0 ([110, 111, 100, 101, 32] ++ bsT x.nm ++ [40] ++ dcsS E.l x.ins.l ++ [41, 32, 114, 101, 116, 117, 114, 110, 115, 32, 40] ++ dcsS E.l x.outs.l ++ [41]) ++ lcsS E.l 1 x.locs.l ++ cmsS E.l ⟨#[97, 115, 115, 117, 109, 101, 32]⟩ x.asm.l ++ cmsS E.l ⟨#[101, 110, 115, 117, 114, 101, 32]⟩ x.ens.l)) W → Calls Tryz.prog 50 #[.pointer (some ⟨b, 0, none⟩), .int .i64 0, .slice (some ⟨W.heap.size, 0, none⟩) 1 1] (W.alloc (.cells #[.string ⟨#[108, 101, 116]⟩] 9)) (fun e w' => e = .returned (.tuple #[]) ∧ Wr w0.heap.size b E m (Lib.byteCells (l ++ linS 0 ([110, 111, 100, 101, 32] ++ bsT x.nm ++ [40] ++ dcsS E.l x.ins.l ++ [41, 32, 114, 101, 116, 117, 114, 110, 115, 32, 40] ++ dcsS E.l x.outs.l ++ [41]) ++ lcsS E.l 1 x.locs.l ++ cmsS E.l ⟨#[97, 115, 115, 117, 109, 101, 32]⟩ x.asm.l ++ cmsS E.l ⟨#[101, 110, 115, 117, 114, 101, 32]⟩ x.ens.l ++ linS 0 ([108, 101, 116]))) w' ∧ Below w0.heap.size W w' ∧ Oth b W w')) := Lib.hid fun W hW hW2 => by
    have := wr_lineA w0.heap.size b m E (l ++ linS 0 ([110, 111, 100, 101, 32] ++ bsT x.nm ++ [40] ++ dcsS E.l x.ins.l ++ [41, 32, 114, 101, 116, 117, 114, 110, 115, 32, 40] ++ dcsS E.l x.outs.l ++ [41]) ++ lcsS E.l 1 x.locs.l ++ cmsS E.l ⟨#[97, 115, 115, 117, 109, 101, 32]⟩ x.asm.l ++ cmsS E.l ⟨#[101, 110, 115, 117, 114, 101, 32]⟩ x.ens.l) 0 1 [⟨#[108, 101, 116]⟩] #[.string ⟨#[108, 101, 116]⟩] W hW2 hW.size (by omega) (by simp) rfl (by show (l ++ linS 0 ([110, 111, 100, 101, 32] ++ bsT x.nm ++ [40] ++ dcsS E.l x.ins.l ++ [41, 32, 114, 101, 116, 117, 114, 110, 115, 32, 40] ++ dcsS E.l x.outs.l ++ [41]) ++ lcsS E.l 1 x.locs.l ++ cmsS E.l ⟨#[97, 115, 115, 117, 109, 101, 32]⟩ x.asm.l ++ cmsS E.l ⟨#[101, 110, 115, 117, 114, 101, 32]⟩ x.ens.l ++ linS 0 ([108, 101, 116])).length ≤ _; simp only [List.length_append] at hlen ⊢; omega)
    exact this
  have KBD : Hid (∀ W : World, Below w0.heap.size w0 W → Wr w0.heap.size b E m (Lib.byteCells (l ++ linS 0 ([110, 111, 100, 101, 32] ++ bsT x.nm ++ [40] ++ dcsS E.l x.ins.l ++ [41, 32, 114, 101, 116, 117, 114, 110, 115, 32, 40] ++ dcsS E.l x.outs.l ++ [41]) ++ lcsS E.l 1 x.locs.l ++ cmsS E.l ⟨#[97, 115, 115, 117, 109, 101, 32]⟩ x.asm.l ++ cmsS E.l ⟨#[101, 110, 115, 117, 114, 101, 32]⟩ x.ens.l ++ linS 0 ([108, 101, 116]))) W → Calls Tryz.prog 55 #[.pointer (some ⟨b, 0, none⟩), .int .i64 1, .slice x.qs.A x.qs.l.length x.qs.c, .slice x.au.A x.au.l.length x.au.c] W (fun e w' => e = .returned (.tuple #[]) ∧ Wr w0.heap.size b E m (Lib.byteCells (l ++ linS 0 ([110, 111, 100, 101, 32] ++ bsT x.nm ++ [40] ++ dcsS E.l x.ins.l ++ [41, 32, 114, 101, 116, 117, 114, 110, 115, 32, 40] ++ dcsS E.l x.outs.l ++ [41]) ++ lcsS E.l 1 x.locs.l ++ cmsS E.l ⟨#[97, 115, 115, 117, 109, 101, 32]⟩ x.asm.l ++ cmsS E.l ⟨#[101, 110, 115, 117, 114, 101, 32]⟩ x.ens.l ++ linS 0 ([108, 101, 116]) ++ (x.qs.l.map (eq1S E.l 1)).flatten ++ (x.au.l.map (auS E.l 1)).flatten)) w' ∧ Below w0.heap.size W w' ∧ Oth b W w')) := Lib.hid fun W hW1 hW2 =>
    wr_body w0 b m E (l ++ linS 0 ([110, 111, 100, 101, 32] ++ bsT x.nm ++ [40] ++ dcsS E.l x.ins.l ++ [41, 32, 114, 101, 116, 117, 114, 110, 115, 32, 40] ++ dcsS E.l x.outs.l ++ [41]) ++ lcsS E.l 1 x.locs.l ++ cmsS E.l ⟨#[97, 115, 115, 117, 109, 101, 32]⟩ x.asm.l ++ cmsS E.l ⟨#[101, 110, 115, 117, 114, 101, 32]⟩ x.ens.l ++ linS 0 ([108, 101, 116])) 1 x.qs x.au (auS E.l 1) W hs hE hM x4 hq (by omega) x5.1 (Lib.hid fun a ha l' W' q1 q2 q3 => wr_au w0 b m E hs hE hM 1 (by omega) a (x5.2 a ha) (hW a ha) l' W' q1 q2 q3) hW1 hW2 (by simp only [List.length_append] at hlen ⊢; omega)
  have KTL : Hid (∀ W : World, Below w0.heap.size w0 W → Wr w0.heap.size b E m (Lib.byteCells (l ++ linS 0 ([110, 111, 100, 101, 32] ++ bsT x.nm ++ [40] ++ dcsS E.l x.ins.l ++ [41, 32, 114, 101, 116, 117, 114, 110, 115, 32, 40] ++ dcsS E.l x.outs.l ++ [41]) ++ lcsS E.l 1 x.locs.l ++ cmsS E.l ⟨#[97, 115, 115, 117, 109, 101, 32]⟩ x.asm.l ++ cmsS E.l ⟨#[101, 110, 115, 117, 114, 101, 32]⟩ x.ens.l ++ linS 0 ([108, 101, 116]) ++ (x.qs.l.map (eq1S E.l 1)).flatten ++ (x.au.l.map (auS E.l 1)).flatten)) W → Calls Tryz.prog 50 #[.pointer (some ⟨b, 0, none⟩), .int .i64 0, .slice (some ⟨W.heap.size, 0, none⟩) 1 1] (W.alloc (.cells #[.string ⟨#[116, 101, 108]⟩] 9)) (fun e w' => e = .returned (.tuple #[]) ∧ Wr w0.heap.size b E m (Lib.byteCells (l ++ linS 0 ([110, 111, 100, 101, 32] ++ bsT x.nm ++ [40] ++ dcsS E.l x.ins.l ++ [41, 32, 114, 101, 116, 117, 114, 110, 115, 32, 40] ++ dcsS E.l x.outs.l ++ [41]) ++ lcsS E.l 1 x.locs.l ++ cmsS E.l ⟨#[97, 115, 115, 117, 109, 101, 32]⟩ x.asm.l ++ cmsS E.l ⟨#[101, 110, 115, 117, 114, 101, 32]⟩ x.ens.l ++ linS 0 ([108, 101, 116]) ++ (x.qs.l.map (eq1S E.l 1)).flatten ++ (x.au.l.map (auS E.l 1)).flatten ++ linS 0 ([116, 101, 108]))) w' ∧ Below w0.heap.size W w' ∧ Oth b W w')) := Lib.hid fun W hW hW2 => by
    have := wr_lineA w0.heap.size b m E (l ++ linS 0 ([110, 111, 100, 101, 32] ++ bsT x.nm ++ [40] ++ dcsS E.l x.ins.l ++ [41, 32, 114, 101, 116, 117, 114, 110, 115, 32, 40] ++ dcsS E.l x.outs.l ++ [41]) ++ lcsS E.l 1 x.locs.l ++ cmsS E.l ⟨#[97, 115, 115, 117, 109, 101, 32]⟩ x.asm.l ++ cmsS E.l ⟨#[101, 110, 115, 117, 114, 101, 32]⟩ x.ens.l ++ linS 0 ([108, 101, 116]) ++ (x.qs.l.map (eq1S E.l 1)).flatten ++ (x.au.l.map (auS E.l 1)).flatten) 0 1 [⟨#[116, 101, 108]⟩] #[.string ⟨#[116, 101, 108]⟩] W hW2 hW.size (by omega) (by simp) rfl (by show (l ++ linS 0 ([110, 111, 100, 101, 32] ++ bsT x.nm ++ [40] ++ dcsS E.l x.ins.l ++ [41, 32, 114, 101, 116, 117, 114, 110, 115, 32, 40] ++ dcsS E.l x.outs.l ++ [41]) ++ lcsS E.l 1 x.locs.l ++ cmsS E.l ⟨#[97, 115, 115, 117, 109, 101, 32]⟩ x.asm.l ++ cmsS E.l ⟨#[101, 110, 115, 117, 114, 101, 32]⟩ x.ens.l ++ linS 0 ([108, 101, 116]) ++ (x.qs.l.map (eq1S E.l 1)).flatten ++ (x.au.l.map (auS E.l 1)).flatten ++ linS 0 ([116, 101, 108])).length ≤ _; simp only [List.length_append] at hlen ⊢; omega)
    exact this
  obtain ⟨W0, hW0⟩ : ∃ W0, w.alloc (.cells #[.string x.nm, .slice x.ins.A x.ins.l.length x.ins.c, .slice x.outs.A x.outs.l.length x.outs.c, .slice x.locs.A x.locs.l.length x.locs.c, .slice x.qs.A x.qs.l.length x.qs.c, .slice x.au.A x.au.l.length x.au.c, .slice x.asm.A x.asm.l.length x.asm.c, .slice x.ens.A x.ens.l.length x.ens.c] 45) = W0 := ⟨_, rfl⟩
  have hB0 : Below w.heap.size w W0 := by rw [← hW0]; exact bel_box _
  have kB : W0.heap[w.heap.size]? = some (.cells #[.string x.nm, .slice x.ins.A x.ins.l.length x.ins.c, .slice x.outs.A x.outs.l.length x.outs.c, .slice x.locs.A x.locs.l.length x.locs.c, .slice x.qs.A x.qs.l.length x.qs.c, .slice x.au.A x.au.l.length x.au.c, .slice x.asm.A x.asm.l.length x.asm.c, .slice x.ens.A x.ens.l.length x.ens.c] 45 (0, 0)) := by rw [← hW0]; exact heap_alloc_new w _
  have s0 := cell_below hB0 h.cells.1
  have s1 := cell_below hB0 h.cells.2
  have x0 : W0.cell? ⟨w.heap.size, 0, none⟩ = some (.string x.nm) := by rw [Lib.cell_of_heap kB]; rfl
  have x1 : W0.cell? ⟨w.heap.size, 1, none⟩ = some (.slice x.ins.A x.ins.l.length x.ins.c) := by rw [Lib.cell_of_heap kB]; rfl
  have x2 : W0.cell? ⟨w.heap.size, 2, none⟩ = some (.slice x.outs.A x.outs.l.length x.outs.c) := by rw [Lib.cell_of_heap kB]; rfl
  have HW0 := Lib.hid hW0
  clear hW0 h hlen hl1 KD hd hq hc hW hs hE hM x3 x4 x5 x6 x7
  generalize tB (dcsS E.l x.ins.l) = ji at *
  generalize tB (dcsS E.l x.outs.l) = jo at *
  go_enter Tryz.func25, Tryz.ntmps25
  go_wp2
  rw [HW0.out]
  go_region_held3 (fun w' => w'.cell? ⟨b, 0, none⟩ = some (.slice E.A E.l.length E.c) ∧ w'.cell? ⟨b, 1, none⟩ = some (.map (some m)) ∧ w'.cell? ⟨w.heap.size, 0, none⟩ = some (.string x.nm) ∧ w'.cell? ⟨w.heap.size, 1, none⟩ = some (.slice x.ins.A x.ins.l.length x.ins.c) ∧ w'.cell? ⟨w.heap.size, 2, none⟩ = some (.slice x.outs.A x.outs.l.length x.outs.c)) (first | exact ⟨s0, s1, x0, x1, x2⟩ | exact ⟨cell_below hX1 s0, cell_below hX1 s1, cell_below hX1 x0, cell_below hX1 x1, cell_below hX1 x2⟩ | exact ⟨cell_below hX2 s0, cell_below hX2 s1, cell_below hX2 x0, cell_below hX2 x1, cell_below hX2 x2⟩ | exact ⟨cell_below (bel_alloc hX2 _) s0, cell_below (bel_alloc hX2 _) s1, cell_below (bel_alloc hX2 _) x0, cell_below (bel_alloc hX2 _) x1, cell_below (bel_alloc hX2 _) x2⟩ | exact ⟨v0, v1, y0, y1, y2⟩)
    (first
      | (go_at_call 52; (with_reducible refine (KI.out _ ?_).mono ?_); (focus ((repeat (first | (with_reducible exact Below.refl _ _) | (with_reducible assumption) | (with_reducible exact bel_box _) | (with_reducible refine bel_step ?_ (by with_reducible assumption)) | (with_reducible refine Below.drew ?_) | (with_reducible refine below_drewN ?_ _) | (with_reducible refine bel_alloc ?_ _))); done)); rintro e' w1 ⟨rfl, hb1⟩; have hX1 : Below W0.heap.size W0 w1 := (by repeat (first | (with_reducible exact Below.refl _ _) | (with_reducible assumption) | (with_reducible exact bel_box _) | (with_reducible refine bel_step ?_ (by with_reducible assumption)) | (with_reducible refine Below.drew ?_) | (with_reducible refine below_drewN ?_ _) | (with_reducible refine bel_alloc ?_ _))))
      | (go_at_call 52; (with_reducible refine (KO.out _ ?_).mono ?_); (focus ((repeat (first | (with_reducible exact Below.refl _ _) | (with_reducible assumption) | (with_reducible exact bel_box _) | (with_reducible refine bel_step ?_ (by with_reducible assumption)) | (with_reducible refine Below.drew ?_) | (with_reducible refine below_drewN ?_ _) | (with_reducible refine bel_alloc ?_ _))); done)); rintro e' w2 ⟨rfl, hb2⟩; have hX2 : Below W0.heap.size W0 w2 := (by repeat (first | (with_reducible exact Below.refl _ _) | (with_reducible assumption) | (with_reducible exact bel_box _) | (with_reducible refine bel_step ?_ (by with_reducible assumption)) | (with_reducible refine Below.drew ?_) | (with_reducible refine below_drewN ?_ _) | (with_reducible refine bel_alloc ?_ _))))
      | (go_at_call 50; (refine (KL.out _ (hB0.trans (hX2.mono hB0.size))).mono ?_); rintro e' w3 ⟨rfl, hw3, hb3, ho3⟩; have v0 := hw3.cells.1; have v1 := hw3.cells.2; have kC := ho3 _ _ _ _ ((hX2.block _ (Array.getElem?_eq_some_iff.1 kB).1).trans kB) hne (by decide); have y0 : w3.cell? ⟨w.heap.size, 0, none⟩ = some (.string x.nm) := (by rw [Lib.cell_of_heap kC]; rfl); have y1 : w3.cell? ⟨w.heap.size, 1, none⟩ = some (.slice x.ins.A x.ins.l.length x.ins.c) := (by rw [Lib.cell_of_heap kC]; rfl); have y2 : w3.cell? ⟨w.heap.size, 2, none⟩ = some (.slice x.outs.A x.outs.l.length x.outs.c) := (by rw [Lib.cell_of_heap kC]; rfl); have y3 : w3.cell? ⟨w.heap.size, 3, none⟩ = some (.slice x.locs.A x.locs.l.length x.locs.c) := (by rw [Lib.cell_of_heap kC]; rfl); have y4 : w3.cell? ⟨w.heap.size, 4, none⟩ = some (.slice x.qs.A x.qs.l.length x.qs.c) := (by rw [Lib.cell_of_heap kC]; rfl); have y5 : w3.cell? ⟨w.heap.size, 5, none⟩ = some (.slice x.au.A x.au.l.length x.au.c) := (by rw [Lib.cell_of_heap kC]; rfl); have y6 : w3.cell? ⟨w.heap.size, 6, none⟩ = some (.slice x.asm.A x.asm.l.length x.asm.c) := (by rw [Lib.cell_of_heap kC]; rfl); have y7 : w3.cell? ⟨w.heap.size, 7, none⟩ = some (.slice x.ens.A x.ens.l.length x.ens.c) := (by rw [Lib.cell_of_heap kC]; rfl)))
  have hB2 : Below w.heap.size w w2 := hB0.trans (hX2.mono hB0.size)
  have hb3w : Below w0.heap.size w w3 := (hB2.mono hsz).trans hb3
  have ho3w : Oth b w w3 := (Oth.below hB2).trans ho3
  have hv3 : Below w0.heap.size w0 w3 := hb.trans hb3w
  have y3 : w3.cell? ⟨w.heap.size, 3, none⟩ = some (.slice x.locs.A x.locs.l.length x.locs.c) := by rw [Lib.cell_of_heap kC]; rfl
  have y4 : w3.cell? ⟨w.heap.size, 4, none⟩ = some (.slice x.qs.A x.qs.l.length x.qs.c) := by rw [Lib.cell_of_heap kC]; rfl
  have y5 : w3.cell? ⟨w.heap.size, 5, none⟩ = some (.slice x.au.A x.au.l.length x.au.c) := by rw [Lib.cell_of_heap kC]; rfl
  have y6 : w3.cell? ⟨w.heap.size, 6, none⟩ = some (.slice x.asm.A x.asm.l.length x.asm.c) := by rw [Lib.cell_of_heap kC]; rfl
  have y7 : w3.cell? ⟨w.heap.size, 7, none⟩ = some (.slice x.ens.A x.ens.l.length x.ens.c) := by rw [Lib.cell_of_heap kC]; rfl
  clear KI KO KL HL
  go_wp2_with (first
    | (go_at_call 53; (with_reducible refine (KLC.out _ hv3 hw3).mono ?_); rintro e' w4 ⟨rfl, hw4, hb4, ho4⟩; have k4 := ho4 _ _ _ _ kC hne (by decide); have p4_3 : w4.cell? ⟨w.heap.size, 3, none⟩ = some (.slice x.locs.A x.locs.l.length x.locs.c) := (by rw [Lib.cell_of_heap k4]; rfl); have p4_4 : w4.cell? ⟨w.heap.size, 4, none⟩ = some (.slice x.qs.A x.qs.l.length x.qs.c) := (by rw [Lib.cell_of_heap k4]; rfl); have p4_5 : w4.cell? ⟨w.heap.size, 5, none⟩ = some (.slice x.au.A x.au.l.length x.au.c) := (by rw [Lib.cell_of_heap k4]; rfl); have p4_6 : w4.cell? ⟨w.heap.size, 6, none⟩ = some (.slice x.asm.A x.asm.l.length x.asm.c) := (by rw [Lib.cell_of_heap k4]; rfl); have p4_7 : w4.cell? ⟨w.heap.size, 7, none⟩ = some (.slice x.ens.A x.ens.l.length x.ens.c) := (by rw [Lib.cell_of_heap k4]; rfl); have hv4 : Below w0.heap.size w0 w4 := hv3.trans hb4)
    | (go_at_call 54; (with_reducible refine (KC1.out _ hv4 hw4).mono ?_); rintro e' w5 ⟨rfl, hw5, hb5, ho5⟩; have k5 := ho5 _ _ _ _ k4 hne (by decide); have p5_3 : w5.cell? ⟨w.heap.size, 3, none⟩ = some (.slice x.locs.A x.locs.l.length x.locs.c) := (by rw [Lib.cell_of_heap k5]; rfl); have p5_4 : w5.cell? ⟨w.heap.size, 4, none⟩ = some (.slice x.qs.A x.qs.l.length x.qs.c) := (by rw [Lib.cell_of_heap k5]; rfl); have p5_5 : w5.cell? ⟨w.heap.size, 5, none⟩ = some (.slice x.au.A x.au.l.length x.au.c) := (by rw [Lib.cell_of_heap k5]; rfl); have p5_6 : w5.cell? ⟨w.heap.size, 6, none⟩ = some (.slice x.asm.A x.asm.l.length x.asm.c) := (by rw [Lib.cell_of_heap k5]; rfl); have p5_7 : w5.cell? ⟨w.heap.size, 7, none⟩ = some (.slice x.ens.A x.ens.l.length x.ens.c) := (by rw [Lib.cell_of_heap k5]; rfl); have hv5 : Below w0.heap.size w0 w5 := hv4.trans hb5)
    | (go_at_call 54; (with_reducible refine (KC2.out _ hv5 hw5).mono ?_); rintro e' w6 ⟨rfl, hw6, hb6, ho6⟩; have k6 := ho6 _ _ _ _ k5 hne (by decide); have p6_3 : w6.cell? ⟨w.heap.size, 3, none⟩ = some (.slice x.locs.A x.locs.l.length x.locs.c) := (by rw [Lib.cell_of_heap k6]; rfl); have p6_4 : w6.cell? ⟨w.heap.size, 4, none⟩ = some (.slice x.qs.A x.qs.l.length x.qs.c) := (by rw [Lib.cell_of_heap k6]; rfl); have p6_5 : w6.cell? ⟨w.heap.size, 5, none⟩ = some (.slice x.au.A x.au.l.length x.au.c) := (by rw [Lib.cell_of_heap k6]; rfl); have p6_6 : w6.cell? ⟨w.heap.size, 6, none⟩ = some (.slice x.asm.A x.asm.l.length x.asm.c) := (by rw [Lib.cell_of_heap k6]; rfl); have p6_7 : w6.cell? ⟨w.heap.size, 7, none⟩ = some (.slice x.ens.A x.ens.l.length x.ens.c) := (by rw [Lib.cell_of_heap k6]; rfl); have hv6 : Below w0.heap.size w0 w6 := hv5.trans hb6)
    | (go_at_call 50; (with_reducible refine (KLT.out _ hv6 hw6).mono ?_); rintro e' w7 ⟨rfl, hw7, hb7, ho7⟩; have k7 := ho7 _ _ _ _ k6 hne (by decide); have p7_3 : w7.cell? ⟨w.heap.size, 3, none⟩ = some (.slice x.locs.A x.locs.l.length x.locs.c) := (by rw [Lib.cell_of_heap k7]; rfl); have p7_4 : w7.cell? ⟨w.heap.size, 4, none⟩ = some (.slice x.qs.A x.qs.l.length x.qs.c) := (by rw [Lib.cell_of_heap k7]; rfl); have p7_5 : w7.cell? ⟨w.heap.size, 5, none⟩ = some (.slice x.au.A x.au.l.length x.au.c) := (by rw [Lib.cell_of_heap k7]; rfl); have p7_6 : w7.cell? ⟨w.heap.size, 6, none⟩ = some (.slice x.asm.A x.asm.l.length x.asm.c) := (by rw [Lib.cell_of_heap k7]; rfl); have p7_7 : w7.cell? ⟨w.heap.size, 7, none⟩ = some (.slice x.ens.A x.ens.l.length x.ens.c) := (by rw [Lib.cell_of_heap k7]; rfl); have hv7 : Below w0.heap.size w0 w7 := hv6.trans hb7)
    | (go_at_call 55; (with_reducible refine (KBD.out _ hv7 hw7).mono ?_); rintro e' w8 ⟨rfl, hw8, hb8, ho8⟩; have k8 := ho8 _ _ _ _ k7 hne (by decide); have p8_3 : w8.cell? ⟨w.heap.size, 3, none⟩ = some (.slice x.locs.A x.locs.l.length x.locs.c) := (by rw [Lib.cell_of_heap k8]; rfl); have p8_4 : w8.cell? ⟨w.heap.size, 4, none⟩ = some (.slice x.qs.A x.qs.l.length x.qs.c) := (by rw [Lib.cell_of_heap k8]; rfl); have p8_5 : w8.cell? ⟨w.heap.size, 5, none⟩ = some (.slice x.au.A x.au.l.length x.au.c) := (by rw [Lib.cell_of_heap k8]; rfl); have p8_6 : w8.cell? ⟨w.heap.size, 6, none⟩ = some (.slice x.asm.A x.asm.l.length x.asm.c) := (by rw [Lib.cell_of_heap k8]; rfl); have p8_7 : w8.cell? ⟨w.heap.size, 7, none⟩ = some (.slice x.ens.A x.ens.l.length x.ens.c) := (by rw [Lib.cell_of_heap k8]; rfl); have hv8 : Below w0.heap.size w0 w8 := hv7.trans hb8)
    | (go_at_call 50; (with_reducible refine (KTL.out _ hv8 hw8).mono ?_); rintro e' w9 ⟨rfl, hw9, hb9, ho9⟩; have k9 := ho9 _ _ _ _ k8 hne (by decide); have p9_3 : w9.cell? ⟨w.heap.size, 3, none⟩ = some (.slice x.locs.A x.locs.l.length x.locs.c) := (by rw [Lib.cell_of_heap k9]; rfl); have p9_4 : w9.cell? ⟨w.heap.size, 4, none⟩ = some (.slice x.qs.A x.qs.l.length x.qs.c) := (by rw [Lib.cell_of_heap k9]; rfl); have p9_5 : w9.cell? ⟨w.heap.size, 5, none⟩ = some (.slice x.au.A x.au.l.length x.au.c) := (by rw [Lib.cell_of_heap k9]; rfl); have p9_6 : w9.cell? ⟨w.heap.size, 6, none⟩ = some (.slice x.asm.A x.asm.l.length x.asm.c) := (by rw [Lib.cell_of_heap k9]; rfl); have p9_7 : w9.cell? ⟨w.heap.size, 7, none⟩ = some (.slice x.ens.A x.ens.l.length x.ens.c) := (by rw [Lib.cell_of_heap k9]; rfl); have hv9 : Below w0.heap.size w0 w9 := hv8.trans hb9))
  go_end0
  exact ⟨rfl, hw9, hb3w.trans (hb4.trans (hb5.trans (hb6.trans (hb7.trans (hb8.trans hb9))))), ho3w.trans (ho4.trans (ho5.trans (ho6.trans (ho7.trans (ho8.trans ho9)))))⟩
end Go.Proofs.YtoimjcfdiljkjaaGreatDoor
/- Decimal, Text of the reference's values. -/
namespace Go.Proofs.YtoimjcfdiljkjaaGreatDoor.va
set_option linter.unusedVariables false
set_option linter.unusedSimpArgs false
open Go.RowKit
theorem dig_wrap (d : Nat) (h : d < 10) : IntKind.u8.wrap (48 + (d : Int)) = ((UInt8.ofNat (48 + d)).toNat : Int) := by
  have e : (UInt8.ofNat (48 + d)).toNat = 48 + d := by
    rw [UInt8.toNat_ofNat']
    omega
  rw [e]
  simp only [IntKind.wrap, IntKind.signed, IntKind.bits]
  simp
  omega
theorem conv_one (W : World) (b : UInt8) : (convert 67 9 (.slice (some ⟨W.heap.size, 0, none⟩) 1 1)).run Tryz.prog (W.alloc (.cells #[.int .u8 (b.toNat : Int)] 5)) = .ok (.string ⟨#[b]⟩) (W.alloc (.cells #[.int .u8 (b.toNat : Int)] 5)) := by
  have k := run_convert_bytes_back (P := Tryz.prog) (W.alloc (.cells #[.int .u8 (b.toNat : Int)] 5)) 67 9 5 ⟨W.heap.size, 0, none⟩ 1 [b] Tryz.underlying67 Tryz.underlying5 Tryz.underlying9
    (fun j hj => by
      rw [add_off, cell_of_row _ _ j _ _ (0, 0) (heap_alloc_new W _)]
      obtain rfl : j = 0 := by simpa using hj
      rfl)
  exact k
theorem dec_small (u : Nat) (h : u < 10) (w : World) : Calls Tryz.prog 145 #[.int .i64 u] w (Bel (.string ⟨(Lib.decDigits u).toArray⟩) w) := by
  have hw := dig_wrap u h
  have kc := fun W => conv_one W (UInt8.ofNat (48 + u))
  rw [Go.Lib.decDigits_one h]
  generalize UInt8.ofNat (48 + u) = b at *
  go_enter Tryz.func145, Tryz.ntmps145
  go_wp2
  go_ret
  exact ⟨rfl, (by repeat (first | (with_reducible exact Below.refl _ _) | (with_reducible assumption) | (with_reducible exact bel_box _) | (with_reducible refine bel_step ?_ (by with_reducible assumption)) | (with_reducible refine Below.drew ?_) | (with_reducible refine below_drewN ?_ _) | (with_reducible refine bel_alloc ?_ _)))⟩
theorem nDig_le (u : Nat) (h : u ≤ 100000) : Lib.nDigits u ≤ 6 := by
  rcases Nat.lt_or_ge u 10 with h1 | h1
  · rw [Go.Lib.nDigits_small h1]; omega
  rw [Go.Lib.nDigits_big (by omega)]
  rcases Nat.lt_or_ge (u / 10) 10 with h2 | h2
  · rw [Go.Lib.nDigits_small h2]; omega
  rw [Go.Lib.nDigits_big (by omega)]
  rcases Nat.lt_or_ge (u / 10 / 10) 10 with h3 | h3
  · rw [Go.Lib.nDigits_small h3]; omega
  rw [Go.Lib.nDigits_big (by omega)]
  rcases Nat.lt_or_ge (u / 10 / 10 / 10) 10 with h4 | h4
  · rw [Go.Lib.nDigits_small h4]; omega
  rw [Go.Lib.nDigits_big (by omega)]
  rcases Nat.lt_or_ge (u / 10 / 10 / 10 / 10) 10 with h5 | h5
  · rw [Go.Lib.nDigits_small h5]; omega
  rw [Go.Lib.nDigits_big (by omega), Go.Lib.nDigits_small (by omega)]
  omega
theorem dec_size (u : Nat) (h : u ≤ 100000) : (ByteArray.mk (Lib.decDigits u).toArray).size ≤ 6 := by
  rw [ByteArray.size, List.size_toArray, Go.Lib.decDigits_length]
  exact nDig_le u h
theorem conv_at (b : UInt8) (W : World) (g : Nat) (h : W.cell? ⟨g, 0, none⟩ = some (.int .u8 (b.toNat : Int))) : (convert 67 9 (.slice (some ⟨g, 0, none⟩) 1 1)).run Tryz.prog W = .ok (.string ⟨#[b]⟩) W :=
  run_convert_bytes_back (P := Tryz.prog) W 67 9 5 ⟨g, 0, none⟩ 1 [b] Tryz.underlying67 Tryz.underlying5 Tryz.underlying9 (fun j hj => by
    obtain rfl : j = 0 := by simpa using hj
    rw [add_off]
    exact h)
theorem cell_new1 {w W' : World} {v : Value} {t : TypeId} (hb : Below ((w.alloc (.cells #[v] t)).drew).heap.size ((w.alloc (.cells #[v] t)).drew) W') : W'.cell? ⟨w.heap.size, 0, none⟩ = some v := by
  refine (hb.cell (p := ⟨w.heap.size, 0, none⟩) (by simp)).trans ?_
  exact cell_of_row (w.alloc (.cells #[v] t)) w.heap.size 0 #[v] t (0, 0) (heap_alloc_new w _)
theorem dec_step (q r : Nat) (hr : r < 10) (hq : 1 ≤ q) (hu : q ≤ 10000) (w : World) (ih : ∀ w, Calls Tryz.prog 145 #[.int .i64 (q : Int)] w (Bel (.string ⟨(Lib.decDigits q).toArray⟩) w)) :
    Calls Tryz.prog 145 #[.int .i64 ((10 * q + r : Nat) : Int)] w (Bel (.string ⟨(Lib.decDigits (10 * q + r)).toArray⟩) w) := by
  have hw := dig_wrap r hr
  have hd : Lib.decDigits (10 * q + r) = Lib.decDigits q ++ [UInt8.ofNat (48 + r)] := by
    rw [Lib.decDigits, dif_neg (by omega), show (10 * q + r) / 10 = q by omega, show (10 * q + r) % 10 = r by omega]
  have kc := fun W g => conv_at (UInt8.ofNat (48 + r)) W g
  generalize UInt8.ofNat (48 + r) = b at *
  have hsz : (ByteArray.mk (Lib.decDigits q).toArray).size + (ByteArray.mk #[b]).size ≤ 9223372036854775807 := by
    have := dec_size q (by omega)
    have e : (ByteArray.mk #[b]).size = 1 := rfl
    omega
  have ka := fun w => run_string_add_sum (P := Tryz.prog) w _ _ hsz
  rw [hd]
  have hcat : (ByteArray.mk (Lib.decDigits q).toArray) ++ (ByteArray.mk #[b]) = ⟨(Lib.decDigits q ++ [b]).toArray⟩ := by
    apply ByteArray.ext
    simp
  rw [hcat] at ka
  generalize Lib.decDigits q ++ [b] = l2 at *
  generalize Lib.decDigits q = l1 at *
  have KI := Lib.hid ih
  clear hsz ih hd hcat
  obtain ⟨u, hu2⟩ : ∃ u : Int, u = ((10 * q + r : Nat) : Int) := ⟨_, rfl⟩
  rw [← hu2]
  have f1 : u.tdiv 10 = (q : Int) := by rw [Int.tdiv_eq_ediv_of_nonneg (by omega)]; omega
  have f2 : u.tmod 10 = (r : Int) := by rw [Int.tmod_eq_emod_of_nonneg (by omega)]; omega
  have f3 : IntKind.i64.wrap (q : Int) = (q : Int) := Go.IntWalk.i64_in _ ⟨by omega, by omega⟩
  have f4 : IntKind.i64.wrap (48 + (r : Int)) = 48 + (r : Int) := Go.IntWalk.i64_in _ ⟨by omega, by omega⟩
  have g1 : 10 ≤ u := by omega
  have g2 : u ≤ 100010 := by omega
  clear hu2 hr hq hu
  go_enter Tryz.func145, Tryz.ntmps145
  go_wp2
  go_region_with (go_at_call 145; (with_reducible refine (KI.out _).mono ?_); rintro e w1 ⟨rfl, hb1⟩; (first | (with_reducible have hx := cell_new1 hb1) | skip))
  all_goals go_wp2
  all_goals go_ret
  all_goals exact ⟨rfl, (by repeat (first | (with_reducible exact Below.refl _ _) | (with_reducible assumption) | (with_reducible exact bel_box _) | (with_reducible refine bel_step ?_ (by with_reducible assumption)) | (with_reducible refine Below.drew ?_) | (with_reducible refine below_drewN ?_ _) | (with_reducible refine bel_alloc ?_ _)))⟩
theorem dec_nat (u : Nat) (hu : u ≤ 100000) : ∀ w, Calls Tryz.prog 145 #[.int .i64 (u : Int)] w (Bel (.string ⟨(Lib.decDigits u).toArray⟩) w) := by
  induction u using Nat.strongRecOn with
  | _ u ih =>
    intro w
    by_cases h : u < 10
    · exact dec_small u h w
    · have k := dec_step (u / 10) (u % 10) (by omega) (by omega) (by omega) w (ih (u / 10) (by omega) (by omega))
      rw [show 10 * (u / 10) + u % 10 = u by omega] at k
      exact k
theorem decimal_any (n : Int) (w : World) (h0 : -32768 ≤ n) (h1 : n ≤ 32767) : Calls Tryz.prog 145 #[.int .i64 n] w (Bel (.string ⟨(Lib.itoa n).toArray⟩) w) := by
  by_cases hn : n < 0
  · obtain ⟨u, hun⟩ : ∃ u : Nat, (u : Int) = -n := ⟨n.natAbs, by omega⟩
    have e : Lib.itoa n = 45 :: Lib.decDigits u := by rw [Lib.itoa, if_pos hn, show n.natAbs = u by omega]
    have hsz : (ByteArray.mk #[45]).size + (ByteArray.mk (Lib.decDigits u).toArray).size ≤ 9223372036854775807 := by
      have := dec_size u (by omega)
      have e : (ByteArray.mk #[45]).size = 1 := rfl
      omega
    have ka := fun w => run_string_add_sum (P := Tryz.prog) w _ _ hsz
    have hcat : (ByteArray.mk #[45]) ++ (ByteArray.mk (Lib.decDigits u).toArray) = ⟨(45 :: Lib.decDigits u).toArray⟩ := by
      apply ByteArray.ext
      simp
    rw [hcat] at ka
    rw [e]
    have kd := dec_nat u (by omega)
    rw [hun] at kd
    have KD := Lib.hid kd
    generalize Lib.decDigits u = l1 at *
    clear hsz hcat e hun kd
    go_enter Tryz.func145, Tryz.ntmps145
    go_wp2_with (go_at_call 145; (with_reducible refine (KD.out _).mono ?_); rintro e w1 ⟨rfl, hb1⟩)
    go_ret
    exact ⟨rfl, (by repeat (first | (with_reducible exact Below.refl _ _) | (with_reducible assumption) | (with_reducible exact bel_box _) | (with_reducible refine bel_step ?_ (by with_reducible assumption)) | (with_reducible refine Below.drew ?_) | (with_reducible refine below_drewN ?_ _) | (with_reducible refine bel_alloc ?_ _)))⟩
  · obtain ⟨u, rfl⟩ : ∃ u : Nat, n = (u : Int) := ⟨n.toNat, by omega⟩
    rw [Lib.itoa, if_neg hn, Int.toNat_natCast]
    exact dec_nat u (by omega) w
set_option maxHeartbeats 1000000 in
theorem rtext_any (A : Option Addr) (c : Nat) (es : List En) (t v : Int) (w : World) (hA : RdE w w.heap.size A es) (hl : es.length ≤ 9223372036854775807) (hti : t ≤ 9223372036854775807) :
    Calls Tryz.prog 114 #[.slice A es.length c, .int .i64 t, .int .i64 v] w (Bel (.tuple #[.string (textS es t v), .int .i64 (textE es t v)]) w) := by
  have KV := Lib.hid (fun w => known_any A c es t w hl hti)
  have KH := Lib.hid (rhas_any A c es t v w hA hl hti)
  have HA := Lib.hid hA
  clear hA
  by_cases hv : valB es t = true
  · by_cases hh : hasB es t v = true
    · have he : textE es t v = 0 := by rw [textE, if_pos hv, if_pos hh]
      by_cases h2 : t = 2
      · subst h2
        obtain ⟨v1, v2⟩ := hasB_16 hh
        have hx : textS es 2 v = ⟨(Lib.itoa v).toArray⟩ := by rw [textS, if_pos he, if_pos rfl]
        rw [he, hx]
        rw [hv] at KV
        rw [hh] at KH
        clear he hx hv hh hti
        go_enter Tryz.func114, Tryz.ntmps114
        go_wp2_with (first
          | (go_at_call 99; refine (KV.out _).mono ?_; rintro e w1 ⟨rfl, rfl⟩)
          | (go_at_call 41; refine KH.out.mono ?_; rintro e w2 ⟨rfl, hb2⟩)
          | (go_at_call 145; refine (decimal_any _ _ v1 v2).mono ?_; rintro e w3 ⟨rfl, hb3⟩))
        go_ret2
        exact ⟨rfl, (by repeat (first | (with_reducible exact Below.refl _ _) | (with_reducible assumption) | (with_reducible exact bel_box _) | (with_reducible refine bel_step ?_ (by with_reducible assumption)) | (with_reducible refine Below.drew ?_) | (with_reducible refine below_drewN ?_ _) | (with_reducible refine bel_alloc ?_ _)))⟩
      · obtain ⟨v1, v2⟩ := hasB_bd hh h2
        obtain ⟨k, rfl⟩ : ∃ k : Nat, v = k := ⟨v.toNat, by omega⟩
        have hk : k < (tagsOf es t).length := by omega
        have e2 : (t == 2) = false := by simp [h2]
        have hx : textS es t k = (tagsOf es t).getD k ⟨#[]⟩ := by rw [textS, if_pos he, if_neg h2]; rfl
        rw [he]
        rw [hv] at KV
        rw [hh] at KH
        by_cases h1 : t = 1
        · subst h1
          have hk2 : k = 0 ∨ k = 1 := by simp [tagsOf] at hk; omega
          rcases hk2 with rfl | rfl
          all_goals
            have HX := Lib.hid hx
            clear he hx hv hh h2 v1 v2 hk hti
            go_enter Tryz.func114, Tryz.ntmps114
            go_wp2_with (first
              | (go_at_call 99; refine (KV.out _).mono ?_; rintro e w1 ⟨rfl, rfl⟩)
              | (go_at_call 41; refine KH.out.mono ?_; rintro e w2 ⟨rfl, hb2⟩))
            go_ret2
            exact ⟨by rw [HX.out]; rfl, (by repeat (first | (with_reducible exact Below.refl _ _) | (with_reducible assumption) | (with_reducible exact bel_box _) | (with_reducible refine bel_step ?_ (by with_reducible assumption)) | (with_reducible refine Below.drew ?_) | (with_reducible refine below_drewN ?_ _) | (with_reducible refine bel_alloc ?_ _)))⟩
        · have e1 : (t == 1) = false := by simp [h1]
          have h3 : enuB es t = true := by simpa [valB, e1, e2] using hv
          obtain ⟨q, rfl⟩ : ∃ q : Nat, t = q + 3 := ⟨(t - 3).toNat, by simp [enuB] at h3; omega⟩
          have hq : q < es.length := by simp [enuB] at h3; omega
          have hen : es[q]? = some es[q] := List.getElem?_eq_getElem hq
          rw [tagsOf_enu hen] at hk hx
          have HX := Lib.hid hx
          have hkt : k < es[q].tags.length := hk
          generalize hee : es[q] = ee at *
          clear he hx hv hh h2 v1 v2 h1 h3 hti hk hee
          go_enter Tryz.func114, Tryz.ntmps114
          go_wp2_with (first
            | (go_at_call 99; refine (KV.out _).mono ?_; rintro e w1 ⟨rfl, rfl⟩)
            | (go_at_call 41; refine KH.out.mono ?_; rintro e w2 ⟨rfl, hb2⟩; obtain ⟨ad, e3, rfl, _, he3, hn3, ht3, hr3⟩ := (HA.out.to hb2).at_ hq; obtain rfl : ee = e3 := Option.some.inj (hen.symm.trans he3); obtain ⟨ad2, b, hA2, _, hgb, hcb⟩ := hr3.str_at hkt; rw [hA2] at ht3))
          go_ret2
          exact ⟨by rw [HX.out, List.getD, hgb]; rfl, (by repeat (first | (with_reducible exact Below.refl _ _) | (with_reducible assumption) | (with_reducible exact bel_box _) | (with_reducible refine bel_step ?_ (by with_reducible assumption)) | (with_reducible refine Below.drew ?_) | (with_reducible refine below_drewN ?_ _) | (with_reducible refine bel_alloc ?_ _)))⟩
    · rw [Bool.not_eq_true] at hh
      have he : textE es t v = 14 := by rw [textE, if_pos hv, hh]; rfl
      have hx : textS es t v = ⟨#[]⟩ := by rw [textS, he, if_neg (by omega)]
      rw [he, hx]
      rw [hv] at KV
      rw [hh] at KH
      clear he hx hv hh hti
      go_enter Tryz.func114, Tryz.ntmps114
      go_wp2_with (first
        | (go_at_call 99; refine (KV.out _).mono ?_; rintro e w1 ⟨rfl, rfl⟩)
        | (go_at_call 41; refine KH.out.mono ?_; rintro e w2 ⟨rfl, hb2⟩))
      go_ret2
      exact ⟨rfl, (by repeat (first | (with_reducible exact Below.refl _ _) | (with_reducible assumption) | (with_reducible exact bel_box _) | (with_reducible refine bel_step ?_ (by with_reducible assumption)) | (with_reducible refine Below.drew ?_) | (with_reducible refine below_drewN ?_ _) | (with_reducible refine bel_alloc ?_ _)))⟩
  · rw [Bool.not_eq_true] at hv
    have he : textE es t v = 10 := by rw [textE, hv]; rfl
    have hx : textS es t v = ⟨#[]⟩ := by rw [textS, he, if_neg (by omega)]
    rw [he, hx]
    rw [hv] at KV
    clear he hx hv hti
    go_enter Tryz.func114, Tryz.ntmps114
    go_wp2_with (first
      | (go_at_call 99; refine (KV.out _).mono ?_; rintro e w1 ⟨rfl, rfl⟩))
    go_ret2
    exact ⟨rfl, Below.refl _ _⟩
end Go.Proofs.YtoimjcfdiljkjaaGreatDoor.va
