/- Join of the program. -/
import Derived.Test.YtbnddbhfnpdjeaaDoorMd
import Derived.Test.YtbnddbhfnpdjeaaDoorShelf2
import Derived.Deep.OwnRows
import Derived.Laws.OwnMore
namespace Go.Proofs.YtbnddbhfnpdjeaaDoor
set_option linter.unusedVariables false
set_option linter.unusedSimpArgs false
open Go.RowKit
/-- the bytes of tokens, as they are joined -/
def jl (l : List Tk) : List UInt8 := Lib.join (l.map jb) [32]
theorem jl_snoc (l : List Tk) (t : Tk) : jl (l ++ [t]) = (if 0 < l.length then jl l ++ [32] else jl l) ++ jb t := by
  unfold jl
  rcases l with _ | ⟨a, l⟩
  · rw [List.nil_append, List.map_cons, List.map_nil, Lib.join_one, Lib.join_nil, if_neg (by simp)]
    rfl
  · rw [List.cons_append, List.map_cons, List.map_cons, Lib.join_cons, Lib.join_cons, List.map_append, if_pos (by simp)]
    simp [Lib.joinTail]
theorem jn_jl (l : List Tk) (k : Nat) (hk : k ≤ l.length) : (jn l k).data.toList = jl (l.take k) := by
  induction k with
  | zero => rfl
  | succ k ih =>
    have hx : l[k]? = some l[k] := List.getElem?_eq_getElem (by omega)
    rw [take_succ_of hx, jl_snoc, ← ih (by omega), List.length_take, jn, hx, Nat.min_eq_left (by omega)]
    simp only
    rw [ByteArray.data_append, Array.toList_append]
    by_cases h0 : 0 < k
    · rw [if_pos h0, if_pos h0, ByteArray.data_append, Array.toList_append]
      rfl
    · rw [if_neg h0, if_neg h0]
      rfl
theorem jn_all (l : List Tk) : (jn l l.length).data.toList = jl l := by rw [jn_jl l l.length (Nat.le_refl _), List.take_length]
theorem strInfo : (Tryd.prog.info? 9).map (fun i => (i.zero, i.size, i.bytes)) = some (some (.string ⟨#[]⟩), 1, 16) := by kernel_rfl
/-- the row of texts, at round i -/
def TX (B : Nat) (l : List Tk) (W : World) (i : Nat) : Prop := B < W.heap.size ∧ ∀ j, j < l.length → W.cell? ⟨B, j, none⟩ = some (.string (if j < i then (match l[j]? with | some t => jt t | none => ⟨#[]⟩) else ⟨#[]⟩)) ∧ W.frozen? ⟨B, j, none⟩ = false
theorem TX.start (w : World) (l : List Tk) (e : TypeId) : TX w.heap.size l (w.alloc (.cells (madeCells #[.string ⟨#[]⟩] l.length) e)) 0 := by
  refine ⟨by simp, fun j hj => ⟨?_, ?_⟩⟩
  · rw [cell_of_row _ _ j _ e (0, 0) (heap_alloc_new w _), if_neg (by omega), ← Array.getElem?_toList, toList_madeCells_one, List.getElem?_replicate, if_pos hj]
  · exact frozen_of_row _ _ j _ e (heap_alloc_new w _)
theorem TX.below {B : Nat} {l : List Tk} {W W' : World} {i : Nat} (h : TX B l W i) (hb : Below W.heap.size W W') : TX B l W' i :=
  ⟨Nat.lt_of_lt_of_le h.1 hb.size, fun j hj => ⟨(hb.cell (p := ⟨B, j, none⟩) h.1).trans (h.2 j hj).1, (hb.frozen (p := ⟨B, j, none⟩) h.1).trans (h.2 j hj).2⟩⟩
theorem TX.next {B : Nat} {l : List Tk} {W : World} {i : Nat} {t : Tk} (h : TX B l W i) (hi : l[i]? = some t) {u : ByteArray} (hu : u = jt t) : TX B l (W.setCell ⟨B, i, none⟩ (.string u)) (i + 1) := by
  subst hu
  refine ⟨by simpa [World.setCell] using h.1, fun j hj => ⟨?_, ?_⟩⟩
  · by_cases e : j = i
    · subst e
      rw [if_pos (by omega), hi]
      exact World.cell?_setCell_same _ _ _ (h.2 j hj).1
    · rw [World.cell?_setCell_other _ _ _ _ (by simp [e]), (h.2 j hj).1]
      by_cases h2 : j < i
      · rw [if_pos h2, if_pos (by omega)]
      · rw [if_neg h2, if_neg (by omega)]
  · rw [← (h.2 j hj).2]
    simp [go_sem]
theorem TX.over {B : Nat} {l : List Tk} {W : World} {i : Nat} (h : TX B l W i) (u : ByteArray) {t : Tk} (hi : l[i]? = some t) {v : ByteArray} (hv : v = jt t) : TX B l ((W.setCell ⟨B, i, none⟩ (.string u)).setCell ⟨B, i, none⟩ (.string v)) (i + 1) := by
  subst hv
  have hil : i < l.length := (List.getElem?_eq_some_iff.1 hi).1
  have h1 : (W.setCell ⟨B, i, none⟩ (.string u)).cell? ⟨B, i, none⟩ = some (.string u) := World.cell?_setCell_same _ _ _ (h.2 i hil).1
  refine ⟨by simpa [World.setCell] using h.1, fun j hj => ⟨?_, ?_⟩⟩
  · by_cases e : j = i
    · subst e
      rw [if_pos (by omega), hi]
      exact World.cell?_setCell_same _ _ _ h1
    · rw [World.cell?_setCell_other _ _ _ _ (by simp [e]), World.cell?_setCell_other _ _ _ _ (by simp [e]), (h.2 j hj).1]
      by_cases h2 : j < i
      · rw [if_pos h2, if_pos (by omega)]
      · rw [if_neg h2, if_neg (by omega)]
  · rw [← (h.2 j hj).2]
    simp [go_sem]
set_option maxHeartbeats 2000000 in
set_option maxRecDepth 20000 in
theorem join_any (A : Option Addr) (c : Nat) (l : List Tk) (w : World) (hA : RdT w w.heap.size A l) (hl : l.length ≤ 65536) (ht : ∀ t ∈ l, t.2.1.size ≤ 65536) :
    Calls Tryd.prog 13 #[.slice A l.length c] w (Bel (.string (jn l l.length)) w) := by
  have HA := Lib.hid hA
  have HT := Lib.hid ht
  have hsz := jn_size l ht l.length
  have hjl := jn_all l
  have KJ : Hid (∀ W, TX w.heap.size l W l.length → Calls Tryd.prog 23 #[.slice (some ⟨w.heap.size, 0, none⟩) l.length l.length, .string ⟨#[32]⟩] W (Bel (.string (jn l l.length)) W)) := Lib.hid fun W hT => by
    have hm : (l.map jt).map (fun b : ByteArray => b.data.toList) = l.map jb := by rw [List.map_map]; rfl
    have := Tryd.strings_Join w.heap.size 0 l.length (l.map jt) ⟨#[32]⟩ W (fun j x hx => by
      have hj : j < l.length := by have := (List.getElem?_eq_some_iff.1 hx).1; simpa using this
      rw [Nat.zero_add, (hT.2 j hj).1, if_pos hj]
      rw [List.getElem?_map] at hx
      obtain ⟨t, h1, h2⟩ := Option.map_eq_some_iff.1 hx
      rw [h1, ← h2]) hT.1 (by simp; omega) (by simp) (by
        rw [hm]
        show (jl l).length ≤ _
        rw [← hjl, len_toList]
        have : l.length * 65540 ≤ 65536 * 65540 := Nat.mul_le_mul_right _ hl
        omega)
    rw [hm, List.length_map] at this
    refine this.mono fun e w' h => ⟨?_, h.2⟩
    rw [h.1]
    congr 2
    apply ba_ext
    rw [hjl]
    rfl
  have hmk := run_make_row' (P := Tryd.prog) 39 9 (.string ⟨#[]⟩) 16 Tryd.underlying39 strInfo rfl .i64 .i64 l.length (by omega) (by omega)
  clear hA ht hjl
  obtain ⟨z, hz⟩ : ∃ z, jn l l.length = z := ⟨_, rfl⟩
  rw [hz] at KJ ⊢
  clear hz hsz
  go_enter Tryd.func13, Tryd.ntmps13
  go_wp2
  go_loopw [11] (fun i wr => ∃ k : Nat, k ≤ l.length ∧ i = .int .i64 (k : Int) ∧ TX w.heap.size l wr k ∧ Below w.heap.size w wr) (fun i _ => l.length - (intOf i).toNat)
  case atStart => exact ⟨0, by omega, rfl, TX.start _ _ _, (by repeat (first | (with_reducible exact Below.refl _ _) | (with_reducible assumption) | (with_reducible exact bel_box _) | (with_reducible refine bel_step ?_ (by with_reducible assumption)) | (with_reducible refine Below.drew ?_) | (with_reducible refine below_drewN ?_ _) | (with_reducible refine bel_alloc ?_ _)))⟩
  case round =>
    obtain ⟨k, hk, rfl, hT, hbl⟩ := hrel
    by_cases hlt : k < l.length
    · obtain ⟨ad, t, rfl, had, htk, c1, c2, c3⟩ := (HA.out.to hbl).at_ hlt
      have hts := HT.out t (List.mem_of_getElem? htk)
      have e1 : wr.cell? ⟨w.heap.size, k, none⟩ = some (.string ⟨#[]⟩) := by have := (hT.2 k hlt).1; rwa [if_neg (by omega)] at this
      have e2 := (hT.2 k hlt).2
      have e3 := hT.1
      have ka2 := fun w => run_string_add_sum (P := Tryd.prog) w ⟨#[39]⟩ t.2.1 (by rw [one_size]; omega)
      have ka3 := fun w => run_string_add_sum (P := Tryd.prog) w (⟨#[39]⟩ ++ t.2.1) ⟨#[39]⟩ (by simp only [ByteArray.size_append, one_size]; omega)
      have HTK := Lib.hid htk
      have HTX := Lib.hid hT
      clear htk hT hts
      by_cases h5 : t.1 = 5
      · have q : (t.1 == 5) = true := by simp [h5]
        go_wp2
        refine ⟨⟨k + 1, by omega, by congr 1, (HTX.out.over _ HTK.out (by rw [jt, if_pos h5])).below (bel_box _), bel_alloc ((hbl.setCell (p := ⟨w.heap.size, k, none⟩) (Nat.le_refl _) _).setCell (p := ⟨w.heap.size, k, none⟩) (Nat.le_refl _) _) _⟩, by simp [intOf]; omega⟩
      · have q : (t.1 == 5) = false := by simp [h5]
        go_wp2
        refine ⟨⟨k + 1, by omega, by congr 1, (HTX.out.next HTK.out (by rw [jt, if_neg h5])).below (bel_box _), bel_alloc (hbl.setCell (p := ⟨w.heap.size, k, none⟩) (Nat.le_refl _) _) _⟩, by simp [intOf]; omega⟩
    · obtain rfl : k = l.length := by omega
      go_wp2_with (go_at_call 23; (with_reducible refine (KJ.out _ ?_).mono ?_); (focus (exact hT; done)); rintro e w1 ⟨rfl, hb1⟩)
      go_ret
      exact ⟨rfl, (by repeat (first | (with_reducible exact Below.refl _ _) | (with_reducible assumption) | (with_reducible exact bel_box _) | (with_reducible refine bel_step ?_ (by with_reducible assumption)) | (with_reducible refine Below.drew ?_) | (with_reducible refine below_drewN ?_ _) | (with_reducible refine bel_alloc ?_ _)))⟩
end Go.Proofs.YtbnddbhfnpdjeaaDoor
