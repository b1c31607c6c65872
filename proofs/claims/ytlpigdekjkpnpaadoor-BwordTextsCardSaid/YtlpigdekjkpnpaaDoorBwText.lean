/- digits and Text of package bword. -/
import Derived.Test.YtlpigdekjkpnpaaDoorBwOn
import Derived.Test.YtlpigdekjkpnpaaDoorBwWord
import Derived.Laws.IdiomStrings
import Derived.Laws.Concat
namespace Go.Proofs.YtlpigdekjkpnpaaDoor
set_option linter.unusedVariables false
set_option linter.unusedSimpArgs false
open Go.RowKit
theorem Tryd.byteInfo : (Tryd.prog.info? 5).map (fun i => (i.zero, i.size, i.bytes)) = some (some (.int .u8 0), 1, 1) := by kernel_rfl
def dig (b : Bool) : UInt8 := if b then 49 else 48
def digs (l : List Bool) : List UInt8 := l.map dig
def dgs (l : List Bool) : ByteArray := ⟨(digs l).toArray⟩
theorem digs_length (l : List Bool) : (digs l).length = l.length := by simp [digs]
theorem dgs_size (l : List Bool) : (dgs l).size = l.length := by rw [dgs, ByteArray.size, List.size_toArray, digs_length]
def dgV (l : List Bool) (k i : Nat) : Int := if i < k then ((dig (gb l i)).toNat : Int) else 0
def dgC (l : List Bool) (k : Nat) : List Value := (List.range l.length).map fun i => Value.int .u8 (dgV l k i)
theorem dgC_zero (l : List Bool) : (madeCells (Value.int .u8 0).cells (l.length * 1)).toList = dgC l 0 := by
  simp [dgC, dgV, madeCells, Value.cells, Nat.mod_one]
theorem dgC_set (l : List Bool) (k : Nat) (hk : k < l.length) (b : Bool) (hb : gb l k = b) : (dgC l k).set k (.int .u8 (if b then 49 else 48)) = dgC l (k + 1) := by
  apply List.ext_getElem
  · simp [dgC]
  · intro i h1 h2
    have hi : i < l.length := by simpa [dgC] using h2
    rw [List.getElem_set]
    by_cases e : k = i
    · subst e
      cases b <;> simp [dgC, dgV, hb, dig]
    · have ht : (i < k) = (i < k + 1) := by rw [eq_iff_iff]; omega
      simp [dgC, dgV, e, ht]
theorem dgC_get (l : List Bool) (k j : Nat) (hj : j < l.length) : (dgC l k)[j]? = some (.int .u8 (dgV l k j)) := by simp [dgC, hj]
theorem dgC_all (l : List Bool) (j : Nat) (hj : j < (digs l).length) : (dgC l l.length)[j]? = some (.int .u8 (((digs l)[j]).toNat : Int)) := by
  rw [digs_length] at hj
  rw [dgC_get _ _ _ hj, dgV, if_pos hj]
  simp [digs, gb, hj]
set_option maxHeartbeats 1000000 in
theorem digits_any (A : Option Addr) (c : Nat) (l : List Bool) (w : World) (hA : Rd w w.heap.size A (bls l)) (hl : l.length ≤ 65536) :
    Calls Tryd.prog 18 #[.slice A l.length c] w (Bel (.string (dgs l)) w) := by
  obtain ⟨i0, hi, iz, is, ib⟩ := info_parts Tryd.byteInfo
  have HA := Lib.hid hA
  clear hA
  go_enter Tryd.func18, Tryd.ntmps18
  go_wp2_with (at_make; refine wpList_make_full _ rfl _ _ 50 rfl w.heap.size 5 i0 (.int .u8 0) 1 Tryd.underlying50 hi iz is _ _ _ _ l.length rfl rfl rfl rfl (by rw [ib]; omega) (by unfold maxLen; omega) (Nat.le_refl _) ?_; intro w2 hown2 hgrow2)
  have hb2 : Below w.heap.size w w2 := (Below.refl _ _).grown hgrow2 (Nat.le_refl _) (fun k hk => by cases hk)
  rw [dgC_zero] at hown2
  have HO2 := Lib.hid hown2
  clear hown2 hgrow2
  go_loopw [4, 10] (fun u i wr => ∃ k : Nat, k ≤ l.length ∧ i = .int .i64 k ∧ wr.ownsRow w.heap.size 5 1 (.slice (some ⟨w.heap.size, 0, none⟩) l.length l.length) l.length (dgC l k) ∧ Below w.heap.size w wr) (fun _ i _ => l.length - (intOf i).toNat)
  case atStart => exact ⟨0, by omega, rfl, HO2.out, hb2⟩
  case round =>
    obtain ⟨k, hk, rfl, hown, hbl⟩ := hrel
    by_cases hlt : k < l.length
    · obtain ⟨ad, b, rfl, had, hx, hc0⟩ := HA.out.bool_at hlt
      have hc : wr.cell? (ad.add k) = some (.bool b) := (hbl.cell (p := ad.add k) (by rw [add_block]; exact had)).trans hc0
      have hset := dgC_set l k hlt b (gb_of hx)
      clear hx hc0
      have hc3 := (hown.cellAt k (by omega)).trans (dgC_get _ _ k hlt)
      have hf3 := hown.frozenAt k
      have hst := (hown.stored k (.int .u8 48)).1
      have hld : (wr.setCell ⟨w.heap.size, k, none⟩ (.int .u8 48)).cell? (ad.add k) = some (.bool b) := by
        rw [World.cell?_setCell_other _ _ _ _ (fun e2 => by have := congrArg Addr.block e2; rw [add_block] at this; simp only at this; omega)]
        exact hc
      have hb3 : Below w.heap.size w (wr.setCell ⟨w.heap.size, k, none⟩ (.int .u8 48)) := hbl.setCell (p := ⟨w.heap.size, k, none⟩) (Nat.le_refl _) _
      have HSET := Lib.hid hset
      cases b
      · rw [show (if (false : Bool) = true then (49 : Int) else 48) = 48 from rfl] at hset
        have HST := Lib.hid (hset ▸ hst)
        clear hst hset hown
        go_wp2
        go_roundw
        case rel => exact ⟨k + 1, by omega, by go_num, HST.out, hb3⟩
        case measure => simp [intOf]; omega
      · rw [show (if (true : Bool) = true then (49 : Int) else 48) = 49 from rfl] at hset
        have hst2 := (hst.stored k (.int .u8 49)).1
        rw [List.set_set, hset] at hst2
        have HST := Lib.hid hst2
        have hc4 : (wr.setCell ⟨w.heap.size, k, none⟩ (.int .u8 48)).cell? ⟨w.heap.size, k, none⟩ = some (.int .u8 48) := World.cell?_setCell_same _ _ _ hc3
        have hf4 : (wr.setCell ⟨w.heap.size, k, none⟩ (.int .u8 48)).frozen? ⟨w.heap.size, k, none⟩ = false := by simpa [go_sem] using hf3
        have hb4 := hb3.setCell (p := ⟨w.heap.size, k, none⟩) (Nat.le_refl _) (.int .u8 49)
        clear hst hset hown hst2
        go_wp2
        go_roundw
        case rel => exact ⟨k + 1, by omega, by go_num, HST.out, hb4⟩
        case measure => simp [intOf]; omega
    · obtain rfl : k = l.length := by omega
      have kc := run_convert_bytes_back (P := Tryd.prog) wr 50 9 5 ⟨w.heap.size, 0, none⟩ l.length (digs l) Tryd.underlying50 Tryd.underlying5 Tryd.underlying9
        (fun j hj => by rw [add_off]; exact (hown.cellAt j (by rw [digs_length] at hj; omega)).trans (dgC_all l j hj))
      rw [digs_length] at kc
      go_wp2
      go_ret
      exact ⟨rfl, hbl⟩
def txt (h l : List Bool) : ByteArray := if ck h l = 0 then dgs h ++ ⟨#[40]⟩ ++ dgs l ++ ⟨#[41]⟩ else ⟨#[]⟩
set_option maxHeartbeats 1000000 in
theorem text_any (A B : Option Addr) (c d : Nat) (h l : List Bool) (w : World) (hA : Rd w w.heap.size A (bls h)) (hB : Rd w w.heap.size B (bls l)) (hh : h.length ≤ 140737488355328) (hl : l.length ≤ 140737488355328) :
    Calls Tryd.prog 7 #[.agg #[.slice A h.length c, .slice B l.length d]] w (Bel (.tuple #[.string (txt h l), .int .i64 (ck h l)]) w) := by
  have HA := Lib.hid hA
  have HB := Lib.hid hB
  clear hA hB
  have chk := Lib.hid (check_any A B c d h l)
  have HBox : Hid (∀ W, Below (w.alloc (.cells #[.slice A h.length c, .slice B l.length d] 24)).heap.size (w.alloc (.cells #[.slice A h.length c, .slice B l.length d] 24)) W →
      W.cell? ⟨w.heap.size, 0, none⟩ = some (.slice A h.length c) ∧ W.cell? ⟨w.heap.size, 1, none⟩ = some (.slice B l.length d)) := by
    intro W hb
    refine ⟨(hb.cell (p := ⟨w.heap.size, 0, none⟩) (by simp)).trans ?_, (hb.cell (p := ⟨w.heap.size, 1, none⟩) (by simp)).trans ?_⟩ <;> simp [go_sem]
  by_cases h1 : ck h l = 0
  · have hk := lens h1
    have hd1 : (ck h l != 0) = false := by simp [h1]
    rw [txt, if_pos h1]
    have HK := Lib.hid h1
    clear h1
    have s1 : (dgs h).size = h.length := dgs_size h
    have s2 : (dgs l).size = l.length := dgs_size l
    have a1 : (dgs h).size + (ByteArray.mk #[40]).size ≤ 9223372036854775807 := by rw [s1]; simp only [ByteArray.size, List.size_toArray]; simp; omega
    have a2 : (dgs h ++ ⟨#[40]⟩).size + (dgs l).size ≤ 9223372036854775807 := by rw [ByteArray.size_append, s1, s2]; simp only [ByteArray.size]; simp; omega
    have a3 : (dgs h ++ ⟨#[40]⟩ ++ dgs l).size + (ByteArray.mk #[41]).size ≤ 9223372036854775807 := by rw [ByteArray.size_append, ByteArray.size_append, s1, s2]; simp only [ByteArray.size]; simp; omega
    have ka1 := fun w => run_string_add_sum (P := Tryd.prog) w _ _ a1
    have ka2 := fun w => run_string_add_sum (P := Tryd.prog) w _ _ a2
    have ka3 := fun w => run_string_add_sum (P := Tryd.prog) w _ _ a3
    clear a1 a2 a3
    have d1 := Lib.hid (digits_any A c h)
    have d2 := Lib.hid (digits_any B d l)
    go_enter Tryd.func7, Tryd.ntmps7
    go_wp2_with (go_at_call 17; refine (chk.out _ hh hl).mono ?_; rintro e w1 ⟨rfl, hb1⟩; obtain ⟨x1, x2⟩ := HBox.out w1 hb1)
    go_region_held3 (fun w' => w'.cell? ⟨w.heap.size, 0, none⟩ = some (.slice A h.length c) ∧ w'.cell? ⟨w.heap.size, 1, none⟩ = some (.slice B l.length d))
      ((refine HBox.out _ ?_; (repeat (first | (with_reducible exact Below.refl _ _) | (with_reducible assumption) | (with_reducible exact bel_box _) | (with_reducible refine bel_step ?_ (by with_reducible assumption)) | (with_reducible refine Below.drew ?_) | (with_reducible refine below_drewN ?_ _) | (with_reducible refine bel_alloc ?_ _))); done))
      (first
        | (go_at_call_of 18 (Value.slice A h.length c); refine (d1.out _ (HA.out.to ?_) (by omega)).mono ?_; (focus ((repeat (first | (with_reducible exact Below.refl _ _) | (with_reducible assumption) | (with_reducible exact bel_box _) | (with_reducible refine bel_step ?_ (by with_reducible assumption)) | (with_reducible refine Below.drew ?_) | (with_reducible refine below_drewN ?_ _) | (with_reducible refine bel_alloc ?_ _))); done)); rintro e w2 ⟨rfl, hb2⟩)
        | (go_at_call 18; refine (d2.out _ (HB.out.to ?_) (by omega)).mono ?_; (focus ((repeat (first | (with_reducible exact Below.refl _ _) | (with_reducible assumption) | (with_reducible exact bel_box _) | (with_reducible refine bel_step ?_ (by with_reducible assumption)) | (with_reducible refine Below.drew ?_) | (with_reducible refine below_drewN ?_ _) | (with_reducible refine bel_alloc ?_ _))); done)); rintro e w3 ⟨rfl, hb3⟩))
    all_goals go_wp2
    all_goals refine bodyPost_ret (v := .tuple #[.string (dgs h ++ ⟨#[40]⟩ ++ dgs l ++ ⟨#[41]⟩), .int .i64 0]) (by simp [results, Tryd.results7, go_sem]) rfl ?_
    all_goals exact ⟨by rw [HK.out], (by repeat (first | (with_reducible exact Below.refl _ _) | (with_reducible assumption) | (with_reducible exact bel_box _) | (with_reducible refine bel_step ?_ (by with_reducible assumption)) | (with_reducible refine Below.drew ?_) | (with_reducible refine below_drewN ?_ _) | (with_reducible refine bel_alloc ?_ _)))⟩
  · have hd1 := ck_bad h1
    rw [txt, if_neg h1]
    clear h1
    go_enter Tryd.func7, Tryd.ntmps7
    go_wp2_with (go_at_call 17; refine (chk.out _ hh hl).mono ?_; rintro e w1 ⟨rfl, hb1⟩)
    refine bodyPost_ret (v := .tuple #[.string ⟨#[]⟩, .int .i64 (ck h l)]) (by simp [results, Tryd.results7, go_sem]) rfl ?_
    exact ⟨rfl, (by repeat (first | (with_reducible exact Below.refl _ _) | (with_reducible assumption) | (with_reducible exact bel_box _) | (with_reducible refine bel_step ?_ (by with_reducible assumption)) | (with_reducible refine Below.drew ?_) | (with_reducible refine below_drewN ?_ _) | (with_reducible refine bel_alloc ?_ _)))⟩
end Go.Proofs.YtlpigdekjkpnpaaDoor
