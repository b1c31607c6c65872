/- Texts of one chain, in one file. -/
import Derived.Test.YtfogkcccjemloaaGreatDoorQ2
import Derived.Test.YtfogkcccjemloaaGreatDoorQ1
import Derived.ProofKit
import Derived.OpenShut
import Derived.Deep.Slices
import Derived.SizedLaws
/- Scan of the program. -/
namespace Go.Proofs.YtfogkcccjemloaaGreatDoor
set_option linter.unusedVariables false
set_option linter.unusedSimpArgs false
open Go.RowKit
abbrev Tk := Int × ByteArray × Int
def tkV (t : Tk) : List Value := [.int .i64 t.1, .string t.2.1, .int .i64 t.2.2]
def tks (l : List Tk) : List Value := l.flatMap tkV
theorem tks_length (l : List Tk) : (tks l).length = l.length * 3 := by
  induction l with
  | nil => rfl
  | cons a r ih => simp [tks, tkV] at ih ⊢; omega
theorem tks_snoc (l : List Tk) (t : Tk) : tks (l ++ [t]) = tks l ++ tkV t := by simp [tks]
theorem gapN_le (l : List UInt8) : gapN l ≤ l.length := by
  induction l using gapN.induct with
  | case1 l h ih =>
    rw [gapN_yes h]
    have := sp_length pB l
    have h2 := sp_length pN (l.drop (sp pB l))
    rw [List.length_drop] at ih h2
    omega
  | case2 l h =>
    rw [gapN_no (by rw [← Bool.not_eq_true]; exact h)]
    exact sp_length _ _
/-- Scan from a place on, with what is scanned so far: the tokens, the place of the error, the error -/
def scanG (s : ByteArray) (acc : List Tk) (k : Nat) : List Tk × Nat × Int :=
  if h : k < s.size then
    if he : (fst (s.extract k s.size)).2.2.2 = 0 then
      scanG s (acc ++ [((fst (s.extract k s.size)).1, (fst (s.extract k s.size)).2.1, (k : Int))]) (k + (fst (s.extract k s.size)).2.2.1 + gapN (s.data.toList.drop (k + (fst (s.extract k s.size)).2.2.1)))
    else ([], k, (fst (s.extract k s.size)).2.2.2)
  else (acc, 0, 0)
termination_by s.size - k
decreasing_by
  have := fst_size (s := s.extract k s.size) (by rw [drop_size]; omega) he
  omega
theorem scanG_go {s : ByteArray} {acc : List Tk} {k : Nat} (h : k < s.size) {a : Int} {tx : ByteArray} {n : Nat} (hf : fst (s.extract k s.size) = (a, tx, n, 0)) :
    scanG s acc k = scanG s (acc ++ [(a, tx, (k : Int))]) (k + n + gapN (s.data.toList.drop (k + n))) := by
  rw [scanG, dif_pos h, dif_pos (by rw [hf])]
  rw [hf]
theorem scanG_err {s : ByteArray} {acc : List Tk} {k : Nat} (h : k < s.size) {a : Int} {tx : ByteArray} {n : Nat} {e : Int} (hf : fst (s.extract k s.size) = (a, tx, n, e)) (he : e ≠ 0) :
    scanG s acc k = ([], k, e) := by
  rw [scanG, dif_pos h, dif_neg (by rw [hf]; exact he)]
  rw [hf]
theorem scanG_end {s : ByteArray} {acc : List Tk} {k : Nat} (h : ¬ k < s.size) : scanG s acc k = (acc, 0, 0) := by rw [scanG, dif_neg h]
theorem tokInfo : (Tryz.prog.info? 61).map (fun i => (i.zero, i.size, i.bytes)) = some (some (.agg #[.int .i64 0, .string ⟨#[]⟩, .int .i64 0]), 3, 32) := by kernel_rfl
/-- tokens in a slice of the call's own, a place, an error -/
def NewT (r : List Tk × Nat × Int) (w : World) (e : Ending) (w' : World) : Prop := ∃ A c, e = .returned (.tuple #[.slice A r.1.length c, .int .i64 r.2.1, .int .i64 r.2.2]) ∧ w'.ownsRow w.heap.size 61 3 (.slice A r.1.length c) r.1.length (tks r.1) ∧ Below w.heap.size w w'
theorem own_keep3 {w W : World} {base n size : Nat} {e : TypeId} {v : Value} {xs : List Value} (h : w.ownsRow base e size v n xs) (hb : Below w.heap.size w W) : W.ownsRow base e size v n xs := by
  refine ⟨h.1, h.2.imp id fun ⟨g, cap, cur, e1, h1, h2, r⟩ => ⟨g, cap, cur, e1, h1, ?_, r⟩⟩
  rw [hb.block g (Array.getElem?_eq_some_iff.1 h2).1]
  exact h2
theorem own_form3 {w : World} {base n size : Nat} {e : TypeId} {v : Value} {xs : List Value} (h : w.ownsRow base e size v n xs) : ∃ A c, v = .slice A n c := by
  rcases h.2 with ⟨rfl, rfl⟩ | ⟨g, cap, cur, rfl, _⟩
  · exact ⟨_, _, rfl⟩
  · exact ⟨_, _, rfl⟩
theorem row3 (w : World) (o : Obj) (x y z : Value) (t : TypeId) : ∀ j u, [x, y, z][j]? = some u → ((w.alloc o).alloc (.cells #[x, y, z] t)).cell? ((⟨w.heap.size + 1, 0, none⟩ : Addr).add j) = some u := by
  intro j u hu
  have e : w.heap.size + 1 = (w.alloc o).heap.size := (World.size_alloc _ _).symm
  rw [e]
  rcases j with _ | _ | _ | j
  · obtain rfl : x = u := by simpa using hu
    rw [show (Addr.add ⟨(w.alloc o).heap.size, 0, none⟩ 0) = ⟨(w.alloc o).heap.size, 0, none⟩ from rfl]
    simp [go_sem]
  · obtain rfl : y = u := by simpa using hu
    rw [show (Addr.add ⟨(w.alloc o).heap.size, 0, none⟩ (0 + 1)) = ⟨(w.alloc o).heap.size, 1, none⟩ from rfl]
    simp [go_sem]
  · obtain rfl : z = u := by simpa using hu
    rw [show (Addr.add ⟨(w.alloc o).heap.size, 0, none⟩ (0 + 1 + 1)) = ⟨(w.alloc o).heap.size, 2, none⟩ from rfl]
    simp [go_sem]
  · simp at hu
theorem below_grown3 {w wr W w3 : World} {v v' : Value} {B n : Nat} {e : TypeId} {xs : List Value} (hg : W.grownBy w3 v'.ownBlock) (hv : v' = v) (hown : wr.ownsRow B e 3 v n xs) (hB : B ≤ W.heap.size) (hb : Below B w W) : Below B w w3 := by
  subst hv
  exact hb.grown hg hB (fun j hj => (hown.lt j hj).1)
theorem tk_one (t : Tk) : ∀ u ∈ tkV t, u.oneCell' = true := by
  intro u hu
  simp [tkV] at hu
  rcases hu with rfl | rfl | rfl <;> rfl
end Go.Proofs.YtfogkcccjemloaaGreatDoor
/- word and number of the reference. -/
namespace Go.Proofs.YtfogkcccjemloaaGreatDoor
set_option linter.unusedVariables false
set_option linter.unusedSimpArgs false
open Go.RowKit
theorem spd_at {p : Int → Bool} {s : ByteArray} {a j : Nat} (ha : a ≤ j) (hj : j - a < sp p (s.data.toList.drop a)) : ∃ h : j < s.size, p ((s[j].toNat : Nat) : Int) = true := by
  obtain ⟨b, h1, h2, _⟩ := tw_at _ _ _ hj
  rw [List.getElem?_drop, show a + (j - a) = j by omega] at h1
  have hlt : j < s.size := by rw [← len_toList]; exact (List.getElem?_eq_some_iff.1 h1).1
  rw [byte_get s j hlt] at h1
  obtain rfl : s[j] = b := by simpa using h1
  exact ⟨hlt, h2⟩
theorem spd_end {p : Int → Bool} {s : ByteArray} {a j : Nat} (ha : a ≤ j) (hj : j - a = sp p (s.data.toList.drop a)) (hlt : j < s.size) : p ((s[j].toNat : Nat) : Int) = false := by
  apply tw_end (fun c : UInt8 => p ((c.toNat : Nat) : Int)) (s.data.toList.drop a)
  show (s.data.toList.drop a)[sp p (s.data.toList.drop a)]? = _
  rw [← hj, List.getElem?_drop, show a + (j - a) = j by omega, byte_get s j hlt]
theorem spd_le (p : Int → Bool) (s : ByteArray) (a : Nat) (ha : a ≤ s.size) : a + sp p (s.data.toList.drop a) ≤ s.size := by
  have := sp_length p (s.data.toList.drop a)
  rw [List.length_drop, len_toList] at this
  omega
end Go.Proofs.YtfogkcccjemloaaGreatDoor
/- Keyword of the reference. -/
namespace Go.Proofs.YtfogkcccjemloaaGreatDoor
set_option linter.unusedVariables false
set_option linter.unusedSimpArgs false
open Go.RowKit
def kwB : List ByteArray := [⟨#[97, 115, 115, 117, 109, 101]⟩, ⟨#[97, 110, 100]⟩, ⟨#[97, 117, 116, 111, 109, 97, 116, 111, 110]⟩, ⟨#[98, 111, 111, 108]⟩, ⟨#[99, 111, 110, 116, 105, 110, 117, 101]⟩, ⟨#[100, 111]⟩, ⟨#[100, 111, 110, 101]⟩, ⟨#[101, 108, 115, 101]⟩, ⟨#[101, 110, 100]⟩, ⟨#[101, 110, 115, 117, 114, 101]⟩, ⟨#[101, 118, 101, 114, 121]⟩, ⟨#[102, 97, 108, 115, 101]⟩, ⟨#[102, 98, 121]⟩, ⟨#[105, 102]⟩, ⟨#[105, 110, 116]⟩, ⟨#[108, 101, 116]⟩, ⟨#[109, 101, 114, 103, 101]⟩, ⟨#[109, 111, 100]⟩, ⟨#[110, 111, 100, 101]⟩, ⟨#[110, 111, 116]⟩, ⟨#[111, 114]⟩, ⟨#[112, 114, 101]⟩, ⟨#[114, 101, 116, 117, 114, 110, 115]⟩, ⟨#[115, 116, 97, 116, 101]⟩, ⟨#[116, 101, 108]⟩, ⟨#[116, 104, 101, 110]⟩, ⟨#[116, 114, 117, 101]⟩, ⟨#[116, 121, 112, 101]⟩, ⟨#[117, 110, 108, 101, 115, 115]⟩, ⟨#[117, 110, 116, 105, 108]⟩, ⟨#[118, 97, 114]⟩, ⟨#[119, 104, 101, 110]⟩, ⟨#[120, 111, 114]⟩]
theorem kwB_len : kwB.length = 33 := rfl
theorem kw_is (s : ByteArray) : isKw s = kwB.any fun b => b.toList == s.toList := by
  have e : kwL = kwB.map ByteArray.toList := by
    simp only [kwL, kwB, List.map_cons, List.map_nil, ByteArray.toList_eq]
  rw [isKw, e, List.contains_eq_any_beq, List.any_map]
  congr 1
  funext x
  simp only [Function.comp]
  rw [Bool.eq_iff_iff, beq_iff_eq, beq_iff_eq]
  exact eq_comm
def Strs (w : World) (B : Nat) (A : Addr) (l : List ByteArray) : Prop := A.block < B ∧ ∀ j x, l[j]? = some x → w.cell? (A.add j) = some (.string x)
set_option maxRecDepth 100000 in
theorem keywords_any (w : World) : Calls Tryz.prog 92 #[] w (fun e w' => e = .returned (.slice (some ⟨w.heap.size, 0, none⟩) 33 33) ∧ Strs w' w'.heap.size ⟨w.heap.size, 0, none⟩ kwB ∧ Below w.heap.size w w') := by
  go_enter Tryz.func92, Tryz.ntmps92
  go_wp2
  go_ret
  refine ⟨rfl, ⟨by simp, fun j x hx => ?_⟩, (by repeat (first | (with_reducible exact Below.refl _ _) | (with_reducible assumption) | (with_reducible exact bel_box _) | (with_reducible refine bel_step ?_ (by with_reducible assumption)) | (with_reducible refine Below.drew ?_) | (with_reducible refine below_drewN ?_ _) | (with_reducible refine bel_alloc ?_ _)))⟩
  have e : (Addr.add ⟨w.heap.size, 0, none⟩ j) = ⟨w.heap.size, j, none⟩ := by
    unfold Addr.add
    by_cases h : j = 0
    · subst h; rfl
    · simp [h]
  rw [e]
  have hk := cell_of_row (w.alloc (.cells (kwB.map Value.string).toArray 9)) w.heap.size j (kwB.map Value.string).toArray 9 (0, 0) (heap_alloc_new w _)
  refine Eq.trans hk ?_
  rw [List.getElem?_toArray, List.getElem?_map, hx]
  rfl
end Go.Proofs.YtfogkcccjemloaaGreatDoor
/- Keyword of the reference: the loop. -/
namespace Go.Proofs.YtfogkcccjemloaaGreatDoor
set_option linter.unusedVariables false
set_option linter.unusedSimpArgs false
open Go.RowKit
theorem kw_hit {s x : ByteArray} {k : Nat} (hx : kwB[k]? = some x) (h : (x.toList == s.toList) = true) : isKw s = true := by
  rw [kw_is, List.any_eq_true]
  exact ⟨x, List.mem_of_getElem? hx, h⟩
set_option maxHeartbeats 400000 in
theorem rkeyword_any (s : ByteArray) (w : World) : Calls Tryz.prog 72 #[.string s] w (Bel (.bool (isKw s)) w) := by
  have K := Lib.hid (keywords_any w)
  obtain ⟨L, hL⟩ : ∃ L : List ByteArray, kwB = L := ⟨_, rfl⟩
  have hlen : L.length = 33 := by rw [← hL]; rfl
  have HIT : Hid (∀ (k : Nat) (x : ByteArray), L[k]? = some x → (x.toList == s.toList) = true → isKw s = true) := Lib.hid fun k x h1 h2 => kw_hit (hL ▸ h1) h2
  have END : Hid ((L.any fun b => b.toList == s.toList) = isKw s) := Lib.hid (by rw [← hL, kw_is])
  rw [hL] at K
  clear hL
  go_enter Tryz.func72, Tryz.ntmps72
  go_wp2_with (go_at_call 92; refine K.out.mono ?_; rintro e w1 ⟨rfl, hst, hb1⟩)
  have HST := Lib.hid hst
  have hA := hst.1
  simp only at hA
  clear hst
  go_loopw [4] (fun i wr => ∃ k : Nat, k ≤ 33 ∧ i = .int .i64 k ∧ Hid (((L.take k).any fun b => b.toList == s.toList) = false) ∧ Below w1.heap.size w1 wr) (fun i _ => 33 - (intOf i).toNat)
  case atStart => exact ⟨0, by omega, rfl, Lib.hid rfl, Below.refl _ _⟩
  case round =>
    obtain ⟨k, hk, rfl, hno, hbl⟩ := hrel
    by_cases hlt : k < 33
    · obtain ⟨x, hx⟩ : ∃ x, L[k]? = some x := ⟨L[k]'(by omega), List.getElem?_eq_getElem _⟩
      have hc : wr.cell? ⟨w.heap.size, k, none⟩ = some (.string x) := by
        have := HST.out.2 k x hx
        have e : (Addr.add ⟨w.heap.size, 0, none⟩ k) = ⟨w.heap.size, k, none⟩ := by
          unfold Addr.add
          by_cases h : k = 0
          · subst h; rfl
          · simp [h]
        rw [e] at this
        exact (hbl.cell (p := ⟨w.heap.size, k, none⟩) hA).trans this
      cases hq : (x.toList == s.toList)
      · have hno2 : Hid (((L.take (k + 1)).any fun b => b.toList == s.toList) = false) := Lib.hid (by rw [take_succ_of hx, List.any_append, hno.out]; simp [hq])
        clear hx hno
        go_wp2
        go_roundw
        case rel => exact ⟨k + 1, by omega, by go_num, hno2, hbl⟩
        case measure => simp [intOf]; omega
      · rw [HIT.out k x hx hq]
        clear hx hno
        go_wp2
        go_ret
        exact ⟨rfl, (by repeat (first | (with_reducible exact Below.refl _ _) | (with_reducible assumption) | (with_reducible exact bel_box _) | (with_reducible refine bel_step ?_ (by with_reducible assumption)) | (with_reducible refine Below.drew ?_) | (with_reducible refine below_drewN ?_ _) | (with_reducible refine bel_alloc ?_ _)))⟩
    · obtain rfl : k = 33 := by omega
      have h2 := hno.out
      rw [List.take_of_length_le (by omega), END.out] at h2
      have H2 := Lib.hid h2
      clear hno h2
      go_wp2
      go_ret
      exact ⟨by rw [H2.out]; rfl, (by repeat (first | (with_reducible exact Below.refl _ _) | (with_reducible assumption) | (with_reducible exact bel_box _) | (with_reducible refine bel_step ?_ (by with_reducible assumption)) | (with_reducible refine Below.drew ?_) | (with_reducible refine below_drewN ?_ _) | (with_reducible refine bel_alloc ?_ _)))⟩
end Go.Proofs.YtfogkcccjemloaaGreatDoor
/- Ident of both. -/
namespace Go.Proofs.YtfogkcccjemloaaGreatDoor
set_option linter.unusedVariables false
set_option linter.unusedSimpArgs false
open Go.RowKit
def idP (s : ByteArray) : Bool := decide (0 < s.size) && ((fst s).1 == 1 && ((((fst s).2.2.1 : Nat) : Int) == (s.size : Int)))
theorem empty_of {s : ByteArray} (h : s.size = 0) : s = ⟨#[]⟩ := by
  apply ByteArray.ext
  exact Array.eq_empty_of_size_eq_zero h
theorem ne_facts {s : ByteArray} (h : 0 < s.size) : (s.toList == []) = false ∧ s.toList.isEmpty = false ∧ ¬ s.toList = [] := by
  have hn : s.toList ≠ [] := by
    intro e
    have := congrArg List.length e
    rw [ByteArray.toList_eq, len_toList] at this
    have h2 : s.size = 0 := this
    omega
  exact ⟨by simpa using hn, by simpa using hn, hn⟩
set_option maxHeartbeats 800000 in
theorem ident_any (s : ByteArray) (w : World) (hstd : Std w) (h9 : s.size ≤ 140737488351232) : Calls Tryz.prog 35 #[.string s] w (Bel (.bool (idP s)) w) := by
  by_cases h0 : 0 < s.size
  · obtain ⟨e1, e2, e3⟩ := ne_facts h0
    have F1 := Lib.hid (first_any s w hstd h0 h9)
    have e : idP s = ((fst s).1 == 1 && ((((fst s).2.2.1 : Nat) : Int) == (s.size : Int))) := by rw [idP, decide_eq_true h0, Bool.true_and]
    rw [e]
    clear e
    obtain ⟨⟨a, tx, n, er⟩, hf⟩ : ∃ f, fst s = f := ⟨_, rfl⟩
    rw [hf] at F1 ⊢
    have F2 : Hid (Calls Tryz.prog 57 #[.string s] w (Bel (.tuple #[.agg #[.int .i64 a, .string tx, .int .i64 0], .int .i64 n, .int .i64 er]) w)) := F1
    show Calls _ _ _ _ (Bel (.bool (a == 1 && ((n : Int) == (s.size : Int)))) w)
    clear F1 hf h0 hstd h9
    cases ha : (a == 1)
    · rw [Bool.false_and]
      go_enter Tryz.func35, Tryz.ntmps35
      go_wp2_with (go_at_call 57; refine F2.out.mono ?_; rintro e w1 ⟨rfl, hb1⟩)
      go_ret
      exact ⟨rfl, (by repeat (first | (with_reducible exact Below.refl _ _) | (with_reducible assumption) | (with_reducible exact bel_box _) | (with_reducible refine bel_step ?_ (by with_reducible assumption)) | (with_reducible refine Below.drew ?_) | (with_reducible refine below_drewN ?_ _) | (with_reducible refine bel_alloc ?_ _)))⟩
    · rw [Bool.true_and]
      go_enter Tryz.func35, Tryz.ntmps35
      go_wp2_with (go_at_call 57; refine F2.out.mono ?_; rintro e w1 ⟨rfl, hb1⟩)
      go_ret
      exact ⟨rfl, (by repeat (first | (with_reducible exact Below.refl _ _) | (with_reducible assumption) | (with_reducible exact bel_box _) | (with_reducible refine bel_step ?_ (by with_reducible assumption)) | (with_reducible refine Below.drew ?_) | (with_reducible refine below_drewN ?_ _) | (with_reducible refine bel_alloc ?_ _)))⟩
  · obtain rfl := empty_of (by omega : s.size = 0)
    rw [idP, decide_eq_false h0, Bool.false_and]
    clear hstd h9 h0
    go_enter Tryz.func35, Tryz.ntmps35
    go_wp2
    go_ret
    exact ⟨rfl, (by repeat (first | (with_reducible exact Below.refl _ _) | (with_reducible assumption) | (with_reducible exact bel_box _) | (with_reducible refine bel_step ?_ (by with_reducible assumption)) | (with_reducible refine Below.drew ?_) | (with_reducible refine below_drewN ?_ _) | (with_reducible refine bel_alloc ?_ _)))⟩
def idR (s : ByteArray) : Bool := decide (0 < s.size) && decide (s.size ≤ 40) && decide (sp pI s.data.toList = s.size) && pL (((s.data.toList.headD 0).toNat : Nat) : Int) && !isKw s
set_option maxHeartbeats 800000 in
theorem rident_any (s : ByteArray) (w : World) (h9 : s.size ≤ 140737488351232) : Calls Tryz.prog 44 #[.string s] w (Bel (.bool (idR s)) w) := by
  by_cases h0 : 0 < s.size
  · obtain ⟨e1, e2, e3⟩ := ne_facts h0
    by_cases h40 : s.size ≤ 40
    · have hh : (s.data.toList.headD 0) = s[0] := by
        have := byte_get s 0 h0
        rcases hl : s.data.toList with _ | ⟨c, r⟩
        · rw [hl] at this; cases this
        · rw [hl] at this; simpa using this
      have e : idR s = (decide (sp pI s.data.toList = s.size) && pL ((s[0].toNat : Nat) : Int) && !isKw s) := by rw [idR, decide_eq_true h0, decide_eq_true h40, hh]; simp
      rw [e]
      clear e hh
      have f0 : (0 : Int) < (s.size : Int) := by omega
      have f1 : (s.size : Int) ≤ 40 := by omega
      have kl := Lib.hid (rletter_any ((s[0].toNat : Nat) : Int))
      have kk := Lib.hid (rkeyword_any s)
      have HA := Lib.hid (fun j => @sp_at pI s j)
      have HE := Lib.hid (@sp_end pI s)
      have hle := sp_le pI s
      generalize sp pI s.data.toList = m at *
      generalize isKw s = b at *
      cases hL : pL ((s[0].toNat : Nat) : Int)
      · rw [hL] at kl
        rw [Bool.and_false, Bool.false_and]
        go_enter Tryz.func44, Tryz.ntmps44
        go_wp2_with (go_at_call 70; refine (kl.out _).mono ?_; rintro e w1 ⟨rfl, hb1⟩)
        go_ret
        exact ⟨rfl, (by repeat (first | (with_reducible exact Below.refl _ _) | (with_reducible assumption) | (with_reducible exact bel_box _) | (with_reducible refine bel_step ?_ (by with_reducible assumption)) | (with_reducible refine Below.drew ?_) | (with_reducible refine below_drewN ?_ _) | (with_reducible refine bel_alloc ?_ _)))⟩
      · rw [hL] at kl
        rw [Bool.and_true]
        clear hL
        go_enter Tryz.func44, Tryz.ntmps44
        go_wp2_with (go_at_call 70; refine (kl.out _).mono ?_; rintro e w1 ⟨rfl, hb1⟩)
        go_loopw [3] (fun i wr => ∃ j : Nat, j ≤ m ∧ i = .int .i64 j ∧ Below w.heap.size w wr) (fun i _ => m - (intOf i).toNat)
        case atStart => exact ⟨0, by omega, rfl, (by repeat (first | (with_reducible exact Below.refl _ _) | (with_reducible assumption) | (with_reducible exact bel_box _) | (with_reducible refine bel_step ?_ (by with_reducible assumption)) | (with_reducible refine Below.drew ?_) | (with_reducible refine below_drewN ?_ _) | (with_reducible refine bel_alloc ?_ _)))⟩
        case round =>
          obtain ⟨j, hjm, rfl, hbl⟩ := hrel
          by_cases hlt : j < m
          · have hj : j < s.size := by omega
            have e4 := HA.out j hlt hj
            go_wp2_with (go_at_call 71; refine (inner_any _ _).mono ?_; rintro e w2 ⟨rfl, hb2⟩; rw [e4])
            go_roundw
            case rel => exact ⟨j + 1, by omega, by go_num, (by repeat (first | (with_reducible exact Below.refl _ _) | (with_reducible assumption) | (with_reducible exact bel_box _) | (with_reducible refine bel_step ?_ (by with_reducible assumption)) | (with_reducible refine Below.drew ?_) | (with_reducible refine below_drewN ?_ _) | (with_reducible refine bel_alloc ?_ _)))⟩
            case measure => simp [intOf]; omega
          · obtain rfl : j = m := by omega
            by_cases hj : j < s.size
            · have e4 := HE.out hj
              have q : decide (j = s.size) = false := decide_eq_false (by omega)
              rw [q, Bool.false_and]
              clear q
              go_wp2_with (go_at_call 71; refine (inner_any _ _).mono ?_; rintro e w2 ⟨rfl, hb2⟩; rw [e4])
              go_ret
              exact ⟨rfl, (by repeat (first | (with_reducible exact Below.refl _ _) | (with_reducible assumption) | (with_reducible exact bel_box _) | (with_reducible refine bel_step ?_ (by with_reducible assumption)) | (with_reducible refine Below.drew ?_) | (with_reducible refine below_drewN ?_ _) | (with_reducible refine bel_alloc ?_ _)))⟩
            · have q : decide (j = s.size) = true := decide_eq_true (by omega)
              have Q := Lib.hid q
              clear q
              go_wp2_with (go_at_call 72; refine (kk.out _).mono ?_; rintro e w3 ⟨rfl, hb3⟩)
              go_ret
              exact ⟨by rw [Q.out, Bool.true_and]; rfl, (by repeat (first | (with_reducible exact Below.refl _ _) | (with_reducible assumption) | (with_reducible exact bel_box _) | (with_reducible refine bel_step ?_ (by with_reducible assumption)) | (with_reducible refine Below.drew ?_) | (with_reducible refine below_drewN ?_ _) | (with_reducible refine bel_alloc ?_ _)))⟩
    · have e : idR s = false := by rw [idR, decide_eq_false h40, Bool.and_false, Bool.false_and, Bool.false_and, Bool.false_and]
      rw [e]
      have f1 : (40 : Int) < (s.size : Int) := by omega
      clear e h40 h9 h0
      go_enter Tryz.func44, Tryz.ntmps44
      go_wp2
      go_ret
      exact ⟨rfl, (by repeat (first | (with_reducible exact Below.refl _ _) | (with_reducible assumption) | (with_reducible exact bel_box _) | (with_reducible refine bel_step ?_ (by with_reducible assumption)) | (with_reducible refine Below.drew ?_) | (with_reducible refine below_drewN ?_ _) | (with_reducible refine bel_alloc ?_ _)))⟩
  · obtain rfl := empty_of (by omega : s.size = 0)
    rw [idR, decide_eq_false h0, Bool.false_and, Bool.false_and, Bool.false_and, Bool.false_and]
    clear h9 h0
    go_enter Tryz.func44, Tryz.ntmps44
    go_wp2
    go_ret
    exact ⟨rfl, (by repeat (first | (with_reducible exact Below.refl _ _) | (with_reducible assumption) | (with_reducible exact bel_box _) | (with_reducible refine bel_step ?_ (by with_reducible assumption)) | (with_reducible refine Below.drew ?_) | (with_reducible refine below_drewN ?_ _) | (with_reducible refine bel_alloc ?_ _)))⟩
end Go.Proofs.YtfogkcccjemloaaGreatDoor
/- Ident of both is one. -/
namespace Go.Proofs.YtfogkcccjemloaaGreatDoor
set_option linter.unusedVariables false
set_option linter.unusedSimpArgs false
open Go.RowKit
theorem ext_all (s : ByteArray) : s.extract 0 s.size = s := by
  apply ByteArray.ext
  apply Array.toList_inj.mp
  rw [head_extract, ← len_toList, List.take_length]
theorem id_eq (s : ByteArray) : idP s = idR s := by
  unfold idP idR
  by_cases h0 : 0 < s.size
  · have hh : (s.data.toList.headD 0) = s[0] := by
      have := byte_get s 0 h0
      rcases hl : s.data.toList with _ | ⟨c, r⟩
      · rw [hl] at this; cases this
      · rw [hl] at this; simpa using this
    rw [decide_eq_true h0, Bool.true_and, Bool.true_and, hh, fst, dif_pos h0]
    by_cases hL : pL ((s[0].toNat : Nat) : Int) = true
    · rw [if_pos hL, hL, Bool.and_true]
      have hle := sp_le pI s
      by_cases hk : sp pI s.data.toList ≤ 40
      · rw [if_pos hk]
        by_cases hs : sp pI s.data.toList = s.size
        · rw [hs, ext_all, nmK]
          rw [hs] at hk
          rw [decide_eq_true hk]
          cases isKw s <;> simp
        · have q : ((((sp pI s.data.toList : Nat) : Int)) == (s.size : Int)) = false := by rw [beq_eq_false_iff_ne]; omega
          simp only [q, Bool.and_false]
          rw [decide_eq_false hs, Bool.and_false, Bool.false_and]
      · rw [if_neg hk]
        have : ¬ (s.size ≤ 40 ∧ sp pI s.data.toList = s.size) := by omega
        by_cases h4 : s.size ≤ 40
        · rw [decide_eq_false (fun e => this ⟨h4, e⟩), Bool.and_false, Bool.false_and]; rfl
        · rw [decide_eq_false h4, Bool.false_and, Bool.false_and]; rfl
    · rw [if_neg hL]
      rw [Bool.not_eq_true] at hL
      rw [hL, Bool.and_false, Bool.false_and]
      split
      · split
        · rfl
        · split <;> rfl
      · split
        · split <;> rfl
        · split
          · rfl
          · split <;> rfl
  · rw [decide_eq_false h0, Bool.false_and, Bool.false_and, Bool.false_and, Bool.false_and, Bool.false_and]
end Go.Proofs.YtfogkcccjemloaaGreatDoor
/- The checks of one expression, of the program. -/
namespace Go.Proofs.YtfogkcccjemloaaGreatDoor
set_option linter.unusedVariables false
set_option linter.unusedSimpArgs false
open Go.RowKit
def hasVar (n : Int) : Bool := n == 2 || n == 8 || n == 9
def hasIdn (n : Int) : Bool := hasVar n || n == 10
def hasVal (t v : Int) : Bool := decide (t = 1 ∧ (v = 0 ∨ v = 1) ∨ t = 2 ∧ -32768 ≤ v ∧ v ≤ 32767 ∨ 3 ≤ t ∧ 0 ≤ v ∧ v < 16)
def opnds (op : Int) : Int := if op = 1 ∨ op = 2 then 1 else 2
def hasBr (t n : Int) : Bool := decide (t = 1 ∧ n = 2 ∨ 3 ≤ t ∧ 1 ≤ n ∧ n ≤ 16)
theorem hasvar_any (n : Int) (w : World) : Calls Tryz.prog 51 #[.int .i64 n] w (Bel (.bool (hasVar n)) w) := by
  go_enter Tryz.func51, Tryz.ntmps51
  go_wp2
  all_goals go_ret
  all_goals exact ⟨ret_bool (by simp_all [hasVar]), (by repeat (first | (with_reducible exact Below.refl _ _) | (with_reducible assumption) | (with_reducible exact bel_box _) | (with_reducible refine bel_step ?_ (by with_reducible assumption)) | (with_reducible refine Below.drew ?_) | (with_reducible refine below_drewN ?_ _) | (with_reducible refine bel_alloc ?_ _)))⟩
theorem hasident_any (n : Int) (w : World) : Calls Tryz.prog 66 #[.int .i64 n] w (Bel (.bool (hasIdn n)) w) := by
  have k1 := Lib.hid (hasvar_any n)
  have e : hasIdn n = (hasVar n || n == 10) := rfl
  rw [e]
  clear e
  generalize hasVar n = b at *
  cases b
  all_goals
    go_enter Tryz.func66, Tryz.ntmps66
    go_wp2_with (go_at_call 51; refine (k1.out _).mono ?_; rintro e w1 ⟨rfl, hb1⟩)
  all_goals go_ret
  all_goals exact ⟨ret_bool (by simp), (by repeat (first | (with_reducible exact Below.refl _ _) | (with_reducible assumption) | (with_reducible exact bel_box _) | (with_reducible refine bel_step ?_ (by with_reducible assumption)) | (with_reducible refine Below.drew ?_) | (with_reducible refine below_drewN ?_ _) | (with_reducible refine bel_alloc ?_ _)))⟩
theorem operands_any (n : Int) (w : World) : Calls Tryz.prog 87 #[.int .i64 n] w (Bel (.int .i64 (opnds n)) w) := by
  by_cases h1 : n = 1
  · subst h1
    go_enter Tryz.func87, Tryz.ntmps87
    go_wp2
    go_ret
    exact ⟨rfl, (by repeat (first | (with_reducible exact Below.refl _ _) | (with_reducible assumption) | (with_reducible exact bel_box _) | (with_reducible refine bel_step ?_ (by with_reducible assumption)) | (with_reducible refine Below.drew ?_) | (with_reducible refine below_drewN ?_ _) | (with_reducible refine bel_alloc ?_ _)))⟩
  by_cases h2 : n = 2
  · subst h2
    go_enter Tryz.func87, Tryz.ntmps87
    go_wp2
    go_ret
    exact ⟨rfl, (by repeat (first | (with_reducible exact Below.refl _ _) | (with_reducible assumption) | (with_reducible exact bel_box _) | (with_reducible refine bel_step ?_ (by with_reducible assumption)) | (with_reducible refine Below.drew ?_) | (with_reducible refine below_drewN ?_ _) | (with_reducible refine bel_alloc ?_ _)))⟩
  have e : opnds n = 2 := by rw [opnds, if_neg (by omega)]
  rw [e]
  have q1 : (n == 1) = false := by simpa using h1
  have q2 : (n == 2) = false := by simpa using h2
  go_enter Tryz.func87, Tryz.ntmps87
  go_wp2
  go_ret
  exact ⟨rfl, (by repeat (first | (with_reducible exact Below.refl _ _) | (with_reducible assumption) | (with_reducible exact bel_box _) | (with_reducible refine bel_step ?_ (by with_reducible assumption)) | (with_reducible refine Below.drew ?_) | (with_reducible refine below_drewN ?_ _) | (with_reducible refine bel_alloc ?_ _)))⟩
theorem hasvalue_any (t v : Int) (w : World) : Calls Tryz.prog 86 #[.int .i64 t, .int .i64 v] w (Bel (.bool (hasVal t v)) w) := by
  by_cases h1 : t = 1
  · subst h1
    go_enter Tryz.func86, Tryz.ntmps86
    go_wp2
    all_goals go_ret
    all_goals refine ⟨ret_bool ?_, (by repeat (first | (with_reducible exact Below.refl _ _) | (with_reducible assumption) | (with_reducible exact bel_box _) | (with_reducible refine bel_step ?_ (by with_reducible assumption)) | (with_reducible refine Below.drew ?_) | (with_reducible refine below_drewN ?_ _) | (with_reducible refine bel_alloc ?_ _)))⟩
    all_goals (rw [Bool.eq_iff_iff]; simp_all [hasVal])
  by_cases h2 : t = 2
  · subst h2
    go_enter Tryz.func86, Tryz.ntmps86
    go_wp2
    all_goals go_ret
    all_goals refine ⟨ret_bool ?_, (by repeat (first | (with_reducible exact Below.refl _ _) | (with_reducible assumption) | (with_reducible exact bel_box _) | (with_reducible refine bel_step ?_ (by with_reducible assumption)) | (with_reducible refine Below.drew ?_) | (with_reducible refine below_drewN ?_ _) | (with_reducible refine bel_alloc ?_ _)))⟩
    all_goals (rw [Bool.eq_iff_iff]; simp [hasVal]; omega)
  have q1 : (t == 1) = false := by simpa using h1
  have q2 : (t == 2) = false := by simpa using h2
  go_enter Tryz.func86, Tryz.ntmps86
  go_wp2
  all_goals go_ret
  all_goals refine ⟨ret_bool ?_, (by repeat (first | (with_reducible exact Below.refl _ _) | (with_reducible assumption) | (with_reducible exact bel_box _) | (with_reducible refine bel_step ?_ (by with_reducible assumption)) | (with_reducible refine Below.drew ?_) | (with_reducible refine below_drewN ?_ _) | (with_reducible refine bel_alloc ?_ _)))⟩
  all_goals (rw [Bool.eq_iff_iff]; simp [hasVal]; omega)
theorem hasbranches_any (t n : Int) (w : World) : Calls Tryz.prog 88 #[.int .i64 t, .int .i64 n] w (Bel (.bool (hasBr t n)) w) := by
  by_cases h1 : t = 1
  · subst h1
    go_enter Tryz.func88, Tryz.ntmps88
    go_wp2
    all_goals go_ret
    all_goals refine ⟨ret_bool ?_, (by repeat (first | (with_reducible exact Below.refl _ _) | (with_reducible assumption) | (with_reducible exact bel_box _) | (with_reducible refine bel_step ?_ (by with_reducible assumption)) | (with_reducible refine Below.drew ?_) | (with_reducible refine below_drewN ?_ _) | (with_reducible refine bel_alloc ?_ _)))⟩
    all_goals (rw [Bool.eq_iff_iff]; simp_all [hasBr])
  have q1 : (t == 1) = false := by simpa using h1
  go_enter Tryz.func88, Tryz.ntmps88
  go_wp2
  all_goals go_ret
  all_goals refine ⟨ret_bool ?_, (by repeat (first | (with_reducible exact Below.refl _ _) | (with_reducible assumption) | (with_reducible exact bel_box _) | (with_reducible refine bel_step ?_ (by with_reducible assumption)) | (with_reducible refine Below.drew ?_) | (with_reducible refine below_drewN ?_ _) | (with_reducible refine bel_alloc ?_ _)))⟩
  all_goals (rw [Bool.eq_iff_iff]; simp [hasBr]; omega)
end Go.Proofs.YtfogkcccjemloaaGreatDoor
/- clone and Rename of the program. -/
namespace Go.Proofs.YtfogkcccjemloaaGreatDoor
set_option linter.unusedVariables false
set_option linter.unusedSimpArgs false
open Go.RowKit Go.Sort Go.Deep
/-- a name renamed -/
def rnm (a b : ByteArray) (k : Int) (s : ByteArray) : ByteArray := if (hasVar k && s.toList == a.toList) = true then b else s
theorem rnm_size {a b : ByteArray} (hb : b.size ≤ maxLen) (k : Int) (s : ByteArray) (h : s.size ≤ maxLen) : (rnm a b k s).size ≤ maxLen := by
  unfold rnm; split <;> assumption
set_option maxHeartbeats 1000000 in
set_option maxRecDepth 20000 in
theorem clone_any (x : Xt) (w : World) (hX : RdX w w.heap.size x) (hs : x.size ≤ 100000) : Calls Tryz.prog 54 #[xV x] w (NewE x.ct w) := by
  have K : Hid (∀ W, Below w.heap.size w W → Calls Tryz.prog 49 #[xV x, .func (.func 74) #[] #[]] W (NewE x.ct W)) := Lib.hid fun W hb => by
    have := changed_id (fun _ s => s) (fun _ _ h => h) w (Lib.hid fun y W _ => clone1_any y W) x W hb (hX.to hb) hs
    rwa [rc_id] at this
  simp only [xV] at K ⊢
  go_enter Tryz.func54, Tryz.ntmps54
  go_wp2_with (go_at_call 49; (with_reducible refine (K.out _ ?_).mono ?_); (focus ((repeat (first | (with_reducible exact Below.refl _ _) | (with_reducible assumption) | (with_reducible exact bel_box _) | (with_reducible refine bel_step ?_ (by with_reducible assumption)) | (with_reducible refine Below.drew ?_) | (with_reducible refine below_drewN ?_ _) | (with_reducible refine bel_alloc ?_ _))); done)); rintro e w1 ⟨x', rfl, hc, hr, hb1⟩; simp only [xV]; obtain ⟨_, _, _, _, _, _, ⟨r0, r1, r2, r3, r4, r5⟩, rf, rz, hw1⟩ := chg_box (w := w) (x := x) (W := w1) (T := 24) hb1; have q0 := rf 0 (by decide); have q1 := rf 1 (by decide); have q2 := rf 2 (by decide); have q3 := rf 3 (by decide); have q4 := rf 4 (by decide); have q5 := rf 5 (by decide); obtain ⟨⟨g0, g1, g2, g3, g4, g5⟩, gf, gc, gz⟩ := st6_cells r0 r1 r2 r3 r4 r5 x'.k x'.op x'.t x'.v x'.nm (.slice x'.A x'.ar.length x'.c); have HF := Lib.hid (st6_below hw1 (Nat.le_succ _) x'.k x'.op x'.t x'.v x'.nm (.slice x'.A x'.ar.length x'.c)); have HG := Lib.hid (And.intro gc gz); dsimp only [st6] at g0 g1 g2 g3 g4 g5; clear gf gc gz)
  refine bodyPost_ret (v := .agg #[.int .i64 x'.k, .int .i64 x'.op, .int .i64 x'.t, .int .i64 x'.v, .string x'.nm, .slice x'.A x'.ar.length x'.c]) (by simp [results, Tryz.f54, go_sem, g0, g1, g2, g3, g4, g5]) rfl ?_
  refine ⟨x', rfl, hc, hr.keep (fun b h => ⟨?_, ?_⟩) (fun p h => HG.out.1 p ?_), HF.out⟩
  · refine Nat.le_trans ?_ h.1
    simp only [World.size_alloc]; omega
  · rw [HG.out.2]; exact h.2
  · have := h.1
    simp only [World.size_alloc] at this
    omega
set_option maxHeartbeats 1000000 in
set_option maxRecDepth 20000 in
theorem rename1_any (a b : ByteArray) (p q : Addr) (x : Xt) (w : World) (hp : w.cell? p = some (.string a)) (hq : w.cell? q = some (.string b)) : Calls Tryz.prog 50 #[xV x, .pointer (some p), .pointer (some q)] w (Bel (.agg #[.int .i64 x.k, .int .i64 x.op, .int .i64 x.t, .int .i64 x.v, .string (rnm a b x.k x.nm), .slice x.A x.ar.length x.c]) w) := by
  have KV := Lib.hid (fun W => hasvar_any x.k W)
  have hpb := World.block_lt_of_cell? w _ hp
  have hqb := World.block_lt_of_cell? w _ hq
  have HP : Hid (∀ W, Below w.heap.size w W → W.cell? p = some (.string a) ∧ W.cell? q = some (.string b)) := Lib.hid fun W h => ⟨(h.cell hpb).trans hp, (h.cell hqb).trans hq⟩
  clear hp hq hpb hqb
  unfold rnm
  simp only [xV]
  cases h1 : hasVar x.k
  · rw [h1] at KV
    rw [Bool.false_and, if_neg (by simp)]
    clear h1
    go_enter Tryz.func50, Tryz.ntmps50
    go_wp2_with (go_at_call 51; (with_reducible refine (KV.out _).mono ?_); rintro e w1 ⟨rfl, hb1⟩; obtain ⟨b0, b1, b2, b3, b4, b5, _⟩ := bxW_cells (w := w) (x := x) (W := w1) (by repeat (first | (with_reducible exact Below.refl _ _) | (with_reducible assumption) | (with_reducible exact bel_box _) | (with_reducible refine bel_step ?_ (by with_reducible assumption)) | (with_reducible refine Below.drew ?_) | (with_reducible refine below_drewN ?_ _) | (with_reducible refine bel_alloc ?_ _))); obtain ⟨_, _, _, _, f4, _, ⟨r0, r1, r2, r3, r4, r5⟩, rf, rz, hw1⟩ := chg_box (w := w) (x := x) (W := w1) (T := 24) hb1; have q0 := rf 0 (by decide); have q1 := rf 1 (by decide); have q2 := rf 2 (by decide); have q3 := rf 3 (by decide); have q4 := rf 4 (by decide); have q5 := rf 5 (by decide); obtain ⟨⟨g0, g1, g2, g3, g4, g5⟩, gf, gc, gz⟩ := st6_cells r0 r1 r2 r3 r4 r5 x.k x.op x.t x.v x.nm (.slice x.A x.ar.length x.c); have HF := Lib.hid (st6_below hw1 (Nat.le_succ _) x.k x.op x.t x.v x.nm (.slice x.A x.ar.length x.c)); dsimp only [st6] at g0 g1 g2 g3 g4 g5; clear gf gc gz; obtain ⟨hp1, hq1⟩ := HP.out w1 hw1; clear hw1)
    refine bodyPost_ret (v := .agg #[.int .i64 x.k, .int .i64 x.op, .int .i64 x.t, .int .i64 x.v, .string x.nm, .slice x.A x.ar.length x.c]) (by simp [results, Tryz.f50, go_sem, g0, g1, g2, g3, g4, g5]) rfl ?_
    exact ⟨rfl, HF.out⟩
  rw [h1] at KV
  rw [Bool.true_and]
  clear h1
  cases h2 : (x.nm.toList == a.toList)
  · rw [if_neg (by simp)]
    go_enter Tryz.func50, Tryz.ntmps50
    go_wp2_with (go_at_call 51; (with_reducible refine (KV.out _).mono ?_); rintro e w1 ⟨rfl, hb1⟩; obtain ⟨b0, b1, b2, b3, b4, b5, _⟩ := bxW_cells (w := w) (x := x) (W := w1) (by repeat (first | (with_reducible exact Below.refl _ _) | (with_reducible assumption) | (with_reducible exact bel_box _) | (with_reducible refine bel_step ?_ (by with_reducible assumption)) | (with_reducible refine Below.drew ?_) | (with_reducible refine below_drewN ?_ _) | (with_reducible refine bel_alloc ?_ _))); obtain ⟨_, _, _, _, f4, _, ⟨r0, r1, r2, r3, r4, r5⟩, rf, rz, hw1⟩ := chg_box (w := w) (x := x) (W := w1) (T := 24) hb1; have q0 := rf 0 (by decide); have q1 := rf 1 (by decide); have q2 := rf 2 (by decide); have q3 := rf 3 (by decide); have q4 := rf 4 (by decide); have q5 := rf 5 (by decide); obtain ⟨⟨g0, g1, g2, g3, g4, g5⟩, gf, gc, gz⟩ := st6_cells r0 r1 r2 r3 r4 r5 x.k x.op x.t x.v x.nm (.slice x.A x.ar.length x.c); have HF := Lib.hid (st6_below hw1 (Nat.le_succ _) x.k x.op x.t x.v x.nm (.slice x.A x.ar.length x.c)); dsimp only [st6] at g0 g1 g2 g3 g4 g5; clear gf gc gz; obtain ⟨hp1, hq1⟩ := HP.out w1 hw1; clear hw1)
    refine bodyPost_ret (v := .agg #[.int .i64 x.k, .int .i64 x.op, .int .i64 x.t, .int .i64 x.v, .string x.nm, .slice x.A x.ar.length x.c]) (by simp [results, Tryz.f50, go_sem, g0, g1, g2, g3, g4, g5]) rfl ?_
    exact ⟨rfl, HF.out⟩
  · rw [if_pos rfl]
    go_enter Tryz.func50, Tryz.ntmps50
    go_wp2_with (go_at_call 51; (with_reducible refine (KV.out _).mono ?_); rintro e w1 ⟨rfl, hb1⟩; obtain ⟨b0, b1, b2, b3, b4, b5, _⟩ := bxW_cells (w := w) (x := x) (W := w1) (by repeat (first | (with_reducible exact Below.refl _ _) | (with_reducible assumption) | (with_reducible exact bel_box _) | (with_reducible refine bel_step ?_ (by with_reducible assumption)) | (with_reducible refine Below.drew ?_) | (with_reducible refine below_drewN ?_ _) | (with_reducible refine bel_alloc ?_ _))); obtain ⟨_, _, _, _, f4, _, ⟨r0, r1, r2, r3, r4, r5⟩, rf, rz, hw1⟩ := chg_box (w := w) (x := x) (W := w1) (T := 24) hb1; have q0 := rf 0 (by decide); have q1 := rf 1 (by decide); have q2 := rf 2 (by decide); have q3 := rf 3 (by decide); have q4 := rf 4 (by decide); have q5 := rf 5 (by decide); obtain ⟨hp1, hq1⟩ := HP.out w1 hw1; obtain ⟨⟨g0, g1, g2, g3, g4, g5⟩, gf, gc, gz⟩ := st6_cells (W := w1.setCell ⟨w.heap.size, 4, none⟩ (.string b)) ((World.cell?_setCell_other _ _ _ _ (fun e => by injection e with e; omega)).trans r0) ((World.cell?_setCell_other _ _ _ _ (fun e => by injection e with e; omega)).trans r1) ((World.cell?_setCell_other _ _ _ _ (fun e => by injection e with e; omega)).trans r2) ((World.cell?_setCell_other _ _ _ _ (fun e => by injection e with e; omega)).trans r3) ((World.cell?_setCell_other _ _ _ _ (fun e => by injection e with e; omega)).trans r4) ((World.cell?_setCell_other _ _ _ _ (fun e => by injection e with e; omega)).trans r5) x.k x.op x.t x.v b (.slice x.A x.ar.length x.c); have HF := Lib.hid (st6_below (hw1.setCell (p := ⟨w.heap.size, 4, none⟩) (Nat.le_refl _) (.string b)) (Nat.le_succ _) x.k x.op x.t x.v b (.slice x.A x.ar.length x.c)); dsimp only [st6] at g0 g1 g2 g3 g4 g5; clear gf gc gz hw1)
    refine bodyPost_ret (v := .agg #[.int .i64 x.k, .int .i64 x.op, .int .i64 x.t, .int .i64 x.v, .string b, .slice x.A x.ar.length x.c]) (by simp [results, Tryz.f50, go_sem, g0, g1, g2, g3, g4, g5]) rfl ?_
    exact ⟨rfl, HF.out⟩
set_option maxHeartbeats 1000000 in
set_option maxRecDepth 20000 in
theorem rename_any (a b : ByteArray) (x : Xt) (w : World) (hX : RdX w w.heap.size x) (hs : x.size ≤ 100000) (hb : b.size ≤ maxLen) : Calls Tryz.prog 30 #[xV x, .string a, .string b] w (NewE (x.rc (rnm a b)) w) := by
  obtain ⟨W4, hW4⟩ : ∃ W4, (((bxW w x).alloc (.cells #[.string a] 9)).alloc (.cells #[.string b] 9)).alloc (.cells #[.int .i64 0, .int .i64 0, .int .i64 0, .int .i64 0, .string ⟨#[]⟩, .slice none 0 0] 24) = W4 := ⟨_, rfl⟩
  have hz4 : W4.heap.size = w.heap.size + 4 := by rw [← hW4]; simp only [World.size_alloc]
  have hb4 : Below w.heap.size w W4 := by rw [← hW4]; exact bel_alloc (bel_alloc (bel_alloc (bel_box _) _) _) _
  have hp : W4.cell? ⟨w.heap.size + 1, 0, none⟩ = some (.string a) := by rw [← hW4]; simp [go_sem]
  have hq : W4.cell? ⟨w.heap.size + 1 + 1, 0, none⟩ = some (.string b) := by rw [← hW4]; simp [go_sem]
  have hr : (W4.cell? ⟨w.heap.size + 1 + 1 + 1, 0, none⟩ = some (.int .i64 0) ∧ W4.cell? ⟨w.heap.size + 1 + 1 + 1, 1, none⟩ = some (.int .i64 0) ∧ W4.cell? ⟨w.heap.size + 1 + 1 + 1, 2, none⟩ = some (.int .i64 0) ∧ W4.cell? ⟨w.heap.size + 1 + 1 + 1, 3, none⟩ = some (.int .i64 0) ∧ W4.cell? ⟨w.heap.size + 1 + 1 + 1, 4, none⟩ = some (.string ⟨#[]⟩) ∧ W4.cell? ⟨w.heap.size + 1 + 1 + 1, 5, none⟩ = some (.slice none 0 0)) ∧ ∀ i, W4.frozen? ⟨w.heap.size + 1 + 1 + 1, i, none⟩ = false := by rw [← hW4]; refine ⟨⟨?_, ?_, ?_, ?_, ?_, ?_⟩, fun i => ?_⟩ <;> simp [go_sem]
  have K := changed_rn ⟨w.heap.size + 1, 0, none⟩ ⟨w.heap.size + 1 + 1, 0, none⟩ (rnm a b) (rnm_size hb) W4 (Lib.hid fun y W h => rename1_any a b _ _ y W ((h.cell (p := ⟨w.heap.size + 1, 0, none⟩) (show w.heap.size + 1 < W4.heap.size by omega)).trans hp) ((h.cell (p := ⟨w.heap.size + 1 + 1, 0, none⟩) (show w.heap.size + 1 + 1 < W4.heap.size by omega)).trans hq)) x W4 (Below.refl _ _) (hX.to hb4) hs
  have HR : Hid (∀ W, Below W4.heap.size W4 W → (W.cell? ⟨w.heap.size + 1 + 1 + 1, 0, none⟩ = some (.int .i64 0) ∧ W.cell? ⟨w.heap.size + 1 + 1 + 1, 1, none⟩ = some (.int .i64 0) ∧ W.cell? ⟨w.heap.size + 1 + 1 + 1, 2, none⟩ = some (.int .i64 0) ∧ W.cell? ⟨w.heap.size + 1 + 1 + 1, 3, none⟩ = some (.int .i64 0) ∧ W.cell? ⟨w.heap.size + 1 + 1 + 1, 4, none⟩ = some (.string ⟨#[]⟩) ∧ W.cell? ⟨w.heap.size + 1 + 1 + 1, 5, none⟩ = some (.slice none 0 0)) ∧ ∀ i, W.frozen? ⟨w.heap.size + 1 + 1 + 1, i, none⟩ = false) := Lib.hid fun W h => by
    have e : ∀ i, W.cell? ⟨w.heap.size + 1 + 1 + 1, i, none⟩ = W4.cell? ⟨w.heap.size + 1 + 1 + 1, i, none⟩ := fun i => h.cell (p := ⟨w.heap.size + 1 + 1 + 1, i, none⟩) (show w.heap.size + 1 + 1 + 1 < W4.heap.size by omega)
    exact ⟨⟨(e 0).trans hr.1.1, (e 1).trans hr.1.2.1, (e 2).trans hr.1.2.2.1, (e 3).trans hr.1.2.2.2.1, (e 4).trans hr.1.2.2.2.2.1, (e 5).trans hr.1.2.2.2.2.2⟩, fun i => (h.frozen (p := ⟨w.heap.size + 1 + 1 + 1, i, none⟩) (show w.heap.size + 1 + 1 + 1 < W4.heap.size by omega)).trans (hr.2 i)⟩
  have K2 := Lib.hid K
  have HW4 := Lib.hid hW4
  have HB4 := Lib.hid (And.intro hb4 hz4)
  clear K hW4 hz4 hb4 hp hq hr hX hs hb
  simp only [xV] at K2 ⊢
  go_enter Tryz.func30, Tryz.ntmps30
  go_wp2_with (fail)
  rw [show (((w.alloc (.cells #[.int .i64 x.k, .int .i64 x.op, .int .i64 x.t, .int .i64 x.v, .string x.nm, .slice x.A x.ar.length x.c] 24)).alloc (.cells #[.string a] 9)).alloc (.cells #[.string b] 9)).alloc (.cells #[.int .i64 0, .int .i64 0, .int .i64 0, .int .i64 0, .string ⟨#[]⟩, .slice none 0 0] 24) = W4 from HW4.out]
  refine K2.out.mono ?_
  rintro e w1 ⟨x', rfl, hc, hr, hb1⟩
  obtain ⟨⟨r0, r1, r2, r3, r4, r5⟩, rf⟩ := HR.out w1 hb1
  have hw1 := HB4.out.1.trans (hb1.mono HB4.out.1.size)
  have q0 := rf 0
  have q1 := rf 1
  have q2 := rf 2
  have q3 := rf 3
  have q4 := rf 4
  have q5 := rf 5
  obtain ⟨⟨g0, g1, g2, g3, g4, g5⟩, gf, gc, gz⟩ := st6_cells r0 r1 r2 r3 r4 r5 x'.k x'.op x'.t x'.v x'.nm (.slice x'.A x'.ar.length x'.c)
  have HF := Lib.hid (st6_below hw1 (show w.heap.size ≤ w.heap.size + 1 + 1 + 1 by omega) x'.k x'.op x'.t x'.v x'.nm (.slice x'.A x'.ar.length x'.c))
  have HG := Lib.hid (And.intro gc gz)
  dsimp only [st6] at g0 g1 g2 g3 g4 g5
  clear gf gc gz rf hw1 HR HW4 K2
  simp only [xV]
  go_wp2
  refine bodyPost_ret (v := .agg #[.int .i64 x'.k, .int .i64 x'.op, .int .i64 x'.t, .int .i64 x'.v, .string x'.nm, .slice x'.A x'.ar.length x'.c]) (by simp [results, Tryz.f30, go_sem, g0, g1, g2, g3, g4, g5]) rfl ?_
  have hz := HB4.out.2
  refine ⟨x', rfl, hc, hr.keep (fun b h => ⟨by omega, ?_⟩) (fun p h => HG.out.1 p (by omega)), HF.out⟩
  rw [HG.out.2]; exact h.2
end Go.Proofs.YtfogkcccjemloaaGreatDoor
/- Has of the reference; rows of names. -/
namespace Go.Proofs.YtfogkcccjemloaaGreatDoor
set_option linter.unusedVariables false
set_option linter.unusedSimpArgs false
open Go.RowKit Go.Sort
def nmC (l : List ByteArray) : List Value := l.map Value.string
/-- A reads as these names, below block B -/
def RdN (w : World) (B : Nat) (A : Option Addr) (l : List ByteArray) : Prop := l ≠ [] → ∃ ad, A = some ad ∧ ad.block < B ∧ ∀ (i : Nat) (y : ByteArray), l[i]? = some y → w.cell? (ad.add i) = some (.string y)
theorem RdN.to {w W : World} {A : Option Addr} {l : List ByteArray} (h : RdN w w.heap.size A l) (hb : Below w.heap.size w W) : RdN W W.heap.size A l := fun hn => by
  obtain ⟨ad, e, hB, hc⟩ := h hn
  have hs := hb.size
  exact ⟨ad, e, by omega, fun i t ht => (hb.cell (by rw [add_block]; exact hB)).trans (hc i t ht)⟩
theorem RdN.at_ {w : World} {B : Nat} {A : Option Addr} {l : List ByteArray} (h : RdN w B A l) {k : Nat} (hk : k < l.length) : ∃ ad y, A = some ad ∧ ad.block < B ∧ l[k]? = some y ∧ w.cell? (ad.add k) = some (.string y) := by
  have he : l[k]? = some l[k] := List.getElem?_eq_getElem hk
  obtain ⟨ad, e, hb, hc⟩ := h (by rintro rfl; simp at hk)
  exact ⟨ad, _, e, hb, he, hc k _ he⟩
theorem RdN.of_own {w : World} {base : Nat} {e : TypeId} {A : Option Addr} {c : Nat} {l : List ByteArray} (h : w.ownsRow base e 1 (.slice A l.length c) l.length (nmC l)) : RdN w w.heap.size A l := fun hn => by
  rcases h.2 with ⟨h1, h2⟩ | ⟨g, cap, cur, h1, h2, h3, h4, h5, h6, h7⟩
  · exact absurd (List.length_eq_zero_iff.1 h2) hn
  · have hA : A = some ⟨g, 0, none⟩ := by injection h1
    subst hA
    refine ⟨_, rfl, (Array.getElem?_eq_some_iff.1 h3).1, fun i y hy => ?_⟩
    have hj : (nmC l)[i]? = some (.string y) := by rw [nmC, List.getElem?_map, hy]; rfl
    rw [(add_add6 g i 0).2.2, cell_of_row w g i cur _ (0, 0) h3]
    rw [← h7, List.getElem?_take] at hj
    split at hj
    · rw [← Array.getElem?_toList]; exact hj
    · cases hj
def hasN (l : List ByteArray) (s : ByteArray) : Bool := l.any fun y => y.toList == s.toList
theorem any_take {l : List ByteArray} {p : ByteArray → Bool} {k : Nat} {y : ByteArray} (h : l[k]? = some y) : (l.take (k + 1)).any p = ((l.take k).any p || p y) := by
  rw [take_succ_of h, List.any_append]; simp
theorem any_hit {l : List ByteArray} {p : ByteArray → Bool} {k : Nat} {y : ByteArray} (h : l[k]? = some y) (hp : p y = true) : l.any p = true := List.any_eq_true.2 ⟨y, List.mem_of_getElem? h, hp⟩
set_option maxHeartbeats 1000000 in
set_option maxRecDepth 20000 in
theorem rhas_any (A : Option Addr) (c : Nat) (l : List ByteArray) (s : ByteArray) (w : World) (hR : RdN w w.heap.size A l) (hl : l.length ≤ 100000) : Calls Tryz.prog 24 #[.slice A l.length c, .string s] w (Bel (.bool (hasN l s)) w) := by
  unfold hasN
  obtain ⟨p, hp⟩ : ∃ p : ByteArray → Bool, (fun y => y.toList == s.toList) = p := ⟨_, rfl⟩
  have hps : ∀ y, (y.toList == s.toList) = p y := fun y => by rw [← hp]
  rw [hp]
  clear hp
  have HA := Lib.hid (fun k y (h : l[k]? = some y) => any_take (p := p) h)
  have HH := Lib.hid (fun k y (h : l[k]? = some y) (q : p y = true) => any_hit (p := p) h q)
  have HP := Lib.hid hps
  clear hps
  go_enter Tryz.func24, Tryz.ntmps24
  go_wp2
  go_loopw [5] (fun i wr => ∃ k : Nat, k ≤ l.length ∧ i = .int .i64 (k : Int) ∧ wr = w ∧ Hid ((l.take k).any p = false)) (fun i _ => l.length - (intOf i).toNat)
  case atStart => exact ⟨0, by omega, rfl, rfl, Lib.hid rfl⟩
  case round =>
    obtain ⟨k, hk, rfl, rfl, hno⟩ := hrel
    by_cases hlt : k < l.length
    · obtain ⟨ad, y, rfl, had, hy, c0⟩ := hR.at_ hlt
      have h1 := HA.out k y hy
      have h2 := HH.out k y hy
      have h3 := HP.out y
      rw [hno.out, Bool.false_or] at h1
      clear hy HA HH HP
      cases q : p y
      · rw [q] at h1 h3
        have H1 := Lib.hid h1
        clear h1 h2 q
        go_wp2
        exact ⟨⟨k + 1, by omega, by congr 1, trivial, H1⟩, by simp [intOf]; omega⟩
      · rw [h2 q]
        rw [q] at h3
        clear h1 h2 q
        go_wp2
        go_ret
        exact ⟨rfl, Below.refl _ _⟩
    · obtain rfl : k = l.length := by omega
      have h1 := hno.out
      rw [List.take_length] at h1
      go_wp2
      go_ret
      exact ⟨by rw [h1]; rfl, Below.refl _ _⟩
end Go.Proofs.YtfogkcccjemloaaGreatDoor
/- variable, names of the reference. -/
namespace Go.Proofs.YtfogkcccjemloaaGreatDoor
set_option linter.unusedVariables false
set_option linter.unusedSimpArgs false
open Go.RowKit Go.Sort
set_option maxRecDepth 20000 in
theorem rvariable_any (x : Xt) (w : World) : Calls Tryz.prog 52 #[xV x] w (Bel (.bool (hasVar x.k)) w) := by
  simp only [xV]
  go_enter Tryz.func52, Tryz.ntmps52
  go_wp2
  all_goals go_ret
  all_goals exact ⟨ret_bool (by simp_all [hasVar]), (by repeat (first | (with_reducible exact Below.refl _ _) | (with_reducible assumption) | (with_reducible exact bel_box _) | (with_reducible refine bel_step ?_ (by with_reducible assumption)) | (with_reducible refine Below.drew ?_) | (with_reducible refine below_drewN ?_ _) | (with_reducible refine bel_alloc ?_ _)))⟩
/-- the row l behind list, from the row v -/
def LqR (T : TypeId) (z : Nat) (w : World) (B : Nat) (v : Value) (n : Nat) (xs : List Value) (w' : World) (v' : Value) : Prop := w'.ownsRow B T z v' n xs ∧ w.grownBy w' v.ownBlock ∧ (v'.ownBlock = v.ownBlock ∨ ∃ j, v'.ownBlock = some j ∧ w.heap.size ≤ j)
/-- the row l while list is under way -/
def LqI (T : TypeId) (z : Nat) (w : World) (x : Xt) (B : Nat) (ob : Option Nat) (n : Nat) (xs : List Value) (v : Value) (wr : World) : Prop := wr.ownsRow B T z v n xs ∧ (bxW w x).grownBy wr ob ∧ (v.ownBlock = ob ∨ ∃ j, v.ownBlock = some j ∧ (bxW w x).heap.size ≤ j)
theorem LqI.open_ {T : TypeId} {z : Nat} {w wr : World} {x : Xt} {B n : Nat} {ob : Option Nat} {xs : List Value} {v : Value} (h : LqI T z w x B ob n xs v wr) (hB : B ≤ w.heap.size) (hl : ∀ j, ob = some j → B ≤ j ∧ j < w.heap.size) :
    Below B w wr ∧ (wr.cell? ⟨w.heap.size, 0, none⟩ = some (.int .i64 x.k) ∧ wr.cell? ⟨w.heap.size, 1, none⟩ = some (.int .i64 x.op) ∧ wr.cell? ⟨w.heap.size, 2, none⟩ = some (.int .i64 x.t) ∧ wr.cell? ⟨w.heap.size, 3, none⟩ = some (.int .i64 x.v) ∧ wr.cell? ⟨w.heap.size, 4, none⟩ = some (.string x.nm) ∧ wr.cell? ⟨w.heap.size, 5, none⟩ = some (.slice x.A x.ar.length x.c)) ∧ w.heap.size < wr.heap.size := by
  obtain ⟨_, hg, _⟩ := h
  have hz := hg.size
  rw [bxW_size] at hz
  have hne : some w.heap.size ≠ ob := fun e => by have := (hl _ e.symm).2; omega
  refine ⟨Below.grown ((bel_box _).mono hB) hg (by rw [bxW_size]; omega) (fun j hj => (hl j hj).1), ⟨?_, ?_, ?_, ?_, ?_, ?_⟩, by omega⟩ <;> exact hg.cell (by simp [go_sem]) hne
theorem LqI.next {T : TypeId} {z : Nat} {w wr w1 : World} {x : Xt} {B n m : Nat} {ob : Option Nat} {xs ys : List Value} {v v' : Value} (h : LqI T z w x B ob n xs v wr) (k : LqR T z wr B v m ys w1 v') : LqI T z w x B ob m ys v' w1 := by
  obtain ⟨_, hg, ha⟩ := h
  obtain ⟨k1, k2, k3⟩ := k
  have hz := hg.size
  refine ⟨k1, hg.andThen k2 fun j hj => ?_, ?_⟩
  · rcases ha with ha | ⟨j', e, hj'⟩
    · exact .inr (ha.symm.trans hj)
    · rw [e] at hj
      exact .inl (by have := Option.some.inj hj; omega)
  · rcases k3 with k3 | ⟨j, e, hj⟩
    · rw [k3]; exact ha
    · exact .inr ⟨j, e, by omega⟩
theorem LqI.first {T : TypeId} {z : Nat} {w W w3 : World} {x : Xt} {B m : Nat} {ob : Option Nat} {ys : List Value} {v' : Value} (hW : Below (bxW w x).heap.size (bxW w x) W) (h1 : w3.ownsRow B T z v' m ys) (h2 : W.grownBy w3 ob) (h3 : v'.ownBlock = ob ∨ v'.ownBlock = some W.heap.size) : LqI T z w x B ob m ys v' w3 := by
  refine ⟨h1, ?_, h3.imp id fun e => ⟨_, e, hW.size⟩⟩
  exact ((below_grown hW).but ob).andThen h2 fun j hj => .inr hj
theorem LqI.last {T : TypeId} {z : Nat} {w wr : World} {x : Xt} {B n : Nat} {v0 : Value} {xs : List Value} {v : Value} (h : LqI T z w x B v0.ownBlock n xs v wr) : LqR T z w B v0 n xs wr v := by
  obtain ⟨h1, h2, h3⟩ := h
  refine ⟨h1, (World.grownBy_alloc w _ _).trans h2, h3.imp id fun ⟨j, e, hj⟩ => ⟨j, e, by rw [bxW_size] at hj; omega⟩⟩
/-- the parts on which it depends at the same instant (or all) -/
def kidsI (b : Bool) (x : Xt) : List Xt := if (b && x.k == 5) = true then [] else if (b && x.k == 7) = true then x.ar.take 1 else x.ar
theorem kids_mem {b : Bool} {x y : Xt} (h : y ∈ kidsI b x) : y ∈ x.ar := by
  unfold kidsI at h
  split at h
  · cases h
  · split at h
    · exact List.mem_of_mem_take h
    · exact h
def Xt.lst (b : Bool) (x : Xt) : List Xt := x :: ((kidsI b x).attach.map fun a => Xt.lst b a.1).flatten
termination_by SizeOf.sizeOf x
decreasing_by exact Xt.lt_of_mem (kids_mem a.2)
theorem Xt.lst_eq (b : Bool) (x : Xt) : x.lst b = x :: ((kidsI b x).map (Xt.lst b)).flatten := by
  rw [Xt.lst]
  congr 2
  simp
def stepN (acc : List ByteArray) (x : Xt) : List ByteArray := if (hasVar x.k && !hasN acc x.nm) = true then acc ++ [x.nm] else acc
def nmS (b : Bool) (x : Xt) (acc : List ByteArray) : List ByteArray := (x.lst b).foldl stepN acc
theorem nm_eq (b : Bool) (x : Xt) (acc : List ByteArray) : nmS b x acc = (kidsI b x).foldl (fun a y => nmS b y a) (stepN acc x) := by
  unfold nmS
  rw [Xt.lst_eq, List.foldl_cons, List.foldl_flatten, List.foldl_map]
theorem step_length (acc : List ByteArray) (x : Xt) : (stepN acc x).length ≤ acc.length + 1 := by
  unfold stepN; split <;> simp
theorem kids_size (b : Bool) (x : Xt) : ((kidsI b x).map Xt.size).sum ≤ (x.ar.map Xt.size).sum := by
  unfold kidsI
  split
  · simp
  · split
    · exact sum_take_le _ _ _
    · exact Nat.le_refl _
theorem nm_length (b : Bool) (x : Xt) : ∀ acc, (nmS b x acc).length ≤ acc.length + x.size := by
  induction x using Xt.ind with
  | h x ih =>
    intro acc
    have hk := kids_size b x
    have hm : ∀ y ∈ kidsI b x, ∀ acc, (nmS b y acc).length ≤ acc.length + y.size := fun y hy => ih y (kids_mem hy)
    rw [nm_eq, Xt.size_eq]
    have key : ∀ (l : List Xt) (a : List ByteArray), (∀ y ∈ l, ∀ acc, (nmS b y acc).length ≤ acc.length + y.size) → (l.foldl (fun a y => nmS b y a) a).length ≤ a.length + (l.map Xt.size).sum := by
      intro l
      induction l with
      | nil => intro a _; simp
      | cons y l ih2 =>
        intro a h
        have h1 := h y (by simp) a
        have h2 := ih2 (nmS b y a) fun z hz => h z (by simp [hz])
        simp only [List.foldl_cons, List.map_cons, List.sum_cons]
        omega
    have h1 := key _ (stepN acc x) hm
    have h2 := step_length acc x
    omega
/-- whether names skips the argument i -/
def skp (b : Bool) (x : Xt) (i : Nat) : Bool := b && (x.k == 5 || x.k == 7 && decide (0 < i))
theorem kids_skip {b : Bool} {x : Xt} {i : Nat} (h : skp b x i = true) : (kidsI b x).take (i + 1) = (kidsI b x).take i := by
  unfold skp at h
  unfold kidsI
  cases b
  · simp at h
  · simp only [Bool.true_and] at h ⊢
    by_cases h5 : (x.k == 5) = true
    · rw [if_pos h5]; simp
    · rw [if_neg h5]
      rw [Bool.not_eq_true] at h5
      rw [h5, Bool.false_or, Bool.and_eq_true, decide_eq_true_eq] at h
      rw [if_pos h.1, List.take_take, List.take_take]
      congr 1
      omega
theorem kids_go {b : Bool} {x y : Xt} {i : Nat} (h : skp b x i = false) (hy : x.ar[i]? = some y) : (kidsI b x).take (i + 1) = (kidsI b x).take i ++ [y] := by
  unfold skp at h
  unfold kidsI
  cases b
  · exact take_succ_of hy
  · simp only [Bool.true_and] at h ⊢
    rw [Bool.or_eq_false_iff] at h
    rw [if_neg (by rw [h.1]; simp)]
    by_cases h7 : (x.k == 7) = true
    · rw [h7, Bool.true_and, decide_eq_false_iff_not] at h
      obtain rfl : i = 0 := by omega
      rw [if_pos h7, List.take_take]
      exact take_succ_of hy
    · rw [if_neg h7]
      exact take_succ_of hy
theorem kids_all (b : Bool) (x : Xt) : (kidsI b x).take x.ar.length = kidsI b x := by
  apply List.take_of_length_le
  unfold kidsI
  split
  · simp
  · split
    · simp; omega
    · exact Nat.le_refl _
theorem parts_names (b : Bool) (x : Xt) (acc : List ByteArray) : ∃ G : Nat → List ByteArray, nmS b x acc = G x.ar.length ∧ G 0 = stepN acc x ∧ Hid (∀ k, skp b x k = true → G (k + 1) = G k) ∧ Hid (∀ k y, skp b x k = false → x.ar[k]? = some y → G (k + 1) = nmS b y (G k)) := by
  refine ⟨fun k => ((kidsI b x).take k).foldl (fun a y => nmS b y a) (stepN acc x), ?_, rfl, Lib.hid fun k h => ?_, Lib.hid fun k y h hy => ?_⟩
  · show _ = List.foldl _ _ (List.take x.ar.length _)
    rw [kids_all, nm_eq]
  · show List.foldl _ _ (List.take (k + 1) _) = _
    rw [kids_skip h]
  · show List.foldl _ _ (List.take (k + 1) _) = _
    rw [kids_go h hy, List.foldl_append]
    rfl
theorem stInfo : (Tryz.prog.info? 9).map (fun i => (i.zero, i.size, i.bytes)) = some (some (.string ⟨#[]⟩), 1, 16) := by kernel_rfl
theorem row1 (W : World) (nm : ByteArray) (t : TypeId) : ∀ j u, [Value.string nm][j]? = some u → (W.alloc (.cells #[.string nm] t)).cell? ((⟨W.heap.size, 0, none⟩ : Addr).add j) = some u := by
  intro j u hu
  rcases j with _ | j
  · obtain rfl : Value.string nm = u := by simpa using hu
    rw [show (Addr.add ⟨W.heap.size, 0, none⟩ 0) = ⟨W.heap.size, 0, none⟩ from rfl]
    simp [go_sem]
  · simp at hu
end Go.Proofs.YtfogkcccjemloaaGreatDoor
/- Rename of the reference: the row under way. -/
namespace Go.Proofs.YtfogkcccjemloaaGreatDoor
set_option linter.unusedVariables false
set_option linter.unusedSimpArgs false
open Go.RowKit Go.Sort Go.Deep
theorem KW.of_grown {g : Option Nat} {W W' : World} (h : W.grownBy W' g) : KW g W W' := ⟨h.size, fun p hp hg => by
  have e := h.block p.block hp hg
  exact ⟨World.cell?_of_block e, World.frozen?_of_block e⟩⟩
/-- the boxes, the argument's writable too -/
structure CB2 (w : World) (x : Xt) (nm : ByteArray) (W : World) : Prop where
  cb : CB w x nm (.slice x.A x.ar.length x.c) W
  ef : ∀ i, i < 6 → W.frozen? ⟨w.heap.size, i, none⟩ = false
theorem CB2.keep {w W W' : World} {x : Xt} {nm : ByteArray} {g : Option Nat} (h : CB2 w x nm W) (hk : KW g W W') (h0 : some w.heap.size ≠ g) (h1 : some (w.heap.size + 1) ≠ g) : CB2 w x nm W' :=
  ⟨h.cb.keep hk h0 h1, fun i hi => ((hk.2 ⟨w.heap.size, i, none⟩ (show w.heap.size < W.heap.size by have := h.cb.lt; omega) h0).2).trans (h.ef i hi)⟩
/-- the row l under way -/
structure LR (ρ : Int → ByteArray → ByteArray) (x : Xt) (B k : Nat) (T : TypeId) (v : Value) (L : List Xt) (W : World) : Prop where
  len : L.length = k
  ct : L.map Xt.ct = (x.ar.take k).map (Xt.rc ρ)
  rd : ∀ y ∈ L, RdP W (fun b => B ≤ b ∧ some b ≠ v.ownBlock ∧ b < W.heap.size) y
  own : W.ownsRow B T 6 v k (xsC L)
theorem own_lt {W : World} {B n : Nat} {T : TypeId} {v : Value} {xs : List Value} {s : Nat} (h : W.ownsRow B T s v n xs) : ∀ j, v.ownBlock = some j → B ≤ j ∧ j < W.heap.size := by
  intro j hj
  rcases h.2 with ⟨rfl, _⟩ | ⟨g, cap, cur, rfl, hb, hg, _⟩
  · cases hj
  · obtain rfl : g = j := by simpa [Value.ownBlock] using hj
    exact ⟨hb, (Array.getElem?_eq_some_iff.1 hg).1⟩
theorem LR.step {ρ : Int → ByteArray → ByteArray} {x y y' : Xt} {B k : Nat} {T : TypeId} {v v3 : Value} {L : List Xt} {W W5 w3 : World} {o : Obj} (h : LR ρ x B k T v L W) (hB : B ≤ W.heap.size) (hy : x.ar[k]? = some y) (hk : Below W.heap.size W W5) (hc : y'.ct = y.rc ρ) (hr : RdP W5 (fun b => W.heap.size ≤ b ∧ b < W5.heap.size) y')
    (h1 : w3.ownsRow B T 6 v3 (k + 1) (xsC L ++ xCs y')) (h2 : (W5.alloc o).grownBy w3 v.ownBlock) (h3 : v3.ownBlock = v.ownBlock ∨ v3.ownBlock = some (W5.alloc o).heap.size) :
    LR ρ x B (k + 1) T v3 (L ++ [y']) w3 ∧ KW v.ownBlock W w3 := by
  have hlt := own_lt h.own
  have hz2 := h2.size
  rw [World.size_alloc] at hz2
  have hz := hk.size
  have K1 : KW v.ownBlock W5 w3 := (KW.of_below (bel_alloc (Below.refl _ _) o)).trans (KW.of_grown h2)
  have K0 : KW v.ownBlock W w3 := (KW.of_below hk).trans K1
  have hne : ∀ b, b < W5.heap.size → some b ≠ v.ownBlock → some b ≠ v3.ownBlock := fun b hb hn e => by
    rcases h3 with h3 | h3
    · exact hn (e.trans h3)
    · have := Option.some.inj (e.trans h3)
      rw [World.size_alloc] at this
      omega
  refine ⟨⟨by rw [List.length_append, h.len]; rfl, ?_, fun z hz' => ?_, ?_⟩, K0⟩
  · rw [List.map_append, h.ct, take_succ_of hy, List.map_append]
    simp [hc]
  · rcases List.mem_append.1 hz' with hz' | hz'
    · exact (h.rd z hz').keep (fun b ⟨g1, g2, g3⟩ => ⟨g1, hne b (by omega) g2, by omega⟩) (fun p ⟨_, g2, g3⟩ => (K0.2 p g3 g2).1)
    · obtain rfl := List.mem_singleton.1 hz'
      have hnv : ∀ b, W.heap.size ≤ b → some b ≠ v.ownBlock := fun b hb e => by have := (hlt b e.symm).2; omega
      exact hr.keep (fun b ⟨g1, g2⟩ => ⟨by omega, hne b g2 (hnv b g1), by omega⟩) (fun p ⟨g1, g2⟩ => (K1.2 p g2 (hnv _ g1)).1)
  · rw [xsC_app]
    simpa [xsC] using h1
theorem LR.node {ρ : Int → ByteArray → ByteArray} {x : Xt} {B c : Nat} {T : TypeId} {A : Option Addr} {L : List Xt} {W : World} {nm : ByteArray} (h : LR ρ x B x.ar.length T (.slice A x.ar.length c) L W) (hn : nm.size ≤ maxLen) (hm : ρ x.k x.nm = nm) :
    (Xt.mk x.k x.op x.t x.v nm A c L).ct = x.rc ρ ∧ RdP W (fun b => B ≤ b ∧ b < W.heap.size) (.mk x.k x.op x.t x.v nm A c L) ∧ L.length = x.ar.length := by
  have hl := h.len
  have hown := h.own
  refine ⟨?_, ?_, hl⟩
  · rw [Xt.ct_eq, Xt.rc_eq, hm]
    show Xc.mk _ _ _ _ _ (L.map Xt.ct) = _
    rw [h.ct, List.take_length]
    rfl
  · rw [← hl] at hown
    have hX := RdXs.of_own hown
    rcases hown.2 with ⟨e, hl0⟩ | ⟨g, cap, cur, e, hb, hg, hnc, hcm, _⟩
    · obtain rfl : L = [] := List.length_eq_zero_iff.1 hl0
      refine .mk _ (fun h => absurd rfl h) (fun _ _ _ _ h => ?_) (fun _ h => ?_) ⟨⟨Nat.zero_le _, hn⟩, Nat.zero_le _⟩
      · cases h
      · cases h
    · obtain ⟨rfl, rfl⟩ : A = some ⟨g, 0, none⟩ ∧ c = cap := by injection e with e1 e2 e3; exact ⟨e1, e3⟩
      refine .mk _ (fun _ => ⟨_, rfl, hb, (Array.getElem?_eq_some_iff.1 hg).1⟩) (fun ad i y hA hy => ?_) (fun y hy => (h.rd y hy).keep (fun b ⟨h1, _, h3⟩ => ⟨h1, h3⟩) (fun _ _ => rfl)) ⟨⟨Nat.le_trans hnc hcm, hn⟩, hnc⟩
      obtain rfl := Option.some.inj hA
      obtain ⟨ad', e', _, hc⟩ := hX (by intro e0; rw [show L = [] from e0] at hy; cases hy)
      obtain rfl := Option.some.inj e'
      exact hc i y hy
theorem row6s (W : World) (x : Xt) (t : TypeId) : ∀ j u, (xCs x)[j]? = some u → (W.alloc (.cells #[.int .i64 x.k, .int .i64 x.op, .int .i64 x.t, .int .i64 x.v, .string x.nm, .slice x.A x.ar.length x.c] t)).cell? ((⟨W.heap.size, 0, none⟩ : Addr).add j) = some u := by
  intro j u hu
  have hz : ∀ k : Nat, (W.alloc (.cells #[.int .i64 x.k, .int .i64 x.op, .int .i64 x.t, .int .i64 x.v, .string x.nm, .slice x.A x.ar.length x.c] t)).cell? ((⟨W.heap.size, 0, none⟩ : Addr).add k) = (xCs x)[k]? := by
    intro k
    rcases k with _ | _ | _ | _ | _ | _ | k <;> simp [go_sem, Addr.add, xCs]
  rw [hz]; exact hu
end Go.Proofs.YtfogkcccjemloaaGreatDoor
/- Rename of the reference. -/
namespace Go.Proofs.YtfogkcccjemloaaGreatDoor
set_option linter.unusedVariables false
set_option linter.unusedSimpArgs false
open Go.RowKit Go.Sort Go.Deep
set_option maxHeartbeats 4000000 in
set_option maxRecDepth 20000 in
theorem rrename_any (a b : ByteArray) (hbz : b.size ≤ maxLen) (x : Xt) : ∀ w, RdX w w.heap.size x → x.size ≤ 100000 → Calls Tryz.prog 31 #[xV x, .string a, .string b] w (NewE (x.rc (rnm a b)) w) := by
  induction x using Xt.ind with
  | h x ih =>
    intro w hX hs
    obtain ⟨i0, hi, iz, is, ib⟩ := info_parts xpInfo
    have hcl : x.ar.length ≤ 100000 := by
      obtain ⟨F, hF, _, hFl, _, _⟩ := parts_sum x
      omega
    obtain ⟨nm, hnm⟩ : ∃ nm, rnm a b x.k x.nm = nm := ⟨_, rfl⟩
    have KV := Lib.hid (fun W => rvariable_any x W)
    have IH : Hid (∀ (k : Nat) (y : Xt), x.ar[k]? = some y → ∀ W, RdX W W.heap.size y → Calls Tryz.prog 31 #[xV y, .string a, .string b] W (NewE (y.rc (rnm a b)) W)) := Lib.hid fun k y hy W hR => ih y (List.mem_of_getElem? hy) W hR (by
        obtain ⟨F, hF, _, _, HN, HL⟩ := parts_sum x
        have := HN.out k y hy
        have := HL.out (k + 1)
        omega)
    have HX := Lib.hid hX
    have HNM := Lib.hid hnm
    have hsn : nm.size ≤ maxLen := hnm ▸ rnm_size hbz _ _ hX.len.2
    have HSN := Lib.hid hsn
    clear hX ih hs hsn
    unfold rnm at hnm
    simp only [xV] at KV IH ⊢
    cases h1 : hasVar x.k
    · rw [h1] at KV hnm
      rw [Bool.false_and, if_neg (by simp)] at hnm
      have HN2 := Lib.hid hnm
      clear hnm
      go_enter Tryz.func31, Tryz.ntmps31
      go_wp2_with (go_at_call 52; (with_reducible refine (KV.out _).mono ?_); rintro e w1 ⟨rfl, hb1⟩; obtain ⟨b0, b1, b2, b3, b4, b5, _⟩ := bxW_cells (w := w) (x := x) (W := w1) (by repeat (first | (with_reducible exact Below.refl _ _) | (with_reducible assumption) | (with_reducible exact bel_box _) | (with_reducible refine bel_step ?_ (by with_reducible assumption)) | (with_reducible refine Below.drew ?_) | (with_reducible refine below_drewN ?_ _) | (with_reducible refine bel_alloc ?_ _))); obtain ⟨f0, f1, f2, f3, f4, f5, ⟨r0, r1, r2, r3, r4, r5⟩, rf, rz, hw1⟩ := chg_box (w := w) (x := x) (W := w1) (T := 24) hb1)
      have hcb0 : CB2 w x nm w1 := ⟨⟨b0, b1, b2, b3, HN2.out ▸ b4, b5, r0, r1, r2, r3, r4, r5, rf, rz⟩, fun i hi => by rcases i with _ | _ | _ | _ | _ | _ | i <;> first | exact f0 | exact f1 | exact f2 | exact f3 | exact f4 | exact f5 | omega⟩
      have HC := Lib.hid hcb0
      have hbw := hw1
      have HBz : Hid (w.heap.size + 2 ≤ w1.heap.size) := Lib.hid rz
      clear hcb0 b0 b1 b2 b3 b4 b5 f0 f1 f2 f3 f4 f5 r0 r1 r2 r3 r4 r5 rf rz hw1 hb1
      obtain ⟨W2, hW2⟩ : ∃ W2, w1 = W2 := ⟨_, rfl⟩
      rw [hW2] at HC hbw HBz ⊢
      clear hW2
      have HB := Lib.hid (And.intro hbw (Nat.le_refl W2.heap.size))
      generalize hBB : W2.heap.size = B at HB
      rw [hBB] at HBz
      have HBB := Lib.hid hBB
      clear hBB hbw
      go_loopw [7, 8] (fun v i wr => ∃ k : Nat, k ≤ x.ar.length ∧ i = .int .i64 (k : Int) ∧ Hid (CB2 w x nm wr) ∧ Hid (Below w.heap.size w wr) ∧ Hid (B ≤ wr.heap.size) ∧ ∃ L, Hid (LR (rnm a b) x B k 24 v L wr)) (fun _ i _ => x.ar.length - (intOf i).toNat)
      case atStart => exact ⟨0, by omega, rfl, HC, Lib.hid HB.out.1, Lib.hid (Nat.le_of_eq HBB.out.symm), [], Lib.hid ⟨rfl, rfl, (fun y h => absurd h (by simp)), World.ownsRow_nil _ _ _ _⟩⟩
      case round =>
        obtain ⟨k, hk, rfl, hcb, hbl, hBw, L, hlr⟩ := hrel
        obtain ⟨V, cv, rfl⟩ := own_form6 hlr.out.own
        obtain ⟨⟨c0, c1, c2, c3, c4, c5, r0, r1, r2, r3, r4, r5, rf, rlt⟩, ef⟩ := hcb.out
        by_cases hlt : k < x.ar.length
        · obtain ⟨ad', y, hA, had, hy, hm, ⟨d0, d1, d2, d3, d4, d5⟩, hr⟩ := (HX.out.to hbl.out).at_ hlt
          rw [hA] at c5
          have KR : Hid (∀ W, Below wr.heap.size wr W → Calls Tryz.prog 31 #[.agg #[.int .i64 y.k, .int .i64 y.op, .int .i64 y.t, .int .i64 y.v, .string y.nm, .slice y.A y.ar.length y.c], .string a, .string b] W (fun e w' => ∃ y' : Xt, e = .returned (.agg #[.int .i64 y'.k, .int .i64 y'.op, .int .i64 y'.t, .int .i64 y'.v, .string y'.nm, .slice y'.A y'.ar.length y'.c]) ∧ y'.ct = y.rc (rnm a b) ∧ RdP w' (fun b => W.heap.size ≤ b ∧ b < w'.heap.size) y' ∧ Below W.heap.size W w')) := Lib.hid fun W hb => IH.out k y hy W (hr.to hb)
          have HY := Lib.hid hy
          clear hA hy hm hr rf ef r0 r1 r2 r3 r4 r5 c0 c1 c2 c3 c4 HC HB HBB
          go_wp2_with (first
            | (go_at_call 31; (with_reducible refine (KR.out _ ?_).mono ?_); (focus ((repeat (first | (with_reducible exact Below.refl _ _) | (with_reducible assumption) | (with_reducible exact bel_box _) | (with_reducible refine bel_step ?_ (by with_reducible assumption)) | (with_reducible refine Below.drew ?_) | (with_reducible refine below_drewN ?_ _) | (with_reducible refine bel_alloc ?_ _))); done)); rintro e w5 ⟨y', rfl, hct, hrd, hb5⟩; have HS := Lib.hid (fun o v3 w3 => hlr.out.step (o := o) (v3 := v3) (w3 := w3) hBw.out HY.out hb5 hct hrd); clear hct hrd)
            | (at_builtin; (refine wpList_append_own_at _ rfl _ _ 22 rfl B 24 i0 (.agg #[.int .i64 0, .int .i64 0, .int .i64 0, .int .i64 0, .string ⟨#[]⟩, .slice none 0 0]) 6 72 Tryz.underlying22 hi iz is ib rfl (by decide) _ k (xsC L) rfl (own_keep6 hlr.out.own ?_) ⟨w5.heap.size, 0, none⟩ 1 1 (xCs y') rfl rfl (row6s _ _ _) (x_one y') (by unfold maxLen; omega) (by omega) ?_ ?_; (focus ((repeat (first | (with_reducible exact Below.refl _ _) | (with_reducible assumption) | (with_reducible exact bel_box _) | (with_reducible refine bel_step ?_ (by with_reducible assumption)) | (with_reducible refine Below.drew ?_) | (with_reducible refine below_drewN ?_ _) | (with_reducible refine bel_alloc ?_ _))); done)); (focus (have := hBw.out; have := hb5.size; simp only [World.size_alloc]; omega)); intro v3 w3 hown3 hgrow3 _ hat3; have HSS := Lib.hid (HS.out _ _ _ hown3 hgrow3 hat3); have HSO := Lib.hid (And.intro hb5 hgrow3); have HZZ := Lib.hid (Nat.le_trans (Nat.le_trans hb5.size (by rw [World.size_alloc]; exact Nat.le_succ _)) hgrow3.size); clear hown3 hgrow3 hat3 HS hb5)))
          have N1 : Hid (CB2 w x nm w3) := Lib.hid (hcb.out.keep HSS.out.2 (fun e => by have h1 := (own_lt hlr.out.own _ e.symm).1; have h2 := HBz.out; omega) (fun e => by have h1 := (own_lt hlr.out.own _ e.symm).1; have h2 := HBz.out; omega))
          have N2 : Hid (Below w.heap.size w w3) := Lib.hid (Below.grown (bel_alloc (hbl.out.trans (HSO.out.1.mono hbl.out.size)) _) HSO.out.2 (by have h1 := hbl.out.size; have h2 := HSO.out.1.size; simp only [World.size_alloc]; omega) (fun j e => by have h1 := (own_lt hlr.out.own _ e).1; have h2 := HBz.out; omega))
          have N3 : Hid (B ≤ w3.heap.size) := Lib.hid (Nat.le_trans hBw.out HZZ.out)
          have N4 := Lib.hid HSS.out.1
          exact ⟨⟨k + 1, by omega, by congr 1, N1, N2, N3, _, N4⟩, by simp [intOf]; omega⟩
        · obtain rfl : k = x.ar.length := by omega
          have q0 := rf 0 (by decide)
          have q1 := rf 1 (by decide)
          have q2 := rf 2 (by decide)
          have q3 := rf 3 (by decide)
          have q4 := rf 4 (by decide)
          have q5 := rf 5 (by decide)
          have p5 := ef 5 (by decide)
          have nz : ∀ i, (⟨w.heap.size, 5, none⟩ : Addr) ≠ ⟨w.heap.size + 1, i, none⟩ := fun i e => by injection e with e; omega
          obtain ⟨⟨g0, g1, g2, g3, g4, g5⟩, gf, gc, gz⟩ := st6_cells (W := wr.setCell ⟨w.heap.size, 5, none⟩ (.slice V x.ar.length cv)) ((World.cell?_setCell_other _ _ _ _ (nz 0)).trans r0) ((World.cell?_setCell_other _ _ _ _ (nz 1)).trans r1) ((World.cell?_setCell_other _ _ _ _ (nz 2)).trans r2) ((World.cell?_setCell_other _ _ _ _ (nz 3)).trans r3) ((World.cell?_setCell_other _ _ _ _ (nz 4)).trans r4) ((World.cell?_setCell_other _ _ _ _ (nz 5)).trans r5) x.k x.op x.t x.v nm (.slice V x.ar.length cv)
          have HF := Lib.hid (st6_below (hbl.out.setCell (p := ⟨w.heap.size, 5, none⟩) (Nat.le_refl _) (.slice V x.ar.length cv)) (Nat.le_succ _) x.k x.op x.t x.v nm (.slice V x.ar.length cv))
          have HND := Lib.hid (hlr.out.node HSN.out HNM.out)
          have HGC := Lib.hid (And.intro gc gz)
          dsimp only [st6] at g0 g1 g2 g3 g4 g5
          clear rf ef gf gc gz nz
          go_wp2
          refine bodyPost_ret (v := .agg #[.int .i64 x.k, .int .i64 x.op, .int .i64 x.t, .int .i64 x.v, .string nm, .slice V x.ar.length cv]) (by simp [results, Tryz.f31, go_sem, g0, g1, g2, g3, g4, g5]) rfl ?_
          obtain ⟨n1, n2, n3⟩ := HND.out
          have hbz := HBz.out
          refine ⟨.mk x.k x.op x.t x.v nm V cv L, by rw [← n3]; rfl, n1, n2.keep (fun b ⟨h1, h2⟩ => ⟨by omega, ?_⟩) (fun p ⟨h1, _⟩ => (HGC.out.1 p (by omega)).trans (World.cell?_setCell_other _ _ _ _ (fun e => by rw [← e] at h1; simp only at h1; omega))), HF.out⟩
          rw [HGC.out.2]; simp only [World.setCell]; simpa using h2
    cases h2 : (x.nm.toList == a.toList)
    · rw [h1] at KV hnm
      rw [h2, Bool.true_and, if_neg (by simp)] at hnm
      have HN2 := Lib.hid hnm
      clear hnm
      go_enter Tryz.func31, Tryz.ntmps31
      go_wp2_with (go_at_call 52; (with_reducible refine (KV.out _).mono ?_); rintro e w1 ⟨rfl, hb1⟩; obtain ⟨b0, b1, b2, b3, b4, b5, _⟩ := bxW_cells (w := w) (x := x) (W := w1) (by repeat (first | (with_reducible exact Below.refl _ _) | (with_reducible assumption) | (with_reducible exact bel_box _) | (with_reducible refine bel_step ?_ (by with_reducible assumption)) | (with_reducible refine Below.drew ?_) | (with_reducible refine below_drewN ?_ _) | (with_reducible refine bel_alloc ?_ _))); obtain ⟨f0, f1, f2, f3, f4, f5, ⟨r0, r1, r2, r3, r4, r5⟩, rf, rz, hw1⟩ := chg_box (w := w) (x := x) (W := w1) (T := 24) hb1)
      have hcb0 : CB2 w x nm w1 := ⟨⟨b0, b1, b2, b3, HN2.out ▸ b4, b5, r0, r1, r2, r3, r4, r5, rf, rz⟩, fun i hi => by rcases i with _ | _ | _ | _ | _ | _ | i <;> first | exact f0 | exact f1 | exact f2 | exact f3 | exact f4 | exact f5 | omega⟩
      have HC := Lib.hid hcb0
      have hbw := hw1
      have HBz : Hid (w.heap.size + 2 ≤ w1.heap.size) := Lib.hid rz
      clear hcb0 b0 b1 b2 b3 b4 b5 f0 f1 f2 f3 f4 f5 r0 r1 r2 r3 r4 r5 rf rz hw1 hb1
      obtain ⟨W2, hW2⟩ : ∃ W2, w1 = W2 := ⟨_, rfl⟩
      rw [hW2] at HC hbw HBz ⊢
      clear hW2
      have HB := Lib.hid (And.intro hbw (Nat.le_refl W2.heap.size))
      generalize hBB : W2.heap.size = B at HB
      rw [hBB] at HBz
      have HBB := Lib.hid hBB
      clear hBB hbw
      go_loopw [7, 8] (fun v i wr => ∃ k : Nat, k ≤ x.ar.length ∧ i = .int .i64 (k : Int) ∧ Hid (CB2 w x nm wr) ∧ Hid (Below w.heap.size w wr) ∧ Hid (B ≤ wr.heap.size) ∧ ∃ L, Hid (LR (rnm a b) x B k 24 v L wr)) (fun _ i _ => x.ar.length - (intOf i).toNat)
      case atStart => exact ⟨0, by omega, rfl, HC, Lib.hid HB.out.1, Lib.hid (Nat.le_of_eq HBB.out.symm), [], Lib.hid ⟨rfl, rfl, (fun y h => absurd h (by simp)), World.ownsRow_nil _ _ _ _⟩⟩
      case round =>
        obtain ⟨k, hk, rfl, hcb, hbl, hBw, L, hlr⟩ := hrel
        obtain ⟨V, cv, rfl⟩ := own_form6 hlr.out.own
        obtain ⟨⟨c0, c1, c2, c3, c4, c5, r0, r1, r2, r3, r4, r5, rf, rlt⟩, ef⟩ := hcb.out
        by_cases hlt : k < x.ar.length
        · obtain ⟨ad', y, hA, had, hy, hm, ⟨d0, d1, d2, d3, d4, d5⟩, hr⟩ := (HX.out.to hbl.out).at_ hlt
          rw [hA] at c5
          have KR : Hid (∀ W, Below wr.heap.size wr W → Calls Tryz.prog 31 #[.agg #[.int .i64 y.k, .int .i64 y.op, .int .i64 y.t, .int .i64 y.v, .string y.nm, .slice y.A y.ar.length y.c], .string a, .string b] W (fun e w' => ∃ y' : Xt, e = .returned (.agg #[.int .i64 y'.k, .int .i64 y'.op, .int .i64 y'.t, .int .i64 y'.v, .string y'.nm, .slice y'.A y'.ar.length y'.c]) ∧ y'.ct = y.rc (rnm a b) ∧ RdP w' (fun b => W.heap.size ≤ b ∧ b < w'.heap.size) y' ∧ Below W.heap.size W w')) := Lib.hid fun W hb => IH.out k y hy W (hr.to hb)
          have HY := Lib.hid hy
          clear hA hy hm hr rf ef r0 r1 r2 r3 r4 r5 c0 c1 c2 c3 c4 HC HB HBB
          go_wp2_with (first
            | (go_at_call 31; (with_reducible refine (KR.out _ ?_).mono ?_); (focus ((repeat (first | (with_reducible exact Below.refl _ _) | (with_reducible assumption) | (with_reducible exact bel_box _) | (with_reducible refine bel_step ?_ (by with_reducible assumption)) | (with_reducible refine Below.drew ?_) | (with_reducible refine below_drewN ?_ _) | (with_reducible refine bel_alloc ?_ _))); done)); rintro e w5 ⟨y', rfl, hct, hrd, hb5⟩; have HS := Lib.hid (fun o v3 w3 => hlr.out.step (o := o) (v3 := v3) (w3 := w3) hBw.out HY.out hb5 hct hrd); clear hct hrd)
            | (at_builtin; (refine wpList_append_own_at _ rfl _ _ 22 rfl B 24 i0 (.agg #[.int .i64 0, .int .i64 0, .int .i64 0, .int .i64 0, .string ⟨#[]⟩, .slice none 0 0]) 6 72 Tryz.underlying22 hi iz is ib rfl (by decide) _ k (xsC L) rfl (own_keep6 hlr.out.own ?_) ⟨w5.heap.size, 0, none⟩ 1 1 (xCs y') rfl rfl (row6s _ _ _) (x_one y') (by unfold maxLen; omega) (by omega) ?_ ?_; (focus ((repeat (first | (with_reducible exact Below.refl _ _) | (with_reducible assumption) | (with_reducible exact bel_box _) | (with_reducible refine bel_step ?_ (by with_reducible assumption)) | (with_reducible refine Below.drew ?_) | (with_reducible refine below_drewN ?_ _) | (with_reducible refine bel_alloc ?_ _))); done)); (focus (have := hBw.out; have := hb5.size; simp only [World.size_alloc]; omega)); intro v3 w3 hown3 hgrow3 _ hat3; have HSS := Lib.hid (HS.out _ _ _ hown3 hgrow3 hat3); have HSO := Lib.hid (And.intro hb5 hgrow3); have HZZ := Lib.hid (Nat.le_trans (Nat.le_trans hb5.size (by rw [World.size_alloc]; exact Nat.le_succ _)) hgrow3.size); clear hown3 hgrow3 hat3 HS hb5)))
          have N1 : Hid (CB2 w x nm w3) := Lib.hid (hcb.out.keep HSS.out.2 (fun e => by have h1 := (own_lt hlr.out.own _ e.symm).1; have h2 := HBz.out; omega) (fun e => by have h1 := (own_lt hlr.out.own _ e.symm).1; have h2 := HBz.out; omega))
          have N2 : Hid (Below w.heap.size w w3) := Lib.hid (Below.grown (bel_alloc (hbl.out.trans (HSO.out.1.mono hbl.out.size)) _) HSO.out.2 (by have h1 := hbl.out.size; have h2 := HSO.out.1.size; simp only [World.size_alloc]; omega) (fun j e => by have h1 := (own_lt hlr.out.own _ e).1; have h2 := HBz.out; omega))
          have N3 : Hid (B ≤ w3.heap.size) := Lib.hid (Nat.le_trans hBw.out HZZ.out)
          have N4 := Lib.hid HSS.out.1
          exact ⟨⟨k + 1, by omega, by congr 1, N1, N2, N3, _, N4⟩, by simp [intOf]; omega⟩
        · obtain rfl : k = x.ar.length := by omega
          have q0 := rf 0 (by decide)
          have q1 := rf 1 (by decide)
          have q2 := rf 2 (by decide)
          have q3 := rf 3 (by decide)
          have q4 := rf 4 (by decide)
          have q5 := rf 5 (by decide)
          have p5 := ef 5 (by decide)
          have nz : ∀ i, (⟨w.heap.size, 5, none⟩ : Addr) ≠ ⟨w.heap.size + 1, i, none⟩ := fun i e => by injection e with e; omega
          obtain ⟨⟨g0, g1, g2, g3, g4, g5⟩, gf, gc, gz⟩ := st6_cells (W := wr.setCell ⟨w.heap.size, 5, none⟩ (.slice V x.ar.length cv)) ((World.cell?_setCell_other _ _ _ _ (nz 0)).trans r0) ((World.cell?_setCell_other _ _ _ _ (nz 1)).trans r1) ((World.cell?_setCell_other _ _ _ _ (nz 2)).trans r2) ((World.cell?_setCell_other _ _ _ _ (nz 3)).trans r3) ((World.cell?_setCell_other _ _ _ _ (nz 4)).trans r4) ((World.cell?_setCell_other _ _ _ _ (nz 5)).trans r5) x.k x.op x.t x.v nm (.slice V x.ar.length cv)
          have HF := Lib.hid (st6_below (hbl.out.setCell (p := ⟨w.heap.size, 5, none⟩) (Nat.le_refl _) (.slice V x.ar.length cv)) (Nat.le_succ _) x.k x.op x.t x.v nm (.slice V x.ar.length cv))
          have HND := Lib.hid (hlr.out.node HSN.out HNM.out)
          have HGC := Lib.hid (And.intro gc gz)
          dsimp only [st6] at g0 g1 g2 g3 g4 g5
          clear rf ef gf gc gz nz
          go_wp2
          refine bodyPost_ret (v := .agg #[.int .i64 x.k, .int .i64 x.op, .int .i64 x.t, .int .i64 x.v, .string nm, .slice V x.ar.length cv]) (by simp [results, Tryz.f31, go_sem, g0, g1, g2, g3, g4, g5]) rfl ?_
          obtain ⟨n1, n2, n3⟩ := HND.out
          have hbz := HBz.out
          refine ⟨.mk x.k x.op x.t x.v nm V cv L, by rw [← n3]; rfl, n1, n2.keep (fun b ⟨h1, h2⟩ => ⟨by omega, ?_⟩) (fun p ⟨h1, _⟩ => (HGC.out.1 p (by omega)).trans (World.cell?_setCell_other _ _ _ _ (fun e => by rw [← e] at h1; simp only at h1; omega))), HF.out⟩
          rw [HGC.out.2]; simp only [World.setCell]; simpa using h2
    · rw [h1] at KV hnm
      rw [h2, Bool.true_and, if_pos rfl] at hnm
      have HN2 := Lib.hid hnm
      clear hnm
      go_enter Tryz.func31, Tryz.ntmps31
      go_wp2_with (go_at_call 52; (with_reducible refine (KV.out _).mono ?_); rintro e w1 ⟨rfl, hb1⟩; obtain ⟨b0, b1, b2, b3, b4, b5, _⟩ := bxW_cells (w := w) (x := x) (W := w1) (by repeat (first | (with_reducible exact Below.refl _ _) | (with_reducible assumption) | (with_reducible exact bel_box _) | (with_reducible refine bel_step ?_ (by with_reducible assumption)) | (with_reducible refine Below.drew ?_) | (with_reducible refine below_drewN ?_ _) | (with_reducible refine bel_alloc ?_ _))); obtain ⟨f0, f1, f2, f3, f4, f5, ⟨r0, r1, r2, r3, r4, r5⟩, rf, rz, hw1⟩ := chg_box (w := w) (x := x) (W := w1) (T := 24) hb1)
      have nw : ∀ (p : Addr), p ≠ ⟨w.heap.size, 4, none⟩ → (w1.setCell ⟨w.heap.size, 4, none⟩ (.string b)).cell? p = w1.cell? p := fun p h => World.cell?_setCell_other _ _ _ _ h.symm
      have n0 : ∀ i, i ≠ 4 → (⟨w.heap.size, i, none⟩ : Addr) ≠ ⟨w.heap.size, 4, none⟩ := fun i h e => h (by injection e)
      have n1 : ∀ i, (⟨w.heap.size + 1, i, none⟩ : Addr) ≠ ⟨w.heap.size, 4, none⟩ := fun i e => by injection e with e; omega
      have hcb0 : CB2 w x nm (w1.setCell ⟨w.heap.size, 4, none⟩ (.string b)) := ⟨⟨(nw _ (n0 0 (by decide))).trans b0, (nw _ (n0 1 (by decide))).trans b1, (nw _ (n0 2 (by decide))).trans b2, (nw _ (n0 3 (by decide))).trans b3, HN2.out ▸ World.cell?_setCell_same' _ _ _ (by rw [b4]; rfl), (nw _ (n0 5 (by decide))).trans b5, (nw _ (n1 0)).trans r0, (nw _ (n1 1)).trans r1, (nw _ (n1 2)).trans r2, (nw _ (n1 3)).trans r3, (nw _ (n1 4)).trans r4, (nw _ (n1 5)).trans r5, (fun i hi => (World.frozen?_setCell _ _ _ _).trans (rf i hi)), by simpa [World.setCell] using rz⟩, fun i hi => (World.frozen?_setCell _ _ _ _).trans (by rcases i with _ | _ | _ | _ | _ | _ | i <;> first | exact f0 | exact f1 | exact f2 | exact f3 | exact f4 | exact f5 | omega)⟩
      have HC := Lib.hid hcb0
      have hbw := hw1.setCell (p := ⟨w.heap.size, 4, none⟩) (Nat.le_refl _) (.string b)
      have HBz : Hid (w.heap.size + 2 ≤ (w1.setCell ⟨w.heap.size, 4, none⟩ (.string b)).heap.size) := Lib.hid hcb0.cb.lt
      clear hcb0 nw n0 n1 b0 b1 b2 b3 b4 b5 f0 f1 f2 f3 f4 f5 r0 r1 r2 r3 r4 r5 rf rz hw1 hb1
      obtain ⟨W2, hW2⟩ : ∃ W2, w1.setCell ⟨w.heap.size, 4, none⟩ (.string b) = W2 := ⟨_, rfl⟩
      rw [hW2] at HC hbw HBz ⊢
      clear hW2
      have HB := Lib.hid (And.intro hbw (Nat.le_refl W2.heap.size))
      generalize hBB : W2.heap.size = B at HB
      rw [hBB] at HBz
      have HBB := Lib.hid hBB
      clear hBB hbw
      go_loopw [7, 8] (fun v i wr => ∃ k : Nat, k ≤ x.ar.length ∧ i = .int .i64 (k : Int) ∧ Hid (CB2 w x nm wr) ∧ Hid (Below w.heap.size w wr) ∧ Hid (B ≤ wr.heap.size) ∧ ∃ L, Hid (LR (rnm a b) x B k 24 v L wr)) (fun _ i _ => x.ar.length - (intOf i).toNat)
      case atStart => exact ⟨0, by omega, rfl, HC, Lib.hid HB.out.1, Lib.hid (Nat.le_of_eq HBB.out.symm), [], Lib.hid ⟨rfl, rfl, (fun y h => absurd h (by simp)), World.ownsRow_nil _ _ _ _⟩⟩
      case round =>
        obtain ⟨k, hk, rfl, hcb, hbl, hBw, L, hlr⟩ := hrel
        obtain ⟨V, cv, rfl⟩ := own_form6 hlr.out.own
        obtain ⟨⟨c0, c1, c2, c3, c4, c5, r0, r1, r2, r3, r4, r5, rf, rlt⟩, ef⟩ := hcb.out
        by_cases hlt : k < x.ar.length
        · obtain ⟨ad', y, hA, had, hy, hm, ⟨d0, d1, d2, d3, d4, d5⟩, hr⟩ := (HX.out.to hbl.out).at_ hlt
          rw [hA] at c5
          have KR : Hid (∀ W, Below wr.heap.size wr W → Calls Tryz.prog 31 #[.agg #[.int .i64 y.k, .int .i64 y.op, .int .i64 y.t, .int .i64 y.v, .string y.nm, .slice y.A y.ar.length y.c], .string a, .string b] W (fun e w' => ∃ y' : Xt, e = .returned (.agg #[.int .i64 y'.k, .int .i64 y'.op, .int .i64 y'.t, .int .i64 y'.v, .string y'.nm, .slice y'.A y'.ar.length y'.c]) ∧ y'.ct = y.rc (rnm a b) ∧ RdP w' (fun b => W.heap.size ≤ b ∧ b < w'.heap.size) y' ∧ Below W.heap.size W w')) := Lib.hid fun W hb => IH.out k y hy W (hr.to hb)
          have HY := Lib.hid hy
          clear hA hy hm hr rf ef r0 r1 r2 r3 r4 r5 c0 c1 c2 c3 c4 HC HB HBB
          go_wp2_with (first
            | (go_at_call 31; (with_reducible refine (KR.out _ ?_).mono ?_); (focus ((repeat (first | (with_reducible exact Below.refl _ _) | (with_reducible assumption) | (with_reducible exact bel_box _) | (with_reducible refine bel_step ?_ (by with_reducible assumption)) | (with_reducible refine Below.drew ?_) | (with_reducible refine below_drewN ?_ _) | (with_reducible refine bel_alloc ?_ _))); done)); rintro e w5 ⟨y', rfl, hct, hrd, hb5⟩; have HS := Lib.hid (fun o v3 w3 => hlr.out.step (o := o) (v3 := v3) (w3 := w3) hBw.out HY.out hb5 hct hrd); clear hct hrd)
            | (at_builtin; (refine wpList_append_own_at _ rfl _ _ 22 rfl B 24 i0 (.agg #[.int .i64 0, .int .i64 0, .int .i64 0, .int .i64 0, .string ⟨#[]⟩, .slice none 0 0]) 6 72 Tryz.underlying22 hi iz is ib rfl (by decide) _ k (xsC L) rfl (own_keep6 hlr.out.own ?_) ⟨w5.heap.size, 0, none⟩ 1 1 (xCs y') rfl rfl (row6s _ _ _) (x_one y') (by unfold maxLen; omega) (by omega) ?_ ?_; (focus ((repeat (first | (with_reducible exact Below.refl _ _) | (with_reducible assumption) | (with_reducible exact bel_box _) | (with_reducible refine bel_step ?_ (by with_reducible assumption)) | (with_reducible refine Below.drew ?_) | (with_reducible refine below_drewN ?_ _) | (with_reducible refine bel_alloc ?_ _))); done)); (focus (have := hBw.out; have := hb5.size; simp only [World.size_alloc]; omega)); intro v3 w3 hown3 hgrow3 _ hat3; have HSS := Lib.hid (HS.out _ _ _ hown3 hgrow3 hat3); have HSO := Lib.hid (And.intro hb5 hgrow3); have HZZ := Lib.hid (Nat.le_trans (Nat.le_trans hb5.size (by rw [World.size_alloc]; exact Nat.le_succ _)) hgrow3.size); clear hown3 hgrow3 hat3 HS hb5)))
          have N1 : Hid (CB2 w x nm w3) := Lib.hid (hcb.out.keep HSS.out.2 (fun e => by have h1 := (own_lt hlr.out.own _ e.symm).1; have h2 := HBz.out; omega) (fun e => by have h1 := (own_lt hlr.out.own _ e.symm).1; have h2 := HBz.out; omega))
          have N2 : Hid (Below w.heap.size w w3) := Lib.hid (Below.grown (bel_alloc (hbl.out.trans (HSO.out.1.mono hbl.out.size)) _) HSO.out.2 (by have h1 := hbl.out.size; have h2 := HSO.out.1.size; simp only [World.size_alloc]; omega) (fun j e => by have h1 := (own_lt hlr.out.own _ e).1; have h2 := HBz.out; omega))
          have N3 : Hid (B ≤ w3.heap.size) := Lib.hid (Nat.le_trans hBw.out HZZ.out)
          have N4 := Lib.hid HSS.out.1
          exact ⟨⟨k + 1, by omega, by congr 1, N1, N2, N3, _, N4⟩, by simp [intOf]; omega⟩
        · obtain rfl : k = x.ar.length := by omega
          have q0 := rf 0 (by decide)
          have q1 := rf 1 (by decide)
          have q2 := rf 2 (by decide)
          have q3 := rf 3 (by decide)
          have q4 := rf 4 (by decide)
          have q5 := rf 5 (by decide)
          have p5 := ef 5 (by decide)
          have nz : ∀ i, (⟨w.heap.size, 5, none⟩ : Addr) ≠ ⟨w.heap.size + 1, i, none⟩ := fun i e => by injection e with e; omega
          obtain ⟨⟨g0, g1, g2, g3, g4, g5⟩, gf, gc, gz⟩ := st6_cells (W := wr.setCell ⟨w.heap.size, 5, none⟩ (.slice V x.ar.length cv)) ((World.cell?_setCell_other _ _ _ _ (nz 0)).trans r0) ((World.cell?_setCell_other _ _ _ _ (nz 1)).trans r1) ((World.cell?_setCell_other _ _ _ _ (nz 2)).trans r2) ((World.cell?_setCell_other _ _ _ _ (nz 3)).trans r3) ((World.cell?_setCell_other _ _ _ _ (nz 4)).trans r4) ((World.cell?_setCell_other _ _ _ _ (nz 5)).trans r5) x.k x.op x.t x.v nm (.slice V x.ar.length cv)
          have HF := Lib.hid (st6_below (hbl.out.setCell (p := ⟨w.heap.size, 5, none⟩) (Nat.le_refl _) (.slice V x.ar.length cv)) (Nat.le_succ _) x.k x.op x.t x.v nm (.slice V x.ar.length cv))
          have HND := Lib.hid (hlr.out.node HSN.out HNM.out)
          have HGC := Lib.hid (And.intro gc gz)
          dsimp only [st6] at g0 g1 g2 g3 g4 g5
          clear rf ef gf gc gz nz
          go_wp2
          refine bodyPost_ret (v := .agg #[.int .i64 x.k, .int .i64 x.op, .int .i64 x.t, .int .i64 x.v, .string nm, .slice V x.ar.length cv]) (by simp [results, Tryz.f31, go_sem, g0, g1, g2, g3, g4, g5]) rfl ?_
          obtain ⟨n1, n2, n3⟩ := HND.out
          have hbz := HBz.out
          refine ⟨.mk x.k x.op x.t x.v nm V cv L, by rw [← n3]; rfl, n1, n2.keep (fun b ⟨h1, h2⟩ => ⟨by omega, ?_⟩) (fun p ⟨h1, _⟩ => (HGC.out.1 p (by omega)).trans (World.cell?_setCell_other _ _ _ _ (fun e => by rw [← e] at h1; simp only at h1; omega))), HF.out⟩
          rw [HGC.out.2]; simp only [World.setCell]; simpa using h2
end Go.Proofs.YtfogkcccjemloaaGreatDoor
/- The frame of a law's row: a call that returns true and leaves the old blocks alone meets the row; arguments that are slices of bools are opened. -/
namespace Go.Proofs.YtfogkcccjemloaaGreatDoor
set_option linter.unusedVariables false
set_option linter.unusedSimpArgs false
open Go.ChangeShapes Go.WideShapes Go.ChangeAt Go.RowKit Go.Deep
def Tru (w : World) (e : Ending) (w' : World) : Prop := e = .returned (.bool true) ∧ Below w.heap.size w w'
section
variable {H : Type} {enc : TypeId × Value → H} {P : Program}
theorem trodAll_below (hl : laidOutB P = true) {W W' : World} (hb : Below W.heap.size W W') : ∀ {ts : List TypeId} {vs : List Value} {ds : List (DataW H)} {ps : List MemPlace},
    (∀ t ∈ ts, P.readableRec t = true ∧ t < P.types.size) → DataW.TrodAll enc P W 0 (fun _ => true) true ts vs ds ps → (∀ x ∈ ps, x.block < W.heap.size) →
    DataW.TrodAll enc P W' 0 (fun b => decide (b < W.heap.size)) true ts vs ds ps := by
  intro ts
  induction ts with
  | nil => intro vs ds ps _ h _; cases vs <;> cases ds <;> simp_all [DataW.TrodAll]
  | cons t ts ih =>
    intro vs ds ps ht h hlt
    match vs, ds, h with
    | v :: vs, d :: ds, ⟨p, q, h1, h2, e⟩ =>
      subst e
      obtain ⟨hr, hs⟩ := ht t (by simp)
      exact ⟨p, q, Below.trod hl hr hs h1 hb (fun x hx => hlt x (by simp [hx])), ih (fun u hu => ht u (by simp [hu])) h2 (fun x hx => hlt x (by simp [hx])), rfl⟩
theorem law_post {f : Func} {s : ChangeSpec} {W W' : World} {args : Array Value} {ds gs : List (DataW H)} {before : List MemPlace} {tb : TypeId}
    (hW : DataW.Whole enc P f.params.toList s.vars false W args.toList ds gs before) (hv : s.vars = [])
    (hs : (s.fn H (ds ++ gs)).results = [.lit (.bool true)] ∧ (s.fn H (ds ++ gs)).args = ds ∧ (s.fn H (ds ++ gs)).vars = [])
    (hf : f.resultTypes = #[tb]) (htb : P.underlying tb = some .bool) (hl : laidOutB P = true) (hts : ∀ t ∈ f.params.toList, P.readableRec t = true ∧ t < P.types.size)
    (hb : Below W.heap.size W W') : s.post enc P f false true false false W args (.bool true) W' := by
  have hW' := hW
  obtain ⟨p, q, hA, hV, rfl, _, _⟩ := hW
  rw [hv] at hV
  obtain ⟨rfl, rfl⟩ := trodVars_none hV
  refine ⟨ds, [], p ++ [], [], p, [], hW', ?_, ?_, ?_, hb.frame _, fun h => by cases h⟩
  · rw [hs.1, hf]
    exact trodAll_mk1 (shut_bool htb true)
  · rw [hs.2.1]
    exact trodAll_below hl hb hts hA (fun x hx => hW'.lt x (by simp [hx]))
  · rw [hv, hs.2.2]
    rfl
/-- a slice of bools, opened -/
theorem open_bls {w : World} {held : Bool} {base : Nat} {t e : TypeId} {fuel : Nat} {v : Value} {x : DataW H × List MemPlace} (ht : P.underlying t = some (.slice e)) (he : P.underlying e = some .bool) (hc : P.cellsOf e = 1)
    (h : DataW.trod enc P w base (fun _ => true) held fuel t [v] = some x) :
    ∃ (A : Option Addr) (l : List Bool) (c : Nat), v = .slice A l.length c ∧ Rd w w.heap.size A (bls l) ∧ l.length ≤ 9223372036854775807 := by
  rcases open_slice1 ht hc h with ⟨hcs, _⟩ | ⟨a, len, cap, m, n, V, D, Pl, hcs, _, hl, hm, hmm, _, hx⟩
  · simp only [List.cons.injEq, and_true] at hcs
    exact ⟨none, [], 0, hcs, Rd.nil _ _ _, by simp⟩
  · simp only [List.cons.injEq, and_true] at hcs
    have hmc : m = cap := by simpa using hmm
    refine ⟨some a, (List.range len).map fun i => match V i with | .bool b => b | _ => false, cap, by simp [hcs], ?_, by simp only [List.length_map, List.length_range, maxLen] at *; omega⟩
    have key : ∀ i, i < len → w.cell? (a.add i) = some (.bool (match V i with | .bool b => b | _ => false)) := by
      intro i hi
      obtain ⟨h1, h2⟩ := hx i (by omega)
      obtain ⟨b, hb, _⟩ := DataW.trod_bool he h2
      simp only [List.cons.injEq, and_true] at hb
      rw [h1, hb]
    intro hne
    refine ⟨a, rfl, ?_, ?_⟩
    · have h0 : 0 < len := by
        rcases Nat.eq_zero_or_pos len with h | h
        · subst h; simp [bls] at hne
        · exact h
      have := World.block_lt_of_cell? w _ (key 0 h0)
      rwa [add_block] at this
    · intro j u hu
      have hj : j < len := by
        have := (List.getElem?_eq_some_iff.1 hu).1
        simpa [bls] using this
      rw [key j hj]
      simpa [bls, hj] using hu
end
end Go.Proofs.YtfogkcccjemloaaGreatDoor
/- An argument that is an expression, opened: a tree that lies in memory. -/
namespace Go.Proofs.YtfogkcccjemloaaGreatDoor
set_option linter.unusedVariables false
set_option linter.unusedSimpArgs false
open Go.ChangeShapes Go.WideShapes Go.ChangeAt Go.RowKit Go.Deep Go.WideElems
theorem choose_list {α : Type} {p : Nat → α → Prop} : ∀ n, (∀ i, i < n → ∃ e, p i e) → ∃ l : List α, l.length = n ∧ ∀ i e, l[i]? = some e → p i e := by
  intro n
  induction n with
  | zero => exact fun _ => ⟨[], rfl, fun i e h => by simp at h⟩
  | succ n ih =>
    intro h
    obtain ⟨l, hl, hp⟩ := ih fun i hi => h i (by omega)
    obtain ⟨e, he⟩ := h n (by omega)
    refine ⟨l ++ [e], by simp [hl], fun i x hx => ?_⟩
    rcases Nat.lt_or_ge i n with hi | hi
    · exact hp i x (by rwa [List.getElem?_append_left (by omega)] at hx)
    · rw [List.getElem?_append_right (by omega)] at hx
      have hi2 : i = n := by
        have := (List.getElem?_eq_some_iff.1 hx).1
        simp at this
        omega
      subst hi2
      rw [hl, Nat.sub_self] at hx
      obtain rfl : e = x := by simpa using hx
      exact he
/-- names are no longer than what a machine holds -/
def NmB (x : Xt) : Prop := ∀ y ∈ x.list, y.nm.size ≤ 140737488351232
theorem NmB.kid {x y : Xt} (h : NmB x) (hy : y ∈ x.ar) : NmB y := fun z hz => h z (by rw [Xt.list_eq]; exact List.mem_cons.2 (.inr (List.mem_flatten.2 ⟨_, List.mem_map_of_mem hy, hz⟩)))
section
variable {H : Type} {enc : TypeId × Value → H} {P : Program} {w : World} {held : Bool}
theorem mem_wAll {e : TypeId} {l : List (DataW H)} {d : DataW H} (hd : d ∈ l) : ∀ n ∈ d.weights P e, n ∈ DataW.weightsAll P e l := by
  induction l with
  | nil => cases hd
  | cons a l ih =>
    intro n hn
    rw [DataW.weightsAll]
    rcases List.mem_cons.1 hd with rfl | hd
    · exact List.mem_append_left _ hn
    · exact List.mem_append_right _ (ih hd n hn)
theorem rd_expr {T : TypeId} {f0 f1 f2 f3 f4 f5 : Field} (hT : P.underlying T = some (.struct #[f0, f1, f2, f3, f4, f5])) (ce : P.cellsOf T = 6)
    (o0 : f0.offset = 0) (o1 : f1.offset = 1) (o2 : f2.offset = 2) (o3 : f3.offset = 3) (o4 : f4.offset = 4) (o5 : f5.offset = 5)
    (c0 : P.cellsOf f0.type = 1) (c1 : P.cellsOf f1.type = 1) (c2 : P.cellsOf f2.type = 1) (c3 : P.cellsOf f3.type = 1) (c4 : P.cellsOf f4.type = 1) (c5 : P.cellsOf f5.type = 1)
    (i0 : P.underlying f0.type = some (.int .i64)) (i1 : P.underlying f1.type = some (.int .i64)) (i2 : P.underlying f2.type = some (.int .i64)) (i3 : P.underlying f3.type = some (.int .i64)) (i4 : P.underlying f4.type = some .string) (i5 : P.underlying f5.type = some (.slice T)) :
    ∀ (fuel : Nat) (cs : List Value) (x : DataW H × List MemPlace), DataW.trod enc P w 0 (fun _ => true) held fuel T cs = some x → (∀ n ∈ x.1.weights P T, n ≤ reachBytes) →
      ∃ e : Xt, cs = [.int .i64 e.k, .int .i64 e.op, .int .i64 e.t, .int .i64 e.v, .string e.nm, .slice e.A e.ar.length e.c] ∧ RdX w w.heap.size e ∧ NmB e := by
  intro fuel
  induction fuel using Nat.strongRecOn with
  | ind fuel ih =>
    intro cs x h hw
    obtain ⟨xs, k, hk, hxy, hlen, hxl, hf⟩ := DataW.trod_struct hT h
    rw [ce] at hlen
    match xs, hxl, cs, hlen with
    | [y0, y1, y2, y3, y4, y5], _, [v0, v1, v2, v3, v4, v5], _ =>
      have g0 := hf 0 f0 rfl
      have g1 := hf 1 f1 rfl
      have g2 := hf 2 f2 rfl
      have g3 := hf 3 f3 rfl
      have g4 := hf 4 f4 rfl
      have g5 := hf 5 f5 rfl
      simp [o0, o1, o2, o3, o4, o5, c0, c1, c2, c3, c4, c5] at g0 g1 g2 g3 g4 g5
      obtain ⟨n0, z0, _⟩ := DataW.trod_int i0 g0
      obtain ⟨n1, z1, _⟩ := DataW.trod_int i1 g1
      obtain ⟨n2, z2, _⟩ := DataW.trod_int i2 g2
      obtain ⟨n3, z3, _⟩ := DataW.trod_int i3 g3
      obtain ⟨s, z4, zy4, hs⟩ := DataW.trod_string i4 g4
      simp only [List.cons.injEq, and_true] at z0 z1 z2 z3 z4
      subst z0; subst z1; subst z2; subst z3; subst z4
      subst hxy
      have hwe : DataW.weights P T (.agg [y0.1, y1.1, y2.1, y3.1, y4.1, y5.1]) = y0.1.weights P f0.type ++ (y1.1.weights P f1.type ++ (y2.1.weights P f2.type ++ (y3.1.weights P f3.type ++ (y4.1.weights P f4.type ++ (y5.1.weights P f5.type ++ []))))) := by
        simp [DataW.weights, DataW.weightsEach, hT]
      have hw4 : ∀ n ∈ y4.1.weights P f4.type, n ≤ reachBytes := fun n hn => hw n (by simp only [List.map_cons, List.map_nil]; rw [hwe]; simp [hn])
      have hw5 : ∀ n ∈ y5.1.weights P f5.type, n ≤ reachBytes := fun n hn => hw n (by simp only [List.map_cons, List.map_nil]; rw [hwe]; simp [hn])
      have hs2 : s.size ≤ 140737488351232 := by
        have := hw4 s.data.toList.length (by rw [zy4]; simp [DataW.weights])
        rw [Array.length_toList] at this
        exact this
      rcases DataW.trod_slice i5 g5 with ⟨hv, _⟩ | ⟨a, len, cap, elems, rest, n, hkn, hv, hx0, _, hl, hm, hel, hx, _, _⟩
      · simp only [List.cons.injEq, and_true] at hv
        subst hv
        refine ⟨.mk n0 n1 n2 n3 s none 0 [], rfl, .mk _ (fun h => absurd rfl h) (fun ad i y h => by cases h) (fun y h => by cases h) ⟨⟨by simp [Xt.ar], hs⟩, Nat.le_refl _⟩, fun y hy => ?_⟩
        rw [Xt.list_eq] at hy
        obtain rfl := List.mem_singleton.1 (show y ∈ [Xt.mk n0 n1 n2 n3 s none 0 []] from hy)
        exact hs2
      · simp only [List.cons.injEq, and_true] at hv
        subst hv
        have key : ∀ i, i < len → ∃ e : Xt, XC w (a.add (i * 6)) e ∧ RdX w w.heap.size e ∧ NmB e := by
          intro i hi
          have h1 := hx i hi
          rw [ce, List.getElem?_eq_getElem (by omega)] at h1
          obtain ⟨cs', h2, h3⟩ := Option.bind_eq_some_iff.1 h1
          obtain ⟨_, hlen', hcell⟩ := World.cells?_some h2
          obtain ⟨e, he, hR, hN⟩ := ih n (by omega) cs' _ h3 fun m hm => hw5 m (by
            rw [hx0]
            simp only [DataW.weights, i5, List.mem_cons, List.mem_append]
            exact .inr (.inl (mem_wAll (List.mem_map_of_mem (List.getElem_mem (by omega))) m hm)))
          subst he
          refine ⟨e, ⟨?_, ?_, ?_, ?_, ?_, ?_⟩, hR, hN⟩
          · have := hcell 0 (by decide); rw [add_add] at this; simpa using this
          · have := hcell 1 (by decide); generalize a.add (i * 6) = b at this ⊢; simpa [Addr.add] using this
          · have := hcell 2 (by decide); generalize a.add (i * 6) = b at this ⊢; simpa [Addr.add] using this
          · have := hcell 3 (by decide); generalize a.add (i * 6) = b at this ⊢; simpa [Addr.add] using this
          · have := hcell 4 (by decide); generalize a.add (i * 6) = b at this ⊢; simpa [Addr.add] using this
          · have := hcell 5 (by decide); generalize a.add (i * 6) = b at this ⊢; simpa [Addr.add] using this
        obtain ⟨l, hll, hp⟩ := choose_list len key
        refine ⟨.mk n0 n1 n2 n3 s (some a) cap l, by rw [show (Xt.mk n0 n1 n2 n3 s (some a) cap l).ar.length = len from hll]; rfl, .mk _ (fun hne => ⟨a, rfl, ?_⟩) (fun ad i y hA hy => ?_) (fun y hy => ?_) ⟨⟨?_, hs⟩, ?_⟩, fun y hy => ?_⟩
        · have hne2 : l ≠ [] := hne
          have h0 : 0 < l.length := List.length_pos_iff.2 hne2
          have := World.block_lt_of_cell? w _ (hp 0 _ (List.getElem?_eq_getElem h0)).1.1
          rwa [add_block] at this
        · obtain rfl : a = ad := Option.some.inj hA
          exact (hp i y hy).1
        · obtain ⟨j, hj⟩ := List.getElem?_of_mem (show y ∈ l from hy)
          exact (hp j y hj).2.1
        · show l.length ≤ maxLen
          omega
        · show l.length ≤ cap
          omega
        · rw [Xt.list_eq] at hy
          rcases List.mem_cons.1 hy with rfl | hy
          · exact hs2
          · obtain ⟨q, hq, hyq⟩ := List.mem_flatten.1 hy
            obtain ⟨z, hz, rfl⟩ := List.mem_map.1 hq
            obtain ⟨j, hj⟩ := List.getElem?_of_mem (show z ∈ l from hz)
            exact (hp j z hj).2.2 y hyq
end
end Go.Proofs.YtfogkcccjemloaaGreatDoor
/- The example of the law. -/
namespace Go.Proofs.YtfogkcccjemloaaGreatDoor
set_option linter.unusedVariables false
set_option linter.unusedSimpArgs false
open Go.RowKit
theorem RdX.leaf {w : World} {B : Nat} (k op t v : Int) (nm : ByteArray) (h : nm.size ≤ maxLen) : RdX w B (.mk k op t v nm none 0 []) :=
  .mk _ (fun h => absurd rfl h) (fun _ _ _ h => by cases h) (fun _ h => by cases h) ⟨⟨Nat.zero_le _, h⟩, Nat.le_refl _⟩
def vC : Xt := .mk 2 0 0 0 ⟨#[99]⟩ none 0 []
def vX : Xt := .mk 2 0 0 0 ⟨#[120]⟩ none 0 []
def k0 : Xt := .mk 1 0 2 0 ⟨#[]⟩ none 0 []
def fbyX (b : Nat) : Xt := .mk 7 0 0 0 ⟨#[]⟩ (some ⟨b, 0, none⟩) 2 [k0, vX]
/-- if c then x else 0 fby x -/
def exX (b : Nat) : Xt := .mk 4 0 0 0 ⟨#[]⟩ (some ⟨b + 1, 0, none⟩) 3 [vC, vX, fbyX b]
theorem nm1 (n : UInt8) : (ByteArray.mk #[n]).size ≤ maxLen := by show 1 ≤ maxLen; unfold maxLen; omega
theorem nm0 : (ByteArray.mk #[]).size ≤ maxLen := Nat.zero_le _
theorem fby_read {w : World} {B b : Nat} (h0 : XC w ⟨b, 0, none⟩ k0) (h1 : XC w ⟨b, 6, none⟩ vX) (hB : b < B) : RdX w B (fbyX b) := by
  refine .mk _ (fun _ => ⟨_, rfl, hB⟩) (fun ad i y hA hy => ?_) (fun y hy => ?_) ⟨⟨by show 2 ≤ maxLen; unfold maxLen; omega, nm0⟩, Nat.le_refl _⟩
  · obtain rfl := Option.some.inj hA
    rcases i with _ | _ | i
    · obtain rfl : k0 = y := Option.some.inj hy
      exact h0
    · obtain rfl : vX = y := Option.some.inj hy
      exact h1
    · cases hy
  · rcases List.mem_cons.1 (show y ∈ [k0, vX] from hy) with rfl | hy
    · exact RdX.leaf _ _ _ _ _ nm0
    · obtain rfl := List.mem_singleton.1 hy
      exact RdX.leaf _ _ _ _ _ (nm1 _)
theorem ex_read {w : World} {B b : Nat} (h0 : XC w ⟨b, 0, none⟩ k0) (h1 : XC w ⟨b, 6, none⟩ vX) (g0 : XC w ⟨b + 1, 0, none⟩ vC) (g1 : XC w ⟨b + 1, 6, none⟩ vX) (g2 : XC w ⟨b + 1, 12, none⟩ (fbyX b)) (hB : b + 1 < B) : RdX w B (exX b) := by
  refine .mk _ (fun _ => ⟨_, rfl, hB⟩) (fun ad i y hA hy => ?_) (fun y hy => ?_) ⟨⟨by show 3 ≤ maxLen; unfold maxLen; omega, nm0⟩, Nat.le_refl _⟩
  · obtain rfl := Option.some.inj hA
    rcases i with _ | _ | _ | i
    · obtain rfl : vC = y := Option.some.inj hy
      exact g0
    · obtain rfl : vX = y := Option.some.inj hy
      exact g1
    · obtain rfl : fbyX b = y := Option.some.inj hy
      exact g2
    · cases hy
  · rcases List.mem_cons.1 (show y ∈ [vC, vX, fbyX b] from hy) with rfl | hy
    · exact RdX.leaf _ _ _ _ _ (nm1 _)
    · rcases List.mem_cons.1 hy with rfl | hy
      · exact RdX.leaf _ _ _ _ _ (nm1 _)
      · obtain rfl := List.mem_singleton.1 hy
        exact fby_read h0 h1 (by omega)
set_option maxHeartbeats 1000000 in
set_option maxRecDepth 20000 in
theorem example_any (w : World) : Calls Tryz.prog 38 #[] w (fun e w' => e = .returned (xV (exX (w.heap.size + 3))) ∧ RdX w' w'.heap.size (exX (w.heap.size + 3)) ∧ Below w.heap.size w w' ∧ w'.heap.size = w.heap.size + 5) := by
  go_enter Tryz.func38, Tryz.ntmps38
  go_wp2
  refine bodyPost_ret (v := xV (exX (w.heap.size + 3))) (by simp [results, Tryz.f38, go_sem, xV, exX, Xt.k, Xt.op, Xt.t, Xt.v, Xt.nm, Xt.A, Xt.c, Xt.ar]) rfl ⟨rfl, ex_read ?_ ?_ ?_ ?_ ?_ (by simp only [World.size_alloc]; omega), (by repeat (first | (with_reducible exact Below.refl _ _) | (with_reducible assumption) | (with_reducible exact bel_box _) | (with_reducible refine bel_step ?_ (by with_reducible assumption)) | (with_reducible refine Below.drew ?_) | (with_reducible refine below_drewN ?_ _) | (with_reducible refine bel_alloc ?_ _))), by simp only [World.size_alloc]⟩
  all_goals (unfold XC; simp [go_sem, k0, vX, vC, fbyX, Xt.k, Xt.op, Xt.t, Xt.v, Xt.nm, Xt.A, Xt.c, Xt.ar])
end Go.Proofs.YtfogkcccjemloaaGreatDoor
/- names of the reference. -/
namespace Go.Proofs.YtfogkcccjemloaaGreatDoor
set_option linter.unusedVariables false
set_option linter.unusedSimpArgs false
open Go.RowKit Go.Sort
theorem nmC_snoc (l : List ByteArray) (s : ByteArray) : nmC (l ++ [s]) = nmC l ++ [Value.string s] := by simp [nmC]
theorem LqI.same {T : TypeId} {z : Nat} {w W : World} {x : Xt} {B n : Nat} {xs : List Value} {v : Value} (hW : Below (bxW w x).heap.size (bxW w x) W) (h : w.ownsRow B T z v n xs) : LqI T z w x B v.ownBlock n xs v W :=
  ⟨own_keep6 (own_keep6 h (bel_box _)) hW, (below_grown hW).but _, .inl rfl⟩
set_option maxHeartbeats 2000000 in
set_option maxRecDepth 20000 in
theorem rnames_any (b : Bool) (x : Xt) : ∀ w B v acc, B ≤ w.heap.size → RdX w B x → w.ownsRow B 9 1 v acc.length (nmC acc) → acc.length + x.size ≤ 100000 → Calls Tryz.prog 47 #[xV x, .bool b, v] w (fun e w' => ∃ v', e = .returned v' ∧ LqR 9 1 w B v (nmS b x acc).length (nmC (nmS b x acc)) w' v') := by
  obtain ⟨i0, hi, iz, is, ib⟩ := info_parts stInfo
  induction x using Xt.ind with
  | h x ih =>
    intro w B v acc hB hX hown hS
    have h9 := hX.len.1
    unfold maxLen at h9
    have HX := Lib.hid hX
    have IH := Lib.hid ih
    have HO := Lib.hid hown
    have hlt := Lib.hid (fun j (h : v.ownBlock = some j) => hown.lt j h)
    have KV := Lib.hid (fun W => rvariable_any x W)
    clear hX ih hown
    obtain ⟨F, hF, hF0, hFl, HF, HFl⟩ := parts_sum x
    obtain ⟨G, hG, hG0, HGs, HGg⟩ := parts_names b x acc
    rw [hF] at hS
    rw [hG]
    clear hG
    have KH : Hid (∀ W, Below w.heap.size w W → Calls Tryz.prog 24 #[v, .string x.nm] W (Bel (.bool (hasN acc x.nm)) W)) := Lib.hid fun W hb => by
      obtain ⟨V, cv, e⟩ := own_form6 HO.out
      have ho := HO.out
      rw [e] at ho ⊢
      exact rhas_any V cv acc x.nm W ((RdN.of_own ho).to hb) (by omega)
    have h0 := step_length acc x
    rw [← hG0] at h0
    simp only [xV] at IH KV ⊢
    obtain ⟨b0, b1, b2, b3, b4, b5, b6⟩ := bxW_cells (w := w) (x := x) (Below.refl _ _)
    go_enter Tryz.func47, Tryz.ntmps47
    have hsn : G 0 = if (hasVar x.k && !hasN acc x.nm) = true then acc ++ [x.nm] else acc := hG0
    clear hG0
    generalize hasVar x.k = q1 at *
    generalize hasN acc x.nm = q2 at *
    cases q1
    · go_wp2_with (go_at_call 52; (with_reducible refine (KV.out _).mono ?_); rintro e w1 ⟨rfl, hb1⟩)
      have hg : G 0 = acc := hsn
      have HI := LqI.same (x := x) hb1 HO.out
      rw [← hg] at HI
      have HI0 := Lib.hid HI
      clear HI
      go_loopw [2, 7] (fun u i wr => ∃ k : Nat, k ≤ x.ar.length ∧ i = .int .i64 (k : Int) ∧ (G k).length ≤ acc.length + 1 + F k ∧ Hid (LqI 9 1 w x B v.ownBlock (G k).length (nmC (G k)) u wr)) (fun _ i _ => x.ar.length - (intOf i).toNat)
      case atStart => exact ⟨0, by omega, rfl, by omega, HI0⟩
      case round =>
        obtain ⟨k, hk, rfl, hGl, hI⟩ := hrel
        obtain ⟨hBB, ⟨b0, b1, b2, b3, b4, b5⟩, b6⟩ := hI.out.open_ hB hlt.out
        by_cases hlk : k < x.ar.length
        · obtain ⟨ad, y, hA, had, hy, hm, ⟨c0, c1, c2, c3, c4, c5⟩, hr⟩ := (HX.out.blw hBB (Nat.le_refl _)).at_ hlk
          rw [hA] at b5
          clear hA
          have hn1 := HF.out k y hy
          have hn2 := HFl.out (k + 1)
          have hs1 := HGs.out k
          have hs2 := fun h => HGg.out k y h hy
          have hs0 : skp b x k = (b && (x.k == 5 || x.k == 7 && decide (0 < k))) := rfl
          have hnl := nm_length b y (G k)
          have HIo := Lib.hid hI.out.1
          have KY : Hid (Calls Tryz.prog 47 #[xV y, .bool b, u2] wr (fun e w' => ∃ v', e = .returned v' ∧ LqR 9 1 wr B u2 (nmS b y (G k)).length (nmC (nmS b y (G k))) w' v')) := Lib.hid (IH.out y hm wr B u2 (G k) (by omega) hr HIo.out (by omega))
          simp only [xV] at KY
          clear hy IH
          obtain ⟨N, hN⟩ : ∃ N, nmS b y (G k) = N := ⟨_, rfl⟩
          rw [hN] at KY hs2 hnl
          clear hN
          cases q : skp b x k
          · have HS := Lib.hid (hs2 q)
            rw [hs0] at q
            clear hs1 hs2 hs0 HGs HGg hsn hg
            cases b
            · clear q
              go_wp2_with (go_at_call 47; (with_reducible refine (KY.out).mono ?_); rintro e w2 ⟨v', rfl, hl⟩)
              refine ⟨⟨k + 1, by omega, by congr 1, ?_, Lib.hid ?_⟩, by simp [intOf]; omega⟩
              · rw [HS.out]; omega
              · rw [HS.out]; exact hI.out.next hl
            · rw [Bool.true_and, Bool.or_eq_false_iff] at q
              obtain ⟨h5, q⟩ := q
              cases h7 : x.k == 7
              · clear q
                go_wp2_with (go_at_call 47; (with_reducible refine (KY.out).mono ?_); rintro e w2 ⟨v', rfl, hl⟩)
                refine ⟨⟨k + 1, by omega, by congr 1, ?_, Lib.hid ?_⟩, by simp [intOf]; omega⟩
                · rw [HS.out]; omega
                · rw [HS.out]; exact hI.out.next hl
              · rw [h7, Bool.true_and, decide_eq_false_iff_not] at q
                have u : (k : Int) ≤ 0 := by omega
                go_wp2_with (go_at_call 47; (with_reducible refine (KY.out).mono ?_); rintro e w2 ⟨v', rfl, hl⟩)
                refine ⟨⟨k + 1, by omega, by congr 1, ?_, Lib.hid ?_⟩, by simp [intOf]; omega⟩
                · rw [HS.out]; omega
                · rw [HS.out]; exact hI.out.next hl
          · have HS := Lib.hid (hs1 q)
            rw [hs0] at q
            clear hs1 hs2 hs0 HGs HGg hsn hg
            cases b
            · simp at q
            · rw [Bool.true_and] at q
              cases h5 : x.k == 5
              · rw [h5, Bool.false_or, Bool.and_eq_true, decide_eq_true_eq] at q
                obtain ⟨h7, q⟩ := q
                have u : (0 : Int) < (k : Int) := by omega
                go_wp2
                refine ⟨⟨k + 1, by omega, by congr 1, ?_, Lib.hid ?_⟩, by simp [intOf]; omega⟩
                · rw [HS.out]; omega
                · rw [HS.out]; exact hI.out
              · clear q
                go_wp2
                refine ⟨⟨k + 1, by omega, by congr 1, ?_, Lib.hid ?_⟩, by simp [intOf]; omega⟩
                · rw [HS.out]; omega
                · rw [HS.out]; exact hI.out
        · obtain rfl : k = x.ar.length := by omega
          clear hB
          go_wp2
          go_ret
          exact ⟨_, rfl, hI.out.last⟩
    · cases q2
      · have hg : G 0 = acc ++ [x.nm] := hsn
        go_wp2_with (first
          | (go_at_call 52; (with_reducible refine (KV.out _).mono ?_); rintro e w1 ⟨rfl, hb1⟩; obtain ⟨d0, d1, d2, d3, d4, d5, d6⟩ := bxW_cells (w := w) (x := x) hb1; have hz1 := hb1.size)
          | (go_at_call 24; (with_reducible refine (KH.out _ ?_).mono ?_); (focus ((repeat (first | (with_reducible exact Below.refl _ _) | (with_reducible assumption) | (with_reducible exact bel_box _) | (with_reducible refine bel_step ?_ (by with_reducible assumption)) | (with_reducible refine Below.drew ?_) | (with_reducible refine below_drewN ?_ _) | (with_reducible refine bel_alloc ?_ _))); done)); rintro e w2 ⟨rfl, hb2⟩; have hb3 : Hid (Below (bxW w x).heap.size (bxW w x) w2) := Lib.hid (hb1.trans (hb2.mono hb1.size)); obtain ⟨f0, f1, f2, f3, f4, f5, f6⟩ := bxW_cells (w := w) (x := x) hb3.out; have hz2 := hb2.size)
          | (at_builtin; (refine wpList_append_own_at _ rfl _ _ 32 rfl B 9 i0 (.string ⟨#[]⟩) 1 16 Tryz.underlying32 hi iz is ib rfl (by decide) _ acc.length (nmC acc) rfl (own_keep6 HO.out ?_) ⟨w2.heap.size, 0, none⟩ 1 1 [.string x.nm] rfl rfl (row1 _ _ _) (by intro u hu; obtain rfl := List.mem_singleton.1 hu; rfl) (by unfold maxLen; omega) (by omega) ?_ ?_; (focus ((repeat (first | (with_reducible exact Below.refl _ _) | (with_reducible assumption) | (with_reducible exact bel_box _) | (with_reducible refine bel_step ?_ (by with_reducible assumption)) | (with_reducible refine Below.drew ?_) | (with_reducible refine below_drewN ?_ _) | (with_reducible refine bel_alloc ?_ _))); done)); (focus (simp; omega)); intro v3 w3 hown3 hgrow3 _ hat3; have HI : LqI 9 1 w x B v.ownBlock (G 0).length (nmC (G 0)) v3 w3 := by (rw [hg, nmC_snoc, List.length_append]; exact LqI.first (hb3.out.trans ((bel_box _).mono hb3.out.size)) hown3 hgrow3 hat3)); clear hown3 hgrow3 hat3))
        have HI0 := Lib.hid HI
        clear HI
        go_loopw [2, 7] (fun u i wr => ∃ k : Nat, k ≤ x.ar.length ∧ i = .int .i64 (k : Int) ∧ (G k).length ≤ acc.length + 1 + F k ∧ Hid (LqI 9 1 w x B v.ownBlock (G k).length (nmC (G k)) u wr)) (fun _ i _ => x.ar.length - (intOf i).toNat)
        case atStart => exact ⟨0, by omega, rfl, by omega, HI0⟩
        case round =>
          obtain ⟨k, hk, rfl, hGl, hI⟩ := hrel
          obtain ⟨hBB, ⟨b0, b1, b2, b3, b4, b5⟩, b6⟩ := hI.out.open_ hB hlt.out
          by_cases hlk : k < x.ar.length
          · obtain ⟨ad, y, hA, had, hy, hm, ⟨c0, c1, c2, c3, c4, c5⟩, hr⟩ := (HX.out.blw hBB (Nat.le_refl _)).at_ hlk
            rw [hA] at b5
            clear hA
            have hn1 := HF.out k y hy
            have hn2 := HFl.out (k + 1)
            have hs1 := HGs.out k
            have hs2 := fun h => HGg.out k y h hy
            have hs0 : skp b x k = (b && (x.k == 5 || x.k == 7 && decide (0 < k))) := rfl
            have hnl := nm_length b y (G k)
            have HIo := Lib.hid hI.out.1
            have KY : Hid (Calls Tryz.prog 47 #[xV y, .bool b, u2] wr (fun e w' => ∃ v', e = .returned v' ∧ LqR 9 1 wr B u2 (nmS b y (G k)).length (nmC (nmS b y (G k))) w' v')) := Lib.hid (IH.out y hm wr B u2 (G k) (by omega) hr HIo.out (by omega))
            simp only [xV] at KY
            clear hy IH
            obtain ⟨N, hN⟩ : ∃ N, nmS b y (G k) = N := ⟨_, rfl⟩
            rw [hN] at KY hs2 hnl
            clear hN
            cases q : skp b x k
            · have HS := Lib.hid (hs2 q)
              rw [hs0] at q
              clear hs1 hs2 hs0 HGs HGg hsn hg
              cases b
              · clear q
                go_wp2_with (go_at_call 47; (with_reducible refine (KY.out).mono ?_); rintro e w2 ⟨v', rfl, hl⟩)
                refine ⟨⟨k + 1, by omega, by congr 1, ?_, Lib.hid ?_⟩, by simp [intOf]; omega⟩
                · rw [HS.out]; omega
                · rw [HS.out]; exact hI.out.next hl
              · rw [Bool.true_and, Bool.or_eq_false_iff] at q
                obtain ⟨h5, q⟩ := q
                cases h7 : x.k == 7
                · clear q
                  go_wp2_with (go_at_call 47; (with_reducible refine (KY.out).mono ?_); rintro e w2 ⟨v', rfl, hl⟩)
                  refine ⟨⟨k + 1, by omega, by congr 1, ?_, Lib.hid ?_⟩, by simp [intOf]; omega⟩
                  · rw [HS.out]; omega
                  · rw [HS.out]; exact hI.out.next hl
                · rw [h7, Bool.true_and, decide_eq_false_iff_not] at q
                  have u : (k : Int) ≤ 0 := by omega
                  go_wp2_with (go_at_call 47; (with_reducible refine (KY.out).mono ?_); rintro e w2 ⟨v', rfl, hl⟩)
                  refine ⟨⟨k + 1, by omega, by congr 1, ?_, Lib.hid ?_⟩, by simp [intOf]; omega⟩
                  · rw [HS.out]; omega
                  · rw [HS.out]; exact hI.out.next hl
            · have HS := Lib.hid (hs1 q)
              rw [hs0] at q
              clear hs1 hs2 hs0 HGs HGg hsn hg
              cases b
              · simp at q
              · rw [Bool.true_and] at q
                cases h5 : x.k == 5
                · rw [h5, Bool.false_or, Bool.and_eq_true, decide_eq_true_eq] at q
                  obtain ⟨h7, q⟩ := q
                  have u : (0 : Int) < (k : Int) := by omega
                  go_wp2
                  refine ⟨⟨k + 1, by omega, by congr 1, ?_, Lib.hid ?_⟩, by simp [intOf]; omega⟩
                  · rw [HS.out]; omega
                  · rw [HS.out]; exact hI.out
                · clear q
                  go_wp2
                  refine ⟨⟨k + 1, by omega, by congr 1, ?_, Lib.hid ?_⟩, by simp [intOf]; omega⟩
                  · rw [HS.out]; omega
                  · rw [HS.out]; exact hI.out
          · obtain rfl : k = x.ar.length := by omega
            clear hB
            go_wp2
            go_ret
            exact ⟨_, rfl, hI.out.last⟩
      · have hg : G 0 = acc := hsn
        go_wp2_with (first
          | (go_at_call 52; (with_reducible refine (KV.out _).mono ?_); rintro e w1 ⟨rfl, hb1⟩; obtain ⟨d0, d1, d2, d3, d4, d5, d6⟩ := bxW_cells (w := w) (x := x) hb1)
          | (go_at_call 24; (with_reducible refine (KH.out _ ?_).mono ?_); (focus ((repeat (first | (with_reducible exact Below.refl _ _) | (with_reducible assumption) | (with_reducible exact bel_box _) | (with_reducible refine bel_step ?_ (by with_reducible assumption)) | (with_reducible refine Below.drew ?_) | (with_reducible refine below_drewN ?_ _) | (with_reducible refine bel_alloc ?_ _))); done)); rintro e w2 ⟨rfl, hb2⟩; have hb3 : Hid (Below (bxW w x).heap.size (bxW w x) w2) := Lib.hid (hb1.trans (hb2.mono hb1.size))))
        have HI := LqI.same (x := x) hb3.out HO.out
        rw [← hg] at HI
        have HI0 := Lib.hid HI
        clear HI
        go_loopw [2, 7] (fun u i wr => ∃ k : Nat, k ≤ x.ar.length ∧ i = .int .i64 (k : Int) ∧ (G k).length ≤ acc.length + 1 + F k ∧ Hid (LqI 9 1 w x B v.ownBlock (G k).length (nmC (G k)) u wr)) (fun _ i _ => x.ar.length - (intOf i).toNat)
        case atStart => exact ⟨0, by omega, rfl, by omega, HI0⟩
        case round =>
          obtain ⟨k, hk, rfl, hGl, hI⟩ := hrel
          obtain ⟨hBB, ⟨b0, b1, b2, b3, b4, b5⟩, b6⟩ := hI.out.open_ hB hlt.out
          by_cases hlk : k < x.ar.length
          · obtain ⟨ad, y, hA, had, hy, hm, ⟨c0, c1, c2, c3, c4, c5⟩, hr⟩ := (HX.out.blw hBB (Nat.le_refl _)).at_ hlk
            rw [hA] at b5
            clear hA
            have hn1 := HF.out k y hy
            have hn2 := HFl.out (k + 1)
            have hs1 := HGs.out k
            have hs2 := fun h => HGg.out k y h hy
            have hs0 : skp b x k = (b && (x.k == 5 || x.k == 7 && decide (0 < k))) := rfl
            have hnl := nm_length b y (G k)
            have HIo := Lib.hid hI.out.1
            have KY : Hid (Calls Tryz.prog 47 #[xV y, .bool b, u2] wr (fun e w' => ∃ v', e = .returned v' ∧ LqR 9 1 wr B u2 (nmS b y (G k)).length (nmC (nmS b y (G k))) w' v')) := Lib.hid (IH.out y hm wr B u2 (G k) (by omega) hr HIo.out (by omega))
            simp only [xV] at KY
            clear hy IH
            obtain ⟨N, hN⟩ : ∃ N, nmS b y (G k) = N := ⟨_, rfl⟩
            rw [hN] at KY hs2 hnl
            clear hN
            cases q : skp b x k
            · have HS := Lib.hid (hs2 q)
              rw [hs0] at q
              clear hs1 hs2 hs0 HGs HGg hsn hg
              cases b
              · clear q
                go_wp2_with (go_at_call 47; (with_reducible refine (KY.out).mono ?_); rintro e w2 ⟨v', rfl, hl⟩)
                refine ⟨⟨k + 1, by omega, by congr 1, ?_, Lib.hid ?_⟩, by simp [intOf]; omega⟩
                · rw [HS.out]; omega
                · rw [HS.out]; exact hI.out.next hl
              · rw [Bool.true_and, Bool.or_eq_false_iff] at q
                obtain ⟨h5, q⟩ := q
                cases h7 : x.k == 7
                · clear q
                  go_wp2_with (go_at_call 47; (with_reducible refine (KY.out).mono ?_); rintro e w2 ⟨v', rfl, hl⟩)
                  refine ⟨⟨k + 1, by omega, by congr 1, ?_, Lib.hid ?_⟩, by simp [intOf]; omega⟩
                  · rw [HS.out]; omega
                  · rw [HS.out]; exact hI.out.next hl
                · rw [h7, Bool.true_and, decide_eq_false_iff_not] at q
                  have u : (k : Int) ≤ 0 := by omega
                  go_wp2_with (go_at_call 47; (with_reducible refine (KY.out).mono ?_); rintro e w2 ⟨v', rfl, hl⟩)
                  refine ⟨⟨k + 1, by omega, by congr 1, ?_, Lib.hid ?_⟩, by simp [intOf]; omega⟩
                  · rw [HS.out]; omega
                  · rw [HS.out]; exact hI.out.next hl
            · have HS := Lib.hid (hs1 q)
              rw [hs0] at q
              clear hs1 hs2 hs0 HGs HGg hsn hg
              cases b
              · simp at q
              · rw [Bool.true_and] at q
                cases h5 : x.k == 5
                · rw [h5, Bool.false_or, Bool.and_eq_true, decide_eq_true_eq] at q
                  obtain ⟨h7, q⟩ := q
                  have u : (0 : Int) < (k : Int) := by omega
                  go_wp2
                  refine ⟨⟨k + 1, by omega, by congr 1, ?_, Lib.hid ?_⟩, by simp [intOf]; omega⟩
                  · rw [HS.out]; omega
                  · rw [HS.out]; exact hI.out
                · clear q
                  go_wp2
                  refine ⟨⟨k + 1, by omega, by congr 1, ?_, Lib.hid ?_⟩, by simp [intOf]; omega⟩
                  · rw [HS.out]; omega
                  · rw [HS.out]; exact hI.out
          · obtain rfl : k = x.ar.length := by omega
            clear hB
            go_wp2
            go_ret
            exact ⟨_, rfl, hI.out.last⟩
end Go.Proofs.YtfogkcccjemloaaGreatDoor
/- Names, Instant, SameNames of the reference. -/
namespace Go.Proofs.YtfogkcccjemloaaGreatDoor
set_option linter.unusedVariables false
set_option linter.unusedSimpArgs false
open Go.RowKit Go.Sort
/-- a list of names, new -/
def NewN (l : List ByteArray) (w : World) (e : Ending) (w' : World) : Prop := ∃ A c, e = .returned (.slice A l.length c) ∧ RdN w' w'.heap.size A l ∧ Below w.heap.size w w'
theorem rnames_new (b : Bool) (x : Xt) (w : World) (hX : RdX w w.heap.size x) (hs : x.size ≤ 100000) : Calls Tryz.prog 47 #[xV x, .bool b, .slice none 0 0] w (NewN (nmS b x []) w) := by
  refine (rnames_any b x w w.heap.size (.slice none 0 0) [] (Nat.le_refl _) hX (World.ownsRow_nil _ _ _ _) (by simpa using hs)).mono fun e w1 ⟨v', he, h1, h2, h3⟩ => ?_
  obtain ⟨A, c, rfl⟩ := own_form6 h1
  exact ⟨A, c, he, RdN.of_own h1, ⟨h2.os, h2.tape, h2.output, h2.size, fun k hk => h2.block k hk (by intro e; cases e)⟩⟩
set_option maxHeartbeats 1000000 in
set_option maxRecDepth 20000 in
theorem rNames_any (x : Xt) (w : World) (hX : RdX w w.heap.size x) (hs : x.size ≤ 100000) : Calls Tryz.prog 26 #[xV x] w (NewN (nmS false x []) w) := by
  have K : Hid (∀ W, Below w.heap.size w W → Calls Tryz.prog 47 #[xV x, .bool false, .slice none 0 0] W (NewN (nmS false x []) W)) := Lib.hid fun W hb => rnames_new false x W (hX.to hb) hs
  simp only [xV] at K ⊢
  go_enter Tryz.func26, Tryz.ntmps26
  go_wp2_with (go_at_call 47; (with_reducible refine (K.out _ ?_).mono ?_); (focus ((repeat (first | (with_reducible exact Below.refl _ _) | (with_reducible assumption) | (with_reducible exact bel_box _) | (with_reducible refine bel_step ?_ (by with_reducible assumption)) | (with_reducible refine Below.drew ?_) | (with_reducible refine below_drewN ?_ _) | (with_reducible refine bel_alloc ?_ _))); done)); rintro e w1 ⟨A, c, rfl, hR, hb1⟩)
  go_ret
  exact ⟨A, c, rfl, hR, (by repeat (first | (with_reducible exact Below.refl _ _) | (with_reducible assumption) | (with_reducible exact bel_box _) | (with_reducible refine bel_step ?_ (by with_reducible assumption)) | (with_reducible refine Below.drew ?_) | (with_reducible refine below_drewN ?_ _) | (with_reducible refine bel_alloc ?_ _)))⟩
set_option maxHeartbeats 1000000 in
set_option maxRecDepth 20000 in
theorem rInstant_any (x : Xt) (w : World) (hX : RdX w w.heap.size x) (hs : x.size ≤ 100000) : Calls Tryz.prog 27 #[xV x] w (NewN (nmS true x []) w) := by
  have K : Hid (∀ W, Below w.heap.size w W → Calls Tryz.prog 47 #[xV x, .bool true, .slice none 0 0] W (NewN (nmS true x []) W)) := Lib.hid fun W hb => rnames_new true x W (hX.to hb) hs
  simp only [xV] at K ⊢
  go_enter Tryz.func27, Tryz.ntmps27
  go_wp2_with (go_at_call 47; (with_reducible refine (K.out _ ?_).mono ?_); (focus ((repeat (first | (with_reducible exact Below.refl _ _) | (with_reducible assumption) | (with_reducible exact bel_box _) | (with_reducible refine bel_step ?_ (by with_reducible assumption)) | (with_reducible refine Below.drew ?_) | (with_reducible refine below_drewN ?_ _) | (with_reducible refine bel_alloc ?_ _))); done)); rintro e w1 ⟨A, c, rfl, hR, hb1⟩)
  go_ret
  exact ⟨A, c, rfl, hR, (by repeat (first | (with_reducible exact Below.refl _ _) | (with_reducible assumption) | (with_reducible exact bel_box _) | (with_reducible refine bel_step ?_ (by with_reducible assumption)) | (with_reducible refine Below.drew ?_) | (with_reducible refine below_drewN ?_ _) | (with_reducible refine bel_alloc ?_ _)))⟩
def sameN (a b : List ByteArray) : Bool := a.map ByteArray.toList == b.map ByteArray.toList
theorem same_step {a b : List ByteArray} {k : Nat} {y z : ByteArray} (ha : a[k]? = some y) (hb : b[k]? = some z) (h : (a.take k).map ByteArray.toList = (b.take k).map ByteArray.toList) (hy : (y.toList == z.toList) = true) : (a.take (k + 1)).map ByteArray.toList = (b.take (k + 1)).map ByteArray.toList := by
  rw [take_succ_of ha, take_succ_of hb, List.map_append, List.map_append, h, List.map_singleton, List.map_singleton, eq_of_beq hy]
theorem same_no {a b : List ByteArray} {k : Nat} {y z : ByteArray} (ha : a[k]? = some y) (hb : b[k]? = some z) (hy : (y.toList == z.toList) = false) : sameN a b = false := by
  rw [sameN, beq_eq_false_iff_ne]
  intro e
  have h := congrArg (fun l => l[k]?) e
  simp only [List.getElem?_map, ha, hb, Option.map_some] at h
  rw [Option.some.inj h] at hy
  simp at hy
set_option maxHeartbeats 1000000 in
set_option maxRecDepth 20000 in
theorem rsame_any (A A' : Option Addr) (c c' : Nat) (a b : List ByteArray) (w : World) (hA : RdN w w.heap.size A a) (hB : RdN w w.heap.size A' b) (ha : a.length ≤ 200000) (hb : b.length ≤ 200000) : Calls Tryz.prog 25 #[.slice A a.length c, .slice A' b.length c'] w (Bel (.bool (sameN a b)) w) := by
  have H1 := Lib.hid (fun k y z (p : a[k]? = some y) (q : b[k]? = some z) h => same_step p q h)
  have H2 := Lib.hid (fun k y z (p : a[k]? = some y) (q : b[k]? = some z) h => same_no p q h)
  by_cases hl : a.length = b.length
  · have H3 : Hid (a.map ByteArray.toList = b.map ByteArray.toList → sameN a b = true) := Lib.hid fun h => by rw [sameN, h]; exact beq_self_eq_true _
    generalize sameN a b = V at *
    obtain ⟨n, hn⟩ : ∃ n, a.length = n := ⟨_, rfl⟩
    have hm : b.length = n := hl ▸ hn
    rw [hn, hm]
    have HL := Lib.hid (And.intro hn hm)
    rw [hn] at ha
    clear hl hn hm hb
    go_enter Tryz.func25, Tryz.ntmps25
    go_wp2
    go_loopw [5] (fun i wr => ∃ k : Nat, k ≤ n ∧ i = .int .i64 (k : Int) ∧ Below w.heap.size w wr ∧ Hid ((a.take k).map ByteArray.toList = (b.take k).map ByteArray.toList)) (fun i _ => n - (intOf i).toNat)
    case atStart => exact ⟨0, by omega, rfl, Below.refl _ _, Lib.hid rfl⟩
    case round =>
      obtain ⟨k, hk, rfl, hbl, hno⟩ := hrel
      by_cases hlt : k < n
      · obtain ⟨ad, y, rfl, had, hy, c0⟩   := (hA.to hbl).at_ (k := k) (by rw [HL.out.1]; exact hlt)
        obtain ⟨ad', z, rfl, had', hz, c0'⟩ := (hB.to hbl).at_ (k := k) (by rw [HL.out.2]; exact hlt)
        have h1 := H1.out k y z hy hz hno.out
        have h2 := H2.out k y z hy hz
        clear hy hz
        cases q : (y.toList == z.toList)
        · have h3 := h2 q
          clear h1 h2
          go_wp2
          go_quiet (fail)
          go_wp2
          go_ret
          exact ⟨by rw [h3]; rfl, (by repeat (first | (with_reducible exact Below.refl _ _) | (with_reducible assumption) | (with_reducible exact bel_box _) | (with_reducible refine bel_step ?_ (by with_reducible assumption)) | (with_reducible refine Below.drew ?_) | (with_reducible refine below_drewN ?_ _) | (with_reducible refine bel_alloc ?_ _)))⟩
        · have H4 := Lib.hid (h1 q)
          clear h1 h2
          go_wp2
          go_quiet (fail)
          go_wp2
          exact ⟨⟨k + 1, by omega, by congr 1, (by repeat (first | (with_reducible exact Below.refl _ _) | (with_reducible assumption) | (with_reducible exact bel_box _) | (with_reducible refine bel_step ?_ (by with_reducible assumption)) | (with_reducible refine Below.drew ?_) | (with_reducible refine below_drewN ?_ _) | (with_reducible refine bel_alloc ?_ _))), H4⟩, by simp [intOf]; omega⟩
      · obtain rfl : k = n := by omega
        have h1 := hno.out
        rw [← HL.out.1, List.take_length, HL.out.1, ← HL.out.2, List.take_length] at h1
        have h2 := H3.out h1
        clear h1 hno
        go_wp2
        go_ret
        exact ⟨by rw [h2]; rfl, hbl⟩
  · have h3 : sameN a b = false := by
      rw [sameN, beq_eq_false_iff_ne]
      intro e
      have := congrArg List.length e
      simp at this
      omega
    rw [h3]
    have hl2 : (((a.length : Nat) : Int) != ((b.length : Nat) : Int)) = true := by simp; omega
    go_enter Tryz.func25, Tryz.ntmps25
    go_wp2
    go_ret
    exact ⟨rfl, Below.refl _ _⟩
end Go.Proofs.YtfogkcccjemloaaGreatDoor
/- exceeds of the program. -/
namespace Go.Proofs.YtfogkcccjemloaaGreatDoor
set_option linter.unusedVariables false
set_option linter.unusedSimpArgs false
open Go.RowKit Go.Shelf
attribute [local go_sem] Oper.semAt_some
set_option maxHeartbeats 2000000 in
set_option maxRecDepth 100000 in
theorem exceeds_any (x : Xt) (N : Nat) (w : World) (hX : RdX w w.heap.size x) (hN : N ≤ 100000) : Calls Tryz.prog 39 #[xV x, .int .i64 (N : Int)] w (Bel (.bool (decide (N < x.size))) w) := by
  have hdd : ∀ k : Nat, (Fence.wide.depth.isSome = true → 1 ≤ k) := fun k h => by cases h
  have KW := Lib.hid (fun W => within_any x 41 W)
  have HX := Lib.hid hX
  clear hX
  simp only [xV] at KW ⊢
  refine (callsIn_wide (n := 3)).1 ?_
  refine callsIn_of_wp_marks Tryz.func39 rfl trivial ?_ rfl
  simp only [Tryz.ntmps39, List.size_toArray, List.length_cons, List.length_nil, Nat.reduceAdd, Nat.reduceSub, Array.replicate_succ, Array.replicate_zero, List.push_toArray, List.append_toArray, List.nil_append, List.cons_append]
  gi_wp2_with (refine ⟨trivial, ?_⟩; gi_at_call 40; refine (callsIn_wide.2 (KW.out _)).mono ?_; rintro e W1 ⟨rfl, rfl⟩)
  obtain ⟨Wc, hWc⟩ : ∃ Wc, (((bxW w x).alloc (.cells #[.int .i64 (N : Int)] 3)).alloc (.cells #[.bool false] 4)) = Wc := ⟨_, rfl⟩
  have hz : Wc.heap.size = w.heap.size + 3 := by rw [← hWc]; simp only [World.size_alloc]
  have hBc : Below w.heap.size w Wc := by rw [← hWc]; exact bel_alloc (bel_alloc (bel_box _) _) _
  have g0 : Wc.cell? ⟨w.heap.size + 1, 0, none⟩ = some (.int .i64 (N : Int)) := by rw [← hWc]; simp [go_sem]
  have g1 : Wc.frozen? ⟨w.heap.size + 1, 0, none⟩ = false := by rw [← hWc]; simp [go_sem]
  have g2 : Wc.cell? ⟨w.heap.size + 2, 0, none⟩ = some (.bool false) := by rw [← hWc]; simp [go_sem]
  have g3 : Wc.frozen? ⟨w.heap.size + 2, 0, none⟩ = false := by rw [← hWc]; simp [go_sem]
  have hst := within_at (3 - 1) w.heap.size (fun k => k = w.heap.size + 1 ∨ k = w.heap.size + 2) x Wc (fun k hk => by rcases hk with rfl | rfl <;> omega) (by omega) (HX.out.blw hBc (Nat.le_refl _))
  obtain ⟨W0, hW0⟩ : ∃ W0, inW Wc x 41 = W0 := ⟨_, rfl⟩
  have hz0 : W0.heap.size = w.heap.size + 5 := by rw [← hW0, inW_size]; omega
  have hB0 : Below w.heap.size w W0 := by rw [← hW0]; exact hBc.trans ((inW_below Wc x _).mono (by omega))
  have f0 : W0.cell? ⟨w.heap.size + 1, 0, none⟩ = some (.int .i64 (N : Int)) := by rw [← hW0]; exact (inW_old (by omega)).1.trans g0
  have f1 : W0.frozen? ⟨w.heap.size + 1, 0, none⟩ = false := by rw [← hW0]; exact (inW_old (by omega)).2.trans g1
  have f2 : W0.cell? ⟨w.heap.size + 2, 0, none⟩ = some (.bool false) := by rw [← hW0]; exact (inW_old (by omega)).1.trans g2
  have f3 : W0.frozen? ⟨w.heap.size + 2, 0, none⟩ = false := by rw [← hW0]; exact (inW_old (by omega)).2.trans g3
  rw [hz, hW0] at hst
  rw [show (bxW (((w.alloc (Obj.cells #[.int .i64 x.k, .int .i64 x.op, .int .i64 x.t, .int .i64 x.v, .string x.nm, .slice x.A x.ar.length x.c] 24)).alloc (.cells #[.int .i64 (N : Int)] 3)).alloc (.cells #[.bool false] 4)) x).alloc (.cells #[.func (.func 41) #[] #[]] 42) = W0 by rw [← hW0, ← hWc]]
  clear hW0 hWc g0 g1 g2 g3 KW HX
  have hll := list_length x
  refine wpIn_rangeFunc_ownF rfl (by decide) (gf := 62) (lb := #[.pointer (some ⟨w.heap.size + 3, 0, none⟩), .pointer (some ⟨w.heap.size + 3 + 1, 0, none⟩)]) rfl trivial (enters_of Tryz.func62 (by kernel_rfl) rfl)
    hst KX_t KX_b (Below.refl _ _) (fun _ => rfl)
    (fun pre W => (pre.length ≤ N ∧ W.cell? ⟨w.heap.size + 1, 0, none⟩ = some (.int .i64 ((N - pre.length : Nat) : Int)) ∧ W.frozen? ⟨w.heap.size + 1, 0, none⟩ = false ∧ W.cell? ⟨w.heap.size + 2, 0, none⟩ = some (.bool false) ∧ W.frozen? ⟨w.heap.size + 2, 0, none⟩ = false) ∧ Below w.heap.size w W)
    (fun c pre W => (c = .ret ∧ N < pre.length ∧ W.cell? ⟨w.heap.size + 2, 0, none⟩ = some (.bool true)) ∧ Below w.heap.size w W)
    (OwnFrom.and (Own.from (fun s A B row hs hg hr => ⟨hs.1, cell_kept hs.2.1 hg hr, (frozen_kept hs.2.1 hg hr).trans hs.2.2.1, cell_kept hs.2.2.2.1 hg hr, (frozen_kept hs.2.2.2.1 hg hr).trans hs.2.2.2.2⟩) _) (ownFrom_below (Nat.le_refl _) (by omega)))
    (fun c => OwnFrom.and (Own.from (fun s A B row hs hg hr => ⟨hs.1, hs.2.1, cell_kept hs.2.2 hg hr⟩) _) (ownFrom_below (Nat.le_refl _) (by omega)))
    ⟨⟨by simp, by simpa using f0, f1, f2, f3⟩, hB0⟩
    (fun y => { tmps := #[.agg #[.int .i64 x.k, .int .i64 x.op, .int .i64 x.t, .int .i64 x.v, .string x.nm, .slice x.A x.ar.length x.c], .int .i64 (N : Int), .pointer (some ⟨w.heap.size, 0, none⟩), .pointer (some ⟨w.heap.size + 1, 0, none⟩), .pointer (some ⟨w.heap.size + 1 + 1, 0, none⟩), .agg #[.int .i64 x.k, .int .i64 x.op, .int .i64 x.t, .int .i64 x.v, .string x.nm, .slice x.A x.ar.length x.c], .func (.func 62) #[] #[.pointer (some ⟨w.heap.size + 3, 0, none⟩), .pointer (some ⟨w.heap.size + 3 + 1, 0, none⟩)], xV y, undef, undef, undef, undef], defers := [] }) ?assign ?body ?done ?stop
  case assign =>
    intro l y W K hK
    gi_wp2
    simpa using hK
  case body =>
    rintro l pre y W ⟨⟨i0, i1, i2, i3, i4⟩, hB⟩ hlt
    by_cases hq : pre.length < N
    · obtain ⟨m, hm⟩ : ∃ m, N - pre.length = m + 1 := ⟨N - pre.length - 1, by omega⟩
      have hm2 : N - (pre.length + 1) = m := by omega
      rw [hm] at i1
      have u1 : ((m + 1 : Nat) : Int) - 1 = (m : Int) := by omega
      have u2 : (0 : Int) ≤ (m : Int) := by omega
      gi_wp2
      exact ⟨KeepsOthers.setCell _ _ _, KX.set (S := fun k => k = w.heap.size + 1 ∨ k = w.heap.size + 2) (a := ⟨w.heap.size + 1, 0, none⟩) (.inl rfl) _, ⟨by rw [List.length_append, List.length_singleton]; omega, by rw [List.length_append, List.length_singleton, hm2]; exact World.cell?_setCell_same' _ _ _ (by rw [i1]; rfl), by rw [World.frozen?_setCell]; exact i2, (World.cell?_setCell_other _ _ _ _ (by simp)).trans i3, by rw [World.frozen?_setCell]; exact i4⟩, hB.setCell (p := ⟨w.heap.size + 1, 0, none⟩) (by simp) _⟩
    · have hm : N - pre.length = 0 := by omega
      rw [hm] at i1
      gi_wp2
      exact ⟨(KeepsOthers.setCell _ _ _).trans (KeepsOthers.setCell _ _ _), ⟨rfl, by rw [List.length_append, List.length_singleton]; omega, World.cell?_setCell_same' _ _ _ (by rw [World.cell?_setCell_other _ _ _ _ (by simp), i3]; rfl)⟩, (hB.setCell (p := ⟨w.heap.size + 1, 0, none⟩) (by simp) _).setCell (p := ⟨w.heap.size + 2, 0, none⟩) (by simp) _⟩
  case done =>
    rintro D ys W hD rfl ⟨⟨hn, _, _, hc, hf⟩, hB⟩ hK
    have hdec : decide (N < x.size) = false := decide_eq_false (by omega)
    gi_wp2
    have hK' := (KeepsOthers.setCell W ⟨w.heap.size + 2, 0, none⟩ (.bool false)).same D _ hK rfl
    refine ⟨by simp, .inl ⟨_, _, rfl, run_takeDeferred hK', ?_⟩⟩
    have hc5 := cell_kept (World.cell?_setCell_same' W ⟨w.heap.size + 2, 0, none⟩ (.bool false) (by rw [hc]; rfl)) (grownBy_putObj' _ D (.deferred none)) (fun r e => by cases e; exact ⟨_, hK', rfl⟩)
    refine ⟨.bool false, ?_, by rw [hdec], (hB.setCell (p := ⟨w.heap.size + 2, 0, none⟩) (by simp) _).trans (belowK_b (w := w) (Nat.le_refl _) _ D _ _ (by omega) hK' rfl rfl)⟩
    simp [results, Tryz.f39, go_sem, hc5]
  case stop =>
    rintro D c pre W hD ⟨t, ht⟩ ⟨⟨rfl, hin, hc⟩, hB⟩ hK
    have hdec : decide (N < x.size) = true := decide_eq_true (by rw [← hll, ← ht, List.length_append]; omega)
    gi_wp2
    refine ⟨by simp, .inl ⟨_, _, rfl, run_takeDeferred hK, ?_⟩⟩
    have hc5 := cell_kept hc (grownBy_putObj' _ D (.deferred none)) (fun r e => by cases e; exact ⟨_, hK, rfl⟩)
    refine ⟨.bool true, ?_, by rw [hdec], hB.trans (belowK_b (w := w) (Nat.le_refl _) W D _ _ (by omega) hK rfl rfl)⟩
    simp [results, Tryz.f39, go_sem, hc5]
end Go.Proofs.YtfogkcccjemloaaGreatDoor
/- formed, hasOnly of the program. -/
namespace Go.Proofs.YtfogkcccjemloaaGreatDoor
set_option linter.unusedVariables false
set_option linter.unusedSimpArgs false
open Go.RowKit
def formedP (k op t v n : Int) (wok : Bool) : Bool :=
  if k = 1 then n == 0 && hasVal t v else if k = 2 then n == 0 else if k = 3 then decide (1 ≤ op ∧ op ≤ 16) && n == opnds op else if k = 4 then n == 3 else if k = 5 then n == 1 else if k = 6 ∨ k = 7 then n == 2
  else if k = 8 then n == 1 && (t != 2 && hasVal t v) else if k = 9 then hasBr t n else if k = 10 then v == 0 || (v == 1 && decide (0 < n)) else if k = 11 then n == 0 && wok else false
def onlyP (k op t v : Int) (ne : Bool) : Bool :=
  if k ≠ 3 ∧ op ≠ 0 then false else if k = 1 then ne else if k = 8 then true else if k = 9 then v == 0 else if k = 10 then t == 0 else if k = 2 ∨ k = 11 then t == 0 && v == 0 else t == 0 && (v == 0 && ne)
set_option maxHeartbeats 2000000 in
set_option maxRecDepth 20000 in
theorem formed_any (x : Xt) (wok : Bool) (w : World) (KP : x.k = 11 → Hid (∀ W, Below w.heap.size w W → Calls Tryz.prog 36 #[.string x.nm] W (fun e w' => ∃ (A1 A2 : Option Addr) (n1 c1 n2 c2 : Nat) (er : Int), e = .returned (.tuple #[.agg #[.slice A1 n1 c1, .slice A2 n2 c2], .int .i64 er]) ∧ (er == 0) = wok ∧ Below W.heap.size W w'))) :
    Calls Tryz.prog 64 #[xV x] w (Bel (.bool (formedP x.k x.op x.t x.v x.ar.length wok)) w) := by
  have HV := Lib.hid (hasvalue_any x.t x.v)
  have HO := Lib.hid (operands_any x.op)
  have HB := Lib.hid (hasbranches_any x.t x.ar.length)
  obtain ⟨k, op, t, v, nm, A, c, ar⟩ := x
  simp only [xV, Xt.k, Xt.op, Xt.t, Xt.v, Xt.nm, Xt.A, Xt.c, Xt.ar] at *
  obtain ⟨n, hn⟩ : ∃ n : Nat, ar.length = n := ⟨_, rfl⟩
  rw [hn] at HB ⊢
  clear hn
  by_cases h1 : k = 1
  · subst h1
    rw [formedP, if_pos rfl]
    generalize hasVal t v = b at *
    cases b
    all_goals
      go_enter Tryz.func64, Tryz.ntmps64
      go_wp2_with (go_at_call 86; refine (HV.out _).mono ?_; rintro e w1 ⟨rfl, hb1⟩)
    all_goals go_ret
    all_goals exact ⟨ret_bool (by simp_all), (by repeat (first | (with_reducible exact Below.refl _ _) | (with_reducible assumption) | (with_reducible exact bel_box _) | (with_reducible refine bel_step ?_ (by with_reducible assumption)) | (with_reducible refine Below.drew ?_) | (with_reducible refine below_drewN ?_ _) | (with_reducible refine bel_alloc ?_ _)))⟩
  by_cases h2 : k = 2
  · subst h2
    go_enter Tryz.func64, Tryz.ntmps64
    go_wp2
    all_goals go_ret
    all_goals exact ⟨ret_bool (by simp_all [formedP]), (by repeat (first | (with_reducible exact Below.refl _ _) | (with_reducible assumption) | (with_reducible exact bel_box _) | (with_reducible refine bel_step ?_ (by with_reducible assumption)) | (with_reducible refine Below.drew ?_) | (with_reducible refine below_drewN ?_ _) | (with_reducible refine bel_alloc ?_ _)))⟩
  by_cases h3 : k = 3
  · subst h3
    rw [formedP, if_neg (by decide), if_neg (by decide), if_pos rfl]
    generalize opnds op = q at *
    go_enter Tryz.func64, Tryz.ntmps64
    go_wp2_with (go_at_call 87; refine (HO.out _).mono ?_; rintro e w1 ⟨rfl, hb1⟩)
    all_goals go_ret
    all_goals refine ⟨ret_bool ?_, (by repeat (first | (with_reducible exact Below.refl _ _) | (with_reducible assumption) | (with_reducible exact bel_box _) | (with_reducible refine bel_step ?_ (by with_reducible assumption)) | (with_reducible refine Below.drew ?_) | (with_reducible refine below_drewN ?_ _) | (with_reducible refine bel_alloc ?_ _)))⟩
    all_goals (rw [Bool.eq_iff_iff]; simp; omega)
  by_cases h4 : k = 4
  · subst h4
    go_enter Tryz.func64, Tryz.ntmps64
    go_wp2
    all_goals go_ret
    all_goals exact ⟨ret_bool (by simp_all [formedP]), (by repeat (first | (with_reducible exact Below.refl _ _) | (with_reducible assumption) | (with_reducible exact bel_box _) | (with_reducible refine bel_step ?_ (by with_reducible assumption)) | (with_reducible refine Below.drew ?_) | (with_reducible refine below_drewN ?_ _) | (with_reducible refine bel_alloc ?_ _)))⟩
  by_cases h5 : k = 5
  · subst h5
    go_enter Tryz.func64, Tryz.ntmps64
    go_wp2
    all_goals go_ret
    all_goals exact ⟨ret_bool (by simp_all [formedP]), (by repeat (first | (with_reducible exact Below.refl _ _) | (with_reducible assumption) | (with_reducible exact bel_box _) | (with_reducible refine bel_step ?_ (by with_reducible assumption)) | (with_reducible refine Below.drew ?_) | (with_reducible refine below_drewN ?_ _) | (with_reducible refine bel_alloc ?_ _)))⟩
  by_cases h6 : k = 6
  · subst h6
    go_enter Tryz.func64, Tryz.ntmps64
    go_wp2
    all_goals go_ret
    all_goals exact ⟨ret_bool (by simp_all [formedP]), (by repeat (first | (with_reducible exact Below.refl _ _) | (with_reducible assumption) | (with_reducible exact bel_box _) | (with_reducible refine bel_step ?_ (by with_reducible assumption)) | (with_reducible refine Below.drew ?_) | (with_reducible refine below_drewN ?_ _) | (with_reducible refine bel_alloc ?_ _)))⟩
  by_cases h7 : k = 7
  · subst h7
    go_enter Tryz.func64, Tryz.ntmps64
    go_wp2
    all_goals go_ret
    all_goals exact ⟨ret_bool (by simp_all [formedP]), (by repeat (first | (with_reducible exact Below.refl _ _) | (with_reducible assumption) | (with_reducible exact bel_box _) | (with_reducible refine bel_step ?_ (by with_reducible assumption)) | (with_reducible refine Below.drew ?_) | (with_reducible refine below_drewN ?_ _) | (with_reducible refine bel_alloc ?_ _)))⟩
  by_cases h8 : k = 8
  · subst h8
    rw [formedP, if_neg (by decide), if_neg (by decide), if_neg (by decide), if_neg (by decide), if_neg (by decide), if_neg (by decide), if_pos rfl]
    generalize hasVal t v = b at *
    cases b
    all_goals
      go_enter Tryz.func64, Tryz.ntmps64
      go_wp2_with (go_at_call 86; refine (HV.out _).mono ?_; rintro e w1 ⟨rfl, hb1⟩)
    all_goals go_ret
    all_goals exact ⟨ret_bool (by simp_all), (by repeat (first | (with_reducible exact Below.refl _ _) | (with_reducible assumption) | (with_reducible exact bel_box _) | (with_reducible refine bel_step ?_ (by with_reducible assumption)) | (with_reducible refine Below.drew ?_) | (with_reducible refine below_drewN ?_ _) | (with_reducible refine bel_alloc ?_ _)))⟩
  by_cases h9 : k = 9
  · subst h9
    rw [formedP, if_neg (by decide), if_neg (by decide), if_neg (by decide), if_neg (by decide), if_neg (by decide), if_neg (by decide), if_neg (by decide), if_pos rfl]
    generalize hasBr t n = b at *
    go_enter Tryz.func64, Tryz.ntmps64
    go_wp2_with (go_at_call 88; refine (HB.out _).mono ?_; rintro e w1 ⟨rfl, hb1⟩)
    all_goals go_ret
    all_goals exact ⟨rfl, (by repeat (first | (with_reducible exact Below.refl _ _) | (with_reducible assumption) | (with_reducible exact bel_box _) | (with_reducible refine bel_step ?_ (by with_reducible assumption)) | (with_reducible refine Below.drew ?_) | (with_reducible refine below_drewN ?_ _) | (with_reducible refine bel_alloc ?_ _)))⟩
  by_cases h10 : k = 10
  · subst h10
    rw [formedP, if_neg (by decide), if_neg (by decide), if_neg (by decide), if_neg (by decide), if_neg (by decide), if_neg (by decide), if_neg (by decide), if_neg (by decide), if_pos rfl]
    go_enter Tryz.func64, Tryz.ntmps64
    go_wp2
    all_goals go_ret
    all_goals refine ⟨ret_bool ?_, (by repeat (first | (with_reducible exact Below.refl _ _) | (with_reducible assumption) | (with_reducible exact bel_box _) | (with_reducible refine bel_step ?_ (by with_reducible assumption)) | (with_reducible refine Below.drew ?_) | (with_reducible refine below_drewN ?_ _) | (with_reducible refine bel_alloc ?_ _)))⟩
    all_goals (rw [Bool.eq_iff_iff]; simp_all)
  by_cases h11 : k = 11
  · subst h11
    have KQ := KP rfl
    rw [formedP, if_neg (by decide), if_neg (by decide), if_neg (by decide), if_neg (by decide), if_neg (by decide), if_neg (by decide), if_neg (by decide), if_neg (by decide), if_neg (by decide), if_pos rfl]
    clear KP
    cases wok
    all_goals
      go_enter Tryz.func64, Tryz.ntmps64
      go_wp2_with (go_at_call 36; refine (KQ.out _ ?_).mono ?_; (focus ((repeat (first | (with_reducible exact Below.refl _ _) | (with_reducible assumption) | (with_reducible exact bel_box _) | (with_reducible refine bel_step ?_ (by with_reducible assumption)) | (with_reducible refine Below.drew ?_) | (with_reducible refine below_drewN ?_ _) | (with_reducible refine bel_alloc ?_ _))); done)); rintro e w1 ⟨A1, A2, n1, c1, n2, c2, er, rfl, her, hb1⟩)
    all_goals go_ret
    all_goals exact ⟨ret_bool (by simp_all), (by repeat (first | (with_reducible exact Below.refl _ _) | (with_reducible assumption) | (with_reducible exact bel_box _) | (with_reducible refine bel_step ?_ (by with_reducible assumption)) | (with_reducible refine Below.drew ?_) | (with_reducible refine below_drewN ?_ _) | (with_reducible refine bel_alloc ?_ _)))⟩
  have e : formedP k op t v n wok = false := by
    rw [formedP, if_neg h1, if_neg h2, if_neg h3, if_neg h4, if_neg h5, if_neg (by omega), if_neg h8, if_neg h9, if_neg h10, if_neg h11]
  rw [e]
  have q1 : (k == 1) = false := by simpa using h1
  have q2 : (k == 2) = false := by simpa using h2
  have q3 : (k == 3) = false := by simpa using h3
  have q4 : (k == 4) = false := by simpa using h4
  have q5 : (k == 5) = false := by simpa using h5
  have q6 : (k == 6) = false := by simpa using h6
  have q7 : (k == 7) = false := by simpa using h7
  have q8 : (k == 8) = false := by simpa using h8
  have q9 : (k == 9) = false := by simpa using h9
  have q10 : (k == 10) = false := by simpa using h10
  have q11 : (k == 11) = false := by simpa using h11
  go_enter Tryz.func64, Tryz.ntmps64
  go_wp2
  go_ret
  exact ⟨rfl, (by repeat (first | (with_reducible exact Below.refl _ _) | (with_reducible assumption) | (with_reducible exact bel_box _) | (with_reducible refine bel_step ?_ (by with_reducible assumption)) | (with_reducible refine Below.drew ?_) | (with_reducible refine below_drewN ?_ _) | (with_reducible refine bel_alloc ?_ _)))⟩
set_option maxHeartbeats 2000000 in
set_option maxRecDepth 20000 in
theorem hasonly_any (x : Xt) (w : World) : Calls Tryz.prog 65 #[xV x] w (Bel (.bool (onlyP x.k x.op x.t x.v (x.nm.toList == []))) w) := by
  obtain ⟨k, op, t, v, nm, A, c, ar⟩ := x
  simp only [xV, Xt.k, Xt.op, Xt.t, Xt.v, Xt.nm, Xt.A, Xt.c, Xt.ar] at *
  have hne : (nm.toList == []) = nm.toList.isEmpty := by cases nm.toList <;> rfl
  by_cases h0 : k ≠ 3 ∧ op ≠ 0
  · rw [onlyP, if_pos h0]
    have q1 : (k != 3) = true := by simpa using h0.1
    have q2 : (op != 0) = true := by simpa using h0.2
    go_enter Tryz.func65, Tryz.ntmps65
    go_wp2
    all_goals go_ret
    all_goals exact ⟨rfl, (by repeat (first | (with_reducible exact Below.refl _ _) | (with_reducible assumption) | (with_reducible exact bel_box _) | (with_reducible refine bel_step ?_ (by with_reducible assumption)) | (with_reducible refine Below.drew ?_) | (with_reducible refine below_drewN ?_ _) | (with_reducible refine bel_alloc ?_ _)))⟩
  rw [onlyP, if_neg h0]
  have hq : (k != 3) = false ∨ (k != 3) = true ∧ (op != 0) = false := by
    by_cases h : k = 3
    · exact .inl (by simp [h])
    · exact .inr ⟨by simpa using h, by simpa using fun e => h0 ⟨h, e⟩⟩
  clear h0
  by_cases h1 : k = 1
  · subst h1
    rw [if_pos rfl]
    rcases hq with hq | ⟨_, hq⟩
    · cases hq
    go_enter Tryz.func65, Tryz.ntmps65
    go_wp2
    all_goals go_ret
    all_goals exact ⟨ret_bool (by simp_all), (by repeat (first | (with_reducible exact Below.refl _ _) | (with_reducible assumption) | (with_reducible exact bel_box _) | (with_reducible refine bel_step ?_ (by with_reducible assumption)) | (with_reducible refine Below.drew ?_) | (with_reducible refine below_drewN ?_ _) | (with_reducible refine bel_alloc ?_ _)))⟩
  by_cases h8 : k = 8
  · subst h8
    rw [if_neg (by decide), if_pos rfl]
    rcases hq with hq | ⟨_, hq⟩
    · cases hq
    go_enter Tryz.func65, Tryz.ntmps65
    go_wp2
    all_goals go_ret
    all_goals exact ⟨rfl, (by repeat (first | (with_reducible exact Below.refl _ _) | (with_reducible assumption) | (with_reducible exact bel_box _) | (with_reducible refine bel_step ?_ (by with_reducible assumption)) | (with_reducible refine Below.drew ?_) | (with_reducible refine below_drewN ?_ _) | (with_reducible refine bel_alloc ?_ _)))⟩
  by_cases h9 : k = 9
  · subst h9
    rw [if_neg (by decide), if_neg (by decide), if_pos rfl]
    rcases hq with hq | ⟨_, hq⟩
    · cases hq
    go_enter Tryz.func65, Tryz.ntmps65
    go_wp2
    all_goals go_ret
    all_goals exact ⟨rfl, (by repeat (first | (with_reducible exact Below.refl _ _) | (with_reducible assumption) | (with_reducible exact bel_box _) | (with_reducible refine bel_step ?_ (by with_reducible assumption)) | (with_reducible refine Below.drew ?_) | (with_reducible refine below_drewN ?_ _) | (with_reducible refine bel_alloc ?_ _)))⟩
  by_cases h10 : k = 10
  · subst h10
    rw [if_neg (by decide), if_neg (by decide), if_neg (by decide), if_pos rfl]
    rcases hq with hq | ⟨_, hq⟩
    · cases hq
    go_enter Tryz.func65, Tryz.ntmps65
    go_wp2
    all_goals go_ret
    all_goals exact ⟨rfl, (by repeat (first | (with_reducible exact Below.refl _ _) | (with_reducible assumption) | (with_reducible exact bel_box _) | (with_reducible refine bel_step ?_ (by with_reducible assumption)) | (with_reducible refine Below.drew ?_) | (with_reducible refine below_drewN ?_ _) | (with_reducible refine bel_alloc ?_ _)))⟩
  have q1 : (k == 1) = false := by simpa using h1
  have q8 : (k == 8) = false := by simpa using h8
  have q9 : (k == 9) = false := by simpa using h9
  have q10 : (k == 10) = false := by simpa using h10
  rw [if_neg h1, if_neg h8, if_neg h9, if_neg h10]
  by_cases h2 : k = 2
  · subst h2
    rw [if_pos (.inl rfl)]
    rcases hq with hq | ⟨_, hq⟩
    · cases hq
    go_enter Tryz.func65, Tryz.ntmps65
    go_wp2
    all_goals go_ret
    all_goals exact ⟨ret_bool (by simp_all), (by repeat (first | (with_reducible exact Below.refl _ _) | (with_reducible assumption) | (with_reducible exact bel_box _) | (with_reducible refine bel_step ?_ (by with_reducible assumption)) | (with_reducible refine Below.drew ?_) | (with_reducible refine below_drewN ?_ _) | (with_reducible refine bel_alloc ?_ _)))⟩
  by_cases h11 : k = 11
  · subst h11
    rw [if_pos (.inr rfl)]
    rcases hq with hq | ⟨_, hq⟩
    · cases hq
    go_enter Tryz.func65, Tryz.ntmps65
    go_wp2
    all_goals go_ret
    all_goals exact ⟨ret_bool (by simp_all), (by repeat (first | (with_reducible exact Below.refl _ _) | (with_reducible assumption) | (with_reducible exact bel_box _) | (with_reducible refine bel_step ?_ (by with_reducible assumption)) | (with_reducible refine Below.drew ?_) | (with_reducible refine below_drewN ?_ _) | (with_reducible refine bel_alloc ?_ _)))⟩
  have q2 : (k == 2) = false := by simpa using h2
  have q11 : (k == 11) = false := by simpa using h11
  rw [if_neg (by omega)]
  rcases hq with hq | ⟨hk3, hq⟩
  all_goals
    go_enter Tryz.func65, Tryz.ntmps65
    go_wp2
  all_goals go_ret
  all_goals exact ⟨ret_bool (by simp_all), (by repeat (first | (with_reducible exact Below.refl _ _) | (with_reducible assumption) | (with_reducible exact bel_box _) | (with_reducible refine bel_step ?_ (by with_reducible assumption)) | (with_reducible refine Below.drew ?_) | (with_reducible refine below_drewN ?_ _) | (with_reducible refine bel_alloc ?_ _)))⟩
end Go.Proofs.YtfogkcccjemloaaGreatDoor
/- checkOne of the program. -/
namespace Go.Proofs.YtfogkcccjemloaaGreatDoor
set_option linter.unusedVariables false
set_option linter.unusedSimpArgs false
open Go.RowKit
/-- the error of one expression -/
def chk1 (wok : ByteArray → Bool) (x : Xt) : Int := if 64 < x.ar.length then 3 else if (formedP x.k x.op x.t x.v x.ar.length (wok x.nm) && onlyP x.k x.op x.t x.v (x.nm.toList == [])) = false then 5 else if (hasIdn x.k && !idP x.nm) = true then 6 else 0
/-- what is asked of the callees that read the Name -/
def NmOk (wok : ByteArray → Bool) (w : World) (x : Xt) : Prop := (x.k = 11 → Hid (∀ W, Below w.heap.size w W → Calls Tryz.prog 36 #[.string x.nm] W (fun e w' => ∃ (A1 A2 : Option Addr) (n1 c1 n2 c2 : Nat) (er : Int), e = .returned (.tuple #[.agg #[.slice A1 n1 c1, .slice A2 n2 c2], .int .i64 er]) ∧ (er == 0) = wok x.nm ∧ Below W.heap.size W w'))) ∧ (hasIdn x.k = true → Hid (∀ W, Below w.heap.size w W → Calls Tryz.prog 35 #[.string x.nm] W (Bel (.bool (idP x.nm)) W)))
theorem NmOk.to {wok : ByteArray → Bool} {w W : World} {x : Xt} (h : NmOk wok w x) (hb : Below w.heap.size w W) : NmOk wok W x :=
  ⟨fun e => Lib.hid fun W' hb' => (h.1 e).out W' (bel_step hb hb'), fun e => Lib.hid fun W' hb' => (h.2 e).out W' (bel_step hb hb')⟩
set_option maxHeartbeats 2000000 in
set_option maxRecDepth 20000 in
theorem checkone_any (wok : ByteArray → Bool) (x : Xt) (w : World) (h9 : x.ar.length ≤ maxLen) (hN : NmOk wok w x) : Calls Tryz.prog 42 #[xV x] w (Bel (.int .i64 (chk1 wok x)) w) := by
  have KF : Hid (∀ W, Below w.heap.size w W → Calls Tryz.prog 64 #[xV x] W (Bel (.bool (formedP x.k x.op x.t x.v x.ar.length (wok x.nm))) W)) := Lib.hid fun W hb => formed_any x _ W (hN.to hb).1
  have KO := Lib.hid (fun W => hasonly_any x W)
  have KH := Lib.hid (fun W => hasident_any x.k W)
  have KI := hN.2
  unfold maxLen at h9
  unfold chk1
  clear hN
  simp only [xV] at KF KO ⊢
  by_cases h64 : 64 < x.ar.length
  · rw [if_pos h64]
    have q : (64 : Int) < (x.ar.length : Int) := by omega
    go_enter Tryz.func42, Tryz.ntmps42
    go_wp2
    go_ret
    exact ⟨rfl, (by repeat (first | (with_reducible exact Below.refl _ _) | (with_reducible assumption) | (with_reducible exact bel_box _) | (with_reducible refine bel_step ?_ (by with_reducible assumption)) | (with_reducible refine Below.drew ?_) | (with_reducible refine below_drewN ?_ _) | (with_reducible refine bel_alloc ?_ _)))⟩
  rw [if_neg h64]
  have q : (x.ar.length : Int) ≤ 64 := by omega
  generalize formedP x.k x.op x.t x.v x.ar.length (wok x.nm) = bf at *
  generalize onlyP x.k x.op x.t x.v (x.nm.toList == []) = bo at *
  clear h64 h9
  cases bf
  · rw [Bool.false_and, if_pos rfl]
    go_enter Tryz.func42, Tryz.ntmps42
    go_wp2_with (go_at_call 64; refine (KF.out _ ?_).mono ?_; (focus ((repeat (first | (with_reducible exact Below.refl _ _) | (with_reducible assumption) | (with_reducible exact bel_box _) | (with_reducible refine bel_step ?_ (by with_reducible assumption)) | (with_reducible refine Below.drew ?_) | (with_reducible refine below_drewN ?_ _) | (with_reducible refine bel_alloc ?_ _))); done)); rintro e w1 ⟨rfl, hb1⟩)
    go_ret
    exact ⟨rfl, (by repeat (first | (with_reducible exact Below.refl _ _) | (with_reducible assumption) | (with_reducible exact bel_box _) | (with_reducible refine bel_step ?_ (by with_reducible assumption)) | (with_reducible refine Below.drew ?_) | (with_reducible refine below_drewN ?_ _) | (with_reducible refine bel_alloc ?_ _)))⟩
  cases bo
  · rw [Bool.true_and, if_pos rfl]
    go_enter Tryz.func42, Tryz.ntmps42
    go_wp2_with (first
      | (go_at_call 64; refine (KF.out _ ?_).mono ?_; (focus ((repeat (first | (with_reducible exact Below.refl _ _) | (with_reducible assumption) | (with_reducible exact bel_box _) | (with_reducible refine bel_step ?_ (by with_reducible assumption)) | (with_reducible refine Below.drew ?_) | (with_reducible refine below_drewN ?_ _) | (with_reducible refine bel_alloc ?_ _))); done)); rintro e w1 ⟨rfl, hb1⟩; obtain ⟨b0, b1, b2, b3, b4, b5, b6⟩ := bxW_cells (w := w) (x := x) hb1)
      | (go_at_call 65; refine (KO.out _).mono ?_; rintro e w2 ⟨rfl, hb2⟩))
    go_ret
    exact ⟨rfl, (by repeat (first | (with_reducible exact Below.refl _ _) | (with_reducible assumption) | (with_reducible exact bel_box _) | (with_reducible refine bel_step ?_ (by with_reducible assumption)) | (with_reducible refine Below.drew ?_) | (with_reducible refine below_drewN ?_ _) | (with_reducible refine bel_alloc ?_ _)))⟩
  rw [Bool.true_and, if_neg (by simp)]
  cases hi : hasIdn x.k
  · rw [hi] at KH
    rw [Bool.false_and, if_neg (by simp)]
    clear hi KI
    go_enter Tryz.func42, Tryz.ntmps42
    go_wp2_with (first
      | (go_at_call 64; refine (KF.out _ ?_).mono ?_; (focus ((repeat (first | (with_reducible exact Below.refl _ _) | (with_reducible assumption) | (with_reducible exact bel_box _) | (with_reducible refine bel_step ?_ (by with_reducible assumption)) | (with_reducible refine Below.drew ?_) | (with_reducible refine below_drewN ?_ _) | (with_reducible refine bel_alloc ?_ _))); done)); rintro e w1 ⟨rfl, hb1⟩; obtain ⟨b0, b1, b2, b3, b4, b5, b6⟩ := bxW_cells (w := w) (x := x) hb1)
      | (go_at_call 65; refine (KO.out _).mono ?_; rintro e w2 ⟨rfl, hb2⟩; obtain ⟨d0, d1, d2, d3, d4, d5, d6⟩ := bxW_cells (w := w) (x := x) (W := w2) (by repeat (first | (with_reducible exact Below.refl _ _) | (with_reducible assumption) | (with_reducible exact bel_box _) | (with_reducible refine bel_step ?_ (by with_reducible assumption)) | (with_reducible refine Below.drew ?_) | (with_reducible refine below_drewN ?_ _) | (with_reducible refine bel_alloc ?_ _))))
      | (go_at_call 66; refine (KH.out _).mono ?_; rintro e w3 ⟨rfl, hb3⟩))
    go_ret
    exact ⟨rfl, (by repeat (first | (with_reducible exact Below.refl _ _) | (with_reducible assumption) | (with_reducible exact bel_box _) | (with_reducible refine bel_step ?_ (by with_reducible assumption)) | (with_reducible refine Below.drew ?_) | (with_reducible refine below_drewN ?_ _) | (with_reducible refine bel_alloc ?_ _)))⟩
  have KI2 := KI hi
  rw [hi] at KH
  rw [Bool.true_and]
  clear hi KI
  generalize idP x.nm = bi at *
  cases bi
  all_goals
    go_enter Tryz.func42, Tryz.ntmps42
    go_wp2_with (first
      | (go_at_call 64; refine (KF.out _ ?_).mono ?_; (focus ((repeat (first | (with_reducible exact Below.refl _ _) | (with_reducible assumption) | (with_reducible exact bel_box _) | (with_reducible refine bel_step ?_ (by with_reducible assumption)) | (with_reducible refine Below.drew ?_) | (with_reducible refine below_drewN ?_ _) | (with_reducible refine bel_alloc ?_ _))); done)); rintro e w1 ⟨rfl, hb1⟩; obtain ⟨b0, b1, b2, b3, b4, b5, b6⟩ := bxW_cells (w := w) (x := x) hb1)
      | (go_at_call 65; refine (KO.out _).mono ?_; rintro e w2 ⟨rfl, hb2⟩; obtain ⟨d0, d1, d2, d3, d4, d5, d6⟩ := bxW_cells (w := w) (x := x) (W := w2) (by repeat (first | (with_reducible exact Below.refl _ _) | (with_reducible assumption) | (with_reducible exact bel_box _) | (with_reducible refine bel_step ?_ (by with_reducible assumption)) | (with_reducible refine Below.drew ?_) | (with_reducible refine below_drewN ?_ _) | (with_reducible refine bel_alloc ?_ _))))
      | (go_at_call 66; refine (KH.out _).mono ?_; rintro e w3 ⟨rfl, hb3⟩; obtain ⟨g0, g1, g2, g3, g4, g5, g6⟩ := bxW_cells (w := w) (x := x) (W := w3) (by repeat (first | (with_reducible exact Below.refl _ _) | (with_reducible assumption) | (with_reducible exact bel_box _) | (with_reducible refine bel_step ?_ (by with_reducible assumption)) | (with_reducible refine Below.drew ?_) | (with_reducible refine below_drewN ?_ _) | (with_reducible refine bel_alloc ?_ _))))
      | (go_at_call 35; refine (KI2.out _ ?_).mono ?_; (focus ((repeat (first | (with_reducible exact Below.refl _ _) | (with_reducible assumption) | (with_reducible exact bel_box _) | (with_reducible refine bel_step ?_ (by with_reducible assumption)) | (with_reducible refine Below.drew ?_) | (with_reducible refine below_drewN ?_ _) | (with_reducible refine bel_alloc ?_ _))); done)); rintro e w4 ⟨rfl, hb4⟩))
    go_ret
    exact ⟨rfl, (by repeat (first | (with_reducible exact Below.refl _ _) | (with_reducible assumption) | (with_reducible exact bel_box _) | (with_reducible refine bel_step ?_ (by with_reducible assumption)) | (with_reducible refine Below.drew ?_) | (with_reducible refine below_drewN ?_ _) | (with_reducible refine bel_alloc ?_ _)))⟩
end Go.Proofs.YtfogkcccjemloaaGreatDoor
/- What within hands back, each expression with what is known of it; Check of the program. -/
namespace Go.Proofs.YtfogkcccjemloaaGreatDoor
set_option linter.unusedVariables false
set_option linter.unusedSimpArgs false
open Go.RowKit Go.Shelf
attribute [local go_sem] Oper.semAt_some
/-- J over lists of expressions of which P is known, said of the expressions -/
def upJ {P : Xt → Prop} (J : List {y : Xt // P y} → World → Prop) (pre : List Xt) (W : World) : Prop := ∃ q, q.map (·.1) = pre ∧ J q W
set_option maxHeartbeats 1000000 in
set_option maxRecDepth 100000 in
theorem within_stopsP (P : Xt → Prop) (n be bp n₀ : Nat) (S : Nat → Prop) (x : Xt) (w : World) (hP : ∀ y ∈ x.list, P y) (hS : ∀ k, S k → n₀ ≤ k ∧ k < w.heap.size) (hn₀ : n₀ ≤ w.heap.size) (hbe : be < w.heap.size) (hbp : bp < w.heap.size) (hX : RdX w n₀ x)
    (c0 : w.cell? ⟨be, 0, none⟩ = some (.int .i64 x.k)) (c1 : w.cell? ⟨be, 1, none⟩ = some (.int .i64 x.op)) (c2 : w.cell? ⟨be, 2, none⟩ = some (.int .i64 x.t)) (c3 : w.cell? ⟨be, 3, none⟩ = some (.int .i64 x.v)) (c4 : w.cell? ⟨be, 4, none⟩ = some (.string x.nm)) (c5 : w.cell? ⟨be, 5, none⟩ = some (.slice x.A x.ar.length x.c)) (cp : w.cell? ⟨bp, 0, none⟩ = some (.func (.func 41) #[] #[])) :
    SeqStopsK Fence.wide n Tryz.prog 62 #[.pointer (some ⟨be, 0, none⟩), .pointer (some ⟨bp, 0, none⟩)] (fun y : {y : Xt // P y} => #[xV y.1]) (KX S) (fun ys => ys.map (·.1) = x.list) (fun pre => pre.map (·.1) <+: x.list) x.size w := by
  intro l J Jx W hW hJ _ hY h0
  have hdd : ∀ k : Nat, (Fence.wide.depth.isSome = true → 1 ≤ k) := fun k h => by cases h
  have hWs := hW.size
  have d0 := (hW.cell (p := ⟨be, 0, none⟩) hbe).trans c0
  have d1 := (hW.cell (p := ⟨be, 1, none⟩) hbe).trans c1
  have d2 := (hW.cell (p := ⟨be, 2, none⟩) hbe).trans c2
  have d3 := (hW.cell (p := ⟨be, 3, none⟩) hbe).trans c3
  have d4 := (hW.cell (p := ⟨be, 4, none⟩) hbe).trans c4
  have d5 := (hW.cell (p := ⟨be, 5, none⟩) hbe).trans c5
  have dp := (hW.cell (p := ⟨bp, 0, none⟩) hbp).trans cp
  have hp := walk_each_in l n₀ W.heap.size x.size S (fun k hs => ⟨(hS k hs).1, by have := (hS k hs).2; omega⟩) (upJ J) (upJ Jx) (fun s A B row ⟨q, hq, hs⟩ hg hr => ⟨q, hq, hJ q A B row hs hg hr⟩) P
    (fun m pre y W1 hPy ⟨q, hq, hj⟩ hl => yield_any rfl m (YieldAt.mono (hY q ⟨y, hPy⟩ W1 hj (by rw [← hq, List.length_map] at hl; exact hl)) fun e W' h => h.elim
      (fun ⟨he, hj2, hk⟩ => .inl ⟨he, ⟨q ++ [⟨y, hPy⟩], by rw [List.map_append, hq]; rfl, hj2⟩, hk⟩) (fun ⟨he, hx⟩ => .inr ⟨he, q ++ [⟨y, hPy⟩], by rw [List.map_append, hq]; rfl, hx⟩))) x (n - 1) [] W hP (hX.blw (hW.mono hn₀) (Nat.le_refl _)) (Nat.le_refl _) ⟨[], rfl, h0⟩ (by simp)
  simp only [List.nil_append, xV] at hp
  clear hY c0 c1 c2 c3 c4 c5 cp
  simp only [List.append_toArray, List.cons_append, List.nil_append, Array.append_eq_append] at *
  refine callsIn_of_wp Tryz.func62 rfl trivial ?_ rfl
  simp only [Tryz.ntmps62, List.size_toArray, List.length_cons, List.length_nil, Nat.reduceAdd, Nat.reduceSub, Array.replicate_succ, Array.replicate_zero, List.push_toArray, List.append_toArray, List.nil_append, List.cons_append]
  gi_wp2_with (refine ⟨trivial, hdd _, ?_⟩; gi_at_call 63; refine hp.mono ?_; clear hp; rintro e W1 (⟨rfl, ⟨ys, hys, hJ1⟩, _⟩ | ⟨rfl, q, hq, ys, hys, hx⟩))
  · go_end0
    exact ⟨⟨_, rfl⟩, .inl ⟨ys, hys, hJ1⟩⟩
  · go_end0
    exact ⟨⟨_, rfl⟩, .inr ⟨ys, by rw [hys]; exact hq, hx⟩⟩
theorem within_atP (P : Xt → Prop) (n n₀ : Nat) (S : Nat → Prop) (x : Xt) (w : World) (hP : ∀ y ∈ x.list, P y) (hS : ∀ k, S k → n₀ ≤ k ∧ k < w.heap.size) (hn₀ : n₀ ≤ w.heap.size) (hX : RdX w n₀ x) :
    SeqStopsK Fence.wide n Tryz.prog 62 #[.pointer (some ⟨w.heap.size, 0, none⟩), .pointer (some ⟨w.heap.size + 1, 0, none⟩)] (fun y : {y : Xt // P y} => #[xV y.1]) (KX S) (fun ys => ys.map (·.1) = x.list) (fun pre => pre.map (·.1) <+: x.list) x.size (inW w x 41) := by
  obtain ⟨b0, b1, b2, b3, b4, b5, _⟩ := bxW_cells (w := w) (x := x) (W := inW w x 41) (bel_box _)
  exact within_stopsP P n w.heap.size (w.heap.size + 1) n₀ S x _ hP (fun k hs => ⟨(hS k hs).1, by rw [inW_size]; have := (hS k hs).2; omega⟩) (by rw [inW_size]; omega) (by rw [inW_size]; omega) (by rw [inW_size]; omega) (hX.blw ((inW_below w x _).mono hn₀) (Nat.le_refl _)) b0 b1 b2 b3 b4 b5 (by simp [go_sem])
theorem RdX.all {w : World} {B : Nat} {x : Xt} (h : RdX w B x) : ∀ y ∈ x.list, y.ar.length ≤ maxLen := by
  induction x using Xt.ind with
  | h x ih =>
    intro y hy
    rw [Xt.list_eq] at hy
    rcases List.mem_cons.1 hy with rfl | hy
    · exact h.len.1
    · obtain ⟨l, hl, hyl⟩ := List.mem_flatten.1 hy
      obtain ⟨z, hz, rfl⟩ := List.mem_map.1 hl
      exact ih z hz (h.kid hz) y hyl
/-- the first error -/
def firstE (f : Xt → Int) : List Xt → Int
  | [] => 0
  | y :: r => if f y = 0 then firstE f r else f y
theorem firstE_ok {f : Xt → Int} {l : List Xt} (h : ∀ y ∈ l, f y = 0) : firstE f l = 0 := by
  induction l with
  | nil => rfl
  | cons y r ih => rw [firstE, if_pos (h y (by simp))]; exact ih fun z hz => h z (by simp [hz])
theorem firstE_at {f : Xt → Int} {l r : List Xt} {y : Xt} (h : ∀ z ∈ l, f z = 0) (hy : f y ≠ 0) : firstE f (l ++ y :: r) = f y := by
  induction l with
  | nil => rw [List.nil_append, firstE, if_neg hy]
  | cons z l ih => rw [List.cons_append, firstE, if_pos (h z (by simp))]; exact ih fun u hu => h u (by simp [hu])
theorem bx2 {w W : World} {x : Xt} {v : Value} {t : TypeId} (h : Below ((bxW w x).alloc (.cells #[v] t)).heap.size ((bxW w x).alloc (.cells #[v] t)) W) :
    (W.cell? ⟨w.heap.size, 0, none⟩ = some (.int .i64 x.k) ∧ W.cell? ⟨w.heap.size, 1, none⟩ = some (.int .i64 x.op) ∧ W.cell? ⟨w.heap.size, 2, none⟩ = some (.int .i64 x.t) ∧ W.cell? ⟨w.heap.size, 3, none⟩ = some (.int .i64 x.v) ∧ W.cell? ⟨w.heap.size, 4, none⟩ = some (.string x.nm) ∧ W.cell? ⟨w.heap.size, 5, none⟩ = some (.slice x.A x.ar.length x.c)) ∧ (W.cell? ⟨w.heap.size + 1, 0, none⟩ = some v ∧ W.frozen? ⟨w.heap.size + 1, 0, none⟩ = false) ∧ w.heap.size + 1 < W.heap.size ∧ Below w.heap.size w W := by
  have hz := h.size
  have hz2 : ((bxW w x).alloc (.cells #[v] t)).heap.size = w.heap.size + 2 := by simp only [World.size_alloc]
  rw [hz2] at hz
  have hb : Below (bxW w x).heap.size (bxW w x) W := (bel_box _).trans (h.mono (by rw [World.size_alloc]; omega))
  obtain ⟨b0, b1, b2, b3, b4, b5, _⟩ := bxW_cells hb
  refine ⟨⟨b0, b1, b2, b3, b4, b5⟩, ⟨?_, ?_⟩, by omega, bxW_below hb⟩
  · exact (h.cell (p := ⟨w.heap.size + 1, 0, none⟩) (by rw [hz2]; simp)).trans (by simp [go_sem])
  · exact (h.frozen (p := ⟨w.heap.size + 1, 0, none⟩) (by rw [hz2]; simp)).trans (by simp [go_sem])
def chkAll (wok : ByteArray → Bool) (x : Xt) : Int := if 400 < x.size ∨ 32 < x.depth then 3 else firstE (chk1 wok) x.list
set_option maxHeartbeats 2000000 in
set_option maxRecDepth 100000 in
theorem check_any (wok : ByteArray → Bool) (x : Xt) (w : World) (hX : RdX w w.heap.size x) (hN : ∀ y ∈ x.list, NmOk wok w y) : Calls Tryz.prog 12 #[xV x] w (Bel (.int .i64 (chkAll wok x)) w) := by
  have hdd : ∀ k : Nat, (Fence.wide.depth.isSome = true → 1 ≤ k) := fun k h => by cases h
  have KW := Lib.hid (fun W => within_any x 41 W)
  have KE : Hid (∀ W, Below w.heap.size w W → Calls Tryz.prog 39 #[xV x, .int .i64 400] W (Bel (.bool (decide (400 < x.size))) W)) := Lib.hid fun W hb => exceeds_any x 400 W (hX.to hb) (by omega)
  have HX := Lib.hid hX
  have hal := hX.all
  have hsz : x.size ≤ 400 → Hid (∀ W, Below w.heap.size w W → Calls Tryz.prog 16 #[xV x] W (Bel (.int .i64 (x.depth : Nat)) W)) := fun h => Lib.hid fun W hb => depth_any x W (hX.to hb) (by omega)
  clear hX
  simp only [xV] at KW KE hsz ⊢
  refine (callsIn_wide (n := 3)).1 ?_
  by_cases h400 : 400 < x.size
  · rw [chkAll, if_pos (.inl h400)]
    rw [decide_eq_true h400] at KE
    refine callsIn_of_wp_marks Tryz.func12 rfl trivial ?_ rfl
    simp only [Tryz.ntmps12, List.size_toArray, List.length_cons, List.length_nil, Nat.reduceAdd, Nat.reduceSub, Array.replicate_succ, Array.replicate_zero, List.push_toArray, List.append_toArray, List.nil_append, List.cons_append]
    gi_wp2_with (refine ⟨trivial, ?_⟩; gi_at_call 39; refine (callsIn_wide.2 (KE.out _ ?_)).mono ?_; (focus ((repeat (first | (with_reducible exact Below.refl _ _) | (with_reducible assumption) | (with_reducible exact bel_box _) | (with_reducible refine bel_step ?_ (by with_reducible assumption)) | (with_reducible refine Below.drew ?_) | (with_reducible refine below_drewN ?_ _) | (with_reducible refine bel_alloc ?_ _))); done)); rintro e W1 ⟨rfl, hb1⟩; obtain ⟨⟨a0, a1, a2, a3, a4, a5⟩, ⟨r0, r1⟩, hzz, hBB⟩ := bx2 hb1; clear hb1)
    refine ⟨trivial, ?_⟩
    gi_wp2
    refine ⟨.int .i64 3, ?_, rfl, hBB.setCell (p := ⟨w.heap.size + 1, 0, none⟩) (by simp) _⟩
    have hc5 := World.cell?_setCell_same' W1 ⟨w.heap.size + 1, 0, none⟩ (.int .i64 3) (by rw [r0]; rfl)
    simp [results, Tryz.f12, go_sem, hc5]
  rw [decide_eq_false h400] at KE
  have KD := hsz (by omega)
  clear hsz
  have hdl := depth_le x
  by_cases h32 : 32 < x.depth
  · rw [chkAll, if_pos (.inr h32)]
    have u1 : (32 : Int) < (x.depth : Int) := by omega
    refine callsIn_of_wp_marks Tryz.func12 rfl trivial ?_ rfl
    simp only [Tryz.ntmps12, List.size_toArray, List.length_cons, List.length_nil, Nat.reduceAdd, Nat.reduceSub, Array.replicate_succ, Array.replicate_zero, List.push_toArray, List.append_toArray, List.nil_append, List.cons_append]
    gi_wp2_with (first
      | (refine ⟨trivial, ?_⟩; gi_at_call 39; refine (callsIn_wide.2 (KE.out _ ?_)).mono ?_; (focus ((repeat (first | (with_reducible exact Below.refl _ _) | (with_reducible assumption) | (with_reducible exact bel_box _) | (with_reducible refine bel_step ?_ (by with_reducible assumption)) | (with_reducible refine Below.drew ?_) | (with_reducible refine below_drewN ?_ _) | (with_reducible refine bel_alloc ?_ _))); done)); rintro e W1 ⟨rfl, hb1⟩; obtain ⟨⟨a0, a1, a2, a3, a4, a5⟩, ⟨r0, r1⟩, hzz, hBB⟩ := bx2 hb1)
      | (refine ⟨trivial, ?_⟩; gi_at_call 16; refine (callsIn_wide.2 (KD.out _ ?_)).mono ?_; (focus (exact hBB; done)); rintro e W2 ⟨rfl, hb2⟩; obtain ⟨_, ⟨s0, s1⟩, hzy, hBC⟩ := bx2 (hb1.trans (hb2.mono hb1.size))))
    refine ⟨.int .i64 3, ?_, rfl, hBC.setCell (p := ⟨w.heap.size + 1, 0, none⟩) (by simp) _⟩
    have hc5 := World.cell?_setCell_same' W2 ⟨w.heap.size + 1, 0, none⟩ (.int .i64 3) (by rw [s0]; rfl)
    simp [results, Tryz.f12, go_sem, hc5]
  rw [chkAll, if_neg (by omega)]
  have u1 : (x.depth : Int) ≤ 32 := by omega
  refine callsIn_of_wp_marks Tryz.func12 rfl trivial ?_ rfl
  simp only [Tryz.ntmps12, List.size_toArray, List.length_cons, List.length_nil, Nat.reduceAdd, Nat.reduceSub, Array.replicate_succ, Array.replicate_zero, List.push_toArray, List.append_toArray, List.nil_append, List.cons_append]
  gi_wp2_with (first
    | (refine ⟨trivial, ?_⟩; gi_at_call 39; refine (callsIn_wide.2 (KE.out _ ?_)).mono ?_; (focus ((repeat (first | (with_reducible exact Below.refl _ _) | (with_reducible assumption) | (with_reducible exact bel_box _) | (with_reducible refine bel_step ?_ (by with_reducible assumption)) | (with_reducible refine Below.drew ?_) | (with_reducible refine below_drewN ?_ _) | (with_reducible refine bel_alloc ?_ _))); done)); rintro e W1 ⟨rfl, hb1⟩; obtain ⟨⟨a0, a1, a2, a3, a4, a5⟩, ⟨r0, r1⟩, hzz, hBB⟩ := bx2 hb1)
    | (refine ⟨trivial, ?_⟩; gi_at_call 16; refine (callsIn_wide.2 (KD.out _ ?_)).mono ?_; (focus (exact hBB; done)); rintro e W2 ⟨rfl, hb2⟩; obtain ⟨⟨e0, e1, e2, e3, e4, e5⟩, ⟨s0, s1⟩, hzy, hBC⟩ := bx2 (hb1.trans (hb2.mono hb1.size)))
    | (refine ⟨trivial, ?_⟩; gi_at_call 40; refine (callsIn_wide.2 (KW.out _)).mono ?_; rintro e W3 ⟨rfl, rfl⟩))
  have hst := within_atP (fun y => y ∈ x.list) (3 - 1) w.heap.size (fun k => k = w.heap.size + 1) x W2 (fun y h => h) (fun k hk => by subst hk; omega) (by omega) (HX.out.blw hBC (Nat.le_refl _))
  obtain ⟨W0, hW0⟩ : ∃ W0, inW W2 x 41 = W0 := ⟨_, rfl⟩
  have hz0 : W0.heap.size = W2.heap.size + 2 := by rw [← hW0, inW_size]
  have hB0 : Below w.heap.size w W0 := by rw [← hW0]; exact hBC.trans ((inW_below W2 x _).mono (by omega))
  have f2 : W0.cell? ⟨w.heap.size + 1, 0, none⟩ = some (.int .i64 0) := by rw [← hW0]; exact (inW_old (by omega)).1.trans s0
  have f3 : W0.frozen? ⟨w.heap.size + 1, 0, none⟩ = false := by rw [← hW0]; exact (inW_old (by omega)).2.trans s1
  rw [hW0] at hst
  rw [show (bxW W2 x).alloc (.cells #[.func (.func 41) #[] #[]] 42) = W0 from hW0]
  have HN := Lib.hid hN
  have HAL := Lib.hid hal
  clear hW0 KW KE KD HX hN hal a0 a1 a2 a3 a4 a5 r0 r1 e0 e1 e2 e3 e4 e5 s0 s1 hb1 hb2 hBB hBC hzz
  refine wpIn_rangeFunc_ownH rfl (by decide) (gf := 62) (lb := #[.pointer (some ⟨W2.heap.size, 0, none⟩), .pointer (some ⟨W2.heap.size + 1, 0, none⟩)]) rfl trivial (enters_of Tryz.func62 (by kernel_rfl) rfl)
    hst KX_t KX_b (Below.refl _ _) (fun _ => rfl)
    (fun pre W => ((∀ y ∈ pre, chk1 wok y.1 = 0) ∧ W.cell? ⟨w.heap.size + 1, 0, none⟩ = some (.int .i64 0) ∧ W.frozen? ⟨w.heap.size + 1, 0, none⟩ = false) ∧ Below w.heap.size w W)
    (fun c pre W => (c = .ret ∧ ∃ q y, pre = q ++ [y] ∧ (∀ z ∈ q, chk1 wok z.1 = 0) ∧ chk1 wok y.1 ≠ 0 ∧ W.cell? ⟨w.heap.size + 1, 0, none⟩ = some (.int .i64 (chk1 wok y.1))) ∧ Below w.heap.size w W)
    (OwnFrom.and (Own.from (fun s A B row hs hg hr => ⟨hs.1, cell_kept hs.2.1 hg hr, (frozen_kept hs.2.1 hg hr).trans hs.2.2⟩) _) (ownFrom_below (Nat.le_refl _) (by omega)))
    (fun c => OwnFrom.and (Own.from (fun s A B row hs hg hr => by
      obtain ⟨h1, q, y, h2, h3, h4, h5⟩ := hs
      exact ⟨h1, q, y, h2, h3, h4, cell_kept h5 hg hr⟩) _) (ownFrom_below (Nat.le_refl _) (by omega)))
    ⟨⟨by simp, f2, f3⟩, hB0⟩
    (fun y a' W => ∃ Bx, (w.heap.size + 2 ≤ Bx ∧ W.cell? ⟨Bx, 0, none⟩ = some (.int .i64 y.1.k) ∧ W.cell? ⟨Bx, 1, none⟩ = some (.int .i64 y.1.op) ∧ W.cell? ⟨Bx, 2, none⟩ = some (.int .i64 y.1.t) ∧ W.cell? ⟨Bx, 3, none⟩ = some (.int .i64 y.1.v) ∧ W.cell? ⟨Bx, 4, none⟩ = some (.string y.1.nm) ∧ W.cell? ⟨Bx, 5, none⟩ = some (.slice y.1.A y.1.ar.length y.1.c)) ∧ a' = { tmps := #[.agg #[.int .i64 x.k, .int .i64 x.op, .int .i64 x.t, .int .i64 x.v, .string x.nm, .slice x.A x.ar.length x.c], .pointer (some ⟨w.heap.size, 0, none⟩), .pointer (some ⟨w.heap.size + 1, 0, none⟩), .pointer (some ⟨Bx, 0, none⟩), undef, .agg #[.int .i64 x.k, .int .i64 x.op, .int .i64 x.t, .int .i64 x.v, .string x.nm, .slice x.A x.ar.length x.c], .bool false, .bool false, .agg #[.int .i64 x.k, .int .i64 x.op, .int .i64 x.t, .int .i64 x.v, .string x.nm, .slice x.A x.ar.length x.c], .int .i64 (x.depth : Int), .bool (decide ((32 : Int) < (x.depth : Int))), .bool (decide ((32 : Int) < (x.depth : Int))), .agg #[.int .i64 x.k, .int .i64 x.op, .int .i64 x.t, .int .i64 x.v, .string x.nm, .slice x.A x.ar.length x.c], .func (.func 62) #[] #[.pointer (some ⟨W2.heap.size, 0, none⟩), .pointer (some ⟨W2.heap.size + 1, 0, none⟩)], xV y.1, undef, undef, undef, undef, undef], defers := [] })
    (fun y a' s A B row hs hg hr => by
      obtain ⟨Bx, ⟨h1, h2, h3, h4, h5, h6, h7⟩, h8⟩ := hs
      exact ⟨Bx, ⟨h1, cell_kept h2 hg (fun r e => (hr r e).2), cell_kept h3 hg (fun r e => (hr r e).2), cell_kept h4 hg (fun r e => (hr r e).2), cell_kept h5 hg (fun r e => (hr r e).2), cell_kept h6 hg (fun r e => (hr r e).2), cell_kept h7 hg (fun r e => (hr r e).2)⟩, h8⟩) ?assign ?body ?done ?stop
  case assign =>
    rintro l pre y W K ⟨⟨i1, i2, i3⟩, hB⟩ hK
    rw [fold1]
    simp only [xV] at hK ⊢
    gi_wp2
    obtain ⟨d0, d1, d2, d3, d4, d5⟩ := bx_box W y.1
    exact hK _ _ ((KeepsOthers.alloc _ _).from _) (KX.of_below (bel_box _)) ⟨⟨i1, cell_al _ i2, frozen_al _ i2 i3⟩, bel_alloc hB _⟩ ⟨W.heap.size, ⟨by have := World.block_lt_of_cell? W _ i2; simp only at this; omega, d0, d1, d2, d3, d4, d5⟩, rfl⟩
  case body =>
    rintro l pre y a' W hl ⟨r, hr⟩ ⟨⟨i1, i2, i3⟩, hB⟩ ⟨Bx, ⟨hBx, d0, d1, d2, d3, d4, d5⟩, rfl⟩ hlt
    have hbk := World.block_lt_of_cell? W _ i2
    have KC : Hid (Calls Tryz.prog 42 #[xV y.1] W (Bel (.int .i64 (chk1 wok y.1)) W)) := Lib.hid (checkone_any wok y.1 W (HAL.out _ y.2) ((HN.out _ y.2).to hB))
    simp only [xV] at KC
    by_cases hc : chk1 wok y.1 = 0
    · gi_wp2_with (refine ⟨trivial, ?_⟩; gi_at_call 42; refine (CallsIn.inRound l (callsIn_wide.2 KC.out)).mono ?_; rintro e W5 ⟨rfl, hb5⟩)
      exact ⟨(KeepsOthers.of_grownBy (below_grown hb5) (fun j o e => by cases e)).from _, KX.of_below hb5, ⟨fun z hz => (List.mem_append.1 hz).elim (i1 z) (fun h => by rw [List.mem_singleton.1 h]; exact hc), (hb5.cell (p := ⟨w.heap.size + 1, 0, none⟩) hbk).trans i2, (hb5.frozen (p := ⟨w.heap.size + 1, 0, none⟩) hbk).trans i3⟩, hB.trans (hb5.mono hB.size)⟩
    · gi_wp2_with (refine ⟨trivial, ?_⟩; gi_at_call 42; refine (CallsIn.inRound l (callsIn_wide.2 KC.out)).mono ?_; rintro e W5 ⟨rfl, hb5⟩; have j2 := (hb5.cell (p := ⟨w.heap.size + 1, 0, none⟩) hbk).trans i2; have j3 := (hb5.frozen (p := ⟨w.heap.size + 1, 0, none⟩) hbk).trans i3)
      exact ⟨((KeepsOthers.of_grownBy (below_grown hb5) (fun j o e => by cases e)).trans (KeepsOthers.setCell _ _ _)).from _, ⟨rfl, pre, y, rfl, i1, hc, World.cell?_setCell_same' _ _ _ (by rw [j2]; rfl)⟩, (hB.trans (hb5.mono hB.size)).setCell (p := ⟨w.heap.size + 1, 0, none⟩) (by simp) _⟩
  case done =>
    rintro D ys W hD hys ⟨⟨hn, hc, hf⟩, hB⟩ hK
    have hv : firstE (chk1 wok) x.list = 0 := firstE_ok fun y hy => by
      rw [← hys] at hy
      obtain ⟨z, hz, rfl⟩ := List.mem_map.1 hy
      exact hn z hz
    gi_wp2
    have hK' := (KeepsOthers.setCell W ⟨w.heap.size + 1, 0, none⟩ (.int .i64 0)).same D _ hK rfl
    refine ⟨by simp, .inl ⟨_, _, rfl, run_takeDeferred hK', ?_⟩⟩
    have hc5 := cell_kept (World.cell?_setCell_same' W ⟨w.heap.size + 1, 0, none⟩ (.int .i64 0) (by rw [hc]; rfl)) (grownBy_putObj' _ D (.deferred none)) (fun r e => by cases e; exact ⟨_, hK', rfl⟩)
    refine ⟨.int .i64 0, ?_, rfl, (hB.setCell (p := ⟨w.heap.size + 1, 0, none⟩) (by simp) _).trans (belowK_b (w := w) (Nat.le_refl _) _ D _ _ (by omega) hK' rfl rfl)⟩
    simp [results, Tryz.f12, go_sem, hc5]
  case stop =>
    rintro D c pre W hD ⟨t, ht⟩ ⟨⟨rfl, q, y, rfl, hq, hy, hc⟩, hB⟩ hK
    have hv : firstE (chk1 wok) x.list = chk1 wok y.1 := by
      have hl : x.list = q.map (·.1) ++ y.1 :: t := ht.symm.trans (by rw [List.map_append, List.append_assoc]; rfl)
      exact (congrArg _ hl).trans (firstE_at (fun z hz => by obtain ⟨u, hu, rfl⟩ := List.mem_map.1 hz; exact hq u hu) hy)
    gi_wp2
    refine ⟨by simp, .inl ⟨_, _, rfl, run_takeDeferred hK, ?_⟩⟩
    have hc5 := cell_kept hc (grownBy_putObj' _ D (.deferred none)) (fun r e => by cases e; exact ⟨_, hK, rfl⟩)
    refine ⟨.int .i64 (chk1 wok y.1), ?_, rfl, hB.trans (belowK_b (w := w) (Nat.le_refl _) W D _ _ (by omega) hK rfl rfl)⟩
    simp [results, Tryz.f12, go_sem, hc5]
end Go.Proofs.YtfogkcccjemloaaGreatDoor
/- The iterator over what an expression depends on at the same instant. -/
namespace Go.Proofs.YtfogkcccjemloaaGreatDoor
set_option linter.unusedVariables false
set_option linter.unusedSimpArgs false
open Go.RowKit Go.Shelf
attribute [local go_sem] Oper.semAt_some
def iA (x : Xt) : Option Addr := if x.k = 5 then none else x.A
def iC (x : Xt) : Nat := if x.k = 5 then 0 else x.c
theorem kids_length (b : Bool) (x : Xt) : (kidsI b x).length ≤ x.ar.length := by
  unfold kidsI
  split
  · simp
  · split
    · simp; omega
    · exact Nat.le_refl _
theorem lst_pos (x : Xt) : 1 ≤ (x.lst true).length := by rw [Xt.lst_eq]; simp
theorem RdX.at_kid {w : World} {B : Nat} {x : Xt} (h : RdX w B x) {k : Nat} (hk : k < (kidsI true x).length) : ∃ ad y, iA x = some ad ∧ ad.block < B ∧ (kidsI true x)[k]? = some y ∧ y ∈ x.ar ∧ XC w (ad.add (k * 6)) y ∧ RdX w B y := by
  have hl := kids_length true x
  obtain ⟨ad, y, hA, had, hy, hm, hc, hr⟩ := h.at_ (i := k) (by omega)
  have h5 : x.k ≠ 5 := by
    intro e
    rw [kidsI, if_pos (by rw [e]; rfl)] at hk
    simp at hk
  refine ⟨ad, y, by rw [iA, if_neg h5]; exact hA, had, ?_, hm, hc, hr⟩
  unfold kidsI at hk ⊢
  rw [if_neg (by simpa using h5)] at hk ⊢
  split
  · rename_i h7
    rw [if_pos h7] at hk
    rw [List.getElem?_take, if_pos (by simp at hk; omega)]
    exact hy
  · exact hy
theorem parts_lst (x : Xt) : ∃ L : Nat → List Xt, x.lst true = x :: L (kidsI true x).length ∧ L 0 = [] ∧ Hid (∀ (k : Nat) (y : Xt), (kidsI true x)[k]? = some y → L (k + 1) = L k ++ y.lst true ∧ (L k).length + (y.lst true).length + 1 ≤ (x.lst true).length ∧ ∃ r, L k ++ y.lst true ++ r = L (kidsI true x).length) := by
  refine ⟨fun k => (((kidsI true x).take k).map (Xt.lst true)).flatten, ?_, rfl, Lib.hid fun k y hy => ?_⟩
  · simp only [List.take_length]
    exact Xt.lst_eq true x
  · have e1 : (((kidsI true x).take (k + 1)).map (Xt.lst true)).flatten = (((kidsI true x).take k).map (Xt.lst true)).flatten ++ y.lst true := by
      rw [take_succ_of hy, List.map_append, List.flatten_append]
      simp
    have e2 : (((kidsI true x).take k).map (Xt.lst true)).flatten ++ y.lst true ++ (((kidsI true x).drop (k + 1)).map (Xt.lst true)).flatten = (((kidsI true x).take (kidsI true x).length).map (Xt.lst true)).flatten := by
      rw [← e1, ← List.flatten_append, ← List.map_append, List.take_append_drop, List.take_length]
    refine ⟨e1, ?_, _, e2⟩
    have h1 := congrArg List.length e2
    have h2 := congrArg List.length (Xt.lst_eq true x)
    rw [List.length_cons] at h2
    rw [List.take_length] at h1
    rw [List.length_append, List.length_append] at h1
    simp only
    omega
set_option maxHeartbeats 1000000 in
theorem instant_any (x : Xt) (w : World) (h9 : x.ar.length ≤ 2 ^ 63 - 1) (hcap : x.ar.length ≤ x.c) : Calls Tryz.prog 46 #[xV x] w (Bel (.slice (iA x) (kidsI true x).length (iC x)) w) := by
  by_cases h5 : x.k = 5
  · have e1 : iA x = none := if_pos h5
    have e2 : iC x = 0 := if_pos h5
    have e3 : kidsI true x = [] := by rw [kidsI, if_pos (by rw [h5]; rfl)]
    rw [e1, e2, e3]
    have h5' : (x.k == 5) = true := by rw [h5]; rfl
    simp only [xV]
    go_enter Tryz.func46, Tryz.ntmps46
    go_wp2
    all_goals go_ret
    all_goals exact ⟨rfl, (by repeat (first | (with_reducible exact Below.refl _ _) | (with_reducible assumption) | (with_reducible exact bel_box _) | (with_reducible refine bel_step ?_ (by with_reducible assumption)) | (with_reducible refine Below.drew ?_) | (with_reducible refine below_drewN ?_ _) | (with_reducible refine bel_alloc ?_ _)))⟩
  · have e1 : iA x = x.A := if_neg h5
    have e2 : iC x = x.c := if_neg h5
    have h5' : (x.k == 5) = false := by simpa using h5
    rw [e1, e2]
    by_cases h7 : x.k = 7
    · have e3 : (kidsI true x).length = min 1 x.ar.length := by
        rw [kidsI, if_neg (by rw [Bool.true_and, h5']; simp), if_pos (by rw [h7]; rfl), List.length_take]
      rw [e3]
      have h7' : (x.k == 7) = true := by rw [h7]; rfl
      simp only [xV]
      go_enter Tryz.func46, Tryz.ntmps46
      go_wp2
      all_goals first
        | (exfalso; omega)
        | (go_ret; exact ⟨by rw [show (min 1 (x.ar.length : Int)).toNat = min 1 x.ar.length by omega]; rfl, (by repeat (first | (with_reducible exact Below.refl _ _) | (with_reducible assumption) | (with_reducible exact bel_box _) | (with_reducible refine bel_step ?_ (by with_reducible assumption)) | (with_reducible refine Below.drew ?_) | (with_reducible refine below_drewN ?_ _) | (with_reducible refine bel_alloc ?_ _)))⟩)
    · have e3 : kidsI true x = x.ar := by
        rw [kidsI, if_neg (by rw [Bool.true_and, h5']; simp), if_neg (by simpa using h7)]
      rw [e3]
      have h7' : (x.k == 7) = false := by simpa using h7
      simp only [xV]
      go_enter Tryz.func46, Tryz.ntmps46
      go_wp2
      all_goals go_ret
      all_goals exact ⟨rfl, (by repeat (first | (with_reducible exact Below.refl _ _) | (with_reducible assumption) | (with_reducible exact bel_box _) | (with_reducible refine bel_step ?_ (by with_reducible assumption)) | (with_reducible refine Below.drew ?_) | (with_reducible refine below_drewN ?_ _) | (with_reducible refine bel_alloc ?_ _)))⟩
set_option maxRecDepth 100000 in
set_option maxHeartbeats 4000000 in
theorem walkI_in (l n₀ B : Nat) (N : Nat) (S : Nat → Prop) (hS : ∀ k, S k → n₀ ≤ k ∧ k < B) (J Jx : List Xt → World → Prop) (hJ : AbidesFrom B J) (P : Xt → Prop)
    (hY : ∀ m pre x W, P x → J pre W → pre.length < N → YieldAt Fence.wide m Tryz.prog l #[xV x] W fun e W' =>
      (e = .returned (.bool true) ∧ J (pre ++ [x]) W' ∧ KX S W W') ∨ (e = .returned (.bool false) ∧ Jx (pre ++ [x]) W')) (x : Xt) :
    ∀ (n : Nat) (pre : List Xt) (W : World), (∀ y ∈ x.lst true, P y) → RdX W n₀ x → B ≤ W.heap.size → J pre W → pre.length + (x.lst true).length ≤ N →
      CallsIn Fence.wide n Tryz.prog 63 #[xV x, .func (.func 46) #[] #[], .func (.yield l) #[] #[]] W fun e W' =>
        (e = .returned (.bool true) ∧ J (pre ++ x.lst true) W' ∧ KX S W W') ∨ (e = .returned (.bool false) ∧ ∃ q, q <+: x.lst true ∧ Jx (pre ++ q) W') := by
  induction x using Xt.ind with
  | h x ih =>
    intro n pre W hP hX hB hj hN
    have hdd : ∀ k : Nat, (Fence.wide.depth.isSome = true → 1 ≤ k) := fun k h => by cases h
    have h9 := hX.len.1
    unfold maxLen at h9
    have hx1 := lst_pos x
    have hns : ∀ k, B ≤ k → ¬ S k := fun k hk hs => by have := (hS k hs).2; omega
    obtain ⟨b0, b1, b2, b3, b4, b5⟩ := bx_box W x
    -- the round at x itself, with what the walk wants next beside it
    have hy0 := YieldAt.mono (R' := fun e W2 =>
        (e = .returned (.bool true) ∧ J (pre ++ [x]) W2 ∧ KX S W W2 ∧ RdX W2 n₀ x ∧ W.heap.size < W2.heap.size ∧ W2.cell? ⟨W.heap.size, 0, none⟩ = some (.int .i64 x.k) ∧ W2.cell? ⟨W.heap.size, 1, none⟩ = some (.int .i64 x.op) ∧ W2.cell? ⟨W.heap.size, 2, none⟩ = some (.int .i64 x.t) ∧ W2.cell? ⟨W.heap.size, 3, none⟩ = some (.int .i64 x.v) ∧ W2.cell? ⟨W.heap.size, 4, none⟩ = some (.string x.nm) ∧ W2.cell? ⟨W.heap.size, 5, none⟩ = some (.slice x.A x.ar.length x.c)) ∨
        (e = .returned (.bool false) ∧ Jx (pre ++ [x]) W2)) (hY (n - 1) pre x (bxW W x) (hP x (by rw [Xt.lst_eq]; simp)) (abides_below hJ hj (bel_box _)) (by omega)) fun e W2 h => h.elim (fun ⟨he, hj2, hk⟩ => .inl ⟨he, hj2, (KX.of_below (bel_box _)).trans hk, (hX.kx (KX.of_below (bel_box _)) (fun k hs => (hS k hs).1)).kx hk (fun k hs => (hS k hs).1), by have := hk.1; rw [bxW_size] at this; omega,
          hk.cell (a := ⟨_, _, none⟩) (hns _ hB) b0, hk.cell (a := ⟨_, _, none⟩) (hns _ hB) b1, hk.cell (a := ⟨_, _, none⟩) (hns _ hB) b2, hk.cell (a := ⟨_, _, none⟩) (hns _ hB) b3, hk.cell (a := ⟨_, _, none⟩) (hns _ hB) b4, hk.cell (a := ⟨_, _, none⟩) (hns _ hB) b5⟩) .inr
    have IH := Lib.hid ih
    have HX := Lib.hid hX
    have HP := Lib.hid hP
    obtain ⟨L, hL, hL0, HL⟩ := parts_lst x
    have hkl := kids_length true x
    have AK : Hid (∀ {w : World} {B : Nat}, RdX w B x → ∀ {k : Nat}, k < (kidsI true x).length → ∃ ad y, iA x = some ad ∧ ad.block < B ∧ (kidsI true x)[k]? = some y ∧ y ∈ x.ar ∧ XC w (ad.add (k * 6)) y ∧ RdX w B y) := Lib.hid fun h => h.at_kid
    rw [hL] at hP
    have HPL := Lib.hid hP
    clear hP HP
    rw [hL]
    have HA := Lib.hid (fun W => instant_any x W h9 HX.out.cap)
    obtain ⟨M, hM⟩ : ∃ M, (kidsI true x).length = M := ⟨_, rfl⟩
    rw [hM] at HA AK HL hkl HPL
    rw [hM]
    clear hX ih b0 b1 b2 b3 b4 b5 hY
    simp only [xV] at hy0 HA IH ⊢
    obtain ⟨fn, tmps, assign, body, hy, hR⟩ := hy0
    refine callsIn_of_wp Tryz.func63 rfl trivial ?_ rfl
    simp only [Tryz.ntmps63, List.size_toArray, List.length_cons, List.length_nil, Nat.reduceAdd, Nat.reduceSub, Array.replicate_succ, Array.replicate_zero, List.push_toArray, List.append_toArray, List.nil_append, List.cons_append]
    gi_wp2_with (first
      | ((try refine ⟨hdd _, ?_⟩); refine hR.mono ?_; clear hR; rintro e W2 (⟨rfl, hJ2, hk2, hX2, hz2, d0, d1, d2, d3, d4, d5⟩ | ⟨rfl, hx2⟩))
      | (refine ⟨trivial, hdd _, ?_⟩; gi_at_call 46; refine (callsIn_wide.2 (HA.out _)).mono ?_; rintro e W3 ⟨rfl, hb3⟩))
    · clear HA hy
      have hJ3 := abides_below hJ hJ2 hb3
      have hk3 : KX S W W3 := hk2.trans (KX.of_below hb3)
      clear hX2 hz2 d0 d1 d2 d3 d4 d5 hJ2 hk2 hb3
      gi_loopw [17] (fun i wr => ∃ k : Nat, k ≤ M ∧ i = .int .i64 (k : Int) ∧ J (pre ++ x :: L k) wr ∧ KX S W wr) (fun i _ => M - (intOf i).toNat)
      case atStart => exact ⟨0, by omega, rfl, by rw [hL0]; exact hJ3, hk3⟩
      case round =>
        obtain ⟨k, hk, rfl, hJk, hkk⟩ := hrel
        by_cases hlt : k < M
        · have hXr := HX.out.kx hkk (fun k hs => (hS k hs).1)
          obtain ⟨ad, y, hA, had, hy, hm, ⟨c0, c1, c2, c3, c4, c5⟩, hr⟩ := AK.out hXr hlt
          obtain ⟨e1, e2, r, e3⟩ := HL.out k y hy
          have hcall := (IH.out y hm (n - 1) (pre ++ x :: L k) (bxW wr y) (fun z hz => HPL.out z (List.mem_cons.2 (.inr (by rw [← e3]; simp [hz])))) (hr.kx (KX.of_below (S := S) (bel_box _)) (fun k hs => (hS k hs).1)) (by rw [bxW_size]; have := hkk.1; omega) (abides_below hJ hJk (bel_box _)) (by simp only [List.length_append, List.length_cons]; omega)).mono (R' := fun e W5 =>
            (e = .returned (.bool true) ∧ J (pre ++ x :: L (k + 1)) W5 ∧ KX S W W5) ∨ (e = .returned (.bool false) ∧ ∃ q, q <+: x :: L M ∧ Jx (pre ++ q) W5)) (fun e W5 h => h.elim
              (fun ⟨he, hj5, hk5⟩ => .inl ⟨he, by rw [e1]; simpa [List.append_assoc] using hj5, (hkk.trans (KX.of_below (bel_box _))).trans hk5⟩)
              (fun ⟨he, q, ⟨t, ht⟩, hx5⟩ => .inr ⟨he, x :: L k ++ q, ⟨t ++ r, by rw [← e3, ← ht]; simp [List.append_assoc]⟩, by simpa [List.append_assoc] using hx5⟩))
          have HC := Lib.hid hcall
          clear hcall hXr hr e1 e2 e3 hy hJk hkk IH HL HPL AK
          rw [hA]
          clear hA
          gi_wp2_with (refine ⟨trivial, hdd _, ?_⟩; gi_at_call 63; refine HC.out.mono ?_; clear HC; rintro e W5 (⟨rfl, hJ5, hk5⟩ | ⟨rfl, q, hq, hx5⟩))
          · exact ⟨⟨k + 1, by omega, by congr 1, hJ5, hk5⟩, by simp [intOf]; omega⟩
          · go_ret
            exact .inr ⟨rfl, q, hq, hx5⟩
        · obtain rfl : k = M := by omega
          gi_wp2
          go_ret
          exact .inl ⟨rfl, hJk, hkk⟩
    · go_ret
      exact .inr ⟨rfl, [x], ⟨L M, rfl⟩, hx2⟩
end Go.Proofs.YtfogkcccjemloaaGreatDoor
/- What within hands back, for what an expression depends on at the same instant. -/
namespace Go.Proofs.YtfogkcccjemloaaGreatDoor
set_option linter.unusedVariables false
set_option linter.unusedSimpArgs false
open Go.RowKit Go.Shelf
attribute [local go_sem] Oper.semAt_some
theorem lst_false (x : Xt) : x.lst false = x.list := by
  induction x using Xt.ind with
  | h x ih =>
    rw [Xt.lst_eq, Xt.list_eq]
    have e : kidsI false x = x.ar := rfl
    rw [e, List.map_congr_left ih]
theorem lst_len (x : Xt) : (x.lst true).length ≤ x.size := by
  induction x using Xt.ind with
  | h x ih =>
    rw [Xt.lst_eq, Xt.size_eq, List.length_cons, List.length_flatten, List.map_map]
    have h1 := kids_size true x
    have h2 : ((kidsI true x).map (List.length ∘ Xt.lst true)).sum ≤ ((kidsI true x).map Xt.size).sum := by
      have hm : ∀ y ∈ kidsI true x, (y.lst true).length ≤ y.size := fun y hy => ih y (kids_mem hy)
      generalize kidsI true x = l at hm
      induction l with
      | nil => simp
      | cons a l ih2 =>
        have h3 := hm a (by simp)
        have h4 := ih2 fun y hy => hm y (by simp [hy])
        simp only [List.map_cons, List.sum_cons, Function.comp_def] at h4 ⊢
        omega
    omega
set_option maxHeartbeats 1000000 in
set_option maxRecDepth 100000 in
theorem withinI_stopsP (P : Xt → Prop) (n be bp n₀ : Nat) (S : Nat → Prop) (x : Xt) (w : World) (hP : ∀ y ∈ x.lst true, P y) (hS : ∀ k, S k → n₀ ≤ k ∧ k < w.heap.size) (hn₀ : n₀ ≤ w.heap.size) (hbe : be < w.heap.size) (hbp : bp < w.heap.size) (hX : RdX w n₀ x)
    (c0 : w.cell? ⟨be, 0, none⟩ = some (.int .i64 x.k)) (c1 : w.cell? ⟨be, 1, none⟩ = some (.int .i64 x.op)) (c2 : w.cell? ⟨be, 2, none⟩ = some (.int .i64 x.t)) (c3 : w.cell? ⟨be, 3, none⟩ = some (.int .i64 x.v)) (c4 : w.cell? ⟨be, 4, none⟩ = some (.string x.nm)) (c5 : w.cell? ⟨be, 5, none⟩ = some (.slice x.A x.ar.length x.c)) (cp : w.cell? ⟨bp, 0, none⟩ = some (.func (.func 46) #[] #[])) :
    SeqStopsK Fence.wide n Tryz.prog 62 #[.pointer (some ⟨be, 0, none⟩), .pointer (some ⟨bp, 0, none⟩)] (fun y : {y : Xt // P y} => #[xV y.1]) (KX S) (fun ys => ys.map (·.1) = x.lst true) (fun pre => pre.map (·.1) <+: x.lst true) (x.lst true).length w := by
  intro l J Jx W hW hJ _ hY h0
  have hdd : ∀ k : Nat, (Fence.wide.depth.isSome = true → 1 ≤ k) := fun k h => by cases h
  have hWs := hW.size
  have d0 := (hW.cell (p := ⟨be, 0, none⟩) hbe).trans c0
  have d1 := (hW.cell (p := ⟨be, 1, none⟩) hbe).trans c1
  have d2 := (hW.cell (p := ⟨be, 2, none⟩) hbe).trans c2
  have d3 := (hW.cell (p := ⟨be, 3, none⟩) hbe).trans c3
  have d4 := (hW.cell (p := ⟨be, 4, none⟩) hbe).trans c4
  have d5 := (hW.cell (p := ⟨be, 5, none⟩) hbe).trans c5
  have dp := (hW.cell (p := ⟨bp, 0, none⟩) hbp).trans cp
  have hp := walkI_in l n₀ W.heap.size (x.lst true).length S (fun k hs => ⟨(hS k hs).1, by have := (hS k hs).2; omega⟩) (upJ J) (upJ Jx) (fun s A B row ⟨q, hq, hs⟩ hg hr => ⟨q, hq, hJ q A B row hs hg hr⟩) P
    (fun m pre y W1 hPy ⟨q, hq, hj⟩ hl => yield_any rfl m (YieldAt.mono (hY q ⟨y, hPy⟩ W1 hj (by rw [← hq, List.length_map] at hl; exact hl)) fun e W' h => h.elim
      (fun ⟨he, hj2, hk⟩ => .inl ⟨he, ⟨q ++ [⟨y, hPy⟩], by rw [List.map_append, hq]; rfl, hj2⟩, hk⟩) (fun ⟨he, hx⟩ => .inr ⟨he, q ++ [⟨y, hPy⟩], by rw [List.map_append, hq]; rfl, hx⟩))) x (n - 1) [] W hP (hX.blw (hW.mono hn₀) (Nat.le_refl _)) (Nat.le_refl _) ⟨[], rfl, h0⟩ (by simp)
  simp only [List.nil_append, xV] at hp
  clear hY c0 c1 c2 c3 c4 c5 cp
  simp only [List.append_toArray, List.cons_append, List.nil_append, Array.append_eq_append] at *
  refine callsIn_of_wp Tryz.func62 rfl trivial ?_ rfl
  simp only [Tryz.ntmps62, List.size_toArray, List.length_cons, List.length_nil, Nat.reduceAdd, Nat.reduceSub, Array.replicate_succ, Array.replicate_zero, List.push_toArray, List.append_toArray, List.nil_append, List.cons_append]
  gi_wp2_with (refine ⟨trivial, hdd _, ?_⟩; gi_at_call 63; refine hp.mono ?_; clear hp; rintro e W1 (⟨rfl, ⟨ys, hys, hJ1⟩, _⟩ | ⟨rfl, q, hq, ys, hys, hx⟩))
  · go_end0
    exact ⟨⟨_, rfl⟩, .inl ⟨ys, hys, hJ1⟩⟩
  · go_end0
    exact ⟨⟨_, rfl⟩, .inr ⟨ys, by rw [hys]; exact hq, hx⟩⟩
theorem withinI_atP (P : Xt → Prop) (n n₀ : Nat) (S : Nat → Prop) (x : Xt) (w : World) (hP : ∀ y ∈ x.lst true, P y) (hS : ∀ k, S k → n₀ ≤ k ∧ k < w.heap.size) (hn₀ : n₀ ≤ w.heap.size) (hX : RdX w n₀ x) :
    SeqStopsK Fence.wide n Tryz.prog 62 #[.pointer (some ⟨w.heap.size, 0, none⟩), .pointer (some ⟨w.heap.size + 1, 0, none⟩)] (fun y : {y : Xt // P y} => #[xV y.1]) (KX S) (fun ys => ys.map (·.1) = x.lst true) (fun pre => pre.map (·.1) <+: x.lst true) (x.lst true).length (inW w x 46) := by
  obtain ⟨b0, b1, b2, b3, b4, b5, _⟩ := bxW_cells (w := w) (x := x) (W := inW w x 46) (bel_box _)
  exact withinI_stopsP P n w.heap.size (w.heap.size + 1) n₀ S x _ hP (fun k hs => ⟨(hS k hs).1, by rw [inW_size]; have := (hS k hs).2; omega⟩) (by rw [inW_size]; omega) (by rw [inW_size]; omega) (by rw [inW_size]; omega) (hX.blw ((inW_below w x _).mono hn₀) (Nat.le_refl _)) b0 b1 b2 b3 b4 b5 (by simp [go_sem])
end Go.Proofs.YtfogkcccjemloaaGreatDoor
