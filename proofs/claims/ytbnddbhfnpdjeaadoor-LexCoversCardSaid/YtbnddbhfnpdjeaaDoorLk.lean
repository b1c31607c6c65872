/- Scan of the program. -/
import Derived.Test.YtbnddbhfnpdjeaaDoorLj
namespace Go.Proofs.YtbnddbhfnpdjeaaDoor
set_option linter.unusedVariables false
set_option linter.unusedSimpArgs false
open Go.RowKit
abbrev Tk := Int × ByteArray × Int
def tkV (t : Tk) : List Value := [.int .i64 t.1, .string t.2.1, .int .i64 t.2.2]
def tks (l : List Tk) : List Value := l.flatMap tkV
theorem tks_length (l : List Tk) : (tks l).length = l.length * 3 := by
  induction l with
  | nil => rfl
  | cons a r ih => simp [tks, tkV] at ih ⊢; omega
theorem tks_snoc (l : List Tk) (t : Tk) : tks (l ++ [t]) = tks l ++ tkV t := by simp [tks]
theorem gapN_le (l : List UInt8) : gapN l ≤ l.length := by
  induction l using gapN.induct with
  | case1 l h ih =>
    rw [gapN_yes h]
    have := sp_length pB l
    have h2 := sp_length pN (l.drop (sp pB l))
    rw [List.length_drop] at ih h2
    omega
  | case2 l h =>
    rw [gapN_no (by rw [← Bool.not_eq_true]; exact h)]
    exact sp_length _ _
/-- Scan from a place on, with what is scanned so far: the tokens, the place of the error, the error -/
def scanG (s : ByteArray) (acc : List Tk) (k : Nat) : List Tk × Nat × Int :=
  if h : k < s.size then
    if he : (fst (s.extract k s.size)).2.2.2 = 0 then
      scanG s (acc ++ [((fst (s.extract k s.size)).1, (fst (s.extract k s.size)).2.1, (k : Int))]) (k + (fst (s.extract k s.size)).2.2.1 + gapN (s.data.toList.drop (k + (fst (s.extract k s.size)).2.2.1)))
    else ([], k, (fst (s.extract k s.size)).2.2.2)
  else (acc, 0, 0)
termination_by s.size - k
decreasing_by
  have := fst_size (s := s.extract k s.size) (by rw [drop_size]; omega) he
  omega
theorem scanG_go {s : ByteArray} {acc : List Tk} {k : Nat} (h : k < s.size) {a : Int} {tx : ByteArray} {n : Nat} (hf : fst (s.extract k s.size) = (a, tx, n, 0)) :
    scanG s acc k = scanG s (acc ++ [(a, tx, (k : Int))]) (k + n + gapN (s.data.toList.drop (k + n))) := by
  rw [scanG, dif_pos h, dif_pos (by rw [hf])]
  rw [hf]
theorem scanG_err {s : ByteArray} {acc : List Tk} {k : Nat} (h : k < s.size) {a : Int} {tx : ByteArray} {n : Nat} {e : Int} (hf : fst (s.extract k s.size) = (a, tx, n, e)) (he : e ≠ 0) :
    scanG s acc k = ([], k, e) := by
  rw [scanG, dif_pos h, dif_neg (by rw [hf]; exact he)]
  rw [hf]
theorem scanG_end {s : ByteArray} {acc : List Tk} {k : Nat} (h : ¬ k < s.size) : scanG s acc k = (acc, 0, 0) := by rw [scanG, dif_neg h]
theorem tokInfo : (Tryd.prog.info? 30).map (fun i => (i.zero, i.size, i.bytes)) = some (some (.agg #[.int .i64 0, .string ⟨#[]⟩, .int .i64 0]), 3, 32) := by kernel_rfl
/-- tokens in a slice of the call's own, a place, an error -/
def NewT (r : List Tk × Nat × Int) (w : World) (e : Ending) (w' : World) : Prop := ∃ A c, e = .returned (.tuple #[.slice A r.1.length c, .int .i64 r.2.1, .int .i64 r.2.2]) ∧ w'.ownsRow w.heap.size 30 3 (.slice A r.1.length c) r.1.length (tks r.1) ∧ Below w.heap.size w w'
theorem own_keep3 {w W : World} {base n size : Nat} {e : TypeId} {v : Value} {xs : List Value} (h : w.ownsRow base e size v n xs) (hb : Below w.heap.size w W) : W.ownsRow base e size v n xs := by
  refine ⟨h.1, h.2.imp id fun ⟨g, cap, cur, e1, h1, h2, r⟩ => ⟨g, cap, cur, e1, h1, ?_, r⟩⟩
  rw [hb.block g (Array.getElem?_eq_some_iff.1 h2).1]
  exact h2
theorem own_form3 {w : World} {base n size : Nat} {e : TypeId} {v : Value} {xs : List Value} (h : w.ownsRow base e size v n xs) : ∃ A c, v = .slice A n c := by
  rcases h.2 with ⟨rfl, rfl⟩ | ⟨g, cap, cur, rfl, _⟩
  · exact ⟨_, _, rfl⟩
  · exact ⟨_, _, rfl⟩
theorem row3 (w : World) (o : Obj) (x y z : Value) (t : TypeId) : ∀ j u, [x, y, z][j]? = some u → ((w.alloc o).alloc (.cells #[x, y, z] t)).cell? ((⟨w.heap.size + 1, 0, none⟩ : Addr).add j) = some u := by
  intro j u hu
  have e : w.heap.size + 1 = (w.alloc o).heap.size := (World.size_alloc _ _).symm
  rw [e]
  rcases j with _ | _ | _ | j
  · obtain rfl : x = u := by simpa using hu
    rw [show (Addr.add ⟨(w.alloc o).heap.size, 0, none⟩ 0) = ⟨(w.alloc o).heap.size, 0, none⟩ from rfl]
    simp [go_sem]
  · obtain rfl : y = u := by simpa using hu
    rw [show (Addr.add ⟨(w.alloc o).heap.size, 0, none⟩ (0 + 1)) = ⟨(w.alloc o).heap.size, 1, none⟩ from rfl]
    simp [go_sem]
  · obtain rfl : z = u := by simpa using hu
    rw [show (Addr.add ⟨(w.alloc o).heap.size, 0, none⟩ (0 + 1 + 1)) = ⟨(w.alloc o).heap.size, 2, none⟩ from rfl]
    simp [go_sem]
  · simp at hu
theorem below_grown3 {w wr W w3 : World} {v v' : Value} {B n : Nat} {e : TypeId} {xs : List Value} (hg : W.grownBy w3 v'.ownBlock) (hv : v' = v) (hown : wr.ownsRow B e 3 v n xs) (hB : B ≤ W.heap.size) (hb : Below B w W) : Below B w w3 := by
  subst hv
  exact hb.grown hg hB (fun j hj => (hown.lt j hj).1)
theorem tk_one (t : Tk) : ∀ u ∈ tkV t, u.oneCell' = true := by
  intro u hu
  simp [tkV] at hu
  rcases hu with rfl | rfl | rfl <;> rfl
set_option maxHeartbeats 2000000 in
set_option maxRecDepth 20000 in
theorem scan_any (s : ByteArray) (w : World) (hstd : Std w) (h9 : s.size ≤ 65536) : Calls Tryd.prog 9 #[.string s] w (NewT (scanG s [] (gapN s.data.toList)) w) := by
  obtain ⟨i0, hi, iz, is, ib⟩ := info_parts tokInfo
  have KG : Hid (∀ x W, x.size ≤ 65536 → Calls Tryd.prog 19 #[.string x] W (Bel (.int .i64 (gapN x.data.toList)) W)) := Lib.hid fun x W hx => gap_any x W (by omega)
  have KF : Hid (∀ x W, Below w.heap.size w W → 0 < x.size → x.size ≤ 65536 → Calls Tryd.prog 20 #[.string x] W (Bel (FstR (fst x) 0) W)) := Lib.hid fun x W hb h0 hx => first_any x W (hstd.to hb) h0 hx
  have hg0 := gapN_le s.data.toList
  rw [len_toList] at hg0
  obtain ⟨g, hg⟩ : ∃ g, gapN s.data.toList = g := ⟨_, rfl⟩
  have G0 : Hid (∀ W, Calls Tryd.prog 19 #[.string s] W (Bel (.int .i64 g) W)) := Lib.hid fun W => by rw [← hg]; exact KG.out s W h9
  rw [hg] at hg0 ⊢
  clear hg
  obtain ⟨R, hR⟩ : ∃ R, scanG s [] g = R := ⟨_, rfl⟩
  have HR := Lib.hid hR
  rw [hR]
  clear hR
  go_enter Tryd.func9, Tryd.ntmps9
  go_wp2_with (go_at_call 19; (with_reducible refine (G0.out _).mono ?_); rintro e w1 ⟨rfl, hb1⟩)
  go_loopw [5, 6] (fun v i wr => ∃ (acc : List Tk) (k : Nat), k ≤ s.size ∧ i = .int .i64 k ∧ acc.length ≤ k ∧ wr.ownsRow w.heap.size 30 3 v acc.length (tks acc) ∧ w.heap.size ≤ wr.heap.size ∧ Hid (scanG s acc k = R) ∧ Below w.heap.size w wr) (fun _ i _ => s.size - (intOf i).toNat)
  case atStart => exact ⟨[], g, hg0, rfl, Nat.zero_le _, World.ownsRow_nil _ _ _ _, hb1.size, HR, hb1⟩
  case round =>
    obtain ⟨acc, k, hk, rfl, hac, hown, hsz, hrun, hbl⟩ := hrel
    by_cases hlt : k < s.size
    · obtain ⟨⟨a, tx, n, er⟩, hf⟩ : ∃ f, fst (s.extract k s.size) = f := ⟨_, rfl⟩
      have F1 : Hid (∀ W, Below w.heap.size w W → Calls Tryd.prog 20 #[.string (s.extract k s.size)] W (Bel (.tuple #[.agg #[.int .i64 a, .string tx, .int .i64 0], .int .i64 n, .int .i64 er]) W)) := Lib.hid fun W hb => by
        have := KF.out (s.extract k s.size) W hb (by rw [drop_size]; omega) (by rw [drop_size]; omega)
        rwa [hf] at this
      by_cases he : er = 0
      · subst he
        have hr := scanG_go (acc := acc) hlt hf
        have hsz2 := fst_size (s := s.extract k s.size) (by rw [drop_size]; omega) (by rw [hf])
        rw [hf, drop_size] at hsz2
        simp only at hsz2
        rw [hrun.out] at hr
        obtain ⟨m, hm⟩ : ∃ m, k + n = m := ⟨_, rfl⟩
        rw [hm] at hr
        have hgl := gapN_le (s.data.toList.drop m)
        rw [List.length_drop, len_toList] at hgl
        obtain ⟨b, hb⟩ : ∃ b, gapN (s.data.toList.drop m) = b := ⟨_, rfl⟩
        rw [hb] at hr hgl
        have G1 : Hid (∀ W, Calls Tryd.prog 19 #[.string (s.extract m s.size)] W (Bel (.int .i64 b) W)) := Lib.hid fun W => by
          have := KG.out (s.extract m s.size) W (by rw [drop_size]; omega)
          rwa [drop_bytes, hb] at this
        obtain ⟨r, hr2⟩ : ∃ r, m + b = r := ⟨_, rfl⟩
        rw [hr2] at hr
        have HR2 := Lib.hid hr.symm
        have f1 : (k : Int) + (n : Int) = (m : Int) := by omega
        have f2 : IntKind.i64.wrap (m : Int) = (m : Int) := Go.IntWalk.i64_in _ ⟨by omega, by omega⟩
        have f3 : (m : Int) + (b : Int) = (r : Int) := by omega
        have f4 : IntKind.i64.wrap (r : Int) = (r : Int) := Go.IntWalk.i64_in _ ⟨by omega, by omega⟩
        have f5 : (m : Int) ≤ (s.size : Int) := by omega
        have f6 : (0 : Int) ≤ (m : Int) := by omega
        have f7 : k < r ∧ r ≤ s.size ∧ acc.length + 1 ≤ r := by omega
        clear hf KF KG hrun hr hm hgl hb hr2 hsz2
        have hk1 : (k : Int) < (s.size : Int) := by omega
        have hk0 : (0 : Int) ≤ (k : Int) := by omega
        have L1 : Hid (acc.length + 1 ≤ maxLen ∧ (acc.length + 1) * 32 ≤ 140737488355328) := Lib.hid ⟨by unfold maxLen; omega, by omega⟩
        clear h9
        go_wp2_with (first
          | (go_at_call 20; (with_reducible refine (F1.out _ ?_).mono ?_); (focus ((repeat (first | (with_reducible exact Below.refl _ _) | (with_reducible assumption) | (with_reducible exact bel_box _) | (with_reducible refine bel_step ?_ (by with_reducible assumption)) | (with_reducible refine Below.drew ?_) | (with_reducible refine below_drewN ?_ _) | (with_reducible refine bel_alloc ?_ _))); done)); rintro e w2 ⟨rfl, hb2⟩; have hz2 := hb2.size)
          | (at_builtin; (refine wpList_append_own_at _ rfl _ _ 22 rfl w.heap.size 30 i0 (.agg #[.int .i64 0, .string ⟨#[]⟩, .int .i64 0]) 3 32 Tryd.underlying22 hi iz is ib rfl (by decide) _ acc.length (tks acc) rfl (own_keep3 hown ?_) ⟨w2.heap.size + 1, 0, none⟩ 1 1 (tkV (a, tx, (k : Int))) rfl rfl (row3 _ _ _ _ _ _) (tk_one _) L1.out.1 L1.out.2 ?_ ?_; (focus ((repeat (first | (with_reducible exact Below.refl _ _) | (with_reducible assumption) | (with_reducible exact bel_box _) | (with_reducible refine bel_step ?_ (by with_reducible assumption)) | (with_reducible refine Below.drew ?_) | (with_reducible refine below_drewN ?_ _) | (with_reducible refine bel_alloc ?_ _))); done)); (focus (simp; omega)); intro v3 w3 hown3 hgrow3 _ hat3; have hb3 : Below w.heap.size w w3 := below_grown3 hgrow3 rfl hown (by simp; omega) (by repeat (first | (with_reducible exact Below.refl _ _) | (with_reducible assumption) | (with_reducible exact bel_box _) | (with_reducible refine bel_step ?_ (by with_reducible assumption)) | (with_reducible refine Below.drew ?_) | (with_reducible refine below_drewN ?_ _) | (with_reducible refine bel_alloc ?_ _))); have HO3 := Lib.hid hown3; clear hown3 hgrow3 hat3; have hz3 := hb3.size))
          | (go_at_call 19; (with_reducible refine (G1.out _).mono ?_); rintro e w4 ⟨rfl, hb4⟩))
        go_roundw
        case rel =>
          refine ⟨acc ++ [(a, tx, (k : Int))], r, f7.2.1, by go_num, by simp; exact f7.2.2, ?_, by have := hb4.size; omega, HR2, (by repeat (first | (with_reducible exact Below.refl _ _) | (with_reducible assumption) | (with_reducible exact bel_box _) | (with_reducible refine bel_step ?_ (by with_reducible assumption)) | (with_reducible refine Below.drew ?_) | (with_reducible refine below_drewN ?_ _) | (with_reducible refine bel_alloc ?_ _)))⟩
          rw [tks_snoc, List.length_append]
          exact own_keep3 HO3.out hb4
        case measure => simp [intOf]; omega
      · have hr := scanG_err (acc := acc) hlt hf he
        rw [hrun.out] at hr
        subst hr
        have he2 : (er != 0) = true := by simpa using he
        clear hf KF KG hrun he
        go_wp2_with (go_at_call 20; (with_reducible refine (F1.out _ ?_).mono ?_); (focus ((repeat (first | (with_reducible exact Below.refl _ _) | (with_reducible assumption) | (with_reducible exact bel_box _) | (with_reducible refine bel_step ?_ (by with_reducible assumption)) | (with_reducible refine Below.drew ?_) | (with_reducible refine below_drewN ?_ _) | (with_reducible refine bel_alloc ?_ _))); done)); rintro e w2 ⟨rfl, hb2⟩)
        refine bodyPost_ret (v := .tuple #[.slice none 0 0, .int .i64 k, .int .i64 er]) (by simp [results, Tryd.results9, go_sem]) rfl ?_
        exact ⟨none, 0, rfl, World.ownsRow_nil _ _ _ _, (by repeat (first | (with_reducible exact Below.refl _ _) | (with_reducible assumption) | (with_reducible exact bel_box _) | (with_reducible refine bel_step ?_ (by with_reducible assumption)) | (with_reducible refine Below.drew ?_) | (with_reducible refine below_drewN ?_ _) | (with_reducible refine bel_alloc ?_ _)))⟩
    · have hr := scanG_end (s := s) (acc := acc) hlt
      rw [hrun.out] at hr
      subst hr
      obtain ⟨V, cv, rfl⟩ := own_form3 hown
      go_wp2
      refine bodyPost_ret (v := .tuple #[.slice V acc.length cv, .int .i64 0, .int .i64 0]) (by simp [results, Tryd.results9, go_sem]) rfl ?_
      exact ⟨V, cv, rfl, hown, hbl⟩
end Go.Proofs.YtbnddbhfnpdjeaaDoor
