/- Scan of the program. -/
import Derived.Test.YtfogkcccjemloaaGreatDoorLj
namespace Go.Proofs.YtfogkcccjemloaaGreatDoor
set_option linter.unusedVariables false
set_option linter.unusedSimpArgs false
open Go.RowKit
abbrev Tk := Int × ByteArray × Int
def tkV (t : Tk) : List Value := [.int .i64 t.1, .string t.2.1, .int .i64 t.2.2]
def tks (l : List Tk) : List Value := l.flatMap tkV
theorem tks_length (l : List Tk) : (tks l).length = l.length * 3 := by
  induction l with
  | nil => rfl
  | cons a r ih => simp [tks, tkV] at ih ⊢; omega
theorem tks_snoc (l : List Tk) (t : Tk) : tks (l ++ [t]) = tks l ++ tkV t := by simp [tks]
theorem gapN_le (l : List UInt8) : gapN l ≤ l.length := by
  induction l using gapN.induct with
  | case1 l h ih =>
    rw [gapN_yes h]
    have := sp_length pB l
    have h2 := sp_length pN (l.drop (sp pB l))
    rw [List.length_drop] at ih h2
    omega
  | case2 l h =>
    rw [gapN_no (by rw [← Bool.not_eq_true]; exact h)]
    exact sp_length _ _
/-- Scan from a place on, with what is scanned so far: the tokens, the place of the error, the error -/
def scanG (s : ByteArray) (acc : List Tk) (k : Nat) : List Tk × Nat × Int :=
  if h : k < s.size then
    if he : (fst (s.extract k s.size)).2.2.2 = 0 then
      scanG s (acc ++ [((fst (s.extract k s.size)).1, (fst (s.extract k s.size)).2.1, (k : Int))]) (k + (fst (s.extract k s.size)).2.2.1 + gapN (s.data.toList.drop (k + (fst (s.extract k s.size)).2.2.1)))
    else ([], k, (fst (s.extract k s.size)).2.2.2)
  else (acc, 0, 0)
termination_by s.size - k
decreasing_by
  have := fst_size (s := s.extract k s.size) (by rw [drop_size]; omega) he
  omega
theorem scanG_go {s : ByteArray} {acc : List Tk} {k : Nat} (h : k < s.size) {a : Int} {tx : ByteArray} {n : Nat} (hf : fst (s.extract k s.size) = (a, tx, n, 0)) :
    scanG s acc k = scanG s (acc ++ [(a, tx, (k : Int))]) (k + n + gapN (s.data.toList.drop (k + n))) := by
  rw [scanG, dif_pos h, dif_pos (by rw [hf])]
  rw [hf]
theorem scanG_err {s : ByteArray} {acc : List Tk} {k : Nat} (h : k < s.size) {a : Int} {tx : ByteArray} {n : Nat} {e : Int} (hf : fst (s.extract k s.size) = (a, tx, n, e)) (he : e ≠ 0) :
    scanG s acc k = ([], k, e) := by
  rw [scanG, dif_pos h, dif_neg (by rw [hf]; exact he)]
  rw [hf]
theorem scanG_end {s : ByteArray} {acc : List Tk} {k : Nat} (h : ¬ k < s.size) : scanG s acc k = (acc, 0, 0) := by rw [scanG, dif_neg h]
theorem tokInfo : (Tryz.prog.info? 61).map (fun i => (i.zero, i.size, i.bytes)) = some (some (.agg #[.int .i64 0, .string ⟨#[]⟩, .int .i64 0]), 3, 32) := by kernel_rfl
/-- tokens in a slice of the call's own, a place, an error -/
def NewT (r : List Tk × Nat × Int) (w : World) (e : Ending) (w' : World) : Prop := ∃ A c, e = .returned (.tuple #[.slice A r.1.length c, .int .i64 r.2.1, .int .i64 r.2.2]) ∧ w'.ownsRow w.heap.size 61 3 (.slice A r.1.length c) r.1.length (tks r.1) ∧ Below w.heap.size w w'
theorem own_keep3 {w W : World} {base n size : Nat} {e : TypeId} {v : Value} {xs : List Value} (h : w.ownsRow base e size v n xs) (hb : Below w.heap.size w W) : W.ownsRow base e size v n xs := by
  refine ⟨h.1, h.2.imp id fun ⟨g, cap, cur, e1, h1, h2, r⟩ => ⟨g, cap, cur, e1, h1, ?_, r⟩⟩
  rw [hb.block g (Array.getElem?_eq_some_iff.1 h2).1]
  exact h2
theorem own_form3 {w : World} {base n size : Nat} {e : TypeId} {v : Value} {xs : List Value} (h : w.ownsRow base e size v n xs) : ∃ A c, v = .slice A n c := by
  rcases h.2 with ⟨rfl, rfl⟩ | ⟨g, cap, cur, rfl, _⟩
  · exact ⟨_, _, rfl⟩
  · exact ⟨_, _, rfl⟩
theorem row3 (w : World) (o : Obj) (x y z : Value) (t : TypeId) : ∀ j u, [x, y, z][j]? = some u → ((w.alloc o).alloc (.cells #[x, y, z] t)).cell? ((⟨w.heap.size + 1, 0, none⟩ : Addr).add j) = some u := by
  intro j u hu
  have e : w.heap.size + 1 = (w.alloc o).heap.size := (World.size_alloc _ _).symm
  rw [e]
  rcases j with _ | _ | _ | j
  · obtain rfl : x = u := by simpa using hu
    rw [show (Addr.add ⟨(w.alloc o).heap.size, 0, none⟩ 0) = ⟨(w.alloc o).heap.size, 0, none⟩ from rfl]
    simp [go_sem]
  · obtain rfl : y = u := by simpa using hu
    rw [show (Addr.add ⟨(w.alloc o).heap.size, 0, none⟩ (0 + 1)) = ⟨(w.alloc o).heap.size, 1, none⟩ from rfl]
    simp [go_sem]
  · obtain rfl : z = u := by simpa using hu
    rw [show (Addr.add ⟨(w.alloc o).heap.size, 0, none⟩ (0 + 1 + 1)) = ⟨(w.alloc o).heap.size, 2, none⟩ from rfl]
    simp [go_sem]
  · simp at hu
theorem below_grown3 {w wr W w3 : World} {v v' : Value} {B n : Nat} {e : TypeId} {xs : List Value} (hg : W.grownBy w3 v'.ownBlock) (hv : v' = v) (hown : wr.ownsRow B e 3 v n xs) (hB : B ≤ W.heap.size) (hb : Below B w W) : Below B w w3 := by
  subst hv
  exact hb.grown hg hB (fun j hj => (hown.lt j hj).1)
theorem tk_one (t : Tk) : ∀ u ∈ tkV t, u.oneCell' = true := by
  intro u hu
  simp [tkV] at hu
  rcases hu with rfl | rfl | rfl <;> rfl
end Go.Proofs.YtfogkcccjemloaaGreatDoor
