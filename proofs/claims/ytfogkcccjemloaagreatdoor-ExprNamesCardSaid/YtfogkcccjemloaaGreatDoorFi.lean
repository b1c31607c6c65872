/- Has of the reference; rows of names. -/
import Derived.Test.YtfogkcccjemloaaGreatDoorFh
namespace Go.Proofs.YtfogkcccjemloaaGreatDoor
set_option linter.unusedVariables false
set_option linter.unusedSimpArgs false
open Go.RowKit Go.Sort
def nmC (l : List ByteArray) : List Value := l.map Value.string
/-- A reads as these names, below block B -/
def RdN (w : World) (B : Nat) (A : Option Addr) (l : List ByteArray) : Prop := l ≠ [] → ∃ ad, A = some ad ∧ ad.block < B ∧ ∀ (i : Nat) (y : ByteArray), l[i]? = some y → w.cell? (ad.add i) = some (.string y)
theorem RdN.to {w W : World} {A : Option Addr} {l : List ByteArray} (h : RdN w w.heap.size A l) (hb : Below w.heap.size w W) : RdN W W.heap.size A l := fun hn => by
  obtain ⟨ad, e, hB, hc⟩ := h hn
  have hs := hb.size
  exact ⟨ad, e, by omega, fun i t ht => (hb.cell (by rw [add_block]; exact hB)).trans (hc i t ht)⟩
theorem RdN.at_ {w : World} {B : Nat} {A : Option Addr} {l : List ByteArray} (h : RdN w B A l) {k : Nat} (hk : k < l.length) : ∃ ad y, A = some ad ∧ ad.block < B ∧ l[k]? = some y ∧ w.cell? (ad.add k) = some (.string y) := by
  have he : l[k]? = some l[k] := List.getElem?_eq_getElem hk
  obtain ⟨ad, e, hb, hc⟩ := h (by rintro rfl; simp at hk)
  exact ⟨ad, _, e, hb, he, hc k _ he⟩
theorem RdN.of_own {w : World} {base : Nat} {e : TypeId} {A : Option Addr} {c : Nat} {l : List ByteArray} (h : w.ownsRow base e 1 (.slice A l.length c) l.length (nmC l)) : RdN w w.heap.size A l := fun hn => by
  rcases h.2 with ⟨h1, h2⟩ | ⟨g, cap, cur, h1, h2, h3, h4, h5, h6, h7⟩
  · exact absurd (List.length_eq_zero_iff.1 h2) hn
  · have hA : A = some ⟨g, 0, none⟩ := by injection h1
    subst hA
    refine ⟨_, rfl, (Array.getElem?_eq_some_iff.1 h3).1, fun i y hy => ?_⟩
    have hj : (nmC l)[i]? = some (.string y) := by rw [nmC, List.getElem?_map, hy]; rfl
    rw [(add_add6 g i 0).2.2, cell_of_row w g i cur _ (0, 0) h3]
    rw [← h7, List.getElem?_take] at hj
    split at hj
    · rw [← Array.getElem?_toList]; exact hj
    · cases hj
def hasN (l : List ByteArray) (s : ByteArray) : Bool := l.any fun y => y.toList == s.toList
theorem any_take {l : List ByteArray} {p : ByteArray → Bool} {k : Nat} {y : ByteArray} (h : l[k]? = some y) : (l.take (k + 1)).any p = ((l.take k).any p || p y) := by
  rw [take_succ_of h, List.any_append]; simp
theorem any_hit {l : List ByteArray} {p : ByteArray → Bool} {k : Nat} {y : ByteArray} (h : l[k]? = some y) (hp : p y = true) : l.any p = true := List.any_eq_true.2 ⟨y, List.mem_of_getElem? h, hp⟩
set_option maxHeartbeats 1000000 in
set_option maxRecDepth 20000 in
theorem rhas_any (A : Option Addr) (c : Nat) (l : List ByteArray) (s : ByteArray) (w : World) (hR : RdN w w.heap.size A l) (hl : l.length ≤ 100000) : Calls Tryz.prog 24 #[.slice A l.length c, .string s] w (Bel (.bool (hasN l s)) w) := by
  unfold hasN
  obtain ⟨p, hp⟩ : ∃ p : ByteArray → Bool, (fun y => y.toList == s.toList) = p := ⟨_, rfl⟩
  have hps : ∀ y, (y.toList == s.toList) = p y := fun y => by rw [← hp]
  rw [hp]
  clear hp
  have HA := Lib.hid (fun k y (h : l[k]? = some y) => any_take (p := p) h)
  have HH := Lib.hid (fun k y (h : l[k]? = some y) (q : p y = true) => any_hit (p := p) h q)
  have HP := Lib.hid hps
  clear hps
  go_enter Tryz.func24, Tryz.ntmps24
  go_wp2
  go_loopw [5] (fun i wr => ∃ k : Nat, k ≤ l.length ∧ i = .int .i64 (k : Int) ∧ wr = w ∧ Hid ((l.take k).any p = false)) (fun i _ => l.length - (intOf i).toNat)
  case atStart => exact ⟨0, by omega, rfl, rfl, Lib.hid rfl⟩
  case round =>
    obtain ⟨k, hk, rfl, rfl, hno⟩ := hrel
    by_cases hlt : k < l.length
    · obtain ⟨ad, y, rfl, had, hy, c0⟩ := hR.at_ hlt
      have h1 := HA.out k y hy
      have h2 := HH.out k y hy
      have h3 := HP.out y
      rw [hno.out, Bool.false_or] at h1
      clear hy HA HH HP
      cases q : p y
      · rw [q] at h1 h3
        have H1 := Lib.hid h1
        clear h1 h2 q
        go_wp2
        exact ⟨⟨k + 1, by omega, by congr 1, trivial, H1⟩, by simp [intOf]; omega⟩
      · rw [h2 q]
        rw [q] at h3
        clear h1 h2 q
        go_wp2
        go_ret
        exact ⟨rfl, Below.refl _ _⟩
    · obtain rfl : k = l.length := by omega
      have h1 := hno.out
      rw [List.take_length] at h1
      go_wp2
      go_ret
      exact ⟨by rw [h1]; rfl, Below.refl _ _⟩
end Go.Proofs.YtfogkcccjemloaaGreatDoor
