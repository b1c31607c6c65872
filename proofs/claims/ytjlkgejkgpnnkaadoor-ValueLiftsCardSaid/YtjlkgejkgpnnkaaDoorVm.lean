/- Words for the value layer: strings in memory, enumerations in memory, the numbers of operators; what the listed variables give. -/
import Derived.Test.YtjlkgejkgpnnkaaDoorMem
import Derived.Test.YtjlkgejkgpnnkaaDoorVWord
import Derived.Test.YtjlkgejkgpnnkaaDoorShelf
namespace Go.Proofs.YtjlkgejkgpnnkaaDoor
set_option linter.unusedVariables false
set_option linter.unusedSimpArgs false
open Go.RowKit
def Bel (v : Value) (w : World) (e : Ending) (w' : World) : Prop := e = .returned v ∧ Below w.heap.size w w'
theorem bel_of {v : Value} {w w' : World} {e : Ending} (h : e = .returned v ∧ w = w') : Bel v w e w' := ⟨h.1, by rw [← h.2]; exact Below.refl _ _⟩
/-- strings as values -/
def ss (l : List ByteArray) : List Value := l.map Value.string
theorem ss_length (l : List ByteArray) : (ss l).length = l.length := by simp [ss]
theorem ss_get {l : List ByteArray} {k : Nat} {b : ByteArray} (h : l[k]? = some b) : (ss l)[k]? = some (.string b) := by simp [ss, h]
/-- numbers as values -/
def is_ (l : List Int) : List Value := l.map (Value.int .i64)
theorem is_length (l : List Int) : (is_ l).length = l.length := by simp [is_]
theorem is_get {l : List Int} {k : Nat} {b : Int} (h : l[k]? = some b) : (is_ l)[k]? = some (.int .i64 b) := by simp [is_, h]
theorem Rd.int_at {w : World} {B : Nat} {A : Option Addr} {l : List Int} (h : Rd w B A (is_ l)) {k : Nat} (hk : k < l.length) :
    ∃ ad b, A = some ad ∧ ad.block < B ∧ l[k]? = some b ∧ w.cell? (ad.add k) = some (.int .i64 b) := by
  obtain ⟨ad, e, hb, hc⟩ := h (by intro e; have := congrArg List.length e; simp [is_] at this; rw [this] at hk; simp at hk)
  exact ⟨ad, l[k], e, hb, List.getElem?_eq_getElem hk, hc k _ (is_get (List.getElem?_eq_getElem hk))⟩
theorem Rd.str_at {w : World} {B : Nat} {A : Option Addr} {l : List ByteArray} (h : Rd w B A (ss l)) {k : Nat} (hk : k < l.length) :
    ∃ ad b, A = some ad ∧ ad.block < B ∧ l[k]? = some b ∧ w.cell? (ad.add k) = some (.string b) := by
  obtain ⟨ad, e, hb, hc⟩ := h (by intro e; have := congrArg List.length e; simp [ss] at this; rw [this] at hk; simp at hk)
  exact ⟨ad, l[k], e, hb, List.getElem?_eq_getElem hk, hc k _ (ss_get (List.getElem?_eq_getElem hk))⟩
/-- an enumeration, and where its tags lie -/
structure En where
  name : ByteArray
  A : Option Addr
  c : Nat
  tags : List ByteArray
/-- A reads as the enumerations es, two cells each, below B -/
def RdE (w : World) (B : Nat) (A : Option Addr) (es : List En) : Prop :=
  (es ≠ [] → ∃ ad, A = some ad ∧ ad.block < B ∧ ∀ (i : Nat) (e : En), es[i]? = some e → w.cell? (ad.add (i * 2)) = some (.string e.name) ∧ w.cell? (ad.add (i * 2 + 1)) = some (.slice e.A e.tags.length e.c)) ∧
  ∀ (i : Nat) (e : En), es[i]? = some e → Rd w B e.A (ss e.tags)
theorem RdE.nil (w : World) (B : Nat) (A : Option Addr) : RdE w B A [] := ⟨fun h => absurd rfl h, fun i e h => by simp at h⟩
theorem RdE.keep {w w' : World} {B : Nat} {A : Option Addr} {es : List En} (h : RdE w B A es) (hk : ∀ p : Addr, p.block < B → w'.cell? p = w.cell? p) : RdE w' B A es := by
  refine ⟨fun hn => ?_, fun i e he => (h.2 i e he).keep hk⟩
  obtain ⟨ad, e, hb, hc⟩ := h.1 hn
  exact ⟨ad, e, hb, fun i x hx => ⟨(hk _ (by rw [add_block]; exact hb)).trans (hc i x hx).1, (hk _ (by rw [add_block]; exact hb)).trans (hc i x hx).2⟩⟩
theorem RdE.more {w : World} {B B' : Nat} {A : Option Addr} {es : List En} (h : RdE w B A es) (hB : B ≤ B') : RdE w B' A es := by
  refine ⟨fun hn => ?_, fun i e he => (h.2 i e he).more hB⟩
  obtain ⟨ad, e, hb, hc⟩ := h.1 hn
  exact ⟨ad, e, by omega, hc⟩
theorem RdE.to {w W : World} {A : Option Addr} {es : List En} (h : RdE w w.heap.size A es) (hb : Below w.heap.size w W) : RdE W W.heap.size A es := (h.keep fun _ hp => hb.cell hp).more hb.size
theorem add_fld (ad : Addr) (n : Nat) : ad.add (n + 1) = ⟨(ad.add n).block, (ad.add n).off + 1, none⟩ := by
  unfold Addr.add
  by_cases h : n = 0
  · subst h; simp
  · simp [h, Nat.add_assoc]
theorem RdE.at_ {w : World} {B : Nat} {A : Option Addr} {es : List En} (h : RdE w B A es) {k : Nat} (hk : k < es.length) :
    ∃ ad e, A = some ad ∧ ad.block < B ∧ es[k]? = some e ∧ w.cell? (ad.add (k * 2)) = some (.string e.name) ∧ w.cell? ⟨(ad.add (k * 2)).block, (ad.add (k * 2)).off + 1, none⟩ = some (.slice e.A e.tags.length e.c) ∧ Rd w B e.A (ss e.tags) := by
  have he : es[k]? = some es[k] := List.getElem?_eq_getElem hk
  obtain ⟨ad, e, hb, hc⟩ := h.1 (by rintro rfl; simp at hk)
  exact ⟨ad, _, e, hb, he, (hc k _ he).1, by rw [← add_fld]; exact (hc k _ he).2, h.2 k _ he⟩
/-- what the listed variables give: the table of powers, and the two sentinels -/
def Std (w : World) : Prop := Lib.TabIs Tryd.prog w "internal/strconv.uint64pow10" .u64 Lib.pow10Tab ∧ (∃ tp p, w.var? Tryd.prog "strconv.ErrSyntax" = some #[.iface tp p]) ∧ ∃ tp p, w.var? Tryd.prog "strconv.ErrRange" = some #[.iface tp p]
theorem var_below {n : String} {g : Nat} {v : Array Value} {w w' : World} (hg : Tryd.prog.globalNamed n = some g) (h : w.var? Tryd.prog n = some v) (hb : Below w.heap.size w w') : w'.var? Tryd.prog n = some v := by
  unfold World.var? at h ⊢
  rw [hg] at h ⊢
  simp only [Option.bind_some] at h ⊢
  have hlt : g < w.heap.size := by
    rcases Nat.lt_or_ge g w.heap.size with h' | h'
    · exact h'
    · rw [Array.getElem?_eq_none h'] at h; cases h
  rw [hb.block g hlt]
  exact h
theorem tab_below {n : String} {g : Nat} {k : IntKind} {zs : List Int} {w w' : World} (hg : Tryd.prog.globalNamed n = some g) (h : Lib.TabIs Tryd.prog w n k zs) (hb : Below w.heap.size w w') : Lib.TabIs Tryd.prog w' n k zs := var_below hg h hb
theorem gTab : Tryd.prog.globalNamed "internal/strconv.uint64pow10" = some 0 := by kernel_rfl
theorem gSyn : Tryd.prog.globalNamed "strconv.ErrSyntax" = some 1 := by kernel_rfl
theorem gRng : Tryd.prog.globalNamed "strconv.ErrRange" = some 2 := by kernel_rfl
theorem Std.to {w w' : World} (h : Std w) (hb : Below w.heap.size w w') : Std w' := by
  obtain ⟨h1, ⟨a, b, h2⟩, c, d, h3⟩ := h
  exact ⟨tab_below gTab h1 hb, ⟨a, b, var_below gSyn h2 hb⟩, c, d, var_below gRng h3 hb⟩
theorem below_grow' (w : World) (k : Nat) (os : Array Obj) : Below w.heap.size w (Go.Sort.grow (w.drewN k) os) :=
  ⟨rfl, rfl, rfl, by show w.heap.size ≤ (w.heap ++ os).size; rw [Array.size_append]; omega, fun j hj => by show (w.heap ++ os)[j]? = _; exact Array.getElem?_append_left hj⟩
/-- strconv.Itoa, at every int -/
theorem itoa_any (n : Int) (w : World) (hs : Std w) (h0 : -9223372036854775808 ≤ n) (h1 : n ≤ 9223372036854775807) :
    Calls Tryd.prog 45 #[.int .i64 n] w (Bel (.string ⟨(Lib.itoa n).toArray⟩) w) :=
  (Tryd.strconv_Itoa n h0 h1 w hs.1).mono fun e w' ⟨he, k, os, hw⟩ => ⟨he, by rw [hw]; exact below_grow' w k os⟩
/-- strconv.Atoi, at every text: a number and whether there is an error -/
def atoiV (l : List UInt8) : Int := match Lib.atoiAll l with | .ok v => v | .syntax => 0 | .range => Lib.atoiSat l
def atoiOk (l : List UInt8) : Bool := match Lib.atoiAll l with | .ok v => true | _ => false
def Ato (l : List UInt8) (w : World) (e : Ending) (w' : World) : Prop := ∃ ev, e = .returned (.tuple #[.int .i64 (atoiV l), ev]) ∧ Below w.heap.size w w' ∧ (if atoiOk l then ev = .nilIface else ∃ t p, ev = .iface t p)
theorem atoi_any (s : ByteArray) (w : World) (hs : Std w) (hl : s.size ≤ 281474976710656) : Calls Tryd.prog 61 #[.string s] w (Ato s.data.toList w) := by
  obtain ⟨h1, ⟨a, b, h2⟩, c, d, h3⟩ := hs
  cases h : Lib.atoiAll s.data.toList with
  | ok v =>
    refine (Tryd.strconv_Atoi_ok s (by omega) v h w).mono fun e w' ⟨he, hw⟩ => ⟨.nilIface, by rw [he, atoiV, h], ?_, by rw [atoiOk, h]; rfl⟩
    rcases hw with rfl | ⟨t, rfl⟩
    · exact Below.refl _ _
    · exact Lib.bytesWorld_below _ _ _
  | «syntax» =>
    refine (Tryd.strconv_Atoi_syntax_var s hl h a b w h2).mono fun e w' hx => ?_
    obtain ⟨N, he, _, _, hb⟩ := hx
    have e1 : atoiV s.data.toList = 0 := by rw [atoiV, h]
    have e2 : atoiOk s.data.toList = false := by rw [atoiOk, h]
    exact ⟨_, by rw [he, e1], hb, by rw [e2]; exact ⟨_, _, rfl⟩⟩
  | range =>
    refine (Tryd.strconv_Atoi_range_var s hl h c d w h3).mono fun e w' hx => ?_
    obtain ⟨N, he, _, _, hb⟩ := hx
    have e1 : atoiV s.data.toList = Lib.atoiSat s.data.toList := by rw [atoiV, h]
    have e2 : atoiOk s.data.toList = false := by rw [atoiOk, h]
    exact ⟨_, by rw [he, e1], hb, by rw [e2]; exact ⟨_, _, rfl⟩⟩
theorem spot_of {w : World} {a : Addr} {v : Value} (h : w.cell? a = some v) : a.spot = none := by
  unfold World.cell? at h
  split at h
  · split at h
    · cases h
    · rename_i hs; simpa using hs
  · cases h
/-- slices.Index, at texts -/
theorem index_any (A : Option Addr) (c : Nat) (l : List ByteArray) (x : ByteArray) (w : World) (hA : Rd w w.heap.size A (ss l)) (hl : l.length ≤ 9223372036854775807) :
    Calls Tryd.prog 48 #[.slice A l.length c, .string x] w (Bel (.int .i64 (Lib.idxOfS l x)) w) := by
  rcases l with _ | ⟨y, l⟩
  · exact (Tryd.slices_Index_string_empty A c x w).mono fun e w' h => bel_of ⟨h.1, h.2.symm⟩
  · obtain ⟨ad, rfl, hb, hc⟩ := hA (by simp [ss])
    have h0 := spot_of (hc 0 _ (by simp [ss]; rfl))
    rw [add_zero'] at h0
    obtain ⟨b, o, sp⟩ := ad
    simp only at h0
    subst h0
    have k := Tryd.slices_Index_string b o (y :: l).length c (y :: l) x w (Nat.le_refl _) hl (fun j hj => by
      have e := hc j (.string ((y :: l).getD j ByteArray.empty)) (by rw [ss, List.getElem?_map, List.getElem?_eq_getElem hj, Option.map_some, List.getD, List.getElem?_eq_getElem hj]; rfl)
      rw [← e]
      unfold Addr.add
      split
      · rename_i h0; rw [h0, Nat.add_zero]
      · rfl)
    rw [List.take_length] at k
    exact k.mono fun e w' h => bel_of ⟨h.1, h.2.symm⟩
end Go.Proofs.YtjlkgejkgpnnkaaDoor
