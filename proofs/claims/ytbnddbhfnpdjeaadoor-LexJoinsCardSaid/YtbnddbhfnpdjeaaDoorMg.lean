/- An argument of tokens, opened; the walk of LexJoins. -/
import Derived.Test.YtbnddbhfnpdjeaaDoorMf
import Derived.Test.YtbnddbhfnpdjeaaDoorMm
namespace Go.Proofs.YtbnddbhfnpdjeaaDoor
set_option linter.unusedVariables false
set_option linter.unusedSimpArgs false
open Go.ChangeShapes Go.WideShapes Go.ChangeAt Go.RowKit Go.Deep Go.WideElems
theorem choose_list {α : Type} {p : Nat → α → Prop} : ∀ n, (∀ i, i < n → ∃ e, p i e) → ∃ l : List α, l.length = n ∧ ∀ i e, l[i]? = some e → p i e := by
  intro n
  induction n with
  | zero => exact fun _ => ⟨[], rfl, fun i e h => by simp at h⟩
  | succ n ih =>
    intro h
    obtain ⟨l, hl, hp⟩ := ih fun i hi => h i (by omega)
    obtain ⟨e, he⟩ := h n (by omega)
    refine ⟨l ++ [e], by simp [hl], fun i x hx => ?_⟩
    rcases Nat.lt_or_ge i n with hi | hi
    · exact hp i x (by rwa [List.getElem?_append_left (by omega)] at hx)
    · rw [List.getElem?_append_right (by omega)] at hx
      have hi2 : i = n := by
        have := (List.getElem?_eq_some_iff.1 hx).1
        simp at this
        omega
      subst hi2
      rw [hl, Nat.sub_self] at hx
      obtain rfl : e = x := by simpa using hx
      exact he
section
variable {H : Type} {enc : TypeId × Value → H} {P : Program} {w : World} {held : Bool} {base : Nat}
/-- a slice of tokens, opened -/
theorem rd_tokens {t e : TypeId} {f0 f1 f2 : Field} {fuel : Nat} {v : Value} {x : DataW H × List MemPlace} (ht : P.underlying t = some (.slice e)) (he : P.underlying e = some (.struct #[f0, f1, f2]))
    (ce : P.cellsOf e = 3) (o0 : f0.offset = 0) (o1 : f1.offset = 1) (o2 : f2.offset = 2) (c0 : P.cellsOf f0.type = 1) (c1 : P.cellsOf f1.type = 1) (c2 : P.cellsOf f2.type = 1) (i0 : P.underlying f0.type = some (.int .i64)) (i1 : P.underlying f1.type = some .string) (i2 : P.underlying f2.type = some (.int .i64))
    (h : DataW.trod enc P w base (fun _ => true) held fuel t [v] = some x) :
    ∃ (A : Option Addr) (l : List Tk) (c : Nat), v = .slice A l.length c ∧ RdT w w.heap.size A l ∧ l.length ≤ 9223372036854775807 ∧ (∀ t ∈ l, t.2.1.size ≤ maxLen) ∧ l.length ≤ c := by
  rcases open_slice ht h with ⟨hv, _⟩ | ⟨a, len, cap, m, n, D, Pl, hv, hb, hl, hm, hmm, _, hx⟩
  · simp only [List.cons.injEq, and_true] at hv
    exact ⟨none, [], 0, hv, fun h => absurd rfl h, by simp, (fun t h => by cases h), Nat.le_refl _⟩
  · simp only [List.cons.injEq, and_true] at hv
    have hmc : m = cap := by simpa using hmm
    obtain ⟨l, hll, hp⟩ := choose_list (p := fun i (t : Tk) => (w.cell? (a.add (i * 3)) = some (.int .i64 t.1) ∧ w.cell? (a.add (i * 3 + 1)) = some (.string t.2.1) ∧ w.cell? (a.add (i * 3 + 2)) = some (.int .i64 t.2.2)) ∧ t.2.1.size ≤ maxLen) len fun i hi => by
      obtain ⟨cs', h1, h2⟩ := hx i (by omega)
      rw [ce] at h1
      obtain ⟨_, hlen, hcell⟩ := World.cells?_some h1
      obtain ⟨xs, k, hk, hxy, _, hxl, hf⟩ := DataW.trod_struct he h2
      match xs, hxl, cs', hlen with
      | [y0, y1, y2], _, [v0, v1, v2], _ =>
        have g0 := hf 0 f0 rfl
        have g1 := hf 1 f1 rfl
        have g2 := hf 2 f2 rfl
        simp [o0, o1, o2, c0, c1, c2] at g0 g1 g2
        have e0 := hcell 0 (by omega)
        have e1 := hcell 1 (by omega)
        have e2 := hcell 2 (by omega)
        rw [add_add] at e0 e1 e2
        obtain ⟨n0, z0, _⟩ := DataW.trod_int i0 g0
        obtain ⟨n1, z1, _, hs⟩ := DataW.trod_string i1 g1
        obtain ⟨n2, z2, _⟩ := DataW.trod_int i2 g2
        simp only [List.cons.injEq, and_true] at z0 z1 z2
        subst z0; subst z1; subst z2
        exact ⟨(n0, n1, n2), ⟨by simpa using e0, by simpa using e1, by simpa using e2⟩, hs⟩
    refine ⟨some a, l, cap, by rw [hll]; exact hv, fun hne => ⟨a, rfl, ?_, fun i t ht => (hp i t ht).1⟩, by rw [hll]; unfold maxLen at hm; omega, fun t ht => ?_, by rw [hll]; exact hl⟩
    · have h0 : 0 < l.length := List.length_pos_iff.2 hne
      have := World.block_lt_of_cell? w _ (hp 0 _ (List.getElem?_eq_getElem h0)).1.1
      rwa [add_block] at this
    · obtain ⟨j, hj⟩ := List.getElem?_of_mem ht
      exact (hp j t hj).2
end
theorem RdT.cut {w : World} {B : Nat} {A : Option Addr} {l : List Tk} (h : RdT w B A l) (n : Nat) : RdT w B A (l.take n) := fun hn => by
  obtain ⟨ad, e, hb, hc⟩ := h (by rintro rfl; simp at hn)
  refine ⟨ad, e, hb, fun i t ht => hc i t ?_⟩
  have hi : i < n := by have := (List.getElem?_eq_some_iff.1 ht).1; rw [List.length_take] at this; omega
  rwa [List.getElem?_take_of_lt hi] at ht
/-- the loop's question and the joins, of tokens in place -/
theorem join_two (L : List Tk) (m : Nat) (hm : L.length = m) (h300 : m ≤ 300) (ht : ∀ t ∈ L, t.2.1.size ≤ 100) : ∃ z : ByteArray,
    Hid (∀ (A : Option Addr) (c : Nat) W, RdT W W.heap.size A L → Calls Tryd.prog 13 #[.slice A m c] W (Bel (.string z) W)) ∧
    Hid (∀ (A : Option Addr) (c : Nat) W, RdT W W.heap.size A L → Calls Tryd.prog 14 #[.slice A m c] W (Bel (.string z) W)) := by
  subst hm
  exact ⟨jn L L.length, Lib.hid fun A c W h => join_any A c L W h (by omega) fun t h => by have := ht t h; omega, Lib.hid fun A c W h => rjoin_any A c L W h (by omega) fun t h => by have := ht t h; omega⟩
set_option maxHeartbeats 2000000 in
set_option maxRecDepth 20000 in
theorem joins_any (A : Option Addr) (c : Nat) (l : List Tk) (w : World) (hs : Std w) (hA : RdT w w.heap.size A l) (hl : l.length ≤ 9223372036854775807) (hT : ∀ t ∈ l, t.2.1.size ≤ maxLen) (hcap : l.length ≤ c) : Calls Tryd.prog 4 #[.slice A l.length c] w (Bel (.bool true) w) := by
  have HS := Lib.hid hs
  obtain ⟨L, hL⟩ : ∃ L, l.take 300 = L := ⟨_, rfl⟩
  have HL := Lib.hid (hL ▸ hA.cut 300)
  have HX : Hid (∀ t ∈ L, t.2.1.size ≤ maxLen) := Lib.hid fun t ht => hT t (by rw [← hL] at ht; exact List.mem_of_mem_take ht)
  clear hT
  by_cases hb : 300 < l.length
  · have hm : L.length = 300 := by rw [← hL, List.length_take]; omega
    obtain ⟨ad, t, rfl, _⟩ := hA.at_ (k := 0) (by omega)
    have h1 : (300 : Int) < (l.length : Int) := by omega
    have h2 : (300 : Int) ≤ (c : Int) := by omega
    have K : Hid ((∀ t ∈ L, t.2.1.size ≤ 100) → _) := Lib.hid (join_two L 300 hm (by omega))
    clear hs hA hcap
    go_enter Tryd.func4, Tryd.ntmps4
    go_wp2
    go_loopw [3] (fun i wr => ∃ k : Nat, k ≤ 300 ∧ i = .int .i64 (k : Int) ∧ Hid (∀ t ∈ L.take k, t.2.1.size ≤ 100) ∧ Below w.heap.size w wr) (fun i _ => 300 - (intOf i).toNat)
    case atStart => exact ⟨0, by omega, rfl, Lib.hid (by simp), Below.refl _ _⟩
    case round =>
      obtain ⟨k, hk, rfl, hq, hbl⟩ := hrel
      by_cases hlt : k < 300
      · obtain ⟨ad', t, had', _, htk, c1, c2, c3⟩ := (HL.out.to hbl).at_ (k := k) (by omega)
        obtain rfl : ad = ad' := Option.some.inj had'
        have hmx := HX.out t (List.mem_of_getElem? htk)
        by_cases h100 : 100 < t.2.1.size
        · have g1 : (100 : Int) < (t.2.1.size : Int) := by omega
          clear htk hmx hq
          go_wp2_with (go_at_call 12; (with_reducible refine (lives_any _ (HS.out.to ?_)).mono ?_); (focus ((repeat (first | (with_reducible exact Below.refl _ _) | (with_reducible assumption) | (with_reducible exact bel_box _) | (with_reducible refine bel_step ?_ (by with_reducible assumption)) | (with_reducible refine Below.drew ?_) | (with_reducible refine below_drewN ?_ _) | (with_reducible refine bel_alloc ?_ _))); done)); rintro e w4 ⟨rfl, hb4⟩)
          go_ret
          exact ⟨rfl, (by repeat (first | (with_reducible exact Below.refl _ _) | (with_reducible assumption) | (with_reducible exact bel_box _) | (with_reducible refine bel_step ?_ (by with_reducible assumption)) | (with_reducible refine Below.drew ?_) | (with_reducible refine below_drewN ?_ _) | (with_reducible refine bel_alloc ?_ _)))⟩
        · have g1 : (t.2.1.size : Int) ≤ 100 := by omega
          have hq2 : Hid (∀ t ∈ L.take (k + 1), t.2.1.size ≤ 100) := Lib.hid (by
            rw [take_succ_of htk]
            intro u hu
            rcases List.mem_append.1 hu with h | h
            · exact hq.out u h
            · obtain rfl : u = t := by simpa using h
              omega)
          clear htk hmx hq
          go_wp2
          go_roundw
          case rel => exact ⟨k + 1, by omega, by go_num, hq2, (by repeat (first | (with_reducible exact Below.refl _ _) | (with_reducible assumption) | (with_reducible exact bel_box _) | (with_reducible refine bel_step ?_ (by with_reducible assumption)) | (with_reducible refine Below.drew ?_) | (with_reducible refine below_drewN ?_ _) | (with_reducible refine bel_alloc ?_ _)))⟩
          case measure => simp [intOf]; omega
      · obtain rfl : k = 300 := by omega
        have g9 : ¬ (300 : Nat) < 300 := by omega
        obtain ⟨z, K1, K2⟩ := K.out (fun t ht => hq.out t (by rw [List.take_of_length_le (by omega)]; exact ht))
        clear hq K
        go_wp2_with (first
          | (go_at_call 13; (with_reducible refine (K1.out _ _ _ ?_).mono ?_); (focus (exact HL.out.to (by repeat (first | (with_reducible exact Below.refl _ _) | (with_reducible assumption) | (with_reducible exact bel_box _) | (with_reducible refine bel_step ?_ (by with_reducible assumption)) | (with_reducible refine Below.drew ?_) | (with_reducible refine below_drewN ?_ _) | (with_reducible refine bel_alloc ?_ _))); done)); rintro e w1 ⟨rfl, hb1⟩)
          | (go_at_call 14; (with_reducible refine (K2.out _ _ _ ?_).mono ?_); (focus (exact HL.out.to (by repeat (first | (with_reducible exact Below.refl _ _) | (with_reducible assumption) | (with_reducible exact bel_box _) | (with_reducible refine bel_step ?_ (by with_reducible assumption)) | (with_reducible refine Below.drew ?_) | (with_reducible refine below_drewN ?_ _) | (with_reducible refine bel_alloc ?_ _))); done)); rintro e w2 ⟨rfl, hb2⟩)
          | (go_at_call 12; (with_reducible refine (lives_any _ (HS.out.to ?_)).mono ?_); (focus ((repeat (first | (with_reducible exact Below.refl _ _) | (with_reducible assumption) | (with_reducible exact bel_box _) | (with_reducible refine bel_step ?_ (by with_reducible assumption)) | (with_reducible refine Below.drew ?_) | (with_reducible refine below_drewN ?_ _) | (with_reducible refine bel_alloc ?_ _))); done)); rintro e w4 ⟨rfl, hb4⟩))
        go_ret
        exact ⟨rfl, (by repeat (first | (with_reducible exact Below.refl _ _) | (with_reducible assumption) | (with_reducible exact bel_box _) | (with_reducible refine bel_step ?_ (by with_reducible assumption)) | (with_reducible refine Below.drew ?_) | (with_reducible refine below_drewN ?_ _) | (with_reducible refine bel_alloc ?_ _)))⟩
  · have hll : L = l := by rw [← hL, List.take_of_length_le (by omega)]
    subst hll
    have h1 : (L.length : Int) ≤ 300 := by omega
    have K : Hid ((∀ t ∈ L, t.2.1.size ≤ 100) → _) := Lib.hid (join_two L L.length rfl (by omega))
    clear hs hA hcap hL
    go_enter Tryd.func4, Tryd.ntmps4
    go_wp2
    go_loopw [3] (fun i wr => ∃ k : Nat, k ≤ L.length ∧ i = .int .i64 (k : Int) ∧ Hid (∀ t ∈ L.take k, t.2.1.size ≤ 100) ∧ Below w.heap.size w wr) (fun i _ => L.length - (intOf i).toNat)
    case atStart => exact ⟨0, by omega, rfl, Lib.hid (by simp), Below.refl _ _⟩
    case round =>
      obtain ⟨k, hk, rfl, hq, hbl⟩ := hrel
      by_cases hlt : k < L.length
      · obtain ⟨ad', t, had', _, htk, c1, c2, c3⟩ := (HL.out.to hbl).at_ (k := k) (by omega)
        subst had'
        have hmx := HX.out t (List.mem_of_getElem? htk)
        by_cases h100 : 100 < t.2.1.size
        · have g1 : (100 : Int) < (t.2.1.size : Int) := by omega
          clear htk hmx hq
          go_wp2_with (go_at_call 12; (with_reducible refine (lives_any _ (HS.out.to ?_)).mono ?_); (focus ((repeat (first | (with_reducible exact Below.refl _ _) | (with_reducible assumption) | (with_reducible exact bel_box _) | (with_reducible refine bel_step ?_ (by with_reducible assumption)) | (with_reducible refine Below.drew ?_) | (with_reducible refine below_drewN ?_ _) | (with_reducible refine bel_alloc ?_ _))); done)); rintro e w4 ⟨rfl, hb4⟩)
          go_ret
          exact ⟨rfl, (by repeat (first | (with_reducible exact Below.refl _ _) | (with_reducible assumption) | (with_reducible exact bel_box _) | (with_reducible refine bel_step ?_ (by with_reducible assumption)) | (with_reducible refine Below.drew ?_) | (with_reducible refine below_drewN ?_ _) | (with_reducible refine bel_alloc ?_ _)))⟩
        · have g1 : (t.2.1.size : Int) ≤ 100 := by omega
          have hq2 : Hid (∀ t ∈ L.take (k + 1), t.2.1.size ≤ 100) := Lib.hid (by
            rw [take_succ_of htk]
            intro u hu
            rcases List.mem_append.1 hu with h | h
            · exact hq.out u h
            · obtain rfl : u = t := by simpa using h
              omega)
          clear htk hmx hq
          go_wp2
          go_roundw
          case rel => exact ⟨k + 1, by omega, by go_num, hq2, (by repeat (first | (with_reducible exact Below.refl _ _) | (with_reducible assumption) | (with_reducible exact bel_box _) | (with_reducible refine bel_step ?_ (by with_reducible assumption)) | (with_reducible refine Below.drew ?_) | (with_reducible refine below_drewN ?_ _) | (with_reducible refine bel_alloc ?_ _)))⟩
          case measure => simp [intOf]; omega
      · obtain rfl : k = L.length := by omega
        obtain ⟨z, K1, K2⟩ := K.out (fun t ht => hq.out t (by rw [List.take_of_length_le (by omega)]; exact ht))
        clear hq K
        go_wp2_with (first
          | (go_at_call 13; (with_reducible refine (K1.out _ _ _ ?_).mono ?_); (focus (exact HL.out.to (by repeat (first | (with_reducible exact Below.refl _ _) | (with_reducible assumption) | (with_reducible exact bel_box _) | (with_reducible refine bel_step ?_ (by with_reducible assumption)) | (with_reducible refine Below.drew ?_) | (with_reducible refine below_drewN ?_ _) | (with_reducible refine bel_alloc ?_ _))); done)); rintro e w1 ⟨rfl, hb1⟩)
          | (go_at_call 14; (with_reducible refine (K2.out _ _ _ ?_).mono ?_); (focus (exact HL.out.to (by repeat (first | (with_reducible exact Below.refl _ _) | (with_reducible assumption) | (with_reducible exact bel_box _) | (with_reducible refine bel_step ?_ (by with_reducible assumption)) | (with_reducible refine Below.drew ?_) | (with_reducible refine below_drewN ?_ _) | (with_reducible refine bel_alloc ?_ _))); done)); rintro e w2 ⟨rfl, hb2⟩)
          | (go_at_call 12; (with_reducible refine (lives_any _ (HS.out.to ?_)).mono ?_); (focus ((repeat (first | (with_reducible exact Below.refl _ _) | (with_reducible assumption) | (with_reducible exact bel_box _) | (with_reducible refine bel_step ?_ (by with_reducible assumption)) | (with_reducible refine Below.drew ?_) | (with_reducible refine below_drewN ?_ _) | (with_reducible refine bel_alloc ?_ _))); done)); rintro e w4 ⟨rfl, hb4⟩))
        go_ret
        exact ⟨rfl, (by repeat (first | (with_reducible exact Below.refl _ _) | (with_reducible assumption) | (with_reducible exact bel_box _) | (with_reducible refine bel_step ?_ (by with_reducible assumption)) | (with_reducible refine Below.drew ?_) | (with_reducible refine below_drewN ?_ _) | (with_reducible refine bel_alloc ?_ _)))⟩
end Go.Proofs.YtbnddbhfnpdjeaaDoor
