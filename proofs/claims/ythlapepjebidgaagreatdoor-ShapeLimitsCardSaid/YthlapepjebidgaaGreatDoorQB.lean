/- Texts of one chain, in one file. -/
import Derived.Test.YthlapepjebidgaaGreatDoorQA
/- name and word of the program. -/
namespace Go.Proofs.YthlapepjebidgaaGreatDoor
set_option linter.unusedVariables false
set_option linter.unusedSimpArgs false
open Go.RowKit
theorem set3_cells {W : World} {b : Nat} {u v x : Value} (h0 : W.cell? ⟨b, 0, none⟩ = some u) (h1 : W.cell? ⟨b, 1, none⟩ = some v) (h2 : W.cell? ⟨b, 2, none⟩ = some x) (x0 x1 x2 : Value) :
    (((W.setCell ⟨b, 0, none⟩ x0).setCell ⟨b, 1, none⟩ x1).setCell ⟨b, 2, none⟩ x2).cell? ⟨b, 0, none⟩ = some x0 ∧ (((W.setCell ⟨b, 0, none⟩ x0).setCell ⟨b, 1, none⟩ x1).setCell ⟨b, 2, none⟩ x2).cell? ⟨b, 1, none⟩ = some x1 ∧ (((W.setCell ⟨b, 0, none⟩ x0).setCell ⟨b, 1, none⟩ x1).setCell ⟨b, 2, none⟩ x2).cell? ⟨b, 2, none⟩ = some x2 := by
  refine ⟨?_, ?_, ?_⟩
  · rw [World.cell?_setCell_other _ _ _ _ (by simp), World.cell?_setCell_other _ _ _ _ (by simp)]; exact World.cell?_setCell_same _ _ _ h0
  · rw [World.cell?_setCell_other _ _ _ _ (by simp)]
    exact World.cell?_setCell_same _ _ _ (by rw [World.cell?_setCell_other _ _ _ _ (by simp)]; exact h1)
  · exact World.cell?_setCell_same _ _ _ (by rw [World.cell?_setCell_other _ _ _ _ (by simp), World.cell?_setCell_other _ _ _ _ (by simp)]; exact h2)
theorem bel_set3 {w W : World} (h : Below w.heap.size w W) {b : Nat} (hb : w.heap.size ≤ b) (x y z : Value) : Below w.heap.size w (((W.setCell ⟨b, 0, none⟩ x).setCell ⟨b, 1, none⟩ y).setCell ⟨b, 2, none⟩ z) :=
  ((h.setCell (p := ⟨b, 0, none⟩) hb _).setCell (p := ⟨b, 1, none⟩) hb _).setCell (p := ⟨b, 2, none⟩) hb _
def tok (k : Int) (s : ByteArray) (a : Int) : Value := .agg #[.int .i64 k, .string s, .int .i64 a]
theorem rest {w W : World} {t : TypeId} {s0 : ByteArray} (h : Below (w.alloc (.cells #[.int .i64 0, .string s0, .int .i64 0] t)).heap.size (w.alloc (.cells #[.int .i64 0, .string s0, .int .i64 0] t)) W) :
    W.cell? ⟨w.heap.size, 0, none⟩ = some (.int .i64 0) ∧ W.cell? ⟨w.heap.size, 1, none⟩ = some (.string s0) ∧ W.cell? ⟨w.heap.size, 2, none⟩ = some (.int .i64 0) ∧ W.frozen? ⟨w.heap.size, 0, none⟩ = false ∧ W.frozen? ⟨w.heap.size, 1, none⟩ = false ∧ W.frozen? ⟨w.heap.size, 2, none⟩ = false ∧ w.heap.size < W.heap.size := by
  obtain ⟨hc, hf, hz⟩ := bcell h
  rw [hc _ _ (by simp), hc _ _ (by simp), hc _ _ (by simp), hf _ _ (by simp), hf _ _ (by simp), hf _ _ (by simp)]
  simp at hz
  refine ⟨?_, ?_, ?_, ?_, ?_, ?_, by omega⟩ <;> simp [go_sem]
def nmK (s : ByteArray) : Int := if isKw s then 3 else 1
set_option maxHeartbeats 400000 in
theorem name_long (s : ByteArray) (w : World) (hs : 40 < s.size) (h9 : s.size ≤ 9223372036854775807) : Calls Tryz.prog 134 #[.string s] w (Bel (.tuple #[tok 0 ⟨#[]⟩ 0, .int .i64 0, .int .i64 3]) w) := by
  go_enter Tryz.func134, Tryz.ntmps134
  go_wp2
  refine bodyPost_ret (v := .tuple #[tok 0 ⟨#[]⟩ 0, .int .i64 0, .int .i64 3]) (by simp [results, Tryz.results134, go_sem, tok]) rfl ?_
  exact ⟨rfl, (by repeat (first | (with_reducible exact Below.refl _ _) | (with_reducible assumption) | (with_reducible exact bel_box _) | (with_reducible refine bel_step ?_ (by with_reducible assumption)) | (with_reducible refine Below.drew ?_) | (with_reducible refine below_drewN ?_ _) | (with_reducible refine bel_alloc ?_ _)))⟩
set_option maxHeartbeats 400000 in
theorem name_any (s : ByteArray) (w : World) (hs : s.size ≤ 40) : Calls Tryz.prog 134 #[.string s] w (Bel (.tuple #[tok (nmK s) s 0, .int .i64 s.size, .int .i64 0]) w) := by
  have k := Lib.hid (keyword_any s)
  have e : nmK s = if isKw s then 3 else 1 := rfl
  rw [e]
  generalize isKw s = b at *
  clear e
  cases b
  all_goals
    go_enter Tryz.func134, Tryz.ntmps134
    go_wp2_with (go_at_call 163; refine (k.out _).mono ?_; rintro e w1 ⟨rfl, hb1⟩; obtain ⟨q0, q1, q2, q3, q4, q5, q6⟩ := rest (w := w) (W := w1) (t := 135) (s0 := ⟨#[]⟩) (by repeat (first | (with_reducible exact Below.refl _ _) | (with_reducible assumption) | (with_reducible exact bel_box _) | (with_reducible refine bel_step ?_ (by with_reducible assumption)) | (with_reducible refine Below.drew ?_) | (with_reducible refine below_drewN ?_ _) | (with_reducible refine bel_alloc ?_ _))))
  · obtain ⟨k0, k1, k2⟩ := set3_cells q0 q1 q2 (.int .i64 1) (.string s) (.int .i64 0)
    refine bodyPost_ret (v := .tuple #[tok 1 s 0, .int .i64 s.size, .int .i64 0]) (by simp [results, Tryz.results134, go_sem, tok, k0, k1, k2]) rfl ?_
    exact ⟨rfl, bel_set3 (by repeat (first | (with_reducible exact Below.refl _ _) | (with_reducible assumption) | (with_reducible exact bel_box _) | (with_reducible refine bel_step ?_ (by with_reducible assumption)) | (with_reducible refine Below.drew ?_) | (with_reducible refine below_drewN ?_ _) | (with_reducible refine bel_alloc ?_ _))) (Nat.le_refl _) _ _ _⟩
  · obtain ⟨k0, k1, k2⟩ := set3_cells q0 q1 q2 (.int .i64 3) (.string s) (.int .i64 0)
    refine bodyPost_ret (v := .tuple #[tok 3 s 0, .int .i64 s.size, .int .i64 0]) (by simp [results, Tryz.results134, go_sem, tok, k0, k1, k2]) rfl ?_
    exact ⟨rfl, bel_set3 (by repeat (first | (with_reducible exact Below.refl _ _) | (with_reducible assumption) | (with_reducible exact bel_box _) | (with_reducible refine bel_step ?_ (by with_reducible assumption)) | (with_reducible refine Below.drew ?_) | (with_reducible refine below_drewN ?_ _) | (with_reducible refine bel_alloc ?_ _))) (Nat.le_refl _) _ _ _⟩
theorem pW_contains (c : UInt8) : (ByteArray.mk #[48, 49, 40, 41]).data.toList.contains c = pW ((c.toNat : Nat) : Int) := by
  have key : ∀ d : UInt8, (c == d) = (((c.toNat : Nat) : Int) == ((d.toNat : Nat) : Int)) := fun d => by
    rw [Bool.eq_iff_iff, beq_iff_eq, beq_iff_eq]
    constructor
    · rintro rfl; rfl
    · intro h; exact UInt8.toNat_inj.1 (by omega)
  show [48, 49, 40, 41].contains c = _
  simp only [List.contains_cons, List.contains_nil, Bool.or_false, key, pW]
  simp only [Bool.or_assoc]
  rfl
set_option maxHeartbeats 1000000 in
theorem word_any (s : ByteArray) (m : Nat) (w : World) (hs : s.size ≤ 140737488351232) (h1 : 1 ≤ s.size) (hm : 1 + sp pW (s.data.toList.drop 1) = m) :
    Calls Tryz.prog 140 #[.string s] w (Bel (if Lib.hasPrefix (s.data.toList.drop m) [39] = true then .tuple #[tok 5 (s.extract 1 m) 0, .int .i64 (m+1), .int .i64 0] else .tuple #[tok 0 ⟨#[]⟩ 0, .int .i64 0, .int .i64 5]) w) := by
  have KA : Hid (∀ W, Calls Tryz.prog 138 #[.string ⟨#[48, 49, 40, 41]⟩] W (fun e w' => e = .returned (.func (.func 165) #[] #[.pointer (some ⟨W.heap.size, 0, none⟩)]) ∧ w'.cell? ⟨W.heap.size, 0, none⟩ = some (.string ⟨#[48, 49, 40, 41]⟩) ∧ W.heap.size < w'.heap.size ∧ Below W.heap.size W w')) := Lib.hid fun W => among_any _ W
  obtain ⟨a, ha⟩ : ∃ a, sp pW (s.data.toList.drop 1) = a := ⟨_, rfl⟩
  have hal : a ≤ s.size - 1 := by rw [← ha]; have := sp_length pW (s.data.toList.drop 1); rwa [List.length_drop, len_toList] at this
  rw [ha] at hm
  have S1 : Hid (∀ (q : Addr) W, q.block < W.heap.size → W.cell? q = some (.string ⟨#[48, 49, 40, 41]⟩) → Calls Tryz.prog 135 #[.string (s.extract 1 s.size), .func (.func 165) #[] #[.pointer (some q)]] W (Bel (.int .i64 a) W)) := Lib.hid fun q W hq hc => by
    have := span_am q pW (s.extract 1 s.size) W (by rw [drop_size]; omega) (Lib.hid fun W' hb c => by
      have := among_call ⟨#[48, 49, 40, 41]⟩ q c W' ((hb.cell hq).trans hc)
      rwa [pW_contains] at this)
    rwa [drop_bytes, ha] at this
  have P1 : Hid (∀ W, Calls Tryz.prog 168 #[.string (s.extract m s.size), .string ⟨#[39]⟩] W (fun e w' => e = .returned (.bool (Lib.hasPrefix (s.data.toList.drop m) [39])) ∧ w' = W)) := Lib.hid fun W => by
    have := Tryz.strings_HasPrefix (s.extract m s.size) ⟨#[39]⟩ W
    rwa [drop_bytes] at this
  have f1 : (1 : Int) + (a : Int) = (m : Int) := by omega
  have f2 : IntKind.i64.wrap (m : Int) = (m : Int) := Go.IntWalk.i64_in _ ⟨by omega, by omega⟩
  have f3 : (1 : Int) ≤ (s.size : Int) := by omega
  have f4 : (m : Int) ≤ (s.size : Int) := by omega
  have f5 : (0 : Int) ≤ (m : Int) := by omega
  have f6 : (1 : Int) ≤ (m : Int) := by omega
  have f7 : 1 ≤ m := by omega
  have f8 : m ≤ s.size := by omega
  have f9 : IntKind.i64.wrap ((m : Int)+1) = (m : Int)+1 := Go.IntWalk.i64_in _ ⟨by omega, by omega⟩
  clear hm ha hal
  cases hp : Lib.hasPrefix (s.data.toList.drop m) [39]
  all_goals
    rw [hp] at P1
    clear hp
    go_enter Tryz.func140, Tryz.ntmps140
    go_wp2
    go_region_held3 (fun _ => True) (trivial) (first
      | (go_at_call 138; (with_reducible refine (KA.out _).mono ?_); rintro e w1 ⟨rfl, hq1, hz1, hb1⟩)
      | (go_at_call 135; (with_reducible refine (S1.out _ _ ?_ ?_).mono ?_); (focus (first | assumption | (simpa using hz1; done))); (focus (first | assumption | (simpa using hq1; done))); rintro e w2 ⟨rfl, hb2⟩; obtain ⟨q0, q1, q2, q3, q4, q5, q6⟩ := rest (w := w) (W := w2) (t := 135) (s0 := ⟨#[]⟩) (by repeat (first | (with_reducible exact Below.refl _ _) | (with_reducible assumption) | (with_reducible exact bel_box _) | (with_reducible refine bel_step ?_ (by with_reducible assumption)) | (with_reducible refine Below.drew ?_) | (with_reducible refine below_drewN ?_ _) | (with_reducible refine bel_alloc ?_ _)))))
    go_wp2_with (go_at_call 168; refine (P1.out _).mono ?_; rintro e w3 ⟨rfl, rfl⟩)
  · obtain ⟨k0, k1, k2⟩ := set3_cells q0 q1 q2 (.int .i64 0) (.string ⟨#[]⟩) (.int .i64 0)
    refine bodyPost_ret (v := .tuple #[tok 0 ⟨#[]⟩ 0, .int .i64 0, .int .i64 5]) (by simp [results, Tryz.results140, go_sem, tok, k0, k1, k2]) rfl ?_
    exact ⟨rfl, bel_set3 (by repeat (first | (with_reducible exact Below.refl _ _) | (with_reducible assumption) | (with_reducible exact bel_box _) | (with_reducible refine bel_step ?_ (by with_reducible assumption)) | (with_reducible refine Below.drew ?_) | (with_reducible refine below_drewN ?_ _) | (with_reducible refine bel_alloc ?_ _))) (Nat.le_refl _) _ _ _⟩
  · obtain ⟨k0, k1, k2⟩ := set3_cells q0 q1 q2 (.int .i64 5) (.string (s.extract 1 m)) (.int .i64 0)
    refine bodyPost_ret (v := .tuple #[tok 5 (s.extract 1 m) 0, .int .i64 (m+1), .int .i64 0]) (by simp [results, Tryz.results140, go_sem, tok, k0, k1, k2]) rfl ?_
    exact ⟨rfl, bel_set3 (by repeat (first | (with_reducible exact Below.refl _ _) | (with_reducible assumption) | (with_reducible exact bel_box _) | (with_reducible refine bel_step ?_ (by with_reducible assumption)) | (with_reducible refine Below.drew ?_) | (with_reducible refine below_drewN ?_ _) | (with_reducible refine bel_alloc ?_ _))) (Nat.le_refl _) _ _ _⟩
end Go.Proofs.YthlapepjebidgaaGreatDoor
/- number and first of the program. -/
namespace Go.Proofs.YthlapepjebidgaaGreatDoor
set_option linter.unusedVariables false
set_option linter.unusedSimpArgs false
open Go.RowKit
/-- what the listed variables give: the table of powers, and the two sentinels -/
def Std (w : World) : Prop := Lib.TabIs Tryz.prog w "internal/strconv.uint64pow10" .u64 Lib.pow10Tab ∧ (∃ tp p, w.var? Tryz.prog "strconv.ErrSyntax" = some #[.iface tp p]) ∧ ∃ tp p, w.var? Tryz.prog "strconv.ErrRange" = some #[.iface tp p]
theorem var_below {n : String} {g : Nat} {v : Array Value} {w w' : World} (hg : Tryz.prog.globalNamed n = some g) (h : w.var? Tryz.prog n = some v) (hb : Below w.heap.size w w') : w'.var? Tryz.prog n = some v := by
  unfold World.var? at h ⊢
  rw [hg] at h ⊢
  simp only [Option.bind_some] at h ⊢
  have hlt : g < w.heap.size := by
    rcases Nat.lt_or_ge g w.heap.size with h' | h'
    · exact h'
    · rw [Array.getElem?_eq_none h'] at h; cases h
  rw [hb.block g hlt]
  exact h
theorem tab_below {n : String} {g : Nat} {k : IntKind} {zs : List Int} {w w' : World} (hg : Tryz.prog.globalNamed n = some g) (h : Lib.TabIs Tryz.prog w n k zs) (hb : Below w.heap.size w w') : Lib.TabIs Tryz.prog w' n k zs := var_below hg h hb
theorem gTab : Tryz.prog.globalNamed "internal/strconv.uint64pow10" = some 5 := by kernel_rfl
theorem gSyn : Tryz.prog.globalNamed "strconv.ErrSyntax" = some 1 := by kernel_rfl
theorem gRng : Tryz.prog.globalNamed "strconv.ErrRange" = some 2 := by kernel_rfl
theorem Std.to {w w' : World} (h : Std w) (hb : Below w.heap.size w w') : Std w' := by
  obtain ⟨h1, ⟨a, b, h2⟩, c, d, h3⟩ := h
  exact ⟨tab_below gTab h1 hb, ⟨a, b, var_below gSyn h2 hb⟩, c, d, var_below gRng h3 hb⟩
/-- strconv.Atoi, at every text: a number and whether there is an error -/
def atoiV (l : List UInt8) : Int := match Lib.atoiAll l with | .ok v => v | .syntax => 0 | .range => Lib.atoiSat l
def atoiOk (l : List UInt8) : Bool := match Lib.atoiAll l with | .ok v => true | _ => false
def Ato (l : List UInt8) (w : World) (e : Ending) (w' : World) : Prop := ∃ ev, e = .returned (.tuple #[.int .i64 (atoiV l), ev]) ∧ Below w.heap.size w w' ∧ (if atoiOk l then ev = .nilIface else ∃ t p, ev = .iface t p)
theorem atoi_any (s : ByteArray) (w : World) (hs : Std w) (hl : s.size ≤ 281474976710656) : Calls Tryz.prog 167 #[.string s] w (Ato s.data.toList w) := by
  obtain ⟨h1, ⟨a, b, h2⟩, c, d, h3⟩ := hs
  cases h : Lib.atoiAll s.data.toList with
  | ok v =>
    refine (Tryz.strconv_Atoi_ok s (by omega) v h w).mono fun e w' ⟨he, hw⟩ => ⟨.nilIface, by rw [he, atoiV, h], ?_, by rw [atoiOk, h]; rfl⟩
    rcases hw with rfl | ⟨t, rfl⟩
    · exact Below.refl _ _
    · exact Lib.bytesWorld_below _ _ _
  | «syntax» =>
    refine (Tryz.strconv_Atoi_syntax_var s hl h a b w h2).mono fun e w' hx => ?_
    obtain ⟨N, he, _, _, hb⟩ := hx
    have e1 : atoiV s.data.toList = 0 := by rw [atoiV, h]
    have e2 : atoiOk s.data.toList = false := by rw [atoiOk, h]
    exact ⟨_, by rw [he, e1], hb, by rw [e2]; exact ⟨_, _, rfl⟩⟩
  | range =>
    refine (Tryz.strconv_Atoi_range_var s hl h c d w h3).mono fun e w' hx => ?_
    obtain ⟨N, he, _, _, hb⟩ := hx
    have e1 : atoiV s.data.toList = Lib.atoiSat s.data.toList := by rw [atoiV, h]
    have e2 : atoiOk s.data.toList = false := by rw [atoiOk, h]
    exact ⟨_, by rw [he, e1], hb, by rw [e2]; exact ⟨_, _, rfl⟩⟩
/-- how number ends, of digits -/
def numOk (l : List UInt8) : Bool := atoiOk l && decide (atoiV l ≤ 32768)
set_option maxHeartbeats 1000000 in
theorem number_zero (s : ByteArray) (w : World) (h1 : 2 ≤ s.size) (h9 : s.size ≤ 140737488351232) (h0 : ((s[0].toNat : Nat) : Int) = 48) : Calls Tryz.prog 139 #[.string s] w (Bel (.tuple #[tok 0 ⟨#[]⟩ 0, .int .i64 0, .int .i64 5]) w) := by
  have f0 : (((s[0].toNat : Nat) : Int) == 48) = true := by rw [h0]; rfl
  have f1 : (1 : Int) < (s.size : Int) := by omega
  have f2 : (0 : Int) < (s.size : Int) := by omega
  go_enter Tryz.func139, Tryz.ntmps139
  go_wp2
  refine bodyPost_ret (v := .tuple #[tok 0 ⟨#[]⟩ 0, .int .i64 0, .int .i64 5]) (by simp [results, Tryz.results139, go_sem, tok]) rfl ?_
  exact ⟨rfl, (by repeat (first | (with_reducible exact Below.refl _ _) | (with_reducible assumption) | (with_reducible exact bel_box _) | (with_reducible refine bel_step ?_ (by with_reducible assumption)) | (with_reducible refine Below.drew ?_) | (with_reducible refine below_drewN ?_ _) | (with_reducible refine bel_alloc ?_ _)))⟩
set_option maxHeartbeats 1000000 in
theorem number_any (s : ByteArray) (w : World) (hstd : Std w) (h1 : 1 ≤ s.size) (h9 : s.size ≤ 140737488351232) (h0 : ¬ (2 ≤ s.size ∧ ((s[0].toNat : Nat) : Int) = 48)) :
    Calls Tryz.prog 139 #[.string s] w (Bel (if numOk s.data.toList = true then .tuple #[tok 2 s 0, .int .i64 s.size, .int .i64 0] else .tuple #[tok 0 ⟨#[]⟩ 0, .int .i64 0, .int .i64 14]) w) := by
  have KA : Hid (∀ W, Below w.heap.size w W → Calls Tryz.prog 167 #[.string s] W (Ato s.data.toList W)) := Lib.hid fun W hb => atoi_any s W (hstd.to hb) (by omega)
  have f2 : (0 : Int) < (s.size : Int) := by omega
  have hz : (((s[0].toNat : Nat) : Int) == 48) = false ∨ (((s[0].toNat : Nat) : Int) == 48) = true ∧ (s.size : Int) ≤ 1 := by
    by_cases e : ((s[0].toNat : Nat) : Int) = 48
    · exact .inr ⟨by rw [e]; rfl, by omega⟩
    · exact .inl (by simpa using e)
  have e : numOk s.data.toList = (atoiOk s.data.toList && decide (atoiV s.data.toList ≤ 32768)) := rfl
  rw [e]
  clear e h0
  unfold Ato at KA
  generalize atoiOk s.data.toList = b at *
  generalize atoiV s.data.toList = n at *
  cases b
  · rw [Bool.false_and, if_neg (by simp)]
    rcases hz with hz | ⟨hz, hz2⟩
    all_goals
      go_enter Tryz.func139, Tryz.ntmps139
      go_wp2_with (go_at_call 167; (with_reducible refine (KA.out _ ?_).mono ?_); (focus ((repeat (first | (with_reducible exact Below.refl _ _) | (with_reducible assumption) | (with_reducible exact bel_box _) | (with_reducible refine bel_step ?_ (by with_reducible assumption)) | (with_reducible refine Below.drew ?_) | (with_reducible refine below_drewN ?_ _) | (with_reducible refine bel_alloc ?_ _))); done)); rintro e w1 ⟨ev, rfl, hb1, hev⟩; simp only [Bool.false_eq_true, if_false] at hev; obtain ⟨t, p, rfl⟩ := hev; obtain ⟨q0, q1, q2, q3, q4, q5, q6⟩ := rest (w := w) (W := w1) (t := 135) (s0 := ⟨#[]⟩) (by repeat (first | (with_reducible exact Below.refl _ _) | (with_reducible assumption) | (with_reducible exact bel_box _) | (with_reducible refine bel_step ?_ (by with_reducible assumption)) | (with_reducible refine Below.drew ?_) | (with_reducible refine below_drewN ?_ _) | (with_reducible refine bel_alloc ?_ _))))
      obtain ⟨k0, k1, k2⟩ := set3_cells q0 q1 q2 (.int .i64 0) (.string ⟨#[]⟩) (.int .i64 0)
      refine bodyPost_ret (v := .tuple #[tok 0 ⟨#[]⟩ 0, .int .i64 0, .int .i64 14]) (by simp [results, Tryz.results139, go_sem, tok, k0, k1, k2]) rfl ?_
      exact ⟨rfl, bel_set3 (by repeat (first | (with_reducible exact Below.refl _ _) | (with_reducible assumption) | (with_reducible exact bel_box _) | (with_reducible refine bel_step ?_ (by with_reducible assumption)) | (with_reducible refine Below.drew ?_) | (with_reducible refine below_drewN ?_ _) | (with_reducible refine bel_alloc ?_ _))) (Nat.le_refl _) _ _ _⟩
  · rw [Bool.true_and]
    by_cases hn : n ≤ 32768
    · rw [if_pos (by simpa using hn)]
      rcases hz with hz | ⟨hz, hz2⟩
      all_goals
        go_enter Tryz.func139, Tryz.ntmps139
        go_wp2_with (go_at_call 167; (with_reducible refine (KA.out _ ?_).mono ?_); (focus ((repeat (first | (with_reducible exact Below.refl _ _) | (with_reducible assumption) | (with_reducible exact bel_box _) | (with_reducible refine bel_step ?_ (by with_reducible assumption)) | (with_reducible refine Below.drew ?_) | (with_reducible refine below_drewN ?_ _) | (with_reducible refine bel_alloc ?_ _))); done)); rintro e w1 ⟨ev, rfl, hb1, hev⟩; simp only [if_true] at hev; subst hev; obtain ⟨q0, q1, q2, q3, q4, q5, q6⟩ := rest (w := w) (W := w1) (t := 135) (s0 := ⟨#[]⟩) (by repeat (first | (with_reducible exact Below.refl _ _) | (with_reducible assumption) | (with_reducible exact bel_box _) | (with_reducible refine bel_step ?_ (by with_reducible assumption)) | (with_reducible refine Below.drew ?_) | (with_reducible refine below_drewN ?_ _) | (with_reducible refine bel_alloc ?_ _))))
        obtain ⟨k0, k1, k2⟩ := set3_cells q0 q1 q2 (.int .i64 2) (.string s) (.int .i64 0)
        refine bodyPost_ret (v := .tuple #[tok 2 s 0, .int .i64 s.size, .int .i64 0]) (by simp [results, Tryz.results139, go_sem, tok, k0, k1, k2]) rfl ?_
        exact ⟨rfl, bel_set3 (by repeat (first | (with_reducible exact Below.refl _ _) | (with_reducible assumption) | (with_reducible exact bel_box _) | (with_reducible refine bel_step ?_ (by with_reducible assumption)) | (with_reducible refine Below.drew ?_) | (with_reducible refine below_drewN ?_ _) | (with_reducible refine bel_alloc ?_ _))) (Nat.le_refl _) _ _ _⟩
    · rw [if_neg (by simpa using hn)]
      have hn2 : (32768 : Int) < n := by omega
      rcases hz with hz | ⟨hz, hz2⟩
      all_goals
        go_enter Tryz.func139, Tryz.ntmps139
        go_wp2_with (go_at_call 167; (with_reducible refine (KA.out _ ?_).mono ?_); (focus ((repeat (first | (with_reducible exact Below.refl _ _) | (with_reducible assumption) | (with_reducible exact bel_box _) | (with_reducible refine bel_step ?_ (by with_reducible assumption)) | (with_reducible refine Below.drew ?_) | (with_reducible refine below_drewN ?_ _) | (with_reducible refine bel_alloc ?_ _))); done)); rintro e w1 ⟨ev, rfl, hb1, hev⟩; simp only [if_true] at hev; subst hev; obtain ⟨q0, q1, q2, q3, q4, q5, q6⟩ := rest (w := w) (W := w1) (t := 135) (s0 := ⟨#[]⟩) (by repeat (first | (with_reducible exact Below.refl _ _) | (with_reducible assumption) | (with_reducible exact bel_box _) | (with_reducible refine bel_step ?_ (by with_reducible assumption)) | (with_reducible refine Below.drew ?_) | (with_reducible refine below_drewN ?_ _) | (with_reducible refine bel_alloc ?_ _))))
        obtain ⟨k0, k1, k2⟩ := set3_cells q0 q1 q2 (.int .i64 0) (.string ⟨#[]⟩) (.int .i64 0)
        refine bodyPost_ret (v := .tuple #[tok 0 ⟨#[]⟩ 0, .int .i64 0, .int .i64 14]) (by simp [results, Tryz.results139, go_sem, tok, k0, k1, k2]) rfl ?_
        exact ⟨rfl, bel_set3 (by repeat (first | (with_reducible exact Below.refl _ _) | (with_reducible assumption) | (with_reducible exact bel_box _) | (with_reducible refine bel_step ?_ (by with_reducible assumption)) | (with_reducible refine Below.drew ?_) | (with_reducible refine below_drewN ?_ _) | (with_reducible refine bel_alloc ?_ _))) (Nat.le_refl _) _ _ _⟩
end Go.Proofs.YthlapepjebidgaaGreatDoor
/- symbol of the program. -/
namespace Go.Proofs.YthlapepjebidgaaGreatDoor
set_option linter.unusedVariables false
set_option linter.unusedSimpArgs false
open Go.RowKit
def syL : List (List UInt8) := [[45, 62], [60, 62], [60, 61], [62, 61], [40], [41], [58], [59], [44], [61], [124], [60], [62], [43], [45], [42], [47]]
def isSy (s : ByteArray) : Bool := syL.contains s.toList
theorem ix2 (w : World) : (Instr.index 182 (.agg #[.int .i64 2, .int .i64 1]) (.int .i64 0)).run Tryz.prog w = .ok (.int .i64 2) w := by
  simp [Instr.index, Tryz.underlying182, go_sem]
theorem ix1 (w : World) : (Instr.index 182 (.agg #[.int .i64 2, .int .i64 1]) (.int .i64 1)).run Tryz.prog w = .ok (.int .i64 1) w := by
  simp [Instr.index, Tryz.underlying182, go_sem]
theorem no17 {s : ByteArray} (h : isSy s = false) : Hid ((s.toList == [45, 62]) = false ∧ (s.toList == [60, 62]) = false ∧ (s.toList == [60, 61]) = false ∧ (s.toList == [62, 61]) = false ∧ (s.toList == [40]) = false ∧ (s.toList == [41]) = false ∧ (s.toList == [58]) = false ∧ (s.toList == [59]) = false ∧ (s.toList == [44]) = false ∧ (s.toList == [61]) = false ∧ (s.toList == [124]) = false ∧ (s.toList == [60]) = false ∧ (s.toList == [62]) = false ∧ (s.toList == [43]) = false ∧ (s.toList == [45]) = false ∧ (s.toList == [42]) = false ∧ (s.toList == [47]) = false) := Lib.hid (by
  simp only [isSy, syL, List.contains_cons, List.contains_nil, Bool.or_eq_false_iff] at h
  exact ⟨h.1, h.2.1, h.2.2.1, h.2.2.2.1, h.2.2.2.2.1, h.2.2.2.2.2.1, h.2.2.2.2.2.2.1, h.2.2.2.2.2.2.2.1, h.2.2.2.2.2.2.2.2.1, h.2.2.2.2.2.2.2.2.2.1, h.2.2.2.2.2.2.2.2.2.2.1, h.2.2.2.2.2.2.2.2.2.2.2.1, h.2.2.2.2.2.2.2.2.2.2.2.2.1, h.2.2.2.2.2.2.2.2.2.2.2.2.2.1, h.2.2.2.2.2.2.2.2.2.2.2.2.2.2.1, h.2.2.2.2.2.2.2.2.2.2.2.2.2.2.2.1, h.2.2.2.2.2.2.2.2.2.2.2.2.2.2.2.2.1⟩)
theorem len_ne {l k : List UInt8} (n : Nat) (h : l.length = n) (hk : k.length ≠ n) : (l == k) = false := by
  rw [beq_eq_false_iff_ne]
  rintro rfl
  exact hk h
theorem ext_len (s : ByteArray) (n : Nat) (h : n ≤ s.size) : (s.extract 0 n).toList.length = n := by
  rw [ByteArray.toList_eq, len_toList, ByteArray.size_extract]
  omega
set_option maxHeartbeats 4000000 in
set_option maxRecDepth 100000 in
theorem symbol_two (s : ByteArray) (w : World) (h2 : 2 ≤ s.size) (hy : isSy (s.extract 0 2) = true) : Calls Tryz.prog 141 #[.string s] w (Bel (.tuple #[tok 4 (s.extract 0 2) 0, .int .i64 2, .int .i64 0]) w) := by
  have f1 : (2 : Int) ≤ (s.size : Int) := by omega
  have HY := Lib.hid hy
  have hln := ext_len s 2 h2
  clear hy
  have l4 : ((s.extract 0 2).toList == [40]) = false := len_ne 2 hln (by decide)
  have l5 : ((s.extract 0 2).toList == [41]) = false := len_ne 2 hln (by decide)
  have l6 : ((s.extract 0 2).toList == [58]) = false := len_ne 2 hln (by decide)
  have l7 : ((s.extract 0 2).toList == [59]) = false := len_ne 2 hln (by decide)
  have l8 : ((s.extract 0 2).toList == [44]) = false := len_ne 2 hln (by decide)
  have l9 : ((s.extract 0 2).toList == [61]) = false := len_ne 2 hln (by decide)
  have l10 : ((s.extract 0 2).toList == [124]) = false := len_ne 2 hln (by decide)
  have l11 : ((s.extract 0 2).toList == [60]) = false := len_ne 2 hln (by decide)
  have l12 : ((s.extract 0 2).toList == [62]) = false := len_ne 2 hln (by decide)
  have l13 : ((s.extract 0 2).toList == [43]) = false := len_ne 2 hln (by decide)
  have l14 : ((s.extract 0 2).toList == [45]) = false := len_ne 2 hln (by decide)
  have l15 : ((s.extract 0 2).toList == [42]) = false := len_ne 2 hln (by decide)
  have l16 : ((s.extract 0 2).toList == [47]) = false := len_ne 2 hln (by decide)
  clear hln
  have x2 := ix2
  go_enter Tryz.func141, Tryz.ntmps141
  go_wp2
  refine wp_loop_rounds 3 ?_
  rw [rounds_succ]
  go_wp2
  all_goals try (rename_i hA hB; exact absurd (hA.symm.trans hB) (by decide))
  all_goals first
    | (refine bodyPost_ret (v := .tuple #[tok 4 (s.extract 0 2) 0, .int .i64 2, .int .i64 0]) (by simp [results, Tryz.results141, go_sem, tok]) rfl ?_; exact ⟨rfl, (by repeat (first | (with_reducible exact Below.refl _ _) | (with_reducible assumption) | (with_reducible exact bel_box _) | (with_reducible refine bel_step ?_ (by with_reducible assumption)) | (with_reducible refine Below.drew ?_) | (with_reducible refine below_drewN ?_ _) | (with_reducible refine bel_alloc ?_ _)))⟩)
    | (have h := HY.out; simp only [isSy, syL, List.contains_cons, List.contains_nil, Bool.or_false, *] at h; cases h)
set_option maxHeartbeats 4000000 in
set_option maxRecDepth 100000 in
theorem symbol_one1 (s : ByteArray) (w : World) (h2 : s.size = 1) (hy : isSy (s.extract 0 1) = true) : Calls Tryz.prog 141 #[.string s] w (Bel (.tuple #[tok 4 (s.extract 0 1) 0, .int .i64 1, .int .i64 0]) w) := by
  have f1 : (s.size : Int) < 2 := by omega
  have f2 : (1 : Int) ≤ (s.size : Int) := by omega
  have HY := Lib.hid hy
  have hln := ext_len s 1 (by omega)
  clear hy
  have l0 : ((s.extract 0 1).toList == [45, 62]) = false := len_ne 1 hln (by decide)
  have l1 : ((s.extract 0 1).toList == [60, 62]) = false := len_ne 1 hln (by decide)
  have l2 : ((s.extract 0 1).toList == [60, 61]) = false := len_ne 1 hln (by decide)
  have l3 : ((s.extract 0 1).toList == [62, 61]) = false := len_ne 1 hln (by decide)
  clear hln
  have x2 := ix2
  have x1 := ix1
  go_enter Tryz.func141, Tryz.ntmps141
  go_wp2
  refine wp_loop_rounds 3 ?_
  rw [rounds_succ]
  go_wp2
  rw [rounds_succ]
  go_wp2
  all_goals try (rename_i hA hB; exact absurd (hA.symm.trans hB) (by decide))
  all_goals first
    | (refine bodyPost_ret (v := .tuple #[tok 4 (s.extract 0 1) 0, .int .i64 1, .int .i64 0]) (by simp [results, Tryz.results141, go_sem, tok]) rfl ?_; exact ⟨rfl, (by repeat (first | (with_reducible exact Below.refl _ _) | (with_reducible assumption) | (with_reducible exact bel_box _) | (with_reducible refine bel_step ?_ (by with_reducible assumption)) | (with_reducible refine Below.drew ?_) | (with_reducible refine below_drewN ?_ _) | (with_reducible refine bel_alloc ?_ _)))⟩)
    | (have h := HY.out; simp only [isSy, syL, List.contains_cons, List.contains_nil, Bool.or_false, *] at h; cases h)
set_option maxHeartbeats 4000000 in
set_option maxRecDepth 100000 in
theorem symbol_one2 (s : ByteArray) (w : World) (h2 : 2 ≤ s.size) (hn : isSy (s.extract 0 2) = false) (hy : isSy (s.extract 0 1) = true) : Calls Tryz.prog 141 #[.string s] w (Bel (.tuple #[tok 4 (s.extract 0 1) 0, .int .i64 1, .int .i64 0]) w) := by
  have f1 : (2 : Int) ≤ (s.size : Int) := by omega
  have f2 : (1 : Int) ≤ (s.size : Int) := by omega
  have HY := Lib.hid hy
  have hln := ext_len s 1 (by omega)
  have N := no17 hn
  obtain ⟨n0, n1, n2, n3, n4, n5, n6, n7, n8, n9, n10, n11, n12, n13, n14, n15, n16⟩ := N.out
  clear hy hn N
  have l0 : ((s.extract 0 1).toList == [45, 62]) = false := len_ne 1 hln (by decide)
  have l1 : ((s.extract 0 1).toList == [60, 62]) = false := len_ne 1 hln (by decide)
  have l2 : ((s.extract 0 1).toList == [60, 61]) = false := len_ne 1 hln (by decide)
  have l3 : ((s.extract 0 1).toList == [62, 61]) = false := len_ne 1 hln (by decide)
  clear hln
  have x2 := ix2
  have x1 := ix1
  go_enter Tryz.func141, Tryz.ntmps141
  go_wp2
  refine wp_loop_rounds 3 ?_
  rw [rounds_succ]
  go_wp2
  rw [rounds_succ]
  go_wp2
  all_goals try (rename_i hA hB; exact absurd (hA.symm.trans hB) (by decide))
  all_goals first
    | (refine bodyPost_ret (v := .tuple #[tok 4 (s.extract 0 1) 0, .int .i64 1, .int .i64 0]) (by simp [results, Tryz.results141, go_sem, tok]) rfl ?_; exact ⟨rfl, (by repeat (first | (with_reducible exact Below.refl _ _) | (with_reducible assumption) | (with_reducible exact bel_box _) | (with_reducible refine bel_step ?_ (by with_reducible assumption)) | (with_reducible refine Below.drew ?_) | (with_reducible refine below_drewN ?_ _) | (with_reducible refine bel_alloc ?_ _)))⟩)
    | (have h := HY.out; simp only [isSy, syL, List.contains_cons, List.contains_nil, Bool.or_false, *] at h; cases h)
set_option maxHeartbeats 4000000 in
set_option maxRecDepth 100000 in
theorem symbol_none1 (s : ByteArray) (w : World) (h2 : s.size = 1) (hy : isSy (s.extract 0 1) = false) : Calls Tryz.prog 141 #[.string s] w (Bel (.tuple #[tok 0 ⟨#[]⟩ 0, .int .i64 0, .int .i64 5]) w) := by
  have f1 : (s.size : Int) < 2 := by omega
  have f2 : (1 : Int) ≤ (s.size : Int) := by omega
  have N := no17 hy
  obtain ⟨n0, n1, n2, n3, n4, n5, n6, n7, n8, n9, n10, n11, n12, n13, n14, n15, n16⟩ := N.out
  clear hy N
  have x2 := ix2
  have x1 := ix1
  go_enter Tryz.func141, Tryz.ntmps141
  go_wp2
  refine wp_loop_rounds 3 ?_
  rw [rounds_succ]
  go_wp2
  rw [rounds_succ]
  go_wp2
  rw [rounds_succ]
  go_wp2
  all_goals
    refine bodyPost_ret (v := .tuple #[tok 0 ⟨#[]⟩ 0, .int .i64 0, .int .i64 5]) (by simp [results, Tryz.results141, go_sem, tok]) rfl ?_
    exact ⟨rfl, (by repeat (first | (with_reducible exact Below.refl _ _) | (with_reducible assumption) | (with_reducible exact bel_box _) | (with_reducible refine bel_step ?_ (by with_reducible assumption)) | (with_reducible refine Below.drew ?_) | (with_reducible refine below_drewN ?_ _) | (with_reducible refine bel_alloc ?_ _)))⟩
set_option maxHeartbeats 4000000 in
set_option maxRecDepth 100000 in
theorem symbol_none2 (s : ByteArray) (w : World) (h2 : 2 ≤ s.size) (hn : isSy (s.extract 0 2) = false) (hy : isSy (s.extract 0 1) = false) : Calls Tryz.prog 141 #[.string s] w (Bel (.tuple #[tok 0 ⟨#[]⟩ 0, .int .i64 0, .int .i64 5]) w) := by
  have f1 : (2 : Int) ≤ (s.size : Int) := by omega
  have f2 : (1 : Int) ≤ (s.size : Int) := by omega
  have N := no17 hy
  obtain ⟨n0, n1, n2, n3, n4, n5, n6, n7, n8, n9, n10, n11, n12, n13, n14, n15, n16⟩ := N.out
  have M := no17 hn
  obtain ⟨m0, m1, m2, m3, m4, m5, m6, m7, m8, m9, m10, m11, m12, m13, m14, m15, m16⟩ := M.out
  clear hy hn N M
  have x2 := ix2
  have x1 := ix1
  go_enter Tryz.func141, Tryz.ntmps141
  go_wp2
  refine wp_loop_rounds 3 ?_
  rw [rounds_succ]
  go_wp2
  rw [rounds_succ]
  go_wp2
  rw [rounds_succ]
  go_wp2
  all_goals
    refine bodyPost_ret (v := .tuple #[tok 0 ⟨#[]⟩ 0, .int .i64 0, .int .i64 5]) (by simp [results, Tryz.results141, go_sem, tok]) rfl ?_
    exact ⟨rfl, (by repeat (first | (with_reducible exact Below.refl _ _) | (with_reducible assumption) | (with_reducible exact bel_box _) | (with_reducible refine bel_step ?_ (by with_reducible assumption)) | (with_reducible refine Below.drew ?_) | (with_reducible refine below_drewN ?_ _) | (with_reducible refine bel_alloc ?_ _)))⟩
end Go.Proofs.YthlapepjebidgaaGreatDoor
/- first of the program. -/
namespace Go.Proofs.YthlapepjebidgaaGreatDoor
set_option linter.unusedVariables false
set_option linter.unusedSimpArgs false
open Go.RowKit
theorem either_any (a : Addr) (w : World) :
    Calls Tryz.prog 136 #[.slice (some a) 3 3] w (fun e w' => e = .returned (.func (.func 164) #[] #[.pointer (some ⟨w.heap.size, 0, none⟩)]) ∧ w'.cell? ⟨w.heap.size, 0, none⟩ = some (.slice (some a) 3 3) ∧ w.heap.size < w'.heap.size ∧ Below w.heap.size w w') := by
  go_enter Tryz.func136, Tryz.ntmps136
  go_wp2
  go_ret
  refine ⟨rfl, ?_, ?_, (by repeat (first | (with_reducible exact Below.refl _ _) | (with_reducible assumption) | (with_reducible exact bel_box _) | (with_reducible refine bel_step ?_ (by with_reducible assumption)) | (with_reducible refine Below.drew ?_) | (with_reducible refine below_drewN ?_ _) | (with_reducible refine bel_alloc ?_ _)))⟩ <;> simp [go_sem]
theorem head_extract (s : ByteArray) (k : Nat) : (s.extract 0 k).data.toList = s.data.toList.take k := by
  rw [ByteArray.data_extract]
  simp
theorem tests_mk {w1 w2 w3 : World} {t : TypeId} (hq : w2.cell? ⟨w1.heap.size, 0, none⟩ = some (.string ⟨#[95]⟩)) (hz : w1.heap.size < w2.heap.size)
    (h3 : w3.cell? ⟨(w2.alloc (.cells #[.func (.func 133) #[] #[], .func (.func 137) #[] #[], .func (.func 165) #[] #[.pointer (some ⟨w1.heap.size, 0, none⟩)]] t)).heap.size, 0, none⟩ = some (.slice (some ⟨w2.heap.size, 0, none⟩) 3 3))
    (hb : Below (w2.alloc (.cells #[.func (.func 133) #[] #[], .func (.func 137) #[] #[], .func (.func 165) #[] #[.pointer (some ⟨w1.heap.size, 0, none⟩)]] t)).heap.size (w2.alloc (.cells #[.func (.func 133) #[] #[], .func (.func 137) #[] #[], .func (.func 165) #[] #[.pointer (some ⟨w1.heap.size, 0, none⟩)]] t)) w3) :
    Tests w3 ⟨w2.heap.size+1, 0, none⟩ w3.heap.size := by
  rw [World.size_alloc] at h3
  have hl := World.block_lt_of_cell? w3 _ h3
  have hs := hb.size
  obtain ⟨hc, hf, hz2⟩ := bcell hb
  simp at hs hl
  refine ⟨⟨w2.heap.size, 0, none⟩, ⟨w1.heap.size, 0, none⟩, by simpa using hl, by simp; omega, by simp; omega, h3, ?_, ?_, ?_, ?_⟩
  · rw [hc _ _ (by simp)]; simp [go_sem]
  · rw [show (Addr.add ⟨w2.heap.size, 0, none⟩ 1) = ⟨w2.heap.size, 1, none⟩ from rfl, hc _ _ (by simp)]; simp [go_sem]
  · rw [show (Addr.add ⟨w2.heap.size, 0, none⟩ 2) = ⟨w2.heap.size, 2, none⟩ from rfl, hc _ _ (by simp)]; simp [go_sem]
  · rw [hc _ _ (by simp; omega), World.cell?_alloc_lt _ _ _ hz]; exact hq
/-- the name's branch, by whatever name makes of it -/
theorem first_name (s : ByteArray) (k : Nat) (a : Int) (tx : ByteArray) (m e : Int) (w : World) (h1 : 1 ≤ s.size) (h9 : s.size ≤ 140737488351232) (hL : pL ((s[0].toNat : Nat) : Int) = true) (hk : sp pI s.data.toList = k)
    (KN : Hid (∀ W, Calls Tryz.prog 134 #[.string (s.extract 0 k)] W (Bel (.tuple #[.agg #[.int .i64 a, .string tx, .int .i64 0], .int .i64 m, .int .i64 e]) W))) :
    Calls Tryz.prog 110 #[.string s] w (Bel (.tuple #[.agg #[.int .i64 a, .string tx, .int .i64 0], .int .i64 m, .int .i64 e]) w) := by
  have kl := Lib.hid (letter_any ((s[0].toNat : Nat) : Int))
  rw [hL] at kl
  have f2 : (0 : Int) < (s.size : Int) := by omega
  have KA : Hid (∀ W, Calls Tryz.prog 138 #[.string ⟨#[95]⟩] W (fun e w' => e = .returned (.func (.func 165) #[] #[.pointer (some ⟨W.heap.size, 0, none⟩)]) ∧ w'.cell? ⟨W.heap.size, 0, none⟩ = some (.string ⟨#[95]⟩) ∧ W.heap.size < w'.heap.size ∧ Below W.heap.size W w')) := Lib.hid fun W => among_any _ W
  have KE := Lib.hid either_any
  have KS : Hid (∀ q W, Tests W q W.heap.size → Calls Tryz.prog 135 #[.string s, .func (.func 164) #[] #[.pointer (some q)]] W (Bel (.int .i64 k) W)) := Lib.hid fun q W hT => by
    have := span_ei q pI s W (by omega) (Lib.hid fun W' hb c => either_call q c W' (by
      obtain ⟨a, r, t1, t2, t3, t4, t5, t6, t7, t8⟩ := hT
      have hs := hb.size
      exact ⟨a, r, by omega, by omega, by omega, (hb.cell t1).trans t4, (hb.cell t2).trans t5, (hb.cell (by rw [add_block]; exact t2)).trans t6, (hb.cell (by rw [add_block]; exact t2)).trans t7, (hb.cell t3).trans t8⟩))
    rwa [hk] at this
  have hle := sp_le pI s
  rw [hk] at hle
  have f3 : (k : Int) ≤ (s.size : Int) := by omega
  clear hk hL
  go_enter Tryz.func110, Tryz.ntmps110
  go_wp2_with (first
    | (go_at_call 133; refine (kl.out _).mono ?_; rintro e w1 ⟨rfl, hb1⟩)
    | (go_at_call 138; refine (KA.out _).mono ?_; rintro e w2 ⟨rfl, hq2, hz2, hb2⟩)
    | (go_at_call 136; refine (KE.out _ _).mono ?_; rintro e w3 ⟨rfl, hq3, hz3, hb3⟩)
    | (go_at_call 135; refine (KS.out _ _ ?_).mono ?_; (focus (exact tests_mk hq2 hz2 hq3 hb3)); rintro e w4 ⟨rfl, hb4⟩)
    | (go_at_call 134; refine (KN.out _).mono ?_; rintro e w5 ⟨rfl, hb5⟩; obtain ⟨q0, q1, q2, q3, q4, q5, q6⟩ := rest (w := w) (W := w5) (t := 135) (s0 := ⟨#[]⟩) (by repeat (first | (with_reducible exact Below.refl _ _) | (with_reducible assumption) | (with_reducible exact bel_box _) | (with_reducible refine bel_step ?_ (by with_reducible assumption)) | (with_reducible refine Below.drew ?_) | (with_reducible refine below_drewN ?_ _) | (with_reducible refine bel_alloc ?_ _)))))
  obtain ⟨k0, k1, k2⟩ := set3_cells q0 q1 q2 (.int .i64 a) (.string tx) (.int .i64 0)
  refine bodyPost_ret (v := .tuple #[.agg #[.int .i64 a, .string tx, .int .i64 0], .int .i64 m, .int .i64 e]) (by simp [results, Tryz.results110, go_sem, k0, k1, k2]) rfl ?_
  exact ⟨rfl, bel_set3 (by repeat (first | (with_reducible exact Below.refl _ _) | (with_reducible assumption) | (with_reducible exact bel_box _) | (with_reducible refine bel_step ?_ (by with_reducible assumption)) | (with_reducible refine Below.drew ?_) | (with_reducible refine below_drewN ?_ _) | (with_reducible refine bel_alloc ?_ _))) (Nat.le_refl _) _ _ _⟩
theorem first_num (s : ByteArray) (a : Int) (tx : ByteArray) (m e : Int) (w : World) (h1 : 1 ≤ s.size) (h9 : s.size ≤ 140737488351232) (hL : pL ((s[0].toNat : Nat) : Int) = false) (hG : pG ((s[0].toNat : Nat) : Int) = true) (k : Nat) (hk : sp pG s.data.toList = k) (KN : Hid (∀ W, Below w.heap.size w W → Calls Tryz.prog 139 #[.string (s.extract 0 k)] W (Bel (.tuple #[.agg #[.int .i64 a, .string tx, .int .i64 0], .int .i64 m, .int .i64 e]) W))) :
    Calls Tryz.prog 110 #[.string s] w (Bel (.tuple #[.agg #[.int .i64 a, .string tx, .int .i64 0], .int .i64 m, .int .i64 e]) w) := by
  have kl := Lib.hid (letter_any ((s[0].toNat : Nat) : Int))
  rw [hL] at kl
  have kd := Lib.hid (digit_any ((s[0].toNat : Nat) : Int))
  rw [hG] at kd
  have f2 : (0 : Int) < (s.size : Int) := by omega
  have KS : Hid (∀ W, Calls Tryz.prog 135 #[.string s, .func (.func 137) #[] #[]] W (Bel (.int .i64 k) W)) := Lib.hid fun W => by
    have := span_dg pG s W (by omega) (Lib.hid fun W' hb c => digit_any _ W')
    rwa [hk] at this
  have hle := sp_le pG s
  rw [hk] at hle
  have f3 : (k : Int) ≤ (s.size : Int) := by omega
  clear hk
  clear hL hG
  go_enter Tryz.func110, Tryz.ntmps110
  go_wp2_with (first
    | (go_at_call 133; refine (kl.out _).mono ?_; rintro e w1 ⟨rfl, hb1⟩)
    | (go_at_call 137; refine (kd.out _).mono ?_; rintro e w2 ⟨rfl, hb2⟩)
    | (go_at_call 135; refine (KS.out _).mono ?_; rintro e w4 ⟨rfl, hb4⟩)
    | (go_at_call 139; (with_reducible refine (KN.out _ ?_).mono ?_); (focus ((repeat (first | (with_reducible exact Below.refl _ _) | (with_reducible assumption) | (with_reducible exact bel_box _) | (with_reducible refine bel_step ?_ (by with_reducible assumption)) | (with_reducible refine Below.drew ?_) | (with_reducible refine below_drewN ?_ _) | (with_reducible refine bel_alloc ?_ _))); done)); rintro e w5 ⟨rfl, hb5⟩; obtain ⟨q0, q1, q2, q3, q4, q5, q6⟩ := rest (w := w) (W := w5) (t := 135) (s0 := ⟨#[]⟩) (by repeat (first | (with_reducible exact Below.refl _ _) | (with_reducible assumption) | (with_reducible exact bel_box _) | (with_reducible refine bel_step ?_ (by with_reducible assumption)) | (with_reducible refine Below.drew ?_) | (with_reducible refine below_drewN ?_ _) | (with_reducible refine bel_alloc ?_ _)))))
  obtain ⟨k0, k1, k2⟩ := set3_cells q0 q1 q2 (.int .i64 a) (.string tx) (.int .i64 0)
  refine bodyPost_ret (v := .tuple #[.agg #[.int .i64 a, .string tx, .int .i64 0], .int .i64 m, .int .i64 e]) (by simp [results, Tryz.results110, go_sem, k0, k1, k2]) rfl ?_
  exact ⟨rfl, bel_set3 (by repeat (first | (with_reducible exact Below.refl _ _) | (with_reducible assumption) | (with_reducible exact bel_box _) | (with_reducible refine bel_step ?_ (by with_reducible assumption)) | (with_reducible refine Below.drew ?_) | (with_reducible refine below_drewN ?_ _) | (with_reducible refine bel_alloc ?_ _))) (Nat.le_refl _) _ _ _⟩
theorem first_word (s : ByteArray) (a : Int) (tx : ByteArray) (m e : Int) (w : World) (h1 : 1 ≤ s.size) (h9 : s.size ≤ 140737488351232) (hL : pL ((s[0].toNat : Nat) : Int) = false) (hG : pG ((s[0].toNat : Nat) : Int) = false) (hQ : (((s[0].toNat : Nat) : Int) == 39) = true) (KN : Hid (∀ W, Calls Tryz.prog 140 #[.string s] W (Bel (.tuple #[.agg #[.int .i64 a, .string tx, .int .i64 0], .int .i64 m, .int .i64 e]) W))) :
    Calls Tryz.prog 110 #[.string s] w (Bel (.tuple #[.agg #[.int .i64 a, .string tx, .int .i64 0], .int .i64 m, .int .i64 e]) w) := by
  have kl := Lib.hid (letter_any ((s[0].toNat : Nat) : Int))
  rw [hL] at kl
  have kd := Lib.hid (digit_any ((s[0].toNat : Nat) : Int))
  rw [hG] at kd
  have f2 : (0 : Int) < (s.size : Int) := by omega
  clear hL hG
  go_enter Tryz.func110, Tryz.ntmps110
  go_wp2_with (first
    | (go_at_call 133; refine (kl.out _).mono ?_; rintro e w1 ⟨rfl, hb1⟩)
    | (go_at_call 137; refine (kd.out _).mono ?_; rintro e w2 ⟨rfl, hb2⟩)
    | (go_at_call 140; refine (KN.out _).mono ?_; rintro e w5 ⟨rfl, hb5⟩; obtain ⟨q0, q1, q2, q3, q4, q5, q6⟩ := rest (w := w) (W := w5) (t := 135) (s0 := ⟨#[]⟩) (by repeat (first | (with_reducible exact Below.refl _ _) | (with_reducible assumption) | (with_reducible exact bel_box _) | (with_reducible refine bel_step ?_ (by with_reducible assumption)) | (with_reducible refine Below.drew ?_) | (with_reducible refine below_drewN ?_ _) | (with_reducible refine bel_alloc ?_ _)))))
  obtain ⟨k0, k1, k2⟩ := set3_cells q0 q1 q2 (.int .i64 a) (.string tx) (.int .i64 0)
  refine bodyPost_ret (v := .tuple #[.agg #[.int .i64 a, .string tx, .int .i64 0], .int .i64 m, .int .i64 e]) (by simp [results, Tryz.results110, go_sem, k0, k1, k2]) rfl ?_
  exact ⟨rfl, bel_set3 (by repeat (first | (with_reducible exact Below.refl _ _) | (with_reducible assumption) | (with_reducible exact bel_box _) | (with_reducible refine bel_step ?_ (by with_reducible assumption)) | (with_reducible refine Below.drew ?_) | (with_reducible refine below_drewN ?_ _) | (with_reducible refine bel_alloc ?_ _))) (Nat.le_refl _) _ _ _⟩
theorem first_sym (s : ByteArray) (a : Int) (tx : ByteArray) (m e : Int) (w : World) (h1 : 1 ≤ s.size) (h9 : s.size ≤ 140737488351232) (hL : pL ((s[0].toNat : Nat) : Int) = false) (hG : pG ((s[0].toNat : Nat) : Int) = false) (hQ : (((s[0].toNat : Nat) : Int) == 39) = false) (KN : Hid (∀ W, Calls Tryz.prog 141 #[.string s] W (Bel (.tuple #[.agg #[.int .i64 a, .string tx, .int .i64 0], .int .i64 m, .int .i64 e]) W))) :
    Calls Tryz.prog 110 #[.string s] w (Bel (.tuple #[.agg #[.int .i64 a, .string tx, .int .i64 0], .int .i64 m, .int .i64 e]) w) := by
  have kl := Lib.hid (letter_any ((s[0].toNat : Nat) : Int))
  rw [hL] at kl
  have kd := Lib.hid (digit_any ((s[0].toNat : Nat) : Int))
  rw [hG] at kd
  have f2 : (0 : Int) < (s.size : Int) := by omega
  clear hL hG
  go_enter Tryz.func110, Tryz.ntmps110
  go_wp2_with (first
    | (go_at_call 133; refine (kl.out _).mono ?_; rintro e w1 ⟨rfl, hb1⟩)
    | (go_at_call 137; refine (kd.out _).mono ?_; rintro e w2 ⟨rfl, hb2⟩)
    | (go_at_call 141; refine (KN.out _).mono ?_; rintro e w5 ⟨rfl, hb5⟩; obtain ⟨q0, q1, q2, q3, q4, q5, q6⟩ := rest (w := w) (W := w5) (t := 135) (s0 := ⟨#[]⟩) (by repeat (first | (with_reducible exact Below.refl _ _) | (with_reducible assumption) | (with_reducible exact bel_box _) | (with_reducible refine bel_step ?_ (by with_reducible assumption)) | (with_reducible refine Below.drew ?_) | (with_reducible refine below_drewN ?_ _) | (with_reducible refine bel_alloc ?_ _)))))
  obtain ⟨k0, k1, k2⟩ := set3_cells q0 q1 q2 (.int .i64 a) (.string tx) (.int .i64 0)
  refine bodyPost_ret (v := .tuple #[.agg #[.int .i64 a, .string tx, .int .i64 0], .int .i64 m, .int .i64 e]) (by simp [results, Tryz.results110, go_sem, k0, k1, k2]) rfl ?_
  exact ⟨rfl, bel_set3 (by repeat (first | (with_reducible exact Below.refl _ _) | (with_reducible assumption) | (with_reducible exact bel_box _) | (with_reducible refine bel_step ?_ (by with_reducible assumption)) | (with_reducible refine Below.drew ?_) | (with_reducible refine below_drewN ?_ _) | (with_reducible refine bel_alloc ?_ _))) (Nat.le_refl _) _ _ _⟩
end Go.Proofs.YthlapepjebidgaaGreatDoor
/- first, for every text. -/
namespace Go.Proofs.YthlapepjebidgaaGreatDoor
set_option linter.unusedVariables false
set_option linter.unusedSimpArgs false
open Go.RowKit
/-- the token in front: kind, text, how many bytes, error -/
def fst (s : ByteArray) : Int × ByteArray × Nat × Int :=
  if h : 0 < s.size then
    if pL ((s[0].toNat : Nat) : Int) = true then
      if sp pI s.data.toList ≤ 40 then (nmK (s.extract 0 (sp pI s.data.toList)), s.extract 0 (sp pI s.data.toList), sp pI s.data.toList, 0) else (0, ⟨#[]⟩, 0, 3)
    else if pG ((s[0].toNat : Nat) : Int) = true then
      if 2 ≤ sp pG s.data.toList ∧ ((s[0].toNat : Nat) : Int) = 48 then (0, ⟨#[]⟩, 0, 5)
      else if numOk (s.extract 0 (sp pG s.data.toList)).data.toList = true then (2, s.extract 0 (sp pG s.data.toList), sp pG s.data.toList, 0) else (0, ⟨#[]⟩, 0, 14)
    else if (((s[0].toNat : Nat) : Int) == 39) = true then
      if Lib.hasPrefix (s.data.toList.drop (1 + sp pW (s.data.toList.drop 1))) [39] = true then (5, s.extract 1 (1 + sp pW (s.data.toList.drop 1)), 1 + sp pW (s.data.toList.drop 1)+1, 0) else (0, ⟨#[]⟩, 0, 5)
    else if 2 ≤ s.size ∧ isSy (s.extract 0 2) = true then (4, s.extract 0 2, 2, 0)
    else if isSy (s.extract 0 1) = true then (4, s.extract 0 1, 1, 0) else (0, ⟨#[]⟩, 0, 5)
  else (0, ⟨#[]⟩, 0, 0)
def FstR (f : Int × ByteArray × Nat × Int) (a : Int) : Value := .tuple #[tok f.1 f.2.1 a, .int .i64 f.2.2.1, .int .i64 f.2.2.2]
theorem ext_get {s : ByteArray} {k : Nat} (hk : 0 < k) (hs : k ≤ s.size) (h : 0 < (s.extract 0 k).size) (h' : 0 < s.size) : (s.extract 0 k)[0] = s[0] := by
  have e1 := byte_get (s.extract 0 k) 0 h
  have e2 := byte_get s 0 h'
  rw [head_extract, List.getElem?_take_of_lt hk, e2] at e1
  exact (Option.some.inj e1).symm
theorem ext_size (s : ByteArray) (k : Nat) (h : k ≤ s.size) : (s.extract 0 k).size = k := by rw [ByteArray.size_extract]; omega
theorem sp_pos {p : Int → Bool} {s : ByteArray} (h : 0 < s.size) (hp : p ((s[0].toNat : Nat) : Int) = true) : 0 < sp p s.data.toList := by
  have e := byte_get s 0 h
  rcases hl : s.data.toList with _ | ⟨c, r⟩
  · rw [hl] at e; cases e
  · rw [hl] at e
    obtain rfl : c = s[0] := by simpa using e
    rw [sp, List.takeWhile_cons, if_pos hp]
    simp
theorem first_any (s : ByteArray) (w : World) (hstd : Std w) (h : 0 < s.size) (h9 : s.size ≤ 140737488351232) : Calls Tryz.prog 110 #[.string s] w (Bel (FstR (fst s) 0) w) := by
  unfold fst
  rw [dif_pos h]
  have h1 : 1 ≤ s.size := h
  by_cases hL : pL ((s[0].toNat : Nat) : Int) = true
  · rw [if_pos hL]
    have hle := sp_le pI s
    by_cases hk : sp pI s.data.toList ≤ 40
    · rw [if_pos hk]
      refine first_name s _ _ _ _ _ w h1 h9 hL rfl (Lib.hid fun W => ?_)
      have := name_any (s.extract 0 (sp pI s.data.toList)) W (by rw [ext_size _ _ hle]; exact hk)
      rwa [ext_size _ _ hle] at this
    · rw [if_neg hk]
      exact first_name s _ _ _ _ _ w h1 h9 hL rfl (Lib.hid fun W => name_long _ W (by rw [ext_size _ _ hle]; omega) (by rw [ext_size _ _ hle]; omega))
  · rw [if_neg hL]
    rw [Bool.not_eq_true] at hL
    by_cases hG : pG ((s[0].toNat : Nat) : Int) = true
    · rw [if_pos hG]
      have hle := sp_le pG s
      have hp := sp_pos h hG
      have hz := ext_size s _ hle
      have hg : ((s.extract 0 (sp pG s.data.toList))[0]'(by omega)) = s[0] := ext_get hp hle (by omega) h
      by_cases hc : 2 ≤ sp pG s.data.toList ∧ ((s[0].toNat : Nat) : Int) = 48
      · rw [if_pos hc]
        exact first_num s _ _ _ _ w h1 h9 hL hG _ rfl (Lib.hid fun W _ => number_zero _ W (by omega) (by omega) (by rw [hg]; exact hc.2))
      · rw [if_neg hc]
        have kn : ∀ W, Below w.heap.size w W → _ := fun W hb => number_any (s.extract 0 (sp pG s.data.toList)) W (hstd.to hb) (by omega) (by omega) (by rw [hg, hz]; exact hc)
        by_cases hn : numOk (s.extract 0 (sp pG s.data.toList)).data.toList = true
        · rw [if_pos hn]
          refine first_num s _ _ _ _ w h1 h9 hL hG _ rfl (Lib.hid fun W hb => ?_)
          have := kn W hb
          rwa [if_pos hn, hz] at this
        · rw [if_neg hn]
          refine first_num s _ _ _ _ w h1 h9 hL hG _ rfl (Lib.hid fun W hb => ?_)
          have := kn W hb
          rwa [if_neg hn] at this
    · rw [if_neg hG]
      rw [Bool.not_eq_true] at hG
      by_cases hQ : (((s[0].toNat : Nat) : Int) == 39) = true
      · rw [if_pos hQ]
        have kw := fun W => word_any s _ W h9 h1 rfl
        by_cases hp : Lib.hasPrefix (s.data.toList.drop (1 + sp pW (s.data.toList.drop 1))) [39] = true
        · rw [if_pos hp]
          refine first_word s _ _ _ _ w h1 h9 hL hG hQ (Lib.hid fun W => ?_)
          have := kw W
          rwa [if_pos hp] at this
        · rw [if_neg hp]
          refine first_word s _ _ _ _ w h1 h9 hL hG hQ (Lib.hid fun W => ?_)
          have := kw W
          rwa [if_neg hp] at this
      · rw [if_neg hQ]
        rw [Bool.not_eq_true] at hQ
        by_cases h2 : 2 ≤ s.size ∧ isSy (s.extract 0 2) = true
        · rw [if_pos h2]
          exact first_sym s _ _ _ _ w h1 h9 hL hG hQ (Lib.hid fun W => symbol_two s W h2.1 h2.2)
        · rw [if_neg h2]
          by_cases hs : 2 ≤ s.size
          · have hn : isSy (s.extract 0 2) = false := by
              rw [← Bool.not_eq_true]
              exact fun e => h2 ⟨hs, e⟩
            by_cases hy : isSy (s.extract 0 1) = true
            · rw [if_pos hy]
              exact first_sym s _ _ _ _ w h1 h9 hL hG hQ (Lib.hid fun W => symbol_one2 s W hs hn hy)
            · rw [if_neg hy]
              rw [Bool.not_eq_true] at hy
              exact first_sym s _ _ _ _ w h1 h9 hL hG hQ (Lib.hid fun W => symbol_none2 s W hs hn hy)
          · by_cases hy : isSy (s.extract 0 1) = true
            · rw [if_pos hy]
              exact first_sym s _ _ _ _ w h1 h9 hL hG hQ (Lib.hid fun W => symbol_one1 s W (by omega) hy)
            · rw [if_neg hy]
              rw [Bool.not_eq_true] at hy
              exact first_sym s _ _ _ _ w h1 h9 hL hG hQ (Lib.hid fun W => symbol_none1 s W (by omega) hy)
end Go.Proofs.YthlapepjebidgaaGreatDoor
/- Scan of the program. -/
namespace Go.Proofs.YthlapepjebidgaaGreatDoor
set_option linter.unusedVariables false
set_option linter.unusedSimpArgs false
open Go.RowKit
theorem own_keep3 {w W : World} {base n size : Nat} {e : TypeId} {v : Value} {xs : List Value} (h : w.ownsRow base e size v n xs) (hb : Below w.heap.size w W) : W.ownsRow base e size v n xs := by
  refine ⟨h.1, h.2.imp id fun ⟨g, cap, cur, e1, h1, h2, r⟩ => ⟨g, cap, cur, e1, h1, ?_, r⟩⟩
  rw [hb.block g (Array.getElem?_eq_some_iff.1 h2).1]
  exact h2
theorem own_form3 {w : World} {base n size : Nat} {e : TypeId} {v : Value} {xs : List Value} (h : w.ownsRow base e size v n xs) : ∃ A c, v = .slice A n c := by
  rcases h.2 with ⟨rfl, rfl⟩ | ⟨g, cap, cur, rfl, _⟩
  · exact ⟨_, _, rfl⟩
  · exact ⟨_, _, rfl⟩
end Go.Proofs.YthlapepjebidgaaGreatDoor
/- Ident of both. -/
namespace Go.Proofs.YthlapepjebidgaaGreatDoor
set_option linter.unusedVariables false
set_option linter.unusedSimpArgs false
open Go.RowKit
def idP (s : ByteArray) : Bool := decide (0 < s.size) && ((fst s).1 == 1 && ((((fst s).2.2.1 : Nat) : Int) == (s.size : Int)))
theorem empty_of {s : ByteArray} (h : s.size = 0) : s = ⟨#[]⟩ := by
  apply ByteArray.ext
  exact Array.eq_empty_of_size_eq_zero h
theorem ne_facts {s : ByteArray} (h : 0 < s.size) : (s.toList == []) = false ∧ s.toList.isEmpty = false ∧ ¬ s.toList = [] := by
  have hn : s.toList ≠ [] := by
    intro e
    have := congrArg List.length e
    rw [ByteArray.toList_eq, len_toList] at this
    have h2 : s.size = 0 := this
    omega
  exact ⟨by simpa using hn, by simpa using hn, hn⟩
set_option maxHeartbeats 800000 in
theorem ident_any (s : ByteArray) (w : World) (hstd : Std w) (h9 : s.size ≤ 140737488351232) : Calls Tryz.prog 75 #[.string s] w (Bel (.bool (idP s)) w) := by
  by_cases h0 : 0 < s.size
  · obtain ⟨e1, e2, e3⟩ := ne_facts h0
    have F1 := Lib.hid (first_any s w hstd h0 h9)
    have e : idP s = ((fst s).1 == 1 && ((((fst s).2.2.1 : Nat) : Int) == (s.size : Int))) := by rw [idP, decide_eq_true h0, Bool.true_and]
    rw [e]
    clear e
    obtain ⟨⟨a, tx, n, er⟩, hf⟩ : ∃ f, fst s = f := ⟨_, rfl⟩
    rw [hf] at F1 ⊢
    have F2 : Hid (Calls Tryz.prog 110 #[.string s] w (Bel (.tuple #[.agg #[.int .i64 a, .string tx, .int .i64 0], .int .i64 n, .int .i64 er]) w)) := F1
    show Calls _ _ _ _ (Bel (.bool (a == 1 && ((n : Int) == (s.size : Int)))) w)
    clear F1 hf h0 hstd h9
    cases ha : (a == 1)
    · rw [Bool.false_and]
      go_enter Tryz.func75, Tryz.ntmps75
      go_wp2_with (go_at_call 110; refine F2.out.mono ?_; rintro e w1 ⟨rfl, hb1⟩)
      go_ret
      exact ⟨rfl, (by repeat (first | (with_reducible exact Below.refl _ _) | (with_reducible assumption) | (with_reducible exact bel_box _) | (with_reducible refine bel_step ?_ (by with_reducible assumption)) | (with_reducible refine Below.drew ?_) | (with_reducible refine below_drewN ?_ _) | (with_reducible refine bel_alloc ?_ _)))⟩
    · rw [Bool.true_and]
      go_enter Tryz.func75, Tryz.ntmps75
      go_wp2_with (go_at_call 110; refine F2.out.mono ?_; rintro e w1 ⟨rfl, hb1⟩)
      go_ret
      exact ⟨rfl, (by repeat (first | (with_reducible exact Below.refl _ _) | (with_reducible assumption) | (with_reducible exact bel_box _) | (with_reducible refine bel_step ?_ (by with_reducible assumption)) | (with_reducible refine Below.drew ?_) | (with_reducible refine below_drewN ?_ _) | (with_reducible refine bel_alloc ?_ _)))⟩
  · obtain rfl := empty_of (by omega : s.size = 0)
    rw [idP, decide_eq_false h0, Bool.false_and]
    clear hstd h9 h0
    go_enter Tryz.func75, Tryz.ntmps75
    go_wp2
    go_ret
    exact ⟨rfl, (by repeat (first | (with_reducible exact Below.refl _ _) | (with_reducible assumption) | (with_reducible exact bel_box _) | (with_reducible refine bel_step ?_ (by with_reducible assumption)) | (with_reducible refine Below.drew ?_) | (with_reducible refine below_drewN ?_ _) | (with_reducible refine bel_alloc ?_ _)))⟩
end Go.Proofs.YthlapepjebidgaaGreatDoor
/- What the chapter says of the form of a program: plain functions. -/
namespace Go.Proofs.YthlapepjebidgaaGreatDoor
set_option linter.unusedVariables false
set_option linter.unusedSimpArgs false
open Go.RowKit
/-- the first that is not 0 -/
def errs (l : List Int) : Int := (l.find? (· != 0)).getD 0
def orE (a b : Int) : Int := if a = 0 then b else a
theorem errs_nil : errs [] = 0 := rfl
theorem errs_cons (a : Int) (l : List Int) : errs (a :: l) = orE a (errs l) := by
  unfold errs orE
  by_cases h : a = 0
  · simp [h]
  · simp [h]
/-- what remains to be seen behind k elements -/
theorem errs_steps {α : Type} (l : List α) (f : α → Int) : ∃ E : Nat → Int, E 0 = errs (l.map f) ∧ E l.length = 0 ∧ Hid (∀ (k : Nat) (y : α), l[k]? = some y → E k = orE (f y) (E (k+1))) := by
  refine ⟨fun k => errs ((l.drop k).map f), by simp, by simp [errs_nil], Lib.hid fun k y hy => ?_⟩
  obtain ⟨hk, rfl⟩ := List.getElem?_eq_some_iff.1 hy
  show errs ((l.drop k).map f) = _
  rw [List.drop_eq_getElem_cons hk, List.map_cons, errs_cons]
theorem errs_zero {l : List Int} : errs l = 0 ↔ ∀ x ∈ l, x = 0 := by
  induction l with
  | nil => simp [errs_nil]
  | cons a l ih =>
    rw [errs_cons]
    unfold orE
    by_cases h : a = 0
    · simp [h, ih]
    · simp [h]
def idE (s : ByteArray) : Int := if idP s = true then 0 else 6
def enumE (e : va.En) : Int := if idP e.name = true then (if e.tags.length = 0 then 8 else if 16 < e.tags.length then 3 else errs (e.tags.map idE)) else 6
def onE (es : List va.En) (o : Ot) : Int := if idP o.nm = true then (if o.t = 2 ∨ va.hasB es o.t o.tag = false then 5 else 0) else 6
def dclE (es : List va.En) (d : Dt) : Int := if idP d.nm = true then (if va.valB es d.ty = true then 0 else 10) else 6
def portE (es : List va.En) (d : Dt) : Int := orE (dclE es d) (if 0 < d.ck.l.length then 11 else 0)
def locE (es : List va.En) (d : Dt) : Int := orE (dclE es d) (if 4 < d.ck.l.length then 3 else errs (d.ck.l.map (onE es)))
/-- an expression itself, over the enumerations -/
def typE (es : List va.En) (x : Xt) : Int :=
  if x.k = 1 ∨ x.k = 8 ∨ x.k = 9 then
    (if va.sizeT es x.t = 0 then 10 else if x.k = 9 ∧ (x.ar.length : Int) ≠ va.sizeT es x.t then 9 else if x.k ≠ 9 ∧ va.hasB es x.t x.v = false then 14 else 0)
  else 0
def insE (es : List va.En) (x : Xt) : Int := orE (typE es x) (errs (x.ar.attach.map fun a => insE es a.1))
termination_by SizeOf.sizeOf x
decreasing_by exact Xt.lt_of_mem a.2
theorem insE_eq (es : List va.En) (x : Xt) : insE es x = orE (typE es x) (errs (x.ar.map (insE es))) := by
  rw [insE]
  congr 2
  simp
end Go.Proofs.YthlapepjebidgaaGreatDoor
/- first of the program. -/
namespace Go.Proofs.YthlapepjebidgaaGreatDoor
set_option linter.unusedVariables false
set_option linter.unusedSimpArgs false
open Go.RowKit
set_option maxHeartbeats 1000000 in
set_option maxRecDepth 20000 in
theorem first_Decl_port (b0 : Value) (r : Rw (Dt)) (err : Dt → Int) (w : World) (hR : RdR w w.heap.size 3 DC r)
    (K : Hid (∀ y ∈ r.l, ∀ W, Below w.heap.size w W → Calls Tryz.prog 112 #[b0, dV y] W (Bel (.int .i64 (err y)) W))) :
    Calls Tryz.prog 111 #[.slice r.A r.l.length r.c, .func (.func 112) #[b0] #[]] w (Bel (.int .i64 (errs (r.l.map err))) w) := by
  have h9 := hR.len
  unfold maxLen at h9
  have HR := Lib.hid hR
  obtain ⟨E, hE0, hEl, HE⟩ := errs_steps r.l err
  rw [← hE0]
  obtain ⟨V, hV⟩ : ∃ V, E 0 = V := ⟨_, rfl⟩
  have HV := Lib.hid hV
  have HL := Lib.hid hEl
  rw [hV]
  clear hR hE0 hEl hV
  skip
  go_enter Tryz.func111, Tryz.ntmps111
  go_wp2
  go_loopw [10] (fun i wr => ∃ k : Nat, k ≤ r.l.length ∧ i = .int .i64 (k : Int) ∧ Hid (E k = V) ∧ Below w.heap.size w wr) (fun i _ => r.l.length - (intOf i).toNat)
  case atStart => exact ⟨0, by omega, rfl, HV, Below.refl _ _⟩
  case round =>
    obtain ⟨k, hk, rfl, hE, hbl⟩ := hrel
    by_cases hlt : k < r.l.length
    · obtain ⟨ad, y, hA, had, hy, hm, ⟨c0, c1, c2⟩⟩ := (HR.out.blw oneB_D hbl hbl.size).at_ hlt
      rw [hA]
      clear hA
      have hs := HE.out k y hy
      have KY := Lib.hid (K.out y hm)
      clear hy hm HE
      generalize err y = v at *
      by_cases hv : v = 0
      · subst hv
        have hn : Hid (E (k+1) = V) := Lib.hid (by rw [← hE.out, hs]; rfl)
        clear hs hE
        go_wp2_with (go_at_call 112; (with_reducible refine (KY.out _ ?_).mono ?_); (focus ((repeat (first | (with_reducible exact Below.refl _ _) | (with_reducible assumption) | (with_reducible exact bel_box _) | (with_reducible refine bel_step ?_ (by with_reducible assumption)) | (with_reducible refine Below.drew ?_) | (with_reducible refine below_drewN ?_ _) | (with_reducible refine bel_alloc ?_ _))); done)); rintro e w1 ⟨rfl, hb1⟩)
        exact ⟨⟨k+1, by omega, by congr 1, hn, (by repeat (first | (with_reducible exact Below.refl _ _) | (with_reducible assumption) | (with_reducible exact bel_box _) | (with_reducible refine bel_step ?_ (by with_reducible assumption)) | (with_reducible refine Below.drew ?_) | (with_reducible refine below_drewN ?_ _) | (with_reducible refine bel_alloc ?_ _)))⟩, by simp [intOf]; omega⟩
      · have hv2 : v = V := by rw [← hE.out, hs, orE, if_neg hv]
        have e0 : (v == 0) = false := by simp [hv]
        clear hs hE hv
        go_wp2_with (go_at_call 112; (with_reducible refine (KY.out _ ?_).mono ?_); (focus ((repeat (first | (with_reducible exact Below.refl _ _) | (with_reducible assumption) | (with_reducible exact bel_box _) | (with_reducible refine bel_step ?_ (by with_reducible assumption)) | (with_reducible refine Below.drew ?_) | (with_reducible refine below_drewN ?_ _) | (with_reducible refine bel_alloc ?_ _))); done)); rintro e w1 ⟨rfl, hb1⟩)
        go_ret
        exact ⟨(by first | rfl | exact congrArg (fun z : Int => Ending.returned (.int .i64 z)) hv2), (by repeat (first | (with_reducible exact Below.refl _ _) | (with_reducible assumption) | (with_reducible exact bel_box _) | (with_reducible refine bel_step ?_ (by with_reducible assumption)) | (with_reducible refine Below.drew ?_) | (with_reducible refine below_drewN ?_ _) | (with_reducible refine bel_alloc ?_ _)))⟩
    · obtain rfl : k = r.l.length := by omega
      have hv2 : 0 = V := HL.out.symm.trans hE.out
      clear hE HE HV HL
      go_wp2
      go_ret
      exact ⟨(by first | rfl | exact congrArg (fun z : Int => Ending.returned (.int .i64 z)) hv2), hbl⟩
end Go.Proofs.YthlapepjebidgaaGreatDoor
/- first of the program, further. -/
namespace Go.Proofs.YthlapepjebidgaaGreatDoor
set_option linter.unusedVariables false
set_option linter.unusedSimpArgs false
open Go.RowKit
set_option maxHeartbeats 1000000 in
set_option maxRecDepth 20000 in
theorem first_Decl_local (b0 : Value) (r : Rw (Dt)) (err : Dt → Int) (w : World) (hR : RdR w w.heap.size 3 DC r)
    (K : Hid (∀ y ∈ r.l, ∀ W, Below w.heap.size w W → Calls Tryz.prog 113 #[b0, dV y] W (Bel (.int .i64 (err y)) W))) :
    Calls Tryz.prog 111 #[.slice r.A r.l.length r.c, .func (.func 113) #[b0] #[]] w (Bel (.int .i64 (errs (r.l.map err))) w) := by
  have h9 := hR.len
  unfold maxLen at h9
  have HR := Lib.hid hR
  obtain ⟨E, hE0, hEl, HE⟩ := errs_steps r.l err
  rw [← hE0]
  obtain ⟨V, hV⟩ : ∃ V, E 0 = V := ⟨_, rfl⟩
  have HV := Lib.hid hV
  have HL := Lib.hid hEl
  rw [hV]
  clear hR hE0 hEl hV
  skip
  go_enter Tryz.func111, Tryz.ntmps111
  go_wp2
  go_loopw [10] (fun i wr => ∃ k : Nat, k ≤ r.l.length ∧ i = .int .i64 (k : Int) ∧ Hid (E k = V) ∧ Below w.heap.size w wr) (fun i _ => r.l.length - (intOf i).toNat)
  case atStart => exact ⟨0, by omega, rfl, HV, Below.refl _ _⟩
  case round =>
    obtain ⟨k, hk, rfl, hE, hbl⟩ := hrel
    by_cases hlt : k < r.l.length
    · obtain ⟨ad, y, hA, had, hy, hm, ⟨c0, c1, c2⟩⟩ := (HR.out.blw oneB_D hbl hbl.size).at_ hlt
      rw [hA]
      clear hA
      have hs := HE.out k y hy
      have KY := Lib.hid (K.out y hm)
      clear hy hm HE
      generalize err y = v at *
      by_cases hv : v = 0
      · subst hv
        have hn : Hid (E (k+1) = V) := Lib.hid (by rw [← hE.out, hs]; rfl)
        clear hs hE
        go_wp2_with (go_at_call 113; (with_reducible refine (KY.out _ ?_).mono ?_); (focus ((repeat (first | (with_reducible exact Below.refl _ _) | (with_reducible assumption) | (with_reducible exact bel_box _) | (with_reducible refine bel_step ?_ (by with_reducible assumption)) | (with_reducible refine Below.drew ?_) | (with_reducible refine below_drewN ?_ _) | (with_reducible refine bel_alloc ?_ _))); done)); rintro e w1 ⟨rfl, hb1⟩)
        exact ⟨⟨k+1, by omega, by congr 1, hn, (by repeat (first | (with_reducible exact Below.refl _ _) | (with_reducible assumption) | (with_reducible exact bel_box _) | (with_reducible refine bel_step ?_ (by with_reducible assumption)) | (with_reducible refine Below.drew ?_) | (with_reducible refine below_drewN ?_ _) | (with_reducible refine bel_alloc ?_ _)))⟩, by simp [intOf]; omega⟩
      · have hv2 : v = V := by rw [← hE.out, hs, orE, if_neg hv]
        have e0 : (v == 0) = false := by simp [hv]
        clear hs hE hv
        go_wp2_with (go_at_call 113; (with_reducible refine (KY.out _ ?_).mono ?_); (focus ((repeat (first | (with_reducible exact Below.refl _ _) | (with_reducible assumption) | (with_reducible exact bel_box _) | (with_reducible refine bel_step ?_ (by with_reducible assumption)) | (with_reducible refine Below.drew ?_) | (with_reducible refine below_drewN ?_ _) | (with_reducible refine bel_alloc ?_ _))); done)); rintro e w1 ⟨rfl, hb1⟩)
        go_ret
        exact ⟨(by first | rfl | exact congrArg (fun z : Int => Ending.returned (.int .i64 z)) hv2), (by repeat (first | (with_reducible exact Below.refl _ _) | (with_reducible assumption) | (with_reducible exact bel_box _) | (with_reducible refine bel_step ?_ (by with_reducible assumption)) | (with_reducible refine Below.drew ?_) | (with_reducible refine below_drewN ?_ _) | (with_reducible refine bel_alloc ?_ _)))⟩
    · obtain rfl : k = r.l.length := by omega
      have hv2 : 0 = V := HL.out.symm.trans hE.out
      clear hE HE HV HL
      go_wp2
      go_ret
      exact ⟨(by first | rfl | exact congrArg (fun z : Int => Ending.returned (.int .i64 z)) hv2), hbl⟩
set_option maxHeartbeats 1000000 in
set_option maxRecDepth 20000 in
theorem first_Enum_checkEnum  (A : Option Addr) (c : Nat) (l : List va.En) (err : va.En → Int) (w : World) (hR : va.RdE w w.heap.size A l) (h9 : l.length ≤ 9223372036854775807)
    (K : Hid (∀ y ∈ l, ∀ W, Below w.heap.size w W → Calls Tryz.prog 44 #[.agg #[.string y.name, .slice y.A y.tags.length y.c]] W (Bel (.int .i64 (err y)) W))) :
    Calls Tryz.prog 43 #[.slice A l.length c, .func (.func 44) #[] #[]] w (Bel (.int .i64 (errs (l.map err))) w) := by
  have HR := Lib.hid hR
  obtain ⟨E, hE0, hEl, HE⟩ := errs_steps l err
  rw [← hE0]
  obtain ⟨V, hV⟩ : ∃ V, E 0 = V := ⟨_, rfl⟩
  have HV := Lib.hid hV
  have HL := Lib.hid hEl
  rw [hV]
  clear hR hE0 hEl hV
  skip
  go_enter Tryz.func43, Tryz.ntmps43
  go_wp2
  go_loopw [10] (fun i wr => ∃ k : Nat, k ≤ l.length ∧ i = .int .i64 (k : Int) ∧ Hid (E k = V) ∧ Below w.heap.size w wr) (fun i _ => l.length - (intOf i).toNat)
  case atStart => exact ⟨0, by omega, rfl, HV, Below.refl _ _⟩
  case round =>
    obtain ⟨k, hk, rfl, hE, hbl⟩ := hrel
    by_cases hlt : k < l.length
    · obtain ⟨ad, y, hA, had, hy, c0, c1, _⟩ := (HR.out.to hbl).at_ hlt
      have hm := List.mem_of_getElem? hy
      rw [hA]
      clear hA
      have hs := HE.out k y hy
      have KY := Lib.hid (K.out y hm)
      clear hy hm HE
      generalize err y = v at *
      by_cases hv : v = 0
      · subst hv
        have hn : Hid (E (k+1) = V) := Lib.hid (by rw [← hE.out, hs]; rfl)
        clear hs hE
        go_wp2_with (go_at_call 44; (with_reducible refine (KY.out _ ?_).mono ?_); (focus ((repeat (first | (with_reducible exact Below.refl _ _) | (with_reducible assumption) | (with_reducible exact bel_box _) | (with_reducible refine bel_step ?_ (by with_reducible assumption)) | (with_reducible refine Below.drew ?_) | (with_reducible refine below_drewN ?_ _) | (with_reducible refine bel_alloc ?_ _))); done)); rintro e w1 ⟨rfl, hb1⟩)
        exact ⟨⟨k+1, by omega, by congr 1, hn, (by repeat (first | (with_reducible exact Below.refl _ _) | (with_reducible assumption) | (with_reducible exact bel_box _) | (with_reducible refine bel_step ?_ (by with_reducible assumption)) | (with_reducible refine Below.drew ?_) | (with_reducible refine below_drewN ?_ _) | (with_reducible refine bel_alloc ?_ _)))⟩, by simp [intOf]; omega⟩
      · have hv2 : v = V := by rw [← hE.out, hs, orE, if_neg hv]
        have e0 : (v == 0) = false := by simp [hv]
        clear hs hE hv
        go_wp2_with (go_at_call 44; (with_reducible refine (KY.out _ ?_).mono ?_); (focus ((repeat (first | (with_reducible exact Below.refl _ _) | (with_reducible assumption) | (with_reducible exact bel_box _) | (with_reducible refine bel_step ?_ (by with_reducible assumption)) | (with_reducible refine Below.drew ?_) | (with_reducible refine below_drewN ?_ _) | (with_reducible refine bel_alloc ?_ _))); done)); rintro e w1 ⟨rfl, hb1⟩)
        go_ret
        exact ⟨(by first | rfl | exact congrArg (fun z : Int => Ending.returned (.int .i64 z)) hv2), (by repeat (first | (with_reducible exact Below.refl _ _) | (with_reducible assumption) | (with_reducible exact bel_box _) | (with_reducible refine bel_step ?_ (by with_reducible assumption)) | (with_reducible refine Below.drew ?_) | (with_reducible refine below_drewN ?_ _) | (with_reducible refine bel_alloc ?_ _)))⟩
    · obtain rfl : k = l.length := by omega
      have hv2 : 0 = V := HL.out.symm.trans hE.out
      clear hE HE HV HL
      go_wp2
      go_ret
      exact ⟨(by first | rfl | exact congrArg (fun z : Int => Ending.returned (.int .i64 z)) hv2), hbl⟩
set_option maxHeartbeats 1000000 in
set_option maxRecDepth 20000 in
theorem first_string_checkIdent  (r : Rw (ByteArray)) (err : ByteArray → Int) (w : World) (hR : RdR w w.heap.size 1 BC r)
    (K : Hid (∀ y ∈ r.l, ∀ W, Below w.heap.size w W → Calls Tryz.prog 77 #[.string y] W (Bel (.int .i64 (err y)) W))) :
    Calls Tryz.prog 76 #[.slice r.A r.l.length r.c, .func (.func 77) #[] #[]] w (Bel (.int .i64 (errs (r.l.map err))) w) := by
  have h9 := hR.len
  unfold maxLen at h9
  have HR := Lib.hid hR
  obtain ⟨E, hE0, hEl, HE⟩ := errs_steps r.l err
  rw [← hE0]
  obtain ⟨V, hV⟩ : ∃ V, E 0 = V := ⟨_, rfl⟩
  have HV := Lib.hid hV
  have HL := Lib.hid hEl
  rw [hV]
  clear hR hE0 hEl hV
  skip
  go_enter Tryz.func76, Tryz.ntmps76
  go_wp2
  go_loopw [10] (fun i wr => ∃ k : Nat, k ≤ r.l.length ∧ i = .int .i64 (k : Int) ∧ Hid (E k = V) ∧ Below w.heap.size w wr) (fun i _ => r.l.length - (intOf i).toNat)
  case atStart => exact ⟨0, by omega, rfl, HV, Below.refl _ _⟩
  case round =>
    obtain ⟨k, hk, rfl, hE, hbl⟩ := hrel
    by_cases hlt : k < r.l.length
    · obtain ⟨ad, y, hA, had, hy, hm, c0⟩ := (HR.out.blw oneB_B hbl hbl.size).at_ hlt
      unfold BC at c0
      rw [Nat.mul_one] at c0
      rw [hA]
      clear hA
      have hs := HE.out k y hy
      have KY := Lib.hid (K.out y hm)
      clear hy hm HE
      generalize err y = v at *
      by_cases hv : v = 0
      · subst hv
        have hn : Hid (E (k+1) = V) := Lib.hid (by rw [← hE.out, hs]; rfl)
        clear hs hE
        go_wp2_with (go_at_call 77; (with_reducible refine (KY.out _ ?_).mono ?_); (focus ((repeat (first | (with_reducible exact Below.refl _ _) | (with_reducible assumption) | (with_reducible exact bel_box _) | (with_reducible refine bel_step ?_ (by with_reducible assumption)) | (with_reducible refine Below.drew ?_) | (with_reducible refine below_drewN ?_ _) | (with_reducible refine bel_alloc ?_ _))); done)); rintro e w1 ⟨rfl, hb1⟩)
        exact ⟨⟨k+1, by omega, by congr 1, hn, (by repeat (first | (with_reducible exact Below.refl _ _) | (with_reducible assumption) | (with_reducible exact bel_box _) | (with_reducible refine bel_step ?_ (by with_reducible assumption)) | (with_reducible refine Below.drew ?_) | (with_reducible refine below_drewN ?_ _) | (with_reducible refine bel_alloc ?_ _)))⟩, by simp [intOf]; omega⟩
      · have hv2 : v = V := by rw [← hE.out, hs, orE, if_neg hv]
        have e0 : (v == 0) = false := by simp [hv]
        clear hs hE hv
        go_wp2_with (go_at_call 77; (with_reducible refine (KY.out _ ?_).mono ?_); (focus ((repeat (first | (with_reducible exact Below.refl _ _) | (with_reducible assumption) | (with_reducible exact bel_box _) | (with_reducible refine bel_step ?_ (by with_reducible assumption)) | (with_reducible refine Below.drew ?_) | (with_reducible refine below_drewN ?_ _) | (with_reducible refine bel_alloc ?_ _))); done)); rintro e w1 ⟨rfl, hb1⟩)
        go_ret
        exact ⟨(by first | rfl | exact congrArg (fun z : Int => Ending.returned (.int .i64 z)) hv2), (by repeat (first | (with_reducible exact Below.refl _ _) | (with_reducible assumption) | (with_reducible exact bel_box _) | (with_reducible refine bel_step ?_ (by with_reducible assumption)) | (with_reducible refine Below.drew ?_) | (with_reducible refine below_drewN ?_ _) | (with_reducible refine bel_alloc ?_ _)))⟩
    · obtain rfl : k = r.l.length := by omega
      have hv2 : 0 = V := HL.out.symm.trans hE.out
      clear hE HE HV HL
      go_wp2
      go_ret
      exact ⟨(by first | rfl | exact congrArg (fun z : Int => Ending.returned (.int .i64 z)) hv2), hbl⟩
set_option maxHeartbeats 1000000 in
set_option maxRecDepth 20000 in
theorem first_On_sampling (b0 : Value) (r : Rw (Ot)) (err : Ot → Int) (w : World) (hR : RdR w w.heap.size 3 OC r)
    (K : Hid (∀ y ∈ r.l, ∀ W, Below w.heap.size w W → Calls Tryz.prog 144 #[b0, oV y] W (Bel (.int .i64 (err y)) W))) :
    Calls Tryz.prog 143 #[.slice r.A r.l.length r.c, .func (.func 144) #[b0] #[]] w (Bel (.int .i64 (errs (r.l.map err))) w) := by
  have h9 := hR.len
  unfold maxLen at h9
  have HR := Lib.hid hR
  obtain ⟨E, hE0, hEl, HE⟩ := errs_steps r.l err
  rw [← hE0]
  obtain ⟨V, hV⟩ : ∃ V, E 0 = V := ⟨_, rfl⟩
  have HV := Lib.hid hV
  have HL := Lib.hid hEl
  rw [hV]
  clear hR hE0 hEl hV
  skip
  go_enter Tryz.func143, Tryz.ntmps143
  go_wp2
  go_loopw [10] (fun i wr => ∃ k : Nat, k ≤ r.l.length ∧ i = .int .i64 (k : Int) ∧ Hid (E k = V) ∧ Below w.heap.size w wr) (fun i _ => r.l.length - (intOf i).toNat)
  case atStart => exact ⟨0, by omega, rfl, HV, Below.refl _ _⟩
  case round =>
    obtain ⟨k, hk, rfl, hE, hbl⟩ := hrel
    by_cases hlt : k < r.l.length
    · obtain ⟨ad, y, hA, had, hy, hm, ⟨c0, c1, c2⟩⟩ := (HR.out.blw oneB_O hbl hbl.size).at_ hlt
      rw [hA]
      clear hA
      have hs := HE.out k y hy
      have KY := Lib.hid (K.out y hm)
      clear hy hm HE
      generalize err y = v at *
      by_cases hv : v = 0
      · subst hv
        have hn : Hid (E (k+1) = V) := Lib.hid (by rw [← hE.out, hs]; rfl)
        clear hs hE
        go_wp2_with (go_at_call 144; (with_reducible refine (KY.out _ ?_).mono ?_); (focus ((repeat (first | (with_reducible exact Below.refl _ _) | (with_reducible assumption) | (with_reducible exact bel_box _) | (with_reducible refine bel_step ?_ (by with_reducible assumption)) | (with_reducible refine Below.drew ?_) | (with_reducible refine below_drewN ?_ _) | (with_reducible refine bel_alloc ?_ _))); done)); rintro e w1 ⟨rfl, hb1⟩)
        exact ⟨⟨k+1, by omega, by congr 1, hn, (by repeat (first | (with_reducible exact Below.refl _ _) | (with_reducible assumption) | (with_reducible exact bel_box _) | (with_reducible refine bel_step ?_ (by with_reducible assumption)) | (with_reducible refine Below.drew ?_) | (with_reducible refine below_drewN ?_ _) | (with_reducible refine bel_alloc ?_ _)))⟩, by simp [intOf]; omega⟩
      · have hv2 : v = V := by rw [← hE.out, hs, orE, if_neg hv]
        have e0 : (v == 0) = false := by simp [hv]
        clear hs hE hv
        go_wp2_with (go_at_call 144; (with_reducible refine (KY.out _ ?_).mono ?_); (focus ((repeat (first | (with_reducible exact Below.refl _ _) | (with_reducible assumption) | (with_reducible exact bel_box _) | (with_reducible refine bel_step ?_ (by with_reducible assumption)) | (with_reducible refine Below.drew ?_) | (with_reducible refine below_drewN ?_ _) | (with_reducible refine bel_alloc ?_ _))); done)); rintro e w1 ⟨rfl, hb1⟩)
        go_ret
        exact ⟨(by first | rfl | exact congrArg (fun z : Int => Ending.returned (.int .i64 z)) hv2), (by repeat (first | (with_reducible exact Below.refl _ _) | (with_reducible assumption) | (with_reducible exact bel_box _) | (with_reducible refine bel_step ?_ (by with_reducible assumption)) | (with_reducible refine Below.drew ?_) | (with_reducible refine below_drewN ?_ _) | (with_reducible refine bel_alloc ?_ _)))⟩
    · obtain rfl : k = r.l.length := by omega
      have hv2 : 0 = V := HL.out.symm.trans hE.out
      clear hE HE HV HL
      go_wp2
      go_ret
      exact ⟨(by first | rfl | exact congrArg (fun z : Int => Ending.returned (.int .i64 z)) hv2), hbl⟩
set_option maxHeartbeats 1000000 in
set_option maxRecDepth 20000 in
theorem first_Auto_automaton1 (f0 : Value) (f1 : Value) (r : Rw (Rw St)) (err : Rw St → Int) (w : World) (hR : RdR w w.heap.size 1 AC r)
    (K : Hid (∀ y ∈ r.l, ∀ W, Below w.heap.size w W → Calls Tryz.prog 114 #[aV y, f0, f1] W (Bel (.int .i64 (err y)) W))) :
    Calls Tryz.prog 80 #[.slice r.A r.l.length r.c, .func (.func 114) #[] #[f0, f1]] w (Bel (.int .i64 (errs (r.l.map err))) w) := by
  have h9 := hR.len
  unfold maxLen at h9
  have HR := Lib.hid hR
  obtain ⟨E, hE0, hEl, HE⟩ := errs_steps r.l err
  rw [← hE0]
  obtain ⟨V, hV⟩ : ∃ V, E 0 = V := ⟨_, rfl⟩
  have HV := Lib.hid hV
  have HL := Lib.hid hEl
  rw [hV]
  clear hR hE0 hEl hV
  skip
  go_enter Tryz.func80, Tryz.ntmps80
  go_wp2
  go_loopw [10] (fun i wr => ∃ k : Nat, k ≤ r.l.length ∧ i = .int .i64 (k : Int) ∧ Hid (E k = V) ∧ Below w.heap.size w wr) (fun i _ => r.l.length - (intOf i).toNat)
  case atStart => exact ⟨0, by omega, rfl, HV, Below.refl _ _⟩
  case round =>
    obtain ⟨k, hk, rfl, hE, hbl⟩ := hrel
    by_cases hlt : k < r.l.length
    · obtain ⟨ad, y, hA, had, hy, hm, c0⟩ := (HR.out.blw oneB_A hbl hbl.size).at_ hlt
      unfold AC at c0
      rw [Nat.mul_one] at c0
      rw [hA]
      clear hA
      have hs := HE.out k y hy
      have KY := Lib.hid (K.out y hm)
      clear hy hm HE
      generalize err y = v at *
      by_cases hv : v = 0
      · subst hv
        have hn : Hid (E (k+1) = V) := Lib.hid (by rw [← hE.out, hs]; rfl)
        clear hs hE
        go_wp2_with (go_at_call 114; (with_reducible refine (KY.out _ ?_).mono ?_); (focus ((repeat (first | (with_reducible exact Below.refl _ _) | (with_reducible assumption) | (with_reducible exact bel_box _) | (with_reducible refine bel_step ?_ (by with_reducible assumption)) | (with_reducible refine Below.drew ?_) | (with_reducible refine below_drewN ?_ _) | (with_reducible refine bel_alloc ?_ _))); done)); rintro e w1 ⟨rfl, hb1⟩)
        exact ⟨⟨k+1, by omega, by congr 1, hn, (by repeat (first | (with_reducible exact Below.refl _ _) | (with_reducible assumption) | (with_reducible exact bel_box _) | (with_reducible refine bel_step ?_ (by with_reducible assumption)) | (with_reducible refine Below.drew ?_) | (with_reducible refine below_drewN ?_ _) | (with_reducible refine bel_alloc ?_ _)))⟩, by simp [intOf]; omega⟩
      · have hv2 : v = V := by rw [← hE.out, hs, orE, if_neg hv]
        have e0 : (v == 0) = false := by simp [hv]
        clear hs hE hv
        go_wp2_with (go_at_call 114; (with_reducible refine (KY.out _ ?_).mono ?_); (focus ((repeat (first | (with_reducible exact Below.refl _ _) | (with_reducible assumption) | (with_reducible exact bel_box _) | (with_reducible refine bel_step ?_ (by with_reducible assumption)) | (with_reducible refine Below.drew ?_) | (with_reducible refine below_drewN ?_ _) | (with_reducible refine bel_alloc ?_ _))); done)); rintro e w1 ⟨rfl, hb1⟩)
        go_ret
        exact ⟨(by first | rfl | exact congrArg (fun z : Int => Ending.returned (.int .i64 z)) hv2), (by repeat (first | (with_reducible exact Below.refl _ _) | (with_reducible assumption) | (with_reducible exact bel_box _) | (with_reducible refine bel_step ?_ (by with_reducible assumption)) | (with_reducible refine Below.drew ?_) | (with_reducible refine below_drewN ?_ _) | (with_reducible refine bel_alloc ?_ _)))⟩
    · obtain rfl : k = r.l.length := by omega
      have hv2 : 0 = V := HL.out.symm.trans hE.out
      clear hE HE HV HL
      go_wp2
      go_ret
      exact ⟨(by first | rfl | exact congrArg (fun z : Int => Ending.returned (.int .i64 z)) hv2), hbl⟩
end Go.Proofs.YthlapepjebidgaaGreatDoor
/- The boxes of struct parameters, in any later world. -/
namespace Go.Proofs.YthlapepjebidgaaGreatDoor
set_option linter.unusedVariables false
set_option linter.unusedSimpArgs false
open Go.RowKit
theorem B2D {w W : World} (E : Rw va.En) (d : Dt) (h : Below ((w.alloc (.cells #[.slice E.A E.l.length E.c] 75)).alloc (.cells #[.string d.nm, .int .i64 d.ty, .slice d.ck.A d.ck.l.length d.ck.c] 98)).heap.size ((w.alloc (.cells #[.slice E.A E.l.length E.c] 75)).alloc (.cells #[.string d.nm, .int .i64 d.ty, .slice d.ck.A d.ck.l.length d.ck.c] 98)) W) :
    W.cell? ⟨w.heap.size, 0, none⟩ = some (.slice E.A E.l.length E.c) ∧ W.cell? ⟨w.heap.size+1, 0, none⟩ = some (.string d.nm) ∧ W.cell? ⟨w.heap.size+1, 1, none⟩ = some (.int .i64 d.ty) ∧ W.cell? ⟨w.heap.size+1, 2, none⟩ = some (.slice d.ck.A d.ck.l.length d.ck.c) ∧ w.heap.size+1 < W.heap.size := by
  have hs := h.size
  rw [World.size_alloc, World.size_alloc] at hs
  have hc : ∀ q : Addr, q.block < w.heap.size + 2 → W.cell? q = _ := fun q hq => h.cell (by rw [World.size_alloc, World.size_alloc]; exact hq)
  refine ⟨?_, ?_, ?_, ?_, hs⟩
  all_goals (rw [hc _ (by simp)]; simp [go_sem])
theorem B2O {w W : World} (E : Rw va.En) (o : Ot) (h : Below ((w.alloc (.cells #[.slice E.A E.l.length E.c] 75)).alloc (.cells #[.string o.nm, .int .i64 o.t, .int .i64 o.tag] 153)).heap.size ((w.alloc (.cells #[.slice E.A E.l.length E.c] 75)).alloc (.cells #[.string o.nm, .int .i64 o.t, .int .i64 o.tag] 153)) W) :
    W.cell? ⟨w.heap.size, 0, none⟩ = some (.slice E.A E.l.length E.c) ∧ W.cell? ⟨w.heap.size+1, 0, none⟩ = some (.string o.nm) ∧ W.cell? ⟨w.heap.size+1, 1, none⟩ = some (.int .i64 o.t) ∧ W.cell? ⟨w.heap.size+1, 2, none⟩ = some (.int .i64 o.tag) ∧ w.heap.size+1 < W.heap.size := by
  have hs := h.size
  rw [World.size_alloc, World.size_alloc] at hs
  have hc : ∀ q : Addr, q.block < w.heap.size + 2 → W.cell? q = _ := fun q hq => h.cell (by rw [World.size_alloc, World.size_alloc]; exact hq)
  refine ⟨?_, ?_, ?_, ?_, hs⟩
  all_goals (rw [hc _ (by simp)]; simp [go_sem])
theorem B2X {w W : World} (E : Rw va.En) (x : Xt) (h : Below ((w.alloc (.cells #[.slice E.A E.l.length E.c] 75)).alloc (.cells #[.int .i64 x.k, .int .i64 x.op, .int .i64 x.t, .int .i64 x.v, .string x.nm, .slice x.A x.ar.length x.c] 24)).heap.size ((w.alloc (.cells #[.slice E.A E.l.length E.c] 75)).alloc (.cells #[.int .i64 x.k, .int .i64 x.op, .int .i64 x.t, .int .i64 x.v, .string x.nm, .slice x.A x.ar.length x.c] 24)) W) :
    W.cell? ⟨w.heap.size, 0, none⟩ = some (.slice E.A E.l.length E.c) ∧ W.cell? ⟨w.heap.size+1, 0, none⟩ = some (.int .i64 x.k) ∧ W.cell? ⟨w.heap.size+1, 1, none⟩ = some (.int .i64 x.op) ∧ W.cell? ⟨w.heap.size+1, 2, none⟩ = some (.int .i64 x.t) ∧ W.cell? ⟨w.heap.size+1, 3, none⟩ = some (.int .i64 x.v) ∧ W.cell? ⟨w.heap.size+1, 4, none⟩ = some (.string x.nm) ∧ W.cell? ⟨w.heap.size+1, 5, none⟩ = some (.slice x.A x.ar.length x.c) ∧ w.heap.size+1 < W.heap.size := by
  have hs := h.size
  rw [World.size_alloc, World.size_alloc] at hs
  have hc : ∀ q : Addr, q.block < w.heap.size + 2 → W.cell? q = _ := fun q hq => h.cell (by rw [World.size_alloc, World.size_alloc]; exact hq)
  refine ⟨?_, ?_, ?_, ?_, ?_, ?_, ?_, hs⟩
  all_goals (rw [hc _ (by simp)]; simp [go_sem])
theorem B2Q {w W : World} (E : Rw va.En) (q : Qt) (h : Below ((w.alloc (.cells #[.slice E.A E.l.length E.c] 75)).alloc (.cells #[.slice q.lf.A q.lf.l.length q.lf.c, .int .i64 q.r.k, .int .i64 q.r.op, .int .i64 q.r.t, .int .i64 q.r.v, .string q.r.nm, .slice q.r.A q.r.ar.length q.r.c] 59)).heap.size ((w.alloc (.cells #[.slice E.A E.l.length E.c] 75)).alloc (.cells #[.slice q.lf.A q.lf.l.length q.lf.c, .int .i64 q.r.k, .int .i64 q.r.op, .int .i64 q.r.t, .int .i64 q.r.v, .string q.r.nm, .slice q.r.A q.r.ar.length q.r.c] 59)) W) :
    W.cell? ⟨w.heap.size, 0, none⟩ = some (.slice E.A E.l.length E.c) ∧ W.cell? ⟨w.heap.size+1, 0, none⟩ = some (.slice q.lf.A q.lf.l.length q.lf.c) ∧ W.cell? ⟨w.heap.size+1, 1, none⟩ = some (.int .i64 q.r.k) ∧ W.cell? ⟨w.heap.size+1, 2, none⟩ = some (.int .i64 q.r.op) ∧ W.cell? ⟨w.heap.size+1, 3, none⟩ = some (.int .i64 q.r.t) ∧ W.cell? ⟨w.heap.size+1, 4, none⟩ = some (.int .i64 q.r.v) ∧ W.cell? ⟨w.heap.size+1, 5, none⟩ = some (.string q.r.nm) ∧ W.cell? ⟨w.heap.size+1, 6, none⟩ = some (.slice q.r.A q.r.ar.length q.r.c) ∧ w.heap.size+1 < W.heap.size := by
  have hs := h.size
  rw [World.size_alloc, World.size_alloc] at hs
  have hc : ∀ q : Addr, q.block < w.heap.size + 2 → W.cell? q = _ := fun q hq => h.cell (by rw [World.size_alloc, World.size_alloc]; exact hq)
  refine ⟨?_, ?_, ?_, ?_, ?_, ?_, ?_, ?_, hs⟩
  all_goals (rw [hc _ (by simp)]; simp [go_sem])
theorem B1T {w W : World} (t : Tt) (h : Below (w.alloc (.cells #[.int .i64 t.cd.k, .int .i64 t.cd.op, .int .i64 t.cd.t, .int .i64 t.cd.v, .string t.cd.nm, .slice t.cd.A t.cd.ar.length t.cd.c, .int .i64 t.to, .bool t.re] 103)).heap.size (w.alloc (.cells #[.int .i64 t.cd.k, .int .i64 t.cd.op, .int .i64 t.cd.t, .int .i64 t.cd.v, .string t.cd.nm, .slice t.cd.A t.cd.ar.length t.cd.c, .int .i64 t.to, .bool t.re] 103)) W) :
    W.cell? ⟨w.heap.size, 0, none⟩ = some (.int .i64 t.cd.k) ∧ W.cell? ⟨w.heap.size, 1, none⟩ = some (.int .i64 t.cd.op) ∧ W.cell? ⟨w.heap.size, 2, none⟩ = some (.int .i64 t.cd.t) ∧ W.cell? ⟨w.heap.size, 3, none⟩ = some (.int .i64 t.cd.v) ∧ W.cell? ⟨w.heap.size, 4, none⟩ = some (.string t.cd.nm) ∧ W.cell? ⟨w.heap.size, 5, none⟩ = some (.slice t.cd.A t.cd.ar.length t.cd.c) ∧ W.cell? ⟨w.heap.size, 6, none⟩ = some (.int .i64 t.to) ∧ W.cell? ⟨w.heap.size, 7, none⟩ = some (.bool t.re) ∧ w.heap.size < W.heap.size := by
  have hs := h.size
  rw [World.size_alloc] at hs
  have hc : ∀ q : Addr, q.block < w.heap.size+1 → W.cell? q = _ := fun q hq => h.cell (by rw [World.size_alloc]; exact hq)
  refine ⟨?_, ?_, ?_, ?_, ?_, ?_, ?_, ?_, hs⟩
  all_goals (rw [hc _ (by simp)]; simp [go_sem])
theorem B1S {w W : World} (s : St) (h : Below (w.alloc (.cells #[.string s.nm, .slice s.lc.A s.lc.l.length s.lc.c, .slice s.qs.A s.qs.l.length s.qs.c, .slice s.au.A s.au.l.length s.au.c, .slice s.un.A s.un.l.length s.un.c, .slice s.ut.A s.ut.l.length s.ut.c] 95)).heap.size (w.alloc (.cells #[.string s.nm, .slice s.lc.A s.lc.l.length s.lc.c, .slice s.qs.A s.qs.l.length s.qs.c, .slice s.au.A s.au.l.length s.au.c, .slice s.un.A s.un.l.length s.un.c, .slice s.ut.A s.ut.l.length s.ut.c] 95)) W) :
    W.cell? ⟨w.heap.size, 0, none⟩ = some (.string s.nm) ∧ W.cell? ⟨w.heap.size, 1, none⟩ = some (.slice s.lc.A s.lc.l.length s.lc.c) ∧ W.cell? ⟨w.heap.size, 2, none⟩ = some (.slice s.qs.A s.qs.l.length s.qs.c) ∧ W.cell? ⟨w.heap.size, 3, none⟩ = some (.slice s.au.A s.au.l.length s.au.c) ∧ W.cell? ⟨w.heap.size, 4, none⟩ = some (.slice s.un.A s.un.l.length s.un.c) ∧ W.cell? ⟨w.heap.size, 5, none⟩ = some (.slice s.ut.A s.ut.l.length s.ut.c) ∧ w.heap.size < W.heap.size := by
  have hs := h.size
  rw [World.size_alloc] at hs
  have hc : ∀ q : Addr, q.block < w.heap.size+1 → W.cell? q = _ := fun q hq => h.cell (by rw [World.size_alloc]; exact hq)
  refine ⟨?_, ?_, ?_, ?_, ?_, ?_, hs⟩
  all_goals (rw [hc _ (by simp)]; simp [go_sem])
theorem B1A {w W : World} (a : Rw St) (h : Below (w.alloc (.cells #[.slice a.A a.l.length a.c] 101)).heap.size (w.alloc (.cells #[.slice a.A a.l.length a.c] 101)) W) :
    W.cell? ⟨w.heap.size, 0, none⟩ = some (.slice a.A a.l.length a.c) ∧ w.heap.size < W.heap.size := by
  have hs := h.size
  rw [World.size_alloc] at hs
  have hc : ∀ q : Addr, q.block < w.heap.size+1 → W.cell? q = _ := fun q hq => h.cell (by rw [World.size_alloc]; exact hq)
  refine ⟨?_, hs⟩
  all_goals (rw [hc _ (by simp)]; simp [go_sem])
theorem B2N {w W : World} (E : Rw va.En) (n : Nt) (h : Below ((w.alloc (.cells #[.slice E.A E.l.length E.c] 75)).alloc (.cells #[.string n.nm, .slice n.ins.A n.ins.l.length n.ins.c, .slice n.outs.A n.outs.l.length n.outs.c, .slice n.locs.A n.locs.l.length n.locs.c, .slice n.qs.A n.qs.l.length n.qs.c, .slice n.au.A n.au.l.length n.au.c, .slice n.asm.A n.asm.l.length n.asm.c, .slice n.ens.A n.ens.l.length n.ens.c] 56)).heap.size ((w.alloc (.cells #[.slice E.A E.l.length E.c] 75)).alloc (.cells #[.string n.nm, .slice n.ins.A n.ins.l.length n.ins.c, .slice n.outs.A n.outs.l.length n.outs.c, .slice n.locs.A n.locs.l.length n.locs.c, .slice n.qs.A n.qs.l.length n.qs.c, .slice n.au.A n.au.l.length n.au.c, .slice n.asm.A n.asm.l.length n.asm.c, .slice n.ens.A n.ens.l.length n.ens.c] 56)) W) :
    W.cell? ⟨w.heap.size, 0, none⟩ = some (.slice E.A E.l.length E.c) ∧ W.cell? ⟨w.heap.size+1, 0, none⟩ = some (.string n.nm) ∧ W.cell? ⟨w.heap.size+1, 1, none⟩ = some (.slice n.ins.A n.ins.l.length n.ins.c) ∧ W.cell? ⟨w.heap.size+1, 2, none⟩ = some (.slice n.outs.A n.outs.l.length n.outs.c) ∧ W.cell? ⟨w.heap.size+1, 3, none⟩ = some (.slice n.locs.A n.locs.l.length n.locs.c) ∧ W.cell? ⟨w.heap.size+1, 4, none⟩ = some (.slice n.qs.A n.qs.l.length n.qs.c) ∧ W.cell? ⟨w.heap.size+1, 5, none⟩ = some (.slice n.au.A n.au.l.length n.au.c) ∧ W.cell? ⟨w.heap.size+1, 6, none⟩ = some (.slice n.asm.A n.asm.l.length n.asm.c) ∧ W.cell? ⟨w.heap.size+1, 7, none⟩ = some (.slice n.ens.A n.ens.l.length n.ens.c) ∧ w.heap.size+1 < W.heap.size := by
  have hs := h.size
  rw [World.size_alloc, World.size_alloc] at hs
  have hc : ∀ q : Addr, q.block < w.heap.size + 2 → W.cell? q = _ := fun q hq => h.cell (by rw [World.size_alloc, World.size_alloc]; exact hq)
  refine ⟨?_, ?_, ?_, ?_, ?_, ?_, ?_, ?_, ?_, hs⟩
  all_goals (rw [hc _ (by simp)]; simp [go_sem])
theorem B1E {w W : World} (e : va.En) (h : Below (w.alloc (.cells #[.string e.name, .slice e.A e.tags.length e.c] 72)).heap.size (w.alloc (.cells #[.string e.name, .slice e.A e.tags.length e.c] 72)) W) :
    W.cell? ⟨w.heap.size, 0, none⟩ = some (.string e.name) ∧ W.cell? ⟨w.heap.size, 1, none⟩ = some (.slice e.A e.tags.length e.c) ∧ w.heap.size < W.heap.size := by
  have hs := h.size
  rw [World.size_alloc] at hs
  have hc : ∀ q : Addr, q.block < w.heap.size+1 → W.cell? q = _ := fun q hq => h.cell (by rw [World.size_alloc]; exact hq)
  refine ⟨?_, ?_, hs⟩
  all_goals (rw [hc _ (by simp)]; simp [go_sem])
theorem B1K {w W : World} (E : Rw va.En) (h : Below (w.alloc (.cells #[.slice E.A E.l.length E.c] 75)).heap.size (w.alloc (.cells #[.slice E.A E.l.length E.c] 75)) W) :
    W.cell? ⟨w.heap.size, 0, none⟩ = some (.slice E.A E.l.length E.c) ∧ w.heap.size < W.heap.size := by
  have hs := h.size
  rw [World.size_alloc] at hs
  have hc : ∀ q : Addr, q.block < w.heap.size+1 → W.cell? q = _ := fun q hq => h.cell (by rw [World.size_alloc]; exact hq)
  refine ⟨?_, hs⟩
  all_goals (rw [hc _ (by simp)]; simp [go_sem])
end Go.Proofs.YthlapepjebidgaaGreatDoor
/- checkIdent, checkEnum, declared, sampling, port, local, typed of the program. -/
namespace Go.Proofs.YthlapepjebidgaaGreatDoor
set_option linter.unusedVariables false
set_option linter.unusedSimpArgs false
open Go.RowKit
abbrev ckV (E : Rw va.En) : Value := .agg #[.slice E.A E.l.length E.c]
theorem orE0 (b : Int) : orE 0 b = b := rfl
theorem orEn {a : Int} (h : a ≠ 0) (b : Int) : orE a b = a := if_neg h
theorem RsE.len {w : World} {B : Nat} {r : Rw va.En} (h : RsE w B r) : r.l.length ≤ 9223372036854775807 := by
  have := h.2.1.1
  unfold maxLen at this
  omega
theorem rdr_of_ss {w : World} {B c : Nat} {A : Option Addr} {l : List ByteArray} (h : Rd w B A (va.ss l)) (h1 : l.length ≤ maxLen) (h2 : l.length ≤ c) : RdR w B 1 BC ⟨A, c, l⟩ := by
  refine ⟨fun hn => ?_, fun ad i y hA hy => ?_, h1, h2⟩
  · obtain ⟨ad, e, hb, _⟩ := h (by intro e; exact hn (by have := congrArg List.length e; simp [va.ss] at this; exact this))
    exact ⟨ad, e, hb⟩
  · obtain ⟨ad', e, hb, hc⟩ := h (by intro e; have := congrArg List.length e; simp [va.ss] at this; simp only at hy; rw [this] at hy; simp at hy)
    obtain rfl : ad = ad' := Option.some.inj (Eq.trans (Eq.symm hA) e)
    show w.cell? (ad.add (i * 1)) = _
    rw [Nat.mul_one]
    exact hc i _ (va.ss_get hy)
set_option maxHeartbeats 1000000 in
theorem sh_ident (s : ByteArray) (w : World) (hs : Std w) (h9 : s.size ≤ 140737488351232) : Calls Tryz.prog 77 #[.string s] w (Bel (.int .i64 (idE s)) w) := by
  have K := Lib.hid (fun W (h : Below w.heap.size w W) => ident_any s W (hs.to h) h9)
  unfold idE
  generalize idP s = b at *
  clear hs h9
  cases b
  all_goals
    go_enter Tryz.func77, Tryz.ntmps77
    go_wp2_with (go_at_call 75; (with_reducible refine (K.out _ ?_).mono ?_); (focus ((repeat (first | (with_reducible exact Below.refl _ _) | (with_reducible assumption) | (with_reducible exact bel_box _) | (with_reducible refine bel_step ?_ (by with_reducible assumption)) | (with_reducible refine Below.drew ?_) | (with_reducible refine below_drewN ?_ _) | (with_reducible refine bel_alloc ?_ _))); done)); rintro e w1 ⟨rfl, hb1⟩)
    go_ret
    exact ⟨rfl, (by repeat (first | (with_reducible exact Below.refl _ _) | (with_reducible assumption) | (with_reducible exact bel_box _) | (with_reducible refine bel_step ?_ (by with_reducible assumption)) | (with_reducible refine Below.drew ?_) | (with_reducible refine below_drewN ?_ _) | (with_reducible refine bel_alloc ?_ _)))⟩
set_option maxHeartbeats 1000000 in
set_option maxRecDepth 20000 in
theorem sh_enum (e : va.En) (w : World) (hs : Std w) (hR : Rd w w.heap.size e.A (va.ss e.tags)) (h1 : e.name.size ≤ 140737488351232) (h2 : e.tags.length ≤ maxLen ∧ e.tags.length ≤ e.c) (h3 : ∀ b ∈ e.tags, b.size ≤ 140737488351232) :
    Calls Tryz.prog 44 #[.agg #[.string e.name, .slice e.A e.tags.length e.c]] w (Bel (.int .i64 (enumE e)) w) := by
  have K := Lib.hid (fun W (h : Below w.heap.size w W) => ident_any e.name W (hs.to h) h1)
  have KF : Hid (∀ W, Below w.heap.size w W → Calls Tryz.prog 76 #[.slice e.A e.tags.length e.c, .func (.func 77) #[] #[]] W (Bel (.int .i64 (errs (e.tags.map idE))) W)) := Lib.hid fun W h =>
    first_string_checkIdent ⟨e.A, e.c, e.tags⟩ idE W ((rdr_of_ss hR h2.1 h2.2).blw oneB_B h h.size) (Lib.hid fun y hy W' h' => sh_ident y W' (hs.to (h.trans (h'.mono h.size))) (h3 y hy))
  have h9 := h2.1
  unfold maxLen at h9
  unfold enumE
  generalize errs (e.tags.map idE) = v at *
  generalize idP e.name = b at *
  clear hR h3 h2 h1 hs
  cases b
  · go_enter Tryz.func44, Tryz.ntmps44
    go_wp2_with (go_at_call 75; (with_reducible refine (K.out _ ?_).mono ?_); (focus ((repeat (first | (with_reducible exact Below.refl _ _) | (with_reducible assumption) | (with_reducible exact bel_box _) | (with_reducible refine bel_step ?_ (by with_reducible assumption)) | (with_reducible refine Below.drew ?_) | (with_reducible refine below_drewN ?_ _) | (with_reducible refine bel_alloc ?_ _))); done)); rintro e w1 ⟨rfl, hb1⟩; obtain ⟨g0, g1, g2⟩ := B1E (w := w) (W := w1) e (by repeat (first | (with_reducible exact Below.refl _ _) | (with_reducible assumption) | (with_reducible exact bel_box _) | (with_reducible refine bel_step ?_ (by with_reducible assumption)) | (with_reducible refine Below.drew ?_) | (with_reducible refine below_drewN ?_ _) | (with_reducible refine bel_alloc ?_ _))))
    go_ret
    exact ⟨rfl, (by repeat (first | (with_reducible exact Below.refl _ _) | (with_reducible assumption) | (with_reducible exact bel_box _) | (with_reducible refine bel_step ?_ (by with_reducible assumption)) | (with_reducible refine Below.drew ?_) | (with_reducible refine below_drewN ?_ _) | (with_reducible refine bel_alloc ?_ _)))⟩
  · by_cases z0 : e.tags.length = 0
    · have q0 : ((e.tags.length : Int) == 0) = true := by simp [z0]
      rw [if_pos rfl, if_pos z0]
      clear z0
      go_enter Tryz.func44, Tryz.ntmps44
      go_wp2_with (go_at_call 75; (with_reducible refine (K.out _ ?_).mono ?_); (focus ((repeat (first | (with_reducible exact Below.refl _ _) | (with_reducible assumption) | (with_reducible exact bel_box _) | (with_reducible refine bel_step ?_ (by with_reducible assumption)) | (with_reducible refine Below.drew ?_) | (with_reducible refine below_drewN ?_ _) | (with_reducible refine bel_alloc ?_ _))); done)); rintro e w1 ⟨rfl, hb1⟩; obtain ⟨g0, g1, g2⟩ := B1E (w := w) (W := w1) e (by repeat (first | (with_reducible exact Below.refl _ _) | (with_reducible assumption) | (with_reducible exact bel_box _) | (with_reducible refine bel_step ?_ (by with_reducible assumption)) | (with_reducible refine Below.drew ?_) | (with_reducible refine below_drewN ?_ _) | (with_reducible refine bel_alloc ?_ _))))
      go_ret
      exact ⟨rfl, (by repeat (first | (with_reducible exact Below.refl _ _) | (with_reducible assumption) | (with_reducible exact bel_box _) | (with_reducible refine bel_step ?_ (by with_reducible assumption)) | (with_reducible refine Below.drew ?_) | (with_reducible refine below_drewN ?_ _) | (with_reducible refine bel_alloc ?_ _)))⟩
    · by_cases z1 : 16 < e.tags.length
      · have q0 : ((e.tags.length : Int) == 0) = false := by simp [z0]
        have q1 : (16 : Int) < (e.tags.length : Int) := by omega
        rw [if_pos rfl, if_neg z0, if_pos z1]
        clear z0 z1
        go_enter Tryz.func44, Tryz.ntmps44
        go_wp2_with (go_at_call 75; (with_reducible refine (K.out _ ?_).mono ?_); (focus ((repeat (first | (with_reducible exact Below.refl _ _) | (with_reducible assumption) | (with_reducible exact bel_box _) | (with_reducible refine bel_step ?_ (by with_reducible assumption)) | (with_reducible refine Below.drew ?_) | (with_reducible refine below_drewN ?_ _) | (with_reducible refine bel_alloc ?_ _))); done)); rintro e w1 ⟨rfl, hb1⟩; obtain ⟨g0, g1, g2⟩ := B1E (w := w) (W := w1) e (by repeat (first | (with_reducible exact Below.refl _ _) | (with_reducible assumption) | (with_reducible exact bel_box _) | (with_reducible refine bel_step ?_ (by with_reducible assumption)) | (with_reducible refine Below.drew ?_) | (with_reducible refine below_drewN ?_ _) | (with_reducible refine bel_alloc ?_ _))))
        go_ret
        exact ⟨rfl, (by repeat (first | (with_reducible exact Below.refl _ _) | (with_reducible assumption) | (with_reducible exact bel_box _) | (with_reducible refine bel_step ?_ (by with_reducible assumption)) | (with_reducible refine Below.drew ?_) | (with_reducible refine below_drewN ?_ _) | (with_reducible refine bel_alloc ?_ _)))⟩
      · have q0 : ((e.tags.length : Int) == 0) = false := by simp [z0]
        have q1 : (e.tags.length : Int) ≤ (16 : Int) := by omega
        rw [if_pos rfl, if_neg z0, if_neg z1]
        clear z0 z1
        go_enter Tryz.func44, Tryz.ntmps44
        go_wp2_with (first | (go_at_call 75; (with_reducible refine (K.out _ ?_).mono ?_); (focus ((repeat (first | (with_reducible exact Below.refl _ _) | (with_reducible assumption) | (with_reducible exact bel_box _) | (with_reducible refine bel_step ?_ (by with_reducible assumption)) | (with_reducible refine Below.drew ?_) | (with_reducible refine below_drewN ?_ _) | (with_reducible refine bel_alloc ?_ _))); done)); rintro e w1 ⟨rfl, hb1⟩; obtain ⟨g0, g1, g2⟩ := B1E (w := w) (W := w1) e (by repeat (first | (with_reducible exact Below.refl _ _) | (with_reducible assumption) | (with_reducible exact bel_box _) | (with_reducible refine bel_step ?_ (by with_reducible assumption)) | (with_reducible refine Below.drew ?_) | (with_reducible refine below_drewN ?_ _) | (with_reducible refine bel_alloc ?_ _)))) | (go_at_call 76; (with_reducible refine (KF.out _ ?_).mono ?_); (focus ((repeat (first | (with_reducible exact Below.refl _ _) | (with_reducible assumption) | (with_reducible exact bel_box _) | (with_reducible refine bel_step ?_ (by with_reducible assumption)) | (with_reducible refine Below.drew ?_) | (with_reducible refine below_drewN ?_ _) | (with_reducible refine bel_alloc ?_ _))); done)); rintro e w2 ⟨rfl, hb2⟩))
        go_ret
        exact ⟨rfl, (by repeat (first | (with_reducible exact Below.refl _ _) | (with_reducible assumption) | (with_reducible exact bel_box _) | (with_reducible refine bel_step ?_ (by with_reducible assumption)) | (with_reducible refine Below.drew ?_) | (with_reducible refine below_drewN ?_ _) | (with_reducible refine bel_alloc ?_ _)))⟩
set_option maxHeartbeats 1000000 in
set_option maxRecDepth 20000 in
theorem sh_declared (E : Rw va.En) (d : Dt) (w : World) (hs : Std w) (hE : RsE w w.heap.size E) (h1 : d.nm.size ≤ 140737488351232) (h2 : d.ty ≤ 9223372036854775807) :
    Calls Tryz.prog 142 #[ckV E, dV d] w (Bel (.int .i64 (dclE E.l d)) w) := by
  have K := Lib.hid (fun W (h : Below w.heap.size w W) => ident_any d.nm W (hs.to h) h1)
  have KN := Lib.hid (fun W (h : Below w.heap.size w W) => va.name_any E.A E.c E.l d.ty W (hE.blw h h.size).1 hE.len h2)
  unfold dclE
  generalize idP d.nm = b1 at *
  generalize va.valB E.l d.ty = b2 at *
  generalize va.nameT E.l d.ty = nt at *
  clear hs hE h1 h2
  cases b1
  · go_enter Tryz.func142, Tryz.ntmps142
    go_wp2_with (go_at_call 75; (with_reducible refine (K.out _ ?_).mono ?_); (focus ((repeat (first | (with_reducible exact Below.refl _ _) | (with_reducible assumption) | (with_reducible exact bel_box _) | (with_reducible refine bel_step ?_ (by with_reducible assumption)) | (with_reducible refine Below.drew ?_) | (with_reducible refine below_drewN ?_ _) | (with_reducible refine bel_alloc ?_ _))); done)); rintro e w1 ⟨rfl, hb1⟩; obtain ⟨g0, g1, g2, g3, g4⟩ := B2D (w := w) (W := w1) E d (by repeat (first | (with_reducible exact Below.refl _ _) | (with_reducible assumption) | (with_reducible exact bel_box _) | (with_reducible refine bel_step ?_ (by with_reducible assumption)) | (with_reducible refine Below.drew ?_) | (with_reducible refine below_drewN ?_ _) | (with_reducible refine bel_alloc ?_ _))))
    go_ret
    exact ⟨rfl, (by repeat (first | (with_reducible exact Below.refl _ _) | (with_reducible assumption) | (with_reducible exact bel_box _) | (with_reducible refine bel_step ?_ (by with_reducible assumption)) | (with_reducible refine Below.drew ?_) | (with_reducible refine below_drewN ?_ _) | (with_reducible refine bel_alloc ?_ _)))⟩
  · cases b2
    all_goals
      go_enter Tryz.func142, Tryz.ntmps142
      go_wp2_with (first | (go_at_call 75; (with_reducible refine (K.out _ ?_).mono ?_); (focus ((repeat (first | (with_reducible exact Below.refl _ _) | (with_reducible assumption) | (with_reducible exact bel_box _) | (with_reducible refine bel_step ?_ (by with_reducible assumption)) | (with_reducible refine Below.drew ?_) | (with_reducible refine below_drewN ?_ _) | (with_reducible refine bel_alloc ?_ _))); done)); rintro e w1 ⟨rfl, hb1⟩; obtain ⟨g0, g1, g2, g3, g4⟩ := B2D (w := w) (W := w1) E d (by repeat (first | (with_reducible exact Below.refl _ _) | (with_reducible assumption) | (with_reducible exact bel_box _) | (with_reducible refine bel_step ?_ (by with_reducible assumption)) | (with_reducible refine Below.drew ?_) | (with_reducible refine below_drewN ?_ _) | (with_reducible refine bel_alloc ?_ _)))) | (go_at_call 169; (with_reducible refine (KN.out _ ?_).mono ?_); (focus ((repeat (first | (with_reducible exact Below.refl _ _) | (with_reducible assumption) | (with_reducible exact bel_box _) | (with_reducible refine bel_step ?_ (by with_reducible assumption)) | (with_reducible refine Below.drew ?_) | (with_reducible refine below_drewN ?_ _) | (with_reducible refine bel_alloc ?_ _))); done)); rintro e w2 ⟨rfl, hb2⟩))
      go_ret
      exact ⟨rfl, (by repeat (first | (with_reducible exact Below.refl _ _) | (with_reducible assumption) | (with_reducible exact bel_box _) | (with_reducible refine bel_step ?_ (by with_reducible assumption)) | (with_reducible refine Below.drew ?_) | (with_reducible refine below_drewN ?_ _) | (with_reducible refine bel_alloc ?_ _)))⟩
set_option maxHeartbeats 1000000 in
set_option maxRecDepth 20000 in
theorem sh_sampling (E : Rw va.En) (o : Ot) (w : World) (hs : Std w) (hE : RsE w w.heap.size E) (h1 : o.nm.size ≤ 140737488351232) (h2 : o.t ≤ 9223372036854775807) :
    Calls Tryz.prog 144 #[ckV E, oV o] w (Bel (.int .i64 (onE E.l o)) w) := by
  have K := Lib.hid (fun W (h : Below w.heap.size w W) => ident_any o.nm W (hs.to h) h1)
  have KH := Lib.hid (fun W (h : Below w.heap.size w W) => va.has_any E.A E.c E.l o.t o.tag W (hE.blw h h.size).1 hE.len h2)
  unfold onE
  generalize idP o.nm = b1 at *
  generalize va.hasB E.l o.t o.tag = b2 at *
  clear hs hE h1 h2
  cases b1
  · go_enter Tryz.func144, Tryz.ntmps144
    go_wp2_with (go_at_call 75; (with_reducible refine (K.out _ ?_).mono ?_); (focus ((repeat (first | (with_reducible exact Below.refl _ _) | (with_reducible assumption) | (with_reducible exact bel_box _) | (with_reducible refine bel_step ?_ (by with_reducible assumption)) | (with_reducible refine Below.drew ?_) | (with_reducible refine below_drewN ?_ _) | (with_reducible refine bel_alloc ?_ _))); done)); rintro e w1 ⟨rfl, hb1⟩; obtain ⟨g0, g1, g2, g3, g4⟩ := B2O (w := w) (W := w1) E o (by repeat (first | (with_reducible exact Below.refl _ _) | (with_reducible assumption) | (with_reducible exact bel_box _) | (with_reducible refine bel_step ?_ (by with_reducible assumption)) | (with_reducible refine Below.drew ?_) | (with_reducible refine below_drewN ?_ _) | (with_reducible refine bel_alloc ?_ _))))
    go_ret
    exact ⟨rfl, (by repeat (first | (with_reducible exact Below.refl _ _) | (with_reducible assumption) | (with_reducible exact bel_box _) | (with_reducible refine bel_step ?_ (by with_reducible assumption)) | (with_reducible refine Below.drew ?_) | (with_reducible refine below_drewN ?_ _) | (with_reducible refine bel_alloc ?_ _)))⟩
  · rw [if_pos rfl]
    by_cases z : o.t = 2
    · have q : (o.t == 2) = true := by simp [z]
      rw [if_pos (.inl z)]
      clear z
      go_enter Tryz.func144, Tryz.ntmps144
      go_wp2_with (first | (go_at_call 75; (with_reducible refine (K.out _ ?_).mono ?_); (focus ((repeat (first | (with_reducible exact Below.refl _ _) | (with_reducible assumption) | (with_reducible exact bel_box _) | (with_reducible refine bel_step ?_ (by with_reducible assumption)) | (with_reducible refine Below.drew ?_) | (with_reducible refine below_drewN ?_ _) | (with_reducible refine bel_alloc ?_ _))); done)); rintro e w1 ⟨rfl, hb1⟩; obtain ⟨g0, g1, g2, g3, g4⟩ := B2O (w := w) (W := w1) E o (by repeat (first | (with_reducible exact Below.refl _ _) | (with_reducible assumption) | (with_reducible exact bel_box _) | (with_reducible refine bel_step ?_ (by with_reducible assumption)) | (with_reducible refine Below.drew ?_) | (with_reducible refine below_drewN ?_ _) | (with_reducible refine bel_alloc ?_ _)))) | (go_at_call 154; (with_reducible refine (KH.out _ ?_).mono ?_); (focus ((repeat (first | (with_reducible exact Below.refl _ _) | (with_reducible assumption) | (with_reducible exact bel_box _) | (with_reducible refine bel_step ?_ (by with_reducible assumption)) | (with_reducible refine Below.drew ?_) | (with_reducible refine below_drewN ?_ _) | (with_reducible refine bel_alloc ?_ _))); done)); rintro e w2 ⟨rfl, hb2⟩))
      go_ret
      exact ⟨rfl, (by repeat (first | (with_reducible exact Below.refl _ _) | (with_reducible assumption) | (with_reducible exact bel_box _) | (with_reducible refine bel_step ?_ (by with_reducible assumption)) | (with_reducible refine Below.drew ?_) | (with_reducible refine below_drewN ?_ _) | (with_reducible refine bel_alloc ?_ _)))⟩
    · have q : (o.t == 2) = false := by simp [z]
      cases b2
      · rw [if_pos (.inr rfl)]
        clear z
        go_enter Tryz.func144, Tryz.ntmps144
        go_wp2_with (first | (go_at_call 75; (with_reducible refine (K.out _ ?_).mono ?_); (focus ((repeat (first | (with_reducible exact Below.refl _ _) | (with_reducible assumption) | (with_reducible exact bel_box _) | (with_reducible refine bel_step ?_ (by with_reducible assumption)) | (with_reducible refine Below.drew ?_) | (with_reducible refine below_drewN ?_ _) | (with_reducible refine bel_alloc ?_ _))); done)); rintro e w1 ⟨rfl, hb1⟩; obtain ⟨g0, g1, g2, g3, g4⟩ := B2O (w := w) (W := w1) E o (by repeat (first | (with_reducible exact Below.refl _ _) | (with_reducible assumption) | (with_reducible exact bel_box _) | (with_reducible refine bel_step ?_ (by with_reducible assumption)) | (with_reducible refine Below.drew ?_) | (with_reducible refine below_drewN ?_ _) | (with_reducible refine bel_alloc ?_ _)))) | (go_at_call 154; (with_reducible refine (KH.out _ ?_).mono ?_); (focus ((repeat (first | (with_reducible exact Below.refl _ _) | (with_reducible assumption) | (with_reducible exact bel_box _) | (with_reducible refine bel_step ?_ (by with_reducible assumption)) | (with_reducible refine Below.drew ?_) | (with_reducible refine below_drewN ?_ _) | (with_reducible refine bel_alloc ?_ _))); done)); rintro e w2 ⟨rfl, hb2⟩))
        go_ret
        exact ⟨rfl, (by repeat (first | (with_reducible exact Below.refl _ _) | (with_reducible assumption) | (with_reducible exact bel_box _) | (with_reducible refine bel_step ?_ (by with_reducible assumption)) | (with_reducible refine Below.drew ?_) | (with_reducible refine below_drewN ?_ _) | (with_reducible refine bel_alloc ?_ _)))⟩
      · rw [if_neg (by simp [z])]
        clear z
        go_enter Tryz.func144, Tryz.ntmps144
        go_wp2_with (first | (go_at_call 75; (with_reducible refine (K.out _ ?_).mono ?_); (focus ((repeat (first | (with_reducible exact Below.refl _ _) | (with_reducible assumption) | (with_reducible exact bel_box _) | (with_reducible refine bel_step ?_ (by with_reducible assumption)) | (with_reducible refine Below.drew ?_) | (with_reducible refine below_drewN ?_ _) | (with_reducible refine bel_alloc ?_ _))); done)); rintro e w1 ⟨rfl, hb1⟩; obtain ⟨g0, g1, g2, g3, g4⟩ := B2O (w := w) (W := w1) E o (by repeat (first | (with_reducible exact Below.refl _ _) | (with_reducible assumption) | (with_reducible exact bel_box _) | (with_reducible refine bel_step ?_ (by with_reducible assumption)) | (with_reducible refine Below.drew ?_) | (with_reducible refine below_drewN ?_ _) | (with_reducible refine bel_alloc ?_ _)))) | (go_at_call 154; (with_reducible refine (KH.out _ ?_).mono ?_); (focus ((repeat (first | (with_reducible exact Below.refl _ _) | (with_reducible assumption) | (with_reducible exact bel_box _) | (with_reducible refine bel_step ?_ (by with_reducible assumption)) | (with_reducible refine Below.drew ?_) | (with_reducible refine below_drewN ?_ _) | (with_reducible refine bel_alloc ?_ _))); done)); rintro e w2 ⟨rfl, hb2⟩))
        go_ret
        exact ⟨rfl, (by repeat (first | (with_reducible exact Below.refl _ _) | (with_reducible assumption) | (with_reducible exact bel_box _) | (with_reducible refine bel_step ?_ (by with_reducible assumption)) | (with_reducible refine Below.drew ?_) | (with_reducible refine below_drewN ?_ _) | (with_reducible refine bel_alloc ?_ _)))⟩
set_option maxHeartbeats 1000000 in
set_option maxRecDepth 20000 in
theorem sh_port (E : Rw va.En) (d : Dt) (w : World) (hs : Std w) (hE : RsE w w.heap.size E) (hd : RsD w w.heap.size d) :
    Calls Tryz.prog 112 #[ckV E, dV d] w (Bel (.int .i64 (portE E.l d)) w) := by
  have K := Lib.hid (fun W (h : Below w.heap.size w W) => sh_declared E d W (hs.to h) (hE.blw h h.size) hd.1.1 hd.1.2)
  have h9 := hd.2.1.len
  unfold maxLen at h9
  unfold portE
  generalize dclE E.l d = v at *
  clear hs hE hd
  by_cases hv : v = 0
  · subst hv
    rw [orE0]
    by_cases hn : 0 < d.ck.l.length
    · have q : (0 : Int) < (d.ck.l.length : Int) := by omega
      rw [if_pos hn]
      clear hn
      go_enter Tryz.func112, Tryz.ntmps112
      go_wp2_with (go_at_call 142; (with_reducible refine (K.out _ ?_).mono ?_); (focus ((repeat (first | (with_reducible exact Below.refl _ _) | (with_reducible assumption) | (with_reducible exact bel_box _) | (with_reducible refine bel_step ?_ (by with_reducible assumption)) | (with_reducible refine Below.drew ?_) | (with_reducible refine below_drewN ?_ _) | (with_reducible refine bel_alloc ?_ _))); done)); rintro e w1 ⟨rfl, hb1⟩; obtain ⟨g0, g1, g2, g3, g4⟩ := B2D (w := w) (W := w1) E d (by repeat (first | (with_reducible exact Below.refl _ _) | (with_reducible assumption) | (with_reducible exact bel_box _) | (with_reducible refine bel_step ?_ (by with_reducible assumption)) | (with_reducible refine Below.drew ?_) | (with_reducible refine below_drewN ?_ _) | (with_reducible refine bel_alloc ?_ _))))
      go_ret
      exact ⟨rfl, (by repeat (first | (with_reducible exact Below.refl _ _) | (with_reducible assumption) | (with_reducible exact bel_box _) | (with_reducible refine bel_step ?_ (by with_reducible assumption)) | (with_reducible refine Below.drew ?_) | (with_reducible refine below_drewN ?_ _) | (with_reducible refine bel_alloc ?_ _)))⟩
    · have q : (d.ck.l.length : Int) ≤ (0 : Int) := by omega
      rw [if_neg hn]
      clear hn
      go_enter Tryz.func112, Tryz.ntmps112
      go_wp2_with (go_at_call 142; (with_reducible refine (K.out _ ?_).mono ?_); (focus ((repeat (first | (with_reducible exact Below.refl _ _) | (with_reducible assumption) | (with_reducible exact bel_box _) | (with_reducible refine bel_step ?_ (by with_reducible assumption)) | (with_reducible refine Below.drew ?_) | (with_reducible refine below_drewN ?_ _) | (with_reducible refine bel_alloc ?_ _))); done)); rintro e w1 ⟨rfl, hb1⟩; obtain ⟨g0, g1, g2, g3, g4⟩ := B2D (w := w) (W := w1) E d (by repeat (first | (with_reducible exact Below.refl _ _) | (with_reducible assumption) | (with_reducible exact bel_box _) | (with_reducible refine bel_step ?_ (by with_reducible assumption)) | (with_reducible refine Below.drew ?_) | (with_reducible refine below_drewN ?_ _) | (with_reducible refine bel_alloc ?_ _))))
      go_ret
      exact ⟨rfl, (by repeat (first | (with_reducible exact Below.refl _ _) | (with_reducible assumption) | (with_reducible exact bel_box _) | (with_reducible refine bel_step ?_ (by with_reducible assumption)) | (with_reducible refine Below.drew ?_) | (with_reducible refine below_drewN ?_ _) | (with_reducible refine bel_alloc ?_ _)))⟩
  · have q : (v == 0) = false := by simp [hv]
    rw [orEn hv]
    clear hv
    go_enter Tryz.func112, Tryz.ntmps112
    go_wp2_with (go_at_call 142; (with_reducible refine (K.out _ ?_).mono ?_); (focus ((repeat (first | (with_reducible exact Below.refl _ _) | (with_reducible assumption) | (with_reducible exact bel_box _) | (with_reducible refine bel_step ?_ (by with_reducible assumption)) | (with_reducible refine Below.drew ?_) | (with_reducible refine below_drewN ?_ _) | (with_reducible refine bel_alloc ?_ _))); done)); rintro e w1 ⟨rfl, hb1⟩; obtain ⟨g0, g1, g2, g3, g4⟩ := B2D (w := w) (W := w1) E d (by repeat (first | (with_reducible exact Below.refl _ _) | (with_reducible assumption) | (with_reducible exact bel_box _) | (with_reducible refine bel_step ?_ (by with_reducible assumption)) | (with_reducible refine Below.drew ?_) | (with_reducible refine below_drewN ?_ _) | (with_reducible refine bel_alloc ?_ _))))
    go_ret
    exact ⟨rfl, (by repeat (first | (with_reducible exact Below.refl _ _) | (with_reducible assumption) | (with_reducible exact bel_box _) | (with_reducible refine bel_step ?_ (by with_reducible assumption)) | (with_reducible refine Below.drew ?_) | (with_reducible refine below_drewN ?_ _) | (with_reducible refine bel_alloc ?_ _)))⟩
set_option maxHeartbeats 1000000 in
set_option maxRecDepth 20000 in
theorem sh_local (E : Rw va.En) (d : Dt) (w : World) (hs : Std w) (hE : RsE w w.heap.size E) (hd : RsD w w.heap.size d) :
    Calls Tryz.prog 113 #[ckV E, dV d] w (Bel (.int .i64 (locE E.l d)) w) := by
  have K := Lib.hid (fun W (h : Below w.heap.size w W) => sh_declared E d W (hs.to h) (hE.blw h h.size) hd.1.1 hd.1.2)
  have KF : Hid (∀ W, Below w.heap.size w W → Calls Tryz.prog 143 #[.slice d.ck.A d.ck.l.length d.ck.c, .func (.func 144) #[ckV E] #[]] W (Bel (.int .i64 (errs (d.ck.l.map (onE E.l)))) W)) := Lib.hid fun W h =>
    first_On_sampling (ckV E) d.ck (onE E.l) W ((hd.2.blw h h.size).1) (Lib.hid fun y hy W' h' => sh_sampling E y W' (hs.to (h.trans (h'.mono h.size))) (hE.blw (h.trans (h'.mono h.size)) (Nat.le_trans h.size h'.size)) (hd.2.2 y hy).1 (hd.2.2 y hy).2)
  have h9 := hd.2.1.len
  unfold maxLen at h9
  unfold locE
  generalize errs (d.ck.l.map (onE E.l)) = u at *
  generalize dclE E.l d = v at *
  clear hs hE hd
  by_cases hv : v = 0
  · subst hv
    rw [orE0]
    by_cases hn : 4 < d.ck.l.length
    · have q : (4 : Int) < (d.ck.l.length : Int) := by omega
      rw [if_pos hn]
      clear hn
      go_enter Tryz.func113, Tryz.ntmps113
      go_wp2_with (go_at_call 142; (with_reducible refine (K.out _ ?_).mono ?_); (focus ((repeat (first | (with_reducible exact Below.refl _ _) | (with_reducible assumption) | (with_reducible exact bel_box _) | (with_reducible refine bel_step ?_ (by with_reducible assumption)) | (with_reducible refine Below.drew ?_) | (with_reducible refine below_drewN ?_ _) | (with_reducible refine bel_alloc ?_ _))); done)); rintro e w1 ⟨rfl, hb1⟩; obtain ⟨g0, g1, g2, g3, g4⟩ := B2D (w := w) (W := w1) E d (by repeat (first | (with_reducible exact Below.refl _ _) | (with_reducible assumption) | (with_reducible exact bel_box _) | (with_reducible refine bel_step ?_ (by with_reducible assumption)) | (with_reducible refine Below.drew ?_) | (with_reducible refine below_drewN ?_ _) | (with_reducible refine bel_alloc ?_ _))))
      go_ret
      exact ⟨rfl, (by repeat (first | (with_reducible exact Below.refl _ _) | (with_reducible assumption) | (with_reducible exact bel_box _) | (with_reducible refine bel_step ?_ (by with_reducible assumption)) | (with_reducible refine Below.drew ?_) | (with_reducible refine below_drewN ?_ _) | (with_reducible refine bel_alloc ?_ _)))⟩
    · have q : (d.ck.l.length : Int) ≤ (4 : Int) := by omega
      rw [if_neg hn]
      clear hn
      go_enter Tryz.func113, Tryz.ntmps113
      go_wp2_with (first | (go_at_call 142; (with_reducible refine (K.out _ ?_).mono ?_); (focus ((repeat (first | (with_reducible exact Below.refl _ _) | (with_reducible assumption) | (with_reducible exact bel_box _) | (with_reducible refine bel_step ?_ (by with_reducible assumption)) | (with_reducible refine Below.drew ?_) | (with_reducible refine below_drewN ?_ _) | (with_reducible refine bel_alloc ?_ _))); done)); rintro e w1 ⟨rfl, hb1⟩; obtain ⟨g0, g1, g2, g3, g4⟩ := B2D (w := w) (W := w1) E d (by repeat (first | (with_reducible exact Below.refl _ _) | (with_reducible assumption) | (with_reducible exact bel_box _) | (with_reducible refine bel_step ?_ (by with_reducible assumption)) | (with_reducible refine Below.drew ?_) | (with_reducible refine below_drewN ?_ _) | (with_reducible refine bel_alloc ?_ _)))) | (go_at_call 143; (with_reducible refine (KF.out _ ?_).mono ?_); (focus ((repeat (first | (with_reducible exact Below.refl _ _) | (with_reducible assumption) | (with_reducible exact bel_box _) | (with_reducible refine bel_step ?_ (by with_reducible assumption)) | (with_reducible refine Below.drew ?_) | (with_reducible refine below_drewN ?_ _) | (with_reducible refine bel_alloc ?_ _))); done)); rintro e w2 ⟨rfl, hb2⟩))
      go_ret
      exact ⟨rfl, (by repeat (first | (with_reducible exact Below.refl _ _) | (with_reducible assumption) | (with_reducible exact bel_box _) | (with_reducible refine bel_step ?_ (by with_reducible assumption)) | (with_reducible refine Below.drew ?_) | (with_reducible refine below_drewN ?_ _) | (with_reducible refine bel_alloc ?_ _)))⟩
  · have q : (v == 0) = false := by simp [hv]
    rw [orEn hv]
    clear hv
    go_enter Tryz.func113, Tryz.ntmps113
    go_wp2_with (go_at_call 142; (with_reducible refine (K.out _ ?_).mono ?_); (focus ((repeat (first | (with_reducible exact Below.refl _ _) | (with_reducible assumption) | (with_reducible exact bel_box _) | (with_reducible refine bel_step ?_ (by with_reducible assumption)) | (with_reducible refine Below.drew ?_) | (with_reducible refine below_drewN ?_ _) | (with_reducible refine bel_alloc ?_ _))); done)); rintro e w1 ⟨rfl, hb1⟩; obtain ⟨g0, g1, g2, g3, g4⟩ := B2D (w := w) (W := w1) E d (by repeat (first | (with_reducible exact Below.refl _ _) | (with_reducible assumption) | (with_reducible exact bel_box _) | (with_reducible refine bel_step ?_ (by with_reducible assumption)) | (with_reducible refine Below.drew ?_) | (with_reducible refine below_drewN ?_ _) | (with_reducible refine bel_alloc ?_ _))))
    go_ret
    exact ⟨rfl, (by repeat (first | (with_reducible exact Below.refl _ _) | (with_reducible assumption) | (with_reducible exact bel_box _) | (with_reducible refine bel_step ?_ (by with_reducible assumption)) | (with_reducible refine Below.drew ?_) | (with_reducible refine below_drewN ?_ _) | (with_reducible refine bel_alloc ?_ _)))⟩
end Go.Proofs.YthlapepjebidgaaGreatDoor
/- first of the program, the rest. -/
namespace Go.Proofs.YthlapepjebidgaaGreatDoor
set_option linter.unusedVariables false
set_option linter.unusedSimpArgs false
open Go.RowKit
set_option maxHeartbeats 1000000 in
set_option maxRecDepth 20000 in
theorem first_State_state1 (f0 : Value) (f1 : Value) (f2 : Value) (r : Rw (St)) (err : St → Int) (w : World) (hR : RdR w w.heap.size 6 SC r)
    (K : Hid (∀ y ∈ r.l, ∀ W, Below w.heap.size w W → Calls Tryz.prog 145 #[sV y, f0, f1, f2] W (Bel (.int .i64 (err y)) W))) :
    Calls Tryz.prog 115 #[.slice r.A r.l.length r.c, .func (.func 145) #[] #[f0, f1, f2]] w (Bel (.int .i64 (errs (r.l.map err))) w) := by
  have h9 := hR.len
  unfold maxLen at h9
  have HR := Lib.hid hR
  obtain ⟨E, hE0, hEl, HE⟩ := errs_steps r.l err
  rw [← hE0]
  obtain ⟨V, hV⟩ : ∃ V, E 0 = V := ⟨_, rfl⟩
  have HV := Lib.hid hV
  have HL := Lib.hid hEl
  rw [hV]
  clear hR hE0 hEl hV
  skip
  go_enter Tryz.func115, Tryz.ntmps115
  go_wp2
  go_loopw [10] (fun i wr => ∃ k : Nat, k ≤ r.l.length ∧ i = .int .i64 (k : Int) ∧ Hid (E k = V) ∧ Below w.heap.size w wr) (fun i _ => r.l.length - (intOf i).toNat)
  case atStart => exact ⟨0, by omega, rfl, HV, Below.refl _ _⟩
  case round =>
    obtain ⟨k, hk, rfl, hE, hbl⟩ := hrel
    by_cases hlt : k < r.l.length
    · obtain ⟨ad, y, hA, had, hy, hm, ⟨c0, c1, c2, c3, c4, c5⟩⟩ := (HR.out.blw oneB_S hbl hbl.size).at_ hlt
      rw [hA]
      clear hA
      have hs := HE.out k y hy
      have KY := Lib.hid (K.out y hm)
      clear hy hm HE
      generalize err y = v at *
      by_cases hv : v = 0
      · subst hv
        have hn : Hid (E (k+1) = V) := Lib.hid (by rw [← hE.out, hs]; rfl)
        clear hs hE
        go_wp2_with (go_at_call 145; (with_reducible refine (KY.out _ ?_).mono ?_); (focus ((repeat (first | (with_reducible exact Below.refl _ _) | (with_reducible assumption) | (with_reducible exact bel_box _) | (with_reducible refine bel_step ?_ (by with_reducible assumption)) | (with_reducible refine Below.drew ?_) | (with_reducible refine below_drewN ?_ _) | (with_reducible refine bel_alloc ?_ _))); done)); rintro e w1 ⟨rfl, hb1⟩)
        exact ⟨⟨k+1, by omega, by congr 1, hn, (by repeat (first | (with_reducible exact Below.refl _ _) | (with_reducible assumption) | (with_reducible exact bel_box _) | (with_reducible refine bel_step ?_ (by with_reducible assumption)) | (with_reducible refine Below.drew ?_) | (with_reducible refine below_drewN ?_ _) | (with_reducible refine bel_alloc ?_ _)))⟩, by simp [intOf]; omega⟩
      · have hv2 : v = V := by rw [← hE.out, hs, orE, if_neg hv]
        have e0 : (v == 0) = false := by simp [hv]
        clear hs hE hv
        go_wp2_with (go_at_call 145; (with_reducible refine (KY.out _ ?_).mono ?_); (focus ((repeat (first | (with_reducible exact Below.refl _ _) | (with_reducible assumption) | (with_reducible exact bel_box _) | (with_reducible refine bel_step ?_ (by with_reducible assumption)) | (with_reducible refine Below.drew ?_) | (with_reducible refine below_drewN ?_ _) | (with_reducible refine bel_alloc ?_ _))); done)); rintro e w1 ⟨rfl, hb1⟩)
        go_ret
        exact ⟨(by first | rfl | exact congrArg (fun z : Int => Ending.returned (.int .i64 z)) hv2), (by repeat (first | (with_reducible exact Below.refl _ _) | (with_reducible assumption) | (with_reducible exact bel_box _) | (with_reducible refine bel_step ?_ (by with_reducible assumption)) | (with_reducible refine Below.drew ?_) | (with_reducible refine below_drewN ?_ _) | (with_reducible refine bel_alloc ?_ _)))⟩
    · obtain rfl : k = r.l.length := by omega
      have hv2 : 0 = V := HL.out.symm.trans hE.out
      clear hE HE HV HL
      go_wp2
      go_ret
      exact ⟨(by first | rfl | exact congrArg (fun z : Int => Ending.returned (.int .i64 z)) hv2), hbl⟩
set_option maxHeartbeats 1000000 in
set_option maxRecDepth 20000 in
theorem first_Trans_transition1 (f0 : Value) (f1 : Value) (r : Rw (Tt)) (err : Tt → Int) (w : World) (hR : RdR w w.heap.size 8 TC r)
    (K : Hid (∀ y ∈ r.l, ∀ W, Below w.heap.size w W → Calls Tryz.prog 171 #[tV y, f0, f1] W (Bel (.int .i64 (err y)) W))) :
    Calls Tryz.prog 147 #[.slice r.A r.l.length r.c, .func (.func 171) #[] #[f0, f1]] w (Bel (.int .i64 (errs (r.l.map err))) w) := by
  have h9 := hR.len
  unfold maxLen at h9
  have HR := Lib.hid hR
  obtain ⟨E, hE0, hEl, HE⟩ := errs_steps r.l err
  rw [← hE0]
  obtain ⟨V, hV⟩ : ∃ V, E 0 = V := ⟨_, rfl⟩
  have HV := Lib.hid hV
  have HL := Lib.hid hEl
  rw [hV]
  clear hR hE0 hEl hV
  skip
  go_enter Tryz.func147, Tryz.ntmps147
  go_wp2
  go_loopw [10] (fun i wr => ∃ k : Nat, k ≤ r.l.length ∧ i = .int .i64 (k : Int) ∧ Hid (E k = V) ∧ Below w.heap.size w wr) (fun i _ => r.l.length - (intOf i).toNat)
  case atStart => exact ⟨0, by omega, rfl, HV, Below.refl _ _⟩
  case round =>
    obtain ⟨k, hk, rfl, hE, hbl⟩ := hrel
    by_cases hlt : k < r.l.length
    · obtain ⟨ad, y, hA, had, hy, hm, ⟨⟨c0, c1, c2, c3, c4, c5⟩, c6, c7⟩⟩ := (HR.out.blw oneB_T hbl hbl.size).at_ hlt
      rw [hA]
      clear hA
      have hs := HE.out k y hy
      have KY := Lib.hid (K.out y hm)
      clear hy hm HE
      generalize err y = v at *
      by_cases hv : v = 0
      · subst hv
        have hn : Hid (E (k+1) = V) := Lib.hid (by rw [← hE.out, hs]; rfl)
        clear hs hE
        go_wp2_with (go_at_call 171; (with_reducible refine (KY.out _ ?_).mono ?_); (focus ((repeat (first | (with_reducible exact Below.refl _ _) | (with_reducible assumption) | (with_reducible exact bel_box _) | (with_reducible refine bel_step ?_ (by with_reducible assumption)) | (with_reducible refine Below.drew ?_) | (with_reducible refine below_drewN ?_ _) | (with_reducible refine bel_alloc ?_ _))); done)); rintro e w1 ⟨rfl, hb1⟩)
        exact ⟨⟨k+1, by omega, by congr 1, hn, (by repeat (first | (with_reducible exact Below.refl _ _) | (with_reducible assumption) | (with_reducible exact bel_box _) | (with_reducible refine bel_step ?_ (by with_reducible assumption)) | (with_reducible refine Below.drew ?_) | (with_reducible refine below_drewN ?_ _) | (with_reducible refine bel_alloc ?_ _)))⟩, by simp [intOf]; omega⟩
      · have hv2 : v = V := by rw [← hE.out, hs, orE, if_neg hv]
        have e0 : (v == 0) = false := by simp [hv]
        clear hs hE hv
        go_wp2_with (go_at_call 171; (with_reducible refine (KY.out _ ?_).mono ?_); (focus ((repeat (first | (with_reducible exact Below.refl _ _) | (with_reducible assumption) | (with_reducible exact bel_box _) | (with_reducible refine bel_step ?_ (by with_reducible assumption)) | (with_reducible refine Below.drew ?_) | (with_reducible refine below_drewN ?_ _) | (with_reducible refine bel_alloc ?_ _))); done)); rintro e w1 ⟨rfl, hb1⟩)
        go_ret
        exact ⟨(by first | rfl | exact congrArg (fun z : Int => Ending.returned (.int .i64 z)) hv2), (by repeat (first | (with_reducible exact Below.refl _ _) | (with_reducible assumption) | (with_reducible exact bel_box _) | (with_reducible refine bel_step ?_ (by with_reducible assumption)) | (with_reducible refine Below.drew ?_) | (with_reducible refine below_drewN ?_ _) | (with_reducible refine bel_alloc ?_ _)))⟩
    · obtain rfl : k = r.l.length := by omega
      have hv2 : 0 = V := HL.out.symm.trans hE.out
      clear hE HE HV HL
      go_wp2
      go_ret
      exact ⟨(by first | rfl | exact congrArg (fun z : Int => Ending.returned (.int .i64 z)) hv2), hbl⟩
set_option maxHeartbeats 1000000 in
set_option maxRecDepth 20000 in
theorem first_Trans_unless1 (f0 : Value) (r : Rw (Tt)) (err : Tt → Int) (w : World) (hR : RdR w w.heap.size 8 TC r)
    (K : Hid (∀ y ∈ r.l, ∀ W, Below w.heap.size w W → Calls Tryz.prog 170 #[tV y, f0] W (Bel (.int .i64 (err y)) W))) :
    Calls Tryz.prog 147 #[.slice r.A r.l.length r.c, .func (.func 170) #[] #[f0]] w (Bel (.int .i64 (errs (r.l.map err))) w) := by
  have h9 := hR.len
  unfold maxLen at h9
  have HR := Lib.hid hR
  obtain ⟨E, hE0, hEl, HE⟩ := errs_steps r.l err
  rw [← hE0]
  obtain ⟨V, hV⟩ : ∃ V, E 0 = V := ⟨_, rfl⟩
  have HV := Lib.hid hV
  have HL := Lib.hid hEl
  rw [hV]
  clear hR hE0 hEl hV
  skip
  go_enter Tryz.func147, Tryz.ntmps147
  go_wp2
  go_loopw [10] (fun i wr => ∃ k : Nat, k ≤ r.l.length ∧ i = .int .i64 (k : Int) ∧ Hid (E k = V) ∧ Below w.heap.size w wr) (fun i _ => r.l.length - (intOf i).toNat)
  case atStart => exact ⟨0, by omega, rfl, HV, Below.refl _ _⟩
  case round =>
    obtain ⟨k, hk, rfl, hE, hbl⟩ := hrel
    by_cases hlt : k < r.l.length
    · obtain ⟨ad, y, hA, had, hy, hm, ⟨⟨c0, c1, c2, c3, c4, c5⟩, c6, c7⟩⟩ := (HR.out.blw oneB_T hbl hbl.size).at_ hlt
      rw [hA]
      clear hA
      have hs := HE.out k y hy
      have KY := Lib.hid (K.out y hm)
      clear hy hm HE
      generalize err y = v at *
      by_cases hv : v = 0
      · subst hv
        have hn : Hid (E (k+1) = V) := Lib.hid (by rw [← hE.out, hs]; rfl)
        clear hs hE
        go_wp2_with (go_at_call 170; (with_reducible refine (KY.out _ ?_).mono ?_); (focus ((repeat (first | (with_reducible exact Below.refl _ _) | (with_reducible assumption) | (with_reducible exact bel_box _) | (with_reducible refine bel_step ?_ (by with_reducible assumption)) | (with_reducible refine Below.drew ?_) | (with_reducible refine below_drewN ?_ _) | (with_reducible refine bel_alloc ?_ _))); done)); rintro e w1 ⟨rfl, hb1⟩)
        exact ⟨⟨k+1, by omega, by congr 1, hn, (by repeat (first | (with_reducible exact Below.refl _ _) | (with_reducible assumption) | (with_reducible exact bel_box _) | (with_reducible refine bel_step ?_ (by with_reducible assumption)) | (with_reducible refine Below.drew ?_) | (with_reducible refine below_drewN ?_ _) | (with_reducible refine bel_alloc ?_ _)))⟩, by simp [intOf]; omega⟩
      · have hv2 : v = V := by rw [← hE.out, hs, orE, if_neg hv]
        have e0 : (v == 0) = false := by simp [hv]
        clear hs hE hv
        go_wp2_with (go_at_call 170; (with_reducible refine (KY.out _ ?_).mono ?_); (focus ((repeat (first | (with_reducible exact Below.refl _ _) | (with_reducible assumption) | (with_reducible exact bel_box _) | (with_reducible refine bel_step ?_ (by with_reducible assumption)) | (with_reducible refine Below.drew ?_) | (with_reducible refine below_drewN ?_ _) | (with_reducible refine bel_alloc ?_ _))); done)); rintro e w1 ⟨rfl, hb1⟩)
        go_ret
        exact ⟨(by first | rfl | exact congrArg (fun z : Int => Ending.returned (.int .i64 z)) hv2), (by repeat (first | (with_reducible exact Below.refl _ _) | (with_reducible assumption) | (with_reducible exact bel_box _) | (with_reducible refine bel_step ?_ (by with_reducible assumption)) | (with_reducible refine Below.drew ?_) | (with_reducible refine below_drewN ?_ _) | (with_reducible refine bel_alloc ?_ _)))⟩
    · obtain rfl : k = r.l.length := by omega
      have hv2 : 0 = V := HL.out.symm.trans hE.out
      clear hE HE HV HL
      go_wp2
      go_ret
      exact ⟨(by first | rfl | exact congrArg (fun z : Int => Ending.returned (.int .i64 z)) hv2), hbl⟩
set_option maxHeartbeats 1000000 in
set_option maxRecDepth 20000 in
theorem first_Expr_expr (b0 : Value) (r : Rw (Xt)) (err : Xt → Int) (w : World) (hR : RdR w w.heap.size 6 XC r)
    (K : Hid (∀ y ∈ r.l, ∀ W, Below w.heap.size w W → Calls Tryz.prog 55 #[b0, xV y] W (Bel (.int .i64 (err y)) W))) :
    Calls Tryz.prog 82 #[.slice r.A r.l.length r.c, .func (.func 55) #[b0] #[]] w (Bel (.int .i64 (errs (r.l.map err))) w) := by
  have h9 := hR.len
  unfold maxLen at h9
  have HR := Lib.hid hR
  obtain ⟨E, hE0, hEl, HE⟩ := errs_steps r.l err
  rw [← hE0]
  obtain ⟨V, hV⟩ : ∃ V, E 0 = V := ⟨_, rfl⟩
  have HV := Lib.hid hV
  have HL := Lib.hid hEl
  rw [hV]
  clear hR hE0 hEl hV
  simp only [xV] at K ⊢
  go_enter Tryz.func82, Tryz.ntmps82
  go_wp2
  go_loopw [10] (fun i wr => ∃ k : Nat, k ≤ r.l.length ∧ i = .int .i64 (k : Int) ∧ Hid (E k = V) ∧ Below w.heap.size w wr) (fun i _ => r.l.length - (intOf i).toNat)
  case atStart => exact ⟨0, by omega, rfl, HV, Below.refl _ _⟩
  case round =>
    obtain ⟨k, hk, rfl, hE, hbl⟩ := hrel
    by_cases hlt : k < r.l.length
    · obtain ⟨ad, y, hA, had, hy, hm, ⟨c0, c1, c2, c3, c4, c5⟩⟩ := (HR.out.blw oneB_X hbl hbl.size).at_ hlt
      rw [hA]
      clear hA
      have hs := HE.out k y hy
      have KY := Lib.hid (K.out y hm)
      clear hy hm HE
      generalize err y = v at *
      by_cases hv : v = 0
      · subst hv
        have hn : Hid (E (k+1) = V) := Lib.hid (by rw [← hE.out, hs]; rfl)
        clear hs hE
        go_wp2_with (go_at_call 55; (with_reducible refine (KY.out _ ?_).mono ?_); (focus ((repeat (first | (with_reducible exact Below.refl _ _) | (with_reducible assumption) | (with_reducible exact bel_box _) | (with_reducible refine bel_step ?_ (by with_reducible assumption)) | (with_reducible refine Below.drew ?_) | (with_reducible refine below_drewN ?_ _) | (with_reducible refine bel_alloc ?_ _))); done)); rintro e w1 ⟨rfl, hb1⟩)
        exact ⟨⟨k+1, by omega, by congr 1, hn, (by repeat (first | (with_reducible exact Below.refl _ _) | (with_reducible assumption) | (with_reducible exact bel_box _) | (with_reducible refine bel_step ?_ (by with_reducible assumption)) | (with_reducible refine Below.drew ?_) | (with_reducible refine below_drewN ?_ _) | (with_reducible refine bel_alloc ?_ _)))⟩, by simp [intOf]; omega⟩
      · have hv2 : v = V := by rw [← hE.out, hs, orE, if_neg hv]
        have e0 : (v == 0) = false := by simp [hv]
        clear hs hE hv
        go_wp2_with (go_at_call 55; (with_reducible refine (KY.out _ ?_).mono ?_); (focus ((repeat (first | (with_reducible exact Below.refl _ _) | (with_reducible assumption) | (with_reducible exact bel_box _) | (with_reducible refine bel_step ?_ (by with_reducible assumption)) | (with_reducible refine Below.drew ?_) | (with_reducible refine below_drewN ?_ _) | (with_reducible refine bel_alloc ?_ _))); done)); rintro e w1 ⟨rfl, hb1⟩)
        go_ret
        exact ⟨(by first | rfl | exact congrArg (fun z : Int => Ending.returned (.int .i64 z)) hv2), (by repeat (first | (with_reducible exact Below.refl _ _) | (with_reducible assumption) | (with_reducible exact bel_box _) | (with_reducible refine bel_step ?_ (by with_reducible assumption)) | (with_reducible refine Below.drew ?_) | (with_reducible refine below_drewN ?_ _) | (with_reducible refine bel_alloc ?_ _)))⟩
    · obtain rfl : k = r.l.length := by omega
      have hv2 : 0 = V := HL.out.symm.trans hE.out
      clear hE HE HV HL
      go_wp2
      go_ret
      exact ⟨(by first | rfl | exact congrArg (fun z : Int => Ending.returned (.int .i64 z)) hv2), hbl⟩
set_option maxHeartbeats 1000000 in
set_option maxRecDepth 20000 in
theorem first_Expr_within (b0 : Value) (r : Rw (Xt)) (err : Xt → Int) (w : World) (hR : RdR w w.heap.size 6 XC r)
    (K : Hid (∀ y ∈ r.l, ∀ W, Below w.heap.size w W → Calls Tryz.prog 86 #[b0, xV y] W (Bel (.int .i64 (err y)) W))) :
    Calls Tryz.prog 82 #[.slice r.A r.l.length r.c, .func (.func 86) #[b0] #[]] w (Bel (.int .i64 (errs (r.l.map err))) w) := by
  have h9 := hR.len
  unfold maxLen at h9
  have HR := Lib.hid hR
  obtain ⟨E, hE0, hEl, HE⟩ := errs_steps r.l err
  rw [← hE0]
  obtain ⟨V, hV⟩ : ∃ V, E 0 = V := ⟨_, rfl⟩
  have HV := Lib.hid hV
  have HL := Lib.hid hEl
  rw [hV]
  clear hR hE0 hEl hV
  simp only [xV] at K ⊢
  go_enter Tryz.func82, Tryz.ntmps82
  go_wp2
  go_loopw [10] (fun i wr => ∃ k : Nat, k ≤ r.l.length ∧ i = .int .i64 (k : Int) ∧ Hid (E k = V) ∧ Below w.heap.size w wr) (fun i _ => r.l.length - (intOf i).toNat)
  case atStart => exact ⟨0, by omega, rfl, HV, Below.refl _ _⟩
  case round =>
    obtain ⟨k, hk, rfl, hE, hbl⟩ := hrel
    by_cases hlt : k < r.l.length
    · obtain ⟨ad, y, hA, had, hy, hm, ⟨c0, c1, c2, c3, c4, c5⟩⟩ := (HR.out.blw oneB_X hbl hbl.size).at_ hlt
      rw [hA]
      clear hA
      have hs := HE.out k y hy
      have KY := Lib.hid (K.out y hm)
      clear hy hm HE
      generalize err y = v at *
      by_cases hv : v = 0
      · subst hv
        have hn : Hid (E (k+1) = V) := Lib.hid (by rw [← hE.out, hs]; rfl)
        clear hs hE
        go_wp2_with (go_at_call 86; (with_reducible refine (KY.out _ ?_).mono ?_); (focus ((repeat (first | (with_reducible exact Below.refl _ _) | (with_reducible assumption) | (with_reducible exact bel_box _) | (with_reducible refine bel_step ?_ (by with_reducible assumption)) | (with_reducible refine Below.drew ?_) | (with_reducible refine below_drewN ?_ _) | (with_reducible refine bel_alloc ?_ _))); done)); rintro e w1 ⟨rfl, hb1⟩)
        exact ⟨⟨k+1, by omega, by congr 1, hn, (by repeat (first | (with_reducible exact Below.refl _ _) | (with_reducible assumption) | (with_reducible exact bel_box _) | (with_reducible refine bel_step ?_ (by with_reducible assumption)) | (with_reducible refine Below.drew ?_) | (with_reducible refine below_drewN ?_ _) | (with_reducible refine bel_alloc ?_ _)))⟩, by simp [intOf]; omega⟩
      · have hv2 : v = V := by rw [← hE.out, hs, orE, if_neg hv]
        have e0 : (v == 0) = false := by simp [hv]
        clear hs hE hv
        go_wp2_with (go_at_call 86; (with_reducible refine (KY.out _ ?_).mono ?_); (focus ((repeat (first | (with_reducible exact Below.refl _ _) | (with_reducible assumption) | (with_reducible exact bel_box _) | (with_reducible refine bel_step ?_ (by with_reducible assumption)) | (with_reducible refine Below.drew ?_) | (with_reducible refine below_drewN ?_ _) | (with_reducible refine bel_alloc ?_ _))); done)); rintro e w1 ⟨rfl, hb1⟩)
        go_ret
        exact ⟨(by first | rfl | exact congrArg (fun z : Int => Ending.returned (.int .i64 z)) hv2), (by repeat (first | (with_reducible exact Below.refl _ _) | (with_reducible assumption) | (with_reducible exact bel_box _) | (with_reducible refine bel_step ?_ (by with_reducible assumption)) | (with_reducible refine Below.drew ?_) | (with_reducible refine below_drewN ?_ _) | (with_reducible refine bel_alloc ?_ _)))⟩
    · obtain rfl : k = r.l.length := by omega
      have hv2 : 0 = V := HL.out.symm.trans hE.out
      clear hE HE HV HL
      go_wp2
      go_ret
      exact ⟨(by first | rfl | exact congrArg (fun z : Int => Ending.returned (.int .i64 z)) hv2), hbl⟩
set_option maxHeartbeats 1000000 in
set_option maxRecDepth 20000 in
theorem first_Eq_equation (b0 : Value) (r : Rw (Qt)) (err : Qt → Int) (w : World) (hR : RdR w w.heap.size 7 QC r)
    (K : Hid (∀ y ∈ r.l, ∀ W, Below w.heap.size w W → Calls Tryz.prog 79 #[b0, qV y] W (Bel (.int .i64 (err y)) W))) :
    Calls Tryz.prog 146 #[.slice r.A r.l.length r.c, .func (.func 79) #[b0] #[]] w (Bel (.int .i64 (errs (r.l.map err))) w) := by
  have h9 := hR.len
  unfold maxLen at h9
  have HR := Lib.hid hR
  obtain ⟨E, hE0, hEl, HE⟩ := errs_steps r.l err
  rw [← hE0]
  obtain ⟨V, hV⟩ : ∃ V, E 0 = V := ⟨_, rfl⟩
  have HV := Lib.hid hV
  have HL := Lib.hid hEl
  rw [hV]
  clear hR hE0 hEl hV
  skip
  go_enter Tryz.func146, Tryz.ntmps146
  go_wp2
  go_loopw [10] (fun i wr => ∃ k : Nat, k ≤ r.l.length ∧ i = .int .i64 (k : Int) ∧ Hid (E k = V) ∧ Below w.heap.size w wr) (fun i _ => r.l.length - (intOf i).toNat)
  case atStart => exact ⟨0, by omega, rfl, HV, Below.refl _ _⟩
  case round =>
    obtain ⟨k, hk, rfl, hE, hbl⟩ := hrel
    by_cases hlt : k < r.l.length
    · obtain ⟨ad, y, hA, had, hy, hm, ⟨c0, c1, c2, c3, c4, c5, c6⟩⟩ := (HR.out.blw oneB_Q hbl hbl.size).at_ hlt
      rw [hA]
      clear hA
      have hs := HE.out k y hy
      have KY := Lib.hid (K.out y hm)
      clear hy hm HE
      generalize err y = v at *
      by_cases hv : v = 0
      · subst hv
        have hn : Hid (E (k+1) = V) := Lib.hid (by rw [← hE.out, hs]; rfl)
        clear hs hE
        go_wp2_with (go_at_call 79; (with_reducible refine (KY.out _ ?_).mono ?_); (focus ((repeat (first | (with_reducible exact Below.refl _ _) | (with_reducible assumption) | (with_reducible exact bel_box _) | (with_reducible refine bel_step ?_ (by with_reducible assumption)) | (with_reducible refine Below.drew ?_) | (with_reducible refine below_drewN ?_ _) | (with_reducible refine bel_alloc ?_ _))); done)); rintro e w1 ⟨rfl, hb1⟩)
        exact ⟨⟨k+1, by omega, by congr 1, hn, (by repeat (first | (with_reducible exact Below.refl _ _) | (with_reducible assumption) | (with_reducible exact bel_box _) | (with_reducible refine bel_step ?_ (by with_reducible assumption)) | (with_reducible refine Below.drew ?_) | (with_reducible refine below_drewN ?_ _) | (with_reducible refine bel_alloc ?_ _)))⟩, by simp [intOf]; omega⟩
      · have hv2 : v = V := by rw [← hE.out, hs, orE, if_neg hv]
        have e0 : (v == 0) = false := by simp [hv]
        clear hs hE hv
        go_wp2_with (go_at_call 79; (with_reducible refine (KY.out _ ?_).mono ?_); (focus ((repeat (first | (with_reducible exact Below.refl _ _) | (with_reducible assumption) | (with_reducible exact bel_box _) | (with_reducible refine bel_step ?_ (by with_reducible assumption)) | (with_reducible refine Below.drew ?_) | (with_reducible refine below_drewN ?_ _) | (with_reducible refine bel_alloc ?_ _))); done)); rintro e w1 ⟨rfl, hb1⟩)
        go_ret
        exact ⟨(by first | rfl | exact congrArg (fun z : Int => Ending.returned (.int .i64 z)) hv2), (by repeat (first | (with_reducible exact Below.refl _ _) | (with_reducible assumption) | (with_reducible exact bel_box _) | (with_reducible refine bel_step ?_ (by with_reducible assumption)) | (with_reducible refine Below.drew ?_) | (with_reducible refine below_drewN ?_ _) | (with_reducible refine bel_alloc ?_ _)))⟩
    · obtain rfl : k = r.l.length := by omega
      have hv2 : 0 = V := HL.out.symm.trans hE.out
      clear hE HE HV HL
      go_wp2
      go_ret
      exact ⟨(by first | rfl | exact congrArg (fun z : Int => Ending.returned (.int .i64 z)) hv2), hbl⟩
end Go.Proofs.YthlapepjebidgaaGreatDoor
