/- Texts of one chain, in one file. -/
import Derived.Test.YtoimjcfdiljkjaaGreatDoorRows
import Derived.Stop.LaidErr
import Derived.Lib.LaidTab
import Derived.LaidMore
import Derived.Lay
import Derived.LaidOnce
import Derived.ChangeSlices
import Derived.ChangeSame
import Derived.ChangeMaps
import Derived.Stop.Joined
import Derived.Test.YtoimjcfdiljkjaaGreatDoorQJ
/- How long texts can be. -/
namespace Go.Proofs.YtoimjcfdiljkjaaGreatDoor
set_option linter.unusedVariables false
set_option linter.unusedSimpArgs false
open Go.RowKit
theorem id_size {s : ByteArray} (h : idP s = true) : s.size ≤ 66 := by
  unfold idP at h
  simp only [Bool.and_eq_true, decide_eq_true_eq, beq_iff_eq] at h
  obtain ⟨h0, h1, h2⟩ := h
  unfold fst at h1 h2
  rw [dif_pos h0] at h1 h2
  split at h1
  · rename_i hp
    rw [if_pos hp] at h2
    split at h2
    · simp only at h2
      have : sp pI s.data.toList = s.size := by omega
      omega
    · simp only at h2
      omega
  · split at h1
    · split at h1
      · simp at h1
      · split at h1
        · simp at h1
        · simp at h1
    · split at h1
      · split at h1
        · simp at h1
        · simp at h1
      · split at h1
        · simp at h1
        · split at h1
          · simp at h1
          · simp at h1
theorem nm_66 {x : Xt} (h : chk1 wokP x = 0) : x.nm.size ≤ 66 := by
  unfold chk1 at h
  split at h
  · cases h
  split at h
  · cases h
  split at h
  · cases h
  rename_i h1 h2 h3
  have h4 : formedP x.k x.op x.t x.v x.ar.length (wokP x.nm) = true ∧ onlyP x.k x.op x.t x.v (x.nm.toList == []) = true := by
    rw [← Bool.and_eq_true]
    exact Decidable.byContradiction fun hn => h2 (by simpa using hn)
  by_cases hi : hasIdn x.k = true
  · rw [hi, Bool.true_and] at h3
    exact id_size (by simpa using h3)
  · by_cases h11 : x.k = 11
    · have := h4.1
      unfold formedP at this
      rw [if_neg (by omega), if_neg (by omega), if_neg (by omega), if_neg (by omega), if_neg (by omega), if_neg (by omega), if_neg (by omega), if_neg (by omega), if_neg (by omega), if_pos h11, Bool.and_eq_true] at this
      have h5 := this.2
      have hw : x.nm.size ≤ 66 ∧ ∃ h l, x.nm = bw.wtx h l ∧ bw.ck h l = 0 := Classical.byContradiction fun hn => by
        rw [wokP_no hn] at h5
        cases h5
      exact hw.1
    · rcases Nat.eq_zero_or_pos x.nm.size with h0 | h0
      · omega
      · have hne := (ne_facts h0).1
        have ho := h4.2
        rw [hne] at ho
        simp only [hasIdn, hasVar, Bool.or_eq_true, beq_iff_eq, not_or] at hi
        unfold onlyP at ho
        split at ho
        · cases ho
        split at ho
        · cases ho
        rw [if_neg (by omega), if_neg (by omega), if_neg (by omega), if_neg (by omega)] at ho
        simp at ho
theorem k_11 {x : Xt} (h : chk1 wokP x = 0) : (1 ≤ x.k ∧ x.k ≤ 11) ∧ x.ar.length ≤ 64 := by
  unfold chk1 at h
  split at h
  · cases h
  split at h
  · cases h
  rename_i h1 h2
  refine ⟨?_, by omega⟩
  have h4 : formedP x.k x.op x.t x.v x.ar.length (wokP x.nm) = true := by
    refine Decidable.byContradiction fun hn => h2 ?_
    have : formedP x.k x.op x.t x.v x.ar.length (wokP x.nm) = false := by simpa using hn
    rw [this]; rfl
  refine Decidable.byContradiction fun hn => ?_
  unfold formedP at h4
  rw [if_neg (by omega), if_neg (by omega), if_neg (by omega), if_neg (by omega), if_neg (by omega), if_neg (by omega), if_neg (by omega), if_neg (by omega), if_neg (by omega), if_neg (by omega)] at h4
  cases h4
theorem wfK_of {x : Xt} (h : chk1 wokP x = 0) (ht : x.t ≤ 9223372036854775807) : wfK x := by
  obtain ⟨h1, h2⟩ := k_11 h
  exact ⟨⟨wf1_of h, ht, by omega⟩, h1, by omega⟩
theorem getD3 (ts : List (List UInt8)) : (ts.getD 0 []).length + (ts.getD 1 []).length + (ts.getD 2 []).length ≤ (ts.map List.length).sum := by
  rcases ts with _ | ⟨a, _ | ⟨b, _ | ⟨c, r⟩⟩⟩ <;> simp <;> omega
theorem opd_le (x : Xt) (s : List UInt8) : (opdS x s).length ≤ s.length + 2 := by
  unfold opdS brS
  split
  · omega
  · simp only [List.length_append, List.length_cons, List.length_nil]; omega
theorem opI_le (l : List Xt) (ts : List (List UInt8)) (i : Nat) : (opI l ts i).length ≤ (ts.getD i []).length + 2 := opd_le _ _
theorem sym_len (op : Int) : (symS op).length ≤ 3 := by
  have key : ∀ (c : Prop) [Decidable c] (a b : List UInt8), a.length ≤ 3 → b.length ≤ 3 → (if c then a else b).length ≤ 3 := fun c _ a b ha hb => by split <;> assumption
  unfold symS
  repeat (refine key _ _ _ (by decide) ?_)
  decide
theorem join_len (ts : List (List UInt8)) (sep : List UInt8) : (Lib.join ts sep).length ≤ (ts.map fun t => t.length + sep.length).sum := by
  cases ts with
  | nil => simp [Lib.join_nil]
  | cons a r =>
    rw [Lib.join_length, List.map_cons, List.sum_cons]
    have : Lib.lens (a :: r) = a.length + Lib.lens r := by simp [Lib.lens]
    have h2 : ∀ l : List (List UInt8), (l.map fun t => t.length + sep.length).sum = Lib.lens l + sep.length * l.length := by
      intro l
      induction l with
      | nil => simp [Lib.lens]
      | cons b l ih => rw [List.map_cons, List.sum_cons, ih]; simp [Lib.lens, Nat.mul_add]; omega
    rw [h2, this]
    omega
theorem idx_len (ts : List (List UInt8)) (c : Nat) : ∀ f : Nat → List UInt8 → List UInt8, (∀ i s, (f i s).length ≤ s.length + c) → (ts.mapIdx f).flatten.length ≤ (ts.map fun t => t.length + c).sum := by
  induction ts with
  | nil => intro f _; simp
  | cons a l ih =>
    intro f hf
    rw [List.mapIdx_cons, List.flatten_cons, List.length_append, List.map_cons, List.sum_cons]
    have h1 := hf 0 a
    have h2 := ih (fun i => f (i + 1)) fun i s => hf (i + 1) s
    omega
theorem take_get (ts : List (List UInt8)) (c : Nat) : ∀ k, ((ts.take k).map fun t => t.length + c).sum + (ts.getD k []).length ≤ (ts.map fun t => t.length + c).sum := by
  induction ts with
  | nil => intro k; simp
  | cons a l ih =>
    intro k
    cases k with
    | zero => simp; omega
    | succ k =>
      have := ih k
      rw [List.take_succ_cons, List.map_cons, List.map_cons, List.sum_cons, List.sum_cons, List.getD_cons_succ]
      omega
theorem flat_rev (l : List (List UInt8)) : l.reverse.flatten.length = l.flatten.length := by
  simp [List.length_flatten, List.sum_reverse]
/-- one expression more -/
theorem nd_len (es : List va.En) (M : Nat) (hv : ∀ t v, (valS es t v).length ≤ M) (x : Xt) (hn : x.nm.size ≤ M) (ts : List (List UInt8)) (hl : ts.length = x.ar.length) : (ndS es x ts).length ≤ 30 + 2 * M + (ts.map fun t => t.length + M + 10).sum := by
  have h3 := getD3 ts
  have hs : ∀ c, (ts.map fun t => t.length + c).sum = (ts.map List.length).sum + c * ts.length := fun c => by
    clear h3 hl
    induction ts with
    | nil => simp
    | cons a l ih => simp only [List.map_cons, List.sum_cons, ih, List.length_cons, Nat.mul_add]; omega
  have hs9 := hs (M + 10)
  have e9 : (ts.map fun t => t.length + M + 10) = (ts.map fun t => t.length + (M + 10)) := by congr 1
  rw [e9, hs9]
  have hb : (bsT x.nm).length ≤ M := by rw [bsT_size]; exact hn
  have h0 := opI_le x.ar ts 0
  have h1 := opI_le x.ar ts 1
  have hvx := hv x.t x.v
  generalize (ts.map List.length).sum = S at *
  have hm : 0 ≤ (M + 10) * ts.length := Nat.zero_le _
  unfold ndS
  split
  · omega
  split
  · unfold oprS
    split
    · simp only [List.length_append, List.length_cons, List.length_nil]; omega
    split
    · have : (negS (x.ar.getD 0 xt0) (ts.getD 0 [])).length ≤ (ts.getD 0 []).length + 2 := by
        unfold negS
        split
        · unfold brS; simp only [List.length_append, List.length_cons, List.length_nil]; omega
        · exact opd_le _ _
      simp only [List.length_append, List.length_cons, List.length_nil]; omega
    · have := sym_len x.op
      unfold betS
      simp only [List.length_append, List.length_cons, List.length_nil]; omega
  split
  · simp only [List.length_append, List.length_cons, List.length_nil]; omega
  split
  · simp only [List.length_append, List.length_cons, List.length_nil]; omega
  split
  · unfold betS; simp only [List.length_append, List.length_cons, List.length_nil]; omega
  split
  · unfold betS; simp only [List.length_append, List.length_cons, List.length_nil]; omega
  split
  · unfold smpS brS; simp only [List.length_append, List.length_cons, List.length_nil]; omega
  split
  · have hi := idx_len ts (M + 7) (braS es x.t) fun i s => by
      have := hv x.t i
      unfold braS brS
      simp only [List.length_append, List.length_cons, List.length_nil]
      omega
    have hf : (brsS es x.t ts).flatten.length ≤ (ts.map fun t => t.length + (M + 7)).sum := by
      unfold brsS
      split
      · rw [flat_rev]; exact hi
      · exact hi
    rw [hs] at hf
    have hm2 : (M + 7) * ts.length ≤ (M + 10) * ts.length := Nat.mul_le_mul_right _ (by omega)
    unfold mrgS
    simp only [List.length_append, List.length_cons, List.length_nil]
    omega
  split
  · have hm2 : 2 * ts.length ≤ (M + 10) * ts.length := Nat.mul_le_mul_right _ (by omega)
    have hs2 := hs 2
    unfold calS brS
    by_cases v1 : x.v = 1
    · rw [if_pos v1, v1]
      have hj : (Lib.join (ts.take (ts.length - (1 : Int).toNat)) [44, 32]).length ≤ ((ts.take (ts.length - (1 : Int).toNat)).map fun t => t.length + 2).sum := join_len _ [44, 32]
      have ht := take_get ts 2 (ts.length - (1 : Int).toNat)
      have ho := opI_le x.ar ts (ts.length - 1)
      have e1 : ts.length - (1 : Int).toNat = ts.length - 1 := rfl
      rw [e1] at hj ht ⊢
      simp only [List.length_append, List.length_cons, List.length_nil]
      omega
    · rw [if_neg v1]
      have hj : (Lib.join (ts.take (ts.length - x.v.toNat)) [44, 32]).length ≤ ((ts.take (ts.length - x.v.toNat)).map fun t => t.length + 2).sum := join_len _ [44, 32]
      have ht := take_get ts 2 (ts.length - x.v.toNat)
      simp only [List.length_append, List.length_cons, List.length_nil]
      omega
  split
  · simp only [List.length_append, List.length_cons, List.length_nil]; omega
  · omega
theorem tx_len (es : List va.En) (M : Nat) (hv : ∀ t v, (valS es t v).length ≤ M) : ∀ x : Xt, (∀ y ∈ x.list, y.nm.size ≤ M) → (x.tx es).length + M + 10 ≤ x.size * (3 * M + 40) := by
  refine Xt.ind fun x ih hn => ?_
  rw [Xt.tx_eq]
  have h := nd_len es M hv x (hn x (list_self x)) (x.ar.map (Xt.tx es)) (by simp)
  rw [List.map_map] at h
  have hs : ((x.ar.map ((fun t => t.length + M + 10) ∘ Xt.tx es))).sum ≤ (x.ar.map Xt.size).sum * (3 * M + 40) := by
    have key : ∀ l : List Xt, (∀ y ∈ l, (y.tx es).length + M + 10 ≤ y.size * (3 * M + 40)) → ((l.map ((fun t => t.length + M + 10) ∘ Xt.tx es))).sum ≤ (l.map Xt.size).sum * (3 * M + 40) := by
      intro l
      induction l with
      | nil => intro _; simp
      | cons a l ih2 =>
        intro h
        rw [List.map_cons, List.map_cons, List.sum_cons, List.sum_cons, Nat.add_mul]
        have h1 := h a List.mem_cons_self
        have h2 := ih2 fun y hy => h y (List.mem_cons_of_mem _ hy)
        simp only [Function.comp] at h1 h2 ⊢
        omega
    exact key x.ar fun y hy => ih y hy fun z hz => hn z (list_kid hy hz)
  rw [Xt.size_eq, Nat.add_mul]
  omega
end Go.Proofs.YtoimjcfdiljkjaaGreatDoor
/- heavy of enumerations alone, few of the law. -/
namespace Go.Proofs.YtoimjcfdiljkjaaGreatDoor
set_option linter.unusedVariables false
set_option linter.unusedSimpArgs false
open Go.RowKit Go.Sort
set_option maxHeartbeats 2000000 in
set_option maxRecDepth 20000 in
theorem vw_weigh0 (E : Rw va.En) (w : World) (hE : RsE w w.heap.size E) :
    Calls Tryz.prog 19 #[.agg #[.slice E.A E.l.length E.c, .slice none 0 0], .int .i64 1500] w (fun e w' => ∃ v : Int, e = .returned (.int .i64 v) ∧ Below w.heap.size w w') := by
  have HE := Lib.hid hE.1
  have h9 := hE.2.1.1
  unfold maxLen at h9
  clear hE
  go_enter Tryz.func19, Tryz.ntmps19
  go_wp2
  obtain ⟨W0, hW0⟩ : ∃ W0, (w.alloc (.cells #[.slice E.A E.l.length E.c, .slice none 0 0] 25)) = W0 := ⟨_, rfl⟩
  have hB0 : Below w.heap.size w W0 := by rw [← hW0]; exact bel_box _
  have b0 : W0.cell? ⟨w.heap.size, 0, none⟩ = some (.slice E.A E.l.length E.c) := by rw [← hW0]; simp [go_sem]
  have b1 : W0.cell? ⟨w.heap.size, 1, none⟩ = some (.slice none 0 0) := by rw [← hW0]; simp [go_sem]
  rw [hW0]
  clear hW0
  go_loopw [5, 6] (fun n i wr => ∃ (k : Nat) (nv : Int), k ≤ E.l.length ∧ i = .int .i64 (k : Int) ∧ n = .int .i64 nv ∧ Below W0.heap.size W0 wr) (fun _ i _ => E.l.length - (intOf i).toNat)
  case atStart => exact ⟨0, (E.l.length : Int), by omega, rfl, rfl, Below.refl _ _⟩
  case round =>
    obtain ⟨k, nv, hk, rfl, rfl, hbl⟩ := hrel
    have hbw : Below w.heap.size w wr := hB0.trans (hbl.mono hB0.size)
    have b0 := cell_below hbl b0
    have b1 := cell_below hbl b1
    by_cases hlt : k < E.l.length
    · have hik : (k : Int) < (E.l.length : Int) := by omega
      by_cases hn : nv < 1500
      · obtain ⟨ad, e, hA, had, he, c0, c1, _⟩ := (HE.out.to hbw).at_ hlt
        obtain ⟨nv', hwr⟩ : ∃ v, IntKind.i64.wrap (nv + (e.tags.length : Int)) = v := ⟨_, rfl⟩
        rw [hA] at b0
        clear hA he
        go_wp2
        exact ⟨⟨k + 1, _, by omega, by congr 1, rfl, hbl⟩, by simp [intOf]; omega⟩
      · have hn2 : (1500 : Int) ≤ nv := by omega
        clear hn
        go_wp2
        go_loopw [5, 7] (fun n i W => n = .int .i64 nv ∧ i = .int .i64 0 ∧ W = wr) (fun _ i _ => 0)
        case atStart => exact ⟨rfl, rfl, rfl⟩
        case round =>
          obtain ⟨rfl, rfl, rfl⟩ := hrel
          go_wp2
          go_ret
          exact ⟨nv, rfl, hbw⟩
    · obtain rfl : k = E.l.length := by omega
      go_wp2
      go_loopw [5, 7] (fun n i W => n = .int .i64 nv ∧ i = .int .i64 0 ∧ W = wr) (fun _ i _ => 0)
      case atStart => exact ⟨rfl, rfl, rfl⟩
      case round =>
        obtain ⟨rfl, rfl, rfl⟩ := hrel
        go_wp2
        go_ret
        exact ⟨nv, rfl, hbw⟩

theorem vw_few (E : Rw va.En) (w : World) (hE : RsE w w.heap.size E) :
    Calls Tryz.prog 11 #[.slice E.A E.l.length E.c] w (fun e w' => ∃ b : Bool, e = .returned (.bool b) ∧ Below w.heap.size w w') := by
  have KW : Hid (∀ W, Below w.heap.size w W → Calls Tryz.prog 19 #[.agg #[.slice E.A E.l.length E.c, .slice none 0 0], .int .i64 1500] W (fun e w' => ∃ v : Int, e = .returned (.int .i64 v) ∧ Below W.heap.size W w')) := Lib.hid fun W hb => vw_weigh0 E W (hE.blw hb hb.size)
  clear hE
  have KH : Hid (∀ W, Below w.heap.size w W → Calls Tryz.prog 7 #[.agg #[.slice E.A E.l.length E.c, .slice none 0 0]] W (fun e w' => ∃ b : Bool, e = .returned (.bool b) ∧ Below W.heap.size W w')) := Lib.hid fun W hb => by
    have KW2 : Hid (∀ W', Below W.heap.size W W' → Calls Tryz.prog 19 #[.agg #[.slice E.A E.l.length E.c, .slice none 0 0], .int .i64 1500] W' (fun e w' => ∃ v : Int, e = .returned (.int .i64 v) ∧ Below W'.heap.size W' w')) := Lib.hid fun W' hb' => KW.out W' (hb.trans (hb'.mono hb.size))
    clear KW hb
    go_enter Tryz.func7, Tryz.ntmps7
    go_wp2_with (go_at_call 19; (with_reducible refine (KW2.out _ ?_).mono ?_); (focus ((repeat (first | (with_reducible exact Below.refl _ _) | (with_reducible assumption) | (with_reducible exact bel_box _) | (with_reducible refine bel_step ?_ (by with_reducible assumption)) | (with_reducible refine Below.drew ?_) | (with_reducible refine below_drewN ?_ _) | (with_reducible refine bel_alloc ?_ _))); done)); rintro e w1 ⟨v, rfl, hb1⟩)
    go_ret
    exact ⟨_, rfl, (by repeat (first | (with_reducible exact Below.refl _ _) | (with_reducible assumption) | (with_reducible exact bel_box _) | (with_reducible refine bel_step ?_ (by with_reducible assumption)) | (with_reducible refine Below.drew ?_) | (with_reducible refine below_drewN ?_ _) | (with_reducible refine bel_alloc ?_ _)))⟩
  clear KW
  go_enter Tryz.func11, Tryz.ntmps11
  go_wp2_with (go_at_call 7; (with_reducible refine (KH.out _ ?_).mono ?_); (focus ((repeat (first | (with_reducible exact Below.refl _ _) | (with_reducible assumption) | (with_reducible exact bel_box _) | (with_reducible refine bel_step ?_ (by with_reducible assumption)) | (with_reducible refine Below.drew ?_) | (with_reducible refine below_drewN ?_ _) | (with_reducible refine bel_alloc ?_ _))); done)); rintro e w1 ⟨v, rfl, hb1⟩)
  go_ret
  exact ⟨_, rfl, (by repeat (first | (with_reducible exact Below.refl _ _) | (with_reducible assumption) | (with_reducible exact bel_box _) | (with_reducible refine bel_step ?_ (by with_reducible assumption)) | (with_reducible refine Below.drew ?_) | (with_reducible refine below_drewN ?_ _) | (with_reducible refine bel_alloc ?_ _)))⟩
end Go.Proofs.YtoimjcfdiljkjaaGreatDoor
/- The law's example, in memory. -/
namespace Go.Proofs.YtoimjcfdiljkjaaGreatDoor
set_option linter.unusedVariables false
set_option linter.unusedSimpArgs false
open Go.RowKit
theorem rdr_one {α : Type} {w : World} {B sz : Nat} {C : World → Addr → α → Prop} {ad : Addr} {y : α} (hb : ad.block < B) (hc : C w ad y) (c : Nat) (h1 : 1 ≤ c) : RdR w B sz C ⟨some ad, c, [y]⟩ := by
  refine ⟨fun _ => ⟨ad, rfl, hb⟩, fun a i z hA hz => ?_, by simp [maxLen], h1⟩
  obtain rfl : ad = a := Option.some.inj hA
  cases i with
  | zero =>
    obtain rfl : y = z := by simpa using hz
    rw [Nat.zero_mul, add_zero']
    exact hc
  | succ i => simp at hz
theorem rsn_nil {w : World} {B : Nat} : RsDs w B ⟨none, 0, []⟩ := ⟨RdR.nil _ _ _ _ _, fun d h => by cases h⟩
end Go.Proofs.YtoimjcfdiljkjaaGreatDoor
/- awake: the walk. -/
namespace Go.Proofs.YtoimjcfdiljkjaaGreatDoor
set_option linter.unusedVariables false
set_option linter.unusedSimpArgs false
open Go.RowKit Go.Sort
theorem law_variable (s : ByteArray) (w : World) : Calls Tryz.prog 20 #[.string s] w (fun e w' => e = .returned (.agg #[.int .i64 2, .int .i64 0, .int .i64 0, .int .i64 0, .string s, .slice none 0 0]) ∧ w' = w.alloc (.cells #[.int .i64 2, .int .i64 0, .int .i64 0, .int .i64 0, .string s, .slice none 0 0] 33)) := by
  go_enter Tryz.func20, Tryz.ntmps20
  go_wp2
  refine bodyPost_ret (v := .agg #[.int .i64 2, .int .i64 0, .int .i64 0, .int .i64 0, .string s, .slice none 0 0]) (by simp [results, Tryz.f20, go_sem]) rfl ⟨rfl, rfl⟩
theorem law_number (n : Int) (w : World) : Calls Tryz.prog 21 #[.int .i64 n] w (fun e w' => e = .returned (.agg #[.int .i64 1, .int .i64 0, .int .i64 2, .int .i64 n, .string ⟨#[]⟩, .slice none 0 0]) ∧ w' = w.alloc (.cells #[.int .i64 1, .int .i64 0, .int .i64 2, .int .i64 n, .string ⟨#[]⟩, .slice none 0 0] 33)) := by
  go_enter Tryz.func21, Tryz.ntmps21
  go_wp2
  refine bodyPost_ret (v := .agg #[.int .i64 1, .int .i64 0, .int .i64 2, .int .i64 n, .string ⟨#[]⟩, .slice none 0 0]) (by simp [results, Tryz.f21, go_sem]) rfl ⟨rfl, rfl⟩
theorem rdr_two {α : Type} {w : World} {B sz : Nat} {C : World → Addr → α → Prop} {ad : Addr} {y z : α} (hb : ad.block < B) (hc : C w ad y) (hd : C w (ad.add sz) z) (c : Nat) (h1 : 2 ≤ c) : RdR w B sz C ⟨some ad, c, [y, z]⟩ := by
  refine ⟨fun _ => ⟨ad, rfl, hb⟩, fun a i u hA hu => ?_, by simp [maxLen], h1⟩
  obtain rfl : ad = a := Option.some.inj hA
  rcases i with _ | _ | i
  · obtain rfl : y = u := by simpa using hu
    rw [Nat.zero_mul, add_zero']
    exact hc
  · obtain rfl : z = u := by simpa using hu
    rw [Nat.one_mul]
    exact hd
  · simp at hu
theorem leaf_rs {w : World} {B : Nat} {k op t v : Int} {nm : ByteArray} (ht : t ≤ 9223372036854775807) (hn : nm.size ≤ 140737488351232) : RsX w B (.mk k op t v nm none 0 []) := by
  refine ⟨.mk _ (fun h => absurd rfl h) (fun ad i y h => by cases h) (fun y h => by cases h) ⟨⟨Nat.zero_le _, Nat.le_trans hn (by decide)⟩, Nat.le_refl _⟩, fun y hy => ?_⟩
  rw [Xt.list_eq] at hy
  obtain rfl : y = .mk k op t v nm none 0 [] := by simpa [Xt.ar] using hy
  exact ⟨hn, ht⟩
theorem nos_rs {w : World} {B : Nat} {k op t v : Int} {nm : ByteArray} {ad : Addr} {c : Nat} {l : List Xt} (ht : t ≤ 9223372036854775807) (hn : nm.size ≤ 140737488351232) (hr : RdR w B 6 XC ⟨some ad, c, l⟩) (hk : ∀ y ∈ l, RsX w B y) : RsX w B (.mk k op t v nm (some ad) c l) := by
  refine ⟨.mk _ hr.1 hr.2.1 (fun y hy => (hk y hy).1) ⟨⟨hr.2.2.1, Nat.le_trans hn (by decide)⟩, hr.2.2.2⟩, fun y hy => ?_⟩
  rw [Xt.list_eq] at hy
  rcases List.mem_cons.1 hy with rfl | hy
  · exact ⟨hn, ht⟩
  · obtain ⟨l', hl', hy'⟩ := List.mem_flatten.1 hy
    obtain ⟨z, hz, rfl⟩ := List.mem_map.1 hl'
    exact (hk z hz).2 y hy'
set_option maxHeartbeats 2000000 in
set_option maxRecDepth 20000 in
theorem aw_rs (w : World) : RsP ((((((((w.alloc (.cells #[.string aA, .int .i64 1, .slice none 0 0] 50)).alloc (.cells #[.string aB, .int .i64 1, .slice none 0 0] 50)).alloc (.cells #[.string aF, .slice (some ⟨w.heap.size, 0, none⟩) 1 1, .slice (some ⟨w.heap.size + 1, 0, none⟩) 1 1, .slice none 0 0, .slice (some ⟨w.heap.size + 1 + 1 + 1 + 1 + 1 + 1, 0, none⟩) 1 1, .slice none 0 0, .slice none 0 0, .slice none 0 0] 45)).alloc (.cells #[.string aB] 9)).alloc (.cells #[.int .i64 2, .int .i64 0, .int .i64 0, .int .i64 0, .string aA, .slice none 0 0] 33)).alloc (.cells #[.int .i64 2, .int .i64 0, .int .i64 0, .int .i64 0, .string aA, .slice none 0 0] 33)).alloc (.cells #[.slice (some ⟨w.heap.size + 1 + 1 + 1, 0, none⟩) 1 1, .int .i64 3, .int .i64 1, .int .i64 0, .int .i64 0, .string ⟨#[]⟩, .slice (some ⟨w.heap.size + 1 + 1 + 1 + 1 + 1, 0, none⟩) 1 1] 54)).alloc (.cells #[.string aF, .slice (some ⟨w.heap.size, 0, none⟩) 1 1, .slice (some ⟨w.heap.size + 1, 0, none⟩) 1 1, .slice none 0 0, .slice (some ⟨w.heap.size + 1 + 1 + 1 + 1 + 1 + 1, 0, none⟩) 1 1, .slice none 0 0, .slice none 0 0, .slice none 0 0] 45)) ((((((((w.alloc (.cells #[.string aA, .int .i64 1, .slice none 0 0] 50)).alloc (.cells #[.string aB, .int .i64 1, .slice none 0 0] 50)).alloc (.cells #[.string aF, .slice (some ⟨w.heap.size, 0, none⟩) 1 1, .slice (some ⟨w.heap.size + 1, 0, none⟩) 1 1, .slice none 0 0, .slice (some ⟨w.heap.size + 1 + 1 + 1 + 1 + 1 + 1, 0, none⟩) 1 1, .slice none 0 0, .slice none 0 0, .slice none 0 0] 45)).alloc (.cells #[.string aB] 9)).alloc (.cells #[.int .i64 2, .int .i64 0, .int .i64 0, .int .i64 0, .string aA, .slice none 0 0] 33)).alloc (.cells #[.int .i64 2, .int .i64 0, .int .i64 0, .int .i64 0, .string aA, .slice none 0 0] 33)).alloc (.cells #[.slice (some ⟨w.heap.size + 1 + 1 + 1, 0, none⟩) 1 1, .int .i64 3, .int .i64 1, .int .i64 0, .int .i64 0, .string ⟨#[]⟩, .slice (some ⟨w.heap.size + 1 + 1 + 1 + 1 + 1, 0, none⟩) 1 1] 54)).alloc (.cells #[.string aF, .slice (some ⟨w.heap.size, 0, none⟩) 1 1, .slice (some ⟨w.heap.size + 1, 0, none⟩) 1 1, .slice none 0 0, .slice (some ⟨w.heap.size + 1 + 1 + 1 + 1 + 1 + 1, 0, none⟩) 1 1, .slice none 0 0, .slice none 0 0, .slice none 0 0] 45)).heap.size (awP ⟨w.heap.size, 0, none⟩ ⟨w.heap.size + 1, 0, none⟩ ⟨w.heap.size + 1 + 1 + 1, 0, none⟩ ⟨w.heap.size + 1 + 1 + 1 + 1 + 1 + 1, 0, none⟩ ⟨w.heap.size + 1 + 1 + 1 + 1 + 1, 0, none⟩ ⟨w.heap.size + 1 + 1 + 1 + 1 + 1 + 1 + 1, 0, none⟩) := by
  obtain ⟨W, hW⟩ : ∃ W, ((((((((w.alloc (.cells #[.string aA, .int .i64 1, .slice none 0 0] 50)).alloc (.cells #[.string aB, .int .i64 1, .slice none 0 0] 50)).alloc (.cells #[.string aF, .slice (some ⟨w.heap.size, 0, none⟩) 1 1, .slice (some ⟨w.heap.size + 1, 0, none⟩) 1 1, .slice none 0 0, .slice (some ⟨w.heap.size + 1 + 1 + 1 + 1 + 1 + 1, 0, none⟩) 1 1, .slice none 0 0, .slice none 0 0, .slice none 0 0] 45)).alloc (.cells #[.string aB] 9)).alloc (.cells #[.int .i64 2, .int .i64 0, .int .i64 0, .int .i64 0, .string aA, .slice none 0 0] 33)).alloc (.cells #[.int .i64 2, .int .i64 0, .int .i64 0, .int .i64 0, .string aA, .slice none 0 0] 33)).alloc (.cells #[.slice (some ⟨w.heap.size + 1 + 1 + 1, 0, none⟩) 1 1, .int .i64 3, .int .i64 1, .int .i64 0, .int .i64 0, .string ⟨#[]⟩, .slice (some ⟨w.heap.size + 1 + 1 + 1 + 1 + 1, 0, none⟩) 1 1] 54)).alloc (.cells #[.string aF, .slice (some ⟨w.heap.size, 0, none⟩) 1 1, .slice (some ⟨w.heap.size + 1, 0, none⟩) 1 1, .slice none 0 0, .slice (some ⟨w.heap.size + 1 + 1 + 1 + 1 + 1 + 1, 0, none⟩) 1 1, .slice none 0 0, .slice none 0 0, .slice none 0 0] 45)) = W := ⟨_, rfl⟩
  have hz : W.heap.size = w.heap.size + 1 + 1 + 1 + 1 + 1 + 1 + 1 + 1 := by rw [← hW]; simp only [World.size_alloc]
  have d1 : DC W ⟨w.heap.size, 0, none⟩ (awD aA) := by
    rw [← hW]
    refine ⟨?_, ?_, ?_⟩ <;> simp [go_sem]
  have d2 : DC W ⟨w.heap.size + 1, 0, none⟩ (awD aB) := by
    rw [← hW]
    refine ⟨?_, ?_, ?_⟩ <;> simp [go_sem]
  have d3 : BC W ⟨w.heap.size + 1 + 1 + 1, 0, none⟩ aB := by
    rw [← hW]
    unfold BC
    simp [go_sem]
  have d5 : XC W ⟨w.heap.size + 1 + 1 + 1 + 1 + 1, 0, none⟩ varA := by
    rw [← hW]
    refine ⟨?_, ?_, ?_, ?_, ?_, ?_⟩ <;> simp [go_sem, Xt.k, Xt.op, Xt.t, Xt.v, Xt.nm, Xt.A, Xt.ar, Xt.c]
  have d4 : QC W ⟨w.heap.size + 1 + 1 + 1 + 1 + 1 + 1, 0, none⟩ (awQ ⟨w.heap.size + 1 + 1 + 1, 0, none⟩ ⟨w.heap.size + 1 + 1 + 1 + 1 + 1, 0, none⟩) := by
    rw [← hW]
    refine ⟨?_, ?_, ?_, ?_, ?_, ?_, ?_⟩ <;> simp [go_sem, Xt.k, Xt.op, Xt.t, Xt.v, Xt.nm, Xt.A, Xt.ar, Xt.c]
  have d6 : NC W ⟨w.heap.size + 1 + 1 + 1 + 1 + 1 + 1 + 1, 0, none⟩ (awN ⟨w.heap.size, 0, none⟩ ⟨w.heap.size + 1, 0, none⟩ ⟨w.heap.size + 1 + 1 + 1, 0, none⟩ ⟨w.heap.size + 1 + 1 + 1 + 1 + 1 + 1, 0, none⟩ ⟨w.heap.size + 1 + 1 + 1 + 1 + 1, 0, none⟩) := by
    rw [← hW]
    refine ⟨?_, ?_, ?_, ?_, ?_, ?_, ?_, ?_⟩ <;> simp [go_sem]
  rw [hW, hz]
  have hD : ∀ s, s.size ≤ 140737488351232 → RsD W (w.heap.size + 1 + 1 + 1 + 1 + 1 + 1 + 1 + 1) (awD s) := fun s hs => ⟨⟨hs, by simp⟩, RdR.nil _ _ _ _ _, fun o h => by cases h⟩
  refine ⟨⟨⟨fun h => absurd rfl h, fun i e h => by simp at h⟩, ⟨Nat.zero_le _, Nat.zero_le _⟩, fun e h => by cases h⟩, rdr_one (by simp only; omega) d6 1 (Nat.le_refl _), fun n hn => ?_⟩
  obtain rfl := List.mem_singleton.1 hn
  refine ⟨show aF.size ≤ 140737488351232 by decide, ⟨rdr_one (by simp only; omega) d1 1 (Nat.le_refl _), fun d hd => ?_⟩, ⟨rdr_one (by simp only; omega) d2 1 (Nat.le_refl _), fun d hd => ?_⟩, rsn_nil, ⟨rdr_one (by simp only; omega) d4 1 (Nat.le_refl _), fun q hq => ?_⟩, ⟨RdR.nil _ _ _ _ _, fun d h => by cases h⟩, ⟨RdR.nil _ _ _ _ _, fun d h => by cases h⟩, ⟨RdR.nil _ _ _ _ _, fun d h => by cases h⟩⟩
  · obtain rfl := List.mem_singleton.1 hd
    exact hD _ (by decide)
  · obtain rfl := List.mem_singleton.1 hd
    exact hD _ (by decide)
  · obtain rfl := List.mem_singleton.1 hq
    refine ⟨⟨rdr_one (by simp only; omega) d3 1 (Nat.le_refl _), fun b hb => ?_⟩, nos_rs (by decide) (by decide) (rdr_one (by simp only; omega) d5 1 (Nat.le_refl _)) fun y hy => ?_⟩
    · obtain rfl := List.mem_singleton.1 hb
      decide
    · obtain rfl := List.mem_singleton.1 hy
      exact leaf_rs (by decide) (by decide)
def AX (W : World) (k : Nat) : Prop := k + 6 ≤ W.heap.size ∧ W.cell? ⟨k + 1 + 1, 0, none⟩ = some (.int .i64 2) ∧ W.cell? ⟨k + 1 + 1, 1, none⟩ = some (.int .i64 0) ∧ W.cell? ⟨k + 1 + 1, 2, none⟩ = some (.int .i64 0) ∧ W.cell? ⟨k + 1 + 1, 3, none⟩ = some (.int .i64 0) ∧ W.cell? ⟨k + 1 + 1, 4, none⟩ = some (.string aA) ∧ W.cell? ⟨k + 1 + 1, 5, none⟩ = some (.slice none 0 0) ∧ W.cell? ⟨k + 1 + 1, 6, none⟩ = some (.int .i64 1) ∧ W.cell? ⟨k + 1 + 1, 7, none⟩ = some (.int .i64 0) ∧ W.cell? ⟨k + 1 + 1, 8, none⟩ = some (.int .i64 2) ∧ W.cell? ⟨k + 1 + 1, 9, none⟩ = some (.int .i64 (-2)) ∧ W.cell? ⟨k + 1 + 1, 10, none⟩ = some (.string ⟨#[]⟩) ∧ W.cell? ⟨k + 1 + 1, 11, none⟩ = some (.slice none 0 0) ∧ W.cell? ⟨k + 1 + 1 + 1 + 1 + 1, 0, none⟩ = some (.int .i64 1) ∧ W.cell? ⟨k + 1 + 1 + 1 + 1 + 1, 1, none⟩ = some (.int .i64 0) ∧ W.cell? ⟨k + 1 + 1 + 1 + 1 + 1, 2, none⟩ = some (.int .i64 2) ∧ W.cell? ⟨k + 1 + 1 + 1 + 1 + 1, 3, none⟩ = some (.int .i64 1) ∧ W.cell? ⟨k + 1 + 1 + 1 + 1 + 1, 4, none⟩ = some (.string ⟨#[]⟩) ∧ W.cell? ⟨k + 1 + 1 + 1 + 1 + 1, 5, none⟩ = some (.slice none 0 0) ∧ W.cell? ⟨k + 1 + 1 + 1 + 1 + 1, 6, none⟩ = some (.int .i64 3) ∧ W.cell? ⟨k + 1 + 1 + 1 + 1 + 1, 7, none⟩ = some (.int .i64 8) ∧ W.cell? ⟨k + 1 + 1 + 1 + 1 + 1, 8, none⟩ = some (.int .i64 0) ∧ W.cell? ⟨k + 1 + 1 + 1 + 1 + 1, 9, none⟩ = some (.int .i64 0) ∧ W.cell? ⟨k + 1 + 1 + 1 + 1 + 1, 10, none⟩ = some (.string ⟨#[]⟩) ∧ W.cell? ⟨k + 1 + 1 + 1 + 1 + 1, 11, none⟩ = some (.slice (some ⟨k + 1 + 1, 0, none⟩) 2 2)
def CL (W : World) (k : Nat) : Prop := k < W.heap.size ∧ W.cell? ⟨k, 0, none⟩ = some (.string aA) ∧ W.cell? ⟨k, 1, none⟩ = some (.int .i64 1) ∧ W.cell? ⟨k, 2, none⟩ = some (.int .i64 1) ∧ W.cell? ⟨k, 3, none⟩ = some (.string aB) ∧ W.cell? ⟨k, 4, none⟩ = some (.int .i64 2) ∧ W.cell? ⟨k, 5, none⟩ = some (.int .i64 0)
theorem rse_nil (W : World) (B : Nat) : RsE W B ⟨none, 0, []⟩ := ⟨⟨fun h => absurd rfl h, fun i e h => by simp at h⟩, ⟨Nat.zero_le _, Nat.zero_le _⟩, fun e h => by cases h⟩
theorem ax_rs {W : World} {k : Nat} (h : AX W k) : RsX W W.heap.size (addX (⟨k + 1 + 1, 0, none⟩ : Addr) (⟨k + 1 + 1 + 1 + 1 + 1, 0, none⟩ : Addr)) := by
  obtain ⟨hz, v0, v1, v2, v3, v4, v5, n0, n1, n2, n3, n4, n5, u0, u1, u2, u3, u4, u5, m0, m1, m2, m3, m4, m5⟩ := h
  have hm : RsX W W.heap.size (mulX (⟨k + 1 + 1, 0, none⟩ : Addr)) := nos_rs (by decide) (by decide) (rdr_two (by simp only; omega) ⟨v0, v1, v2, v3, v4, v5⟩ ⟨n0, n1, n2, n3, n4, n5⟩ 2 (Nat.le_refl _)) fun y hy => by
    simp only [List.mem_cons, List.not_mem_nil, or_false] at hy
    rcases hy with rfl | rfl
    · exact leaf_rs (by decide) (by decide)
    · exact leaf_rs (by decide) (by decide)
  refine nos_rs (by decide) (by decide) (rdr_two (by simp only; omega) ⟨u0, u1, u2, u3, u4, u5⟩ ⟨m0, m1, m2, m3, m4, m5⟩ 2 (Nat.le_refl _)) fun y hy => ?_
  simp only [List.mem_cons, List.not_mem_nil, or_false] at hy
  rcases hy with rfl | rfl
  · exact leaf_rs (by decide) (by decide)
  · exact hm
theorem ax_call {w W : World} {k : Nat} (hs : Std W) (h : AX W k) : Calls Tryz.prog 13 #[.slice none 0 0, .agg #[.int .i64 3, .int .i64 6, .int .i64 0, .int .i64 0, .string ⟨#[]⟩, .slice (some (⟨k + 1 + 1 + 1 + 1 + 1, 0, none⟩ : Addr)) 2 2]] W (Bel (.tuple #[.string ⟨#[49, 32, 43, 32, 40, 97, 32, 42, 32, 40, 45, 50, 41, 41]⟩, .int .i64 0]) W) := by
  have := sw_Expr ⟨none, 0, []⟩ (addX (⟨k + 1 + 1, 0, none⟩ : Addr) (⟨k + 1 + 1 + 1 + 1 + 1, 0, none⟩ : Addr)) W hs (rse_nil _ _) (ax_rs h) (fun _ => ⟨add_wfX _ _, by rw [tx_add]; decide⟩)
  rw [exp_add, if_pos rfl, tx_add] at this
  exact this
theorem cl_call {W : World} {k : Nat} (hs : Std W) (h : CL W k) : Calls Tryz.prog 15 #[.slice none 0 0, .slice (some ⟨k, 0, none⟩) 2 2] W (Bel (.tuple #[.string ⟨#[119, 104, 101, 110, 32, 116, 114, 117, 101, 40, 97, 41, 32, 119, 104, 101, 110, 32, 48, 40, 98, 41]⟩, .int .i64 0]) W) := by
  obtain ⟨hz, c0, c1, c2, c3, c4, c5⟩ := h
  have hr : RsO W W.heap.size ⟨some ⟨k, 0, none⟩, 2, [⟨aA, 1, 1⟩, ⟨aB, 2, 0⟩]⟩ := ⟨rdr_two (by simp only; omega) ⟨c0, c1, c2⟩ ⟨c3, c4, c5⟩ 2 (Nat.le_refl _), fun y hy => by
    simp only [List.mem_cons, List.not_mem_nil, or_false] at hy
    rcases hy with rfl | rfl
    · exact ⟨by decide, by decide⟩
    · exact ⟨by decide, by decide⟩⟩
  have := sw_Clock ⟨none, 0, []⟩ ⟨some ⟨k, 0, none⟩, 2, [⟨aA, 1, 1⟩, ⟨aB, 2, 0⟩]⟩ W hs (rse_nil _ _) hr (by simp) (fun _ => by rw [clk_aw]; decide)
  rw [clkB_aw, if_pos rfl, if_pos rfl, clk_aw] at this
  exact this
set_option maxHeartbeats 2000000 in
set_option maxRecDepth 20000 in
theorem awake_any (w : World) (hs : Std w) : Calls Tryz.prog 8 #[] w (Bel (.bool true) w) := by
  have KV := Lib.hid law_variable
  have KM := Lib.hid law_number
  have KP : Hid (Calls Tryz.prog 9 #[.agg #[.slice none 0 0, .slice (some ⟨w.heap.size + 1 + 1 + 1 + 1 + 1 + 1 + 1, 0, none⟩) 1 1]] ((((((((w.alloc (.cells #[.string aA, .int .i64 1, .slice none 0 0] 50)).alloc (.cells #[.string aB, .int .i64 1, .slice none 0 0] 50)).alloc (.cells #[.string aF, .slice (some ⟨w.heap.size, 0, none⟩) 1 1, .slice (some ⟨w.heap.size + 1, 0, none⟩) 1 1, .slice none 0 0, .slice (some ⟨w.heap.size + 1 + 1 + 1 + 1 + 1 + 1, 0, none⟩) 1 1, .slice none 0 0, .slice none 0 0, .slice none 0 0] 45)).alloc (.cells #[.string aB] 9)).alloc (.cells #[.int .i64 2, .int .i64 0, .int .i64 0, .int .i64 0, .string aA, .slice none 0 0] 33)).alloc (.cells #[.int .i64 2, .int .i64 0, .int .i64 0, .int .i64 0, .string aA, .slice none 0 0] 33)).alloc (.cells #[.slice (some ⟨w.heap.size + 1 + 1 + 1, 0, none⟩) 1 1, .int .i64 3, .int .i64 1, .int .i64 0, .int .i64 0, .string ⟨#[]⟩, .slice (some ⟨w.heap.size + 1 + 1 + 1 + 1 + 1, 0, none⟩) 1 1] 54)).alloc (.cells #[.string aF, .slice (some ⟨w.heap.size, 0, none⟩) 1 1, .slice (some ⟨w.heap.size + 1, 0, none⟩) 1 1, .slice none 0 0, .slice (some ⟨w.heap.size + 1 + 1 + 1 + 1 + 1 + 1, 0, none⟩) 1 1, .slice none 0 0, .slice none 0 0, .slice none 0 0] 45)) (Bel (.tuple #[.string ⟨#[110, 111, 100, 101, 32, 102, 40, 97, 58, 32, 98, 111, 111, 108, 41, 32, 114, 101, 116, 117, 114, 110, 115, 32, 40, 98, 58, 32, 98, 111, 111, 108, 41, 10, 108, 101, 116, 10, 32, 32, 98, 32, 61, 32, 110, 111, 116, 32, 97, 59, 10, 116, 101, 108, 10]⟩, .int .i64 0]) ((((((((w.alloc (.cells #[.string aA, .int .i64 1, .slice none 0 0] 50)).alloc (.cells #[.string aB, .int .i64 1, .slice none 0 0] 50)).alloc (.cells #[.string aF, .slice (some ⟨w.heap.size, 0, none⟩) 1 1, .slice (some ⟨w.heap.size + 1, 0, none⟩) 1 1, .slice none 0 0, .slice (some ⟨w.heap.size + 1 + 1 + 1 + 1 + 1 + 1, 0, none⟩) 1 1, .slice none 0 0, .slice none 0 0, .slice none 0 0] 45)).alloc (.cells #[.string aB] 9)).alloc (.cells #[.int .i64 2, .int .i64 0, .int .i64 0, .int .i64 0, .string aA, .slice none 0 0] 33)).alloc (.cells #[.int .i64 2, .int .i64 0, .int .i64 0, .int .i64 0, .string aA, .slice none 0 0] 33)).alloc (.cells #[.slice (some ⟨w.heap.size + 1 + 1 + 1, 0, none⟩) 1 1, .int .i64 3, .int .i64 1, .int .i64 0, .int .i64 0, .string ⟨#[]⟩, .slice (some ⟨w.heap.size + 1 + 1 + 1 + 1 + 1, 0, none⟩) 1 1] 54)).alloc (.cells #[.string aF, .slice (some ⟨w.heap.size, 0, none⟩) 1 1, .slice (some ⟨w.heap.size + 1, 0, none⟩) 1 1, .slice none 0 0, .slice (some ⟨w.heap.size + 1 + 1 + 1 + 1 + 1 + 1, 0, none⟩) 1 1, .slice none 0 0, .slice none 0 0, .slice none 0 0] 45)))) := Lib.hid (by
    have := sw_Program (awP ⟨w.heap.size, 0, none⟩ ⟨w.heap.size + 1, 0, none⟩ ⟨w.heap.size + 1 + 1 + 1, 0, none⟩ ⟨w.heap.size + 1 + 1 + 1 + 1 + 1 + 1, 0, none⟩ ⟨w.heap.size + 1 + 1 + 1 + 1 + 1, 0, none⟩ ⟨w.heap.size + 1 + 1 + 1 + 1 + 1 + 1 + 1, 0, none⟩) ((((((((w.alloc (.cells #[.string aA, .int .i64 1, .slice none 0 0] 50)).alloc (.cells #[.string aB, .int .i64 1, .slice none 0 0] 50)).alloc (.cells #[.string aF, .slice (some ⟨w.heap.size, 0, none⟩) 1 1, .slice (some ⟨w.heap.size + 1, 0, none⟩) 1 1, .slice none 0 0, .slice (some ⟨w.heap.size + 1 + 1 + 1 + 1 + 1 + 1, 0, none⟩) 1 1, .slice none 0 0, .slice none 0 0, .slice none 0 0] 45)).alloc (.cells #[.string aB] 9)).alloc (.cells #[.int .i64 2, .int .i64 0, .int .i64 0, .int .i64 0, .string aA, .slice none 0 0] 33)).alloc (.cells #[.int .i64 2, .int .i64 0, .int .i64 0, .int .i64 0, .string aA, .slice none 0 0] 33)).alloc (.cells #[.slice (some ⟨w.heap.size + 1 + 1 + 1, 0, none⟩) 1 1, .int .i64 3, .int .i64 1, .int .i64 0, .int .i64 0, .string ⟨#[]⟩, .slice (some ⟨w.heap.size + 1 + 1 + 1 + 1 + 1, 0, none⟩) 1 1] 54)).alloc (.cells #[.string aF, .slice (some ⟨w.heap.size, 0, none⟩) 1 1, .slice (some ⟨w.heap.size + 1, 0, none⟩) 1 1, .slice none 0 0, .slice (some ⟨w.heap.size + 1 + 1 + 1 + 1 + 1 + 1, 0, none⟩) 1 1, .slice none 0 0, .slice none 0 0, .slice none 0 0] 45)) (hs.to (bel_alloc (bel_alloc (bel_alloc (bel_alloc (bel_alloc (bel_alloc (bel_alloc (bel_box _) _) _) _) _) _) _) _)) (aw_rs w) (fun _ => by
      rw [prg_aw]
      refine ⟨⟨fun e he => (by cases he), fun n hn => ?_⟩, by decide⟩
      obtain rfl := List.mem_singleton.1 hn
      exact aw_NdW _ _ _ _ _)
    rw [chk_aw, prg_aw] at this
    exact this)
  have KX : Hid (∀ W k, Below w.heap.size w W → AX W k → Calls Tryz.prog 13 #[.slice none 0 0, .agg #[.int .i64 3, .int .i64 6, .int .i64 0, .int .i64 0, .string ⟨#[]⟩, .slice (some (⟨k + 1 + 1 + 1 + 1 + 1, 0, none⟩ : Addr)) 2 2]] W (Bel (.tuple #[.string ⟨#[49, 32, 43, 32, 40, 97, 32, 42, 32, 40, 45, 50, 41, 41]⟩, .int .i64 0]) W)) := Lib.hid fun W k hb h => ax_call (w := w) (hs.to hb) h
  have KC : Hid (∀ W k, Below w.heap.size w W → CL W k → Calls Tryz.prog 15 #[.slice none 0 0, .slice (some ⟨k, 0, none⟩) 2 2] W (Bel (.tuple #[.string ⟨#[119, 104, 101, 110, 32, 116, 114, 117, 101, 40, 97, 41, 32, 119, 104, 101, 110, 32, 48, 40, 98, 41]⟩, .int .i64 0]) W)) := Lib.hid fun W k hb h => cl_call (hs.to hb) h
  clear hs
  go_enter Tryz.func8, Tryz.ntmps8
  go_wp2_with (first | (go_at_call 20; (with_reducible refine (KV.out _ _).mono ?_); rintro e w1 ⟨rfl, rfl⟩) | (go_at_call 9; (with_reducible refine KP.out.mono ?_); rintro e w1 ⟨rfl, hb1⟩; have hB1 : Below w.heap.size w w1 := (by repeat (first | (with_reducible exact Below.refl _ _) | (with_reducible assumption) | (with_reducible exact bel_box _) | (with_reducible refine bel_step ?_ (by with_reducible assumption)) | (with_reducible refine Below.drew ?_) | (with_reducible refine below_drewN ?_ _) | (with_reducible refine bel_alloc ?_ _)))) | (go_at_call 21; (with_reducible refine (KM.out _ _).mono ?_); rintro e w1 ⟨rfl, rfl⟩))
  clear KP hb1
  go_region_with (first | (go_at_call 21; (with_reducible refine (KM.out _ _).mono ?_); rintro e w2 ⟨rfl, rfl⟩) | (go_at_call 13; (refine (KX.out _ w1.heap.size ?_ ⟨?_, ?_, ?_, ?_, ?_, ?_, ?_, ?_, ?_, ?_, ?_, ?_, ?_, ?_, ?_, ?_, ?_, ?_, ?_, ?_, ?_, ?_, ?_, ?_, ?_⟩).mono ?_); (focus ((repeat (first | (with_reducible exact Below.refl _ _) | (with_reducible assumption) | (with_reducible exact bel_box _) | (with_reducible refine bel_step ?_ (by with_reducible assumption)) | (with_reducible refine Below.drew ?_) | (with_reducible refine below_drewN ?_ _) | (with_reducible refine bel_alloc ?_ _))); done)); (focus (simp; done)); (focus (simp [go_sem]; done)); (focus (simp [go_sem]; done)); (focus (simp [go_sem]; done)); (focus (simp [go_sem]; done)); (focus (simp [go_sem]; done)); (focus (simp [go_sem]; done)); (focus (simp [go_sem]; done)); (focus (simp [go_sem]; done)); (focus (simp [go_sem]; done)); (focus (simp [go_sem]; done)); (focus (simp [go_sem]; done)); (focus (simp [go_sem]; done)); (focus (simp [go_sem]; done)); (focus (simp [go_sem]; done)); (focus (simp [go_sem]; done)); (focus (simp [go_sem]; done)); (focus (simp [go_sem]; done)); (focus (simp [go_sem]; done)); (focus (simp [go_sem]; done)); (focus (simp [go_sem]; done)); (focus (simp [go_sem]; done)); (focus (simp [go_sem]; done)); (focus (simp [go_sem]; done)); (focus (simp [go_sem]; done)); rintro e w2 ⟨rfl, hb2⟩; have hB2 : Below w.heap.size w w2 := (by repeat (first | (with_reducible exact Below.refl _ _) | (with_reducible assumption) | (with_reducible exact bel_box _) | (with_reducible refine bel_step ?_ (by with_reducible assumption)) | (with_reducible refine Below.drew ?_) | (with_reducible refine below_drewN ?_ _) | (with_reducible refine bel_alloc ?_ _)))))
  all_goals
    go_wp2_with (go_at_call 15; (refine (KC.out _ w2.heap.size ?_ ⟨?_, ?_, ?_, ?_, ?_, ?_, ?_⟩).mono ?_); (focus ((repeat (first | (with_reducible exact Below.refl _ _) | (with_reducible assumption) | (with_reducible exact bel_box _) | (with_reducible refine bel_step ?_ (by with_reducible assumption)) | (with_reducible refine Below.drew ?_) | (with_reducible refine below_drewN ?_ _) | (with_reducible refine bel_alloc ?_ _))); done)); (focus (simp; done)); (focus (simp [go_sem]; done)); (focus (simp [go_sem]; done)); (focus (simp [go_sem]; done)); (focus (simp [go_sem]; done)); (focus (simp [go_sem]; done)); (focus (simp [go_sem]; done)); rintro e w3 ⟨rfl, hb3⟩)
    go_ret
    exact ⟨rfl, (by repeat (first | (with_reducible exact Below.refl _ _) | (with_reducible assumption) | (with_reducible exact bel_box _) | (with_reducible refine bel_step ?_ (by with_reducible assumption)) | (with_reducible refine Below.drew ?_) | (with_reducible refine below_drewN ?_ _) | (with_reducible refine bel_alloc ?_ _)))⟩
end Go.Proofs.YtoimjcfdiljkjaaGreatDoor
/- ShowExprs, ShowClocks: the walks. -/
namespace Go.Proofs.YtoimjcfdiljkjaaGreatDoor
set_option linter.unusedVariables false
set_option linter.unusedSimpArgs false
open Go.RowKit Go.Sort
theorem val_len (es : List va.En) (M : Nat) (hM : 10 ≤ M) (ht : ∀ e ∈ es, ∀ b ∈ e.tags, b.size ≤ M) (t v : Int) : (valS es t v).length ≤ M := by
  unfold valS
  rw [bsT_size]
  unfold va.textS
  split
  · rename_i h0
    split
    · rename_i h2
      subst h2
      have hh : va.hasB es 2 v = true := by
        unfold va.textE at h0
        split at h0
        · split at h0
          · assumption
          · cases h0
        · cases h0
      obtain ⟨h3, h4⟩ := va.hasB_16 hh
      have h5 := va.dec_size v.natAbs (by omega)
      have h6 := va.dec_size v.toNat (by omega)
      unfold Lib.itoa
      split
      · show (45 :: Lib.decDigits v.natAbs).toArray.size ≤ M
        have h5' : (Lib.decDigits v.natAbs).toArray.size ≤ 6 := h5
        simp only [List.size_toArray, List.length_cons] at h5' ⊢
        omega
      · have h6' : (Lib.decDigits v.toNat).toArray.size ≤ 6 := h6
        exact Nat.le_trans h6' (by omega)
    · have key : ∀ l : List ByteArray, (∀ b ∈ l, b.size ≤ M) → (l.getD v.toNat ⟨#[]⟩).size ≤ M := fun l hl => by
        rw [List.getD_eq_getElem?_getD]
        cases h : l[v.toNat]? with
        | none => exact Nat.zero_le _
        | some b => exact hl b (List.mem_of_getElem? h)
      refine key _ fun b hb => ?_
      unfold va.tagsOf at hb
      split at hb
      · simp only [List.mem_cons, List.not_mem_nil, or_false] at hb
        rcases hb with rfl | rfl
        · exact Nat.le_trans (by decide) hM
        · exact Nat.le_trans (by decide) hM
      · split at hb
        · cases h : es[(t - 3).toNat]? with
          | none => rw [h] at hb; simp at hb
          | some e =>
            rw [h] at hb
            exact ht e (List.mem_of_getElem? h) b hb
        · cases hb
  · exact Nat.zero_le _
theorem exp_wf {es : List va.En} {x : Xt} (h : expE es x = 0) (ht : ∀ y ∈ x.list, y.t ≤ 9223372036854775807) : (∀ y ∈ x.list, wfK y ∧ y.nm.size ≤ 66) ∧ x.size ≤ 400 := by
  unfold expE at h
  have h1 := (orE_zero.1 h).1
  unfold chkAll at h1
  split at h1
  · cases h1
  · rename_i hs
    refine ⟨fun y hy => ?_, by omega⟩
    have key : ∀ l : List Xt, firstE (chk1 wokP) l = 0 → ∀ y ∈ l, chk1 wokP y = 0 := by
      intro l
      induction l with
      | nil => intro _ y hy; cases hy
      | cons a l ih =>
        intro h y hy
        unfold firstE at h
        by_cases ha : chk1 wokP a = 0
        · rw [if_pos ha] at h
          rcases List.mem_cons.1 hy with rfl | hy
          · exact ha
          · exact ih h y hy
        · rw [if_neg ha] at h
          exact absurd h ha
    have hc := key _ h1 y hy
    exact ⟨wfK_of hc (ht y hy), nm_66 hc⟩
theorem exp_len {es : List va.En} {x : Xt} (h : expE es x = 0) (ht : ∀ y ∈ x.list, y.t ≤ 9223372036854775807) (hB : ∀ e ∈ es, ∀ b ∈ e.tags, b.size ≤ 1048576) : (x.tx es).length ≤ 140737488355328 := by
  obtain ⟨h1, h2⟩ := exp_wf h ht
  have := tx_len es 1048576 (val_len es 1048576 (by decide) hB) x fun y hy => Nat.le_trans (h1 y hy).2 (by decide)
  have h3 : x.size * (3 * 1048576 + 40) ≤ 400 * (3 * 1048576 + 40) := Nat.mul_le_mul_right _ h2
  omega
theorem clk_len (es : List va.En) (M : Nat) (hM : 10 ≤ M) (l : List Ot) (hv : ∀ t v, (valS es t v).length ≤ M) (hn : ∀ o ∈ l, o.nm.size ≤ M) : (clkS es l).length ≤ l.length * (2 * M + 10) := by
  unfold clkS
  have hj : (Lib.join (l.map (smpS es)) [32]).length ≤ ((l.map (smpS es)).map fun t => t.length + 1).sum := join_len _ [32]
  refine Nat.le_trans hj ?_
  clear hj
  rw [List.map_map]
  induction l with
  | nil => simp
  | cons a l ih =>
    rw [List.map_cons, List.sum_cons, show (a :: l).length = l.length + 1 from rfl, Nat.add_mul]
    have h1 := ih fun o ho => hn o (List.mem_cons_of_mem _ ho)
    have h2 := hn a List.mem_cons_self
    have h3 := hv a.t a.tag
    have h4 : (bsT a.nm).length ≤ M := by rw [bsT_size]; exact h2
    simp only [Function.comp, smpS, brS, List.length_append, List.length_cons, List.length_nil] at h1 ⊢
    omega
set_option maxHeartbeats 2000000 in
set_option maxRecDepth 20000 in
theorem showexprs_any (E : Rw va.En) (x : Xt) (w : World) (hs : Std w) (hE : RsE w w.heap.size E) (hX : RsX w w.heap.size x) (hsz : x.size ≤ 1048576) (hB : ∀ e ∈ E.l, ∀ b ∈ e.tags, b.size ≤ 1048576) :
    Calls Tryz.prog 4 #[.slice E.A E.l.length E.c, xV x] w (Bel (.bool true) w) := by
  have KA : Hid (∀ W, Below w.heap.size w W → Calls Tryz.prog 8 #[] W (Bel (.bool true) W)) := Lib.hid fun W h => awake_any W (hs.to h)
  have KF : Hid (∀ W, Below w.heap.size w W → Calls Tryz.prog 11 #[.slice E.A E.l.length E.c] W (fun e w' => ∃ b : Bool, e = .returned (.bool b) ∧ Below W.heap.size W w')) := Lib.hid fun W h => vw_few E W (hE.blw h h.size)
  have KW : Hid (∀ W, Below w.heap.size w W → Calls Tryz.prog 12 #[xV x, .int .i64 1500] W (Bel (.int .i64 ((min x.size 1500 : Nat) : Int)) W)) := Lib.hid fun W h => weigh_any x 1500 W (hX.1.to h) (by decide) (by decide)
  have ht : ∀ y ∈ x.list, y.t ≤ 9223372036854775807 := fun y hy => (hX.2 y hy).2
  have KS : Hid (∀ W, Below w.heap.size w W → Calls Tryz.prog 13 #[.slice E.A E.l.length E.c, xV x] W (Bel (.tuple #[.string (if expE E.l x = 0 then tB (x.tx E.l) else ⟨#[]⟩), .int .i64 (expE E.l x)]) W)) := Lib.hid fun W h => sw_Expr E x W (hs.to h) (hE.blw h h.size) (hX.blw h h.size) fun h0 => ⟨fun y hy => ((exp_wf h0 ht).1 y hy).1.1, exp_len h0 ht hB⟩
  have KR : Hid (∀ W, Below w.heap.size w W → Calls Tryz.prog 14 #[.slice E.A E.l.length E.c, xV x] W (Bel (.tuple #[.string (if expE E.l x = 0 then tB (x.tx E.l) else ⟨#[]⟩), .int .i64 (expE E.l x)]) W)) := Lib.hid fun W h => vr_Expr E x W (hE.blw h h.size) (hX.blw h h.size) hsz fun h0 => ⟨fun y hy => ((exp_wf h0 ht).1 y hy).1, exp_len h0 ht hB⟩
  generalize (if expE E.l x = 0 then tB (x.tx E.l) else ⟨#[]⟩) = z at *
  generalize expE E.l x = v at *
  clear hs hE hX hB ht hsz
  obtain ⟨m, hm⟩ : ∃ m, min x.size 1500 = m := ⟨_, rfl⟩
  rw [hm] at KW
  clear hm
  simp only [xV] at KW KS KR ⊢
  go_enter Tryz.func4, Tryz.ntmps4
  by_cases h15 : 1500 ≤ m
  · have q0 : (1500 : Int) ≤ (m : Int) := by omega
    go_wp2_with (first | (go_at_call 11; (with_reducible refine (KF.out _ ?_).mono ?_); (focus ((repeat (first | (with_reducible exact Below.refl _ _) | (with_reducible assumption) | (with_reducible exact bel_box _) | (with_reducible refine bel_step ?_ (by with_reducible assumption)) | (with_reducible refine Below.drew ?_) | (with_reducible refine below_drewN ?_ _) | (with_reducible refine bel_alloc ?_ _))); done)); rintro e w1 ⟨b, rfl, hb1⟩; obtain ⟨g0, g1, g2, g3, g4, g5, _⟩ := B1X x (w := w) (W := w1) (by repeat (first | (with_reducible exact Below.refl _ _) | (with_reducible assumption) | (with_reducible exact bel_box _) | (with_reducible refine bel_step ?_ (by with_reducible assumption)) | (with_reducible refine Below.drew ?_) | (with_reducible refine below_drewN ?_ _) | (with_reducible refine bel_alloc ?_ _))); cases b) | (go_at_call 12; (with_reducible refine (KW.out _ ?_).mono ?_); (focus ((repeat (first | (with_reducible exact Below.refl _ _) | (with_reducible assumption) | (with_reducible exact bel_box _) | (with_reducible refine bel_step ?_ (by with_reducible assumption)) | (with_reducible refine Below.drew ?_) | (with_reducible refine below_drewN ?_ _) | (with_reducible refine bel_alloc ?_ _))); done)); rintro e w2 ⟨rfl, hb2⟩; obtain ⟨g0, g1, g2, g3, g4, g5, _⟩ := B1X x (w := w) (W := w2) (by repeat (first | (with_reducible exact Below.refl _ _) | (with_reducible assumption) | (with_reducible exact bel_box _) | (with_reducible refine bel_step ?_ (by with_reducible assumption)) | (with_reducible refine Below.drew ?_) | (with_reducible refine below_drewN ?_ _) | (with_reducible refine bel_alloc ?_ _)))) | (go_at_call 8; (with_reducible refine (KA.out _ ?_).mono ?_); (focus ((repeat (first | (with_reducible exact Below.refl _ _) | (with_reducible assumption) | (with_reducible exact bel_box _) | (with_reducible refine bel_step ?_ (by with_reducible assumption)) | (with_reducible refine Below.drew ?_) | (with_reducible refine below_drewN ?_ _) | (with_reducible refine bel_alloc ?_ _))); done)); rintro e w9 ⟨rfl, hb9⟩))
    all_goals (go_ret; exact ⟨rfl, (by repeat (first | (with_reducible exact Below.refl _ _) | (with_reducible assumption) | (with_reducible exact bel_box _) | (with_reducible refine bel_step ?_ (by with_reducible assumption)) | (with_reducible refine Below.drew ?_) | (with_reducible refine below_drewN ?_ _) | (with_reducible refine bel_alloc ?_ _)))⟩)
  · have q0 : (m : Int) < (1500 : Int) := by omega
    go_wp2_with (first | (go_at_call 11; (with_reducible refine (KF.out _ ?_).mono ?_); (focus ((repeat (first | (with_reducible exact Below.refl _ _) | (with_reducible assumption) | (with_reducible exact bel_box _) | (with_reducible refine bel_step ?_ (by with_reducible assumption)) | (with_reducible refine Below.drew ?_) | (with_reducible refine below_drewN ?_ _) | (with_reducible refine bel_alloc ?_ _))); done)); rintro e w1 ⟨b, rfl, hb1⟩; obtain ⟨g0, g1, g2, g3, g4, g5, _⟩ := B1X x (w := w) (W := w1) (by repeat (first | (with_reducible exact Below.refl _ _) | (with_reducible assumption) | (with_reducible exact bel_box _) | (with_reducible refine bel_step ?_ (by with_reducible assumption)) | (with_reducible refine Below.drew ?_) | (with_reducible refine below_drewN ?_ _) | (with_reducible refine bel_alloc ?_ _))); cases b) | (go_at_call 12; (with_reducible refine (KW.out _ ?_).mono ?_); (focus ((repeat (first | (with_reducible exact Below.refl _ _) | (with_reducible assumption) | (with_reducible exact bel_box _) | (with_reducible refine bel_step ?_ (by with_reducible assumption)) | (with_reducible refine Below.drew ?_) | (with_reducible refine below_drewN ?_ _) | (with_reducible refine bel_alloc ?_ _))); done)); rintro e w2 ⟨rfl, hb2⟩; obtain ⟨g0, g1, g2, g3, g4, g5, _⟩ := B1X x (w := w) (W := w2) (by repeat (first | (with_reducible exact Below.refl _ _) | (with_reducible assumption) | (with_reducible exact bel_box _) | (with_reducible refine bel_step ?_ (by with_reducible assumption)) | (with_reducible refine Below.drew ?_) | (with_reducible refine below_drewN ?_ _) | (with_reducible refine bel_alloc ?_ _)))) | (go_at_call 13; (with_reducible refine (KS.out _ ?_).mono ?_); (focus ((repeat (first | (with_reducible exact Below.refl _ _) | (with_reducible assumption) | (with_reducible exact bel_box _) | (with_reducible refine bel_step ?_ (by with_reducible assumption)) | (with_reducible refine Below.drew ?_) | (with_reducible refine below_drewN ?_ _) | (with_reducible refine bel_alloc ?_ _))); done)); rintro e w3 ⟨rfl, hb3⟩; obtain ⟨g0, g1, g2, g3, g4, g5, _⟩ := B1X x (w := w) (W := w3) (by repeat (first | (with_reducible exact Below.refl _ _) | (with_reducible assumption) | (with_reducible exact bel_box _) | (with_reducible refine bel_step ?_ (by with_reducible assumption)) | (with_reducible refine Below.drew ?_) | (with_reducible refine below_drewN ?_ _) | (with_reducible refine bel_alloc ?_ _)))) | (go_at_call 14; (with_reducible refine (KR.out _ ?_).mono ?_); (focus ((repeat (first | (with_reducible exact Below.refl _ _) | (with_reducible assumption) | (with_reducible exact bel_box _) | (with_reducible refine bel_step ?_ (by with_reducible assumption)) | (with_reducible refine Below.drew ?_) | (with_reducible refine below_drewN ?_ _) | (with_reducible refine bel_alloc ?_ _))); done)); rintro e w4 ⟨rfl, hb4⟩) | (go_at_call 8; (with_reducible refine (KA.out _ ?_).mono ?_); (focus ((repeat (first | (with_reducible exact Below.refl _ _) | (with_reducible assumption) | (with_reducible exact bel_box _) | (with_reducible refine bel_step ?_ (by with_reducible assumption)) | (with_reducible refine Below.drew ?_) | (with_reducible refine below_drewN ?_ _) | (with_reducible refine bel_alloc ?_ _))); done)); rintro e w9 ⟨rfl, hb9⟩))
    all_goals (go_ret; exact ⟨rfl, (by repeat (first | (with_reducible exact Below.refl _ _) | (with_reducible assumption) | (with_reducible exact bel_box _) | (with_reducible refine bel_step ?_ (by with_reducible assumption)) | (with_reducible refine Below.drew ?_) | (with_reducible refine below_drewN ?_ _) | (with_reducible refine bel_alloc ?_ _)))⟩)
set_option maxHeartbeats 2000000 in
set_option maxRecDepth 20000 in
theorem showclocks_any (E : Rw va.En) (r : Rw Ot) (w : World) (hs : Std w) (hE : RsE w w.heap.size E) (hR : RsO w w.heap.size r) (hB : ∀ e ∈ E.l, ∀ b ∈ e.tags, b.size ≤ 1048576) (hn : ∀ o ∈ r.l, o.nm.size ≤ 1048576) :
    Calls Tryz.prog 5 #[.slice E.A E.l.length E.c, .slice r.A r.l.length r.c] w (Bel (.bool true) w) := by
  have KA : Hid (∀ W, Below w.heap.size w W → Calls Tryz.prog 8 #[] W (Bel (.bool true) W)) := Lib.hid fun W h => awake_any W (hs.to h)
  have KF : Hid (∀ W, Below w.heap.size w W → Calls Tryz.prog 11 #[.slice E.A E.l.length E.c] W (fun e w' => ∃ b : Bool, e = .returned (.bool b) ∧ Below W.heap.size W w')) := Lib.hid fun W h => vw_few E W (hE.blw h h.size)
  by_cases h100 : 100 < r.l.length
  · have q0 : (100 : Int) < (r.l.length : Int) := by omega
    clear hs hE hR hB hn h100
    go_enter Tryz.func5, Tryz.ntmps5
    go_wp2_with (first | (go_at_call 11; (with_reducible refine (KF.out _ ?_).mono ?_); (focus ((repeat (first | (with_reducible exact Below.refl _ _) | (with_reducible assumption) | (with_reducible exact bel_box _) | (with_reducible refine bel_step ?_ (by with_reducible assumption)) | (with_reducible refine Below.drew ?_) | (with_reducible refine below_drewN ?_ _) | (with_reducible refine bel_alloc ?_ _))); done)); rintro e w1 ⟨b, rfl, hb1⟩; cases b) | (go_at_call 8; (with_reducible refine (KA.out _ ?_).mono ?_); (focus ((repeat (first | (with_reducible exact Below.refl _ _) | (with_reducible assumption) | (with_reducible exact bel_box _) | (with_reducible refine bel_step ?_ (by with_reducible assumption)) | (with_reducible refine Below.drew ?_) | (with_reducible refine below_drewN ?_ _) | (with_reducible refine bel_alloc ?_ _))); done)); rintro e w9 ⟨rfl, hb9⟩))
    all_goals (go_ret; exact ⟨rfl, (by repeat (first | (with_reducible exact Below.refl _ _) | (with_reducible assumption) | (with_reducible exact bel_box _) | (with_reducible refine bel_step ?_ (by with_reducible assumption)) | (with_reducible refine Below.drew ?_) | (with_reducible refine below_drewN ?_ _) | (with_reducible refine bel_alloc ?_ _)))⟩)
  · have q0 : (r.l.length : Int) ≤ (100 : Int) := by omega
    have hlen : (clkS E.l r.l).length ≤ 140737488355328 := by
      have h1 := clk_len E.l 1048576 (by decide) r.l (val_len E.l 1048576 (by decide) hB) hn
      have h2 : r.l.length * (2 * 1048576 + 10) ≤ 100 * (2 * 1048576 + 10) := Nat.mul_le_mul_right _ (by omega)
      omega
    have KS : Hid (∀ W, Below w.heap.size w W → Calls Tryz.prog 15 #[.slice E.A E.l.length E.c, .slice r.A r.l.length r.c] W (Bel (.tuple #[.string (if clkB E.l r.l = true then tB (clkS E.l r.l) else ⟨#[]⟩), .int .i64 (if clkB E.l r.l = true then 0 else 5)]) W)) := Lib.hid fun W h => sw_Clock E r W (hs.to h) (hE.blw h h.size) (hR.blw h h.size) (by omega) fun _ => hlen
    have KR : Hid (∀ W, Below w.heap.size w W → Calls Tryz.prog 16 #[.slice E.A E.l.length E.c, .slice r.A r.l.length r.c] W (Bel (.tuple #[.string (if clkB E.l r.l = true then tB (clkS E.l r.l) else ⟨#[]⟩), .int .i64 (if clkB E.l r.l = true then 0 else 5)]) W)) := Lib.hid fun W h => vr_Clock E r W (hE.blw h h.size) (hR.blw h h.size) (by omega) fun _ => hlen
    generalize (if clkB E.l r.l = true then tB (clkS E.l r.l) else ⟨#[]⟩) = z at *
    generalize (if clkB E.l r.l = true then (0 : Int) else 5) = v at *
    clear hs hE hR hB hn h100 hlen
    go_enter Tryz.func5, Tryz.ntmps5
    go_wp2_with (first | (go_at_call 11; (with_reducible refine (KF.out _ ?_).mono ?_); (focus ((repeat (first | (with_reducible exact Below.refl _ _) | (with_reducible assumption) | (with_reducible exact bel_box _) | (with_reducible refine bel_step ?_ (by with_reducible assumption)) | (with_reducible refine Below.drew ?_) | (with_reducible refine below_drewN ?_ _) | (with_reducible refine bel_alloc ?_ _))); done)); rintro e w1 ⟨b, rfl, hb1⟩; cases b) | (go_at_call 15; (with_reducible refine (KS.out _ ?_).mono ?_); (focus ((repeat (first | (with_reducible exact Below.refl _ _) | (with_reducible assumption) | (with_reducible exact bel_box _) | (with_reducible refine bel_step ?_ (by with_reducible assumption)) | (with_reducible refine Below.drew ?_) | (with_reducible refine below_drewN ?_ _) | (with_reducible refine bel_alloc ?_ _))); done)); rintro e w3 ⟨rfl, hb3⟩) | (go_at_call 16; (with_reducible refine (KR.out _ ?_).mono ?_); (focus ((repeat (first | (with_reducible exact Below.refl _ _) | (with_reducible assumption) | (with_reducible exact bel_box _) | (with_reducible refine bel_step ?_ (by with_reducible assumption)) | (with_reducible refine Below.drew ?_) | (with_reducible refine below_drewN ?_ _) | (with_reducible refine bel_alloc ?_ _))); done)); rintro e w4 ⟨rfl, hb4⟩) | (go_at_call 8; (with_reducible refine (KA.out _ ?_).mono ?_); (focus ((repeat (first | (with_reducible exact Below.refl _ _) | (with_reducible assumption) | (with_reducible exact bel_box _) | (with_reducible refine bel_step ?_ (by with_reducible assumption)) | (with_reducible refine Below.drew ?_) | (with_reducible refine below_drewN ?_ _) | (with_reducible refine bel_alloc ?_ _))); done)); rintro e w9 ⟨rfl, hb9⟩))
    all_goals (go_ret; exact ⟨rfl, (by repeat (first | (with_reducible exact Below.refl _ _) | (with_reducible assumption) | (with_reducible exact bel_box _) | (with_reducible refine bel_step ?_ (by with_reducible assumption)) | (with_reducible refine Below.drew ?_) | (with_reducible refine below_drewN ?_ _) | (with_reducible refine bel_alloc ?_ _)))⟩)
end Go.Proofs.YtoimjcfdiljkjaaGreatDoor
/- The frame of the rows of layer 6: what the listed variables give; an argument that is an expression. -/
namespace Go.Proofs.YtoimjcfdiljkjaaGreatDoor
set_option linter.unusedVariables false
set_option linter.unusedSimpArgs false
open Go.ChangeShapes Go.WideShapes Go.ChangeAt Go.RowKit Go.Deep Go.WideElems
def laidL : List (String × DataW Unit) := [("math/bits.deBruijn32tab", Rows.laid_math_bits_deBruijn32tab), ("math/bits.deBruijn64tab", Rows.laid_math_bits_deBruijn64tab), ("internal/strconv.uint64pow10", Rows.laid_internal_strconv_uint64pow10), ("unicode/utf8.acceptRanges", Rows.laid_unicode_utf8_acceptRanges), ("strconv.ErrRange", Rows.laid_strconv_ErrRange), ("strconv.ErrSyntax", Rows.laid_strconv_ErrSyntax), ("unicode/utf8.first", Rows.laid_unicode_utf8_first)]
theorem tyTab : (Tryz.prog.globals[1]?).map (·.type) = some 226 := by kernel_rfl
theorem tySyn : (Tryz.prog.globals[2]?).map (·.type) = some 137 := by kernel_rfl
theorem tyRng : (Tryz.prog.globals[3]?).map (·.type) = some 137 := by kernel_rfl
theorem star : "*" ++ "errors.errorString" = "*errors.errorString" := by decide
theorem rowES (u : TypeId) (h : Tryz.prog.typeName? 3 u = some "*errors.errorString") : u = 246 :=
  typeName_ptr_named (nm := "errors.errorString") (by rw [star]; kernel_rfl) (by kernel_rfl) (by decide) u (by rw [star]; exact h)
theorem std_of_laid {W : World} (h : laidMetH Tryz.prog laidL W) : Std W := by
  rw [MakeChecks.laidMetH_plain _ _ _ (by kernel_rfl)] at h
  have h3 : laidMet Tryz.prog (("internal/strconv.uint64pow10", Lib.tabData .u64 Lib.pow10Tab) :: [("unicode/utf8.acceptRanges", Rows.laid_unicode_utf8_acceptRanges), ("strconv.ErrRange", Rows.laid_strconv_ErrRange), ("strconv.ErrSyntax", Rows.laid_strconv_ErrSyntax), ("unicode/utf8.first", Rows.laid_unicode_utf8_first)]) W := h.tail.tail
  have h4 := h3.tail.tail
  have h5 := h4.tail
  refine ⟨Lib.tabIs_of_head gTab tyTab Tryz.underlying226 Tryz.underlying213 (by kernel_rfl) (by kernel_rfl) h3, ?_, ?_⟩
  · obtain ⟨a, s, hv, _⟩ := laid_sentinel h5 gSyn tySyn Tryz.underlying137 rowES Tryz.underlying246 Tryz.underlying248 rfl rfl Tryz.underlying9 (by kernel_rfl) (by kernel_rfl)
    exact ⟨_, _, hv⟩
  · obtain ⟨a, s, hv, _⟩ := laid_sentinel h4 gRng tyRng Tryz.underlying137 rowES Tryz.underlying246 Tryz.underlying248 rfl rfl Tryz.underlying9 (by kernel_rfl) (by kernel_rfl)
    exact ⟨_, _, hv⟩
theorem int_le {n : Int} (h : (Lit.int .i64 n).wf = true) : n ≤ 9223372036854775807 := by
  have h2 : n ≤ IntKind.i64.max := by simp only [Lit.wf, Bool.and_eq_true, decide_eq_true_eq] at h; exact h.2
  exact h2
section
variable {H : Type} {enc : TypeId × Value → H} {w : World} {held : Bool}
end
end Go.Proofs.YtoimjcfdiljkjaaGreatDoor
/- An expression and enumerations that come in, opened, with what the bound on their bulk gives. -/
namespace Go.Proofs.YtoimjcfdiljkjaaGreatDoor
set_option linter.unusedVariables false
set_option linter.unusedSimpArgs false
open Go.ChangeShapes Go.WideShapes Go.ChangeAt Go.RowKit Go.Deep Go.WideElems
/-- names no longer than what a machine holds; types that are numbers of Go's -/
def NmT (x : Xt) : Prop := ∀ y ∈ x.list, y.nm.size ≤ 140737488351232 ∧ y.t ≤ 9223372036854775807
theorem sum_bulk {α H : Type} {l : List α} {f : α → Nat} {es : List (DataW H)} (hl : l.length = es.length) (h : ∀ (i : Nat) (y : α) (z : DataW H), l[i]? = some y → es[i]? = some z → f y ≤ Rows.uptoBulk z) : (l.map f).sum ≤ Rows.uptoBulkAll es := by
  induction l generalizing es with
  | nil => cases es with
    | nil => simp [Rows.uptoBulkAll]
    | cons e es => simp at hl
  | cons a l ih => cases es with
    | nil => simp at hl
    | cons e es =>
      have h1 := h 0 a e rfl rfl
      have h2 := ih (es := es) (by simpa using hl) fun i y z hy hz => h (i + 1) y z (by simpa using hy) (by simpa using hz)
      simp only [List.map_cons, List.sum_cons, Rows.uptoBulkAll]
      omega
section
variable {H : Type} {enc : TypeId × Value → H} {P : Program} {w : World} {held : Bool}
theorem rd_exprU {T : TypeId} {f0 f1 f2 f3 f4 f5 : Field} (hT : P.underlying T = some (.struct #[f0, f1, f2, f3, f4, f5])) (ce : P.cellsOf T = 6)
    (o0 : f0.offset = 0) (o1 : f1.offset = 1) (o2 : f2.offset = 2) (o3 : f3.offset = 3) (o4 : f4.offset = 4) (o5 : f5.offset = 5)
    (c0 : P.cellsOf f0.type = 1) (c1 : P.cellsOf f1.type = 1) (c2 : P.cellsOf f2.type = 1) (c3 : P.cellsOf f3.type = 1) (c4 : P.cellsOf f4.type = 1) (c5 : P.cellsOf f5.type = 1)
    (i0 : P.underlying f0.type = some (.int .i64)) (i1 : P.underlying f1.type = some (.int .i64)) (i2 : P.underlying f2.type = some (.int .i64)) (i3 : P.underlying f3.type = some (.int .i64)) (i4 : P.underlying f4.type = some .string) (i5 : P.underlying f5.type = some (.slice T)) :
    ∀ (fuel : Nat) (cs : List Value) (x : DataW H × List MemPlace), DataW.trod enc P w 0 (fun _ => true) held fuel T cs = some x → (∀ n ∈ x.1.weights P T, n ≤ reachBytes) →
      ∃ e : Xt, cs = [.int .i64 e.k, .int .i64 e.op, .int .i64 e.t, .int .i64 e.v, .string e.nm, .slice e.A e.ar.length e.c] ∧ RdX w w.heap.size e ∧ NmT e ∧ e.size ≤ Rows.uptoBulk x.1 := by
  intro fuel
  induction fuel using Nat.strongRecOn with
  | ind fuel ih =>
    intro cs x h hw
    obtain ⟨xs, k, hk, hxy, hlen, hxl, hf⟩ := DataW.trod_struct hT h
    rw [ce] at hlen
    match xs, hxl, cs, hlen with
    | [y0, y1, y2, y3, y4, y5], _, [v0, v1, v2, v3, v4, v5], _ =>
      have g0 := hf 0 f0 rfl
      have g1 := hf 1 f1 rfl
      have g2 := hf 2 f2 rfl
      have g3 := hf 3 f3 rfl
      have g4 := hf 4 f4 rfl
      have g5 := hf 5 f5 rfl
      simp [o0, o1, o2, o3, o4, o5, c0, c1, c2, c3, c4, c5] at g0 g1 g2 g3 g4 g5
      obtain ⟨n0, z0, _⟩ := DataW.trod_int i0 g0
      obtain ⟨n1, z1, _⟩ := DataW.trod_int i1 g1
      obtain ⟨n2, z2, _, wf2⟩ := DataW.trod_int i2 g2
      have hn2 : n2 ≤ 9223372036854775807 := int_le wf2
      obtain ⟨n3, z3, _⟩ := DataW.trod_int i3 g3
      obtain ⟨s, z4, zy4, hs⟩ := DataW.trod_string i4 g4
      simp only [List.cons.injEq, and_true] at z0 z1 z2 z3 z4
      subst z0; subst z1; subst z2; subst z3; subst z4
      subst hxy
      have hwe : DataW.weights P T (.agg [y0.1, y1.1, y2.1, y3.1, y4.1, y5.1]) = y0.1.weights P f0.type ++ (y1.1.weights P f1.type ++ (y2.1.weights P f2.type ++ (y3.1.weights P f3.type ++ (y4.1.weights P f4.type ++ (y5.1.weights P f5.type ++ []))))) := by
        simp [DataW.weights, DataW.weightsEach, hT]
      have hw4 : ∀ n ∈ y4.1.weights P f4.type, n ≤ reachBytes := fun n hn => hw n (by simp only [List.map_cons, List.map_nil]; rw [hwe]; simp [hn])
      have hw5 : ∀ n ∈ y5.1.weights P f5.type, n ≤ reachBytes := fun n hn => hw n (by simp only [List.map_cons, List.map_nil]; rw [hwe]; simp [hn])
      have hs2 : s.size ≤ 140737488351232 := by
        have := hw4 s.data.toList.length (by rw [zy4]; simp [DataW.weights])
        rw [Array.length_toList] at this
        exact this
      rcases DataW.trod_slice i5 g5 with ⟨hv, _⟩ | ⟨a, len, cap, elems, rest, n, hkn, hv, hx0, _, hl, hm, hel, hx, _, _⟩
      · simp only [List.cons.injEq, and_true] at hv
        subst hv
        refine ⟨.mk n0 n1 n2 n3 s none 0 [], rfl, .mk _ (fun h => absurd rfl h) (fun ad i y h => by cases h) (fun y h => by cases h) ⟨⟨by simp [Xt.ar], hs⟩, Nat.le_refl _⟩, fun y hy => ?_, ?_⟩
        · rw [Xt.list_eq] at hy
          obtain rfl := List.mem_singleton.1 (show y ∈ [Xt.mk n0 n1 n2 n3 s none 0 []] from hy)
          exact ⟨hs2, hn2⟩
        · rw [Xt.size_eq]
          simp only [List.map_cons, List.map_nil, Rows.uptoBulk, Rows.uptoBulkAll]
          show 1 + 0 ≤ _
          omega
      · simp only [List.cons.injEq, and_true] at hv
        subst hv
        have key : ∀ i, i < len → ∃ e : Xt, XC w (a.add (i * 6)) e ∧ RdX w w.heap.size e ∧ NmT e ∧ ∀ z, (elems.map (·.1))[i]? = some z → e.size ≤ Rows.uptoBulk z := by
          intro i hi
          have h1 := hx i hi
          rw [ce, List.getElem?_eq_getElem (by omega)] at h1
          obtain ⟨cs', h2, h3⟩ := Option.bind_eq_some_iff.1 h1
          obtain ⟨_, hlen', hcell⟩ := World.cells?_some h2
          obtain ⟨e, he, hR, hN, hSz⟩ := ih n (by omega) cs' _ h3 fun m hm => hw5 m (by
            rw [hx0]
            simp only [DataW.weights, i5, List.mem_cons, List.mem_append]
            exact .inr (.inl (mem_wAll (List.mem_map_of_mem (List.getElem_mem (by omega))) m hm)))
          subst he
          refine ⟨e, ⟨?_, ?_, ?_, ?_, ?_, ?_⟩, hR, hN, fun z hz => ?_⟩
          · have := hcell 0 (by decide); rw [add_add] at this; simpa using this
          · have := hcell 1 (by decide); generalize a.add (i * 6) = b at this ⊢; simpa [Addr.add] using this
          · have := hcell 2 (by decide); generalize a.add (i * 6) = b at this ⊢; simpa [Addr.add] using this
          · have := hcell 3 (by decide); generalize a.add (i * 6) = b at this ⊢; simpa [Addr.add] using this
          · have := hcell 4 (by decide); generalize a.add (i * 6) = b at this ⊢; simpa [Addr.add] using this
          · have := hcell 5 (by decide); generalize a.add (i * 6) = b at this ⊢; simpa [Addr.add] using this
          · rw [List.getElem?_map, List.getElem?_eq_getElem (by omega)] at hz
            obtain rfl := Option.some.inj hz
            exact hSz
        obtain ⟨l, hll, hp⟩ := choose_list len key
        refine ⟨.mk n0 n1 n2 n3 s (some a) cap l, by rw [show (Xt.mk n0 n1 n2 n3 s (some a) cap l).ar.length = len from hll]; rfl, .mk _ (fun hne => ⟨a, rfl, ?_⟩) (fun ad i y hA hy => ?_) (fun y hy => ?_) ⟨⟨?_, hs⟩, ?_⟩, fun y hy => ?_, ?_⟩
        · have hne2 : l ≠ [] := hne
          have h0 : 0 < l.length := List.length_pos_iff.2 hne2
          have := World.block_lt_of_cell? w _ (hp 0 _ (List.getElem?_eq_getElem h0)).1.1
          rwa [add_block] at this
        · obtain rfl : a = ad := Option.some.inj hA
          exact (hp i y hy).1
        · obtain ⟨j, hj⟩ := List.getElem?_of_mem (show y ∈ l from hy)
          exact (hp j y hj).2.1
        · show l.length ≤ maxLen
          omega
        · show l.length ≤ cap
          omega
        · rw [Xt.list_eq] at hy
          rcases List.mem_cons.1 hy with rfl | hy
          · exact ⟨hs2, hn2⟩
          · obtain ⟨q, hq, hyq⟩ := List.mem_flatten.1 hy
            obtain ⟨z, hz, rfl⟩ := List.mem_map.1 hq
            obtain ⟨j, hj⟩ := List.getElem?_of_mem (show z ∈ l from hz)
            exact (hp j z hj).2.2.1 y hyq
        · rw [Xt.size_eq]
          have hb5 : (l.map Xt.size).sum ≤ Rows.uptoBulkAll (elems.map (·.1)) := sum_bulk (by rw [List.length_map, hll, hel]) fun i y z hy hz => (hp i y hy).2.2.2 z hz
          have hb6 : Rows.uptoBulkAll (elems.map (·.1)) ≤ Rows.uptoBulk y5.1 := by
            rw [hx0]
            simp only [Rows.uptoBulk]
            omega
          simp only [List.map_cons, List.map_nil, Rows.uptoBulk, Rows.uptoBulkAll]
          show 1 + (l.map Xt.size).sum ≤ _
          omega
end
end Go.Proofs.YtoimjcfdiljkjaaGreatDoor
/- Rows that come in, opened; enumerations. -/
namespace Go.Proofs.YtoimjcfdiljkjaaGreatDoor
set_option linter.unusedVariables false
set_option linter.unusedSimpArgs false
open Go.ChangeShapes Go.WideShapes Go.ChangeAt Go.RowKit Go.Deep Go.WideElems
section
variable {H : Type} {enc : TypeId × Value → H} {P : Program} {w : World} {held : Bool}
/-- a row, its elements opened by elem -/
theorem rd_rowU {α : Type} {T e : TypeId} {sz : Nat} {C : World → Addr → α → Prop} {R : α → Prop} {bk : α → Nat} (ht : P.underlying T = some (.slice e)) (ce : P.cellsOf e = sz) (hbl : ∀ a y, C w a y → a.block < w.heap.size)
    (fuel : Nat) (cs : List Value) (x : DataW H × List MemPlace) (h : DataW.trod enc P w 0 (fun _ => true) held fuel T cs = some x) (hw : ∀ n ∈ x.1.weights P T, n ≤ reachBytes)
    (elem : ∀ (n : Nat) (cs' : List Value) (x' : DataW H × List MemPlace), n < fuel → DataW.trod enc P w 0 (fun _ => true) held n e cs' = some x' → (∀ m ∈ x'.1.weights P e, m ≤ reachBytes) →
      ∃ y : α, (∀ a : Addr, (∀ j u, cs'[j]? = some u → w.cell? (a.add j) = some u) → C w a y) ∧ R y ∧ bk y ≤ Rows.uptoBulk x'.1) :
    ∃ r : Rw α, cs = [.slice r.A r.l.length r.c] ∧ RdR w w.heap.size sz C r ∧ (∀ y ∈ r.l, R y) ∧ (r.l.map bk).sum ≤ Rows.uptoBulk x.1 := by
  rcases DataW.trod_slice ht h with ⟨hv, hx⟩ | ⟨a, len, cap, elems, rest, n, hkn, hv, hx0, _, hl, hm, hel, hx, _, _⟩
  · exact ⟨⟨none, 0, []⟩, hv, RdR.nil _ _ _ _ _, (fun y h => by cases h), by simp⟩
  · have key : ∀ i, i < len → ∃ y : α, C w (a.add (i * sz)) y ∧ R y ∧ ∀ z, (elems.map (·.1))[i]? = some z → bk y ≤ Rows.uptoBulk z := by
      intro i hi
      have h1 := hx i hi
      rw [ce, List.getElem?_eq_getElem (by omega)] at h1
      obtain ⟨cs', h2, h3⟩ := Option.bind_eq_some_iff.1 h1
      obtain ⟨_, hlen', hcell⟩ := World.cells?_some h2
      obtain ⟨y, hC, hR, hB⟩ := elem n cs' _ (by omega) h3 fun m hm => hw m (by
        rw [hx0]
        simp only [DataW.weights, ht, List.mem_cons, List.mem_append]
        exact .inr (.inl (mem_wAll (List.mem_map_of_mem (List.getElem_mem (by omega))) m hm)))
      refine ⟨y, hC _ fun j u hu => ?_, hR, fun z hz => ?_⟩
      · have hj := (List.getElem?_eq_some_iff.1 hu).1
        rw [hcell j (by omega)]
        exact hu
      · rw [List.getElem?_map, List.getElem?_eq_getElem (by omega)] at hz
        obtain rfl := Option.some.inj hz
        exact hB
    obtain ⟨l, hll, hp⟩ := choose_list len key
    refine ⟨⟨some a, cap, l⟩, by rw [hll]; exact hv, ⟨fun hne => ⟨a, rfl, ?_⟩, fun ad i y hA hy => ?_, by simp only; omega, by simp only; omega⟩, fun y hy => ?_, ?_⟩
    · have h0 : 0 < l.length := List.length_pos_iff.2 hne
      have := hbl _ _ (hp 0 _ (List.getElem?_eq_getElem h0)).1
      rwa [add_block] at this
    · obtain rfl : a = ad := Option.some.inj hA
      exact (hp i y hy).1
    · obtain ⟨j, hj⟩ := List.getElem?_of_mem hy
      exact (hp j y hj).2.1
    · have hb : (l.map bk).sum ≤ Rows.uptoBulkAll (elems.map (·.1)) := sum_bulk (by rw [List.length_map, hll, hel]) fun i y z hy hz => (hp i y hy).2.2 z hz
      rw [hx0]
      simp only [Rows.uptoBulk]
      omega
theorem rd_strU {t : TypeId} (ht : P.underlying t = some .string) {fuel : Nat} {cs : List Value} {x : DataW H × List MemPlace} (h : DataW.trod enc P w 0 (fun _ => true) held fuel t cs = some x) (hw : ∀ n ∈ x.1.weights P t, n ≤ reachBytes) :
    ∃ s : ByteArray, cs = [.string s] ∧ s.size ≤ 140737488351232 := by
  obtain ⟨s, hc, hx, _⟩ := DataW.trod_string ht h
  refine ⟨s, hc, ?_⟩
  have := hw s.data.toList.length (by rw [hx]; simp [DataW.weights])
  rw [Array.length_toList] at this
  exact this
theorem rd_of_rdr {B : Nat} {r : Rw ByteArray} (h : RdR w B 1 BC r) : Rd w B r.A (va.ss r.l) := by
  intro hn
  obtain ⟨ad, hA, hb⟩ := h.1 (by intro e; rw [e] at hn; exact hn rfl)
  refine ⟨ad, hA, hb, fun j u hu => ?_⟩
  rw [va.ss, List.getElem?_map] at hu
  obtain ⟨b, hb2, rfl⟩ := Option.map_eq_some_iff.1 hu
  have := h.2.1 ad j b hA hb2
  unfold BC at this
  rwa [Nat.mul_one] at this
/-- an enumeration's cells -/
def EC (w : World) (a : Addr) (e : va.En) : Prop := w.cell? a = some (.string e.name) ∧ w.cell? ⟨a.block, a.off + 1, none⟩ = some (.slice e.A e.tags.length e.c)
end
section
variable {H : Type} {enc : TypeId × Value → H} {w : World} {held : Bool}
set_option maxRecDepth 100000 in
/-- an expression, opened, with its bulk -/
theorem open_exprU {b0 : Nat} {r : Reach} {v : Value} {d : DataW H} {p : List MemPlace} (hv : Value.okWide Tryz.prog w r b0 33 v) (h : DataW.Trod enc Tryz.prog w 0 (fun _ => true) held 33 v d p) (hsz : ∀ n ∈ d.weights Tryz.prog 33, n ≤ reachBytes) :
    ∃ x : Xt, v = xV x ∧ RsX w w.heap.size x ∧ x.size ≤ Rows.uptoBulk d := by
  obtain ⟨cs, rfl, hs⟩ := okWide_struct Tryz.underlying33 hv
  obtain ⟨fuel, hf⟩ := h
  obtain ⟨x, hx, hR, hN, hZ⟩ := rd_exprU Tryz.underlying33 (by kernel_rfl) rfl rfl rfl rfl rfl rfl (by kernel_rfl) (by kernel_rfl) (by kernel_rfl) (by kernel_rfl) (by kernel_rfl) (by kernel_rfl) Tryz.underlying3 Tryz.underlying3 Tryz.underlying3 Tryz.underlying3 Tryz.underlying9 Tryz.underlying31 fuel _ _ hf hsz
  refine ⟨x, ?_, ⟨hR, hN⟩, hZ⟩
  have : cs.toList = _ := hx
  unfold xV
  congr 1
  exact Array.toList_inj.1 this
end
end Go.Proofs.YtoimjcfdiljkjaaGreatDoor
/- A program that comes in, opened, with what the bound on its bulk gives. -/
namespace Go.Proofs.YtoimjcfdiljkjaaGreatDoor
set_option linter.unusedVariables false
set_option linter.unusedSimpArgs false
open Go.ChangeShapes Go.WideShapes Go.ChangeAt Go.RowKit Go.Deep Go.WideElems
/-- whatever comes in at type T is the cells L of a y with R, R speaking of its bulk -/
def Opn {H : Type} (enc : TypeId × Value → H) (P : Program) (w : World) (held : Bool) {α : Type} (N : Nat) (T : TypeId) (L : α → List Value) (R : Nat → α → Prop) : Prop :=
  ∀ fuel, fuel < N → ∀ (cs : List Value) (x : DataW H × List MemPlace), DataW.trod enc P w 0 (fun _ => true) held fuel T cs = some x → (∀ n ∈ x.1.weights P T, n ≤ reachBytes) → ∃ y : α, cs = L y ∧ R (Rows.uptoBulk x.1) y
section
variable {H : Type} {enc : TypeId × Value → H} {P : Program} {w : World} {held : Bool}
theorem Opn.mono {α : Type} {N M : Nat} {T : TypeId} {L : α → List Value} {R : Nat → α → Prop} (h : Opn enc P w held N T L R) (hM : M ≤ N) : Opn enc P w held M T L R := fun fuel hf => h fuel (by omega)
theorem Opn.imp {α : Type} {N : Nat} {T : TypeId} {L : α → List Value} {R S : Nat → α → Prop} (h : Opn enc P w held N T L R) (hM : ∀ b y, R b y → S b y) : Opn enc P w held N T L S := fun fuel hf cs x h1 h2 => by
  obtain ⟨y, hy, hr⟩ := h fuel hf cs x h1 h2
  exact ⟨y, hy, hM _ _ hr⟩
theorem Opn.map {α β : Type} {N : Nat} {T : TypeId} {L : α → List Value} {R : Nat → α → Prop} {L' : β → List Value} {R' : Nat → β → Prop} (h : Opn enc P w held N T L R) (g : α → β) (hL : ∀ y, L' (g y) = L y) (hR : ∀ b y, R b y → R' b (g y)) : Opn enc P w held N T L' R' := fun fuel hf cs x h1 h2 => by
  obtain ⟨y, hy, hr⟩ := h fuel hf cs x h1 h2
  exact ⟨g y, hy.trans (hL y).symm, hR _ _ hr⟩
end
section
variable {H : Type} {enc : TypeId × Value → H} {w : World} {held : Bool}
theorem SmS.mono {a b : Nat} {s : St} (h : SmS a s) (hab : a ≤ b) : SmS b s := by
  induction h with
  | mk s h1 h2 h3 h4 ih => exact .mk s (fun q hq => Nat.le_trans (h1 q hq) hab) (fun q hq => Nat.le_trans (h2 q hq) hab) (fun q hq => Nat.le_trans (h3 q hq) hab) ih
end
end Go.Proofs.YtoimjcfdiljkjaaGreatDoor
/- Enumerations and clocks that come in, opened, with what the bound on their bulk gives. -/
namespace Go.Proofs.YtoimjcfdiljkjaaGreatDoor
set_option linter.unusedVariables false
set_option linter.unusedSimpArgs false
open Go.ChangeShapes Go.WideShapes Go.ChangeAt Go.RowKit Go.Deep Go.WideElems
theorem mem_sum {α : Type} {l : List α} {f : α → Nat} {a : α} (h : a ∈ l) : f a ≤ (l.map f).sum := by
  induction l with
  | nil => cases h
  | cons b l ih =>
    rw [List.map_cons, List.sum_cons]
    rcases List.mem_cons.1 h with rfl | h
    · omega
    · have := ih h; omega
section
variable {H : Type} {enc : TypeId × Value → H} {P : Program} {w : World} {held : Bool}
theorem rd_strB {t : TypeId} (ht : P.underlying t = some .string) {fuel : Nat} {cs : List Value} {x : DataW H × List MemPlace} (h : DataW.trod enc P w 0 (fun _ => true) held fuel t cs = some x) (hw : ∀ n ∈ x.1.weights P t, n ≤ reachBytes) :
    ∃ s : ByteArray, cs = [.string s] ∧ s.size ≤ 140737488351232 ∧ s.size ≤ Rows.uptoBulk x.1 := by
  obtain ⟨s, hc, hx, _⟩ := DataW.trod_string ht h
  refine ⟨s, hc, ?_, ?_⟩
  · have := hw s.data.toList.length (by rw [hx]; simp [DataW.weights])
    rw [Array.length_toList] at this
    exact this
  · rw [hx]
    simp only [Rows.uptoBulk]
    have : s.size = s.data.toList.length := by rw [Array.length_toList]; rfl
    omega
theorem rd_textsB {T e : TypeId} (ht : P.underlying T = some (.slice e)) (he : P.underlying e = some .string) (ce : P.cellsOf e = 1) (fuel : Nat) (cs : List Value) (x : DataW H × List MemPlace)
    (h : DataW.trod enc P w 0 (fun _ => true) held fuel T cs = some x) (hw : ∀ n ∈ x.1.weights P T, n ≤ reachBytes) :
    ∃ r : Rw ByteArray, cs = [.slice r.A r.l.length r.c] ∧ RsB w w.heap.size r ∧ (r.l.map ByteArray.size).sum ≤ Rows.uptoBulk x.1 := by
  obtain ⟨r, h1, h2, h3, h4⟩ := rd_rowU (C := BC) (R := fun b => b.size ≤ 140737488351232) (bk := ByteArray.size) ht ce (fun a y hy => World.block_lt_of_cell? w _ hy) fuel cs x h hw fun n cs' x' _ h' hw' => by
    obtain ⟨s, hc, hs, hb⟩ := rd_strB he h' hw'
    refine ⟨s, fun a ha => ?_, hs, hb⟩
    have := ha 0 (.string s) (by rw [hc]; rfl)
    rwa [add_zero'] at this
  exact ⟨r, h1, ⟨h2, h3⟩, h4⟩
/-- enumerations -/
theorem rd_enumsB {T e tt : TypeId} {f0 f1 : Field} (ht : P.underlying T = some (.slice e)) (he : P.underlying e = some (.struct #[f0, f1])) (ce : P.cellsOf e = 2) (o0 : f0.offset = 0) (o1 : f1.offset = 1) (c0 : P.cellsOf f0.type = 1) (c1 : P.cellsOf f1.type = 1)
    (i0 : P.underlying f0.type = some .string) (i1 : P.underlying f1.type = some (.slice tt)) (it : P.underlying tt = some .string) (ct : P.cellsOf tt = 1) (fuel : Nat) (cs : List Value) (x : DataW H × List MemPlace)
    (h : DataW.trod enc P w 0 (fun _ => true) held fuel T cs = some x) (hw : ∀ n ∈ x.1.weights P T, n ≤ reachBytes) :
    ∃ r : Rw va.En, cs = [.slice r.A r.l.length r.c] ∧ RsE w w.heap.size r ∧ ∀ e ∈ r.l, ∀ b ∈ e.tags, b.size ≤ Rows.uptoBulk x.1 := by
  obtain ⟨r, h1, h2, h3, h4⟩ := rd_rowU (C := EC) (R := fun y : va.En => (Rd w w.heap.size y.A (va.ss y.tags)) ∧ y.name.size ≤ 140737488351232 ∧ (y.tags.length ≤ maxLen ∧ y.tags.length ≤ y.c) ∧ ∀ b ∈ y.tags, b.size ≤ 140737488351232) (bk := fun e : va.En => (e.tags.map ByteArray.size).sum) ht ce (fun a y hy => World.block_lt_of_cell? w _ hy.1) fuel cs x h hw fun n cs' x' _ h' hw' => by
    obtain ⟨xs, k, hk, hxy, hlen, hxl, hf⟩ := DataW.trod_struct he h'
    rw [ce] at hlen
    match xs, hxl, cs', hlen with
    | [y0, y1], _, [v0, v1], _ =>
      have g0 := hf 0 f0 rfl
      have g1 := hf 1 f1 rfl
      simp [o0, o1, c0, c1] at g0 g1
      subst hxy
      have hwe : DataW.weights P e (.agg [y0.1, y1.1]) = y0.1.weights P f0.type ++ (y1.1.weights P f1.type ++ []) := by
        simp [DataW.weights, DataW.weightsEach, he]
      obtain ⟨s, z0, hs⟩ := rd_strU i0 g0 fun n hn => hw' n (by simp only [List.map_cons, List.map_nil]; rw [hwe]; simp [hn])
      obtain ⟨t, z1, ⟨hR, hB⟩, hS⟩ := rd_textsB i1 it ct _ _ _ g1 fun n hn => hw' n (by simp only [List.map_cons, List.map_nil]; rw [hwe]; simp [hn])
      simp only [List.cons.injEq, and_true] at z0 z1
      subst z0
      subst z1
      refine ⟨⟨s, t.A, t.c, t.l⟩, fun a ha => ⟨?_, ?_⟩, ⟨rd_of_rdr hR, hs, ⟨hR.2.2.1, hR.2.2.2⟩, hB⟩, ?_⟩
      · have := ha 0 _ rfl
        rwa [add_zero'] at this
      · have := ha 1 _ rfl
        simpa [Addr.add] using this
      · simp only [List.map_cons, List.map_nil, Rows.uptoBulk, Rows.uptoBulkAll]
        omega
  refine ⟨r, h1, ⟨⟨fun hn => ?_, fun i e he => (h3 e (List.mem_of_getElem? he)).1⟩, ⟨h2.2.2.1, h2.2.2.2⟩, fun e he => (h3 e he).2⟩, fun e he b hb => Nat.le_trans (mem_sum hb) (Nat.le_trans (mem_sum (f := fun e : va.En => (e.tags.map ByteArray.size).sum) he) h4)⟩
  obtain ⟨ad, hA, hb⟩ := h2.1 hn
  refine ⟨ad, hA, hb, fun i e he => ?_⟩
  have := h2.2.1 ad i e hA he
  exact ⟨this.1, by rw [va.add_fld]; exact this.2⟩
/-- samplings -/
theorem rd_onsB {T e : TypeId} {f0 f1 f2 : Field} (ht : P.underlying T = some (.slice e)) (he : P.underlying e = some (.struct #[f0, f1, f2])) (ce : P.cellsOf e = 3) (o0 : f0.offset = 0) (o1 : f1.offset = 1) (o2 : f2.offset = 2) (c0 : P.cellsOf f0.type = 1) (c1 : P.cellsOf f1.type = 1) (c2 : P.cellsOf f2.type = 1)
    (i0 : P.underlying f0.type = some .string) (i1 : P.underlying f1.type = some (.int .i64)) (i2 : P.underlying f2.type = some (.int .i64)) (fuel : Nat) (cs : List Value) (x : DataW H × List MemPlace)
    (h : DataW.trod enc P w 0 (fun _ => true) held fuel T cs = some x) (hw : ∀ n ∈ x.1.weights P T, n ≤ reachBytes) :
    ∃ r : Rw Ot, cs = [.slice r.A r.l.length r.c] ∧ RsO w w.heap.size r ∧ ∀ o ∈ r.l, o.nm.size ≤ Rows.uptoBulk x.1 := by
  obtain ⟨r, h1, h2, h3, h4⟩ := rd_rowU (C := OC) (R := fun o : Ot => o.nm.size ≤ 140737488351232 ∧ o.t ≤ 9223372036854775807) (bk := fun o : Ot => o.nm.size) ht ce (fun a y hy => World.block_lt_of_cell? w _ hy.1) fuel cs x h hw fun n cs' x' _ h' hw' => by
    obtain ⟨xs, k, hk, hxy, hlen, hxl, hf⟩ := DataW.trod_struct he h'
    rw [ce] at hlen
    match xs, hxl, cs', hlen with
    | [y0, y1, y2], _, [v0, v1, v2], _ =>
      have g0 := hf 0 f0 rfl
      have g1 := hf 1 f1 rfl
      have g2 := hf 2 f2 rfl
      simp [o0, o1, o2, c0, c1, c2] at g0 g1 g2
      subst hxy
      have hwe : DataW.weights P e (.agg [y0.1, y1.1, y2.1]) = y0.1.weights P f0.type ++ (y1.1.weights P f1.type ++ (y2.1.weights P f2.type ++ [])) := by
        simp [DataW.weights, DataW.weightsEach, he]
      obtain ⟨s, z0, hs, hb⟩ := rd_strB i0 g0 fun n hn => hw' n (by simp only [List.map_cons, List.map_nil]; rw [hwe]; simp [hn])
      obtain ⟨n1, z1, _, wf1⟩ := DataW.trod_int i1 g1
      obtain ⟨n2, z2, _⟩ := DataW.trod_int i2 g2
      simp only [List.cons.injEq, and_true] at z0 z1 z2
      subst z0; subst z1; subst z2
      refine ⟨⟨s, n1, n2⟩, fun a ha => ⟨?_, ?_, ?_⟩, ⟨hs, int_le wf1⟩, ?_⟩
      · have := ha 0 _ rfl
        rwa [add_zero'] at this
      · have := ha 1 _ rfl
        simpa [Addr.add] using this
      · have := ha 2 _ rfl
        simpa [Addr.add] using this
      · simp only [List.map_cons, List.map_nil, Rows.uptoBulk, Rows.uptoBulkAll]
        omega
  exact ⟨r, h1, ⟨h2, h3⟩, fun o ho => Nat.le_trans (mem_sum (f := fun o : Ot => o.nm.size) ho) h4⟩
end
end Go.Proofs.YtoimjcfdiljkjaaGreatDoor
