import Derived.Test.YtoimjcfdiljkjaaGreatDoorQO
set_option linter.unusedVariables false
set_option linter.unusedSimpArgs false
namespace Go.Proofs.YtoimjcfdiljkjaaGreatDoor
open Go.RowKit
def NL (l : List UInt8) : Prop := ∀ c ∈ l, c ≠ 10
instance (l : List UInt8) : Decidable (NL l) := inferInstanceAs (Decidable (∀ c ∈ l, c ≠ 10))
theorem NL.app {a b : List UInt8} (h : NL a) (k : NL b) : NL (a ++ b) := fun c hc => (List.mem_append.1 hc).elim (h c) (k c)
theorem NL.nil : NL [] := fun c h => by cases h
theorem NL.flat {l : List (List UInt8)} (h : ∀ s ∈ l, NL s) : NL l.flatten := fun c hc => by
  obtain ⟨s, hs, hc⟩ := List.mem_flatten.1 hc
  exact h s hs c hc
theorem NL.joinTail {sep : List UInt8} (k : NL sep) : ∀ l : List (List UInt8), (∀ s ∈ l, NL s) → NL (Lib.joinTail sep l)
  | [], _ => NL.nil
  | x :: l, h => (k.app (h x List.mem_cons_self)).app (NL.joinTail k l fun s hs => h s (List.mem_cons_of_mem _ hs))
theorem NL.join {l : List (List UInt8)} {sep : List UInt8} (h : ∀ s ∈ l, NL s) (k : NL sep) : NL (Lib.join l sep) := by
  cases l with
  | nil => exact NL.nil
  | cons x l =>
    rw [Lib.join_cons]
    exact (h x List.mem_cons_self).app (NL.joinTail k l fun s hs => h s (List.mem_cons_of_mem _ hs))
theorem NL.getD {l : List (List UInt8)} (h : ∀ s ∈ l, NL s) (i : Nat) : NL (l.getD i []) := by
  rw [List.getD_eq_getElem?_getD]
  cases he : l[i]? with
  | none => exact NL.nil
  | some s => exact h s (List.mem_of_getElem? he)
theorem NL.map {α : Type} {l : List α} {f : α → List UInt8} (h : ∀ x ∈ l, NL (f x)) : ∀ s ∈ l.map f, NL s := fun s hs => by
  obtain ⟨x, hx, rfl⟩ := List.mem_map.1 hs
  exact h x hx
theorem NL.br {s : List UInt8} (h : NL s) : NL (brS s) := ((by decide : NL [40]).app h).app (by decide)
theorem sp_all {p : Int → Bool} : ∀ l : List UInt8, sp p l = l.length → ∀ c ∈ l, p ((c.toNat : Nat) : Int) = true
  | [], _, c, hc => by cases hc
  | a :: l, h, c, hc => by
    unfold sp at h
    rw [List.takeWhile_cons] at h
    split at h
    · rename_i ha
      rcases List.mem_cons.1 hc with rfl | hc
      · exact ha
      · refine sp_all l ?_ c hc
        unfold sp
        simpa using h
    · simp at h
theorem id_all {s : ByteArray} (h : idP s = true) : 0 < s.size ∧ ∀ c ∈ bsT s, pI ((c.toNat : Nat) : Int) = true := by
  unfold idP at h
  simp only [Bool.and_eq_true, decide_eq_true_eq, beq_iff_eq] at h
  obtain ⟨h0, h1, h2⟩ := h
  unfold fst at h1 h2
  rw [dif_pos h0] at h1 h2
  refine ⟨h0, ?_⟩
  split at h1
  · rename_i hp
    rw [if_pos hp] at h2
    split at h2
    · simp only at h2
      have h3 : sp pI s.data.toList = s.size := by omega
      exact sp_all _ (h3.trans (bsT_size s).symm)
    · simp only at h2
      omega
  · split at h1
    · split at h1
      · simp at h1
      · split at h1
        · simp at h1
        · simp at h1
    · split at h1
      · split at h1
        · simp at h1
        · simp at h1
      · split at h1
        · simp at h1
        · split at h1
          · simp at h1
          · simp at h1
theorem NL.id {s : ByteArray} (h : idP s = true) : NL (bsT s) := fun c hc e => by
  have := (id_all h).2 c hc
  rw [e] at this
  exact absurd this (by decide)
theorem NL.dec : ∀ u : Nat, NL (Lib.decDigits u) := by
  intro u
  rw [Lib.decDigits_eq]
  intro c hc e
  obtain ⟨t, _, rfl⟩ := List.mem_map.1 hc
  have h1 := congrArg UInt8.toNat e
  unfold Lib.dg at h1
  rw [UInt8.toNat_ofNat'] at h1
  have h2 : (10 : UInt8).toNat = 10 := rfl
  omega
def IdE (es : List va.En) : Prop := ∀ e ∈ es, idP e.name = true ∧ ∀ b ∈ e.tags, idP b = true
theorem NL.itoa (v : Int) : NL (Lib.itoa v) := by
  unfold Lib.itoa
  split
  · intro c hc
    rcases List.mem_cons.1 hc with rfl | hc
    · decide
    · exact NL.dec _ c hc
  · exact NL.dec _
theorem NL.val {es : List va.En} (h : IdE es) (t v : Int) : NL (valS es t v) := by
  unfold valS va.textS
  split
  · split
    · exact NL.itoa v
    · have key : ∀ l : List ByteArray, (∀ b ∈ l, NL (bsT b)) → NL (bsT (l.getD v.toNat ⟨#[]⟩)) := fun l hl => by
        rw [List.getD_eq_getElem?_getD]
        cases h : l[v.toNat]? with
        | none => exact NL.nil
        | some b => exact hl b (List.mem_of_getElem? h)
      refine key _ fun b hb => ?_
      unfold va.tagsOf at hb
      split at hb
      · simp only [List.mem_cons, List.not_mem_nil, or_false] at hb
        rcases hb with rfl | rfl
        · decide
        · decide
      · split at hb
        · cases h9 : es[(t - 3).toNat]? with
          | none => rw [h9] at hb; simp at hb
          | some e =>
            rw [h9] at hb
            exact NL.id ((h e (List.mem_of_getElem? h9)).2 b hb)
        · cases hb
  · exact NL.nil
theorem NL.name {es : List va.En} (h : IdE es) (t : Int) : NL (bsT (va.nameT es t)) := by
  unfold va.nameT
  split
  · decide
  · split
    · decide
    · split
      · cases he : es[(t - 3).toNat]? with
        | none => exact NL.nil
        | some e => exact NL.id (h e (List.mem_of_getElem? he)).1
      · exact NL.nil
theorem NL.digs (l : List Bool) : NL (bsT (bw.dgs l)) := fun c hc => by
  have hc' : c ∈ l.map bw.dig := by
    have : bsT (bw.dgs l) = l.map bw.dig := rfl
    rwa [this] at hc
  obtain ⟨b, _, rfl⟩ := List.mem_map.1 hc'
  cases b <;> decide
theorem bsT_app (a b : ByteArray) : bsT (a ++ b) = bsT a ++ bsT b := by
  unfold bsT
  simp
theorem NL.nm {x : Xt} (h : chk1 wokP x = 0) : NL (bsT x.nm) := by
  unfold chk1 at h
  split at h
  · cases h
  split at h
  · cases h
  split at h
  · cases h
  rename_i h1 h2 h3
  have h4 : formedP x.k x.op x.t x.v x.ar.length (wokP x.nm) = true ∧ onlyP x.k x.op x.t x.v (x.nm.toList == []) = true := by
    rw [← Bool.and_eq_true]
    exact Decidable.byContradiction fun hn => h2 (by simpa using hn)
  by_cases hi : hasIdn x.k = true
  · rw [hi, Bool.true_and] at h3
    exact NL.id (by simpa using h3)
  · by_cases h11 : x.k = 11
    · have := h4.1
      unfold formedP at this
      rw [if_neg (by omega), if_neg (by omega), if_neg (by omega), if_neg (by omega), if_neg (by omega), if_neg (by omega), if_neg (by omega), if_neg (by omega), if_neg (by omega), if_pos h11, Bool.and_eq_true] at this
      have h5 := this.2
      have hw : x.nm.size ≤ 66 ∧ ∃ h l, x.nm = bw.wtx h l ∧ bw.ck h l = 0 := Classical.byContradiction fun hn => by
        rw [wokP_no hn] at h5
        cases h5
      obtain ⟨_, hh, ll, e, _⟩ := hw
      rw [e]
      unfold bw.wtx
      rw [bsT_app, bsT_app, bsT_app]
      exact (((NL.digs hh).app (by decide)).app (NL.digs ll)).app (by decide)
    · rcases Nat.eq_zero_or_pos x.nm.size with h0 | h0
      · have : bsT x.nm = [] := List.length_eq_zero_iff.1 (by rw [bsT_size]; exact h0)
        rw [this]
        exact NL.nil
      · have hne := (ne_facts h0).1
        have ho := h4.2
        rw [hne] at ho
        simp only [hasIdn, hasVar, Bool.or_eq_true, beq_iff_eq, not_or] at hi
        unfold onlyP at ho
        split at ho
        · cases ho
        split at ho
        · cases ho
        rw [if_neg (by omega), if_neg (by omega), if_neg (by omega), if_neg (by omega)] at ho
        simp at ho
theorem NL.opd {x : Xt} {s : List UInt8} (h : NL s) : NL (opdS x s) := by
  unfold opdS
  split
  · exact h
  · exact h.br
theorem NL.opI {l : List Xt} {ts : List (List UInt8)} (h : ∀ s ∈ ts, NL s) (i : Nat) : NL (opI l ts i) := NL.opd (NL.getD h i)
theorem NL.sym (op : Int) : NL (symS op) := by
  have key : ∀ (c : Prop) [Decidable c] (a b : List UInt8), NL a → NL b → NL (if c then a else b) := fun c _ a b ha hb => by split <;> assumption
  unfold symS
  repeat (refine key _ _ _ (by decide) ?_)
  decide
theorem NL.bet {l : List Xt} {ts : List (List UInt8)} (h : ∀ s ∈ ts, NL s) {sy : List UInt8} (k : NL sy) : NL (betS l ts sy) :=
  ((((NL.opI h 0).app (by decide)).app k).app (by decide)).app (NL.opI h 1)
theorem NL.smp {es : List va.En} (h : IdE es) {o : Ot} (k : NL (bsT o.nm)) : NL (smpS es o) := ((by decide : NL [119, 104, 101, 110, 32]).app (NL.val h _ _)).app k.br
theorem NL.nd {es : List va.En} (h : IdE es) {x : Xt} (hn : NL (bsT x.nm)) {ts : List (List UInt8)} (ht : ∀ s ∈ ts, NL s) : NL (ndS es x ts) := by
  unfold ndS
  split
  · exact NL.val h _ _
  split
  · unfold oprS
    split
    · exact (by decide : NL [110, 111, 116, 32]).app (NL.opI ht 0)
    split
    · refine (by decide : NL [45]).app ?_
      unfold negS
      split
      · exact (NL.getD ht 0).br
      · exact NL.opd (NL.getD ht 0)
    · exact NL.bet ht (NL.sym _)
  split
  · exact (((((by decide : NL [105, 102, 32]).app (NL.getD ht 0)).app (by decide)).app (NL.getD ht 1)).app (by decide)).app (NL.getD ht 2)
  split
  · exact (by decide : NL [112, 114, 101, 32]).app (NL.opI ht 0)
  split
  · exact NL.bet ht (by decide)
  split
  · exact NL.bet ht (by decide)
  split
  · exact ((NL.opI ht 0).app (by decide)).app (NL.smp h hn)
  split
  · have hb : ∀ s ∈ ts.mapIdx (braS es x.t), NL s := fun s hs => by
      obtain ⟨i, hi, rfl⟩ := List.mem_mapIdx.1 hs
      exact (by decide : NL [32]).app (((NL.val h _ _).app (by decide)).app (ht _ (List.getElem_mem _))).br
    refine ((by decide : NL [109, 101, 114, 103, 101, 32]).app hn).app (NL.flat fun s hs => ?_)
    unfold brsS at hs
    split at hs
    · exact hb s (List.mem_reverse.1 hs)
    · exact hb s hs
  split
  · refine (hn.app (NL.join (fun s hs => ht s (List.mem_of_mem_take hs)) (by decide)).br).app ?_
    split
    · exact (by decide : NL [32, 101, 118, 101, 114, 121, 32]).app (NL.opI ht _)
    · exact NL.nil
  split
  · exact ((by decide : NL [39]).app hn).app (by decide)
  · exact hn
theorem NL.tx {es : List va.En} (h : IdE es) : ∀ x : Xt, (∀ y ∈ x.list, NL (bsT y.nm)) → NL (x.tx es) := by
  refine Xt.ind fun x ih hn => ?_
  rw [Xt.tx_eq]
  exact NL.nd h (hn x (list_self x)) (NL.map fun y hy => ih y hy fun z hz => hn z (list_kid hy hz))
theorem last_app (a : List UInt8) {b : List UInt8} (h : b ≠ []) : (a ++ b).getLast? = b.getLast? := by
  rw [List.getLast?_append]
  cases hb : b.getLast? with
  | none => exact absurd (List.getLast?_eq_none_iff.1 hb) h
  | some c => rfl
def LnOK (s : List UInt8) : Prop := NL s ∧ s ≠ [] ∧ s.getLast? ≠ some 32
def Lns (k : Nat) (t : List UInt8) : Prop := ∃ ls : List (List UInt8), ls.length = k ∧ t = (ls.map (· ++ [10])).flatten ∧ ∀ s ∈ ls, LnOK s
theorem Lns.nil : Lns 0 [] := ⟨[], rfl, rfl, fun s h => by cases h⟩
theorem Lns.app {a b : Nat} {s t : List UInt8} (h : Lns a s) (k : Lns b t) : Lns (a + b) (s ++ t) := by
  obtain ⟨l, h1, h2, h3⟩ := h
  obtain ⟨m, k1, k2, k3⟩ := k
  refine ⟨l ++ m, by rw [List.length_append, h1, k1], by rw [List.map_append, List.flatten_append, h2, k2], fun s hs => ?_⟩
  rcases List.mem_append.1 hs with h | h
  · exact h3 s h
  · exact k3 s h
theorem Lns.of {a b : Nat} {t : List UInt8} (h : Lns a t) (e : a = b) : Lns b t := e ▸ h
theorem Lns.one {n : Nat} {s : List UInt8} (h : LnOK s) : Lns 1 (linS n s) := by
  obtain ⟨h1, h2, h3⟩ := h
  refine ⟨[(List.replicate n [32, 32]).flatten ++ s], rfl, by simp [linS], fun u hu => ?_⟩
  rw [List.mem_singleton] at hu
  subst hu
  refine ⟨(NL.flat fun s hs => ?_).app h1, by simp [h2], ?_⟩
  · rw [List.mem_replicate] at hs
    rw [hs.2]
    decide
  · rw [last_app _ h2]
    exact h3
theorem Lns.flat {α : Type} {l : List α} {f : α → List UInt8} {g : α → Nat} (h : ∀ x ∈ l, Lns (g x) (f x)) : Lns (l.map g).sum ((l.map f).flatten) := by
  induction l with
  | nil => exact Lns.nil
  | cons a l ih =>
    rw [List.map_cons, List.map_cons, List.sum_cons, List.flatten_cons]
    exact (h a List.mem_cons_self).app (ih fun x hx => h x (List.mem_cons_of_mem _ hx))
theorem Lns.each {α : Type} {l : List α} {f : α → List UInt8} (h : ∀ x ∈ l, Lns 1 (f x)) : Lns l.length ((l.map f).flatten) := by
  have := Lns.flat (g := fun _ => 1) h
  rwa [List.map_const', List.sum_replicate_nat, Nat.mul_one] at this
theorem LnOK.semi {a : List UInt8} (h : NL a) : LnOK (a ++ [59]) := ⟨h.app (by decide), by simp, by rw [last_app _ (by simp)]; decide⟩
theorem LnOK.paren {a : List UInt8} (h : NL a) : LnOK (a ++ [41]) := ⟨h.app (by decide), by simp, by rw [last_app _ (by simp)]; decide⟩
theorem LnOK.id {a : List UInt8} (h : NL a) {s : ByteArray} (hs : idP s = true) : LnOK (a ++ bsT s) := by
  obtain ⟨h1, h2⟩ := id_all hs
  have h3 : bsT s ≠ [] := fun e => by
    have := bsT_size s
    rw [e] at this
    simp at this
    omega
  refine ⟨h.app (NL.id hs), by simp [h3], ?_⟩
  rw [last_app _ h3]
  intro e
  have := h2 32 (List.mem_of_getLast? e)
  exact absurd this (by decide)
theorem Lns.count {k : Nat} {t : List UInt8} (h : Lns k t) : t.count 10 = k := by
  obtain ⟨ls, rfl, rfl, h3⟩ := h
  induction ls with
  | nil => rfl
  | cons s ls ih =>
    rw [List.map_cons, List.flatten_cons, List.count_append, List.count_append, ih fun u hu => h3 u (List.mem_cons_of_mem _ hu), List.length_cons]
    have : s.count 10 = 0 := List.count_eq_zero.2 fun hm => (h3 s List.mem_cons_self).1 10 hm rfl
    rw [this]
    simp
    omega
theorem Lns.head {k : Nat} {t : List UInt8} (h : Lns k t) : t[0]? ≠ some 10 := by
  obtain ⟨ls, rfl, rfl, h3⟩ := h
  cases ls with
  | nil => simp
  | cons s ls =>
    obtain ⟨h1, h2, _⟩ := h3 s List.mem_cons_self
    cases s with
    | nil => exact absurd rfl h2
    | cons c s =>
      intro e
      simp at e
      exact h1 c List.mem_cons_self e
theorem Lns.prev {k : Nat} {t : List UInt8} (h : Lns k t) : ∀ i, t[i + 1]? = some 10 → t[i]? ≠ some 32 ∧ t[i]? ≠ some 10 := by
  obtain ⟨ls, rfl, rfl, h3⟩ := h
  induction ls with
  | nil => intro i hi; simp at hi
  | cons s ls ih =>
    intro i hi
    obtain ⟨h1, h2, h4⟩ := h3 s List.mem_cons_self
    have hr : ∀ u ∈ ls, LnOK u := fun u hu => h3 u (List.mem_cons_of_mem _ hu)
    have ih' := ih hr
    have hd := Lns.head (k := ls.length) ⟨ls, rfl, rfl, hr⟩
    rw [List.map_cons, List.flatten_cons, List.append_assoc] at hi ⊢
    generalize (ls.map (· ++ [10])).flatten = r at *
    rcases Nat.lt_trichotomy (i + 1) s.length with hlt | heq | hgt
    · rw [List.getElem?_append_left hlt] at hi
      exact absurd rfl (h1 10 (List.mem_of_getElem? hi))
    · rw [List.getElem?_append_left (by omega)]
      have hl : s.getLast? = s[i]? := by rw [List.getLast?_eq_getElem?]; congr 1; omega
      rw [← hl]
      refine ⟨h4, fun e => h1 10 (List.mem_of_getLast? e) rfl⟩
    · rw [List.getElem?_append_right (by omega)] at hi ⊢
      obtain ⟨m, hm⟩ : ∃ m, i = s.length + m := ⟨i - s.length, by omega⟩
      subst hm
      rw [show s.length + m + 1 - s.length = m + 1 by omega] at hi
      rw [show s.length + m - s.length = m by omega]
      simp only [List.cons_append, List.nil_append, List.getElem?_cons_succ] at hi ⊢
      cases m with
      | zero => exact absurd hi hd
      | succ m =>
        rw [List.getElem?_cons_succ]
        exact ih' m hi
theorem Lns.last {k : Nat} {t : List UInt8} (h : Lns k t) (hne : t ≠ []) : t.getLast? = some 10 := by
  obtain ⟨ls, rfl, rfl, h3⟩ := h
  rcases List.eq_nil_or_concat ls with rfl | ⟨l, s, rfl⟩
  · exact absurd rfl hne
  · simp
end Go.Proofs.YtoimjcfdiljkjaaGreatDoor
namespace Go.Proofs.YtoimjcfdiljkjaaGreatDoor
open Go.RowKit
theorem idE_all {l : List ByteArray} (h : errs (l.map idE) = 0) : ∀ b ∈ l, idP b = true := fun b hb => by
  have := errs_zero.1 h _ (List.mem_map_of_mem hb)
  unfold idE at this
  split at this
  · assumption
  · omega
theorem enum_id {e : va.En} (h : enumE e = 0) : idP e.name = true ∧ ∀ b ∈ e.tags, idP b = true := by
  unfold enumE at h
  split at h
  · rename_i hi
    split at h
    · omega
    · split at h
      · omega
      · exact ⟨hi, idE_all h⟩
  · omega
theorem dcl_id {es : List va.En} {d : Dt} (h : dclE es d = 0) : idP d.nm = true := by
  unfold dclE at h
  split at h
  · assumption
  · omega
theorem on_id {es : List va.En} {o : Ot} (h : onE es o = 0) : idP o.nm = true := by
  unfold onE at h
  split at h
  · assumption
  · omega
theorem dcl_nl {es : List va.En} (h : IdE es) {d : Dt} (h1 : idP d.nm = true) (h2 : ∀ o ∈ d.ck.l, idP o.nm = true) : NL (dclS es d) := by
  unfold dclS
  refine (((NL.id h1).app (by decide)).app (NL.name h _)).app ?_
  split
  · exact (by decide : NL [32]).app (NL.join (NL.map fun o ho => NL.smp h (NL.id (h2 o ho))) (by decide))
  · exact NL.nil
theorem loc_nl {es : List va.En} (h : IdE es) {d : Dt} (hd : locE es d = 0) : NL (dclS es d) := by
  unfold locE at hd
  obtain ⟨h1, h2⟩ := orE_zero.1 hd
  split at h2
  · omega
  · exact dcl_nl h (dcl_id h1) fun o ho => on_id (errs_zero.1 h2 _ (List.mem_map_of_mem ho))
theorem port_nl {es : List va.En} (h : IdE es) {d : Dt} (hd : portE es d = 0) : NL (dclS es d) := by
  unfold portE at hd
  obtain ⟨h1, h2⟩ := orE_zero.1 hd
  split at h2
  · omega
  · refine dcl_nl h (dcl_id h1) fun o ho => ?_
    have := List.length_pos_of_mem ho
    omega
theorem dcs_nl {es : List va.En} {l : List Dt} (h : ∀ d ∈ l, NL (dclS es d)) : NL (dcsS es l) := NL.join (NL.map h) (by decide)
theorem exp_nl {es : List va.En} (h : IdE es) {x : Xt} (hx : expE es x = 0) : NL (x.tx es) := by
  refine NL.tx h x fun y hy => ?_
  unfold expE at hx
  have h1 := (orE_zero.1 hx).1
  unfold chkAll at h1
  split at h1
  · cases h1
  · have key : ∀ l : List Xt, firstE (chk1 wokP) l = 0 → ∀ y ∈ l, chk1 wokP y = 0 := by
      intro l
      induction l with
      | nil => intro _ y hy; cases hy
      | cons a l ih =>
        intro h y hy
        unfold firstE at h
        by_cases ha : chk1 wokP a = 0
        · rw [if_pos ha] at h
          rcases List.mem_cons.1 hy with rfl | hy
          · exact ha
          · exact ih h y hy
        · rw [if_neg ha] at h
          exact absurd h ha
    exact NL.nm (key _ h1 y hy)
theorem eqn_nl {es : List va.En} (h : IdE es) {q : Qt} (hq : eqnE es q = 0) : NL (lftS q.lf.l) ∧ NL (q.r.tx es) := by
  unfold eqnE at hq
  split at hq
  · omega
  · split at hq
    · omega
    · obtain ⟨h1, h2⟩ := orE_zero.1 hq
      obtain ⟨h2, _⟩ := orE_zero.1 h2
      refine ⟨?_, exp_nl h h2⟩
      have : NL (Lib.join (q.lf.l.map bsT) [44, 32]) := NL.join (NL.map fun b hb => NL.id (idE_all h1 b hb)) (by decide)
      unfold lftS
      split
      · exact this.br
      · exact this
theorem trn_nl {es : List va.En} (h : IdE es) {k : Int} {b : Bool} {t : Tt} (ht : trnE es k b t = 0) : NL (t.cd.tx es) := by
  unfold trnE at ht
  split at ht
  · omega
  · exact exp_nl h (orE_zero.1 ht).1
def oneN (n : Nat) : Nat := if 0 < n then 1 else 0
def St.ln (s : St) : Nat := 3 + oneN s.lc.l.length + s.un.l.length + s.ut.l.length + s.qs.l.length + (2 * s.au.l.length + (s.au.l.attach.map fun a => (a.1.l.attach.map fun t => St.ln t.1).sum).sum)
termination_by SizeOf.sizeOf s
decreasing_by exact St.lt_of_mem a.2 t.2
def lnA (a : Rw St) : Nat := (a.l.map St.ln).sum
def lnAs (l : List (Rw St)) : Nat := 2 * l.length + (l.map lnA).sum
theorem St.ln_eq (s : St) : s.ln = 3 + oneN s.lc.l.length + s.un.l.length + s.ut.l.length + s.qs.l.length + lnAs s.au.l := by
  rw [St.ln]
  unfold lnAs lnA
  simp
def lnN (n : Nt) : Nat := 3 + oneN n.locs.l.length + n.asm.l.length + n.ens.l.length + n.qs.l.length + lnAs n.au.l
def lnP (p : Pt) : Nat := p.es.l.length + (p.ns.l.map lnN).sum
theorem lcs_lns {es : List va.En} {l : List Dt} (h : ∀ d ∈ l, NL (dclS es d)) (n : Nat) : Lns (oneN l.length) (lcsS es n l) := by
  unfold lcsS oneN
  split
  · exact Lns.one (LnOK.semi ((by decide : NL [118, 97, 114, 32]).app (dcs_nl h)))
  · exact Lns.nil
theorem cms_lns {es : List va.En} {kw : ByteArray} (hk : NL (bsT kw)) {l : List Xt} (h : ∀ x ∈ l, NL (x.tx es)) : Lns l.length (cmsS es kw l) :=
  Lns.each fun x hx => Lns.one (LnOK.semi (hk.app (h x hx)))
theorem eqs_lns {es : List va.En} {l : List Qt} (h : ∀ q ∈ l, NL (lftS q.lf.l) ∧ NL (q.r.tx es)) (n : Nat) : Lns l.length ((l.map (eq1S es n)).flatten) :=
  Lns.each fun q hq => Lns.one (LnOK.semi (((h q hq).1.app (by decide)).app (h q hq).2))
theorem trs_lns {es : List va.En} {ss : List St} (hs : ∀ s ∈ ss, idP s.nm = true) {kw : List UInt8} (hk : NL kw) {l : List Tt} (h : ∀ t ∈ l, NL (t.cd.tx es)) (n : Nat) : Lns l.length ((l.map (tr1S es ss n kw)).flatten) := by
  refine Lns.each fun t ht => Lns.one ?_
  unfold trnS
  rw [← List.append_assoc]
  refine LnOK.semi (hk.app ((( h t ht).app ?_).app ?_))
  · split <;> decide
  · rw [List.getD_eq_getElem?_getD, List.getElem?_map]
    cases he : ss[t.to.toNat]? with
    | none => exact NL.nil
    | some s => exact NL.id (hs s (List.mem_of_getElem? he))
inductive LkS (es : List va.En) : St → Prop
  | mk (s : St) (h0 : idP s.nm = true) (h1 : ∀ d ∈ s.lc.l, NL (dclS es d)) (h2 : ∀ q ∈ s.qs.l, NL (lftS q.lf.l) ∧ NL (q.r.tx es)) (h3 : ∀ t ∈ s.un.l, NL (t.cd.tx es)) (h4 : ∀ t ∈ s.ut.l, NL (t.cd.tx es)) (h5 : ∀ a ∈ s.au.l, ∀ t ∈ a.l, LkS es t) : LkS es s
theorem LkS.nm {es : List va.En} {s : St} (h : LkS es s) : idP s.nm = true := by cases h; assumption
theorem aut_lk {es : List va.En} (h : IdE es) : ∀ (r : Nat) (a : Rw St), autE es r a = 0 → ∀ s ∈ a.l, LkS es s := by
  intro r
  induction r with
  | zero => intro a ha; unfold autE at ha; omega
  | succ r ih =>
    intro a ha s hs
    unfold autE at ha
    split at ha
    · omega
    · split at ha
      · omega
      · have h1 := errs_zero.1 ha _ (List.mem_map_of_mem hs)
        unfold staE at h1
        split at h1
        · rename_i hi
          split at h1
          · omega
          · obtain ⟨e1, h1⟩ := orE_zero.1 h1
            obtain ⟨e2, h1⟩ := orE_zero.1 h1
            obtain ⟨e3, h1⟩ := orE_zero.1 h1
            obtain ⟨e4, e5⟩ := orE_zero.1 h1
            exact .mk s hi (fun d hd => loc_nl h (errs_zero.1 e1 _ (List.mem_map_of_mem hd))) (fun q hq => eqn_nl h (errs_zero.1 e2 _ (List.mem_map_of_mem hq)))
              (fun t ht => trn_nl h (errs_zero.1 e4 _ (List.mem_map_of_mem ht))) (fun t ht => trn_nl h (errs_zero.1 e5 _ (List.mem_map_of_mem ht))) (fun a' ha' => ih a' (errs_zero.1 e3 _ (List.mem_map_of_mem ha')))
        · omega
theorem sum_two (l : List (Rw St)) : (l.map fun a => 2 + lnA a).sum = 2 * l.length + (l.map lnA).sum := by
  induction l with
  | nil => rfl
  | cons a l ih => rw [List.map_cons, List.map_cons, List.sum_cons, List.sum_cons, ih, List.length_cons]; omega
theorem aut_lns {es : List va.En} {l : List (Rw St)} {n : Nat} (h : ∀ a ∈ l, ∀ t ∈ a.l, Lns t.ln (t.tx es (n + 1) a.l)) : Lns (lnAs l) ((l.map (auS es n)).flatten) := by
  have := Lns.flat (l := l) (f := auS es n) (g := fun a => 2 + lnA a) fun a ha => by
    unfold auS autS
    exact (((Lns.one (s := [97, 117, 116, 111, 109, 97, 116, 111, 110]) ⟨by decide, by decide, by decide⟩).app (Lns.flat (h a ha))).app (Lns.one (s := [101, 110, 100]) ⟨by decide, by decide, by decide⟩)).of (by unfold lnA; omega)
  exact this.of (sum_two l)
theorem sta_lns {es : List va.En} {s : St} (h : LkS es s) : ∀ (n : Nat) (ss : List St), (∀ t ∈ ss, idP t.nm = true) → Lns s.ln (s.tx es n ss) := by
  induction h with
  | mk s h0 h1 h2 h3 h4 h5 ih =>
    intro n ss hss
    rw [St.tx_eq, St.ln_eq]
    have a1 := Lns.one (n := n) (LnOK.id (by decide : NL [115, 116, 97, 116, 101, 32]) h0)
    have a2 := lcs_lns h1 (n + 1)
    have a3 := trs_lns hss (kw := [117, 110, 108, 101, 115, 115, 32]) (by decide) h3 (n + 1)
    have a4 := Lns.one (n := n) (s := [100, 111]) ⟨by decide, by decide, by decide⟩
    have a5 := eqs_lns h2 (n + 1)
    have a6 : Lns (lnAs s.au.l) ((s.au.l.map (auS es (n + 1))).flatten) := aut_lns fun a ha t ht => ih a ha t ht (n + 1 + 1) a.l fun t ht => (h5 a ha t ht).nm
    have a7 := trs_lns hss (kw := [117, 110, 116, 105, 108, 32]) (by decide) h4 (n + 1)
    have a8 := Lns.one (n := n) (s := [100, 111, 110, 101]) ⟨by decide, by decide, by decide⟩
    exact (((((((a1.app a2).app a3).app a4).app a5).app a6).app a7).app a8).of (by omega)
structure LkN (es : List va.En) (n : Nt) : Prop where
  nm : idP n.nm = true
  ins : ∀ d ∈ n.ins.l, NL (dclS es d)
  outs : ∀ d ∈ n.outs.l, NL (dclS es d)
  locs : ∀ d ∈ n.locs.l, NL (dclS es d)
  qs : ∀ q ∈ n.qs.l, NL (lftS q.lf.l) ∧ NL (q.r.tx es)
  au : ∀ a ∈ n.au.l, ∀ t ∈ a.l, LkS es t
  asm : ∀ x ∈ n.asm.l, NL (x.tx es)
  ens : ∀ x ∈ n.ens.l, NL (x.tx es)
theorem nod_lk {es : List va.En} (h : IdE es) {n : Nt} (hn : (nodE es n).2 = 0) : LkN es n := by
  unfold nodE at hn
  by_cases h1 : hedE es n = 0
  · rw [if_pos h1] at hn
    have h2 : eqsE es n.qs.l = none ∧ talE es n = 0 := by
      cases he : eqsE es n.qs.l with
      | none => rw [he] at hn; exact ⟨rfl, hn⟩
      | some p => rw [he] at hn; exact absurd hn (eqs_some _ _ he)
    obtain ⟨h2, h3⟩ := h2
    unfold hedE at h1
    split at h1
    · rename_i hi
      split at h1
      · omega
      · split at h1
        · omega
        · obtain ⟨e1, h1⟩ := orE_zero.1 h1
          obtain ⟨e2, e3⟩ := orE_zero.1 h1
          unfold talE at h3
          obtain ⟨e4, h3⟩ := orE_zero.1 h3
          obtain ⟨e5, e6⟩ := orE_zero.1 h3
          exact ⟨hi, fun d hd => port_nl h (errs_zero.1 e1 _ (List.mem_map_of_mem hd)), fun d hd => port_nl h (errs_zero.1 e2 _ (List.mem_map_of_mem hd)), fun d hd => loc_nl h (errs_zero.1 e3 _ (List.mem_map_of_mem hd)),
            fun q hq => eqn_nl h (eqs_ok h2 q hq), fun a ha => aut_lk h 3 a (errs_zero.1 e4 _ (List.mem_map_of_mem ha)), fun x hx => exp_nl h (errs_zero.1 e5 _ (List.mem_map_of_mem hx)), fun x hx => exp_nl h (errs_zero.1 e6 _ (List.mem_map_of_mem hx))⟩
    · omega
  · rw [if_neg h1] at hn
    exact absurd hn h1
theorem nod_lns {es : List va.En} {n : Nt} (h : LkN es n) : Lns (lnN n) (nodeS es n) := by
  unfold nodeS lnN
  have a1 := Lns.one (n := 0) (LnOK.paren ((((((by decide : NL [110, 111, 100, 101, 32]).app (NL.id h.nm)).app (by decide : NL [40])).app (dcs_nl h.ins)).app (by decide : NL [41, 32, 114, 101, 116, 117, 114, 110, 115, 32, 40])).app (dcs_nl h.outs)))
  have a2 := lcs_lns h.locs 1
  have a3 := cms_lns (kw := ⟨#[97, 115, 115, 117, 109, 101, 32]⟩) (by decide) h.asm
  have a4 := cms_lns (kw := ⟨#[101, 110, 115, 117, 114, 101, 32]⟩) (by decide) h.ens
  have a5 := Lns.one (n := 0) (s := [108, 101, 116]) ⟨by decide, by decide, by decide⟩
  have a6 := eqs_lns h.qs 1
  have a7 : Lns (lnAs n.au.l) ((n.au.l.map (auS es 1)).flatten) := aut_lns fun a ha t ht => sta_lns (h.au a ha t ht) (1 + 1) a.l fun t ht => (h.au a ha t ht).nm
  have a8 := Lns.one (n := 0) (s := [116, 101, 108]) ⟨by decide, by decide, by decide⟩
  exact (((((((a1.app a2).app a3).app a4).app a5).app a6).app a7).app a8).of (by omega)
theorem enm_lns {e : va.En} (h : idP e.name = true ∧ ∀ b ∈ e.tags, idP b = true) : Lns 1 (enmS e) :=
  Lns.one (LnOK.semi ((((by decide : NL [116, 121, 112, 101, 32]).app (NL.id h.1)).app (by decide : NL [32, 61, 32])).app (NL.join (NL.map fun b hb => NL.id (h.2 b hb)) (by decide))))
theorem prg_lns {p : Pt} (h : (chkE p).2 = 0) : Lns (lnP p) (prgS p) := by
  have key : errs (p.es.l.map enumE) = 0 ∧ ∀ n ∈ p.ns.l, (nodE p.es.l n).2 = 0 := by
    unfold chkE at h
    split at h
    · simp at h
    · split at h
      · rename_i h1
        exact ⟨h1, nds_ok h⟩
      · rename_i h1
        exact absurd h h1
  obtain ⟨h1, h2⟩ := key
  have hE : IdE p.es.l := fun e he => enum_id (errs_zero.1 h1 _ (List.mem_map_of_mem he))
  exact (Lns.each fun e he => enm_lns (hE e he)).app (Lns.flat fun n hn => nod_lns (nod_lk hE (h2 n hn)))
end Go.Proofs.YtoimjcfdiljkjaaGreatDoor
namespace Go.Proofs.YtoimjcfdiljkjaaGreatDoor
open Go.RowKit Go.Sort
theorem sum_succ {α : Type} {l : List α} {f : α → Nat} {k : Nat} {y : α} (h : l[k]? = some y) : ((l.take (k + 1)).map f).sum = ((l.take k).map f).sum + f y := by
  obtain ⟨hk, rfl⟩ := List.getElem?_eq_some_iff.1 h
  rw [List.take_succ_eq_append_getElem hk, List.map_append, List.sum_append]
  simp
theorem sum_tk {α : Type} (l : List α) (f : α → Nat) (k : Nat) : ((l.take k).map f).sum ≤ (l.map f).sum := by
  have := congrArg (fun l => (List.map f l).sum) (List.take_append_drop k l)
  simp only [List.map_append, List.sum_append] at this
  omega
theorem vl_one (n : Nat) (w : World) : Calls Tryz.prog 17 #[.int .i64 (n : Int)] w (Bel (.int .i64 ((oneN n : Nat) : Int)) w) := by
  unfold oneN
  by_cases h : 0 < n
  · rw [if_pos h]
    have h1 : (0 : Int) < (n : Int) := by omega
    go_enter Tryz.func17, Tryz.ntmps17
    go_wp2
    go_ret
    exact ⟨rfl, bl⟩
  · rw [if_neg h]
    have h1 : (n : Int) ≤ 0 := by omega
    go_enter Tryz.func17, Tryz.ntmps17
    go_wp2
    go_ret
    exact ⟨rfl, bl⟩
set_option maxHeartbeats 2000000 in
set_option maxRecDepth 20000 in
theorem vl_lines_of (r : Rw (Rw St)) (w : World) (hR : RsAs w w.heap.size r) (hB : lnAs r.l ≤ 1099511627776)
    (KA : Hid (∀ a ∈ r.l, ∀ t ∈ a.l, lnAs t.au.l ≤ 1099511627776 → ∀ W, Below w.heap.size w W → Calls Tryz.prog 18 #[.slice t.au.A t.au.l.length t.au.c] W (Bel (.int .i64 ((lnAs t.au.l : Nat) : Int)) W))) :
    Calls Tryz.prog 18 #[.slice r.A r.l.length r.c] w (Bel (.int .i64 ((lnAs r.l : Nat) : Int)) w) := by
  have HR := Lib.hid hR
  unfold lnAs at hB ⊢
  obtain ⟨V, hV⟩ : ∃ V : Nat → Nat, V = fun k => 2 * r.l.length + ((r.l.take k).map lnA).sum := ⟨_, rfl⟩
  have HV : Hid (∀ (k : Nat) (y : Rw St), r.l[k]? = some y → V (k + 1) = V k + lnA y) := Lib.hid fun k y hy => by
    rw [hV]
    simp only
    rw [sum_succ hy]
    omega
  have hVl : V r.l.length = 2 * r.l.length + (r.l.map lnA).sum := by
    rw [hV]
    simp only [List.take_length]
  have hV0 : V 0 = 2 * r.l.length := by rw [hV]; simp
  have HB : Hid (∀ k, V k ≤ 1099511627776) := Lib.hid fun k => by
    rw [hV]
    have := sum_tk r.l lnA k
    simp only
    omega
  have h29 : r.l.length ≤ 1099511627776 := by omega
  rw [← hVl]
  have HV0 := Lib.hid hV0
  clear hV hVl hV0 hR hB
  go_enter Tryz.func18, Tryz.ntmps18
  go_wp2
  go_loopw [3, 4] (fun n i wr => ∃ k : Nat, k ≤ r.l.length ∧ i = .int .i64 (k : Int) ∧ n = .int .i64 ((V k : Nat) : Int) ∧ Below w.heap.size w wr) (fun _ i _ => r.l.length - (intOf i).toNat)
  case atStart => exact ⟨0, by omega, rfl, by rw [HV0.out]; refine congrArg (Value.int .i64) ?_; (try simp (disch := omega) only [i64w]); omega, Below.refl _ _⟩
  case round =>
    obtain ⟨k, hk, rfl, rfl, hbl⟩ := hrel
    obtain ⟨wo, rfl⟩ : ∃ wo, wo = wr := ⟨_, rfl⟩
    by_cases hlt : k < r.l.length
    · have hik : (k : Int) < (r.l.length : Int) := by omega
      obtain ⟨ad, y, hA, had, hy, hm', c0⟩ := (HR.out.1.blw oneB_A hbl hbl.size).at_ hlt
      have HRY := Lib.hid (HR.out.2 y hm')
      have KAY := Lib.hid (KA.out y hm')
      have h9 := HRY.out.1.len
      unfold maxLen at h9
      unfold AC at c0
      rw [Nat.mul_one] at c0
      have hst := HV.out k y hy
      have hb9 := HB.out (k + 1)
      rw [hA]
      generalize hv1 : V (k + 1) = v1 at *
      have HV1 := Lib.hid hv1
      clear hv1
      unfold lnA at hst
      generalize V k = v at *
      obtain ⟨U, hU⟩ : ∃ U : Nat → Nat, U = fun j => v + ((y.l.take j).map St.ln).sum := ⟨_, rfl⟩
      have HU : Hid (∀ (j : Nat) (t : St), y.l[j]? = some t → U (j + 1) = U j + t.ln) := Lib.hid fun j t ht => by
        rw [hU]
        simp only
        rw [sum_succ ht]
        omega
      have HUl : Hid (U y.l.length = v1) := Lib.hid (by
        rw [hst, hU]
        simp only [List.take_length])
      have HU0 : Hid (U 0 = v) := Lib.hid (by rw [hU]; simp)
      have HUB : Hid (∀ j, U j ≤ 1099511627776) := Lib.hid fun j => by
        rw [hU]
        have := sum_tk y.l St.ln j
        simp only
        omega
      clear hU hA hy hm' HV HB HV0 KA HR hst hb9
      go_wp2
      go_loopw [3, 5] (fun n i wi => ∃ j : Nat, j ≤ y.l.length ∧ i = .int .i64 (j : Int) ∧ n = .int .i64 ((U j : Nat) : Int) ∧ Below wo.heap.size wo wi) (fun _ i _ => y.l.length - (intOf i).toNat)
      case atStart => exact ⟨0, by omega, rfl, by rw [HU0.out], Below.refl _ _⟩
      case round =>
        obtain ⟨j, hj, rfl, rfl, hbi⟩ := hrel
        have hbw : Below w.heap.size w wr := hbl.trans (hbi.mono hbl.size)
        have c0 := cell_below hbi c0
        by_cases hjl : j < y.l.length
        · have hij : (j : Int) < (y.l.length : Int) := by omega
          obtain ⟨au, t, hAt, hau, hty, htm, ⟨s0, s1, s2, s3, s4, s5⟩⟩ := (HRY.out.1.blw oneB_S hbw hbw.size).at_ hjl
          obtain ⟨_, g2, g3, g4, g5, g6, g7, g8⟩ := (HRY.out.2 t htm).of
          have hst := HU.out j t hty
          have hu8 := HUB.out (j + 1)
          rw [St.ln_eq] at hst
          have K2 := Lib.hid (KAY.out t htm (by omega))
          rw [hAt] at c0
          have K1 : Hid (∀ W, Below w.heap.size w W → Calls Tryz.prog 17 #[.int .i64 (t.lc.l.length : Int)] W (Bel (.int .i64 ((oneN t.lc.l.length : Nat) : Int)) W)) := Lib.hid fun W _ => vl_one _ W
          have z1 : t.un.l.length ≤ 1099511627776 := by omega
          have z2 : t.ut.l.length ≤ 1099511627776 := by omega
          have z3 : t.qs.l.length ≤ 1099511627776 := by omega
          clear g2 g3 g4 g5 g6 g7 g8 hty htm hAt HU HUl HU0 HUB HRY KAY
          generalize hu1 : U (j + 1) = u1 at *
          have HU1 := Lib.hid hu1
          clear hu1
          generalize U j = u at *
          generalize oneN t.lc.l.length = d1 at *
          generalize lnAs t.au.l = d2 at *
          go_wp2
          obtain ⟨WX, hWX⟩ : ∃ WX, (wr.alloc (.cells #[.string t.nm, .slice t.lc.A t.lc.l.length t.lc.c, .slice t.qs.A t.qs.l.length t.qs.c, .slice t.au.A t.au.l.length t.au.c, .slice t.un.A t.un.l.length t.un.c, .slice t.ut.A t.ut.l.length t.ut.c] 95)) = WX := ⟨_, rfl⟩
          have hBX : Below wr.heap.size wr WX := by rw [← hWX]; exact bel_box _
          have hXw : Below w.heap.size w WX := hbw.trans (hBX.mono hbw.size)
          have x0 : WX.cell? ⟨wr.heap.size, 0, none⟩ = some (.string t.nm) := by rw [← hWX]; simp [go_sem]
          have x1 : WX.cell? ⟨wr.heap.size, 1, none⟩ = some (.slice t.lc.A t.lc.l.length t.lc.c) := by rw [← hWX]; simp [go_sem]
          have x2 : WX.cell? ⟨wr.heap.size, 2, none⟩ = some (.slice t.qs.A t.qs.l.length t.qs.c) := by rw [← hWX]; simp [go_sem]
          have x3 : WX.cell? ⟨wr.heap.size, 3, none⟩ = some (.slice t.au.A t.au.l.length t.au.c) := by rw [← hWX]; simp [go_sem]
          have x4 : WX.cell? ⟨wr.heap.size, 4, none⟩ = some (.slice t.un.A t.un.l.length t.un.c) := by rw [← hWX]; simp [go_sem]
          have x5 : WX.cell? ⟨wr.heap.size, 5, none⟩ = some (.slice t.ut.A t.ut.l.length t.ut.c) := by rw [← hWX]; simp [go_sem]
          have HWX := Lib.hid hWX
          clear hWX s0 s1 s2 s3 s4 s5
          rw [HWX.out]
          clear HWX
          have q_x1 := cell_regrown x1
          have q_x2 := cell_regrown x2
          have q_x3 := cell_regrown x3
          have q_x4 := cell_regrown x4
          have q_x5 := cell_regrown x5
          have k_0 := fun dd os => Calls.regrown_of (K1.out (grow (redrawn WX dd) os) (hXw.trans ((below_regrown WX dd os).mono hXw.size)))
          have k_1 := fun dd os => Calls.regrown_of (K2.out (grow (redrawn WX dd) os) (hXw.trans ((below_regrown WX dd os).mono hXw.size)))
          refine wp_region_quiet_below (by kernel_rfl) (by kernel_rfl) ?_
          repeat (quiet_step (first | with_reducible exact k_0 _ _ | with_reducible exact k_1 _ _))
          refine wpQuiet_nil ?_
          intro _ hw'
          obtain ⟨⟨dq, osq⟩, hw''⟩ := hw'
          subst hw''
          have hrw4 : Below WX.heap.size WX (grow (redrawn WX dq) osq) := below_regrown WX dq osq
          have hw4 : Below w.heap.size w (grow (redrawn WX dq) osq) := hXw.trans (hrw4.mono hXw.size)
          generalize grow (redrawn WX dq) osq = w4 at hw4 hrw4 ⊢
          clear q_x1 q_x2 q_x3 q_x4 q_x5 k_0 k_1
          go_wp2
          exact ⟨⟨j + 1, by omega, by congr 1, by rw [HU1.out]; refine congrArg (Value.int .i64) ?_; (try simp (disch := omega) only [i64w]); omega, hbi.trans ((hBX.trans (hrw4.mono hBX.size)).mono hbi.size)⟩, by simp [intOf]; omega⟩
        · obtain rfl : j = y.l.length := by omega
          have hue := HUl.out
          clear HUl HU0 HUB HU
          rw [hue]
          go_wp2
          exact ⟨⟨k + 1, by omega, by congr 1, by rw [HV1.out], hbw⟩, by simp [intOf]; omega⟩
    · obtain rfl : k = r.l.length := by omega
      clear HV HB HV0
      go_wp2
      go_ret
      exact ⟨rfl, bl⟩
theorem vl_lines : ∀ (N : Nat) (r : Rw (Rw St)), (∀ a ∈ r.l, ∀ t ∈ a.l, SizeOf.sizeOf t < N) → ∀ (w : World), RsAs w w.heap.size r → lnAs r.l ≤ 1099511627776 →
    Calls Tryz.prog 18 #[.slice r.A r.l.length r.c] w (Bel (.int .i64 ((lnAs r.l : Nat) : Int)) w) := by
  intro N
  induction N with
  | zero =>
    intro r hN w hR hl
    exact vl_lines_of r w hR hl (Lib.hid fun a ha t ht => absurd (hN a ha t ht) (by omega))
  | succ N ih =>
    intro r hN w hR hl
    refine vl_lines_of r w hR hl (Lib.hid fun a ha t ht hl' W hb => ?_)
    obtain ⟨_, _, _, s4, s5, s6, _, _⟩ := ((hR.2 a ha).2 t ht).of
    exact ih t.au (fun a' ha' t' ht' => by
      have h1 := St.lt_of_mem ha' ht'
      have h2 := hN a ha t ht
      omega) W (RsAs.blw ⟨s4, fun a' ha' => ⟨s5 a' ha', s6 a' ha'⟩⟩ hb hb.size) hl'
end Go.Proofs.YtoimjcfdiljkjaaGreatDoor
namespace Go.Proofs.YtoimjcfdiljkjaaGreatDoor
open Go.RowKit Go.Sort
theorem tb_get (t : List UInt8) (k : Nat) (h : k < (tB t).size) : t[k]? = some (tB t)[k] := byte_get (tB t) k h
theorem cnt_succ {t : List UInt8} {k : Nat} {c : UInt8} (h : t[k]? = some c) : (t.take (k + 1)).count 10 = (t.take k).count 10 + (if c = 10 then 1 else 0) := by
  obtain ⟨hk, rfl⟩ := List.getElem?_eq_some_iff.1 h
  rw [List.take_succ_eq_append_getElem hk, List.count_append]
  congr 1
  rw [List.count_singleton]
  by_cases h : t[k] = 10
  · rw [if_pos h, if_pos (by simpa using h)]
  · rw [if_neg h, if_neg (by simpa using h)]
structure LF (s : ByteArray) (n : Nat) (C : Nat → Nat) : Prop where
  c0 : C 0 = 0
  yes : ∀ k (h : k < s.size), ((s[k].toNat : Nat) : Int) = 10 → C (k + 1) = C k + 1 ∧ ∃ j, k = j + 1 ∧ ∃ h : j < s.size, ((s[j].toNat : Nat) : Int) ≠ 32 ∧ ((s[j].toNat : Nat) : Int) ≠ 10
  no : ∀ k (h : k < s.size), ((s[k].toNat : Nat) : Int) ≠ 10 → C (k + 1) = C k
  le : ∀ k, C k ≤ n
  all : C s.size = n
  last : ∀ j (h : j < s.size), s.size = j + 1 → ((s[j].toNat : Nat) : Int) = 10
theorem u8_of (c : UInt8) (n : Nat) (hn : n < 256) (h : ((c.toNat : Nat) : Int) = n) : c = UInt8.ofNat n := by
  apply UInt8.toNat_inj.1
  rw [UInt8.toNat_ofNat']
  omega
theorem lf_of {t : List UInt8} {n : Nat} (h : Lns n t) : LF (tB t) n (fun k => (t.take k).count 10) := by
  have hc := h.count
  refine ⟨rfl, fun k hk e => ?_, fun k hk e => ?_, fun k => ?_, ?_, fun j hj e => ?_⟩
  · have h1 := tb_get t k hk
    have h2 : (tB t)[k] = 10 := u8_of _ 10 (by decide) e
    refine ⟨by rw [cnt_succ h1, if_pos h2], ?_⟩
    rw [h2] at h1
    cases k with
    | zero => exact absurd h1 h.head
    | succ j =>
      have hj : j < (tB t).size := by omega
      obtain ⟨a, b⟩ := h.prev j h1
      have h3 := tb_get t j hj
      refine ⟨j, rfl, hj, fun e => a ?_, fun e => b ?_⟩
      · rw [h3, u8_of _ 32 (by decide) e]
        rfl
      · rw [h3, u8_of _ 10 (by decide) e]
        rfl
  · have h1 := tb_get t k hk
    rw [cnt_succ h1, if_neg (fun h2 => e (by rw [h2]; rfl))]
    rfl
  · rw [← hc]
    exact (List.take_sublist k t).count_le 10
  · rw [tB_size, List.take_length]
    exact hc
  · rw [tB_size] at e
    have h1 := tb_get t j hj
    have h2 := h.last (fun e2 => by rw [e2] at e; simp at e)
    rw [List.getLast?_eq_getElem?, show t.length - 1 = j by omega, h1] at h2
    rw [Option.some.inj h2]
    rfl
set_option maxHeartbeats 2000000 in
set_option maxRecDepth 20000 in
theorem showlines_any (p : Pt) (w : World) (hs : Std w) (hp : RsP w w.heap.size p) (hL : LnP p) :
    Calls Tryz.prog 6 #[pV p] w (Bel (.bool true) w) := by
  have KA : Hid (∀ W, Below w.heap.size w W → Calls Tryz.prog 8 #[] W (Bel (.bool true) W)) := Lib.hid fun W h => awake_any W (hs.to h)
  have KF : Hid (∀ W, Below w.heap.size w W → Calls Tryz.prog 7 #[pV p] W (Bel (.bool (decide (1500 ≤ wPt 1500 p))) W)) := Lib.hid fun W h => vw_heavy p W (hp.blw h h.size) hL
  by_cases hv : 1500 ≤ wPt 1500 p
  · rw [decide_eq_true hv] at KF
    clear hs hp hL hv
    unfold pV at KF ⊢
    go_enter Tryz.func6, Tryz.ntmps6
    go_wp2_with (first | (go_at_call 7; (with_reducible refine (KF.out _ ?_).mono ?_); (exact bl); rintro e w1 ⟨rfl, hb1⟩; obtain ⟨g0, g1, _⟩ := B1P p (w := w) (W := w1) bl) | (go_at_call 8; (with_reducible refine (KA.out _ ?_).mono ?_); (exact bl); rintro e w9 ⟨rfl, hb9⟩))
    go_ret
    exact ⟨rfl, bl⟩
  · rw [decide_eq_false hv] at KF
    have hw := (wPt_ok hL 1500 (by omega)).2.2 (by omega)
    have hlt : wPt 1500 p < 1500 := by omega
    generalize wPt 1500 p = v at *
    have hok : (chkE p).2 = 0 → OkE p.es.l ∧ (∀ n ∈ p.ns.l, OkN p.es.l n) ∧ (prgS p).length ≤ 600000 := fun h0 => by
      obtain ⟨h1, h2⟩ := chk_ok h0 hp
      have := prg_le h1 h2
      exact ⟨h1, h2, by omega⟩
    have KS : Hid (∀ W, Below w.heap.size w W → Calls Tryz.prog 9 #[pV p] W (Bel (.tuple #[.string (if (chkE p).2 = 0 then tB (prgS p) else ⟨#[]⟩), .int .i64 (chkE p).2]) W)) := Lib.hid fun W h => sw_Program p W (hs.to h) (hp.blw h h.size) fun h0 => ⟨⟨fun e he => (by have := ((hok h0).1 e he).2.1; omega), fun n hn => ((hok h0).2.1 n hn).ndw⟩, (by have := (hok h0).2.2; omega)⟩
    by_cases h0 : (chkE p).2 = 0
    · rw [if_pos h0, h0] at KS
      have hln := prg_lns h0
      have hle : lnP p ≤ 600000 := by
        have h1 := (hok h0).2.2
        rw [← hln.count]
        exact Nat.le_trans List.count_le_length h1
      have hsz : (tB (prgS p)).size ≤ 600000 := by rw [tB_size]; exact (hok h0).2.2
      obtain ⟨C, hC⟩ : ∃ C, LF (tB (prgS p)) (lnP p) C := ⟨_, lf_of hln⟩
      generalize tB (prgS p) = s at *
      have HC := Lib.hid hC
      have HP := Lib.hid hp
      unfold lnP at HC hle
      obtain ⟨V, hV⟩ : ∃ V : Nat → Nat, V = fun k => p.es.l.length + ((p.ns.l.take k).map lnN).sum := ⟨_, rfl⟩
      have HV : Hid (∀ (k : Nat) (y : Nt), p.ns.l[k]? = some y → V (k + 1) = V k + lnN y) := Lib.hid fun k y hy => by
        rw [hV]
        simp only
        rw [sum_succ hy]
        omega
      have hVl : V p.ns.l.length = p.es.l.length + (p.ns.l.map lnN).sum := by
        rw [hV]
        simp only [List.take_length]
      have hV0 : V 0 = p.es.l.length := by rw [hV]; simp
      have HVB : Hid (∀ k, V k ≤ 600000) := Lib.hid fun k => by
        rw [hV]
        have := sum_tk p.ns.l lnN k
        simp only
        omega
      rw [← hVl] at HC hle
      have HV0 := Lib.hid hV0
      have hn29 : p.ns.l.length ≤ 140737488355328 := hL.2.1
      clear hV hVl hV0 hs hp hL hv hw hlt hok hln hC h0
      unfold pV at KF KS ⊢
      go_enter Tryz.func6, Tryz.ntmps6
      go_wp2_with (first | (go_at_call 7; (with_reducible refine (KF.out _ ?_).mono ?_); (exact bl); rintro e w1 ⟨rfl, hb1⟩; obtain ⟨g0, g1, _⟩ := B1P p (w := w) (W := w1) bl) | (go_at_call 9; (with_reducible refine (KS.out _ ?_).mono ?_); (exact bl); rintro e w3 ⟨rfl, hb3⟩; obtain ⟨g0, g1, _⟩ := B1P p (w := w) (W := w3) bl; have hB3 : Below w.heap.size w w3 := bl))
      go_loopw [5, 6] (fun n i wi => ∃ j : Nat, j ≤ p.ns.l.length ∧ i = .int .i64 (j : Int) ∧ n = .int .i64 ((V j : Nat) : Int) ∧ Below w3.heap.size w3 wi) (fun _ i _ => p.ns.l.length - (intOf i).toNat)
      case atStart => exact ⟨0, by omega, rfl, by rw [HV0.out], Below.refl _ _⟩
      case round =>
        obtain ⟨j, hj, rfl, rfl, hbi⟩ := hrel
        have hbw : Below w.heap.size w wr := hB3.trans (hbi.mono hB3.size)
        have g0 := cell_below hbi g0
        have g1 := cell_below hbi g1
        by_cases hjl : j < p.ns.l.length
        · have hij : (j : Int) < (p.ns.l.length : Int) := by omega
          obtain ⟨au, y, hA, hau, hy, hym, ⟨s0, s1, s2, s3, s4, s5, s6, s7⟩⟩ := (HP.out.2.1.blw oneB_N hbw hbw.size).at_ hjl
          obtain ⟨_, q2, q3, q4, q5, q6, q7, q8⟩ := HP.out.2.2 y hym
          have hst := HV.out j y hy
          have hb8 := HVB.out (j + 1)
          unfold lnN at hst
          rw [hA] at g1
          have K1 : Hid (∀ W, Below w.heap.size w W → Calls Tryz.prog 17 #[.int .i64 (y.locs.l.length : Int)] W (Bel (.int .i64 ((oneN y.locs.l.length : Nat) : Int)) W)) := Lib.hid fun W _ => vl_one _ W
          have K2 : Hid (∀ W, Below w.heap.size w W → Calls Tryz.prog 18 #[.slice y.au.A y.au.l.length y.au.c] W (Bel (.int .i64 ((lnAs y.au.l : Nat) : Int)) W)) := Lib.hid fun W hb => by
            obtain ⟨N, hN⟩ := sz_row y.au
            exact vl_lines N y.au hN W (q6.blw hb hb.size) (by omega)
          have z1 : y.asm.l.length ≤ 600000 := by omega
          have z2 : y.ens.l.length ≤ 600000 := by omega
          have z3 : y.qs.l.length ≤ 600000 := by omega
          clear q2 q3 q4 q5 q6 q7 q8 hy hym hA HV HVB HV0 HP HC hle
          generalize hu1 : V (j + 1) = v1 at *
          have HU1 := Lib.hid hu1
          clear hu1
          generalize V j = v at *
          generalize oneN y.locs.l.length = d1 at *
          generalize lnAs y.au.l = d2 at *
          go_wp2
          obtain ⟨WX, hWX⟩ : ∃ WX, (wr.alloc (.cells #[.string y.nm, .slice y.ins.A y.ins.l.length y.ins.c, .slice y.outs.A y.outs.l.length y.outs.c, .slice y.locs.A y.locs.l.length y.locs.c, .slice y.qs.A y.qs.l.length y.qs.c, .slice y.au.A y.au.l.length y.au.c, .slice y.asm.A y.asm.l.length y.asm.c, .slice y.ens.A y.ens.l.length y.ens.c] 45)) = WX := ⟨_, rfl⟩
          have hBX : Below wr.heap.size wr WX := by rw [← hWX]; exact bel_box _
          have hXw : Below w.heap.size w WX := hbw.trans (hBX.mono hbw.size)
          have x0 : WX.cell? ⟨wr.heap.size, 0, none⟩ = some (.string y.nm) := by rw [← hWX]; simp [go_sem]
          have x1 : WX.cell? ⟨wr.heap.size, 1, none⟩ = some (.slice y.ins.A y.ins.l.length y.ins.c) := by rw [← hWX]; simp [go_sem]
          have x2 : WX.cell? ⟨wr.heap.size, 2, none⟩ = some (.slice y.outs.A y.outs.l.length y.outs.c) := by rw [← hWX]; simp [go_sem]
          have x3 : WX.cell? ⟨wr.heap.size, 3, none⟩ = some (.slice y.locs.A y.locs.l.length y.locs.c) := by rw [← hWX]; simp [go_sem]
          have x4 : WX.cell? ⟨wr.heap.size, 4, none⟩ = some (.slice y.qs.A y.qs.l.length y.qs.c) := by rw [← hWX]; simp [go_sem]
          have x5 : WX.cell? ⟨wr.heap.size, 5, none⟩ = some (.slice y.au.A y.au.l.length y.au.c) := by rw [← hWX]; simp [go_sem]
          have x6 : WX.cell? ⟨wr.heap.size, 6, none⟩ = some (.slice y.asm.A y.asm.l.length y.asm.c) := by rw [← hWX]; simp [go_sem]
          have x7 : WX.cell? ⟨wr.heap.size, 7, none⟩ = some (.slice y.ens.A y.ens.l.length y.ens.c) := by rw [← hWX]; simp [go_sem]
          have HWX := Lib.hid hWX
          clear hWX s0 s1 s2 s3 s4 s5 s6 s7
          rw [HWX.out]
          clear HWX
          have q_x3 := cell_regrown x3
          have q_x4 := cell_regrown x4
          have q_x5 := cell_regrown x5
          have q_x6 := cell_regrown x6
          have q_x7 := cell_regrown x7
          have k_0 := fun dd os => Calls.regrown_of (K1.out (grow (redrawn WX dd) os) (hXw.trans ((below_regrown WX dd os).mono hXw.size)))
          have k_1 := fun dd os => Calls.regrown_of (K2.out (grow (redrawn WX dd) os) (hXw.trans ((below_regrown WX dd os).mono hXw.size)))
          refine wp_region_quiet_below (by kernel_rfl) (by kernel_rfl) ?_
          repeat (quiet_step (first | with_reducible exact k_0 _ _ | with_reducible exact k_1 _ _))
          refine wpQuiet_nil ?_
          intro _ hw'
          obtain ⟨⟨dq, osq⟩, hw''⟩ := hw'
          subst hw''
          have hrw4 : Below WX.heap.size WX (grow (redrawn WX dq) osq) := below_regrown WX dq osq
          have hw4 : Below w.heap.size w (grow (redrawn WX dq) osq) := hXw.trans (hrw4.mono hXw.size)
          generalize grow (redrawn WX dq) osq = w4 at hw4 hrw4 ⊢
          clear q_x3 q_x4 q_x5 q_x6 q_x7 k_0 k_1
          go_wp2
          exact ⟨⟨j + 1, by omega, by congr 1, by rw [HU1.out]; refine congrArg (Value.int .i64) ?_; (try simp (disch := omega) only [i64w]); omega, hbi.trans ((hBX.trans (hrw4.mono hBX.size)).mono hbi.size)⟩, by simp [intOf]; omega⟩
        · obtain rfl : j = p.ns.l.length := by omega
          generalize V p.ns.l.length = n at *
          clear HV HVB HV0 HP KF KS
          go_wp2
          obtain ⟨wo, rfl⟩ : ∃ wo, wo = wr := ⟨_, rfl⟩
          go_loopw [8, 9] (fun c i wi => ∃ k : Nat, k ≤ s.size ∧ i = .int .i64 (k : Int) ∧ c = .int .i64 ((C k : Nat) : Int) ∧ wi = wo) (fun _ i _ => s.size - (intOf i).toNat)
          case atStart => exact ⟨0, by omega, rfl, by rw [HC.out.c0]; rfl, rfl⟩
          case round =>
            obtain ⟨k, hk, rfl, rfl, rfl⟩ := hrel
            by_cases hks : k < s.size
            · have hik : (k : Int) < (s.size : Int) := by omega
              have hle2 := HC.out.le k
              by_cases h10 : ((s[k].toNat : Nat) : Int) = 10
              · obtain ⟨hy1, i, rfl, hi, hy2, hy3⟩ := HC.out.yes k hks h10
                have HCC := Lib.hid hy1
                have hq2 : (((s[i].toNat : Nat) : Int) == 32) = false := by simpa using hy2
                have hq3 : (((s[i].toNat : Nat) : Int) == 10) = false := by simpa using hy3
                clear HC hy1 hy2 hy3
                generalize C (i + 1) = c at *
                go_wp2
                exact ⟨⟨i + 1 + 1, by omega, congrArg (Value.int .i64) (by omega), by rw [HCC.out]; refine congrArg (Value.int .i64) ?_; (try simp (disch := omega) only [i64w]); omega, trivial⟩, by simp [intOf]; omega⟩
              · have hy1 := HC.out.no k hks h10
                have HCC := Lib.hid hy1
                clear HC hy1
                generalize C k = c at *
                go_wp2
                exact ⟨⟨k + 1, by omega, by congr 1, by rw [HCC.out], trivial⟩, by simp [intOf]; omega⟩
            · obtain rfl : k = s.size := by omega
              have hal := HC.out.all
              rw [hal]
              by_cases hz : s.size = 0
              · go_wp2_with (go_at_call 8; (with_reducible refine (KA.out _ ?_).mono ?_); (exact bl); rintro e w9 ⟨rfl, hb9⟩)
                go_ret
                exact ⟨rfl, bl⟩
              · obtain ⟨i, hi⟩ : ∃ i, s.size = i + 1 := ⟨s.size - 1, by omega⟩
                have hi2 : i < s.size := by omega
                have hl := HC.out.last i hi2 hi
                go_wp2_with (go_at_call 8; (with_reducible refine (KA.out _ ?_).mono ?_); (exact bl); rintro e w9 ⟨rfl, hb9⟩)
                go_ret
                exact ⟨rfl, bl⟩
    · rw [if_neg h0] at KS
      have h9 : ((chkE p).2 != 0) = true := by simpa using h0
      have h8 : (chkE p).2 ≠ 0 := h0
      generalize (chkE p).2 = u at *
      clear hs hp hL hv hw hlt hok h0
      unfold pV at KF KS ⊢
      go_enter Tryz.func6, Tryz.ntmps6
      go_wp2_with (first | (go_at_call 7; (with_reducible refine (KF.out _ ?_).mono ?_); (exact bl); rintro e w1 ⟨rfl, hb1⟩; obtain ⟨g0, g1, _⟩ := B1P p (w := w) (W := w1) bl) | (go_at_call 9; (with_reducible refine (KS.out _ ?_).mono ?_); (exact bl); rintro e w3 ⟨rfl, hb3⟩; obtain ⟨g0, g1, _⟩ := B1P p (w := w) (W := w3) bl) | (go_at_call 8; (with_reducible refine (KA.out _ ?_).mono ?_); (exact bl); rintro e w9 ⟨rfl, hb9⟩))
      all_goals (go_ret; exact ⟨rfl, bl⟩)
end Go.Proofs.YtoimjcfdiljkjaaGreatDoor
