/- walk: a depth-first search, whatever is called on leaving. -/
import Derived.Test.YtahffafobdiogaaDoorKgf
namespace Go.Proofs.YtahffafobdiogaaDoor
set_option linter.unusedVariables false
set_option linter.unusedSimpArgs false
open Go.RowKit
namespace gr
/-- a block of numbers -/
def isI (o : Obj) : Prop := ∃ c f, o = .cells c 3 f
/-- all blocks but those of T, and those of numbers from B on, are as they were -/
structure KT (B : Nat) (T : Nat → Prop) (W W' : World) : Prop where
  size : W.heap.size ≤ W'.heap.size
  blocks : ∀ (k : Nat) (o : Obj), W.heap[k]? = some o → ¬ T k → (k < B ∨ ¬ isI o) → W'.heap[k]? = some o
  os : Os W W'
theorem KT.refl (B : Nat) (T : Nat → Prop) (W : World) : KT B T W W := ⟨Nat.le_refl _, fun _ _ h _ _ => h, .refl W⟩
theorem KT.trans {N : Nat} {T : Nat → Prop} {A B C : World} (h : KT N T A B) (g : KT N T B C) : KT N T A C := ⟨Nat.le_trans h.1 g.1, fun k o ho ht hi => g.2 k o (h.2 k o ho ht hi) ht hi, h.os.trans g.os⟩
theorem KT.below {B : Nat} {T : Nat → Prop} {W W' : World} (h : Below W.heap.size W W') : KT B T W W' := ⟨h.size, fun k o ho _ _ => (h.block k (Array.getElem?_eq_some_iff.1 ho).1).trans ho, .below h⟩
theorem KT.kp {B : Nat} {T : Nat → Prop} {W W' : World} (h : Kp T W W') : KT B T W W' := ⟨h.1, fun k o ho ht _ => (h.2 k (Array.getElem?_eq_some_iff.1 ho).1 ht).trans ho, h.os⟩
theorem KT.mono {B : Nat} {S T : Nat → Prop} {W W' : World} (h : KT B S W W') (hs : ∀ k, S k → T k) : KT B T W W' := ⟨h.1, fun k o ho ht hi => h.2 k o ho (fun x => ht (hs k x)) hi, h.os⟩
theorem KT.blk {B : Nat} {T : Nat → Prop} {W W' : World} (h : KT B T W W') {b : Nat} {t : TypeId} {xs : List Value} (hB : Blk W b t xs) (ht : ¬ T b) (hi : b < B ∨ t ≠ 3) : Blk W' b t xs :=
  h.2 b _ hB ht (hi.imp id fun hi ⟨c, f, e⟩ => by injection e with _ e2 _; exact hi e2)
/-- what stands below all that may change -/
theorem KT.low {B N : Nat} {T : Nat → Prop} {W W' : World} (h : KT B T W W') (hN : N ≤ W.heap.size) (hNB : N ≤ B) (ht : ∀ k, T k → N ≤ k) : Below N W W' :=
  ⟨h.os.1, h.os.2.1, h.os.2.2, h.1, fun k hk => by
    obtain ⟨o, ho⟩ : ∃ o, W.heap[k]? = some o := ⟨_, Array.getElem?_eq_getElem (by omega)⟩
    rw [ho]
    exact h.2 k o ho (fun x => by have := ht k x; omega) (.inl (by omega))⟩
theorem KT.lnk {B : Nat} {T : Nat → Prop} {W W' : World} (h : KT B T W W') {lb n : Nat} {wss : Nat → List Nat} (hL : Lnk W lb n wss) (ht : ∀ k, lb ≤ k → k ≤ lb + n → ¬ T k) : Lnk W' lb n wss :=
  ⟨h.blk hL.row (ht _ (by omega) (by omega)) (.inr (by decide)), fun v hv => h.blk (hL.sets v hv) (ht _ (by omega) (by omega)) (.inr (by decide))⟩
theorem KT.lke {B : Nat} {T : Nat → Prop} {W W' : World} (h : KT B T W W') {lb n : Nat} {E : Nat → Nat → Bool} (hL : LkE W lb n E) (ht : ∀ k, lb ≤ k → k ≤ lb + n → ¬ T k) : LkE W' lb n E := by
  obtain ⟨wss, h1, h2⟩ := hL.ex
  exact ⟨wss, h.lnk h1 ht, h2⟩
/-- the row of words in block sb holds the vertices of a list -/
def Seen (W : World) (sb n : Nat) (S : List Nat) : Prop := ∃ ws, Blk W sb 69 (uV ws) ∧ St (sizeW n) ws fun v => S.contains v
theorem Seen.kt {B : Nat} {T : Nat → Prop} {W W' : World} {sb n : Nat} {S : List Nat} (h : Seen W sb n S) (hk : KT B T W W') (ht : ¬ T sb) : Seen W' sb n S := by
  obtain ⟨ws, h1, h2⟩ := h
  exact ⟨ws, hk.blk h1 ht (.inr (by decide)), h2⟩
theorem Seen.keep {W W' : World} {sb n : Nat} {S : List Nat} (h : Seen W sb n S) (hb : Below W.heap.size W W') : Seen W' sb n S := by
  obtain ⟨ws, h1, h2⟩ := h
  exact ⟨ws, h1.keep hb, h2⟩
set_option maxHeartbeats 1000000 in
theorem walk1_any (u b0 b1 b2 : Nat) (x y z : Value) (R : World → Prop) (W : World) (c0 : W.cell? ⟨b0, 0, none⟩ = some x) (c1 : W.cell? ⟨b1, 0, none⟩ = some y) (c2 : W.cell? ⟨b2, 0, none⟩ = some z)
    (h : Calls Tryd.prog 38 #[x, .int .i64 u, y, z] W fun e W' => e = .returned (.tuple #[]) ∧ R W') :
    Calls Tryd.prog 58 #[.int .i64 u, .pointer (some ⟨b0, 0, none⟩), .pointer (some ⟨b1, 0, none⟩), .pointer (some ⟨b2, 0, none⟩)] W fun e W' => e = .returned (.tuple #[]) ∧ R W' := by
  have H := Lib.hid h
  clear h
  go_enter Tryd.func58, Tryd.ntmps58
  go_wp2_with (go_at_call 38; refine H.out.mono ?_; rintro e W2 ⟨rfl, hR⟩)
  refine bodyPost_end (v := .tuple #[]) (results_none rfl _ _ _) rfl ?_
  exact ⟨rfl, hR⟩
/-- how many are not seen yet -/
def uns (n : Nat) (S : List Nat) : Nat := (List.range n).countP fun v => !S.contains v
theorem uns_le {n : Nat} {S S' : List Nat} (h : ∀ x ∈ S, x ∈ S') : uns n S' ≤ uns n S := by
  unfold uns
  refine List.countP_mono_left fun v _ hv => ?_
  simp only [Bool.not_eq_true', List.contains_eq_mem, decide_eq_false_iff_not] at hv ⊢
  exact fun x => hv (h v x)
theorem uns_cons {n v : Nat} {S : List Nat} (hv : v < n) (hn : v ∉ S) : uns n (v :: S) < uns n S := by
  unfold uns
  rw [List.countP_eq_length_filter, List.countP_eq_length_filter]
  have e : ((List.range n).filter fun u => !(v :: S).contains u) = ((List.range n).filter fun u => !S.contains u).filter fun u => !decide (u = v) := by
    rw [List.filter_filter]
    apply List.filter_congr
    intro u _
    simp only [List.contains_eq_mem, List.mem_cons, Bool.decide_or, Bool.not_or]
  rw [e]
  refine List.length_filter_lt_length_iff_exists.2 ⟨v, ?_, by simp⟩
  rw [List.mem_filter, List.mem_range]
  exact ⟨hv, by simpa using hn⟩
theorem seen_add {W : World} {sb n v : Nat} {S : List Nat} {ws : List Nat} (h : Blk W sb 69 (uV ws)) (hS : St (sizeW n) ws fun v => S.contains v) (hv : v < n) (q : Nat) : Seen ((W.setCell ⟨sb, v / 64, none⟩ (.int .u64 ((ws.getD (v / 64) 0 ||| 2 ^ (v % 64) : Nat) : Int))).drewN q) sb n (v :: S) := by
  refine ⟨addW ws v, ?_, (hS.add (size_div hv)).congr fun u => ?_⟩
  · have := h.set (v / 64) (.int .u64 ((ws.getD (v / 64) 0 ||| 2 ^ (v % 64) : Nat) : Int))
    rw [uV_set] at this
    exact this
  · rw [Bool.eq_iff_iff]
    simp [or_comm]
/-- what a search keeps of what is left and seen -/
theorem dfs_inv {s : Nat → List Nat} {n : Nat} (hs : ∀ x, ∀ y ∈ s x, y < n) {vs S L S' L' : List Nat} (h : Dfs s vs S L S' L') : (∀ x ∈ vs, x < n) → (∀ x ∈ L, x ∈ S) → L.Nodup → (∀ x ∈ S, x < n) → (∀ x ∈ L', x ∈ S') ∧ L'.Nodup ∧ ∀ x ∈ S', x < n := by
  induction h with
  | nil S L => exact fun _ h1 h2 h3 => ⟨h1, h2, h3⟩
  | skip h k ih => exact fun hv h1 h2 h3 => ih (fun x hx => hv x (List.mem_cons_of_mem _ hx)) h1 h2 h3
  | @go v vs S L S1 L1 S' L' h k1 k2 ih1 ih2 =>
    intro hv h1 h2 h3
    obtain ⟨g1, g2, g3⟩ := ih1 (fun x hx => hs v x hx) (fun x hx => List.mem_cons_of_mem _ (h1 x hx)) h2 (fun x hx => by
      rcases List.mem_cons.1 hx with rfl | hx
      · exact hv _ List.mem_cons_self
      · exact h3 x hx)
    have hvS1 : v ∈ S1 := k1.sub.1 v List.mem_cons_self
    obtain ⟨M, hM, _, hm⟩ := k1.left
    have hvL1 : v ∉ L1 := fun hx => by
      rw [hM] at hx
      rcases List.mem_append.1 hx with hx | hx
      · exact h (h1 v hx)
      · exact ((hm v).1 hx).2 List.mem_cons_self
    refine ih2 (fun x hx => hv x (List.mem_cons_of_mem _ hx)) (fun x hx => ?_) ?_ g3
    · rcases List.mem_append.1 hx with hx | hx
      · exact g1 x hx
      · rw [List.mem_singleton.1 hx]; exact hvS1
    · rw [List.nodup_append]
      refine ⟨g2, by simp, fun x hx y hy e => ?_⟩
      rw [List.mem_singleton.1 hy] at e
      exact hvL1 (e ▸ hx)
theorem nbs_lt {E : Nat → Nat → Bool} {n : Nat} : ∀ x, ∀ y ∈ nbs E n x, y < n := fun x y hy => List.mem_range.1 (List.mem_filter.1 hy).1
set_option maxRecDepth 100000 in
set_option maxHeartbeats 4000000 in
theorem walk_any (lb n sb B0 : Nat) (lf : Nat) (cb : Array Value) (eg : ∀ args w, (callFunc lf args).run Tryd.prog w = .ok (.enter lf args) w) (E : Nat → Nat → Bool) (hEn : ∀ u w, E u w = true → w < n) (hn : n ≤ 4096)
    (T : Nat → Prop) (J : List Nat → World → Prop) (hTB : ∀ k, T k → k < B0) (hsB : sb < B0) (hTs : ¬ T sb) (hTl : ∀ k, lb ≤ k → k ≤ lb + n → ¬ T k) (hsl : ¬ (lb ≤ sb ∧ sb ≤ lb + n))
    (hJb : ∀ l W W', J l W → Below W.heap.size W W' → J l W')
    (hJs : ∀ l W i v, J l W → J l (W.setCell ⟨sb, i, none⟩ v))
    (hJt : ∀ l W, J l W → Tz W)
    (hJ : ∀ l v W, v < n → (l ++ [v]).Nodup → (∀ x ∈ l ++ [v], x < n) → J l W → B0 ≤ W.heap.size → Calls Tryd.prog lf (#[.int .i64 (v : Int)] ++ cb) W fun e W' => e = .returned (.tuple #[]) ∧ J (l ++ [v]) W' ∧ KT B0 T W W') :
    ∀ (m v : Nat) (S L : List Nat) (W : World), uns n S ≤ m → v < n → LkE W lb n E → Seen W sb n S → J L W → B0 ≤ W.heap.size → ((∀ x ∈ L, x ∈ S) ∧ L.Nodup ∧ ∀ x ∈ S, x < n) →
      Calls Tryd.prog 38 #[sl lb n, .int .i64 v, sl sb (sizeW n), .func (.func lf) #[] cb] W fun e W' => e = .returned (.tuple #[]) ∧ ∃ S' L', Dfs (nbs E n) [v] S L S' L' ∧ Seen W' sb n S' ∧ J L' W' ∧ KT B0 (fun k => T k ∨ k = sb) W W' := by
  intro m
  induction m using Nat.strongRecOn with
  | ind m ih =>
    intro v S L W hm hv hL hS hj hB hin
    obtain ⟨ws, hws, hst⟩ := hS
    have hTS : ∀ k, lb ≤ k → k ≤ lb + n → ¬ (T k ∨ k = sb) := fun k h1 h2 h => h.elim (hTl k h1 h2) fun e => hsl (e ▸ ⟨h1, h2⟩)
    -- the boxes
    obtain ⟨W3, hW3⟩ : ∃ W3, ((W.alloc (.cells #[sl lb n] 44)).alloc (.cells #[sl sb (sizeW n)] 49)).alloc (.cells #[.func (.func lf) #[] cb] 47) = W3 := ⟨_, rfl⟩
    have hb3 : Below W.heap.size W W3 := by rw [← hW3]; exact bel_alloc (bel_alloc (bel_box _) _) _
    have hz3 : W3.heap.size = W.heap.size + 3 := by rw [← hW3]; simp
    have b0 : Blk W3 W.heap.size 44 [sl lb n] := by rw [← hW3]; exact ((Blk.new W [sl lb n] _).alloc _).alloc _
    have b1 : Blk W3 (W.heap.size + 1) 49 [sl sb (sizeW n)] := by
      rw [← hW3]
      have h := Blk.new (W.alloc (.cells #[sl lb n] 44)) [sl sb (sizeW n)] 49
      rw [World.size_alloc] at h
      exact h.alloc _
    have b2 : Blk W3 (W.heap.size + 2) 47 [.func (.func lf) #[] cb] := by
      rw [← hW3]
      have h := Blk.new ((W.alloc (.cells #[sl lb n] 44)).alloc (.cells #[sl sb (sizeW n)] 49)) [.func (.func lf) #[] cb] 47
      rw [World.size_alloc, World.size_alloc] at h
      exact h
    have hws3 := hws.keep hb3
    have hL3 := hL.keep hb3
    have hj3 := hJb _ _ _ hj hb3
    have c0 := b0.cell (i := 0) rfl
    have c1 := b1.cell (i := 0) rfl
    have c2 := b2.cell (i := 0) rfl
    have hsz : sizeW n ≤ 4096 := by unfold sizeW; omega
    have KH := Lib.hid (has_any sb (sizeW n) v ws _ W3 hws3 hst hsz (size_div hv))
    have c2 : W3.cell? ⟨W.heap.size + 1 + 1, 0, none⟩ = some (.func (.func lf) #[] cb) := c2
    by_cases hvS : S.contains v = true
    · rw [hvS] at KH
      have R0 := Lib.hid (show ∃ S' L', Dfs (nbs E n) [v] S L S' L' ∧ Seen W3 sb n S' ∧ J L' W3 ∧ KT B0 (fun k => T k ∨ k = sb) W W3 from
        ⟨S, L, .skip (List.contains_iff_mem.1 hvS) (.nil S L), ⟨ws, hws3, hst⟩, hj3, .below hb3⟩)
      clear ih hJ hJs hJt hJb hin hTS hL hL3 hj hj3 hws hws3 hst b0 b1 b2 hb3 hTl hTs hsl hvS
      go_enter Tryd.func38, Tryd.ntmps38
      go_wp2_with (go_at_call 57; refine KH.out.mono ?_; rintro e w1 ⟨rfl, rfl⟩)
      refine bodyPost_ret (v := .tuple #[]) (results_none rfl _ _ _) rfl ?_
      exact ⟨rfl, R0.out⟩
    · have hvS' : S.contains v = false := by simpa using hvS
      have hvn : v ∉ S := fun h => hvS (List.contains_iff_mem.2 h)
      rw [hvS'] at KH
      have nT0 : ¬ (T W.heap.size ∨ W.heap.size = sb) := fun h => h.elim (fun h => by have := hTB _ h; omega) (fun e => by omega)
      have nT1 : ¬ (T (W.heap.size + 1) ∨ W.heap.size + 1 = sb) := fun h => h.elim (fun h => by have := hTB _ h; omega) (fun e => by omega)
      have nT2 : ¬ (T (W.heap.size + 2) ∨ W.heap.size + 2 = sb) := fun h => h.elim (fun h => by have := hTB _ h; omega) (fun e => by omega)
      have KA := Lib.hid ((add_any sb (sizeW n) v ws _ W3 hws3 hst hsz (size_div hv)).mono (R' := fun e w' => e = .returned (.tuple #[]) ∧ Seen w' sb n (v :: S) ∧ J L w' ∧ KT B0 (fun k => T k ∨ k = sb) W3 w' ∧ w'.cell? ⟨W.heap.size, 0, none⟩ = some (sl lb n) ∧ w'.cell? ⟨W.heap.size + 1, 0, none⟩ = some (sl sb (sizeW n)))
        fun e w' ⟨he, q, hw⟩ => by
          have hk : KT B0 (fun k => T k ∨ k = sb) W3 w' := by
            rw [hw]
            exact .kp ((Kp.set (S := fun k => T k ∨ k = sb) W3 (a := ⟨sb, v / 64, none⟩) (.inr rfl) _).trans (Kp.below (below_self _ _ q)))
          refine ⟨he, by rw [hw]; exact seen_add hws3 hst hv q, ?_, hk, (hk.blk b0 nT0 (.inr (by decide))).cell (i := 0) rfl, (hk.blk b1 nT1 (.inr (by decide))).cell (i := 0) rfl⟩
          rw [hw]
          exact hJb _ _ _ (hJs _ _ _ _ hj3) (below_self _ _ q))
      have KE := Lib.hid (fun W4 (hs4 : Seen W4 sb n (v :: S)) (hj4 : J L W4) (hk4 : KT B0 (fun k => T k ∨ k = sb) W3 W4) =>
        show Calls Tryd.prog 50 #[sl lb n, .int .i64 v, sl sb (sizeW n), .func (.func 58) #[] #[.pointer (some ⟨W.heap.size, 0, none⟩), .pointer (some ⟨W.heap.size + 1, 0, none⟩), .pointer (some ⟨W.heap.size + 1 + 1, 0, none⟩)]] W4 fun e w' => e = .returned (.tuple #[]) ∧ (∃ S1 L1, Dfs (nbs E n) (nbs E n v) (v :: S) L S1 L1 ∧ Seen w' sb n S1 ∧ J L1 w' ∧ KT B0 (fun k => T k ∨ k = sb) W3 w') ∧ w'.cell? ⟨W.heap.size + 1 + 1, 0, none⟩ = some (.func (.func lf) #[] cb) from by
          obtain ⟨wss, hlk, hstl⟩ := hL3.ex
          have hsv := hstl v hv
          have hnb : memW (wss v) = nbs E n v := hsv.nbs hEn
          have hlk4 := hk4.lnk hlk hTS
          refine (eachNew_any lb n v sb 58 _ (enters_of Tryd.func58 (by kernel_rfl) rfl) (fun i => (wss v).getD i 0) hsv.wf hn hv
            (fun i U => ∃ S1 L1, Dfs (nbs E n) (preW (wss v) i) (v :: S) L S1 L1 ∧ Seen U sb n S1 ∧ J L1 U ∧ KT B0 (fun k => T k ∨ k = sb) W3 U)
            (fun i l U => i < sizeW n ∧ ∃ S0 L0 x d S1 L1, Dfs (nbs E n) (preW (wss v) i) (v :: S) L S0 L0 ∧ (∀ b, b < 64 → Nat.testBit x b = S0.contains (i * 64 + b)) ∧ (bitsL ((wss v).getD i 0)).filter (fun b => !x.testBit b) = d ++ l ∧ Dfs (nbs E n) (d.map (i * 64 + ·)) S0 L0 S1 L1 ∧ Seen U sb n S1 ∧ J L1 U ∧ KT B0 (fun k => T k ∨ k = sb) W3 U)
            ?_ ?_ ?_ ?_ W4 (hlk4.hd hv) ⟨v :: S, L, .nil _ _, hs4, hj4, hk4⟩).mono ?_
          · rintro i U hi ⟨S1, L1, hd, hs, hj, hk⟩
            refine ⟨(((hk.lnk hlk hTS).sets v hv)).cell (uV_get (by rw [hsv.len]; exact hi)), ?_⟩
            obtain ⟨us, hu1, hu2⟩ := hs
            refine ⟨us.getD i 0, hu2.wf i, hu1.cell (uV_get (by rw [hu2.len]; exact hi)), hi, S1, L1, us.getD i 0, [], S1, L1, hd, fun b hb => ?_, by rw [bitsL_andn _ _ (hsv.wf i)]; rfl, .nil _ _, ⟨us, hu1, hu2⟩, hj, hk⟩
            have := hu2.iff (i * 64 + b)
            unfold inW at this
            rw [show (i * 64 + b) / 64 = i by omega, show (i * 64 + b) % 64 = b by omega] at this
            exact this
          · rintro i l U ⟨_, _, _, _, _, _, _, _, _, _, _, _, hj, _⟩
            exact hJt _ _ hj
          · rintro i b l U hi hb ⟨_, S0, L0, x, d, S1, L1, h1, h2, h3, h4, h5, h6, h7⟩
            have hmem : i * 64 + b ∈ nbs E n v := by
              rw [← hnb, memW_mem, hsv.len]
              have hb2 : b ∈ bitsL ((wss v).getD i 0) := (List.mem_filter.1 (h3 ▸ (by simp : b ∈ d ++ b :: l))).1
              unfold inW
              rw [show (i * 64 + b) / 64 = i by omega, show (i * 64 + b) % 64 = b by omega]
              exact ⟨hi, (bitsL_mem.1 hb2).2⟩
            have hlt : i * 64 + b < n := List.mem_range.1 (List.mem_filter.1 hmem).1
            have hsub : ∀ y ∈ v :: S, y ∈ S1 := fun y hy => h4.sub.1 y (h1.sub.1 y hy)
            have hun : uns n S1 < m := Nat.lt_of_le_of_lt (uns_le hsub) (Nat.lt_of_lt_of_le (uns_cons hv hvn) hm)
            have hBU : B0 ≤ U.heap.size := by have := h7.1; omega
            have hin1 : (∀ x ∈ L1, x ∈ S1) ∧ L1.Nodup ∧ ∀ x ∈ S1, x < n := by
              have hpl : ∀ x ∈ preW (wss v) i, x < n := fun x hx => by
                unfold preW at hx
                obtain ⟨i', hi', hx⟩ := List.mem_flatMap.1 hx
                obtain ⟨b', hb', rfl⟩ := List.mem_map.1 hx
                have hb3 := bitsL_mem.1 hb'
                rw [List.mem_range] at hi'
                refine hEn v _ ?_
                rw [← hsv.iff]
                unfold inW
                rw [show (i' * 64 + b') / 64 = i' by omega, show (i' * 64 + b') % 64 = b' by omega]
                exact hb3.2
              have hdl : ∀ x ∈ d.map (i * 64 + ·), x < n := fun x hx => by
                obtain ⟨b', hb', rfl⟩ := List.mem_map.1 hx
                have hb3 : b' ∈ bitsL ((wss v).getD i 0) := (List.mem_filter.1 (h3 ▸ List.mem_append_left _ hb')).1
                have hb4 := bitsL_mem.1 hb3
                refine hEn v _ ?_
                rw [← hsv.iff]
                unfold inW
                rw [show (i * 64 + b') / 64 = i by omega, show (i * 64 + b') % 64 = b' by omega]
                exact hb4.2
              refine dfs_inv (n := n) nbs_lt (h1.app h4) (fun x hx => (List.mem_append.1 hx).elim (hpl x) (hdl x)) (fun x hx => List.mem_cons_of_mem _ (hin.1 x hx)) hin.2.1 (fun x hx => ?_)
              rcases List.mem_cons.1 hx with rfl | hx
              · exact hv
              · exact hin.2.2 x hx
            have hcall := ih (uns n S1) hun (i * 64 + b) S1 L1 U (Nat.le_refl _) hlt (h7.lke hL3 hTS) h5 h6 hBU hin1
            refine (walk1_any (i * 64 + b) W.heap.size (W.heap.size + 1) (W.heap.size + 1 + 1) _ _ _ (fun w' => ∃ S' L', Dfs (nbs E n) [i * 64 + b] S1 L1 S' L' ∧ Seen w' sb n S' ∧ J L' w' ∧ KT B0 (fun k => T k ∨ k = sb) U w') U ((h7.blk b0 nT0 (.inr (by decide))).cell (i := 0) rfl) ((h7.blk b1 nT1 (.inr (by decide))).cell (i := 0) rfl) ((h7.blk b2 nT2 (.inr (by decide))).cell (i := 0) rfl) hcall).mono ?_
            rintro e U2 ⟨he, S2, L2, g1, g2, g3, g4⟩
            refine ⟨he, hi, S0, L0, x, d ++ [b], S2, L2, h1, h2, by rw [h3]; simp, ?_, g2, g3, h7.trans g4⟩
            rw [List.map_append]
            exact h4.app g1
          · rintro i U ⟨_, S0, L0, x, d, S1, L1, h1, h2, h3, h4, h5, h6, h7⟩
            refine ⟨S1, L1, ?_, h5, h6, h7⟩
            rw [preW_succ]
            refine h1.app (Dfs.filtered (p := fun u => !S0.contains u) _ _ _ _ _ (fun u hu hp => ?_) ?_)
            · exact List.contains_iff_mem.1 (by simpa using hp)
            · rw [List.append_nil] at h3
              have e1 : ((bitsL ((wss v).getD i 0)).map (i * 64 + ·)).filter (fun u => !S0.contains u) = ((bitsL ((wss v).getD i 0)).filter fun b => !x.testBit b).map (i * 64 + ·) := by
                rw [List.filter_map]
                congr 1
                apply List.filter_congr
                intro b hb
                simp only [Function.comp]
                rw [h2 b (bitsL_mem.1 hb).1]
              rw [e1, h3]
              exact h4
          · rintro e w' ⟨he, S1, L1, h1, h2, h3, h4⟩
            rw [preW_all hsv.len, hnb] at h1
            exact ⟨he, ⟨S1, L1, h1, h2, h3, h4⟩, (h4.blk b2 nT2 (.inr (by decide))).cell (i := 0) rfl⟩)
      have KF := Lib.hid (fun w5 (h : ∃ S1 L1, Dfs (nbs E n) (nbs E n v) (v :: S) L S1 L1 ∧ Seen w5 sb n S1 ∧ J L1 w5 ∧ KT B0 (fun k => T k ∨ k = sb) W3 w5) =>
        show Calls Tryd.prog lf (#[.int .i64 (v : Int)] ++ cb) w5 fun e w' => e = .returned (.tuple #[]) ∧ ∃ S' L', Dfs (nbs E n) [v] S L S' L' ∧ Seen w' sb n S' ∧ J L' w' ∧ KT B0 (fun k => T k ∨ k = sb) W w' from by
          obtain ⟨S1, L1, h1, h2, h3, h4⟩ := h
          have hin2 := dfs_inv (n := n) nbs_lt (Dfs.go hvn h1 (.nil S1 (L1 ++ [v]))) (fun x hx => by rw [List.mem_singleton.1 hx]; exact hv) hin.1 hin.2.1 hin.2.2
          refine (hJ L1 v w5 hv hin2.2.1 (fun x hx => hin2.2.2 x (hin2.1 x hx)) h3 (by have := h4.1; omega)).mono ?_
          rintro e w' ⟨he, g1, g2⟩
          exact ⟨he, S1, L1 ++ [v], .go hvn h1 (.nil _ _), h2.kt g2 hTs, g1, ((KT.below hb3).trans h4).trans (g2.mono fun k hk => .inl hk)⟩)
      clear ih hJ hJs hJt hJb hin hTS hL hL3 hj hj3 hws hws3 hst b0 b1 b2 hb3 hTl hTs hsl hvS hvS' hvn nT0 nT1 nT2
      go_enter Tryd.func38, Tryd.ntmps38
      go_wp2_with (first | (go_at_call 57; refine KH.out.mono ?_; rintro e w1 ⟨rfl, rfl⟩) | (go_at_call 28; refine KA.out.mono ?_; clear KA; rintro e w4 ⟨rfl, hs4, hj4, hk4, d0, d1⟩) | (go_at_call 50; refine (KE.out _ hs4 hj4 hk4).mono ?_; clear KE; rintro e w5 ⟨rfl, h5, d2⟩) | (go_at_fn lf; refine (KF.out _ h5).mono ?_; clear KF; rintro e w6 ⟨rfl, h6⟩))
      refine bodyPost_end (v := .tuple #[]) (results_none rfl _ _ _) rfl ?_
      exact ⟨rfl, h6⟩
end gr
end Go.Proofs.YtahffafobdiogaaDoor
