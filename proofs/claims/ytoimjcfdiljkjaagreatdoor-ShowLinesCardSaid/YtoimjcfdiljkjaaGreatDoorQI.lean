import Derived.ProofKit
import Derived.OpenShut
import Derived.Deep.Slices
import Derived.SizedLaws
import Derived.Lib.AppendZeros
import Derived.Deep.RegionHeld3
import Derived.Deep.RegionLaw
import Derived.Laws.IdiomStrings
import Derived.Laws.Concat
import Derived.Lib.IndexLaws
import Derived.Deep.OwnRows
import Derived.IntWalk
import Derived.Test.YtoimjcfdiljkjaaGreatDoorQH
set_option linter.unusedVariables false
set_option linter.unusedSimpArgs false
namespace Go.Proofs.YtoimjcfdiljkjaaGreatDoor
open Go.RowKit Go.Sort
def NmR (wok : ByteArray → Bool) (w : World) (x : Xt) : Prop := (x.k = 11 → Hid (∀ W, Below w.heap.size w W → Calls Tryz.prog 144 #[.string x.nm] W (fun e w' => ∃ (A1 A2 : Option Addr) (n1 c1 n2 c2 : Nat) (er : Int), e = .returned (.tuple #[.agg #[.slice A1 n1 c1, .slice A2 n2 c2], .int .i64 er]) ∧ (er == 0) = wok x.nm ∧ Below W.heap.size W w'))) ∧ (hasIdn x.k = true → Hid (∀ W, Below w.heap.size w W → Calls Tryz.prog 96 #[.string x.nm] W (Bel (.bool (idP x.nm)) W)))
theorem firstE_take {f : Xt → Int} {l : List Xt} {k : Nat} {y : Xt} (hy : l[k]? = some y) (h : ∀ z ∈ l.take k, f z = 0) (hf : f y ≠ 0) : firstE f l = f y := by
  have e : l = l.take k ++ y :: l.drop (k + 1) := by
    have h1 := (List.getElem?_eq_some_iff.1 hy).1
    conv => lhs; rw [← List.take_append_drop k l, List.drop_eq_getElem_cons h1, (List.getElem?_eq_some_iff.1 hy).2]
  rw [e]
  exact firstE_at h hf
theorem ok_take {f : Xt → Int} {l : List Xt} {k : Nat} {y : Xt} (hy : l[k]? = some y) (h : ∀ z ∈ l.take k, f z = 0) (hf : f y = 0) : ∀ z ∈ l.take (k + 1), f z = 0 := by
  intro z hz
  rw [take_succ_of hy] at hz
  rcases List.mem_append.1 hz with hz | hz
  · exact h z hz
  · obtain rfl := List.mem_singleton.1 hz
    exact hf
set_option maxHeartbeats 4000000 in
set_option maxRecDepth 20000 in
theorem rcheck_any (wok : ByteArray → Bool) (x : Xt) (w : World) (hX : RdX w w.heap.size x) (hs : x.size ≤ 1048576) (hN : ∀ y ∈ x.list, NmR wok w y) : Calls Tryz.prog 70 #[xV x] w (Bel (.int .i64 (chkAll wok x)) w) := by
  have KS : Hid (∀ W, Below w.heap.size w W → Calls Tryz.prog 108 #[xV x] W (Bel (.int .i64 (x.size : Nat)) W)) := Lib.hid fun W h => rsize_any x W (hX.to h) (by omega)
  have KD : Hid (∀ W, Below w.heap.size w W → Calls Tryz.prog 109 #[xV x] W (Bel (.int .i64 (x.depth : Nat)) W)) := Lib.hid fun W h => rdepth_any x W (hX.to h) (by omega)
  have KL : Hid (∀ W, Below w.heap.size w W → Calls Tryz.prog 110 #[xV x] W (NewX x.list W)) := Lib.hid fun W h => rList_any x W (hX.to h) (by omega)
  have hll := list_length x
  have hal := hX.all
  have hdl := depth_le x
  simp only [xV] at KS KD KL ⊢
  by_cases h1 : 400 < x.size
  · have u1 : (400 : Int) < (x.size : Int) := by omega
    rw [chkAll, if_pos (.inl h1)]
    clear h1 hX hN hll hal hs hdl
    go_enter Tryz.func70, Tryz.ntmps70
    go_wp2_with (go_at_call 108; (with_reducible refine (KS.out _ ?_).mono ?_); (exact bl); rintro e w1 ⟨rfl, hb1⟩)
    go_ret
    exact ⟨rfl, bl⟩
  have u1 : (x.size : Int) ≤ 400 := by omega
  by_cases h2 : 32 < x.depth
  · have u2 : (32 : Int) < (x.depth : Int) := by omega
    rw [chkAll, if_pos (.inr h2)]
    clear h1 h2 hX hN hll hal hs hdl
    go_enter Tryz.func70, Tryz.ntmps70
    go_wp2_with (first
      | (go_at_call 108; (with_reducible refine (KS.out _ ?_).mono ?_); (exact bl); rintro e w1 ⟨rfl, hb1⟩; obtain ⟨b0, b1, b2, b3, b4, b5, _⟩ := bxW_cells (w := w) (x := x) (W := w1) bl)
      | (go_at_call 109; (with_reducible refine (KD.out _ ?_).mono ?_); (exact bl); rintro e w2 ⟨rfl, hb2⟩))
    go_ret
    exact ⟨rfl, bl⟩
  have u2 : (x.depth : Int) ≤ 32 := by omega
  rw [chkAll, if_neg (by omega)]
  obtain ⟨l, hl⟩ : ∃ l, x.list = l := ⟨_, rfl⟩
  rw [hl] at KL hll hal hN ⊢
  have hl5 : l.length ≤ 500 := by omega
  have HN := Lib.hid hN
  have HAL := Lib.hid hal
  clear h1 h2 hX hN hal hl hll hdl
  obtain ⟨V, hV⟩ : ∃ V, firstE (chk1 wok) l = V := ⟨_, rfl⟩
  have HV := Lib.hid hV
  rw [hV]
  clear hV
  go_enter Tryz.func70, Tryz.ntmps70
  go_wp2_with (first
    | (go_at_call 108; (with_reducible refine (KS.out _ ?_).mono ?_); (exact bl); rintro e w1 ⟨rfl, hb1⟩; obtain ⟨b0, b1, b2, b3, b4, b5, _⟩ := bxW_cells (w := w) (x := x) (W := w1) bl)
    | (go_at_call 109; (with_reducible refine (KD.out _ ?_).mono ?_); (exact bl); rintro e w2 ⟨rfl, hb2⟩; obtain ⟨d0, d1, d2, d3, d4, d5, _⟩ := bxW_cells (w := w) (x := x) (W := w2) bl)
    | (go_at_call 110; (with_reducible refine (KL.out _ ?_).mono ?_); (exact bl); rintro e w3 ⟨A, c, rfl, hR, hb3⟩))
  have HB3 : Hid (Below w.heap.size w w3) := Lib.hid bl
  clear b0 b1 b2 b3 b4 b5 d0 d1 d2 d3 d4 d5 hb1 hb2 hb3 KS KD KL
  go_loopw [4] (fun i wr => ∃ k : Nat, k ≤ l.length ∧ i = .int .i64 (k : Int) ∧ Below w3.heap.size w3 wr ∧ Hid (∀ z ∈ l.take k, chk1 wok z = 0)) (fun i _ => l.length - (intOf i).toNat)
  case atStart => exact ⟨0, by omega, rfl, Below.refl _ _, Lib.hid (by simp)⟩
  case round =>
    obtain ⟨k, hk, rfl, hbl, hno⟩ := hrel
    have HBR : Hid (Below w.heap.size w wr) := Lib.hid (HB3.out.trans (hbl.mono HB3.out.size))
    by_cases hlt : k < l.length
    · obtain ⟨ad, y, rfl, had, hy, hm, ⟨c0, c1, c2, c3, c4, c5⟩⟩ := (hR.to hbl).at_ hlt
      have H1 := Lib.hid (fun hf => (firstE_take hy hno.out hf).symm.trans HV.out)
      have H2 := Lib.hid (fun hf => ok_take hy hno.out hf)
      have hyl := HAL.out y hm
      unfold maxLen at hyl
      have KF : Hid (∀ W, Below wr.heap.size wr W → Calls Tryz.prog 111 #[.agg #[.int .i64 y.k, .int .i64 y.op, .int .i64 y.t, .int .i64 y.v, .string y.nm, .slice y.A y.ar.length y.c]] W (Bel (.bool (formedP y.k y.op y.t y.v y.ar.length (wok y.nm) && onlyP y.k y.op y.t y.v (y.nm.toList == []))) W)) := Lib.hid fun W h => by
        have := rform_any y (wok y.nm) W (fun hk => Lib.hid fun W' h' => ((HN.out y hm).1 hk).out W' (bel_step (HBR.out.trans (h.mono HBR.out.size)) h'))
        rwa [form_one] at this
      have KN := Lib.hid (fun W => named_any y.k W)
      have KI : hasIdn y.k = true → Hid (∀ W, Below wr.heap.size wr W → Calls Tryz.prog 96 #[.string y.nm] W (Bel (.bool (idP y.nm)) W)) := fun hi => Lib.hid fun W h => ((HN.out y hm).2 hi).out W (HBR.out.trans (h.mono HBR.out.size))
      have hc1 : chk1 wok y = if 64 < y.ar.length then 3 else if (formedP y.k y.op y.t y.v y.ar.length (wok y.nm) && onlyP y.k y.op y.t y.v (y.nm.toList == [])) = false then 5 else if (hasIdn y.k && !idP y.nm) = true then 6 else 0 := rfl
      generalize (formedP y.k y.op y.t y.v y.ar.length (wok y.nm) && onlyP y.k y.op y.t y.v (y.nm.toList == [])) = bf at KF hc1
      generalize idP y.nm = bi at KI hc1
      generalize hasIdn y.k = bn at KI KN hc1
      have HC : Hid (∀ W, Below wr.heap.size wr W → XC W (ad.add (k * 6)) y) := Lib.hid fun W h => (show XC wr (ad.add (k * 6)) y from ⟨c0, c1, c2, c3, c4, c5⟩).keep fun p hp => h.cell (by rw [hp, add_block]; exact had)
      clear hy hm hno HN HAL HV
      by_cases h64 : 64 < y.ar.length
      · rw [if_pos h64] at hc1
        have u3 : (64 : Int) < (y.ar.length : Int) := by omega
        have hv := H1.out (by rw [hc1]; decide)
        rw [hc1] at hv
        clear hc1 H1 H2
        go_wp2
        go_ret
        exact ⟨by rw [← hv]; rfl, HBR.out⟩
      rw [if_neg h64] at hc1
      have u3 : (y.ar.length : Int) ≤ 64 := by omega
      cases bf
      · rw [if_pos rfl] at hc1
        have hv := H1.out (by rw [hc1]; decide)
        rw [hc1] at hv
        clear hc1 H1 H2
        go_wp2_with (go_at_call 111; (with_reducible refine (KF.out _ ?_).mono ?_); (exact bl); rintro e w5 ⟨rfl, hb5⟩)
        go_ret
        exact ⟨by rw [← hv]; rfl, HBR.out.trans (Below.mono bl HBR.out.size)⟩
      rw [if_neg (by simp)] at hc1
      cases bn
      · rw [Bool.false_and, if_neg (by simp)] at hc1
        have N := Lib.hid (H2.out hc1)
        clear hc1 H1 H2 KI
        go_wp2_with (first
          | (go_at_call 111; (with_reducible refine (KF.out _ ?_).mono ?_); (exact bl); rintro e w5 ⟨rfl, hb5⟩; obtain ⟨e0, e1, e2, e3, e4, e5⟩ := HC.out w5 bl)
          | (go_at_call 112; (with_reducible refine (KN.out _).mono ?_); rintro e w6 ⟨rfl, hb6⟩))
        exact ⟨⟨k + 1, by omega, by congr 1, bl, N⟩, by simp [intOf]; omega⟩
      have KI2 := KI rfl
      rw [Bool.true_and] at hc1
      cases bi
      · rw [if_pos (by simp)] at hc1
        have hv := H1.out (by rw [hc1]; decide)
        rw [hc1] at hv
        clear hc1 H1 H2 KI
        go_wp2_with (first
          | (go_at_call 111; (with_reducible refine (KF.out _ ?_).mono ?_); (exact bl); rintro e w5 ⟨rfl, hb5⟩; obtain ⟨e0, e1, e2, e3, e4, e5⟩ := HC.out w5 bl)
          | (go_at_call 112; (with_reducible refine (KN.out _).mono ?_); rintro e w6 ⟨rfl, hb6⟩; obtain ⟨g0, g1, g2, g3, g4, g5⟩ := HC.out w6 bl)
          | (go_at_call 96; (with_reducible refine (KI2.out _ ?_).mono ?_); (exact bl); rintro e w7 ⟨rfl, hb7⟩))
        go_ret
        exact ⟨by rw [← hv]; rfl, HBR.out.trans (Below.mono bl HBR.out.size)⟩
      · rw [if_neg (by simp)] at hc1
        have N := Lib.hid (H2.out hc1)
        clear hc1 H1 H2 KI
        go_wp2_with (first
          | (go_at_call 111; (with_reducible refine (KF.out _ ?_).mono ?_); (exact bl); rintro e w5 ⟨rfl, hb5⟩; obtain ⟨e0, e1, e2, e3, e4, e5⟩ := HC.out w5 bl)
          | (go_at_call 112; (with_reducible refine (KN.out _).mono ?_); rintro e w6 ⟨rfl, hb6⟩; obtain ⟨g0, g1, g2, g3, g4, g5⟩ := HC.out w6 bl)
          | (go_at_call 96; (with_reducible refine (KI2.out _ ?_).mono ?_); (exact bl); rintro e w7 ⟨rfl, hb7⟩))
        exact ⟨⟨k + 1, by omega, by congr 1, bl, N⟩, by simp [intOf]; omega⟩
    · obtain rfl : k = l.length := by omega
      have h1 := hno.out
      rw [List.take_length] at h1
      have hv := (firstE_ok h1).symm.trans HV.out
      clear h1 hno
      go_wp2
      go_ret
      exact ⟨by rw [← hv]; rfl, HBR.out⟩
end Go.Proofs.YtoimjcfdiljkjaaGreatDoor
namespace Go.Proofs.YtoimjcfdiljkjaaGreatDoor
open Go.ChangeShapes Go.WideShapes Go.ChangeAt Go.RowKit Go.Deep
section
variable {H : Type} {enc : TypeId × Value → H} {P : Program}
theorem trodAll_below (hl : laidOutB P = true) {W W' : World} (hb : Below W.heap.size W W') : ∀ {ts : List TypeId} {vs : List Value} {ds : List (DataW H)} {ps : List MemPlace},
    (∀ t ∈ ts, P.readableRec t = true ∧ t < P.types.size) → DataW.TrodAll enc P W 0 (fun _ => true) true ts vs ds ps → (∀ x ∈ ps, x.block < W.heap.size) →
    DataW.TrodAll enc P W' 0 (fun b => decide (b < W.heap.size)) true ts vs ds ps := by
  intro ts
  induction ts with
  | nil => intro vs ds ps _ h _; cases vs <;> cases ds <;> simp_all [DataW.TrodAll]
  | cons t ts ih =>
    intro vs ds ps ht h hlt
    match vs, ds, h with
    | v :: vs, d :: ds, ⟨p, q, h1, h2, e⟩ =>
      subst e
      obtain ⟨hr, hs⟩ := ht t (by simp)
      exact ⟨p, q, Below.trod hl hr hs h1 hb (fun x hx => hlt x (by simp [hx])), ih (fun u hu => ht u (by simp [hu])) h2 (fun x hx => hlt x (by simp [hx])), rfl⟩
theorem law_post {f : Func} {s : ChangeSpec} {W W' : World} {args : Array Value} {ds gs : List (DataW H)} {before : List MemPlace} {tb : TypeId}
    (hW : DataW.Whole enc P f.params.toList s.vars false W args.toList ds gs before) (hv : s.vars = [])
    (hs : (s.fn H (ds ++ gs)).results = [.lit (.bool true)] ∧ (s.fn H (ds ++ gs)).args = ds ∧ (s.fn H (ds ++ gs)).vars = [])
    (hf : f.resultTypes = #[tb]) (htb : P.underlying tb = some .bool) (hl : laidOutB P = true) (hts : ∀ t ∈ f.params.toList, P.readableRec t = true ∧ t < P.types.size)
    (hb : Below W.heap.size W W') : s.post enc P f false true false false W args (.bool true) W' := by
  have hW' := hW
  obtain ⟨p, q, hA, hV, rfl, _, _⟩ := hW
  rw [hv] at hV
  obtain ⟨rfl, rfl⟩ := trodVars_none hV
  refine ⟨ds, [], p ++ [], [], p, [], hW', ?_, ?_, ?_, hb.frame _, fun h => by cases h⟩
  · rw [hs.1, hf]
    exact trodAll_mk1 (shut_bool htb true)
  · rw [hs.2.1]
    exact trodAll_below hl hb hts hA (fun x hx => hW'.lt x (by simp [hx]))
  · rw [hv, hs.2.2]
    rfl
end
end Go.Proofs.YtoimjcfdiljkjaaGreatDoor
namespace Go.Proofs.YtoimjcfdiljkjaaGreatDoor
open Go.ChangeShapes Go.WideShapes Go.ChangeAt Go.RowKit Go.Deep Go.WideElems
theorem choose_list {α : Type} {p : Nat → α → Prop} : ∀ n, (∀ i, i < n → ∃ e, p i e) → ∃ l : List α, l.length = n ∧ ∀ i e, l[i]? = some e → p i e := by
  intro n
  induction n with
  | zero => exact fun _ => ⟨[], rfl, fun i e h => by simp at h⟩
  | succ n ih =>
    intro h
    obtain ⟨l, hl, hp⟩ := ih fun i hi => h i (by omega)
    obtain ⟨e, he⟩ := h n (by omega)
    refine ⟨l ++ [e], by simp [hl], fun i x hx => ?_⟩
    rcases Nat.lt_or_ge i n with hi | hi
    · exact hp i x (by rwa [List.getElem?_append_left (by omega)] at hx)
    · rw [List.getElem?_append_right (by omega)] at hx
      have hi2 : i = n := by
        have := (List.getElem?_eq_some_iff.1 hx).1
        simp at this
        omega
      subst hi2
      rw [hl, Nat.sub_self] at hx
      obtain rfl : e = x := by simpa using hx
      exact he
def NmB (x : Xt) : Prop := ∀ y ∈ x.list, y.nm.size ≤ 140737488351232
theorem NmB.kid {x y : Xt} (h : NmB x) (hy : y ∈ x.ar) : NmB y := fun z hz => h z (by rw [Xt.list_eq]; exact List.mem_cons.2 (.inr (List.mem_flatten.2 ⟨_, List.mem_map_of_mem hy, hz⟩)))
section
variable {H : Type} {enc : TypeId × Value → H} {P : Program} {w : World} {held : Bool}
theorem mem_wAll {e : TypeId} {l : List (DataW H)} {d : DataW H} (hd : d ∈ l) : ∀ n ∈ d.weights P e, n ∈ DataW.weightsAll P e l := by
  induction l with
  | nil => cases hd
  | cons a l ih =>
    intro n hn
    rw [DataW.weightsAll]
    rcases List.mem_cons.1 hd with rfl | hd
    · exact List.mem_append_left _ hn
    · exact List.mem_append_right _ (ih hd n hn)
end
end Go.Proofs.YtoimjcfdiljkjaaGreatDoor
namespace Go.Proofs.YtoimjcfdiljkjaaGreatDoor.bw
open Go.RowKit
theorem ret_int {k : IntKind} {a b : Int} (h : a = b) : Ending.returned (.int k a) = .returned (.int k b) := by rw [h]
theorem ret_bool {a b : Bool} (h : a = b) : Ending.returned (.bool a) = .returned (.bool b) := by rw [h]
def ck (h l : List Bool) : Int := if l.length = 0 then 5 else if h.length + l.length > 64 then 3 else 0
def lt (h l : List Bool) (i : Nat) : Bool := if i < h.length then h[i]?.getD false else l[(i - h.length) % l.length]?.getD false
theorem lens {h l : List Bool} (hc : ck h l = 0) : 0 < l.length ∧ h.length + l.length ≤ 64 := by
  unfold ck at hc
  split at hc
  · omega
  · split at hc <;> omega
def Bel (v : Value) (w : World) (e : Ending) (w' : World) : Prop := e = .returned v ∧ Below w.heap.size w w'
theorem check_any (A B : Option Addr) (c d : Nat) (h l : List Bool) (w : World) (hh : h.length ≤ 140737488355328) (hl : l.length ≤ 140737488355328) :
    Calls Tryz.prog 202 #[.agg #[.slice A h.length c, .slice B l.length d]] w (Bel (.int .i64 (ck h l)) w) := by
  go_enter Tryz.func202, Tryz.ntmps202
  go_wp2
  all_goals go_ret
  all_goals refine ⟨ret_int ?_, bel_box _⟩
  all_goals unfold ck
  · rw [if_pos (by simp_all)]
  · rw [if_neg (by simp_all), if_pos (by omega)]
  · rw [if_neg (by simp_all), if_neg (by omega)]
theorem rcheck_any (A B : Option Addr) (c d : Nat) (h l : List Bool) (w : World) (hh : h.length ≤ 140737488355328) (hl : l.length ≤ 140737488355328) :
    Calls Tryz.prog 177 #[.agg #[.slice A h.length c, .slice B l.length d]] w (Bel (.int .i64 (ck h l)) w) := by
  go_enter Tryz.func177, Tryz.ntmps177
  go_wp2
  all_goals go_ret
  all_goals refine ⟨ret_int ?_, bel_box _⟩
  all_goals unfold ck
  · rw [if_pos (by simp_all)]
  · rw [if_neg (by simp_all), if_pos (by omega)]
  · rw [if_neg (by simp_all), if_neg (by omega)]
end Go.Proofs.YtoimjcfdiljkjaaGreatDoor.bw
namespace Go.Proofs.YtoimjcfdiljkjaaGreatDoor.bw
open Go.RowKit
def gb (l : List Bool) (i : Nat) : Bool := l[i]?.getD false
theorem gb_of {l : List Bool} {i : Nat} {b : Bool} (h : l[i]? = some b) : gb l i = b := by rw [gb, h]; rfl
end Go.Proofs.YtoimjcfdiljkjaaGreatDoor.bw
namespace Go.Proofs.YtoimjcfdiljkjaaGreatDoor.bw
open Go.RowKit
theorem Tryz.boolInfo : (Tryz.prog.info? 4).map (fun i => (i.zero, i.size, i.bytes)) = some (some (.bool false), 1, 1) := by kernel_rfl
section
variable {P : Program} (w : World)
theorem run_append_nothing (base : Nat) (t ty e : TypeId) (i : TypeInfo) (ht : P.underlying t = some (.slice e)) (hi : P.info? e = some i)
    (v : Value) (n : Nat) (xs : List Value) (hown : w.ownsRow base e 1 v n xs) (c : Nat) : (Builtin.append_ #[t, t] ty #[v, .slice none 0 c]).run P w = .ok v w := by
  rcases hown.2 with ⟨rfl, rfl⟩ | ⟨g, cap, cur, rfl, _, _, hnc, _⟩
  · simp [Builtin.append_, run_underlying ht, sizeOf, typeInfo, hi, Builtin.lenOf, Builtin.firstCells]
  · simp [Builtin.append_, run_underlying ht, sizeOf, typeInfo, hi, Builtin.lenOf, Builtin.firstCells, hnc, storeCells]
theorem run_append_rd (base : Nat) (t ty e : TypeId) (i : TypeInfo) (z : Value) (bytes : Nat) (ht : P.underlying t = some (.slice e)) (hi : P.info? e = some i) (hz : i.zero = some z)
    (hsize : i.size = 1) (hby : i.bytes = bytes) (hzs : z.cells.size = 1)
    (v : Value) (n : Nat) (xs : List Value) (hown : w.ownsRow base e 1 v n xs)
    (B : Nat) (A : Option Addr) (m c : Nat) (news : List Value) (hm : news.length = m) (hr : Rd w B A news) (h1 : ∀ u ∈ news, u.oneCell' = true)
    (h63 : n + m ≤ maxLen) (hbytes : (n + m) * bytes ≤ 140737488355328) (hbase : base ≤ w.heap.size) :
    ∃ v' w', (Builtin.append_ #[t, t] ty #[v, .slice A m c]).run P w = .ok v' w' ∧ w'.ownsRow base e 1 v' (n + m) (xs ++ news) ∧ w.grownBy w' v.ownBlock ∧
      (v'.ownBlock = v.ownBlock ∨ v'.ownBlock = some w.heap.size) := by
  subst hm
  rcases A with _ | ad
  · have hn : news = [] := by
      rcases Classical.em (news = []) with h | h
      · exact h
      · obtain ⟨ad, h, _⟩ := hr h
        cases h
    subst hn
    exact ⟨v, w, run_append_nothing w base t ty e i ht hi v n xs hown c, by simpa using hown, World.grownBy.refl w _, .inl rfl⟩
  · have hcells : ∀ j u, news[j]? = some u → w.cell? (ad.add j) = some u := by
      intro j u hu
      obtain ⟨ad', h, _, hc⟩ := hr (by rintro rfl; simp at hu)
      injection h with h
      subst h
      exact hc j u hu
    obtain ⟨v', w', hrun, h2, h3, _, h5⟩ := run_append_own_at (P := P) w base t ty e i z 1 bytes ht hi hz hsize hby hzs (by omega) v n xs hown ad news.length c news (by omega) hcells h1 h63 hbytes hbase
    exact ⟨v', w', hrun, h2, h3, h5⟩
theorem wp_append_rd {o : Oper} {a : Act} {K : Act → World → Prop} {Q : Exit → Act → World → Prop} (s x : Operand) (t : TypeId)
    (ho : o.op = .call { callee := .builtin .append, args := #[s, x], argTypes := #[t, t] })
    (base : Nat) (e : TypeId) (i : TypeInfo) (z : Value) (bytes : Nat) (ht : P.underlying t = some (.slice e)) (hi : P.info? e = some i) (hz : i.zero = some z)
    (hsize : i.size = 1) (hby : i.bytes = bytes) (hzs : z.cells.size = 1)
    (v : Value) (n : Nat) (xs : List Value) (hs : a.eval s = v) (hown : w.ownsRow base e 1 v n xs)
    (B : Nat) (A : Option Addr) (m c : Nat) (news : List Value) (hx : a.eval x = .slice A m c) (hm : news.length = m) (hr : Rd w B A news) (h1 : ∀ u ∈ news, u.oneCell' = true)
    (h63 : n + m ≤ maxLen) (hbytes : (n + m) * bytes ≤ 140737488355328) (hbase : base ≤ w.heap.size)
    (h : ∀ v' w', w'.ownsRow base e 1 v' (n + m) (xs ++ news) → w.grownBy w' v.ownBlock → (v'.ownBlock = v.ownBlock ∨ v'.ownBlock = some w.heap.size) → K (a.put o.dst v') w') : o.wp P a w K Q := by
  obtain ⟨v', w', hrun, h2, h3, h4⟩ := run_append_rd (P := P) w base t o.type e i z bytes ht hi hz hsize hby hzs v n xs hown B A m c news hm hr h1 h63 hbytes hbase
  unfold Oper.wp execOp
  simp only [ho, resolve, invoke, builtin, Sem.run_bind, Sem.run_pure, Result.andThen_ok, List.map_toArray, List.map_cons, List.map_nil, hs, hx, hrun]
  exact h v' w' h2 h3 h4
theorem wpList_append_rd {ops : Array Oper} {rest : List Oper} {o : Oper} {a : Act} {Q : Exit → Act → World → Prop} (hgd : o.guard = none) (s x : Operand) (t : TypeId)
    (ho : o.op = .call { callee := .builtin .append, args := #[s, x], argTypes := #[t, t] })
    (base : Nat) (e : TypeId) (i : TypeInfo) (z : Value) (bytes : Nat) (ht : P.underlying t = some (.slice e)) (hi : P.info? e = some i) (hz : i.zero = some z)
    (hsize : i.size = 1) (hby : i.bytes = bytes) (hzs : z.cells.size = 1)
    (v : Value) (n : Nat) (xs : List Value) (hs : a.eval s = v) (hown : w.ownsRow base e 1 v n xs)
    (B : Nat) (A : Option Addr) (m c : Nat) (news : List Value) (hx : a.eval x = .slice A m c) (hm : news.length = m) (hr : Rd w B A news) (h1 : ∀ u ∈ news, u.oneCell' = true)
    (h63 : n + m ≤ maxLen) (hbytes : (n + m) * bytes ≤ 140737488355328) (hbase : base ≤ w.heap.size)
    (h : ∀ v' w', w'.ownsRow base e 1 v' (n + m) (xs ++ news) → w.grownBy w' v.ownBlock → (v'.ownBlock = v.ownBlock ∨ v'.ownBlock = some w.heap.size) → wpList P ops Q rest (a.put o.dst v') w') : wpList P ops Q (o :: rest) a w :=
  wpList_plain hgd fun _ hK => wp_append_rd w s x t ho base e i z bytes ht hi hz hsize hby hzs v n xs hs hown B A m c news hx hm hr h1 h63 hbytes hbase fun v' w' h2 h3 h4 => hK _ _ (h v' w' h2 h3 h4)
end
def NewOwn (l : List Bool) (w : World) (e : Ending) (w' : World) : Prop := ∃ A c, e = .returned (.slice A l.length c) ∧ w'.ownsRow w.heap.size 4 1 (.slice A l.length c) l.length (bls l) ∧ Below w.heap.size w w'
theorem cell_new2 (w : World) (x y : Value) (t : TypeId) : (w.alloc (.cells #[x, y] t)).cell? ⟨w.heap.size, 0, none⟩ = some x ∧ (w.alloc (.cells #[x, y] t)).cell? ⟨w.heap.size, 1, none⟩ = some y := by
  constructor
  · rw [cell_of_row _ _ _ _ _ _ (heap_alloc_new w _)]; rfl
  · rw [cell_of_row _ _ _ _ _ _ (heap_alloc_new w _)]; rfl
end Go.Proofs.YtoimjcfdiljkjaaGreatDoor.bw
namespace Go.Proofs.YtoimjcfdiljkjaaGreatDoor.bw
open Go.RowKit
theorem ck_bad {h l : List Bool} (hc : ¬ ck h l = 0) : (ck h l != 0) = true := by simpa using hc
end Go.Proofs.YtoimjcfdiljkjaaGreatDoor.bw
namespace Go.Proofs.YtoimjcfdiljkjaaGreatDoor.bw
open Go.RowKit
def andK (f : Nat → Bool) (n k : Nat) : List Bool := (List.range n).map fun i => decide (i < k) && f i
theorem andK_zero (f : Nat → Bool) (n : Nat) : (madeCells (Value.bool false).cells (n * 1)).toList = bls (andK f n 0) := by
  simp [andK, bls, madeCells, Value.cells, Nat.mod_one]
theorem andK_set (f : Nat → Bool) (n k : Nat) (hk : k < n) : (bls (andK f n k)).set k (.bool (f k)) = bls (andK f n (k + 1)) := by
  apply List.ext_getElem
  · simp [bls, andK]
  · intro i h1 h2
    have hi : i < n := by simpa [bls, andK] using h2
    rw [List.getElem_set]
    by_cases e : k = i
    · subst e
      simp [bls, andK]
    · have ht : decide (i < k) = decide (i < k + 1) := by rw [decide_eq_decide]; omega
      simp [bls, andK, e, ht]
theorem andK_get (f : Nat → Bool) (n k j : Nat) (hj : j < n) : (bls (andK f n k))[j]? = some (.bool (decide (j < k) && f j)) := by simp [bls, andK, hj]
theorem add_off (b n : Nat) : (⟨b, 0, none⟩ : Addr).add n = ⟨b, n, none⟩ := by simp only [Addr.add]; split <;> simp_all
end Go.Proofs.YtoimjcfdiljkjaaGreatDoor.bw
namespace Go.Proofs.YtoimjcfdiljkjaaGreatDoor.bw
open Go.RowKit
def lts (s : ByteArray) : List Bool := s.data.toList.map fun b => ((b.toNat : Nat) : Int) == 49
theorem lts_length (s : ByteArray) : (lts s).length = s.size := by simp only [lts, List.length_map, Array.length_toList]; rfl
def Fw (g : Nat) (W : World) (u v : Value) : Prop := (W.cell? ⟨g, 0, none⟩ = some (.slice none 0 0) ∧ W.cell? ⟨g, 1, none⟩ = some (.slice none 0 0) ∧ W.cell? ⟨g + 1, 0, none⟩ = some u ∧ W.cell? ⟨g + 1, 1, none⟩ = some v) ∧
  (W.frozen? ⟨g, 0, none⟩ = false ∧ W.frozen? ⟨g, 1, none⟩ = false ∧ W.frozen? ⟨g + 1, 0, none⟩ = false ∧ W.frozen? ⟨g + 1, 1, none⟩ = false) ∧ g + 2 ≤ W.heap.size
theorem Fw.below {g : Nat} {W W' : World} {u v : Value} (h : Fw g W u v) (hb : Below (g + 2) W W') : Fw g W' u v := by
  obtain ⟨⟨h1, h2, h3, h4⟩, ⟨h5, h6, h7, h8⟩, h9⟩ := h
  refine ⟨⟨(hb.cell (p := ⟨g, 0, none⟩) (by simp)).trans h1, (hb.cell (p := ⟨g, 1, none⟩) (by simp)).trans h2, (hb.cell (p := ⟨g + 1, 0, none⟩) (by simp)).trans h3, (hb.cell (p := ⟨g + 1, 1, none⟩) (by simp)).trans h4⟩,
    ⟨(hb.frozen (p := ⟨g, 0, none⟩) (by simp)).trans h5, (hb.frozen (p := ⟨g, 1, none⟩) (by simp)).trans h6, (hb.frozen (p := ⟨g + 1, 0, none⟩) (by simp)).trans h7, (hb.frozen (p := ⟨g + 1, 1, none⟩) (by simp)).trans h8⟩, ?_⟩
  rcases Nat.lt_or_ge (g + 1) W'.heap.size with h | h
  · omega
  · have e := (hb.cell (p := ⟨g + 1, 0, none⟩) (by simp)).trans h3
    have := World.block_lt_of_cell? W' _ e
    simp at this
    omega
theorem _root_.Go.Proofs.YtoimjcfdiljkjaaGreatDoor.Rd.set_low {w : World} {A : Option Addr} {N B : Nat} {xs : List Value} (h : Rd w B A xs) (hn : Nw N A xs) {p : Addr} (hp : p.block < N) (u : Value) : Rd (w.setCell p u) B A xs := fun hx => by
  obtain ⟨ad, e, hb, hc⟩ := h hx
  have hN := hn ad e hx
  refine ⟨ad, e, hb, fun j v hv => ?_⟩
  rw [World.cell?_setCell_other _ _ _ _ (fun e2 => by have := congrArg Addr.block e2; rw [add_block] at this; omega)]
  exact hc j v hv
theorem _root_.Go.Proofs.YtoimjcfdiljkjaaGreatDoor.Rd.one_new (w : World) (b : Bool) (t : TypeId) : Rd (w.alloc (.cells #[.bool b] t)) (w.heap.size + 1) (some ⟨w.heap.size, 0, none⟩) [.bool b] := fun _ =>
  ⟨_, rfl, Nat.lt_succ_self _, fun j u hu => cell_one_new w _ _ j u hu⟩
end Go.Proofs.YtoimjcfdiljkjaaGreatDoor.bw
namespace Go.Proofs.YtoimjcfdiljkjaaGreatDoor.bw
open Go.RowKit
def dig (b : Bool) : UInt8 := if b then 49 else 48
def digs (l : List Bool) : List UInt8 := l.map dig
def dgs (l : List Bool) : ByteArray := ⟨(digs l).toArray⟩
theorem digs_length (l : List Bool) : (digs l).length = l.length := by simp [digs]
end Go.Proofs.YtoimjcfdiljkjaaGreatDoor.bw
namespace Go.Proofs.YtoimjcfdiljkjaaGreatDoor.bw
open Go.RowKit
theorem q1 {P : Program} {f : FuncId} {args : Array Value} {w : World} {n : Nat} {v : Value} (h : Calls P f args (w.drewN n) fun e w' => e = .returned v ∧ w.drewN n = w') : Calls P f args (w.drewN n) fun e w'' => e = .returned v ∧ ∃ m, w'' = w.drewN m :=
  h.mono fun _ _ ⟨he, hm⟩ => ⟨he, n, hm.symm⟩
theorem q2 {P : Program} {f : FuncId} {args : Array Value} {w : World} {a n : Nat} {v : Value} (h : Calls P f args (w.drewN (a + n)) fun e w' => e = .returned v ∧ w.drewN (a + n) = w') : Calls P f args (w.drewN (a + n)) fun e w'' => e = .returned v ∧ ∃ m, w'' = w.drewN (a + m) :=
  h.mono fun _ _ ⟨he, hm⟩ => ⟨he, n, hm.symm⟩
end Go.Proofs.YtoimjcfdiljkjaaGreatDoor.bw
namespace Go.Proofs.YtoimjcfdiljkjaaGreatDoor.bw
open Go.RowKit
def NewWX (x y : List Bool) (er : Int) (w : World) (e : Ending) (w' : World) : Prop := ∃ A B c d, e = .returned (.tuple #[.agg #[.slice A x.length c, .slice B y.length d], .int .i64 er]) ∧ Rd w' w'.heap.size A (bls x) ∧ Rd w' w'.heap.size B (bls y) ∧ x.length ≤ c ∧ y.length ≤ d ∧ Below w.heap.size w w' ∧ Nw w.heap.size A (bls x) ∧ Nw w.heap.size B (bls y)
theorem hto {w W : World} {A : Option Addr} {xs : List Value} (h : Hid (Rd w w.heap.size A xs)) (hb : Below w.heap.size w W) : Rd W W.heap.size A xs := Rd.to h hb
abbrev L0 : ByteArray := ⟨#[48]⟩
abbrev L1 : ByteArray := ⟨#[49]⟩
theorem box2 {w W : World} {x y : Value} {t : TypeId} (hb : Below (w.alloc (.cells #[x, y] t)).heap.size (w.alloc (.cells #[x, y] t)) W) : W.cell? ⟨w.heap.size, 0, none⟩ = some x ∧ W.cell? ⟨w.heap.size, 1, none⟩ = some y :=
  ⟨(hb.cell (p := ⟨w.heap.size, 0, none⟩) (by simp)).trans (cell_new2 w x y t).1, (hb.cell (p := ⟨w.heap.size, 1, none⟩) (by simp)).trans (cell_new2 w x y t).2⟩
end Go.Proofs.YtoimjcfdiljkjaaGreatDoor.bw
namespace Go.Proofs.YtoimjcfdiljkjaaGreatDoor.bw
open Go.RowKit
theorem len_toList (s : ByteArray) : s.data.toList.length = s.size := Array.length_toList
theorem byte_get (s : ByteArray) (k : Nat) (h : k < s.size) : s.data.toList[k]? = some s[k] := by
  rw [List.getElem?_eq_getElem (by rw [len_toList]; exact h)]
  rfl
def cutA (l : List UInt8) (c : UInt8) : List UInt8 := if c ∈ l then l.takeWhile (· != c) else l
def cutZ (l : List UInt8) (c : UInt8) : List UInt8 := if c ∈ l then (l.dropWhile (· != c)).drop 1 else []
theorem idx_facts (l : List UInt8) (c : UInt8) : (c ∉ l ∧ Lib.indexByte l c = -1) ∨ (∃ k : Nat, c ∈ l ∧ Lib.indexByte l c = (k : Int) ∧ k < l.length ∧ l.takeWhile (· != c) = l.take k ∧ l.dropWhile (· != c) = l.drop k) := by
  induction l with
  | nil => exact .inl ⟨by simp, rfl⟩
  | cons b r ih =>
    by_cases hb : b = c
    · subst hb
      exact .inr ⟨0, by simp, by simp [Lib.indexByte], by simp, by simp, by simp⟩
    · have hb2 : (b == c) = false := by simpa using hb
      have hb3 : (b != c) = true := by simpa using hb
      rcases ih with ⟨h1, h2⟩ | ⟨k, h1, h2, h3, h4, h5⟩
      · left
        refine ⟨by simp [h1, Ne.symm hb], ?_⟩
        rw [Lib.indexByte, hb2, h2]
        rfl
      · right
        refine ⟨k + 1, by simp [h1], ?_, by simp; omega, ?_, ?_⟩
        · rw [Lib.indexByte, hb2, h2, if_neg (by simp), if_neg (by simp)]
          rfl
        · rw [List.takeWhile_cons, if_pos hb3, List.take_succ_cons, h4]
        · rw [List.dropWhile_cons, if_pos hb3, List.drop_succ_cons, h5]
theorem cut_any (s : ByteArray) (c : UInt8) (w : World) (hs : s.size ≤ 9223372036854775807) : Calls Tryz.prog 213 #[.string s, .string ⟨#[c]⟩] w
    (fun e w' => e = .returned (.tuple #[.string ⟨(cutA s.data.toList c).toArray⟩, .string ⟨(cutZ s.data.toList c).toArray⟩, .bool (decide (c ∈ s.data.toList))]) ∧ Below w.heap.size w w') := by
  have KI := Lib.hid (fun w => Tryz.stringslite_Index_one s c w)
  rcases idx_facts s.data.toList c with ⟨h1, h2⟩ | ⟨k, h1, h2, h3, h4, h5⟩
  · rw [h2] at KI
    have e1 : cutA s.data.toList c = s.data.toList := by rw [cutA, if_neg h1]
    have e2 : cutZ s.data.toList c = [] := by rw [cutZ, if_neg h1]
    rw [e1, e2, decide_eq_false h1]
    clear h1 h2 e1 e2
    go_enter Tryz.func213, Tryz.ntmps213
    go_wp2_with (go_at_call 223; refine (KI.out _).mono ?_; rintro e w1 ⟨rfl, rfl⟩)
    go_ret3
    exact ⟨rfl, Below.refl _ _⟩
  · rw [h2] at KI
    have e1 : cutA s.data.toList c = s.data.toList.take k := by rw [cutA, if_pos h1, h4]
    have e2 : cutZ s.data.toList c = s.data.toList.drop (k + 1) := by rw [cutZ, if_pos h1, h5, List.drop_drop]
    rw [e1, e2, decide_eq_true h1]
    have hk : k < s.size := by rw [← len_toList]; exact h3
    have f1 : (0 : Int) ≤ (k : Int) := by omega
    have f2 : (k : Int) ≤ (s.size : Int) := by omega
    have f3 : (k : Int) + 1 ≤ (s.size : Int) := by omega
    have f4 : IntKind.i64.wrap ((k : Int) + 1) = (k : Int) + 1 := Go.IntWalk.i64_in _ ⟨by omega, by omega⟩
    clear h1 h2 h3 h4 h5 e1 e2
    go_enter Tryz.func213, Tryz.ntmps213
    go_wp2_with (go_at_call 223; refine (KI.out _).mono ?_; rintro e w1 ⟨rfl, rfl⟩)
    go_quiet (fail)
    go_wp2
    go_ret3
    have x1 : s.extract 0 k = ⟨(s.data.toList.take k).toArray⟩ := by
      apply ByteArray.ext
      rw [ByteArray.data_extract]
      apply Array.toList_inj.mp
      simp
    have x2 : s.extract (k + 1) s.size = ⟨(s.data.toList.drop (k + 1)).toArray⟩ := by
      apply ByteArray.ext
      rw [ByteArray.data_extract]
      apply Array.toList_inj.mp
      simp
      exact List.take_of_length_le (by simp [len_toList])
    exact ⟨by rw [← x1, ← x2]; rfl, below_drewN (Below.refl _ _) _⟩
theorem cuts_any (s : ByteArray) (c : UInt8) (w : World) (hs : s.size ≤ 9223372036854775807) : Calls Tryz.prog 199 #[.string s, .string ⟨#[c]⟩] w
    (fun e w' => e = .returned (.tuple #[.string ⟨(cutA s.data.toList c).toArray⟩, .string ⟨(cutZ s.data.toList c).toArray⟩, .bool (decide (c ∈ s.data.toList))]) ∧ Below w.heap.size w w') := by
  have K := Lib.hid (cut_any s c w hs)
  generalize decide (c ∈ s.data.toList) = b at *
  generalize cutA s.data.toList c = x at *
  generalize cutZ s.data.toList c = y at *
  clear hs
  go_enter Tryz.func199, Tryz.ntmps199
  go_wp2_with (go_at_call 213; refine K.out.mono ?_; rintro e w1 ⟨rfl, hb1⟩)
  go_ret3
  exact ⟨rfl, bl⟩
def isD (c : UInt8) : Bool := c == 48 || c == 49
theorem drop_nil {α : Type} {p : α → Bool} {l : List α} (h : (l.dropWhile p).all p = true) : l.all p = true := by
  induction l with
  | nil => rfl
  | cons a r ih =>
    rw [List.dropWhile_cons] at h
    split at h
    · rename_i ha
      rw [List.all_cons, ha, ih h]
      rfl
    · exact h
theorem drop_all {α : Type} {p : α → Bool} {l : List α} (h : l.all p = true) : l.dropWhile p = [] := by
  induction l with
  | nil => rfl
  | cons a r ih =>
    rw [List.all_cons, Bool.and_eq_true] at h
    rw [List.dropWhile_cons, if_pos h.1, ih h.2]
theorem trim_nil (l : List UInt8) : Lib.trimS l [48, 49] = [] ↔ l.all isD = true := by
  have hp : (fun b => List.contains [48, 49] b) = isD := by funext c; rw [show List.contains [48, 49] c = (c == 48 || (c == 49 || false)) from rfl, Bool.or_false]; rfl
  unfold Lib.trimS Lib.trimLeftS Lib.trimRightS
  rw [hp]
  constructor
  · intro h
    have h1 : ((l.reverse.dropWhile isD).reverse.dropWhile isD).all isD = true := by rw [h]; rfl
    have h2 := drop_nil h1
    rw [List.all_reverse] at h2
    have h3 := drop_nil h2
    rwa [List.all_reverse] at h3
  · intro h
    have h1 : l.reverse.all isD = true := by rwa [List.all_reverse]
    rw [drop_all h1]
    rfl
theorem isdig_any (s : ByteArray) (w : World) (hs : s.size ≤ 9223372036854775807) : Calls Tryz.prog 200 #[.string s] w (Bel (.bool (s.data.toList.all isD)) w) := by
  have K := Lib.hid (Tryz.strings_Trim_laid s ⟨#[48, 49]⟩ w hs (by decide) (Go.Proofs.ascii_of_all (by decide)))
  by_cases h : s.data.toList.all isD = true
  · have ht := (trim_nil _).2 h
    rw [show (ByteArray.mk #[48, 49]).data.toList = [48, 49] from rfl, ht] at K
    rw [h]
    clear h ht hs
    go_enter Tryz.func200, Tryz.ntmps200
    go_wp2_with (go_at_call 214; refine K.out.mono ?_; rintro e w1 ⟨rfl, hb1⟩)
    go_ret
    exact ⟨rfl, bl⟩
  · have ht : Lib.trimS s.data.toList [48, 49] ≠ [] := fun e => h ((trim_nil _).1 e)
    rw [show (ByteArray.mk #[48, 49]).data.toList = [48, 49] from rfl] at K
    rw [Bool.not_eq_true] at h
    rw [h]
    generalize Lib.trimS s.data.toList [48, 49] = l at *
    have e1 : l.isEmpty = false := by rcases l with _ | ⟨a, r⟩ <;> simp at ht ⊢
    have e2 : (l == []) = false := by rcases l with _ | ⟨a, r⟩ <;> simp at ht ⊢
    clear h hs ht
    go_enter Tryz.func200, Tryz.ntmps200
    go_wp2_with (go_at_call 214; refine K.out.mono ?_; rintro e w1 ⟨rfl, hb1⟩)
    go_ret
    exact ⟨rfl, bl⟩
end Go.Proofs.YtoimjcfdiljkjaaGreatDoor.bw
namespace Go.Proofs.YtoimjcfdiljkjaaGreatDoor.bw
open Go.RowKit
theorem lts_get {s : ByteArray} {k : Nat} (hk : k < s.size) : (lts s)[k]? = some (((s[k].toNat : Nat) : Int) == 49) := by
  rw [lts, List.getElem?_map, byte_get s k hk]
  rfl
theorem lts_all (s : ByteArray) : andK (fun i => gb (lts s) i) s.size s.size = lts s := by
  apply List.ext_getElem
  · simp [andK, lts_length]
  · intro i h1 h2
    have hi : i < s.size := by rw [← lts_length]; exact h2
    have := lts_get hi
    rw [List.getElem?_eq_getElem h2] at this
    simp [andK, gb, h2, hi]
set_option maxHeartbeats 400000 in
theorem read_any (s : ByteArray) (w : World) (hs : s.size ≤ 65536) : Calls Tryz.prog 201 #[.string s] w (NewOwn (lts s) w) := by
  obtain ⟨i0, hi, iz, is, ib⟩ := info_parts Tryz.boolInfo
  go_enter Tryz.func201, Tryz.ntmps201
  go_wp2_with (at_make; refine wpList_make_full _ rfl _ _ 180 rfl w.heap.size 4 i0 (.bool false) 1 Tryz.underlying180 hi iz is _ _ _ _ s.size rfl rfl rfl rfl (by rw [ib]; omega) (by unfold maxLen; omega) (Nat.le_refl _) ?_; intro w2 hown2 hgrow2)
  have hb2 : Below w.heap.size w w2 := (Below.refl _ _).grown hgrow2 (Nat.le_refl _) (fun k hk => by cases hk)
  rw [andK_zero (fun i => gb (lts s) i) s.size] at hown2
  have HO2 := Lib.hid hown2
  clear hown2 hgrow2
  go_loopw [4, 10] (fun u i wr => ∃ k : Nat, k ≤ s.size ∧ i = .int .i64 k ∧ wr.ownsRow w.heap.size 4 1 (.slice (some ⟨w.heap.size, 0, none⟩) s.size s.size) s.size (bls (andK (fun i => gb (lts s) i) s.size k)) ∧ Below w.heap.size w wr) (fun _ i _ => s.size - (intOf i).toNat)
  case atStart => exact ⟨0, by omega, rfl, HO2.out, hb2⟩
  case round =>
    obtain ⟨k, hk, rfl, hown, hbl⟩ := hrel
    by_cases hlt : k < s.size
    · have hset := andK_set (fun i => gb (lts s) i) s.size k hlt
      simp only [gb_of (lts_get hlt)] at hset
      have hc3 := (hown.cellAt k (by omega)).trans (andK_get _ s.size k k hlt)
      have hf3 := hown.frozenAt k
      have hst := (hown.stored k (.bool (((s[k].toNat : Nat) : Int) == 49))).1
      rw [hset] at hst
      have HST := Lib.hid hst
      have hb3 : Below w.heap.size w (wr.setCell ⟨w.heap.size, k, none⟩ (.bool (((s[k].toNat : Nat) : Int) == 49))) := hbl.setCell (p := ⟨w.heap.size, k, none⟩) (Nat.le_refl _) _
      clear hst hset hown
      go_wp2
      go_roundw
      case rel => exact ⟨k + 1, by omega, by go_num, HST.out, hb3⟩
      case measure => simp [intOf]; omega
    · obtain rfl : k = s.size := by omega
      rw [lts_all] at hown
      go_wp2
      go_ret
      exact ⟨_, _, by rw [lts_length]; rfl, by rw [lts_length]; exact hown, hbl⟩
end Go.Proofs.YtoimjcfdiljkjaaGreatDoor.bw
namespace Go.Proofs.YtoimjcfdiljkjaaGreatDoor.bw
open Go.RowKit
theorem tw_at {α : Type} (p : α → Bool) (l : List α) (i : Nat) (h : i < (l.takeWhile p).length) : ∃ b, l[i]? = some b ∧ p b = true ∧ (l.takeWhile p)[i]? = some b := by
  induction l generalizing i with
  | nil => simp at h
  | cons a r ih =>
    rw [List.takeWhile_cons] at h ⊢
    by_cases ha : p a = true
    · rw [if_pos ha] at h ⊢
      rcases i with _ | i
      · exact ⟨a, rfl, ha, rfl⟩
      · exact ih i (by simpa using h)
    · rw [if_neg ha] at h
      simp at h
theorem tw_end {α : Type} (p : α → Bool) (l : List α) (b : α) (h : l[(l.takeWhile p).length]? = some b) : p b = false := by
  induction l with
  | nil => simp at h
  | cons a r ih =>
    rw [List.takeWhile_cons] at h
    by_cases ha : p a = true
    · rw [if_pos ha] at h
      exact ih (by simpa using h)
    · rw [if_neg ha] at h
      simp at h
      rw [← h]
      simpa using ha
theorem tw_le {α : Type} (p : α → Bool) (l : List α) : (l.takeWhile p).length ≤ l.length := (List.takeWhile_sublist p).length_le
def runL (l : List UInt8) : List Bool := (l.takeWhile isD).map fun b => ((b.toNat : Nat) : Int) == 49
theorem runL_length (l : List UInt8) : (runL l).length = (l.takeWhile isD).length := by simp [runL]
theorem isD_two {c : UInt8} (h : isD c = true) : (((c.toNat : Nat) : Int) == 48) = true ∧ (((c.toNat : Nat) : Int) == 49) = false ∨ (((c.toNat : Nat) : Int) == 48) = false ∧ (((c.toNat : Nat) : Int) == 49) = true := by
  unfold isD at h
  rw [Bool.or_eq_true, beq_iff_eq, beq_iff_eq] at h
  rcases h with rfl | rfl
  · exact .inl ⟨rfl, rfl⟩
  · exact .inr ⟨rfl, rfl⟩
theorem isD_none {c : UInt8} (h : isD c = false) : (((c.toNat : Nat) : Int) == 48) = false ∧ (((c.toNat : Nat) : Int) == 49) = false := by
  unfold isD at h
  rw [Bool.or_eq_false_iff, beq_eq_false_iff_ne, beq_eq_false_iff_ne] at h
  refine ⟨?_, ?_⟩ <;> rw [beq_eq_false_iff_ne] <;> intro e
  · exact h.1 (UInt8.toNat_inj.1 (by have : c.toNat = 48 := by omega
                                     simpa using this))
  · exact h.2 (UInt8.toNat_inj.1 (by have : c.toNat = 49 := by omega
                                     simpa using this))
theorem run_at {s : ByteArray} {a j : Nat} (ha : a ≤ j) (hj : j - a < (runL (s.data.toList.drop a)).length) : ∃ h : j < s.size, isD s[j] = true ∧ (runL (s.data.toList.drop a))[j - a]? = some (((s[j].toNat : Nat) : Int) == 49) := by
  rw [runL_length] at hj
  obtain ⟨b, h1, h2, h3⟩ := tw_at isD _ _ hj
  rw [List.getElem?_drop, show a + (j - a) = j by omega] at h1
  have hlt : j < s.size := by rw [← len_toList]; exact (List.getElem?_eq_some_iff.1 h1).1
  rw [byte_get s j hlt] at h1
  obtain rfl : s[j] = b := by simpa using h1
  exact ⟨hlt, h2, by rw [runL, List.getElem?_map, h3]; rfl⟩
theorem run_end {s : ByteArray} {a j : Nat} (ha : a ≤ j) (hj : j - a = (runL (s.data.toList.drop a)).length) (hlt : j < s.size) : isD s[j] = false := by
  apply tw_end isD (s.data.toList.drop a)
  rw [← runL_length, ← hj, List.getElem?_drop, show a + (j - a) = j by omega, byte_get s j hlt]
theorem grow_one' {B n : Nat} {e : TypeId} {v : Value} {xs : List Value} {W w1 : World} {o : Obj} (hB : B ≤ W.heap.size) (hown : W.ownsRow B e 1 v n xs) (hg : (W.alloc o).grownBy w1 v.ownBlock) : Below B W w1 :=
  ((Below.refl _ _).alloc hB _).grown hg (by simp; omega) (fun k hk => (hown.lt k hk).1)
set_option maxHeartbeats 400000 in
theorem run_any (s : ByteArray) (a : Nat) (w : World) (hs : s.size ≤ 65536) (ha : a ≤ s.size) : Calls Tryz.prog 176 #[.string s, .int .i64 a] w (NewOwn (runL (s.data.toList.drop a)) w) := by
  obtain ⟨i0, hi, iz, is, ib⟩ := info_parts Tryz.boolInfo
  obtain ⟨x, hx⟩ : ∃ x, x = runL (s.data.toList.drop a) := ⟨_, rfl⟩
  have hxs : a + x.length ≤ s.size := by
    have := tw_le isD (s.data.toList.drop a)
    rw [hx, runL_length]
    rw [List.length_drop, len_toList] at this
    omega
  have RA : Hid (∀ j, a ≤ j → j - a < x.length → ∃ h : j < s.size, isD s[j] = true ∧ x[j - a]? = some (((s[j].toNat : Nat) : Int) == 49)) := Lib.hid fun j h1 h2 => by subst hx; exact run_at h1 h2
  have RE : Hid (∀ j, a ≤ j → j - a = x.length → ∀ h : j < s.size, isD s[j] = false) := Lib.hid fun j h1 h2 h3 => by subst hx; exact run_end h1 h2 h3
  rw [← hx]
  clear hx
  go_enter Tryz.func176, Tryz.ntmps176
  go_wp2
  go_loopw [1, 5] (fun i v wr => ∃ (j : Nat), a ≤ j ∧ j - a ≤ x.length ∧ i = .int .i64 j ∧ wr.ownsRow w.heap.size 4 1 v (j - a) (bls (x.take (j - a))) ∧ w.heap.size ≤ wr.heap.size ∧ Below w.heap.size w wr) (fun i _ _ => a + x.length - (intOf i).toNat)
  case atStart => exact ⟨a, Nat.le_refl _, by omega, rfl, by rw [Nat.sub_self]; exact World.ownsRow_nil _ _ _ _, Nat.le_refl _, Below.refl _ _⟩
  case round =>
    obtain ⟨j, haj, hjx, rfl, hown, hsz, hbl⟩ := hrel
    by_cases hlt : j - a < x.length
    · obtain ⟨hj, hD, hxj⟩ := RA.out j haj hlt
      have HT := Lib.hid (take_succ_of hxj)
      have hj1 : j + 1 - a = j - a + 1 := by omega
      clear hxj
      rcases isD_two hD with ⟨e1, e2⟩ | ⟨e1, e2⟩
      all_goals
        clear hD
        go_wp2_with (at_builtin; refine wpList_append_rd _ rfl _ _ 180 rfl w.heap.size 4 i0 (.bool false) 1 Tryz.underlying180 hi iz is ib rfl _ (j - a) (bls (x.take (j - a))) rfl (hown.alloc _) (wr.heap.size + 1) _ 1 1 _ rfl rfl (Rd.one_new _ _ _) (one_cell_bool _) (by unfold maxLen; omega) (by omega) (by simp; omega) ?_; intro v1 w1 hown1 hgrow1 hat1)
        have hb1 := grow_one' hsz hown hgrow1
        have hbs : bls (x.take (j + 1 - a)) = bls (x.take (j - a)) ++ [.bool (((s[j].toNat : Nat) : Int) == 49)] := by rw [hj1, HT.out]; simp [bls]
        try rw [e2] at hbs
        rw [← hbs, ← hj1] at hown1
        have hsz4 := Nat.le_trans hsz hb1.size
        go_roundw
        case rel => exact ⟨j + 1, by omega, by omega, by go_num, hown1, hsz4, hbl.trans hb1⟩
        case measure => simp [intOf]; omega
    · have hjx2 : j - a = x.length := by omega
      have hown2 := hown
      rw [hjx2, List.take_length] at hown2
      obtain ⟨V, cv, rfl⟩ := own_form hown2
      clear hown
      by_cases hj : j < s.size
      · obtain ⟨e1, e2⟩ := isD_none (RE.out j haj hjx2 hj)
        go_wp2
        go_ret
        exact ⟨V, cv, rfl, hown2, hbl⟩
      · go_wp2
        go_ret
        exact ⟨V, cv, rfl, hown2, hbl⟩
end Go.Proofs.YtoimjcfdiljkjaaGreatDoor.bw
namespace Go.Proofs.YtoimjcfdiljkjaaGreatDoor.bw
open Go.RowKit
def sa (x : List UInt8) : ByteArray := ⟨x.toArray⟩
theorem sa_list (x : List UInt8) : (sa x).data.toList = x := by simp [sa]
theorem sa_size (x : List UInt8) : (sa x).size = x.length := by rw [← len_toList, sa_list]
def CutK (s : ByteArray) (c : UInt8) (x y : List UInt8) (o : Bool) : Prop := ∀ W, Calls Tryz.prog 199 #[.string s, .string ⟨#[c]⟩] W (fun e w' => e = .returned (.tuple #[.string ⟨x.toArray⟩, .string ⟨y.toArray⟩, .bool o]) ∧ Below W.heap.size W w')
theorem isd_k (x : List UInt8) (b : Bool) (hx : x.length ≤ 66) (hb : x.all isD = b) : ∀ W, Calls Tryz.prog 200 #[.string ⟨x.toArray⟩] W (Bel (.bool b) W) := fun W => by
  have h := isdig_any (sa x) W (by rw [sa_size]; omega)
  rw [sa_list, hb] at h
  exact h
theorem read_n {P : Program} {f : FuncId} {a : List Value} {l : List Bool} {w : World} (h : Calls P f a.toArray w (NewOwn l w)) :
    Calls P f a.toArray w (fun e w' => ∃ V cv, e = .returned (.slice V l.length cv) ∧ Rd w' w'.heap.size V (bls l) ∧ l.length ≤ cv ∧ Nw w.heap.size V (bls l) ∧ Below w.heap.size w w') := by
  refine h.mono ?_
  rintro e w' ⟨V, cv, rfl, hown, hb⟩
  exact ⟨V, cv, rfl, Rd.of_own hown, own_cap hown, own_new hown, hb⟩
theorem read_k (x : List UInt8) (hx : x.length ≤ 66) : ∀ W, Calls Tryz.prog 201 #[.string ⟨x.toArray⟩] W (fun e w' => ∃ V cv, e = .returned (.slice V (lts (sa x)).length cv) ∧ Rd w' w'.heap.size V (bls (lts (sa x))) ∧ (lts (sa x)).length ≤ cv ∧ Nw W.heap.size V (bls (lts (sa x))) ∧ Below W.heap.size W w') := fun W =>
  read_n (a := [.string ⟨x.toArray⟩]) (read_any (sa x) W (by rw [sa_size]; omega))
theorem resb {w W : World} {t : TypeId} (h : Below (w.alloc (.cells #[.slice none 0 0, .slice none 0 0] t)).heap.size (w.alloc (.cells #[.slice none 0 0, .slice none 0 0] t)) W) :
    W.cell? ⟨w.heap.size, 0, none⟩ = some (.slice none 0 0) ∧ W.cell? ⟨w.heap.size, 1, none⟩ = some (.slice none 0 0) ∧ W.frozen? ⟨w.heap.size, 0, none⟩ = false ∧ W.frozen? ⟨w.heap.size, 1, none⟩ = false ∧ w.heap.size < W.heap.size := by
  obtain ⟨hc, hf, hz⟩ := bcell h
  rw [hc _ _ (by simp), hc _ _ (by simp), hf _ _ (by simp), hf _ _ (by simp)]
  simp at hz
  refine ⟨?_, ?_, ?_, ?_, by omega⟩ <;> simp [go_sem]
set_option maxHeartbeats 1000000 in
theorem parse_bad (s : ByteArray) (w : World) (x y u v : List UInt8) (o p : Bool) (hs : s.size ≤ 66) (hx : x.length ≤ 66) (hu : u.length ≤ 66) (K1 : Hid (CutK s 40 x y o)) (K2 : Hid (CutK (sa y) 41 u v p))
    (hbad : ¬ (o = true ∧ p = true ∧ v = [] ∧ x.all isD = true ∧ u.all isD = true ∧ ck (lts (sa x)) (lts (sa u)) = 0)) :
    Calls Tryz.prog 191 #[.string s] w (NewWX [] [] 5 w) := by
  obtain ⟨b, hb⟩ : ∃ b, x.all isD = b := ⟨_, rfl⟩
  obtain ⟨b', hb'⟩ : ∃ b, u.all isD = b := ⟨_, rfl⟩
  have D1 := Lib.hid (isd_k x b hx hb)
  have D2 := Lib.hid (isd_k u b' hu hb')
  rw [hb, hb'] at hbad
  have R1 := Lib.hid (read_k x hx)
  have R2 := Lib.hid (read_k u hu)
  have HL1 : (lts (sa x)).length ≤ 66 := by rw [lts_length, sa_size]; exact hx
  have HL2 : (lts (sa u)).length ≤ 66 := by rw [lts_length, sa_size]; exact hu
  generalize lts (sa x) = h at *
  generalize lts (sa u) = l at *
  clear hb hb'
  cases o
  · clear hbad hx hu
    go_enter Tryz.func191, Tryz.ntmps191
    go_wp2_with (first | (go_at_call_of 199 (Value.string s); refine (K1.out _).mono ?_; rintro e w1 ⟨rfl, hb1⟩) | (go_at_call 199; refine (K2.out _).mono ?_; rintro e w2 ⟨rfl, hb2⟩; obtain ⟨qa2, qb2, qc2, qd2, qe2⟩ := resb (w := w) (W := w2) (t := 182) bl))
    obtain ⟨k0, k1⟩ := set2_cells qa2 qb2 (.slice none 0 0) (.slice none 0 0)
    refine bodyPost_ret (v := .tuple #[.agg #[.slice none 0 0, .slice none 0 0], .int .i64 5]) (by simp [results, Tryz.results191, go_sem, k0, k1]) rfl ?_
    exact ⟨none, none, 0, 0, rfl, Rd.nil _ _ _, Rd.nil _ _ _, Nat.zero_le _, Nat.zero_le _, bel_set2 bl (Nat.le_refl _) _ _, Nw.nil _ _, Nw.nil _ _⟩
  · cases p
    · clear hbad hx hu
      go_enter Tryz.func191, Tryz.ntmps191
      go_wp2_with (first | (go_at_call_of 199 (Value.string s); refine (K1.out _).mono ?_; rintro e w1 ⟨rfl, hb1⟩) | (go_at_call 199; refine (K2.out _).mono ?_; rintro e w2 ⟨rfl, hb2⟩; obtain ⟨qa2, qb2, qc2, qd2, qe2⟩ := resb (w := w) (W := w2) (t := 182) bl))
      obtain ⟨k0, k1⟩ := set2_cells qa2 qb2 (.slice none 0 0) (.slice none 0 0)
      refine bodyPost_ret (v := .tuple #[.agg #[.slice none 0 0, .slice none 0 0], .int .i64 5]) (by simp [results, Tryz.results191, go_sem, k0, k1]) rfl ?_
      exact ⟨none, none, 0, 0, rfl, Rd.nil _ _ _, Rd.nil _ _ _, Nat.zero_le _, Nat.zero_le _, bel_set2 bl (Nat.le_refl _) _ _, Nw.nil _ _, Nw.nil _ _⟩
    · by_cases hv : v = []
      · subst hv
        cases b
        · clear hbad hx hu
          go_enter Tryz.func191, Tryz.ntmps191
          go_wp2_with (first | (go_at_call_of 199 (Value.string s); refine (K1.out _).mono ?_; rintro e w1 ⟨rfl, hb1⟩) | (go_at_call 199; refine (K2.out _).mono ?_; rintro e w2 ⟨rfl, hb2⟩) | (go_at_call_of 200 (Value.string ⟨x.toArray⟩); refine (D1.out _).mono ?_; rintro e w3 ⟨rfl, hb3⟩; obtain ⟨qa3, qb3, qc3, qd3, qe3⟩ := resb (w := w) (W := w3) (t := 182) bl))
          obtain ⟨k0, k1⟩ := set2_cells qa3 qb3 (.slice none 0 0) (.slice none 0 0)
          refine bodyPost_ret (v := .tuple #[.agg #[.slice none 0 0, .slice none 0 0], .int .i64 5]) (by simp [results, Tryz.results191, go_sem, k0, k1]) rfl ?_
          exact ⟨none, none, 0, 0, rfl, Rd.nil _ _ _, Rd.nil _ _ _, Nat.zero_le _, Nat.zero_le _, bel_set2 bl (Nat.le_refl _) _ _, Nw.nil _ _, Nw.nil _ _⟩
        · cases b'
          · clear hbad hx hu
            go_enter Tryz.func191, Tryz.ntmps191
            go_wp2_with (first | (go_at_call_of 199 (Value.string s); refine (K1.out _).mono ?_; rintro e w1 ⟨rfl, hb1⟩) | (go_at_call 199; refine (K2.out _).mono ?_; rintro e w2 ⟨rfl, hb2⟩) | (go_at_call_of 200 (Value.string ⟨x.toArray⟩); refine (D1.out _).mono ?_; rintro e w3 ⟨rfl, hb3⟩) | (go_at_call 200; refine (D2.out _).mono ?_; rintro e w4 ⟨rfl, hb4⟩; obtain ⟨qa4, qb4, qc4, qd4, qe4⟩ := resb (w := w) (W := w4) (t := 182) bl))
            obtain ⟨k0, k1⟩ := set2_cells qa4 qb4 (.slice none 0 0) (.slice none 0 0)
            refine bodyPost_ret (v := .tuple #[.agg #[.slice none 0 0, .slice none 0 0], .int .i64 5]) (by simp [results, Tryz.results191, go_sem, k0, k1]) rfl ?_
            exact ⟨none, none, 0, 0, rfl, Rd.nil _ _ _, Rd.nil _ _ _, Nat.zero_le _, Nat.zero_le _, bel_set2 bl (Nat.le_refl _) _ _, Nw.nil _ _, Nw.nil _ _⟩
          · have hck : ¬ ck h l = 0 := fun e => hbad ⟨rfl, rfl, rfl, rfl, rfl, e⟩
            have hd1 := ck_bad hck
            clear hbad hx hu hck
            go_enter Tryz.func191, Tryz.ntmps191
            go_wp2_with (first | (go_at_call_of 199 (Value.string s); refine (K1.out _).mono ?_; rintro e w1 ⟨rfl, hb1⟩) | (go_at_call 199; refine (K2.out _).mono ?_; rintro e w2 ⟨rfl, hb2⟩) | (go_at_call_of 200 (Value.string ⟨x.toArray⟩); refine (D1.out _).mono ?_; rintro e w3 ⟨rfl, hb3⟩) | (go_at_call 200; refine (D2.out _).mono ?_; rintro e w4 ⟨rfl, hb4⟩) | (go_at_call_of 201 (Value.string ⟨x.toArray⟩); refine (R1.out _).mono ?_; rintro e w5 ⟨V1, c1, rfl, hR1, hc1, hN1, hb5⟩; have HR1 := Lib.hid hR1; have HN1 := Lib.hid hN1; clear hR1 hN1) | (go_at_call 201; refine (R2.out _).mono ?_; rintro e w6 ⟨V2, c2, rfl, hR2, hc2, hN2, hb6⟩; have HR2 := Lib.hid hR2; have HN2 := Lib.hid hN2; clear hR2 hN2) | (go_at_call 202; refine (check_any _ _ _ _ h l _ (by omega) (by omega)).mono ?_; rintro e w7 ⟨rfl, hb7⟩; obtain ⟨qa7, qb7, qc7, qd7, qe7⟩ := resb (w := w) (W := w7) (t := 182) bl))
            obtain ⟨k0, k1⟩ := set2_cells qa7 qb7 (.slice none 0 0) (.slice none 0 0)
            refine bodyPost_ret (v := .tuple #[.agg #[.slice none 0 0, .slice none 0 0], .int .i64 5]) (by simp [results, Tryz.results191, go_sem, k0, k1]) rfl ?_
            exact ⟨none, none, 0, 0, rfl, Rd.nil _ _ _, Rd.nil _ _ _, Nat.zero_le _, Nat.zero_le _, bel_set2 bl (Nat.le_refl _) _ _, Nw.nil _ _, Nw.nil _ _⟩
      · have v1 : v.isEmpty = false := by rcases v with _ | ⟨a, r⟩ <;> simp at hv ⊢
        have v2 : (v == []) = false := by rcases v with _ | ⟨a, r⟩ <;> simp at hv ⊢
        clear hbad hx hu hv
        go_enter Tryz.func191, Tryz.ntmps191
        go_wp2_with (first | (go_at_call_of 199 (Value.string s); refine (K1.out _).mono ?_; rintro e w1 ⟨rfl, hb1⟩) | (go_at_call 199; refine (K2.out _).mono ?_; rintro e w2 ⟨rfl, hb2⟩; obtain ⟨qa2, qb2, qc2, qd2, qe2⟩ := resb (w := w) (W := w2) (t := 182) bl))
        obtain ⟨k0, k1⟩ := set2_cells qa2 qb2 (.slice none 0 0) (.slice none 0 0)
        refine bodyPost_ret (v := .tuple #[.agg #[.slice none 0 0, .slice none 0 0], .int .i64 5]) (by simp [results, Tryz.results191, go_sem, k0, k1]) rfl ?_
        exact ⟨none, none, 0, 0, rfl, Rd.nil _ _ _, Rd.nil _ _ _, Nat.zero_le _, Nat.zero_le _, bel_set2 bl (Nat.le_refl _) _ _, Nw.nil _ _, Nw.nil _ _⟩
set_option maxHeartbeats 1000000 in
theorem parse_good (s : ByteArray) (w : World) (x y u : List UInt8) (hs : s.size ≤ 66) (hx : x.length ≤ 66) (hu : u.length ≤ 66) (K1 : Hid (CutK s 40 x y true)) (K2 : Hid (CutK (sa y) 41 u [] true))
    (hb : x.all isD = true) (hb' : u.all isD = true) (hck : ck (lts (sa x)) (lts (sa u)) = 0) :
    Calls Tryz.prog 191 #[.string s] w (NewWX (lts (sa x)) (lts (sa u)) 0 w) := by
  have D1 := Lib.hid (isd_k x true hx hb)
  have D2 := Lib.hid (isd_k u true hu hb')
  have R1 := Lib.hid (read_k x hx)
  have R2 := Lib.hid (read_k u hu)
  have HL1 : (lts (sa x)).length ≤ 66 := by rw [lts_length, sa_size]; exact hx
  have HL2 : (lts (sa u)).length ≤ 66 := by rw [lts_length, sa_size]; exact hu
  generalize lts (sa x) = h at *
  generalize lts (sa u) = l at *
  have hd1 : (ck h l != 0) = false := by simp [hck]
  clear hb hb' hx hu hck
  go_enter Tryz.func191, Tryz.ntmps191
  go_wp2_with (first | (go_at_call_of 199 (Value.string s); refine (K1.out _).mono ?_; rintro e w1 ⟨rfl, hb1⟩) | (go_at_call 199; refine (K2.out _).mono ?_; rintro e w2 ⟨rfl, hb2⟩) | (go_at_call_of 200 (Value.string ⟨x.toArray⟩); refine (D1.out _).mono ?_; rintro e w3 ⟨rfl, hb3⟩) | (go_at_call 200; refine (D2.out _).mono ?_; rintro e w4 ⟨rfl, hb4⟩) | (go_at_call_of 201 (Value.string ⟨x.toArray⟩); refine (R1.out _).mono ?_; rintro e w5 ⟨V1, c1, rfl, hR1, hc1, hN1, hb5⟩; have HR1 := Lib.hid hR1; have HN1 := Lib.hid hN1; clear hR1 hN1) | (go_at_call 201; refine (R2.out _).mono ?_; rintro e w6 ⟨V2, c2, rfl, hR2, hc2, hN2, hb6⟩; have HR2 := Lib.hid hR2; have HN2 := Lib.hid hN2; clear hR2 hN2) | (go_at_call 202; refine (check_any _ _ _ _ h l _ (by omega) (by omega)).mono ?_; rintro e w7 ⟨rfl, hb7⟩; obtain ⟨qa7, qb7, qc7, qd7, qe7⟩ := resb (w := w) (W := w7) (t := 182) bl; obtain ⟨b0, b1⟩ := box2 (w := w6) (x := .slice V1 h.length c1) (y := .slice V2 l.length c2) (t := 182) (W := w7) bl))
  obtain ⟨k0, k1⟩ := set2_cells qa7 qb7 (.slice V1 h.length c1) (.slice V2 l.length c2)
  refine bodyPost_ret (v := .tuple #[.agg #[.slice V1 h.length c1, .slice V2 l.length c2], .int .i64 0]) (by simp [results, Tryz.results191, go_sem, k0, k1]) rfl ?_
  have z1 := hb5.size
  have z2 : w.heap.size < w4.heap.size := by
    have := Below.size (B := (w.alloc (.cells #[.slice none 0 0, .slice none 0 0] 182)).heap.size) (w := (w.alloc (.cells #[.slice none 0 0, .slice none 0 0] 182))) (w' := w4) bl
    simp at this
    omega
  exact ⟨V1, V2, c1, c2, rfl, (HR1.out.to bl).set2_lo (HN1.out.mono (Nat.succ_le_of_lt z2)) (Nat.lt_succ_self _) _ _, (HR2.out.to bl).set2_lo (HN2.out.mono (Nat.succ_le_of_lt (Nat.lt_of_lt_of_le z2 z1))) (Nat.lt_succ_self _) _ _, hc1, hc2, bel_set2 bl (Nat.le_refl _) _ _, HN1.out.mono (Nat.le_of_lt z2), HN2.out.mono (Nat.le_of_lt (Nat.lt_of_lt_of_le z2 z1))⟩
end Go.Proofs.YtoimjcfdiljkjaaGreatDoor.bw
namespace Go.Proofs.YtoimjcfdiljkjaaGreatDoor.bw
open Go.RowKit
abbrev RunK (s : ByteArray) (i : Int) (l : List Bool) : Prop := ∀ W, Calls Tryz.prog 176 #[.string s, .int .i64 i] W (fun e w' => ∃ V cv, e = .returned (.slice V l.length cv) ∧ Rd w' w'.heap.size V (bls l) ∧ l.length ≤ cv ∧ Nw W.heap.size V (bls l) ∧ Below W.heap.size W w')
theorem run_k (s : ByteArray) (a : Nat) (l : List Bool) (hs : s.size ≤ 66) (ha : a ≤ s.size) (hl : runL (s.data.toList.drop a) = l) : RunK s a l := fun W => by
  subst hl
  exact read_n (a := [.string s, .int .i64 a]) (run_any s a W (by omega) ha)
theorem box2fr {w W : World} {x y : Value} {t : TypeId} (hb : Below (w.alloc (.cells #[x, y] t)).heap.size (w.alloc (.cells #[x, y] t)) W) : W.frozen? ⟨w.heap.size, 0, none⟩ = false ∧ W.frozen? ⟨w.heap.size, 1, none⟩ = false := by
  obtain ⟨hc, hf, hz⟩ := bcell hb
  rw [hf _ _ (by simp), hf _ _ (by simp)]
  constructor <;> simp [go_sem]
theorem wbox {w1 w2 w3 : World} {x y z : Value} {t : TypeId} (h : Below (w1.alloc (.cells #[x, y] t)).heap.size (w1.alloc (.cells #[x, y] t)) w2) (h3 : Below (w2.setCell ⟨w1.heap.size, 1, none⟩ z).heap.size (w2.setCell ⟨w1.heap.size, 1, none⟩ z) w3) :
    w3.cell? ⟨w1.heap.size, 0, none⟩ = some x ∧ w3.cell? ⟨w1.heap.size, 1, none⟩ = some z ∧ Below w1.heap.size w1 w3 := by
  obtain ⟨b0, b1⟩ := box2 h
  have hz := h.size
  simp at hz
  have hs : (w2.setCell ⟨w1.heap.size, 1, none⟩ z).heap.size = w2.heap.size := by simp [World.setCell]
  refine ⟨(h3.cell (p := ⟨w1.heap.size, 0, none⟩) (by simp [hs]; omega)).trans ?_, (h3.cell (p := ⟨w1.heap.size, 1, none⟩) (by simp [hs]; omega)).trans (World.cell?_setCell_same _ _ _ b1), ?_⟩
  · rw [World.cell?_setCell_other _ _ _ _ (by simp)]; exact b0
  · refine bel_step ?_ h3
    exact (bel_step (bel_box _) h).setCell (p := ⟨w1.heap.size, 1, none⟩) (Nat.le_refl _) _
theorem res_keep {g : Nat} {w1 w3 : World} (hb : Below w1.heap.size w1 w3) (hg : g < w1.heap.size) (i : Nat) : w3.cell? ⟨g, i, none⟩ = w1.cell? ⟨g, i, none⟩ ∧ w3.frozen? ⟨g, i, none⟩ = w1.frozen? ⟨g, i, none⟩ := by
  obtain ⟨hc, hf, hz⟩ := bcell hb
  exact ⟨hc _ _ hg, hf _ _ hg⟩
set_option maxHeartbeats 1000000 in
theorem rparse_good (s : ByteArray) (w : World) (h l : List Bool) (hs : s.size ≤ 66) (h1 : h.length < s.size) (hm : h.length + 1 + l.length + 1 = s.size)
    (K1 : Hid (RunK s 0 h)) (K2 : Hid (RunK s ((h.length : Int) + 1) l)) (e1 : (((s[h.length].toNat : Nat) : Int) != 40) = false) (e2 : (((s[s.size - 1].toNat : Nat) : Int) != 41) = false) (hck : ck h l = 0) :
    Calls Tryz.prog 144 #[.string s] w (NewWX h l 0 w) := by
  have hd1 : (ck h l != 0) = false := by simp [hck]
  have k1 := Lib.hid fun A B c d => (rcheck_any A B c d h l)
  have m1 : ((h.length : Int) + 1 + (l.length : Int) != (s.size : Int) - 1) = false := by simp; omega
  have m2 : (h.length : Int) + 1 + (l.length : Int) = (s.size : Int) - 1 := by omega
  have m3 : (1 : Int) ≤ (s.size : Int) := by omega
  clear hck
  go_enter Tryz.func144, Tryz.ntmps144
  go_wp2_with (first
    | (go_at_call 176; (with_reducible refine (K1.out _).mono ?_); rintro e w1 ⟨V1, c1, rfl, hR1, hc1, hN1, hb1⟩; have HR1 := Lib.hid hR1; have HN1 := Lib.hid hN1; clear hR1 hN1; obtain ⟨qa1, qb1, qc1, qd1, qe1⟩ := resb (w := w) (W := w1) (t := 182) bl)
    | (go_at_call 176; (with_reducible refine (K2.out _).mono ?_); rintro e w2 ⟨V2, c2, rfl, hR2, hc2, hN2, hb2⟩; have HR2 := Lib.hid hR2; have HN2 := Lib.hid hN2; clear hR2 hN2; obtain ⟨ra2, rb2⟩ := box2 (w := w1) (W := w2) (x := .slice V1 h.length c1) (y := .slice none 0 0) (t := 182) bl; obtain ⟨rc2, rd2⟩ := box2fr (w := w1) (W := w2) (x := .slice V1 h.length c1) (y := .slice none 0 0) (t := 182) bl; obtain ⟨qa2, qb2, qc2, qd2, qe2⟩ := resb (w := w) (W := w2) (t := 182) bl; have qz2 : w1.heap.size < w2.heap.size := (by have := hb2.size; simp at this; omega); have qn1 : ¬ w1.heap.size = w.heap.size := (by omega); have qn2 : ¬ w.heap.size = w1.heap.size := (by omega))
    | (go_at_call 177; refine (k1.out _ _ _ _ _ (by omega) (by omega)).mono ?_; rintro e w3 ⟨rfl, hb3⟩; obtain ⟨sa3, sb3, hB3⟩ := wbox (w1 := w1) (w2 := w2) (w3 := w3) (x := .slice V1 h.length c1) (y := .slice none 0 0) (z := .slice V2 l.length c2) (t := 182) hb2 hb3; have HB3 := Lib.hid hB3; clear hB3; have qa3 := (res_keep HB3.out qe1 0).1.trans qa1; have qb3 := (res_keep HB3.out qe1 1).1.trans qb1; have qc3 := (res_keep HB3.out qe1 0).2.trans qc1; have qd3 := (res_keep HB3.out qe1 1).2.trans qd1))
  obtain ⟨k0, k1⟩ := set2_cells qa3 qb3 (.slice V1 h.length c1) (.slice V2 l.length c2)
  refine bodyPost_ret (v := .tuple #[.agg #[.slice V1 h.length c1, .slice V2 l.length c2], .int .i64 0]) (by simp [results, Tryz.results144, go_sem, k0, k1]) rfl ?_
  have hB := HB3.out
  have hw3 : Below w.heap.size w w3 := bl
  have R2 := HR2.out.set_low HN2.out (p := ⟨w1.heap.size, 1, none⟩) (by simp) (.slice V2 l.length c2)
  rw [show w2.heap.size = (w2.setCell ⟨w1.heap.size, 1, none⟩ (.slice V2 l.length c2)).heap.size by simp [World.setCell]] at R2
  exact ⟨V1, V2, c1, c2, rfl, (HR1.out.to hB).set2_lo HN1.out (by simp) _ _, (R2.to hb3).set2_lo HN2.out (by simp; omega) _ _, hc1, hc2, bel_set2 hw3 (Nat.le_refl _) _ _, HN1.out.mono (by simp), HN2.out.mono (by simp; omega)⟩
set_option maxHeartbeats 1000000 in
theorem rparse_a (s : ByteArray) (w : World) (h l : List Bool) (hs : s.size ≤ 66) (hsz : s.size ≤ h.length) (hh : h.length ≤ 66) (K1 : Hid (RunK s 0 h)) :
    Calls Tryz.prog 144 #[.string s] w (NewWX [] [] 5 w) := by
  have k1 := Lib.hid fun A B c d => (rcheck_any A B c d h l)
  go_enter Tryz.func144, Tryz.ntmps144
  go_wp2_with (first
    | (go_at_call 176; (with_reducible refine (K1.out _).mono ?_); rintro e w1 ⟨V1, c1, rfl, hR1, hc1, hN1, hb1⟩; have HR1 := Lib.hid hR1; have HN1 := Lib.hid hN1; clear hR1 hN1; obtain ⟨qa1, qb1, qc1, qd1, qe1⟩ := resb (w := w) (W := w1) (t := 182) bl)
    | (go_at_call 176; (with_reducible refine (K2.out _).mono ?_); rintro e w2 ⟨V2, c2, rfl, hR2, hc2, hN2, hb2⟩; have HR2 := Lib.hid hR2; have HN2 := Lib.hid hN2; clear hR2 hN2; obtain ⟨ra2, rb2⟩ := box2 (w := w1) (W := w2) (x := .slice V1 h.length c1) (y := .slice none 0 0) (t := 182) bl; obtain ⟨rc2, rd2⟩ := box2fr (w := w1) (W := w2) (x := .slice V1 h.length c1) (y := .slice none 0 0) (t := 182) bl; obtain ⟨qa2, qb2, qc2, qd2, qe2⟩ := resb (w := w) (W := w2) (t := 182) bl; have qz2 : w1.heap.size < w2.heap.size := (by have := hb2.size; simp at this; omega); have qn1 : ¬ w1.heap.size = w.heap.size := (by omega); have qn2 : ¬ w.heap.size = w1.heap.size := (by omega))
    | (go_at_call 177; refine (k1.out _ _ _ _ _ (by omega) (by omega)).mono ?_; rintro e w3 ⟨rfl, hb3⟩; obtain ⟨sa3, sb3, hB3⟩ := wbox (w1 := w1) (w2 := w2) (w3 := w3) (x := .slice V1 h.length c1) (y := .slice none 0 0) (z := .slice V2 l.length c2) (t := 182) hb2 hb3; have HB3 := Lib.hid hB3; clear hB3; have qa3 := (res_keep HB3.out qe1 0).1.trans qa1; have qb3 := (res_keep HB3.out qe1 1).1.trans qb1; have qc3 := (res_keep HB3.out qe1 0).2.trans qc1; have qd3 := (res_keep HB3.out qe1 1).2.trans qd1))
  have hw3 : Below w.heap.size w w1 := bl
  have hw4 := bel_set2 hw3 (Nat.le_refl _) (.slice none 0 0) (.slice none 0 0)
  obtain ⟨k0, k1⟩ := set2_cells qa1 qb1 (.slice none 0 0) (.slice none 0 0)
  have z : w.heap.size < ((w1.setCell ⟨w.heap.size, 0, none⟩ (.slice none 0 0)).setCell ⟨w.heap.size, 1, none⟩ (.slice none 0 0)).heap.size := by simpa [World.setCell] using qe1
  have z0 := (((bcell (bel_box (w := ((w1.setCell ⟨w.heap.size, 0, none⟩ (.slice none 0 0)).setCell ⟨w.heap.size, 1, none⟩ (.slice none 0 0))) (.cells #[.slice V1 h.length c1, .slice none 0 0] 182))).1 _ 0 z).trans k0)
  have z1 := (((bcell (bel_box (w := ((w1.setCell ⟨w.heap.size, 0, none⟩ (.slice none 0 0)).setCell ⟨w.heap.size, 1, none⟩ (.slice none 0 0))) (.cells #[.slice V1 h.length c1, .slice none 0 0] 182))).1 _ 1 z).trans k1)
  refine bodyPost_ret (v := .tuple #[.agg #[.slice none 0 0, .slice none 0 0], .int .i64 5]) (by simp [results, Tryz.results144, go_sem, z0, z1]) rfl ?_
  exact ⟨none, none, 0, 0, rfl, Rd.nil _ _ _, Rd.nil _ _ _, Nat.zero_le _, Nat.zero_le _, hw4.alloc (Nat.le_of_lt z) _, Nw.nil _ _, Nw.nil _ _⟩
set_option maxHeartbeats 1000000 in
theorem rparse_b (s : ByteArray) (w : World) (h l : List Bool) (hs : s.size ≤ 66) (h1 : h.length < s.size) (K1 : Hid (RunK s 0 h)) (K2 : Hid (RunK s ((h.length : Int) + 1) l)) (e1 : (((s[h.length].toNat : Nat) : Int) != 40) = true) :
    Calls Tryz.prog 144 #[.string s] w (NewWX [] [] 5 w) := by
  have k1 := Lib.hid fun A B c d => (rcheck_any A B c d h l)
  go_enter Tryz.func144, Tryz.ntmps144
  go_wp2_with (first
    | (go_at_call 176; (with_reducible refine (K1.out _).mono ?_); rintro e w1 ⟨V1, c1, rfl, hR1, hc1, hN1, hb1⟩; have HR1 := Lib.hid hR1; have HN1 := Lib.hid hN1; clear hR1 hN1; obtain ⟨qa1, qb1, qc1, qd1, qe1⟩ := resb (w := w) (W := w1) (t := 182) bl)
    | (go_at_call 176; (with_reducible refine (K2.out _).mono ?_); rintro e w2 ⟨V2, c2, rfl, hR2, hc2, hN2, hb2⟩; have HR2 := Lib.hid hR2; have HN2 := Lib.hid hN2; clear hR2 hN2; obtain ⟨ra2, rb2⟩ := box2 (w := w1) (W := w2) (x := .slice V1 h.length c1) (y := .slice none 0 0) (t := 182) bl; obtain ⟨rc2, rd2⟩ := box2fr (w := w1) (W := w2) (x := .slice V1 h.length c1) (y := .slice none 0 0) (t := 182) bl; obtain ⟨qa2, qb2, qc2, qd2, qe2⟩ := resb (w := w) (W := w2) (t := 182) bl; have qz2 : w1.heap.size < w2.heap.size := (by have := hb2.size; simp at this; omega); have qn1 : ¬ w1.heap.size = w.heap.size := (by omega); have qn2 : ¬ w.heap.size = w1.heap.size := (by omega))
    | (go_at_call 177; refine (k1.out _ _ _ _ _ (by omega) (by omega)).mono ?_; rintro e w3 ⟨rfl, hb3⟩; obtain ⟨sa3, sb3, hB3⟩ := wbox (w1 := w1) (w2 := w2) (w3 := w3) (x := .slice V1 h.length c1) (y := .slice none 0 0) (z := .slice V2 l.length c2) (t := 182) hb2 hb3; have HB3 := Lib.hid hB3; clear hB3; have qa3 := (res_keep HB3.out qe1 0).1.trans qa1; have qb3 := (res_keep HB3.out qe1 1).1.trans qb1; have qc3 := (res_keep HB3.out qe1 0).2.trans qc1; have qd3 := (res_keep HB3.out qe1 1).2.trans qd1))
  have hw3 : Below w.heap.size w w1 := bl
  have hw4 := bel_set2 hw3 (Nat.le_refl _) (.slice none 0 0) (.slice none 0 0)
  obtain ⟨k0, k1⟩ := set2_cells qa1 qb1 (.slice none 0 0) (.slice none 0 0)
  have z : w.heap.size < ((w1.setCell ⟨w.heap.size, 0, none⟩ (.slice none 0 0)).setCell ⟨w.heap.size, 1, none⟩ (.slice none 0 0)).heap.size := by simpa [World.setCell] using qe1
  have z0 := (((bcell (bel_box (w := ((w1.setCell ⟨w.heap.size, 0, none⟩ (.slice none 0 0)).setCell ⟨w.heap.size, 1, none⟩ (.slice none 0 0))) (.cells #[.slice V1 h.length c1, .slice none 0 0] 182))).1 _ 0 z).trans k0)
  have z1 := (((bcell (bel_box (w := ((w1.setCell ⟨w.heap.size, 0, none⟩ (.slice none 0 0)).setCell ⟨w.heap.size, 1, none⟩ (.slice none 0 0))) (.cells #[.slice V1 h.length c1, .slice none 0 0] 182))).1 _ 1 z).trans k1)
  refine bodyPost_ret (v := .tuple #[.agg #[.slice none 0 0, .slice none 0 0], .int .i64 5]) (by simp [results, Tryz.results144, go_sem, z0, z1]) rfl ?_
  exact ⟨none, none, 0, 0, rfl, Rd.nil _ _ _, Rd.nil _ _ _, Nat.zero_le _, Nat.zero_le _, hw4.alloc (Nat.le_of_lt z) _, Nw.nil _ _, Nw.nil _ _⟩
set_option maxHeartbeats 1000000 in
theorem rparse_c (s : ByteArray) (w : World) (h l : List Bool) (hs : s.size ≤ 66) (h1 : h.length < s.size) (hl : l.length ≤ 66) (hm : h.length + 1 + l.length + 1 ≠ s.size) (K1 : Hid (RunK s 0 h)) (K2 : Hid (RunK s ((h.length : Int) + 1) l)) (e1 : (((s[h.length].toNat : Nat) : Int) != 40) = false) :
    Calls Tryz.prog 144 #[.string s] w (NewWX [] [] 5 w) := by
  have k1 := Lib.hid fun A B c d => (rcheck_any A B c d h l)
  have m1 : ((h.length : Int) + 1 + (l.length : Int) != (s.size : Int) - 1) = true := by simp; omega
  go_enter Tryz.func144, Tryz.ntmps144
  go_wp2_with (first
    | (go_at_call 176; (with_reducible refine (K1.out _).mono ?_); rintro e w1 ⟨V1, c1, rfl, hR1, hc1, hN1, hb1⟩; have HR1 := Lib.hid hR1; have HN1 := Lib.hid hN1; clear hR1 hN1; obtain ⟨qa1, qb1, qc1, qd1, qe1⟩ := resb (w := w) (W := w1) (t := 182) bl)
    | (go_at_call 176; (with_reducible refine (K2.out _).mono ?_); rintro e w2 ⟨V2, c2, rfl, hR2, hc2, hN2, hb2⟩; have HR2 := Lib.hid hR2; have HN2 := Lib.hid hN2; clear hR2 hN2; obtain ⟨ra2, rb2⟩ := box2 (w := w1) (W := w2) (x := .slice V1 h.length c1) (y := .slice none 0 0) (t := 182) bl; obtain ⟨rc2, rd2⟩ := box2fr (w := w1) (W := w2) (x := .slice V1 h.length c1) (y := .slice none 0 0) (t := 182) bl; obtain ⟨qa2, qb2, qc2, qd2, qe2⟩ := resb (w := w) (W := w2) (t := 182) bl; have qz2 : w1.heap.size < w2.heap.size := (by have := hb2.size; simp at this; omega); have qn1 : ¬ w1.heap.size = w.heap.size := (by omega); have qn2 : ¬ w.heap.size = w1.heap.size := (by omega))
    | (go_at_call 177; refine (k1.out _ _ _ _ _ (by omega) (by omega)).mono ?_; rintro e w3 ⟨rfl, hb3⟩; obtain ⟨sa3, sb3, hB3⟩ := wbox (w1 := w1) (w2 := w2) (w3 := w3) (x := .slice V1 h.length c1) (y := .slice none 0 0) (z := .slice V2 l.length c2) (t := 182) hb2 hb3; have HB3 := Lib.hid hB3; clear hB3; have qa3 := (res_keep HB3.out qe1 0).1.trans qa1; have qb3 := (res_keep HB3.out qe1 1).1.trans qb1; have qc3 := (res_keep HB3.out qe1 0).2.trans qc1; have qd3 := (res_keep HB3.out qe1 1).2.trans qd1))
  have hB : Below w1.heap.size w1 (w2.setCell ⟨w1.heap.size, 1, none⟩ (.slice V2 l.length c2)) := (bel_step (bel_box _) hb2).setCell (p := ⟨w1.heap.size, 1, none⟩) (Nat.le_refl _) _
  have hw3 : Below w.heap.size w (w2.setCell ⟨w1.heap.size, 1, none⟩ (.slice V2 l.length c2)) := bl
  have za := (res_keep hB qe1 0).1.trans qa1
  have zb := (res_keep hB qe1 1).1.trans qb1
  obtain ⟨k0, k1⟩ := set2_cells za zb (.slice none 0 0) (.slice none 0 0)
  refine bodyPost_ret (v := .tuple #[.agg #[.slice none 0 0, .slice none 0 0], .int .i64 5]) (by simp [results, Tryz.results144, go_sem, k0, k1]) rfl ?_
  exact ⟨none, none, 0, 0, rfl, Rd.nil _ _ _, Rd.nil _ _ _, Nat.zero_le _, Nat.zero_le _, bel_set2 hw3 (Nat.le_refl _) _ _, Nw.nil _ _, Nw.nil _ _⟩
set_option maxHeartbeats 1000000 in
theorem rparse_d (s : ByteArray) (w : World) (h l : List Bool) (hs : s.size ≤ 66) (h1 : h.length < s.size) (hm : h.length + 1 + l.length + 1 = s.size) (K1 : Hid (RunK s 0 h)) (K2 : Hid (RunK s ((h.length : Int) + 1) l)) (e1 : (((s[h.length].toNat : Nat) : Int) != 40) = false) (e2 : (((s[s.size - 1].toNat : Nat) : Int) != 41) = true) :
    Calls Tryz.prog 144 #[.string s] w (NewWX [] [] 5 w) := by
  have k1 := Lib.hid fun A B c d => (rcheck_any A B c d h l)
  have m1 : ((h.length : Int) + 1 + (l.length : Int) != (s.size : Int) - 1) = false := by simp; omega
  have m2 : (h.length : Int) + 1 + (l.length : Int) = (s.size : Int) - 1 := by omega
  have m3 : (1 : Int) ≤ (s.size : Int) := by omega
  go_enter Tryz.func144, Tryz.ntmps144
  go_wp2_with (first
    | (go_at_call 176; (with_reducible refine (K1.out _).mono ?_); rintro e w1 ⟨V1, c1, rfl, hR1, hc1, hN1, hb1⟩; have HR1 := Lib.hid hR1; have HN1 := Lib.hid hN1; clear hR1 hN1; obtain ⟨qa1, qb1, qc1, qd1, qe1⟩ := resb (w := w) (W := w1) (t := 182) bl)
    | (go_at_call 176; (with_reducible refine (K2.out _).mono ?_); rintro e w2 ⟨V2, c2, rfl, hR2, hc2, hN2, hb2⟩; have HR2 := Lib.hid hR2; have HN2 := Lib.hid hN2; clear hR2 hN2; obtain ⟨ra2, rb2⟩ := box2 (w := w1) (W := w2) (x := .slice V1 h.length c1) (y := .slice none 0 0) (t := 182) bl; obtain ⟨rc2, rd2⟩ := box2fr (w := w1) (W := w2) (x := .slice V1 h.length c1) (y := .slice none 0 0) (t := 182) bl; obtain ⟨qa2, qb2, qc2, qd2, qe2⟩ := resb (w := w) (W := w2) (t := 182) bl; have qz2 : w1.heap.size < w2.heap.size := (by have := hb2.size; simp at this; omega); have qn1 : ¬ w1.heap.size = w.heap.size := (by omega); have qn2 : ¬ w.heap.size = w1.heap.size := (by omega))
    | (go_at_call 177; refine (k1.out _ _ _ _ _ (by omega) (by omega)).mono ?_; rintro e w3 ⟨rfl, hb3⟩; obtain ⟨sa3, sb3, hB3⟩ := wbox (w1 := w1) (w2 := w2) (w3 := w3) (x := .slice V1 h.length c1) (y := .slice none 0 0) (z := .slice V2 l.length c2) (t := 182) hb2 hb3; have HB3 := Lib.hid hB3; clear hB3; have qa3 := (res_keep HB3.out qe1 0).1.trans qa1; have qb3 := (res_keep HB3.out qe1 1).1.trans qb1; have qc3 := (res_keep HB3.out qe1 0).2.trans qc1; have qd3 := (res_keep HB3.out qe1 1).2.trans qd1))
  have hB : Below w1.heap.size w1 (w2.setCell ⟨w1.heap.size, 1, none⟩ (.slice V2 l.length c2)) := (bel_step (bel_box _) hb2).setCell (p := ⟨w1.heap.size, 1, none⟩) (Nat.le_refl _) _
  have hw3 : Below w.heap.size w (w2.setCell ⟨w1.heap.size, 1, none⟩ (.slice V2 l.length c2)) := bl
  have za := (res_keep hB qe1 0).1.trans qa1
  have zb := (res_keep hB qe1 1).1.trans qb1
  obtain ⟨k0, k1⟩ := set2_cells za zb (.slice none 0 0) (.slice none 0 0)
  refine bodyPost_ret (v := .tuple #[.agg #[.slice none 0 0, .slice none 0 0], .int .i64 5]) (by simp [results, Tryz.results144, go_sem, k0, k1]) rfl ?_
  exact ⟨none, none, 0, 0, rfl, Rd.nil _ _ _, Rd.nil _ _ _, Nat.zero_le _, Nat.zero_le _, bel_set2 hw3 (Nat.le_refl _) _ _, Nw.nil _ _, Nw.nil _ _⟩
set_option maxHeartbeats 1000000 in
theorem rparse_e (s : ByteArray) (w : World) (h l : List Bool) (hs : s.size ≤ 66) (h1 : h.length < s.size) (hm : h.length + 1 + l.length + 1 = s.size) (K1 : Hid (RunK s 0 h)) (K2 : Hid (RunK s ((h.length : Int) + 1) l)) (e1 : (((s[h.length].toNat : Nat) : Int) != 40) = false) (e2 : (((s[s.size - 1].toNat : Nat) : Int) != 41) = false) (hck : ¬ ck h l = 0) :
    Calls Tryz.prog 144 #[.string s] w (NewWX [] [] 5 w) := by
  have hd1 := ck_bad hck
  have k1 := Lib.hid fun A B c d => (rcheck_any A B c d h l)
  have m1 : ((h.length : Int) + 1 + (l.length : Int) != (s.size : Int) - 1) = false := by simp; omega
  have m2 : (h.length : Int) + 1 + (l.length : Int) = (s.size : Int) - 1 := by omega
  have m3 : (1 : Int) ≤ (s.size : Int) := by omega
  clear hck
  go_enter Tryz.func144, Tryz.ntmps144
  go_wp2_with (first
    | (go_at_call 176; (with_reducible refine (K1.out _).mono ?_); rintro e w1 ⟨V1, c1, rfl, hR1, hc1, hN1, hb1⟩; have HR1 := Lib.hid hR1; have HN1 := Lib.hid hN1; clear hR1 hN1; obtain ⟨qa1, qb1, qc1, qd1, qe1⟩ := resb (w := w) (W := w1) (t := 182) bl)
    | (go_at_call 176; (with_reducible refine (K2.out _).mono ?_); rintro e w2 ⟨V2, c2, rfl, hR2, hc2, hN2, hb2⟩; have HR2 := Lib.hid hR2; have HN2 := Lib.hid hN2; clear hR2 hN2; obtain ⟨ra2, rb2⟩ := box2 (w := w1) (W := w2) (x := .slice V1 h.length c1) (y := .slice none 0 0) (t := 182) bl; obtain ⟨rc2, rd2⟩ := box2fr (w := w1) (W := w2) (x := .slice V1 h.length c1) (y := .slice none 0 0) (t := 182) bl; obtain ⟨qa2, qb2, qc2, qd2, qe2⟩ := resb (w := w) (W := w2) (t := 182) bl; have qz2 : w1.heap.size < w2.heap.size := (by have := hb2.size; simp at this; omega); have qn1 : ¬ w1.heap.size = w.heap.size := (by omega); have qn2 : ¬ w.heap.size = w1.heap.size := (by omega))
    | (go_at_call 177; refine (k1.out _ _ _ _ _ (by omega) (by omega)).mono ?_; rintro e w3 ⟨rfl, hb3⟩; obtain ⟨sa3, sb3, hB3⟩ := wbox (w1 := w1) (w2 := w2) (w3 := w3) (x := .slice V1 h.length c1) (y := .slice none 0 0) (z := .slice V2 l.length c2) (t := 182) hb2 hb3; have HB3 := Lib.hid hB3; clear hB3; have qa3 := (res_keep HB3.out qe1 0).1.trans qa1; have qb3 := (res_keep HB3.out qe1 1).1.trans qb1; have qc3 := (res_keep HB3.out qe1 0).2.trans qc1; have qd3 := (res_keep HB3.out qe1 1).2.trans qd1))
  have hB := HB3.out
  have hw3 : Below w.heap.size w w3 := bl
  have za := qa3
  have zb := qb3
  obtain ⟨k0, k1⟩ := set2_cells za zb (.slice none 0 0) (.slice none 0 0)
  refine bodyPost_ret (v := .tuple #[.agg #[.slice none 0 0, .slice none 0 0], .int .i64 5]) (by simp [results, Tryz.results144, go_sem, k0, k1]) rfl ?_
  exact ⟨none, none, 0, 0, rfl, Rd.nil _ _ _, Rd.nil _ _ _, Nat.zero_le _, Nat.zero_le _, bel_set2 hw3 (Nat.le_refl _) _ _, Nw.nil _ _, Nw.nil _ _⟩
end Go.Proofs.YtoimjcfdiljkjaaGreatDoor.bw
namespace Go.Proofs.YtoimjcfdiljkjaaGreatDoor.bw
open Go.RowKit
def wtx (h l : List Bool) : ByteArray := dgs h ++ ⟨#[40]⟩ ++ dgs l ++ ⟨#[41]⟩
theorem wtx_list (h l : List Bool) : (wtx h l).data.toList = digs h ++ 40 :: (digs l ++ [41]) := by simp [wtx, dgs]
theorem wtx_size (h l : List Bool) : (wtx h l).size = h.length + l.length + 2 := by
  rw [← len_toList, wtx_list]
  simp [digs_length]
  omega
theorem by_list {s t : ByteArray} (h : s.data.toList = t.data.toList) : s = t := ByteArray.ext (Array.toList_inj.mp h)
theorem digs_all (l : List Bool) : (digs l).all isD = true := by
  rw [List.all_eq_true]
  intro c hc
  obtain ⟨b, _, rfl⟩ := List.mem_map.1 hc
  cases b <;> rfl
theorem dig_back {c : UInt8} (h : isD c = true) : dig (((c.toNat : Nat) : Int) == 49) = c := by
  unfold isD at h
  rw [Bool.or_eq_true, beq_iff_eq, beq_iff_eq] at h
  rcases h with rfl | rfl <;> rfl
theorem lts_digs (l : List Bool) : lts (sa (digs l)) = l := by
  rw [lts, sa_list, digs, List.map_map]
  conv => rhs; rw [← List.map_id l]
  apply List.map_congr_left
  intro b _
  cases b <;> rfl
theorem digs_lts {x : List UInt8} (h : x.all isD = true) : digs (lts (sa x)) = x := by
  rw [lts, sa_list, digs, List.map_map]
  conv => rhs; rw [← List.map_id x]
  apply List.map_congr_left
  intro c hc
  exact dig_back (List.all_eq_true.1 h c hc)
theorem digs_runL (x : List UInt8) : digs (runL x) = x.takeWhile isD := by
  rw [runL, digs, List.map_map]
  conv => rhs; rw [← List.map_id (x.takeWhile isD)]
  apply List.map_congr_left
  intro c hc
  exact dig_back (List.all_eq_true.1 (List.all_takeWhile (l := x) (p := isD)) c hc)
theorem tw_app {p : UInt8 → Bool} (a b : List UInt8) (c : UInt8) (ha : a.all p = true) (hc : p c = false) : (a ++ c :: b).takeWhile p = a ∧ (a ++ c :: b).dropWhile p = c :: b := by
  induction a with
  | nil => simp [hc]
  | cons d r ih =>
    rw [List.all_cons, Bool.and_eq_true] at ha
    obtain ⟨i1, i2⟩ := ih ha.2
    simp [ha.1, i1, i2]
theorem runL_digs (l : List Bool) (c : UInt8) (b : List UInt8) (hc : isD c = false) : runL (digs l ++ c :: b) = l := by
  rw [runL, (tw_app (digs l) b c (digs_all l) hc).1, digs, List.map_map]
  conv => rhs; rw [← List.map_id l]
  apply List.map_congr_left
  intro b _
  cases b <;> rfl
theorem all_ne {x : List UInt8} (h : x.all isD = true) {c : UInt8} (hc : isD c = false) : x.all (· != c) = true := by
  rw [List.all_eq_true] at h ⊢
  intro d hd
  have := h d hd
  rw [bne_iff_ne]
  rintro rfl
  rw [this] at hc
  cases hc
theorem cut_app (x b : List UInt8) (c : UInt8) (hx : x.all (· != c) = true) : cutA (x ++ c :: b) c = x ∧ cutZ (x ++ c :: b) c = b := by
  obtain ⟨i1, i2⟩ := tw_app (p := (· != c)) x b c hx (by simp)
  have hm : c ∈ x ++ c :: b := by simp
  rw [cutA, cutZ, if_pos hm, if_pos hm, i1, i2]
  exact ⟨rfl, rfl⟩
theorem cut_glue (x : List UInt8) (c : UInt8) (h : c ∈ x) : x = cutA x c ++ c :: cutZ x c := by
  rw [cutA, cutZ, if_pos h, if_pos h]
  conv => lhs; rw [← List.takeWhile_append_dropWhile (p := (· != c)) (l := x)]
  congr 1
  have hne : x.dropWhile (· != c) ≠ [] := by
    intro e
    have h2 : x.takeWhile (· != c) = x := by
      have := List.takeWhile_append_dropWhile (p := (· != c)) (l := x)
      rwa [e, List.append_nil] at this
    have h3 := List.all_takeWhile (l := x) (p := (· != c))
    rw [h2, List.all_eq_true] at h3
    simpa using h3 c h
  rcases hd : x.dropWhile (· != c) with _ | ⟨a, r⟩
  · exact absurd hd hne
  · have ha := List.head?_dropWhile_not (p := (· != c)) (l := x)
    rw [hd] at ha
    simp at ha
    rw [ha]
    rfl
theorem cutA_le (x : List UInt8) (c : UInt8) : (cutA x c).length ≤ x.length := by
  unfold cutA
  split
  · exact tw_le _ _
  · exact Nat.le_refl _
theorem cutZ_le (x : List UInt8) (c : UInt8) : (cutZ x c).length ≤ x.length := by
  unfold cutZ
  split
  · have := (List.dropWhile_sublist (l := x) (p := (· != c))).length_le
    rw [List.length_drop]
    omega
  · simp
theorem cutk (s : ByteArray) (c : UInt8) (hs : s.size ≤ 66) : CutK s c (cutA s.data.toList c) (cutZ s.data.toList c) (decide (c ∈ s.data.toList)) := fun W => cuts_any s c W (by omega)
theorem pparse_ok (h l : List Bool) (w : World) (hck : ck h l = 0) : Calls Tryz.prog 191 #[.string (wtx h l)] w (NewWX h l 0 w) := by
  have hk := lens hck
  have hs : (wtx h l).size ≤ 66 := by rw [wtx_size]; omega
  have c1 := cutk (wtx h l) 40 hs
  have hs2 : (sa (digs l ++ [41])).size ≤ 66 := by rw [sa_size]; simp [digs_length]; omega
  have c2 := cutk (sa (digs l ++ [41])) 41 hs2
  obtain ⟨i1, i2⟩ := cut_app (digs h) (digs l ++ [41]) 40 (all_ne (digs_all h) rfl)
  obtain ⟨j1, j2⟩ := cut_app (digs l) [] 41 (all_ne (digs_all l) rfl)
  rw [wtx_list, i1, i2, decide_eq_true (by simp)] at c1
  rw [sa_list, j1, j2, decide_eq_true (by simp)] at c2
  have := parse_good (wtx h l) w (digs h) (digs l ++ [41]) (digs l) hs (by rw [digs_length]; omega) (by rw [digs_length]; omega) (Lib.hid c1) (Lib.hid c2) (digs_all h) (digs_all l) (by rw [lts_digs, lts_digs]; exact hck)
  rwa [lts_digs, lts_digs] at this
theorem pparse_no (s : ByteArray) (w : World) (hs : s.size ≤ 66) (hno : ¬ ∃ h l, s = wtx h l ∧ ck h l = 0) : Calls Tryz.prog 191 #[.string s] w (NewWX [] [] 5 w) := by
  have l1 := cutA_le s.data.toList 40
  have l2 := cutZ_le s.data.toList 40
  have l3 := cutA_le (cutZ s.data.toList 40) 41
  rw [len_toList] at l1 l2
  have c2 := cutk (sa (cutZ s.data.toList 40)) 41 (by rw [sa_size]; omega)
  rw [sa_list] at c2
  refine parse_bad s w _ _ _ _ _ _ hs (by omega) (by omega) (Lib.hid (cutk s 40 hs)) (Lib.hid c2) ?_
  rintro ⟨g1, g2, g3, g4, g5, g6⟩
  refine hno ⟨_, _, ?_, g6⟩
  apply by_list
  rw [wtx_list, digs_lts g4, digs_lts g5]
  have e1 := cut_glue s.data.toList 40 (by simpa using g1)
  have e2 := cut_glue (cutZ s.data.toList 40) 41 (by simpa using g2)
  rw [g3] at e2
  rw [← e2]
  exact e1
theorem byte_eq {s : ByteArray} {k : Nat} {c : UInt8} (hk : k < s.size) (h : s.data.toList[k]? = some c) : s[k] = c := by
  rw [byte_get s k hk] at h
  simpa using h
theorem rparse_ok (h l : List Bool) (w : World) (hck : ck h l = 0) : Calls Tryz.prog 144 #[.string (wtx h l)] w (NewWX h l 0 w) := by
  have hk := lens hck
  have hz := wtx_size h l
  have hs : (wtx h l).size ≤ 66 := by omega
  have h1 : h.length < (wtx h l).size := by omega
  have k1 : runL ((wtx h l).data.toList.drop 0) = h := by rw [List.drop_zero, wtx_list]; exact runL_digs _ _ _ rfl
  have k2 : runL ((wtx h l).data.toList.drop (h.length + 1)) = l := by
    rw [wtx_list, ← digs_length h, ← List.drop_drop, List.drop_left]
    exact runL_digs _ _ _ rfl
  have b1 : (wtx h l)[h.length] = 40 := byte_eq h1 (by rw [wtx_list, List.getElem?_append_right (by rw [digs_length]; omega), digs_length, Nat.sub_self]; rfl)
  have b2 : (wtx h l)[(wtx h l).size - 1]'(by omega) = 41 := byte_eq (by omega) (by
    rw [wtx_list, List.getElem?_append_right (by rw [digs_length]; omega), digs_length, show (wtx h l).size - 1 - h.length = l.length + 1 by omega, List.getElem?_cons_succ, List.getElem?_append_right (by rw [digs_length]; omega), digs_length, Nat.sub_self]; rfl)
  exact rparse_good (wtx h l) w h l hs h1 (by omega) (Lib.hid (run_k _ 0 h hs (by omega) k1)) (Lib.hid (run_k _ (h.length + 1) l hs (by omega) k2)) (by rw [b1]; rfl) (by rw [b2]; rfl) hck
theorem byte_ne {c : UInt8} {k : Nat} (h : ((((c.toNat : Nat) : Int) != (k : Int)) = false)) (hk : k < 256) : c = UInt8.ofNat k := by
  apply UInt8.toNat_inj.1
  simp at h
  have : c.toNat = k := by omega
  rw [this]
  simp
  omega
theorem rparse_no (s : ByteArray) (w : World) (hs : s.size ≤ 66) (hno : ¬ ∃ h l, s = wtx h l ∧ ck h l = 0) : Calls Tryz.prog 144 #[.string s] w (NewWX [] [] 5 w) := by
  obtain ⟨h, hh⟩ : ∃ h, runL s.data.toList = h := ⟨_, rfl⟩
  have hl1 : h.length ≤ s.size := by rw [← hh, runL_length, ← len_toList]; exact tw_le _ _
  have K1 := Lib.hid (run_k s 0 h hs (by omega) (by rw [List.drop_zero]; exact hh))
  obtain ⟨l, hl⟩ : ∃ l, runL (s.data.toList.drop (h.length + 1)) = l := ⟨_, rfl⟩
  by_cases h1 : h.length < s.size
  · have hl2 : l.length ≤ s.size - (h.length + 1) := by rw [← hl, runL_length, ← len_toList, ← List.length_drop]; exact tw_le _ _
    have K2 := Lib.hid (run_k s (h.length + 1) l hs (by omega) hl)
    cases e1 : (((s[h.length].toNat : Nat) : Int) != 40)
    · by_cases hm : h.length + 1 + l.length + 1 = s.size
      · cases e2 : (((s[s.size - 1].toNat : Nat) : Int) != 41)
        · by_cases hck : ck h l = 0
          · refine absurd ⟨h, l, ?_, hck⟩ hno
            have b1 := byte_ne (k := 40) e1 (by omega)
            have b2 := byte_ne (k := 41) e2 (by omega)
            apply by_list
            rw [wtx_list, ← hh, ← hl, digs_runL, digs_runL]
            have d1 : s.data.toList.dropWhile isD = s.data.toList.drop h.length := by
              have := List.takeWhile_append_dropWhile (p := isD) (l := s.data.toList)
              conv => rhs; rw [← this]
              rw [← hh, runL_length, List.drop_left]
            have d2 : (s.data.toList.drop (h.length + 1)).dropWhile isD = s.data.toList.drop (h.length + 1 + l.length) := by
              have := List.takeWhile_append_dropWhile (p := isD) (l := s.data.toList.drop (h.length + 1))
              rw [show s.data.toList.drop (h.length + 1 + l.length) = (s.data.toList.drop (h.length + 1)).drop l.length from List.drop_drop.symm]
              conv => rhs; rw [← this]
              rw [← hl, runL_length, List.drop_left]
            have d3 : s.data.toList.drop (h.length + 1 + l.length) = [41] := by
              have hlt : h.length + 1 + l.length < s.data.toList.length := by rw [len_toList]; omega
              rw [List.drop_eq_getElem_cons hlt, List.drop_eq_nil_of_le (by rw [len_toList]; omega)]
              have := byte_get s (h.length + 1 + l.length) (by omega)
              rw [List.getElem?_eq_getElem hlt] at this
              have e : s[h.length + 1 + l.length]'(by omega) = 41 := by
                have : h.length + 1 + l.length = s.size - 1 := by omega
                simp only [this]
                exact b2
              rw [Option.some.inj this, e]
            have d4 : s.data.toList.drop h.length = 40 :: s.data.toList.drop (h.length + 1) := by
              have hlt : h.length < s.data.toList.length := by rw [len_toList]; omega
              rw [List.drop_eq_getElem_cons hlt]
              have := byte_get s h.length h1
              rw [List.getElem?_eq_getElem hlt] at this
              rw [Option.some.inj this, b1]
              rfl
            conv => lhs; rw [← List.takeWhile_append_dropWhile (p := isD) (l := s.data.toList), d1, d4]
            conv => lhs; rw [← List.takeWhile_append_dropWhile (p := isD) (l := s.data.toList.drop (h.length + 1)), d2, d3]
          · exact rparse_e s w h l hs h1 hm K1 K2 e1 e2 hck
        · exact rparse_d s w h l hs h1 hm K1 K2 e1 e2
      · exact rparse_c s w h l hs h1 (by omega) hm K1 K2 e1
    · exact rparse_b s w h l hs h1 K1 K2 e1
  · exact rparse_a s w h l hs (by omega) (by omega) K1
end Go.Proofs.YtoimjcfdiljkjaaGreatDoor.bw
namespace Go.Proofs.YtoimjcfdiljkjaaGreatDoor.bw
open Go.RowKit
theorem resc {w : World} {t : TypeId} : (w.alloc (.cells #[.slice none 0 0, .slice none 0 0] t)).cell? ⟨w.heap.size, 0, none⟩ = some (.slice none 0 0) ∧ (w.alloc (.cells #[.slice none 0 0, .slice none 0 0] t)).cell? ⟨w.heap.size, 1, none⟩ = some (.slice none 0 0) := by
  constructor <;> simp [go_sem]
theorem plong (s : ByteArray) (w : World) (hs : 66 < s.size) (h9 : s.size ≤ 9223372036854775807) : Calls Tryz.prog 191 #[.string s] w (NewWX [] [] 3 w) := by
  go_enter Tryz.func191, Tryz.ntmps191
  go_wp2
  obtain ⟨q0, q1⟩ := resc (w := w) (t := 182)
  obtain ⟨k0, k1⟩ := set2_cells q0 q1 (.slice none 0 0) (.slice none 0 0)
  refine bodyPost_ret (v := .tuple #[.agg #[.slice none 0 0, .slice none 0 0], .int .i64 3]) (by simp [results, Tryz.results191, go_sem, k0, k1]) rfl ?_
  exact ⟨none, none, 0, 0, rfl, Rd.nil _ _ _, Rd.nil _ _ _, Nat.zero_le _, Nat.zero_le _, bel_box _, Nw.nil _ _, Nw.nil _ _⟩
theorem rlong (s : ByteArray) (w : World) (hs : 66 < s.size) (h9 : s.size ≤ 9223372036854775807) : Calls Tryz.prog 144 #[.string s] w (NewWX [] [] 3 w) := by
  go_enter Tryz.func144, Tryz.ntmps144
  go_wp2
  obtain ⟨q0, q1⟩ := resc (w := w) (t := 182)
  obtain ⟨k0, k1⟩ := set2_cells q0 q1 (.slice none 0 0) (.slice none 0 0)
  refine bodyPost_ret (v := .tuple #[.agg #[.slice none 0 0, .slice none 0 0], .int .i64 3]) (by simp [results, Tryz.results144, go_sem, k0, k1]) rfl ?_
  exact ⟨none, none, 0, 0, rfl, Rd.nil _ _ _, Rd.nil _ _ _, Nat.zero_le _, Nat.zero_le _, bel_box _, Nw.nil _ _, Nw.nil _ _⟩
end Go.Proofs.YtoimjcfdiljkjaaGreatDoor.bw
namespace Go.Proofs.YtoimjcfdiljkjaaGreatDoor
open Go.RowKit Go.Sort
open Classical in
noncomputable def wokP (s : ByteArray) : Bool := decide (s.size ≤ 66 ∧ ∃ h l, s = bw.wtx h l ∧ bw.ck h l = 0)
open Classical in
theorem wokP_yes {s : ByteArray} (h : s.size ≤ 66 ∧ ∃ h l, s = bw.wtx h l ∧ bw.ck h l = 0) : wokP s = true := by
  unfold wokP; exact decide_eq_true_iff.2 h
open Classical in
theorem wokP_no {s : ByteArray} (h : ¬ (s.size ≤ 66 ∧ ∃ h l, s = bw.wtx h l ∧ bw.ck h l = 0)) : wokP s = false := by
  unfold wokP; exact decide_eq_false_iff_not.2 h
theorem wx_form {x y : List Bool} {er : Int} {w w' : World} {e : Ending} {b : Bool} (h : bw.NewWX x y er w e w') (hb : (er == 0) = b) : ∃ (A1 A2 : Option Addr) (n1 c1 n2 c2 : Nat) (er : Int), e = .returned (.tuple #[.agg #[.slice A1 n1 c1, .slice A2 n2 c2], .int .i64 er]) ∧ (er == 0) = b ∧ Below w.heap.size w w' := by
  obtain ⟨A, B, c, d, h1, _, _, _, _, h2, _, _⟩ := h
  exact ⟨A, B, _, c, _, d, er, h1, hb, h2⟩
theorem parse_ok (s : ByteArray) (w : World) (hs : s.size ≤ 140737488351232) : Calls Tryz.prog 191 #[.string s] w (fun e w' => ∃ (A1 A2 : Option Addr) (n1 c1 n2 c2 : Nat) (er : Int), e = .returned (.tuple #[.agg #[.slice A1 n1 c1, .slice A2 n2 c2], .int .i64 er]) ∧ (er == 0) = wokP s ∧ Below w.heap.size w w') := by
  by_cases h66 : s.size ≤ 66
  · by_cases hw : ∃ h l, s = bw.wtx h l ∧ bw.ck h l = 0
    · have h1 := wokP_yes ⟨h66, hw⟩
      obtain ⟨h, l, rfl, hc⟩ := hw
      exact (bw.pparse_ok h l w hc).mono fun e w' hn => wx_form hn h1.symm
    · exact (bw.pparse_no s w h66 hw).mono fun e w' hn => wx_form hn (wokP_no fun h => hw h.2).symm
  · exact (bw.plong s w (by omega) (by omega)).mono fun e w' hn => wx_form hn (wokP_no fun h => h66 h.1).symm
theorem rparse_ok (s : ByteArray) (w : World) (hs : s.size ≤ 140737488351232) : Calls Tryz.prog 144 #[.string s] w (fun e w' => ∃ (A1 A2 : Option Addr) (n1 c1 n2 c2 : Nat) (er : Int), e = .returned (.tuple #[.agg #[.slice A1 n1 c1, .slice A2 n2 c2], .int .i64 er]) ∧ (er == 0) = wokP s ∧ Below w.heap.size w w') := by
  by_cases h66 : s.size ≤ 66
  · by_cases hw : ∃ h l, s = bw.wtx h l ∧ bw.ck h l = 0
    · have h1 := wokP_yes ⟨h66, hw⟩
      obtain ⟨h, l, rfl, hc⟩ := hw
      exact (bw.rparse_ok h l w hc).mono fun e w' hn => wx_form hn h1.symm
    · exact (bw.rparse_no s w h66 hw).mono fun e w' hn => wx_form hn (wokP_no fun h => hw h.2).symm
  · exact (bw.rlong s w (by omega) (by omega)).mono fun e w' hn => wx_form hn (wokP_no fun h => h66 h.1).symm
theorem nm_prog {x : Xt} {w : World} (hs : Std w) (hN : NmB x) : ∀ y ∈ x.list, NmOk wokP w y := fun y hy =>
  ⟨fun _ => Lib.hid fun W _ => parse_ok y.nm W (hN y hy), fun _ => Lib.hid fun W hb => ident_any y.nm W (hs.to hb) (hN y hy)⟩
theorem nm_ref {x : Xt} {w : World} (hN : NmB x) : ∀ y ∈ x.list, NmR wokP w y := fun y hy =>
  ⟨fun _ => Lib.hid fun W _ => rparse_ok y.nm W (hN y hy), fun _ => Lib.hid fun W _ => by
    have := rident_any y.nm W (hN y hy)
    rwa [← id_eq] at this⟩
end Go.Proofs.YtoimjcfdiljkjaaGreatDoor
namespace Go.Proofs.YtoimjcfdiljkjaaGreatDoor
open Go.RowKit
noncomputable def expE (es : List va.En) (x : Xt) : Int := orE (chkAll wokP x) (insE es x)
noncomputable def eqnE (es : List va.En) (q : Qt) : Int :=
  if q.lf.l.length = 0 then 8 else if 64 < q.lf.l.length then 3 else orE (errs (q.lf.l.map idE)) (orE (expE es q.r) (if 1 < q.lf.l.length ∧ q.r.k ≠ 10 then 5 else 0))
noncomputable def trnE (es : List va.En) (n : Int) (b : Bool) (t : Tt) : Int := if t.to < 0 ∨ n ≤ t.to then 14 else orE (expE es t.cd) (if b = true ∧ (t.cd.list.any fun y => stK y.k) = true then 5 else 0)
noncomputable def staE (es : List va.En) (au : Rw St → Int) (n : Int) (s : St) : Int :=
  if idP s.nm = true then (if 256 < s.lc.l.length ∨ 256 < s.qs.l.length ∨ 8 < s.au.l.length ∨ 4 < s.un.l.length ∨ 4 < s.ut.l.length then 3 else
    orE (errs (s.lc.l.map (locE es))) (orE (errs (s.qs.l.map (eqnE es))) (orE (errs (s.au.l.map au)) (orE (errs (s.un.l.map (trnE es n true))) (errs (s.ut.l.map (trnE es n false))))))) else 6
noncomputable def autE (es : List va.En) : Nat → Rw St → Int
  | 0, _ => 3
  | r + 1, a => if a.l.length = 0 then 8 else if 8 < a.l.length then 3 else errs (a.l.map (staE es (autE es r) a.l.length))
noncomputable def hedE (es : List va.En) (n : Nt) : Int :=
  if idP n.nm = true then (if 64 < n.ins.l.length ∨ 64 < n.outs.l.length ∨ 256 < n.locs.l.length ∨ 256 < n.qs.l.length ∨ 8 < n.au.l.length ∨ 8 < n.asm.l.length ∨ 8 < n.ens.l.length then 3 else if n.outs.l.length = 0 then 8 else
    orE (errs (n.ins.l.map (portE es))) (orE (errs (n.outs.l.map (portE es))) (errs (n.locs.l.map (locE es))))) else 6
noncomputable def talE (es : List va.En) (n : Nt) : Int := orE (errs (n.au.l.map (autE es 3))) (orE (errs (n.asm.l.map (expE es))) (errs (n.ens.l.map (expE es))))
noncomputable def eqsE (es : List va.En) : List Qt → Option (Nat × Int)
  | [] => none
  | q :: l => if eqnE es q = 0 then (eqsE es l).map (fun p => (p.1 + 1, p.2)) else some (0, eqnE es q)
noncomputable def nodE (es : List va.En) (n : Nt) : Int × Int :=
  if hedE es n = 0 then (match eqsE es n.qs.l with | some p => ((p.1 : Int), p.2) | none => (-1, talE es n)) else (-1, hedE es n)
end Go.Proofs.YtoimjcfdiljkjaaGreatDoor
