/- Texts of one chain, in one file. -/
import Derived.Test.YtoekgbdomeklgaaGreatDoorQA
/- Expressions ar they lie in memory: trees with the addresses of their arguments. -/
namespace Go.Proofs.YtoekgbdomeklgaaGreatDoor
set_option linter.unusedVariables false
set_option linter.unusedSimpArgs false
open Go.RowKit
inductive Xt where
  | mk (k op t v : Int) (nm : ByteArray) (A : Option Addr) (c : Nat) (ar : List Xt)
def Xt.k : Xt → Int | .mk k _ _ _ _ _ _ _ => k
def Xt.op : Xt → Int | .mk _ op _ _ _ _ _ _ => op
def Xt.t : Xt → Int | .mk _ _ t _ _ _ _ _ => t
def Xt.v : Xt → Int | .mk _ _ _ v _ _ _ _ => v
def Xt.nm : Xt → ByteArray | .mk _ _ _ _ nm _ _ _ => nm
def Xt.A : Xt → Option Addr | .mk _ _ _ _ _ A _ _ => A
def Xt.c : Xt → Nat | .mk _ _ _ _ _ _ c _ => c
def Xt.ar : Xt → List Xt | .mk _ _ _ _ _ _ _ ar => ar
theorem Xt.lt_of_mem {a x : Xt} (h : a ∈ x.ar) : SizeOf.sizeOf a < SizeOf.sizeOf x := by
  cases x with
  | mk k op t v nm A c ar =>
    have := List.sizeOf_lt_of_mem (show a ∈ ar from h)
    simp
    omega
theorem Xt.ind {P : Xt → Prop} (h : ∀ x : Xt, (∀ a ∈ x.ar, P a) → P x) (x : Xt) : P x := by
  generalize hN : SizeOf.sizeOf x = N
  induction N using Nat.strongRecOn generalizing x with
  | ind N ih =>
    subst hN
    exact h x fun a ha => ih _ (Xt.lt_of_mem ha) a rfl
/-- its value -/
def xV (x : Xt) : Value := .agg #[.int .i64 x.k, .int .i64 x.op, .int .i64 x.t, .int .i64 x.v, .string x.nm, .slice x.A x.ar.length x.c]
/-- it lies in six cells -/
def XC (w : World) (a : Addr) (x : Xt) : Prop := w.cell? a = some (.int .i64 x.k) ∧ w.cell? ⟨a.block, a.off + 1, none⟩ = some (.int .i64 x.op) ∧ w.cell? ⟨a.block, a.off + 2, none⟩ = some (.int .i64 x.t) ∧ w.cell? ⟨a.block, a.off + 3, none⟩ = some (.int .i64 x.v) ∧ w.cell? ⟨a.block, a.off + 4, none⟩ = some (.string x.nm) ∧ w.cell? ⟨a.block, a.off + 5, none⟩ = some (.slice x.A x.ar.length x.c)
theorem XC.keep {w W : World} {a : Addr} {x : Xt} (h : XC w a x) (hk : ∀ p : Addr, p.block = a.block → W.cell? p = w.cell? p) : XC W a x :=
  ⟨(hk a rfl).trans h.1, (hk ⟨a.block, a.off + 1, none⟩ rfl).trans h.2.1, (hk ⟨a.block, a.off + 2, none⟩ rfl).trans h.2.2.1, (hk ⟨a.block, a.off + 3, none⟩ rfl).trans h.2.2.2.1, (hk ⟨a.block, a.off + 4, none⟩ rfl).trans h.2.2.2.2.1, (hk ⟨a.block, a.off + 5, none⟩ rfl).trans h.2.2.2.2.2⟩
/-- the arguments lie in memory, below block B -/
inductive RdX (w : World) (B : Nat) : Xt → Prop
  | mk (x : Xt) (h0 : x.ar ≠ [] → ∃ ad, x.A = some ad ∧ ad.block < B) (h1 : ∀ (ad : Addr) (i : Nat) (y : Xt), x.A = some ad → x.ar[i]? = some y → XC w (ad.add (i * 6)) y) (h2 : ∀ y ∈ x.ar, RdX w B y) (h3 : (x.ar.length ≤ maxLen ∧ x.nm.size ≤ maxLen) ∧ x.ar.length ≤ x.c) : RdX w B x
theorem RdX.blw {w W : World} {B B' : Nat} {x : Xt} (h : RdX w B x) (hb : Below B w W) (hB : B ≤ B') : RdX W B' x := by
  induction h with
  | mk x h0 h1 h2 h3 ih =>
    refine .mk x (fun hn => ?_) (fun ad i y ha hy => ?_) ih h3
    · obtain ⟨ad, e, h⟩ := h0 hn
      exact ⟨ad, e, by omega⟩
    · obtain ⟨ad', e, h⟩ := h0 (by intro e; rw [e] at hy; simp at hy)
      obtain rfl : ad = ad' := Option.some.inj (ha.symm.trans e)
      exact (h1 ad i y ha hy).keep fun p hp => hb.cell (by rw [hp, add_block]; exact h)
theorem RdX.to {w W : World} {x : Xt} (h : RdX w w.heap.size x) (hb : Below w.heap.size w W) : RdX W W.heap.size x := h.blw hb hb.size
theorem RdX.kid {w : World} {B : Nat} {x y : Xt} (h : RdX w B x) (hy : y ∈ x.ar) : RdX w B y := by
  cases h with
  | mk x h0 h1 h2 h3 => exact h2 y hy
theorem RdX.len {w : World} {B : Nat} {x : Xt} (h : RdX w B x) : x.ar.length ≤ maxLen ∧ x.nm.size ≤ maxLen := by
  cases h with
  | mk x h0 h1 h2 h3 => exact h3.1
theorem RdX.cap {w : World} {B : Nat} {x : Xt} (h : RdX w B x) : x.ar.length ≤ x.c := by
  cases h with
  | mk x h0 h1 h2 h3 => exact h3.2
theorem RdX.at_ {w : World} {B : Nat} {x : Xt} (h : RdX w B x) {i : Nat} (hi : i < x.ar.length) : ∃ ad y, x.A = some ad ∧ ad.block < B ∧ x.ar[i]? = some y ∧ y ∈ x.ar ∧ XC w (ad.add (i * 6)) y ∧ RdX w B y := by
  cases h with
  | mk x h0 h1 h2 h3 =>
    obtain ⟨ad, e, hb⟩ := h0 (by intro e; rw [e] at hi; simp at hi)
    have hy : x.ar[i]? = some x.ar[i] := List.getElem?_eq_getElem hi
    exact ⟨ad, _, e, hb, hy, List.mem_of_getElem? hy, h1 ad i _ e hy, h2 _ (List.mem_of_getElem? hy)⟩
/-- how many expressions -/
def Xt.size (x : Xt) : Nat := 1 + (x.ar.attach.map fun a => Xt.size a.1).sum
termination_by SizeOf.sizeOf x
decreasing_by exact Xt.lt_of_mem a.2
theorem Xt.size_eq (x : Xt) : x.size = 1 + (x.ar.map Xt.size).sum := by
  rw [Xt.size]
  congr 2
  simp
def Xt.depth (x : Xt) : Nat := 1 + (x.ar.attach.map fun a => Xt.depth a.1).foldl max 0
termination_by SizeOf.sizeOf x
decreasing_by exact Xt.lt_of_mem a.2
theorem Xt.depth_eq (x : Xt) : x.depth = 1 + (x.ar.map Xt.depth).foldl max 0 := by
  rw [Xt.depth]
  congr 2
  simp
/-- all of them, each before its arguments -/
def Xt.list (x : Xt) : List Xt := x :: (x.ar.attach.map fun a => Xt.list a.1).flatten
termination_by SizeOf.sizeOf x
decreasing_by exact Xt.lt_of_mem a.2
theorem Xt.list_eq (x : Xt) : x.list = x :: (x.ar.map Xt.list).flatten := by
  rw [Xt.list]
  congr 2
  simp
theorem Xt.size_pos (x : Xt) : 1 ≤ x.size := by rw [Xt.size_eq]; omega
theorem sum_take_succ {l : List Xt} {f : Xt → Nat} {k : Nat} {y : Xt} (h : l[k]? = some y) : ((l.take (k + 1)).map f).sum = ((l.take k).map f).sum + f y := by
  rw [take_succ_of h, List.map_append, List.sum_append]; simp
theorem sum_take_le (l : List Xt) (f : Xt → Nat) (k : Nat) : ((l.take k).map f).sum ≤ (l.map f).sum := by
  conv => rhs; rw [← List.take_append_drop k l, List.map_append, List.sum_append]
  omega
theorem list_length (x : Xt) : x.list.length = x.size := by
  induction x using Xt.ind with
  | h x ih =>
    rw [Xt.list_eq, Xt.size_eq, List.length_cons, List.length_flatten, List.map_map, Nat.add_comm]
    congr 2
    exact List.map_congr_left fun a ha => ih a ha
end Go.Proofs.YtoekgbdomeklgaaGreatDoor
/- Size, Depth, Weigh of the reference. -/
namespace Go.Proofs.YtoekgbdomeklgaaGreatDoor
set_option linter.unusedVariables false
set_option linter.unusedSimpArgs false
open Go.RowKit
/-- the world in which an expression that came in has its box -/
abbrev bxW (w : World) (x : Xt) : World := w.alloc (.cells #[.int .i64 x.k, .int .i64 x.op, .int .i64 x.t, .int .i64 x.v, .string x.nm, .slice x.A x.ar.length x.c] 24)
theorem bxW_size (w : World) (x : Xt) : (bxW w x).heap.size = w.heap.size + 1 := World.size_alloc _ _
theorem bxW_below {w W : World} {x : Xt} (h : Below (bxW w x).heap.size (bxW w x) W) : Below w.heap.size w W := (bel_box _).trans (h.mono (by rw [bxW_size]; omega))
theorem bxW_cells {w W : World} {x : Xt} (h : Below (bxW w x).heap.size (bxW w x) W) :
    W.cell? ⟨w.heap.size, 0, none⟩ = some (.int .i64 x.k) ∧ W.cell? ⟨w.heap.size, 1, none⟩ = some (.int .i64 x.op) ∧ W.cell? ⟨w.heap.size, 2, none⟩ = some (.int .i64 x.t) ∧ W.cell? ⟨w.heap.size, 3, none⟩ = some (.int .i64 x.v) ∧ W.cell? ⟨w.heap.size, 4, none⟩ = some (.string x.nm) ∧ W.cell? ⟨w.heap.size, 5, none⟩ = some (.slice x.A x.ar.length x.c) ∧ w.heap.size < W.heap.size := by
  have hz := h.size
  rw [bxW_size] at hz
  obtain ⟨hc, _, _⟩ := bcell h
  rw [hc _ _ (by rw [bxW_size]; simp), hc _ _ (by rw [bxW_size]; simp), hc _ _ (by rw [bxW_size]; simp), hc _ _ (by rw [bxW_size]; simp), hc _ _ (by rw [bxW_size]; simp), hc _ _ (by rw [bxW_size]; simp)]
  refine ⟨?_, ?_, ?_, ?_, ?_, ?_, by omega⟩ <;> simp [go_sem]
/-- what a sum over the arguments needs, by its partial sums -/
theorem parts_sum (x : Xt) : ∃ F : Nat → Nat, x.size = 1 + F x.ar.length ∧ F 0 = 0 ∧ x.ar.length ≤ F x.ar.length ∧ Hid (∀ (k : Nat) (y : Xt), x.ar[k]? = some y → F (k + 1) = F k + y.size) ∧ Hid (∀ k, F k ≤ F x.ar.length) := by
  refine ⟨fun k => ((x.ar.take k).map Xt.size).sum, ?_, rfl, ?_, Lib.hid fun k y hy => sum_take_succ hy, Lib.hid fun k => ?_⟩
  · simp only [List.take_length]
    exact Xt.size_eq x
  · simp only [List.take_length]
    generalize x.ar = l
    induction l with
    | nil => simp
    | cons a l ih => have := Xt.size_pos a; simp; omega
  · simp only [List.take_length]
    exact sum_take_le x.ar Xt.size k
set_option maxHeartbeats 1000000 in
set_option maxRecDepth 20000 in
theorem weigh_any (x : Xt) : ∀ (m : Nat) w, RdX w w.heap.size x → 1 ≤ m → m ≤ 1048576 → Calls Tryz.prog 14 #[xV x, .int .i64 (m : Int)] w (Bel (.int .i64 ((min x.size m : Nat) : Int)) w) := by
  induction x using Xt.ind with
  | h x ih =>
    intro m w hX h1 h2
    have h9 := hX.len.1
    unfold maxLen at h9
    have HX := Lib.hid hX
    have IH := Lib.hid ih
    clear hX ih
    obtain ⟨F, hFx, hF0, _, HN, HL⟩ := parts_sum x
    rw [hFx]
    clear hFx
    obtain ⟨V, hV⟩ : ∃ V, min (1 + F x.ar.length) m = V := ⟨_, rfl⟩
    have HV := Lib.hid hV
    rw [hV]
    clear hV
    simp only [xV] at IH ⊢
    go_enter Tryz.func14, Tryz.ntmps14
    go_wp2
    go_loopw [5, 6] (fun n i wr => ∃ k N : Nat, k ≤ x.ar.length ∧ i = .int .i64 (k : Int) ∧ n = .int .i64 (N : Int) ∧ Hid (N = min (1 + F k) m) ∧ N ≤ m ∧ Below (bxW w x).heap.size (bxW w x) wr) (fun _ i _ => x.ar.length - (intOf i).toNat)
    case atStart => exact ⟨0, 1, by omega, rfl, rfl, Lib.hid (by rw [hF0]; omega), by omega, Below.refl _ _⟩
    case round =>
      obtain ⟨k, N, hk, rfl, rfl, hN, hNle, hbl⟩ := hrel
      obtain ⟨b0, b1, b2, b3, b4, b5, b6⟩ := bxW_cells hbl
      have hBW := bxW_below hbl
      by_cases hlt : k < x.ar.length
      · by_cases hNm : N < m
        · obtain ⟨ad, y, hA, had, hy, hm, ⟨c0, c1, c2, c3, c4, c5⟩, hr⟩ := (HX.out.to hBW).at_ hlt
          rw [hA] at b5
          clear hA
          have hn1 := HN.out k y hy
          have hy1 := Xt.size_pos y
          clear hy
          have hNe : N = 1 + F k := by have := hN.out; omega
          obtain ⟨d, hd⟩ : ∃ d, m - N = d := ⟨_, rfl⟩
          obtain ⟨r, hr2⟩ : ∃ r, min y.size d = r := ⟨_, rfl⟩
          have K1 : Hid (∀ W, Below wr.heap.size wr W → Calls Tryz.prog 14 #[.agg #[.int .i64 y.k, .int .i64 y.op, .int .i64 y.t, .int .i64 y.v, .string y.nm, .slice y.A y.ar.length y.c], .int .i64 (d : Int)] W (Bel (.int .i64 (r : Nat)) W)) := Lib.hid fun W hb => by
            have := IH.out y hm d W (hr.to hb) (by omega) (by omega)
            rwa [hr2] at this
          have HN2 : Hid (N + r = min (1 + F (k + 1)) m) := Lib.hid (by omega)
          have g1 : N + r ≤ m := by omega
          have u1 : (m : Int) - (N : Int) = (d : Int) := by omega
          have u2 : IntKind.i64.wrap (d : Int) = (d : Int) := Go.IntWalk.i64_in _ ⟨by omega, by omega⟩
          have u3 : (N : Int) < (m : Int) := by omega
          clear hN hn1 hNe hd hr2 hy1
          go_wp2_with (go_at_call 14; (with_reducible refine (K1.out _ ?_).mono ?_); (focus ((repeat (first | (with_reducible exact Below.refl _ _) | (with_reducible assumption) | (with_reducible exact bel_box _) | (with_reducible refine bel_step ?_ (by with_reducible assumption)) | (with_reducible refine Below.drew ?_) | (with_reducible refine below_drewN ?_ _) | (with_reducible refine bel_alloc ?_ _))); done)); rintro e w1 ⟨rfl, hb1⟩)
          exact ⟨⟨k + 1, N + r, by omega, by congr 1, by congr 1, HN2, g1, (by repeat (first | (with_reducible exact Below.refl _ _) | (with_reducible assumption) | (with_reducible exact bel_box _) | (with_reducible refine bel_step ?_ (by with_reducible assumption)) | (with_reducible refine Below.drew ?_) | (with_reducible refine below_drewN ?_ _) | (with_reducible refine bel_alloc ?_ _)))⟩, by simp [intOf]; omega⟩
        · have hv : N = V := by
            have h1 := hN.out
            have h2 := HV.out
            have h3 := HL.out k
            omega
          subst hv
          have u3 : (m : Int) ≤ (N : Int) := by omega
          have u4 : (N : Int) ≤ (m : Int) := by omega
          clear hN HV
          go_wp2
          go_ret
          refine ⟨?_, hBW⟩
          congr 2
      · obtain rfl : k = x.ar.length := by omega
        obtain rfl : N = V := hN.out.trans HV.out
        have u4 : (N : Int) ≤ (m : Int) := by omega
        clear hN HV
        go_wp2
        go_ret
        refine ⟨?_, hBW⟩
        congr 2
end Go.Proofs.YtoekgbdomeklgaaGreatDoor
/- spare of the program: how many copies are left; facts on trees. -/
namespace Go.Proofs.YtoekgbdomeklgaaGreatDoor
set_option linter.unusedVariables false
set_option linter.unusedSimpArgs false
open Go.RowKit
def Xt.sp (x : Xt) (d n : Int) : Int := x.ar.attach.foldl (fun m a => if m < 0 then m else Xt.sp a.1 (d + 1) m) (n - d)
termination_by SizeOf.sizeOf x
decreasing_by exact Xt.lt_of_mem a.2
theorem foldl_att {α β : Type} (l : List α) (f : β → α → β) (b : β) : l.attach.foldl (fun m a => f m a.1) b = l.foldl f b := by
  rw [← List.foldl_map (f := fun a : {a // a ∈ l} => a.1) (g := f)]
  simp
theorem Xt.sp_eq (x : Xt) (d n : Int) : x.sp d n = x.ar.foldl (fun m a => if m < 0 then m else a.sp (d + 1) m) (n - d) := by
  rw [Xt.sp]
  exact foldl_att x.ar (fun m a => if m < 0 then m else a.sp (d + 1) m) (n - d)
/-- what a fold that stops below nought does, when each step takes something off -/
theorem fold_le {l : List Xt} {g : Xt → Int → Int} (hg : ∀ a ∈ l, ∀ m, 0 ≤ m → g a m ≤ m) (m : Int) : l.foldl (fun m a => if m < 0 then m else g a m) m ≤ m := by
  induction l generalizing m with
  | nil => exact Int.le_refl _
  | cons a l ih =>
    rw [List.foldl_cons]
    refine Int.le_trans (ih (fun b hb => hg b (by simp [hb])) _) ?_
    split
    · exact Int.le_refl _
    · exact hg a (by simp) m (by omega)
theorem fold_ge {l : List Xt} {g : Xt → Int → Int} {M : Int} (hg : ∀ a ∈ l, ∀ m, 0 ≤ m → g a m ≤ m) (K : Int) (hg2 : ∀ a ∈ l, ∀ m, 0 ≤ m → m ≤ K → -M ≤ g a m) (m : Int) (h : -M ≤ m) (hK : m ≤ K) : -M ≤ l.foldl (fun m a => if m < 0 then m else g a m) m := by
  induction l generalizing m with
  | nil => exact h
  | cons a l ih =>
    rw [List.foldl_cons]
    split
    · exact ih (fun b hb => hg b (by simp [hb])) (fun b hb => hg2 b (by simp [hb])) _ h hK
    · have h1 := hg a (by simp) m (by omega)
      exact ih (fun b hb => hg b (by simp [hb])) (fun b hb => hg2 b (by simp [hb])) _ (hg2 a (by simp) m (by omega) hK) (by omega)
theorem fold_neg {l : List Xt} {g : Xt → Int → Int} {m : Int} (h : m < 0) : l.foldl (fun m a => if m < 0 then m else g a m) m = m := by
  induction l with
  | nil => rfl
  | cons a l ih => rw [List.foldl_cons, if_pos h]; exact ih
theorem spare_le (x : Xt) : ∀ d n : Int, 1 ≤ d → x.sp d n ≤ n - d := by
  induction x using Xt.ind with
  | h x ih =>
    intro d n hd
    rw [Xt.sp_eq]
    exact fold_le (fun a ha m _ => by have := ih a ha (d + 1) m (by omega); omega) _
theorem spare_ge (x : Xt) : ∀ (M d n : Int), 1 ≤ d → 0 ≤ n → d + n ≤ M → -M ≤ x.sp d n := by
  induction x using Xt.ind with
  | h x ih =>
    intro M d n hd hn hM
    rw [Xt.sp_eq]
    exact fold_ge (fun a _ m _ => by have := spare_le a (d + 1) m (by omega); omega) (n - d) (fun a ha m h0 h1 => ih a ha M (d + 1) m (by omega) h0 (by omega)) _ (by omega) (Int.le_refl _)
/-- where enough is left, there was one for each -/
theorem spare_size (x : Xt) : ∀ d n : Int, 1 ≤ d → 0 ≤ x.sp d n → (x.size : Int) ≤ n - x.sp d n := by
  induction x using Xt.ind with
  | h x ih =>
    intro d n hd h
    rw [Xt.sp_eq] at h ⊢
    rw [Xt.size_eq]
    have key : ∀ l : List Xt, (∀ a ∈ l, a ∈ x.ar) → ∀ m : Int, 0 ≤ l.foldl (fun m a => if m < 0 then m else a.sp (d + 1) m) m → ((l.map Xt.size).sum : Int) ≤ m - l.foldl (fun m a => if m < 0 then m else a.sp (d + 1) m) m := by
      intro l
      induction l with
      | nil => intro _ m _; simp
      | cons a l ihl =>
        intro hl m hm
        rw [List.foldl_cons] at hm ⊢
        by_cases h0 : m < 0
        · rw [if_pos h0, fold_neg h0] at hm
          omega
        · rw [if_neg h0] at hm ⊢
          have h1 := ihl (fun b hb => hl b (by simp [hb])) _ hm
          have h2 : 0 ≤ a.sp (d + 1) m := by
            by_cases h3 : a.sp (d + 1) m < 0
            · rw [fold_neg h3] at hm; exact hm
            · omega
          have h4 := ih a (hl a (by simp)) (d + 1) m (by omega) h2
          rw [List.map_cons, List.sum_cons]
          omega
    have := key x.ar (fun _ h => h) (n - d) h
    omega
/-- a small tree has enough -/
theorem spare_small (x : Xt) : ∀ d n : Int, 1 ≤ d → (x.size : Int) * (d + x.size) ≤ n → n - (x.size : Int) * (d + x.size) ≤ x.sp d n := by
  induction x using Xt.ind with
  | h x ih =>
    intro d n hd h
    rw [Xt.sp_eq]
    have key : ∀ (S : Int) (l : List Xt), (∀ a ∈ l, a ∈ x.ar) → (∀ a ∈ l, (a.size : Int) + 1 ≤ S) → ∀ m : Int, ((l.map Xt.size).sum : Int) * (d + S) ≤ m → m - ((l.map Xt.size).sum : Int) * (d + S) ≤ l.foldl (fun m a => if m < 0 then m else a.sp (d + 1) m) m := by
      intro S l
      induction l with
      | nil => intro _ _ m _; simp
      | cons a l ihl =>
        intro hl hS m hm
        rw [List.foldl_cons]
        rw [List.map_cons, List.sum_cons] at hm ⊢
        have ha := hS a (by simp)
        have e0 : (((a.size + (l.map Xt.size).sum : Nat) : Int)) * (d + S) = (a.size : Int) * (d + S) + ((l.map Xt.size).sum : Int) * (d + S) := by rw [Int.natCast_add, Int.add_mul]
        rw [e0] at hm ⊢
        have n1 : 0 ≤ (a.size : Int) * (d + S) := Int.mul_nonneg (by omega) (by omega)
        have n2 : 0 ≤ ((l.map Xt.size).sum : Int) * (d + S) := Int.mul_nonneg (by omega) (by omega)
        have n3 : (a.size : Int) * (d + 1 + a.size) ≤ (a.size : Int) * (d + S) := Int.mul_le_mul_of_nonneg_left (by omega) (by omega)
        rw [if_neg (by omega)]
        have h1 := ih a (hl a (by simp)) (d + 1) m (by omega) (by omega)
        have h2 := ihl (fun b hb => hl b (by simp [hb])) (fun b hb => hS b (by simp [hb])) (a.sp (d + 1) m) (by omega)
        omega
    have hsz := Xt.size_eq x
    have hmem : ∀ a ∈ x.ar, (a.size : Int) + 1 ≤ x.size := by
      intro a ha
      obtain ⟨i, hi⟩ := List.getElem?_of_mem ha
      obtain ⟨F, h1, _, _, h4, h5⟩ := parts_sum x
      have := h4.out i a hi
      have := h5.out (i + 1)
      omega
    have e1 : (x.size : Int) * (d + x.size) = (d + x.size) + ((x.ar.map Xt.size).sum : Int) * (d + x.size) := by
      rw [show (x.size : Int) = 1 + ((x.ar.map Xt.size).sum : Int) by omega, Int.add_mul, Int.one_mul]
    have n4 : 0 ≤ ((x.ar.map Xt.size).sum : Int) * (d + x.size) := Int.mul_nonneg (by omega) (by omega)
    have := key x.size x.ar (fun _ h => h) hmem (n - d) (by omega)
    omega
theorem spare_steps (x : Xt) (d n : Int) (hd : 1 ≤ d) (hn : 0 ≤ n) (hM : d + n ≤ 29826162) : ∃ F : Nat → Int, F 0 = n - d ∧ F x.ar.length = x.sp d n ∧ Hid (∀ (k : Nat) (y : Xt), x.ar[k]? = some y → F (k + 1) = if F k < 0 then F k else y.sp (d + 1) (F k)) ∧ Hid (∀ k, F k < 0 → x.sp d n = F k) ∧ Hid (∀ k, F k ≤ n - d ∧ -29826162 ≤ F k) := by
  refine ⟨fun k => (x.ar.take k).foldl (fun m a => if m < 0 then m else a.sp (d + 1) m) (n - d), rfl, ?_, Lib.hid fun k y hy => ?_, Lib.hid fun k hk => ?_, Lib.hid fun k => ⟨?_, ?_⟩⟩
  · simp only [List.take_length]
    exact (Xt.sp_eq x d n).symm
  · show (x.ar.take (k + 1)).foldl _ _ = _
    rw [take_succ_of hy, List.foldl_append]
    rfl
  · rw [Xt.sp_eq]
    conv => lhs; rw [← List.take_append_drop k x.ar, List.foldl_append]
    exact fold_neg hk
  · exact fold_le (fun a _ m _ => by have := spare_le a (d + 1) m (by omega); omega) _
  · exact fold_ge (fun a _ m _ => by have := spare_le a (d + 1) m (by omega); omega) (n - d) (fun a _ m h0 h1 => spare_ge a 29826162 (d + 1) m (by omega) h0 (by omega)) _ (by omega) (Int.le_refl _)
set_option maxHeartbeats 1000000 in
set_option maxRecDepth 20000 in
theorem spare_any (x : Xt) : ∀ (d n : Int) w, RdX w w.heap.size x → 1 ≤ d → 0 ≤ n → d + n ≤ 29826162 → Calls Tryz.prog 9 #[xV x, .int .i64 d, .int .i64 n] w (Bel (.int .i64 (x.sp d n)) w) := by
  induction x using Xt.ind with
  | h x ih =>
    intro d n w hX hd hn hM
    have HX := Lib.hid hX
    have IH := Lib.hid ih
    have h9 := hX.len.1
    unfold maxLen at h9
    obtain ⟨F, hF0, hFl, HF, HN, HB⟩ := spare_steps x d n hd hn hM
    have hB0 := HB.out 0
    clear hX ih
    rw [← hFl]
    have HL := Lib.hid hFl
    have H0 := Lib.hid hF0
    clear hFl
    simp only [xV] at IH ⊢
    have hd1 : IntKind.i64.wrap (n - d) = n - d := Go.IntWalk.i64_in _ ⟨by omega, by omega⟩
    have hd2 : IntKind.i64.wrap (d + 1) = d + 1 := Go.IntWalk.i64_in _ ⟨by omega, by omega⟩
    go_enter Tryz.func9, Tryz.ntmps9
    go_wp2
    go_loopw [2, 15] (fun m i wr => ∃ k : Nat, k ≤ x.ar.length ∧ i = .int .i64 (k : Int) ∧ m = .int .i64 (F k) ∧ Below (bxW w x).heap.size (bxW w x) wr) (fun _ i _ => x.ar.length - (intOf i).toNat)
    case atStart => exact ⟨0, by omega, rfl, by rw [H0.out], Below.refl _ _⟩
    case round =>
      obtain ⟨k, hk, rfl, rfl, hbl⟩ := hrel
      obtain ⟨b0, b1, b2, b3, b4, b5, b6⟩ := bxW_cells hbl
      have hBW := bxW_below hbl
      by_cases hlt : k < x.ar.length
      · obtain ⟨ad, y, hA, had, hy, hm, ⟨c0, c1, c2, c3, c4, c5⟩, hr⟩ := (HX.out.to hBW).at_ hlt
        rw [hA]
        clear hA
        have HF2 := Lib.hid (HF.out k y hy)
        have HN2 := Lib.hid (HN.out k)
        have hB2 := HB.out k
        clear hy hB0
        generalize hFk : F k = m at *
        have HFk := Lib.hid hFk
        clear hFk
        by_cases hneg : m < 0
        · have HV := Lib.hid ((HL.out.trans (HN2.out hneg)))
          go_wp2
          go_ret
          exact ⟨(by rw [HV.out]; rfl), (by repeat (first | (with_reducible exact Below.refl _ _) | (with_reducible assumption) | (with_reducible exact bel_box _) | (with_reducible refine bel_step ?_ (by with_reducible assumption)) | (with_reducible refine Below.drew ?_) | (with_reducible refine below_drewN ?_ _) | (with_reducible refine bel_alloc ?_ _)))⟩
        · have hneg2 : 0 ≤ m := by omega
          have KY := Lib.hid (fun W (h : Below wr.heap.size wr W) => IH.out y hm (d + 1) m W (hr.to h) (by omega) hneg2 (by omega))
          have HF3 : Hid (F (k + 1) = y.sp (d + 1) m) := Lib.hid (by rw [HF2.out, if_neg hneg])
          clear hneg HF2
          go_wp2_with (go_at_call 9; (with_reducible refine (KY.out _ ?_).mono ?_); (focus ((repeat (first | (with_reducible exact Below.refl _ _) | (with_reducible assumption) | (with_reducible exact bel_box _) | (with_reducible refine bel_step ?_ (by with_reducible assumption)) | (with_reducible refine Below.drew ?_) | (with_reducible refine below_drewN ?_ _) | (with_reducible refine bel_alloc ?_ _))); done)); rintro e w1 ⟨rfl, hb1⟩)
          refine ⟨⟨k + 1, by omega, by congr 1, by rw [HF3.out], (by repeat (first | (with_reducible exact Below.refl _ _) | (with_reducible assumption) | (with_reducible exact bel_box _) | (with_reducible refine bel_step ?_ (by with_reducible assumption)) | (with_reducible refine Below.drew ?_) | (with_reducible refine below_drewN ?_ _) | (with_reducible refine bel_alloc ?_ _)))⟩, by simp [intOf]; omega⟩
      · obtain rfl : k = x.ar.length := by omega
        go_wp2
        go_ret
        exact ⟨rfl, (by repeat (first | (with_reducible exact Below.refl _ _) | (with_reducible assumption) | (with_reducible exact bel_box _) | (with_reducible refine bel_step ?_ (by with_reducible assumption)) | (with_reducible refine Below.drew ?_) | (with_reducible refine below_drewN ?_ _) | (with_reducible refine bel_alloc ?_ _)))⟩
end Go.Proofs.YtoekgbdomeklgaaGreatDoor
