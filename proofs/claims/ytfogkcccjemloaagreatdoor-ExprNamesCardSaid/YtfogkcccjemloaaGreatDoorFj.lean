/- variable, names of the reference. -/
import Derived.Test.YtfogkcccjemloaaGreatDoorFi
import Derived.Test.YtfogkcccjemloaaGreatDoorFc
namespace Go.Proofs.YtfogkcccjemloaaGreatDoor
set_option linter.unusedVariables false
set_option linter.unusedSimpArgs false
open Go.RowKit Go.Sort
set_option maxRecDepth 20000 in
theorem rvariable_any (x : Xt) (w : World) : Calls Tryz.prog 52 #[xV x] w (Bel (.bool (hasVar x.k)) w) := by
  simp only [xV]
  go_enter Tryz.func52, Tryz.ntmps52
  go_wp2
  all_goals go_ret
  all_goals exact ⟨ret_bool (by simp_all [hasVar]), (by repeat (first | (with_reducible exact Below.refl _ _) | (with_reducible assumption) | (with_reducible exact bel_box _) | (with_reducible refine bel_step ?_ (by with_reducible assumption)) | (with_reducible refine Below.drew ?_) | (with_reducible refine below_drewN ?_ _) | (with_reducible refine bel_alloc ?_ _)))⟩
/-- the row l behind list, from the row v -/
def LqR (T : TypeId) (z : Nat) (w : World) (B : Nat) (v : Value) (n : Nat) (xs : List Value) (w' : World) (v' : Value) : Prop := w'.ownsRow B T z v' n xs ∧ w.grownBy w' v.ownBlock ∧ (v'.ownBlock = v.ownBlock ∨ ∃ j, v'.ownBlock = some j ∧ w.heap.size ≤ j)
/-- the row l while list is under way -/
def LqI (T : TypeId) (z : Nat) (w : World) (x : Xt) (B : Nat) (ob : Option Nat) (n : Nat) (xs : List Value) (v : Value) (wr : World) : Prop := wr.ownsRow B T z v n xs ∧ (bxW w x).grownBy wr ob ∧ (v.ownBlock = ob ∨ ∃ j, v.ownBlock = some j ∧ (bxW w x).heap.size ≤ j)
theorem LqI.open_ {T : TypeId} {z : Nat} {w wr : World} {x : Xt} {B n : Nat} {ob : Option Nat} {xs : List Value} {v : Value} (h : LqI T z w x B ob n xs v wr) (hB : B ≤ w.heap.size) (hl : ∀ j, ob = some j → B ≤ j ∧ j < w.heap.size) :
    Below B w wr ∧ (wr.cell? ⟨w.heap.size, 0, none⟩ = some (.int .i64 x.k) ∧ wr.cell? ⟨w.heap.size, 1, none⟩ = some (.int .i64 x.op) ∧ wr.cell? ⟨w.heap.size, 2, none⟩ = some (.int .i64 x.t) ∧ wr.cell? ⟨w.heap.size, 3, none⟩ = some (.int .i64 x.v) ∧ wr.cell? ⟨w.heap.size, 4, none⟩ = some (.string x.nm) ∧ wr.cell? ⟨w.heap.size, 5, none⟩ = some (.slice x.A x.ar.length x.c)) ∧ w.heap.size < wr.heap.size := by
  obtain ⟨_, hg, _⟩ := h
  have hz := hg.size
  rw [bxW_size] at hz
  have hne : some w.heap.size ≠ ob := fun e => by have := (hl _ e.symm).2; omega
  refine ⟨Below.grown ((bel_box _).mono hB) hg (by rw [bxW_size]; omega) (fun j hj => (hl j hj).1), ⟨?_, ?_, ?_, ?_, ?_, ?_⟩, by omega⟩ <;> exact hg.cell (by simp [go_sem]) hne
theorem LqI.next {T : TypeId} {z : Nat} {w wr w1 : World} {x : Xt} {B n m : Nat} {ob : Option Nat} {xs ys : List Value} {v v' : Value} (h : LqI T z w x B ob n xs v wr) (k : LqR T z wr B v m ys w1 v') : LqI T z w x B ob m ys v' w1 := by
  obtain ⟨_, hg, ha⟩ := h
  obtain ⟨k1, k2, k3⟩ := k
  have hz := hg.size
  refine ⟨k1, hg.andThen k2 fun j hj => ?_, ?_⟩
  · rcases ha with ha | ⟨j', e, hj'⟩
    · exact .inr (ha.symm.trans hj)
    · rw [e] at hj
      exact .inl (by have := Option.some.inj hj; omega)
  · rcases k3 with k3 | ⟨j, e, hj⟩
    · rw [k3]; exact ha
    · exact .inr ⟨j, e, by omega⟩
theorem LqI.first {T : TypeId} {z : Nat} {w W w3 : World} {x : Xt} {B m : Nat} {ob : Option Nat} {ys : List Value} {v' : Value} (hW : Below (bxW w x).heap.size (bxW w x) W) (h1 : w3.ownsRow B T z v' m ys) (h2 : W.grownBy w3 ob) (h3 : v'.ownBlock = ob ∨ v'.ownBlock = some W.heap.size) : LqI T z w x B ob m ys v' w3 := by
  refine ⟨h1, ?_, h3.imp id fun e => ⟨_, e, hW.size⟩⟩
  exact ((below_grown hW).but ob).andThen h2 fun j hj => .inr hj
theorem LqI.last {T : TypeId} {z : Nat} {w wr : World} {x : Xt} {B n : Nat} {v0 : Value} {xs : List Value} {v : Value} (h : LqI T z w x B v0.ownBlock n xs v wr) : LqR T z w B v0 n xs wr v := by
  obtain ⟨h1, h2, h3⟩ := h
  refine ⟨h1, (World.grownBy_alloc w _ _).trans h2, h3.imp id fun ⟨j, e, hj⟩ => ⟨j, e, by rw [bxW_size] at hj; omega⟩⟩
/-- the parts on which it depends at the same instant (or all) -/
def kidsI (b : Bool) (x : Xt) : List Xt := if (b && x.k == 5) = true then [] else if (b && x.k == 7) = true then x.ar.take 1 else x.ar
theorem kids_mem {b : Bool} {x y : Xt} (h : y ∈ kidsI b x) : y ∈ x.ar := by
  unfold kidsI at h
  split at h
  · cases h
  · split at h
    · exact List.mem_of_mem_take h
    · exact h
def Xt.lst (b : Bool) (x : Xt) : List Xt := x :: ((kidsI b x).attach.map fun a => Xt.lst b a.1).flatten
termination_by SizeOf.sizeOf x
decreasing_by exact Xt.lt_of_mem (kids_mem a.2)
theorem Xt.lst_eq (b : Bool) (x : Xt) : x.lst b = x :: ((kidsI b x).map (Xt.lst b)).flatten := by
  rw [Xt.lst]
  congr 2
  simp
def stepN (acc : List ByteArray) (x : Xt) : List ByteArray := if (hasVar x.k && !hasN acc x.nm) = true then acc ++ [x.nm] else acc
def nmS (b : Bool) (x : Xt) (acc : List ByteArray) : List ByteArray := (x.lst b).foldl stepN acc
theorem nm_eq (b : Bool) (x : Xt) (acc : List ByteArray) : nmS b x acc = (kidsI b x).foldl (fun a y => nmS b y a) (stepN acc x) := by
  unfold nmS
  rw [Xt.lst_eq, List.foldl_cons, List.foldl_flatten, List.foldl_map]
theorem step_length (acc : List ByteArray) (x : Xt) : (stepN acc x).length ≤ acc.length + 1 := by
  unfold stepN; split <;> simp
theorem kids_size (b : Bool) (x : Xt) : ((kidsI b x).map Xt.size).sum ≤ (x.ar.map Xt.size).sum := by
  unfold kidsI
  split
  · simp
  · split
    · exact sum_take_le _ _ _
    · exact Nat.le_refl _
theorem nm_length (b : Bool) (x : Xt) : ∀ acc, (nmS b x acc).length ≤ acc.length + x.size := by
  induction x using Xt.ind with
  | h x ih =>
    intro acc
    have hk := kids_size b x
    have hm : ∀ y ∈ kidsI b x, ∀ acc, (nmS b y acc).length ≤ acc.length + y.size := fun y hy => ih y (kids_mem hy)
    rw [nm_eq, Xt.size_eq]
    have key : ∀ (l : List Xt) (a : List ByteArray), (∀ y ∈ l, ∀ acc, (nmS b y acc).length ≤ acc.length + y.size) → (l.foldl (fun a y => nmS b y a) a).length ≤ a.length + (l.map Xt.size).sum := by
      intro l
      induction l with
      | nil => intro a _; simp
      | cons y l ih2 =>
        intro a h
        have h1 := h y (by simp) a
        have h2 := ih2 (nmS b y a) fun z hz => h z (by simp [hz])
        simp only [List.foldl_cons, List.map_cons, List.sum_cons]
        omega
    have h1 := key _ (stepN acc x) hm
    have h2 := step_length acc x
    omega
/-- whether names skips the argument i -/
def skp (b : Bool) (x : Xt) (i : Nat) : Bool := b && (x.k == 5 || x.k == 7 && decide (0 < i))
theorem kids_skip {b : Bool} {x : Xt} {i : Nat} (h : skp b x i = true) : (kidsI b x).take (i + 1) = (kidsI b x).take i := by
  unfold skp at h
  unfold kidsI
  cases b
  · simp at h
  · simp only [Bool.true_and] at h ⊢
    by_cases h5 : (x.k == 5) = true
    · rw [if_pos h5]; simp
    · rw [if_neg h5]
      rw [Bool.not_eq_true] at h5
      rw [h5, Bool.false_or, Bool.and_eq_true, decide_eq_true_eq] at h
      rw [if_pos h.1, List.take_take, List.take_take]
      congr 1
      omega
theorem kids_go {b : Bool} {x y : Xt} {i : Nat} (h : skp b x i = false) (hy : x.ar[i]? = some y) : (kidsI b x).take (i + 1) = (kidsI b x).take i ++ [y] := by
  unfold skp at h
  unfold kidsI
  cases b
  · exact take_succ_of hy
  · simp only [Bool.true_and] at h ⊢
    rw [Bool.or_eq_false_iff] at h
    rw [if_neg (by rw [h.1]; simp)]
    by_cases h7 : (x.k == 7) = true
    · rw [h7, Bool.true_and, decide_eq_false_iff_not] at h
      obtain rfl : i = 0 := by omega
      rw [if_pos h7, List.take_take]
      exact take_succ_of hy
    · rw [if_neg h7]
      exact take_succ_of hy
theorem kids_all (b : Bool) (x : Xt) : (kidsI b x).take x.ar.length = kidsI b x := by
  apply List.take_of_length_le
  unfold kidsI
  split
  · simp
  · split
    · simp; omega
    · exact Nat.le_refl _
theorem parts_names (b : Bool) (x : Xt) (acc : List ByteArray) : ∃ G : Nat → List ByteArray, nmS b x acc = G x.ar.length ∧ G 0 = stepN acc x ∧ Hid (∀ k, skp b x k = true → G (k + 1) = G k) ∧ Hid (∀ k y, skp b x k = false → x.ar[k]? = some y → G (k + 1) = nmS b y (G k)) := by
  refine ⟨fun k => ((kidsI b x).take k).foldl (fun a y => nmS b y a) (stepN acc x), ?_, rfl, Lib.hid fun k h => ?_, Lib.hid fun k y h hy => ?_⟩
  · show _ = List.foldl _ _ (List.take x.ar.length _)
    rw [kids_all, nm_eq]
  · show List.foldl _ _ (List.take (k + 1) _) = _
    rw [kids_skip h]
  · show List.foldl _ _ (List.take (k + 1) _) = _
    rw [kids_go h hy, List.foldl_append]
    rfl
theorem stInfo : (Tryz.prog.info? 9).map (fun i => (i.zero, i.size, i.bytes)) = some (some (.string ⟨#[]⟩), 1, 16) := by kernel_rfl
theorem row1 (W : World) (nm : ByteArray) (t : TypeId) : ∀ j u, [Value.string nm][j]? = some u → (W.alloc (.cells #[.string nm] t)).cell? ((⟨W.heap.size, 0, none⟩ : Addr).add j) = some u := by
  intro j u hu
  rcases j with _ | j
  · obtain rfl : Value.string nm = u := by simpa using hu
    rw [show (Addr.add ⟨W.heap.size, 0, none⟩ 0) = ⟨W.heap.size, 0, none⟩ from rfl]
    simp [go_sem]
  · simp at hu
end Go.Proofs.YtfogkcccjemloaaGreatDoor
