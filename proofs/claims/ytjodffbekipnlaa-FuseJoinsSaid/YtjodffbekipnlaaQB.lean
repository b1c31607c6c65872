/- Texts of one chain, in one file. -/
import Derived.Lib.AppendZeros
import Derived.Lib.SliceRun
import Derived.Deep.Slices
import Derived.Deep.CutRange
import Derived.Deep.RegionWith
import Derived.Maps.Own
import Derived.Maps.OwnIn
import Derived.Maps.Views
import Derived.StringKeys
import Derived.Test.YtjodffbekipnlaaQA
/- What is empty, what is combined, by the reference. -/
namespace Go.Proofs.Ytjodffbekipnlaa
set_option linter.unusedVariables false
set_option linter.unusedSimpArgs false
open Go.RowKit Go.Sort
namespace fu
def empZ (l : List (Rw Zt)) : Bool := l.all fun b => b.l.isEmpty
theorem empZ_take {l : List (Rw Zt)} {k : Nat} {y : Rw Zt} (h : l[k]? = some y) : empZ (l.take (k + 1)) = (empZ (l.take k) && y.l.isEmpty) := by
  unfold empZ
  rw [take_succ_of h, List.all_append]; simp
theorem empZ_no {l : List (Rw Zt)} {y : Rw Zt} (h : y ∈ l) (h0 : 0 < y.l.length) : empZ l = false := by
  rw [Bool.eq_false_iff]
  intro e
  have := List.all_eq_true.1 e y h
  rw [List.isEmpty_iff] at this
  rw [this] at h0
  simp at h0
set_option maxRecDepth 100000 in
set_option maxHeartbeats 4000000 in
theorem rempty_any (s : Zt) (w : World) (hR : RdR w w.heap.size 1 AC s.br) (hl : s.br.l.length ≤ 200000) (hm : ∀ b ∈ s.br.l, b.l.length ≤ 9223372036854775807) : Calls Try.prog 23 #[zV s] w (Bel (.bool (empZ s.br.l)) w) := by
  obtain ⟨V, hV⟩ : ∃ V, empZ s.br.l = V := ⟨_, rfl⟩
  have HV := Lib.hid hV
  rw [hV]
  have HR := Lib.hid hR
  have HM := Lib.hid hm
  clear hV hR hm
  have hbx := boxZ_one w s
  have hb0 : Below w.heap.size w (w.alloc (zB s)) := (by repeat (first | (with_reducible exact Below.refl _ _) | (with_reducible assumption) | (with_reducible exact bel_box _) | (with_reducible refine bel_step ?_ (by with_reducible assumption)) | (with_reducible refine Below.drew ?_) | (with_reducible refine below_drewN ?_ _) | (with_reducible refine bel_alloc ?_ _)))
  have HBX := Lib.hid hbx
  have HB0 := Lib.hid hb0
  clear hbx hb0
  go_enter Try.func23, Try.ntmps23
  go_wp2
  go_loopw [3] (fun i wr => ∃ k : Nat, k ≤ s.br.l.length ∧ i = .int .i64 (k : Int) ∧ Below (w.alloc (zB s)).heap.size (w.alloc (zB s)) wr ∧ Hid (empZ (s.br.l.take k) = true)) (fun i _ => s.br.l.length - (intOf i).toNat)
  case atStart => exact ⟨0, by omega, rfl, Below.refl _ _, Lib.hid rfl⟩
  case round =>
    obtain ⟨k, hk, rfl, hbW, hno⟩ := hrel
    have hb9 := HB0.out.trans (hbW.mono HB0.out.size)
    obtain ⟨m0, m1, m2, m3, m4, m5, m6, m7, m8, m9, m10, m11⟩ := HBX.out.keep hbW
    by_cases hlt : k < s.br.l.length
    · obtain ⟨ad2, b, hA2, had2, hb, hbm, c2⟩ := (HR.out.blw oneB_A hb9 (Nat.le_refl _)).at_ hlt
      have c2 : wr.cell? (ad2.add (k * 1)) = some (.slice b.A b.l.length b.c) := c2
      rw [Nat.mul_one] at c2
      rw [hA2] at m11
      have hml := HM.out b hbm
      have d2 : (k : Int) < (s.br.l.length : Int) := by omega
      by_cases h0 : 0 < b.l.length
      · have h1 := HV.out
        rw [empZ_no hbm h0] at h1
        have H1 := Lib.hid h1
        clear h1 HV HR HM hb hbm hA2 hno
        generalize b.l.length = x at *
        have d3 : (0 : Int) < (x : Int) := by omega
        go_wp2
        go_ret
        exact ⟨by rw [← H1.out]; rfl, hb9⟩
      · have h1 : Hid (empZ (s.br.l.take (k + 1)) = true) := Lib.hid (by rw [empZ_take hb, hno.out, List.isEmpty_iff.2 (List.eq_nil_of_length_eq_zero (by omega))]; rfl)
        have h2 : b.l.length = 0 := by omega
        rw [h2] at c2
        clear HV HR HM hb hbm hA2 hno h2
        go_wp2
        go_roundw
        case rel => exact ⟨k + 1, by omega, by go_num, hbW, h1⟩
        case measure => simp [intOf]; omega
    · obtain rfl : k = s.br.l.length := by omega
      have h1 := hno.out
      rw [List.take_length] at h1
      have h2 := HV.out
      rw [h1] at h2
      have H2 := Lib.hid h2
      clear h1 h2 hno HV HR HM
      go_wp2
      go_ret
      exact ⟨by rw [← H2.out]; rfl, hb9⟩
theorem boxZ_three (w : World) (o o' : Obj) (z : Zt) : BoxZ (((w.alloc o).alloc o').alloc (zB z)) (w.heap.size + 2) z := by
  have h := boxZ_one ((w.alloc o).alloc o') z
  rwa [World.size_alloc, World.size_alloc] at h
/-- a and a case b, in front of each other, are combined -/
def mateR (a b : Zt) : Bool := decide (a.k = 3) && (a.nm.toList == b.nm.toList) && decide (a.t = b.t) && (a.br.l.length == b.br.l.length) && !asg1 HK a.hd a.ct
theorem mateR_eq {a b : Zt} (hb : b.k = 3) : mateR a b = mate HK a.ct b.ct := by
  unfold mateR mate
  rw [Zt.ct_h, Zt.ct_h, Zt.ct_br, Zt.ct_br, List.length_map, List.length_map]
  have e1 : HK.c a.hd = decide (a.k = 3) := rfl
  have e2 : HK.c b.hd = true := by show decide (b.k = 3) = true; simpa using hb
  have e3 : HK.key a.hd b.hd = (decide (a.nm.toList = b.nm.toList) && decide (a.t = b.t)) := rfl
  rw [e1, e2, e3, Bool.beq_eq_decide_eq]
  simp [Bool.and_assoc]
set_option maxRecDepth 100000 in
set_option maxHeartbeats 4000000 in
theorem rmates_any (a b : Zt) (w : World) (hR : RsZ w w.heap.size a) (hS : SmZ 200000 a) (hl : b.br.l.length ≤ 9223372036854775807) : Calls Try.prog 24 #[zV a, zV b] w (Bel (.bool (mateR a b)) w) := by
  obtain ⟨V, hV⟩ : ∃ V, mateR a b = V := ⟨_, rfl⟩
  have HV := Lib.hid hV
  rw [hV]
  have hla := hS.of.2.2.1
  clear hV
  have HN : Hid (¬ (a.k = 3 ∧ a.nm.toList = b.nm.toList ∧ a.t = b.t ∧ a.br.l.length = b.br.l.length) → V = false) := Lib.hid fun h => by
    rw [← HV.out]
    unfold mateR
    rw [Bool.eq_false_iff]
    intro e
    simp only [Bool.and_eq_true, decide_eq_true_eq, beq_iff_eq] at e
    exact h ⟨e.1.1.1.1, e.1.1.1.2, e.1.1.2, e.1.2⟩
  cases q1 : (a.k != 3)
  case true =>
    have hv : V = false := HN.out fun h => by simp [h.1] at q1
    clear HN HV hR hS
    go_enter Try.func24, Try.ntmps24
    go_wp2
    go_ret
    exact ⟨by rw [hv]; rfl, (by repeat (first | (with_reducible exact Below.refl _ _) | (with_reducible assumption) | (with_reducible exact bel_box _) | (with_reducible refine bel_step ?_ (by with_reducible assumption)) | (with_reducible refine Below.drew ?_) | (with_reducible refine below_drewN ?_ _) | (with_reducible refine bel_alloc ?_ _)))⟩
  cases q2 : (a.nm.toList == b.nm.toList)
  case false =>
    have hv : V = false := HN.out fun h => by simp [h.2.1] at q2
    clear HN HV hR hS
    go_enter Try.func24, Try.ntmps24
    go_wp2
    go_ret
    exact ⟨by rw [hv]; rfl, (by repeat (first | (with_reducible exact Below.refl _ _) | (with_reducible assumption) | (with_reducible exact bel_box _) | (with_reducible refine bel_step ?_ (by with_reducible assumption)) | (with_reducible refine Below.drew ?_) | (with_reducible refine below_drewN ?_ _) | (with_reducible refine bel_alloc ?_ _)))⟩
  cases q3 : (a.t != b.t)
  case true =>
    have hv : V = false := HN.out fun h => by simp [h.2.2.1] at q3
    clear HN HV hR hS
    go_enter Try.func24, Try.ntmps24
    go_wp2
    go_ret
    exact ⟨by rw [hv]; rfl, (by repeat (first | (with_reducible exact Below.refl _ _) | (with_reducible assumption) | (with_reducible exact bel_box _) | (with_reducible refine bel_step ?_ (by with_reducible assumption)) | (with_reducible refine Below.drew ?_) | (with_reducible refine below_drewN ?_ _) | (with_reducible refine bel_alloc ?_ _)))⟩
  cases q4 : (((a.br.l.length : Nat) : Int) != ((b.br.l.length : Nat) : Int))
  case true =>
    have hv : V = false := HN.out fun h => by simp [h.2.2.2] at q4
    clear HN HV hR hS
    go_enter Try.func24, Try.ntmps24
    go_wp2
    go_ret
    exact ⟨by rw [hv]; rfl, (by repeat (first | (with_reducible exact Below.refl _ _) | (with_reducible assumption) | (with_reducible exact bel_box _) | (with_reducible refine bel_step ?_ (by with_reducible assumption)) | (with_reducible refine Below.drew ?_) | (with_reducible refine below_drewN ?_ _) | (with_reducible refine bel_alloc ?_ _)))⟩
  have hv : Hid ((!asg1 HK a.hd a.ct) = V) := Lib.hid (by
    rw [← HV.out]
    unfold mateR
    have p1 : a.k = 3 := by simpa using q1
    have p3 : a.t = b.t := by simpa using q3
    have p4 : a.br.l.length = b.br.l.length := by
      have h : ((a.br.l.length : Nat) : Int) = ((b.br.l.length : Nat) : Int) := by simpa using q4
      omega
    rw [p1, q2, p3, p4]
    simp)
  have KA : Hid (∀ W (p : Nat), Below w.heap.size w W → BoxZ W p a → p < W.heap.size → Calls Try.prog 28 #[.slice (some ⟨p, 0, none⟩) 1 1, .string a.nm] W (Bel (.bool (asg1 HK a.hd a.ct)) W)) := Lib.hid fun W p hb hbx hp => by
    have h1 := rasg_all _ ⟨some ⟨p, 0, none⟩, 1, [a]⟩ a.nm a.hd W (Nat.le_refl _) rfl ⟨⟨fun _ => ⟨_, rfl, hp⟩, fun ad i y e hy => by
      obtain rfl := Option.some.inj e
      cases i with
      | zero =>
        obtain rfl : a = y := by simpa using hy
        unfold BoxZ at hbx
        exact hbx
      | succ i => simp at hy, by simp [maxLen], Nat.le_refl _⟩, fun t ht => by
        obtain rfl : t = a := by simpa using ht
        exact hR.blw hb hb.size⟩ ⟨by simp, fun t ht => by
        obtain rfl : t = a := by simpa using ht
        exact hS⟩
    have e : asgL HK a.hd (cts [a]) = asg1 HK a.hd a.ct := by simp [cts, asgL]
    rw [e] at h1
    exact h1
  generalize asg1 HK a.hd a.ct = v at *
  clear HN HV hR hS
  go_enter Try.func24, Try.ntmps24
  go_wp2_with (go_at_call 28; (with_reducible refine (KA.out _ _ ?_ ?_ ?_).mono ?_); (focus ((repeat (first | (with_reducible exact Below.refl _ _) | (with_reducible assumption) | (with_reducible exact bel_box _) | (with_reducible refine bel_step ?_ (by with_reducible assumption)) | (with_reducible refine Below.drew ?_) | (with_reducible refine below_drewN ?_ _) | (with_reducible refine bel_alloc ?_ _))); done)); (focus (exact boxZ_three _ _ _ _)); (focus (first | (simp; done) | (simp; omega))); rintro e w5 ⟨rfl, hb5⟩)
  go_ret
  exact ⟨by rw [← hv.out]; rfl, (by repeat (first | (with_reducible exact Below.refl _ _) | (with_reducible assumption) | (with_reducible exact bel_box _) | (with_reducible refine bel_step ?_ (by with_reducible assumption)) | (with_reducible refine Below.drew ?_) | (with_reducible refine below_drewN ?_ _) | (with_reducible refine bel_alloc ?_ _)))⟩
end fu
end Go.Proofs.Ytjodffbekipnlaa
/- The weight of a list of statements. -/
namespace Go.Proofs.Ytjodffbekipnlaa
set_option linter.unusedVariables false
set_option linter.unusedSimpArgs false
open Go.RowKit Go.Sort
namespace fu
/-- the weight of a statement -/
def wz1 (s : Zt) : Nat := 1 + s.ou.l.length + s.ar.l.length + s.br.l.length + (s.br.l.attach.map fun b => (b.1.l.attach.map fun t => wz1 t.1).sum).sum
termination_by SizeOf.sizeOf s
decreasing_by exact Zt.lt_of_mem b.2 t.2
def wz (l : List Zt) : Nat := sumL wz1 l
def wzB (l : List (Rw Zt)) : Nat := sumL (fun b => wz b.l) l
theorem attach_map {α β : Type} (f : α → β) (l : List α) : (l.attach.map fun t => f t.1) = l.map f := by
  rw [List.map_attach_eq_pmap]
  simp
theorem wz1_eq (s : Zt) : wz1 s = 1 + s.ou.l.length + s.ar.l.length + s.br.l.length + wzB s.br.l := by
  rw [wz1]
  unfold wzB wz sumL
  have h1 : ∀ b : Rw Zt, (b.l.attach.map fun t => wz1 t.1) = b.l.map wz1 := fun b => attach_map wz1 b.l
  simp only [h1]
  rw [attach_map (fun b : Rw Zt => (b.l.map wz1).sum)]
theorem wz_take {l : List Zt} {k : Nat} {z : Zt} (h : l[k]? = some z) : wz (l.take (k + 1)) = wz (l.take k) + wz1 z := by
  unfold wz
  rw [take_succ_of h, sumL_append, sumL_cons]
  rfl
theorem wz_take_le (l : List Zt) (k : Nat) : wz (l.take k) ≤ wz l := sumL_take_le _ _ _
theorem wzB_take {l : List (Rw Zt)} {k : Nat} {z : Rw Zt} (h : l[k]? = some z) : wzB (l.take (k + 1)) = wzB (l.take k) + wz z.l := by
  unfold wzB
  rw [take_succ_of h, sumL_append, sumL_cons]
  rfl
theorem wzB_take_le (l : List (Rw Zt)) (k : Nat) : wzB (l.take k) ≤ wzB l := sumL_take_le _ _ _
set_option maxRecDepth 100000 in
set_option maxHeartbeats 4000000 in
theorem weigh_all : ∀ (n : Nat) (a : Rw Zt) (m : Nat) (w : World), SizeOf.sizeOf a.l ≤ n → m ≤ 400 → RsL w w.heap.size a → SmL 140737488355328 a.l → Calls Try.prog 16 #[.slice a.A a.l.length a.c, .int .i64 (m : Int)] w (fun e w' => ∃ N : Nat, e = .returned (.int .i64 (N : Int)) ∧ Below w.heap.size w w' ∧ N ≤ 562949953421312 + m ∧ (N = wz a.l ∨ (m ≤ N ∧ m ≤ wz a.l))) := by
  intro n
  induction n with
  | zero => intro a m w h; cases ha : a.l <;> rw [ha] at h <;> simp at h
  | succ n ih =>
    intro a m w hn hm hR hS
    have IH : Hid (∀ z ∈ a.l, ∀ b ∈ z.br.l, ∀ m : Nat, m ≤ 400 → ∀ W, Below w.heap.size w W → Calls Try.prog 16 #[.slice b.A b.l.length b.c, .int .i64 (m : Int)] W (fun e w' => ∃ N : Nat, e = .returned (.int .i64 (N : Int)) ∧ Below W.heap.size W w' ∧ N ≤ 562949953421312 + m ∧ (N = wz b.l ∨ (m ≤ N ∧ m ≤ wz b.l)))) := Lib.hid fun z hz b hb m hm W hbl => ih b m W (by
        have h1 := List.sizeOf_lt_of_mem hz
        have h2 := Zt.lt_row hb
        omega) hm (((hR.2 z hz).br hb).blw hbl hbl.size) ((hS.2 z hz).br hb)
    have HR := Lib.hid hR
    have HS := Lib.hid hS.2
    have hlen := hS.1
    clear ih hR hn hS
    obtain ⟨A, c, l⟩ := a
    simp only at IH HR HS hlen ⊢
    go_enter Try.func16, Try.ntmps16
    go_wp2
    go_loopw [5, 6] (fun nv i wr => ∃ k N : Nat, k ≤ l.length ∧ i = .int .i64 (k : Int) ∧ nv = .int .i64 (N : Int) ∧ N ≤ 562949953421312 + m ∧ Below w.heap.size w wr ∧ Hid (N = wz (l.take k) ∨ (m ≤ N ∧ m ≤ wz l))) (fun _ i _ => l.length - (intOf i).toNat)
    case atStart => exact ⟨0, 0, by omega, rfl, rfl, by omega, Below.refl _ _, Lib.hid (.inl rfl)⟩
    case round =>
      obtain ⟨k, N, hk, rfl, rfl, hN, hbl, hE⟩ := hrel
      by_cases hlt : k < l.length
      · by_cases hNm : N < m
        · obtain ⟨ad, z, hA, had, hz, hmm, c0, c1, c2, c3, c4, c5, c6, c7, c8, c9, c10, c11⟩ := (HR.out.1.blw oneB_Z hbl (Nat.le_refl _)).at_ hlt
          simp only at hA
          subst hA
          simp only at hz hmm
          have hNe : N = wz (l.take k) := by
            rcases hE.out with h | h
            · exact h
            · omega
          have HW : Hid (wz (l.take (k + 1)) = N + (1 + z.ou.l.length + z.ar.l.length + z.br.l.length + wzB z.br.l)) := Lib.hid (by rw [wz_take hz, ← hNe, wz1_eq])
          have HL := Lib.hid (wz_take_le l (k + 1))
          have HZ : Hid (∀ W, Below w.heap.size w W → W.cell? ⟨(ad.add (k * 12)).block, (ad.add (k * 12)).off + 11, none⟩ = some (.slice z.br.A z.br.l.length z.br.c)) := Lib.hid fun W hb => ((HR.out.1.blw oneB_Z hb (Nat.le_refl _)).2.1 ad k z rfl hz).2.2.2.2.2.2.2.2.2.2.2
          have IHz := Lib.hid (IH.out z hmm)
          have HB := Lib.hid (fun W (hb : Below w.heap.size w W) => ((HR.out.2 z hmm).brs).blw hb hb.size)
          have g1 := (HS.out z hmm).of.1
          have g2 := (HS.out z hmm).of.2.1
          have g3 := (HS.out z hmm).of.2.2.1
          have d1 : (k : Int) < (l.length : Int) := by omega
          have u3 : (N : Int) < (m : Int) := by omega
          clear hz hmm hNe hE IH HR HS
          generalize wz (l.take k) = y0 at *
          obtain ⟨y1, hy1⟩ : ∃ y, wz (l.take (k + 1)) = y := ⟨_, rfl⟩
          rw [hy1] at HW HL
          have HY1 := Lib.hid hy1
          clear hy1
          generalize wz l = y2 at *
          obtain ⟨x, hx⟩ : ∃ x : Nat, N + 1 + z.ou.l.length + z.ar.l.length + z.br.l.length = x := ⟨_, rfl⟩
          have hxl : x ≤ 422212465066384 := by omega
          have HX := Lib.hid hx
          have hxi : (N : Int) + 1 + (z.ou.l.length : Int) + (z.ar.l.length : Int) + (z.br.l.length : Int) = (x : Int) := by omega
          clear hx
          generalize l.length = L at *
          go_wp2
          go_quiet (fail)
          go_wp2
          clear c0 c1 c2 c3 c4 c5 c6 c7 c8 c9 c10 c11
          go_loopw [5, 7] (fun nv j W => ∃ i N2 : Nat, i ≤ z.br.l.length ∧ j = .int .i64 (i : Int) ∧ nv = .int .i64 (N2 : Int) ∧ N2 ≤ 562949953421312 + m ∧ Below w.heap.size w W ∧ Hid (N2 = x + wzB (z.br.l.take i) ∨ (m ≤ N2 ∧ m ≤ y2))) (fun _ j _ => z.br.l.length - (intOf j).toNat)
          case atStart => exact ⟨0, x, by omega, rfl, by congr 1 <;> omega, by omega, (by repeat (first | (with_reducible exact Below.refl _ _) | (with_reducible assumption) | (with_reducible exact bel_box _) | (with_reducible refine bel_step ?_ (by with_reducible assumption)) | (with_reducible refine Below.drew ?_) | (with_reducible refine below_drewN ?_ _) | (with_reducible refine bel_alloc ?_ _))), Lib.hid (.inl rfl)⟩
          case round =>
            obtain ⟨i, N2, hi, rfl, rfl, hN2, hbW, hE⟩ := hrel
            have c11 := HZ.out wr hbW
            by_cases hlt2 : i < z.br.l.length
            · by_cases hNm2 : N2 < m
              · obtain ⟨ad2, b, hA2, had2, hb, hbm, c2⟩ := (HB.out wr hbW).1.at_ hlt2
                have c2 : wr.cell? (ad2.add (i * 1)) = some (.slice b.A b.l.length b.c) := c2
                rw [Nat.mul_one] at c2
                rw [hA2] at c11
                have hNe : N2 = x + wzB (z.br.l.take i) := by
                  rcases hE.out with h | h
                  · exact h
                  · omega
                have HWB : Hid (wzB (z.br.l.take (i + 1)) = wzB (z.br.l.take i) + wz b.l) := Lib.hid (wzB_take hb)
                have HLB := Lib.hid (wzB_take_le z.br.l (i + 1))
                obtain ⟨d, hd⟩ : ∃ d, m - N2 = d := ⟨_, rfl⟩
                have u1 : (m : Int) - (N2 : Int) = (d : Int) := by omega
                have u2 : IntKind.i64.wrap (d : Int) = (d : Int) := Go.IntWalk.i64_in _ ⟨by omega, by omega⟩
                have u4 : (N2 : Int) < (m : Int) := by omega
                have d2 : (i : Int) < (z.br.l.length : Int) := by omega
                have HDM := Lib.hid hd
                have KB := Lib.hid (IHz.out b hbm d (by omega))
                have HH : Hid (∀ N3 : Nat, N3 = wz b.l ∨ (d ≤ N3 ∧ d ≤ wz b.l) → N2 + N3 = x + wzB (z.br.l.take (i + 1)) ∨ (m ≤ N2 + N3 ∧ m ≤ y2)) := Lib.hid fun N3 h => by
                  have h1 := HWB.out
                  have h2 := HLB.out
                  have h3 := HW.out
                  have h4 := HL.out
                  have h5 := HX.out
                  rcases h with h | ⟨h, h'⟩
                  · left; omega
                  · right; omega
                clear hb hbm hA2 hE hNe HWB HLB hd HW HL HX hxi hxl
                go_wp2_with (go_at_call 16; (with_reducible refine (KB.out _ ?_).mono ?_); (focus ((repeat (first | (with_reducible exact Below.refl _ _) | (with_reducible assumption) | (with_reducible exact bel_box _) | (with_reducible refine bel_step ?_ (by with_reducible assumption)) | (with_reducible refine Below.drew ?_) | (with_reducible refine below_drewN ?_ _) | (with_reducible refine bel_alloc ?_ _))); done)); rintro e w5 ⟨N3, rfl, hb5, hN3, hE3⟩)
                exact ⟨⟨i + 1, N2 + N3, by omega, by congr 1, by congr 1, by have := HDM.out; omega, (by repeat (first | (with_reducible exact Below.refl _ _) | (with_reducible assumption) | (with_reducible exact bel_box _) | (with_reducible refine bel_step ?_ (by with_reducible assumption)) | (with_reducible refine Below.drew ?_) | (with_reducible refine below_drewN ?_ _) | (with_reducible refine bel_alloc ?_ _))), Lib.hid (HH.out N3 hE3)⟩, by simp [intOf]; omega⟩
              · have u4 : (m : Int) ≤ (N2 : Int) := by omega
                have hF : Hid (N2 = y1 ∨ (m ≤ N2 ∧ m ≤ y2)) := Lib.hid (by
                  rcases hE.out with h | h
                  · right
                    have h2 := wzB_take_le z.br.l i
                    have h3 := HW.out
                    have h4 := HL.out
                    have h5 := HX.out
                    omega
                  · exact .inr h)
                clear hE HW HL HX hxi hxl
                go_wp2
                exact ⟨⟨k + 1, N2, by omega, by congr 1, rfl, hN2, hbW, Lib.hid (by rw [HY1.out]; exact hF.out)⟩, by simp [intOf]; omega⟩
            · obtain rfl : i = z.br.l.length := by omega
              have hF : Hid (N2 = y1 ∨ (m ≤ N2 ∧ m ≤ y2)) := Lib.hid (by
                rcases hE.out with h | h
                · left
                  rw [List.take_length] at h
                  have h3 := HW.out
                  have h5 := HX.out
                  omega
                · exact .inr h)
              clear hE HW HL HX hxi hxl
              go_wp2
              exact ⟨⟨k + 1, N2, by omega, by congr 1, rfl, hN2, hbW, Lib.hid (by rw [HY1.out]; exact hF.out)⟩, by simp [intOf]; omega⟩
        · have u3 : (m : Int) ≤ (N : Int) := by omega
          have hF : N = wz l ∨ (m ≤ N ∧ m ≤ wz l) := by
            right
            have h2 := wz_take_le l k
            rcases hE.out with h | h
            · omega
            · exact h
          clear hE HR HS IH
          go_wp2
          go_ret
          exact ⟨N, rfl, hbl, hN, hF⟩
      · obtain rfl : k = l.length := by omega
        have hF : N = wz l ∨ (m ≤ N ∧ m ≤ wz l) := by
          have := hE.out
          rwa [List.take_length] at this
        clear hE HR HS IH
        go_wp2
        go_ret
        exact ⟨N, rfl, hbl, hN, hF⟩
end fu
end Go.Proofs.Ytjodffbekipnlaa
/- Light; empty cases, by the law. -/
namespace Go.Proofs.Ytjodffbekipnlaa
set_option linter.unusedVariables false
set_option linter.unusedSimpArgs false
open Go.RowKit Go.Sort
namespace fu
theorem sumL_memZ {l : List Zt} {z : Zt} (h : z ∈ l) : wz1 z ≤ wz l := sumL_mem wz1 h
theorem wz_len : ∀ (l : List Zt), l.length ≤ wz l
  | [] => Nat.zero_le _
  | z :: l => by
    have h := wz_len l
    have h1 := wz1_eq z
    have h2 : wz (z :: l) = wz1 z + wz l := sumL_cons _ _ _
    rw [List.length_cons]
    omega
theorem smZ_of {m : Nat} (s : Zt) : wz1 s ≤ m → SmZ m s := by
  induction s using Zt.ind with
  | h s ih =>
    intro h
    rw [wz1_eq] at h
    have hb : ∀ a ∈ s.br.l, wz a.l ≤ m := fun a ha => by
      have h1 : wz a.l ≤ wzB s.br.l := sumL_mem (fun b : Rw Zt => wz b.l) ha
      omega
    exact .mk s (by omega) (by omega) (by omega) (fun a ha => by have := wz_len a.l; have := hb a ha; omega) fun a ha t ht => ih a ha t ht (by have := sumL_memZ ht; have := hb a ha; omega)
theorem smL_of {m : Nat} {l : List Zt} (h : wz l ≤ m) : SmL m l := ⟨by have := wz_len l; omega, fun t ht => smZ_of t (by have := sumL_memZ ht; omega)⟩
set_option maxRecDepth 100000 in
set_option maxHeartbeats 4000000 in
theorem light_any (a : Rw Zt) (w : World) (hR : RsL w w.heap.size a) (hS : SmL 140737488355328 a.l) : Calls Try.prog 7 #[.slice a.A a.l.length a.c] w (Bel (.bool (decide (wz a.l < 400))) w) := by
  have K : Hid (Calls Try.prog 16 #[.slice a.A a.l.length a.c, .int .i64 400] w (fun e w' => ∃ N : Nat, e = .returned (.int .i64 (N : Int)) ∧ Below w.heap.size w w' ∧ N ≤ 562949953421312 + 400 ∧ (N = wz a.l ∨ (400 ≤ N ∧ 400 ≤ wz a.l)))) := Lib.hid (weigh_all _ a 400 w (Nat.le_refl _) (Nat.le_refl _) hR hS)
  clear hR hS
  go_enter Try.func7, Try.ntmps7
  go_wp2_with (go_at_call 16; (with_reducible refine (K.out).mono ?_); rintro e w5 ⟨N, rfl, hb5, hN, hE⟩)
  go_ret
  refine ⟨?_, hb5⟩
  have : decide ((N : Int) < 400) = decide (wz a.l < 400) := by
    rw [decide_eq_decide]
    rcases hE with h | h <;> omega
  rw [this]
  rfl
end fu
end Go.Proofs.Ytjodffbekipnlaa
/- Rows of statements: owned, and read by what their blocks are. -/
namespace Go.Proofs.Ytjodffbekipnlaa
set_option linter.unusedVariables false
set_option linter.unusedSimpArgs false
open Go.RowKit Go.Sort
namespace fu
def zCs (z : Zt) : List Value := [.int .i64 z.k, .string z.nm, .int .i64 z.t, .int .i64 z.r.k, .int .i64 z.r.op, .int .i64 z.r.t, .int .i64 z.r.v, .string z.r.nm, .slice z.r.A z.r.ar.length z.r.c, .slice z.ou.A z.ou.l.length z.ou.c, .slice z.ar.A z.ar.l.length z.ar.c, .slice z.br.A z.br.l.length z.br.c]
def zsC (l : List Zt) : List Value := l.flatMap zCs
theorem zsC_length (l : List Zt) : (zsC l).length = l.length * 12 := by
  induction l with
  | nil => rfl
  | cons a r ih => simp [zsC, zCs] at ih ⊢; omega
theorem zsC_app (l r : List Zt) : zsC (l ++ r) = zsC l ++ zsC r := by simp [zsC]
theorem zsC_one (z : Zt) : zsC [z] = zCs z := by simp [zsC]
abbrev z0 : Value := .agg #[.int .i64 0, .string ⟨#[]⟩, .int .i64 0, .int .i64 0, .int .i64 0, .int .i64 0, .int .i64 0, .string ⟨#[]⟩, .slice none 0 0, .slice none 0 0, .slice none 0 0, .slice none 0 0]
theorem zpInfo : (Try.prog.info? 38).map (fun i => (i.zero, i.size, i.bytes)) = some (some z0, 12, 176) := by kernel_rfl
theorem z_one (z : Zt) : ∀ u ∈ zCs z, u.oneCell' = true := by
  intro u hu
  simp [zCs] at hu
  rcases hu with rfl | rfl | rfl | rfl | rfl | rfl | rfl | rfl | rfl | rfl | rfl | rfl <;> rfl
theorem zs_one (l : List Zt) : ∀ u ∈ zsC l, u.oneCell' = true := by
  intro u hu
  simp only [zsC, List.mem_flatMap] at hu
  obtain ⟨z, _, h⟩ := hu
  exact z_one z u h
theorem zsC_get : ∀ (l : List Zt) (i : Nat) (z : Zt), l[i]? = some z → ∀ j, j < 12 → (zsC l)[i * 12 + j]? = (zCs z)[j]?
  | [], i, z, h, _, _ => by simp at h
  | a :: r, i, z, h, j, hj => by
    have e : zsC (a :: r) = zCs a ++ zsC r := rfl
    have hl : (zCs a).length = 12 := rfl
    rw [e]
    rcases i with _ | i
    · obtain rfl : a = z := by simpa using h
      rw [Nat.zero_mul, Nat.zero_add, List.getElem?_append_left (by rw [hl]; exact hj)]
    · rw [List.getElem?_append_right (by rw [hl]; omega), hl, show (i + 1) * 12 + j - 12 = i * 12 + j by omega]
      exact zsC_get r i z (by simpa using h) j hj
theorem add_addZ (g n j : Nat) : ((⟨g, 0, none⟩ : Addr).add n).off + j = n + j ∧ ((⟨g, 0, none⟩ : Addr).add n).block = g ∧ (⟨g, 0, none⟩ : Addr).add n = ⟨g, n, none⟩ := by
  unfold Addr.add
  by_cases h : n = 0
  · subst h; simp
  · simp [h]
theorem ZC_of {w : World} {g k : Nat} {z : Zt} (key : ∀ j u, j < 12 → (zCs z)[j]? = some u → w.cell? ⟨g, k + j, none⟩ = some u) : ZC w ((⟨g, 0, none⟩ : Addr).add k) z := by
  unfold ZC
  rw [(add_addZ g k 1).1, (add_addZ g k 2).1, (add_addZ g k 3).1, (add_addZ g k 4).1, (add_addZ g k 5).1, (add_addZ g k 6).1, (add_addZ g k 7).1, (add_addZ g k 8).1, (add_addZ g k 9).1, (add_addZ g k 10).1, (add_addZ g k 11).1, (add_addZ g k 1).2.1, (add_addZ g k 1).2.2]
  exact ⟨key 0 _ (by omega) rfl, key 1 _ (by omega) rfl, key 2 _ (by omega) rfl, key 3 _ (by omega) rfl, key 4 _ (by omega) rfl, key 5 _ (by omega) rfl, key 6 _ (by omega) rfl, key 7 _ (by omega) rfl, key 8 _ (by omega) rfl, key 9 _ (by omega) rfl, key 10 _ (by omega) rfl, key 11 _ (by omega) rfl⟩
/-- a row read; its block is one of Q -/
def RdQ {α : Type} (w : World) (Q : Nat → Prop) (sz : Nat) (C : World → Addr → α → Prop) (r : Rw α) : Prop :=
  (r.l ≠ [] → ∃ ad, r.A = some ad ∧ Q ad.block) ∧ (∀ (ad : Addr) (i : Nat) (y : α), r.A = some ad → r.l[i]? = some y → C w (ad.add (i * sz)) y) ∧ r.l.length ≤ maxLen ∧ r.l.length ≤ r.c
theorem RdQ.keep {α : Type} {w W : World} {Q : Nat → Prop} {sz : Nat} {C : World → Addr → α → Prop} {r : Rw α} (h : RdQ w Q sz C r) (hC : OneB C) (k : ∀ p : Addr, Q p.block → W.cell? p = w.cell? p) : RdQ W Q sz C r := by
  refine ⟨h.1, fun ad i y ha hy => ?_, h.2.2⟩
  obtain ⟨ad', e, h'⟩ := h.1 (by intro e; rw [e] at hy; simp at hy)
  obtain rfl : ad = ad' := Option.some.inj (ha.symm.trans e)
  exact hC _ _ _ _ (h.2.1 ad i y ha hy) fun p hp => k p (by rw [hp, add_block]; exact h')
theorem RdQ.mono {α : Type} {w : World} {Q Q' : Nat → Prop} {sz : Nat} {C : World → Addr → α → Prop} {r : Rw α} (h : RdQ w Q sz C r) (hQ : ∀ b, Q b → Q' b) : RdQ w Q' sz C r :=
  ⟨fun hn => by obtain ⟨ad, e, h'⟩ := h.1 hn; exact ⟨ad, e, hQ _ h'⟩, h.2⟩
theorem RdQ.rd {α : Type} {w : World} {Q : Nat → Prop} {B sz : Nat} {C : World → Addr → α → Prop} {r : Rw α} (h : RdQ w Q sz C r) (hQ : ∀ b, Q b → b < B) : RdR w B sz C r :=
  ⟨fun hn => by obtain ⟨ad, e, h'⟩ := h.1 hn; exact ⟨ad, e, hQ _ h'⟩, h.2⟩
theorem RdR.q {α : Type} {w : World} {B sz : Nat} {C : World → Addr → α → Prop} {r : Rw α} (h : RdR w B sz C r) : RdQ w (fun b => b < B) sz C r := h
/-- a statement: its expressions and names lie below H, its lists in blocks of Q -/
inductive RzQ (w : World) (H : Nat) (Q : Nat → Prop) : Zt → Prop
  | mk (s : Zt) (h1 : RsX w H s.r) (h2 : RsB w H s.ou) (h3 : RsXs w H s.ar) (h4 : RdQ w Q 1 AC s.br) (h5 : ∀ a ∈ s.br.l, RdQ w Q 12 ZC a) (h6 : ∀ a ∈ s.br.l, ∀ t ∈ a.l, RzQ w H Q t) : RzQ w H Q s
theorem RzQ.of {w : World} {H : Nat} {Q : Nat → Prop} {s : Zt} (h : RzQ w H Q s) : RsX w H s.r ∧ RsB w H s.ou ∧ RsXs w H s.ar ∧ RdQ w Q 1 AC s.br ∧ (∀ a ∈ s.br.l, RdQ w Q 12 ZC a) ∧ ∀ a ∈ s.br.l, ∀ t ∈ a.l, RzQ w H Q t := by
  cases h with
  | mk s h1 h2 h3 h4 h5 h6 => exact ⟨h1, h2, h3, h4, h5, h6⟩
theorem RzQ.keep {w W : World} {H : Nat} {Q : Nat → Prop} {s : Zt} (h : RzQ w H Q s) (hb : Below H w W) (k : ∀ p : Addr, Q p.block → W.cell? p = w.cell? p) : RzQ W H Q s := by
  induction h with
  | mk s h1 h2 h3 h4 h5 h6 ih => exact .mk s (h1.blw hb (Nat.le_refl _)) (RdR.blw h2 oneB_B hb (Nat.le_refl _)) (h3.blw hb (Nat.le_refl _)) (h4.keep oneB_A k) (fun a ha => (h5 a ha).keep oneB_Z k) ih
theorem RzQ.mono {w : World} {H H' : Nat} {Q Q' : Nat → Prop} {s : Zt} (h : RzQ w H Q s) (hH : H ≤ H') (hQ : ∀ b, Q b → Q' b) : RzQ w H' Q' s := by
  induction h with
  | mk s h1 h2 h3 h4 h5 h6 ih => exact .mk s (h1.blw (Below.refl _ _) hH) (RdR.blw h2 oneB_B (Below.refl _ _) hH) (h3.blw (Below.refl _ _) hH) (h4.mono hQ) (fun a ha => (h5 a ha).mono hQ) ih
theorem RzQ.rz {w : World} {H B : Nat} {Q : Nat → Prop} {s : Zt} (h : RzQ w H Q s) (hH : H ≤ B) (hQ : ∀ b, Q b → b < B) : RsZ w B s := by
  induction h with
  | mk s h1 h2 h3 h4 h5 h6 ih => exact .mk s (h1.blw (Below.refl _ _) hH) (RdR.blw h2 oneB_B (Below.refl _ _) hH) (h3.blw (Below.refl _ _) hH) (h4.rd hQ) (fun a ha => (h5 a ha).rd hQ) ih
theorem RsZ.q {w : World} {B : Nat} {s : Zt} (h : RsZ w B s) : RzQ w B (fun b => b < B) s := by
  induction h with
  | mk s h1 h2 h3 h4 h5 h6 ih => exact .mk s h1 h2 h3 h4.q (fun a ha => (h5 a ha).q) ih
/-- a list of statements -/
def RlQ (w : World) (H : Nat) (Q : Nat → Prop) (a : Rw Zt) : Prop := RdQ w Q 12 ZC a ∧ ∀ t ∈ a.l, RzQ w H Q t
theorem RlQ.keep {w W : World} {H : Nat} {Q : Nat → Prop} {a : Rw Zt} (h : RlQ w H Q a) (hb : Below H w W) (k : ∀ p : Addr, Q p.block → W.cell? p = w.cell? p) : RlQ W H Q a := ⟨h.1.keep oneB_Z k, fun t ht => (h.2 t ht).keep hb k⟩
theorem RlQ.mono {w : World} {H H' : Nat} {Q Q' : Nat → Prop} {a : Rw Zt} (h : RlQ w H Q a) (hH : H ≤ H') (hQ : ∀ b, Q b → Q' b) : RlQ w H' Q' a := ⟨h.1.mono hQ, fun t ht => (h.2 t ht).mono hH hQ⟩
theorem RlQ.rl {w : World} {H B : Nat} {Q : Nat → Prop} {a : Rw Zt} (h : RlQ w H Q a) (hH : H ≤ B) (hQ : ∀ b, Q b → b < B) : RsL w B a := ⟨h.1.rd hQ, fun t ht => (h.2 t ht).rz hH hQ⟩
theorem RsL.q {w : World} {B : Nat} {a : Rw Zt} (h : RsL w B a) : RlQ w B (fun b => b < B) a := ⟨h.1.q, fun t ht => (h.2 t ht).q⟩
theorem RzQ.br {w : World} {H : Nat} {Q : Nat → Prop} {s : Zt} (h : RzQ w H Q s) {a : Rw Zt} (ha : a ∈ s.br.l) : RlQ w H Q a := ⟨h.of.2.2.2.2.1 a ha, h.of.2.2.2.2.2 a ha⟩
theorem own_keepZ {w W : World} {base n size : Nat} {e : TypeId} {v : Value} {xs : List Value} (h : w.ownsRow base e size v n xs) (hb : Below w.heap.size w W) : W.ownsRow base e size v n xs := by
  refine ⟨h.1, h.2.imp id fun ⟨g, cap, cur, e1, h1, h2, r⟩ => ⟨g, cap, cur, e1, h1, ?_, r⟩⟩
  rw [hb.block g (Array.getElem?_eq_some_iff.1 h2).1]
  exact h2
theorem own_formZ {w : World} {base n size : Nat} {e : TypeId} {v : Value} {xs : List Value} (h : w.ownsRow base e size v n xs) : ∃ A c, v = .slice A n c := by
  rcases h.2 with ⟨rfl, rfl⟩ | ⟨g, cap, cur, rfl, _⟩
  · exact ⟨_, _, rfl⟩
  · exact ⟨_, _, rfl⟩
/-- an owned row of statements can be read -/
theorem own_rdq {w : World} {base : Nat} {e : TypeId} {A : Option Addr} {c : Nat} {l : List Zt} (h : w.ownsRow base e 12 (.slice A l.length c) l.length (zsC l)) (hl : l.length ≤ maxLen) : RdQ w (fun b => base ≤ b ∧ b < w.heap.size ∧ (Value.slice A l.length c).ownBlock = some b) 12 ZC ⟨A, c, l⟩ := by
  rcases h.2 with ⟨h1, h2⟩ | ⟨g, cap, cur, h1, h2, h3, h4, h5, h6, h7⟩
  · have : l = [] := List.length_eq_zero_iff.1 h2
    subst this
    exact ⟨fun h => absurd rfl h, fun ad i y _ hy => by simp at hy, Nat.zero_le _, Nat.zero_le _⟩
  · have hA : A = some ⟨g, 0, none⟩ := by injection h1
    have hc : c = cap := by injection h1
    subst hA
    subst hc
    refine ⟨fun _ => ⟨_, rfl, h2, (Array.getElem?_eq_some_iff.1 h3).1, by rfl⟩, fun ad i y e hy => ?_, hl, by omega⟩
    obtain rfl := Option.some.inj e
    refine ZC_of fun j u hj6 hj => ?_
    rw [← zsC_get l i y hy j hj6] at hj
    rw [cell_of_row w g (i * 12 + j) cur _ (0, 0) h3]
    rw [← h7, List.getElem?_take] at hj
    split at hj
    · rw [← Array.getElem?_toList]; exact hj
    · cases hj
end fu
end Go.Proofs.Ytjodffbekipnlaa
/- Expressions: owned rows; slices.Grow of none. -/
namespace Go.Proofs.Ytjodffbekipnlaa
set_option linter.unusedVariables false
set_option linter.unusedSimpArgs false
open Go.RowKit Go.Sort
namespace fu
def xCs (x : Xt) : List Value := [.int .i64 x.k, .int .i64 x.op, .int .i64 x.t, .int .i64 x.v, .string x.nm, .slice x.A x.ar.length x.c]
def xsC (l : List Xt) : List Value := l.flatMap xCs
theorem xsC_app (l r : List Xt) : xsC (l ++ r) = xsC l ++ xsC r := by simp [xsC]
theorem xsC_one (z : Xt) : xsC [z] = xCs z := by simp [xsC]
abbrev x0 : Value := .agg #[.int .i64 0, .int .i64 0, .int .i64 0, .int .i64 0, .string ⟨#[]⟩, .slice none 0 0]
theorem xpInfo : (Try.prog.info? 34).map (fun i => (i.zero, i.size, i.bytes)) = some (some x0, 6, 72) := by kernel_rfl
theorem x_one (x : Xt) : ∀ u ∈ xCs x, u.oneCell' = true := by
  intro u hu
  simp [xCs] at hu
  rcases hu with rfl | rfl | rfl | rfl | rfl | rfl <;> rfl
theorem xsC_get : ∀ (l : List Xt) (i : Nat) (y : Xt), l[i]? = some y → ∀ j, j < 6 → (xsC l)[i * 6 + j]? = (xCs y)[j]?
  | [], i, z, h, _, _ => by simp at h
  | a :: r, i, z, h, j, hj => by
    have e : xsC (a :: r) = xCs a ++ xsC r := rfl
    have hl : (xCs a).length = 6 := rfl
    rw [e]
    rcases i with _ | i
    · obtain rfl : a = z := by simpa using h
      rw [Nat.zero_mul, Nat.zero_add, List.getElem?_append_left (by rw [hl]; exact hj)]
    · rw [List.getElem?_append_right (by rw [hl]; omega), hl, show (i + 1) * 6 + j - 6 = i * 6 + j by omega]
      exact xsC_get r i z (by simpa using h) j hj
theorem XC_of {w : World} {g k : Nat} {z : Xt} (key : ∀ j u, j < 6 → (xCs z)[j]? = some u → w.cell? ⟨g, k + j, none⟩ = some u) : XC w ((⟨g, 0, none⟩ : Addr).add k) z := by
  unfold XC
  rw [(add_addZ g k 1).1, (add_addZ g k 2).1, (add_addZ g k 3).1, (add_addZ g k 4).1, (add_addZ g k 5).1, (add_addZ g k 1).2.1, (add_addZ g k 1).2.2]
  exact ⟨key 0 _ (by omega) rfl, key 1 _ (by omega) rfl, key 2 _ (by omega) rfl, key 3 _ (by omega) rfl, key 4 _ (by omega) rfl, key 5 _ (by omega) rfl⟩
/-- an owned row of expressions can be read -/
theorem own_rdx {w : World} {base : Nat} {e : TypeId} {A : Option Addr} {c : Nat} {l : List Xt} (h : w.ownsRow base e 6 (.slice A l.length c) l.length (xsC l)) (hl : l.length ≤ maxLen) : RdQ w (fun b => base ≤ b ∧ b < w.heap.size ∧ (Value.slice A l.length c).ownBlock = some b) 6 XC ⟨A, c, l⟩ := by
  rcases h.2 with ⟨h1, h2⟩ | ⟨g, cap, cur, h1, h2, h3, h4, h5, h6, h7⟩
  · have : l = [] := List.length_eq_zero_iff.1 h2
    subst this
    exact ⟨fun h => absurd rfl h, fun ad i y _ hy => by simp at hy, Nat.zero_le _, Nat.zero_le _⟩
  · have hA : A = some ⟨g, 0, none⟩ := by injection h1
    have hc : c = cap := by injection h1
    subst hA
    subst hc
    refine ⟨fun _ => ⟨_, rfl, h2, (Array.getElem?_eq_some_iff.1 h3).1, by rfl⟩, fun ad i y e hy => ?_, hl, by omega⟩
    obtain rfl := Option.some.inj e
    refine XC_of fun j u hj6 hj => ?_
    rw [← xsC_get l i y hy j hj6] at hj
    rw [cell_of_row w g (i * 6 + j) cur _ (0, 0) h3]
    rw [← h7, List.getElem?_take] at hj
    split at hj
    · rw [← Array.getElem?_toList]; exact hj
    · cases hj
/-- an expression; its rows lie in blocks of Q -/
inductive RdP (w : World) (Q : Nat → Prop) : Xt → Prop
  | mk (x : Xt) (h0 : x.ar ≠ [] → ∃ ad, x.A = some ad ∧ Q ad.block) (h1 : ∀ (ad : Addr) (i : Nat) (y : Xt), x.A = some ad → x.ar[i]? = some y → XC w (ad.add (i * 6)) y) (h2 : ∀ y ∈ x.ar, RdP w Q y) (h3 : (x.ar.length ≤ maxLen ∧ x.nm.size ≤ maxLen) ∧ x.ar.length ≤ x.c) : RdP w Q x
theorem RdP.rd {w : World} {Q : Nat → Prop} {B : Nat} {x : Xt} (h : RdP w Q x) (hQ : ∀ b, Q b → b < B) : RdX w B x := by
  induction h with
  | mk x h0 h1 h2 h3 ih => exact .mk x (fun hn => by obtain ⟨ad, e, h⟩ := h0 hn; exact ⟨ad, e, hQ _ h⟩) h1 ih h3
theorem RdP.keep {w W : World} {Q Q' : Nat → Prop} {x : Xt} (h : RdP w Q x) (hQ : ∀ b, Q b → Q' b) (hk : ∀ p : Addr, Q p.block → W.cell? p = w.cell? p) : RdP W Q' x := by
  induction h with
  | mk x h0 h1 h2 h3 ih =>
    refine .mk x (fun hn => by obtain ⟨ad, e, h⟩ := h0 hn; exact ⟨ad, e, hQ _ h⟩) (fun ad i y ha hy => ?_) ih h3
    obtain ⟨ad', e, h⟩ := h0 (by intro e; rw [e] at hy; simp at hy)
    obtain rfl : ad = ad' := Option.some.inj (ha.symm.trans e)
    exact (h1 ad i y ha hy).keep fun p hp => hk p (by rw [hp, add_block]; exact h)
/-- a new row without elements -/
def NewR (T : TypeId) (z : Nat) (w : World) (e : Ending) (w' : World) : Prop := ∃ A c, e = .returned (.slice A 0 c) ∧ w'.ownsRow w.heap.size T z (.slice A 0 c) 0 [] ∧ Below w.heap.size w w'
set_option maxHeartbeats 2000000 in
set_option maxRecDepth 20000 in
theorem growX_any (n : Nat) (w : World) (hn : n * 72 ≤ 140737488355328) :
    Calls Try.prog 39 #[.slice none 0 0, .int .i64 n] w (NewR 34 6 w) := by
  obtain ⟨i0, hi, iz, is, ib⟩ := info_parts xpInfo
  rcases Nat.eq_zero_or_pos n with h0 | h0
  · subst h0
    go_enter Try.func39, Try.ntmps39
    go_wp2
    go_ret
    exact ⟨none, 0, rfl, World.ownsRow_nil _ _ _ _, Below.refl _ _⟩
  · have hrun := Lib.hid (Lib.run_append_nil_zeros (P := Try.prog) w 32 3 32 34 i0 x0 .i64 .i64 Try.underlying32 Try.underlying3 hi iz n h0 (by rw [is]; decide) (by omega) (by rw [ib]; omega))
    go_enter Try.func39, Try.ntmps39
    go_wp2_with (at_builtin; refine Lib.wpList_append_run _ rfl _ _ _ _ rfl _ _ rfl rfl _ _ hrun.out ?_)
    go_ret
    have hge := grownCap_ge w n 0 34
    have hm := grownCap_le_maxLen w n 0 34 (by unfold maxLen; omega)
    refine ⟨some ⟨w.heap.size, 0, none⟩, grownCap w n 0 34, rfl, ?_, (bel_box _).drew⟩
    refine (World.ownsRow_made (base := w.heap.size) (size := 6) (e := 34) w (Builtin.zeroCells x0.cells n ++ Builtin.zeroCells x0.cells (grownCap w n 0 34 - n)) (grownCap w n 0 34) (Nat.le_refl _) hm ?_).drew
    simp only [Array.size_append, size_zeroCells]
    have e6 : x0.cells.size = 6 := rfl
    rw [e6]
    omega
end fu
end Go.Proofs.Ytjodffbekipnlaa
/- clone.Expr and clone.Map over expressions. -/
namespace Go.Proofs.Ytjodffbekipnlaa
set_option linter.unusedVariables false
set_option linter.unusedSimpArgs false
open Go.RowKit Go.Sort
namespace fu
/-- the blocks in which what a growing row holds may lie -/
def Oth (B : Nat) (w : World) (v : Value) (b : Nat) : Prop := B ≤ b ∧ b < w.heap.size ∧ v.ownBlock ≠ some b
theorem oth_step {B n z : Nat} {W w5 w3 : World} {o : Obj} {v v' : Value} {T : TypeId} {xs : List Value} (hB : B ≤ W.heap.size) (hown : W.ownsRow B T z v n xs) (hb : Below W.heap.size W w5) (hg : (w5.alloc o).grownBy w3 v.ownBlock) (hd : v'.ownBlock = v.ownBlock ∨ v'.ownBlock = some (w5.alloc o).heap.size) :
    (∀ b, Oth B W v b → Oth B w3 v' b) ∧ (∀ p : Addr, Oth B W v p.block → w3.cell? p = W.cell? p) ∧ (∀ b, W.heap.size ≤ b ∧ b < w5.heap.size → Oth B w3 v' b) ∧ (∀ p : Addr, W.heap.size ≤ p.block ∧ p.block < w5.heap.size → w3.cell? p = w5.cell? p) ∧ Below B W w3 := by
  have h1 := hb.size
  have h2 := hg.size
  rw [World.size_alloc] at h2
  have hlt := hown.lt
  have hw5 : Below w5.heap.size w5 (w5.alloc o) := bel_box o
  refine ⟨fun b ⟨q1, q2, q3⟩ => ⟨q1, by omega, fun e => ?_⟩, fun p ⟨q1, q2, q3⟩ => ?_, fun b ⟨q1, q2⟩ => ⟨by omega, by omega, fun e => ?_⟩, fun p ⟨q1, q2⟩ => ?_, ?_⟩
  · rcases hd with hd | hd
    · exact q3 (hd.symm.trans e)
    · have := Option.some.inj (hd.symm.trans e)
      rw [World.size_alloc] at this
      omega
  · refine (World.cell?_of_block (hg.block p.block (by rw [World.size_alloc]; omega) (fun e => q3 e.symm))).trans ?_
    exact (hw5.cell (p := p) (by omega)).trans (hb.cell q2)
  · rcases hd with hd | hd
    · have := hlt b (hd.symm.trans e)
      omega
    · have := Option.some.inj (hd.symm.trans e)
      rw [World.size_alloc] at this
      omega
  · refine (World.cell?_of_block (hg.block p.block (by rw [World.size_alloc]; omega) (fun e => ?_))).trans (hw5.cell (p := p) q2)
    have := hlt p.block e.symm
    omega
  · exact ((hb.mono hB).trans (hw5.mono (by omega))).grown hg (by rw [World.size_alloc]; omega) fun k hk => (hlt k hk).1
/-- a new expression -/
def NewE (c : Xc) (w : World) (e : Ending) (w' : World) : Prop := ∃ x : Xt, e = .returned (xV x) ∧ x.ct = c ∧ RdP w' (fun b => w.heap.size ≤ b ∧ b < w'.heap.size) x ∧ Below w.heap.size w w'
/-- new expressions in a new row -/
def NewXs (cs : List Xc) (w : World) (e : Ending) (w' : World) : Prop := ∃ (A : Option Addr) (c : Nat) (L : List Xt), e = .returned (.slice A L.length c) ∧ L.map Xt.ct = cs ∧ w'.ownsRow w.heap.size 34 6 (.slice A L.length c) L.length (xsC L) ∧ (∀ y ∈ L, RdP w' (Oth w.heap.size w' (.slice A L.length c)) y) ∧ Below w.heap.size w w'
theorem rowX (w : World) (x : Xt) (t : TypeId) : ∀ j u, (xCs x)[j]? = some u → (w.alloc (.cells #[.int .i64 x.k, .int .i64 x.op, .int .i64 x.t, .int .i64 x.v, .string x.nm, .slice x.A x.ar.length x.c] t)).cell? ((⟨w.heap.size, 0, none⟩ : Addr).add j) = some u := by
  intro j u hu
  have hz : ∀ k : Nat, (w.alloc (.cells #[.int .i64 x.k, .int .i64 x.op, .int .i64 x.t, .int .i64 x.v, .string x.nm, .slice x.A x.ar.length x.c] t)).cell? ((⟨w.heap.size, 0, none⟩ : Addr).add k) = (xCs x)[k]? := by
    intro k
    rcases k with _ | _ | _ | _ | _ | _ | k <;> simp [go_sem, Addr.add, xCs]
  rw [hz]; exact hu
set_option maxHeartbeats 4000000 in
set_option maxRecDepth 20000 in
theorem mapX_any (r : Rw Xt) (w : World) (hR : RdR w w.heap.size 6 XC r) (hl : r.l.length * 72 ≤ 140737488351232)
    (K : Hid (∀ y ∈ r.l, ∀ W, Below w.heap.size w W → Calls Try.prog 33 #[xV y] W (NewE y.ct W))) :
    Calls Try.prog 34 #[.slice r.A r.l.length r.c, .func (.func 33) #[] #[]] w (NewXs (r.l.map Xt.ct) w) := by
  obtain ⟨i0, hi, iz, is, ib⟩ := info_parts xpInfo
  have KG := Lib.hid (growX_any r.l.length w (by omega))
  have HR := Lib.hid hR
  clear hR
  simp only [xV] at K
  obtain ⟨A, c, l⟩ := r
  simp only at K HR KG hl ⊢
  go_enter Try.func34, Try.ntmps34
  go_wp2_with (go_at_call 39; (with_reducible refine (KG.out).mono ?_); rintro e w1 ⟨A1, c1, rfl, hown1, hb1⟩)
  clear KG
  go_loopw [5, 13] (fun v i wr => ∃ (k : Nat) (L : List Xt) (A2 : Option Addr) (c2 : Nat), k ≤ l.length ∧ i = .int .i64 (k : Int) ∧ v = .slice A2 k c2 ∧ L.length = k ∧ Hid (L.map Xt.ct = (l.take k).map Xt.ct) ∧ Hid (wr.ownsRow w.heap.size 34 6 (.slice A2 k c2) k (xsC L)) ∧ Hid (∀ y ∈ L, RdP wr (Oth w.heap.size wr (.slice A2 k c2)) y) ∧ Below w.heap.size w wr) (fun _ i _ => l.length - (intOf i).toNat)
  case atStart => exact ⟨0, [], A1, c1, by omega, rfl, rfl, rfl, Lib.hid rfl, Lib.hid hown1, Lib.hid (by simp), hb1⟩
  case round =>
    obtain ⟨k, L, A2, c2, hk, rfl, rfl, hL, HC, HO, HE, hbl⟩ := hrel
    by_cases hlt : k < l.length
    · obtain ⟨ad, z, hA, had, hz, hm, c0, c1', c2', c3, c4, c5⟩ := (HR.out.blw oneB_X hbl (Nat.le_refl _)).at_ hlt
      simp only at hA
      subst hA
      simp only at hz hm
      have d1 : (k : Int) < (l.length : Int) := by omega
      have KZ := Lib.hid (K.out z hm)
      have HT : Hid ((l.take (k + 1)).map Xt.ct = (l.take k).map Xt.ct ++ [z.ct]) := Lib.hid (by rw [take_succ_of hz, List.map_append]; rfl)
      have HZ := Lib.hid hz
      clear hz hm K
      have hkl : (k + 1) * 72 ≤ 140737488355328 := by omega
      go_wp2_with (first | (go_at_call 33; (with_reducible refine (KZ.out _ ?_).mono ?_); (focus ((repeat (first | (with_reducible exact Below.refl _ _) | (with_reducible assumption) | (with_reducible exact bel_box _) | (with_reducible refine bel_step ?_ (by with_reducible assumption)) | (with_reducible refine Below.drew ?_) | (with_reducible refine below_drewN ?_ _) | (with_reducible refine bel_alloc ?_ _))); done)); rintro e w5 ⟨x, rfl, hxc, hxr, hb5⟩; simp only [xV]) | (at_builtin; (refine wpList_append_own_at _ rfl _ _ 32 rfl w.heap.size 34 i0 x0 6 72 Try.underlying32 hi iz is ib rfl (by decide) _ k (xsC L) rfl (own_keepZ HO.out ?_) ⟨w5.heap.size, 0, none⟩ 1 1 (xCs x) rfl rfl (rowX w5 x _) (x_one x) (by unfold maxLen; omega) (by omega) ?_ ?_; (focus ((repeat (first | (with_reducible exact Below.refl _ _) | (with_reducible assumption) | (with_reducible exact bel_box _) | (with_reducible refine bel_step ?_ (by with_reducible assumption)) | (with_reducible refine Below.drew ?_) | (with_reducible refine below_drewN ?_ _) | (with_reducible refine bel_alloc ?_ _))); done)); (focus (have h1 := hb5.size; have h2 := hbl.size; simp at h1 ⊢; omega)); intro v3 w3 hown3 hgrow3 _ hat3; obtain ⟨A3, c3', rfl⟩ := own_formZ hown3)))
      have hb6 : Below wr.heap.size wr w5 := (by repeat (first | (with_reducible exact Below.refl _ _) | (with_reducible assumption) | (with_reducible exact bel_box _) | (with_reducible refine bel_step ?_ (by with_reducible assumption)) | (with_reducible refine Below.drew ?_) | (with_reducible refine below_drewN ?_ _) | (with_reducible refine bel_alloc ?_ _)))
      obtain ⟨s1, s2, s3, s4, s5⟩ := oth_step (B := w.heap.size) hbl.size HO.out hb6 hgrow3 hat3
      have e1 : xsC L ++ xCs x = xsC (L ++ [x]) := by rw [xsC_app, xsC_one]
      rw [e1] at hown3
      refine ⟨⟨k + 1, L ++ [x], A3, c3', by omega, by congr 1, rfl, by simp [hL], Lib.hid (by rw [List.map_append, HC.out, HT.out, List.map_singleton, hxc]), Lib.hid hown3, Lib.hid fun y hy => ?_, ?_⟩, by simp [intOf]; omega⟩
      · rcases List.mem_append.1 hy with hy | hy
        · exact (HE.out y hy).keep s1 s2
        · obtain rfl : y = x := by simpa using hy
          have hsz : wr.heap.size ≤ (wr.alloc (.cells #[.int .i64 z.k, .int .i64 z.op, .int .i64 z.t, .int .i64 z.v, .string z.nm, .slice z.A z.ar.length z.c] 34)).heap.size := by rw [World.size_alloc]; omega
          exact hxr.keep (fun b ⟨q1, q2⟩ => s3 b ⟨Nat.le_trans hsz q1, q2⟩) fun p ⟨q1, q2⟩ => s4 p ⟨Nat.le_trans hsz q1, q2⟩
      · exact hbl.trans s5
    · obtain rfl : k = l.length := by omega
      have h1 := HC.out
      rw [List.take_length] at h1
      have HH := Lib.hid h1
      clear h1 K HR
      go_wp2
      go_ret
      have ho := HO.out
      have he := HE.out
      rw [← hL] at ho he ⊢
      exact ⟨A2, c2, L, rfl, HH.out, ho, he, hbl⟩
end fu
end Go.Proofs.Ytjodffbekipnlaa
/- clone.Expr. -/
namespace Go.Proofs.Ytjodffbekipnlaa
set_option linter.unusedVariables false
set_option linter.unusedSimpArgs false
open Go.RowKit Go.Sort
namespace fu
/-- the world behind a struct stored into a box -/
abbrev st6 (W : World) (b : Nat) (k op t v : Int) (nm : ByteArray) (s : Value) : World := (((((W.setCell ⟨b, 0, none⟩ (.int .i64 k)).setCell ⟨b, 1, none⟩ (.int .i64 op)).setCell ⟨b, 2, none⟩ (.int .i64 t)).setCell ⟨b, 3, none⟩ (.int .i64 v)).setCell ⟨b, 4, none⟩ (.string nm)).setCell ⟨b, 5, none⟩ s
theorem st6_cells {W : World} {b : Nat} {v0 v1 v2 v3 v4 v5 : Value} (h0 : W.cell? ⟨b, 0, none⟩ = some v0) (h1 : W.cell? ⟨b, 1, none⟩ = some v1) (h2 : W.cell? ⟨b, 2, none⟩ = some v2) (h3 : W.cell? ⟨b, 3, none⟩ = some v3) (h4 : W.cell? ⟨b, 4, none⟩ = some v4) (h5 : W.cell? ⟨b, 5, none⟩ = some v5) (k op t v : Int) (nm : ByteArray) (s : Value) :
    ((st6 W b k op t v nm s).cell? ⟨b, 0, none⟩ = some (.int .i64 k) ∧ (st6 W b k op t v nm s).cell? ⟨b, 1, none⟩ = some (.int .i64 op) ∧ (st6 W b k op t v nm s).cell? ⟨b, 2, none⟩ = some (.int .i64 t) ∧ (st6 W b k op t v nm s).cell? ⟨b, 3, none⟩ = some (.int .i64 v) ∧ (st6 W b k op t v nm s).cell? ⟨b, 4, none⟩ = some (.string nm) ∧ (st6 W b k op t v nm s).cell? ⟨b, 5, none⟩ = some s) ∧ (∀ p, (st6 W b k op t v nm s).frozen? p = W.frozen? p) ∧ (∀ p : Addr, p.block ≠ b → (st6 W b k op t v nm s).cell? p = W.cell? p) ∧ (st6 W b k op t v nm s).heap.size = W.heap.size := by
  have z : ∀ {p q : Addr} {W : World} {x : Value}, p ≠ q → (W.setCell q x).cell? p = W.cell? p := fun h => World.cell?_setCell_other _ _ _ _ h.symm
  have n : ∀ (i j : Nat), i ≠ j → (⟨b, i, none⟩ : Addr) ≠ ⟨b, j, none⟩ := fun i j h e => h (by injection e)
  refine ⟨⟨?_, ?_, ?_, ?_, ?_, ?_⟩, fun p => by simp only [World.frozen?_setCell], fun p hp => ?_, by simp [World.setCell]⟩
  · rw [z (n 0 5 (by decide)), z (n 0 4 (by decide)), z (n 0 3 (by decide)), z (n 0 2 (by decide)), z (n 0 1 (by decide))]; exact World.cell?_setCell_same' _ _ _ (by rw [h0]; rfl)
  · rw [z (n 1 5 (by decide)), z (n 1 4 (by decide)), z (n 1 3 (by decide)), z (n 1 2 (by decide))]; exact World.cell?_setCell_same' _ _ _ (by rw [z (n 1 0 (by decide)), h1]; rfl)
  · rw [z (n 2 5 (by decide)), z (n 2 4 (by decide)), z (n 2 3 (by decide))]; exact World.cell?_setCell_same' _ _ _ (by rw [z (n 2 1 (by decide)), z (n 2 0 (by decide)), h2]; rfl)
  · rw [z (n 3 5 (by decide)), z (n 3 4 (by decide))]; exact World.cell?_setCell_same' _ _ _ (by rw [z (n 3 2 (by decide)), z (n 3 1 (by decide)), z (n 3 0 (by decide)), h3]; rfl)
  · rw [z (n 4 5 (by decide))]; exact World.cell?_setCell_same' _ _ _ (by rw [z (n 4 3 (by decide)), z (n 4 2 (by decide)), z (n 4 1 (by decide)), z (n 4 0 (by decide)), h4]; rfl)
  · exact World.cell?_setCell_same' _ _ _ (by rw [z (n 5 4 (by decide)), z (n 5 3 (by decide)), z (n 5 2 (by decide)), z (n 5 1 (by decide)), z (n 5 0 (by decide)), h5]; rfl)
  · have m : ∀ i, p ≠ ⟨b, i, none⟩ := fun i e => hp (by rw [e])
    rw [z (m 5), z (m 4), z (m 3), z (m 2), z (m 1), z (m 0)]
theorem st6_below {B : Nat} {w W : World} {b : Nat} (h : Below B w W) (hb : B ≤ b) (k op t v : Int) (nm : ByteArray) (s : Value) : Below B w (st6 W b k op t v nm s) :=
  (((((h.setCell (p := ⟨b, 0, none⟩) hb _).setCell (p := ⟨b, 1, none⟩) hb _).setCell (p := ⟨b, 2, none⟩) hb _).setCell (p := ⟨b, 3, none⟩) hb _).setCell (p := ⟨b, 4, none⟩) hb _).setCell (p := ⟨b, 5, none⟩) hb _
/-- the boxes of the argument and of the result, in any later world -/
theorem chg_box {w W : World} {x : Xt} {T : TypeId} (h : Below ((bxW w x).alloc (.cells #[.int .i64 0, .int .i64 0, .int .i64 0, .int .i64 0, .string ⟨#[]⟩, .slice none 0 0] T)).heap.size ((bxW w x).alloc (.cells #[.int .i64 0, .int .i64 0, .int .i64 0, .int .i64 0, .string ⟨#[]⟩, .slice none 0 0] T)) W) :
    W.frozen? ⟨w.heap.size, 0, none⟩ = false ∧ W.frozen? ⟨w.heap.size, 1, none⟩ = false ∧ W.frozen? ⟨w.heap.size, 2, none⟩ = false ∧ W.frozen? ⟨w.heap.size, 3, none⟩ = false ∧ W.frozen? ⟨w.heap.size, 4, none⟩ = false ∧ W.frozen? ⟨w.heap.size, 5, none⟩ = false ∧
    (W.cell? ⟨w.heap.size + 1, 0, none⟩ = some (.int .i64 0) ∧ W.cell? ⟨w.heap.size + 1, 1, none⟩ = some (.int .i64 0) ∧ W.cell? ⟨w.heap.size + 1, 2, none⟩ = some (.int .i64 0) ∧ W.cell? ⟨w.heap.size + 1, 3, none⟩ = some (.int .i64 0) ∧ W.cell? ⟨w.heap.size + 1, 4, none⟩ = some (.string ⟨#[]⟩) ∧ W.cell? ⟨w.heap.size + 1, 5, none⟩ = some (.slice none 0 0)) ∧
    (∀ i, i < 6 → W.frozen? ⟨w.heap.size + 1, i, none⟩ = false) ∧ w.heap.size + 2 ≤ W.heap.size ∧ Below w.heap.size w W := by
  have hz : ((bxW w x).alloc (.cells #[.int .i64 0, .int .i64 0, .int .i64 0, .int .i64 0, .string ⟨#[]⟩, .slice none 0 0] T)).heap.size = w.heap.size + 2 := by simp only [World.size_alloc]
  have hsz := h.size
  rw [hz] at hsz
  have hf : ∀ i, W.frozen? ⟨w.heap.size, i, none⟩ = _ := fun i => h.frozen (p := ⟨w.heap.size, i, none⟩) (by rw [hz]; exact Nat.lt_add_of_pos_right (by decide))
  have hf1 : ∀ i, W.frozen? ⟨w.heap.size + 1, i, none⟩ = _ := fun i => h.frozen (p := ⟨w.heap.size + 1, i, none⟩) (by rw [hz]; exact Nat.lt_succ_self _)
  have hc1 : ∀ i, W.cell? ⟨w.heap.size + 1, i, none⟩ = _ := fun i => h.cell (p := ⟨w.heap.size + 1, i, none⟩) (by rw [hz]; exact Nat.lt_succ_self _)
  refine ⟨?_, ?_, ?_, ?_, ?_, ?_, ⟨?_, ?_, ?_, ?_, ?_, ?_⟩, fun i _ => ?_, hsz, bxW_below ((bel_box _).trans (h.mono (by rw [hz, bxW_size]; omega)))⟩
  · rw [hf]; simp [go_sem]
  · rw [hf]; simp [go_sem]
  · rw [hf]; simp [go_sem]
  · rw [hf]; simp [go_sem]
  · rw [hf]; simp [go_sem]
  · rw [hf]; simp [go_sem]
  · rw [hc1]; simp [go_sem]
  · rw [hc1]; simp [go_sem]
  · rw [hc1]; simp [go_sem]
  · rw [hc1]; simp [go_sem]
  · rw [hc1]; simp [go_sem]
  · rw [hc1]; simp [go_sem]
  · rw [hf1]; simp [go_sem]

theorem RdX.kids {w : World} {B : Nat} {x : Xt} (h : RdX w B x) : RdR w B 6 XC ⟨x.A, x.c, x.ar⟩ := by
  cases h with
  | mk x h0 h1 h2 h3 => exact ⟨h0, h1, h3.1.1, h3.2⟩
theorem kid_list {x y u : Xt} (hy : y ∈ x.ar) (hu : u ∈ y.list) : u ∈ x.list := by
  rw [Xt.list_eq]
  exact List.mem_cons.2 (.inr (List.mem_flatten.2 ⟨_, List.mem_map_of_mem hy, hu⟩))
theorem own_list {x : Xt} : x ∈ x.list := by rw [Xt.list_eq]; exact List.mem_cons_self
/-- no row of it is longer than what a machine holds -/
def LnX (x : Xt) : Prop := ∀ y ∈ x.list, y.ar.length * 72 ≤ 140737488351232
theorem RsX.ln {w : World} {B : Nat} {x : Xt} (h : RsX w B x) : LnX x := h.2
theorem ln_ct (x : Xt) : ∀ y : Xt, y.ct = x.ct → LnX x → LnX y := by
  induction x using Xt.ind with
  | h x ih =>
    intro y e h u hu
    have hp := ct_parts e
    rw [Xt.list_eq] at hu
    rcases List.mem_cons.1 hu with rfl | hu
    · rw [hp.2.2.2.2.2.2]
      exact h x own_list
    · obtain ⟨l, hl, hu⟩ := List.mem_flatten.1 hu
      obtain ⟨z, hz, rfl⟩ := List.mem_map.1 hl
      have h1 : z.ct ∈ x.ar.map Xt.ct := by rw [← hp.2.2.2.2.2.1]; exact List.mem_map_of_mem hz
      obtain ⟨z', hz', e'⟩ := List.mem_map.1 h1
      exact ih z' hz' z e'.symm (fun v hv => h v (kid_list hz' hv)) u hu
set_option maxHeartbeats 4000000 in
set_option maxRecDepth 20000 in
theorem cloneE_any (x : Xt) : ∀ w, RdX w w.heap.size x → LnX x → Calls Try.prog 33 #[xV x] w (NewE x.ct w) := by
  induction x using Xt.ind with
  | h x ih =>
    intro w hX hL
    have K : Hid (∀ W, Below w.heap.size w W → Calls Try.prog 34 #[.slice x.A x.ar.length x.c, .func (.func 33) #[] #[]] W (NewXs (x.ar.map Xt.ct) W)) := Lib.hid fun W hb => mapX_any ⟨x.A, x.c, x.ar⟩ W (RdX.kids (hX.to hb)) (hL x own_list) (Lib.hid fun y hy W' hb' => ih y hy W' ((hX.to (bel_step hb hb')).kid hy) fun u hu => hL u (kid_list hy hu))
    have hnm := hX.len.2
    have hlm := hX.len.1
    clear hX hL ih
    simp only [xV]
    go_enter Try.func33, Try.ntmps33
    go_wp2_with (go_at_call 34; (with_reducible refine (K.out _ ?_).mono ?_); (focus ((repeat (first | (with_reducible exact Below.refl _ _) | (with_reducible assumption) | (with_reducible exact bel_box _) | (with_reducible refine bel_step ?_ (by with_reducible assumption)) | (with_reducible refine Below.drew ?_) | (with_reducible refine below_drewN ?_ _) | (with_reducible refine bel_alloc ?_ _))); done)); rintro e w1 ⟨A', c', L, rfl, hLc, hLo, hLr, hb1⟩; have HLO := Lib.hid hLo; have HLR := Lib.hid hLr; have HLC := Lib.hid hLc; clear hLo hLr hLc; obtain ⟨b0, b1, b2, b3, b4, b5, _⟩ := bxW_cells (w := w) (x := x) (W := w1) (by repeat (first | (with_reducible exact Below.refl _ _) | (with_reducible assumption) | (with_reducible exact bel_box _) | (with_reducible refine bel_step ?_ (by with_reducible assumption)) | (with_reducible refine Below.drew ?_) | (with_reducible refine below_drewN ?_ _) | (with_reducible refine bel_alloc ?_ _))); obtain ⟨f0, f1, f2, f3, f4, f5, ⟨r0, r1, r2, r3, r4, r5⟩, rf, rz, hw1⟩ := chg_box (w := w) (x := x) (W := w1) (T := 34) hb1; have q0 := rf 0 (by decide); have q1 := rf 1 (by decide); have q2 := rf 2 (by decide); have q3 := rf 3 (by decide); have q4 := rf 4 (by decide); have q5 := rf 5 (by decide))
    have z : ∀ i, (w1.setCell ⟨w.heap.size, 5, none⟩ (.slice A' L.length c')).cell? ⟨w.heap.size + 1, i, none⟩ = w1.cell? ⟨w.heap.size + 1, i, none⟩ := fun i => World.cell?_setCell_other _ _ _ _ (by intro e; injection e with e; omega)
    obtain ⟨⟨g0, g1, g2, g3, g4, g5⟩, gf, gc, gz⟩ := st6_cells ((z 0).trans r0) ((z 1).trans r1) ((z 2).trans r2) ((z 3).trans r3) ((z 4).trans r4) ((z 5).trans r5) x.k x.op x.t x.v x.nm (.slice A' L.length c')
    have HF := st6_below (hw1.setCell (p := ⟨w.heap.size, 5, none⟩) (Nat.le_refl _) (.slice A' L.length c')) (Nat.le_succ _) x.k x.op x.t x.v x.nm (.slice A' L.length c')
    have HKEEP : ∀ p : Addr, w.heap.size + 2 ≤ p.block → (st6 (w1.setCell ⟨w.heap.size, 5, none⟩ (.slice A' L.length c')) (w.heap.size + 1) x.k x.op x.t x.v x.nm (.slice A' L.length c')).cell? p = w1.cell? p := fun p hp => (gc p (by omega)).trans (World.cell?_setCell_other _ _ _ _ (by intro e; rw [← e] at hp; simp at hp; omega))
    have hzz : (st6 (w1.setCell ⟨w.heap.size, 5, none⟩ (.slice A' L.length c')) (w.heap.size + 1) x.k x.op x.t x.v x.nm (.slice A' L.length c')).heap.size = w1.heap.size := gz.trans (by simp [World.setCell])
    dsimp only [st6] at g0 g1 g2 g3 g4 g5
    refine bodyPost_ret (v := .agg #[.int .i64 x.k, .int .i64 x.op, .int .i64 x.t, .int .i64 x.v, .string x.nm, .slice A' L.length c']) (by simp [results, Try.f33, go_sem, g0, g1, g2, g3, g4, g5]) rfl ?_
    have hLc := HLC.out
    have hlen : L.length = x.ar.length := by have := congrArg List.length hLc; simpa using this
    have hLo := HLO.out
    have hLr := HLR.out
    simp only [World.size_alloc] at hLo hLr
    have hml : L.length ≤ maxLen := by rw [hlen]; exact hlm
    have hq := own_rdx hLo hml
    refine ⟨.mk x.k x.op x.t x.v x.nm A' c' L, rfl, ct_of rfl rfl rfl rfl rfl hLc, ?_, HF⟩
    have hq2 := hq.keep (W := st6 (w1.setCell ⟨w.heap.size, 5, none⟩ (.slice A' L.length c')) (w.heap.size + 1) x.k x.op x.t x.v x.nm (.slice A' L.length c')) oneB_X fun p hp => HKEEP p hp.1
    refine .mk _ (fun hn => ?_) hq2.2.1 (fun y hy => (hLr y hy).keep (fun b hb => ⟨by have := hb.1; omega, by have := hb.2.1; rw [hzz]; exact this⟩) fun p hp => HKEEP p hp.1) ⟨⟨hml, hnm⟩, hq2.2.2.2⟩
    obtain ⟨ad, e, h1, h2, _⟩ := hq2.1 hn
    exact ⟨ad, e, by omega, by rw [hzz]; exact h2⟩
end fu
end Go.Proofs.Ytjodffbekipnlaa
/- slices.Clone of names; slices.Grow of statements and of lists. -/
namespace Go.Proofs.Ytjodffbekipnlaa
set_option linter.unusedVariables false
set_option linter.unusedSimpArgs false
open Go.RowKit Go.Sort Go.Deep
namespace fu
theorem cell_alc {w : World} (o : Obj) {p : Addr} {v : Value} (h : w.cell? p = some v) : (w.alloc o).cell? p = some v := ((bel_box o).cell (World.block_lt_of_cell? w _ h)).trans h
def snC (l : List ByteArray) : List Value := l.map Value.string
theorem snC_length (l : List ByteArray) : (snC l).length = l.length := by simp [snC]
theorem sn_one (l : List ByteArray) : ∀ u ∈ snC l, u.oneCell' = true := by
  intro u hu
  simp only [snC, List.mem_map] at hu
  obtain ⟨b, _, rfl⟩ := hu
  rfl
theorem snInfo : (Try.prog.info? 9).map (fun i => (i.zero, i.size, i.bytes)) = some (some (.string ⟨#[]⟩), 1, 16) := by kernel_rfl
theorem arInfo : (Try.prog.info? 22).map (fun i => (i.zero, i.size, i.bytes)) = some (some (.slice none 0 0), 1, 24) := by kernel_rfl
theorem rdb_cells {w : World} {B : Nat} {ad : Addr} {c : Nat} {l : List ByteArray} (h : RdR w B 1 BC ⟨some ad, c, l⟩) : ∀ j u, (snC l)[j]? = some u → w.cell? (ad.add j) = some u := by
  intro j u hu
  simp only [snC, List.getElem?_map, Option.map_eq_some_iff] at hu
  obtain ⟨b, hb, rfl⟩ := hu
  have := h.2.1 ad j b rfl hb
  rw [Nat.mul_one] at this
  exact this
set_option maxHeartbeats 2000000 in
set_option maxRecDepth 20000 in
theorem cloneN_any (r : Rw ByteArray) (w : World) (hA : RdR w w.heap.size 1 BC r) (hl : r.l.length ≤ 1048576) : Calls Try.prog 35 #[.slice r.A r.l.length r.c] w (fun e w' => ∃ A c, e = .returned (.slice A r.l.length c) ∧ w'.ownsRow w.heap.size 9 1 (.slice A r.l.length c) r.l.length (snC r.l) ∧ Below w.heap.size w w') := by
  obtain ⟨i0, hi, iz, is, ib⟩ := info_parts snInfo
  have q22 : ∀ (w : World) (a : Option Addr) (n c n' c' : Nat), (binOp .eql 35 (.slice a n c) (.slice none n' c')).run Try.prog w = .ok (.bool a.isNone) w := fun w a n c n' c' => Lib.run_eql_slice_nil w _ _ a n c n' c' Try.underlying35
  obtain ⟨A, c, l⟩ := r
  simp only at hA hl ⊢
  cases A with
  | none =>
    have h0 : l = [] := by
      by_cases hn : l = []
      · exact hn
      · obtain ⟨ad, e, _⟩ := hA.1 hn
        cases e
    subst h0
    go_enter Try.func35, Try.ntmps35
    go_wp2
    go_ret
    exact ⟨_, _, rfl, World.ownsRow_nil _ _ _ _, (by repeat (first | (with_reducible exact Below.refl _ _) | (with_reducible assumption) | (with_reducible exact bel_box _) | (with_reducible refine bel_step ?_ (by with_reducible assumption)) | (with_reducible refine Below.drew ?_) | (with_reducible refine below_drewN ?_ _) | (with_reducible refine bel_alloc ?_ _)))⟩
  | some ad =>
    go_enter Try.func35, Try.ntmps35
    go_wp2_with (at_builtin; refine wpList_append_own _ rfl _ _ 35 rfl w.heap.size 9 i0 (.string ⟨#[]⟩) 1 16 Try.underlying35 hi iz is ib rfl (by decide) _ _ _ rfl (World.ownsRow_made w #[] 0 (Nat.le_refl _) (Nat.zero_le _) (by simp)) ad l.length c (snC l) rfl ?qc1 ?qc2 ?qc3 ?qc4 ?qc5 ?qc6 ?_)
    case qc1 => rw [Nat.mul_one]; exact snC_length l
    case qc2 =>
      intro j u hj
      exact cell_alc _ (rdb_cells hA j u hj)
    case qc3 => exact sn_one l
    case qc4 => rw [Nat.zero_add]; unfold maxLen; omega
    case qc5 => rw [Nat.zero_add]; omega
    case qc6 => simp
    intro v' w1 hown hgrow _
    obtain ⟨A, c, rfl⟩ := own_formZ hown
    go_wp2
    go_ret
    refine ⟨A, c, rfl, hown, ?_⟩
    exact ((Below.refl _ w).alloc (Nat.le_refl _) _).grown hgrow (by simp) (by intro k hk; simp [Value.ownBlock] at hk; omega)
/-- an owned row of names can be read -/
theorem own_rdb {w : World} {base : Nat} {e : TypeId} {A : Option Addr} {c : Nat} {l : List ByteArray} (h : w.ownsRow base e 1 (.slice A l.length c) l.length (snC l)) (hl : l.length ≤ maxLen) : RdQ w (fun b => base ≤ b ∧ b < w.heap.size ∧ (Value.slice A l.length c).ownBlock = some b) 1 BC ⟨A, c, l⟩ := by
  rcases h.2 with ⟨h1, h2⟩ | ⟨g, cap, cur, h1, h2, h3, h4, h5, h6, h7⟩
  · have : l = [] := List.length_eq_zero_iff.1 h2
    subst this
    exact ⟨fun h => absurd rfl h, fun ad i y _ hy => by simp at hy, Nat.zero_le _, Nat.zero_le _⟩
  · have hA : A = some ⟨g, 0, none⟩ := by injection h1
    have hc : c = cap := by injection h1
    subst hA
    subst hc
    refine ⟨fun _ => ⟨_, rfl, h2, (Array.getElem?_eq_some_iff.1 h3).1, by rfl⟩, fun ad i y e hy => ?_, hl, by omega⟩
    obtain rfl := Option.some.inj e
    unfold BC
    rw [Nat.mul_one, (add_addZ g i 0).2.2, cell_of_row w g i cur _ (0, 0) h3]
    have hj : (snC l)[i]? = some (.string y) := by simp [snC, hy]
    rw [← h7, List.getElem?_take] at hj
    split at hj
    · rw [← Array.getElem?_toList]; exact hj
    · cases hj
set_option maxHeartbeats 2000000 in
set_option maxRecDepth 20000 in
theorem growZ_any (n : Nat) (w : World) (hn : n * 176 ≤ 140737488355328) :
    Calls Try.prog 42 #[.slice none 0 0, .int .i64 n] w (NewR 38 12 w) := by
  obtain ⟨i0, hi, iz, is, ib⟩ := info_parts zpInfo
  rcases Nat.eq_zero_or_pos n with h0 | h0
  · subst h0
    go_enter Try.func42, Try.ntmps42
    go_wp2
    go_ret
    exact ⟨none, 0, rfl, World.ownsRow_nil _ _ _ _, Below.refl _ _⟩
  · have hrun := Lib.hid (Lib.run_append_nil_zeros (P := Try.prog) w 22 3 22 38 i0 z0 .i64 .i64 Try.underlying22 Try.underlying3 hi iz n h0 (by rw [is]; decide) (by omega) (by rw [ib]; omega))
    go_enter Try.func42, Try.ntmps42
    go_wp2_with (at_builtin; refine Lib.wpList_append_run _ rfl _ _ _ _ rfl _ _ rfl rfl _ _ hrun.out ?_)
    go_ret
    have hge := grownCap_ge w n 0 38
    have hm := grownCap_le_maxLen w n 0 38 (by unfold maxLen; omega)
    refine ⟨some ⟨w.heap.size, 0, none⟩, grownCap w n 0 38, rfl, ?_, (bel_box _).drew⟩
    refine (World.ownsRow_made (base := w.heap.size) (size := 12) (e := 38) w (Builtin.zeroCells z0.cells n ++ Builtin.zeroCells z0.cells (grownCap w n 0 38 - n)) (grownCap w n 0 38) (Nat.le_refl _) hm ?_).drew
    simp only [Array.size_append, size_zeroCells]
    have e6 : z0.cells.size = 12 := rfl
    rw [e6]
    omega
set_option maxHeartbeats 2000000 in
set_option maxRecDepth 20000 in
theorem growA_any (n : Nat) (w : World) (hn : n * 24 ≤ 140737488355328) :
    Calls Try.prog 40 #[.slice none 0 0, .int .i64 n] w (fun e w' => ∃ A c, e = .returned (.slice A 0 c) ∧ w'.ownsRow w.heap.size 22 1 (.slice A 0 c) 0 [] ∧ Below w.heap.size w w' ∧ (n = 0 → A = none ∧ c = 0)) := by
  obtain ⟨i0, hi, iz, is, ib⟩ := info_parts arInfo
  rcases Nat.eq_zero_or_pos n with h0 | h0
  · subst h0
    go_enter Try.func40, Try.ntmps40
    go_wp2
    go_ret
    exact ⟨none, 0, rfl, World.ownsRow_nil _ _ _ _, Below.refl _ _, fun _ => ⟨rfl, rfl⟩⟩
  · have hrun := Lib.hid (Lib.run_append_nil_zeros (P := Try.prog) w 36 3 36 22 i0 (.slice none 0 0) .i64 .i64 Try.underlying36 Try.underlying3 hi iz n h0 (by rw [is]; decide) (by omega) (by rw [ib]; omega))
    go_enter Try.func40, Try.ntmps40
    go_wp2_with (at_builtin; refine Lib.wpList_append_run _ rfl _ _ _ _ rfl _ _ rfl rfl _ _ hrun.out ?_)
    go_ret
    have hge := grownCap_ge w n 0 22
    have hm := grownCap_le_maxLen w n 0 22 (by unfold maxLen; omega)
    refine ⟨some ⟨w.heap.size, 0, none⟩, grownCap w n 0 22, rfl, ?_, (bel_box _).drew, fun h => absurd h (by omega)⟩
    refine (World.ownsRow_made (base := w.heap.size) (size := 1) (e := 22) w (Builtin.zeroCells (Value.cells (.slice none 0 0)) n ++ Builtin.zeroCells (Value.cells (.slice none 0 0)) (grownCap w n 0 22 - n)) (grownCap w n 0 22) (Nat.le_refl _) hm ?_).drew
    simp only [Array.size_append, size_zeroCells]
    have e6 : (Value.cells (.slice none 0 0)).size = 1 := rfl
    rw [e6]
    omega
end fu
end Go.Proofs.Ytjodffbekipnlaa
/- clone.Map over statements and over lists, clone.Stmts. -/
namespace Go.Proofs.Ytjodffbekipnlaa
set_option linter.unusedVariables false
set_option linter.unusedSimpArgs false
open Go.RowKit Go.Sort
namespace fu
/-- a statement; all of it lies in blocks of Q -/
inductive RzP (w : World) (Q : Nat → Prop) : Zt → Prop
  | mk (s : Zt) (h1 : RdP w Q s.r) (l1 : LnX s.r) (h2 : RdQ w Q 1 BC s.ou) (h3 : RdQ w Q 6 XC s.ar) (l3 : ∀ x ∈ s.ar.l, RdP w Q x ∧ LnX x) (h4 : RdQ w Q 1 AC s.br) (h5 : ∀ a ∈ s.br.l, RdQ w Q 12 ZC a) (h6 : ∀ a ∈ s.br.l, ∀ t ∈ a.l, RzP w Q t) : RzP w Q s
theorem RzP.keep {w W : World} {Q Q' : Nat → Prop} {s : Zt} (h : RzP w Q s) (hQ : ∀ b, Q b → Q' b) (hk : ∀ p : Addr, Q p.block → W.cell? p = w.cell? p) : RzP W Q' s := by
  induction h with
  | mk s h1 l1 h2 h3 l3 h4 h5 h6 ih => exact .mk s (h1.keep hQ hk) l1 ((h2.keep oneB_B hk).mono hQ) ((h3.keep oneB_X hk).mono hQ) (fun x hx => ⟨(l3 x hx).1.keep hQ hk, (l3 x hx).2⟩) ((h4.keep oneB_A hk).mono hQ) (fun a ha => ((h5 a ha).keep oneB_Z hk).mono hQ) ih
theorem RzP.to {w : World} {Q : Nat → Prop} {H : Nat} {s : Zt} (h : RzP w Q s) (hQ : ∀ b, Q b → b < H) : RzQ w H Q s := by
  induction h with
  | mk s h1 l1 h2 h3 l3 h4 h5 h6 ih => exact .mk s ⟨h1.rd hQ, l1⟩ (h2.rd hQ) ⟨h3.rd hQ, fun x hx => ⟨(l3 x hx).1.rd hQ, (l3 x hx).2⟩⟩ h4 h5 ih
/-- a new statement -/
def NewZ (c : Sx Hd) (w : World) (e : Ending) (w' : World) : Prop := ∃ s : Zt, e = .returned (zV s) ∧ s.ct = c ∧ RzP w' (fun b => w.heap.size ≤ b ∧ b < w'.heap.size) s ∧ Below w.heap.size w w' ∧ (c.br = [] → s.br = ⟨none, 0, []⟩)
/-- new statements in a new row -/
def NewZs (cs : List (Sx Hd)) (w : World) (e : Ending) (w' : World) : Prop := ∃ (A : Option Addr) (c : Nat) (L : List Zt), e = .returned (.slice A L.length c) ∧ cts L = cs ∧ w'.ownsRow w.heap.size 38 12 (.slice A L.length c) L.length (zsC L) ∧ (∀ y ∈ L, RzP w' (Oth w.heap.size w' (.slice A L.length c)) y) ∧ Below w.heap.size w w'
/-- a new list of statements, read -/
def NewL (cs : List (Sx Hd)) (w : World) (e : Ending) (w' : World) : Prop := ∃ r : Rw Zt, e = .returned (.slice r.A r.l.length r.c) ∧ cts r.l = cs ∧ RdQ w' (fun b => w.heap.size ≤ b ∧ b < w'.heap.size) 12 ZC r ∧ (∀ y ∈ r.l, RzP w' (fun b => w.heap.size ≤ b ∧ b < w'.heap.size) y) ∧ Below w.heap.size w w'
theorem NewZs.l {cs : List (Sx Hd)} {w w' : World} {e : Ending} (h : NewZs cs w e w') (hl : cs.length ≤ maxLen) : NewL cs w e w' := by
  obtain ⟨A, c, L, h1, h2, h3, h4, h5⟩ := h
  have hL : L.length ≤ maxLen := by
    have := congrArg List.length h2
    simp only [cts, List.length_map] at this
    omega
  exact ⟨⟨A, c, L⟩, h1, h2, (own_rdq h3 hL).mono fun b hb => ⟨hb.1, hb.2.1⟩, fun y hy => (h4 y hy).keep (fun b hb => ⟨hb.1, hb.2.1⟩) fun _ _ => rfl, h5⟩
theorem rowZ (w : World) (z : Zt) (t : TypeId) : ∀ j u, (zCs z)[j]? = some u → (w.alloc (.cells #[.int .i64 z.k, .string z.nm, .int .i64 z.t, .int .i64 z.r.k, .int .i64 z.r.op, .int .i64 z.r.t, .int .i64 z.r.v, .string z.r.nm, .slice z.r.A z.r.ar.length z.r.c, .slice z.ou.A z.ou.l.length z.ou.c, .slice z.ar.A z.ar.l.length z.ar.c, .slice z.br.A z.br.l.length z.br.c] t)).cell? ((⟨w.heap.size, 0, none⟩ : Addr).add j) = some u := by
  intro j u hu
  have hz : ∀ k : Nat, (w.alloc (.cells #[.int .i64 z.k, .string z.nm, .int .i64 z.t, .int .i64 z.r.k, .int .i64 z.r.op, .int .i64 z.r.t, .int .i64 z.r.v, .string z.r.nm, .slice z.r.A z.r.ar.length z.r.c, .slice z.ou.A z.ou.l.length z.ou.c, .slice z.ar.A z.ar.l.length z.ar.c, .slice z.br.A z.br.l.length z.br.c] t)).cell? ((⟨w.heap.size, 0, none⟩ : Addr).add k) = (zCs z)[k]? := by
    intro k
    rcases k with _ | _ | _ | _ | _ | _ | _ | _ | _ | _ | _ | _ | k <;> simp [go_sem, Addr.add, zCs]
  rw [hz]; exact hu
set_option maxHeartbeats 4000000 in
set_option maxRecDepth 20000 in
theorem mapZ_any (r : Rw Zt) (w : World) (hR : RdR w w.heap.size 12 ZC r) (hl : r.l.length * 176 ≤ 140737488355328)
    (K : Hid (∀ y ∈ r.l, ∀ W, Below w.heap.size w W → Calls Try.prog 30 #[zV y] W (NewZ y.ct W))) :
    Calls Try.prog 41 #[.slice r.A r.l.length r.c, .func (.func 30) #[] #[]] w (NewZs (cts r.l) w) := by
  obtain ⟨i0, hi, iz, is, ib⟩ := info_parts zpInfo
  have KG := Lib.hid (growZ_any r.l.length w (by omega))
  have HR := Lib.hid hR
  clear hR
  obtain ⟨A, c, l⟩ := r
  simp only at K HR KG hl ⊢
  go_enter Try.func41, Try.ntmps41
  go_wp2_with (go_at_call 42; (with_reducible refine (KG.out).mono ?_); rintro e w1 ⟨A1, c1, rfl, hown1, hb1⟩)
  clear KG
  go_loopw [5, 13] (fun v i wr => ∃ (k : Nat) (L : List Zt) (A2 : Option Addr) (c2 : Nat), k ≤ l.length ∧ i = .int .i64 (k : Int) ∧ v = .slice A2 k c2 ∧ L.length = k ∧ Hid (cts L = cts (l.take k)) ∧ Hid (wr.ownsRow w.heap.size 38 12 (.slice A2 k c2) k (zsC L)) ∧ Hid (∀ y ∈ L, RzP wr (Oth w.heap.size wr (.slice A2 k c2)) y) ∧ Below w.heap.size w wr) (fun _ i _ => l.length - (intOf i).toNat)
  case atStart => exact ⟨0, [], A1, c1, by omega, rfl, rfl, rfl, Lib.hid rfl, Lib.hid hown1, Lib.hid (by simp), hb1⟩
  case round =>
    obtain ⟨k, L, A2, c2, hk, rfl, rfl, hL, HC, HO, HE, hbl⟩ := hrel
    by_cases hlt : k < l.length
    · obtain ⟨ad, z, hA, had, hz, hm, d0, d1, d2, d3, d4, d5, d6, d7, d8, d9, d10, d11⟩ := (HR.out.blw oneB_Z hbl (Nat.le_refl _)).at_ hlt
      simp only at hA
      subst hA
      simp only at hz hm
      have d12 : (k : Int) < (l.length : Int) := by omega
      have KZ := Lib.hid (K.out z hm)
      have HT : Hid (cts (l.take (k + 1)) = cts (l.take k) ++ [z.ct]) := Lib.hid (cts_take hz)
      have HZ := Lib.hid hz
      clear hz hm K
      have hkl : (k + 1) * 176 ≤ 140737488355328 := by omega
      go_wp2_with (first | (go_at_call 30; (with_reducible refine (KZ.out _ ?_).mono ?_); (focus ((repeat (first | (with_reducible exact Below.refl _ _) | (with_reducible assumption) | (with_reducible exact bel_box _) | (with_reducible refine bel_step ?_ (by with_reducible assumption)) | (with_reducible refine Below.drew ?_) | (with_reducible refine below_drewN ?_ _) | (with_reducible refine bel_alloc ?_ _))); done)); rintro e w5 ⟨x, rfl, hxc, hxr, hb5, _⟩) | (at_builtin; (refine wpList_append_own_at _ rfl _ _ 22 rfl w.heap.size 38 i0 z0 12 176 Try.underlying22 hi iz is ib rfl (by decide) _ k (zsC L) rfl (own_keepZ HO.out ?_) ⟨w5.heap.size, 0, none⟩ 1 1 (zCs x) rfl rfl (rowZ w5 x _) (z_one x) (by unfold maxLen; omega) (by omega) ?_ ?_; (focus ((repeat (first | (with_reducible exact Below.refl _ _) | (with_reducible assumption) | (with_reducible exact bel_box _) | (with_reducible refine bel_step ?_ (by with_reducible assumption)) | (with_reducible refine Below.drew ?_) | (with_reducible refine below_drewN ?_ _) | (with_reducible refine bel_alloc ?_ _))); done)); (focus (have h1 := hb5.size; have h2 := hbl.size; simp at h1 ⊢; omega)); intro v3 w3 hown3 hgrow3 _ hat3; obtain ⟨A3, c3', rfl⟩ := own_formZ hown3)))
      have hb6 : Below wr.heap.size wr w5 := (by repeat (first | (with_reducible exact Below.refl _ _) | (with_reducible assumption) | (with_reducible exact bel_box _) | (with_reducible refine bel_step ?_ (by with_reducible assumption)) | (with_reducible refine Below.drew ?_) | (with_reducible refine below_drewN ?_ _) | (with_reducible refine bel_alloc ?_ _)))
      obtain ⟨s1, s2, s3, s4, s5⟩ := oth_step (B := w.heap.size) hbl.size HO.out hb6 hgrow3 hat3
      have e1 : zsC L ++ zCs x = zsC (L ++ [x]) := by rw [zsC_app, zsC_one]
      rw [e1] at hown3
      refine ⟨⟨k + 1, L ++ [x], A3, c3', by omega, by congr 1, rfl, by simp [hL], Lib.hid (by rw [HT.out, ← HC.out, ← hxc]; simp [cts]), Lib.hid hown3, Lib.hid fun y hy => ?_, ?_⟩, by simp [intOf]; omega⟩
      · rcases List.mem_append.1 hy with hy | hy
        · exact (HE.out y hy).keep s1 s2
        · obtain rfl : y = x := by simpa using hy
          have hsz : wr.heap.size ≤ (wr.alloc (zB z)).heap.size := by rw [World.size_alloc]; omega
          exact hxr.keep (fun b ⟨q1, q2⟩ => s3 b ⟨Nat.le_trans hsz q1, q2⟩) fun p ⟨q1, q2⟩ => s4 p ⟨Nat.le_trans hsz q1, q2⟩
      · exact hbl.trans s5
    · obtain rfl : k = l.length := by omega
      have h1 := HC.out
      rw [List.take_length] at h1
      have HH := Lib.hid h1
      clear h1 K HR
      go_wp2
      go_ret
      have ho := HO.out
      have he := HE.out
      rw [← hL] at ho he ⊢
      exact ⟨A2, c2, L, rfl, HH.out, ho, he, hbl⟩
def aC (l : List (Rw Zt)) : List Value := l.map fun a => Value.slice a.A a.l.length a.c
theorem aC_length (l : List (Rw Zt)) : (aC l).length = l.length := by simp [aC]
/-- new lists in a new row -/
def NewAs (cs : List (List (Sx Hd))) (w : World) (e : Ending) (w' : World) : Prop := ∃ (A : Option Addr) (c : Nat) (L : List (Rw Zt)), e = .returned (.slice A L.length c) ∧ (L.map fun b => cts b.l) = cs ∧ w'.ownsRow w.heap.size 22 1 (.slice A L.length c) L.length (aC L) ∧ (∀ a ∈ L, RdQ w' (Oth w.heap.size w' (.slice A L.length c)) 12 ZC a ∧ ∀ y ∈ a.l, RzP w' (Oth w.heap.size w' (.slice A L.length c)) y) ∧ Below w.heap.size w w' ∧ (cs = [] → A = none ∧ c = 0)
theorem rowA (w : World) (x : Value) (t : TypeId) : ∀ j u, [x][j]? = some u → (w.alloc (.cells #[x] t)).cell? ((⟨w.heap.size, 0, none⟩ : Addr).add j) = some u := by
  intro j u hu
  rcases j with _ | j
  · simp at hu
    subst hu
    rw [(add_addZ _ 0 0).2.2]
    simp
  · simp at hu
theorem a_one (a : Rw Zt) : ∀ u ∈ [Value.slice a.A a.l.length a.c], u.oneCell' = true := by
  intro u hu
  simp at hu
  subst hu
  rfl
set_option maxHeartbeats 4000000 in
set_option maxRecDepth 20000 in
theorem mapA_any (r : Rw (Rw Zt)) (w : World) (hR : RdR w w.heap.size 1 AC r) (hl : r.l.length * 24 ≤ 140737488355328)
    (K : Hid (∀ y ∈ r.l, ∀ W, Below w.heap.size w W → Calls Try.prog 37 #[.slice y.A y.l.length y.c] W (NewL (cts y.l) W))) :
    Calls Try.prog 36 #[.slice r.A r.l.length r.c, .func (.func 37) #[] #[]] w (NewAs (r.l.map fun b => cts b.l) w) := by
  obtain ⟨i0, hi, iz, is, ib⟩ := info_parts arInfo
  have KG := Lib.hid (growA_any r.l.length w (by omega))
  have HR := Lib.hid hR
  clear hR
  obtain ⟨A, c, l⟩ := r
  simp only at K HR KG hl ⊢
  go_enter Try.func36, Try.ntmps36
  go_wp2_with (go_at_call 40; (with_reducible refine (KG.out).mono ?_); rintro e w1 ⟨A1, c1, rfl, hown1, hb1, hnil1⟩)
  have HN1 : Hid (l = [] → A1 = none ∧ c1 = 0) := Lib.hid fun h => hnil1 (by rw [h]; rfl)
  clear hnil1
  clear KG
  go_loopw [5, 13] (fun v i wr => ∃ (k : Nat) (L : List (Rw Zt)) (A2 : Option Addr) (c2 : Nat), k ≤ l.length ∧ i = .int .i64 (k : Int) ∧ v = .slice A2 k c2 ∧ L.length = k ∧ Hid ((L.map fun b => cts b.l) = (l.take k).map fun b => cts b.l) ∧ Hid (wr.ownsRow w.heap.size 22 1 (.slice A2 k c2) k (aC L)) ∧ Hid (∀ a ∈ L, RdQ wr (Oth w.heap.size wr (.slice A2 k c2)) 12 ZC a ∧ ∀ y ∈ a.l, RzP wr (Oth w.heap.size wr (.slice A2 k c2)) y) ∧ Hid (l = [] → A2 = none ∧ c2 = 0) ∧ Below w.heap.size w wr) (fun _ i _ => l.length - (intOf i).toNat)
  case atStart => exact ⟨0, [], A1, c1, by omega, rfl, rfl, rfl, Lib.hid rfl, Lib.hid hown1, Lib.hid (by simp), HN1, hb1⟩
  case round =>
    obtain ⟨k, L, A2, c2, hk, rfl, rfl, hL, HC, HO, HE, HN, hbl⟩ := hrel
    clear HN1
    by_cases hlt : k < l.length
    · obtain ⟨ad, z, hA, had, hz, hm, d0⟩ := (HR.out.blw oneB_A hbl (Nat.le_refl _)).at_ hlt
      have d0 : wr.cell? (ad.add (k * 1)) = some (.slice z.A z.l.length z.c) := d0
      rw [Nat.mul_one] at d0
      simp only at hA
      subst hA
      simp only at hz hm
      have d12 : (k : Int) < (l.length : Int) := by omega
      have KZ := Lib.hid (K.out z hm)
      have HT : Hid (((l.take (k + 1)).map fun b => cts b.l) = ((l.take k).map fun b => cts b.l) ++ [cts z.l]) := Lib.hid (by rw [take_succ_of hz, List.map_append]; rfl)
      have HZ := Lib.hid hz
      clear hz hm K
      have hkl : (k + 1) * 24 ≤ 140737488355328 := by omega
      go_wp2_with (first | (go_at_call 37; (with_reducible refine (KZ.out _ ?_).mono ?_); (focus ((repeat (first | (with_reducible exact Below.refl _ _) | (with_reducible assumption) | (with_reducible exact bel_box _) | (with_reducible refine bel_step ?_ (by with_reducible assumption)) | (with_reducible refine Below.drew ?_) | (with_reducible refine below_drewN ?_ _) | (with_reducible refine bel_alloc ?_ _))); done)); rintro e w5 ⟨x, rfl, hxc, hxq, hxr, hb5⟩) | (at_builtin; (refine wpList_append_own_at _ rfl _ _ 36 rfl w.heap.size 22 i0 (.slice none 0 0) 1 24 Try.underlying36 hi iz is ib rfl (by decide) _ k (aC L) rfl (own_keepZ HO.out ?_) ⟨w5.heap.size, 0, none⟩ 1 1 [.slice x.A x.l.length x.c] rfl rfl (rowA w5 _ _) (a_one x) (by unfold maxLen; omega) (by omega) ?_ ?_; (focus ((repeat (first | (with_reducible exact Below.refl _ _) | (with_reducible assumption) | (with_reducible exact bel_box _) | (with_reducible refine bel_step ?_ (by with_reducible assumption)) | (with_reducible refine Below.drew ?_) | (with_reducible refine below_drewN ?_ _) | (with_reducible refine bel_alloc ?_ _))); done)); (focus (have h1 := hb5.size; have h2 := hbl.size; simp at h1 ⊢; omega)); intro v3 w3 hown3 hgrow3 _ hat3; obtain ⟨A3, c3', rfl⟩ := own_formZ hown3)))
      have hb6 : Below wr.heap.size wr w5 := (by repeat (first | (with_reducible exact Below.refl _ _) | (with_reducible assumption) | (with_reducible exact bel_box _) | (with_reducible refine bel_step ?_ (by with_reducible assumption)) | (with_reducible refine Below.drew ?_) | (with_reducible refine below_drewN ?_ _) | (with_reducible refine bel_alloc ?_ _)))
      obtain ⟨s1, s2, s3, s4, s5⟩ := oth_step (B := w.heap.size) hbl.size HO.out hb6 hgrow3 hat3
      have e1 : aC L ++ [.slice x.A x.l.length x.c] = aC (L ++ [x]) := by simp [aC]
      rw [e1] at hown3
      refine ⟨⟨k + 1, L ++ [x], A3, c3', by omega, by congr 1, rfl, by simp [hL], Lib.hid (by rw [HT.out, ← HC.out, ← hxc]; simp), Lib.hid hown3, Lib.hid fun y hy => ?_, Lib.hid fun h => absurd (show k < l.length from hlt) (by rw [h]; simp), ?_⟩, by simp [intOf]; omega⟩
      · rcases List.mem_append.1 hy with hy | hy
        · exact ⟨((HE.out y hy).1.keep oneB_Z s2).mono s1, fun t ht => ((HE.out y hy).2 t ht).keep s1 s2⟩
        · obtain rfl : y = x := by simpa using hy
          exact ⟨(hxq.keep oneB_Z s4).mono s3, fun t ht => (hxr t ht).keep s3 s4⟩
      · exact hbl.trans s5
    · obtain rfl : k = l.length := by omega
      have h1 := HC.out
      rw [List.take_length] at h1
      have HH := Lib.hid h1
      clear h1 K HR
      go_wp2
      go_ret
      have ho := HO.out
      have he := HE.out
      rw [← hL] at ho he ⊢
      exact ⟨A2, c2, L, rfl, HH.out, ho, he, hbl, fun h => HN.out (by simpa using h)⟩
set_option maxRecDepth 20000 in
theorem stmts_of (r : Rw Zt) (w : World) (hl : r.l.length ≤ maxLen) (K : Hid (Calls Try.prog 41 #[.slice r.A r.l.length r.c, .func (.func 30) #[] #[]] w (NewZs (cts r.l) w))) :
    Calls Try.prog 37 #[.slice r.A r.l.length r.c] w (NewL (cts r.l) w) := by
  have K2 : Hid (Calls Try.prog 41 #[.slice r.A r.l.length r.c, .func (.func 30) #[] #[]] w (NewL (cts r.l) w)) := Lib.hid (K.out.mono fun e w' h => h.l (by simpa [cts] using hl))
  clear K
  go_enter Try.func37, Try.ntmps37
  go_wp2_with (go_at_call 41; (with_reducible refine (K2.out).mono ?_); rintro e w5 ⟨s, rfl, h1, h2, h3, h4⟩)
  go_ret
  exact ⟨s, rfl, h1, h2, h3, h4⟩
end fu
end Go.Proofs.Ytjodffbekipnlaa
/- clone.Stmt. -/
namespace Go.Proofs.Ytjodffbekipnlaa
set_option linter.unusedVariables false
set_option linter.unusedSimpArgs false
open Go.RowKit Go.Sort
namespace fu
/-- cells of one block set, one after the other -/
def sts (W : World) (b : Nat) : List (Nat × Value) → World
  | [] => W
  | (i, v) :: r => sts (W.setCell ⟨b, i, none⟩ v) b r
def lookA : List (Nat × Value) → Nat → Option Value → Option Value
  | [], _, d => d
  | (i, v) :: r, j, d => lookA r j (if i = j then some v else d)
theorem sts_cell (b : Nat) : ∀ (l : List (Nat × Value)) (W : World), (∀ p ∈ l, (W.cell? ⟨b, p.1, none⟩).isSome) → ∀ j, (sts W b l).cell? ⟨b, j, none⟩ = lookA l j (W.cell? ⟨b, j, none⟩)
  | [], _, _, _ => rfl
  | (i, v) :: r, W, h, j => by
    have hi := h (i, v) List.mem_cons_self
    have h1 : ∀ j, (W.setCell ⟨b, i, none⟩ v).cell? ⟨b, j, none⟩ = if i = j then some v else W.cell? ⟨b, j, none⟩ := fun j => by
      by_cases e : i = j
      · subst e
        rw [if_pos rfl]
        exact World.cell?_setCell_same' _ _ _ hi
      · rw [if_neg e]
        exact World.cell?_setCell_other _ _ _ _ (by intro e'; injection e' with _ e''; exact e e'')
    unfold sts lookA
    rw [sts_cell b r _ (fun p hp => by
      rw [h1]
      split
      · rfl
      · exact h p (List.mem_cons_of_mem _ hp)) j, h1]
theorem sts_frozen (b : Nat) : ∀ (l : List (Nat × Value)) (W : World) (p : Addr), (sts W b l).frozen? p = W.frozen? p
  | [], _, _ => rfl
  | (i, v) :: r, W, p => by
    unfold sts
    rw [sts_frozen b r, World.frozen?_setCell]
theorem sts_other (b : Nat) : ∀ (l : List (Nat × Value)) (W : World) (p : Addr), p.block ≠ b → (sts W b l).cell? p = W.cell? p
  | [], _, _, _ => rfl
  | (i, v) :: r, W, p, hp => by
    unfold sts
    rw [sts_other b r _ p hp]
    exact World.cell?_setCell_other _ _ _ _ (by intro e; exact hp (by rw [← e]))
theorem sts_size (b : Nat) : ∀ (l : List (Nat × Value)) (W : World), (sts W b l).heap.size = W.heap.size
  | [], _ => rfl
  | (i, v) :: r, W => by
    unfold sts
    rw [sts_size b r]
    simp [World.setCell]
theorem sts_below {B b : Nat} (hb : B ≤ b) : ∀ (l : List (Nat × Value)) {w W : World}, Below B w W → Below B w (sts W b l)
  | [], _, _, h => h
  | (i, v) :: r, w, W, h => by
    unfold sts
    exact sts_below hb r (h.setCell (p := ⟨b, i, none⟩) hb v)
def zz : Zt := .mk 0 ⟨#[]⟩ 0 (.mk 0 0 0 0 ⟨#[]⟩ none 0 []) ⟨none, 0, []⟩ ⟨none, 0, []⟩ ⟨none, 0, []⟩
/-- the boxes of clone.Stmt -/
structure CS (w W : World) (s : Zt) : Prop where
  bx : BoxZ W w.heap.size s
  fr : ∀ i, i < 12 → W.frozen? ⟨w.heap.size, i, none⟩ = false
  rz : BoxZ W (w.heap.size + 1) zz
  rf : ∀ i, i < 12 → W.frozen? ⟨w.heap.size + 1, i, none⟩ = false
  lt : w.heap.size + 2 ≤ W.heap.size
  low : Below w.heap.size w W
theorem CS.keep {w W W' : World} {s : Zt} (h : CS w W s) (hb : Below W.heap.size W W') : CS w W' s := by
  have h1 := h.lt
  have h2 := hb.size
  exact ⟨h.bx.keep hb, fun i hi => (hb.frozen (p := ⟨w.heap.size, i, none⟩) (show w.heap.size < W.heap.size by omega)).trans (h.fr i hi), h.rz.keep hb, fun i hi => (hb.frozen (p := ⟨w.heap.size + 1, i, none⟩) (show w.heap.size + 1 < W.heap.size by omega)).trans (h.rf i hi), by omega, bel_step h.low (hb.mono (Nat.le_refl _))⟩
theorem CS.first (w : World) (z : Zt) : CS w ((w.alloc (zB z)).alloc (zB zz)) z := by
  have hz : ((w.alloc (zB z)).alloc (zB zz)).heap.size = w.heap.size + 2 := by simp only [World.size_alloc]
  refine ⟨(boxZ_one w z).keep (bel_box _), fun i hi => ?_, boxZ_two w (zB z) zz, fun i hi => ?_, by omega, (by repeat (first | (with_reducible exact Below.refl _ _) | (with_reducible assumption) | (with_reducible exact bel_box _) | (with_reducible refine bel_step ?_ (by with_reducible assumption)) | (with_reducible refine Below.drew ?_) | (with_reducible refine below_drewN ?_ _) | (with_reducible refine bel_alloc ?_ _)))⟩
  · simp [go_sem]
  · simp [go_sem]
theorem is_some {α : Type} {x : Option α} {v : α} (h : x = some v) : x.isSome := by rw [h]; rfl
theorem BoxZ.some {W : World} {p : Nat} {z : Zt} (h : BoxZ W p z) : ∀ i, i < 12 → (W.cell? ⟨p, i, none⟩).isSome := by
  obtain ⟨m0, m1, m2, m3, m4, m5, m6, m7, m8, m9, m10, m11⟩ := h
  intro i hi
  rcases i with _ | _ | _ | _ | _ | _ | _ | _ | _ | _ | _ | _ | i
  all_goals first | exact is_some m0 | exact is_some m1 | exact is_some m2 | exact is_some m3 | exact is_some m4 | exact is_some m5 | exact is_some m6 | exact is_some m7 | exact is_some m8 | exact is_some m9 | exact is_some m10 | exact is_some m11 | omega
/-- the box behind a store -/
theorem CS.set {w W : World} {s s' : Zt} (h : CS w W s) (l : List (Nat × Value)) (hl : ∀ p ∈ l, p.1 < 12) (hs : BoxZ (sts W w.heap.size l) w.heap.size s') : CS w (sts W w.heap.size l) s' := by
  have h1 := h.lt
  exact ⟨hs, fun i hi => (sts_frozen _ _ _ _).trans (h.fr i hi), by
    have k : ∀ i, (sts W w.heap.size l).cell? ⟨w.heap.size + 1, i, none⟩ = W.cell? ⟨w.heap.size + 1, i, none⟩ := fun i => sts_other _ _ _ ⟨w.heap.size + 1, i, none⟩ (Nat.succ_ne_self _)
    have := h.rz
    unfold BoxZ at this ⊢
    rw [k 0, k 1, k 2, k 3, k 4, k 5, k 6, k 7, k 8, k 9, k 10, k 11]
    exact this, fun i hi => (sts_frozen _ _ _ _).trans (h.rf i hi), by rw [sts_size]; exact h1, sts_below (Nat.le_refl _) l h.low⟩
theorem box_by {W : World} {p : Nat} {z z' : Zt} {l : List (Nat × Value)} (h : BoxZ W p z) (hl : ∀ q ∈ l, q.1 < 12) (e : ∀ i, i < 12 → lookA l i ((zCs z)[i]?) = (zCs z')[i]?) : BoxZ (sts W p l) p z' := by
  have hs := h.some
  have key : ∀ i, i < 12 → (sts W p l).cell? ⟨p, i, none⟩ = (zCs z')[i]? := fun i hi => by
    rw [sts_cell p l W (fun q hq => hs q.1 (hl q hq)) i, ← e i hi]
    congr 1
    obtain ⟨m0, m1, m2, m3, m4, m5, m6, m7, m8, m9, m10, m11⟩ := h
    rcases i with _ | _ | _ | _ | _ | _ | _ | _ | _ | _ | _ | _ | i
    all_goals first | assumption | omega
  exact ⟨key 0 (by decide), key 1 (by decide), key 2 (by decide), key 3 (by decide), key 4 (by decide), key 5 (by decide), key 6 (by decide), key 7 (by decide), key 8 (by decide), key 9 (by decide), key 10 (by decide), key 11 (by decide)⟩
end fu
end Go.Proofs.Ytjodffbekipnlaa
/- clone.Stmt. -/
namespace Go.Proofs.Ytjodffbekipnlaa
set_option linter.unusedVariables false
set_option linter.unusedSimpArgs false
open Go.RowKit Go.Sort
namespace fu
theorem mk_k {k : Int} {nm : ByteArray} {t : Int} {r : Xt} {ou : Rw ByteArray} {ar : Rw Xt} {br : Rw (Rw Zt)} : (Zt.mk k nm t r ou ar br).k = k := rfl
theorem mk_nm {k : Int} {nm : ByteArray} {t : Int} {r : Xt} {ou : Rw ByteArray} {ar : Rw Xt} {br : Rw (Rw Zt)} : (Zt.mk k nm t r ou ar br).nm = nm := rfl
theorem mk_t {k : Int} {nm : ByteArray} {t : Int} {r : Xt} {ou : Rw ByteArray} {ar : Rw Xt} {br : Rw (Rw Zt)} : (Zt.mk k nm t r ou ar br).t = t := rfl
theorem mk_r {k : Int} {nm : ByteArray} {t : Int} {r : Xt} {ou : Rw ByteArray} {ar : Rw Xt} {br : Rw (Rw Zt)} : (Zt.mk k nm t r ou ar br).r = r := rfl
theorem mk_ou {k : Int} {nm : ByteArray} {t : Int} {r : Xt} {ou : Rw ByteArray} {ar : Rw Xt} {br : Rw (Rw Zt)} : (Zt.mk k nm t r ou ar br).ou = ou := rfl
theorem mk_ar {k : Int} {nm : ByteArray} {t : Int} {r : Xt} {ou : Rw ByteArray} {ar : Rw Xt} {br : Rw (Rw Zt)} : (Zt.mk k nm t r ou ar br).ar = ar := rfl
theorem mk_br {k : Int} {nm : ByteArray} {t : Int} {r : Xt} {ou : Rw ByteArray} {ar : Rw Xt} {br : Rw (Rw Zt)} : (Zt.mk k nm t r ou ar br).br = br := rfl
def Nw (w W : World) (b : Nat) : Prop := w.heap.size + 2 ≤ b ∧ b < W.heap.size
/-- an owned row of lists can be read -/
theorem own_rda {w : World} {base : Nat} {e : TypeId} {A : Option Addr} {c : Nat} {l : List (Rw Zt)} (h : w.ownsRow base e 1 (.slice A l.length c) l.length (aC l)) (hl : l.length ≤ maxLen) : RdQ w (fun b => base ≤ b ∧ b < w.heap.size ∧ (Value.slice A l.length c).ownBlock = some b) 1 AC ⟨A, c, l⟩ := by
  rcases h.2 with ⟨h1, h2⟩ | ⟨g, cap, cur, h1, h2, h3, h4, h5, h6, h7⟩
  · have : l = [] := List.length_eq_zero_iff.1 h2
    subst this
    exact ⟨fun h => absurd rfl h, fun ad i y _ hy => by simp at hy, Nat.zero_le _, Nat.zero_le _⟩
  · have hA : A = some ⟨g, 0, none⟩ := by injection h1
    have hc : c = cap := by injection h1
    subst hA
    subst hc
    refine ⟨fun _ => ⟨_, rfl, h2, (Array.getElem?_eq_some_iff.1 h3).1, by rfl⟩, fun ad i y e hy => ?_, hl, by omega⟩
    obtain rfl := Option.some.inj e
    unfold AC
    rw [Nat.mul_one, (add_addZ g i 0).2.2, cell_of_row w g i cur _ (0, 0) h3]
    have hj : (aC l)[i]? = some (.slice y.A y.l.length y.c) := by simp [aC, hy]
    rw [← h7, List.getElem?_take] at hj
    split at hj
    · rw [← Array.getElem?_toList]; exact hj
    · cases hj
theorem first_done {w w4 w5 : World} {z : Zt} {x : Xt} {A' : Option Addr} {c' b4 b5 : Nat} {L : List Xt} {T : TypeId} (hcs : CS w w5 z) (hxr : RdP w4 (fun b => b4 ≤ b ∧ b < w4.heap.size) x) (h4 : w.heap.size + 2 ≤ b4) (hb : Below w4.heap.size w4 w5) (hLo : w5.ownsRow b5 T 6 (.slice A' L.length c') L.length (xsC L)) (h5 : w.heap.size + 2 ≤ b5) (hml : L.length ≤ maxLen) (hLr : ∀ y ∈ L, RdP w5 (Oth b5 w5 (.slice A' L.length c')) y) (hxc : x.ct = z.r.ct) (hLc : L.map Xt.ct = z.ar.l.map Xt.ct) :
    ∃ (y : Xt) (r : Rw Xt), CS w (sts w5 w.heap.size [(3, .int .i64 x.k), (4, .int .i64 x.op), (5, .int .i64 x.t), (6, .int .i64 x.v), (7, .string x.nm), (8, .slice x.A x.ar.length x.c), (10, .slice A' L.length c')]) (.mk z.k z.nm z.t y z.ou r z.br) ∧ y.ct = z.r.ct ∧ r.l.map Xt.ct = z.ar.l.map Xt.ct ∧ RdP (sts w5 w.heap.size [(3, .int .i64 x.k), (4, .int .i64 x.op), (5, .int .i64 x.t), (6, .int .i64 x.v), (7, .string x.nm), (8, .slice x.A x.ar.length x.c), (10, .slice A' L.length c')]) (Nw w (sts w5 w.heap.size [(3, .int .i64 x.k), (4, .int .i64 x.op), (5, .int .i64 x.t), (6, .int .i64 x.v), (7, .string x.nm), (8, .slice x.A x.ar.length x.c), (10, .slice A' L.length c')])) y ∧ RdQ (sts w5 w.heap.size [(3, .int .i64 x.k), (4, .int .i64 x.op), (5, .int .i64 x.t), (6, .int .i64 x.v), (7, .string x.nm), (8, .slice x.A x.ar.length x.c), (10, .slice A' L.length c')]) (Nw w (sts w5 w.heap.size [(3, .int .i64 x.k), (4, .int .i64 x.op), (5, .int .i64 x.t), (6, .int .i64 x.v), (7, .string x.nm), (8, .slice x.A x.ar.length x.c), (10, .slice A' L.length c')])) 6 XC r ∧ ∀ u ∈ r.l, RdP (sts w5 w.heap.size [(3, .int .i64 x.k), (4, .int .i64 x.op), (5, .int .i64 x.t), (6, .int .i64 x.v), (7, .string x.nm), (8, .slice x.A x.ar.length x.c), (10, .slice A' L.length c')]) (Nw w (sts w5 w.heap.size [(3, .int .i64 x.k), (4, .int .i64 x.op), (5, .int .i64 x.t), (6, .int .i64 x.v), (7, .string x.nm), (8, .slice x.A x.ar.length x.c), (10, .slice A' L.length c')])) u := by
  obtain ⟨l, hl⟩ : ∃ l : List (Nat × Value), [(3, .int .i64 x.k), (4, .int .i64 x.op), (5, .int .i64 x.t), (6, .int .i64 x.v), (7, .string x.nm), (8, .slice x.A x.ar.length x.c), (10, .slice A' L.length c')] = l := ⟨_, rfl⟩
  have h12 : ∀ p ∈ l, p.1 < 12 := by
    subst hl
    intro p hp
    simp only [List.mem_cons, List.not_mem_nil, or_false] at hp
    rcases hp with rfl | rfl | rfl | rfl | rfl | rfl | rfl <;> simp
  have hbox : BoxZ (sts w5 w.heap.size l) w.heap.size (.mk z.k z.nm z.t x z.ou ⟨A', c', L⟩ z.br) := box_by hcs.bx h12 fun i hi => by
    subst hl
    rcases i with _ | _ | _ | _ | _ | _ | _ | _ | _ | _ | _ | _ | i
    all_goals first | rfl | omega
  rw [hl]
  have hs := hb.size
  have e1 : (sts w5 w.heap.size l).heap.size = w5.heap.size := sts_size _ _ _
  have k5 : ∀ p : Addr, b5 ≤ p.block → (sts w5 w.heap.size l).cell? p = w5.cell? p := fun p hp => sts_other _ _ _ _ (by omega)
  refine ⟨x, ⟨A', c', L⟩, hcs.set l h12 hbox, hxc, hLc, hxr.keep (fun b h => ⟨by have := h.1; omega, by rw [e1]; have := h.2; omega⟩) (fun p h => (sts_other _ _ _ _ (by have := h.1; omega)).trans (hb.cell h.2)), ?_, fun u hu => (hLr u hu).keep (fun b h => ⟨by have := h.1; omega, by rw [e1]; exact h.2.1⟩) fun p h => k5 p h.1⟩
  exact ((own_rdx hLo hml).keep oneB_X fun p h => k5 p h.1).mono fun b h => ⟨by have := h.1; omega, by rw [e1]; exact h.2.1⟩
set_option maxHeartbeats 8000000 in
set_option maxRecDepth 100000 in
theorem cloneS_of (z : Zt) (w : World) (hlm : z.ar.l.length ≤ maxLen) (hlo : z.ou.l.length ≤ maxLen) (hlb : z.br.l.length ≤ maxLen)
    (KE : Hid (∀ W, Below w.heap.size w W → Calls Try.prog 33 #[xV z.r] W (NewE z.r.ct W)))
    (KX : Hid (∀ W, Below w.heap.size w W → Calls Try.prog 34 #[.slice z.ar.A z.ar.l.length z.ar.c, .func (.func 33) #[] #[]] W (NewXs (z.ar.l.map Xt.ct) W)))
    (KN : Hid (∀ W, Below w.heap.size w W → Calls Try.prog 35 #[.slice z.ou.A z.ou.l.length z.ou.c] W (fun e w' => ∃ A c, e = .returned (.slice A z.ou.l.length c) ∧ w'.ownsRow W.heap.size 9 1 (.slice A z.ou.l.length c) z.ou.l.length (snC z.ou.l) ∧ Below W.heap.size W w')))
    (KA : Hid (∀ W, Below w.heap.size w W → Calls Try.prog 36 #[.slice z.br.A z.br.l.length z.br.c, .func (.func 37) #[] #[]] W (NewAs (z.br.l.map fun b => cts b.l) W)))
    (hln : LnX z.r) (hla : ∀ x ∈ z.ar.l, LnX x) : Calls Try.prog 30 #[zV z] w (NewZ z.ct w) := by
  have HCS : Hid (∀ W, Below ((w.alloc (zB z)).alloc (.cells #[.int .i64 0, .string ⟨#[]⟩, .int .i64 0, .int .i64 0, .int .i64 0, .int .i64 0, .int .i64 0, .string ⟨#[]⟩, .slice none 0 0, .slice none 0 0, .slice none 0 0, .slice none 0 0] 38)).heap.size ((w.alloc (zB z)).alloc (.cells #[.int .i64 0, .string ⟨#[]⟩, .int .i64 0, .int .i64 0, .int .i64 0, .int .i64 0, .int .i64 0, .string ⟨#[]⟩, .slice none 0 0, .slice none 0 0, .slice none 0 0, .slice none 0 0] 38)) W → CS w W z) := Lib.hid fun W hb => (CS.first w z).keep hb
  simp only [xV] at KE
  go_enter Try.func30, Try.ntmps30
  go_upto_region 1 with fail
  go_cut [] from 3 (fun W => ∃ (x : Xt) (r : Rw Xt), CS w W (.mk z.k z.nm z.t x z.ou r z.br) ∧ x.ct = z.r.ct ∧ r.l.map Xt.ct = z.ar.l.map Xt.ct ∧ RdP W (Nw w W) x ∧ RdQ W (Nw w W) 6 XC r ∧ ∀ y ∈ r.l, RdP W (Nw w W) y)
  case first =>
    have hcs := HCS.out _ (Below.refl _ _); obtain ⟨m0, m1, m2, m3, m4, m5, m6, m7, m8, m9, m10, m11⟩ := hcs.bx; have f0 := hcs.fr 0 (by decide); have f1 := hcs.fr 1 (by decide); have f2 := hcs.fr 2 (by decide); have f3 := hcs.fr 3 (by decide); have f4 := hcs.fr 4 (by decide); have f5 := hcs.fr 5 (by decide); have f6 := hcs.fr 6 (by decide); have f7 := hcs.fr 7 (by decide); have f8 := hcs.fr 8 (by decide); have f9 := hcs.fr 9 (by decide); have f10 := hcs.fr 10 (by decide); have f11 := hcs.fr 11 (by decide); clear hcs
    go_region_with (first | (go_at_call 33; (with_reducible refine (KE.out _ ?_).mono ?_); (focus ((repeat (first | (with_reducible exact Below.refl _ _) | (with_reducible assumption) | (with_reducible exact bel_box _) | (with_reducible refine bel_step ?_ (by with_reducible assumption)) | (with_reducible refine Below.drew ?_) | (with_reducible refine below_drewN ?_ _) | (with_reducible refine bel_alloc ?_ _))); done)); rintro e w4 ⟨x, rfl, hxc, hxr, hb4⟩; simp only [xV]; have hcs := HCS.out w4 (by repeat (first | (with_reducible exact Below.refl _ _) | (with_reducible assumption) | (with_reducible exact bel_box _) | (with_reducible refine bel_step ?_ (by with_reducible assumption)) | (with_reducible refine Below.drew ?_) | (with_reducible refine below_drewN ?_ _) | (with_reducible refine bel_alloc ?_ _))); obtain ⟨m0, m1, m2, m3, m4, m5, m6, m7, m8, m9, m10, m11⟩ := hcs.bx; have f0 := hcs.fr 0 (by decide); have f1 := hcs.fr 1 (by decide); have f2 := hcs.fr 2 (by decide); have f3 := hcs.fr 3 (by decide); have f4 := hcs.fr 4 (by decide); have f5 := hcs.fr 5 (by decide); have f6 := hcs.fr 6 (by decide); have f7 := hcs.fr 7 (by decide); have f8 := hcs.fr 8 (by decide); have f9 := hcs.fr 9 (by decide); have f10 := hcs.fr 10 (by decide); have f11 := hcs.fr 11 (by decide); clear hcs) | (go_at_call 34; (with_reducible refine (KX.out _ ?_).mono ?_); (focus ((repeat (first | (with_reducible exact Below.refl _ _) | (with_reducible assumption) | (with_reducible exact bel_box _) | (with_reducible refine bel_step ?_ (by with_reducible assumption)) | (with_reducible refine Below.drew ?_) | (with_reducible refine below_drewN ?_ _) | (with_reducible refine bel_alloc ?_ _))); done)); rintro e w5 ⟨A', c', L, rfl, hLc, hLo, hLr, hb5⟩; have hcs := HCS.out w5 (by repeat (first | (with_reducible exact Below.refl _ _) | (with_reducible assumption) | (with_reducible exact bel_box _) | (with_reducible refine bel_step ?_ (by with_reducible assumption)) | (with_reducible refine Below.drew ?_) | (with_reducible refine below_drewN ?_ _) | (with_reducible refine bel_alloc ?_ _))); obtain ⟨m0, m1, m2, m3, m4, m5, m6, m7, m8, m9, m10, m11⟩ := hcs.bx; have f0 := hcs.fr 0 (by decide); have f1 := hcs.fr 1 (by decide); have f2 := hcs.fr 2 (by decide); have f3 := hcs.fr 3 (by decide); have f4 := hcs.fr 4 (by decide); have f5 := hcs.fr 5 (by decide); have f6 := hcs.fr 6 (by decide); have f7 := hcs.fr 7 (by decide); have f8 := hcs.fr 8 (by decide); have f9 := hcs.fr 9 (by decide); have f10 := hcs.fr 10 (by decide); have f11 := hcs.fr 11 (by decide); clear hcs))
    all_goals
      go_wp2_with fail
      go_meet
      have h := first_done (HCS.out w5 (by repeat (first | (with_reducible exact Below.refl _ _) | (with_reducible assumption) | (with_reducible exact bel_box _) | (with_reducible refine bel_step ?_ (by with_reducible assumption)) | (with_reducible refine Below.drew ?_) | (with_reducible refine below_drewN ?_ _) | (with_reducible refine bel_alloc ?_ _)))) hxr (by exact (HCS.out _ (by repeat (first | (with_reducible exact Below.refl _ _) | (with_reducible assumption) | (with_reducible exact bel_box _) | (with_reducible refine bel_step ?_ (by with_reducible assumption)) | (with_reducible refine Below.drew ?_) | (with_reducible refine below_drewN ?_ _) | (with_reducible refine bel_alloc ?_ _)))).lt) (by repeat (first | (with_reducible exact Below.refl _ _) | (with_reducible assumption) | (with_reducible exact bel_box _) | (with_reducible refine bel_step ?_ (by with_reducible assumption)) | (with_reducible refine Below.drew ?_) | (with_reducible refine below_drewN ?_ _) | (with_reducible refine bel_alloc ?_ _))) hLo (by exact (HCS.out _ (by repeat (first | (with_reducible exact Below.refl _ _) | (with_reducible assumption) | (with_reducible exact bel_box _) | (with_reducible refine bel_step ?_ (by with_reducible assumption)) | (with_reducible refine Below.drew ?_) | (with_reducible refine below_drewN ?_ _) | (with_reducible refine bel_alloc ?_ _)))).lt) (by have h1 := congrArg List.length hLc; first | omega | (simp only [List.length_map] at h1; omega)) hLr hxc hLc
      dsimp only [sts] at h
      exact h
  case rest =>
    obtain ⟨x, r, hcs0, hxc, hrc, hx, hr, hry⟩ := hcut
    generalize wc = W1 at *
    have HC1 : Hid (∀ W, Below W1.heap.size W1 W → CS w W (.mk z.k z.nm z.t x z.ou r z.br)) := Lib.hid fun W hb => hcs0.keep hb
    have hlow := hcs0.low
    have HX := Lib.hid hx
    have HR := Lib.hid hr
    have HRY := Lib.hid hry
    have HXC := Lib.hid hxc
    have HRC := Lib.hid hrc
    clear hcs0 hx hr hry hxc hrc HCS KE KX
    go_upto_region 2 with fail
    go_cut [] from 11 (fun W => ∃ (u : Rw ByteArray), CS w W (.mk z.k z.nm z.t x u r z.br) ∧ u.l = z.ou.l ∧ RdQ W (Nw w W) 1 BC u ∧ W1.heap.size ≤ W.heap.size ∧ ∀ p : Addr, Nw w W1 p.block → W.cell? p = W1.cell? p)
    case first =>
      have hcs := HC1.out W1 (Below.refl _ _); obtain ⟨m0, m1, m2, m3, m4, m5, m6, m7, m8, m9, m10, m11⟩ := hcs.bx; have f0 := hcs.fr 0 (by decide); have f1 := hcs.fr 1 (by decide); have f2 := hcs.fr 2 (by decide); have f3 := hcs.fr 3 (by decide); have f4 := hcs.fr 4 (by decide); have f5 := hcs.fr 5 (by decide); have f6 := hcs.fr 6 (by decide); have f7 := hcs.fr 7 (by decide); have f8 := hcs.fr 8 (by decide); have f9 := hcs.fr 9 (by decide); have f10 := hcs.fr 10 (by decide); have f11 := hcs.fr 11 (by decide); clear hcs
      simp only [mk_k, mk_nm, mk_t, mk_r, mk_ou, mk_ar, mk_br] at m0 m1 m2 m3 m4 m5 m6 m7 m8 m9 m10 m11
      go_wp2_with (go_at_call 35; (with_reducible refine (KN.out _ ?_).mono ?_); (focus ((repeat (first | (with_reducible exact Below.refl _ _) | (with_reducible assumption) | (with_reducible exact bel_box _) | (with_reducible refine bel_step ?_ (by with_reducible assumption)) | (with_reducible refine Below.drew ?_) | (with_reducible refine below_drewN ?_ _) | (with_reducible refine bel_alloc ?_ _))); done)); rintro e w6 ⟨A, c, rfl, hno, hb6⟩; have hcs := HC1.out w6 (by repeat (first | (with_reducible exact Below.refl _ _) | (with_reducible assumption) | (with_reducible exact bel_box _) | (with_reducible refine bel_step ?_ (by with_reducible assumption)) | (with_reducible refine Below.drew ?_) | (with_reducible refine below_drewN ?_ _) | (with_reducible refine bel_alloc ?_ _))); obtain ⟨m0, m1, m2, m3, m4, m5, m6, m7, m8, m9, m10, m11⟩ := hcs.bx; have f0 := hcs.fr 0 (by decide); have f1 := hcs.fr 1 (by decide); have f2 := hcs.fr 2 (by decide); have f3 := hcs.fr 3 (by decide); have f4 := hcs.fr 4 (by decide); have f5 := hcs.fr 5 (by decide); have f6 := hcs.fr 6 (by decide); have f7 := hcs.fr 7 (by decide); have f8 := hcs.fr 8 (by decide); have f9 := hcs.fr 9 (by decide); have f10 := hcs.fr 10 (by decide); have f11 := hcs.fr 11 (by decide); clear hcs; simp only [mk_k, mk_nm, mk_t, mk_r, mk_ou, mk_ar, mk_br] at m0 m1 m2 m3 m4 m5 m6 m7 m8 m9 m10 m11)
      go_meet
      have hcs6 := HC1.out w6 (by repeat (first | (with_reducible exact Below.refl _ _) | (with_reducible assumption) | (with_reducible exact bel_box _) | (with_reducible refine bel_step ?_ (by with_reducible assumption)) | (with_reducible refine Below.drew ?_) | (with_reducible refine below_drewN ?_ _) | (with_reducible refine bel_alloc ?_ _)))
      have hbw : Below W1.heap.size W1 w6 := (by repeat (first | (with_reducible exact Below.refl _ _) | (with_reducible assumption) | (with_reducible exact bel_box _) | (with_reducible refine bel_step ?_ (by with_reducible assumption)) | (with_reducible refine Below.drew ?_) | (with_reducible refine below_drewN ?_ _) | (with_reducible refine bel_alloc ?_ _)))
      have hz6 := hbw.size
      have hltc := (HC1.out W1 (Below.refl _ _)).lt
      have h12 : ∀ p ∈ [((9 : Nat), Value.slice A z.ou.l.length c)], p.1 < 12 := by
        intro p hp
        simp only [List.mem_cons, List.not_mem_nil, or_false] at hp
        subst hp
        simp
      have hbox : BoxZ (sts w6 w.heap.size [(9, .slice A z.ou.l.length c)]) w.heap.size (.mk z.k z.nm z.t x ⟨A, c, z.ou.l⟩ r z.br) := box_by hcs6.bx h12 fun i hi => by
        rcases i with _ | _ | _ | _ | _ | _ | _ | _ | _ | _ | _ | _ | i
        all_goals first | rfl | omega
      refine ⟨⟨A, c, z.ou.l⟩, hcs6.set _ h12 hbox, rfl, ?_, by exact Nat.le_trans hz6 (by rw [← sts_size w.heap.size [(9, .slice A z.ou.l.length c)] w6]; exact Nat.le_refl _), fun p hp => (sts_other w.heap.size [(9, .slice A z.ou.l.length c)] w6 p (by have := hp.1; omega)).trans (hbw.cell hp.2)⟩
      exact ((own_rdb hno hlo).keep (W := sts w6 w.heap.size [(9, .slice A z.ou.l.length c)]) oneB_B fun p h => sts_other _ _ _ _ (by have := h.1; omega)).mono fun b h => ⟨by have := h.1; omega, by rw [show (w6.setCell ⟨w.heap.size, 9, none⟩ (.slice A z.ou.l.length c)).heap.size = w6.heap.size from sts_size w.heap.size [(9, .slice A z.ou.l.length c)] w6]; exact h.2.1⟩
    case rest =>
      obtain ⟨u, hcs2, hul, hu, hzs, hkp⟩ := hcut
      have HC2 : Hid (∀ W, Below wc.heap.size wc W → CS w W (.mk z.k z.nm z.t x u r z.br)) := Lib.hid fun W hb => hcs2.keep hb
      have hlow2 := hcs2.low
      have HUL := Lib.hid hul
      have HU := Lib.hid hu
      have HKP := Lib.hid hkp
      clear hcs2 hul hu hkp KN hlow
      have hcs := HC2.out wc (Below.refl _ _); obtain ⟨m0, m1, m2, m3, m4, m5, m6, m7, m8, m9, m10, m11⟩ := hcs.bx; have f0 := hcs.fr 0 (by decide); have f1 := hcs.fr 1 (by decide); have f2 := hcs.fr 2 (by decide); have f3 := hcs.fr 3 (by decide); have f4 := hcs.fr 4 (by decide); have f5 := hcs.fr 5 (by decide); have f6 := hcs.fr 6 (by decide); have f7 := hcs.fr 7 (by decide); have f8 := hcs.fr 8 (by decide); have f9 := hcs.fr 9 (by decide); have f10 := hcs.fr 10 (by decide); have f11 := hcs.fr 11 (by decide); clear hcs
      simp only [mk_k, mk_nm, mk_t, mk_r, mk_ou, mk_ar, mk_br] at m0 m1 m2 m3 m4 m5 m6 m7 m8 m9 m10 m11
      go_wp2_with (go_at_call 36; (with_reducible refine (KA.out _ ?_).mono ?_); (focus ((repeat (first | (with_reducible exact Below.refl _ _) | (with_reducible assumption) | (with_reducible exact bel_box _) | (with_reducible refine bel_step ?_ (by with_reducible assumption)) | (with_reducible refine Below.drew ?_) | (with_reducible refine below_drewN ?_ _) | (with_reducible refine bel_alloc ?_ _))); done)); rintro e w7 ⟨A3, c3, L3, rfl, hLc3, hLo3, hLr3, hb7, hnil7⟩; have hcs := HC2.out w7 (by repeat (first | (with_reducible exact Below.refl _ _) | (with_reducible assumption) | (with_reducible exact bel_box _) | (with_reducible refine bel_step ?_ (by with_reducible assumption)) | (with_reducible refine Below.drew ?_) | (with_reducible refine below_drewN ?_ _) | (with_reducible refine bel_alloc ?_ _))); obtain ⟨m0, m1, m2, m3, m4, m5, m6, m7, m8, m9, m10, m11⟩ := hcs.bx; obtain ⟨r0, r1, r2, r3, r4, r5, r6, r7, r8, r9, r10, r11⟩ := hcs.rz; have f0 := hcs.fr 0 (by decide); have f1 := hcs.fr 1 (by decide); have f2 := hcs.fr 2 (by decide); have f3 := hcs.fr 3 (by decide); have f4 := hcs.fr 4 (by decide); have f5 := hcs.fr 5 (by decide); have f6 := hcs.fr 6 (by decide); have f7 := hcs.fr 7 (by decide); have f8 := hcs.fr 8 (by decide); have f9 := hcs.fr 9 (by decide); have f10 := hcs.fr 10 (by decide); have f11 := hcs.fr 11 (by decide); have q0 := hcs.rf 0 (by decide); have q1 := hcs.rf 1 (by decide); have q2 := hcs.rf 2 (by decide); have q3 := hcs.rf 3 (by decide); have q4 := hcs.rf 4 (by decide); have q5 := hcs.rf 5 (by decide); have q6 := hcs.rf 6 (by decide); have q7 := hcs.rf 7 (by decide); have q8 := hcs.rf 8 (by decide); have q9 := hcs.rf 9 (by decide); have q10 := hcs.rf 10 (by decide); have q11 := hcs.rf 11 (by decide); clear hcs; simp only [mk_k, mk_nm, mk_t, mk_r, mk_ou, mk_ar, mk_br] at m0 m1 m2 m3 m4 m5 m6 m7 m8 m9 m10 m11; have r0 : _ = some (Value.int .i64 0) := r0; have r1 : _ = some (Value.string ⟨#[]⟩) := r1; have r2 : _ = some (Value.int .i64 0) := r2; have r3 : _ = some (Value.int .i64 0) := r3; have r4 : _ = some (Value.int .i64 0) := r4; have r5 : _ = some (Value.int .i64 0) := r5; have r6 : _ = some (Value.int .i64 0) := r6; have r7 : _ = some (Value.string ⟨#[]⟩) := r7; have r8 : _ = some (Value.slice none 0 0) := r8; have r9 : _ = some (Value.slice none 0 0) := r9; have r10 : _ = some (Value.slice none 0 0) := r10; have r11 : _ = some (Value.slice none 0 0) := r11)
      have hcs7 := HC2.out w7 (by repeat (first | (with_reducible exact Below.refl _ _) | (with_reducible assumption) | (with_reducible exact bel_box _) | (with_reducible refine bel_step ?_ (by with_reducible assumption)) | (with_reducible refine Below.drew ?_) | (with_reducible refine below_drewN ?_ _) | (with_reducible refine bel_alloc ?_ _)))
      have hbw : Below wc.heap.size wc w7 := (by repeat (first | (with_reducible exact Below.refl _ _) | (with_reducible assumption) | (with_reducible exact bel_box _) | (with_reducible refine bel_step ?_ (by with_reducible assumption)) | (with_reducible refine Below.drew ?_) | (with_reducible refine below_drewN ?_ _) | (with_reducible refine bel_alloc ?_ _)))
      have hz7 := hbw.size
      have hlt7 := hcs7.lt
      have hlt2 := (HC2.out wc (Below.refl _ _)).lt
      have h11 : ∀ p ∈ [((11 : Nat), Value.slice A3 L3.length c3)], p.1 < 12 := by
        intro p hp
        simp only [List.mem_cons, List.not_mem_nil, or_false] at hp
        subst hp
        simp
      have hbox : BoxZ (sts w7 w.heap.size [((11 : Nat), Value.slice A3 L3.length c3)]) w.heap.size (.mk z.k z.nm z.t x u r ⟨A3, c3, L3⟩) := box_by hcs7.bx h11 fun i hi => by
        rcases i with _ | _ | _ | _ | _ | _ | _ | _ | _ | _ | _ | _ | i
        all_goals first | rfl | omega
      have hcs8 := hcs7.set _ h11 hbox
      obtain ⟨W8, hW8⟩ : ∃ W, sts w7 w.heap.size [((11 : Nat), Value.slice A3 L3.length c3)] = W := ⟨_, rfl⟩
      rw [hW8] at hcs8
      have hW8' : w7.setCell ⟨w.heap.size, 11, none⟩ (.slice A3 L3.length c3) = W8 := hW8
      rw [hW8']
      have h12 : ∀ p ∈ ([(0, .int .i64 z.k), (1, .string z.nm), (2, .int .i64 z.t), (3, .int .i64 x.k), (4, .int .i64 x.op), (5, .int .i64 x.t), (6, .int .i64 x.v), (7, .string x.nm), (8, .slice x.A x.ar.length x.c), (9, .slice u.A u.l.length u.c), (10, .slice r.A r.l.length r.c), (11, .slice A3 L3.length c3)] : List (Nat × Value)), p.1 < 12 := by
        intro p hp
        simp only [List.mem_cons, List.not_mem_nil, or_false] at hp
        rcases hp with rfl | rfl | rfl | rfl | rfl | rfl | rfl | rfl | rfl | rfl | rfl | rfl <;> simp
      have hres : BoxZ (sts W8 (w.heap.size + 1) [(0, .int .i64 z.k), (1, .string z.nm), (2, .int .i64 z.t), (3, .int .i64 x.k), (4, .int .i64 x.op), (5, .int .i64 x.t), (6, .int .i64 x.v), (7, .string x.nm), (8, .slice x.A x.ar.length x.c), (9, .slice u.A u.l.length u.c), (10, .slice r.A r.l.length r.c), (11, .slice A3 L3.length c3)]) (w.heap.size + 1) (.mk z.k z.nm z.t x u r ⟨A3, c3, L3⟩) := box_by hcs8.rz h12 fun i hi => by
        rcases i with _ | _ | _ | _ | _ | _ | _ | _ | _ | _ | _ | _ | i
        all_goals first | rfl | omega
      obtain ⟨g0, g1, g2, g3, g4, g5, g6, g7, g8, g9, g10, g11⟩ := hres
      simp only [mk_k, mk_nm, mk_t, mk_r, mk_ou, mk_ar, mk_br] at g0 g1 g2 g3 g4 g5 g6 g7 g8 g9 g10 g11
      dsimp only [sts] at g0 g1 g2 g3 g4 g5 g6 g7 g8 g9 g10 g11
      have e8 : W8.heap.size = w7.heap.size := by rw [← hW8]; exact sts_size _ _ _
      have e9 : (sts W8 (w.heap.size + 1) [(0, .int .i64 z.k), (1, .string z.nm), (2, .int .i64 z.t), (3, .int .i64 x.k), (4, .int .i64 x.op), (5, .int .i64 x.t), (6, .int .i64 x.v), (7, .string x.nm), (8, .slice x.A x.ar.length x.c), (9, .slice u.A u.l.length u.c), (10, .slice r.A r.l.length r.c), (11, .slice A3 L3.length c3)]).heap.size = w7.heap.size := (sts_size _ _ _).trans e8
      have hlow9 : Below w.heap.size w (sts W8 (w.heap.size + 1) [(0, .int .i64 z.k), (1, .string z.nm), (2, .int .i64 z.t), (3, .int .i64 x.k), (4, .int .i64 x.op), (5, .int .i64 x.t), (6, .int .i64 x.v), (7, .string x.nm), (8, .slice x.A x.ar.length x.c), (9, .slice u.A u.l.length u.c), (10, .slice r.A r.l.length r.c), (11, .slice A3 L3.length c3)]) := sts_below (Nat.le_succ _) _ hcs8.low
      have k9 : ∀ p : Addr, w.heap.size + 2 ≤ p.block → (sts W8 (w.heap.size + 1) [(0, .int .i64 z.k), (1, .string z.nm), (2, .int .i64 z.t), (3, .int .i64 x.k), (4, .int .i64 x.op), (5, .int .i64 x.t), (6, .int .i64 x.v), (7, .string x.nm), (8, .slice x.A x.ar.length x.c), (9, .slice u.A u.l.length u.c), (10, .slice r.A r.l.length r.c), (11, .slice A3 L3.length c3)]).cell? p = w7.cell? p := fun p hp => (sts_other _ _ _ _ (by omega)).trans (by rw [← hW8]; exact sts_other _ _ _ _ (by omega))
      have k2 : ∀ p : Addr, Nw w wc p.block → (sts W8 (w.heap.size + 1) [(0, .int .i64 z.k), (1, .string z.nm), (2, .int .i64 z.t), (3, .int .i64 x.k), (4, .int .i64 x.op), (5, .int .i64 x.t), (6, .int .i64 x.v), (7, .string x.nm), (8, .slice x.A x.ar.length x.c), (9, .slice u.A u.l.length u.c), (10, .slice r.A r.l.length r.c), (11, .slice A3 L3.length c3)]).cell? p = wc.cell? p := fun p hp => (k9 p hp.1).trans (hbw.cell hp.2)
      have k1 : ∀ p : Addr, Nw w W1 p.block → (sts W8 (w.heap.size + 1) [(0, .int .i64 z.k), (1, .string z.nm), (2, .int .i64 z.t), (3, .int .i64 x.k), (4, .int .i64 x.op), (5, .int .i64 x.t), (6, .int .i64 x.v), (7, .string x.nm), (8, .slice x.A x.ar.length x.c), (9, .slice u.A u.l.length u.c), (10, .slice r.A r.l.length r.c), (11, .slice A3 L3.length c3)]).cell? p = W1.cell? p := fun p hp => (k2 p ⟨hp.1, Nat.lt_of_lt_of_le hp.2 hzs⟩).trans (HKP.out p hp)
      have u2 : ∀ b, Nw w wc b → w.heap.size ≤ b ∧ b < (sts W8 (w.heap.size + 1) [(0, .int .i64 z.k), (1, .string z.nm), (2, .int .i64 z.t), (3, .int .i64 x.k), (4, .int .i64 x.op), (5, .int .i64 x.t), (6, .int .i64 x.v), (7, .string x.nm), (8, .slice x.A x.ar.length x.c), (9, .slice u.A u.l.length u.c), (10, .slice r.A r.l.length r.c), (11, .slice A3 L3.length c3)]).heap.size := fun b hb => ⟨by have := hb.1; omega, by rw [e9]; exact Nat.lt_of_lt_of_le hb.2 hz7⟩
      have u1 : ∀ b, Nw w W1 b → w.heap.size ≤ b ∧ b < (sts W8 (w.heap.size + 1) [(0, .int .i64 z.k), (1, .string z.nm), (2, .int .i64 z.t), (3, .int .i64 x.k), (4, .int .i64 x.op), (5, .int .i64 x.t), (6, .int .i64 x.v), (7, .string x.nm), (8, .slice x.A x.ar.length x.c), (9, .slice u.A u.l.length u.c), (10, .slice r.A r.l.length r.c), (11, .slice A3 L3.length c3)]).heap.size := fun b hb => u2 b ⟨hb.1, Nat.lt_of_lt_of_le hb.2 hzs⟩
      have u3 : ∀ b, Oth wc.heap.size w7 (.slice A3 L3.length c3) b → w.heap.size ≤ b ∧ b < (sts W8 (w.heap.size + 1) [(0, .int .i64 z.k), (1, .string z.nm), (2, .int .i64 z.t), (3, .int .i64 x.k), (4, .int .i64 x.op), (5, .int .i64 x.t), (6, .int .i64 x.v), (7, .string x.nm), (8, .slice x.A x.ar.length x.c), (9, .slice u.A u.l.length u.c), (10, .slice r.A r.l.length r.c), (11, .slice A3 L3.length c3)]).heap.size := fun b hb => ⟨by have := hb.1; omega, by rw [e9]; exact hb.2.1⟩
      have u4 : ∀ b, wc.heap.size ≤ b ∧ b < w7.heap.size → w.heap.size ≤ b ∧ b < (sts W8 (w.heap.size + 1) [(0, .int .i64 z.k), (1, .string z.nm), (2, .int .i64 z.t), (3, .int .i64 x.k), (4, .int .i64 x.op), (5, .int .i64 x.t), (6, .int .i64 x.v), (7, .string x.nm), (8, .slice x.A x.ar.length x.c), (9, .slice u.A u.l.length u.c), (10, .slice r.A r.l.length r.c), (11, .slice A3 L3.length c3)]).heap.size := fun b hb => ⟨by have := hb.1; omega, by rw [e9]; exact hb.2⟩
      have k3 : ∀ p : Addr, wc.heap.size ≤ p.block → (sts W8 (w.heap.size + 1) [(0, .int .i64 z.k), (1, .string z.nm), (2, .int .i64 z.t), (3, .int .i64 x.k), (4, .int .i64 x.op), (5, .int .i64 x.t), (6, .int .i64 x.v), (7, .string x.nm), (8, .slice x.A x.ar.length x.c), (9, .slice u.A u.l.length u.c), (10, .slice r.A r.l.length r.c), (11, .slice A3 L3.length c3)]).cell? p = w7.cell? p := fun p hp => k9 p (by omega)
      refine bodyPost_ret (v := .agg #[.int .i64 z.k, .string z.nm, .int .i64 z.t, .int .i64 x.k, .int .i64 x.op, .int .i64 x.t, .int .i64 x.v, .string x.nm, .slice x.A x.ar.length x.c, .slice u.A u.l.length u.c, .slice r.A r.l.length r.c, .slice A3 L3.length c3]) (by simp [results, Try.f30, go_sem, g0, g1, g2, g3, g4, g5, g6, g7, g8, g9, g10, g11]) rfl ?_
      have hml3 : L3.length ≤ maxLen := by
        have h1 := congrArg List.length hLc3
        simp only [List.length_map] at h1
        omega
      refine ⟨.mk z.k z.nm z.t x u r ⟨A3, c3, L3⟩, rfl, ct_iff.2 ⟨rfl, rfl, rfl, HXC.out, ?_, HRC.out, hLc3⟩, ?_, hlow9, ?_⟩
      · show u.l.map ByteArray.toList = _
        rw [HUL.out]
      · refine .mk _ (HX.out.keep u1 k1) (ln_ct z.r x HXC.out hln) ((HU.out.keep oneB_B k2).mono u2) ((HR.out.keep oneB_X k1).mono u1) (fun y hy => ⟨(HRY.out y hy).keep u1 k1, ?_⟩) (((own_rda hLo3 hml3).keep oneB_A fun p h => k3 p h.1).mono fun b h => u4 b ⟨h.1, h.2.1⟩) (fun a ha => ((hLr3 a ha).1.keep oneB_Z fun p h => k3 p h.1).mono u3) fun a ha t ht => ((hLr3 a ha).2 t ht).keep u3 fun p h => k3 p h.1
        have h1 : y.ct ∈ z.ar.l.map Xt.ct := by rw [← HRC.out]; exact List.mem_map_of_mem hy
        obtain ⟨y', hy', e⟩ := List.mem_map.1 h1
        exact ln_ct y' y e.symm (hla y' hy')
      · intro h
        rw [Zt.ct_br] at h
        obtain ⟨q1, q2⟩ := hnil7 h
        have q3 : L3 = [] := by
          have h1 := congrArg List.length hLc3
          rw [h] at h1
          simpa using h1
        show (⟨A3, c3, L3⟩ : Rw (Rw Zt)) = ⟨none, 0, []⟩
        rw [q1, q2, q3]
end fu
end Go.Proofs.Ytjodffbekipnlaa
/- clone.Stmt and clone.Stmts, of any statement. -/
namespace Go.Proofs.Ytjodffbekipnlaa
set_option linter.unusedVariables false
set_option linter.unusedSimpArgs false
open Go.RowKit Go.Sort
namespace fu
theorem cloneS_any (z : Zt) : ∀ w, RsZ w w.heap.size z → SmZ 200000 z → Calls Try.prog 30 #[zV z] w (NewZ z.ct w) := by
  induction z using Zt.ind with
  | h z ih =>
    intro w hR hS
    have b1 := hS.of.1
    have b2 := hS.of.2.1
    have b3 := hS.of.2.2.1
    refine cloneS_of z w (by unfold maxLen; omega) (by unfold maxLen; omega) (by unfold maxLen; omega) (Lib.hid fun W hb => cloneE_any z.r W (hR.of.1.1.blw hb hb.size) hR.of.1.2) (Lib.hid fun W hb => ?_) (Lib.hid fun W hb => cloneN_any z.ou W (RdR.blw hR.of.2.1 oneB_B hb hb.size) (by omega)) (Lib.hid fun W hb => ?_) hR.of.1.2 fun x hx => (hR.of.2.2.1.2 x hx).2
    · exact mapX_any z.ar W (hR.of.2.2.1.1.blw oneB_X hb hb.size) (by omega) (Lib.hid fun y hy W' hb' => cloneE_any y W' ((hR.of.2.2.1.2 y hy).1.blw (bel_step hb hb') (bel_step hb hb').size) (hR.of.2.2.1.2 y hy).2)
    · refine mapA_any z.br W (hR.of.2.2.2.1.blw oneB_A hb hb.size) (by omega) (Lib.hid fun a ha W' hb' => ?_)
      have b4 := hS.of.2.2.2.1 a ha
      have hb2 := bel_step hb hb'
      refine stmts_of a W' (by unfold maxLen; omega) (Lib.hid (mapZ_any a W' ((hR.of.2.2.2.2.1 a ha).blw oneB_Z hb2 hb2.size) (by omega) (Lib.hid fun t ht W'' hb'' => ?_)))
      have hb3 := bel_step hb2 hb''
      exact ih a ha t ht W'' ((hR.of.2.2.2.2.2 a ha t ht).blw hb3 hb3.size) (hS.of.2.2.2.2 a ha t ht)
end fu
end Go.Proofs.Ytjodffbekipnlaa
/- Joining by runs, without what is hollow: plain. -/
namespace Go.Proofs.Ytjodffbekipnlaa
set_option linter.unusedVariables false
set_option linter.unusedSimpArgs false
namespace fu
variable {H : Type} (K : Hk H)
theorem asgL_ap (d : H) (x y : List (Sx H)) : asgL K d (app K x y) = (asgL K d x || asgL K d y) := asgL_app K d _ x y (Nat.le_refl _)
theorem any_same {α : Type} {p q : α → Bool} : ∀ {l : List α}, (∀ a ∈ l, p a = q a) → l.any p = l.any q
  | [], _ => rfl
  | a :: l, h => by
    rw [List.any_cons, List.any_cons, h a List.mem_cons_self, any_same fun b hb => h b (List.mem_cons_of_mem _ hb)]
theorem asg_norm_of {d : H} {l : List (Sx H)} (h : ∀ t ∈ l, asgL K d (norm1 K t) = asg1 K d t) : asgL K d (norm K l) = asgL K d l := by
  induction l with
  | nil => rfl
  | cons a l ih =>
    rw [norm_cons, asgL_ap, h a List.mem_cons_self, ih fun t ht => h t (List.mem_cons_of_mem _ ht)]
    rfl
theorem asg_norm1 (d : H) (s : Sx H) : asgL K d (norm1 K s) = asg1 K d s := by
  induction s using Sx.ind with
  | h s ih =>
    rw [norm1_eq]
    by_cases hc : K.c s.h = true
    · have hb : (s.br.map (norm K)).any (asgL K d) = s.br.any (asgL K d) := by
        rw [List.any_map]
        exact any_same fun b hb => asg_norm_of K (ih b hb)
      rw [if_pos hc, asg1_eq, if_pos hc, ← hb]
      split
      · rename_i he
        symm
        show _ = false
        rw [Bool.eq_false_iff]
        intro e
        obtain ⟨b, hb, h1⟩ := List.any_eq_true.1 e
        have h2 := List.all_eq_true.1 he b hb
        rw [List.isEmpty_iff] at h2
        rw [h2] at h1
        cases h1
      · show ([Sx.mk s.h (s.br.map (norm K))]).any (asg1 K d) = _
        rw [List.any_cons, List.any_nil, Bool.or_false, asg1_eq]
        rw [show (Sx.mk s.h (s.br.map (norm K))).h = s.h from rfl, if_pos hc]
        rfl
    · rw [if_neg hc]
      simp [asgL]
theorem asg_norm (d : H) (l : List (Sx H)) : asgL K d (norm K l) = asgL K d l := asg_norm_of K fun t _ => asg_norm1 K d t
/-- is there a plain statement in it -/
def hp1 (s : Sx H) : Bool := if K.c s.h then s.br.attach.any fun b => b.1.attach.any fun t => hp1 t.1 else true
termination_by SizeOf.sizeOf s
decreasing_by exact Sx.lt_mem b.2 t.2
def hp (l : List (Sx H)) : Bool := l.any (hp1 K)
theorem any_attach {α : Type} (p : α → Bool) (l : List α) : (l.attach.any fun t => p t.1) = l.any p := by
  rw [Bool.eq_iff_iff]
  simp only [List.any_eq_true, List.mem_attach, true_and, Subtype.exists]
  constructor
  · rintro ⟨a, ha, h⟩; exact ⟨a, ha, h⟩
  · rintro ⟨a, ha, h⟩; exact ⟨a, ha, h⟩
theorem hp1_eq (s : Sx H) : hp1 K s = if K.c s.h then s.br.any (hp K) else true := by
  rw [hp1]
  have h1 : ∀ b : List (Sx H), (b.attach.any fun t => hp1 K t.1) = hp K b := fun b => any_attach (hp1 K) b
  simp only [h1]
  rw [any_attach (hp K)]
theorem norm_nil_of {l : List (Sx H)} (h : ∀ t ∈ l, norm1 K t = [] ↔ hp1 K t = false) : norm K l = [] ↔ hp K l = false := by
  induction l with
  | nil => exact ⟨fun _ => rfl, fun _ => rfl⟩
  | cons a l ih =>
    have ih := ih fun t ht => h t (List.mem_cons_of_mem _ ht)
    have ha := h a List.mem_cons_self
    rw [norm_cons]
    have e : hp K (a :: l) = (hp1 K a || hp K l) := rfl
    rw [e, Bool.or_eq_false_iff, ← ha, ← ih]
    constructor
    · intro hx
      by_cases hn : norm1 K a = []
      · rw [hn, nil_app] at hx
        exact ⟨hn, hx⟩
      · exact absurd hx (app_ne K hn)
    · rintro ⟨h1, h2⟩
      rw [h1, h2, nil_app]
theorem norm1_nil (s : Sx H) : norm1 K s = [] ↔ hp1 K s = false := by
  induction s using Sx.ind with
  | h s ih =>
    rw [norm1_eq, hp1_eq]
    by_cases hc : K.c s.h = true
    · rw [if_pos hc, if_pos hc]
      have hb : ∀ b ∈ s.br, norm K b = [] ↔ hp K b = false := fun b hb => norm_nil_of K (ih b hb)
      have e : (s.br.map (norm K)).all List.isEmpty = true ↔ s.br.any (hp K) = false := by
        rw [List.all_map, List.all_eq_true, Bool.eq_false_iff]
        constructor
        · intro h1 h2
          obtain ⟨b, hbm, h3⟩ := List.any_eq_true.1 h2
          have h4 := h1 b hbm
          have h5 := (hb b hbm).1 (List.isEmpty_iff.1 h4)
          rw [h5] at h3
          cases h3
        · intro h1 b hbm
          refine List.isEmpty_iff.2 ((hb b hbm).2 ?_)
          rw [Bool.eq_false_iff]
          intro h2
          exact h1 (List.any_eq_true.2 ⟨b, hbm, h2⟩)
      rw [← e]
      split
      · rename_i h; exact ⟨fun _ => h, fun _ => rfl⟩
      · rename_i h
        exact ⟨fun x => by simp at x, fun x => absurd x h⟩
    · rw [if_neg hc, if_neg hc]
      simp
/-- what is left without the hollow cases -/
def kp1 (s : Sx H) : Sx H := if K.c s.h then .mk s.h (s.br.attach.map fun b => b.1.attach.filterMap fun t => if hp1 K t.1 then some (kp1 t.1) else none) else s
termination_by SizeOf.sizeOf s
decreasing_by exact Sx.lt_mem b.2 t.2
def kp (l : List (Sx H)) : List (Sx H) := l.filterMap fun t => if hp1 K t then some (kp1 K t) else none
theorem filterMap_attach' {α β : Type} (f : α → Option β) (l : List α) : (l.attach.filterMap fun t => f t.1) = l.filterMap f := by
  conv => rhs; rw [← List.attach_map_subtype_val l]
  rw [List.filterMap_map]
  rfl
theorem kp1_eq (s : Sx H) : kp1 K s = if K.c s.h then .mk s.h (s.br.map (kp K)) else s := by
  rw [kp1]
  have h1 : ∀ b : List (Sx H), (b.attach.filterMap fun t => if hp1 K t.1 then some (kp1 K t.1) else none) = kp K b := fun b => filterMap_attach' (fun t => if hp1 K t then some (kp1 K t) else none) b
  simp only [h1]
  rw [List.map_attach_eq_pmap]
  simp
theorem kp_cons (a : Sx H) (l : List (Sx H)) : kp K (a :: l) = (if hp1 K a then [kp1 K a] else []) ++ kp K l := by
  unfold kp
  rw [List.filterMap_cons]
  cases hp1 K a <;> rfl
theorem norm_kp_of {l : List (Sx H)} (h : ∀ t ∈ l, norm1 K (kp1 K t) = norm1 K t) : norm K (kp K l) = norm K l := by
  induction l with
  | nil => rfl
  | cons a l ih =>
    rw [kp_cons, norm_append, norm_cons, ih fun t ht => h t (List.mem_cons_of_mem _ ht)]
    congr 1
    cases ha : hp1 K a
    · rw [(norm1_nil K a).2 ha]; rfl
    · rw [if_pos rfl, norm_one, h a List.mem_cons_self]
theorem norm1_kp (s : Sx H) : norm1 K (kp1 K s) = norm1 K s := by
  induction s using Sx.ind with
  | h s ih =>
    rw [kp1_eq]
    by_cases hc : K.c s.h = true
    · rw [if_pos hc, norm1_eq, norm1_eq K s]
      have e : (Sx.mk s.h (s.br.map (kp K))).br.map (norm K) = s.br.map (norm K) := by
        show (s.br.map (kp K)).map (norm K) = _
        rw [List.map_map]
        exact List.map_congr_left fun b hb => norm_kp_of K (ih b hb)
      rw [e, show (Sx.mk s.h (s.br.map (kp K))).h = s.h from rfl, if_pos hc, if_pos hc]
    · rw [if_neg hc]
theorem norm_kp (l : List (Sx H)) : norm K (kp K l) = norm K l := norm_kp_of K fun t _ => norm1_kp K t
/-- a statement with its branches joined -/
noncomputable def nb1 (s : Sx H) : Sx H := if K.c s.h then .mk s.h (s.br.map (norm K)) else s
theorem nb1_h (s : Sx H) : (nb1 K s).h = s.h := by unfold nb1; split <;> rfl
theorem nb1_len (s : Sx H) : (nb1 K s).br.length = s.br.length := by unfold nb1; split <;> simp [Sx.br]
theorem norm1_full {s : Sx H} (h : hp1 K s = true) : norm1 K s = [nb1 K s] := by
  have h1 : norm1 K s ≠ [] := fun e => by rw [(norm1_nil K s).1 e] at h; cases h
  rw [norm1_eq] at h1 ⊢
  unfold nb1
  split
  · rename_i hc
    rw [if_pos hc] at h1
    split
    · rename_i he
      rw [if_pos he] at h1
      exact absurd rfl h1
    · rfl
  · rfl
theorem asg_nb1 (d : H) (s : Sx H) : asg1 K d (nb1 K s) = asg1 K d s := by
  unfold nb1
  split
  · rename_i hc
    rw [asg1_eq, asg1_eq K d s, show (Sx.mk s.h (s.br.map (norm K))).h = s.h from rfl, if_pos hc, if_pos hc]
    show (s.br.map (norm K)).any _ = _
    rw [List.any_map]
    exact any_same fun b _ => asg_norm K d b
  · rfl
theorem mate_nb1 (a b : Sx H) : mate K (nb1 K a) (nb1 K b) = mate K a b := by
  unfold mate
  rw [nb1_h, nb1_h, nb1_len, nb1_len, asg_nb1]
end fu
end Go.Proofs.Ytjodffbekipnlaa
/- Runs of cases that are combined: plain. -/
namespace Go.Proofs.Ytjodffbekipnlaa
set_option linter.unusedVariables false
set_option linter.unusedSimpArgs false
namespace fu
variable {H : Type} (K : Hk H)
noncomputable def cmb : Sx H → List (Sx H) → Sx H
  | a, [] => nb1 K a
  | a, b :: r => both K (nb1 K a) (cmb b r)
/-- each one is combined with the one in front -/
def run : Sx H → List (Sx H) → Prop
  | _, [] => True
  | a, b :: r => mate K a b = true ∧ run b r
def lst : Sx H → List (Sx H) → Sx H
  | a, [] => a
  | _, b :: r => lst b r
theorem mate_snd {a b c : Sx H} (h : b.h = c.h) (hl : b.br.length = c.br.length) : mate K a b = mate K a c := by
  unfold mate
  rw [h, hl]
theorem both_h (a b : Sx H) : (both K a b).h = a.h := rfl
theorem both_br (a b : Sx H) : (both K a b).br = List.zipWith (app K) a.br b.br := rfl
theorem cmb_h : ∀ (r : List (Sx H)) (a : Sx H), (cmb K a r).h = a.h
  | [], a => nb1_h K a
  | b :: r, a => by unfold cmb; rw [both_h, nb1_h]
theorem cmb_len : ∀ (r : List (Sx H)) (a : Sx H), run K a r → (cmb K a r).br.length = a.br.length
  | [], a, _ => nb1_len K a
  | b :: r, a, h => by
    unfold cmb
    rw [both_br, List.length_zipWith, nb1_len, cmb_len r b h.2, (mate_parts K h.1).2.2.2.1, Nat.min_self]
theorem run_norm : ∀ (r : List (Sx H)) (a : Sx H), (∀ t ∈ a :: r, hp1 K t = true) → run K a r → norm K (a :: r) = [cmb K a r]
  | [], a, h, _ => by
    rw [norm_one, norm1_full K (h a List.mem_cons_self)]
    rfl
  | b :: r, a, h, hr => by
    rw [norm_cons, norm1_full K (h a List.mem_cons_self), run_norm r b (fun t ht => h t (List.mem_cons_of_mem _ ht)) hr.2, one_app, if_pos]
    · rfl
    · rw [mate_snd K (cmb_h K r b) (cmb_len K r b hr.2)]
      rw [← mate_snd K (nb1_h K b) (nb1_len K b), mate_nb1]
      exact hr.1
theorem norm_head {d : Sx H} (hd : hp1 K d = true) (q : List (Sx H)) : ∃ e ys, norm K (d :: q) = e :: ys ∧ e.h = d.h ∧ e.br.length = d.br.length := by
  rw [norm_cons, norm1_full K hd]
  cases hq : norm K q with
  | nil => exact ⟨nb1 K d, [], by rw [app_nil], nb1_h K d, nb1_len K d⟩
  | cons f ys =>
    rw [one_app]
    split
    · rename_i hm
      refine ⟨_, _, rfl, by rw [both_h, nb1_h], ?_⟩
      rw [both_br, List.length_zipWith, ← (mate_parts K hm).2.2.2.1, Nat.min_self, nb1_len]
    · exact ⟨_, _, rfl, nb1_h K d, nb1_len K d⟩
theorem mate_cmb (e : Sx H) : ∀ (r : List (Sx H)) (a : Sx H), run K a r → mate K (cmb K a r) e = mate K (lst a r) e
  | [], a, _ => by
    unfold cmb lst mate
    rw [nb1_h, nb1_len, asg_nb1]
  | b :: r, a, h => by
    unfold cmb lst
    have hm : mate K (nb1 K a) (cmb K b r) = true := by
      rw [mate_snd K (cmb_h K r b) (cmb_len K r b h.2), ← mate_snd K (nb1_h K b) (nb1_len K b), mate_nb1]
      exact h.1
    rw [mate_both_l K hm, mate_cmb e r b h.2]
/-- a run, and what is behind it -/
theorem run_rest {a d : Sx H} {r q : List (Sx H)} (h : ∀ t ∈ a :: r, hp1 K t = true) (hr : run K a r) (hd : hp1 K d = true) (hm : mate K (lst a r) d = false) : norm K (a :: r ++ d :: q) = cmb K a r :: norm K (d :: q) := by
  rw [norm_append, run_norm K r a h hr]
  obtain ⟨e, ys, he, h1, h2⟩ := norm_head K hd q
  rw [he, one_app, if_neg]
  rw [mate_cmb K e r a hr, mate_snd K h1 h2, hm]
  simp
/-- a branch of what is combined -/
theorem cmb_br : ∀ (r : List (Sx H)) (a : Sx H), K.c a.h = true → run K a r → ∀ k, k < a.br.length → (cmb K a r).br[k]? = some (norm K (((a :: r).map fun t => t.br.getD k []).flatten))
  | [], a, hc, _, k, hk => by
    unfold cmb nb1
    rw [if_pos hc]
    show (a.br.map (norm K))[k]? = _
    rw [List.getElem?_map, List.getElem?_eq_getElem hk, Option.map_some]
    simp [List.getD, hk]
  | b :: r, a, hc, h, k, hk => by
    have hb := mate_parts K h.1
    have ih := cmb_br r b hb.2.1 h.2 k (by rw [← hb.2.2.2.1]; exact hk)
    unfold cmb
    rw [both_br, List.getElem?_zipWith, ih]
    have e : (nb1 K a).br[k]? = some (norm K (a.br.getD k [])) := by
      unfold nb1
      rw [if_pos hc]
      show (a.br.map (norm K))[k]? = _
      rw [List.getElem?_map, List.getElem?_eq_getElem hk, Option.map_some]
      simp [List.getD, hk]
    rw [e]
    simp only [List.map_cons, List.flatten_cons]
    rw [norm_append K (a.br.getD k [])]
theorem cmb_plain {a : Sx H} (hc : ¬ K.c a.h = true) : cmb K a [] = a := by
  unfold cmb nb1
  rw [if_neg hc]
end fu
end Go.Proofs.Ytjodffbekipnlaa
/- Parts; joins of the program. -/
namespace Go.Proofs.Ytjodffbekipnlaa
set_option linter.unusedVariables false
set_option linter.unusedSimpArgs false
open Go.RowKit Go.Sort
namespace fu
/-- a part, and where it lies -/
inductive Pt where
  | mk (p : Nat) (s : Zt) (asg : Bool) (br : Rw (Rw Pt))
def Pt.p : Pt → Nat | .mk p _ _ _ => p
def Pt.s : Pt → Zt | .mk _ s _ _ => s
def Pt.asg : Pt → Bool | .mk _ _ a _ => a
def Pt.br : Pt → Rw (Rw Pt) | .mk _ _ _ br => br
theorem Pt.lt_of_mem {s t : Pt} {a : Rw Pt} (ha : a ∈ s.br.l) (ht : t ∈ a.l) : SizeOf.sizeOf t < SizeOf.sizeOf s := by
  cases s with
  | mk p s' asg br =>
    have h1 := List.sizeOf_lt_of_mem (show a ∈ br.l from ha)
    have h2 := List.sizeOf_lt_of_mem ht
    cases a with
    | mk A c l =>
      cases br with
      | mk A' c' l' =>
        simp at h1 h2 ⊢
        omega
theorem Pt.ind {P : Pt → Prop} (h : ∀ s : Pt, (∀ a ∈ s.br.l, ∀ t ∈ a.l, P t) → P s) (s : Pt) : P s := by
  generalize hN : SizeOf.sizeOf s = N
  induction N using Nat.strongRecOn generalizing s with
  | ind N ih =>
    subst hN
    exact h s fun a ha t ht => ih _ (Pt.lt_of_mem ha ht) t rfl
/-- what a part says -/
def Pt.ct (s : Pt) : Sx Hd := if s.s.k = 3 then .mk s.s.hd (s.br.l.attach.map fun b => b.1.l.attach.map fun t => Pt.ct t.1) else s.s.ct
termination_by SizeOf.sizeOf s
decreasing_by exact Pt.lt_of_mem b.2 t.2
def pcs (l : List Pt) : List (Sx Hd) := l.map Pt.ct
theorem Pt.ct_eq (s : Pt) : s.ct = if s.s.k = 3 then .mk s.s.hd (s.br.l.map fun b => pcs b.l) else s.s.ct := by
  rw [Pt.ct]
  have h1 : ∀ b : Rw Pt, (b.l.attach.map fun t => Pt.ct t.1) = pcs b.l := fun b => attach_map Pt.ct b.l
  simp only [h1]
  rw [attach_map (fun b : Rw Pt => pcs b.l)]
theorem Pt.ct_h (s : Pt) : s.ct.h = s.s.hd := by
  rw [Pt.ct_eq]
  split
  · rfl
  · exact Zt.ct_h _
/-- a part in its fourteen cells -/
def PC (w : World) (t : Pt) : Prop := BoxZ w t.p t.s ∧ w.cell? ⟨t.p, 12, none⟩ = some (.slice t.br.A t.br.l.length t.br.c) ∧ w.cell? ⟨t.p, 13, none⟩ = some (.bool t.asg)
def joinsB (a b : Pt) : Bool := decide (a.s.k = 3) && decide (b.s.k = 3) && !a.asg && (a.s.nm.toList == b.s.nm.toList) && decide (a.s.t = b.s.t) && (a.br.l.length == b.br.l.length)
theorem joinsB_eq {a b : Pt} (ha : a.s.k = 3 → a.asg = asg1 HK a.ct.h a.ct) : joinsB a b = mate HK a.ct b.ct := by
  have e1 : ∀ c : Pt, HK.c c.ct.h = decide (c.s.k = 3) := fun c => by rw [Pt.ct_h]; rfl
  have e3 : HK.key a.ct.h b.ct.h = (decide (a.s.nm.toList = b.s.nm.toList) && decide (a.s.t = b.s.t)) := by rw [Pt.ct_h, Pt.ct_h]; rfl
  unfold joinsB mate
  rw [e1, e1, e3]
  by_cases h1 : a.s.k = 3
  · rw [← ha h1]
    by_cases h2 : b.s.k = 3
    · have e4 : ∀ c : Pt, c.s.k = 3 → c.ct.br.length = c.br.l.length := fun c hc => by
        rw [Pt.ct_eq, if_pos hc]
        show (c.br.l.map _).length = _
        rw [List.length_map]
      rw [e4 a h1, e4 b h2, Bool.beq_eq_decide_eq]
      cases a.asg <;> simp [h1, h2, Bool.and_assoc]
    · simp [h2]
  · simp [h1]
set_option maxRecDepth 100000 in
set_option maxHeartbeats 8000000 in
theorem joins_any (a b : Pt) (w : World) (ha : PC w a) (hb : PC w b) (hla : a.br.l.length ≤ 9223372036854775807) (hlb : b.br.l.length ≤ 9223372036854775807) : Calls Try.prog 25 #[.pointer (some ⟨a.p, 0, none⟩), .pointer (some ⟨b.p, 0, none⟩)] w (Bel (.bool (joinsB a b)) w) := by
  obtain ⟨⟨m0, m1, m2, m3, m4, m5, m6, m7, m8, m9, m10, m11⟩, m12, m13⟩ := ha
  obtain ⟨⟨n0, n1, n2, n3, n4, n5, n6, n7, n8, n9, n10, n11⟩, n12, n13⟩ := hb
  obtain ⟨V, hV⟩ : ∃ V, joinsB a b = V := ⟨_, rfl⟩
  have HV := Lib.hid hV
  rw [hV]
  clear hV
  cases q1 : (a.s.k == 3)
  case false =>
    have hv : V = false := by
      rw [← HV.out]
      unfold joinsB
      have p1 : ¬ a.s.k = 3 := by simpa using q1
      simp [p1]
    clear HV
    go_enter Try.func25, Try.ntmps25
    go_wp2
    go_quiet (fail)
    go_wp2
    go_ret
    exact ⟨by rw [hv]; rfl, (by repeat (first | (with_reducible exact Below.refl _ _) | (with_reducible assumption) | (with_reducible exact bel_box _) | (with_reducible refine bel_step ?_ (by with_reducible assumption)) | (with_reducible refine Below.drew ?_) | (with_reducible refine below_drewN ?_ _) | (with_reducible refine bel_alloc ?_ _)))⟩
  cases q2 : (b.s.k == 3)
  case false =>
    have hv : V = false := by
      rw [← HV.out]
      unfold joinsB
      have p2 : ¬ b.s.k = 3 := by simpa using q2
      simp [p2]
    clear HV
    go_enter Try.func25, Try.ntmps25
    go_wp2
    go_quiet (fail)
    go_wp2
    go_ret
    exact ⟨by rw [hv]; rfl, (by repeat (first | (with_reducible exact Below.refl _ _) | (with_reducible assumption) | (with_reducible exact bel_box _) | (with_reducible refine bel_step ?_ (by with_reducible assumption)) | (with_reducible refine Below.drew ?_) | (with_reducible refine below_drewN ?_ _) | (with_reducible refine bel_alloc ?_ _)))⟩
  cases q3 : a.asg
  case true =>
    rw [q3] at m13
    have hv : V = false := by
      rw [← HV.out]
      unfold joinsB
      rw [q3]; simp
    clear HV
    go_enter Try.func25, Try.ntmps25
    go_wp2
    go_quiet (fail)
    go_wp2
    go_ret
    exact ⟨by rw [hv]; rfl, (by repeat (first | (with_reducible exact Below.refl _ _) | (with_reducible assumption) | (with_reducible exact bel_box _) | (with_reducible refine bel_step ?_ (by with_reducible assumption)) | (with_reducible refine Below.drew ?_) | (with_reducible refine below_drewN ?_ _) | (with_reducible refine bel_alloc ?_ _)))⟩
  rw [q3] at m13
  cases q4 : (a.s.nm.toList == b.s.nm.toList)
  case false =>
    have hv : V = false := by
      rw [← HV.out]
      unfold joinsB
      rw [q4]; simp
    clear HV
    go_enter Try.func25, Try.ntmps25
    go_wp2
    go_quiet (fail)
    go_wp2
    go_ret
    exact ⟨by rw [hv]; rfl, (by repeat (first | (with_reducible exact Below.refl _ _) | (with_reducible assumption) | (with_reducible exact bel_box _) | (with_reducible refine bel_step ?_ (by with_reducible assumption)) | (with_reducible refine Below.drew ?_) | (with_reducible refine below_drewN ?_ _) | (with_reducible refine bel_alloc ?_ _)))⟩
  cases q5 : (a.s.t == b.s.t)
  case false =>
    have hv : V = false := by
      rw [← HV.out]
      unfold joinsB
      have p5 : ¬ a.s.t = b.s.t := by simpa using q5
      simp [p5]
    clear HV
    go_enter Try.func25, Try.ntmps25
    go_wp2
    go_quiet (fail)
    go_wp2
    go_ret
    exact ⟨by rw [hv]; rfl, (by repeat (first | (with_reducible exact Below.refl _ _) | (with_reducible assumption) | (with_reducible exact bel_box _) | (with_reducible refine bel_step ?_ (by with_reducible assumption)) | (with_reducible refine Below.drew ?_) | (with_reducible refine below_drewN ?_ _) | (with_reducible refine bel_alloc ?_ _)))⟩
  cases q6 : (((a.br.l.length : Nat) : Int) == ((b.br.l.length : Nat) : Int))
  case false =>
    have hv : V = false := by
      rw [← HV.out]
      unfold joinsB
      have p6 : ¬ a.br.l.length = b.br.l.length := by
        have : ¬ ((a.br.l.length : Nat) : Int) = ((b.br.l.length : Nat) : Int) := by simpa using q6
        omega
      simp [p6]
    clear HV
    go_enter Try.func25, Try.ntmps25
    go_wp2
    go_quiet (fail)
    go_wp2
    go_ret
    exact ⟨by rw [hv]; rfl, (by repeat (first | (with_reducible exact Below.refl _ _) | (with_reducible assumption) | (with_reducible exact bel_box _) | (with_reducible refine bel_step ?_ (by with_reducible assumption)) | (with_reducible refine Below.drew ?_) | (with_reducible refine below_drewN ?_ _) | (with_reducible refine bel_alloc ?_ _)))⟩
  have hv : V = true := by
    rw [← HV.out]
    unfold joinsB
    have p1 : a.s.k = 3 := by simpa using q1
    have p2 : b.s.k = 3 := by simpa using q2
    have p5 : a.s.t = b.s.t := by simpa using q5
    have p6 : a.br.l.length = b.br.l.length := by
      have : ((a.br.l.length : Nat) : Int) = ((b.br.l.length : Nat) : Int) := by simpa using q6
      omega
    rw [q3, q4, p1, p2, p5, p6]
    simp
  clear HV
  go_enter Try.func25, Try.ntmps25
  go_wp2
  go_quiet (fail)
  go_wp2
  go_ret
  exact ⟨by rw [hv]; rfl, (by repeat (first | (with_reducible exact Below.refl _ _) | (with_reducible assumption) | (with_reducible exact bel_box _) | (with_reducible refine bel_step ?_ (by with_reducible assumption)) | (with_reducible refine Below.drew ?_) | (with_reducible refine below_drewN ?_ _) | (with_reducible refine bel_alloc ?_ _)))⟩
end fu
end Go.Proofs.Ytjodffbekipnlaa
/- slices.Grow of lists of parts. -/
namespace Go.Proofs.Ytjodffbekipnlaa
set_option linter.unusedVariables false
set_option linter.unusedSimpArgs false
open Go.RowKit Go.Sort
namespace fu
theorem apInfo : (Try.prog.info? 47).map (fun i => (i.zero, i.size, i.bytes)) = some (some (.slice none 0 0), 1, 24) := by kernel_rfl
theorem ptInfo : (Try.prog.info? 52).map (fun i => (i.zero, i.size, i.bytes)) = some (some (.pointer none), 1, 8) := by kernel_rfl
set_option maxHeartbeats 2000000 in
set_option maxRecDepth 20000 in
theorem growP_any (n : Nat) (w : World) (hn : n * 24 ≤ 140737488355328) :
    Calls Try.prog 38 #[.slice none 0 0, .int .i64 n] w (NewR 47 1 w) := by
  obtain ⟨i0, hi, iz, is, ib⟩ := info_parts apInfo
  rcases Nat.eq_zero_or_pos n with h0 | h0
  · subst h0
    go_enter Try.func38, Try.ntmps38
    go_wp2
    go_ret
    exact ⟨none, 0, rfl, World.ownsRow_nil _ _ _ _, Below.refl _ _⟩
  · have hrun := Lib.hid (Lib.run_append_nil_zeros (P := Try.prog) w 57 3 57 47 i0 (.slice none 0 0) .i64 .i64 Try.underlying57 Try.underlying3 hi iz n h0 (by rw [is]; decide) (by omega) (by rw [ib]; omega))
    go_enter Try.func38, Try.ntmps38
    go_wp2_with (at_builtin; refine Lib.wpList_append_run _ rfl _ _ _ _ rfl _ _ rfl rfl _ _ hrun.out ?_)
    go_ret
    have hge := grownCap_ge w n 0 47
    have hm := grownCap_le_maxLen w n 0 47 (by unfold maxLen; omega)
    refine ⟨some ⟨w.heap.size, 0, none⟩, grownCap w n 0 47, rfl, ?_, (bel_box _).drew⟩
    refine (World.ownsRow_made (base := w.heap.size) (size := 1) (e := 47) w (Builtin.zeroCells (Value.cells (.slice none 0 0)) n ++ Builtin.zeroCells (Value.cells (.slice none 0 0)) (grownCap w n 0 47 - n)) (grownCap w n 0 47) (Nat.le_refl _) hm ?_).drew
    simp only [Array.size_append, size_zeroCells]
    have e6 : (Value.cells (.slice none 0 0)).size = 1 := rfl
    rw [e6]
    omega
end fu
end Go.Proofs.Ytjodffbekipnlaa
/- A map that counts by name. -/
namespace Go.Proofs.Ytjodffbekipnlaa
set_option linter.unusedVariables false
set_option linter.unusedSimpArgs false
open Go.RowKit Go.Maps Go.WideMaps
namespace fu
/-- the map in block m counts as f says; no more than n names came -/
def MC (W : World) (m n : Nat) (f : List UInt8 → Nat) : Prop := ∃ D, IsMap D ∧ (∀ t : List UInt8, D.atKey (.string t) (.lit (.int .i64 0)) = .lit (.int .i64 (f t : Int))) ∧ W.ownsMap Try.prog 9 (plainElem (H := Unit) Try.prog 3) m n D
theorem MC.below {W W' : World} {m n : Nat} {f : List UInt8 → Nat} (h : MC W m n f) (hb : Below W.heap.size W W') : MC W' m n f := by
  obtain ⟨D, h1, h2, h3⟩ := h
  exact ⟨D, h1, h2, h3.kept (w' := W') (row := none) ⟨hb.os, hb.tape, hb.output, hb.size, fun k hk _ => hb.block k hk⟩ (by simp)⟩
theorem MC.look {W : World} {m n : Nat} {f : List UInt8 → Nat} (h : MC W m n f) (s : ByteArray) (hs : s.size ≤ maxLen) : (Instr.lookup 43 (.map (some m)) (.string s) false).run Try.prog W = .ok (.int .i64 (f s.data.toList : Int)) W := by
  obtain ⟨D, h1, h2, h3⟩ := h
  obtain ⟨c, hrun, hat, _⟩ := h3.lookup_int (t := 43) (string_keyed Try.underlying9) Try.underlying43 Try.underlying3 (Try.zeroValue3 _) (keyOf_string_mk Try.underlying9 hs)
  rw [h2] at hat
  injection hat with hat
  injection hat with _ hat
  rw [hrun, ← hat]
theorem MC.upd {W : World} {m n : Nat} {f : List UInt8 → Nat} (h : MC W m n f) (s : ByteArray) (hs : s.size ≤ maxLen) (c : Nat) (hc : c ≤ 9223372036854775807) (hn : n < maxLen) : ∃ W', (Instr.mapUpdate 43 (.map (some m)) (.string s) (.int .i64 (c : Int))).run Try.prog W = .ok () W' ∧ MC W' m (n + 1) (fun t => if t = s.data.toList then c else f t) ∧ W.grownBy W' (some m) := by
  obtain ⟨D, h1, h2, h3⟩ := h
  have hw : (Lit.int .i64 (c : Int)).wf = true := by
    have h1 : IntKind.i64.min = -9223372036854775808 := by decide
    simp [Lit.wf]
    rw [h1]
    omega
  obtain ⟨W', hrun, ho, hg⟩ := h3.update (t := 43) (string_keyed Try.underlying9) Try.underlying43 hn (keyOf_string_mk Try.underlying9 hs) (plainElem_int Try.underlying3 hw)
  refine ⟨W', hrun, ⟨_, ?_, fun t => ?_, ho⟩, hg⟩
  · obtain ⟨es, rfl⟩ := h1
    exact ⟨_, rfl⟩
  · by_cases e : t = s.data.toList
    · rw [e, atKey_put_same h1 (by simp [WideAt.IsKeyLit])]
      show _ = DataW.lit (Lit.int .i64 (((if s.data.toList = s.data.toList then c else f s.data.toList) : Nat) : Int))
      rw [if_pos rfl]
    · rw [atKey_put_other (fun h => e (by injection h with h)), h2]
      show _ = DataW.lit (Lit.int .i64 (((if t = s.data.toList then c else f t) : Nat) : Int))
      rw [if_neg e]
end fu
end Go.Proofs.Ytjodffbekipnlaa
/- The reader; count of the program. -/
namespace Go.Proofs.Ytjodffbekipnlaa
set_option linter.unusedVariables false
set_option linter.unusedSimpArgs false
open Go.RowKit Go.Maps Go.WideMaps
namespace fu
/-- all blocks are kept, but p and m -/
structure K2 (p m : Nat) (W W' : World) : Prop where
  os : W'.os = W.os
  tape : W'.tape = W.tape
  output : W'.output = W.output
  size : W.heap.size ≤ W'.heap.size
  block : ∀ k, k < W.heap.size → k ≠ p → k ≠ m → W'.heap[k]? = W.heap[k]?
theorem K2.refl (p m : Nat) (W : World) : K2 p m W W := ⟨rfl, rfl, rfl, Nat.le_refl _, fun _ _ _ _ => rfl⟩
theorem K2.trans {p m : Nat} {A B C : World} (h : K2 p m A B) (g : K2 p m B C) : K2 p m A C := ⟨g.os.trans h.os, g.tape.trans h.tape, g.output.trans h.output, Nat.le_trans h.size g.size, fun k hk h1 h2 => (g.block k (Nat.lt_of_lt_of_le hk h.size) h1 h2).trans (h.block k hk h1 h2)⟩
theorem K2.of_below {p m : Nat} {W W' : World} (h : Below W.heap.size W W') : K2 p m W W' := ⟨h.os, h.tape, h.output, h.size, fun k hk _ _ => h.block k hk⟩
theorem K2.of_map {p m : Nat} {W W' : World} (h : W.grownBy W' (some m)) : K2 p m W W' := ⟨h.os, h.tape, h.output, h.size, fun k hk _ h2 => h.block k hk (fun e => h2 (Option.some.inj e))⟩
theorem K2.set {p m i : Nat} (W : World) (v : Value) : K2 p m W (W.setCell ⟨p, i, none⟩ v) := by
  refine ⟨rfl, rfl, rfl, by simp [World.setCell], fun k hk h1 _ => ?_⟩
  exact heap_setCell_other W ⟨p, i, none⟩ k v h1
theorem K2.cell {p m : Nat} {W W' : World} (h : K2 p m W W') {a : Addr} (hb : a.block < W.heap.size) (h1 : a.block ≠ p) (h2 : a.block ≠ m) : W'.cell? a = W.cell? a := World.cell?_of_block (h.block a.block hb h1 h2)
theorem K2.own {p m base n z : Nat} {W W' : World} (h : K2 p m W W') {T : TypeId} {v : Value} {xs : List Value} (ho : W.ownsRow base T z v n xs) (h1 : v.ownBlock ≠ some p) (h2 : v.ownBlock ≠ some m) : W'.ownsRow base T z v n xs := by
  refine ⟨ho.1, ho.2.imp id fun ⟨g, cap, cur, e1, q1, q2, r⟩ => ⟨g, cap, cur, e1, q1, ?_, r⟩⟩
  have hg : v.ownBlock = some g := by rw [e1]; rfl
  rw [h.block g (Array.getElem?_eq_some_iff.1 q2).1 (fun e => h1 (by rw [hg, e])) (fun e => h2 (by rw [hg, e]))]
  exact q2
/-- the reader: how many plain statements, and what they assign -/
structure RS (W : World) (p m n pl : Nat) (f : List UInt8 → Nat) : Prop where
  c0 : W.cell? ⟨p, 0, none⟩ = some (.int .i64 (pl : Int))
  c1 : W.cell? ⟨p, 1, none⟩ = some (.map (some m))
  f0 : W.frozen? ⟨p, 0, none⟩ = false
  mc : MC W m n f
  ne : p ≠ m
theorem RS.below {W W' : World} {p m n pl : Nat} {f : List UInt8 → Nat} (h : RS W p m n pl f) (hb : Below W.heap.size W W') : RS W' p m n pl f := by
  have hp := World.block_lt_of_cell? W _ h.c0
  exact ⟨(hb.cell (p := ⟨p, 0, none⟩) hp).trans h.c0, (hb.cell (p := ⟨p, 1, none⟩) hp).trans h.c1, (hb.frozen (p := ⟨p, 0, none⟩) hp).trans h.f0, h.mc.below hb, h.ne⟩
theorem RS.tick {W : World} {p m n pl : Nat} {f : List UInt8 → Nat} (h : RS W p m n pl f) (x : Nat) : RS (W.setCell ⟨p, 0, none⟩ (.int .i64 (x : Int))) p m n x f := by
  refine ⟨World.cell?_setCell_same' _ _ _ (by rw [h.c0]; rfl), (World.cell?_setCell_other _ _ _ _ (by intro e; injection e with _ e; cases e)).trans h.c1, (World.frozen?_setCell _ _ _ _).trans h.f0, ?_, h.ne⟩
  obtain ⟨D, h1, h2, h3⟩ := h.mc
  exact ⟨D, h1, h2, h3.kept (w' := W.setCell ⟨p, 0, none⟩ (.int .i64 (x : Int))) (row := some p) ⟨rfl, rfl, rfl, by simp [World.setCell], fun k hk hn => heap_setCell_other W ⟨p, 0, none⟩ k _ (fun e => hn (by rw [e]))⟩ (by intro e; exact h.ne (Option.some.inj e).symm)⟩
theorem RS.upd {W W' : World} {p m n n' pl : Nat} {f g : List UInt8 → Nat} (h : RS W p m n pl f) (hg : W.grownBy W' (some m)) (hm : MC W' m n' g) : RS W' p m n' pl g := by
  have hp := World.block_lt_of_cell? W _ h.c0
  have hb := hg.block p hp (fun e => h.ne (Option.some.inj e))
  exact ⟨(World.cell?_of_block (a := ⟨p, 0, none⟩) hb).trans h.c0, (World.cell?_of_block (a := ⟨p, 1, none⟩) hb).trans h.c1, (World.frozen?_of_block (a := ⟨p, 0, none⟩) hb).trans h.f0, hm, h.ne⟩
end fu
end Go.Proofs.Ytjodffbekipnlaa
