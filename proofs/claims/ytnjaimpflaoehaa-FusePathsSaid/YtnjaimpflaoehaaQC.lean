/- Texts of one chain, in one file. -/
import Derived.Laws.CopyRow
import Derived.Laws.CopyOwn
import Derived.Deep.OwnRows
import Derived.Deep.RegionWith
import Derived.Deep.RegionLaw
import Derived.Test.YtnjaimpflaoehaaQB
/- count of the program: calls, and what assigns nothing. -/
namespace Go.Proofs.Ytnjaimpflaoehaa
set_option linter.unusedVariables false
set_option linter.unusedSimpArgs false
open Go.RowKit Go.Maps Go.WideMaps
namespace fu
def cntN (l : List ByteArray) (t : List UInt8) : Nat := l.countP fun b => decide (b.data.toList = t)
theorem cntN_take {l : List ByteArray} {k : Nat} {y : ByteArray} (h : l[k]? = some y) (t : List UInt8) : cntN (l.take (k + 1)) t = cntN (l.take k) t + (if y.data.toList = t then 1 else 0) := by
  unfold cntN
  rw [take_succ_of h, List.countP_append]
  simp [List.countP_cons]
theorem cntN_le (l : List ByteArray) (t : List UInt8) : cntN l t ≤ l.length := List.countP_le_length
set_option maxRecDepth 100000 in
set_option maxHeartbeats 4000000 in
theorem count_other (z : Zt) (w : World) (p m n pl : Nat) (f : List UInt8 → Nat) (h : RS w p m n pl f) (hz1 : ¬ z.k = 1) (hz4 : ¬ z.k = 4) (hpl : pl ≤ 1000000) : Calls Try.prog 29 #[.pointer (some ⟨p, 0, none⟩), zV z] w (fun e w' => e = .returned (.tuple #[]) ∧ RS w' p m n (pl + 1) f ∧ K2 p m w w') := by
  have e1 : ((pl + 1 : Nat) : Int) = (pl : Int) + 1 := by omega
  have h1 := h.tick (pl + 1)
  rw [e1] at h1
  have HR := Lib.hid (h1.below (bel_box (.cells #[.int .i64 z.k, .string z.nm, .int .i64 z.t, .int .i64 z.r.k, .int .i64 z.r.op, .int .i64 z.r.t, .int .i64 z.r.v, .string z.r.nm, .slice z.r.A z.r.ar.length z.r.c, .slice z.ou.A z.ou.l.length z.ou.c, .slice z.ar.A z.ar.l.length z.ar.c, .slice z.br.A z.br.l.length z.br.c] 38)))
  have HK : Hid (K2 p m w ((w.setCell ⟨p, 0, none⟩ (.int .i64 ((pl : Int) + 1))).alloc (.cells #[.int .i64 z.k, .string z.nm, .int .i64 z.t, .int .i64 z.r.k, .int .i64 z.r.op, .int .i64 z.r.t, .int .i64 z.r.v, .string z.r.nm, .slice z.r.A z.r.ar.length z.r.c, .slice z.ou.A z.ou.l.length z.ou.c, .slice z.ar.A z.ar.l.length z.ar.c, .slice z.br.A z.br.l.length z.br.c] 38))) := Lib.hid ((K2.set w _).trans (K2.of_below (bel_box _)))
  have hp : p < w.heap.size := World.block_lt_of_cell? w _ h.c0
  have hpn : p ≠ w.heap.size := by omega
  have d0 := h.c0
  have d1 := h.c1
  have g0 := h.f0
  clear h1 e1 h
  go_enter Try.func29, Try.ntmps29
  go_wp2
  refine bodyPost_end (v := .tuple #[]) (results_none rfl _ _ _) rfl ?_
  exact ⟨rfl, HR.out, HK.out⟩
set_option maxRecDepth 100000 in
set_option maxHeartbeats 4000000 in
theorem count_call (z : Zt) (w : World) (p m n pl H : Nat) (f : List UInt8 → Nat) (h : RS w p m n pl f) (hz : z.k = 4) (hpl : pl ≤ 1000000) (hf : ∀ t, f t ≤ 1000000) (hl : z.ou.l.length ≤ 200000) (hn : n + z.ou.l.length < maxLen) (hs : ∀ s ∈ z.ou.l, s.size ≤ maxLen) (hR : RsB w H z.ou) (hHp : H ≤ p) (hHm : H ≤ m) : Calls Try.prog 29 #[.pointer (some ⟨p, 0, none⟩), zV z] w (fun e w' => e = .returned (.tuple #[]) ∧ RS w' p m (n + z.ou.l.length) (pl + 1) (fun t => f t + cntN z.ou.l t) ∧ K2 p m w w') := by
  have e1 : ((pl + 1 : Nat) : Int) = (pl : Int) + 1 := by omega
  have h1 := h.tick (pl + 1)
  rw [e1] at h1
  have HR := Lib.hid (h1.below (bel_box (.cells #[.int .i64 4, .string z.nm, .int .i64 z.t, .int .i64 z.r.k, .int .i64 z.r.op, .int .i64 z.r.t, .int .i64 z.r.v, .string z.r.nm, .slice z.r.A z.r.ar.length z.r.c, .slice z.ou.A z.ou.l.length z.ou.c, .slice z.ar.A z.ar.l.length z.ar.c, .slice z.br.A z.br.l.length z.br.c] 38)))
  have HK : Hid (K2 p m w ((w.setCell ⟨p, 0, none⟩ (.int .i64 ((pl : Int) + 1))).alloc (.cells #[.int .i64 4, .string z.nm, .int .i64 z.t, .int .i64 z.r.k, .int .i64 z.r.op, .int .i64 z.r.t, .int .i64 z.r.v, .string z.r.nm, .slice z.r.A z.r.ar.length z.r.c, .slice z.ou.A z.ou.l.length z.ou.c, .slice z.ar.A z.ar.l.length z.ar.c, .slice z.br.A z.br.l.length z.br.c] 38))) := Lib.hid ((K2.set w _).trans (K2.of_below (bel_box _)))
  have hp : p < w.heap.size := World.block_lt_of_cell? w _ h.c0
  have hpn : p ≠ w.heap.size := by omega
  have d0 := h.c0
  have d1 := h.c1
  have g0 := h.f0
  have HB := Lib.hid hR
  have HF := Lib.hid hf
  have HS := Lib.hid hs
  clear h1 e1 h hR hf hs
  go_enter Try.func29, Try.ntmps29
  go_wp2
  go_loopw [5, 30] (fun _ i W => ∃ k : Nat, k ≤ z.ou.l.length ∧ i = .int .i64 (k : Int) ∧ Hid (RS W p m (n + k) (pl + 1) (fun t => f t + cntN (z.ou.l.take k) t)) ∧ Hid (K2 p m w W)) (fun _ i _ => z.ou.l.length - (intOf i).toNat)
  case atStart => exact ⟨0, by omega, rfl, HR, HK⟩
  case round =>
    obtain ⟨k, hk, rfl, HRk, HKk⟩ := hrel
    by_cases hlt : k < z.ou.l.length
    · obtain ⟨ad, y, hA, had, hy, hym, c0⟩ := HB.out.at_ hlt
      have hbk := World.block_lt_of_cell? w _ c0
      rw [add_block] at hbk
      have c1 : wr.cell? (ad.add (k * 1)) = some (.string y) := (HKk.out.cell (a := ad.add (k * 1)) (by rw [add_block]; exact hbk) (by rw [add_block]; omega) (by rw [add_block]; omega)).trans c0
      rw [Nat.mul_one] at c1
      rw [hA]
      have hlk := HRk.out.mc.look y (HS.out y hym)
      have hcl := cntN_le (z.ou.l.take k) y.data.toList
      have hfl := HF.out y.data.toList
      rw [List.length_take] at hcl
      obtain ⟨c, hc⟩ : ∃ c, f y.data.toList + cntN (z.ou.l.take k) y.data.toList = c := ⟨_, rfl⟩
      have hcb : c ≤ 1200000 := by omega
      obtain ⟨W', hrun, hm, hg⟩ := HRk.out.mc.upd y (HS.out y hym) (c + 1) (by omega) (by omega)
      have ec : ((c + 1 : Nat) : Int) = (c : Int) + 1 := by omega
      rw [ec] at hrun
      rw [hc] at hlk
      have hwr : IntKind.i64.wrap ((c : Int) + 1) = (c : Int) + 1 := Go.IntWalk.i64_in _ ⟨by omega, by omega⟩
      have HR2 : Hid (RS W' p m (n + (k + 1)) (pl + 1) (fun t => f t + cntN (z.ou.l.take (k + 1)) t)) := Lib.hid (by
        have h9 := HRk.out.upd hg hm
        refine ⟨h9.c0, h9.c1, h9.f0, ?_, h9.ne⟩
        have e : (fun t => if t = y.data.toList then c + 1 else f t + cntN (z.ou.l.take k) t) = fun t => f t + cntN (z.ou.l.take (k + 1)) t := by
          funext t
          rw [cntN_take hy]
          by_cases e : t = y.data.toList
          · subst e
            rw [if_pos rfl, if_pos rfl]
            omega
          · rw [if_neg e, if_neg (fun x => e x.symm)]
            rfl
        rw [← e]
        exact h9.mc)
      have HK2 : Hid (K2 p m w W') := Lib.hid (HKk.out.trans (K2.of_map hg))
      have hcm := HRk.out.c1
      have dlt : (k : Int) < (z.ou.l.length : Int) := by omega
      clear hA hy hym hc hcl hfl ec hm hg c0
      go_wp2
      go_roundw
      case rel => exact ⟨k + 1, by omega, by go_num, HR2, HK2⟩
      case measure => simp [intOf]; omega
    · obtain rfl : k = z.ou.l.length := by omega
      have h9 := HRk.out
      rw [List.take_length] at h9
      have H9 := Lib.hid h9
      clear h9
      go_wp2
      refine bodyPost_end (v := .tuple #[]) (results_none rfl _ _ _) rfl ?_
      exact ⟨rfl, H9.out, HKk.out⟩
end fu
end Go.Proofs.Ytnjaimpflaoehaa
/- part of the program: a plain statement. -/
namespace Go.Proofs.Ytnjaimpflaoehaa
set_option linter.unusedVariables false
set_option linter.unusedSimpArgs false
open Go.RowKit Go.Maps Go.WideMaps
namespace fu
theorem K2.low {p m H : Nat} {W W' : World} (h : K2 p m W W') (hH : H ≤ W.heap.size) (hp : H ≤ p) (hm : H ≤ m) : Below H W W' := ⟨h.os, h.tape, h.output, h.size, fun k hk => h.block k (by omega) (by omega) (by omega)⟩
theorem pc_new (w : World) (s : Zt) (a : Bool) (br : Rw (Rw Pt)) (T : TypeId) : PC (w.alloc (.cells #[.int .i64 s.k, .string s.nm, .int .i64 s.t, .int .i64 s.r.k, .int .i64 s.r.op, .int .i64 s.r.t, .int .i64 s.r.v, .string s.r.nm, .slice s.r.A s.r.ar.length s.r.c, .slice s.ou.A s.ou.l.length s.ou.c, .slice s.ar.A s.ar.l.length s.ar.c, .slice s.br.A s.br.l.length s.br.c, .slice br.A br.l.length br.c, .bool a] T)) (.mk w.heap.size s a br) := by
  refine ⟨?_, ?_, ?_⟩
  · show BoxZ (w.alloc (.cells #[.int .i64 s.k, .string s.nm, .int .i64 s.t, .int .i64 s.r.k, .int .i64 s.r.op, .int .i64 s.r.t, .int .i64 s.r.v, .string s.r.nm, .slice s.r.A s.r.ar.length s.r.c, .slice s.ou.A s.ou.l.length s.ou.c, .slice s.ar.A s.ar.l.length s.ar.c, .slice s.br.A s.br.l.length s.br.c, .slice br.A br.l.length br.c, .bool a] T)) w.heap.size s
    unfold BoxZ
    refine ⟨?_, ?_, ?_, ?_, ?_, ?_, ?_, ?_, ?_, ?_, ?_, ?_⟩ <;> simp [go_sem]
  · show (w.alloc (.cells #[.int .i64 s.k, .string s.nm, .int .i64 s.t, .int .i64 s.r.k, .int .i64 s.r.op, .int .i64 s.r.t, .int .i64 s.r.v, .string s.r.nm, .slice s.r.A s.r.ar.length s.r.c, .slice s.ou.A s.ou.l.length s.ou.c, .slice s.ar.A s.ar.l.length s.ar.c, .slice s.br.A s.br.l.length s.br.c, .slice br.A br.l.length br.c, .bool a] T)).cell? ⟨w.heap.size, 12, none⟩ = some (.slice br.A br.l.length br.c)
    simp [go_sem]
  · show (w.alloc (.cells #[.int .i64 s.k, .string s.nm, .int .i64 s.t, .int .i64 s.r.k, .int .i64 s.r.op, .int .i64 s.r.t, .int .i64 s.r.v, .string s.r.nm, .slice s.r.A s.r.ar.length s.r.c, .slice s.ou.A s.ou.l.length s.ou.c, .slice s.ar.A s.ar.l.length s.ar.c, .slice s.br.A s.br.l.length s.br.c, .slice br.A br.l.length br.c, .bool a] T)).cell? ⟨w.heap.size, 13, none⟩ = some (.bool a)
    simp [go_sem]
/-- what count does, whatever the statement -/
def CountsTo (z : Zt) (p m n pl n' : Nat) (f g : List UInt8 → Nat) (H : Nat) : Prop := ∀ W, RS W p m n pl f → RsB W H z.ou → Calls Try.prog 29 #[.pointer (some ⟨p, 0, none⟩), zV z] W (fun e w' => e = .returned (.tuple #[]) ∧ RS w' p m n' (pl + 1) g ∧ K2 p m W w')
set_option maxRecDepth 100000 in
set_option maxHeartbeats 4000000 in
theorem part_plain (z : Zt) (w : World) (p m n pl n' H : Nat) (f g : List UInt8 → Nat) (h : RS w p m n pl f) (hz : ¬ z.k = 3) (hC : Hid (CountsTo z p m n pl n' f g H)) (hR : RsZ w H z) (hS : SmZ 200000 z) (hH : H ≤ w.heap.size) (hHp : H ≤ p) (hHm : H ≤ m) (hmw : m < w.heap.size) :
    Calls Try.prog 27 #[.pointer (some ⟨p, 0, none⟩), zV z] w (fun e w' => ∃ t : Pt, e = .returned (.pointer (some ⟨t.p, 0, none⟩)) ∧ t.ct = z.ct ∧ t.s.ct = z.ct ∧ t.asg = false ∧ t.br = ⟨none, 0, []⟩ ∧ PC w' t ∧ w.heap.size ≤ t.p ∧ t.p < w'.heap.size ∧ RzP w' (fun b => w.heap.size ≤ b ∧ b < w'.heap.size ∧ b ≠ t.p) t.s ∧ RS w' p m n' (pl + 1) g ∧ K2 p m w w') := by
  have hpw : p < w.heap.size := World.block_lt_of_cell? w _ h.c0
  have hb0 : Below w.heap.size w (w.alloc (zB z)) := (by repeat (first | (with_reducible exact Below.refl _ _) | (with_reducible assumption) | (with_reducible exact bel_box _) | (with_reducible refine bel_step ?_ (by with_reducible assumption)) | (with_reducible refine Below.drew ?_) | (with_reducible refine below_drewN ?_ _) | (with_reducible refine bel_alloc ?_ _)))
  have KC := Lib.hid (hC.out (w.alloc (zB z)) (h.below hb0) (RdR.blw hR.of.2.1 oneB_B (hb0.mono hH) (Nat.le_refl _)))
  have KS : Hid (∀ W, Below H w W → H ≤ W.heap.size → Calls Try.prog 30 #[zV z] W (NewZ z.ct W)) := Lib.hid fun W hb hs => cloneS_any z W (hR.blw hb hs) hS
  have HBX : Hid (∀ W, K2 p m (w.alloc (zB z)) W → BoxZ W w.heap.size z ∧ Below H w W ∧ w.heap.size + 1 ≤ W.heap.size) := Lib.hid fun W hk => by
    have hb := boxZ_one w z
    have hs := hk.size
    rw [World.size_alloc] at hs
    refine ⟨?_, (hb0.mono hH).trans (hk.low (by rw [World.size_alloc]; omega) hHp hHm), hs⟩
    have k : ∀ i, W.cell? ⟨w.heap.size, i, none⟩ = (w.alloc (zB z)).cell? ⟨w.heap.size, i, none⟩ := fun i => hk.cell (a := ⟨w.heap.size, i, none⟩) (by rw [World.size_alloc]; exact Nat.lt_succ_self _) (by show w.heap.size ≠ p; omega) (by show w.heap.size ≠ m; omega)
    unfold BoxZ at hb ⊢
    rw [k 0, k 1, k 2, k 3, k 4, k 5, k 6, k 7, k 8, k 9, k 10, k 11]
    exact hb
  have HB0 := Lib.hid hb0
  clear h hC hR hS hb0
  go_enter Try.func27, Try.ntmps27
  go_wp2_with (first | (go_at_call 29; (with_reducible refine (KC.out).mono ?_); rintro e w5 ⟨rfl, hr5, hk5⟩; obtain ⟨⟨m0, m1, m2, m3, m4, m5, m6, m7, m8, m9, m10, m11⟩, hb5, hs5⟩ := HBX.out w5 hk5; have HR5 := Lib.hid hr5; have HK5 := Lib.hid hk5; clear hr5 hk5) | (go_at_call 30; (with_reducible refine (KS.out _ ?_ ?_).mono ?_); (focus (with_reducible assumption)); (focus (omega)); rintro e w6 ⟨s, rfl, hsc, hsr, hb6, _⟩))
  go_ret
  have hb9 := bel_box (w := w6) (.cells #[.int .i64 s.k, .string s.nm, .int .i64 s.t, .int .i64 s.r.k, .int .i64 s.r.op, .int .i64 s.r.t, .int .i64 s.r.v, .string s.r.nm, .slice s.r.A s.r.ar.length s.r.c, .slice s.ou.A s.ou.l.length s.ou.c, .slice s.ar.A s.ar.l.length s.ar.c, .slice s.br.A s.br.l.length s.br.c, .slice none 0 0, .bool false] 59)
  have h59 : Below w5.heap.size w5 (w6.alloc (.cells #[.int .i64 s.k, .string s.nm, .int .i64 s.t, .int .i64 s.r.k, .int .i64 s.r.op, .int .i64 s.r.t, .int .i64 s.r.v, .string s.r.nm, .slice s.r.A s.r.ar.length s.r.c, .slice s.ou.A s.ou.l.length s.ou.c, .slice s.ar.A s.ar.l.length s.ar.c, .slice s.br.A s.br.l.length s.br.c, .slice none 0 0, .bool false] 59)) := bel_step hb6 hb9
  have hz6 := hb6.size
  have hz9 := hb9.size
  have hk : s.k = z.k := (ct_iff.1 hsc).1
  refine ⟨.mk w6.heap.size s false ⟨none, 0, []⟩, rfl, ?_, hsc, rfl, rfl, pc_new w6 s false ⟨none, 0, []⟩ _, by show w.heap.size ≤ w6.heap.size; omega, by show w6.heap.size < _; rw [World.size_alloc]; omega, hsr.keep (fun b hb => ⟨by have := hb.1; omega, by have := hb.2; rw [World.size_alloc]; omega, by show b ≠ w6.heap.size; have := hb.2; omega⟩) (fun q hq => hb9.cell hq.2), HR5.out.below h59, ((K2.of_below HB0.out).trans HK5.out).trans (K2.of_below h59)⟩
  rw [Pt.ct_eq]
  show (if s.k = 3 then _ else s.ct) = z.ct
  rw [if_neg (by rw [hk]; exact hz)]
  exact hsc
end fu
end Go.Proofs.Ytnjaimpflaoehaa
/- The heads of a joined list are heads of the list: plain. -/
namespace Go.Proofs.Ytnjaimpflaoehaa
set_option linter.unusedVariables false
set_option linter.unusedSimpArgs false
namespace fu
variable {H : Type} (K : Hk H)
/-- the heads of its cases are as P says, its plain statements as L says -/
inductive AH (P : H → Prop) (L : Sx H → Prop) : Sx H → Prop
  | mk (s : Sx H) (h : K.c s.h = true → P s.h) (hb : K.c s.h = true → ∀ b ∈ s.br, ∀ t ∈ b, AH P L t) (hl : ¬ K.c s.h = true → L s) : AH P L s
theorem AH.of {P : H → Prop} {L : Sx H → Prop} {s : Sx H} (h : AH K P L s) (hc : K.c s.h = true) : P s.h ∧ ∀ b ∈ s.br, ∀ t ∈ b, AH K P L t := by
  cases h with
  | mk s h hb hl => exact ⟨h hc, hb hc⟩
theorem AH.leaf {P : H → Prop} {L : Sx H → Prop} {s : Sx H} (h : AH K P L s) (hc : ¬ K.c s.h = true) : L s := by
  cases h with
  | mk s h hb hl => exact hl hc
theorem ah_app {P : H → Prop} {L : Sx H → Prop} : ∀ (k : Nat) (x y : List (Sx H)), SizeOf.sizeOf x ≤ k → (∀ t ∈ x, AH K P L t) → (∀ t ∈ y, AH K P L t) → ∀ t ∈ app K x y, AH K P L t := by
  intro k
  induction k with
  | zero => intro x y h; cases x <;> simp at h
  | succ k ih =>
    intro x y hk hx hy
    rcases List.eq_nil_or_concat x with rfl | ⟨x', a, rfl⟩
    · rw [nil_app]; exact hy
    rw [List.concat_eq_append] at *
    have hsz : SizeOf.sizeOf a < SizeOf.sizeOf (x' ++ [a]) := List.sizeOf_lt_of_mem (by simp)
    cases y with
    | nil => rw [app_nil]; exact hx
    | cons b y2 =>
      rw [app_snoc]
      split
      · rename_i hm
        have hmp := mate_parts K hm
        intro t ht
        rcases List.mem_append.1 ht with ht | ht
        · exact hx t (List.mem_append_left _ ht)
        · rcases List.mem_cons.1 ht with rfl | ht
          · have ha := (hx a (by simp)).of K hmp.1
            have hb := (hy b List.mem_cons_self).of K hmp.2.1
            refine .mk _ (fun _ => ha.1) (fun _ c hc t ht => ?_) (fun h => absurd hmp.1 h)
            obtain ⟨u, hu, v, hv, rfl⟩ := zip_mem (show c ∈ List.zipWith (app K) a.br b.br from hc)
            exact ih u v (by have := Sx.lt_br hu; omega) (ha.2 u hu) (hb.2 v hv) t ht
          · exact hy t (List.mem_cons_of_mem _ ht)
      · intro t ht
        rcases List.mem_append.1 ht with ht | ht
        · exact hx t (List.mem_append_left _ ht)
        · rcases List.mem_cons.1 ht with rfl | ht
          · exact hx _ (by simp)
          · exact hy t ht
theorem ah_norm_of {P : H → Prop} {L : Sx H → Prop} {l : List (Sx H)} (h : ∀ t ∈ l, ∀ u ∈ norm1 K t, AH K P L u) : ∀ u ∈ norm K l, AH K P L u := by
  induction l with
  | nil => intro u hu; cases hu
  | cons a l ih =>
    rw [norm_cons]
    exact ah_app K _ _ _ (Nat.le_refl _) (h a List.mem_cons_self) (ih fun t ht => h t (List.mem_cons_of_mem _ ht))
theorem ah_norm1 {P : H → Prop} {L : Sx H → Prop} (s : Sx H) : AH K P L s → ∀ u ∈ norm1 K s, AH K P L u := by
  induction s using Sx.ind with
  | h s ih =>
    intro h u hu
    rw [norm1_eq] at hu
    split at hu
    · split at hu
      · cases hu
      · obtain rfl : u = _ := by simpa using hu
        rename_i hc _
        refine .mk _ (fun _ => (h.of K hc).1) (fun _ b hb t ht => ?_) (fun h => absurd hc h)
        obtain ⟨b', hb', rfl⟩ := List.mem_map.1 (show b ∈ s.br.map (norm K) from hb)
        exact ah_norm_of K (fun t ht => ih b' hb' t ht ((h.of K hc).2 b' hb' t ht)) t ht
    · obtain rfl : u = s := by simpa using hu
      exact h
theorem ah_norm {P : H → Prop} {L : Sx H → Prop} {l : List (Sx H)} (h : ∀ t ∈ l, AH K P L t) : ∀ u ∈ norm K l, AH K P L u := ah_norm_of K fun t ht => ah_norm1 K t (h t ht)
end fu
end Go.Proofs.Ytnjaimpflaoehaa
/- Sizes by what statements say. -/
namespace Go.Proofs.Ytnjaimpflaoehaa
set_option linter.unusedVariables false
set_option linter.unusedSimpArgs false
open Go.RowKit Go.Sort
namespace fu
/-- no list in it is longer than m -/
inductive SmS (m : Nat) : Sx Hd → Prop
  | mk (s : Sx Hd) (h1 : s.h.ou.length ≤ m) (h2 : s.h.ar.length ≤ m) (h3 : s.br.length ≤ m) (h4 : ∀ a ∈ s.br, a.length ≤ m) (h5 : ∀ a ∈ s.br, ∀ t ∈ a, SmS m t) : SmS m s
theorem SmS.of {m : Nat} {s : Sx Hd} (h : SmS m s) : s.h.ou.length ≤ m ∧ s.h.ar.length ≤ m ∧ s.br.length ≤ m ∧ (∀ a ∈ s.br, a.length ≤ m) ∧ ∀ a ∈ s.br, ∀ t ∈ a, SmS m t := by
  cases h with
  | mk s h1 h2 h3 h4 h5 => exact ⟨h1, h2, h3, h4, h5⟩
theorem smZ_ct {m : Nat} (z : Zt) : SmS m z.ct → SmZ m z := by
  induction z using Zt.ind with
  | h z ih =>
    intro h
    obtain ⟨h1, h2, h3, h4, h5⟩ := h.of
    rw [Zt.ct_h] at h1 h2
    rw [Zt.ct_br] at h3 h4 h5
    have h1 : (z.ou.l.map ByteArray.toList).length ≤ m := h1
    have h2 : (z.ar.l.map Xt.ct).length ≤ m := h2
    rw [List.length_map] at h1 h2 h3
    refine .mk z h1 h2 h3 (fun a ha => ?_) fun a ha t ht => ih a ha t ht (h5 (cts a.l) (List.mem_map.2 ⟨a, ha, rfl⟩) t.ct (List.mem_map.2 ⟨t, ht, rfl⟩))
    have := h4 (cts a.l) (List.mem_map.2 ⟨a, ha, rfl⟩)
    simpa [cts] using this
theorem smS_ct {m : Nat} (z : Zt) : SmZ m z → SmS m z.ct := by
  induction z using Zt.ind with
  | h z ih =>
    intro h
    obtain ⟨h1, h2, h3, h4, h5⟩ := h.of
    refine .mk _ ?_ ?_ ?_ (fun a ha => ?_) fun a ha t ht => ?_
    · rw [Zt.ct_h]
      show (z.ou.l.map ByteArray.toList).length ≤ m
      rw [List.length_map]; exact h1
    · rw [Zt.ct_h]
      show (z.ar.l.map Xt.ct).length ≤ m
      rw [List.length_map]; exact h2
    · rw [Zt.ct_br, List.length_map]; exact h3
    · rw [Zt.ct_br] at ha
      obtain ⟨b, hb, rfl⟩ := List.mem_map.1 ha
      have := h4 b hb
      simpa [cts] using this
    · rw [Zt.ct_br] at ha
      obtain ⟨b, hb, rfl⟩ := List.mem_map.1 ha
      obtain ⟨u, hu, rfl⟩ := List.mem_map.1 ht
      exact ih b hb u hu (h5 b hb u hu)
/-- the weight by which joining is measured -/
def wgt (l : List (Sx Hd)) : Nat := num HK (fun n => n + 1) (fun _ => 1) l
def wgt1 (s : Sx Hd) : Nat := num1 HK (fun n => n + 1) (fun _ => 1) s
theorem wgt1_pos (s : Sx Hd) : 1 ≤ wgt1 s := by
  unfold wgt1
  rw [num1_eq]
  split <;> omega
theorem wgt_len : ∀ l : List (Sx Hd), l.length ≤ wgt l
  | [] => Nat.zero_le _
  | s :: l => by
    have h := wgt_len l
    have h1 := wgt1_pos s
    have h2 : wgt (s :: l) = wgt1 s + wgt l := sumL_cons _ _ _
    rw [List.length_cons]
    omega
theorem wgt_mem {l : List (Sx Hd)} {s : Sx Hd} (h : s ∈ l) : wgt1 s ≤ wgt l := sumL_mem _ h
theorem wgt_case {s : Sx Hd} (hc : HK.c s.h = true) : wgt1 s = s.br.length + 1 + sumL wgt s.br := by
  unfold wgt1
  rw [num1_eq, if_pos hc]
  rfl
def AHm (m : Nat) : Sx Hd → Prop := AH HK (fun h => h.ou.length ≤ m ∧ h.ar.length ≤ m) (SmS m)
theorem smS_of {m : Nat} (s : Sx Hd) : AHm m s → wgt1 s ≤ m → SmS m s := by
  induction s using Sx.ind with
  | h s ih =>
    intro h hw
    by_cases hc : HK.c s.h = true
    · obtain ⟨⟨h1, h2⟩, h3⟩ := h.of HK hc
      rw [wgt_case hc] at hw
      have hb : ∀ a ∈ s.br, wgt a ≤ m := fun a ha => by
        have : wgt a ≤ sumL wgt s.br := sumL_mem _ ha
        omega
      exact .mk s h1 h2 (by omega) (fun a ha => Nat.le_trans (wgt_len a) (hb a ha)) fun a ha t ht => ih a ha t ht (h3 a ha t ht) (Nat.le_trans (wgt_mem ht) (hb a ha))
    · exact h.leaf HK hc
theorem ahm_of {m : Nat} (s : Sx Hd) : SmS m s → AHm m s := by
  induction s using Sx.ind with
  | h s ih =>
    intro h
    obtain ⟨h1, h2, h3, h4, h5⟩ := h.of
    exact .mk s (fun _ => ⟨h1, h2⟩) (fun _ b hb t ht => ih b hb t ht (h5 b hb t ht)) fun _ => h
/-- what is joined is no longer than it was -/
theorem smS_norm {m : Nat} {l : List (Sx Hd)} (h : ∀ t ∈ l, SmS m t) (hw : wgt l ≤ m) : ∀ t ∈ norm HK l, SmS m t := fun t ht => smS_of t (ah_norm HK (fun u hu => ahm_of u (h u hu)) t ht) (Nat.le_trans (wgt_mem ht) (Nat.le_trans (num_norm HK _ _ l) hw))
theorem wgt_wz1 (z : Zt) : wgt1 z.ct ≤ wz1 z := by
  induction z using Zt.ind with
  | h z ih =>
    by_cases hc : HK.c z.ct.h = true
    · rw [wgt_case hc, wz1_eq, Zt.ct_br, List.length_map]
      have : sumL wgt (z.br.l.map fun b => cts b.l) ≤ wzB z.br.l := by
        unfold wzB sumL
        rw [List.map_map]
        have hb : ∀ b ∈ z.br.l, wgt (cts b.l) ≤ wz b.l := fun b hb => by
          have hl : ∀ l : List Zt, (∀ t ∈ l, wgt1 t.ct ≤ wz1 t) → wgt (cts l) ≤ wz l := fun l => by
            induction l with
            | nil => intro _; exact Nat.le_refl _
            | cons a l ihl =>
              intro h
              have h1 := ihl fun t ht => h t (List.mem_cons_of_mem _ ht)
              have h2 := h a List.mem_cons_self
              have e1 : wgt (cts (a :: l)) = wgt1 a.ct + wgt (cts l) := sumL_cons _ _ _
              have e2 : wz (a :: l) = wz1 a + wz l := sumL_cons _ _ _
              omega
          exact hl b.l (ih b hb)
        generalize z.br.l = L at hb
        induction L with
        | nil => exact Nat.le_refl _
        | cons a L ihL =>
          have h1 := ihL fun b hb' => hb b (List.mem_cons_of_mem _ hb')
          have h2 := hb a List.mem_cons_self
          simp only [List.map_cons, List.sum_cons, Function.comp_apply] at h1 ⊢
          omega
      omega
    · unfold wgt1
      rw [num1_eq, if_neg hc, wz1_eq]
      omega
theorem wgt_wz : ∀ l : List Zt, wgt (cts l) ≤ wz l
  | [] => Nat.le_refl _
  | a :: l => by
    have h1 := wgt_wz l
    have h2 := wgt_wz1 a
    have e1 : wgt (cts (a :: l)) = wgt1 a.ct + wgt (cts l) := sumL_cons _ _ _
    have e2 : wz (a :: l) = wz1 a + wz l := sumL_cons _ _ _
    omega
end fu
end Go.Proofs.Ytnjaimpflaoehaa
/- What the reader counts; what it keeps: plain. -/
namespace Go.Proofs.Ytnjaimpflaoehaa
set_option linter.unusedVariables false
set_option linter.unusedSimpArgs false
open Go.RowKit Go.Sort
namespace fu
section
variable {H : Type} (K : Hk H)
theorem any_sum {α : Type} (p : α → Bool) (f : α → Nat) : ∀ l : List α, (∀ a ∈ l, p a = decide (0 < f a)) → l.any p = decide (0 < sumL f l)
  | [], _ => by simp [sumL]
  | a :: l, h => by
    rw [List.any_cons, h a List.mem_cons_self, any_sum p f l fun b hb => h b (List.mem_cons_of_mem _ hb), sumL_cons]
    rw [Bool.eq_iff_iff]
    simp only [Bool.or_eq_true, decide_eq_true_eq]
    omega
theorem any_num (X : Sx H → Bool) (P : H → Bool) (g : H → Nat) (hX : ∀ s, X s = if K.c s.h then s.br.any (fun b => b.any X) else P s.h) (hP : ∀ h, P h = decide (0 < g h)) (s : Sx H) : X s = decide (0 < num1 K (fun _ => 0) g s) := by
  induction s using Sx.ind with
  | h s ih =>
    rw [hX, num1_eq]
    split
    · rw [any_sum (fun b => b.any X) (num K (fun _ => 0) g) s.br fun b hb => any_sum X _ b (ih b hb), Nat.zero_add]
    · exact hP _
theorem asg_kp1 (d : H) (s : Sx H) : asg1 K d (kp1 K s) = asg1 K d s := by
  rw [← asg_norm1, norm1_kp, asg_norm1]
theorem hp_kp1 (s : Sx H) : hp1 K (kp1 K s) = hp1 K s := by
  have h1 := norm1_nil K (kp1 K s)
  have h2 := norm1_nil K s
  rw [norm1_kp] at h1
  cases e1 : hp1 K (kp1 K s) <;> cases e2 : hp1 K s
  · rfl
  · rw [e1] at h1; rw [e2] at h2
    have := h2.1 (h1.2 rfl)
    cases this
  · rw [e1] at h1; rw [e2] at h2
    have := h1.1 (h2.2 rfl)
    cases this
  · rfl
theorem kp1_h (s : Sx H) : (kp1 K s).h = s.h := by
  rw [kp1_eq]
  split <;> rfl
/-- no hollow case in it, at any depth of cases -/
inductive Ful : Sx H → Prop
  | mk (s : Sx H) (h : hp1 K s = true) (hb : K.c s.h = true → ∀ b ∈ s.br, ∀ t ∈ b, Ful t) : Ful s
theorem Ful.hp {s : Sx H} (h : Ful K s) : hp1 K s = true := by
  cases h with
  | mk s h hb => exact h
theorem Ful.br {s : Sx H} (h : Ful K s) (hc : K.c s.h = true) : ∀ b ∈ s.br, ∀ t ∈ b, Ful K t := by
  cases h with
  | mk s h hb => exact hb hc
theorem ful_kp1 (s : Sx H) : hp1 K s = true → Ful K (kp1 K s) := by
  induction s using Sx.ind with
  | h s ih =>
    intro h
    refine .mk _ (by rw [hp_kp1]; exact h) fun hc b hb t ht => ?_
    rw [kp1_h] at hc
    rw [kp1_eq, if_pos hc] at hb
    obtain ⟨b', hb', rfl⟩ := List.mem_map.1 (show b ∈ s.br.map (kp K) from hb)
    obtain ⟨u, hu, e⟩ := List.mem_filterMap.1 ht
    cases hu1 : hp1 K u
    · rw [hu1] at e; cases e
    · rw [hu1] at e
      obtain rfl : kp1 K u = t := by simpa using e
      exact ih b' hb' u hu hu1
theorem ful_kp (l : List (Sx H)) : ∀ t ∈ kp K l, Ful K t := by
  intro t ht
  obtain ⟨u, hu, e⟩ := List.mem_filterMap.1 ht
  cases hu1 : hp1 K u
  · rw [hu1] at e; cases e
  · rw [hu1] at e
    obtain rfl : kp1 K u = t := by simpa using e
    exact ful_kp1 K u hu1
theorem num_kp1 (cst : Nat → Nat) (pst : H → Nat) (s : Sx H) : num1 K cst pst (kp1 K s) ≤ num1 K cst pst s := by
  induction s using Sx.ind with
  | h s ih =>
    rw [kp1_eq]
    by_cases hc : K.c s.h = true
    · rw [if_pos hc, num1_eq, num1_eq K cst pst s, show (Sx.mk s.h (s.br.map (kp K))).h = s.h from rfl, if_pos hc, if_pos hc]
      show cst (s.br.map (kp K)).length + sumL (num K cst pst) (s.br.map (kp K)) ≤ _
      rw [List.length_map]
      have hb : ∀ b ∈ s.br, num K cst pst (kp K b) ≤ num K cst pst b := fun b hb => by
        have hl : ∀ l : List (Sx H), (∀ t ∈ l, num1 K cst pst (kp1 K t) ≤ num1 K cst pst t) → num K cst pst (kp K l) ≤ num K cst pst l := fun l => by
          induction l with
          | nil => intro _; exact Nat.le_refl _
          | cons a l ihl =>
            intro h
            have h1 := ihl fun t ht => h t (List.mem_cons_of_mem _ ht)
            have h2 := h a List.mem_cons_self
            have e2 : num K cst pst (a :: l) = num1 K cst pst a + num K cst pst l := sumL_cons _ _ _
            rw [kp_cons, e2]
            have e3 : num K cst pst ((if hp1 K a then [kp1 K a] else []) ++ kp K l) = num K cst pst (if hp1 K a then [kp1 K a] else []) + num K cst pst (kp K l) := sumL_append _ _ _
            rw [e3]
            have e4 : num K cst pst (if hp1 K a then [kp1 K a] else []) ≤ num1 K cst pst a := by
              split
              · rw [num_one]; exact h2
              · exact Nat.zero_le _
            omega
        exact hl b (ih b hb)
      have e5 : sumL (num K cst pst) (s.br.map (kp K)) = sumL (fun b => num K cst pst (kp K b)) s.br := by
        unfold sumL
        rw [List.map_map]
        rfl
      rw [e5]
      have := sumL_le hb
      omega
    · rw [if_neg hc]
      exact Nat.le_refl _
theorem num_kp (cst : Nat → Nat) (pst : H → Nat) : ∀ l : List (Sx H), num K cst pst (kp K l) ≤ num K cst pst l
  | [] => Nat.le_refl _
  | a :: l => by
    have h1 := num_kp cst pst l
    have h2 := num_kp1 K cst pst a
    have e2 : num K cst pst (a :: l) = num1 K cst pst a + num K cst pst l := sumL_cons _ _ _
    rw [kp_cons, e2]
    have e3 : num K cst pst ((if hp1 K a then [kp1 K a] else []) ++ kp K l) = num K cst pst (if hp1 K a then [kp1 K a] else []) + num K cst pst (kp K l) := sumL_append _ _ _
    rw [e3]
    have e4 : num K cst pst (if hp1 K a then [kp1 K a] else []) ≤ num1 K cst pst a := by
      split
      · rw [num_one]; exact h2
      · exact Nat.zero_le _
    omega
end
def upH (h : Hd) : Nat := if h.k = 1 then 1 else if h.k = 4 then h.ou.length else 0
def asH (t : List UInt8) (h : Hd) : Nat := if h.k = 1 then (if t = h.nm then 1 else 0) else if h.k = 4 then h.ou.countP fun b => decide (b = t) else 0
/-- the plain statements; the writes to the map; those of one name -/
def pl1 (s : Sx Hd) : Nat := num1 HK (fun _ => 0) (fun _ => 1) s
def plL (l : List (Sx Hd)) : Nat := num HK (fun _ => 0) (fun _ => 1) l
def up1 (s : Sx Hd) : Nat := num1 HK (fun _ => 0) upH s
def upL (l : List (Sx Hd)) : Nat := num HK (fun _ => 0) upH l
def as1 (t : List UInt8) (s : Sx Hd) : Nat := num1 HK (fun _ => 0) (asH t) s
def asL (t : List UInt8) (l : List (Sx Hd)) : Nat := num HK (fun _ => 0) (asH t) l
theorem pl_cons (s : Sx Hd) (l : List (Sx Hd)) : plL (s :: l) = pl1 s + plL l := sumL_cons _ _ _
theorem up_cons (s : Sx Hd) (l : List (Sx Hd)) : upL (s :: l) = up1 s + upL l := sumL_cons _ _ _
theorem as_cons (t : List UInt8) (s : Sx Hd) (l : List (Sx Hd)) : asL t (s :: l) = as1 t s + asL t l := sumL_cons _ _ _
theorem pl_app (x y : List (Sx Hd)) : plL (x ++ y) = plL x + plL y := sumL_append _ _ _
theorem up_app (x y : List (Sx Hd)) : upL (x ++ y) = upL x + upL y := sumL_append _ _ _
theorem as_app (t : List UInt8) (x y : List (Sx Hd)) : asL t (x ++ y) = asL t x + asL t y := sumL_append _ _ _
theorem pl_one (s : Sx Hd) : plL [s] = pl1 s := num_one _ _ _ _
theorem up_one (s : Sx Hd) : upL [s] = up1 s := num_one _ _ _ _
theorem as_one (t : List UInt8) (s : Sx Hd) : asL t [s] = as1 t s := num_one _ _ _ _
theorem hp_pl (s : Sx Hd) : hp1 HK s = decide (0 < pl1 s) := any_num HK (hp1 HK) (fun _ => true) (fun _ => 1) (fun s => hp1_eq HK s) (fun _ => by simp) s
theorem asg_as (d : Hd) (s : Sx Hd) : asg1 HK d s = decide (0 < as1 d.nm s) := by
  refine any_num HK (asg1 HK d) (fun h => HK.asg h d) (asH d.nm) (fun s => asg1_eq HK d s) (fun h => ?_) s
  show ((decide (h.k = 1) && decide (h.nm = d.nm)) || (decide (h.k = 4) && decide (d.nm ∈ h.ou))) = _
  unfold asH
  by_cases h1 : h.k = 1
  · rw [if_pos h1, h1]
    by_cases h2 : h.nm = d.nm
    · simp [h2]
    · have h3 : ¬ d.nm = h.nm := fun e => h2 e.symm
      simp [h2, h3]
  · rw [if_neg h1]
    by_cases h4 : h.k = 4
    · rw [if_pos h4, h4]
      rw [Bool.eq_iff_iff]
      simp [List.countP_pos_iff]
    · rw [if_neg h4]
      simp [h1, h4]
theorem pl_case {s : Sx Hd} (hc : HK.c s.h = true) : pl1 s = sumL plL s.br := by
  unfold pl1
  rw [num1_eq, if_pos hc, Nat.zero_add]
  rfl
theorem up_case {s : Sx Hd} (hc : HK.c s.h = true) : up1 s = sumL upL s.br := by
  unfold up1
  rw [num1_eq, if_pos hc, Nat.zero_add]
  rfl
theorem as_case (t : List UInt8) {s : Sx Hd} (hc : HK.c s.h = true) : as1 t s = sumL (asL t) s.br := by
  unfold as1
  rw [num1_eq, if_pos hc, Nat.zero_add]
  rfl
theorem pl_leaf {s : Sx Hd} (hc : ¬ HK.c s.h = true) : pl1 s = 1 := by
  unfold pl1
  rw [num1_eq, if_neg hc]
theorem up_leaf {s : Sx Hd} (hc : ¬ HK.c s.h = true) : up1 s = upH s.h := by
  unfold up1
  rw [num1_eq, if_neg hc]
theorem as_leaf (t : List UInt8) {s : Sx Hd} (hc : ¬ HK.c s.h = true) : as1 t s = asH t s.h := by
  unfold as1
  rw [num1_eq, if_neg hc]
/-- names are no longer than what a machine holds -/
def NmH (h : Hd) : Prop := h.nm.length ≤ maxLen ∧ ∀ n ∈ h.ou, n.length ≤ maxLen
inductive AllN : Sx Hd → Prop
  | mk (s : Sx Hd) (h : NmH s.h) (hb : ∀ b ∈ s.br, ∀ t ∈ b, AllN t) : AllN s
theorem AllN.of {s : Sx Hd} (h : AllN s) : NmH s.h ∧ ∀ b ∈ s.br, ∀ t ∈ b, AllN t := by
  cases h with
  | mk s h hb => exact ⟨h, hb⟩
theorem alln_ah (s : Sx Hd) : AllN s → AH HK NmH AllN s := by
  induction s using Sx.ind with
  | h s ih =>
    intro h
    exact .mk s (fun _ => h.of.1) (fun _ b hb t ht => ih b hb t ht (h.of.2 b hb t ht)) fun _ => h
theorem ah_alln (s : Sx Hd) : AH HK NmH AllN s → AllN s := by
  induction s using Sx.ind with
  | h s ih =>
    intro h
    by_cases hc : HK.c s.h = true
    · exact .mk s (h.of HK hc).1 fun b hb t ht => ih b hb t ht ((h.of HK hc).2 b hb t ht)
    · exact h.leaf HK hc
theorem alln_norm {l : List (Sx Hd)} (h : ∀ t ∈ l, AllN t) : ∀ t ∈ norm HK l, AllN t := fun t ht => ah_alln t (ah_norm HK (fun u hu => alln_ah u (h u hu)) t ht)
end fu
end Go.Proofs.Ytnjaimpflaoehaa
/- Parts in memory; a row that grows beside the reader. -/
namespace Go.Proofs.Ytnjaimpflaoehaa
set_option linter.unusedVariables false
set_option linter.unusedSimpArgs false
open Go.RowKit Go.Maps Go.WideMaps Go.Sort
namespace fu
/-- a cell with a pointer to a part; one with a list of parts -/
def PtC (w : World) (a : Addr) (t : Pt) : Prop := w.cell? a = some (.pointer (some ⟨t.p, 0, none⟩))
def APC (w : World) (a : Addr) (r : Rw Pt) : Prop := w.cell? a = some (.slice r.A r.l.length r.c)
theorem oneB_Pt : OneB PtC := fun _ _ _ _ h k => (k _ rfl).trans h
theorem oneB_AP : OneB APC := fun _ _ _ _ h k => (k _ rfl).trans h
theorem PC.keep {w W : World} {t : Pt} (h : PC w t) (k : ∀ q : Addr, q.block = t.p → W.cell? q = w.cell? q) : PC W t := by
  obtain ⟨h1, h2, h3⟩ := h
  refine ⟨?_, (k _ rfl).trans h2, (k _ rfl).trans h3⟩
  have k' : ∀ i, W.cell? ⟨t.p, i, none⟩ = w.cell? ⟨t.p, i, none⟩ := fun i => k _ rfl
  unfold BoxZ at h1 ⊢
  rw [k' 0, k' 1, k' 2, k' 3, k' 4, k' 5, k' 6, k' 7, k' 8, k' 9, k' 10, k' 11]
  exact h1
/-- a part; all of it lies in blocks of Q -/
inductive RpP (w : World) (Q : Nat → Prop) : Pt → Prop
  | mk (t : Pt) (h0 : Q t.p) (h1 : PC w t) (h2 : RzP w Q t.s) (h3 : RdQ w Q 1 APC t.br) (h4 : ∀ a ∈ t.br.l, RdQ w Q 1 PtC a) (h5 : ∀ a ∈ t.br.l, ∀ u ∈ a.l, RpP w Q u) (h6 : (t.s.k = 3 → t.s.br = ⟨none, 0, []⟩ ∧ t.asg = asg1 HK t.ct.h t.ct) ∧ (¬ t.s.k = 3 → t.br.l = [])) : RpP w Q t
theorem RpP.of {w : World} {Q : Nat → Prop} {t : Pt} (h : RpP w Q t) : Q t.p ∧ PC w t ∧ RzP w Q t.s ∧ RdQ w Q 1 APC t.br ∧ (∀ a ∈ t.br.l, RdQ w Q 1 PtC a) ∧ (∀ a ∈ t.br.l, ∀ u ∈ a.l, RpP w Q u) ∧ (t.s.k = 3 → t.s.br = ⟨none, 0, []⟩ ∧ t.asg = asg1 HK t.ct.h t.ct) ∧ (¬ t.s.k = 3 → t.br.l = []) := by
  cases h with
  | mk t h0 h1 h2 h3 h4 h5 h6 => exact ⟨h0, h1, h2, h3, h4, h5, h6⟩
theorem RpP.keep {w W : World} {Q Q' : Nat → Prop} {t : Pt} (h : RpP w Q t) (hQ : ∀ b, Q b → Q' b) (hk : ∀ p : Addr, Q p.block → W.cell? p = w.cell? p) : RpP W Q' t := by
  induction h with
  | mk t h0 h1 h2 h3 h4 h5 h6 ih => exact .mk t (hQ _ h0) (h1.keep fun q hq => hk q (by rw [hq]; exact h0)) (h2.keep hQ hk) ((h3.keep oneB_AP hk).mono hQ) (fun a ha => ((h4 a ha).keep oneB_Pt hk).mono hQ) ih h6
theorem MC.grown {W W' : World} {m n : Nat} {f : List UInt8 → Nat} {row : Option Nat} (h : MC W m n f) (hg : W.grownBy W' row) (hr : row ≠ some m) : MC W' m n f := by
  obtain ⟨D, h1, h2, h3⟩ := h
  exact ⟨D, h1, h2, h3.kept hg (fun e => hr e.symm)⟩
theorem RS.grown {W W' : World} {p m n pl : Nat} {f : List UInt8 → Nat} {row : Option Nat} (h : RS W p m n pl f) (hg : W.grownBy W' row) (h1 : row ≠ some p) (h2 : row ≠ some m) : RS W' p m n pl f := by
  have hp := World.block_lt_of_cell? W _ h.c0
  have hb := hg.block p hp (fun e => h1 e.symm)
  exact ⟨(World.cell?_of_block (a := ⟨p, 0, none⟩) hb).trans h.c0, (World.cell?_of_block (a := ⟨p, 1, none⟩) hb).trans h.c1, (World.frozen?_of_block (a := ⟨p, 0, none⟩) hb).trans h.f0, h.mc.grown hg h2, h.ne⟩
theorem K2.ownZ {p m base n z : Nat} {W W' : World} (h : K2 p m W W') {T : TypeId} {v : Value} {xs : List Value} (ho : W.ownsRow base T z v n xs) (h1 : p < base) (h2 : m < base) : W'.ownsRow base T z v n xs := h.own ho (fun e => by have := (ho.lt p e).1; omega) (fun e => by have := (ho.lt m e).1; omega)
/-- one append onto a row of one's own, while a call changes the reader -/
theorem oth_step2 {p m B n z : Nat} {W w5 w3 : World} {o : Obj} {v v' : Value} {T : TypeId} {xs : List Value} (hB : B ≤ W.heap.size) (hp : p < B) (hm : m < B) (hown : W.ownsRow B T z v n xs) (hb : K2 p m W w5) (hg : (w5.alloc o).grownBy w3 v.ownBlock) (hd : v'.ownBlock = v.ownBlock ∨ v'.ownBlock = some (w5.alloc o).heap.size) :
    (∀ b, Oth B W v b → Oth B w3 v' b) ∧ (∀ q : Addr, Oth B W v q.block → w3.cell? q = W.cell? q) ∧ (∀ b, W.heap.size ≤ b ∧ b < w5.heap.size → Oth B w3 v' b) ∧ (∀ q : Addr, W.heap.size ≤ q.block ∧ q.block < w5.heap.size → w3.cell? q = w5.cell? q) ∧ (∀ w0 : World, w0.heap.size ≤ B → K2 p m w0 W → K2 p m w0 w3) := by
  have h1 := hb.size
  have h2 := hg.size
  rw [World.size_alloc] at h2
  have hlt := hown.lt
  have hw5 : Below w5.heap.size w5 (w5.alloc o) := bel_box o
  refine ⟨fun b ⟨q1, q2, q3⟩ => ⟨q1, by omega, fun e => ?_⟩, fun q ⟨q1, q2, q3⟩ => ?_, fun b ⟨q1, q2⟩ => ⟨by omega, by omega, fun e => ?_⟩, fun q ⟨q1, q2⟩ => ?_, fun w0 h0 hk => ⟨?_, ?_, ?_, ?_, fun k hk1 hk2 hk3 => ?_⟩⟩
  · rcases hd with hd | hd
    · exact q3 (hd.symm.trans e)
    · have := Option.some.inj (hd.symm.trans e)
      rw [World.size_alloc] at this
      omega
  · refine (World.cell?_of_block (hg.block q.block (by rw [World.size_alloc]; omega) (fun e => q3 e.symm))).trans ?_
    exact (hw5.cell (p := q) (by omega)).trans (hb.cell q2 (by omega) (by omega))
  · rcases hd with hd | hd
    · have := hlt b (hd.symm.trans e)
      omega
    · have := Option.some.inj (hd.symm.trans e)
      rw [World.size_alloc] at this
      omega
  · refine (World.cell?_of_block (hg.block q.block (by rw [World.size_alloc]; omega) (fun e => ?_))).trans (hw5.cell (p := q) q2)
    have := hlt q.block e.symm
    omega
  · exact hg.os.trans (hw5.os.trans (hb.os.trans hk.os))
  · exact hg.tape.trans (hw5.tape.trans (hb.tape.trans hk.tape))
  · exact hg.output.trans (hw5.output.trans (hb.output.trans hk.output))
  · have := hk.size; omega
  · have hks := hk.size
    have e1 := hg.block k (by rw [World.size_alloc]; omega) (fun e => by have := hlt k e.symm; omega)
    exact e1.trans ((hw5.block k (by omega)).trans ((hb.block k (by omega) hk2 hk3).trans (hk.block k hk1 hk2 hk3)))
theorem RS.step {p m B n z k pl : Nat} {W w5 w3 : World} {o : Obj} {v : Value} {T : TypeId} {xs : List Value} {f : List UInt8 → Nat} (h : RS w5 p m k pl f) (hp : p < B) (hm : m < B) (hown : W.ownsRow B T z v n xs) (hg : (w5.alloc o).grownBy w3 v.ownBlock) : RS w3 p m k pl f :=
  (h.below (bel_box o)).grown hg (fun e => by have := (hown.lt p e).1; omega) (fun e => by have := (hown.lt m e).1; omega)
def pC (l : List Pt) : List Value := l.map fun t => Value.pointer (some ⟨t.p, 0, none⟩)
theorem pC_length (l : List Pt) : (pC l).length = l.length := by simp [pC]
def apC (l : List (Rw Pt)) : List Value := l.map fun a => Value.slice a.A a.l.length a.c
/-- an owned row of one-cell elements can be read -/
theorem own_rd1 {α : Type} {C : World → Addr → α → Prop} (cv : α → Value) (hC : ∀ (w : World) (a : Addr) (y : α), w.cell? a = some (cv y) → C w a y) {w : World} {base : Nat} {e : TypeId} {A : Option Addr} {c : Nat} {l : List α} (h : w.ownsRow base e 1 (.slice A l.length c) l.length (l.map cv)) (hl : l.length ≤ maxLen) : RdQ w (fun b => base ≤ b ∧ b < w.heap.size ∧ (Value.slice A l.length c).ownBlock = some b) 1 C ⟨A, c, l⟩ := by
  rcases h.2 with ⟨h1, h2⟩ | ⟨g, cap, cur, h1, h2, h3, h4, h5, h6, h7⟩
  · have : l = [] := List.length_eq_zero_iff.1 h2
    subst this
    exact ⟨fun h => absurd rfl h, fun ad i y _ hy => by simp at hy, Nat.zero_le _, Nat.zero_le _⟩
  · have hA : A = some ⟨g, 0, none⟩ := by injection h1
    have hc : c = cap := by injection h1
    subst hA
    subst hc
    refine ⟨fun _ => ⟨_, rfl, h2, (Array.getElem?_eq_some_iff.1 h3).1, by rfl⟩, fun ad i y e hy => ?_, hl, by omega⟩
    obtain rfl := Option.some.inj e
    refine hC _ _ _ ?_
    rw [Nat.mul_one, (add_addZ g i 0).2.2, cell_of_row w g i cur _ (0, 0) h3]
    have hj : (l.map cv)[i]? = some (cv y) := by simp [hy]
    rw [← h7, List.getElem?_take] at hj
    split at hj
    · rw [← Array.getElem?_toList]; exact hj
    · cases hj
theorem own_rdp {w : World} {base : Nat} {e : TypeId} {A : Option Addr} {c : Nat} {l : List Pt} (h : w.ownsRow base e 1 (.slice A l.length c) l.length (pC l)) (hl : l.length ≤ maxLen) : RdQ w (fun b => base ≤ b ∧ b < w.heap.size ∧ (Value.slice A l.length c).ownBlock = some b) 1 PtC ⟨A, c, l⟩ := own_rd1 _ (fun _ _ _ h => h) h hl
theorem own_rdap {w : World} {base : Nat} {e : TypeId} {A : Option Addr} {c : Nat} {l : List (Rw Pt)} (h : w.ownsRow base e 1 (.slice A l.length c) l.length (apC l)) (hl : l.length ≤ maxLen) : RdQ w (fun b => base ≤ b ∧ b < w.heap.size ∧ (Value.slice A l.length c).ownBlock = some b) 1 APC ⟨A, c, l⟩ := own_rd1 _ (fun _ _ _ h => h) h hl
/-- a new part -/
def NewPt (z : Zt) (w : World) (p m n pl : Nat) (f : List UInt8 → Nat) (e : Ending) (w' : World) : Prop := ∃ t : Pt, e = .returned (.pointer (some ⟨t.p, 0, none⟩)) ∧ t.ct = kp1 HK z.ct ∧ RpP w' (fun b => w.heap.size ≤ b ∧ b < w'.heap.size) t ∧ RS w' p m (n + up1 z.ct) (pl + pl1 z.ct) (fun u => f u + as1 u z.ct) ∧ K2 p m w w'
/-- new parts in a new list -/
def NewPl (cs : List (Sx Hd)) (w : World) (p m n pl : Nat) (f : List UInt8 → Nat) (e : Ending) (w' : World) : Prop := ∃ r : Rw Pt, e = .returned (.slice r.A r.l.length r.c) ∧ pcs r.l = kp HK cs ∧ RdQ w' (fun b => w.heap.size ≤ b ∧ b < w'.heap.size) 1 PtC r ∧ (∀ t ∈ r.l, RpP w' (fun b => w.heap.size ≤ b ∧ b < w'.heap.size) t) ∧ RS w' p m (n + upL cs) (pl + plL cs) (fun u => f u + asL u cs) ∧ K2 p m w w'
end fu
end Go.Proofs.Ytnjaimpflaoehaa
/- append of a row that is read onto a row of one's own; rows cut; make and copy of pointers. -/
namespace Go.Proofs.Ytnjaimpflaoehaa
set_option linter.unusedVariables false
set_option linter.unusedSimpArgs false
open Go.RowKit Go.Sort
namespace fu
section
variable {P : Program} (w : World)
theorem run_append_nothingZ (base : Nat) (t ty e : TypeId) (i : TypeInfo) (size : Nat) (ht : P.underlying t = some (.slice e)) (hi : P.info? e = some i)
    (v : Value) (n : Nat) (xs : List Value) (hown : w.ownsRow base e size v n xs) (c : Nat) : (Builtin.append_ #[t, t] ty #[v, .slice none 0 c]).run P w = .ok v w := by
  rcases hown.2 with ⟨rfl, rfl⟩ | ⟨g, cap, cur, rfl, _, _, hnc, _⟩
  · simp [Builtin.append_, run_underlying ht, sizeOf, typeInfo, hi, Builtin.lenOf, Builtin.firstCells]
  · simp [Builtin.append_, run_underlying ht, sizeOf, typeInfo, hi, Builtin.lenOf, Builtin.firstCells, hnc, storeCells]
/-- the cells of a row that is read -/
def RdV (A : Option Addr) (news : List Value) : Prop := news ≠ [] → ∃ ad, A = some ad ∧ ∀ j u, news[j]? = some u → w.cell? (ad.add j) = some u
theorem run_append_rdZ (base : Nat) (t ty e : TypeId) (i : TypeInfo) (z : Value) (size bytes : Nat) (ht : P.underlying t = some (.slice e)) (hi : P.info? e = some i) (hz : i.zero = some z)
    (hsize : i.size = size) (hby : i.bytes = bytes) (hzs : z.cells.size = size) (hsz : 0 < size)
    (v : Value) (n : Nat) (xs : List Value) (hown : w.ownsRow base e size v n xs)
    (A : Option Addr) (m c : Nat) (news : List Value) (hm : news.length = m * size) (hr : RdV w A news) (h1 : ∀ u ∈ news, u.oneCell' = true)
    (h63 : n + m ≤ maxLen) (hbytes : (n + m) * bytes ≤ 140737488355328) (hbase : base ≤ w.heap.size) :
    ∃ v' w', (Builtin.append_ #[t, t] ty #[v, .slice A m c]).run P w = .ok v' w' ∧ w'.ownsRow base e size v' (n + m) (xs ++ news) ∧ w.grownBy w' v.ownBlock ∧
      (v'.ownBlock = v.ownBlock ∨ v'.ownBlock = some w.heap.size) := by
  rcases A with _ | ad
  · have hn : news = [] := by
      rcases Classical.em (news = []) with h | h
      · exact h
      · obtain ⟨ad, h, _⟩ := hr h
        cases h
    subst hn
    have hm0 : m = 0 := by
      have h0 : m * size = 0 := hm.symm
      rcases Nat.mul_eq_zero.1 h0 with h | h
      · exact h
      · omega
    subst hm0
    exact ⟨v, w, run_append_nothingZ w base t ty e i size ht hi v n xs hown c, by simpa using hown, World.grownBy.refl w _, .inl rfl⟩
  · have hcells : ∀ j u, news[j]? = some u → w.cell? (ad.add j) = some u := by
      intro j u hu
      obtain ⟨ad', h, hc⟩ := hr (by rintro rfl; simp at hu)
      injection h with h
      subst h
      exact hc j u hu
    obtain ⟨v', w', hrun, h2, h3, _, h5⟩ := run_append_own_at (P := P) w base t ty e i z size bytes ht hi hz hsize hby hzs hsz v n xs hown ad m c news hm hcells h1 h63 hbytes hbase
    exact ⟨v', w', hrun, h2, h3, h5⟩
theorem wp_append_rdZ {o : Oper} {a : Act} {K : Act → World → Prop} {Q : Exit → Act → World → Prop} (s x : Operand) (t : TypeId)
    (ho : o.op = .call { callee := .builtin .append, args := #[s, x], argTypes := #[t, t] })
    (base : Nat) (e : TypeId) (i : TypeInfo) (z : Value) (size bytes : Nat) (ht : P.underlying t = some (.slice e)) (hi : P.info? e = some i) (hz : i.zero = some z)
    (hsize : i.size = size) (hby : i.bytes = bytes) (hzs : z.cells.size = size) (hsz : 0 < size)
    (v : Value) (n : Nat) (xs : List Value) (hs : a.eval s = v) (hown : w.ownsRow base e size v n xs)
    (A : Option Addr) (m c : Nat) (news : List Value) (hx : a.eval x = .slice A m c) (hm : news.length = m * size) (hr : RdV w A news) (h1 : ∀ u ∈ news, u.oneCell' = true)
    (h63 : n + m ≤ maxLen) (hbytes : (n + m) * bytes ≤ 140737488355328) (hbase : base ≤ w.heap.size)
    (h : ∀ v' w', w'.ownsRow base e size v' (n + m) (xs ++ news) → w.grownBy w' v.ownBlock → (v'.ownBlock = v.ownBlock ∨ v'.ownBlock = some w.heap.size) → K (a.put o.dst v') w') : o.wp P a w K Q := by
  obtain ⟨v', w', hrun, h2, h3, h4⟩ := run_append_rdZ (P := P) w base t o.type e i z size bytes ht hi hz hsize hby hzs hsz v n xs hown A m c news hm hr h1 h63 hbytes hbase
  unfold Oper.wp execOp
  simp only [ho, resolve, invoke, builtin, Sem.run_bind, Sem.run_pure, Result.andThen_ok, List.map_toArray, List.map_cons, List.map_nil, hs, hx, hrun]
  exact h v' w' h2 h3 h4
theorem wpList_append_rdZ {ops : Array Oper} {rest : List Oper} {o : Oper} {a : Act} {Q : Exit → Act → World → Prop} (hgd : o.guard = none) (s x : Operand) (t : TypeId)
    (ho : o.op = .call { callee := .builtin .append, args := #[s, x], argTypes := #[t, t] })
    (base : Nat) (e : TypeId) (i : TypeInfo) (z : Value) (size bytes : Nat) (ht : P.underlying t = some (.slice e)) (hi : P.info? e = some i) (hz : i.zero = some z)
    (hsize : i.size = size) (hby : i.bytes = bytes) (hzs : z.cells.size = size) (hsz : 0 < size)
    (v : Value) (n : Nat) (xs : List Value) (hs : a.eval s = v) (hown : w.ownsRow base e size v n xs)
    (A : Option Addr) (m c : Nat) (news : List Value) (hx : a.eval x = .slice A m c) (hm : news.length = m * size) (hr : RdV w A news) (h1 : ∀ u ∈ news, u.oneCell' = true)
    (h63 : n + m ≤ maxLen) (hbytes : (n + m) * bytes ≤ 140737488355328) (hbase : base ≤ w.heap.size)
    (h : ∀ v' w', w'.ownsRow base e size v' (n + m) (xs ++ news) → w.grownBy w' v.ownBlock → (v'.ownBlock = v.ownBlock ∨ v'.ownBlock = some w.heap.size) → wpList P ops Q rest (a.put o.dst v') w') : wpList P ops Q (o :: rest) a w :=
  wpList_plain hgd fun _ hK => wp_append_rdZ w s x t ho base e i z size bytes ht hi hz hsize hby hzs hsz v n xs hs hown A m c news hx hm hr h1 h63 hbytes hbase fun v' w' h2 h3 h4 => hK _ _ (h v' w' h2 h3 h4)
theorem step_append_rdZ {ops : Array Oper} {o : Oper} {a : Act} {K : Act → World → Prop} {Q : Exit → Act → World → Prop} {E : Prop} (hgd : o.guard = none) (s x : Operand) (t : TypeId)
    (ho : o.op = .call { callee := .builtin .append, args := #[s, x], argTypes := #[t, t] })
    (base : Nat) (e : TypeId) (i : TypeInfo) (z : Value) (size bytes : Nat) (ht : P.underlying t = some (.slice e)) (hi : P.info? e = some i) (hz : i.zero = some z)
    (hsize : i.size = size) (hby : i.bytes = bytes) (hzs : z.cells.size = size) (hsz : 0 < size)
    (v : Value) (n : Nat) (xs : List Value) (hs : a.eval s = v) (hown : w.ownsRow base e size v n xs)
    (A : Option Addr) (m c : Nat) (news : List Value) (hx : a.eval x = .slice A m c) (hm : news.length = m * size) (hr : RdV w A news) (h1 : ∀ u ∈ news, u.oneCell' = true)
    (h63 : n + m ≤ maxLen) (hbytes : (n + m) * bytes ≤ 140737488355328) (hbase : base ≤ w.heap.size)
    (h : ∀ v' w', w'.ownsRow base e size v' (n + m) (xs ++ news) → w.grownBy w' v.ownBlock → (v'.ownBlock = v.ownBlock ∨ v'.ownBlock = some w.heap.size) → K (a.put o.dst v') w') :
    if Region.wanted o (yielded ops a.tmps) = true then Oper.wp P o a w K Q else E := by
  have hw : Region.wanted o (yielded ops a.tmps) = true := by simp [Region.wanted, hgd]
  rw [if_pos hw]
  exact wp_append_rdZ w s x t ho base e i z size bytes ht hi hz hsize hby hzs hsz v n xs hs hown A m c news hx hm hr h1 h63 hbytes hbase h
end
theorem one_rdv {α : Type} {C : World → Addr → α → Prop} (cv : α → Value) (hC : ∀ (w : World) (a : Addr) (y : α), C w a y → w.cell? a = some (cv y)) {w : World} {Q : Nat → Prop} {r : Rw α} (h : RdQ w Q 1 C r) : RdV w r.A (r.l.map cv) := fun hn => by
  obtain ⟨A, c, l⟩ := r
  simp only at hn h ⊢
  obtain ⟨ad, e, hb⟩ := h.1 (by rintro rfl; exact hn rfl)
  refine ⟨ad, e, fun j u hu => ?_⟩
  rw [List.getElem?_map, Option.map_eq_some_iff] at hu
  obtain ⟨y, hy, rfl⟩ := hu
  have := hC _ _ _ (h.2.1 ad j y e hy)
  rwa [Nat.mul_one] at this
theorem pt_rdv {w : World} {Q : Nat → Prop} {r : Rw Pt} (h : RdQ w Q 1 PtC r) : RdV w r.A (pC r.l) := one_rdv _ (fun _ _ _ h => h) h
theorem pC_one (l : List Pt) : ∀ u ∈ pC l, u.oneCell' = true := by
  intro u hu
  simp only [pC, List.mem_map] at hu
  obtain ⟨b, _, rfl⟩ := hu
  rfl
/-- the first elements of a row, and the later ones -/
theorem RdQ.take {w : World} {Q : Nat → Prop} {A : Option Addr} {c : Nat} {l : List Pt} (h : RdQ w Q 1 PtC ⟨A, c, l⟩) (n : Nat) : RdQ w Q 1 PtC ⟨A, c, l.take n⟩ := by
  obtain ⟨h1, h2, h3, h4⟩ := h
  refine ⟨fun hn => h1 (by rintro rfl; exact hn (by simp)), fun ad i y ha hy => h2 ad i y ha ?_, ?_, ?_⟩
  · rw [List.getElem?_take] at hy
    split at hy
    · exact hy
    · cases hy
  · show (l.take n).length ≤ _
    rw [List.length_take]
    have : l.length ≤ maxLen := h3
    omega
  · show (l.take n).length ≤ _
    rw [List.length_take]
    have : l.length ≤ c := h4
    show min n l.length ≤ c
    omega
theorem RdQ.drop {w : World} {Q : Nat → Prop} {ad : Addr} {c : Nat} {l : List Pt} (h : RdQ w Q 1 PtC ⟨some ad, c, l⟩) (n : Nat) : RdQ w Q 1 PtC ⟨some (ad.add n), c - n, l.drop n⟩ := by
  obtain ⟨h1, h2, h3, h4⟩ := h
  refine ⟨fun hn => ?_, fun a i y ha hy => ?_, ?_, ?_⟩
  · obtain ⟨a, e, hQ⟩ := h1 (by rintro rfl; exact hn (by simp))
    obtain rfl := Option.some.inj e
    exact ⟨_, rfl, by rw [add_block]; exact hQ⟩
  · obtain rfl := Option.some.inj ha
    rw [add_add', show n + i * 1 = (n + i) * 1 by omega]
    exact h2 ad (n + i) y rfl (by rw [← List.getElem?_drop]; exact hy)
  · show (l.drop n).length ≤ _
    rw [List.length_drop]
    have : l.length ≤ maxLen := h3
    omega
  · show (l.drop n).length ≤ _
    rw [List.length_drop]
    have : l.length ≤ c := h4
    show l.length - n ≤ c - n
    omega
theorem RdQ.none_ {w : World} {Q : Nat → Prop} {A : Option Addr} {c : Nat} : RdQ w Q 1 PtC ⟨A, c, []⟩ := ⟨fun h => absurd rfl h, fun ad i y _ hy => by simp at hy, Nat.zero_le _, Nat.zero_le _⟩
theorem make_pts (n : Nat) (hn : n ≤ 1000000) (w : World) : (Instr.makeSlice 47 (.int .i64 (n : Int)) (.int .i64 (n : Int))).run Try.prog w = .ok (.slice (some ⟨w.heap.size, 0, none⟩) n n) (w.alloc (.cells (madeCells #[.pointer none] n) 52)) := by
  obtain ⟨i0, hi, iz, is, ib⟩ := info_parts ptInfo
  exact run_make_row (P := Try.prog) 47 52 i0 (.pointer none) Try.underlying47 hi iz is rfl .i64 .i64 n (by rw [ib]; omega) (by omega) w
end fu
end Go.Proofs.Ytnjaimpflaoehaa
/- Turns of joined: plain. -/
namespace Go.Proofs.Ytnjaimpflaoehaa
set_option linter.unusedVariables false
set_option linter.unusedSimpArgs false
open Go.RowKit Go.Sort
namespace fu
section
variable {H : Type} (K : Hk H)
def Chn (cs : List (Sx H)) (n : Nat) : Prop := ∀ i x y, i + 1 < n → cs[i]? = some x → cs[i + 1]? = some y → mate K x y = true
theorem run_chn : ∀ (t : List (Sx H)) (a : Sx H) (j : Nat), Chn K (a :: t) (j + 1) → run K a (t.take j)
  | _, _, 0, _ => trivial
  | [], _, _ + 1, _ => trivial
  | b :: t, a, j + 1, h => ⟨h 0 a b (by omega) rfl rfl, run_chn t b j fun i x y hi hx hy => h (i + 1) x y (by omega) (by simpa using hx) (by simpa using hy)⟩
theorem lst_at : ∀ (t : List (Sx H)) (a x : Sx H) (j : Nat), (a :: t)[j]? = some x → lst a (t.take j) = x
  | _, a, x, 0, h => by
    have : a = x := by simpa using h
    exact this
  | [], _, _, j + 1, h => by simp at h
  | b :: t, a, x, j + 1, h => by
    show lst b (t.take j) = x
    exact lst_at t b x j (by simpa using h)
theorem chn_one (cs : List (Sx H)) : Chn K cs 1 := fun i x y hi => by omega
theorem chn_step {cs : List (Sx H)} {n : Nat} (h : Chn K cs n) {x y : Sx H} (hx : cs[n - 1]? = some x) (hy : cs[n]? = some y) (hm : mate K x y = true) : Chn K cs (n + 1) := fun i u v hi hu hv => by
  by_cases e : i + 1 < n
  · exact h i u v e hu hv
  · have e1 : i + 1 = n := by omega
    have e2 : i = n - 1 := by omega
    rw [e1, hy] at hv
    rw [e2, hx] at hu
    obtain rfl := Option.some.inj hu
    obtain rfl := Option.some.inj hv
    exact hm
theorem turn {cs : List (Sx H)} {n : Nat} (h1 : 1 ≤ n) (hn : n ≤ cs.length) (hc : Chn K cs n) (hf : ∀ t ∈ cs, hp1 K t = true) (hs : n = cs.length ∨ ∃ x y, cs[n - 1]? = some x ∧ cs[n]? = some y ∧ mate K x y = false) : ∃ a q, cs.take n = a :: q ∧ run K a q ∧ norm K cs = cmb K a q :: norm K (cs.drop n) := by
  obtain ⟨j, rfl⟩ : ∃ j, n = j + 1 := ⟨n - 1, by omega⟩
  cases cs with
  | nil => simp at hn
  | cons a t =>
    have hr := run_chn K t a j hc
    refine ⟨a, t.take j, rfl, hr, ?_⟩
    have e : a :: t = a :: t.take j ++ t.drop j := by rw [List.cons_append, List.take_append_drop]
    have hd : (a :: t).drop (j + 1) = t.drop j := rfl
    rw [hd]
    have hfa : ∀ u ∈ a :: t.take j, hp1 K u = true := fun u hu => hf u (by
      rcases List.mem_cons.1 hu with rfl | hu
      · exact List.mem_cons_self
      · exact List.mem_cons_of_mem _ (List.mem_of_mem_take hu))
    rcases hs with hs | ⟨x, y, hx, hy, hm⟩
    · have ht : t.drop j = [] := List.drop_eq_nil_iff.2 (by rw [List.length_cons] at hs; omega)
      rw [ht]
      conv => lhs; rw [e, ht, List.append_nil]
      rw [run_norm K _ _ hfa hr]
      rfl
    · have hy' : t[j]? = some y := by simpa using hy
      have hj : j < t.length := (List.getElem?_eq_some_iff.1 hy').1
      have ht : t.drop j = y :: t.drop (j + 1) := by
        rw [List.drop_eq_getElem_cons hj]
        congr 1
        exact (List.getElem?_eq_some_iff.1 hy').2
      conv => lhs; rw [e, ht]
      rw [ht]
      refine run_rest K hfa hr (hf y (List.mem_cons_of_mem _ (List.mem_of_getElem? hy'))) ?_
      rw [lst_at t a x j (by simpa using hx)]
      exact hm
end
/-- blocks of the parts, and the new ones but the row itself -/
def Oq (B H0 N : Nat) (W : World) (v : Value) (b : Nat) : Prop := (B ≤ b ∧ b < H0) ∨ (N ≤ b ∧ b < W.heap.size ∧ v.ownBlock ≠ some b)
theorem oq_step {B H0 N n z : Nat} {W w5 w3 : World} {o : Obj} {v v' : Value} {T : TypeId} {xs : List Value} (hH : H0 ≤ N) (hN : N ≤ W.heap.size) (hown : W.ownsRow N T z v n xs) (hb : Below W.heap.size W w5) (hg : (w5.alloc o).grownBy w3 v.ownBlock) (hd : v'.ownBlock = v.ownBlock ∨ v'.ownBlock = some (w5.alloc o).heap.size) :
    (∀ b, Oq B H0 N W v b → Oq B H0 N w3 v' b) ∧ (∀ p : Addr, Oq B H0 N W v p.block → w3.cell? p = W.cell? p) ∧ (∀ b, (B ≤ b ∧ b < H0) ∨ (W.heap.size ≤ b ∧ b < w5.heap.size) → Oq B H0 N w3 v' b) ∧ (∀ p : Addr, (B ≤ p.block ∧ p.block < H0) ∨ (W.heap.size ≤ p.block ∧ p.block < w5.heap.size) → w3.cell? p = w5.cell? p) ∧ Below N W w3 := by
  obtain ⟨s1, s2, s3, s4, s5⟩ := oth_step hN hown hb hg hd
  refine ⟨fun b h => ?_, fun p h => ?_, fun b h => ?_, fun p h => ?_, s5⟩
  · rcases h with h | h
    · exact .inl h
    · exact .inr (s1 b h)
  · rcases h with h | h
    · exact s5.cell (by omega)
    · exact s2 p h
  · rcases h with h | h
    · exact .inl h
    · have := s3 b h
      exact .inr this
  · rcases h with h | h
    · exact (s5.cell (p := p) (by omega)).trans (hb.cell (p := p) (by omega)).symm
    · exact s4 p h
/-- a new joined list -/
def NewJ (B H0 : Nat) (cs : List (Sx Hd)) (w : World) (e : Ending) (w' : World) : Prop := ∃ (A : Option Addr) (c : Nat) (L : List Zt), e = .returned (.slice A L.length c) ∧ cts L = cs ∧ w'.ownsRow w.heap.size 38 12 (.slice A L.length c) L.length (zsC L) ∧ (∀ y ∈ L, RzP w' (Oq B H0 w.heap.size w' (.slice A L.length c)) y) ∧ Below w.heap.size w w'
/-- a statement in the place of a run -/
def NewC (B H0 : Nat) (c : Sx Hd) (w : World) (e : Ending) (w' : World) : Prop := ∃ s : Zt, e = .returned (zV s) ∧ s.ct = c ∧ RzP w' (fun b => (B ≤ b ∧ b < H0) ∨ (w.heap.size ≤ b ∧ b < w'.heap.size)) s ∧ Below w.heap.size w w'
def lenV : Value → Nat
  | .slice _ n _ => n
  | _ => 0
theorem pcs_take (l : List Pt) (n : Nat) : pcs (l.take n) = (pcs l).take n := by simp [pcs]
theorem pcs_drop (l : List Pt) (n : Nat) : pcs (l.drop n) = (pcs l).drop n := by simp [pcs]
theorem pcs_get {l : List Pt} {i : Nat} {t : Pt} (h : l[i]? = some t) : (pcs l)[i]? = some t.ct := by simp [pcs, h]
theorem pcs_len (l : List Pt) : (pcs l).length = l.length := by simp [pcs]
theorem wgt_cut (cs : List (Sx Hd)) (n : Nat) : wgt (cs.take n) + wgt (cs.drop n) = wgt cs := by
  have h : wgt (cs.take n ++ cs.drop n) = wgt (cs.take n) + wgt (cs.drop n) := sumL_append _ _ _
  rw [List.take_append_drop] at h
  exact h.symm
/-- what a turn of joined has -/
structure Tn (l rs : List Pt) (n : Nat) (a : Sx Hd) (q : List (Sx Hd)) : Prop where
  tk : pcs (rs.take n) = a :: q
  rn : run HK a q
  nm : norm HK (pcs rs) = cmb HK a q :: norm HK (pcs (rs.drop n))
  ln : (rs.take n).length = n
  mm : ∀ t ∈ rs.take n, t ∈ l
  wl : wgt (pcs (rs.take n)) ≤ wgt (pcs l)
theorem tn_of {l rs : List Pt} {j n : Nat} (hD : rs = l.drop j) (h1 : 1 ≤ n) (hn : n ≤ rs.length) (hc : Chn HK (pcs rs) n) (hF : ∀ t ∈ l, Ful HK t.ct) (hs : n = rs.length ∨ ∃ x y : Pt, rs[n - 1]? = some x ∧ rs[n]? = some y ∧ mate HK x.ct y.ct = false) : ∃ a q, Tn l rs n a q := by
  have hm : ∀ t ∈ rs, t ∈ l := fun t ht => by rw [hD] at ht; exact List.mem_of_mem_drop ht
  obtain ⟨a, q, e1, e2, e3⟩ := turn HK h1 (by rw [pcs_len]; exact hn) hc (fun t ht => by
    obtain ⟨u, hu, rfl⟩ := List.mem_map.1 ht
    exact (hF u (hm u hu)).hp) (by
    rcases hs with hs | ⟨x, y, hx, hy, hxy⟩
    · exact .inl (by rw [pcs_len]; exact hs)
    · exact .inr ⟨x.ct, y.ct, pcs_get hx, pcs_get hy, hxy⟩)
  refine ⟨a, q, ⟨by rw [pcs_take]; exact e1, e2, by rw [pcs_drop]; exact e3, by rw [List.length_take]; omega, fun t ht => hm t (List.mem_of_mem_take ht), ?_⟩⟩
  have q1 := wgt_cut (pcs rs) n
  have q2 := wgt_cut (pcs l) j
  rw [← pcs_drop, ← hD] at q2
  rw [pcs_take]
  omega
set_option maxHeartbeats 4000000 in
set_option maxRecDepth 100000 in
theorem joined_of (r : Rw Pt) (w : World) (B H0 : Nat) (hH : H0 ≤ w.heap.size) (hQ : RdQ w (fun b => b < w.heap.size) 1 PtC r) (hP : ∀ t ∈ r.l, RpP w (fun b => B ≤ b ∧ b < H0) t) (hF : ∀ t ∈ r.l, Ful HK t.ct) (hw : wgt (pcs r.l) ≤ 200000)
    (KC : Hid (∀ (q : Rw Pt) (a : Sx Hd) (s : List (Sx Hd)) (n : Nat) W, Below w.heap.size w W → RdQ W (fun b => b < w.heap.size) 1 PtC q → (∀ t ∈ q.l, t ∈ r.l) → q.l.length = n → pcs q.l = a :: s → run HK a s → wgt (pcs q.l) ≤ wgt (pcs r.l) → Calls Try.prog 26 #[.slice q.A n q.c] W (NewC B H0 (cmb HK a s) W))) :
    Calls Try.prog 21 #[.slice r.A r.l.length r.c] w (NewJ B H0 (norm HK (pcs r.l)) w) := by
  obtain ⟨i0, hi, iz, is, ib⟩ := info_parts zpInfo
  have hlen : r.l.length ≤ 200000 := by
    have := wgt_len (pcs r.l)
    rw [pcs_len] at this
    omega
  have HQ := Lib.hid hQ
  have HP := Lib.hid hP
  have HF := Lib.hid hF
  clear hQ hP hF hw
  obtain ⟨A, c, l⟩ := r
  simp only at KC HQ HP HF hlen ⊢
  go_enter Try.func21, Try.ntmps21
  go_wp2
  go_loopw [0, 3] (fun lv v wr => ∃ (j : Nat) (A' : Option Addr) (c' : Nat) (rs : List Pt) (L : List Zt) (A2 : Option Addr) (c2 : Nat), lv = .slice A' rs.length c' ∧ v = .slice A2 L.length c2 ∧ Hid (rs = l.drop j) ∧ j + rs.length ≤ 200000 ∧ L.length ≤ j ∧ Hid (RdQ w (fun b => b < w.heap.size) 1 PtC ⟨A', c', rs⟩) ∧ Hid (cts L ++ norm HK (pcs rs) = norm HK (pcs l)) ∧ Hid (wr.ownsRow w.heap.size 38 12 (.slice A2 L.length c2) L.length (zsC L)) ∧ Hid (∀ y ∈ L, RzP wr (Oq B H0 w.heap.size wr (.slice A2 L.length c2)) y) ∧ Below w.heap.size w wr) (fun lv _ _ => lenV lv)
  case atStart => exact ⟨0, A, c, l, [], none, 0, rfl, rfl, Lib.hid rfl, by omega, by simp, HQ, Lib.hid rfl, Lib.hid (World.ownsRow_nil _ _ _ _), Lib.hid (by simp), (by repeat (first | (with_reducible exact Below.refl _ _) | (with_reducible assumption) | (with_reducible exact bel_box _) | (with_reducible refine bel_step ?_ (by with_reducible assumption)) | (with_reducible refine Below.drew ?_) | (with_reducible refine below_drewN ?_ _) | (with_reducible refine bel_alloc ?_ _)))⟩
  case round =>
    obtain ⟨j, A', c', rs, L, A2, c2, rfl, rfl, HD, hj, hL, HR, HC, HO, HE, hbl⟩ := hrel
    clear HQ
    by_cases hrs : 0 < rs.length
    · have d0 : (0 : Int) < (rs.length : Int) := by omega
      obtain ⟨ad, hA, had⟩ := HR.out.1 (by intro e; have e : rs = [] := e; rw [e] at hrs; simp at hrs)
      simp only at hA
      subst hA
      obtain ⟨wo, rfl⟩ : ∃ wo, wo = wr := ⟨_, rfl⟩
      go_wp2
      go_loopw [4] (fun nv W => ∃ n : Nat, nv = .int .i64 (n : Int) ∧ 1 ≤ n ∧ n ≤ rs.length ∧ Hid (Chn HK (pcs rs) n) ∧ Below wo.heap.size wo W) (fun nv _ => rs.length - (intOf nv).toNat)
      case atStart => exact ⟨1, rfl, by omega, by omega, Lib.hid (chn_one _ _), (by repeat (first | (with_reducible exact Below.refl _ _) | (with_reducible assumption) | (with_reducible exact bel_box _) | (with_reducible refine bel_step ?_ (by with_reducible assumption)) | (with_reducible refine Below.drew ?_) | (with_reducible refine below_drewN ?_ _) | (with_reducible refine bel_alloc ?_ _)))⟩
      case round =>
        obtain ⟨n, rfl, hn1, hn2, HCh, hbi⟩ := hrel
        by_cases hlt : n < rs.length
        · have d1 : (n : Int) < (rs.length : Int) := by omega
          obtain ⟨m, hm⟩ : ∃ m, n = m + 1 := ⟨n - 1, by omega⟩
          have hx : rs[m]? = some rs[m] := List.getElem?_eq_getElem (by omega)
          have hy : rs[n]? = some rs[n] := List.getElem?_eq_getElem hlt
          generalize rs[m] = x at hx
          generalize rs[n] = y at hy
          have hbw0 : Below w.heap.size w wr := (by repeat (first | (with_reducible exact Below.refl _ _) | (with_reducible assumption) | (with_reducible exact bel_box _) | (with_reducible refine bel_step ?_ (by with_reducible assumption)) | (with_reducible refine Below.drew ?_) | (with_reducible refine below_drewN ?_ _) | (with_reducible refine bel_alloc ?_ _)))
          have cx : wr.cell? (ad.add (m * 1)) = some (.pointer (some ⟨x.p, 0, none⟩)) := (hbw0.cell (by rw [add_block]; exact had)).trans (HR.out.2.1 ad m x rfl hx)
          have cy : wr.cell? (ad.add (n * 1)) = some (.pointer (some ⟨y.p, 0, none⟩)) := (hbw0.cell (by rw [add_block]; exact had)).trans (HR.out.2.1 ad n y rfl hy)
          rw [Nat.mul_one] at cx cy
          have hxl : x ∈ l := by have h1 := List.mem_of_getElem? hx; rw [HD.out] at h1; exact List.mem_of_mem_drop h1
          have hyl : y ∈ l := by have h1 := List.mem_of_getElem? hy; rw [HD.out] at h1; exact List.mem_of_mem_drop h1
          have px := (HP.out x hxl).of
          have py := (HP.out y hyl).of
          have KX : ∀ W, Below w.heap.size w W → Calls Try.prog 25 #[.pointer (some ⟨x.p, 0, none⟩), .pointer (some ⟨y.p, 0, none⟩)] W (Bel (.bool (joinsB x y)) W) := fun W hb => joins_any x y W (px.2.1.keep fun p hp => hb.cell (by rw [hp]; have := px.1.2; omega)) (py.2.1.keep fun p hp => hb.cell (by rw [hp]; have := py.1.2; omega)) (by have := px.2.2.2.1.2.2.1; unfold maxLen at this; omega) (by have := py.2.2.2.1.2.2.1; unfold maxLen at this; omega)
          have hje := joinsB_eq (a := x) (b := y) (fun h => (px.2.2.2.2.2.2.1 h).2)
          have hx' : rs[n - 1]? = some x := by rw [hm]; exact hx
          have HX0 := Lib.hid (And.intro hx' (And.intro hy hje))
          have hsub : IntKind.i64.wrap ((n : Int) - 1) = (m : Int) := by rw [Go.IntWalk.i64_in _ ⟨by omega, by omega⟩]; omega
          have hmr : m < rs.length := by omega
          have HM := Lib.hid hm
          have f0 := cell_regrown cx
          have f1 := cell_regrown cy
          obtain ⟨V, hV⟩ : ∃ V, joinsB x y = V := ⟨_, rfl⟩
          rw [hV] at KX
          have c1' := fun dd os => Calls.regrown_of (KX (grow (redrawn wr dd) os) (hbw0.trans ((below_regrown wr dd os).mono hbw0.size)))
          have HJ2 := Lib.hid hV
          clear px py hxl hyl hx hy hje hbw0 hm hx' cx cy KX hV
          go_wp2
          refine wp_region_quiet_below (by kernel_rfl) (by kernel_rfl) ?_
          repeat (quiet_step (with_reducible exact c1' _ _))
          refine wpQuiet_nil ?_
          intro _ hw'
          obtain ⟨⟨dq, osq⟩, hw''⟩ := hw'
          subst hw''
          have hbi2 : Below wo.heap.size wo (grow (redrawn wr dq) osq) := hbi.trans ((below_regrown wr dq osq).mono hbi.size)
          clear c1' f0 f1 hbi
          generalize grow (redrawn wr dq) osq = wi at hbi2 ⊢
          cases V
          case false =>
            have hsx : ∃ x y : Pt, rs[n - 1]? = some x ∧ rs[n]? = some y ∧ mate HK x.ct y.ct = false := ⟨x, y, HX0.out.1, HX0.out.2.1, by rw [← HX0.out.2.2]; exact HJ2.out⟩
            have HSX := Lib.hid hsx
            clear hsx hsub HX0
            obtain ⟨a, q, ht⟩ := tn_of HD.out hn1 hn2 HCh.out HF.out (.inr HSX.out)
            have hbw : Below w.heap.size w wi := (by repeat (first | (with_reducible exact Below.refl _ _) | (with_reducible assumption) | (with_reducible exact bel_box _) | (with_reducible refine bel_step ?_ (by with_reducible assumption)) | (with_reducible refine Below.drew ?_) | (with_reducible refine below_drewN ?_ _) | (with_reducible refine bel_alloc ?_ _)))
            have hrd : RdQ wi (fun b => b < w.heap.size) 1 PtC ⟨some ad, c', rs.take n⟩ := (HR.out.take n).keep oneB_Pt fun p hp => hbw.cell hp
            have K1 := KC.out ⟨some ad, c', rs.take n⟩ a q n wi hbw hrd ht.mm ht.ln ht.tk ht.rn ht.wl
            have KK := Lib.hid K1
            have hcap : n ≤ c' := by have h1 : rs.length ≤ c' := HR.out.2.2.2; omega
            have HTN := Lib.hid ht
            have HDR := Lib.hid (HR.out.drop n)
            clear K1 hrd ht KC HP HF
            have hkl : (L.length + 1) * 176 ≤ 140737488355328 := by omega
            go_wp2_with (first | (go_at_call 26; (with_reducible refine (KK.out).mono ?_); rintro e w6 ⟨x, rfl, hxc, hxr, hb6⟩; have HX := Lib.hid (And.intro hxc hxr); clear hxc hxr) | (at_builtin; (refine wpList_append_own_at _ rfl _ _ 22 rfl w.heap.size 38 i0 z0 12 176 Try.underlying22 hi iz is ib rfl (by decide) _ L.length (zsC L) rfl (own_keepZ HO.out ?_) ⟨w6.heap.size, 0, none⟩ 1 1 (zCs x) rfl rfl (rowZ w6 x _) (z_one x) (by unfold maxLen; omega) (by omega) ?_ ?_; (focus ((repeat (first | (with_reducible exact Below.refl _ _) | (with_reducible assumption) | (with_reducible exact bel_box _) | (with_reducible refine bel_step ?_ (by with_reducible assumption)) | (with_reducible refine Below.drew ?_) | (with_reducible refine below_drewN ?_ _) | (with_reducible refine bel_alloc ?_ _))); done)); (focus (have h1 := hb6.size; have h2 := hbl.size; have h3 := hbw.size; simp at h1 ⊢; omega)); intro v3 w3 hown3 hgrow3 _ hat3; obtain ⟨A3, c3', rfl⟩ := own_formZ hown3)))
            all_goals
              have hb6' : Below wo.heap.size wo w6 := (by repeat (first | (with_reducible exact Below.refl _ _) | (with_reducible assumption) | (with_reducible exact bel_box _) | (with_reducible refine bel_step ?_ (by with_reducible assumption)) | (with_reducible refine Below.drew ?_) | (with_reducible refine below_drewN ?_ _) | (with_reducible refine bel_alloc ?_ _)))
              obtain ⟨s1, s2, s3, s4, s5⟩ := oq_step (B := B) (H0 := H0) hH hbl.size HO.out hb6' hgrow3 hat3
              have e1 : zsC L ++ zCs x = zsC (L ++ [x]) := by rw [zsC_app, zsC_one]
              rw [e1] at hown3
              have hl1 : (L ++ [x]).length = L.length + 1 := by simp
              rw [← hl1] at hown3
              have hdl : (rs.drop n).length = rs.length - n := List.length_drop
              have hrdn : RdQ w (fun b => b < w.heap.size) 1 PtC ⟨if c' = n then some ad else some (ad.add n), c' - n, rs.drop n⟩ := by
                by_cases e : c' = n
                · have h1 : rs.length ≤ c' := HR.out.2.2.2
                  have h2 : rs.drop n = [] := List.drop_eq_nil_of_le (by omega)
                  rw [h2]
                  exact RdQ.none_
                · rw [if_neg e]
                  exact HDR.out
              refine ⟨⟨j + n, _, _, rs.drop n, L ++ [x], A3, c3', by rw [hdl], by rw [hl1], Lib.hid (by rw [HD.out, List.drop_drop]), by rw [hdl]; omega, by rw [hl1]; omega, Lib.hid hrdn, Lib.hid ?_, Lib.hid hown3, Lib.hid fun y hy => ?_, hbl.trans s5⟩, by show rs.length - n < rs.length; omega⟩
              · rw [← HC.out, HTN.out.nm, ← HX.out.1]
                simp [cts]
              · rw [hl1]
                rcases List.mem_append.1 hy with hy | hy
                · exact (HE.out y hy).keep s1 s2
                · obtain rfl : y = x := by simpa using hy
                  have hsz := hbi2.size
                  exact HX.out.2.keep (fun b hb => s3 b (hb.imp id fun ⟨q1, q2⟩ => ⟨by omega, q2⟩)) fun p hp => s4 p (hp.imp id fun ⟨q1, q2⟩ => ⟨by omega, q2⟩)
          case true =>
            go_wp2
            go_roundw
            case rel => exact ⟨n + 1, by go_num, by omega, by omega, Lib.hid (chn_step HK HCh.out (pcs_get HX0.out.1) (pcs_get HX0.out.2.1) (by rw [← HX0.out.2.2]; exact HJ2.out)), hbi2⟩
            case measure => simp [intOf]; omega
        · have HNN : Hid (n = rs.length) := Lib.hid (by omega)
          have d1 : decide (n < rs.length) = false := decide_eq_false (by omega)
          clear hlt
          go_wp2
          go_quiet (fail)
          have hbi2 : Below wo.heap.size wo (wr.drewN nq) := below_drewN hbi nq
          clear hbi
          generalize wr.drewN nq = wi at hbi2 ⊢
          obtain ⟨a, q, ht⟩ := tn_of HD.out hn1 hn2 HCh.out HF.out (.inl HNN.out)
          have hbw : Below w.heap.size w wi := (by repeat (first | (with_reducible exact Below.refl _ _) | (with_reducible assumption) | (with_reducible exact bel_box _) | (with_reducible refine bel_step ?_ (by with_reducible assumption)) | (with_reducible refine Below.drew ?_) | (with_reducible refine below_drewN ?_ _) | (with_reducible refine bel_alloc ?_ _)))
          have hrd : RdQ wi (fun b => b < w.heap.size) 1 PtC ⟨some ad, c', rs.take n⟩ := (HR.out.take n).keep oneB_Pt fun p hp => hbw.cell hp
          have K1 := KC.out ⟨some ad, c', rs.take n⟩ a q n wi hbw hrd ht.mm ht.ln ht.tk ht.rn ht.wl
          have KK := Lib.hid K1
          have hcap : n ≤ c' := by have h1 : rs.length ≤ c' := HR.out.2.2.2; omega
          have HTN := Lib.hid ht
          have HDR := Lib.hid (HR.out.drop n)
          clear K1 hrd ht KC HP HF
          have hkl : (L.length + 1) * 176 ≤ 140737488355328 := by omega
          go_wp2_with (first | (go_at_call 26; (with_reducible refine (KK.out).mono ?_); rintro e w6 ⟨x, rfl, hxc, hxr, hb6⟩; have HX := Lib.hid (And.intro hxc hxr); clear hxc hxr) | (at_builtin; (refine wpList_append_own_at _ rfl _ _ 22 rfl w.heap.size 38 i0 z0 12 176 Try.underlying22 hi iz is ib rfl (by decide) _ L.length (zsC L) rfl (own_keepZ HO.out ?_) ⟨w6.heap.size, 0, none⟩ 1 1 (zCs x) rfl rfl (rowZ w6 x _) (z_one x) (by unfold maxLen; omega) (by omega) ?_ ?_; (focus ((repeat (first | (with_reducible exact Below.refl _ _) | (with_reducible assumption) | (with_reducible exact bel_box _) | (with_reducible refine bel_step ?_ (by with_reducible assumption)) | (with_reducible refine Below.drew ?_) | (with_reducible refine below_drewN ?_ _) | (with_reducible refine bel_alloc ?_ _))); done)); (focus (have h1 := hb6.size; have h2 := hbl.size; have h3 := hbw.size; simp at h1 ⊢; omega)); intro v3 w3 hown3 hgrow3 _ hat3; obtain ⟨A3, c3', rfl⟩ := own_formZ hown3)))
          all_goals
            have hb6' : Below wo.heap.size wo w6 := (by repeat (first | (with_reducible exact Below.refl _ _) | (with_reducible assumption) | (with_reducible exact bel_box _) | (with_reducible refine bel_step ?_ (by with_reducible assumption)) | (with_reducible refine Below.drew ?_) | (with_reducible refine below_drewN ?_ _) | (with_reducible refine bel_alloc ?_ _)))
            obtain ⟨s1, s2, s3, s4, s5⟩ := oq_step (B := B) (H0 := H0) hH hbl.size HO.out hb6' hgrow3 hat3
            have e1 : zsC L ++ zCs x = zsC (L ++ [x]) := by rw [zsC_app, zsC_one]
            rw [e1] at hown3
            have hl1 : (L ++ [x]).length = L.length + 1 := by simp
            rw [← hl1] at hown3
            have hdl : (rs.drop n).length = rs.length - n := List.length_drop
            have hrdn : RdQ w (fun b => b < w.heap.size) 1 PtC ⟨if c' = n then some ad else some (ad.add n), c' - n, rs.drop n⟩ := by
              by_cases e : c' = n
              · have h1 : rs.length ≤ c' := HR.out.2.2.2
                have h2 : rs.drop n = [] := List.drop_eq_nil_of_le (by omega)
                rw [h2]
                exact RdQ.none_
              · rw [if_neg e]
                exact HDR.out
            refine ⟨⟨j + n, _, _, rs.drop n, L ++ [x], A3, c3', by rw [hdl], by rw [hl1], Lib.hid (by rw [HD.out, List.drop_drop]), by rw [hdl]; omega, by rw [hl1]; omega, Lib.hid hrdn, Lib.hid ?_, Lib.hid hown3, Lib.hid fun y hy => ?_, hbl.trans s5⟩, by show rs.length - n < rs.length; omega⟩
            · rw [← HC.out, HTN.out.nm, ← HX.out.1]
              simp [cts]
            · rw [hl1]
              rcases List.mem_append.1 hy with hy | hy
              · exact (HE.out y hy).keep s1 s2
              · obtain rfl : y = x := by simpa using hy
                have hsz := hbi2.size
                exact HX.out.2.keep (fun b hb => s3 b (hb.imp id fun ⟨q1, q2⟩ => ⟨by omega, q2⟩)) fun p hp => s4 p (hp.imp id fun ⟨q1, q2⟩ => ⟨by omega, q2⟩)
    · have hrs0 : rs = [] := List.length_eq_zero_iff.1 (by omega)
      subst hrs0
      have h1 := HC.out
      have h2 : cts L = norm HK (pcs l) := by
        rw [← h1]
        show _ = cts L ++ norm HK []
        exact (List.append_nil _).symm
      have HH := Lib.hid h2
      clear h1 h2 HC HR HD HP HF KC
      go_wp2
      go_ret
      exact ⟨A2, c2, L, rfl, HH.out, HO.out, HE.out, hbl⟩
end fu
end Go.Proofs.Ytnjaimpflaoehaa
/- combined of the program: what is wanted of it. -/
namespace Go.Proofs.Ytnjaimpflaoehaa
set_option linter.unusedVariables false
set_option linter.unusedSimpArgs false
open Go.RowKit Go.Sort
namespace fu
/-- a box of a statement that can be written -/
structure BF (W : World) (b : Nat) (z : Zt) : Prop where
  bx : BoxZ W b z
  fr : ∀ i, i < 12 → W.frozen? ⟨b, i, none⟩ = false
theorem BF.lt {W : World} {b : Nat} {z : Zt} (h : BF W b z) : b < W.heap.size := World.block_lt_of_cell? W _ h.bx.1
theorem BF.keep {W W' : World} {b : Nat} {z : Zt} (h : BF W b z) (hb : Below W.heap.size W W') : BF W' b z := ⟨h.bx.keep hb, fun i hi => (hb.frozen (p := ⟨b, i, none⟩) h.lt).trans (h.fr i hi)⟩
theorem BF.set {W : World} {b : Nat} {s s' : Zt} (h : BF W b s) (l : List (Nat × Value)) (hl : ∀ p ∈ l, p.1 < 12) (e : ∀ i, i < 12 → lookA l i ((zCs s)[i]?) = (zCs s')[i]?) : BF (sts W b l) b s' := ⟨box_by h.bx hl e, fun i hi => (sts_frozen _ _ _ _).trans (h.fr i hi)⟩
theorem BF.other {W : World} {b c : Nat} {s : Zt} (h : BF W b s) (l : List (Nat × Value)) (hc : b ≠ c) : BF (sts W c l) b s := by
  have k : ∀ i, (sts W c l).cell? ⟨b, i, none⟩ = W.cell? ⟨b, i, none⟩ := fun i => sts_other _ _ _ ⟨b, i, none⟩ hc
  refine ⟨?_, fun i hi => (sts_frozen _ _ _ _).trans (h.fr i hi)⟩
  have h1 := h.bx
  unfold BoxZ at h1 ⊢
  rw [k 0, k 1, k 2, k 3, k 4, k 5, k 6, k 7, k 8, k 9, k 10, k 11]
  exact h1
theorem BF.grown {W W' : World} {b : Nat} {z : Zt} {row : Option Nat} (h : BF W b z) (hg : W.grownBy W' row) (hr : row ≠ some b) : BF W' b z := by
  have hb := hg.block b h.lt (fun e => hr e.symm)
  have k : ∀ i, W'.cell? ⟨b, i, none⟩ = W.cell? ⟨b, i, none⟩ := fun i => World.cell?_of_block (a := ⟨b, i, none⟩) hb
  refine ⟨?_, fun i hi => (World.frozen?_of_block (a := ⟨b, i, none⟩) hb).trans (h.fr i hi)⟩
  have h1 := h.bx
  unfold BoxZ at h1 ⊢
  rw [k 0, k 1, k 2, k 3, k 4, k 5, k 6, k 7, k 8, k 9, k 10, k 11]
  exact h1
/-- a statement with other branches -/
def Zt.wb (z : Zt) (br : Rw (Rw Zt)) : Zt := .mk z.k z.nm z.t z.r z.ou z.ar br
theorem wb_ct (z : Zt) (br : Rw (Rw Zt)) : (z.wb br).ct = .mk z.hd (br.l.map fun b => cts b.l) := by rw [Zt.ct_eq]; rfl
theorem wb_self (z : Zt) (h : z.br = ⟨none, 0, []⟩) : z.wb ⟨none, 0, []⟩ = z := by
  cases z with
  | mk k nm t r ou ar br =>
    have h : br = ⟨none, 0, []⟩ := h
    subst h
    rfl
abbrev zlit : Obj := .cells #[.int .i64 0, .string ⟨#[]⟩, .int .i64 0, .int .i64 0, .int .i64 0, .int .i64 0, .int .i64 0, .string ⟨#[]⟩, .slice none 0 0, .slice none 0 0, .slice none 0 0, .slice none 0 0] 38
/-- the world of combined behind its two boxes -/
abbrev cW (w : World) (z : Zt) : World := (w.alloc zlit).alloc (zB z)
theorem cW_size (w : World) (z : Zt) : (cW w z).heap.size = w.heap.size + 2 := by simp only [World.size_alloc]
theorem cW_low (w : World) (z : Zt) : Below w.heap.size w (cW w z) := (by repeat (first | (with_reducible exact Below.refl _ _) | (with_reducible assumption) | (with_reducible exact bel_box _) | (with_reducible refine bel_step ?_ (by with_reducible assumption)) | (with_reducible refine Below.drew ?_) | (with_reducible refine below_drewN ?_ _) | (with_reducible refine bel_alloc ?_ _)))
theorem cW_res (w : World) (z : Zt) : BF (cW w z) w.heap.size zz := by
  refine ⟨(boxZ_one w zz).keep (bel_box _), fun i hi => ?_⟩
  simp [go_sem]
theorem cW_box (w : World) (z : Zt) : BF (cW w z) (w.heap.size + 1) z := by
  refine ⟨boxZ_two w zlit z, fun i hi => ?_⟩
  simp [go_sem]
section
variable {H : Type} (K : Hk H)
theorem run_mem : ∀ (s : List (Sx H)) (a : Sx H), run K a s → K.c a.h = true → ∀ t ∈ a :: s, K.c t.h = true ∧ t.br.length = a.br.length
  | [], a, _, hc, t, ht => by
    obtain rfl : t = a := by simpa using ht
    exact ⟨hc, rfl⟩
  | b :: s, a, h, hc, t, ht => by
    have hm := mate_parts K h.1
    rcases List.mem_cons.1 ht with rfl | ht
    · exact ⟨hc, rfl⟩
    · have := run_mem s b h.2 hm.2.1 t ht
      exact ⟨this.1, this.2.trans hm.2.2.2.1.symm⟩
/-- the k-th branches, one behind the other -/
def col (k : Nat) (ts : List (Sx H)) : List (Sx H) := (ts.map fun t => t.br.getD k []).flatten
theorem col_snoc (k : Nat) (a : Sx H) (ts : List (Sx H)) : col k (ts ++ [a]) = col k ts ++ a.br.getD k [] := by simp [col]
theorem ful_col {ts : List (Sx H)} (h : ∀ t ∈ ts, Ful K t) (hc : ∀ t ∈ ts, K.c t.h = true) (k : Nat) : ∀ u ∈ col k ts, Ful K u := by
  intro u hu
  unfold col at hu
  rw [List.mem_flatten] at hu
  obtain ⟨b, hb, hu⟩ := hu
  obtain ⟨t, ht, rfl⟩ := List.mem_map.1 hb
  by_cases hk : k < t.br.length
  · have e : t.br.getD k [] = t.br[k] := by simp [List.getD, hk]
    rw [e] at hu
    exact (h t ht).br K (hc t ht) _ (List.getElem_mem hk) u hu
  · have e : t.br.getD k [] = [] := by simp [List.getD, hk]
    rw [e] at hu
    cases hu
end
theorem getD_wgt (bs : List (List (Sx Hd))) (k : Nat) : wgt (bs.getD k []) ≤ sumL wgt bs := by
  by_cases hk : k < bs.length
  · have e : bs.getD k [] = bs[k] := by simp [List.getD, hk]
    rw [e]
    exact sumL_mem wgt (List.getElem_mem hk)
  · have e : bs.getD k [] = [] := by simp [List.getD, hk]
    rw [e]
    exact Nat.zero_le _
theorem wgt_col (k : Nat) : ∀ ts : List (Sx Hd), (∀ t ∈ ts, HK.c t.h = true) → wgt (col k ts) + ts.length ≤ wgt ts
  | [], _ => Nat.le_refl _
  | a :: ts, h => by
    have ih := wgt_col k ts fun t ht => h t (List.mem_cons_of_mem _ ht)
    have e1 : wgt (a :: ts) = wgt1 a + wgt ts := sumL_cons _ _ _
    have e2 : wgt (col k (a :: ts)) = wgt (a.br.getD k []) + wgt (col k ts) := sumL_append _ _ _
    have e3 := wgt_case (h a List.mem_cons_self)
    have e4 := getD_wgt a.br k
    rw [List.length_cons]
    omega
theorem pt_br {t : Pt} (h : t.s.k = 3) : t.ct.br = t.br.l.map fun b => pcs b.l := by rw [Pt.ct_eq, if_pos h]; rfl
theorem pt_c {t : Pt} : HK.c t.ct.h = decide (t.s.k = 3) := by rw [Pt.ct_h]; rfl
theorem pt_getD {t : Pt} {k : Nat} {b : Rw Pt} (h : t.s.k = 3) (hb : t.br.l[k]? = some b) : t.ct.br.getD k [] = pcs b.l := by
  rw [pt_br h]
  simp [List.getD, hb]
theorem pcs_app (x y : List Pt) : pcs (x ++ y) = pcs x ++ pcs y := by simp [pcs]
end fu
end Go.Proofs.Ytnjaimpflaoehaa
/- combined of the program: the walk over the branches of cases. -/
namespace Go.Proofs.Ytnjaimpflaoehaa
set_option linter.unusedVariables false
set_option linter.unusedSimpArgs false
open Go.RowKit Go.Sort
namespace fu
theorem copy_pts (b : Rw Pt) (wo : World) (hr : RdV (wo.alloc (.cells (madeCells #[.pointer none] b.l.length) 52)) b.A (pC b.l)) (hsz : b.l.length ≤ maxLen) : ∃ W', (Builtin.copy_ #[47, 47] 3 #[.slice (some ⟨wo.heap.size, 0, none⟩) b.l.length b.l.length, .slice b.A b.l.length b.c]).run Try.prog (wo.alloc (.cells (madeCells #[.pointer none] b.l.length) 52)) = .ok (goInt b.l.length) W' ∧ W'.ownsRow wo.heap.size 52 1 (.slice (some ⟨wo.heap.size, 0, none⟩) b.l.length b.l.length) b.l.length (pC b.l) ∧ Below wo.heap.size wo W' := by
  obtain ⟨i1, hi1, iz1, is1, ib1⟩ := info_parts ptInfo
  have hsz1 : (Try.prog.info? 52).map (·.size) = some 1 := by rw [hi1]; show some i1.size = _; rw [is1]
  obtain ⟨A, c, l⟩ := b
  simp only at hr hsz ⊢
  have hg : (wo.alloc (.cells (madeCells #[.pointer none] l.length) 52)).heap[wo.heap.size]? = some (.cells (madeCells #[.pointer none] l.length) 52 (0, 0)) := by
    show (wo.heap.push _)[wo.heap.size]? = _
    exact Array.getElem?_push_size
  rcases l with _ | ⟨x, l⟩
  · refine ⟨_, run_copy_none _ _ _ _ 52 _ _ _ _ _ _ Try.underlying47 hsz1 rfl, ⟨rfl, .inr ⟨_, _, _, rfl, Nat.le_refl _, hg, Nat.le_refl _, hsz, ?_, ?_⟩⟩, bel_box _⟩
    · rw [size_madeCells]; rfl
    · simp [pC]
  · obtain ⟨ad, rfl, hc⟩ := hr (by simp [pC])
    have hrun := run_copy_row (P := Try.prog) _ 47 47 3 52 wo.heap.size 0 (x :: l).length (x :: l).length ad (x :: l).length c _ 52 (pC (x :: l)) Try.underlying47 hsz1 hg (by rw [pC_length]; exact (Nat.min_self _).symm) hc (by rw [pC_length, size_madeCells]; omega) (pC_one _)
    rw [pC_length] at hrun
    refine ⟨_, hrun, ?_, below_setRow (bel_box _) (Nat.le_refl _) _⟩
    have hd : (madeCells #[Value.pointer none] (x :: l).length).toList.drop (0 + (x :: l).length) = [] := List.drop_eq_nil_of_le (by rw [Array.length_toList, size_madeCells]; omega)
    rw [hd, List.take_zero, List.nil_append, List.append_nil]
    refine ⟨by rw [pC_length, Nat.mul_one], .inr ⟨_, _, _, rfl, Nat.le_refl _, setRow_heap _ _ _ _ _ _ hg, Nat.le_refl _, hsz, ?_, ?_⟩⟩
    · rw [List.size_toArray, pC_length, Nat.mul_one]
    · rw [List.take_of_length_le (by rw [pC_length, Nat.mul_one]; exact Nat.le_refl _)]
theorem RzP.of {w : World} {Q : Nat → Prop} {s : Zt} (h : RzP w Q s) : RdP w Q s.r ∧ LnX s.r ∧ RdQ w Q 1 BC s.ou ∧ RdQ w Q 6 XC s.ar ∧ (∀ x ∈ s.ar.l, RdP w Q x ∧ LnX x) ∧ RdQ w Q 1 AC s.br ∧ (∀ a ∈ s.br.l, RdQ w Q 12 ZC a) ∧ ∀ a ∈ s.br.l, ∀ t ∈ a.l, RzP w Q t := by
  cases h with
  | mk s h1 l1 h2 h3 l3 h4 h5 h6 => exact ⟨h1, l1, h2, h3, l3, h4, h5, h6⟩
/-- a statement with other branches, in memory -/
theorem rzp_wb {w W : World} {Q Q' : Nat → Prop} {z : Zt} {br : Rw (Rw Zt)} (h : RzP w Q z) (hQ : ∀ b, Q b → Q' b) (hk : ∀ p : Addr, Q p.block → W.cell? p = w.cell? p) (h4 : RdQ W Q' 1 AC br) (h5 : ∀ a ∈ br.l, RdQ W Q' 12 ZC a) (h6 : ∀ a ∈ br.l, ∀ t ∈ a.l, RzP W Q' t) : RzP W Q' (z.wb br) := by
  obtain ⟨a1, a2, a3, a4, a5, _, _, _⟩ := h.of
  exact .mk _ (a1.keep hQ hk) a2 ((a3.keep oneB_B hk).mono hQ) ((a4.keep oneB_X hk).mono hQ) (fun x hx => ⟨(a5 x hx).1.keep hQ hk, (a5 x hx).2⟩) h4 h5 h6
end fu
end Go.Proofs.Ytnjaimpflaoehaa
/- combined of the program: a single case, at capacity 1. -/
namespace Go.Proofs.Ytnjaimpflaoehaa
set_option linter.unusedVariables false
set_option linter.unusedSimpArgs false
open Go.RowKit Go.Sort
namespace fu
set_option maxHeartbeats 8000000 in
set_option maxRecDepth 100000 in
theorem combined_one (A : Option Addr) (c : Nat) (hc1 : c = 1) (a : Pt) (q : List Pt) (w : World) (B H0 : Nat) (hB : B ≤ H0) (hH : H0 ≤ w.heap.size) (hQ : RdQ w (fun b => b < w.heap.size) 1 PtC ⟨A, c, a :: q⟩) (hP : ∀ t ∈ a :: q, RpP w (fun b => B ≤ b ∧ b < H0) t) (hF : ∀ t ∈ a :: q, Ful HK t.ct) (ha : a.s.k = 3) (hrun : run HK a.ct (pcs q)) (hw : wgt (pcs (a :: q)) ≤ 200000)
    (KJ : Hid (∀ (r : Rw Pt) (m : Nat) W, Below w.heap.size w W → RdQ W (fun b => b < W.heap.size) 1 PtC r → (∀ t ∈ r.l, RpP W (fun b => B ≤ b ∧ b < H0) t) → (∀ t ∈ r.l, Ful HK t.ct) → r.l.length = m → wgt (pcs r.l) < wgt (pcs (a :: q)) → Calls Try.prog 21 #[.slice r.A m r.c] W (NewJ B H0 (norm HK (pcs r.l)) W))) :
    Calls Try.prog 26 #[.slice A (q.length + 1) c] w (NewC B H0 (cmb HK a.ct (pcs q)) w) := by
  subst hc1
  obtain ⟨i0, hi, iz, is, ib⟩ := info_parts arInfo
  obtain ⟨i1, hi1, iz1, is1, ib1⟩ := info_parts ptInfo
  have hsz1 : (Try.prog.info? 52).map (·.size) = some 1 := by rw [hi1]; show some i1.size = _; rw [is1]
  obtain ⟨ad, hA, had⟩ := hQ.1 (by intro e; cases e)
  simp only at hA
  subst hA
  have hpa := (hP a List.mem_cons_self).of
  have hc3 := hQ.2.1 ad 0 a rfl rfl
  have hc0 : w.cell? ad = some (.pointer (some ⟨a.p, 0, none⟩)) := by
    have h1 : w.cell? (ad.add (0 * 1)) = some (.pointer (some ⟨a.p, 0, none⟩)) := hc3
    rwa [Nat.zero_mul, add_zero'] at h1
  have hap := hpa.1
  have hPC : ∀ t ∈ a :: q, ∀ W, Below H0 w W → PC W t := fun t ht W hb => ((hP t ht).of.2.1).keep fun p hp => hb.cell (by rw [hp]; exact (hP t ht).of.1.2)
  have hrm := run_mem HK (pcs q) a.ct hrun (by rw [pt_c]; exact decide_eq_true ha)
  have h3 : ∀ t ∈ a :: q, t.s.k = 3 ∧ t.br.l.length = a.br.l.length := fun t ht => by
    have h1 := hrm t.ct (by
      rcases List.mem_cons.1 ht with rfl | ht
      · exact List.mem_cons_self
      · exact List.mem_cons_of_mem _ (List.mem_map.2 ⟨t, ht, rfl⟩))
    have h2 : t.s.k = 3 := by have := h1.1; rw [pt_c] at this; exact of_decide_eq_true this
    refine ⟨h2, ?_⟩
    have h4 := h1.2
    rw [pt_br h2, pt_br ha, List.length_map, List.length_map] at h4
    exact h4
  have hbn := (hpa.2.2.2.2.2.2.1 ha).1
  have hw1 := wgt_case (show HK.c a.ct.h = true by rw [pt_c]; exact decide_eq_true ha)
  have hwa : wgt1 a.ct ≤ wgt (pcs (a :: q)) := wgt_mem List.mem_cons_self
  rw [pt_br ha, List.length_map] at hw1
  have hbl : a.br.l.length ≤ 200000 := by omega
  have hql : q.length ≤ 200000 := by
    have := wgt_len (pcs (a :: q))
    rw [pcs_len, List.length_cons] at this
    omega
  obtain ⟨m0, m1, m2, m3, m4, m5, m6, m7, m8, m9, m10, m11⟩ := (hPC a List.mem_cons_self (w.alloc zlit) ((bel_box (w := w) zlit).mono hH)).1
  have m12 := (hPC a List.mem_cons_self (cW w a.s) ((cW_low w a.s).mono hH)).2.1
  have hcA : (w.alloc zlit).cell? ad = some (.pointer (some ⟨a.p, 0, none⟩)) := (bel_box (w := w) zlit).cell (World.block_lt_of_cell? w _ hc0) |>.trans hc0
  have hcB : (cW w a.s).cell? ad = some (.pointer (some ⟨a.p, 0, none⟩)) := ((cW_low w a.s).cell (World.block_lt_of_cell? w _ hc0)).trans hc0
  have dn : (0 : Int) < ((q.length + 1 : Nat) : Int) := by omega
  have hcap : q.length + 1 ≤ 1 := hQ.2.2.2
  have hbrQ := hpa.2.2.2.1
  have hbrs := hpa.2.2.2.2.1
  have hbrP := hpa.2.2.2.2.2.1
  obtain ⟨A1, hA1⟩ : ∃ A1, (if 1 = 1 then some ad else some (ad.add 1)) = A1 := ⟨_, rfl⟩
  have hq1 : RdQ w (fun b => b < w.heap.size) 1 PtC ⟨A1, 1 - 1, q⟩ := by
    by_cases e : 1 = 1
    · have h2 : q = [] := List.length_eq_zero_iff.1 (by omega)
      rw [h2]
      exact RdQ.none_
    · rw [← hA1, if_neg e]
      exact hQ.drop 1
  have HQ1 := Lib.hid hq1
  have HPC := Lib.hid hPC
  have HP := Lib.hid hP
  have HF := Lib.hid hF
  have H3 := Lib.hid h3
  have HRM := Lib.hid hrm
  have HBN := Lib.hid hbn
  have HBR := Lib.hid hbrQ
  have HPA := Lib.hid hpa.2.2.1
  have HBS := Lib.hid (And.intro hbrs hbrP)
  have HRUN := Lib.hid hrun
  have HA := Lib.hid ha
  have HWG := Lib.hid hw
  have HRES : Hid (∀ W, Below (cW w a.s).heap.size (cW w a.s) W → BF W w.heap.size zz ∧ BF W (w.heap.size + 1) (a.s.wb ⟨none, 0, []⟩)) := Lib.hid fun W hb => ⟨(cW_res w a.s).keep hb, by rw [wb_self _ hbn]; exact (cW_box w a.s).keep hb⟩
  have HLOW := Lib.hid (cW_low w a.s)
  have HSZ := cW_size w a.s
  clear hq1 hPC hP hF h3 hrm hbn hbrQ hbrs hbrP hpa hQ hw1 hwa hc0 hc3 hrun ha hw hap
  go_enter Try.func26, Try.ntmps26
  go_wp2
  go_loopw [22] (fun i wr => ∃ (k : Nat) (L : List (Rw Zt)) (A2 : Option Addr) (c2 : Nat), k ≤ a.br.l.length ∧ i = .int .i64 (k : Int) ∧ L.length = k ∧ Hid (BF wr w.heap.size zz) ∧ Hid (BF wr (w.heap.size + 1) (a.s.wb ⟨A2, c2, L⟩)) ∧ Hid ((L.map fun b => cts b.l) = (cmb HK a.ct (pcs q)).br.take k) ∧ Hid (wr.ownsRow (w.heap.size + 2) 22 1 (.slice A2 k c2) k (aC L)) ∧ Hid (∀ b ∈ L, RdQ wr (Oq B H0 (w.heap.size + 2) wr (.slice A2 k c2)) 12 ZC b ∧ ∀ y ∈ b.l, RzP wr (Oq B H0 (w.heap.size + 2) wr (.slice A2 k c2)) y) ∧ Hid (Below w.heap.size w wr) ∧ w.heap.size + 2 ≤ wr.heap.size) (fun i _ => a.br.l.length - (intOf i).toNat)
  case atStart => exact ⟨0, [], none, 0, by omega, rfl, rfl, Lib.hid (HRES.out _ (Below.refl _ _)).1, Lib.hid (HRES.out _ (Below.refl _ _)).2, Lib.hid rfl, Lib.hid (World.ownsRow_nil _ _ _ _), Lib.hid (by simp), HLOW, by rw [← HSZ]; exact Nat.le_refl _⟩
  case round =>
    obtain ⟨k, L, A2, c2, hk, rfl, hL, HZ, HX, HC, HO, HE, HLW, hsw⟩ := hrel
    rw [← hL] at HO HE
    have hLb : L.length ≤ 200000 := by omega
    have HKL := Lib.hid hL
    clear hL
    clear m0 m1 m2 m3 m4 m5 m6 m7 m8 m9 m10 m11 m12 hcA hcB HRES HLOW HSZ dn
    by_cases hlt : k < a.br.l.length
    · have d0 : (k : Int) < (a.br.l.length : Int) := by omega
      obtain ⟨ad2, hA2, had2⟩ := HBR.out.1 (by intro e; rw [e] at hlt; simp at hlt)
      have hb : a.br.l[k]? = some a.br.l[k] := List.getElem?_eq_getElem hlt
      have hbm : a.br.l[k] ∈ a.br.l := List.getElem_mem hlt
      generalize a.br.l[k] = b at hb hbm
      have hbc : w.cell? (ad2.add (k * 1)) = some (.slice b.A b.l.length b.c) := HBR.out.2.1 ad2 k b hA2 hb
      rw [Nat.mul_one] at hbc
      have e0 : wr.cell? (ad2.add k) = some (.slice b.A b.l.length b.c) := (HLW.out.cell (World.block_lt_of_cell? w _ hbc)).trans hbc
      have hcb := cmb_br HK (pcs q) a.ct (by rw [pt_c]; exact decide_eq_true HA.out) HRUN.out k (by rw [pt_br HA.out, List.length_map]; exact hlt)
      have hcb2 : (cmb HK a.ct (pcs q)).br[k]? = some (norm HK (col k (pcs (a :: q)))) := hcb
      have HCB := Lib.hid hcb2
      have hbQ := HBS.out.1 b hbm
      have hcs : ∀ t ∈ pcs (a :: q), HK.c t.h = true := fun t ht => (HRM.out t ht).1
      have hwc := wgt_col k (pcs (a :: q)) hcs
      have hwg := HWG.out
      have hcl : ∀ j, (col k (pcs (a :: q.take j))).length ≤ 200000 := fun j => by
        have h1 := wgt_len (col k (pcs (a :: q.take j)))
        have h2 := wgt_col k (pcs (a :: q.take j)) (fun t ht => hcs t (by
          obtain ⟨u, hu, rfl⟩ := List.mem_map.1 ht
          refine List.mem_map_of_mem ?_
          rcases List.mem_cons.1 hu with rfl | hu
          · exact List.mem_cons_self
          · exact List.mem_cons_of_mem _ (List.mem_of_mem_take hu)))
        have h3 := wgt_cut (pcs (a :: q)) (j + 1)
        rw [← pcs_take] at h3
        have h4 : wgt (pcs ((a :: q).take (j + 1))) = wgt (pcs (a :: q.take j)) := rfl
        omega
      have hb0 : pcs b.l = col k (pcs [a]) := by
        show _ = a.ct.br.getD k [] ++ []
        rw [pt_getD HA.out hb, List.append_nil]
      have hbl2 : b.l.length ≤ 200000 := by
        have h1 := hcl 0
        rw [List.take_zero, ← hb0, pcs_len] at h1
        exact h1
      have hbP : ∀ t ∈ b.l, RpP w (fun b => B ≤ b ∧ b < H0) t := fun t ht => HBS.out.2 b hbm t ht
      have hmk := make_pts b.l.length (by omega)
      have HCL := Lib.hid hcl
      have HB0 := Lib.hid hb0
      have HBQ := Lib.hid hbQ
      have HBP := Lib.hid hbP
      have HWC := Lib.hid hwc
      have hmin : (pC b.l).length = Nat.min b.l.length b.l.length := by rw [pC_length]; exact (Nat.min_self _).symm
      have hbw : Below w.heap.size w wr := HLW.out
      clear hcb hcb2 hbQ hcs hwc hwg hcl hb0 hbP hbm hb hbc
      rw [hA2]
      obtain ⟨wo, rfl⟩ : ∃ wo, wo = wr := ⟨_, rfl⟩
      have hbmW : Below w.heap.size w (wo.alloc (.cells (madeCells #[.pointer none] b.l.length) 52)) := hbw.trans ((bel_box (w := wo) _).mono hbw.size)
      obtain ⟨wa, hcpr, hcpo, hcpb⟩ := copy_pts b wo (pt_rdv (HBQ.out.keep oneB_Pt fun p hp => hbmW.cell (by have := hp.2; omega))) (by unfold maxLen; omega)
      have HCPO := Lib.hid hcpo
      have HCPB := Lib.hid hcpb
      clear hbmW hcpo hcpb hmin
      clear hA1
      go_wp2
      go_loopw [6, 36] (fun v i W => ∃ (j : Nat) (M : List Pt) (A3 : Option Addr) (c3 : Nat), j ≤ q.length ∧ i = .int .i64 (j : Int) ∧ v = .slice A3 M.length c3 ∧ Hid (pcs M = col k (pcs (a :: q.take j))) ∧ Hid (∀ t ∈ M, RpP w (fun b => B ≤ b ∧ b < H0) t) ∧ Hid (W.ownsRow wo.heap.size 52 1 (.slice A3 M.length c3) M.length (pC M)) ∧ Below wo.heap.size wo W) (fun _ i _ => q.length - (intOf i).toNat)
      case atStart => exact ⟨0, b.l, some ⟨wo.heap.size, 0, none⟩, b.l.length, by omega, rfl, rfl, by rw [List.take_zero]; exact HB0, HBP, HCPO, HCPB.out⟩
      case round =>
        obtain ⟨j, M, A3, c3, hj, rfl, rfl, HMC, HMP, HMO, hbi⟩ := hrel
        clear HCPO HCPB HB0 HBP
        have hbw2 : Below w.heap.size w wr := hbw.trans (hbi.mono hbw.size)
        by_cases hlt2 : j < q.length
        · exfalso
          omega
        · obtain rfl : j = q.length := by omega
          have hM : pcs M = col k (pcs (a :: q)) := by
            have h1 := HMC.out
            rw [List.take_length] at h1
            exact h1
          have hMl : M.length ≤ 200000 := by
            have h1 := HCL.out q.length
            rw [List.take_length, ← hM, pcs_len] at h1
            exact h1
          have hwt : wgt (pcs M) < wgt (pcs (a :: q)) := by
            have h1 := HWC.out
            rw [← hM, pcs_len, List.length_cons] at h1
            omega
          have hful : ∀ t ∈ M, Ful HK t.ct := fun t ht => by
            refine ful_col HK (ts := pcs (a :: q)) (fun u hu => ?_) (fun u hu => (HRM.out u hu).1) k t.ct (by rw [← hM]; exact List.mem_map_of_mem ht)
            obtain ⟨v, hv, rfl⟩ := List.mem_map.1 hu
            exact HF.out v hv
          have KK : Hid (∀ W, Below wr.heap.size wr W → Calls Try.prog 21 #[.slice A3 M.length c3] W (NewJ B H0 (norm HK (col k (pcs (a :: q)))) W)) := Lib.hid fun W hW => by
            have hb5 : Below w.heap.size w W := hbw2.trans (hW.mono hbw2.size)
            have h1 := KJ.out ⟨A3, c3, M⟩ M.length W hb5 ((own_rdp (own_keepZ HMO.out hW) (by unfold maxLen; omega)).mono fun b hb => hb.2.1) (fun t ht => (HMP.out t ht).keep (fun b hb => hb) fun p hp => hb5.cell (by have := hp.2; omega)) hful rfl hwt
            rw [hM] at h1
            exact h1
          have HXW : Hid (∀ W, Below wr.heap.size wr W → BF W w.heap.size zz ∧ BF W (w.heap.size + 1) (a.s.wb ⟨A2, c2, L⟩) ∧ W.ownsRow (w.heap.size + 2) 22 1 (.slice A2 L.length c2) L.length (aC L) ∧ Below wo.heap.size wo W) := Lib.hid fun W hW => by
            have hb5 : Below wo.heap.size wo W := bel_step hbi hW
            exact ⟨HZ.out.keep hb5, HX.out.keep hb5, own_keepZ HO.out hb5, hb5⟩
          have hx0 := HXW.out wr (Below.refl _ _)
          have c11 : wr.cell? ⟨w.heap.size + 1, 11, none⟩ = some (.slice A2 L.length c2) := hx0.2.1.bx.2.2.2.2.2.2.2.2.2.2.2
          have HNL : Hid ((norm HK (col k (pcs (a :: q)))).length ≤ 200000) := Lib.hid (by
            have h1 := wgt_len (norm HK (col k (pcs (a :: q))))
            have h2 : wgt (norm HK (col k (pcs (a :: q)))) ≤ wgt (col k (pcs (a :: q))) := num_norm HK _ _ _
            have h3 := HWC.out
            have h4 := HWG.out
            omega)
          clear hM hwt hful hx0 HMP HMO HCL
          go_wp2
          go_region_law (first | ((refine step_append_rdZ _ rfl _ _ 36 rfl (w.heap.size + 2) 22 i0 (.slice none 0 0) 1 24 Try.underlying36 hi iz is ib rfl (by decide) _ L.length (aC L) rfl (own_keepZ (HXW.out w6 hb6w).2.2.1 ?_) (some ⟨w6.heap.size, 0, none⟩) 1 1 [.slice A6 L6.length c6] rfl rfl (fun _ => ⟨_, rfl, rowA w6 _ _⟩) (a_one ⟨A6, c6, L6⟩) (by unfold maxLen; omega) (by omega) ?_ ?_); (focus ((repeat (first | (with_reducible exact Below.refl _ _) | (with_reducible assumption) | (with_reducible exact bel_box _) | (with_reducible refine bel_step ?_ (by with_reducible assumption)) | (with_reducible refine Below.drew ?_) | (with_reducible refine below_drewN ?_ _) | (with_reducible refine bel_alloc ?_ _))); done)); (focus (have h1 := (HXW.out w6 hb6w).2.2.2.size; rw [World.size_alloc]; omega)); intro v3 w3 hown3 hgrow3 hat3; obtain ⟨A5, c5, rfl⟩ := own_formZ hown3; have hX3 : BF w3 (w.heap.size + 1) (a.s.wb ⟨A2, c2, L⟩) := ((HXW.out w6 hb6w).2.1.keep (bel_box _)).grown hgrow3 (fun e => absurd ((HXW.out w6 hb6w).2.2.1.lt _ e).1 (by omega)); have c11'' : w3.cell? ⟨w.heap.size + 1, 11, none⟩ = some (.slice A2 L.length c2) := hX3.bx.2.2.2.2.2.2.2.2.2.2.2; have f11 := hX3.fr 11 (by decide); have HX3 := Lib.hid hX3; clear hX3) | (go_simp; go_at_call 21; (with_reducible refine (KK.out _ ?_).mono ?_); (focus ((repeat (first | (with_reducible exact Below.refl _ _) | (with_reducible assumption) | (with_reducible exact bel_box _) | (with_reducible refine bel_step ?_ (by with_reducible assumption)) | (with_reducible refine Below.drew ?_) | (with_reducible refine below_drewN ?_ _) | (with_reducible refine bel_alloc ?_ _))); done)); rintro e w6 ⟨A6, c6, L6, rfl, hLc, hLo, hLr, hb6⟩; have hb6w : Below wr.heap.size wr w6 := (by repeat (first | (with_reducible exact Below.refl _ _) | (with_reducible assumption) | (with_reducible exact bel_box _) | (with_reducible refine bel_step ?_ (by with_reducible assumption)) | (with_reducible refine Below.drew ?_) | (with_reducible refine below_drewN ?_ _) | (with_reducible refine bel_alloc ?_ _))); have HLC := Lib.hid (And.intro hLc (And.intro hLo hLr)); clear hLc hLo hLr; have c11' : w6.cell? ⟨w.heap.size + 1, 11, none⟩ = some (.slice A2 L.length c2) := (HXW.out w6 hb6w).2.1.bx.2.2.2.2.2.2.2.2.2.2.2; have c11a := fun o => cell_alc o c11'))
          all_goals
            go_wp2
            have hS := HXW.out w6 hb6w
            have hNN : w.heap.size + 2 ≤ wo.heap.size := hsw
            obtain ⟨s1, s2, s3, s4, s5⟩ := oq_step (B := B) (H0 := H0) (Nat.le_trans hH (Nat.le_add_right _ _)) hNN HO.out hS.2.2.2 hgrow3 hat3
            have hl1 : (L ++ [(⟨A6, c6, L6⟩ : Rw Zt)]).length = L.length + 1 := by simp
            have e1 : aC L ++ [Value.slice A6 L6.length c6] = aC (L ++ [⟨A6, c6, L6⟩]) := by simp [aC]
            rw [e1] at hown3
            have hX9 : BF (sts w3 (w.heap.size + 1) [(11, .slice A5 (L.length + 1) c5)]) (w.heap.size + 1) (a.s.wb ⟨A5, c5, L ++ [⟨A6, c6, L6⟩]⟩) := HX3.out.set _ (by intro p hp; simp at hp; subst hp; exact (by decide : (11 : Nat) < 12)) fun i hi => by
              rcases i with _ | _ | _ | _ | _ | _ | _ | _ | _ | _ | _ | _ | i
              all_goals first | rfl | omega | skip
              show some (Value.slice A5 (L.length + 1) c5) = some (.slice A5 (L ++ [(⟨A6, c6, L6⟩ : Rw Zt)]).length c5)
              rw [hl1]
            have hZ9 : BF (sts w3 (w.heap.size + 1) [(11, .slice A5 (L.length + 1) c5)]) w.heap.size zz := ((hS.1.keep (bel_box _)).grown hgrow3 (fun e => absurd (hS.2.2.1.lt _ e).1 (by omega))).other _ (by omega)
            have hO9 : (sts w3 (w.heap.size + 1) [(11, .slice A5 (L.length + 1) c5)]).ownsRow (w.heap.size + 2) 22 1 (.slice A5 (L.length + 1) c5) (L.length + 1) (aC (L ++ [⟨A6, c6, L6⟩])) := ownsRow_setCell_below hown3 (a := ⟨w.heap.size + 1, 11, none⟩) (Nat.lt_succ_self _) _
            have hz9 : (sts w3 (w.heap.size + 1) [(11, .slice A5 (L.length + 1) c5)]).heap.size = w3.heap.size := sts_size _ _ _
            have kk : ∀ p : Addr, Oq B H0 (w.heap.size + 2) w3 (.slice A5 (L.length + 1) c5) p.block → (sts w3 (w.heap.size + 1) [(11, .slice A5 (L.length + 1) c5)]).cell? p = w3.cell? p := fun p hp => sts_other _ _ _ _ (by rcases hp with hp | hp <;> omega)
            have uu : ∀ b, Oq B H0 (w.heap.size + 2) w3 (.slice A5 (L.length + 1) c5) b → Oq B H0 (w.heap.size + 2) (sts w3 (w.heap.size + 1) [(11, .slice A5 (L.length + 1) c5)]) (.slice A5 (L.length + 1) c5) b := fun b hb => hb.imp id fun hb => ⟨hb.1, by rw [hz9]; exact hb.2.1, hb.2.2⟩
            have hbW9 : Below w.heap.size w (sts w3 (w.heap.size + 1) [(11, .slice A5 (L.length + 1) c5)]) := sts_below (Nat.le_succ _) _ (HLW.out.trans (s5.mono (Nat.le_add_right _ _)))
            have hsz3 := s5.size
            have hszi := hbi.size
            have h6l : L6.length ≤ 200000 := by
              have h1 := congrArg List.length HLC.out.1
              rw [show (cts L6).length = L6.length from List.length_map _] at h1
              rw [h1]
              exact HNL.out
            have q1 := (own_rdq HLC.out.2.1 (by unfold maxLen; omega))
            have q2 := HLC.out.2.2
            refine ⟨⟨k + 1, L ++ [(⟨A6, c6, L6⟩ : Rw Zt)], A5, c5, by omega, by congr 1, by rw [hl1, HKL.out], Lib.hid hZ9, Lib.hid hX9, Lib.hid ?_, Lib.hid (by rw [← HKL.out]; exact hO9), Lib.hid fun y hy => ?_, Lib.hid hbW9, by exact (by rw [hz9]; omega : w.heap.size + 2 ≤ (sts w3 (w.heap.size + 1) [(11, .slice A5 (L.length + 1) c5)]).heap.size)⟩, by simp [intOf]; omega⟩
            · rw [List.map_append, HC.out, take_succ_of HCB.out, List.map_singleton, HLC.out.1]
            · rw [← HKL.out]
              rcases List.mem_append.1 hy with hy | hy
              · exact ⟨((((HE.out y hy).1.keep oneB_Z s2).mono s1).keep oneB_Z kk).mono uu, fun t ht => (((HE.out y hy).2 t ht).keep s1 s2).keep uu kk⟩
              · obtain rfl : y = ⟨A6, c6, L6⟩ := by simpa using hy
                exact ⟨(((q1.keep oneB_Z fun p hp => s4 p (.inr ⟨Nat.le_trans hszi hp.1, hp.2.1⟩)).mono fun b hb => s3 b (.inr ⟨Nat.le_trans hszi hb.1, hb.2.1⟩)).keep oneB_Z kk).mono uu, fun t ht => ((q2 t ht).keep (fun b hb => s3 b (hb.imp id fun hb => ⟨Nat.le_trans hszi hb.1, hb.2.1⟩)) fun p hp => s4 p (hp.imp id fun hb => ⟨Nat.le_trans hszi hb.1, hb.2.1⟩)).keep uu kk⟩
    · obtain rfl : k = a.br.l.length := by omega
      have hcl := cmb_len HK (pcs q) a.ct HRUN.out
      rw [pt_br HA.out, List.length_map] at hcl
      have hC := HC.out
      rw [← hcl, List.take_length] at hC
      have HH : Hid ((a.s.wb ⟨A2, c2, L⟩).ct = cmb HK a.ct (pcs q)) := Lib.hid (by
        rw [wb_ct]
        have h1 := cmb_h HK (pcs q) a.ct
        rw [Pt.ct_h] at h1
        generalize cmb HK a.ct (pcs q) = s at h1 hC
        cases s with
        | mk h br =>
          have h1 : h = a.s.hd := h1
          have hC : (L.map fun b => cts b.l) = br := hC
          rw [h1, hC])
      have HLB : L.length ≤ 200000 := hLb
      clear hcl hC
      obtain ⟨n0, n1, n2, n3, n4, n5, n6, n7, n8, n9, n10, n11⟩ := HX.out.bx
      obtain ⟨s0, s1, s2, s3, s4, s5, s6, s7, s8, s9, s10, s11⟩ := HZ.out.bx
      have m0 : wr.cell? ⟨w.heap.size + 1, 0, none⟩ = some (.int .i64 a.s.k) := n0
      have m1 : wr.cell? ⟨w.heap.size + 1, 1, none⟩ = some (.string a.s.nm) := n1
      have m2 : wr.cell? ⟨w.heap.size + 1, 2, none⟩ = some (.int .i64 a.s.t) := n2
      have m3 : wr.cell? ⟨w.heap.size + 1, 3, none⟩ = some (.int .i64 a.s.r.k) := n3
      have m4 : wr.cell? ⟨w.heap.size + 1, 4, none⟩ = some (.int .i64 a.s.r.op) := n4
      have m5 : wr.cell? ⟨w.heap.size + 1, 5, none⟩ = some (.int .i64 a.s.r.t) := n5
      have m6 : wr.cell? ⟨w.heap.size + 1, 6, none⟩ = some (.int .i64 a.s.r.v) := n6
      have m7 : wr.cell? ⟨w.heap.size + 1, 7, none⟩ = some (.string a.s.r.nm) := n7
      have m8 : wr.cell? ⟨w.heap.size + 1, 8, none⟩ = some (.slice a.s.r.A a.s.r.ar.length a.s.r.c) := n8
      have m9 : wr.cell? ⟨w.heap.size + 1, 9, none⟩ = some (.slice a.s.ou.A a.s.ou.l.length a.s.ou.c) := n9
      have m10 : wr.cell? ⟨w.heap.size + 1, 10, none⟩ = some (.slice a.s.ar.A a.s.ar.l.length a.s.ar.c) := n10
      have m11 : wr.cell? ⟨w.heap.size + 1, 11, none⟩ = some (.slice A2 L.length c2) := n11
      have r0 : wr.cell? ⟨w.heap.size, 0, none⟩ = some (.int .i64 0) := s0
      have r1 : wr.cell? ⟨w.heap.size, 1, none⟩ = some (.string ⟨#[]⟩) := s1
      have r2 : wr.cell? ⟨w.heap.size, 2, none⟩ = some (.int .i64 0) := s2
      have r3 : wr.cell? ⟨w.heap.size, 3, none⟩ = some (.int .i64 0) := s3
      have r4 : wr.cell? ⟨w.heap.size, 4, none⟩ = some (.int .i64 0) := s4
      have r5 : wr.cell? ⟨w.heap.size, 5, none⟩ = some (.int .i64 0) := s5
      have r6 : wr.cell? ⟨w.heap.size, 6, none⟩ = some (.int .i64 0) := s6
      have r7 : wr.cell? ⟨w.heap.size, 7, none⟩ = some (.string ⟨#[]⟩) := s7
      have r8 : wr.cell? ⟨w.heap.size, 8, none⟩ = some (.slice none 0 0) := s8
      have r9 : wr.cell? ⟨w.heap.size, 9, none⟩ = some (.slice none 0 0) := s9
      have r10 : wr.cell? ⟨w.heap.size, 10, none⟩ = some (.slice none 0 0) := s10
      have r11 : wr.cell? ⟨w.heap.size, 11, none⟩ = some (.slice none 0 0) := s11
      clear n0 n1 n2 n3 n4 n5 n6 n7 n8 n9 n10 n11 s0 s1 s2 s3 s4 s5 s6 s7 s8 s9 s10 s11
      have q0 := HZ.out.fr 0 (by decide)
      have q1 := HZ.out.fr 1 (by decide)
      have q2 := HZ.out.fr 2 (by decide)
      have q3 := HZ.out.fr 3 (by decide)
      have q4 := HZ.out.fr 4 (by decide)
      have q5 := HZ.out.fr 5 (by decide)
      have q6 := HZ.out.fr 6 (by decide)
      have q7 := HZ.out.fr 7 (by decide)
      have q8 := HZ.out.fr 8 (by decide)
      have q9 := HZ.out.fr 9 (by decide)
      have q10 := HZ.out.fr 10 (by decide)
      have q11 := HZ.out.fr 11 (by decide)
      go_wp2
      have hres : BF (sts wr w.heap.size [(0, .int .i64 a.s.k), (1, .string a.s.nm), (2, .int .i64 a.s.t), (3, .int .i64 a.s.r.k), (4, .int .i64 a.s.r.op), (5, .int .i64 a.s.r.t), (6, .int .i64 a.s.r.v), (7, .string a.s.r.nm), (8, .slice a.s.r.A a.s.r.ar.length a.s.r.c), (9, .slice a.s.ou.A a.s.ou.l.length a.s.ou.c), (10, .slice a.s.ar.A a.s.ar.l.length a.s.ar.c), (11, .slice A2 L.length c2)]) w.heap.size (a.s.wb ⟨A2, c2, L⟩) := HZ.out.set _ (by intro p hp; simp only [List.mem_cons, List.not_mem_nil, or_false] at hp; rcases hp with rfl | rfl | rfl | rfl | rfl | rfl | rfl | rfl | rfl | rfl | rfl | rfl <;> simp) fun i hi => by
        rcases i with _ | _ | _ | _ | _ | _ | _ | _ | _ | _ | _ | _ | i
        all_goals first | rfl | omega
      obtain ⟨h0, h1, h2, h3, h4, h5, h6, h7, h8, h9, h10, h11⟩ := hres.bx
      dsimp only [sts] at h0 h1 h2 h3 h4 h5 h6 h7 h8 h9 h10 h11
      have g0 : _ = some (Value.int .i64 a.s.k) := h0
      have g1 : _ = some (Value.string a.s.nm) := h1
      have g2 : _ = some (Value.int .i64 a.s.t) := h2
      have g3 : _ = some (Value.int .i64 a.s.r.k) := h3
      have g4 : _ = some (Value.int .i64 a.s.r.op) := h4
      have g5 : _ = some (Value.int .i64 a.s.r.t) := h5
      have g6 : _ = some (Value.int .i64 a.s.r.v) := h6
      have g7 : _ = some (Value.string a.s.r.nm) := h7
      have g8 : _ = some (Value.slice a.s.r.A a.s.r.ar.length a.s.r.c) := h8
      have g9 : _ = some (Value.slice a.s.ou.A a.s.ou.l.length a.s.ou.c) := h9
      have g10 : _ = some (Value.slice a.s.ar.A a.s.ar.l.length a.s.ar.c) := h10
      have g11 : _ = some (Value.slice A2 L.length c2) := h11
      clear h0 h1 h2 h3 h4 h5 h6 h7 h8 h9 h10 h11
      refine bodyPost_ret (v := .agg #[.int .i64 a.s.k, .string a.s.nm, .int .i64 a.s.t, .int .i64 a.s.r.k, .int .i64 a.s.r.op, .int .i64 a.s.r.t, .int .i64 a.s.r.v, .string a.s.r.nm, .slice a.s.r.A a.s.r.ar.length a.s.r.c, .slice a.s.ou.A a.s.ou.l.length a.s.ou.c, .slice a.s.ar.A a.s.ar.l.length a.s.ar.c, .slice A2 L.length c2]) (by simp [results, Try.f26, go_sem, g0, g1, g2, g3, g4, g5, g6, g7, g8, g9, g10, g11]) rfl ?_
      have e9 : (sts wr w.heap.size [(0, .int .i64 a.s.k), (1, .string a.s.nm), (2, .int .i64 a.s.t), (3, .int .i64 a.s.r.k), (4, .int .i64 a.s.r.op), (5, .int .i64 a.s.r.t), (6, .int .i64 a.s.r.v), (7, .string a.s.r.nm), (8, .slice a.s.r.A a.s.r.ar.length a.s.r.c), (9, .slice a.s.ou.A a.s.ou.l.length a.s.ou.c), (10, .slice a.s.ar.A a.s.ar.l.length a.s.ar.c), (11, .slice A2 L.length c2)]).heap.size = wr.heap.size := sts_size _ _ _
      have hb9 : Below w.heap.size w (sts wr w.heap.size [(0, .int .i64 a.s.k), (1, .string a.s.nm), (2, .int .i64 a.s.t), (3, .int .i64 a.s.r.k), (4, .int .i64 a.s.r.op), (5, .int .i64 a.s.r.t), (6, .int .i64 a.s.r.v), (7, .string a.s.r.nm), (8, .slice a.s.r.A a.s.r.ar.length a.s.r.c), (9, .slice a.s.ou.A a.s.ou.l.length a.s.ou.c), (10, .slice a.s.ar.A a.s.ar.l.length a.s.ar.c), (11, .slice A2 L.length c2)]) := sts_below (Nat.le_refl _) _ HLW.out
      have k9 : ∀ p : Addr, Oq B H0 (w.heap.size + 2) wr (.slice A2 L.length c2) p.block → (sts wr w.heap.size [(0, .int .i64 a.s.k), (1, .string a.s.nm), (2, .int .i64 a.s.t), (3, .int .i64 a.s.r.k), (4, .int .i64 a.s.r.op), (5, .int .i64 a.s.r.t), (6, .int .i64 a.s.r.v), (7, .string a.s.r.nm), (8, .slice a.s.r.A a.s.r.ar.length a.s.r.c), (9, .slice a.s.ou.A a.s.ou.l.length a.s.ou.c), (10, .slice a.s.ar.A a.s.ar.l.length a.s.ar.c), (11, .slice A2 L.length c2)]).cell? p = wr.cell? p := fun p hp => sts_other _ _ _ _ (by rcases hp with hp | hp <;> omega)
      have k8 : ∀ p : Addr, w.heap.size + 2 ≤ p.block → (sts wr w.heap.size [(0, .int .i64 a.s.k), (1, .string a.s.nm), (2, .int .i64 a.s.t), (3, .int .i64 a.s.r.k), (4, .int .i64 a.s.r.op), (5, .int .i64 a.s.r.t), (6, .int .i64 a.s.r.v), (7, .string a.s.r.nm), (8, .slice a.s.r.A a.s.r.ar.length a.s.r.c), (9, .slice a.s.ou.A a.s.ou.l.length a.s.ou.c), (10, .slice a.s.ar.A a.s.ar.l.length a.s.ar.c), (11, .slice A2 L.length c2)]).cell? p = wr.cell? p := fun p hp => sts_other _ _ _ _ (by omega)
      have u9 : ∀ b, Oq B H0 (w.heap.size + 2) wr (.slice A2 L.length c2) b → (B ≤ b ∧ b < H0) ∨ (w.heap.size ≤ b ∧ b < (sts wr w.heap.size [(0, .int .i64 a.s.k), (1, .string a.s.nm), (2, .int .i64 a.s.t), (3, .int .i64 a.s.r.k), (4, .int .i64 a.s.r.op), (5, .int .i64 a.s.r.t), (6, .int .i64 a.s.r.v), (7, .string a.s.r.nm), (8, .slice a.s.r.A a.s.r.ar.length a.s.r.c), (9, .slice a.s.ou.A a.s.ou.l.length a.s.ou.c), (10, .slice a.s.ar.A a.s.ar.l.length a.s.ar.c), (11, .slice A2 L.length c2)]).heap.size) := fun b hb => hb.imp id fun hb => ⟨by have := hb.1; omega, by rw [e9]; exact hb.2.1⟩
      exact ⟨a.s.wb ⟨A2, c2, L⟩, rfl, HH.out, rzp_wb HPA.out (fun b hb => .inl hb) (fun p hp => hb9.cell (by have := hp.2; omega)) (((own_rda HO.out (by unfold maxLen; omega)).keep oneB_A fun p hp => k8 p hp.1).mono fun b hb => .inr ⟨by have := hb.1; omega, Nat.lt_of_lt_of_eq hb.2.1 e9.symm⟩) (fun x hx => ((HE.out x hx).1.keep oneB_Z k9).mono u9) (fun x hx t ht => ((HE.out x hx).2 t ht).keep u9 k9), hb9⟩
end fu
end Go.Proofs.Ytnjaimpflaoehaa
/- combined of the program: cases. -/
namespace Go.Proofs.Ytnjaimpflaoehaa
set_option linter.unusedVariables false
set_option linter.unusedSimpArgs false
open Go.RowKit Go.Sort
namespace fu
set_option maxHeartbeats 8000000 in
set_option maxRecDepth 100000 in
theorem combined_many (A : Option Addr) (c : Nat) (hcn : ¬ c = 1) (a : Pt) (q : List Pt) (w : World) (B H0 : Nat) (hB : B ≤ H0) (hH : H0 ≤ w.heap.size) (hQ : RdQ w (fun b => b < w.heap.size) 1 PtC ⟨A, c, a :: q⟩) (hP : ∀ t ∈ a :: q, RpP w (fun b => B ≤ b ∧ b < H0) t) (hF : ∀ t ∈ a :: q, Ful HK t.ct) (ha : a.s.k = 3) (hrun : run HK a.ct (pcs q)) (hw : wgt (pcs (a :: q)) ≤ 200000)
    (KJ : Hid (∀ (r : Rw Pt) (m : Nat) W, Below w.heap.size w W → RdQ W (fun b => b < W.heap.size) 1 PtC r → (∀ t ∈ r.l, RpP W (fun b => B ≤ b ∧ b < H0) t) → (∀ t ∈ r.l, Ful HK t.ct) → r.l.length = m → wgt (pcs r.l) < wgt (pcs (a :: q)) → Calls Try.prog 21 #[.slice r.A m r.c] W (NewJ B H0 (norm HK (pcs r.l)) W))) :
    Calls Try.prog 26 #[.slice A (q.length + 1) c] w (NewC B H0 (cmb HK a.ct (pcs q)) w) := by
  obtain ⟨i0, hi, iz, is, ib⟩ := info_parts arInfo
  obtain ⟨i1, hi1, iz1, is1, ib1⟩ := info_parts ptInfo
  have hsz1 : (Try.prog.info? 52).map (·.size) = some 1 := by rw [hi1]; show some i1.size = _; rw [is1]
  obtain ⟨ad, hA, had⟩ := hQ.1 (by intro e; cases e)
  simp only at hA
  subst hA
  have hpa := (hP a List.mem_cons_self).of
  have hc3 := hQ.2.1 ad 0 a rfl rfl
  have hc0 : w.cell? ad = some (.pointer (some ⟨a.p, 0, none⟩)) := by
    have h1 : w.cell? (ad.add (0 * 1)) = some (.pointer (some ⟨a.p, 0, none⟩)) := hc3
    rwa [Nat.zero_mul, add_zero'] at h1
  have hap := hpa.1
  have hPC : ∀ t ∈ a :: q, ∀ W, Below H0 w W → PC W t := fun t ht W hb => ((hP t ht).of.2.1).keep fun p hp => hb.cell (by rw [hp]; exact (hP t ht).of.1.2)
  have hrm := run_mem HK (pcs q) a.ct hrun (by rw [pt_c]; exact decide_eq_true ha)
  have h3 : ∀ t ∈ a :: q, t.s.k = 3 ∧ t.br.l.length = a.br.l.length := fun t ht => by
    have h1 := hrm t.ct (by
      rcases List.mem_cons.1 ht with rfl | ht
      · exact List.mem_cons_self
      · exact List.mem_cons_of_mem _ (List.mem_map.2 ⟨t, ht, rfl⟩))
    have h2 : t.s.k = 3 := by have := h1.1; rw [pt_c] at this; exact of_decide_eq_true this
    refine ⟨h2, ?_⟩
    have h4 := h1.2
    rw [pt_br h2, pt_br ha, List.length_map, List.length_map] at h4
    exact h4
  have hbn := (hpa.2.2.2.2.2.2.1 ha).1
  have hw1 := wgt_case (show HK.c a.ct.h = true by rw [pt_c]; exact decide_eq_true ha)
  have hwa : wgt1 a.ct ≤ wgt (pcs (a :: q)) := wgt_mem List.mem_cons_self
  rw [pt_br ha, List.length_map] at hw1
  have hbl : a.br.l.length ≤ 200000 := by omega
  have hql : q.length ≤ 200000 := by
    have := wgt_len (pcs (a :: q))
    rw [pcs_len, List.length_cons] at this
    omega
  obtain ⟨m0, m1, m2, m3, m4, m5, m6, m7, m8, m9, m10, m11⟩ := (hPC a List.mem_cons_self (w.alloc zlit) ((bel_box (w := w) zlit).mono hH)).1
  have m12 := (hPC a List.mem_cons_self (cW w a.s) ((cW_low w a.s).mono hH)).2.1
  have hcA : (w.alloc zlit).cell? ad = some (.pointer (some ⟨a.p, 0, none⟩)) := (bel_box (w := w) zlit).cell (World.block_lt_of_cell? w _ hc0) |>.trans hc0
  have hcB : (cW w a.s).cell? ad = some (.pointer (some ⟨a.p, 0, none⟩)) := ((cW_low w a.s).cell (World.block_lt_of_cell? w _ hc0)).trans hc0
  have dn : (0 : Int) < ((q.length + 1 : Nat) : Int) := by omega
  have hcap : q.length + 1 ≤ c := hQ.2.2.2
  have hbrQ := hpa.2.2.2.1
  have hbrs := hpa.2.2.2.2.1
  have hbrP := hpa.2.2.2.2.2.1
  obtain ⟨A1, hA1⟩ : ∃ A1, (if c = 1 then some ad else some (ad.add 1)) = A1 := ⟨_, rfl⟩
  have hq1 : RdQ w (fun b => b < w.heap.size) 1 PtC ⟨A1, c - 1, q⟩ := by
    by_cases e : c = 1
    · have h2 : q = [] := List.length_eq_zero_iff.1 (by omega)
      rw [h2]
      exact RdQ.none_
    · rw [← hA1, if_neg e]
      exact hQ.drop 1
  have HQ1 := Lib.hid hq1
  have HPC := Lib.hid hPC
  have HP := Lib.hid hP
  have HF := Lib.hid hF
  have H3 := Lib.hid h3
  have HRM := Lib.hid hrm
  have HBN := Lib.hid hbn
  have HBR := Lib.hid hbrQ
  have HPA := Lib.hid hpa.2.2.1
  have HBS := Lib.hid (And.intro hbrs hbrP)
  have HRUN := Lib.hid hrun
  have HA := Lib.hid ha
  have HWG := Lib.hid hw
  have HRES : Hid (∀ W, Below (cW w a.s).heap.size (cW w a.s) W → BF W w.heap.size zz ∧ BF W (w.heap.size + 1) (a.s.wb ⟨none, 0, []⟩)) := Lib.hid fun W hb => ⟨(cW_res w a.s).keep hb, by rw [wb_self _ hbn]; exact (cW_box w a.s).keep hb⟩
  have HLOW := Lib.hid (cW_low w a.s)
  have HSZ := cW_size w a.s
  clear hq1 hPC hP hF h3 hrm hbn hbrQ hbrs hbrP hpa hQ hw1 hwa hc0 hc3 hrun ha hw hap
  go_enter Try.func26, Try.ntmps26
  go_wp2
  go_loopw [22] (fun i wr => ∃ (k : Nat) (L : List (Rw Zt)) (A2 : Option Addr) (c2 : Nat), k ≤ a.br.l.length ∧ i = .int .i64 (k : Int) ∧ L.length = k ∧ Hid (BF wr w.heap.size zz) ∧ Hid (BF wr (w.heap.size + 1) (a.s.wb ⟨A2, c2, L⟩)) ∧ Hid ((L.map fun b => cts b.l) = (cmb HK a.ct (pcs q)).br.take k) ∧ Hid (wr.ownsRow (w.heap.size + 2) 22 1 (.slice A2 k c2) k (aC L)) ∧ Hid (∀ b ∈ L, RdQ wr (Oq B H0 (w.heap.size + 2) wr (.slice A2 k c2)) 12 ZC b ∧ ∀ y ∈ b.l, RzP wr (Oq B H0 (w.heap.size + 2) wr (.slice A2 k c2)) y) ∧ Hid (Below w.heap.size w wr) ∧ w.heap.size + 2 ≤ wr.heap.size) (fun i _ => a.br.l.length - (intOf i).toNat)
  case atStart => exact ⟨0, [], none, 0, by omega, rfl, rfl, Lib.hid (HRES.out _ (Below.refl _ _)).1, Lib.hid (HRES.out _ (Below.refl _ _)).2, Lib.hid rfl, Lib.hid (World.ownsRow_nil _ _ _ _), Lib.hid (by simp), HLOW, by rw [← HSZ]; exact Nat.le_refl _⟩
  case round =>
    obtain ⟨k, L, A2, c2, hk, rfl, hL, HZ, HX, HC, HO, HE, HLW, hsw⟩ := hrel
    rw [← hL] at HO HE
    have hLb : L.length ≤ 200000 := by omega
    have HKL := Lib.hid hL
    clear hL
    clear m0 m1 m2 m3 m4 m5 m6 m7 m8 m9 m10 m11 m12 hcA hcB HRES HLOW HSZ dn
    by_cases hlt : k < a.br.l.length
    · have d0 : (k : Int) < (a.br.l.length : Int) := by omega
      obtain ⟨ad2, hA2, had2⟩ := HBR.out.1 (by intro e; rw [e] at hlt; simp at hlt)
      have hb : a.br.l[k]? = some a.br.l[k] := List.getElem?_eq_getElem hlt
      have hbm : a.br.l[k] ∈ a.br.l := List.getElem_mem hlt
      generalize a.br.l[k] = b at hb hbm
      have hbc : w.cell? (ad2.add (k * 1)) = some (.slice b.A b.l.length b.c) := HBR.out.2.1 ad2 k b hA2 hb
      rw [Nat.mul_one] at hbc
      have e0 : wr.cell? (ad2.add k) = some (.slice b.A b.l.length b.c) := (HLW.out.cell (World.block_lt_of_cell? w _ hbc)).trans hbc
      have hcb := cmb_br HK (pcs q) a.ct (by rw [pt_c]; exact decide_eq_true HA.out) HRUN.out k (by rw [pt_br HA.out, List.length_map]; exact hlt)
      have hcb2 : (cmb HK a.ct (pcs q)).br[k]? = some (norm HK (col k (pcs (a :: q)))) := hcb
      have HCB := Lib.hid hcb2
      have hbQ := HBS.out.1 b hbm
      have hcs : ∀ t ∈ pcs (a :: q), HK.c t.h = true := fun t ht => (HRM.out t ht).1
      have hwc := wgt_col k (pcs (a :: q)) hcs
      have hwg := HWG.out
      have hcl : ∀ j, (col k (pcs (a :: q.take j))).length ≤ 200000 := fun j => by
        have h1 := wgt_len (col k (pcs (a :: q.take j)))
        have h2 := wgt_col k (pcs (a :: q.take j)) (fun t ht => hcs t (by
          obtain ⟨u, hu, rfl⟩ := List.mem_map.1 ht
          refine List.mem_map_of_mem ?_
          rcases List.mem_cons.1 hu with rfl | hu
          · exact List.mem_cons_self
          · exact List.mem_cons_of_mem _ (List.mem_of_mem_take hu)))
        have h3 := wgt_cut (pcs (a :: q)) (j + 1)
        rw [← pcs_take] at h3
        have h4 : wgt (pcs ((a :: q).take (j + 1))) = wgt (pcs (a :: q.take j)) := rfl
        omega
      have hb0 : pcs b.l = col k (pcs [a]) := by
        show _ = a.ct.br.getD k [] ++ []
        rw [pt_getD HA.out hb, List.append_nil]
      have hbl2 : b.l.length ≤ 200000 := by
        have h1 := hcl 0
        rw [List.take_zero, ← hb0, pcs_len] at h1
        exact h1
      have hbP : ∀ t ∈ b.l, RpP w (fun b => B ≤ b ∧ b < H0) t := fun t ht => HBS.out.2 b hbm t ht
      have hmk := make_pts b.l.length (by omega)
      have HCL := Lib.hid hcl
      have HB0 := Lib.hid hb0
      have HBQ := Lib.hid hbQ
      have HBP := Lib.hid hbP
      have HWC := Lib.hid hwc
      have hmin : (pC b.l).length = Nat.min b.l.length b.l.length := by rw [pC_length]; exact (Nat.min_self _).symm
      have hbw : Below w.heap.size w wr := HLW.out
      clear hcb hcb2 hbQ hcs hwc hwg hcl hb0 hbP hbm hb hbc
      rw [hA2]
      obtain ⟨wo, rfl⟩ : ∃ wo, wo = wr := ⟨_, rfl⟩
      have hbmW : Below w.heap.size w (wo.alloc (.cells (madeCells #[.pointer none] b.l.length) 52)) := hbw.trans ((bel_box (w := wo) _).mono hbw.size)
      obtain ⟨wa, hcpr, hcpo, hcpb⟩ := copy_pts b wo (pt_rdv (HBQ.out.keep oneB_Pt fun p hp => hbmW.cell (by have := hp.2; omega))) (by unfold maxLen; omega)
      have HCPO := Lib.hid hcpo
      have HCPB := Lib.hid hcpb
      clear hbmW hcpo hcpb hmin
      have HCQ : Hid (∀ W, Below w.heap.size w W → ∀ (j : Nat) (t : Pt), q[j]? = some t → ¬ c = 1 → W.cell? ⟨ad.block, ad.off + 1 + j, none⟩ = some (.pointer (some ⟨t.p, 0, none⟩))) := Lib.hid fun W hW j t ht hc => by
        have h1 := HQ1.out
        rw [← hA1, if_neg hc] at h1
        have h2 : w.cell? ((ad.add 1).add (j * 1)) = some (.pointer (some ⟨t.p, 0, none⟩)) := h1.2.1 _ j t rfl ht
        have e5 : (ad.add 1).add j = ⟨ad.block, ad.off + 1 + j, none⟩ := by
          unfold Addr.add
          by_cases e6 : j = 0
          · subst e6; simp
          · simp [e6]
        rw [Nat.mul_one, e5] at h2
        exact (hW.cell (World.block_lt_of_cell? w _ h2)).trans h2
      clear hA1
      go_wp2
      go_loopw [6, 36] (fun v i W => ∃ (j : Nat) (M : List Pt) (A3 : Option Addr) (c3 : Nat), j ≤ q.length ∧ i = .int .i64 (j : Int) ∧ v = .slice A3 M.length c3 ∧ Hid (pcs M = col k (pcs (a :: q.take j))) ∧ Hid (∀ t ∈ M, RpP w (fun b => B ≤ b ∧ b < H0) t) ∧ Hid (W.ownsRow wo.heap.size 52 1 (.slice A3 M.length c3) M.length (pC M)) ∧ Below wo.heap.size wo W) (fun _ i _ => q.length - (intOf i).toNat)
      case atStart => exact ⟨0, b.l, some ⟨wo.heap.size, 0, none⟩, b.l.length, by omega, rfl, rfl, by rw [List.take_zero]; exact HB0, HBP, HCPO, HCPB.out⟩
      case round =>
        obtain ⟨j, M, A3, c3, hj, rfl, rfl, HMC, HMP, HMO, hbi⟩ := hrel
        clear HCPO HCPB HB0 HBP
        have hbw2 : Below w.heap.size w wr := hbw.trans (hbi.mono hbw.size)
        by_cases hlt2 : j < q.length
        · have d1 : (j : Int) < (q.length : Int) := by omega
          have hct : ¬ c = 1 := hcn
          have ht : q[j]? = some q[j] := List.getElem?_eq_getElem hlt2
          have htm : q[j] ∈ a :: q := List.mem_cons_of_mem _ (List.getElem_mem hlt2)
          generalize q[j] = t at ht htm
          have f0 := HCQ.out wr hbw2 j t ht hct
          have f1 := (HPC.out t htm wr (hbw2.mono hH)).2.1
          have ht3 := H3.out t htm
          have htp := (HP.out t htm).of
          have hkt : k < t.br.l.length := by omega
          have hbt : t.br.l[k]? = some t.br.l[k] := List.getElem?_eq_getElem hkt
          have hbtm : t.br.l[k] ∈ t.br.l := List.getElem_mem hkt
          generalize t.br.l[k] = bt at hbt hbtm
          obtain ⟨ad4, hA4, had4⟩ := htp.2.2.2.1.1 (by intro e; rw [e] at hkt; simp at hkt)
          have f2 : w.cell? (ad4.add (k * 1)) = some (.slice bt.A bt.l.length bt.c) := htp.2.2.2.1.2.1 ad4 k bt hA4 hbt
          rw [Nat.mul_one] at f2
          have f3 := (hbw2.cell (World.block_lt_of_cell? w _ f2)).trans f2
          rw [hA4] at f1
          have hRV : RdV wr bt.A (pC bt.l) := pt_rdv ((htp.2.2.2.2.1 bt hbtm).keep (W := wr) oneB_Pt fun p hp => hbw2.cell (by have := hp.2; omega))
          have hcolj : pcs (M ++ bt.l) = col k (pcs (a :: q.take (j + 1))) := by
            rw [pcs_app, HMC.out, take_succ_of ht]
            show _ = col k (pcs ((a :: q.take j) ++ [t]))
            rw [pcs_app]
            show _ = col k (pcs (a :: q.take j) ++ [t.ct])
            rw [col_snoc, pt_getD ht3.1 hbt]
          have hMl : M.length + bt.l.length ≤ 200000 := by
            have h1 := HCL.out (j + 1)
            rw [← hcolj, pcs_len, List.length_append] at h1
            exact h1
          have HRV := Lib.hid hRV
          have HCJ := Lib.hid hcolj
          have HBT := Lib.hid (htp.2.2.2.2.2.1 bt hbtm)
          have hsz : wo.heap.size ≤ wr.heap.size := hbi.size
          clear hRV hcolj htp ht3 hbt hbtm hA4 had4 f2 ht htm
          go_wp2_with (at_builtin; (refine wpList_append_rdZ _ rfl _ _ 47 rfl wo.heap.size 52 i1 (.pointer none) 1 8 Try.underlying47 hi1 iz1 is1 ib1 rfl (by decide) _ M.length (pC M) rfl HMO.out bt.A bt.l.length bt.c (pC bt.l) rfl (by rw [pC_length, Nat.mul_one]) HRV.out (pC_one _) (by unfold maxLen; omega) (by omega) hsz ?_; intro v3 w3 hown3 hgrow3 hat3; obtain ⟨A5, c5, rfl⟩ := own_formZ hown3))
          all_goals
            have hbi3 : Below wo.heap.size wo w3 := hbi.grown hgrow3 hsz (fun k hk => (HMO.out.lt k hk).1)
            have e8 : pC M ++ pC bt.l = pC (M ++ bt.l) := by simp [pC]
            have e9 : (M ++ bt.l).length = M.length + bt.l.length := List.length_append
            rw [e8, ← e9] at hown3
            refine ⟨⟨j + 1, M ++ bt.l, A5, c5, by omega, by congr 1, by rw [e9], HCJ, Lib.hid fun u hu => ?_, Lib.hid hown3, hbi3⟩, by simp [intOf]; omega⟩
            rcases List.mem_append.1 hu with hu | hu
            · exact HMP.out u hu
            · exact HBT.out u hu
        · obtain rfl : j = q.length := by omega
          have hM : pcs M = col k (pcs (a :: q)) := by
            have h1 := HMC.out
            rw [List.take_length] at h1
            exact h1
          have hMl : M.length ≤ 200000 := by
            have h1 := HCL.out q.length
            rw [List.take_length, ← hM, pcs_len] at h1
            exact h1
          have hwt : wgt (pcs M) < wgt (pcs (a :: q)) := by
            have h1 := HWC.out
            rw [← hM, pcs_len, List.length_cons] at h1
            omega
          have hful : ∀ t ∈ M, Ful HK t.ct := fun t ht => by
            refine ful_col HK (ts := pcs (a :: q)) (fun u hu => ?_) (fun u hu => (HRM.out u hu).1) k t.ct (by rw [← hM]; exact List.mem_map_of_mem ht)
            obtain ⟨v, hv, rfl⟩ := List.mem_map.1 hu
            exact HF.out v hv
          have KK : Hid (∀ W, Below wr.heap.size wr W → Calls Try.prog 21 #[.slice A3 M.length c3] W (NewJ B H0 (norm HK (col k (pcs (a :: q)))) W)) := Lib.hid fun W hW => by
            have hb5 : Below w.heap.size w W := hbw2.trans (hW.mono hbw2.size)
            have h1 := KJ.out ⟨A3, c3, M⟩ M.length W hb5 ((own_rdp (own_keepZ HMO.out hW) (by unfold maxLen; omega)).mono fun b hb => hb.2.1) (fun t ht => (HMP.out t ht).keep (fun b hb => hb) fun p hp => hb5.cell (by have := hp.2; omega)) hful rfl hwt
            rw [hM] at h1
            exact h1
          have HXW : Hid (∀ W, Below wr.heap.size wr W → BF W w.heap.size zz ∧ BF W (w.heap.size + 1) (a.s.wb ⟨A2, c2, L⟩) ∧ W.ownsRow (w.heap.size + 2) 22 1 (.slice A2 L.length c2) L.length (aC L) ∧ Below wo.heap.size wo W) := Lib.hid fun W hW => by
            have hb5 : Below wo.heap.size wo W := bel_step hbi hW
            exact ⟨HZ.out.keep hb5, HX.out.keep hb5, own_keepZ HO.out hb5, hb5⟩
          have hx0 := HXW.out wr (Below.refl _ _)
          have c11 : wr.cell? ⟨w.heap.size + 1, 11, none⟩ = some (.slice A2 L.length c2) := hx0.2.1.bx.2.2.2.2.2.2.2.2.2.2.2
          have HNL : Hid ((norm HK (col k (pcs (a :: q)))).length ≤ 200000) := Lib.hid (by
            have h1 := wgt_len (norm HK (col k (pcs (a :: q))))
            have h2 : wgt (norm HK (col k (pcs (a :: q)))) ≤ wgt (col k (pcs (a :: q))) := num_norm HK _ _ _
            have h3 := HWC.out
            have h4 := HWG.out
            omega)
          clear hM hwt hful hx0 HMP HMO HCQ HCL
          go_wp2
          go_region_law (first | ((refine step_append_rdZ _ rfl _ _ 36 rfl (w.heap.size + 2) 22 i0 (.slice none 0 0) 1 24 Try.underlying36 hi iz is ib rfl (by decide) _ L.length (aC L) rfl (own_keepZ (HXW.out w6 hb6w).2.2.1 ?_) (some ⟨w6.heap.size, 0, none⟩) 1 1 [.slice A6 L6.length c6] rfl rfl (fun _ => ⟨_, rfl, rowA w6 _ _⟩) (a_one ⟨A6, c6, L6⟩) (by unfold maxLen; omega) (by omega) ?_ ?_); (focus ((repeat (first | (with_reducible exact Below.refl _ _) | (with_reducible assumption) | (with_reducible exact bel_box _) | (with_reducible refine bel_step ?_ (by with_reducible assumption)) | (with_reducible refine Below.drew ?_) | (with_reducible refine below_drewN ?_ _) | (with_reducible refine bel_alloc ?_ _))); done)); (focus (have h1 := (HXW.out w6 hb6w).2.2.2.size; rw [World.size_alloc]; omega)); intro v3 w3 hown3 hgrow3 hat3; obtain ⟨A5, c5, rfl⟩ := own_formZ hown3; have hX3 : BF w3 (w.heap.size + 1) (a.s.wb ⟨A2, c2, L⟩) := ((HXW.out w6 hb6w).2.1.keep (bel_box _)).grown hgrow3 (fun e => absurd ((HXW.out w6 hb6w).2.2.1.lt _ e).1 (by omega)); have c11'' : w3.cell? ⟨w.heap.size + 1, 11, none⟩ = some (.slice A2 L.length c2) := hX3.bx.2.2.2.2.2.2.2.2.2.2.2; have f11 := hX3.fr 11 (by decide); have HX3 := Lib.hid hX3; clear hX3) | (go_simp; go_at_call 21; (with_reducible refine (KK.out _ ?_).mono ?_); (focus ((repeat (first | (with_reducible exact Below.refl _ _) | (with_reducible assumption) | (with_reducible exact bel_box _) | (with_reducible refine bel_step ?_ (by with_reducible assumption)) | (with_reducible refine Below.drew ?_) | (with_reducible refine below_drewN ?_ _) | (with_reducible refine bel_alloc ?_ _))); done)); rintro e w6 ⟨A6, c6, L6, rfl, hLc, hLo, hLr, hb6⟩; have hb6w : Below wr.heap.size wr w6 := (by repeat (first | (with_reducible exact Below.refl _ _) | (with_reducible assumption) | (with_reducible exact bel_box _) | (with_reducible refine bel_step ?_ (by with_reducible assumption)) | (with_reducible refine Below.drew ?_) | (with_reducible refine below_drewN ?_ _) | (with_reducible refine bel_alloc ?_ _))); have HLC := Lib.hid (And.intro hLc (And.intro hLo hLr)); clear hLc hLo hLr; have c11' : w6.cell? ⟨w.heap.size + 1, 11, none⟩ = some (.slice A2 L.length c2) := (HXW.out w6 hb6w).2.1.bx.2.2.2.2.2.2.2.2.2.2.2; have c11a := fun o => cell_alc o c11'))
          all_goals
            go_wp2
            have hS := HXW.out w6 hb6w
            have hNN : w.heap.size + 2 ≤ wo.heap.size := hsw
            obtain ⟨s1, s2, s3, s4, s5⟩ := oq_step (B := B) (H0 := H0) (Nat.le_trans hH (Nat.le_add_right _ _)) hNN HO.out hS.2.2.2 hgrow3 hat3
            have hl1 : (L ++ [(⟨A6, c6, L6⟩ : Rw Zt)]).length = L.length + 1 := by simp
            have e1 : aC L ++ [Value.slice A6 L6.length c6] = aC (L ++ [⟨A6, c6, L6⟩]) := by simp [aC]
            rw [e1] at hown3
            have hX9 : BF (sts w3 (w.heap.size + 1) [(11, .slice A5 (L.length + 1) c5)]) (w.heap.size + 1) (a.s.wb ⟨A5, c5, L ++ [⟨A6, c6, L6⟩]⟩) := HX3.out.set _ (by intro p hp; simp at hp; subst hp; exact (by decide : (11 : Nat) < 12)) fun i hi => by
              rcases i with _ | _ | _ | _ | _ | _ | _ | _ | _ | _ | _ | _ | i
              all_goals first | rfl | omega | skip
              show some (Value.slice A5 (L.length + 1) c5) = some (.slice A5 (L ++ [(⟨A6, c6, L6⟩ : Rw Zt)]).length c5)
              rw [hl1]
            have hZ9 : BF (sts w3 (w.heap.size + 1) [(11, .slice A5 (L.length + 1) c5)]) w.heap.size zz := ((hS.1.keep (bel_box _)).grown hgrow3 (fun e => absurd (hS.2.2.1.lt _ e).1 (by omega))).other _ (by omega)
            have hO9 : (sts w3 (w.heap.size + 1) [(11, .slice A5 (L.length + 1) c5)]).ownsRow (w.heap.size + 2) 22 1 (.slice A5 (L.length + 1) c5) (L.length + 1) (aC (L ++ [⟨A6, c6, L6⟩])) := ownsRow_setCell_below hown3 (a := ⟨w.heap.size + 1, 11, none⟩) (Nat.lt_succ_self _) _
            have hz9 : (sts w3 (w.heap.size + 1) [(11, .slice A5 (L.length + 1) c5)]).heap.size = w3.heap.size := sts_size _ _ _
            have kk : ∀ p : Addr, Oq B H0 (w.heap.size + 2) w3 (.slice A5 (L.length + 1) c5) p.block → (sts w3 (w.heap.size + 1) [(11, .slice A5 (L.length + 1) c5)]).cell? p = w3.cell? p := fun p hp => sts_other _ _ _ _ (by rcases hp with hp | hp <;> omega)
            have uu : ∀ b, Oq B H0 (w.heap.size + 2) w3 (.slice A5 (L.length + 1) c5) b → Oq B H0 (w.heap.size + 2) (sts w3 (w.heap.size + 1) [(11, .slice A5 (L.length + 1) c5)]) (.slice A5 (L.length + 1) c5) b := fun b hb => hb.imp id fun hb => ⟨hb.1, by rw [hz9]; exact hb.2.1, hb.2.2⟩
            have hbW9 : Below w.heap.size w (sts w3 (w.heap.size + 1) [(11, .slice A5 (L.length + 1) c5)]) := sts_below (Nat.le_succ _) _ (HLW.out.trans (s5.mono (Nat.le_add_right _ _)))
            have hsz3 := s5.size
            have hszi := hbi.size
            have h6l : L6.length ≤ 200000 := by
              have h1 := congrArg List.length HLC.out.1
              rw [show (cts L6).length = L6.length from List.length_map _] at h1
              rw [h1]
              exact HNL.out
            have q1 := (own_rdq HLC.out.2.1 (by unfold maxLen; omega))
            have q2 := HLC.out.2.2
            refine ⟨⟨k + 1, L ++ [(⟨A6, c6, L6⟩ : Rw Zt)], A5, c5, by omega, by congr 1, by rw [hl1, HKL.out], Lib.hid hZ9, Lib.hid hX9, Lib.hid ?_, Lib.hid (by rw [← HKL.out]; exact hO9), Lib.hid fun y hy => ?_, Lib.hid hbW9, by exact (by rw [hz9]; omega : w.heap.size + 2 ≤ (sts w3 (w.heap.size + 1) [(11, .slice A5 (L.length + 1) c5)]).heap.size)⟩, by simp [intOf]; omega⟩
            · rw [List.map_append, HC.out, take_succ_of HCB.out, List.map_singleton, HLC.out.1]
            · rw [← HKL.out]
              rcases List.mem_append.1 hy with hy | hy
              · exact ⟨((((HE.out y hy).1.keep oneB_Z s2).mono s1).keep oneB_Z kk).mono uu, fun t ht => (((HE.out y hy).2 t ht).keep s1 s2).keep uu kk⟩
              · obtain rfl : y = ⟨A6, c6, L6⟩ := by simpa using hy
                exact ⟨(((q1.keep oneB_Z fun p hp => s4 p (.inr ⟨Nat.le_trans hszi hp.1, hp.2.1⟩)).mono fun b hb => s3 b (.inr ⟨Nat.le_trans hszi hb.1, hb.2.1⟩)).keep oneB_Z kk).mono uu, fun t ht => ((q2 t ht).keep (fun b hb => s3 b (hb.imp id fun hb => ⟨Nat.le_trans hszi hb.1, hb.2.1⟩)) fun p hp => s4 p (hp.imp id fun hb => ⟨Nat.le_trans hszi hb.1, hb.2.1⟩)).keep uu kk⟩
    · obtain rfl : k = a.br.l.length := by omega
      have hcl := cmb_len HK (pcs q) a.ct HRUN.out
      rw [pt_br HA.out, List.length_map] at hcl
      have hC := HC.out
      rw [← hcl, List.take_length] at hC
      have HH : Hid ((a.s.wb ⟨A2, c2, L⟩).ct = cmb HK a.ct (pcs q)) := Lib.hid (by
        rw [wb_ct]
        have h1 := cmb_h HK (pcs q) a.ct
        rw [Pt.ct_h] at h1
        generalize cmb HK a.ct (pcs q) = s at h1 hC
        cases s with
        | mk h br =>
          have h1 : h = a.s.hd := h1
          have hC : (L.map fun b => cts b.l) = br := hC
          rw [h1, hC])
      have HLB : L.length ≤ 200000 := hLb
      clear hcl hC
      obtain ⟨n0, n1, n2, n3, n4, n5, n6, n7, n8, n9, n10, n11⟩ := HX.out.bx
      obtain ⟨s0, s1, s2, s3, s4, s5, s6, s7, s8, s9, s10, s11⟩ := HZ.out.bx
      have m0 : wr.cell? ⟨w.heap.size + 1, 0, none⟩ = some (.int .i64 a.s.k) := n0
      have m1 : wr.cell? ⟨w.heap.size + 1, 1, none⟩ = some (.string a.s.nm) := n1
      have m2 : wr.cell? ⟨w.heap.size + 1, 2, none⟩ = some (.int .i64 a.s.t) := n2
      have m3 : wr.cell? ⟨w.heap.size + 1, 3, none⟩ = some (.int .i64 a.s.r.k) := n3
      have m4 : wr.cell? ⟨w.heap.size + 1, 4, none⟩ = some (.int .i64 a.s.r.op) := n4
      have m5 : wr.cell? ⟨w.heap.size + 1, 5, none⟩ = some (.int .i64 a.s.r.t) := n5
      have m6 : wr.cell? ⟨w.heap.size + 1, 6, none⟩ = some (.int .i64 a.s.r.v) := n6
      have m7 : wr.cell? ⟨w.heap.size + 1, 7, none⟩ = some (.string a.s.r.nm) := n7
      have m8 : wr.cell? ⟨w.heap.size + 1, 8, none⟩ = some (.slice a.s.r.A a.s.r.ar.length a.s.r.c) := n8
      have m9 : wr.cell? ⟨w.heap.size + 1, 9, none⟩ = some (.slice a.s.ou.A a.s.ou.l.length a.s.ou.c) := n9
      have m10 : wr.cell? ⟨w.heap.size + 1, 10, none⟩ = some (.slice a.s.ar.A a.s.ar.l.length a.s.ar.c) := n10
      have m11 : wr.cell? ⟨w.heap.size + 1, 11, none⟩ = some (.slice A2 L.length c2) := n11
      have r0 : wr.cell? ⟨w.heap.size, 0, none⟩ = some (.int .i64 0) := s0
      have r1 : wr.cell? ⟨w.heap.size, 1, none⟩ = some (.string ⟨#[]⟩) := s1
      have r2 : wr.cell? ⟨w.heap.size, 2, none⟩ = some (.int .i64 0) := s2
      have r3 : wr.cell? ⟨w.heap.size, 3, none⟩ = some (.int .i64 0) := s3
      have r4 : wr.cell? ⟨w.heap.size, 4, none⟩ = some (.int .i64 0) := s4
      have r5 : wr.cell? ⟨w.heap.size, 5, none⟩ = some (.int .i64 0) := s5
      have r6 : wr.cell? ⟨w.heap.size, 6, none⟩ = some (.int .i64 0) := s6
      have r7 : wr.cell? ⟨w.heap.size, 7, none⟩ = some (.string ⟨#[]⟩) := s7
      have r8 : wr.cell? ⟨w.heap.size, 8, none⟩ = some (.slice none 0 0) := s8
      have r9 : wr.cell? ⟨w.heap.size, 9, none⟩ = some (.slice none 0 0) := s9
      have r10 : wr.cell? ⟨w.heap.size, 10, none⟩ = some (.slice none 0 0) := s10
      have r11 : wr.cell? ⟨w.heap.size, 11, none⟩ = some (.slice none 0 0) := s11
      clear n0 n1 n2 n3 n4 n5 n6 n7 n8 n9 n10 n11 s0 s1 s2 s3 s4 s5 s6 s7 s8 s9 s10 s11
      have q0 := HZ.out.fr 0 (by decide)
      have q1 := HZ.out.fr 1 (by decide)
      have q2 := HZ.out.fr 2 (by decide)
      have q3 := HZ.out.fr 3 (by decide)
      have q4 := HZ.out.fr 4 (by decide)
      have q5 := HZ.out.fr 5 (by decide)
      have q6 := HZ.out.fr 6 (by decide)
      have q7 := HZ.out.fr 7 (by decide)
      have q8 := HZ.out.fr 8 (by decide)
      have q9 := HZ.out.fr 9 (by decide)
      have q10 := HZ.out.fr 10 (by decide)
      have q11 := HZ.out.fr 11 (by decide)
      go_wp2
      have hres : BF (sts wr w.heap.size [(0, .int .i64 a.s.k), (1, .string a.s.nm), (2, .int .i64 a.s.t), (3, .int .i64 a.s.r.k), (4, .int .i64 a.s.r.op), (5, .int .i64 a.s.r.t), (6, .int .i64 a.s.r.v), (7, .string a.s.r.nm), (8, .slice a.s.r.A a.s.r.ar.length a.s.r.c), (9, .slice a.s.ou.A a.s.ou.l.length a.s.ou.c), (10, .slice a.s.ar.A a.s.ar.l.length a.s.ar.c), (11, .slice A2 L.length c2)]) w.heap.size (a.s.wb ⟨A2, c2, L⟩) := HZ.out.set _ (by intro p hp; simp only [List.mem_cons, List.not_mem_nil, or_false] at hp; rcases hp with rfl | rfl | rfl | rfl | rfl | rfl | rfl | rfl | rfl | rfl | rfl | rfl <;> simp) fun i hi => by
        rcases i with _ | _ | _ | _ | _ | _ | _ | _ | _ | _ | _ | _ | i
        all_goals first | rfl | omega
      obtain ⟨h0, h1, h2, h3, h4, h5, h6, h7, h8, h9, h10, h11⟩ := hres.bx
      dsimp only [sts] at h0 h1 h2 h3 h4 h5 h6 h7 h8 h9 h10 h11
      have g0 : _ = some (Value.int .i64 a.s.k) := h0
      have g1 : _ = some (Value.string a.s.nm) := h1
      have g2 : _ = some (Value.int .i64 a.s.t) := h2
      have g3 : _ = some (Value.int .i64 a.s.r.k) := h3
      have g4 : _ = some (Value.int .i64 a.s.r.op) := h4
      have g5 : _ = some (Value.int .i64 a.s.r.t) := h5
      have g6 : _ = some (Value.int .i64 a.s.r.v) := h6
      have g7 : _ = some (Value.string a.s.r.nm) := h7
      have g8 : _ = some (Value.slice a.s.r.A a.s.r.ar.length a.s.r.c) := h8
      have g9 : _ = some (Value.slice a.s.ou.A a.s.ou.l.length a.s.ou.c) := h9
      have g10 : _ = some (Value.slice a.s.ar.A a.s.ar.l.length a.s.ar.c) := h10
      have g11 : _ = some (Value.slice A2 L.length c2) := h11
      clear h0 h1 h2 h3 h4 h5 h6 h7 h8 h9 h10 h11
      refine bodyPost_ret (v := .agg #[.int .i64 a.s.k, .string a.s.nm, .int .i64 a.s.t, .int .i64 a.s.r.k, .int .i64 a.s.r.op, .int .i64 a.s.r.t, .int .i64 a.s.r.v, .string a.s.r.nm, .slice a.s.r.A a.s.r.ar.length a.s.r.c, .slice a.s.ou.A a.s.ou.l.length a.s.ou.c, .slice a.s.ar.A a.s.ar.l.length a.s.ar.c, .slice A2 L.length c2]) (by simp [results, Try.f26, go_sem, g0, g1, g2, g3, g4, g5, g6, g7, g8, g9, g10, g11]) rfl ?_
      have e9 : (sts wr w.heap.size [(0, .int .i64 a.s.k), (1, .string a.s.nm), (2, .int .i64 a.s.t), (3, .int .i64 a.s.r.k), (4, .int .i64 a.s.r.op), (5, .int .i64 a.s.r.t), (6, .int .i64 a.s.r.v), (7, .string a.s.r.nm), (8, .slice a.s.r.A a.s.r.ar.length a.s.r.c), (9, .slice a.s.ou.A a.s.ou.l.length a.s.ou.c), (10, .slice a.s.ar.A a.s.ar.l.length a.s.ar.c), (11, .slice A2 L.length c2)]).heap.size = wr.heap.size := sts_size _ _ _
      have hb9 : Below w.heap.size w (sts wr w.heap.size [(0, .int .i64 a.s.k), (1, .string a.s.nm), (2, .int .i64 a.s.t), (3, .int .i64 a.s.r.k), (4, .int .i64 a.s.r.op), (5, .int .i64 a.s.r.t), (6, .int .i64 a.s.r.v), (7, .string a.s.r.nm), (8, .slice a.s.r.A a.s.r.ar.length a.s.r.c), (9, .slice a.s.ou.A a.s.ou.l.length a.s.ou.c), (10, .slice a.s.ar.A a.s.ar.l.length a.s.ar.c), (11, .slice A2 L.length c2)]) := sts_below (Nat.le_refl _) _ HLW.out
      have k9 : ∀ p : Addr, Oq B H0 (w.heap.size + 2) wr (.slice A2 L.length c2) p.block → (sts wr w.heap.size [(0, .int .i64 a.s.k), (1, .string a.s.nm), (2, .int .i64 a.s.t), (3, .int .i64 a.s.r.k), (4, .int .i64 a.s.r.op), (5, .int .i64 a.s.r.t), (6, .int .i64 a.s.r.v), (7, .string a.s.r.nm), (8, .slice a.s.r.A a.s.r.ar.length a.s.r.c), (9, .slice a.s.ou.A a.s.ou.l.length a.s.ou.c), (10, .slice a.s.ar.A a.s.ar.l.length a.s.ar.c), (11, .slice A2 L.length c2)]).cell? p = wr.cell? p := fun p hp => sts_other _ _ _ _ (by rcases hp with hp | hp <;> omega)
      have k8 : ∀ p : Addr, w.heap.size + 2 ≤ p.block → (sts wr w.heap.size [(0, .int .i64 a.s.k), (1, .string a.s.nm), (2, .int .i64 a.s.t), (3, .int .i64 a.s.r.k), (4, .int .i64 a.s.r.op), (5, .int .i64 a.s.r.t), (6, .int .i64 a.s.r.v), (7, .string a.s.r.nm), (8, .slice a.s.r.A a.s.r.ar.length a.s.r.c), (9, .slice a.s.ou.A a.s.ou.l.length a.s.ou.c), (10, .slice a.s.ar.A a.s.ar.l.length a.s.ar.c), (11, .slice A2 L.length c2)]).cell? p = wr.cell? p := fun p hp => sts_other _ _ _ _ (by omega)
      have u9 : ∀ b, Oq B H0 (w.heap.size + 2) wr (.slice A2 L.length c2) b → (B ≤ b ∧ b < H0) ∨ (w.heap.size ≤ b ∧ b < (sts wr w.heap.size [(0, .int .i64 a.s.k), (1, .string a.s.nm), (2, .int .i64 a.s.t), (3, .int .i64 a.s.r.k), (4, .int .i64 a.s.r.op), (5, .int .i64 a.s.r.t), (6, .int .i64 a.s.r.v), (7, .string a.s.r.nm), (8, .slice a.s.r.A a.s.r.ar.length a.s.r.c), (9, .slice a.s.ou.A a.s.ou.l.length a.s.ou.c), (10, .slice a.s.ar.A a.s.ar.l.length a.s.ar.c), (11, .slice A2 L.length c2)]).heap.size) := fun b hb => hb.imp id fun hb => ⟨by have := hb.1; omega, by rw [e9]; exact hb.2.1⟩
      exact ⟨a.s.wb ⟨A2, c2, L⟩, rfl, HH.out, rzp_wb HPA.out (fun b hb => .inl hb) (fun p hp => hb9.cell (by have := hp.2; omega)) (((own_rda HO.out (by unfold maxLen; omega)).keep oneB_A fun p hp => k8 p hp.1).mono fun b hb => .inr ⟨by have := hb.1; omega, Nat.lt_of_lt_of_eq hb.2.1 e9.symm⟩) (fun x hx => ((HE.out x hx).1.keep oneB_Z k9).mono u9) (fun x hx t ht => ((HE.out x hx).2 t ht).keep u9 k9), hb9⟩
end fu
end Go.Proofs.Ytnjaimpflaoehaa
