/- Texts of one chain, in one file. -/
import Derived.Deep.RegionWith
import Derived.Laws.CopyRow
import Derived.Laws.CopyOwn
import Derived.Deep.OwnRows
import Derived.Laws.OwnMore
import Derived.ProofKit
import Derived.OpenShut
import Derived.Deep.Slices
import Derived.SizedLaws
import Derived.Deep.RegionLaw
import Derived.Laws.BitsLemmas
import Derived.Test.YtjodffbekipnlaaQB
/- count of the program. -/
namespace Go.Proofs.Ytjodffbekipnlaa
set_option linter.unusedVariables false
set_option linter.unusedSimpArgs false
open Go.RowKit Go.Maps Go.WideMaps
namespace fu
set_option maxRecDepth 100000 in
set_option maxHeartbeats 4000000 in
theorem count_as (z : Zt) (w : World) (p m n pl : Nat) (f : List UInt8 → Nat) (h : RS w p m n pl f) (hz : z.k = 1) (hpl : pl ≤ 1000000) (hf : f z.nm.data.toList ≤ 1000000) (hn : n < maxLen) (hs : z.nm.size ≤ maxLen) : Calls Try.prog 29 #[.pointer (some ⟨p, 0, none⟩), zV z] w (fun e w' => e = .returned (.tuple #[]) ∧ RS w' p m (n + 1) (pl + 1) (fun t => if t = z.nm.data.toList then f z.nm.data.toList + 1 else f t) ∧ K2 p m w w') := by
  have e1 : ((pl + 1 : Nat) : Int) = (pl : Int) + 1 := by omega
  have ef : ((f z.nm.data.toList + 1 : Nat) : Int) = (f z.nm.data.toList : Int) + 1 := by omega
  have h1 := h.tick (pl + 1)
  rw [e1] at h1
  have h2 := (h1.below (bel_box (.cells #[.int .i64 1, .string z.nm, .int .i64 z.t, .int .i64 z.r.k, .int .i64 z.r.op, .int .i64 z.r.t, .int .i64 z.r.v, .string z.r.nm, .slice z.r.A z.r.ar.length z.r.c, .slice z.ou.A z.ou.l.length z.ou.c, .slice z.ar.A z.ar.l.length z.ar.c, .slice z.br.A z.br.l.length z.br.c] 38)))
  have h3 := h2.below (Below.refl _ _).drew
  have hp : p < w.heap.size := World.block_lt_of_cell? w _ h.c0
  have hpn : p ≠ w.heap.size := by omega
  have d0 := h.c0
  have d1 := h.c1
  have g0 := h.f0
  have hl2 := h3.mc.look z.nm hs
  obtain ⟨c, hcf⟩ : ∃ c, f z.nm.data.toList = c := ⟨_, rfl⟩
  obtain ⟨W', hrun, hm, hg⟩ := h3.mc.upd z.nm hs (f z.nm.data.toList + 1) (by omega) hn
  rw [ef, hcf] at hrun
  rw [hcf] at hl2 hf
  have hwr : IntKind.i64.wrap ((c : Int) + 1) = (c : Int) + 1 := Go.IntWalk.i64_in _ ⟨by omega, by omega⟩
  have HR : Hid (RS W' p m (n + 1) (pl + 1) (fun t => if t = z.nm.data.toList then f z.nm.data.toList + 1 else f t)) := Lib.hid (h3.upd hg hm)
  have HK : Hid (K2 p m w W') := Lib.hid ((((K2.set w _).trans (K2.of_below (bel_box _))).trans (K2.of_below (Below.refl _ _).drew)).trans (K2.of_map hg))
  have HL := Lib.hid hl2
  have HU := Lib.hid hrun
  clear h1 h2 h3 e1 ef hl2 hrun hm hg h hcf
  go_enter Try.func29, Try.ntmps29
  go_wp2
  have hl := HL.out
  have hu := HU.out
  go_region
  all_goals
    go_wp2
    refine bodyPost_end (v := .tuple #[]) (results_none rfl _ _ _) rfl ?_
    exact ⟨rfl, HR.out, HK.out⟩
end fu
end Go.Proofs.Ytjodffbekipnlaa
/- count of the program: calls, and what assigns nothing. -/
namespace Go.Proofs.Ytjodffbekipnlaa
set_option linter.unusedVariables false
set_option linter.unusedSimpArgs false
open Go.RowKit Go.Maps Go.WideMaps
namespace fu
def cntN (l : List ByteArray) (t : List UInt8) : Nat := l.countP fun b => decide (b.data.toList = t)
theorem cntN_take {l : List ByteArray} {k : Nat} {y : ByteArray} (h : l[k]? = some y) (t : List UInt8) : cntN (l.take (k + 1)) t = cntN (l.take k) t + (if y.data.toList = t then 1 else 0) := by
  unfold cntN
  rw [take_succ_of h, List.countP_append]
  simp [List.countP_cons]
theorem cntN_le (l : List ByteArray) (t : List UInt8) : cntN l t ≤ l.length := List.countP_le_length
set_option maxRecDepth 100000 in
set_option maxHeartbeats 4000000 in
theorem count_other (z : Zt) (w : World) (p m n pl : Nat) (f : List UInt8 → Nat) (h : RS w p m n pl f) (hz1 : ¬ z.k = 1) (hz4 : ¬ z.k = 4) (hpl : pl ≤ 1000000) : Calls Try.prog 29 #[.pointer (some ⟨p, 0, none⟩), zV z] w (fun e w' => e = .returned (.tuple #[]) ∧ RS w' p m n (pl + 1) f ∧ K2 p m w w') := by
  have e1 : ((pl + 1 : Nat) : Int) = (pl : Int) + 1 := by omega
  have h1 := h.tick (pl + 1)
  rw [e1] at h1
  have HR := Lib.hid (h1.below (bel_box (.cells #[.int .i64 z.k, .string z.nm, .int .i64 z.t, .int .i64 z.r.k, .int .i64 z.r.op, .int .i64 z.r.t, .int .i64 z.r.v, .string z.r.nm, .slice z.r.A z.r.ar.length z.r.c, .slice z.ou.A z.ou.l.length z.ou.c, .slice z.ar.A z.ar.l.length z.ar.c, .slice z.br.A z.br.l.length z.br.c] 38)))
  have HK : Hid (K2 p m w ((w.setCell ⟨p, 0, none⟩ (.int .i64 ((pl : Int) + 1))).alloc (.cells #[.int .i64 z.k, .string z.nm, .int .i64 z.t, .int .i64 z.r.k, .int .i64 z.r.op, .int .i64 z.r.t, .int .i64 z.r.v, .string z.r.nm, .slice z.r.A z.r.ar.length z.r.c, .slice z.ou.A z.ou.l.length z.ou.c, .slice z.ar.A z.ar.l.length z.ar.c, .slice z.br.A z.br.l.length z.br.c] 38))) := Lib.hid ((K2.set w _).trans (K2.of_below (bel_box _)))
  have hp : p < w.heap.size := World.block_lt_of_cell? w _ h.c0
  have hpn : p ≠ w.heap.size := by omega
  have d0 := h.c0
  have d1 := h.c1
  have g0 := h.f0
  clear h1 e1 h
  go_enter Try.func29, Try.ntmps29
  go_wp2
  refine bodyPost_end (v := .tuple #[]) (results_none rfl _ _ _) rfl ?_
  exact ⟨rfl, HR.out, HK.out⟩
set_option maxRecDepth 100000 in
set_option maxHeartbeats 4000000 in
theorem count_call (z : Zt) (w : World) (p m n pl H : Nat) (f : List UInt8 → Nat) (h : RS w p m n pl f) (hz : z.k = 4) (hpl : pl ≤ 1000000) (hf : ∀ t, f t ≤ 1000000) (hl : z.ou.l.length ≤ 200000) (hn : n + z.ou.l.length < maxLen) (hs : ∀ s ∈ z.ou.l, s.size ≤ maxLen) (hR : RsB w H z.ou) (hHp : H ≤ p) (hHm : H ≤ m) : Calls Try.prog 29 #[.pointer (some ⟨p, 0, none⟩), zV z] w (fun e w' => e = .returned (.tuple #[]) ∧ RS w' p m (n + z.ou.l.length) (pl + 1) (fun t => f t + cntN z.ou.l t) ∧ K2 p m w w') := by
  have e1 : ((pl + 1 : Nat) : Int) = (pl : Int) + 1 := by omega
  have h1 := h.tick (pl + 1)
  rw [e1] at h1
  have HR := Lib.hid (h1.below (bel_box (.cells #[.int .i64 4, .string z.nm, .int .i64 z.t, .int .i64 z.r.k, .int .i64 z.r.op, .int .i64 z.r.t, .int .i64 z.r.v, .string z.r.nm, .slice z.r.A z.r.ar.length z.r.c, .slice z.ou.A z.ou.l.length z.ou.c, .slice z.ar.A z.ar.l.length z.ar.c, .slice z.br.A z.br.l.length z.br.c] 38)))
  have HK : Hid (K2 p m w ((w.setCell ⟨p, 0, none⟩ (.int .i64 ((pl : Int) + 1))).alloc (.cells #[.int .i64 4, .string z.nm, .int .i64 z.t, .int .i64 z.r.k, .int .i64 z.r.op, .int .i64 z.r.t, .int .i64 z.r.v, .string z.r.nm, .slice z.r.A z.r.ar.length z.r.c, .slice z.ou.A z.ou.l.length z.ou.c, .slice z.ar.A z.ar.l.length z.ar.c, .slice z.br.A z.br.l.length z.br.c] 38))) := Lib.hid ((K2.set w _).trans (K2.of_below (bel_box _)))
  have hp : p < w.heap.size := World.block_lt_of_cell? w _ h.c0
  have hpn : p ≠ w.heap.size := by omega
  have d0 := h.c0
  have d1 := h.c1
  have g0 := h.f0
  have HB := Lib.hid hR
  have HF := Lib.hid hf
  have HS := Lib.hid hs
  clear h1 e1 h hR hf hs
  go_enter Try.func29, Try.ntmps29
  go_wp2
  go_loopw [5, 30] (fun _ i W => ∃ k : Nat, k ≤ z.ou.l.length ∧ i = .int .i64 (k : Int) ∧ Hid (RS W p m (n + k) (pl + 1) (fun t => f t + cntN (z.ou.l.take k) t)) ∧ Hid (K2 p m w W)) (fun _ i _ => z.ou.l.length - (intOf i).toNat)
  case atStart => exact ⟨0, by omega, rfl, HR, HK⟩
  case round =>
    obtain ⟨k, hk, rfl, HRk, HKk⟩ := hrel
    by_cases hlt : k < z.ou.l.length
    · obtain ⟨ad, y, hA, had, hy, hym, c0⟩ := HB.out.at_ hlt
      have hbk := World.block_lt_of_cell? w _ c0
      rw [add_block] at hbk
      have c1 : wr.cell? (ad.add (k * 1)) = some (.string y) := (HKk.out.cell (a := ad.add (k * 1)) (by rw [add_block]; exact hbk) (by rw [add_block]; omega) (by rw [add_block]; omega)).trans c0
      rw [Nat.mul_one] at c1
      rw [hA]
      have hlk := HRk.out.mc.look y (HS.out y hym)
      have hcl := cntN_le (z.ou.l.take k) y.data.toList
      have hfl := HF.out y.data.toList
      rw [List.length_take] at hcl
      obtain ⟨c, hc⟩ : ∃ c, f y.data.toList + cntN (z.ou.l.take k) y.data.toList = c := ⟨_, rfl⟩
      have hcb : c ≤ 1200000 := by omega
      obtain ⟨W', hrun, hm, hg⟩ := HRk.out.mc.upd y (HS.out y hym) (c + 1) (by omega) (by omega)
      have ec : ((c + 1 : Nat) : Int) = (c : Int) + 1 := by omega
      rw [ec] at hrun
      rw [hc] at hlk
      have hwr : IntKind.i64.wrap ((c : Int) + 1) = (c : Int) + 1 := Go.IntWalk.i64_in _ ⟨by omega, by omega⟩
      have HR2 : Hid (RS W' p m (n + (k + 1)) (pl + 1) (fun t => f t + cntN (z.ou.l.take (k + 1)) t)) := Lib.hid (by
        have h9 := HRk.out.upd hg hm
        refine ⟨h9.c0, h9.c1, h9.f0, ?_, h9.ne⟩
        have e : (fun t => if t = y.data.toList then c + 1 else f t + cntN (z.ou.l.take k) t) = fun t => f t + cntN (z.ou.l.take (k + 1)) t := by
          funext t
          rw [cntN_take hy]
          by_cases e : t = y.data.toList
          · subst e
            rw [if_pos rfl, if_pos rfl]
            omega
          · rw [if_neg e, if_neg (fun x => e x.symm)]
            rfl
        rw [← e]
        exact h9.mc)
      have HK2 : Hid (K2 p m w W') := Lib.hid (HKk.out.trans (K2.of_map hg))
      have hcm := HRk.out.c1
      have dlt : (k : Int) < (z.ou.l.length : Int) := by omega
      clear hA hy hym hc hcl hfl ec hm hg c0
      go_wp2
      go_roundw
      case rel => exact ⟨k + 1, by omega, by go_num, HR2, HK2⟩
      case measure => simp [intOf]; omega
    · obtain rfl : k = z.ou.l.length := by omega
      have h9 := HRk.out
      rw [List.take_length] at h9
      have H9 := Lib.hid h9
      clear h9
      go_wp2
      refine bodyPost_end (v := .tuple #[]) (results_none rfl _ _ _) rfl ?_
      exact ⟨rfl, H9.out, HKk.out⟩
end fu
end Go.Proofs.Ytjodffbekipnlaa
/- part of the program: a plain statement. -/
namespace Go.Proofs.Ytjodffbekipnlaa
set_option linter.unusedVariables false
set_option linter.unusedSimpArgs false
open Go.RowKit Go.Maps Go.WideMaps
namespace fu
theorem K2.low {p m H : Nat} {W W' : World} (h : K2 p m W W') (hH : H ≤ W.heap.size) (hp : H ≤ p) (hm : H ≤ m) : Below H W W' := ⟨h.os, h.tape, h.output, h.size, fun k hk => h.block k (by omega) (by omega) (by omega)⟩
theorem pc_new (w : World) (s : Zt) (a : Bool) (br : Rw (Rw Pt)) (T : TypeId) : PC (w.alloc (.cells #[.int .i64 s.k, .string s.nm, .int .i64 s.t, .int .i64 s.r.k, .int .i64 s.r.op, .int .i64 s.r.t, .int .i64 s.r.v, .string s.r.nm, .slice s.r.A s.r.ar.length s.r.c, .slice s.ou.A s.ou.l.length s.ou.c, .slice s.ar.A s.ar.l.length s.ar.c, .slice s.br.A s.br.l.length s.br.c, .slice br.A br.l.length br.c, .bool a] T)) (.mk w.heap.size s a br) := by
  refine ⟨?_, ?_, ?_⟩
  · show BoxZ (w.alloc (.cells #[.int .i64 s.k, .string s.nm, .int .i64 s.t, .int .i64 s.r.k, .int .i64 s.r.op, .int .i64 s.r.t, .int .i64 s.r.v, .string s.r.nm, .slice s.r.A s.r.ar.length s.r.c, .slice s.ou.A s.ou.l.length s.ou.c, .slice s.ar.A s.ar.l.length s.ar.c, .slice s.br.A s.br.l.length s.br.c, .slice br.A br.l.length br.c, .bool a] T)) w.heap.size s
    unfold BoxZ
    refine ⟨?_, ?_, ?_, ?_, ?_, ?_, ?_, ?_, ?_, ?_, ?_, ?_⟩ <;> simp [go_sem]
  · show (w.alloc (.cells #[.int .i64 s.k, .string s.nm, .int .i64 s.t, .int .i64 s.r.k, .int .i64 s.r.op, .int .i64 s.r.t, .int .i64 s.r.v, .string s.r.nm, .slice s.r.A s.r.ar.length s.r.c, .slice s.ou.A s.ou.l.length s.ou.c, .slice s.ar.A s.ar.l.length s.ar.c, .slice s.br.A s.br.l.length s.br.c, .slice br.A br.l.length br.c, .bool a] T)).cell? ⟨w.heap.size, 12, none⟩ = some (.slice br.A br.l.length br.c)
    simp [go_sem]
  · show (w.alloc (.cells #[.int .i64 s.k, .string s.nm, .int .i64 s.t, .int .i64 s.r.k, .int .i64 s.r.op, .int .i64 s.r.t, .int .i64 s.r.v, .string s.r.nm, .slice s.r.A s.r.ar.length s.r.c, .slice s.ou.A s.ou.l.length s.ou.c, .slice s.ar.A s.ar.l.length s.ar.c, .slice s.br.A s.br.l.length s.br.c, .slice br.A br.l.length br.c, .bool a] T)).cell? ⟨w.heap.size, 13, none⟩ = some (.bool a)
    simp [go_sem]
/-- what count does, whatever the statement -/
def CountsTo (z : Zt) (p m n pl n' : Nat) (f g : List UInt8 → Nat) (H : Nat) : Prop := ∀ W, RS W p m n pl f → RsB W H z.ou → Calls Try.prog 29 #[.pointer (some ⟨p, 0, none⟩), zV z] W (fun e w' => e = .returned (.tuple #[]) ∧ RS w' p m n' (pl + 1) g ∧ K2 p m W w')
set_option maxRecDepth 100000 in
set_option maxHeartbeats 4000000 in
theorem part_plain (z : Zt) (w : World) (p m n pl n' H : Nat) (f g : List UInt8 → Nat) (h : RS w p m n pl f) (hz : ¬ z.k = 3) (hC : Hid (CountsTo z p m n pl n' f g H)) (hR : RsZ w H z) (hS : SmZ 200000 z) (hH : H ≤ w.heap.size) (hHp : H ≤ p) (hHm : H ≤ m) (hmw : m < w.heap.size) :
    Calls Try.prog 27 #[.pointer (some ⟨p, 0, none⟩), zV z] w (fun e w' => ∃ t : Pt, e = .returned (.pointer (some ⟨t.p, 0, none⟩)) ∧ t.ct = z.ct ∧ t.s.ct = z.ct ∧ t.asg = false ∧ t.br = ⟨none, 0, []⟩ ∧ PC w' t ∧ w.heap.size ≤ t.p ∧ t.p < w'.heap.size ∧ RzP w' (fun b => w.heap.size ≤ b ∧ b < w'.heap.size ∧ b ≠ t.p) t.s ∧ RS w' p m n' (pl + 1) g ∧ K2 p m w w') := by
  have hpw : p < w.heap.size := World.block_lt_of_cell? w _ h.c0
  have hb0 : Below w.heap.size w (w.alloc (zB z)) := (by repeat (first | (with_reducible exact Below.refl _ _) | (with_reducible assumption) | (with_reducible exact bel_box _) | (with_reducible refine bel_step ?_ (by with_reducible assumption)) | (with_reducible refine Below.drew ?_) | (with_reducible refine below_drewN ?_ _) | (with_reducible refine bel_alloc ?_ _)))
  have KC := Lib.hid (hC.out (w.alloc (zB z)) (h.below hb0) (RdR.blw hR.of.2.1 oneB_B (hb0.mono hH) (Nat.le_refl _)))
  have KS : Hid (∀ W, Below H w W → H ≤ W.heap.size → Calls Try.prog 30 #[zV z] W (NewZ z.ct W)) := Lib.hid fun W hb hs => cloneS_any z W (hR.blw hb hs) hS
  have HBX : Hid (∀ W, K2 p m (w.alloc (zB z)) W → BoxZ W w.heap.size z ∧ Below H w W ∧ w.heap.size + 1 ≤ W.heap.size) := Lib.hid fun W hk => by
    have hb := boxZ_one w z
    have hs := hk.size
    rw [World.size_alloc] at hs
    refine ⟨?_, (hb0.mono hH).trans (hk.low (by rw [World.size_alloc]; omega) hHp hHm), hs⟩
    have k : ∀ i, W.cell? ⟨w.heap.size, i, none⟩ = (w.alloc (zB z)).cell? ⟨w.heap.size, i, none⟩ := fun i => hk.cell (a := ⟨w.heap.size, i, none⟩) (by rw [World.size_alloc]; exact Nat.lt_succ_self _) (by show w.heap.size ≠ p; omega) (by show w.heap.size ≠ m; omega)
    unfold BoxZ at hb ⊢
    rw [k 0, k 1, k 2, k 3, k 4, k 5, k 6, k 7, k 8, k 9, k 10, k 11]
    exact hb
  have HB0 := Lib.hid hb0
  clear h hC hR hS hb0
  go_enter Try.func27, Try.ntmps27
  go_wp2_with (first | (go_at_call 29; (with_reducible refine (KC.out).mono ?_); rintro e w5 ⟨rfl, hr5, hk5⟩; obtain ⟨⟨m0, m1, m2, m3, m4, m5, m6, m7, m8, m9, m10, m11⟩, hb5, hs5⟩ := HBX.out w5 hk5; have HR5 := Lib.hid hr5; have HK5 := Lib.hid hk5; clear hr5 hk5) | (go_at_call 30; (with_reducible refine (KS.out _ ?_ ?_).mono ?_); (focus (with_reducible assumption)); (focus (omega)); rintro e w6 ⟨s, rfl, hsc, hsr, hb6, _⟩))
  go_ret
  have hb9 := bel_box (w := w6) (.cells #[.int .i64 s.k, .string s.nm, .int .i64 s.t, .int .i64 s.r.k, .int .i64 s.r.op, .int .i64 s.r.t, .int .i64 s.r.v, .string s.r.nm, .slice s.r.A s.r.ar.length s.r.c, .slice s.ou.A s.ou.l.length s.ou.c, .slice s.ar.A s.ar.l.length s.ar.c, .slice s.br.A s.br.l.length s.br.c, .slice none 0 0, .bool false] 59)
  have h59 : Below w5.heap.size w5 (w6.alloc (.cells #[.int .i64 s.k, .string s.nm, .int .i64 s.t, .int .i64 s.r.k, .int .i64 s.r.op, .int .i64 s.r.t, .int .i64 s.r.v, .string s.r.nm, .slice s.r.A s.r.ar.length s.r.c, .slice s.ou.A s.ou.l.length s.ou.c, .slice s.ar.A s.ar.l.length s.ar.c, .slice s.br.A s.br.l.length s.br.c, .slice none 0 0, .bool false] 59)) := bel_step hb6 hb9
  have hz6 := hb6.size
  have hz9 := hb9.size
  have hk : s.k = z.k := (ct_iff.1 hsc).1
  refine ⟨.mk w6.heap.size s false ⟨none, 0, []⟩, rfl, ?_, hsc, rfl, rfl, pc_new w6 s false ⟨none, 0, []⟩ _, by show w.heap.size ≤ w6.heap.size; omega, by show w6.heap.size < _; rw [World.size_alloc]; omega, hsr.keep (fun b hb => ⟨by have := hb.1; omega, by have := hb.2; rw [World.size_alloc]; omega, by show b ≠ w6.heap.size; have := hb.2; omega⟩) (fun q hq => hb9.cell hq.2), HR5.out.below h59, ((K2.of_below HB0.out).trans HK5.out).trans (K2.of_below h59)⟩
  rw [Pt.ct_eq]
  show (if s.k = 3 then _ else s.ct) = z.ct
  rw [if_neg (by rw [hk]; exact hz)]
  exact hsc
end fu
end Go.Proofs.Ytjodffbekipnlaa
/- The heads of a joined list are heads of the list: plain. -/
namespace Go.Proofs.Ytjodffbekipnlaa
set_option linter.unusedVariables false
set_option linter.unusedSimpArgs false
namespace fu
variable {H : Type} (K : Hk H)
/-- the heads of its cases are as P says, its plain statements as L says -/
inductive AH (P : H → Prop) (L : Sx H → Prop) : Sx H → Prop
  | mk (s : Sx H) (h : K.c s.h = true → P s.h) (hb : K.c s.h = true → ∀ b ∈ s.br, ∀ t ∈ b, AH P L t) (hl : ¬ K.c s.h = true → L s) : AH P L s
theorem AH.of {P : H → Prop} {L : Sx H → Prop} {s : Sx H} (h : AH K P L s) (hc : K.c s.h = true) : P s.h ∧ ∀ b ∈ s.br, ∀ t ∈ b, AH K P L t := by
  cases h with
  | mk s h hb hl => exact ⟨h hc, hb hc⟩
theorem AH.leaf {P : H → Prop} {L : Sx H → Prop} {s : Sx H} (h : AH K P L s) (hc : ¬ K.c s.h = true) : L s := by
  cases h with
  | mk s h hb hl => exact hl hc
theorem ah_app {P : H → Prop} {L : Sx H → Prop} : ∀ (k : Nat) (x y : List (Sx H)), SizeOf.sizeOf x ≤ k → (∀ t ∈ x, AH K P L t) → (∀ t ∈ y, AH K P L t) → ∀ t ∈ app K x y, AH K P L t := by
  intro k
  induction k with
  | zero => intro x y h; cases x <;> simp at h
  | succ k ih =>
    intro x y hk hx hy
    rcases List.eq_nil_or_concat x with rfl | ⟨x', a, rfl⟩
    · rw [nil_app]; exact hy
    rw [List.concat_eq_append] at *
    have hsz : SizeOf.sizeOf a < SizeOf.sizeOf (x' ++ [a]) := List.sizeOf_lt_of_mem (by simp)
    cases y with
    | nil => rw [app_nil]; exact hx
    | cons b y2 =>
      rw [app_snoc]
      split
      · rename_i hm
        have hmp := mate_parts K hm
        intro t ht
        rcases List.mem_append.1 ht with ht | ht
        · exact hx t (List.mem_append_left _ ht)
        · rcases List.mem_cons.1 ht with rfl | ht
          · have ha := (hx a (by simp)).of K hmp.1
            have hb := (hy b List.mem_cons_self).of K hmp.2.1
            refine .mk _ (fun _ => ha.1) (fun _ c hc t ht => ?_) (fun h => absurd hmp.1 h)
            obtain ⟨u, hu, v, hv, rfl⟩ := zip_mem (show c ∈ List.zipWith (app K) a.br b.br from hc)
            exact ih u v (by have := Sx.lt_br hu; omega) (ha.2 u hu) (hb.2 v hv) t ht
          · exact hy t (List.mem_cons_of_mem _ ht)
      · intro t ht
        rcases List.mem_append.1 ht with ht | ht
        · exact hx t (List.mem_append_left _ ht)
        · rcases List.mem_cons.1 ht with rfl | ht
          · exact hx _ (by simp)
          · exact hy t ht
theorem ah_norm_of {P : H → Prop} {L : Sx H → Prop} {l : List (Sx H)} (h : ∀ t ∈ l, ∀ u ∈ norm1 K t, AH K P L u) : ∀ u ∈ norm K l, AH K P L u := by
  induction l with
  | nil => intro u hu; cases hu
  | cons a l ih =>
    rw [norm_cons]
    exact ah_app K _ _ _ (Nat.le_refl _) (h a List.mem_cons_self) (ih fun t ht => h t (List.mem_cons_of_mem _ ht))
theorem ah_norm1 {P : H → Prop} {L : Sx H → Prop} (s : Sx H) : AH K P L s → ∀ u ∈ norm1 K s, AH K P L u := by
  induction s using Sx.ind with
  | h s ih =>
    intro h u hu
    rw [norm1_eq] at hu
    split at hu
    · split at hu
      · cases hu
      · obtain rfl : u = _ := by simpa using hu
        rename_i hc _
        refine .mk _ (fun _ => (h.of K hc).1) (fun _ b hb t ht => ?_) (fun h => absurd hc h)
        obtain ⟨b', hb', rfl⟩ := List.mem_map.1 (show b ∈ s.br.map (norm K) from hb)
        exact ah_norm_of K (fun t ht => ih b' hb' t ht ((h.of K hc).2 b' hb' t ht)) t ht
    · obtain rfl : u = s := by simpa using hu
      exact h
theorem ah_norm {P : H → Prop} {L : Sx H → Prop} {l : List (Sx H)} (h : ∀ t ∈ l, AH K P L t) : ∀ u ∈ norm K l, AH K P L u := ah_norm_of K fun t ht => ah_norm1 K t (h t ht)
end fu
end Go.Proofs.Ytjodffbekipnlaa
/- Sizes by what statements say. -/
namespace Go.Proofs.Ytjodffbekipnlaa
set_option linter.unusedVariables false
set_option linter.unusedSimpArgs false
open Go.RowKit Go.Sort
namespace fu
/-- no list in it is longer than m -/
inductive SmS (m : Nat) : Sx Hd → Prop
  | mk (s : Sx Hd) (h1 : s.h.ou.length ≤ m) (h2 : s.h.ar.length ≤ m) (h3 : s.br.length ≤ m) (h4 : ∀ a ∈ s.br, a.length ≤ m) (h5 : ∀ a ∈ s.br, ∀ t ∈ a, SmS m t) : SmS m s
theorem SmS.of {m : Nat} {s : Sx Hd} (h : SmS m s) : s.h.ou.length ≤ m ∧ s.h.ar.length ≤ m ∧ s.br.length ≤ m ∧ (∀ a ∈ s.br, a.length ≤ m) ∧ ∀ a ∈ s.br, ∀ t ∈ a, SmS m t := by
  cases h with
  | mk s h1 h2 h3 h4 h5 => exact ⟨h1, h2, h3, h4, h5⟩
theorem smZ_ct {m : Nat} (z : Zt) : SmS m z.ct → SmZ m z := by
  induction z using Zt.ind with
  | h z ih =>
    intro h
    obtain ⟨h1, h2, h3, h4, h5⟩ := h.of
    rw [Zt.ct_h] at h1 h2
    rw [Zt.ct_br] at h3 h4 h5
    have h1 : (z.ou.l.map ByteArray.toList).length ≤ m := h1
    have h2 : (z.ar.l.map Xt.ct).length ≤ m := h2
    rw [List.length_map] at h1 h2 h3
    refine .mk z h1 h2 h3 (fun a ha => ?_) fun a ha t ht => ih a ha t ht (h5 (cts a.l) (List.mem_map.2 ⟨a, ha, rfl⟩) t.ct (List.mem_map.2 ⟨t, ht, rfl⟩))
    have := h4 (cts a.l) (List.mem_map.2 ⟨a, ha, rfl⟩)
    simpa [cts] using this
theorem smS_ct {m : Nat} (z : Zt) : SmZ m z → SmS m z.ct := by
  induction z using Zt.ind with
  | h z ih =>
    intro h
    obtain ⟨h1, h2, h3, h4, h5⟩ := h.of
    refine .mk _ ?_ ?_ ?_ (fun a ha => ?_) fun a ha t ht => ?_
    · rw [Zt.ct_h]
      show (z.ou.l.map ByteArray.toList).length ≤ m
      rw [List.length_map]; exact h1
    · rw [Zt.ct_h]
      show (z.ar.l.map Xt.ct).length ≤ m
      rw [List.length_map]; exact h2
    · rw [Zt.ct_br, List.length_map]; exact h3
    · rw [Zt.ct_br] at ha
      obtain ⟨b, hb, rfl⟩ := List.mem_map.1 ha
      have := h4 b hb
      simpa [cts] using this
    · rw [Zt.ct_br] at ha
      obtain ⟨b, hb, rfl⟩ := List.mem_map.1 ha
      obtain ⟨u, hu, rfl⟩ := List.mem_map.1 ht
      exact ih b hb u hu (h5 b hb u hu)
/-- the weight by which joining is measured -/
def wgt (l : List (Sx Hd)) : Nat := num HK (fun n => n + 1) (fun _ => 1) l
def wgt1 (s : Sx Hd) : Nat := num1 HK (fun n => n + 1) (fun _ => 1) s
theorem wgt1_pos (s : Sx Hd) : 1 ≤ wgt1 s := by
  unfold wgt1
  rw [num1_eq]
  split <;> omega
theorem wgt_len : ∀ l : List (Sx Hd), l.length ≤ wgt l
  | [] => Nat.zero_le _
  | s :: l => by
    have h := wgt_len l
    have h1 := wgt1_pos s
    have h2 : wgt (s :: l) = wgt1 s + wgt l := sumL_cons _ _ _
    rw [List.length_cons]
    omega
theorem wgt_mem {l : List (Sx Hd)} {s : Sx Hd} (h : s ∈ l) : wgt1 s ≤ wgt l := sumL_mem _ h
theorem wgt_case {s : Sx Hd} (hc : HK.c s.h = true) : wgt1 s = s.br.length + 1 + sumL wgt s.br := by
  unfold wgt1
  rw [num1_eq, if_pos hc]
  rfl
def AHm (m : Nat) : Sx Hd → Prop := AH HK (fun h => h.ou.length ≤ m ∧ h.ar.length ≤ m) (SmS m)
theorem smS_of {m : Nat} (s : Sx Hd) : AHm m s → wgt1 s ≤ m → SmS m s := by
  induction s using Sx.ind with
  | h s ih =>
    intro h hw
    by_cases hc : HK.c s.h = true
    · obtain ⟨⟨h1, h2⟩, h3⟩ := h.of HK hc
      rw [wgt_case hc] at hw
      have hb : ∀ a ∈ s.br, wgt a ≤ m := fun a ha => by
        have : wgt a ≤ sumL wgt s.br := sumL_mem _ ha
        omega
      exact .mk s h1 h2 (by omega) (fun a ha => Nat.le_trans (wgt_len a) (hb a ha)) fun a ha t ht => ih a ha t ht (h3 a ha t ht) (Nat.le_trans (wgt_mem ht) (hb a ha))
    · exact h.leaf HK hc
theorem ahm_of {m : Nat} (s : Sx Hd) : SmS m s → AHm m s := by
  induction s using Sx.ind with
  | h s ih =>
    intro h
    obtain ⟨h1, h2, h3, h4, h5⟩ := h.of
    exact .mk s (fun _ => ⟨h1, h2⟩) (fun _ b hb t ht => ih b hb t ht (h5 b hb t ht)) fun _ => h
/-- what is joined is no longer than it was -/
theorem smS_norm {m : Nat} {l : List (Sx Hd)} (h : ∀ t ∈ l, SmS m t) (hw : wgt l ≤ m) : ∀ t ∈ norm HK l, SmS m t := fun t ht => smS_of t (ah_norm HK (fun u hu => ahm_of u (h u hu)) t ht) (Nat.le_trans (wgt_mem ht) (Nat.le_trans (num_norm HK _ _ l) hw))
theorem wgt_wz1 (z : Zt) : wgt1 z.ct ≤ wz1 z := by
  induction z using Zt.ind with
  | h z ih =>
    by_cases hc : HK.c z.ct.h = true
    · rw [wgt_case hc, wz1_eq, Zt.ct_br, List.length_map]
      have : sumL wgt (z.br.l.map fun b => cts b.l) ≤ wzB z.br.l := by
        unfold wzB sumL
        rw [List.map_map]
        have hb : ∀ b ∈ z.br.l, wgt (cts b.l) ≤ wz b.l := fun b hb => by
          have hl : ∀ l : List Zt, (∀ t ∈ l, wgt1 t.ct ≤ wz1 t) → wgt (cts l) ≤ wz l := fun l => by
            induction l with
            | nil => intro _; exact Nat.le_refl _
            | cons a l ihl =>
              intro h
              have h1 := ihl fun t ht => h t (List.mem_cons_of_mem _ ht)
              have h2 := h a List.mem_cons_self
              have e1 : wgt (cts (a :: l)) = wgt1 a.ct + wgt (cts l) := sumL_cons _ _ _
              have e2 : wz (a :: l) = wz1 a + wz l := sumL_cons _ _ _
              omega
          exact hl b.l (ih b hb)
        generalize z.br.l = L at hb
        induction L with
        | nil => exact Nat.le_refl _
        | cons a L ihL =>
          have h1 := ihL fun b hb' => hb b (List.mem_cons_of_mem _ hb')
          have h2 := hb a List.mem_cons_self
          simp only [List.map_cons, List.sum_cons, Function.comp_apply] at h1 ⊢
          omega
      omega
    · unfold wgt1
      rw [num1_eq, if_neg hc, wz1_eq]
      omega
theorem wgt_wz : ∀ l : List Zt, wgt (cts l) ≤ wz l
  | [] => Nat.le_refl _
  | a :: l => by
    have h1 := wgt_wz l
    have h2 := wgt_wz1 a
    have e1 : wgt (cts (a :: l)) = wgt1 a.ct + wgt (cts l) := sumL_cons _ _ _
    have e2 : wz (a :: l) = wz1 a + wz l := sumL_cons _ _ _
    omega
end fu
end Go.Proofs.Ytjodffbekipnlaa
/- What the reader counts; what it keeps: plain. -/
namespace Go.Proofs.Ytjodffbekipnlaa
set_option linter.unusedVariables false
set_option linter.unusedSimpArgs false
open Go.RowKit Go.Sort
namespace fu
section
variable {H : Type} (K : Hk H)
theorem any_sum {α : Type} (p : α → Bool) (f : α → Nat) : ∀ l : List α, (∀ a ∈ l, p a = decide (0 < f a)) → l.any p = decide (0 < sumL f l)
  | [], _ => by simp [sumL]
  | a :: l, h => by
    rw [List.any_cons, h a List.mem_cons_self, any_sum p f l fun b hb => h b (List.mem_cons_of_mem _ hb), sumL_cons]
    rw [Bool.eq_iff_iff]
    simp only [Bool.or_eq_true, decide_eq_true_eq]
    omega
theorem any_num (X : Sx H → Bool) (P : H → Bool) (g : H → Nat) (hX : ∀ s, X s = if K.c s.h then s.br.any (fun b => b.any X) else P s.h) (hP : ∀ h, P h = decide (0 < g h)) (s : Sx H) : X s = decide (0 < num1 K (fun _ => 0) g s) := by
  induction s using Sx.ind with
  | h s ih =>
    rw [hX, num1_eq]
    split
    · rw [any_sum (fun b => b.any X) (num K (fun _ => 0) g) s.br fun b hb => any_sum X _ b (ih b hb), Nat.zero_add]
    · exact hP _
theorem asg_kp1 (d : H) (s : Sx H) : asg1 K d (kp1 K s) = asg1 K d s := by
  rw [← asg_norm1, norm1_kp, asg_norm1]
theorem hp_kp1 (s : Sx H) : hp1 K (kp1 K s) = hp1 K s := by
  have h1 := norm1_nil K (kp1 K s)
  have h2 := norm1_nil K s
  rw [norm1_kp] at h1
  cases e1 : hp1 K (kp1 K s) <;> cases e2 : hp1 K s
  · rfl
  · rw [e1] at h1; rw [e2] at h2
    have := h2.1 (h1.2 rfl)
    cases this
  · rw [e1] at h1; rw [e2] at h2
    have := h1.1 (h2.2 rfl)
    cases this
  · rfl
theorem kp1_h (s : Sx H) : (kp1 K s).h = s.h := by
  rw [kp1_eq]
  split <;> rfl
/-- no hollow case in it, at any depth of cases -/
inductive Ful : Sx H → Prop
  | mk (s : Sx H) (h : hp1 K s = true) (hb : K.c s.h = true → ∀ b ∈ s.br, ∀ t ∈ b, Ful t) : Ful s
theorem Ful.hp {s : Sx H} (h : Ful K s) : hp1 K s = true := by
  cases h with
  | mk s h hb => exact h
theorem Ful.br {s : Sx H} (h : Ful K s) (hc : K.c s.h = true) : ∀ b ∈ s.br, ∀ t ∈ b, Ful K t := by
  cases h with
  | mk s h hb => exact hb hc
theorem ful_kp1 (s : Sx H) : hp1 K s = true → Ful K (kp1 K s) := by
  induction s using Sx.ind with
  | h s ih =>
    intro h
    refine .mk _ (by rw [hp_kp1]; exact h) fun hc b hb t ht => ?_
    rw [kp1_h] at hc
    rw [kp1_eq, if_pos hc] at hb
    obtain ⟨b', hb', rfl⟩ := List.mem_map.1 (show b ∈ s.br.map (kp K) from hb)
    obtain ⟨u, hu, e⟩ := List.mem_filterMap.1 ht
    cases hu1 : hp1 K u
    · rw [hu1] at e; cases e
    · rw [hu1] at e
      obtain rfl : kp1 K u = t := by simpa using e
      exact ih b' hb' u hu hu1
theorem ful_kp (l : List (Sx H)) : ∀ t ∈ kp K l, Ful K t := by
  intro t ht
  obtain ⟨u, hu, e⟩ := List.mem_filterMap.1 ht
  cases hu1 : hp1 K u
  · rw [hu1] at e; cases e
  · rw [hu1] at e
    obtain rfl : kp1 K u = t := by simpa using e
    exact ful_kp1 K u hu1
theorem num_kp1 (cst : Nat → Nat) (pst : H → Nat) (s : Sx H) : num1 K cst pst (kp1 K s) ≤ num1 K cst pst s := by
  induction s using Sx.ind with
  | h s ih =>
    rw [kp1_eq]
    by_cases hc : K.c s.h = true
    · rw [if_pos hc, num1_eq, num1_eq K cst pst s, show (Sx.mk s.h (s.br.map (kp K))).h = s.h from rfl, if_pos hc, if_pos hc]
      show cst (s.br.map (kp K)).length + sumL (num K cst pst) (s.br.map (kp K)) ≤ _
      rw [List.length_map]
      have hb : ∀ b ∈ s.br, num K cst pst (kp K b) ≤ num K cst pst b := fun b hb => by
        have hl : ∀ l : List (Sx H), (∀ t ∈ l, num1 K cst pst (kp1 K t) ≤ num1 K cst pst t) → num K cst pst (kp K l) ≤ num K cst pst l := fun l => by
          induction l with
          | nil => intro _; exact Nat.le_refl _
          | cons a l ihl =>
            intro h
            have h1 := ihl fun t ht => h t (List.mem_cons_of_mem _ ht)
            have h2 := h a List.mem_cons_self
            have e2 : num K cst pst (a :: l) = num1 K cst pst a + num K cst pst l := sumL_cons _ _ _
            rw [kp_cons, e2]
            have e3 : num K cst pst ((if hp1 K a then [kp1 K a] else []) ++ kp K l) = num K cst pst (if hp1 K a then [kp1 K a] else []) + num K cst pst (kp K l) := sumL_append _ _ _
            rw [e3]
            have e4 : num K cst pst (if hp1 K a then [kp1 K a] else []) ≤ num1 K cst pst a := by
              split
              · rw [num_one]; exact h2
              · exact Nat.zero_le _
            omega
        exact hl b (ih b hb)
      have e5 : sumL (num K cst pst) (s.br.map (kp K)) = sumL (fun b => num K cst pst (kp K b)) s.br := by
        unfold sumL
        rw [List.map_map]
        rfl
      rw [e5]
      have := sumL_le hb
      omega
    · rw [if_neg hc]
      exact Nat.le_refl _
theorem num_kp (cst : Nat → Nat) (pst : H → Nat) : ∀ l : List (Sx H), num K cst pst (kp K l) ≤ num K cst pst l
  | [] => Nat.le_refl _
  | a :: l => by
    have h1 := num_kp cst pst l
    have h2 := num_kp1 K cst pst a
    have e2 : num K cst pst (a :: l) = num1 K cst pst a + num K cst pst l := sumL_cons _ _ _
    rw [kp_cons, e2]
    have e3 : num K cst pst ((if hp1 K a then [kp1 K a] else []) ++ kp K l) = num K cst pst (if hp1 K a then [kp1 K a] else []) + num K cst pst (kp K l) := sumL_append _ _ _
    rw [e3]
    have e4 : num K cst pst (if hp1 K a then [kp1 K a] else []) ≤ num1 K cst pst a := by
      split
      · rw [num_one]; exact h2
      · exact Nat.zero_le _
    omega
end
def upH (h : Hd) : Nat := if h.k = 1 then 1 else if h.k = 4 then h.ou.length else 0
def asH (t : List UInt8) (h : Hd) : Nat := if h.k = 1 then (if t = h.nm then 1 else 0) else if h.k = 4 then h.ou.countP fun b => decide (b = t) else 0
/-- the plain statements; the writes to the map; those of one name -/
def pl1 (s : Sx Hd) : Nat := num1 HK (fun _ => 0) (fun _ => 1) s
def plL (l : List (Sx Hd)) : Nat := num HK (fun _ => 0) (fun _ => 1) l
def up1 (s : Sx Hd) : Nat := num1 HK (fun _ => 0) upH s
def upL (l : List (Sx Hd)) : Nat := num HK (fun _ => 0) upH l
def as1 (t : List UInt8) (s : Sx Hd) : Nat := num1 HK (fun _ => 0) (asH t) s
def asL (t : List UInt8) (l : List (Sx Hd)) : Nat := num HK (fun _ => 0) (asH t) l
theorem pl_cons (s : Sx Hd) (l : List (Sx Hd)) : plL (s :: l) = pl1 s + plL l := sumL_cons _ _ _
theorem up_cons (s : Sx Hd) (l : List (Sx Hd)) : upL (s :: l) = up1 s + upL l := sumL_cons _ _ _
theorem as_cons (t : List UInt8) (s : Sx Hd) (l : List (Sx Hd)) : asL t (s :: l) = as1 t s + asL t l := sumL_cons _ _ _
theorem pl_app (x y : List (Sx Hd)) : plL (x ++ y) = plL x + plL y := sumL_append _ _ _
theorem up_app (x y : List (Sx Hd)) : upL (x ++ y) = upL x + upL y := sumL_append _ _ _
theorem as_app (t : List UInt8) (x y : List (Sx Hd)) : asL t (x ++ y) = asL t x + asL t y := sumL_append _ _ _
theorem pl_one (s : Sx Hd) : plL [s] = pl1 s := num_one _ _ _ _
theorem up_one (s : Sx Hd) : upL [s] = up1 s := num_one _ _ _ _
theorem as_one (t : List UInt8) (s : Sx Hd) : asL t [s] = as1 t s := num_one _ _ _ _
theorem hp_pl (s : Sx Hd) : hp1 HK s = decide (0 < pl1 s) := any_num HK (hp1 HK) (fun _ => true) (fun _ => 1) (fun s => hp1_eq HK s) (fun _ => by simp) s
theorem asg_as (d : Hd) (s : Sx Hd) : asg1 HK d s = decide (0 < as1 d.nm s) := by
  refine any_num HK (asg1 HK d) (fun h => HK.asg h d) (asH d.nm) (fun s => asg1_eq HK d s) (fun h => ?_) s
  show ((decide (h.k = 1) && decide (h.nm = d.nm)) || (decide (h.k = 4) && decide (d.nm ∈ h.ou))) = _
  unfold asH
  by_cases h1 : h.k = 1
  · rw [if_pos h1, h1]
    by_cases h2 : h.nm = d.nm
    · simp [h2]
    · have h3 : ¬ d.nm = h.nm := fun e => h2 e.symm
      simp [h2, h3]
  · rw [if_neg h1]
    by_cases h4 : h.k = 4
    · rw [if_pos h4, h4]
      rw [Bool.eq_iff_iff]
      simp [List.countP_pos_iff]
    · rw [if_neg h4]
      simp [h1, h4]
theorem pl_case {s : Sx Hd} (hc : HK.c s.h = true) : pl1 s = sumL plL s.br := by
  unfold pl1
  rw [num1_eq, if_pos hc, Nat.zero_add]
  rfl
theorem up_case {s : Sx Hd} (hc : HK.c s.h = true) : up1 s = sumL upL s.br := by
  unfold up1
  rw [num1_eq, if_pos hc, Nat.zero_add]
  rfl
theorem as_case (t : List UInt8) {s : Sx Hd} (hc : HK.c s.h = true) : as1 t s = sumL (asL t) s.br := by
  unfold as1
  rw [num1_eq, if_pos hc, Nat.zero_add]
  rfl
theorem pl_leaf {s : Sx Hd} (hc : ¬ HK.c s.h = true) : pl1 s = 1 := by
  unfold pl1
  rw [num1_eq, if_neg hc]
theorem up_leaf {s : Sx Hd} (hc : ¬ HK.c s.h = true) : up1 s = upH s.h := by
  unfold up1
  rw [num1_eq, if_neg hc]
theorem as_leaf (t : List UInt8) {s : Sx Hd} (hc : ¬ HK.c s.h = true) : as1 t s = asH t s.h := by
  unfold as1
  rw [num1_eq, if_neg hc]
/-- names are no longer than what a machine holds -/
def NmH (h : Hd) : Prop := h.nm.length ≤ maxLen ∧ ∀ n ∈ h.ou, n.length ≤ maxLen
inductive AllN : Sx Hd → Prop
  | mk (s : Sx Hd) (h : NmH s.h) (hb : ∀ b ∈ s.br, ∀ t ∈ b, AllN t) : AllN s
theorem AllN.of {s : Sx Hd} (h : AllN s) : NmH s.h ∧ ∀ b ∈ s.br, ∀ t ∈ b, AllN t := by
  cases h with
  | mk s h hb => exact ⟨h, hb⟩
theorem alln_ah (s : Sx Hd) : AllN s → AH HK NmH AllN s := by
  induction s using Sx.ind with
  | h s ih =>
    intro h
    exact .mk s (fun _ => h.of.1) (fun _ b hb t ht => ih b hb t ht (h.of.2 b hb t ht)) fun _ => h
theorem ah_alln (s : Sx Hd) : AH HK NmH AllN s → AllN s := by
  induction s using Sx.ind with
  | h s ih =>
    intro h
    by_cases hc : HK.c s.h = true
    · exact .mk s (h.of HK hc).1 fun b hb t ht => ih b hb t ht ((h.of HK hc).2 b hb t ht)
    · exact h.leaf HK hc
theorem alln_norm {l : List (Sx Hd)} (h : ∀ t ∈ l, AllN t) : ∀ t ∈ norm HK l, AllN t := fun t ht => ah_alln t (ah_norm HK (fun u hu => alln_ah u (h u hu)) t ht)
end fu
end Go.Proofs.Ytjodffbekipnlaa
/- Parts in memory; a row that grows beside the reader. -/
namespace Go.Proofs.Ytjodffbekipnlaa
set_option linter.unusedVariables false
set_option linter.unusedSimpArgs false
open Go.RowKit Go.Maps Go.WideMaps Go.Sort
namespace fu
/-- a cell with a pointer to a part; one with a list of parts -/
def PtC (w : World) (a : Addr) (t : Pt) : Prop := w.cell? a = some (.pointer (some ⟨t.p, 0, none⟩))
def APC (w : World) (a : Addr) (r : Rw Pt) : Prop := w.cell? a = some (.slice r.A r.l.length r.c)
theorem oneB_Pt : OneB PtC := fun _ _ _ _ h k => (k _ rfl).trans h
theorem oneB_AP : OneB APC := fun _ _ _ _ h k => (k _ rfl).trans h
theorem PC.keep {w W : World} {t : Pt} (h : PC w t) (k : ∀ q : Addr, q.block = t.p → W.cell? q = w.cell? q) : PC W t := by
  obtain ⟨h1, h2, h3⟩ := h
  refine ⟨?_, (k _ rfl).trans h2, (k _ rfl).trans h3⟩
  have k' : ∀ i, W.cell? ⟨t.p, i, none⟩ = w.cell? ⟨t.p, i, none⟩ := fun i => k _ rfl
  unfold BoxZ at h1 ⊢
  rw [k' 0, k' 1, k' 2, k' 3, k' 4, k' 5, k' 6, k' 7, k' 8, k' 9, k' 10, k' 11]
  exact h1
/-- a part; all of it lies in blocks of Q -/
inductive RpP (w : World) (Q : Nat → Prop) : Pt → Prop
  | mk (t : Pt) (h0 : Q t.p) (h1 : PC w t) (h2 : RzP w Q t.s) (h3 : RdQ w Q 1 APC t.br) (h4 : ∀ a ∈ t.br.l, RdQ w Q 1 PtC a) (h5 : ∀ a ∈ t.br.l, ∀ u ∈ a.l, RpP w Q u) (h6 : (t.s.k = 3 → t.s.br = ⟨none, 0, []⟩ ∧ t.asg = asg1 HK t.ct.h t.ct) ∧ (¬ t.s.k = 3 → t.br.l = [])) : RpP w Q t
theorem RpP.of {w : World} {Q : Nat → Prop} {t : Pt} (h : RpP w Q t) : Q t.p ∧ PC w t ∧ RzP w Q t.s ∧ RdQ w Q 1 APC t.br ∧ (∀ a ∈ t.br.l, RdQ w Q 1 PtC a) ∧ (∀ a ∈ t.br.l, ∀ u ∈ a.l, RpP w Q u) ∧ (t.s.k = 3 → t.s.br = ⟨none, 0, []⟩ ∧ t.asg = asg1 HK t.ct.h t.ct) ∧ (¬ t.s.k = 3 → t.br.l = []) := by
  cases h with
  | mk t h0 h1 h2 h3 h4 h5 h6 => exact ⟨h0, h1, h2, h3, h4, h5, h6⟩
theorem RpP.keep {w W : World} {Q Q' : Nat → Prop} {t : Pt} (h : RpP w Q t) (hQ : ∀ b, Q b → Q' b) (hk : ∀ p : Addr, Q p.block → W.cell? p = w.cell? p) : RpP W Q' t := by
  induction h with
  | mk t h0 h1 h2 h3 h4 h5 h6 ih => exact .mk t (hQ _ h0) (h1.keep fun q hq => hk q (by rw [hq]; exact h0)) (h2.keep hQ hk) ((h3.keep oneB_AP hk).mono hQ) (fun a ha => ((h4 a ha).keep oneB_Pt hk).mono hQ) ih h6
theorem MC.grown {W W' : World} {m n : Nat} {f : List UInt8 → Nat} {row : Option Nat} (h : MC W m n f) (hg : W.grownBy W' row) (hr : row ≠ some m) : MC W' m n f := by
  obtain ⟨D, h1, h2, h3⟩ := h
  exact ⟨D, h1, h2, h3.kept hg (fun e => hr e.symm)⟩
theorem RS.grown {W W' : World} {p m n pl : Nat} {f : List UInt8 → Nat} {row : Option Nat} (h : RS W p m n pl f) (hg : W.grownBy W' row) (h1 : row ≠ some p) (h2 : row ≠ some m) : RS W' p m n pl f := by
  have hp := World.block_lt_of_cell? W _ h.c0
  have hb := hg.block p hp (fun e => h1 e.symm)
  exact ⟨(World.cell?_of_block (a := ⟨p, 0, none⟩) hb).trans h.c0, (World.cell?_of_block (a := ⟨p, 1, none⟩) hb).trans h.c1, (World.frozen?_of_block (a := ⟨p, 0, none⟩) hb).trans h.f0, h.mc.grown hg h2, h.ne⟩
theorem K2.ownZ {p m base n z : Nat} {W W' : World} (h : K2 p m W W') {T : TypeId} {v : Value} {xs : List Value} (ho : W.ownsRow base T z v n xs) (h1 : p < base) (h2 : m < base) : W'.ownsRow base T z v n xs := h.own ho (fun e => by have := (ho.lt p e).1; omega) (fun e => by have := (ho.lt m e).1; omega)
/-- one append onto a row of one's own, while a call changes the reader -/
theorem oth_step2 {p m B n z : Nat} {W w5 w3 : World} {o : Obj} {v v' : Value} {T : TypeId} {xs : List Value} (hB : B ≤ W.heap.size) (hp : p < B) (hm : m < B) (hown : W.ownsRow B T z v n xs) (hb : K2 p m W w5) (hg : (w5.alloc o).grownBy w3 v.ownBlock) (hd : v'.ownBlock = v.ownBlock ∨ v'.ownBlock = some (w5.alloc o).heap.size) :
    (∀ b, Oth B W v b → Oth B w3 v' b) ∧ (∀ q : Addr, Oth B W v q.block → w3.cell? q = W.cell? q) ∧ (∀ b, W.heap.size ≤ b ∧ b < w5.heap.size → Oth B w3 v' b) ∧ (∀ q : Addr, W.heap.size ≤ q.block ∧ q.block < w5.heap.size → w3.cell? q = w5.cell? q) ∧ (∀ w0 : World, w0.heap.size ≤ B → K2 p m w0 W → K2 p m w0 w3) := by
  have h1 := hb.size
  have h2 := hg.size
  rw [World.size_alloc] at h2
  have hlt := hown.lt
  have hw5 : Below w5.heap.size w5 (w5.alloc o) := bel_box o
  refine ⟨fun b ⟨q1, q2, q3⟩ => ⟨q1, by omega, fun e => ?_⟩, fun q ⟨q1, q2, q3⟩ => ?_, fun b ⟨q1, q2⟩ => ⟨by omega, by omega, fun e => ?_⟩, fun q ⟨q1, q2⟩ => ?_, fun w0 h0 hk => ⟨?_, ?_, ?_, ?_, fun k hk1 hk2 hk3 => ?_⟩⟩
  · rcases hd with hd | hd
    · exact q3 (hd.symm.trans e)
    · have := Option.some.inj (hd.symm.trans e)
      rw [World.size_alloc] at this
      omega
  · refine (World.cell?_of_block (hg.block q.block (by rw [World.size_alloc]; omega) (fun e => q3 e.symm))).trans ?_
    exact (hw5.cell (p := q) (by omega)).trans (hb.cell q2 (by omega) (by omega))
  · rcases hd with hd | hd
    · have := hlt b (hd.symm.trans e)
      omega
    · have := Option.some.inj (hd.symm.trans e)
      rw [World.size_alloc] at this
      omega
  · refine (World.cell?_of_block (hg.block q.block (by rw [World.size_alloc]; omega) (fun e => ?_))).trans (hw5.cell (p := q) q2)
    have := hlt q.block e.symm
    omega
  · exact hg.os.trans (hw5.os.trans (hb.os.trans hk.os))
  · exact hg.tape.trans (hw5.tape.trans (hb.tape.trans hk.tape))
  · exact hg.output.trans (hw5.output.trans (hb.output.trans hk.output))
  · have := hk.size; omega
  · have hks := hk.size
    have e1 := hg.block k (by rw [World.size_alloc]; omega) (fun e => by have := hlt k e.symm; omega)
    exact e1.trans ((hw5.block k (by omega)).trans ((hb.block k (by omega) hk2 hk3).trans (hk.block k hk1 hk2 hk3)))
theorem RS.step {p m B n z k pl : Nat} {W w5 w3 : World} {o : Obj} {v : Value} {T : TypeId} {xs : List Value} {f : List UInt8 → Nat} (h : RS w5 p m k pl f) (hp : p < B) (hm : m < B) (hown : W.ownsRow B T z v n xs) (hg : (w5.alloc o).grownBy w3 v.ownBlock) : RS w3 p m k pl f :=
  (h.below (bel_box o)).grown hg (fun e => by have := (hown.lt p e).1; omega) (fun e => by have := (hown.lt m e).1; omega)
def pC (l : List Pt) : List Value := l.map fun t => Value.pointer (some ⟨t.p, 0, none⟩)
theorem pC_length (l : List Pt) : (pC l).length = l.length := by simp [pC]
def apC (l : List (Rw Pt)) : List Value := l.map fun a => Value.slice a.A a.l.length a.c
/-- an owned row of one-cell elements can be read -/
theorem own_rd1 {α : Type} {C : World → Addr → α → Prop} (cv : α → Value) (hC : ∀ (w : World) (a : Addr) (y : α), w.cell? a = some (cv y) → C w a y) {w : World} {base : Nat} {e : TypeId} {A : Option Addr} {c : Nat} {l : List α} (h : w.ownsRow base e 1 (.slice A l.length c) l.length (l.map cv)) (hl : l.length ≤ maxLen) : RdQ w (fun b => base ≤ b ∧ b < w.heap.size ∧ (Value.slice A l.length c).ownBlock = some b) 1 C ⟨A, c, l⟩ := by
  rcases h.2 with ⟨h1, h2⟩ | ⟨g, cap, cur, h1, h2, h3, h4, h5, h6, h7⟩
  · have : l = [] := List.length_eq_zero_iff.1 h2
    subst this
    exact ⟨fun h => absurd rfl h, fun ad i y _ hy => by simp at hy, Nat.zero_le _, Nat.zero_le _⟩
  · have hA : A = some ⟨g, 0, none⟩ := by injection h1
    have hc : c = cap := by injection h1
    subst hA
    subst hc
    refine ⟨fun _ => ⟨_, rfl, h2, (Array.getElem?_eq_some_iff.1 h3).1, by rfl⟩, fun ad i y e hy => ?_, hl, by omega⟩
    obtain rfl := Option.some.inj e
    refine hC _ _ _ ?_
    rw [Nat.mul_one, (add_addZ g i 0).2.2, cell_of_row w g i cur _ (0, 0) h3]
    have hj : (l.map cv)[i]? = some (cv y) := by simp [hy]
    rw [← h7, List.getElem?_take] at hj
    split at hj
    · rw [← Array.getElem?_toList]; exact hj
    · cases hj
theorem own_rdp {w : World} {base : Nat} {e : TypeId} {A : Option Addr} {c : Nat} {l : List Pt} (h : w.ownsRow base e 1 (.slice A l.length c) l.length (pC l)) (hl : l.length ≤ maxLen) : RdQ w (fun b => base ≤ b ∧ b < w.heap.size ∧ (Value.slice A l.length c).ownBlock = some b) 1 PtC ⟨A, c, l⟩ := own_rd1 _ (fun _ _ _ h => h) h hl
theorem own_rdap {w : World} {base : Nat} {e : TypeId} {A : Option Addr} {c : Nat} {l : List (Rw Pt)} (h : w.ownsRow base e 1 (.slice A l.length c) l.length (apC l)) (hl : l.length ≤ maxLen) : RdQ w (fun b => base ≤ b ∧ b < w.heap.size ∧ (Value.slice A l.length c).ownBlock = some b) 1 APC ⟨A, c, l⟩ := own_rd1 _ (fun _ _ _ h => h) h hl
/-- a new part -/
def NewPt (z : Zt) (w : World) (p m n pl : Nat) (f : List UInt8 → Nat) (e : Ending) (w' : World) : Prop := ∃ t : Pt, e = .returned (.pointer (some ⟨t.p, 0, none⟩)) ∧ t.ct = kp1 HK z.ct ∧ RpP w' (fun b => w.heap.size ≤ b ∧ b < w'.heap.size) t ∧ RS w' p m (n + up1 z.ct) (pl + pl1 z.ct) (fun u => f u + as1 u z.ct) ∧ K2 p m w w'
/-- new parts in a new list -/
def NewPl (cs : List (Sx Hd)) (w : World) (p m n pl : Nat) (f : List UInt8 → Nat) (e : Ending) (w' : World) : Prop := ∃ r : Rw Pt, e = .returned (.slice r.A r.l.length r.c) ∧ pcs r.l = kp HK cs ∧ RdQ w' (fun b => w.heap.size ≤ b ∧ b < w'.heap.size) 1 PtC r ∧ (∀ t ∈ r.l, RpP w' (fun b => w.heap.size ≤ b ∧ b < w'.heap.size) t) ∧ RS w' p m (n + upL cs) (pl + plL cs) (fun u => f u + asL u cs) ∧ K2 p m w w'
end fu
end Go.Proofs.Ytjodffbekipnlaa
/- append of a row that is read onto a row of one's own; rows cut; make and copy of pointers. -/
namespace Go.Proofs.Ytjodffbekipnlaa
set_option linter.unusedVariables false
set_option linter.unusedSimpArgs false
open Go.RowKit Go.Sort
namespace fu
section
variable {P : Program} (w : World)
theorem run_append_nothingZ (base : Nat) (t ty e : TypeId) (i : TypeInfo) (size : Nat) (ht : P.underlying t = some (.slice e)) (hi : P.info? e = some i)
    (v : Value) (n : Nat) (xs : List Value) (hown : w.ownsRow base e size v n xs) (c : Nat) : (Builtin.append_ #[t, t] ty #[v, .slice none 0 c]).run P w = .ok v w := by
  rcases hown.2 with ⟨rfl, rfl⟩ | ⟨g, cap, cur, rfl, _, _, hnc, _⟩
  · simp [Builtin.append_, run_underlying ht, sizeOf, typeInfo, hi, Builtin.lenOf, Builtin.firstCells]
  · simp [Builtin.append_, run_underlying ht, sizeOf, typeInfo, hi, Builtin.lenOf, Builtin.firstCells, hnc, storeCells]
/-- the cells of a row that is read -/
def RdV (A : Option Addr) (news : List Value) : Prop := news ≠ [] → ∃ ad, A = some ad ∧ ∀ j u, news[j]? = some u → w.cell? (ad.add j) = some u
theorem run_append_rdZ (base : Nat) (t ty e : TypeId) (i : TypeInfo) (z : Value) (size bytes : Nat) (ht : P.underlying t = some (.slice e)) (hi : P.info? e = some i) (hz : i.zero = some z)
    (hsize : i.size = size) (hby : i.bytes = bytes) (hzs : z.cells.size = size) (hsz : 0 < size)
    (v : Value) (n : Nat) (xs : List Value) (hown : w.ownsRow base e size v n xs)
    (A : Option Addr) (m c : Nat) (news : List Value) (hm : news.length = m * size) (hr : RdV w A news) (h1 : ∀ u ∈ news, u.oneCell' = true)
    (h63 : n + m ≤ maxLen) (hbytes : (n + m) * bytes ≤ 140737488355328) (hbase : base ≤ w.heap.size) :
    ∃ v' w', (Builtin.append_ #[t, t] ty #[v, .slice A m c]).run P w = .ok v' w' ∧ w'.ownsRow base e size v' (n + m) (xs ++ news) ∧ w.grownBy w' v.ownBlock ∧
      (v'.ownBlock = v.ownBlock ∨ v'.ownBlock = some w.heap.size) := by
  rcases A with _ | ad
  · have hn : news = [] := by
      rcases Classical.em (news = []) with h | h
      · exact h
      · obtain ⟨ad, h, _⟩ := hr h
        cases h
    subst hn
    have hm0 : m = 0 := by
      have h0 : m * size = 0 := hm.symm
      rcases Nat.mul_eq_zero.1 h0 with h | h
      · exact h
      · omega
    subst hm0
    exact ⟨v, w, run_append_nothingZ w base t ty e i size ht hi v n xs hown c, by simpa using hown, World.grownBy.refl w _, .inl rfl⟩
  · have hcells : ∀ j u, news[j]? = some u → w.cell? (ad.add j) = some u := by
      intro j u hu
      obtain ⟨ad', h, hc⟩ := hr (by rintro rfl; simp at hu)
      injection h with h
      subst h
      exact hc j u hu
    obtain ⟨v', w', hrun, h2, h3, _, h5⟩ := run_append_own_at (P := P) w base t ty e i z size bytes ht hi hz hsize hby hzs hsz v n xs hown ad m c news hm hcells h1 h63 hbytes hbase
    exact ⟨v', w', hrun, h2, h3, h5⟩
theorem wp_append_rdZ {o : Oper} {a : Act} {K : Act → World → Prop} {Q : Exit → Act → World → Prop} (s x : Operand) (t : TypeId)
    (ho : o.op = .call { callee := .builtin .append, args := #[s, x], argTypes := #[t, t] })
    (base : Nat) (e : TypeId) (i : TypeInfo) (z : Value) (size bytes : Nat) (ht : P.underlying t = some (.slice e)) (hi : P.info? e = some i) (hz : i.zero = some z)
    (hsize : i.size = size) (hby : i.bytes = bytes) (hzs : z.cells.size = size) (hsz : 0 < size)
    (v : Value) (n : Nat) (xs : List Value) (hs : a.eval s = v) (hown : w.ownsRow base e size v n xs)
    (A : Option Addr) (m c : Nat) (news : List Value) (hx : a.eval x = .slice A m c) (hm : news.length = m * size) (hr : RdV w A news) (h1 : ∀ u ∈ news, u.oneCell' = true)
    (h63 : n + m ≤ maxLen) (hbytes : (n + m) * bytes ≤ 140737488355328) (hbase : base ≤ w.heap.size)
    (h : ∀ v' w', w'.ownsRow base e size v' (n + m) (xs ++ news) → w.grownBy w' v.ownBlock → (v'.ownBlock = v.ownBlock ∨ v'.ownBlock = some w.heap.size) → K (a.put o.dst v') w') : o.wp P a w K Q := by
  obtain ⟨v', w', hrun, h2, h3, h4⟩ := run_append_rdZ (P := P) w base t o.type e i z size bytes ht hi hz hsize hby hzs hsz v n xs hown A m c news hm hr h1 h63 hbytes hbase
  unfold Oper.wp execOp
  simp only [ho, resolve, invoke, builtin, Sem.run_bind, Sem.run_pure, Result.andThen_ok, List.map_toArray, List.map_cons, List.map_nil, hs, hx, hrun]
  exact h v' w' h2 h3 h4
theorem wpList_append_rdZ {ops : Array Oper} {rest : List Oper} {o : Oper} {a : Act} {Q : Exit → Act → World → Prop} (hgd : o.guard = none) (s x : Operand) (t : TypeId)
    (ho : o.op = .call { callee := .builtin .append, args := #[s, x], argTypes := #[t, t] })
    (base : Nat) (e : TypeId) (i : TypeInfo) (z : Value) (size bytes : Nat) (ht : P.underlying t = some (.slice e)) (hi : P.info? e = some i) (hz : i.zero = some z)
    (hsize : i.size = size) (hby : i.bytes = bytes) (hzs : z.cells.size = size) (hsz : 0 < size)
    (v : Value) (n : Nat) (xs : List Value) (hs : a.eval s = v) (hown : w.ownsRow base e size v n xs)
    (A : Option Addr) (m c : Nat) (news : List Value) (hx : a.eval x = .slice A m c) (hm : news.length = m * size) (hr : RdV w A news) (h1 : ∀ u ∈ news, u.oneCell' = true)
    (h63 : n + m ≤ maxLen) (hbytes : (n + m) * bytes ≤ 140737488355328) (hbase : base ≤ w.heap.size)
    (h : ∀ v' w', w'.ownsRow base e size v' (n + m) (xs ++ news) → w.grownBy w' v.ownBlock → (v'.ownBlock = v.ownBlock ∨ v'.ownBlock = some w.heap.size) → wpList P ops Q rest (a.put o.dst v') w') : wpList P ops Q (o :: rest) a w :=
  wpList_plain hgd fun _ hK => wp_append_rdZ w s x t ho base e i z size bytes ht hi hz hsize hby hzs hsz v n xs hs hown A m c news hx hm hr h1 h63 hbytes hbase fun v' w' h2 h3 h4 => hK _ _ (h v' w' h2 h3 h4)
theorem step_append_rdZ {ops : Array Oper} {o : Oper} {a : Act} {K : Act → World → Prop} {Q : Exit → Act → World → Prop} {E : Prop} (hgd : o.guard = none) (s x : Operand) (t : TypeId)
    (ho : o.op = .call { callee := .builtin .append, args := #[s, x], argTypes := #[t, t] })
    (base : Nat) (e : TypeId) (i : TypeInfo) (z : Value) (size bytes : Nat) (ht : P.underlying t = some (.slice e)) (hi : P.info? e = some i) (hz : i.zero = some z)
    (hsize : i.size = size) (hby : i.bytes = bytes) (hzs : z.cells.size = size) (hsz : 0 < size)
    (v : Value) (n : Nat) (xs : List Value) (hs : a.eval s = v) (hown : w.ownsRow base e size v n xs)
    (A : Option Addr) (m c : Nat) (news : List Value) (hx : a.eval x = .slice A m c) (hm : news.length = m * size) (hr : RdV w A news) (h1 : ∀ u ∈ news, u.oneCell' = true)
    (h63 : n + m ≤ maxLen) (hbytes : (n + m) * bytes ≤ 140737488355328) (hbase : base ≤ w.heap.size)
    (h : ∀ v' w', w'.ownsRow base e size v' (n + m) (xs ++ news) → w.grownBy w' v.ownBlock → (v'.ownBlock = v.ownBlock ∨ v'.ownBlock = some w.heap.size) → K (a.put o.dst v') w') :
    if Region.wanted o (yielded ops a.tmps) = true then Oper.wp P o a w K Q else E := by
  have hw : Region.wanted o (yielded ops a.tmps) = true := by simp [Region.wanted, hgd]
  rw [if_pos hw]
  exact wp_append_rdZ w s x t ho base e i z size bytes ht hi hz hsize hby hzs hsz v n xs hs hown A m c news hx hm hr h1 h63 hbytes hbase h
end
theorem zc_at {w : World} {a : Addr} {z : Zt} (h : ZC w a z) : ∀ q u, q < 12 → (zCs z)[q]? = some u → w.cell? (a.add q) = some u := by
  intro q u hm hu2
  obtain ⟨k0, k1, k2, k3, k4, k5, k6, k7, k8, k9, k10, k11⟩ := h
  rcases q with _ | _ | _ | _ | _ | _ | _ | _ | _ | _ | _ | _ | q
  all_goals first | omega | skip
  all_goals (simp only [zCs, List.getElem?_cons_zero, List.getElem?_cons_succ, Option.some.injEq] at hu2; subst hu2)
  · rw [add_zero']; exact k0
  all_goals first | exact k1 | exact k2 | exact k3 | exact k4 | exact k5 | exact k6 | exact k7 | exact k8 | exact k9 | exact k10 | exact k11
theorem zs_rdv {w : World} {Q : Nat → Prop} {r : Rw Zt} (h : RdQ w Q 12 ZC r) : RdV w r.A (zsC r.l) := fun hn => by
  obtain ⟨A, c, l⟩ := r
  simp only at hn h ⊢
  obtain ⟨ad, e, hb⟩ := h.1 (by rintro rfl; exact hn rfl)
  refine ⟨ad, e, fun j u hu => ?_⟩
  have hj : j < l.length * 12 := by
    have := (List.getElem?_eq_some_iff.1 hu).1
    rwa [zsC_length] at this
  have hy : l[j / 12]? = some l[j / 12] := List.getElem?_eq_getElem (by omega)
  have hm : j % 12 < 12 := Nat.mod_lt _ (by decide)
  have hu2 := zsC_get l (j / 12) _ hy (j % 12) hm
  rw [show j / 12 * 12 + j % 12 = j by omega, hu] at hu2
  have hc := h.2.1 ad (j / 12) _ e hy
  have e1 : ad.add j = (ad.add (j / 12 * 12)).add (j % 12) := by rw [add_add', show j / 12 * 12 + j % 12 = j by omega]
  rw [e1]
  exact zc_at hc _ _ hm hu2.symm
theorem one_rdv {α : Type} {C : World → Addr → α → Prop} (cv : α → Value) (hC : ∀ (w : World) (a : Addr) (y : α), C w a y → w.cell? a = some (cv y)) {w : World} {Q : Nat → Prop} {r : Rw α} (h : RdQ w Q 1 C r) : RdV w r.A (r.l.map cv) := fun hn => by
  obtain ⟨A, c, l⟩ := r
  simp only at hn h ⊢
  obtain ⟨ad, e, hb⟩ := h.1 (by rintro rfl; exact hn rfl)
  refine ⟨ad, e, fun j u hu => ?_⟩
  rw [List.getElem?_map, Option.map_eq_some_iff] at hu
  obtain ⟨y, hy, rfl⟩ := hu
  have := hC _ _ _ (h.2.1 ad j y e hy)
  rwa [Nat.mul_one] at this
theorem pt_rdv {w : World} {Q : Nat → Prop} {r : Rw Pt} (h : RdQ w Q 1 PtC r) : RdV w r.A (pC r.l) := one_rdv _ (fun _ _ _ h => h) h
theorem pC_one (l : List Pt) : ∀ u ∈ pC l, u.oneCell' = true := by
  intro u hu
  simp only [pC, List.mem_map] at hu
  obtain ⟨b, _, rfl⟩ := hu
  rfl
/-- the first elements of a row, and the later ones -/
theorem RdQ.take {w : World} {Q : Nat → Prop} {A : Option Addr} {c : Nat} {l : List Pt} (h : RdQ w Q 1 PtC ⟨A, c, l⟩) (n : Nat) : RdQ w Q 1 PtC ⟨A, c, l.take n⟩ := by
  obtain ⟨h1, h2, h3, h4⟩ := h
  refine ⟨fun hn => h1 (by rintro rfl; exact hn (by simp)), fun ad i y ha hy => h2 ad i y ha ?_, ?_, ?_⟩
  · rw [List.getElem?_take] at hy
    split at hy
    · exact hy
    · cases hy
  · show (l.take n).length ≤ _
    rw [List.length_take]
    have : l.length ≤ maxLen := h3
    omega
  · show (l.take n).length ≤ _
    rw [List.length_take]
    have : l.length ≤ c := h4
    show min n l.length ≤ c
    omega
theorem RdQ.drop {w : World} {Q : Nat → Prop} {ad : Addr} {c : Nat} {l : List Pt} (h : RdQ w Q 1 PtC ⟨some ad, c, l⟩) (n : Nat) : RdQ w Q 1 PtC ⟨some (ad.add n), c - n, l.drop n⟩ := by
  obtain ⟨h1, h2, h3, h4⟩ := h
  refine ⟨fun hn => ?_, fun a i y ha hy => ?_, ?_, ?_⟩
  · obtain ⟨a, e, hQ⟩ := h1 (by rintro rfl; exact hn (by simp))
    obtain rfl := Option.some.inj e
    exact ⟨_, rfl, by rw [add_block]; exact hQ⟩
  · obtain rfl := Option.some.inj ha
    rw [add_add', show n + i * 1 = (n + i) * 1 by omega]
    exact h2 ad (n + i) y rfl (by rw [← List.getElem?_drop]; exact hy)
  · show (l.drop n).length ≤ _
    rw [List.length_drop]
    have : l.length ≤ maxLen := h3
    omega
  · show (l.drop n).length ≤ _
    rw [List.length_drop]
    have : l.length ≤ c := h4
    show l.length - n ≤ c - n
    omega
theorem RdQ.none_ {w : World} {Q : Nat → Prop} {A : Option Addr} {c : Nat} : RdQ w Q 1 PtC ⟨A, c, []⟩ := ⟨fun h => absurd rfl h, fun ad i y _ hy => by simp at hy, Nat.zero_le _, Nat.zero_le _⟩
theorem make_pts (n : Nat) (hn : n ≤ 1000000) (w : World) : (Instr.makeSlice 47 (.int .i64 (n : Int)) (.int .i64 (n : Int))).run Try.prog w = .ok (.slice (some ⟨w.heap.size, 0, none⟩) n n) (w.alloc (.cells (madeCells #[.pointer none] n) 52)) := by
  obtain ⟨i0, hi, iz, is, ib⟩ := info_parts ptInfo
  exact run_make_row (P := Try.prog) 47 52 i0 (.pointer none) Try.underlying47 hi iz is rfl .i64 .i64 n (by rw [ib]; omega) (by omega) w
end fu
end Go.Proofs.Ytjodffbekipnlaa
/- Turns of joined: plain. -/
namespace Go.Proofs.Ytjodffbekipnlaa
set_option linter.unusedVariables false
set_option linter.unusedSimpArgs false
open Go.RowKit Go.Sort
namespace fu
section
variable {H : Type} (K : Hk H)
def Chn (cs : List (Sx H)) (n : Nat) : Prop := ∀ i x y, i + 1 < n → cs[i]? = some x → cs[i + 1]? = some y → mate K x y = true
theorem run_chn : ∀ (t : List (Sx H)) (a : Sx H) (j : Nat), Chn K (a :: t) (j + 1) → run K a (t.take j)
  | _, _, 0, _ => trivial
  | [], _, _ + 1, _ => trivial
  | b :: t, a, j + 1, h => ⟨h 0 a b (by omega) rfl rfl, run_chn t b j fun i x y hi hx hy => h (i + 1) x y (by omega) (by simpa using hx) (by simpa using hy)⟩
theorem lst_at : ∀ (t : List (Sx H)) (a x : Sx H) (j : Nat), (a :: t)[j]? = some x → lst a (t.take j) = x
  | _, a, x, 0, h => by
    have : a = x := by simpa using h
    exact this
  | [], _, _, j + 1, h => by simp at h
  | b :: t, a, x, j + 1, h => by
    show lst b (t.take j) = x
    exact lst_at t b x j (by simpa using h)
theorem chn_one (cs : List (Sx H)) : Chn K cs 1 := fun i x y hi => by omega
theorem chn_step {cs : List (Sx H)} {n : Nat} (h : Chn K cs n) {x y : Sx H} (hx : cs[n - 1]? = some x) (hy : cs[n]? = some y) (hm : mate K x y = true) : Chn K cs (n + 1) := fun i u v hi hu hv => by
  by_cases e : i + 1 < n
  · exact h i u v e hu hv
  · have e1 : i + 1 = n := by omega
    have e2 : i = n - 1 := by omega
    rw [e1, hy] at hv
    rw [e2, hx] at hu
    obtain rfl := Option.some.inj hu
    obtain rfl := Option.some.inj hv
    exact hm
theorem turn {cs : List (Sx H)} {n : Nat} (h1 : 1 ≤ n) (hn : n ≤ cs.length) (hc : Chn K cs n) (hf : ∀ t ∈ cs, hp1 K t = true) (hs : n = cs.length ∨ ∃ x y, cs[n - 1]? = some x ∧ cs[n]? = some y ∧ mate K x y = false) : ∃ a q, cs.take n = a :: q ∧ run K a q ∧ norm K cs = cmb K a q :: norm K (cs.drop n) := by
  obtain ⟨j, rfl⟩ : ∃ j, n = j + 1 := ⟨n - 1, by omega⟩
  cases cs with
  | nil => simp at hn
  | cons a t =>
    have hr := run_chn K t a j hc
    refine ⟨a, t.take j, rfl, hr, ?_⟩
    have e : a :: t = a :: t.take j ++ t.drop j := by rw [List.cons_append, List.take_append_drop]
    have hd : (a :: t).drop (j + 1) = t.drop j := rfl
    rw [hd]
    have hfa : ∀ u ∈ a :: t.take j, hp1 K u = true := fun u hu => hf u (by
      rcases List.mem_cons.1 hu with rfl | hu
      · exact List.mem_cons_self
      · exact List.mem_cons_of_mem _ (List.mem_of_mem_take hu))
    rcases hs with hs | ⟨x, y, hx, hy, hm⟩
    · have ht : t.drop j = [] := List.drop_eq_nil_iff.2 (by rw [List.length_cons] at hs; omega)
      rw [ht]
      conv => lhs; rw [e, ht, List.append_nil]
      rw [run_norm K _ _ hfa hr]
      rfl
    · have hy' : t[j]? = some y := by simpa using hy
      have hj : j < t.length := (List.getElem?_eq_some_iff.1 hy').1
      have ht : t.drop j = y :: t.drop (j + 1) := by
        rw [List.drop_eq_getElem_cons hj]
        congr 1
        exact (List.getElem?_eq_some_iff.1 hy').2
      conv => lhs; rw [e, ht]
      rw [ht]
      refine run_rest K hfa hr (hf y (List.mem_cons_of_mem _ (List.mem_of_getElem? hy'))) ?_
      rw [lst_at t a x j (by simpa using hx)]
      exact hm
end
/-- blocks of the parts, and the new ones but the row itself -/
def Oq (B H0 N : Nat) (W : World) (v : Value) (b : Nat) : Prop := (B ≤ b ∧ b < H0) ∨ (N ≤ b ∧ b < W.heap.size ∧ v.ownBlock ≠ some b)
theorem oq_step {B H0 N n z : Nat} {W w5 w3 : World} {o : Obj} {v v' : Value} {T : TypeId} {xs : List Value} (hH : H0 ≤ N) (hN : N ≤ W.heap.size) (hown : W.ownsRow N T z v n xs) (hb : Below W.heap.size W w5) (hg : (w5.alloc o).grownBy w3 v.ownBlock) (hd : v'.ownBlock = v.ownBlock ∨ v'.ownBlock = some (w5.alloc o).heap.size) :
    (∀ b, Oq B H0 N W v b → Oq B H0 N w3 v' b) ∧ (∀ p : Addr, Oq B H0 N W v p.block → w3.cell? p = W.cell? p) ∧ (∀ b, (B ≤ b ∧ b < H0) ∨ (W.heap.size ≤ b ∧ b < w5.heap.size) → Oq B H0 N w3 v' b) ∧ (∀ p : Addr, (B ≤ p.block ∧ p.block < H0) ∨ (W.heap.size ≤ p.block ∧ p.block < w5.heap.size) → w3.cell? p = w5.cell? p) ∧ Below N W w3 := by
  obtain ⟨s1, s2, s3, s4, s5⟩ := oth_step hN hown hb hg hd
  refine ⟨fun b h => ?_, fun p h => ?_, fun b h => ?_, fun p h => ?_, s5⟩
  · rcases h with h | h
    · exact .inl h
    · exact .inr (s1 b h)
  · rcases h with h | h
    · exact s5.cell (by omega)
    · exact s2 p h
  · rcases h with h | h
    · exact .inl h
    · have := s3 b h
      exact .inr this
  · rcases h with h | h
    · exact (s5.cell (p := p) (by omega)).trans (hb.cell (p := p) (by omega)).symm
    · exact s4 p h
/-- a new joined list -/
def NewJ (B H0 : Nat) (cs : List (Sx Hd)) (w : World) (e : Ending) (w' : World) : Prop := ∃ (A : Option Addr) (c : Nat) (L : List Zt), e = .returned (.slice A L.length c) ∧ cts L = cs ∧ w'.ownsRow w.heap.size 38 12 (.slice A L.length c) L.length (zsC L) ∧ (∀ y ∈ L, RzP w' (Oq B H0 w.heap.size w' (.slice A L.length c)) y) ∧ Below w.heap.size w w'
/-- a statement in the place of a run -/
def NewC (B H0 : Nat) (c : Sx Hd) (w : World) (e : Ending) (w' : World) : Prop := ∃ s : Zt, e = .returned (zV s) ∧ s.ct = c ∧ RzP w' (fun b => (B ≤ b ∧ b < H0) ∨ (w.heap.size ≤ b ∧ b < w'.heap.size)) s ∧ Below w.heap.size w w'
def lenV : Value → Nat
  | .slice _ n _ => n
  | _ => 0
theorem pcs_take (l : List Pt) (n : Nat) : pcs (l.take n) = (pcs l).take n := by simp [pcs]
theorem pcs_drop (l : List Pt) (n : Nat) : pcs (l.drop n) = (pcs l).drop n := by simp [pcs]
theorem pcs_get {l : List Pt} {i : Nat} {t : Pt} (h : l[i]? = some t) : (pcs l)[i]? = some t.ct := by simp [pcs, h]
theorem pcs_len (l : List Pt) : (pcs l).length = l.length := by simp [pcs]
theorem wgt_cut (cs : List (Sx Hd)) (n : Nat) : wgt (cs.take n) + wgt (cs.drop n) = wgt cs := by
  have h : wgt (cs.take n ++ cs.drop n) = wgt (cs.take n) + wgt (cs.drop n) := sumL_append _ _ _
  rw [List.take_append_drop] at h
  exact h.symm
/-- what a turn of joined has -/
structure Tn (l rs : List Pt) (n : Nat) (a : Sx Hd) (q : List (Sx Hd)) : Prop where
  tk : pcs (rs.take n) = a :: q
  rn : run HK a q
  nm : norm HK (pcs rs) = cmb HK a q :: norm HK (pcs (rs.drop n))
  ln : (rs.take n).length = n
  mm : ∀ t ∈ rs.take n, t ∈ l
  wl : wgt (pcs (rs.take n)) ≤ wgt (pcs l)
theorem tn_of {l rs : List Pt} {j n : Nat} (hD : rs = l.drop j) (h1 : 1 ≤ n) (hn : n ≤ rs.length) (hc : Chn HK (pcs rs) n) (hF : ∀ t ∈ l, Ful HK t.ct) (hs : n = rs.length ∨ ∃ x y : Pt, rs[n - 1]? = some x ∧ rs[n]? = some y ∧ mate HK x.ct y.ct = false) : ∃ a q, Tn l rs n a q := by
  have hm : ∀ t ∈ rs, t ∈ l := fun t ht => by rw [hD] at ht; exact List.mem_of_mem_drop ht
  obtain ⟨a, q, e1, e2, e3⟩ := turn HK h1 (by rw [pcs_len]; exact hn) hc (fun t ht => by
    obtain ⟨u, hu, rfl⟩ := List.mem_map.1 ht
    exact (hF u (hm u hu)).hp) (by
    rcases hs with hs | ⟨x, y, hx, hy, hxy⟩
    · exact .inl (by rw [pcs_len]; exact hs)
    · exact .inr ⟨x.ct, y.ct, pcs_get hx, pcs_get hy, hxy⟩)
  refine ⟨a, q, ⟨by rw [pcs_take]; exact e1, e2, by rw [pcs_drop]; exact e3, by rw [List.length_take]; omega, fun t ht => hm t (List.mem_of_mem_take ht), ?_⟩⟩
  have q1 := wgt_cut (pcs rs) n
  have q2 := wgt_cut (pcs l) j
  rw [← pcs_drop, ← hD] at q2
  rw [pcs_take]
  omega
set_option maxHeartbeats 4000000 in
set_option maxRecDepth 100000 in
theorem joined_of (r : Rw Pt) (w : World) (B H0 : Nat) (hH : H0 ≤ w.heap.size) (hQ : RdQ w (fun b => b < w.heap.size) 1 PtC r) (hP : ∀ t ∈ r.l, RpP w (fun b => B ≤ b ∧ b < H0) t) (hF : ∀ t ∈ r.l, Ful HK t.ct) (hw : wgt (pcs r.l) ≤ 200000)
    (KC : Hid (∀ (q : Rw Pt) (a : Sx Hd) (s : List (Sx Hd)) (n : Nat) W, Below w.heap.size w W → RdQ W (fun b => b < w.heap.size) 1 PtC q → (∀ t ∈ q.l, t ∈ r.l) → q.l.length = n → pcs q.l = a :: s → run HK a s → wgt (pcs q.l) ≤ wgt (pcs r.l) → Calls Try.prog 26 #[.slice q.A n q.c] W (NewC B H0 (cmb HK a s) W))) :
    Calls Try.prog 21 #[.slice r.A r.l.length r.c] w (NewJ B H0 (norm HK (pcs r.l)) w) := by
  obtain ⟨i0, hi, iz, is, ib⟩ := info_parts zpInfo
  have hlen : r.l.length ≤ 200000 := by
    have := wgt_len (pcs r.l)
    rw [pcs_len] at this
    omega
  have HQ := Lib.hid hQ
  have HP := Lib.hid hP
  have HF := Lib.hid hF
  clear hQ hP hF hw
  obtain ⟨A, c, l⟩ := r
  simp only at KC HQ HP HF hlen ⊢
  go_enter Try.func21, Try.ntmps21
  go_wp2
  go_loopw [0, 3] (fun lv v wr => ∃ (j : Nat) (A' : Option Addr) (c' : Nat) (rs : List Pt) (L : List Zt) (A2 : Option Addr) (c2 : Nat), lv = .slice A' rs.length c' ∧ v = .slice A2 L.length c2 ∧ Hid (rs = l.drop j) ∧ j + rs.length ≤ 200000 ∧ L.length ≤ j ∧ Hid (RdQ w (fun b => b < w.heap.size) 1 PtC ⟨A', c', rs⟩) ∧ Hid (cts L ++ norm HK (pcs rs) = norm HK (pcs l)) ∧ Hid (wr.ownsRow w.heap.size 38 12 (.slice A2 L.length c2) L.length (zsC L)) ∧ Hid (∀ y ∈ L, RzP wr (Oq B H0 w.heap.size wr (.slice A2 L.length c2)) y) ∧ Below w.heap.size w wr) (fun lv _ _ => lenV lv)
  case atStart => exact ⟨0, A, c, l, [], none, 0, rfl, rfl, Lib.hid rfl, by omega, by simp, HQ, Lib.hid rfl, Lib.hid (World.ownsRow_nil _ _ _ _), Lib.hid (by simp), (by repeat (first | (with_reducible exact Below.refl _ _) | (with_reducible assumption) | (with_reducible exact bel_box _) | (with_reducible refine bel_step ?_ (by with_reducible assumption)) | (with_reducible refine Below.drew ?_) | (with_reducible refine below_drewN ?_ _) | (with_reducible refine bel_alloc ?_ _)))⟩
  case round =>
    obtain ⟨j, A', c', rs, L, A2, c2, rfl, rfl, HD, hj, hL, HR, HC, HO, HE, hbl⟩ := hrel
    clear HQ
    by_cases hrs : 0 < rs.length
    · have d0 : (0 : Int) < (rs.length : Int) := by omega
      obtain ⟨ad, hA, had⟩ := HR.out.1 (by intro e; have e : rs = [] := e; rw [e] at hrs; simp at hrs)
      simp only at hA
      subst hA
      obtain ⟨wo, rfl⟩ : ∃ wo, wo = wr := ⟨_, rfl⟩
      go_wp2
      go_loopw [4] (fun nv W => ∃ n : Nat, nv = .int .i64 (n : Int) ∧ 1 ≤ n ∧ n ≤ rs.length ∧ Hid (Chn HK (pcs rs) n) ∧ Below wo.heap.size wo W) (fun nv _ => rs.length - (intOf nv).toNat)
      case atStart => exact ⟨1, rfl, by omega, by omega, Lib.hid (chn_one _ _), (by repeat (first | (with_reducible exact Below.refl _ _) | (with_reducible assumption) | (with_reducible exact bel_box _) | (with_reducible refine bel_step ?_ (by with_reducible assumption)) | (with_reducible refine Below.drew ?_) | (with_reducible refine below_drewN ?_ _) | (with_reducible refine bel_alloc ?_ _)))⟩
      case round =>
        obtain ⟨n, rfl, hn1, hn2, HCh, hbi⟩ := hrel
        by_cases hlt : n < rs.length
        · have d1 : (n : Int) < (rs.length : Int) := by omega
          obtain ⟨m, hm⟩ : ∃ m, n = m + 1 := ⟨n - 1, by omega⟩
          have hx : rs[m]? = some rs[m] := List.getElem?_eq_getElem (by omega)
          have hy : rs[n]? = some rs[n] := List.getElem?_eq_getElem hlt
          generalize rs[m] = x at hx
          generalize rs[n] = y at hy
          have hbw0 : Below w.heap.size w wr := (by repeat (first | (with_reducible exact Below.refl _ _) | (with_reducible assumption) | (with_reducible exact bel_box _) | (with_reducible refine bel_step ?_ (by with_reducible assumption)) | (with_reducible refine Below.drew ?_) | (with_reducible refine below_drewN ?_ _) | (with_reducible refine bel_alloc ?_ _)))
          have cx : wr.cell? (ad.add (m * 1)) = some (.pointer (some ⟨x.p, 0, none⟩)) := (hbw0.cell (by rw [add_block]; exact had)).trans (HR.out.2.1 ad m x rfl hx)
          have cy : wr.cell? (ad.add (n * 1)) = some (.pointer (some ⟨y.p, 0, none⟩)) := (hbw0.cell (by rw [add_block]; exact had)).trans (HR.out.2.1 ad n y rfl hy)
          rw [Nat.mul_one] at cx cy
          have hxl : x ∈ l := by have h1 := List.mem_of_getElem? hx; rw [HD.out] at h1; exact List.mem_of_mem_drop h1
          have hyl : y ∈ l := by have h1 := List.mem_of_getElem? hy; rw [HD.out] at h1; exact List.mem_of_mem_drop h1
          have px := (HP.out x hxl).of
          have py := (HP.out y hyl).of
          have KX : ∀ W, Below w.heap.size w W → Calls Try.prog 25 #[.pointer (some ⟨x.p, 0, none⟩), .pointer (some ⟨y.p, 0, none⟩)] W (Bel (.bool (joinsB x y)) W) := fun W hb => joins_any x y W (px.2.1.keep fun p hp => hb.cell (by rw [hp]; have := px.1.2; omega)) (py.2.1.keep fun p hp => hb.cell (by rw [hp]; have := py.1.2; omega)) (by have := px.2.2.2.1.2.2.1; unfold maxLen at this; omega) (by have := py.2.2.2.1.2.2.1; unfold maxLen at this; omega)
          have hje := joinsB_eq (a := x) (b := y) (fun h => (px.2.2.2.2.2.2.1 h).2)
          have hx' : rs[n - 1]? = some x := by rw [hm]; exact hx
          have HX0 := Lib.hid (And.intro hx' (And.intro hy hje))
          have hsub : IntKind.i64.wrap ((n : Int) - 1) = (m : Int) := by rw [Go.IntWalk.i64_in _ ⟨by omega, by omega⟩]; omega
          have hmr : m < rs.length := by omega
          have HM := Lib.hid hm
          have f0 := cell_regrown cx
          have f1 := cell_regrown cy
          obtain ⟨V, hV⟩ : ∃ V, joinsB x y = V := ⟨_, rfl⟩
          rw [hV] at KX
          have c1' := fun dd os => Calls.regrown_of (KX (grow (redrawn wr dd) os) (hbw0.trans ((below_regrown wr dd os).mono hbw0.size)))
          have HJ2 := Lib.hid hV
          clear px py hxl hyl hx hy hje hbw0 hm hx' cx cy KX hV
          go_wp2
          refine wp_region_quiet_below (by kernel_rfl) (by kernel_rfl) ?_
          repeat (quiet_step (with_reducible exact c1' _ _))
          refine wpQuiet_nil ?_
          intro _ hw'
          obtain ⟨⟨dq, osq⟩, hw''⟩ := hw'
          subst hw''
          have hbi2 : Below wo.heap.size wo (grow (redrawn wr dq) osq) := hbi.trans ((below_regrown wr dq osq).mono hbi.size)
          clear c1' f0 f1 hbi
          generalize grow (redrawn wr dq) osq = wi at hbi2 ⊢
          cases V
          case false =>
            have hsx : ∃ x y : Pt, rs[n - 1]? = some x ∧ rs[n]? = some y ∧ mate HK x.ct y.ct = false := ⟨x, y, HX0.out.1, HX0.out.2.1, by rw [← HX0.out.2.2]; exact HJ2.out⟩
            have HSX := Lib.hid hsx
            clear hsx hsub HX0
            obtain ⟨a, q, ht⟩ := tn_of HD.out hn1 hn2 HCh.out HF.out (.inr HSX.out)
            have hbw : Below w.heap.size w wi := (by repeat (first | (with_reducible exact Below.refl _ _) | (with_reducible assumption) | (with_reducible exact bel_box _) | (with_reducible refine bel_step ?_ (by with_reducible assumption)) | (with_reducible refine Below.drew ?_) | (with_reducible refine below_drewN ?_ _) | (with_reducible refine bel_alloc ?_ _)))
            have hrd : RdQ wi (fun b => b < w.heap.size) 1 PtC ⟨some ad, c', rs.take n⟩ := (HR.out.take n).keep oneB_Pt fun p hp => hbw.cell hp
            have K1 := KC.out ⟨some ad, c', rs.take n⟩ a q n wi hbw hrd ht.mm ht.ln ht.tk ht.rn ht.wl
            have KK := Lib.hid K1
            have hcap : n ≤ c' := by have h1 : rs.length ≤ c' := HR.out.2.2.2; omega
            have HTN := Lib.hid ht
            have HDR := Lib.hid (HR.out.drop n)
            clear K1 hrd ht KC HP HF
            have hkl : (L.length + 1) * 176 ≤ 140737488355328 := by omega
            go_wp2_with (first | (go_at_call 26; (with_reducible refine (KK.out).mono ?_); rintro e w6 ⟨x, rfl, hxc, hxr, hb6⟩; have HX := Lib.hid (And.intro hxc hxr); clear hxc hxr) | (at_builtin; (refine wpList_append_own_at _ rfl _ _ 22 rfl w.heap.size 38 i0 z0 12 176 Try.underlying22 hi iz is ib rfl (by decide) _ L.length (zsC L) rfl (own_keepZ HO.out ?_) ⟨w6.heap.size, 0, none⟩ 1 1 (zCs x) rfl rfl (rowZ w6 x _) (z_one x) (by unfold maxLen; omega) (by omega) ?_ ?_; (focus ((repeat (first | (with_reducible exact Below.refl _ _) | (with_reducible assumption) | (with_reducible exact bel_box _) | (with_reducible refine bel_step ?_ (by with_reducible assumption)) | (with_reducible refine Below.drew ?_) | (with_reducible refine below_drewN ?_ _) | (with_reducible refine bel_alloc ?_ _))); done)); (focus (have h1 := hb6.size; have h2 := hbl.size; have h3 := hbw.size; simp at h1 ⊢; omega)); intro v3 w3 hown3 hgrow3 _ hat3; obtain ⟨A3, c3', rfl⟩ := own_formZ hown3)))
            all_goals
              have hb6' : Below wo.heap.size wo w6 := (by repeat (first | (with_reducible exact Below.refl _ _) | (with_reducible assumption) | (with_reducible exact bel_box _) | (with_reducible refine bel_step ?_ (by with_reducible assumption)) | (with_reducible refine Below.drew ?_) | (with_reducible refine below_drewN ?_ _) | (with_reducible refine bel_alloc ?_ _)))
              obtain ⟨s1, s2, s3, s4, s5⟩ := oq_step (B := B) (H0 := H0) hH hbl.size HO.out hb6' hgrow3 hat3
              have e1 : zsC L ++ zCs x = zsC (L ++ [x]) := by rw [zsC_app, zsC_one]
              rw [e1] at hown3
              have hl1 : (L ++ [x]).length = L.length + 1 := by simp
              rw [← hl1] at hown3
              have hdl : (rs.drop n).length = rs.length - n := List.length_drop
              have hrdn : RdQ w (fun b => b < w.heap.size) 1 PtC ⟨if c' = n then some ad else some (ad.add n), c' - n, rs.drop n⟩ := by
                by_cases e : c' = n
                · have h1 : rs.length ≤ c' := HR.out.2.2.2
                  have h2 : rs.drop n = [] := List.drop_eq_nil_of_le (by omega)
                  rw [h2]
                  exact RdQ.none_
                · rw [if_neg e]
                  exact HDR.out
              refine ⟨⟨j + n, _, _, rs.drop n, L ++ [x], A3, c3', by rw [hdl], by rw [hl1], Lib.hid (by rw [HD.out, List.drop_drop]), by rw [hdl]; omega, by rw [hl1]; omega, Lib.hid hrdn, Lib.hid ?_, Lib.hid hown3, Lib.hid fun y hy => ?_, hbl.trans s5⟩, by show rs.length - n < rs.length; omega⟩
              · rw [← HC.out, HTN.out.nm, ← HX.out.1]
                simp [cts]
              · rw [hl1]
                rcases List.mem_append.1 hy with hy | hy
                · exact (HE.out y hy).keep s1 s2
                · obtain rfl : y = x := by simpa using hy
                  have hsz := hbi2.size
                  exact HX.out.2.keep (fun b hb => s3 b (hb.imp id fun ⟨q1, q2⟩ => ⟨by omega, q2⟩)) fun p hp => s4 p (hp.imp id fun ⟨q1, q2⟩ => ⟨by omega, q2⟩)
          case true =>
            go_wp2
            go_roundw
            case rel => exact ⟨n + 1, by go_num, by omega, by omega, Lib.hid (chn_step HK HCh.out (pcs_get HX0.out.1) (pcs_get HX0.out.2.1) (by rw [← HX0.out.2.2]; exact HJ2.out)), hbi2⟩
            case measure => simp [intOf]; omega
        · have HNN : Hid (n = rs.length) := Lib.hid (by omega)
          have d1 : decide (n < rs.length) = false := decide_eq_false (by omega)
          clear hlt
          go_wp2
          go_quiet (fail)
          have hbi2 : Below wo.heap.size wo (wr.drewN nq) := below_drewN hbi nq
          clear hbi
          generalize wr.drewN nq = wi at hbi2 ⊢
          obtain ⟨a, q, ht⟩ := tn_of HD.out hn1 hn2 HCh.out HF.out (.inl HNN.out)
          have hbw : Below w.heap.size w wi := (by repeat (first | (with_reducible exact Below.refl _ _) | (with_reducible assumption) | (with_reducible exact bel_box _) | (with_reducible refine bel_step ?_ (by with_reducible assumption)) | (with_reducible refine Below.drew ?_) | (with_reducible refine below_drewN ?_ _) | (with_reducible refine bel_alloc ?_ _)))
          have hrd : RdQ wi (fun b => b < w.heap.size) 1 PtC ⟨some ad, c', rs.take n⟩ := (HR.out.take n).keep oneB_Pt fun p hp => hbw.cell hp
          have K1 := KC.out ⟨some ad, c', rs.take n⟩ a q n wi hbw hrd ht.mm ht.ln ht.tk ht.rn ht.wl
          have KK := Lib.hid K1
          have hcap : n ≤ c' := by have h1 : rs.length ≤ c' := HR.out.2.2.2; omega
          have HTN := Lib.hid ht
          have HDR := Lib.hid (HR.out.drop n)
          clear K1 hrd ht KC HP HF
          have hkl : (L.length + 1) * 176 ≤ 140737488355328 := by omega
          go_wp2_with (first | (go_at_call 26; (with_reducible refine (KK.out).mono ?_); rintro e w6 ⟨x, rfl, hxc, hxr, hb6⟩; have HX := Lib.hid (And.intro hxc hxr); clear hxc hxr) | (at_builtin; (refine wpList_append_own_at _ rfl _ _ 22 rfl w.heap.size 38 i0 z0 12 176 Try.underlying22 hi iz is ib rfl (by decide) _ L.length (zsC L) rfl (own_keepZ HO.out ?_) ⟨w6.heap.size, 0, none⟩ 1 1 (zCs x) rfl rfl (rowZ w6 x _) (z_one x) (by unfold maxLen; omega) (by omega) ?_ ?_; (focus ((repeat (first | (with_reducible exact Below.refl _ _) | (with_reducible assumption) | (with_reducible exact bel_box _) | (with_reducible refine bel_step ?_ (by with_reducible assumption)) | (with_reducible refine Below.drew ?_) | (with_reducible refine below_drewN ?_ _) | (with_reducible refine bel_alloc ?_ _))); done)); (focus (have h1 := hb6.size; have h2 := hbl.size; have h3 := hbw.size; simp at h1 ⊢; omega)); intro v3 w3 hown3 hgrow3 _ hat3; obtain ⟨A3, c3', rfl⟩ := own_formZ hown3)))
          all_goals
            have hb6' : Below wo.heap.size wo w6 := (by repeat (first | (with_reducible exact Below.refl _ _) | (with_reducible assumption) | (with_reducible exact bel_box _) | (with_reducible refine bel_step ?_ (by with_reducible assumption)) | (with_reducible refine Below.drew ?_) | (with_reducible refine below_drewN ?_ _) | (with_reducible refine bel_alloc ?_ _)))
            obtain ⟨s1, s2, s3, s4, s5⟩ := oq_step (B := B) (H0 := H0) hH hbl.size HO.out hb6' hgrow3 hat3
            have e1 : zsC L ++ zCs x = zsC (L ++ [x]) := by rw [zsC_app, zsC_one]
            rw [e1] at hown3
            have hl1 : (L ++ [x]).length = L.length + 1 := by simp
            rw [← hl1] at hown3
            have hdl : (rs.drop n).length = rs.length - n := List.length_drop
            have hrdn : RdQ w (fun b => b < w.heap.size) 1 PtC ⟨if c' = n then some ad else some (ad.add n), c' - n, rs.drop n⟩ := by
              by_cases e : c' = n
              · have h1 : rs.length ≤ c' := HR.out.2.2.2
                have h2 : rs.drop n = [] := List.drop_eq_nil_of_le (by omega)
                rw [h2]
                exact RdQ.none_
              · rw [if_neg e]
                exact HDR.out
            refine ⟨⟨j + n, _, _, rs.drop n, L ++ [x], A3, c3', by rw [hdl], by rw [hl1], Lib.hid (by rw [HD.out, List.drop_drop]), by rw [hdl]; omega, by rw [hl1]; omega, Lib.hid hrdn, Lib.hid ?_, Lib.hid hown3, Lib.hid fun y hy => ?_, hbl.trans s5⟩, by show rs.length - n < rs.length; omega⟩
            · rw [← HC.out, HTN.out.nm, ← HX.out.1]
              simp [cts]
            · rw [hl1]
              rcases List.mem_append.1 hy with hy | hy
              · exact (HE.out y hy).keep s1 s2
              · obtain rfl : y = x := by simpa using hy
                have hsz := hbi2.size
                exact HX.out.2.keep (fun b hb => s3 b (hb.imp id fun ⟨q1, q2⟩ => ⟨by omega, q2⟩)) fun p hp => s4 p (hp.imp id fun ⟨q1, q2⟩ => ⟨by omega, q2⟩)
    · have hrs0 : rs = [] := List.length_eq_zero_iff.1 (by omega)
      subst hrs0
      have h1 := HC.out
      have h2 : cts L = norm HK (pcs l) := by
        rw [← h1]
        show _ = cts L ++ norm HK []
        exact (List.append_nil _).symm
      have HH := Lib.hid h2
      clear h1 h2 HC HR HD HP HF KC
      go_wp2
      go_ret
      exact ⟨A2, c2, L, rfl, HH.out, HO.out, HE.out, hbl⟩
end fu
end Go.Proofs.Ytjodffbekipnlaa
/- combined of the program: what is wanted of it. -/
namespace Go.Proofs.Ytjodffbekipnlaa
set_option linter.unusedVariables false
set_option linter.unusedSimpArgs false
open Go.RowKit Go.Sort
namespace fu
/-- a box of a statement that can be written -/
structure BF (W : World) (b : Nat) (z : Zt) : Prop where
  bx : BoxZ W b z
  fr : ∀ i, i < 12 → W.frozen? ⟨b, i, none⟩ = false
theorem BF.lt {W : World} {b : Nat} {z : Zt} (h : BF W b z) : b < W.heap.size := World.block_lt_of_cell? W _ h.bx.1
theorem BF.keep {W W' : World} {b : Nat} {z : Zt} (h : BF W b z) (hb : Below W.heap.size W W') : BF W' b z := ⟨h.bx.keep hb, fun i hi => (hb.frozen (p := ⟨b, i, none⟩) h.lt).trans (h.fr i hi)⟩
theorem BF.set {W : World} {b : Nat} {s s' : Zt} (h : BF W b s) (l : List (Nat × Value)) (hl : ∀ p ∈ l, p.1 < 12) (e : ∀ i, i < 12 → lookA l i ((zCs s)[i]?) = (zCs s')[i]?) : BF (sts W b l) b s' := ⟨box_by h.bx hl e, fun i hi => (sts_frozen _ _ _ _).trans (h.fr i hi)⟩
theorem BF.other {W : World} {b c : Nat} {s : Zt} (h : BF W b s) (l : List (Nat × Value)) (hc : b ≠ c) : BF (sts W c l) b s := by
  have k : ∀ i, (sts W c l).cell? ⟨b, i, none⟩ = W.cell? ⟨b, i, none⟩ := fun i => sts_other _ _ _ ⟨b, i, none⟩ hc
  refine ⟨?_, fun i hi => (sts_frozen _ _ _ _).trans (h.fr i hi)⟩
  have h1 := h.bx
  unfold BoxZ at h1 ⊢
  rw [k 0, k 1, k 2, k 3, k 4, k 5, k 6, k 7, k 8, k 9, k 10, k 11]
  exact h1
theorem BF.grown {W W' : World} {b : Nat} {z : Zt} {row : Option Nat} (h : BF W b z) (hg : W.grownBy W' row) (hr : row ≠ some b) : BF W' b z := by
  have hb := hg.block b h.lt (fun e => hr e.symm)
  have k : ∀ i, W'.cell? ⟨b, i, none⟩ = W.cell? ⟨b, i, none⟩ := fun i => World.cell?_of_block (a := ⟨b, i, none⟩) hb
  refine ⟨?_, fun i hi => (World.frozen?_of_block (a := ⟨b, i, none⟩) hb).trans (h.fr i hi)⟩
  have h1 := h.bx
  unfold BoxZ at h1 ⊢
  rw [k 0, k 1, k 2, k 3, k 4, k 5, k 6, k 7, k 8, k 9, k 10, k 11]
  exact h1
/-- a statement with other branches -/
def Zt.wb (z : Zt) (br : Rw (Rw Zt)) : Zt := .mk z.k z.nm z.t z.r z.ou z.ar br
theorem wb_ct (z : Zt) (br : Rw (Rw Zt)) : (z.wb br).ct = .mk z.hd (br.l.map fun b => cts b.l) := by rw [Zt.ct_eq]; rfl
theorem wb_self (z : Zt) (h : z.br = ⟨none, 0, []⟩) : z.wb ⟨none, 0, []⟩ = z := by
  cases z with
  | mk k nm t r ou ar br =>
    have h : br = ⟨none, 0, []⟩ := h
    subst h
    rfl
abbrev zlit : Obj := .cells #[.int .i64 0, .string ⟨#[]⟩, .int .i64 0, .int .i64 0, .int .i64 0, .int .i64 0, .int .i64 0, .string ⟨#[]⟩, .slice none 0 0, .slice none 0 0, .slice none 0 0, .slice none 0 0] 38
/-- the world of combined behind its two boxes -/
abbrev cW (w : World) (z : Zt) : World := (w.alloc zlit).alloc (zB z)
theorem cW_size (w : World) (z : Zt) : (cW w z).heap.size = w.heap.size + 2 := by simp only [World.size_alloc]
theorem cW_low (w : World) (z : Zt) : Below w.heap.size w (cW w z) := (by repeat (first | (with_reducible exact Below.refl _ _) | (with_reducible assumption) | (with_reducible exact bel_box _) | (with_reducible refine bel_step ?_ (by with_reducible assumption)) | (with_reducible refine Below.drew ?_) | (with_reducible refine below_drewN ?_ _) | (with_reducible refine bel_alloc ?_ _)))
theorem cW_res (w : World) (z : Zt) : BF (cW w z) w.heap.size zz := by
  refine ⟨(boxZ_one w zz).keep (bel_box _), fun i hi => ?_⟩
  simp [go_sem]
theorem cW_box (w : World) (z : Zt) : BF (cW w z) (w.heap.size + 1) z := by
  refine ⟨boxZ_two w zlit z, fun i hi => ?_⟩
  simp [go_sem]
section
variable {H : Type} (K : Hk H)
theorem run_mem : ∀ (s : List (Sx H)) (a : Sx H), run K a s → K.c a.h = true → ∀ t ∈ a :: s, K.c t.h = true ∧ t.br.length = a.br.length
  | [], a, _, hc, t, ht => by
    obtain rfl : t = a := by simpa using ht
    exact ⟨hc, rfl⟩
  | b :: s, a, h, hc, t, ht => by
    have hm := mate_parts K h.1
    rcases List.mem_cons.1 ht with rfl | ht
    · exact ⟨hc, rfl⟩
    · have := run_mem s b h.2 hm.2.1 t ht
      exact ⟨this.1, this.2.trans hm.2.2.2.1.symm⟩
/-- the k-th branches, one behind the other -/
def col (k : Nat) (ts : List (Sx H)) : List (Sx H) := (ts.map fun t => t.br.getD k []).flatten
theorem col_snoc (k : Nat) (a : Sx H) (ts : List (Sx H)) : col k (ts ++ [a]) = col k ts ++ a.br.getD k [] := by simp [col]
theorem ful_col {ts : List (Sx H)} (h : ∀ t ∈ ts, Ful K t) (hc : ∀ t ∈ ts, K.c t.h = true) (k : Nat) : ∀ u ∈ col k ts, Ful K u := by
  intro u hu
  unfold col at hu
  rw [List.mem_flatten] at hu
  obtain ⟨b, hb, hu⟩ := hu
  obtain ⟨t, ht, rfl⟩ := List.mem_map.1 hb
  by_cases hk : k < t.br.length
  · have e : t.br.getD k [] = t.br[k] := by simp [List.getD, hk]
    rw [e] at hu
    exact (h t ht).br K (hc t ht) _ (List.getElem_mem hk) u hu
  · have e : t.br.getD k [] = [] := by simp [List.getD, hk]
    rw [e] at hu
    cases hu
end
theorem getD_wgt (bs : List (List (Sx Hd))) (k : Nat) : wgt (bs.getD k []) ≤ sumL wgt bs := by
  by_cases hk : k < bs.length
  · have e : bs.getD k [] = bs[k] := by simp [List.getD, hk]
    rw [e]
    exact sumL_mem wgt (List.getElem_mem hk)
  · have e : bs.getD k [] = [] := by simp [List.getD, hk]
    rw [e]
    exact Nat.zero_le _
theorem wgt_col (k : Nat) : ∀ ts : List (Sx Hd), (∀ t ∈ ts, HK.c t.h = true) → wgt (col k ts) + ts.length ≤ wgt ts
  | [], _ => Nat.le_refl _
  | a :: ts, h => by
    have ih := wgt_col k ts fun t ht => h t (List.mem_cons_of_mem _ ht)
    have e1 : wgt (a :: ts) = wgt1 a + wgt ts := sumL_cons _ _ _
    have e2 : wgt (col k (a :: ts)) = wgt (a.br.getD k []) + wgt (col k ts) := sumL_append _ _ _
    have e3 := wgt_case (h a List.mem_cons_self)
    have e4 := getD_wgt a.br k
    rw [List.length_cons]
    omega
theorem pt_br {t : Pt} (h : t.s.k = 3) : t.ct.br = t.br.l.map fun b => pcs b.l := by rw [Pt.ct_eq, if_pos h]; rfl
theorem pt_c {t : Pt} : HK.c t.ct.h = decide (t.s.k = 3) := by rw [Pt.ct_h]; rfl
theorem pt_getD {t : Pt} {k : Nat} {b : Rw Pt} (h : t.s.k = 3) (hb : t.br.l[k]? = some b) : t.ct.br.getD k [] = pcs b.l := by
  rw [pt_br h]
  simp [List.getD, hb]
theorem pcs_app (x y : List Pt) : pcs (x ++ y) = pcs x ++ pcs y := by simp [pcs]
end fu
end Go.Proofs.Ytjodffbekipnlaa
/- A struct of twelve cells stored into an owned row of statements. -/
namespace Go.Proofs.Ytjodffbekipnlaa
set_option linter.unusedVariables false
set_option linter.unusedSimpArgs false
open Go.RowKit Go.Sort Go.Deep
namespace fu
/-- what stays: all cells of old blocks but those of g -/
def KW (g : Option Nat) (W W' : World) : Prop := W.heap.size ≤ W'.heap.size ∧ ∀ p : Addr, p.block < W.heap.size → some p.block ≠ g → W'.cell? p = W.cell? p ∧ W'.frozen? p = W.frozen? p
theorem KW.of_below {g : Option Nat} {W W' : World} (h : Below W.heap.size W W') : KW g W W' := ⟨h.size, fun p hp _ => ⟨h.cell hp, h.frozen hp⟩⟩
theorem KW.trans {g : Option Nat} {A B C : World} (h : KW g A B) (k : KW g B C) : KW g A C := ⟨Nat.le_trans h.1 k.1, fun p hp hg => by
  obtain ⟨h1, h2⟩ := h.2 p hp hg
  obtain ⟨k1, k2⟩ := k.2 p (Nat.lt_of_lt_of_le hp h.1) hg
  exact ⟨k1.trans h1, k2.trans h2⟩⟩
theorem set12_list (P S : List Value) (m : Nat) (hP : P.length = m) (c0 c1 c2 c3 c4 c5 c6 c7 c8 c9 c10 c11 v0 v1 v2 v3 v4 v5 v6 v7 v8 v9 v10 v11 : Value) :
    (((((((((((((P ++ ([c0, c1, c2, c3, c4, c5, c6, c7, c8, c9, c10, c11] ++ S)).set m v0).set (m + 1) v1).set (m + 2) v2).set (m + 3) v3).set (m + 4) v4).set (m + 5) v5).set (m + 6) v6).set (m + 7) v7).set (m + 8) v8).set (m + 9) v9).set (m + 10) v10).set (m + 11) v11) = P ++ ([v0, v1, v2, v3, v4, v5, v6, v7, v8, v9, v10, v11] ++ S) := by
  subst hP
  simp [List.set_append]
/-- the world behind a struct stored at an address -/
abbrev saZ (W : World) (a : Addr) (z : Zt) : World := (((((((((((W.setCell a (.int .i64 z.k)).setCell ⟨a.block, a.off + 1, none⟩ (.string z.nm)).setCell ⟨a.block, a.off + 2, none⟩ (.int .i64 z.t)).setCell ⟨a.block, a.off + 3, none⟩ (.int .i64 z.r.k)).setCell ⟨a.block, a.off + 4, none⟩ (.int .i64 z.r.op)).setCell ⟨a.block, a.off + 5, none⟩ (.int .i64 z.r.t)).setCell ⟨a.block, a.off + 6, none⟩ (.int .i64 z.r.v)).setCell ⟨a.block, a.off + 7, none⟩ (.string z.r.nm)).setCell ⟨a.block, a.off + 8, none⟩ (.slice z.r.A z.r.ar.length z.r.c)).setCell ⟨a.block, a.off + 9, none⟩ (.slice z.ou.A z.ou.l.length z.ou.c)).setCell ⟨a.block, a.off + 10, none⟩ (.slice z.ar.A z.ar.l.length z.ar.c)).setCell ⟨a.block, a.off + 11, none⟩ (.slice z.br.A z.br.l.length z.br.c)
theorem addZ (g k : Nat) : (⟨g, 0, none⟩ : Addr).add k = ⟨g, k, none⟩ := by
  simp [Addr.add]
  exact fun e => e.symm
theorem rowZ_store {W : World} {base n k g c : Nat} {T : TypeId} {L R : List Zt} {x y : Zt} (h : W.ownsRow base T 12 (.slice (some ⟨g, 0, none⟩) n c) n (zsC (L ++ x :: R))) (hL : L.length = k) :
    (saZ W ((⟨g, 0, none⟩ : Addr).add (k * 12)) y).ownsRow base T 12 (.slice (some ⟨g, 0, none⟩) n c) n (zsC (L ++ y :: R)) ∧ KW (some g) W (saZ W ((⟨g, 0, none⟩ : Addr).add (k * 12)) y) ∧ (saZ W ((⟨g, 0, none⟩ : Addr).add (k * 12)) y).heap.size = W.heap.size := by
  rw [addZ]
  refine ⟨?_, ⟨by simp [World.setCell], fun p hp hg => ?_⟩, by simp [World.setCell]⟩
  · have h1 := ((((((((((((h.stored (k * 12) (.int .i64 y.k)).1.stored (k * 12 + 1) (.string y.nm)).1.stored (k * 12 + 2) (.int .i64 y.t)).1.stored (k * 12 + 3) (.int .i64 y.r.k)).1.stored (k * 12 + 4) (.int .i64 y.r.op)).1.stored (k * 12 + 5) (.int .i64 y.r.t)).1.stored (k * 12 + 6) (.int .i64 y.r.v)).1.stored (k * 12 + 7) (.string y.r.nm)).1.stored (k * 12 + 8) (.slice y.r.A y.r.ar.length y.r.c)).1.stored (k * 12 + 9) (.slice y.ou.A y.ou.l.length y.ou.c)).1.stored (k * 12 + 10) (.slice y.ar.A y.ar.l.length y.ar.c)).1.stored (k * 12 + 11) (.slice y.br.A y.br.l.length y.br.c)).1
    rw [zsC_app, show zsC (x :: R) = zCs x ++ zsC R from rfl, show zCs x = [.int .i64 x.k, .string x.nm, .int .i64 x.t, .int .i64 x.r.k, .int .i64 x.r.op, .int .i64 x.r.t, .int .i64 x.r.v, .string x.r.nm, .slice x.r.A x.r.ar.length x.r.c, .slice x.ou.A x.ou.l.length x.ou.c, .slice x.ar.A x.ar.l.length x.ar.c, .slice x.br.A x.br.l.length x.br.c] from rfl, set12_list _ _ _ (by rw [zsC_length, hL])] at h1
    rw [zsC_app, show zsC (y :: R) = zCs y ++ zsC R from rfl]
    exact h1
  · have z : ∀ {q : Addr} {W : World} {x : Value}, p ≠ q → (W.setCell q x).cell? p = W.cell? p := fun h => World.cell?_setCell_other _ _ _ _ h.symm
    have m : ∀ i, p ≠ ⟨g, i, none⟩ := fun i e => hg (by rw [e])
    refine ⟨?_, by simp only [World.frozen?_setCell]⟩
    rw [z (m _), z (m _), z (m _), z (m _), z (m _), z (m _), z (m _), z (m _), z (m _), z (m _), z (m _), z (m _)]
theorem saZ_below {B : Nat} {w W : World} {a : Addr} (h : Below B w W) (hb : B ≤ a.block) (z : Zt) : Below B w (saZ W a z) :=
  (((((((((((h.setCell (p := a) hb _).setCell (p := ⟨a.block, a.off + 1, none⟩) hb _).setCell (p := ⟨a.block, a.off + 2, none⟩) hb _).setCell (p := ⟨a.block, a.off + 3, none⟩) hb _).setCell (p := ⟨a.block, a.off + 4, none⟩) hb _).setCell (p := ⟨a.block, a.off + 5, none⟩) hb _).setCell (p := ⟨a.block, a.off + 6, none⟩) hb _).setCell (p := ⟨a.block, a.off + 7, none⟩) hb _).setCell (p := ⟨a.block, a.off + 8, none⟩) hb _).setCell (p := ⟨a.block, a.off + 9, none⟩) hb _).setCell (p := ⟨a.block, a.off + 10, none⟩) hb _).setCell (p := ⟨a.block, a.off + 11, none⟩) hb _
/-- a joined list: what is put behind it -/
theorem norm_take {l : List Zt} {k : Nat} {z : Zt} (h : l[k]? = some z) : norm HK (cts (l.take (k + 1))) = app HK (norm HK (cts (l.take k))) (norm1 HK z.ct) := by rw [cts_take h, norm_snoc]
theorem norm1_plain {z : Zt} (h : ¬ z.k = 3) : norm1 HK z.ct = [z.ct] := by
  rw [norm1_eq, Zt.ct_h, if_neg]
  show ¬ decide (z.k = 3) = true
  simpa using h
theorem norm1_case {z : Zt} (h : z.k = 3) : norm1 HK z.ct = if (z.br.l.map fun b => norm HK (cts b.l)).all List.isEmpty then [] else [.mk z.hd (z.br.l.map fun b => norm HK (cts b.l))] := by
  rw [norm1_eq, Zt.ct_h, if_pos, Zt.ct_br, List.map_map]
  · rfl
  · show decide (z.k = 3) = true
    simpa using h
end fu
end Go.Proofs.Ytjodffbekipnlaa
/- What the reference's Join does with one more statement, in plain terms. -/
namespace Go.Proofs.Ytjodffbekipnlaa
set_option linter.unusedVariables false
set_option linter.unusedSimpArgs false
open Go.RowKit Go.Sort Go.Deep
namespace fu
theorem mate_no {a b : Sx Hd} (h : ¬ HK.c b.h = true) : mate HK a b = false := by
  cases hm : mate HK a b
  · rfl
  · exact absurd (mate_parts HK hm).2.1 h
theorem app_plain {x : List (Sx Hd)} {s : Sx Hd} (h : ¬ HK.c s.h = true) : app HK x [s] = x ++ [s] := by
  rcases List.eq_nil_or_concat x with rfl | ⟨y, a, rfl⟩
  · rw [nil_app]; rfl
  · rw [List.concat_eq_append, app_snoc, mate_no h]
    simp
theorem app_first (s : Sx Hd) : app HK [] [s] = [s] := nil_app HK _
theorem app_apart {x : List (Sx Hd)} {a b : Sx Hd} (h : mate HK a b = false) : app HK (x ++ [a]) [b] = (x ++ [a]) ++ [b] := by
  rw [app_snoc, h]
  simp
theorem app_both {x : List (Sx Hd)} {a b : Sx Hd} (h : mate HK a b = true) : app HK (x ++ [a]) [b] = x ++ [both HK a b] := by
  rw [app_snoc, h]
  simp
theorem zip_norm : ∀ {X Y : List (List (Sx Hd))}, (∀ x ∈ X, norm HK x = x) → (∀ y ∈ Y, norm HK y = y) → List.zipWith (app HK) X Y = List.zipWith (fun x y => norm HK (x ++ y)) X Y
  | [], _, _, _ => rfl
  | _ :: _, [], _, _ => rfl
  | x :: X, y :: Y, hX, hY => by
    rw [List.zipWith_cons_cons, List.zipWith_cons_cons, norm_append, hX x List.mem_cons_self, hY y List.mem_cons_self, zip_norm (fun u hu => hX u (List.mem_cons_of_mem _ hu)) fun u hu => hY u (List.mem_cons_of_mem _ hu)]
/-- the branches of what was joined are joined -/
theorem norm_br {l : List (Sx Hd)} {a : Sx Hd} (ha : a ∈ norm HK l) (hc : HK.c a.h = true) : ∀ b ∈ a.br, norm HK b = b := fun b hb => norm_nf HK ((((nf_norm HK l).1 a ha).of HK hc).2 b hb)
/-- two cases put together: the k-th branches joined, one behind the other -/
theorem both_is {l : List (Sx Hd)} {a b : Sx Hd} (ha : a ∈ norm HK l) (hm : mate HK a b = true) (hb : ∀ y ∈ b.br, norm HK y = y) : both HK a b = .mk a.h (List.zipWith (fun x y => norm HK (x ++ y)) a.br b.br) := by
  unfold both
  rw [zip_norm (norm_br ha (mate_parts HK hm).1) hb]
theorem zip_take {α β γ : Type} (f : α → β → γ) {X : List α} {Y : List β} {k : Nat} {x : α} {y : β} (hx : X[k]? = some x) (hy : Y[k]? = some y) : List.zipWith f (X.take (k + 1)) (Y.take (k + 1)) = List.zipWith f (X.take k) (Y.take k) ++ [f x y] := by
  rw [take_succ_of hx, take_succ_of hy, List.zipWith_append]
  · rfl
  · have h1 := (List.getElem?_eq_some_iff.1 hx).1
    have h2 := (List.getElem?_eq_some_iff.1 hy).1
    rw [List.length_take, List.length_take]
    omega
/-- joined statements in a new row: heads below H, branches in blocks of Q or new ones, none of them the row's own -/
def NewJr (H : Nat) (Q : Nat → Prop) (cs : List (Sx Hd)) (w : World) (e : Ending) (w' : World) : Prop := ∃ (A : Option Addr) (c : Nat) (L : List Zt), e = .returned (.slice A L.length c) ∧ cts L = cs ∧ w'.ownsRow w.heap.size 38 12 (.slice A L.length c) L.length (zsC L) ∧ (∀ y ∈ L, RzQ w' H (fun b => Q b ∨ Oth w.heap.size w' (.slice A L.length c) b) y) ∧ Below w.heap.size w w'
end fu
end Go.Proofs.Ytjodffbekipnlaa
/- The frame of a law's row: a call that returns true and leaves the old blocks alone meets the row; arguments that are slices of bools are opened. -/
namespace Go.Proofs.Ytjodffbekipnlaa
set_option linter.unusedVariables false
set_option linter.unusedSimpArgs false
open Go.ChangeShapes Go.WideShapes Go.ChangeAt Go.RowKit Go.Deep
section
variable {H : Type} {enc : TypeId × Value → H} {P : Program}
theorem trodAll_below (hl : laidOutB P = true) {W W' : World} (hb : Below W.heap.size W W') : ∀ {ts : List TypeId} {vs : List Value} {ds : List (DataW H)} {ps : List MemPlace},
    (∀ t ∈ ts, P.readableRec t = true ∧ t < P.types.size) → DataW.TrodAll enc P W 0 (fun _ => true) true ts vs ds ps → (∀ x ∈ ps, x.block < W.heap.size) →
    DataW.TrodAll enc P W' 0 (fun b => decide (b < W.heap.size)) true ts vs ds ps := by
  intro ts
  induction ts with
  | nil => intro vs ds ps _ h _; cases vs <;> cases ds <;> simp_all [DataW.TrodAll]
  | cons t ts ih =>
    intro vs ds ps ht h hlt
    match vs, ds, h with
    | v :: vs, d :: ds, ⟨p, q, h1, h2, e⟩ =>
      subst e
      obtain ⟨hr, hs⟩ := ht t (by simp)
      exact ⟨p, q, Below.trod hl hr hs h1 hb (fun x hx => hlt x (by simp [hx])), ih (fun u hu => ht u (by simp [hu])) h2 (fun x hx => hlt x (by simp [hx])), rfl⟩
theorem law_post {f : Func} {s : ChangeSpec} {W W' : World} {args : Array Value} {ds gs : List (DataW H)} {before : List MemPlace} {tb : TypeId}
    (hW : DataW.Whole enc P f.params.toList s.vars false W args.toList ds gs before) (hv : s.vars = [])
    (hs : (s.fn H (ds ++ gs)).results = [.lit (.bool true)] ∧ (s.fn H (ds ++ gs)).args = ds ∧ (s.fn H (ds ++ gs)).vars = [])
    (hf : f.resultTypes = #[tb]) (htb : P.underlying tb = some .bool) (hl : laidOutB P = true) (hts : ∀ t ∈ f.params.toList, P.readableRec t = true ∧ t < P.types.size)
    (hb : Below W.heap.size W W') : s.post enc P f false true false false W args (.bool true) W' := by
  have hW' := hW
  obtain ⟨p, q, hA, hV, rfl, _, _⟩ := hW
  rw [hv] at hV
  obtain ⟨rfl, rfl⟩ := trodVars_none hV
  refine ⟨ds, [], p ++ [], [], p, [], hW', ?_, ?_, ?_, hb.frame _, fun h => by cases h⟩
  · rw [hs.1, hf]
    exact trodAll_mk1 (shut_bool htb true)
  · rw [hs.2.1]
    exact trodAll_below hl hb hts hA (fun x hx => hW'.lt x (by simp [hx]))
  · rw [hv, hs.2.2]
    rfl
end
end Go.Proofs.Ytjodffbekipnlaa
/- A list of statements that comes in, opened. -/
namespace Go.Proofs.Ytjodffbekipnlaa
set_option linter.unusedVariables false
set_option linter.unusedSimpArgs false
open Go.ChangeShapes Go.WideShapes Go.ChangeAt Go.RowKit Go.Deep Go.WideElems
namespace fu
theorem choose_list' {α : Type} {p : Nat → α → Prop} : ∀ n, (∀ i, i < n → ∃ e, p i e) → ∃ l : List α, l.length = n ∧ ∀ i e, l[i]? = some e → p i e := by
  intro n
  induction n with
  | zero => exact fun _ => ⟨[], rfl, fun i e h => by simp at h⟩
  | succ n ih =>
    intro h
    obtain ⟨l, hl, hp⟩ := ih fun i hi => h i (by omega)
    obtain ⟨e, he⟩ := h n (by omega)
    refine ⟨l ++ [e], by simp [hl], fun i x hx => ?_⟩
    rcases Nat.lt_or_ge i n with hi | hi
    · exact hp i x (by rwa [List.getElem?_append_left (by omega)] at hx)
    · rw [List.getElem?_append_right (by omega)] at hx
      have hi2 : i = n := by
        have := (List.getElem?_eq_some_iff.1 hx).1
        simp at this
        omega
      subst hi2
      rw [hl, Nat.sub_self] at hx
      obtain rfl : e = x := by simpa using hx
      exact he
/-- its rows are as long as what a machine holds -/
def LnB (x : Xt) : Prop := ∀ y ∈ x.list, y.ar.length * 72 ≤ 140737488351232
section
variable {H : Type} {enc : TypeId × Value → H} {P : Program} {w : World} {held : Bool}
theorem mem_wAll' {e : TypeId} {l : List (DataW H)} {d : DataW H} (hd : d ∈ l) : ∀ n ∈ d.weights P e, n ∈ DataW.weightsAll P e l := by
  induction l with
  | nil => cases hd
  | cons a l ih =>
    intro n hn
    rw [DataW.weightsAll]
    rcases List.mem_cons.1 hd with rfl | hd
    · exact List.mem_append_left _ hn
    · exact List.mem_append_right _ (ih hd n hn)
theorem rd_expr {T : TypeId} {f0 f1 f2 f3 f4 f5 : Field} (hT : P.underlying T = some (.struct #[f0, f1, f2, f3, f4, f5])) (ce : P.cellsOf T = 6) (hby : P.bytesOf T = 72)
    (o0 : f0.offset = 0) (o1 : f1.offset = 1) (o2 : f2.offset = 2) (o3 : f3.offset = 3) (o4 : f4.offset = 4) (o5 : f5.offset = 5)
    (c0 : P.cellsOf f0.type = 1) (c1 : P.cellsOf f1.type = 1) (c2 : P.cellsOf f2.type = 1) (c3 : P.cellsOf f3.type = 1) (c4 : P.cellsOf f4.type = 1) (c5 : P.cellsOf f5.type = 1)
    (i0 : P.underlying f0.type = some (.int .i64)) (i1 : P.underlying f1.type = some (.int .i64)) (i2 : P.underlying f2.type = some (.int .i64)) (i3 : P.underlying f3.type = some (.int .i64)) (i4 : P.underlying f4.type = some .string) (i5 : P.underlying f5.type = some (.slice T)) :
    ∀ (fuel : Nat) (cs : List Value) (x : DataW H × List MemPlace), DataW.trod enc P w 0 (fun _ => true) held fuel T cs = some x → (∀ n ∈ x.1.weights P T, n ≤ reachBytes) →
      ∃ e : Xt, cs = [.int .i64 e.k, .int .i64 e.op, .int .i64 e.t, .int .i64 e.v, .string e.nm, .slice e.A e.ar.length e.c] ∧ RdX w w.heap.size e ∧ LnB e := by
  intro fuel
  induction fuel using Nat.strongRecOn with
  | ind fuel ih =>
    intro cs x h hw
    obtain ⟨xs, k, hk, hxy, hlen, hxl, hf⟩ := DataW.trod_struct hT h
    rw [ce] at hlen
    match xs, hxl, cs, hlen with
    | [y0, y1, y2, y3, y4, y5], _, [v0, v1, v2, v3, v4, v5], _ =>
      have g0 := hf 0 f0 rfl
      have g1 := hf 1 f1 rfl
      have g2 := hf 2 f2 rfl
      have g3 := hf 3 f3 rfl
      have g4 := hf 4 f4 rfl
      have g5 := hf 5 f5 rfl
      simp [o0, o1, o2, o3, o4, o5, c0, c1, c2, c3, c4, c5] at g0 g1 g2 g3 g4 g5
      obtain ⟨n0, z0, _⟩ := DataW.trod_int i0 g0
      obtain ⟨n1, z1, _⟩ := DataW.trod_int i1 g1
      obtain ⟨n2, z2, _⟩ := DataW.trod_int i2 g2
      obtain ⟨n3, z3, _⟩ := DataW.trod_int i3 g3
      obtain ⟨s, z4, zy4, hs⟩ := DataW.trod_string i4 g4
      simp only [List.cons.injEq, and_true] at z0 z1 z2 z3 z4
      subst z0; subst z1; subst z2; subst z3; subst z4
      subst hxy
      have hwe : DataW.weights P T (.agg [y0.1, y1.1, y2.1, y3.1, y4.1, y5.1]) = y0.1.weights P f0.type ++ (y1.1.weights P f1.type ++ (y2.1.weights P f2.type ++ (y3.1.weights P f3.type ++ (y4.1.weights P f4.type ++ (y5.1.weights P f5.type ++ []))))) := by
        simp [DataW.weights, DataW.weightsEach, hT]
      have hw4 : ∀ n ∈ y4.1.weights P f4.type, n ≤ reachBytes := fun n hn => hw n (by simp only [List.map_cons, List.map_nil]; rw [hwe]; simp [hn])
      have hw5 : ∀ n ∈ y5.1.weights P f5.type, n ≤ reachBytes := fun n hn => hw n (by simp only [List.map_cons, List.map_nil]; rw [hwe]; simp [hn])
      rcases DataW.trod_slice i5 g5 with ⟨hv, _⟩ | ⟨a, len, cap, elems, rest, n, hkn, hv, hx0, _, hl, hm, hel, hx, _, _⟩
      · simp only [List.cons.injEq, and_true] at hv
        subst hv
        refine ⟨.mk n0 n1 n2 n3 s none 0 [], rfl, .mk _ (fun h => absurd rfl h) (fun ad i y h => by cases h) (fun y h => by cases h) ⟨⟨by simp [Xt.ar], hs⟩, Nat.le_refl _⟩, fun y hy => ?_⟩
        rw [Xt.list_eq] at hy
        obtain rfl := List.mem_singleton.1 (show y ∈ [Xt.mk n0 n1 n2 n3 s none 0 []] from hy)
        exact Nat.zero_le _
      · simp only [List.cons.injEq, and_true] at hv
        subst hv
        have key : ∀ i, i < len → ∃ e : Xt, XC w (a.add (i * 6)) e ∧ RdX w w.heap.size e ∧ LnB e := by
          intro i hi
          have h1 := hx i hi
          rw [ce, List.getElem?_eq_getElem (by omega)] at h1
          obtain ⟨cs', h2, h3⟩ := Option.bind_eq_some_iff.1 h1
          obtain ⟨_, hlen', hcell⟩ := World.cells?_some h2
          obtain ⟨e, he, hR, hN⟩ := ih n (by omega) cs' _ h3 fun m hm => hw5 m (by
            rw [hx0]
            simp only [DataW.weights, i5, List.mem_cons, List.mem_append]
            exact .inr (.inl (mem_wAll' (List.mem_map_of_mem (List.getElem_mem (by omega))) m hm)))
          subst he
          refine ⟨e, ⟨?_, ?_, ?_, ?_, ?_, ?_⟩, hR, hN⟩
          · have := hcell 0 (by decide); rw [add_add] at this; simpa using this
          · have := hcell 1 (by decide); generalize a.add (i * 6) = b at this ⊢; simpa [Addr.add] using this
          · have := hcell 2 (by decide); generalize a.add (i * 6) = b at this ⊢; simpa [Addr.add] using this
          · have := hcell 3 (by decide); generalize a.add (i * 6) = b at this ⊢; simpa [Addr.add] using this
          · have := hcell 4 (by decide); generalize a.add (i * 6) = b at this ⊢; simpa [Addr.add] using this
          · have := hcell 5 (by decide); generalize a.add (i * 6) = b at this ⊢; simpa [Addr.add] using this
        obtain ⟨l, hll, hp⟩ := choose_list' len key
        have hlen72 : (Xt.mk n0 n1 n2 n3 s (some a) cap l).ar.length * 72 ≤ 140737488351232 := by
          show l.length * 72 ≤ 140737488351232
          have h8 := hw5 _ (by
            rw [hx0]
            simp only [DataW.weights, i5, List.mem_cons]
            exact .inl rfl)
          rw [List.length_map, hby] at h8
          unfold reachBytes at h8
          omega
        refine ⟨.mk n0 n1 n2 n3 s (some a) cap l, by rw [show (Xt.mk n0 n1 n2 n3 s (some a) cap l).ar.length = len from hll]; rfl, .mk _ (fun hne => ⟨a, rfl, ?_⟩) (fun ad i y hA hy => ?_) (fun y hy => ?_) ⟨⟨?_, hs⟩, ?_⟩, fun y hy => ?_⟩
        · have hne2 : l ≠ [] := hne
          have h0 : 0 < l.length := List.length_pos_iff.2 hne2
          have := World.block_lt_of_cell? w _ (hp 0 _ (List.getElem?_eq_getElem h0)).1.1
          rwa [add_block] at this
        · obtain rfl : a = ad := Option.some.inj hA
          exact (hp i y hy).1
        · obtain ⟨j, hj⟩ := List.getElem?_of_mem (show y ∈ l from hy)
          exact (hp j y hj).2.1
        · show l.length ≤ maxLen
          omega
        · show l.length ≤ cap
          omega
        · rw [Xt.list_eq] at hy
          rcases List.mem_cons.1 hy with rfl | hy
          · exact hlen72
          · obtain ⟨q, hq, hyq⟩ := List.mem_flatten.1 hy
            obtain ⟨z, hz, rfl⟩ := List.mem_map.1 hq
            obtain ⟨j, hj⟩ := List.getElem?_of_mem (show z ∈ l from hz)
            exact (hp j z hj).2.2 y hyq
/-- whatever comes in at type T is the cells L of a y with R -/
def Opn {H : Type} (enc : TypeId × Value → H) (P : Program) (w : World) (held : Bool) {α : Type} (N : Nat) (T : TypeId) (L : α → List Value) (R : α → Prop) : Prop :=
  ∀ fuel, fuel < N → ∀ (cs : List Value) (x : DataW H × List MemPlace), DataW.trod enc P w 0 (fun _ => true) held fuel T cs = some x → (∀ n ∈ x.1.weights P T, n ≤ reachBytes) → ∃ y : α, cs = L y ∧ R y
abbrev rowL {α : Type} (r : Rw α) : List Value := [.slice r.A r.l.length r.c]
theorem Opn.mono {α : Type} {N M : Nat} {T : TypeId} {L : α → List Value} {R : α → Prop} (h : Opn enc P w held N T L R) (hM : M ≤ N) : Opn enc P w held M T L R := fun fuel hf => h fuel (by omega)
theorem Opn.map {α β : Type} {N : Nat} {T : TypeId} {L : α → List Value} {R : α → Prop} {L' : β → List Value} {S : β → Prop} (h : Opn enc P w held N T L R) (f : α → β) (hL : ∀ y, L y = L' (f y)) (hR : ∀ y, R y → S (f y)) : Opn enc P w held N T L' S := fun fuel hf cs x h1 h2 => by
  obtain ⟨y, hy, hr⟩ := h fuel hf cs x h1 h2
  exact ⟨f y, by rw [hy]; exact hL y, hR y hr⟩
theorem Opn.imp {α : Type} {N : Nat} {T : TypeId} {L : α → List Value} {R S : α → Prop} (h : Opn enc P w held N T L R) (hR : ∀ y, R y → S y) : Opn enc P w held N T L S := h.map (fun y => y) (fun _ => rfl) hR
theorem opn_str {N : Nat} {t : TypeId} (ht : P.underlying t = some .string) : Opn enc P w held N t (fun s : ByteArray => [.string s]) (fun s => s.size ≤ maxLen) := fun _ _ _ _ h _ => by
  obtain ⟨s, z, _, hs⟩ := DataW.trod_string ht h
  exact ⟨s, z, hs⟩
theorem opn_int {N : Nat} {t : TypeId} (ht : P.underlying t = some (.int .i64)) : Opn enc P w held N t (fun n : Int => [.int .i64 n]) (fun _ => True) := fun _ _ _ _ h _ => by
  obtain ⟨n, z, _⟩ := DataW.trod_int ht h
  exact ⟨n, z, trivial⟩
theorem opn_row {α : Type} {N : Nat} {T e : TypeId} {sz : Nat} {C : World → Addr → α → Prop} {L : α → List Value} {R : α → Prop} (ht : P.underlying T = some (.slice e)) (ce : P.cellsOf e = sz) (hby : decide (0 < P.bytesOf e) = true) (hbl : ∀ a y, C w a y → a.block < w.heap.size)
    (hC : ∀ (a : Addr) y, (∀ j u, (L y)[j]? = some u → w.cell? (a.add j) = some u) → C w a y) (he : Opn enc P w held N e L R) :
    Opn enc P w held (N + 1) T rowL (fun (r : Rw α) => (RdR w w.heap.size sz C r ∧ r.l.length ≤ 140737488355328) ∧ ∀ y ∈ r.l, R y) := by
  intro fuel hN cs x h hw
  rcases DataW.trod_slice ht h with ⟨hv, hx⟩ | ⟨a, len, cap, elems, rest, n, hkn, hv, hx0, _, hl, hm2, hel, hx, _, _⟩
  · exact ⟨⟨none, 0, []⟩, hv, ⟨RdR.nil _ _ _ _ _, Nat.zero_le _⟩, (fun y h => by cases h)⟩
  · have hby := of_decide_eq_true hby
    have h9 : len ≤ 140737488355328 := by
      have h8 := hw _ (by
        rw [hx0]
        simp only [DataW.weights, ht, List.mem_cons]
        exact .inl rfl)
      rw [List.length_map] at h8
      unfold reachBytes at h8
      have h7 := Nat.le_mul_of_pos_right (elems.length + (rest.map (·.1)).length) hby
      omega
    have key : ∀ i, i < len → ∃ y : α, C w (a.add (i * sz)) y ∧ R y := by
      intro i hi
      have h1 := hx i hi
      rw [ce, List.getElem?_eq_getElem (by omega)] at h1
      obtain ⟨cs', h2, h3⟩ := Option.bind_eq_some_iff.1 h1
      obtain ⟨_, hlen', hcell⟩ := World.cells?_some h2
      obtain ⟨y, hL, hR⟩ := he n (by omega) cs' _ h3 fun m hm => hw m (by
        rw [hx0]
        simp only [DataW.weights, ht, List.mem_cons, List.mem_append]
        exact .inr (.inl (mem_wAll' (List.mem_map_of_mem (List.getElem_mem (by omega))) m hm)))
      refine ⟨y, hC _ _ fun j u hu => ?_, hR⟩
      rw [← hL] at hu
      have hj := (List.getElem?_eq_some_iff.1 hu).1
      rw [hcell j (by omega)]
      exact hu
    obtain ⟨l, hll, hp⟩ := choose_list' len key
    refine ⟨⟨some a, cap, l⟩, by rw [rowL, hll]; exact hv, ⟨⟨fun hne => ⟨a, rfl, ?_⟩, fun ad i y hA hy => ?_, by simp only; omega, by simp only; omega⟩, by simp only; omega⟩, fun y hy => ?_⟩
    · have h0 : 0 < l.length := List.length_pos_iff.2 hne
      have := hbl _ _ (hp 0 _ (List.getElem?_eq_getElem h0)).1
      rwa [add_block] at this
    · obtain rfl : a = ad := Option.some.inj hA
      exact (hp i y hy).1
    · obtain ⟨j, hj⟩ := List.getElem?_of_mem hy
      exact (hp j y hj).2
theorem opn_seven {α0 α1 α2 α3 α4 α5 α6 : Type} {N : Nat} {T : TypeId} {f0 f1 f2 f3 f4 f5 f6 : Field} {L0 : α0 → List Value} {R0 : α0 → Prop} {L1 : α1 → List Value} {R1 : α1 → Prop} {L2 : α2 → List Value} {R2 : α2 → Prop} {L3 : α3 → List Value} {R3 : α3 → Prop} {L4 : α4 → List Value} {R4 : α4 → Prop} {L5 : α5 → List Value} {R5 : α5 → Prop} {L6 : α6 → List Value} {R6 : α6 → Prop} (hT : P.underlying T = some (.struct #[f0, f1, f2, f3, f4, f5, f6])) (ce : P.cellsOf T = 12) (o0 : f0.offset = 0) (c0 : P.cellsOf f0.type = 1) (o1 : f1.offset = 1) (c1 : P.cellsOf f1.type = 1) (o2 : f2.offset = 2) (c2 : P.cellsOf f2.type = 1) (o3 : f3.offset = 3) (c3 : P.cellsOf f3.type = 6) (o4 : f4.offset = 9) (c4 : P.cellsOf f4.type = 1) (o5 : f5.offset = 10) (c5 : P.cellsOf f5.type = 1) (o6 : f6.offset = 11) (c6 : P.cellsOf f6.type = 1) (p0 : Opn enc P w held N f0.type L0 R0) (p1 : Opn enc P w held N f1.type L1 R1) (p2 : Opn enc P w held N f2.type L2 R2) (p3 : Opn enc P w held N f3.type L3 R3) (p4 : Opn enc P w held N f4.type L4 R4) (p5 : Opn enc P w held N f5.type L5 R5) (p6 : Opn enc P w held N f6.type L6 R6) :
    Opn enc P w held (N + 1) T (fun y : α0 × α1 × α2 × α3 × α4 × α5 × α6 => L0 y.1 ++ L1 y.2.1 ++ L2 y.2.2.1 ++ L3 y.2.2.2.1 ++ L4 y.2.2.2.2.1 ++ L5 y.2.2.2.2.2.1 ++ L6 y.2.2.2.2.2.2) (fun y => R0 y.1 ∧ R1 y.2.1 ∧ R2 y.2.2.1 ∧ R3 y.2.2.2.1 ∧ R4 y.2.2.2.2.1 ∧ R5 y.2.2.2.2.2.1 ∧ R6 y.2.2.2.2.2.2) := by
  intro fuel hN cs x h hw
  obtain ⟨xs, k, hk, hxy, hlen, hxl, hf⟩ := DataW.trod_struct hT h
  rw [ce] at hlen
  match xs, hxl, cs, hlen with
  | [y0, y1, y2, y3, y4, y5, y6], _, [v0, v1, v2, v3, v4, v5, v6, v7, v8, v9, v10, v11], _ =>
    have g0 := hf 0 f0 rfl
    have g1 := hf 1 f1 rfl
    have g2 := hf 2 f2 rfl
    have g3 := hf 3 f3 rfl
    have g4 := hf 4 f4 rfl
    have g5 := hf 5 f5 rfl
    have g6 := hf 6 f6 rfl
    simp [o0, o1, o2, o3, o4, o5, o6, c0, c1, c2, c3, c4, c5, c6] at g0 g1 g2 g3 g4 g5 g6
    have hwe : DataW.weights P T (.agg [y0.1, y1.1, y2.1, y3.1, y4.1, y5.1, y6.1]) = y0.1.weights P f0.type ++ (y1.1.weights P f1.type ++ (y2.1.weights P f2.type ++ (y3.1.weights P f3.type ++ (y4.1.weights P f4.type ++ (y5.1.weights P f5.type ++ (y6.1.weights P f6.type ++ ([]))))))) := by simp [DataW.weights, DataW.weightsEach, hT]
    obtain ⟨a0, z0, r0⟩ := p0 k (by omega) _ _ g0 fun n hn => hw n (by subst hxy; simp only [List.map_cons, List.map_nil]; rw [hwe]; simp [hn])
    obtain ⟨a1, z1, r1⟩ := p1 k (by omega) _ _ g1 fun n hn => hw n (by subst hxy; simp only [List.map_cons, List.map_nil]; rw [hwe]; simp [hn])
    obtain ⟨a2, z2, r2⟩ := p2 k (by omega) _ _ g2 fun n hn => hw n (by subst hxy; simp only [List.map_cons, List.map_nil]; rw [hwe]; simp [hn])
    obtain ⟨a3, z3, r3⟩ := p3 k (by omega) _ _ g3 fun n hn => hw n (by subst hxy; simp only [List.map_cons, List.map_nil]; rw [hwe]; simp [hn])
    obtain ⟨a4, z4, r4⟩ := p4 k (by omega) _ _ g4 fun n hn => hw n (by subst hxy; simp only [List.map_cons, List.map_nil]; rw [hwe]; simp [hn])
    obtain ⟨a5, z5, r5⟩ := p5 k (by omega) _ _ g5 fun n hn => hw n (by subst hxy; simp only [List.map_cons, List.map_nil]; rw [hwe]; simp [hn])
    obtain ⟨a6, z6, r6⟩ := p6 k (by omega) _ _ g6 fun n hn => hw n (by subst hxy; simp only [List.map_cons, List.map_nil]; rw [hwe]; simp [hn])
    refine ⟨⟨a0, a1, a2, a3, a4, a5, a6⟩, ?_, ⟨r0, r1, r2, r3, r4, r5, r6⟩⟩
    show [v0, v1, v2, v3, v4, v5, v6, v7, v8, v9, v10, v11] = L0 a0 ++ L1 a1 ++ L2 a2 ++ L3 a3 ++ L4 a4 ++ L5 a5 ++ L6 a6
    rw [← z0, ← z1, ← z2, ← z3, ← z4, ← z5, ← z6]
    rfl
end
section
variable {H : Type} {enc : TypeId × Value → H} {w : World} {held : Bool}
abbrev xL (e : Xt) : List Value := [.int .i64 e.k, .int .i64 e.op, .int .i64 e.t, .int .i64 e.v, .string e.nm, .slice e.A e.ar.length e.c]
set_option maxRecDepth 100000 in
theorem opn_expr (N : Nat) : Opn enc Try.prog w held N 34 xL (fun x => RsX w w.heap.size x) := fun fuel _ cs x h hw =>
  rd_expr Try.underlying34 (by kernel_rfl) (by kernel_rfl) rfl rfl rfl rfl rfl rfl (by kernel_rfl) (by kernel_rfl) (by kernel_rfl) (by kernel_rfl) (by kernel_rfl) (by kernel_rfl) Try.underlying3 Try.underlying3 Try.underlying3 Try.underlying3 Try.underlying9 Try.underlying32 fuel cs x h hw
theorem ofcX (a : Addr) (y : Xt) (h : ∀ j u, (xL y)[j]? = some u → w.cell? (a.add j) = some u) : XC w a y :=
  ⟨by have := h 0 _ rfl; rwa [add_zero'] at this, by have := h 1 _ rfl; simpa [Addr.add] using this, by have := h 2 _ rfl; simpa [Addr.add] using this, by have := h 3 _ rfl; simpa [Addr.add] using this, by have := h 4 _ rfl; simpa [Addr.add] using this, by have := h 5 _ rfl; simpa [Addr.add] using this⟩
set_option maxRecDepth 100000 in
theorem opn_exprs (N : Nat) : Opn enc Try.prog w held N 32 rowL (fun r => RsXs w w.heap.size r ∧ r.l.length ≤ 140737488355328) :=
  ((opn_row (C := XC) Try.underlying32 (by kernel_rfl) (by kernel_rfl) (fun _ _ h => World.block_lt_of_cell? w _ h.1) ofcX (opn_expr N)).mono (Nat.le_succ _)).imp fun r h => ⟨⟨h.1.1, h.2⟩, h.1.2⟩
theorem ofcB (a : Addr) (y : ByteArray) (h : ∀ j u, [Value.string y][j]? = some u → w.cell? (a.add j) = some u) : BC w a y := by have := h 0 _ rfl; rwa [add_zero'] at this
set_option maxRecDepth 100000 in
theorem opn_texts (N : Nat) : Opn enc Try.prog w held N 35 rowL (fun r => (RsB w w.heap.size r ∧ r.l.length ≤ 140737488355328) ∧ ∀ s ∈ r.l, s.size ≤ maxLen) :=
  (opn_row (C := BC) Try.underlying35 (by kernel_rfl) (by kernel_rfl) (fun _ _ h => World.block_lt_of_cell? w _ h) ofcB (opn_str (N := N) Try.underlying9)).mono (Nat.le_succ _)
abbrev zL (s : Zt) : List Value := [.int .i64 s.k, .string s.nm, .int .i64 s.t, .int .i64 s.r.k, .int .i64 s.r.op, .int .i64 s.r.t, .int .i64 s.r.v, .string s.r.nm, .slice s.r.A s.r.ar.length s.r.c, .slice s.ou.A s.ou.l.length s.ou.c, .slice s.ar.A s.ar.l.length s.ar.c, .slice s.br.A s.br.l.length s.br.c]
theorem ofcZ (a : Addr) (y : Zt) (h : ∀ j u, (zL y)[j]? = some u → w.cell? (a.add j) = some u) : ZC w a y :=
  ⟨by have := h 0 _ rfl; rwa [add_zero'] at this, by have := h 1 _ rfl; simpa [Addr.add] using this, by have := h 2 _ rfl; simpa [Addr.add] using this, by have := h 3 _ rfl; simpa [Addr.add] using this, by have := h 4 _ rfl; simpa [Addr.add] using this, by have := h 5 _ rfl; simpa [Addr.add] using this, by have := h 6 _ rfl; simpa [Addr.add] using this, by have := h 7 _ rfl; simpa [Addr.add] using this, by have := h 8 _ rfl; simpa [Addr.add] using this, by have := h 9 _ rfl; simpa [Addr.add] using this, by have := h 10 _ rfl; simpa [Addr.add] using this, by have := h 11 _ rfl; simpa [Addr.add] using this⟩
theorem ofcA (a : Addr) (y : Rw Zt) (h : ∀ j u, (rowL y)[j]? = some u → w.cell? (a.add j) = some u) : AC w a y := by have := h 0 _ rfl; rwa [add_zero'] at this
/-- a statement that came in -/
def Rz (w : World) (z : Zt) : Prop := RsZ w w.heap.size z ∧ SmZ 140737488355328 z ∧ AllN z.ct
def Ra (w : World) (a : Rw Zt) : Prop := RsL w w.heap.size a ∧ SmL 140737488355328 a.l ∧ ∀ t ∈ cts a.l, AllN t
theorem ra_of {a : Rw Zt} (h : (RdR w w.heap.size 12 ZC a ∧ a.l.length ≤ 140737488355328) ∧ ∀ y ∈ a.l, Rz w y) : Ra w a :=
  ⟨⟨h.1.1, fun t ht => (h.2 t ht).1⟩, ⟨h.1.2, fun t ht => (h.2 t ht).2.1⟩, fun t ht => by
    obtain ⟨z, hz, rfl⟩ := List.mem_map.1 ht
    exact (h.2 z hz).2.2⟩
set_option maxRecDepth 100000 in
theorem opn_list {N : Nat} (h : Opn enc Try.prog w held N 38 zL (Rz w)) : Opn enc Try.prog w held (N + 1) 22 rowL (Ra w) :=
  (opn_row (C := ZC) Try.underlying22 (by kernel_rfl) (by kernel_rfl) (fun _ _ h => World.block_lt_of_cell? w _ h.1) ofcZ h).imp fun _ h => ra_of h
set_option maxRecDepth 100000 in
theorem opn_lists {N : Nat} (h : Opn enc Try.prog w held N 38 zL (Rz w)) : Opn enc Try.prog w held N 36 rowL (fun r => (RdR w w.heap.size 1 AC r ∧ r.l.length ≤ 140737488355328) ∧ ∀ a ∈ r.l, Ra w a) :=
  (opn_row (C := AC) Try.underlying36 (by kernel_rfl) (by kernel_rfl) (fun _ _ h => World.block_lt_of_cell? w _ h) ofcA (opn_list h)).mono (by omega)
theorem toList_len (s : ByteArray) : s.toList.length = s.size := by
  rw [ByteArray.toList_eq]
  exact Array.length_toList
theorem rz_of {y : Int × ByteArray × Int × Xt × Rw ByteArray × Rw Xt × Rw (Rw Zt)} (h : True ∧ y.2.1.size ≤ maxLen ∧ True ∧ RsX w w.heap.size y.2.2.2.1 ∧ ((RsB w w.heap.size y.2.2.2.2.1 ∧ y.2.2.2.2.1.l.length ≤ 140737488355328) ∧ ∀ s ∈ y.2.2.2.2.1.l, s.size ≤ maxLen) ∧ (RsXs w w.heap.size y.2.2.2.2.2.1 ∧ y.2.2.2.2.2.1.l.length ≤ 140737488355328) ∧ ((RdR w w.heap.size 1 AC y.2.2.2.2.2.2 ∧ y.2.2.2.2.2.2.l.length ≤ 140737488355328) ∧ ∀ a ∈ y.2.2.2.2.2.2.l, Ra w a)) :
    Rz w (.mk y.1 y.2.1 y.2.2.1 y.2.2.2.1 y.2.2.2.2.1 y.2.2.2.2.2.1 y.2.2.2.2.2.2) := by
  obtain ⟨k, nm, t, r, ou, ar, br⟩ := y
  obtain ⟨_, h1, _, h2, ⟨⟨h3, h4⟩, h5⟩, ⟨h6, h7⟩, ⟨h8, h9⟩, h10⟩ := h
  refine ⟨.mk _ h2 h3 h6 h8 (fun a ha => (h10 a ha).1.1) (fun a ha => (h10 a ha).1.2), .mk _ h4 h7 h9 (fun a ha => (h10 a ha).2.1.1) (fun a ha => (h10 a ha).2.1.2), .mk _ ?_ fun b hb => ?_⟩
  · rw [Zt.ct_h]
    refine ⟨by show nm.toList.length ≤ maxLen; rw [toList_len]; exact h1, fun s hs => ?_⟩
    obtain ⟨u, hu, rfl⟩ := List.mem_map.1 (show s ∈ ou.l.map ByteArray.toList from hs)
    rw [toList_len]
    exact h5 u hu
  · rw [Zt.ct_br] at hb
    obtain ⟨a, ha, rfl⟩ := List.mem_map.1 (show b ∈ br.l.map fun b => cts b.l from hb)
    exact (h10 a ha).2.2
set_option maxRecDepth 100000 in
theorem opn_stmt (N : Nat) : Opn enc Try.prog w held N 38 zL (Rz w) := by
  induction N with
  | zero => exact fun _ h => absurd h (Nat.not_lt_zero _)
  | succ N ih =>
    exact (opn_seven Try.underlying38 (by kernel_rfl) rfl (by kernel_rfl) rfl (by kernel_rfl) rfl (by kernel_rfl) rfl (by kernel_rfl) rfl (by kernel_rfl) rfl (by kernel_rfl) rfl (by kernel_rfl) (opn_int (N := N) Try.underlying3) (opn_str Try.underlying9) (opn_int Try.underlying3) (opn_expr N) (opn_texts N) (opn_exprs N) (opn_lists ih)).map (fun y => .mk y.1 y.2.1 y.2.2.1 y.2.2.2.1 y.2.2.2.2.1 y.2.2.2.2.2.1 y.2.2.2.2.2.2) (fun _ => rfl) fun y h => rz_of h
set_option maxRecDepth 100000 in
/-- a list of statements, opened -/
theorem open_stmts {b0 : Nat} {r : Reach} {v : Value} {d : DataW H} {p : List MemPlace} (hv : Value.okWide Try.prog w r b0 22 v) (h : DataW.Trod enc Try.prog w 0 (fun _ => true) held 22 v d p) (hsz : ∀ n ∈ d.weights Try.prog 22, n ≤ reachBytes) :
    ∃ a : Rw Zt, v = .slice a.A a.l.length a.c ∧ Ra w a := by
  obtain ⟨A, n, c, rfl⟩ := okWide_slice Try.underlying22 hv
  obtain ⟨fuel, hf⟩ := h
  obtain ⟨a, ha, hR⟩ := opn_list (opn_stmt (fuel + 1)) fuel (by omega) _ _ hf hsz
  exact ⟨a, (List.cons.inj ha).1, hR⟩
end
end fu
end Go.Proofs.Ytjodffbekipnlaa
/- The way through the branches, as the law computes it. -/
namespace Go.Proofs.Ytjodffbekipnlaa
set_option linter.unusedVariables false
set_option linter.unusedSimpArgs false
open Go.RowKit Go.Sort
namespace fu
theorem wgt_take_le (l : List Zt) (k : Nat) : wgt (cts (l.take k)) ≤ wgt (cts l) := by
  rw [show cts (l.take k) = (cts l).take k from List.map_take]
  exact sumL_take_le _ _ _
end fu
end Go.Proofs.Ytjodffbekipnlaa
/- combined of the program: the walk over the branches of cases. -/
namespace Go.Proofs.Ytjodffbekipnlaa
set_option linter.unusedVariables false
set_option linter.unusedSimpArgs false
open Go.RowKit Go.Sort
namespace fu
theorem copy_pts (b : Rw Pt) (wo : World) (hr : RdV (wo.alloc (.cells (madeCells #[.pointer none] b.l.length) 52)) b.A (pC b.l)) (hsz : b.l.length ≤ maxLen) : ∃ W', (Builtin.copy_ #[47, 47] 3 #[.slice (some ⟨wo.heap.size, 0, none⟩) b.l.length b.l.length, .slice b.A b.l.length b.c]).run Try.prog (wo.alloc (.cells (madeCells #[.pointer none] b.l.length) 52)) = .ok (goInt b.l.length) W' ∧ W'.ownsRow wo.heap.size 52 1 (.slice (some ⟨wo.heap.size, 0, none⟩) b.l.length b.l.length) b.l.length (pC b.l) ∧ Below wo.heap.size wo W' := by
  obtain ⟨i1, hi1, iz1, is1, ib1⟩ := info_parts ptInfo
  have hsz1 : (Try.prog.info? 52).map (·.size) = some 1 := by rw [hi1]; show some i1.size = _; rw [is1]
  obtain ⟨A, c, l⟩ := b
  simp only at hr hsz ⊢
  have hg : (wo.alloc (.cells (madeCells #[.pointer none] l.length) 52)).heap[wo.heap.size]? = some (.cells (madeCells #[.pointer none] l.length) 52 (0, 0)) := by
    show (wo.heap.push _)[wo.heap.size]? = _
    exact Array.getElem?_push_size
  rcases l with _ | ⟨x, l⟩
  · refine ⟨_, run_copy_none _ _ _ _ 52 _ _ _ _ _ _ Try.underlying47 hsz1 rfl, ⟨rfl, .inr ⟨_, _, _, rfl, Nat.le_refl _, hg, Nat.le_refl _, hsz, ?_, ?_⟩⟩, bel_box _⟩
    · rw [size_madeCells]; rfl
    · simp [pC]
  · obtain ⟨ad, rfl, hc⟩ := hr (by simp [pC])
    have hrun := run_copy_row (P := Try.prog) _ 47 47 3 52 wo.heap.size 0 (x :: l).length (x :: l).length ad (x :: l).length c _ 52 (pC (x :: l)) Try.underlying47 hsz1 hg (by rw [pC_length]; exact (Nat.min_self _).symm) hc (by rw [pC_length, size_madeCells]; omega) (pC_one _)
    rw [pC_length] at hrun
    refine ⟨_, hrun, ?_, below_setRow (bel_box _) (Nat.le_refl _) _⟩
    have hd : (madeCells #[Value.pointer none] (x :: l).length).toList.drop (0 + (x :: l).length) = [] := List.drop_eq_nil_of_le (by rw [Array.length_toList, size_madeCells]; omega)
    rw [hd, List.take_zero, List.nil_append, List.append_nil]
    refine ⟨by rw [pC_length, Nat.mul_one], .inr ⟨_, _, _, rfl, Nat.le_refl _, setRow_heap _ _ _ _ _ _ hg, Nat.le_refl _, hsz, ?_, ?_⟩⟩
    · rw [List.size_toArray, pC_length, Nat.mul_one]
    · rw [List.take_of_length_le (by rw [pC_length, Nat.mul_one]; exact Nat.le_refl _)]
theorem RzP.of {w : World} {Q : Nat → Prop} {s : Zt} (h : RzP w Q s) : RdP w Q s.r ∧ LnX s.r ∧ RdQ w Q 1 BC s.ou ∧ RdQ w Q 6 XC s.ar ∧ (∀ x ∈ s.ar.l, RdP w Q x ∧ LnX x) ∧ RdQ w Q 1 AC s.br ∧ (∀ a ∈ s.br.l, RdQ w Q 12 ZC a) ∧ ∀ a ∈ s.br.l, ∀ t ∈ a.l, RzP w Q t := by
  cases h with
  | mk s h1 l1 h2 h3 l3 h4 h5 h6 => exact ⟨h1, l1, h2, h3, l3, h4, h5, h6⟩
/-- a statement with other branches, in memory -/
theorem rzp_wb {w W : World} {Q Q' : Nat → Prop} {z : Zt} {br : Rw (Rw Zt)} (h : RzP w Q z) (hQ : ∀ b, Q b → Q' b) (hk : ∀ p : Addr, Q p.block → W.cell? p = w.cell? p) (h4 : RdQ W Q' 1 AC br) (h5 : ∀ a ∈ br.l, RdQ W Q' 12 ZC a) (h6 : ∀ a ∈ br.l, ∀ t ∈ a.l, RzP W Q' t) : RzP W Q' (z.wb br) := by
  obtain ⟨a1, a2, a3, a4, a5, _, _, _⟩ := h.of
  exact .mk _ (a1.keep hQ hk) a2 ((a3.keep oneB_B hk).mono hQ) ((a4.keep oneB_X hk).mono hQ) (fun x hx => ⟨(a5 x hx).1.keep hQ hk, (a5 x hx).2⟩) h4 h5 h6
end fu
end Go.Proofs.Ytjodffbekipnlaa
